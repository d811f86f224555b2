/- The statement FnProofsCardSaid: at every slice of bytes FnProofs answers true, and the slice reads afterwards as before, where the table of the rounds' words is as the program's text lays it (the card ties it). No condition besides the row's own. -/
import Derived.Test.YtbnnfgfjcicjiaaDoorRows
import Derived.Test.YtbnnfgfjcicjiaaDoorCards
import Derived.Test.YtbnnfgfjcicjiaaDoorTie
import Derived.Test.YtbnnfgfjcicjiaaDoorDrawA
import Derived.Test.YtbnnfgfjcicjiaaDoorPairR
import Derived.Test.YtbnnfgfjcicjiaaDoorPairQ
import Derived.Test.YtbnnfgfjcicjiaaDoorRangeX
import Derived.Test.YtbnnfgfjcicjiaaDoorItemS
import Derived.Test.YtbnnfgfjcicjiaaDoorDoor
import Derived.ProofKit
import Derived.OpenShut
import Derived.ShutString
import Derived.ChangeOld
import Derived.Below
namespace Go.Proofs.YtbnnfgfjcicjiaaDoor.fnProofs
open Go.ChangeShapes Go.WideShapes Go.ChangeAt Go.RowKit
open Go.ChangeMaps (open_string shut_string)
set_option linter.unusedVariables false
open Go.Proofs.YtbnnfgfjcicjiaaDoor.base Go.Proofs.YtbnnfgfjcicjiaaDoor.pairs Go.Proofs.YtbnnfgfjcicjiaaDoor.tree Go.Proofs.YtbnnfgfjcicjiaaDoor.range

theorem prove_ok {l : List Pr} {lo hi : ByteArray} (h : pairsOk l = true) : ∃ (t : Nat) (L : List It), prove l lo hi = ⟨(l.length : Int), (t : Int), L⟩ ∧ t + L.length ≤ l.length ∧ l.length ≤ 60 ∧ (∀ k (hk : k < L.length) (hk2 : t + k < l.length), L[k] = (l[t + k], path l (t + k))) ∧ (between lo hi l).length ≤ L.length ∧ L.length ≤ (between lo hi l).length + 2 := by
  have hb := (pairsOk_iff l).1 h
  have hcnt := items_count lo hi l hb.1.2
  have ht := toN_le lo hi l
  have hlen := itemsTo_length l (fromN lo l) (toN lo hi l)
  by_cases hft : fromN lo l < toN lo hi l
  · refine ⟨fromN lo l, itemsTo l (fromN lo l) (toN lo hi l), by unfold prove; rw [if_pos h, if_pos hft], by omega, hb.2, fun k hk hk2 => ?_, by omega, by omega⟩
    simp only [itemsTo, List.getElem_map, List.getElem_range', Nat.one_mul]
    unfold itemAt
    rw [List.getElem?_eq_getElem hk2]
    rfl
  · refine ⟨0, itemsTo l (fromN lo l) (toN lo hi l), by unfold prove; rw [if_pos h, if_neg hft]; rfl, by omega, hb.2, fun k hk hk2 => by omega, by omega, by omega⟩

theorem keep7 {w3 w w' : World} {b1 o1 b2 o2 b3 o3 b4 o4 b5 o5 b6 o6 b7 o7 : Nat} {v1 v2 v3 v4 v5 v6 v7 : Value} (hb : Below w.heap.size w w') (h : (w.cell? ⟨b1, o1, none⟩ = some v1 ∧ w.cell? ⟨b2, o2, none⟩ = some v2 ∧ w.cell? ⟨b3, o3, none⟩ = some v3 ∧ w.cell? ⟨b4, o4, none⟩ = some v4 ∧ w.cell? ⟨b5, o5, none⟩ = some v5 ∧ w.cell? ⟨b6, o6, none⟩ = some v6 ∧ w.cell? ⟨b7, o7, none⟩ = some v7) ∧ Below w3.heap.size w3 w) :
    (w'.cell? ⟨b1, o1, none⟩ = some v1 ∧ w'.cell? ⟨b2, o2, none⟩ = some v2 ∧ w'.cell? ⟨b3, o3, none⟩ = some v3 ∧ w'.cell? ⟨b4, o4, none⟩ = some v4 ∧ w'.cell? ⟨b5, o5, none⟩ = some v5 ∧ w'.cell? ⟨b6, o6, none⟩ = some v6 ∧ w'.cell? ⟨b7, o7, none⟩ = some v7) ∧ Below w3.heap.size w3 w' := by
  have k : ∀ {g o : Nat} {v : Value}, w.cell? ⟨g, o, none⟩ = some v → w'.cell? ⟨g, o, none⟩ = some v := fun {g o v} hv => (hb.cell (p := ⟨g, o, none⟩) (World.block_lt_of_cell? w _ hv)).trans hv
  obtain ⟨⟨h1, h2, h3, h4, h5, h6, h7⟩, h8⟩ := h
  exact ⟨⟨k h1, k h2, k h3, k h4, k h5, k h6, k h7⟩, h8.trans (hb.mono h8.size)⟩
theorem heldS {w3 w' : World} {A : Prop} (h : A ∧ Below w3.heap.size w3 w') : Below w3.heap.size w3 w' := h.2

set_option maxRecDepth 100000 in
set_option maxHeartbeats 4000000 in
theorem walk (a0 : Option Addr) (len0 cap0 : Nat) (b0 : List UInt8) (w : World) (w0 : Sl w a0 len0 b0) (hK : sha.KW w) :
    Calls Tryd.prog 3 #[.slice a0 len0 cap0] w fun e w' => e = .returned (.bool true) ∧ Below w.heap.size w w' := by
  have hm := w0.2.1
  by_cases hbig : 1048576 < len0
  · have hb := big_ a0 len0 cap0 w hm
    rw [decide_eq_true (by omega)] at hb
    have HB := Hid.mk' hb
    clear hb
    go_enter Tryd.func3, Tryd.ntmps3
    go_wp2_with fail
    refine HB.out.mono ?_
    rintro e wa ⟨rfl, rfl⟩
    go_wp2_with fail
    go_ret
    exact ⟨rfl, Below.refl _ _⟩
  · have hb := big_ a0 len0 cap0 w hm
    rw [decide_eq_false (by omega)] at hb
    have HB := Hid.mk' hb
    clear hb
    go_enter Tryd.func3, Tryd.ntmps3
    go_wp2_with fail
    refine HB.out.mono ?_
    rintro e wa ⟨rfl, hwa⟩
    subst hwa
    go_wp2_with fail
    refine (drawProveBetween a0 len0 cap0 b0 _ w0 (by omega)).mono ?_
    rintro e w1 ⟨g, n, cp, l, lo, hi, hn, ht, hlo, hhi, rfl, hO1, hB1⟩
    have hks : ∀ p ∈ l, lim p := fun p hp => ⟨by have := (ht p hp).1; omega, by have := (ht p hp).2; omega⟩
    have hks2 : ∀ p ∈ l, p.1.size ≤ 1099511627776 := fun p hp => by have := (ht p hp).1; omega
    have hln := hO1.1
    subst hln
    have hcs := hO1.cases.1
    have HIP := Hid.mk' (impl_proveBetween g 0 l.length cp l lo hi w1 hO1.sl hcs hks (by omega) (by omega) (hK.below hB1))
    have HSP : Hid (∀ wx, Below w1.heap.size w1 wx → _) := fun wx hx => spec_proveBetween g 0 l.length cp l lo hi wx (hO1.sl.below hx) hcs hks
    have HBT : Hid (∀ wx, Below w1.heap.size w1 wx → _) := fun wx hx => impl_between g 0 l.length cp l lo hi wx (hO1.sl.below hx) hcs (by omega)
    have HPK : Hid (∀ wx, Below w1.heap.size w1 wx → _) := fun wx hx => spec_pairsOk g 0 l.length cp l wx (hO1.sl.below hx) hks2
    have HPA : Hid (∀ (t : Nat) (ht : t ≤ 100) wx, Below w1.heap.size w1 wx → _) := fun t ht wx hx => impl_pathOf g 0 l.length cp l (t : Int) wx (hO1.sl.below hx) hcs hks (WalkArith.wf_i64 (by omega)) (hK.below (hB1.trans (hx.mono hB1.size)))
    have HC := Hid.mk' (fun wx (hx : Below w1.heap.size w1 wx) => (hO1.sl.below hx).cells)
    clear hks hks2 ht hO1 hK
    cases hok : pairsOk l with
    | false =>
      have hp : prove l lo hi = zeroPrf := by unfold prove; rw [hok]; rfl
      rw [hp] at HIP HSP
      rw [hok] at HPK
      simp only [zeroPrf] at HIP HSP
      clear hp hok HPA HC
      go_wp2_with (at_builtin; fail)
      refine HIP.out.mono ?_
      rintro e w2 ⟨ga, gm, gc, hsg, rfl, hOg, hBg⟩
      have hba : Below w2.heap.size w2 (w2.alloc (.cells #[.int .i64 0, .int .i64 0, .slice ga gm gc] 29)) := (Below.refl _ _).alloc (Nat.le_refl _) _
      have hB2 := hBg.trans (hba.mono hBg.size)
      have hvf := v3_new w2 29 (.int .i64 0) (.int .i64 0) (.slice ga gm gc)
      have hgl := hOg.sl.1
      simp only [List.length_nil] at hgl
      subst hgl
      have HVF := Hid.mk' hvf
      have HOG := Hid.mk' (hOg.below hba)
      clear hBg hOg HIP hba hvf
      go_wp2_with (at_builtin; fail)
      refine (HSP.out _ hB2).mono ?_
      rintro e w4 ⟨sa, sm, sc, hss, rfl, hOs, hBs⟩
      have hba : Below w4.heap.size w4 (w4.alloc (.cells #[.int .i64 0, .int .i64 0, .slice sa sm sc] 29)) := (Below.refl _ _).alloc (Nat.le_refl _) _
      have hvw := v3_new w4 29 (.int .i64 0) (.int .i64 0) (.slice sa sm sc)
      have hsl := hOs.sl.1
      simp only [List.length_nil] at hsl
      subst hsl
      have hB4 := hB2.trans (hBs.mono hB2.size)
      have hB5 := hB4.trans (hba.mono hB4.size)
      have hvf5 := (HVF.out.below hBs).below hba
      have p0 := hvf5.c0
      have p1 := hvf5.c1
      have p2 := hvf5.c2
      have q0 := hvw.c0
      have q1 := hvw.c1
      have q2 := hvw.c2
      have HV5 := Hid.mk' hvf5
      have HO5 := Hid.mk' ((HOG.out.below hBs).below hba)
      clear hBs hOs hba hvw hvf5 HSP HVF HOG hB4
      go_wp2_with (at_builtin; fail)
      refine (HBT.out _ hB5).mono ?_
      rintro e w6 ⟨gb, nb, cb, rfl, hOb, hBb⟩
      have hnb := hOb.1
      subst hnb
      have hB6 := hB5.trans (hBb.mono hB5.size)
      have HV6 := Hid.mk' (HV5.out.below hBb)
      have HO6 := Hid.mk' (HO5.out.below hBb)
      clear hOb hBb HV5 HO5 p0 p1 p2 q0 q1 q2 HBT hB5 hB2
      go_wp2_with (at_builtin; fail)
      refine (HPK.out _ hB6).mono ?_
      rintro e w7 ⟨rfl, hB7'⟩
      have hB7 := hB6.trans (hB7'.mono hB6.size)
      have hV7 := HV6.out.below hB7'
      have HO7 := Hid.mk' (HO6.out.below hB7')
      have p0 := hV7.c0
      have p1 := hV7.c1
      have p2 := hV7.c2
      have HV7 := Hid.mk' hV7
      clear hB7' HV6 HO6 hV7 hB6 HPK

      go_wp2_with (at_builtin; fail)
      go_ret
      exact ⟨rfl, hB1.trans (hB7.mono hB1.size)⟩
    | true =>
      obtain ⟨t, L, hp, htl, hl60, hat, hc1, hc2⟩ := prove_ok (lo := lo) (hi := hi) hok
      rw [hp] at HIP HSP
      rw [hok] at HPK
      simp only at HIP HSP
      have HAT := Hid.mk' hat
      clear hp hok hat
      go_wp2_with (at_builtin; fail)
      refine HIP.out.mono ?_
      rintro e w2 ⟨ga, gm, gc, hsg, rfl, hOg, hBg⟩
      have hba : Below w2.heap.size w2 (w2.alloc (.cells #[.int .i64 (l.length : Int), .int .i64 (t : Int), .slice ga gm gc] 29)) := (Below.refl _ _).alloc (Nat.le_refl _) _
      have hB2 := hBg.trans (hba.mono hBg.size)
      have hvf := v3_new w2 29 (.int .i64 (l.length : Int)) (.int .i64 (t : Int)) (.slice ga gm gc)
      have hgl := hOg.sl.1
      try simp only at hgl
      subst hgl
      have HVF := Hid.mk' hvf
      have HOG := Hid.mk' (hOg.below hba)
      clear hBg hOg HIP hba hvf
      go_wp2_with (at_builtin; fail)
      refine (HSP.out _ hB2).mono ?_
      rintro e w4 ⟨sa, sm, sc, hss, rfl, hOs, hBs⟩
      have hba : Below w4.heap.size w4 (w4.alloc (.cells #[.int .i64 (l.length : Int), .int .i64 (t : Int), .slice sa sm sc] 29)) := (Below.refl _ _).alloc (Nat.le_refl _) _
      have hvw := v3_new w4 29 (.int .i64 (l.length : Int)) (.int .i64 (t : Int)) (.slice sa sm sc)
      have hsl := hOs.sl.1
      try simp only at hsl
      subst hsl
      have hB4 := hB2.trans (hBs.mono hB2.size)
      have hB5 := hB4.trans (hba.mono hB4.size)
      have hvf5 := (HVF.out.below hBs).below hba
      have p0 := hvf5.c0
      have p1 := hvf5.c1
      have p2 := hvf5.c2
      have q0 := hvw.c0
      have q1 := hvw.c1
      have q2 := hvw.c2
      have HV5 := Hid.mk' hvf5
      have HO5 := Hid.mk' ((HOG.out.below hBs).below hba)
      clear hBs hOs hba hvw hvf5 HSP HVF HOG hB4
      go_wp2_with (at_builtin; fail)
      refine (HBT.out _ hB5).mono ?_
      rintro e w6 ⟨gb, nb, cb, rfl, hOb, hBb⟩
      have hnb := hOb.1
      subst hnb
      have hB6 := hB5.trans (hBb.mono hB5.size)
      have HV6 := Hid.mk' (HV5.out.below hBb)
      have HO6 := Hid.mk' (HO5.out.below hBb)
      clear hOb hBb HV5 HO5 p0 p1 p2 q0 q1 q2 HBT hB5 hB2
      go_wp2_with (at_builtin; fail)
      refine (HPK.out _ hB6).mono ?_
      rintro e w7 ⟨rfl, hB7'⟩
      have hB7 := hB6.trans (hB7'.mono hB6.size)
      have hV7 := HV6.out.below hB7'
      have HO7 := Hid.mk' (HO6.out.below hB7')
      have p0 := hV7.c0
      have p1 := hV7.c1
      have p2 := hV7.c2
      have HV7 := Hid.mk' hV7
      clear hB7' HV6 HO6 hV7 hB6 HPK

      go_wp2_with (at_builtin; fail)
      obtain ⟨B, hBB⟩ : ∃ B, w1.heap.size = B := ⟨_, rfl⟩
      have hOz : OwnI w7 B (.slice ga L.length gc) L hsg := by rw [← hBB]; exact HO7.out
      go_loopw [9] (fun kv wr => ∃ k : Nat, kv = .int .i64 (k : Int) ∧ k ≤ L.length ∧ V3 wr w2.heap.size 29 (.int .i64 (l.length : Int)) (.int .i64 (t : Int)) (.slice ga L.length gc) ∧ OwnI wr B (.slice ga L.length gc) L hsg ∧ Below w1.heap.size w1 wr) (fun kv _ => L.length - (intOf kv).toNat)
      case atStart => exact ⟨0, rfl, Nat.zero_le _, HV7.out, hOz, hB7⟩
      case round =>
        clear p0 p1 p2 HV7 HO7 hOz hB7
        obtain ⟨k, rfl, hk, hV, hO, hB⟩ := hrel
        have p0 := hV.c0
        have p1 := hV.c1
        have p2 := hV.c2
        by_cases hlt : k < L.length
        · have hki : (k : Int) < (L.length : Int) := by omega
          have htk : t + k < l.length := by omega
          have hit := HAT.out k hlt htk
          obtain ⟨gq, hgq⟩ : ∃ gq, ga = some ⟨gq, 0, none⟩ := by
            rcases hO.shape with ⟨e, _, _⟩ | ⟨gq, cq, e, _, _⟩
            · simp only [Value.slice.injEq] at e; omega
            · simp only [Value.slice.injEq] at e; exact ⟨gq, e.1⟩
          subst hgq
          obtain ⟨i1, i2, i3⟩ := hO.at k hlt
          have hP := hO.paths k hlt
          obtain ⟨yg, yn, yc, hy⟩ : ∃ yg yn yc, (hsg[k]'(by have := hO.len; omega)) = (yg, yn, yc) := ⟨_, _, _, rfl⟩
          simp only [hy] at i3 hP
          have hc := HC.out wr hB (t + k) htk
          obtain ⟨j1, j2⟩ := hc
          rw [Nat.zero_add] at j1 j2
          obtain ⟨tk, htk2⟩ : ∃ tk, t + k = tk := ⟨_, rfl⟩
          have hPA : ∀ I, Hid (I = (t : Int) + (k : Int)) → ∀ wx, Below wr.heap.size wr wx → Calls Tryd.prog 13 #[.slice (some ⟨g, 0, none⟩) l.length cp, .int .i64 I] wx fun e w' => ∃ g' n' cap', e = .returned (.slice (some ⟨g', 0, none⟩) n' cap') ∧ OwnS w' wx.heap.size g' n' cap' L[k].2 ∧ Below wx.heap.size wx w' := fun I hI wx hx => by
            have e := hI.out
            have e2 : I = ((t + k : Nat) : Int) := by omega
            subst e2
            have := HPA.out (t + k) (by omega) wx (hB.trans (hx.mono hB.size))
            have hpi : pathI l ((t + k : Nat) : Int) = L[k].2 := by rw [hit]; unfold pathI; rw [if_pos (by omega), Int.toNat_natCast]
            rw [hpi] at this
            exact this
          obtain ⟨x, hx⟩ : ∃ x, L[k] = x := ⟨_, rfl⟩
          have e1 : l[t + k].1 = x.1.1 := by rw [← hx, hit]
          have e2 : l[t + k].2 = x.1.2 := by rw [← hx, hit]
          rw [e1] at j1
          rw [e2] at j2
          simp only [hx] at hPA i1 i2 hP
          rw [htk2] at j1 j2
          have hti : (t : Int) + (k : Int) = (tk : Int) := by omega
          have htw : IntKind.i64.wrap (tk : Int) = (tk : Int) := by rw [IntKind.wrap_i64]; omega
          have htl2 : (tk : Int) < (l.length : Int) := by omega
          have HPA2 := Hid.mk' hPA
          have HP := Hid.mk' hP
          have HV := Hid.mk' hV
          have HO := Hid.mk' hO
          have hbr : Below wr.heap.size wr wr := Below.refl _ _
          clear hit hPA hP hy hx e1 e2 hV hO htk HAT p0
          go_wp2_with (at_builtin; fail)
          go_region_held3 (fun w' => (w'.cell? ⟨w2.heap.size, 1, none⟩ = some (.int .i64 (t : Int)) ∧ w'.cell? ⟨w2.heap.size, 2, none⟩ = some (.slice (some ⟨gq, 0, none⟩) L.length gc) ∧ w'.cell? ⟨gq, k * 3, none⟩ = some (.string x.1.1) ∧ w'.cell? ⟨gq, k * 3 + 1, none⟩ = some (.string x.1.2) ∧ w'.cell? ⟨gq, k * 3 + 2, none⟩ = some (.slice (some ⟨yg, 0, none⟩) yn yc) ∧ w'.cell? ⟨g, tk * 2, none⟩ = some (.string x.1.1) ∧ w'.cell? ⟨g, tk * 2 + 1, none⟩ = some (.string x.1.2)) ∧ Below wr.heap.size wr w') (first | (exact ⟨⟨p1, p2, i1, i2, i3, j1, j2⟩, hbr.drew⟩) | (exact keep7 hb9 (by assumption)) | (exact keep7 hb8 (by assumption))) (first | (go_at_call 12; have h9 := hb8; refine (draw.sameT _ _ _ _ _ _ x.2 x.2 _ ((HP.out.below (heldS (by assumption))).sl) hO8.sl rfl).mono ?_; rintro e w9 ⟨rfl, hb9⟩) | (go_at_call 13; refine (HPA2.out _ (by show _ = _; omega) _ (heldS (by assumption))).mono ?_; rintro e w8 ⟨g8, n8, c8, rfl, hO8, hb8⟩))
          all_goals
            have hbz := heldS (w3 := wr) (by assumption)
            have HV9 := Hid.mk' (HV.out.below hbz)
            have HO9 := Hid.mk' (HO.out.below hbz)
            have hB9 := hB.trans (hbz.mono hB.size)
            clear hO8 hb8 hb9 HP HPA2 HV HO
            go_wp2_with (at_builtin; fail)
            go_roundw
            case rel => exact ⟨k + 1, by go_num, by omega, HV9.out, HO9.out, hB9⟩
            case measure => simp [intOf]; omega
        · have hki : ¬ (k : Int) < (L.length : Int) := by omega
          have hfin := hB1.trans (hB.mono hB1.size)
          have g1 : ((between lo hi l).length : Int) ≤ (L.length : Int) := by omega
          have g2 : (L.length : Int) ≤ ((between lo hi l).length : Int) + 2 := by omega
          have hll : ((l.length : Int) == (l.length : Int)) = true := by simp
          clear hO hV HC HPA HAT
          generalize (between lo hi l).length = nb at *
          by_cases hh : hi = ⟨#[]⟩
          · subst hh
            go_wp2_with (at_builtin; fail)
            go_ret
            exact ⟨rfl, hfin⟩
          · have hq3 : ¬ hi.toList = [] := fun e => hh (bytes_ext (by rw [← ByteArray.toList_eq]; exact e))
            have hq2 : hi.toList.isEmpty = false := by rw [Bool.eq_false_iff]; intro e; exact hq3 (List.isEmpty_iff.1 e)
            clear hh
            cases h3 : Op.bytesLess hi.toList lo.toList
            all_goals
              go_wp2_with (at_builtin; fail)
              go_ret
              exact ⟨rfl, hfin⟩


set_option maxRecDepth 100000 in
theorem lifted (os : Os) (started : os.Started) (H : Type) (enc : TypeId × Value → H) :
    ReturnsInHanded {} Tryd.checked os 3 .any (fun w args => (Rows.fnProofsSpec.pre enc Tryd.prog Tryd.f3 [] false w args ∧ laidMetH Tryd.prog door.laidD w) ∧ sizedMet enc Tryd.prog Tryd.f3 (OpenSpec.ofChange Rows.fnProofsSpec) false w args)
      (Rows.fnProofsSpec.post enc Tryd.prog Tryd.f3 false true false false) := by
  refine returnsInHanded_of_change_and (C := Tryd.checked) (X := fun w _ => laidMetH Tryd.prog door.laidD w) (fun _ _ _ hh h => h.of_heap hh) door.own started (by kernel_rfl) Tryd.func3
    (ChangeSpec.witness_shaped (enc := enc) (C := Tryd.checked) (os := os) (X := fun w _ => laidMetH Tryd.prog door.laidD w) false (World.laidAll Tryd.prog os door.laidD) #[.slice none 0 0] 70 (World.laidAll_os _ _ _) (World.shaped_of_ZipB (by kernel_rfl) (by kernel_rfl)) (by kernel_rfl) (by kernel_rfl) (by kernel_rfl)
      (by rw [MakeChecks.laidMetH_plain _ _ _ (by kernel_rfl)]; exact laidMet_laidAll _ (by kernel_rfl) (by kernel_rfl))) ?_
  intro W base args ds gs before hval0 hW _ _ hL _
  have hval : ∀ (j : Nat) t v, Tryd.f3.params[j]? = some t → args[j]? = some v → Value.okWide Tryd.prog W .any base t v := hval0
  have hW' := hW
  obtain ⟨p, q, hA0, hV, rfl, hfz, hnd⟩ := hW
  have hA : DataW.TrodAll enc Tryd.prog W 0 (fun _ => true) true Tryd.f3.params.toList args.toList ds p := hA0
  rw [Tryd.params3] at hA hval
  obtain ⟨v0, vs0, d0, ds0, p0, q0, hargs, rfl, rfl, h0, r0⟩ := trodAll_cons hA
  obtain ⟨rfl, rfl, rfl⟩ := trodAll_nil r0
  obtain rfl : args = #[v0] := by cases args; simp_all
  obtain ⟨gv, tv, csv, fv, dv, pv, rfl, _, _, _, _, _⟩ := trodVars_one (show DataW.TrodVars enc Tryd.prog W (fun _ => true) ["loop.example/g00244/impl.roundWords"] gs q from hV)
  obtain ⟨a0, len0, cap0, rfl⟩ := okWide_slice Tryd.underlying22 (hval 0 22 v0 rfl rfl)
  have k0 := h0
  have lt0 : ∀ x ∈ p0, x.block < W.heap.size := by obtain ⟨m, hm⟩ := k0; exact DataW.trod_lt m _ _ _ hm
  obtain ⟨b0, w0⟩ : ∃ bs, Sl W a0 len0 bs := by
    obtain ⟨fuel, hf⟩ := h0
    rcases open_ints Tryd.underlying22 Tryd.underlying5 (by kernel_rfl) hf with ⟨hcs, _⟩ | ⟨x, l, c, zs, hcs, _, hl, hm, hz, _, hcell, hwz⟩
    · simp [Value.cells] at hcs
      obtain ⟨rfl, rfl, rfl⟩ := hcs
      exact ⟨[], sl_nil _ _⟩
    · simp [Value.cells] at hcs
      obtain ⟨rfl, rfl, rfl⟩ := hcs
      exact ⟨_, sl_of_ints hl hm (by simpa using hz) hcell hwz⟩
  clear hA0 hval0
  refine (walk a0 len0 cap0 b0 W w0 (door.words_of_laid hL)).mono fun e W' ⟨he, bel⟩ => ?_
  subst he
  exact ⟨_, rfl, _, _, _, [], _, _, hW', trodAll_mk1 (shut_bool Tryd.underlying4 _), (trodAll_cons_mk (Below.trod door.laidOut (by kernel_rfl) (of_decide_eq_true (by kernel_rfl)) k0 bel lt0) trodAll_mk0), bel.trodVars door.laidOut (by kernel_rfl) hV, bel.frame _, fun h => by cases h⟩

theorem over : Rows.fnProofsRow.holds Tryd.pinned (OpenSpec.ofChange Rows.fnProofsSpec) :=
  OpenClaim.holds_of_wide 3 Tryd.f3 rfl rfl rfl rfl rfl rfl rfl ⟨rfl, rfl, rfl, rfl, rfl⟩ rfl rfl rfl rfl rfl (by kernel_rfl) Tryd.func3 (by kernel_rfl)
    (of_decide_eq_true (by kernel_rfl)) (by unfold Func.isWrapper; first | (rw [if_pos (by decide +kernel)]; kernel_rfl) | (rw [if_neg (by decide +kernel)]; exact ⟨rfl, rfl⟩))
    (fun os started H enc _ => lifted os started H enc)

theorem proved : Rows.FnProofsCardSaid :=
  Claim7.holds_tied_plain_at .later [] [.data] true (true, "5ee2f7e397cb7f7d92f096e124c74496210dbfab494880374f6aebad26a915e6") false
    over (fun _ h => by cases h) (by kernel_rfl) (fun _ h => by cases h) fnProofs_row_tie rfl ⟨rfl, rfl⟩ (by kernel_rfl) rfl
    (fun f fn hf hfn => by
      obtain rfl : f = 3 := Option.some.inj ((show Tryd.prog.funcNamed "loop.example/g00244/laws.FnProofs" = some 3 by kernel_rfl).symm.trans hf) |>.symm
      obtain rfl : fn = Tryd.f3 := (Option.some.inj (Tryd.func3.symm.trans hfn)).symm
      exact ⟨by kernel_rfl, fun j t ht => by
        rw [Tryd.params3] at ht
        have hm : t ∈ [22] := by simpa using Array.mem_of_getElem? ht
        have hall : ([22].all fun u => !Tryd.prog.wantsStandIn u) = true := by kernel_rfl
        exact (show Tryd.prog.wantsStandIn t = false by simpa using List.all_eq_true.1 hall t hm)⟩)
    (by kernel_rfl)
end Go.Proofs.YtbnnfgfjcicjiaaDoor.fnProofs
