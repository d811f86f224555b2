/- The statement FnScannedCardSaid: at every slice of bytes FnScanned answers true, and the slice reads afterwards as before, where the table of the rounds' words and the type of errors are as the program's text lays them (the card ties them). No condition besides the row's own. -/
import Derived.Test.YtooiinicnkhlbaaDoorRows
import Derived.Test.YtooiinicnkhlbaaDoorCards
import Derived.Test.YtooiinicnkhlbaaDoorTie
import Derived.Test.YtooiinicnkhlbaaDoorBund8ay
import Derived.Test.YtooiinicnkhlbaaDoorBund8az
import Derived.Test.YtooiinicnkhlbaaDoorBund8ax
import Derived.Test.YtooiinicnkhlbaaDoorBund8xa
import Derived.Test.YtooiinicnkhlbaaDoorBund8bc
import Derived.Test.YtooiinicnkhlbaaDoorBund8ak
import Derived.ProofKit
import Derived.OpenShut
import Derived.ShutString
import Derived.ChangeOld
import Derived.Below
import Derived.Deep.AppendLies
namespace Go.Proofs.YtooiinicnkhlbaaDoor.fnScanned
open Go.ChangeShapes Go.WideShapes Go.ChangeAt Go.RowKit
open Go.ChangeMaps (open_string shut_string)
set_option linter.unusedVariables false
open Go.Proofs.YtooiinicnkhlbaaDoor.base Go.Proofs.YtooiinicnkhlbaaDoor.pairs Go.Proofs.YtooiinicnkhlbaaDoor.ords Go.Proofs.YtooiinicnkhlbaaDoor.draw Go.Proofs.YtooiinicnkhlbaaDoor.helps Go.Proofs.YtooiinicnkhlbaaDoor.recs Go.Proofs.YtooiinicnkhlbaaDoor.turn Go.Proofs.YtooiinicnkhlbaaDoor.putnum

/-- where the records end -/
def ends (l : List Rc) (k : Nat) : List Int := (List.range (k + 1)).map fun j => ((allBytes (l.take j)).length : Int)
theorem ends_length (l : List Rc) (k : Nat) : (ends l k).length = k + 1 := by simp [ends]
theorem ends_snoc (l : List Rc) (k : Nat) : ends l (k + 1) = ends l k ++ [((allBytes (l.take (k + 1))).length : Int)] := by
  unfold ends
  rw [List.range_succ, List.map_append]; rfl
theorem ends_at (l : List Rc) (k j : Nat) (h : j < (ends l k).length) : (ends l k)[j] = ((allBytes (l.take j)).length : Int) := by simp [ends]
theorem all_take (l : List Rc) (k : Nat) (h : k < l.length) : allBytes (l.take (k + 1)) = allBytes (l.take k) ++ recBytes l[k] := by
  rw [List.take_succ_eq_append_getElem h, allBytes_snoc]
theorem slr_take {w : World} {g n j : Nat} {l : List Rc} (h : SlR w (some ⟨g, 0, none⟩) n l) (hj : j ≤ n) : SlR w (some ⟨g, 0, none⟩) j (l.take j) := by
  obtain ⟨h1, h2, h3, h4⟩ := h
  refine ⟨by simp; omega, by omega, fun x hx => h3 x (List.mem_of_mem_take hx), fun h0 => ?_⟩
  obtain ⟨b, off, ha, hc⟩ := h4 (by omega)
  refine ⟨b, off, ha, fun i hi => ?_⟩
  have hi' : i < l.length := by simp at hi; omega
  have := hc i hi'
  rwa [List.getElem_take]
theorem one_end (l : List Rc) (w : World) (base : Nat) (hb : base ≤ w.heap.size) : OwnZ (w.alloc (.cells #[.int .i64 0] 3)) base w.heap.size 1 1 (ends l 0) :=
  ⟨rfl, rfl, .inr ⟨w.heap.size, 1, _, rfl, hb, heap_alloc_new w _, Nat.le_refl _, by unfold maxLen; omega, rfl, rfl⟩⟩

set_option maxRecDepth 100000 in
set_option maxHeartbeats 4000000 in
theorem walk (a0 : Option Addr) (len0 cap0 : Nat) (b0 : List UInt8) (w : World) (w0 : Sl w a0 len0 b0) (hK : KR w) :
    Calls Tryd.prog 5 #[.slice a0 len0 cap0] w fun e w' => e = .returned (.bool true) ∧ Below w.heap.size w w' := by
  obtain ⟨i0, hi, hz0, hz1, hz2⟩ := info_parts info8
  obtain ⟨j0, hj, hy0, hy1, hy2⟩ := info_parts infoZ
  have hm := w0.2.1
  have hb := big_ a0 len0 cap0 w hm
  by_cases hbig : 1048576 < len0
  · rw [decide_eq_true (by omega)] at hb
    have HB := Hid.mk' hb
    clear hb
    go_enter Tryd.func5, Tryd.ntmps5
    go_wp2_with (at_builtin; fail)
    refine HB.out.mono ?_
    rintro e wa ⟨rfl, rfl⟩
    go_wp2_with (at_builtin; fail)
    go_ret
    exact ⟨rfl, Below.refl _ _⟩
  rw [decide_eq_false (by omega)] at hb
  have HB := Hid.mk' hb
  clear hb
  go_enter Tryd.func5, Tryd.ntmps5
  go_wp2_with (at_builtin; fail)
  refine HB.out.mono ?_
  rintro e wa ⟨rfl, hwa⟩
  subst hwa
  clear HB
  go_wp2_with (at_builtin; fail)
  refine (drawRecs a0 len0 cap0 b0 _ w0 (by omega)).mono ?_
  rintro e w1 ⟨l, g, cp, hs, hl5, hall, rfl, hO1, hB1⟩
  have HKW : Hid (∀ wx, Below w1.heap.size w1 wx → KR wx) := fun wx hx => (hK.below hB1).below hx
  have hSR := hO1.sl
  have hroom := hO1.room
  have hOm := own_made w1 w1.heap.size (Nat.le_refl _)
  have hba : Below w1.heap.size w1 (w1.alloc (.cells #[] 5)) := (Below.refl _ _).alloc (Nat.le_refl _) _
  have hsa : (w1.alloc (.cells #[] 5)).heap.size = w1.heap.size + 1 := by simp
  have hOe := one_end l (w1.alloc (.cells #[] 5)) w1.heap.size hba.size
  have hbb := (Below.refl _ (w1.alloc (.cells #[] 5))).alloc (Nat.le_refl _) (.cells #[.int .i64 0] 3)
  have hOm2 := hOm.below hbb
  have hB2 := hba.trans (hbb.mono hba.size)
  rw [hsa] at hOe
  have HALL := Hid.mk' hall
  clear hO1 hall hOm hba hbb hsa
  go_wp2_with (at_builtin; fail)
  go_loopw [4, 5, 6] (fun bv ev iv wr => ∃ (k gb nb cb ge ce : Nat), k ≤ l.length ∧ nb ≤ 419 * k ∧ bv = .slice (some ⟨gb, 0, none⟩) nb cb ∧ ev = .slice (some ⟨ge, 0, none⟩) (k + 1) ce ∧ iv = .int .i64 (k : Int) ∧ gb ≠ ge ∧ Own wr w1.heap.size gb nb cb (allBytes (l.take k)) ∧ OwnZ wr w1.heap.size ge (k + 1) ce (ends l k) ∧ Below w1.heap.size w1 wr) (fun _ _ iv _ => l.length - (intOf iv).toNat)
  case atStart => exact ⟨0, w1.heap.size, 0, 0, w1.heap.size + 1, 1, Nat.zero_le _, by omega, rfl, rfl, rfl, by omega, hOm2, hOe, hB2⟩
  case round =>
    clear hOm2 hOe hB2
    obtain ⟨k, gb, nb, cb, ge, ce, hk, hnb, rfl, rfl, rfl, hne, hOb, hOe, hB⟩ := hrel
    by_cases hlt : k < l.length
    · have hki : (k : Int) < (l.length : Int) := by omega
      obtain ⟨c1, c2, pa, pl, pc, c3, hSo, _⟩ := (hSR.at k hlt).below hB
      simp only [Nat.zero_add] at c1 c2 c3
      have hrk := HALL.out _ (List.getElem_mem hlt)
      have HPU := Hid.mk' (impl_putRec l[k].1 l[k].2.1 pa pl pc l[k].2.2 wr hSo (recOk_keys hrk) (HKW.out _ hB).1)
      have hpr : putRec (l[k].1, l[k].2.1, l[k].2.2) = recBytes l[k] := by show putRec l[k] = _; unfold putRec; rw [hrk]; rfl
      rw [hpr] at HPU
      have hsr := rec_small l[k]
      have hpos : 4 ≤ (recBytes l[k]).length := by
        have h4 := sum4_length (bodyOf l[k])
        simp only [recBytes, List.length_append]; omega
      have HAT := Hid.mk' (all_take l k hlt)
      have HES := Hid.mk' (ends_snoc l k)
      generalize l[k] = p at *
      clear hpr hrk
      go_wp2_with (at_builtin; fail)
      refine HPU.out.mono ?_
      rintro e w3 ⟨g3, n3, c3', rfl, hO3, hb3⟩
      have hB3 := hB.trans (hb3.mono hB.size)
      have hOb3 := hOb.below hb3
      have hOe3 := hOe.below hb3
      have hn3 := hO3.1
      have HSL := Hid.mk' (sl_cells hO3.sl)
      have hl2 : (byteVals (recBytes p)).length = n3 * 1 := by rw [byteVals_length]; omega
      have hc3 : nb + n3 ≤ maxLen := by unfold maxLen; omega
      have hc4 : (nb + n3) * 1 ≤ 140737488355328 := by omega
      have hm3 : 0 < n3 := by omega
      have hbw := hB3.size
      clear HPU hOb hOe hb3 c1 c2 c3
      go_wp2_with (at_builtin; refine wpList_append_lies _ rfl (.tmp 24) (.tmp 29) 22 rfl w1.heap.size 5 i0 (.int .u8 0) 1 1 Tryd.underlying22 hi hz0 hz1 hz2 rfl (by decide) _ _ _ rfl hOb3.2 ⟨g3, 0, none⟩ n3 c3' (byteVals (recBytes p)) rfl hl2 HSL.out (byteVals_oneCell _) hm3 hc3 hc4 hbw w3.heap.size rfl ?_)
      intro g4 cb4 w4 hown4 hgrow4 hat4 hlt4
      have hgr4 : w3.grownBy w4 (some gb) := hgrow4
      have hO4 := own_lies hOb3.1 hn3 rfl hown4
      rw [← HAT.out] at hO4
      have hOe4 := hOe3.grown hgr4 (by intro e; exact hne (Option.some.inj e).symm)
      have hB4 := hB3.grown hgr4 hbw (fun j e => by cases e; exact hOb3.lt.1)
      have hne4 : g4 ≠ ge := by
        rcases hat4 with e | e
        · have e2 : gb = g4 := by simpa [Value.ownBlock] using e
          rw [← e2]; exact hne
        · have := hOe3.lt; omega
      have hn4 := hO4.1
      have hN9 : nb + n3 ≤ 419 * (k + 1) := by omega
      generalize nb + n3 = N at *
      have hsa : (w4.alloc (.cells #[.int .i64 (N : Int)] 3)).heap.size = w4.heap.size + 1 := by simp
      have hba : Below w4.heap.size w4 (w4.alloc (.cells #[.int .i64 (N : Int)] 3)) := (Below.refl _ _).alloc (Nat.le_refl _) _
      have hO5 := hO4.below hba
      have hOe5 := hOe4.below hba
      have hB5 := hB4.trans (hba.mono hB4.size)
      have HC1 := Hid.mk' (one_int_cells w4 (N : Int) 3)
      have hd3 : k + 1 + 1 ≤ maxLen := by unfold maxLen; omega
      have hd4 : (k + 1 + 1) * 8 ≤ 140737488355328 := by omega
      have hbw5 := hB5.size
      clear hown4 hgrow4 hat4 hOb3 hOe3 hO3 HSL hl2 hgr4 hO4 hOe4 hba
      go_wp2_with (at_builtin; refine wpList_append_lies _ rfl (.tmp 31) (.tmp 34) 39 rfl w1.heap.size 3 j0 (.int .i64 0) 1 8 Tryd.underlying39 hj hy0 hy1 hy2 rfl (by decide) _ _ _ rfl hOe5.2 ⟨w4.heap.size, 0, none⟩ 1 1 (intVals [(N : Int)]) rfl rfl HC1.out (intVals_oneCell _) (by decide) hd3 hd4 hbw5 _ rfl ?_)
      intro g6 ce6 w6 hown6 hgrow6 hat6 hlt6
      have hgr6 : (w4.alloc (.cells #[.int .i64 (N : Int)] 3)).grownBy w6 (some ge) := hgrow6
      have hOe6 : OwnZ w6 w1.heap.size g6 (k + 1 + 1) ce6 (ends l (k + 1)) := by
        rw [HES.out, hn4]
        rw [← intVals_append] at hown6
        exact ⟨by rw [List.length_append, ends_length]; rfl, hown6⟩
      have hO6 := hO5.grown hgr6 (by intro e; exact hne4 (Option.some.inj e))
      have hB6 := hB5.grown hgr6 hbw5 (fun j e => by cases e; exact hOe5.lt.1)
      have hne6 : g4 ≠ g6 := by
        rcases hat6 with e | e
        · have e2 : ge = g6 := by simpa [Value.ownBlock] using e
          rw [← e2]; exact hne4
        · have := hO5.lt; omega
      have HO6 := Hid.mk' hO6
      have HE6 := Hid.mk' hOe6
      clear hown6 hgrow6 hat6 hgr6 hO5 hOe5 hO6 hOe6 HC1 HES HAT
      go_wp2_with (at_builtin; fail)
      go_roundw
      case rel => exact ⟨k + 1, g4, N, cb4, g6, ce6, by omega, hN9, rfl, rfl, by go_num, hne6, HO6.out, HE6.out, hB6⟩
      case measure => simp [intOf]; omega
    · have hkL : k = l.length := by omega
      subst hkL
      rw [List.take_length] at hOb
      have hmx := hOb.max
      have hcb : nb ≤ cb := hmx.1
      have hlb := hOb.1
      have hra := read_all l HALL.out
      have HRD := Hid.mk' ((impl_readRecs (some ⟨gb, 0, none⟩) nb cb (allBytes l) wr hOb.sl hcb (by omega) (HKW.out _ hB)).mono fun e w' hp => readPost_open (L := l) (q := (nb : Int)) (by rw [hra]) (by rw [hra, hlb]) hp)
      have HRC : Hid (∀ (c : Nat) (L : List Rc) (q : Int) wx, c ≤ nb → (readRecs ((allBytes l).take c)).1 = L → ((readRecs ((allBytes l).take c)).2 : Int) = q → Below wr.heap.size wr wx → Calls Tryd.prog 22 #[.slice (some ⟨gb, 0, none⟩) c cb] wx fun e w' => ∃ a cap hs, e = .returned (.tuple #[.slice a L.length cap, .int .i64 q]) ∧ OwnR w' wx.heap.size (.slice a L.length cap) L hs ∧ Below wx.heap.size wx w') := fun c L q wx hc h1 h2 hx => by
        have hsl := sl_part (hOb.sl.below hx) 0 c (by omega)
        rw [List.drop_zero] at hsl
        exact (impl_readRecs (some ⟨gb, 0, none⟩) c cb _ wx hsl (by omega) (by omega) (HKW.out _ (hB.trans (hx.mono hB.size)))).mono fun e w' hp => readPost_open h1 h2 hp
      have HCUT : Hid (∀ c, c ≤ nb → ∃ j, j ≤ l.length ∧ readRecs ((allBytes l).take c) = (l.take j, (allBytes (l.take j)).length) ∧ (allBytes (l.take j)).length ≤ c ∧ (j = l.length ∨ c < (allBytes (l.take (j + 1))).length)) := fun c hc => read_cut l HALL.out c (by omega)
      have HEND : Hid (∀ j wx, j ≤ l.length → Below wr.heap.size wr wx → wx.cell? ⟨ge, j, none⟩ = some (.int .i64 ((allBytes (l.take j)).length : Int))) := fun j wx hj hx => by
        have := (hOe.below hx).at j (by rw [ends_length]; omega)
        rwa [ends_at] at this
      have HSRx : Hid (∀ wx, Below wr.heap.size wr wx → SlR wx (some ⟨g, 0, none⟩) l.length l) := fun wx hx => (hSR.below hB).below hx
      have HAT2 : Hid (∀ wx, Below wr.heap.size wr wx → Calls Tryd.prog 16 #[.slice a0 len0 cap0, .int .i64 2] wx fun e w' => ∃ x : Nat, x < 256 ∧ e = .returned (.int .i64 (x : Int)) ∧ w' = wx) := fun wx hx => at_ a0 len0 cap0 b0 2 wx ((w0.below (hB1.trans (hB.mono hB1.size))).below hx) (by omega) (by omega)
      have hge : ge < wr.heap.size := hOe.lt.2
      have hBr := hB1.trans (hB.mono hB1.size)
      have hec := hOe.cases
      have hnn : ((nb : Int) == (nb : Int)) = true := by simp
      have hcm := hmx.2
      unfold maxLen at hcm
      clear hOb hOe hra hlt hmx hSR hB hk
      go_wp2_with (at_builtin; fail)
      refine HRD.out.mono ?_
      rintro e w3 ⟨xa, xc, xs, rfl, hOx, hb3⟩
      have HS1 := Hid.mk' (sameRecsT xa (some ⟨g, 0, none⟩) l.length xc cp l w3 hOx.sl (HSRx.out _ hb3))
      clear HRD hOx
      go_wp2_with (at_builtin; fail)
      refine HS1.out.mono ?_
      rintro e w4 ⟨rfl, hb4⟩
      have hb4' := hb3.trans (hb4.mono hb3.size)
      clear HS1 hb4 hb3
      go_wp2_with (at_builtin; fail)
      refine (HAT2.out _ hb4').mono ?_
      rintro e w5 ⟨x, hx, rfl, hw5⟩
      subst hw5
      obtain ⟨c, hc, hc1, hc2⟩ := rem_q x (nb + 1) (by omega)
      rw [show ((nb + 1 : Nat) : Int) = (nb : Int) + 1 by omega] at hc1 hc2
      have hcn : c ≤ nb := by omega
      obtain ⟨j, hj, hrd, hjc, hjd⟩ := HCUT.out c hcn
      have hjl : (l.take j).length = j := by rw [List.length_take]; omega
      have HR2 := Hid.mk' (HRC.out c (l.take j) ((allBytes (l.take j)).length : Int) w5 hcn (by rw [hrd]) (by rw [hrd]) hb4')
      rw [hjl] at HR2
      have hci : (c : Int) ≤ (cb : Int) := by omega
      have hnz : ¬ (nb : Int) + 1 = 0 := by omega
      clear HCUT hrd HRC HAT2
      go_wp2_with (at_builtin; fail)
      refine HR2.out.mono ?_
      rintro e w6 ⟨ya, yc, ys, rfl, hOy, hb6⟩
      have hb6' := hb4'.trans (hb6.mono hb4'.size)
      have HS2 := Hid.mk' (sameRecsT ya (some ⟨g, 0, none⟩) j yc cp (l.take j) w6 hOy.sl (slr_take (HSRx.out _ hb6') hj))
      have e1 := HEND.out j w6 hj hb6'
      generalize hq : (allBytes (l.take j)).length = q at *
      have hqq : ((q : Int) == (q : Int)) = true := by simp
      have hqc : (q : Int) ≤ (c : Int) := by omega
      have hjL : (j : Int) < ((l.length + 1 : Nat) : Int) := by omega
      have hjcp : (j : Int) ≤ (cp : Int) := by omega
      clear HR2 hOy hb6 hb4' hc1 hc2 hq
      by_cases hjL2 : j = l.length
      · have hje : ((j : Int) == (l.length : Int)) = true := by rw [hjL2]; simp
        clear hjL2 hjd
        go_wp2_with (at_builtin; fail)
        refine HS2.out.mono ?_
        rintro e w7 ⟨rfl, hb7⟩
        have hb7' := hb6'.trans (hb7.mono hb6'.size)
        go_wp2_with (at_builtin; fail)
        go_ret
        exact ⟨rfl, hBr.trans (hb7'.mono hBr.size)⟩
      · have hje : ((j : Int) == (l.length : Int)) = false := beq_eq_false_iff_ne.2 (by omega)
        have hnx : c < (allBytes (l.take (j + 1))).length := by rcases hjd with h | h; exact absurd h hjL2; exact h
        have HE2 : Hid (∀ wx, Below wr.heap.size wr wx → wx.cell? ⟨ge, j + 1, none⟩ = some (.int .i64 ((allBytes (l.take (j + 1))).length : Int))) := fun wx hx => HEND.out (j + 1) wx (by omega) hx
        generalize (allBytes (l.take (j + 1))).length = q2 at *
        have hcq : (c : Int) < (q2 : Int) := by omega
        have hj1 : (j : Int) + 1 < ((l.length + 1 : Nat) : Int) := by omega
        go_wp2_with (at_builtin; fail)
        refine HS2.out.mono ?_
        rintro e w7 ⟨rfl, hb7⟩
        have hb7' := hb6'.trans (hb7.mono hb6'.size)
        have e2 := HE2.out _ hb7'
        clear e1 HE2 HEND
        go_wp2_with (at_builtin; fail)
        go_ret
        exact ⟨rfl, hBr.trans (hb7'.mono hBr.size)⟩

set_option maxRecDepth 100000 in
theorem lifted (os : Os) (started : os.Started) (H : Type) (enc : TypeId × Value → H) :
    ReturnsInHanded {} Tryd.checked os 5 .any (fun w args => (Rows.fnScannedSpec.pre enc Tryd.prog Tryd.f5 [] false w args ∧ laidMetH Tryd.prog doorE.laidE w) ∧ sizedMet enc Tryd.prog Tryd.f5 (OpenSpec.ofChange Rows.fnScannedSpec) false w args)
      (Rows.fnScannedSpec.post enc Tryd.prog Tryd.f5 false true false false) := by
  refine returnsInHanded_of_change_and (C := Tryd.checked) (X := fun w _ => laidMetH Tryd.prog doorE.laidE w) (fun _ _ _ hh h => h.of_heap hh) door.own started (by kernel_rfl) Tryd.func5
    (ChangeSpec.witness_shaped (enc := enc) (C := Tryd.checked) (os := os) (X := fun w _ => laidMetH Tryd.prog doorE.laidE w) false (({ World.holding Tryd.prog os ⟨#[], #[], []⟩ with heap := (World.holding Tryd.prog os ⟨#[], #[], []⟩).heap.setIfInBounds 0 (.cells #[.iface 130 (.agg #[.pointer (some ⟨2, 62, none⟩)])] 98 (0, 0)) } : World).layVars Tryd.prog door.laidD) #[.slice none 0 0] 70 (doorE.laidW_os os) (World.shaped_of_ZipB (by kernel_rfl) (by kernel_rfl)) (by kernel_rfl) (by kernel_rfl) (by kernel_rfl)
      (doorE.laidW_met os _)) ?_
  intro W base args ds gs before hval0 hW _ _ hL _
  have hval : ∀ (j : Nat) t v, Tryd.f5.params[j]? = some t → args[j]? = some v → Value.okWide Tryd.prog W .any base t v := hval0
  have hW' := hW
  obtain ⟨p, q, hA0, hV, rfl, hfz, hnd⟩ := hW
  have hA : DataW.TrodAll enc Tryd.prog W 0 (fun _ => true) true Tryd.f5.params.toList args.toList ds p := hA0
  rw [Tryd.params5] at hA hval
  obtain ⟨v0, vs0, d0, ds0, p0, q0, hargs, rfl, rfl, h0, r0⟩ := trodAll_cons hA
  obtain ⟨rfl, rfl, rfl⟩ := trodAll_nil r0
  obtain rfl : args = #[v0] := by cases args; simp_all
  obtain ⟨gv, tv, csv, fv, dv, pv, rfl, _, _, _, _, _⟩ := trodVars_one (show DataW.TrodVars enc Tryd.prog W (fun _ => true) ["loop.example/g00244/impl.roundWords"] gs q from hV)
  obtain ⟨a0, len0, cap0, rfl⟩ := okWide_slice Tryd.underlying22 (hval 0 22 v0 rfl rfl)
  have k0 := h0
  have lt0 : ∀ x ∈ p0, x.block < W.heap.size := by obtain ⟨m, hm⟩ := k0; exact DataW.trod_lt m _ _ _ hm
  obtain ⟨b0, w0⟩ : ∃ bs, Sl W a0 len0 bs := by
    obtain ⟨fuel, hf⟩ := h0
    rcases open_ints Tryd.underlying22 Tryd.underlying5 (by kernel_rfl) hf with ⟨hcs, _⟩ | ⟨x, l, c, zs, hcs, _, hl, hm, hz, _, hcell, hwz⟩
    · simp [Value.cells] at hcs
      obtain ⟨rfl, rfl, rfl⟩ := hcs
      exact ⟨[], sl_nil _ _⟩
    · simp [Value.cells] at hcs
      obtain ⟨rfl, rfl, rfl⟩ := hcs
      exact ⟨_, sl_of_ints hl hm (by simpa using hz) hcell hwz⟩
  clear hA0 hval0
  refine (walk a0 len0 cap0 b0 W w0 (doorE.known_of_laid hL)).mono fun e W' ⟨he, bel⟩ => ?_
  subst he
  exact ⟨_, rfl, _, _, _, [], _, _, hW', trodAll_mk1 (shut_bool Tryd.underlying4 _), (trodAll_cons_mk (Below.trod door.laidOut (by kernel_rfl) (of_decide_eq_true (by kernel_rfl)) k0 bel lt0) trodAll_mk0), bel.trodVars door.laidOut (by kernel_rfl) hV, bel.frame _, fun h => by cases h⟩

theorem over : Rows.fnScannedRow.holds Tryd.pinned (OpenSpec.ofChange Rows.fnScannedSpec) :=
  OpenClaim.holds_of_wide 5 Tryd.f5 rfl rfl rfl rfl rfl rfl rfl ⟨rfl, rfl, rfl, rfl, rfl⟩ rfl rfl rfl rfl rfl (by kernel_rfl) Tryd.func5 (by kernel_rfl)
    (of_decide_eq_true (by kernel_rfl)) (by unfold Func.isWrapper; first | (rw [if_pos (by decide +kernel)]; kernel_rfl) | (rw [if_neg (by decide +kernel)]; exact ⟨rfl, rfl⟩))
    (fun os started H enc _ => lifted os started H enc)

theorem proved : Rows.FnScannedCardSaid :=
  Claim7.holds_tied_plain_at .later [] [.handle, .data] true (true, "676bdcf6d508b3309f940b283a0f0a096954b855a10cf9cb5f22109115c04267") true
    over (fun _ h => by cases h) (by kernel_rfl) (fun _ h => by cases h) fnScanned_row_tie rfl ⟨rfl, rfl⟩ (by kernel_rfl) rfl
    (fun f fn hf hfn => by
      obtain rfl : f = 5 := Option.some.inj ((show Tryd.prog.funcNamed "loop.example/g00244/laws.FnScanned" = some 5 by kernel_rfl).symm.trans hf) |>.symm
      obtain rfl : fn = Tryd.f5 := (Option.some.inj (Tryd.func5.symm.trans hfn)).symm
      exact ⟨by kernel_rfl, fun j t ht => by
        rw [Tryd.params5] at ht
        have hm : t ∈ [22] := by simpa using Array.mem_of_getElem? ht
        have hall : ([22].all fun u => !Tryd.prog.wantsStandIn u) = true := by kernel_rfl
        exact (show Tryd.prog.wantsStandIn t = false by simpa using List.all_eq_true.1 hall t hm)⟩)
    (by kernel_rfl)
end Go.Proofs.YtooiinicnkhlbaaDoor.fnScanned
