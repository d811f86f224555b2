/- The program's check of a path. The program's check of a path. The program's right pairs, and pairs put into others. The program's right pairs, and pairs put into others, whole. -/
import Derived.Test.YteammdkipnfmnaaGreatDoorShaz
import Derived.Test.YteammdkipnfmnaaGreatDoorShax
import Derived.Test.YteammdkipnfmnaaGreatDoorShan
namespace Go.Proofs.YteammdkipnfmnaaGreatDoor.tree
open Go Go.RowKit Go.Proofs.YteammdkipnfmnaaGreatDoor.base Go.Proofs.YteammdkipnfmnaaGreatDoor.pairs Go.Proofs.YteammdkipnfmnaaGreatDoor.puttext Go.Proofs.YteammdkipnfmnaaGreatDoor.putnum
set_option linter.unusedVariables false
set_option linter.unusedSimpArgs false

/-! ### a row of slices of bytes that the call makes -/
theorem infoSl : (Tryz.prog.info? 22).map (fun i => (i.zero, i.size, i.bytes)) = some (some (.slice none 0 0), 1, 24) := by kernel_rfl
theorem slice_oneCell (a : Option Addr) (n c : Nat) : ∀ u ∈ [Value.slice a n c], u.oneCell' = true := by
  intro v hv; rw [List.mem_singleton.1 hv]; rfl
def OwnV (w : World) (base g n cap : Nat) (vs : List Value) : Prop := vs.length = n ∧ w.ownsRow base 22 1 (.slice (some ⟨g, 0, none⟩) n cap) n vs
theorem ownV_lt {w : World} {base g n cap : Nat} {vs : List Value} (h : OwnV w base g n cap vs) : base ≤ g ∧ g < w.heap.size := h.2.lt g rfl
theorem ownV_below {w w' : World} {base g n cap : Nat} {vs : List Value} (h : OwnV w base g n cap vs) (hb : Below w.heap.size w w') : OwnV w' base g n cap vs :=
  ⟨h.1, h.2.kept (row := none) ⟨hb.os, hb.tape, hb.output, hb.size, fun k hk _ => hb.block k hk⟩ (.inr (by simp [Value.ownBlock]))⟩
theorem ownV_at {w : World} {base g n cap : Nat} {vs : List Value} (h : OwnV w base g n cap vs) (i : Nat) (hi : i < vs.length) : w.cell? ⟨g, i, none⟩ = some vs[i] := by
  have hl := h.1
  rw [h.2.cellAt i (by omega)]
  simp [hi]
theorem ownV_val {w' : World} {base n : Nat} {vs : List Value} {v' : Value} (hl : vs.length = n) (h0 : ¬ v' = .slice none 0 0) (h : w'.ownsRow base 22 1 v' n vs) :
    ∃ g' cap', v' = .slice (some ⟨g', 0, none⟩) n cap' ∧ OwnV w' base g' n cap' vs := by
  rcases h.2 with ⟨h2, _⟩ | ⟨g', cap', cur, hv, _⟩
  · exact absurd h2 h0
  · subst hv
    exact ⟨g', cap', rfl, hl, h⟩
theorem ownV_one (w : World) (base : Nat) (v : Value) (hb : base ≤ w.heap.size) : OwnV (w.alloc (.cells #[v] 22)) base w.heap.size 1 1 [v] :=
  ⟨rfl, World.ownsRow_lit (base := base) (e := 22) (size := 1) w #[v] 1 hb (by decide) rfl⟩
theorem ownV_ne {w : World} {base base' g n cap gs ns cs : Nat} {vs : List Value} {S : List Bool} (h : OwnV w base g n cap vs) (hB : OwnB w base' gs ns cs S) : gs ≠ g := by
  intro e
  subst e
  obtain ⟨cur, hc⟩ := hB.block
  rcases h.2.2 with ⟨h', _⟩ | ⟨g', cap', cur', h', _, hg, _⟩
  · simp at h'
  · simp only [Value.slice.injEq, Option.some.injEq, Addr.mk.injEq, and_true, true_and] at h'
    obtain ⟨rfl, rfl⟩ := h'
    rw [hc] at hg
    simp at hg

theorem ownV_no {w : World} {base base' g n cap gs ns cs : Nat} {vs : List Value} {bs : List UInt8} (h : OwnV w base g n cap vs) (hB : Own w base' gs ns cs bs) : gs ≠ g := by
  intro e
  subst e
  rcases h.2.2 with ⟨h', _⟩ | ⟨g', cap', cur', h', _, hg, _⟩
  · simp at h'
  · rcases hB.2.2 with ⟨q', _⟩ | ⟨g2, cap2, cur2, q', _, hg2, _⟩
    · simp at q'
    · simp only [Value.slice.injEq, Option.some.injEq, Addr.mk.injEq, and_true, true_and] at h' q'
      obtain ⟨rfl, rfl⟩ := h'
      obtain ⟨rfl, rfl⟩ := q'
      rw [hg2] at hg
      simp at hg
def SlOf (w : World) (base : Nat) (v : Value) (t : List UInt8) : Prop := ∃ g n c, v = .slice (some ⟨g, 0, none⟩) n c ∧ Own w base g n c t
theorem SlOf.below {w w' : World} {base : Nat} {v : Value} {t : List UInt8} (h : SlOf w base v t) (hb : Below w.heap.size w w') : SlOf w' base v t := by
  obtain ⟨g, n, c, e, hO⟩ := h
  exact ⟨g, n, c, e, hO.below hb⟩
theorem SlOf.mono {w : World} {base base' : Nat} {v : Value} {t : List UInt8} (h : SlOf w base v t) (hb : base' ≤ base) : SlOf w base' v t := by
  obtain ⟨g, n, c, e, hO⟩ := h
  exact ⟨g, n, c, e, hO.mono hb⟩
def AllSl (w : World) (base : Nat) (vs : List Value) (T : List (List UInt8)) : Prop := vs.length = T.length ∧ ∀ (j : Nat) (t : List UInt8), T[j]? = some t → ∃ v, vs[j]? = some v ∧ SlOf w base v t
theorem AllSl.below {w w' : World} {base : Nat} {vs : List Value} {T : List (List UInt8)} (h : AllSl w base vs T) (hb : Below w.heap.size w w') : AllSl w' base vs T :=
  ⟨h.1, fun j t ht => by obtain ⟨v, hv, hs⟩ := h.2 j t ht; exact ⟨v, hv, hs.below hb⟩⟩
theorem AllSl.mono {w : World} {base base' : Nat} {vs : List Value} {T : List (List UInt8)} (h : AllSl w base vs T) (hb : base' ≤ base) : AllSl w base' vs T :=
  ⟨h.1, fun j t ht => by obtain ⟨v, hv, hs⟩ := h.2 j t ht; exact ⟨v, hv, hs.mono hb⟩⟩
theorem AllSl.grown {w w' : World} {base base' g n cap : Nat} {us vs : List Value} {T : List (List UInt8)} (h : AllSl w base vs T) (hV : OwnV w base' g n cap us) (hg : w.grownBy w' (some g)) : AllSl w' base vs T :=
  ⟨h.1, fun j t ht => by
    obtain ⟨v, hv, g', n', c', e, hO⟩ := h.2 j t ht
    exact ⟨v, hv, g', n', c', e, hO.grown hg (fun e => ownV_no hV hO (by cases e; rfl))⟩⟩
theorem AllSl.snoc {w : World} {base : Nat} {vs : List Value} {T : List (List UInt8)} {v : Value} {t : List UInt8} (h : AllSl w base vs T) (hs : SlOf w base v t) : AllSl w base (vs ++ [v]) (T ++ [t]) := by
  refine ⟨by rw [List.length_append, List.length_append, h.1]; rfl, fun j u hu => ?_⟩
  by_cases hj : j < T.length
  · rw [List.getElem?_append_left hj] at hu
    obtain ⟨x, hx, hxs⟩ := h.2 j u hu
    exact ⟨x, by rw [List.getElem?_append_left (by rw [h.1]; exact hj)]; exact hx, hxs⟩
  · rw [List.getElem?_append_right (by omega)] at hu
    have hz : j - T.length = 0 := by
      have := (List.getElem?_eq_some_iff.1 hu).1
      simp at this; omega
    rw [hz] at hu
    simp at hu
    subst hu
    exact ⟨v, by rw [List.getElem?_append_right (by rw [h.1]; omega), h.1, hz]; rfl, hs⟩
theorem AllSl.one {w : World} {base : Nat} {v : Value} {t : List UInt8} (hs : SlOf w base v t) : AllSl w base [v] [t] := by
  refine ⟨rfl, fun j u hu => ?_⟩
  cases j with
  | zero => simp at hu; subst hu; exact ⟨v, rfl, hs⟩
  | succ j => simp at hu
def HRow (w : World) (T : List (List UInt8)) (e : Ending) (w' : World) : Prop :=
  Below w.heap.size w w' ∧ ∃ (g n cap : Nat) (vs : List Value), e = .returned (.slice (some ⟨g, 0, none⟩) (n + 1) cap) ∧ T.length = n + 1 ∧ n ≤ 100 ∧ OwnV w' w.heap.size g (n + 1) cap vs ∧ AllSl w' w.heap.size vs T

def HUp (w : World) (T : List UInt8) (e : Ending) (w' : World) : Prop :=
  Below w.heap.size w w' ∧ ∃ g n cap gb nb cb : Nat, e = .returned (.slice (some ⟨g, 0, none⟩) (n + 1) cap) ∧ n ≤ 100 ∧ w'.cell? ⟨g, n, none⟩ = some (.slice (some ⟨gb, 0, none⟩) nb cb) ∧ Sl w' (some ⟨gb, 0, none⟩) nb T

set_option maxRecDepth 100000 in
set_option maxHeartbeats 4000000 in
theorem impl_hashedRow (p : Pr) (i n pb po pcap : Nat) (P : List ByteArray) (w : World) (hp : lim p) (hin : i < n) (h60 : n ≤ 60) (hP : SlS w (some ⟨pb, po, none⟩) P.length P) (hPs : ∀ s ∈ P, s.size ≤ 137438953472) (hpc : P.length ≤ pcap) (hfit : P.length = depth i n) (hK : sha.KW w) :
    Calls Tryz.prog 125 #[.agg #[.string p.1, .string p.2], .int .i64 (i : Int), .int .i64 (n : Int), .slice (some ⟨pb, po, none⟩) P.length pcap] w (HRow w (wayAll (leafB p) i n P)) := by
  unfold wayAll
  obtain ⟨inf, hi, hz0, hz1, hz2⟩ := info_parts infoSl
  have hp1 := hp.1
  have hp2 := hp.2
  have hdl := depth_le i n
  have hP60 : P.length ≤ 60 := by omega
  have hsl : (sides i n).length = P.length := by rw [sides_length]; exact hfit.symm
  clear hfit hdl
  obtain ⟨w0, hw0⟩ : ∃ w0, w0 = w.alloc (.cells #[.string p.1, .string p.2] 34) := ⟨_, rfl⟩
  have hb0 : Below w.heap.size w w0 := by rw [hw0]; exact (Below.refl _ _).alloc (Nat.le_refl _) _
  have hc1 : w0.cell? ⟨w.heap.size, 0, none⟩ = some (.string p.1) := by rw [hw0]; simp
  have hc2 : w0.cell? ⟨w.heap.size, 1, none⟩ = some (.string p.2) := by rw [hw0]; simp
  have HLB := Hid.mk' (impl_leafBytes p w0 hp)
  have HLF : Hid (∀ wx, Below w.heap.size w wx → Calls Tryz.prog 136 #[.agg #[.string p.1, .string p.2]] wx fun e w' => e = .returned (.string (leafOf p)) ∧ Below wx.heap.size wx w') := fun wx hx => impl_leafOf p wx hp (hK.below hx)
  have HSD := Hid.mk' (fun wx => impl_sides i n wx hin h60)
  have hlz : (leafOf p).size = 32 := dg_size _
  have HK := Hid.mk' hK
  have HP := Hid.mk' hP
  generalize sides i n = S at *
  have hlf : dg (leafB p) = leafOf p := rfl
  rw [hlf]
  have HWT : Hid (∀ k (h1 : k < S.length) (h2 : k < P.length), wayTo (leafB p) S P (k + 1) = wayTo (leafB p) S P k ++ [nodeAt (upTo (leafOf p) S P k) S[k] P[k]]) := fun k h1 h2 => wayTo_step (leafB p) S P k h1 h2
  have HW0 : Hid (wayTo (leafB p) S P 0 = [leafB p]) := rfl
  have HWL := Hid.mk' (wayTo_length (leafB p) S P)
  generalize wayTo (leafB p) S P = W at *
  generalize leafOf p = lf at *
  clear hlf
  clear hK hP
  go_enter Tryz.func125, Tryz.ntmps125
  go_wp2_with fail
  rw [← hw0]
  clear hw0
  refine HLB.out.mono ?_
  rintro e w1 ⟨g1, n1, c1, rfl, hOl, hb1⟩
  have hB1 : Below w.heap.size w w1 := hb0.trans (hb1.mono hb0.size)
  have hl0 : w.heap.size < w0.heap.size := World.block_lt_of_cell? w0 _ hc1
  have hd1 := (hb1.cell (p := ⟨w.heap.size, 0, none⟩) hl0).trans hc1
  have hd2 := (hb1.cell (p := ⟨w.heap.size, 1, none⟩) hl0).trans hc2
  have hV1 := ownV_one w1 w.heap.size (.slice (some ⟨g1, 0, none⟩) n1 c1) hB1.size
  have hba : Below w1.heap.size w1 (w1.alloc (.cells #[.slice (some ⟨g1, 0, none⟩) n1 c1] 22)) := (Below.refl _ _).alloc (Nat.le_refl _) _
  have hB2 : Below w.heap.size w (w1.alloc (.cells #[.slice (some ⟨g1, 0, none⟩) n1 c1] 22)) := hB1.alloc hB1.size _
  have HA1 : Hid (AllSl (w1.alloc (.cells #[.slice (some ⟨g1, 0, none⟩) n1 c1] 22)) w.heap.size [.slice (some ⟨g1, 0, none⟩) n1 c1] (W 0)) := by rw [HW0.out]; exact AllSl.one ⟨g1, n1, c1, rfl, (hOl.mono hb0.size).below hba⟩
  have HV1 := Hid.mk' hV1
  have hl1 : w.heap.size < w1.heap.size := Nat.lt_of_lt_of_le hl0 hb1.size
  have hd3 := (hba.cell (p := ⟨w.heap.size, 0, none⟩) hl1).trans hd1
  have hd4 := (hba.cell (p := ⟨w.heap.size, 1, none⟩) hl1).trans hd2
  clear hb1 hb0 hc1 hc2 hV1 HLB hd1 hd2 hOl HW0
  go_wp2_with fail
  refine (HLF.out _ hB2).mono ?_
  rintro e w2 ⟨rfl, hb2⟩
  have hB3 := hB2.trans (hb2.mono hB2.size)
  have HV2 := Hid.mk' (ownV_below HV1.out hb2)
  have HA2 := Hid.mk' (HA1.out.below hb2)
  clear hb2 hB2 HV1 HA1 HLF hd3 hd4 hba hB1 hl1 hl0
  go_wp2_with fail
  refine (HSD.out _).mono ?_
  rintro e w3 ⟨gs, ns, cs, rfl, hOB, hb3⟩
  have hns : ns = P.length := by have := hOB.1; omega
  subst hns
  have hB4 := hB3.trans (hb3.mono hB3.size)
  have HOB := Hid.mk' (hOB.mono (base' := w.heap.size) hB3.size)
  have HV3 := Hid.mk' (ownV_below HV2.out hb3)
  have HA3 := Hid.mk' (HA2.out.below hb3)
  clear hOB hb3 HV2 HA2 HSD hB3
  go_wp2_with (at_builtin; fail)
  go_loopw [9, 10, 23] (fun hv xv kv wr => ∃ (k g c : Nat) (vs : List Value) (x : ByteArray), hv = .slice (some ⟨g, 0, none⟩) (k + 1) c ∧ xv = .string x ∧ kv = .int .i64 (k : Int) ∧ k ≤ P.length ∧ x = upTo lf S P k ∧ x.size = 32 ∧ OwnV wr w.heap.size g (k + 1) c vs ∧ AllSl wr w.heap.size vs (W k) ∧ OwnB wr w.heap.size gs P.length cs S ∧ Below w.heap.size w wr) (fun _ _ kv _ => P.length - (intOf kv).toNat)
  case atStart => exact ⟨0, w1.heap.size, 1, _, lf, rfl, rfl, rfl, Nat.zero_le _, rfl, hlz, HV3.out, HA3.out, HOB.out, hB4⟩
  case round =>
    obtain ⟨k, g, c, vs, x, rfl, rfl, rfl, hk, hx, hxz, hV, hA, hOB, hB⟩ := hrel
    clear HV3 HA3 HOB hB4
    have hSl : S.length = P.length := by omega
    by_cases hlt : k < P.length
    · have hU := upTo_step lf S P k (by omega) hlt
      have hW := HWT.out k (by omega) hlt
      rw [← hx] at hU hW
      have cs1 := hOB.at k (by omega)
      have cp1 := (HP.out.below hB)
      have cp2 : wr.cell? ⟨pb, po + k, none⟩ = some (.string P[k]) := by
        obtain ⟨b', off', e, hc⟩ := cp1.2.2.2 (by omega)
        simp only [Option.some.injEq, Addr.mk.injEq, and_true] at e
        obtain ⟨rfl, rfl⟩ := e
        exact hc k hlt
      have hqs := hPs P[k] (List.getElem_mem hlt)
      have hki : (k : Int) < (P.length : Int) := by omega
      have hc3 : k + 1 + 1 ≤ maxLen := by unfold maxLen; omega
      have hc4 : (k + 1 + 1) * 24 ≤ 140737488355328 := by omega
      have hx9 : x.size ≤ 137438953472 := by omega
      generalize P[k] = q at *
      cases hsk : S[k]'(by omega) with
      | true =>
        rw [hsk] at hU cs1 hW
        have HW : Hid (W (k + 1) = W k ++ [nodeB x q]) := by show _ = _; rw [hW]; rfl
        have HU : Hid (upTo lf S P (k + 1) = dg (nodeB x q)) := by show _ = _; rw [hU]; rfl
        have HN := Hid.mk' (impl_nodeBytes x q wr hx9 hqs)
        clear hU hx hsk cp1 hW
        go_wp2_with (at_builtin; fail)
        refine HN.out.mono ?_
        rintro e w1 ⟨g1, n1, c1, rfl, hO1, hb1⟩
        clear HN cs1 cp2
        have hB1 : Below w.heap.size w w1 := hB.trans (hb1.mono hB.size)
        have hs1 := hB1.size
        have hB0 := hB.size
        have hV1 := ownV_below hV hb1
        have hA1 := hA.below hb1
        have hOB1 := hOB.below hb1
        have hgl := ownV_lt hV
        have hgn : g1 ≠ g := by have := hO1.lt.1; omega
        have hne : gs ≠ g := ownV_ne hV hOB
        have hn1 : n1 ≤ 137438953600 := by have := hO1.1; have := nodeB_length x q; omega
        clear hV hOB hB hA
        go_wp2_with (at_builtin; refine wpList_append_own _ rfl (.tmp 42) (.tmp 44) 157 rfl w.heap.size 22 inf (.slice none 0 0) 1 24 Tryz.underlying157 hi hz0 hz1 hz2 rfl (by decide) _ _ _ rfl (hV1.2.alloc _) ⟨w1.heap.size, 0, none⟩ 1 1 [.slice (some ⟨g1, 0, none⟩) n1 c1] rfl rfl (cell_one_new _ _ _) (slice_oneCell _ _ _) hc3 hc4 (le_alloc _ _ hs1) ?_)
        intro v3 w3 hown hgrow hnn
        have hnn' : ¬ v3 = .slice none 0 0 := by simpa using hnn
        obtain ⟨g3, c3, hv, hV3⟩ := ownV_val (vs := vs ++ [.slice (some ⟨g1, 0, none⟩) n1 c1]) (n := k + 1 + 1) (by have := hV1.1; simp; omega) hnn' hown
        subst hv
        have hba : Below w1.heap.size w1 (w1.alloc (.cells #[.slice (some ⟨g1, 0, none⟩) n1 c1] 22)) := (Below.refl _ _).alloc (Nat.le_refl _) _
        have hB3 : Below w.heap.size w w3 := (hB1.alloc hs1 _).grown hgrow (le_alloc _ _ hs1) (fun k e => by simp [Value.ownBlock] at e; omega)
        have hOB3 : OwnB w3 w.heap.size gs P.length cs S := (hOB1.below hba).grown hgrow (fun e => by simp [Value.ownBlock] at e; omega)
        have hO3 : Own w3 w.heap.size g1 n1 c1 (nodeB x q) := ((hO1.mono hB0).below hba).grown hgrow (fun e => by simp [Value.ownBlock] at e; omega)
        have hN3 := hO3.sl
        have hA3 : AllSl w3 w.heap.size (vs ++ [.slice (some ⟨g1, 0, none⟩) n1 c1]) (W (k + 1)) := by
          rw [HW.out]
          exact ((hA1.below hba).grown (ownV_below hV1 hba) hgrow).snoc ⟨g1, n1, c1, rfl, hO3⟩
        have HD := Hid.mk' (sha.impl_digest g1 0 n1 c1 (nodeB x q) w3 hN3 (by omega) (HK.out.below hB3))
        have HV3 := Hid.mk' hV3
        have HA3 := Hid.mk' hA3
        have HOB3 := Hid.mk' hOB3
        clear hown hgrow hnn hnn' hV3 hOB3 hba hV1 hOB1 hO1 hN3 hb1 hB1 hne hgn hA1 hA3 hO3 HW
        go_wp2_with (at_builtin; fail)
        refine HD.out.mono ?_
        rintro e w4 ⟨rfl, hb4⟩
        have hB4 := hB3.trans (hb4.mono hB3.size)
        have HV4 := Hid.mk' (ownV_below HV3.out hb4)
        have HA4 := Hid.mk' (HA3.out.below hb4)
        have HOB4 := Hid.mk' (HOB3.out.below hb4)
        clear HV3 HA3 HOB3 HD hb4 hB3
        go_wp2_with (at_builtin; fail)
        go_roundw
        case rel => exact ⟨k + 1, g3, c3, _, _, rfl, rfl, by go_num, by omega, by rw [HU.out]; rfl, dg_size _, HV4.out, HA4.out, HOB4.out, hB4⟩
        case measure => simp [intOf]; omega
      | false =>
        rw [hsk] at hU cs1 hW
        have HW : Hid (W (k + 1) = W k ++ [nodeB q x]) := by show _ = _; rw [hW]; rfl
        have HU : Hid (upTo lf S P (k + 1) = dg (nodeB q x)) := by show _ = _; rw [hU]; rfl
        have HN := Hid.mk' (impl_nodeBytes x q wr hx9 hqs)
        have HM := Hid.mk' (fun wx => impl_nodeBytes q x wx hqs hx9)
        clear hU hx hsk cp1 hW
        go_wp2_with (at_builtin; fail)
        refine HN.out.mono ?_
        rintro e w0' ⟨g0, n0, c0, rfl, _, hb0'⟩
        have cp3 := (hb0'.cell (p := ⟨pb, po + k, none⟩) (World.block_lt_of_cell? wr _ cp2)).trans cp2
        clear HN cs1 cp2
        go_wp2_with (at_builtin; fail)
        refine (HM.out _).mono ?_
        rintro e w1 ⟨g1, n1, c1, rfl, hO1', hb1'⟩
        have hO1 := hO1'.mono (base' := wr.heap.size) hb0'.size
        have hb1 := hb0'.trans (hb1'.mono hb0'.size)
        clear HM cp3 hO1' hb1' hb0'
        have hB1 : Below w.heap.size w w1 := hB.trans (hb1.mono hB.size)
        have hs1 := hB1.size
        have hB0 := hB.size
        have hV1 := ownV_below hV hb1
        have hA1 := hA.below hb1
        have hOB1 := hOB.below hb1
        have hgl := ownV_lt hV
        have hgn : g1 ≠ g := by have := hO1.lt.1; omega
        have hne : gs ≠ g := ownV_ne hV hOB
        have hn1 : n1 ≤ 137438953600 := by have := hO1.1; have := nodeB_length q x; omega
        clear hV hOB hB hA
        go_wp2_with (at_builtin; refine wpList_append_own _ rfl (.tmp 42) (.tmp 44) 157 rfl w.heap.size 22 inf (.slice none 0 0) 1 24 Tryz.underlying157 hi hz0 hz1 hz2 rfl (by decide) _ _ _ rfl (hV1.2.alloc _) ⟨w1.heap.size, 0, none⟩ 1 1 [.slice (some ⟨g1, 0, none⟩) n1 c1] rfl rfl (cell_one_new _ _ _) (slice_oneCell _ _ _) hc3 hc4 (le_alloc _ _ hs1) ?_)
        intro v3 w3 hown hgrow hnn
        have hnn' : ¬ v3 = .slice none 0 0 := by simpa using hnn
        obtain ⟨g3, c3, hv, hV3⟩ := ownV_val (vs := vs ++ [.slice (some ⟨g1, 0, none⟩) n1 c1]) (n := k + 1 + 1) (by have := hV1.1; simp; omega) hnn' hown
        subst hv
        have hba : Below w1.heap.size w1 (w1.alloc (.cells #[.slice (some ⟨g1, 0, none⟩) n1 c1] 22)) := (Below.refl _ _).alloc (Nat.le_refl _) _
        have hB3 : Below w.heap.size w w3 := (hB1.alloc hs1 _).grown hgrow (le_alloc _ _ hs1) (fun k e => by simp [Value.ownBlock] at e; omega)
        have hOB3 : OwnB w3 w.heap.size gs P.length cs S := (hOB1.below hba).grown hgrow (fun e => by simp [Value.ownBlock] at e; omega)
        have hO3 : Own w3 w.heap.size g1 n1 c1 (nodeB q x) := ((hO1.mono hB0).below hba).grown hgrow (fun e => by simp [Value.ownBlock] at e; omega)
        have hN3 := hO3.sl
        have hA3 : AllSl w3 w.heap.size (vs ++ [.slice (some ⟨g1, 0, none⟩) n1 c1]) (W (k + 1)) := by
          rw [HW.out]
          exact ((hA1.below hba).grown (ownV_below hV1 hba) hgrow).snoc ⟨g1, n1, c1, rfl, hO3⟩
        have HD := Hid.mk' (sha.impl_digest g1 0 n1 c1 (nodeB q x) w3 hN3 (by omega) (HK.out.below hB3))
        have HV3 := Hid.mk' hV3
        have HA3 := Hid.mk' hA3
        have HOB3 := Hid.mk' hOB3
        clear hown hgrow hnn hnn' hV3 hOB3 hba hV1 hOB1 hO1 hN3 hb1 hB1 hne hgn hA1 hA3 hO3 HW
        go_wp2_with (at_builtin; fail)
        refine HD.out.mono ?_
        rintro e w4 ⟨rfl, hb4⟩
        have hB4 := hB3.trans (hb4.mono hB3.size)
        have HV4 := Hid.mk' (ownV_below HV3.out hb4)
        have HA4 := Hid.mk' (HA3.out.below hb4)
        have HOB4 := Hid.mk' (HOB3.out.below hb4)
        clear HV3 HA3 HOB3 HD hb4 hB3
        go_wp2_with (at_builtin; fail)
        go_roundw
        case rel => exact ⟨k + 1, g3, c3, _, _, rfl, rfl, by go_num, by omega, by rw [HU.out]; rfl, dg_size _, HV4.out, HA4.out, HOB4.out, hB4⟩
        case measure => simp [intOf]; omega
    · have HE : Hid (x = ups lf (S.zip P)) := by show _ = _; rw [hx]; exact upTo_all _ _ _ _ (by omega)
      have hki : ¬ (k : Int) < (P.length : Int) := by omega
      have HR := Hid.mk' (impl_rootBytes (n : Int) x wr (WalkArith.wf_i64 (by omega)) (by omega))
      have hc3 : k + 1 + 1 ≤ maxLen := by unfold maxLen; omega
      have hc4 : (k + 1 + 1) * 24 ≤ 140737488355328 := by omega
      have hgl := ownV_lt hV
      clear hx hOB
      go_wp2_with (at_builtin; fail)
      refine HR.out.mono ?_
      rintro e w1 ⟨g1, n1, c1, rfl, hO1, hb1⟩
      have hB1 : Below w.heap.size w w1 := hB.trans (hb1.mono hB.size)
      have hs1 := hB1.size
      have hV1 := ownV_below hV hb1
      have hA1 := hA.below hb1
      have hB0 := hB.size
      have hgn : g1 ≠ g := by have := hO1.lt.1; omega
      clear hV hB HR hA
      go_wp2_with (at_builtin; refine wpList_append_own _ rfl (.tmp 49) (.tmp 53) 157 rfl w.heap.size 22 inf (.slice none 0 0) 1 24 Tryz.underlying157 hi hz0 hz1 hz2 rfl (by decide) _ _ _ rfl (hV1.2.alloc _) ⟨w1.heap.size, 0, none⟩ 1 1 [.slice (some ⟨g1, 0, none⟩) n1 c1] rfl rfl (cell_one_new _ _ _) (slice_oneCell _ _ _) hc3 hc4 (le_alloc _ _ hs1) ?_)
      intro v3 w3 hown hgrow hnn
      have hnn' : ¬ v3 = .slice none 0 0 := by simpa using hnn
      obtain ⟨g3, c3, hv, hV3⟩ := ownV_val (vs := vs ++ [.slice (some ⟨g1, 0, none⟩) n1 c1]) (n := k + 1 + 1) (by have := hV1.1; simp; omega) hnn' hown
      subst hv
      have hba : Below w1.heap.size w1 (w1.alloc (.cells #[.slice (some ⟨g1, 0, none⟩) n1 c1] 22)) := (Below.refl _ _).alloc (Nat.le_refl _) _
      have hB3 : Below w.heap.size w w3 := (hB1.alloc hs1 _).grown hgrow (le_alloc _ _ hs1) (fun k e => by simp [Value.ownBlock] at e; omega)
      have hO3 : Own w3 w.heap.size g1 n1 c1 (topB (n : Int) x) := ((hO1.mono hB0).below hba).grown hgrow (fun e => by simp [Value.ownBlock] at e; omega)
      have hA3 := ((hA1.below hba).grown (ownV_below hV1 hba) hgrow).snoc ⟨g1, n1, c1, rfl, hO3⟩
      have hWL := HWL.out k
      have hkk : k = P.length := by omega
      have HF : Hid (HRow w (W P.length ++ [topB (n : Int) (ups lf (S.zip P))]) (.returned (.slice (some ⟨g3, 0, none⟩) (k + 1 + 1) c3)) w3) := by
        rw [← HE.out, ← hkk]
        exact ⟨hB3, g3, k + 1, c3, _, rfl, by rw [List.length_append, hWL]; rfl, by omega, hV3, hA3⟩
      clear hown hgrow hnn hnn' hV3 hba hV1 hO1 hb1 hB1 hgn hB3 hA3 hO3 hA1 hkk hWL
      go_wp2_with (at_builtin; fail)
      go_ret
      exact HF.out
theorem impl_hashedUp (p : Pr) (i n pb po pcap : Nat) (P : List ByteArray) (w : World) (hp : lim p) (hin : i < n) (h60 : n ≤ 60) (hP : SlS w (some ⟨pb, po, none⟩) P.length P) (hPs : ∀ s ∈ P, s.size ≤ 137438953472) (hpc : P.length ≤ pcap) (hfit : P.length = depth i n) (hK : sha.KW w) :
    Calls Tryz.prog 125 #[.agg #[.string p.1, .string p.2], .int .i64 (i : Int), .int .i64 (n : Int), .slice (some ⟨pb, po, none⟩) P.length pcap] w (HUp w (topB (n : Int) (ups (leafOf p) ((sides i n).zip P)))) := by
  refine (impl_hashedRow p i n pb po pcap P w hp hin h60 hP hPs hpc hfit hK).mono ?_
  rintro e w' ⟨hB, g, m, cap, vs, rfl, hT, hm, hV, hA⟩
  have hlast : (wayAll (leafB p) i n P)[m]? = some (topB (n : Int) (ups (leafOf p) ((sides i n).zip P))) := by
    have h2 := wayTo_length (leafB p) (sides i n) P P.length
    unfold wayAll at hT ⊢
    rw [List.length_append, h2] at hT
    have : m = P.length + 1 := by simpa using hT.symm
    rw [List.getElem?_append_right (by omega), h2, this]
    simp; rfl
  obtain ⟨v, hv, gb, nb, cb, rfl, hO⟩ := hA.2 m _ hlast
  have hvl := (List.getElem?_eq_some_iff.1 hv)
  have hc := ownV_at hV m hvl.1
  rw [hvl.2] at hc
  exact ⟨hB, g, m, cap, gb, nb, cb, rfl, hm, hc, hO.sl⟩
end Go.Proofs.YteammdkipnfmnaaGreatDoor.tree

namespace Go.Proofs.YteammdkipnfmnaaGreatDoor.tree
open Go Go.RowKit Go.Proofs.YteammdkipnfmnaaGreatDoor.base Go.Proofs.YteammdkipnfmnaaGreatDoor.pairs Go.Proofs.YteammdkipnfmnaaGreatDoor.puttext Go.Proofs.YteammdkipnfmnaaGreatDoor.putnum
set_option linter.unusedVariables false
set_option linter.unusedSimpArgs false

set_option maxHeartbeats 1000000 in
theorem impl_fitsNot (I N : Int) (a : Option Addr) (len cap : Nat) (w : World) (h : ¬ (N ≤ 60 ∧ 0 ≤ I ∧ I < N)) :
    Calls Tryz.prog 124 #[.int .i64 I, .int .i64 N, .slice a len cap] w fun e w' => e = .returned (.bool false) ∧ Below w.heap.size w w' := by
  have hd : (decide (N ≤ 60) && decide (0 ≤ I) && decide (I < N)) = false := by
    rw [Bool.and_eq_false_iff, Bool.and_eq_false_iff, decide_eq_false_iff_not, decide_eq_false_iff_not, decide_eq_false_iff_not]; omega
  have hp := impl_placeOk I N w
  rw [hd] at hp
  have HP := Hid.mk' hp
  clear hp hd h
  go_enter Tryz.func124, Tryz.ntmps124
  go_wp2_with fail
  refine HP.out.mono ?_
  rintro e w1 ⟨rfl, hw1⟩
  subst hw1
  go_wp2_with fail
  go_ret
  exact ⟨rfl, Below.refl _ _⟩

set_option maxHeartbeats 1000000 in
theorem impl_fits (i n : Nat) (a : Option Addr) (len cap : Nat) (w : World) (hin : i < n) (h60 : n ≤ 60) (hlen : len ≤ maxLen) :
    Calls Tryz.prog 124 #[.int .i64 (i : Int), .int .i64 (n : Int), .slice a len cap] w fun e w' => e = .returned (.bool (decide (len = depth i n))) ∧ Below w.heap.size w w' := by
  have hp := impl_placeOk (i : Int) (n : Int) w
  rw [decide_eq_true (show (n : Int) ≤ 60 by omega), decide_eq_true (show (0 : Int) ≤ (i : Int) by omega), decide_eq_true (show (i : Int) < (n : Int) by omega)] at hp
  have HP := Hid.mk' hp
  have HS := Hid.mk' (fun wx => impl_sides i n wx hin h60)
  have HL := Hid.mk' (sides_length i n)
  have hdl := depth_le i n
  generalize depth i n = d at *
  clear hp
  by_cases he : len = d
  · subst he
    go_enter Tryz.func124, Tryz.ntmps124
    go_wp2_with fail
    refine HP.out.mono ?_
    rintro e w1 ⟨rfl, hw1⟩
    subst hw1
    go_wp2_with fail
    refine (HS.out _).mono ?_
    rintro e w2 ⟨g, m, c, rfl, hO, hB⟩
    have hm : m = len := by have := hO.1; have := HL.out; omega
    subst hm
    clear hO
    go_wp2_with fail
    go_ret
    exact ⟨ret_bool (by simp), hB⟩
  · have hei : ¬ (len : Int) = (d : Int) := by omega
    have HE : Hid (decide (len = d) = false) := decide_eq_false he
    clear he
    go_enter Tryz.func124, Tryz.ntmps124
    go_wp2_with fail
    refine HP.out.mono ?_
    rintro e w1 ⟨rfl, hw1⟩
    subst hw1
    go_wp2_with fail
    refine (HS.out _).mono ?_
    rintro e w2 ⟨g, m, c, rfl, hO, hB⟩
    have hm : m = d := by have := hO.1; have := HL.out; omega
    subst hm
    clear hO
    go_wp2_with fail
    go_ret
    exact ⟨ret_bool (by rw [HE.out]; exact beq_eq_false_iff_ne.2 hei), hB⟩

set_option maxRecDepth 100000 in
set_option maxHeartbeats 2000000 in
theorem impl_checkPath (p : Pr) (I N : Int) (pb po pcap : Nat) (P : List ByteArray) (root : ByteArray) (w : World) (hp : lim p) (hP : SlS w (some ⟨pb, po, none⟩) P.length P) (hPs : ∀ s ∈ P, s.size ≤ 137438953472) (hpc : P.length ≤ pcap) (hr : root.size ≤ maxLen) (hI : (Lit.int .i64 I).wf = true) (hN : (Lit.int .i64 N).wf = true) (hK : sha.KW w) :
    Calls Tryz.prog 99 #[.agg #[.string p.1, .string p.2], .int .i64 I, .int .i64 N, .slice (some ⟨pb, po, none⟩) P.length pcap, .string root] w fun e w' => e = .returned (.bool (checkPathI p I N P root)) ∧ Below w.heap.size w w' := by
  have hPm := hP.2.1
  obtain ⟨w0, hw0⟩ : ∃ w0, w0 = w.alloc (.cells #[.string p.1, .string p.2] 34) := ⟨_, rfl⟩
  have hba : Below w.heap.size w w0 := by rw [hw0]; exact (Below.refl _ _).alloc (Nat.le_refl _) _
  have hc1 : w0.cell? ⟨w.heap.size, 0, none⟩ = some (.string p.1) := by rw [hw0]; simp
  have hc2 : w0.cell? ⟨w.heap.size, 1, none⟩ = some (.string p.2) := by rw [hw0]; simp
  by_cases hpl : N ≤ 60 ∧ 0 ≤ I ∧ I < N
  · obtain ⟨n, hn⟩ : ∃ n : Nat, N = (n : Int) := ⟨N.toNat, by omega⟩
    subst hn
    obtain ⟨i, hi⟩ : ∃ i : Nat, I = (i : Int) := ⟨I.toNat, by omega⟩
    subst hi
    have hin : i < n := by omega
    have hn60 : n ≤ 60 := by omega
    have hci : checkPathI p (i : Int) (n : Int) P root = checkPath p i n P root := by
      unfold checkPathI; rw [decide_eq_true (show 1 ≤ (n : Int) ∧ (n : Int) ≤ 60 by omega), decide_eq_true (show 0 ≤ (i : Int) ∧ (i : Int) ≤ (n : Int) - 1 by omega), Int.toNat_natCast, Int.toNat_natCast]; rfl
    have hdl := depth_le i n
    by_cases hfit : P.length = depth i n
    · have hF := fun wx => impl_fits i n (some ⟨pb, po, none⟩) P.length pcap wx hin hn60 hPm
      rw [decide_eq_true hfit] at hF
      have HF := Hid.mk' hF
      have HC : Hid (checkPathI p (i : Int) (n : Int) P root = decide (dg (topB (n : Int) (ups (leafOf p) ((sides i n).zip P))) = root)) := by show _ = _; rw [hci, check_ups hfit]
      have HH : Hid (∀ wx, Below w.heap.size w wx → Calls Tryz.prog 125 #[.agg #[.string p.1, .string p.2], .int .i64 (i : Int), .int .i64 (n : Int), .slice (some ⟨pb, po, none⟩) P.length pcap] wx (HUp wx (topB (n : Int) (ups (leafOf p) ((sides i n).zip P))))) :=
        fun wx hx => impl_hashedUp p i n pb po pcap P wx hp hin hn60 (hP.below hx) hPs hpc hfit (hK.below hx)
      have htl := topB_length (n : Int) (ups (leafOf p) ((sides i n).zip P))
      have hus := ups_size (leafOf p) ((sides i n).zip P) (dg_size _)
      have HK := Hid.mk' hK
      generalize topB (n : Int) (ups (leafOf p) ((sides i n).zip P)) = T at *
      clear hF hci hfit hpl hP hPs hK hdl
      go_enter Tryz.func99, Tryz.ntmps99
      go_wp2_with fail
      rw [← hw0]
      clear hw0
      refine (HF.out _).mono ?_
      rintro e w1 ⟨rfl, hb1⟩
      have hB1 : Below w.heap.size w w1 := hba.trans (hb1.mono hba.size)
      have hl0 : w.heap.size < w0.heap.size := World.block_lt_of_cell? w0 _ hc1
      have hd1 := (hb1.cell (p := ⟨w.heap.size, 0, none⟩) hl0).trans hc1
      have hd2 := (hb1.cell (p := ⟨w.heap.size, 1, none⟩) hl0).trans hc2
      clear HF hc1 hc2 hb1 hba
      go_wp2_with fail
      refine (HH.out _ hB1).mono ?_
      rintro e w2 ⟨hb2, g, m, c, gb, nb, cb, rfl, hm, hcl, hSl⟩
      have hB2 : Below w.heap.size w w2 := hB1.trans (hb2.mono hB1.size)
      have hnb : nb ≤ 100 := by have := hSl.1; omega
      have HD := Hid.mk' (sha.impl_digest gb 0 nb cb T w2 hSl (by omega) (HK.out.below hB2))
      have q1 : ((m + 1 : Nat) : Int) - 1 = (m : Int) := by omega
      clear hb2 hd1 hd2 HH hSl hB1
      go_wp2_with fail
      refine HD.out.mono ?_
      rintro e w4 ⟨rfl, hb4⟩
      have hB4 : Below w.heap.size w w4 := hB2.trans (hb4.mono hB2.size)
      have hdd : (⟨(sha.digest T).toArray⟩ : ByteArray) = dg T := rfl
      rw [hdd]
      generalize dg T = d at *
      clear HD hb4 hcl hdd
      by_cases he : d = root
      · subst he
        go_wp2_with fail
        go_ret
        exact ⟨ret_bool (by rw [HC.out]; simp), hB4⟩
      · have hq : (d.toList == root.toList) = false := by
          rw [beq_eq_false_iff_ne]; intro e; rw [ByteArray.toList_eq, ByteArray.toList_eq] at e; exact he (bytes_ext e)
        have HE : Hid (¬ d = root) := he
        clear he
        go_wp2_with fail
        go_ret
        exact ⟨ret_bool (by rw [HC.out, decide_eq_false HE.out]), hB4⟩
    · have HC : Hid (checkPathI p (i : Int) (n : Int) P root = false) := by show _ = _; rw [hci]; exact check_not hfit
      have hF := fun wx => impl_fits i n (some ⟨pb, po, none⟩) P.length pcap wx hin hn60 hPm
      rw [decide_eq_false hfit] at hF
      have HF := Hid.mk' hF
      clear hF hfit hpl hP hPs hK hci hdl
      go_enter Tryz.func99, Tryz.ntmps99
      go_wp2_with fail
      rw [← hw0]
      clear hw0
      refine (HF.out _).mono ?_
      rintro e w1 ⟨rfl, hb1⟩
      have hB1 : Below w.heap.size w w1 := hba.trans (hb1.mono hba.size)
      clear HF hc1 hc2 hb1 hba
      go_wp2_with fail
      go_ret
      exact ⟨ret_bool (by rw [HC.out]), hB1⟩
  · have HC : Hid (checkPathI p I N P root = false) := by
      show _ = _
      unfold checkPathI
      by_cases h1 : 1 ≤ N ∧ N ≤ 60
      · rw [decide_eq_false (show ¬ (0 ≤ I ∧ I ≤ N - 1) by omega)]; simp
      · rw [decide_eq_false h1]; simp
    have HF := Hid.mk' (fun wx => impl_fitsNot I N (some ⟨pb, po, none⟩) P.length pcap wx hpl)
    clear hpl hP hPs hK
    go_enter Tryz.func99, Tryz.ntmps99
    go_wp2_with fail
    rw [← hw0]
    clear hw0
    refine (HF.out _).mono ?_
    rintro e w1 ⟨rfl, hb1⟩
    have hB1 : Below w.heap.size w w1 := hba.trans (hb1.mono hba.size)
    clear HF hc1 hc2 hb1 hba
    go_wp2_with fail
    go_ret
    exact ⟨ret_bool (by rw [HC.out]), hB1⟩
end Go.Proofs.YteammdkipnfmnaaGreatDoor.tree

namespace Go.Proofs.YteammdkipnfmnaaGreatDoor.pairs
open Go Go.RowKit Go.Proofs.YteammdkipnfmnaaGreatDoor.base
set_option linter.unusedVariables false
set_option linter.unusedSimpArgs false

/-! ### pairs that rise -/
def rise : List Pr → Bool
  | [] => true
  | p :: l => (match l.head? with | none => true | some q => ltB p.1 q.1) && rise l
theorem rise_step (l : List Pr) (j : Nat) (h1 : 1 ≤ j) (h : j < l.length) : rise (l.drop (j - 1)) = (ltB l[j - 1].1 l[j].1 && rise (l.drop j)) := by
  rw [List.drop_eq_getElem_cons (by omega : j - 1 < l.length), rise, show j - 1 + 1 = j by omega, List.head?_drop, List.getElem?_eq_getElem h]
theorem rise_end (l : List Pr) (j : Nat) (h : l.length ≤ j) : rise (l.drop (j - 1)) = true := by
  by_cases h2 : j - 1 < l.length
  · rw [List.drop_eq_getElem_cons h2, rise, List.drop_eq_nil_of_le (by omega)]; rfl
  · rw [List.drop_eq_nil_of_le (by omega)]; rfl
set_option maxRecDepth 100000 in
set_option maxHeartbeats 2000000 in
theorem i_rises (b off cap : Nat) (l : List Pr) (w : World) (h : SlP w (some ⟨b, off, none⟩) l.length l) (hsz : l.length ≤ 1099511627776) :
    Calls Tryz.prog 60 #[.slice (some ⟨b, off, none⟩) l.length cap] w fun e w' => e = .returned (.bool (rise l)) ∧ Below w.heap.size w w' := by
  have hmt := i_meth
  generalize hR : rise l = R
  have HR := Hid.mk' hR
  clear hR
  go_enter Tryz.func60, Tryz.ntmps60
  go_wp2_with fail
  go_loopw [3] (fun i wr => ∃ j : Nat, 1 ≤ j ∧ j ≤ l.length + 1 ∧ i = .int .i64 (j : Int) ∧ rise (l.drop (j - 1)) = R ∧ Below w.heap.size w wr) (fun i _ => l.length + 1 - (intOf i).toNat)
  case atStart => exact ⟨1, Nat.le_refl _, by omega, rfl, HR.out, Below.refl _ _⟩
  case round =>
    obtain ⟨j, hj1, hj2, rfl, hr, hB⟩ := hrel
    by_cases hlt : j < l.length
    · have hS := h.below hB
      have hbl := hS.lt (by omega)
      have hst := rise_step l j hj1 hlt
      rw [hr] at hst
      obtain ⟨c1, c2⟩ := hS.cells j hlt
      obtain ⟨c3, c4⟩ := hS.cells (j - 1) (by omega)
      have hji : (j : Int) < (l.length : Int) := by omega
      obtain ⟨k, hk⟩ : ∃ k, j - 1 = k := ⟨_, rfl⟩
      have hkw : (j : Int) - 1 = (k : Int) := by omega
      have hki : (k : Int) < (l.length : Int) := by omega
      have hne : Op.bytesLess l[j - 1].1.toList l[j].1.toList = ltB l[j - 1].1 l[j].1 := rfl
      generalize l[j] = p at *
      generalize l[j - 1] = q at *
      rw [hk] at c3 c4
      have o1 := last.On.cell c1 hbl
      have o2 := last.On.cell c2 hbl
      have o3 := last.On.cell c3 hbl
      have o4 := last.On.cell c4 hbl
      cases hL : ltB q.1 p.1
      all_goals
        rw [hL] at hst hne
        have HST := Hid.mk' hst
        clear hst hr hL hS hk
        go_wp2_with fail
        have hinh := last.On.inh wr.heap.size wr
        have hc1 : ∀ x : last.On wr.heap.size wr, Calls Tryz.prog 167 #[.agg #[.string p.1, .string p.2]] x.w fun e w' => e = .returned (.string p.1) ∧ ∃ y : last.On wr.heap.size wr, w' = y.w := fun x => last.Calls.on x (Nat.le_refl _) ((i_key p x.w).mono fun e w' ⟨he, hw⟩ => ⟨he, by rw [hw]; exact (Below.refl _ _).alloc (Nat.le_refl _) _⟩)
        have hc2 : ∀ x : last.On wr.heap.size wr, Calls Tryz.prog 167 #[.agg #[.string q.1, .string q.2]] x.w fun e w' => e = .returned (.string q.1) ∧ ∃ y : last.On wr.heap.size wr, w' = y.w := fun x => last.Calls.on x (Nat.le_refl _) ((i_key q x.w).mono fun e w' ⟨he, hw⟩ => ⟨he, by rw [hw]; exact (Below.refl _ _).alloc (Nat.le_refl _) _⟩)
        refine last.wp_region_on wr.heap.size (by kernel_rfl) (by kernel_rfl) ?_
        repeat (go_big_quiet_step ((go_at_call 167; first | exact hc1 _ | exact hc2 _)))
        refine wpQuiet_nil ?_
        intro w5 hw5
        obtain ⟨x5, hw5⟩ := hw5
        subst hw5
        have hB5 : Below w.heap.size w x5.w := hB.trans (x5.2.mono hB.size)
        go_wp2_with fail
      · go_ret
        exact ⟨ret_bool (by rw [HST.out]; rfl), hB5⟩
      · go_roundw
        case rel => exact ⟨j + 1, by omega, by omega, by go_num, by rw [HST.out]; simp, hB5⟩
        case measure => simp [intOf]; omega
    · have HF : Hid (R = true) := by show _ = _; rw [← hr]; exact rise_end l j (by omega)
      clear hr
      go_wp2_with fail
      go_ret
      exact ⟨ret_bool (by rw [HF.out]), hB⟩

end Go.Proofs.YteammdkipnfmnaaGreatDoor.pairs

namespace Go.Proofs.YteammdkipnfmnaaGreatDoor.pairs
open Go Go.RowKit Go.Proofs.YteammdkipnfmnaaGreatDoor.base
set_option linter.unusedVariables false
set_option linter.unusedSimpArgs false

set_option maxRecDepth 100000 in
set_option maxHeartbeats 2000000 in
theorem impl_unionOf (b off len cap : Nat) (l : List Pr) (b2 off2 len2 cap2 : Nat) (l2 : List Pr) (w : World) (h : SlP w (some ⟨b, off, none⟩) len l) (h2 : SlP w (some ⟨b2, off2, none⟩) len2 l2) (hcap : len ≤ cap) (hcap2 : len2 ≤ cap2) (hsz : len + len2 ≤ 1099511627776) :
    Calls Tryz.prog 28 #[.slice (some ⟨b, off, none⟩) len cap, .slice (some ⟨b2, off2, none⟩) len2 cap2] w fun e w' =>
      ∃ g' n' cap', e = .returned (.slice (some ⟨g', 0, none⟩) n' cap') ∧ OwnP w' w.heap.size g' n' cap' (unionOf l l2) ∧ Below w.heap.size w w' := by
  obtain ⟨i0, hif, hz0, hz1, hz2⟩ := info_parts infoP
  have hl := h.1
  have hsm := h.2.2.1
  have hl2 := h2.1
  have hsm2 := h2.2.2.1
  subst hl hl2
  have hba : Below w.heap.size w (w.alloc (.cells #[] 34)) := (Below.refl _ _).alloc (Nat.le_refl _) _
  have HC := Hid.mk' (cells_pairs (h.below hba).cells)
  have hn0 := pairVals_length l
  have hm1 : 0 + l.length ≤ maxLen := by unfold maxLen; omega
  have hm2 : (0 + l.length) * 32 ≤ 140737488355328 := by omega
  have hown0 := (ownP_made w w.heap.size (Nat.le_refl _)).2.2
  go_enter Tryz.func28, Tryz.ntmps28
  go_wp2_with (at_builtin; refine wpList_append_own _ rfl (.tmp 8) (.tmp 9) 30 rfl w.heap.size 34 i0 (.agg #[.string ⟨#[]⟩, .string ⟨#[]⟩]) 2 32 Tryz.underlying30 hif hz0 hz1 hz2 rfl (by decide) _ _ _ rfl hown0 ⟨b, off, none⟩ l.length cap (pairVals l) rfl hn0 HC.out (pairVals_oneCell _) hm1 hm2 (le_alloc _ _ (Nat.le_refl _)) ?_)
  intro v1 w1 hown hgrow hnn
  have hnn' : ¬ v1 = .slice none 0 0 := by simpa using hnn
  obtain ⟨g1, cap1, hv, hO1⟩ := ownP_val rfl hsm hnn' (by simpa [pairVals] using hown)
  subst hv
  have hB1 : Below w.heap.size w w1 := hba.grown hgrow (le_alloc _ _ (Nat.le_refl _)) (fun k e => by simp [Value.ownBlock] at e; omega)
  clear hown hgrow hnn hnn' hown0 HC hn0 hm1 hm2 hba
  go_wp2_with (at_builtin; fail)
  go_loopw [5, 13] (fun v i wr => ∃ (k g n cp : Nat), k ≤ l2.length ∧ n ≤ l.length + k ∧ i = .int .i64 (k : Int) ∧ v = .slice (some ⟨g, 0, none⟩) n cp ∧ OwnP wr w.heap.size g n cp (unionOf l (l2.take k)) ∧ Below w.heap.size w wr) (fun _ i _ => l2.length - (intOf i).toNat)
  case atStart => exact ⟨0, g1, _, cap1, Nat.zero_le _, by omega, rfl, rfl, hO1, hB1⟩
  case round =>
    clear hO1 hB1
    obtain ⟨k, g, n, cp, hk, hn, rfl, rfl, hO, hB⟩ := hrel
    by_cases hlt : k < l2.length
    · obtain ⟨c1, c2⟩ := (h2.below hB).cells k hlt
      have hpk := hsm2 _ (List.getElem_mem hlt)
      have hki : (k : Int) < (l2.length : Int) := by omega
      have HU := Hid.mk' (unionOf_snoc l l2 k hlt)
      have hpl := putKey_length l2[k].1 l2[k].2 (unionOf l (l2.take k))
      have hcs := hO.cases
      have hul := hO.1
      have hBA : Below w.heap.size w (wr.alloc (.cells #[.string l2[k].1, .string l2[k].2] 34)) := hB.alloc hB.size _
      have hOA : OwnP (wr.alloc (.cells #[.string l2[k].1, .string l2[k].2] 34)) w.heap.size g n cp (unionOf l (l2.take k)) := hO.below ((Below.refl _ _).alloc (Nat.le_refl _) _)
      generalize l2[k] = p at *
      generalize unionOf l (l2.take k) = u at *
      have HP := Hid.mk' (impl_putKey g 0 n cp u p.1 p.2 _ hOA.sl hcs.1 (by omega) hpk.1 hpk.2)
      clear hOA hO hB
      go_wp2_with (at_builtin; fail)
      refine HP.out.mono ?_
      rintro e w5 ⟨g5, n5, cp5, rfl, hO5, hb5⟩
      have hB5 : Below w.heap.size w w5 := hBA.trans (hb5.mono hBA.size)
      have hO5' := hO5.mono (base' := w.heap.size) hBA.size
      rw [← HU.out] at hO5'
      have hn5 : n5 ≤ l.length + (k + 1) := by have := hO5.1; omega
      have HO5 := Hid.mk' hO5'
      clear hb5 hO5 hO5' hBA c1 c2 HP
      go_wp2_with (at_builtin; fail)
      go_roundw
      case rel => exact ⟨k + 1, g5, n5, cp5, by omega, hn5, by go_num, rfl, HO5.out, hB5⟩
      case measure => simp [intOf]; omega
    · have HE : Hid (l2.take k = l2) := List.take_of_length_le (by omega)
      go_wp2_with (at_builtin; fail)
      go_ret
      rw [HE.out] at hO
      exact ⟨g, n, cp, rfl, hO, hB⟩
end Go.Proofs.YteammdkipnfmnaaGreatDoor.pairs
