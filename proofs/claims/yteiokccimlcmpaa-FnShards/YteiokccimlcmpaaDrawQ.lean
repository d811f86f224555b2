/- What the laws on pairs draw: whole draws. -/
import Derived.Test.YteiokccimlcmpaaDrawP
namespace Go.Proofs.Yteiokccimlcmpaa.pairs
open Go Go.RowKit Go.Proofs.Yteiokccimlcmpaa.base Go.Proofs.Yteiokccimlcmpaa.draw
set_option linter.unusedVariables false
set_option linter.unusedSimpArgs false

set_option maxRecDepth 100000 in
set_option maxHeartbeats 2000000 in
theorem d_any (w0 w : World) (gc : Nat) (a : Option Addr) (len cap : Nat) (code : List UInt8) (h : Cur w0 w gc a len cap code) :
    Calls Try.prog 83 #[.pointer (some ⟨gc, 0, none⟩)] w fun e w' => GotPairs 9 w0 w gc a len cap code e w' := by
  obtain ⟨i0, hif, hz0, hz1, hz2⟩ := info_parts infoP
  obtain ⟨j0, hjf, hy0, hy1, hy2⟩ := info_parts info8
  have hcl := h.lt
  go_enter Try.func83, Try.ntmps83
  go_wp2_with fail
  refine (d_pairs w0 _ gc a len cap code h).mono ?_
  rintro e w1 ⟨g, n, cp, l, hn, ht, rfl, hO1, hC1, hG1⟩
  have hgne : g ≠ gc := by have := hO1.lt; omega
  go_wp2_with fail
  refine (below_ w0 _ gc a len cap code _ hC1 (by omega) (by omega)).mono ?_
  rintro e w2 ⟨x, hx, rfl, hC2, hG2⟩
  have hO2 := hO1.grown hG2 (by simpa using hgne)
  have hG2' := grownBy_trans hG1 hG2
  clear hO1 hC1 hG1 hG2
  have hln := hO2.1
  by_cases x0 : x = 0
  · subst x0
    go_wp2_with fail
    refine (d_keyAny w0 _ gc a len cap code hC2).mono ?_
    rintro e w3 ⟨z1, hz1', rfl, hC3, hG3⟩
    have hO3 := hO2.grown hG3 (by simpa using hgne)
    go_wp2_with fail
    refine (d_val w0 _ gc a len cap code hC3).mono ?_
    rintro e w4 ⟨z2, hz2', rfl, hC4, hG4⟩
    have hO4 := hO3.grown hG4 (by simpa using hgne)
    have hG4' := grownBy_trans hG2' (grownBy_trans hG3 hG4)
    have hbw : w.heap.size ≤ w4.heap.size := hG4'.size
    have hc3 : n + 1 ≤ maxLen := by unfold maxLen; omega
    have hc4 : (n + 1) * 32 ≤ 140737488355328 := by omega
    have hcl4 := hC4.lt
    clear hO2 hO3 hC2 hC3 hG2' hG3 hG4
    go_wp2_with (at_builtin; refine wpList_append_own _ rfl (.tmp 10) (.tmp 16) 33 rfl w.heap.size 92 i0 (.agg #[.string ⟨#[]⟩, .string ⟨#[]⟩]) 2 32 Try.underlying33 hif hz0 hz1 hz2 rfl (by decide) _ _ _ rfl (hO4.2.2.alloc _) ⟨w4.heap.size, 0, none⟩ 1 1 (pairVals [(z1, z2)]) rfl rfl (one_pair_cells _ (z1, z2) _) (pairVals_oneCell _) hc3 hc4 (le_alloc _ _ hbw) ?_)
    intro v5 w5 hown hgrow hnn
    obtain ⟨g5, cp5, hv, hO5⟩ := ownP_app (p := (z1, z2)) hO4.1 hO4.2.1 ⟨max13 (Nat.le_trans hz1' (by omega)), max13 (Nat.le_trans hz2' (by omega))⟩ hnn hown
    subst hv
    have hg5 : (w4.alloc (.cells #[.string z1, .string z2] 92)).grownBy w5 (some g) := hgrow
    have hC5 : Cur w0 w5 gc a len cap code := (hC4.below ((Below.refl _ _).alloc (Nat.le_refl _) _)).grown hg5 (by simpa using hgne.symm) (fun k e => by cases e; have := hO4.lt; have := hC4.ge; have := h.bel.size; omega)
    have hG5 : w.grownBy w5 (some gc) := grown_own (grown_alloc hG4' _) hg5 hO4.lt.1
    have ht5 : ∀ p ∈ l ++ [(z1, z2)], tiny p := by
      intro p hp
      rcases List.mem_append.1 hp with h1 | h1
      · exact ht p h1
      · simp at h1; subst h1; exact ⟨hz1', Nat.le_trans hz2' (by omega)⟩
    have HO5 := Hid.mk' hO5
    clear hown hgrow hnn hO4 hC4 hG4' hg5 hO5
    go_wp2_with (at_builtin; fail)
    go_ret
    exact ⟨g5, n + 1, cp5, _, by omega, ht5, rfl, HO5.out, hC5, hG5⟩
  · by_cases x1 : x = 1
    · subst x1
      by_cases hn0 : 0 < n
      · go_wp2_with (at_make; fail)
        refine (below_ w0 _ gc a len cap code _ hC2 (by omega) (by omega)).mono ?_
        rintro e w3 ⟨y, hy, rfl, hC3, hG3⟩
        have hO3 := hO2.grown hG3 (by simpa using hgne)
        have hG3' := grownBy_trans hG2' hG3
        clear hO2 hC2 hG2' hG3
        obtain ⟨m, hm⟩ : ∃ m : Nat, 20 + (y : Int) = (m : Int) := ⟨20 + y, by omega⟩
        have hm21 : m ≤ 21 := by omega
        go_wp2_with (at_make; refine wpList_make_full _ rfl _ _ 22 rfl w3.heap.size 5 j0 (.int .u8 0) 1 Try.underlying22 hjf hy0 hy1 _ _ _ _ m rfl rfl (by omega) (by omega) ?b2 ?b3 ?b4 ?_)
        case b2 => rw [hy2]; omega
        case b3 => unfold maxLen; omega
        case b4 => exact Nat.le_refl _
        intro w4 hown hgrow
        have hOb : Own w4 w3.heap.size w3.heap.size m m (List.replicate m 0) := by
          refine ⟨by simp, ?_⟩
          have e : byteVals (List.replicate m 0) = (madeCells #[.int .u8 0] m).toList := by
            simp [byteVals, toList_madeCells_one]
          rw [e]; simpa using hown
        have hcv := conv_own hOb
        have hB4 : Below w3.heap.size w3 w4 := (Below.refl _ _).grown hgrow (Nat.le_refl _) (fun k e => by cases e)
        have hO4 := hO3.below hB4
        have hC4 := hC3.below hB4
        have hG4 := grown_below hG3' hB4
        have hl0 : 0 < l.length := by omega
        have hki : (0 : Int) < (n : Int) := by omega
        have d1 := hO4.val 0 hl0
        have f1 := hO4.frozen (0 * 2 + 1)
        have hzs : (⟨(List.replicate m (0 : UInt8)).toArray⟩ : ByteArray).size ≤ 21 := by show (List.replicate m (0 : UInt8)).toArray.size ≤ 21; simp; exact hm21
        have R := hO4.setVal 0 hl0 ⟨(List.replicate m (0 : UInt8)).toArray⟩ (max13 hzs)
        have htR : ∀ p ∈ l.set 0 (l[0].1, (⟨(List.replicate m (0 : UInt8)).toArray⟩ : ByteArray)), tiny p := by
          intro p hp
          rcases List.mem_or_eq_of_mem_set hp with h1 | h1
          · exact ht p h1
          · subst h1; exact ⟨(ht _ (List.getElem_mem hl0)).1, hzs⟩
        simp only [Nat.zero_mul, Nat.zero_add] at d1 f1 R
        have hC5 : Cur w0 (w4.setCell ⟨g, 1, none⟩ (.string ⟨(List.replicate m (0 : UInt8)).toArray⟩)) gc a len cap code := hC4.grown R.2 (by simpa using hgne.symm) (fun k e => by cases e; have := hO4.lt; have := hC4.ge; have := h.bel.size; omega)
        have hG5 := grown_own hG4 R.2 hO4.lt.1
        have HR := Hid.mk' R.1
        have HC5 := Hid.mk' hC5
        have HG5 := Hid.mk' hG5
        have HT := Hid.mk' htR
        clear R hC5 hG5 htR hown hgrow hOb hB4 hO3 hC3 hG3' hO4 hC4 hG4
        go_wp2_with (at_builtin; fail)
        go_ret
        exact ⟨g, n, cp, _, by omega, HT.out, rfl, HR.out, HC5.out, HG5.out⟩
      · go_wp2_with (at_builtin; fail)
        go_ret
        exact ⟨g, n, cp, l, by omega, ht, rfl, hO2, hC2, hG2'⟩
    · have e1 : ((x : Int) == 0) = false := by simp; omega
      have e2 : ((x : Int) == 1) = false := by simp; omega
      go_wp2_with (at_builtin; fail)
      go_ret
      exact ⟨g, n, cp, l, by omega, ht, rfl, hO2, hC2, hG2'⟩


/-- pairs and two texts -/
def GotPut (w : World) (e : Ending) (w' : World) : Prop :=
  ∃ (g n cp : Nat) (l : List Pr) (x y : ByteArray), n ≤ 61 ∧ (∀ p ∈ l, tiny p) ∧ x.size ≤ 13 ∧ y.size ≤ 13 ∧ e = .returned (.tuple #[.slice (some ⟨g, 0, none⟩) n cp, .string x, .string y]) ∧ OwnP w' w.heap.size g n cp l ∧ Below w.heap.size w w'
/-- two lists of pairs -/
def GotTwo (w : World) (e : Ending) (w' : World) : Prop :=
  ∃ (g n cp : Nat) (l : List Pr) (g2 n2 cp2 : Nat) (l2 : List Pr), n ≤ 61 ∧ n2 ≤ 61 ∧ (∀ p ∈ l, tiny p) ∧ (∀ p ∈ l2, tiny p) ∧ g ≠ g2 ∧ e = .returned (.tuple #[.slice (some ⟨g, 0, none⟩) n cp, .slice (some ⟨g2, 0, none⟩) n2 cp2]) ∧ OwnP w' w.heap.size g n cp l ∧ OwnP w' w.heap.size g2 n2 cp2 l2 ∧ Below w.heap.size w w'

end Go.Proofs.Yteiokccimlcmpaa.pairs
