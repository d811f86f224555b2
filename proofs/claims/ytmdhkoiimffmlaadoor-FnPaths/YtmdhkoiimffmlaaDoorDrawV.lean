/- Draws of pairs and a place of one. -/
import Derived.Test.YtmdhkoiimffmlaaDoorDrawP
namespace Go.Proofs.YtmdhkoiimffmlaaDoor.pairs
open Go Go.RowKit Go.Proofs.YtmdhkoiimffmlaaDoor.base Go.Proofs.YtmdhkoiimffmlaaDoor.draw
set_option linter.unusedVariables false
set_option linter.unusedSimpArgs false

def GotPlace (w : World) (e : Ending) (w' : World) : Prop :=
  ∃ (g n cp i : Nat) (l : List Pr), n ≤ 9 ∧ i < n ∧ (∀ p ∈ l, tiny p) ∧ e = .returned (.tuple #[.slice (some ⟨g, 0, none⟩) n cp, .int .i64 (i : Int)]) ∧ OwnP w' w.heap.size g n cp l ∧ Below w.heap.size w w'

set_option maxRecDepth 100000 in
set_option maxHeartbeats 1000000 in
theorem drawPlace (a : Option Addr) (len cap : Nat) (code : List UInt8) (w : World) (h : Sl w a len code) (hln : len ≤ 1099511627776) :
    Calls Tryd.prog 17 #[.slice a len cap] w fun e w' => GotPlace w e w' := by
  obtain ⟨i0, hif, hz0, hz1, hz2⟩ := info_parts infoP
  go_enter Tryd.func17, Tryd.ntmps17
  go_wp2_with (at_builtin; fail)
  refine (new_ w w a len cap code h (Below.refl _ _) hln).mono ?_
  rintro e w1 ⟨rfl, hC1, hB1⟩
  have hlt1 := hC1.lt
  go_wp2_with (at_builtin; fail)
  refine (d_pairs w _ _ a len cap code hC1).mono ?_
  rintro e w2 ⟨g, n, cp, l, hn, ht, rfl, hO2, hC2, hG2⟩
  have hgne : g ≠ w.heap.size := by have := hO2.lt; omega
  go_wp2_with (at_builtin; fail)
  refine (d_val w _ _ a len cap code hC2).mono ?_
  rintro e w3 ⟨z, hz, rfl, hC3, hG3⟩
  have hO3 := hO2.grown hG3 (by simpa using hgne)
  have hB3 := hC3.bel
  have hs3 := hB3.size
  have hc3 : n + 1 ≤ maxLen := by unfold maxLen; omega
  have hc4 : (n + 1) * 32 ≤ 140737488355328 := by omega
  have hzz : small ((⟨#[122, 122]⟩ : ByteArray), z) := ⟨by show (⟨#[122, 122]⟩ : ByteArray).size ≤ maxLen; decide, Nat.le_trans hz (by decide)⟩
  have hgl := hO3.lt
  have hs13 : w1.heap.size ≤ w3.heap.size := Nat.le_trans hG2.size hG3.size
  clear hO2 hC2 hG2 hG3 hC1
  go_wp2_with (at_builtin; refine wpList_append_own _ rfl (.tmp 9) (.tmp 13) 30 rfl w1.heap.size 38 i0 (.agg #[.string ⟨#[]⟩, .string ⟨#[]⟩]) 2 32 Tryd.underlying30 hif hz0 hz1 hz2 rfl (by decide) _ _ _ rfl (hO3.2.2.alloc _) ⟨w3.heap.size, 0, none⟩ 1 1 (pairVals [((⟨#[122, 122]⟩ : ByteArray), z)]) rfl rfl (one_pair_cells _ _ _) (pairVals_oneCell _) hc3 hc4 (le_alloc _ _ hs13) ?_)
  intro v4 w4 hown hgrow hnn
  obtain ⟨g4, cp4, hv, hO4⟩ := ownP_app hO3.1 hO3.2.1 hzz hnn hown
  subst hv
  have hgr : (w3.alloc (.cells #[.string ⟨#[122, 122]⟩, .string z] 38)).grownBy w4 (some g) := hgrow
  have hC4 := (hC3.below ((Below.refl _ _).alloc (Nat.le_refl _) _)).grown hgr (by simpa using fun e => hgne e.symm) (fun k e => by cases e; exact Nat.le_trans hB1.size hgl.1)
  have hl4 := hO4.1
  have ht4 : ∀ p ∈ l ++ [((⟨#[122, 122]⟩ : ByteArray), z)], tiny p := fun p hp => by
    rcases List.mem_append.1 hp with h1 | h1
    · exact ht p h1
    · rw [List.mem_singleton.1 h1]; exact ⟨by show (⟨#[122, 122]⟩ : ByteArray).size ≤ 13; decide, by show z.size ≤ 21; omega⟩
  have HO4 := Hid.mk' hO4
  have hgne4 : g4 ≠ w.heap.size := by have := hO4.lt; omega
  clear hown hgrow hnn hO3 hC3 hB3 hgr hO4
  go_wp2_with (at_builtin; fail)
  refine (below_ w _ _ a len cap code _ hC4 (by omega) (by omega)).mono ?_
  rintro e w5 ⟨x, hx, rfl, hC5, hG5⟩
  have hO5 := HO4.out.grown hG5 (by simpa using hgne4)
  have HO5 := Hid.mk' hO5
  clear HO4 hO5 hG5
  go_wp2_with (at_builtin; fail)
  go_ret2
  exact ⟨g4, n + 1, cp4, x, _, by omega, by omega, ht4, rfl, HO5.out.mono hB1.size, hC5.bel⟩

end Go.Proofs.YtmdhkoiimffmlaaDoor.pairs
