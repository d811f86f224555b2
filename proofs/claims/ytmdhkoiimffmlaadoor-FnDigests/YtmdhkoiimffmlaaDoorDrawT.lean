/- Draws of two texts. -/
import Derived.Test.YtmdhkoiimffmlaaDoorDraws1
namespace Go.Proofs.YtmdhkoiimffmlaaDoor.draw
open Go.RowKit Go.Proofs.YtmdhkoiimffmlaaDoor.base
set_option linter.unusedVariables false
set_option linter.unusedSimpArgs false

def GotTwo (w : World) (e : Ending) (w' : World) : Prop :=
  ∃ (s t : ByteArray), s.size ≤ 1000 ∧ t.size ≤ 1000 ∧ e = .returned (.tuple #[.string s, .string t]) ∧ Below w.heap.size w w'
theorem of_list_size (l : List UInt8) (n : Nat) (h : l.length ≤ n) : (⟨l.toArray⟩ : ByteArray).size ≤ n := by
  show l.toArray.size ≤ n
  rw [List.size_toArray]; exact h

set_option maxRecDepth 100000 in
set_option maxHeartbeats 1000000 in
theorem drawNodeOf (a : Option Addr) (len cap : Nat) (code : List UInt8) (w : World) (h : Sl w a len code) (hln : len ≤ 1099511627776) :
    Calls Tryd.prog 12 #[.slice a len cap] w fun e w' => GotTwo w e w' := by
  go_enter Tryd.func12, Tryd.ntmps12
  go_wp2_with fail
  refine (new_ w w a len cap code h (Below.refl _ _) hln).mono ?_
  rintro e w1 ⟨rfl, hC1, hB1⟩
  have hCd := hC1.drew
  go_wp2_with fail
  go_region_with (first | (go_at_call 40; refine (some_ w _ _ a len cap code hC2).mono ?_; rintro e w3 ⟨g3, m3, cp3, bs3, hm3, rfl, hO3, hC3, hG3⟩; have hcv3 := conv_own hO3; have hO2' := hO2.grown hG3 (by have := hO2.lt; have := hC1.lt; simp at *; omega); have hcv2 := conv_own hO2') | (go_at_call 40; refine (some_ w _ _ a len cap code hCd).mono ?_; rintro e w2 ⟨g, m, cp, bs, hm, rfl, hO2, hC2, hG2⟩; have hcv := conv_own hO2))
  all_goals
    have hl2 := hO2.1
    have hl3 := hO3.1
    have hB3 := hC3.bel
    clear hcv3 hcv2 hcv hO2' hO2 hO3 hC2 hC3 hG2 hG3 hC1 hCd hB1
    go_wp2_with fail
    go_ret2
    exact ⟨_, _, of_list_size bs 1000 (by omega), of_list_size bs3 1000 (by omega), rfl, hB3⟩

end Go.Proofs.YtmdhkoiimffmlaaDoor.draw
