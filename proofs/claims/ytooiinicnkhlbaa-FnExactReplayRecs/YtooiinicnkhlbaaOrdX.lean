/- The specification's shards of orders. -/
import Derived.Test.YtooiinicnkhlbaaOrdV
import Derived.Test.YtooiinicnkhlbaaRowZ
namespace Go.Proofs.Ytooiinicnkhlbaa.ords
open Go Go.RowKit Go.Proofs.Ytooiinicnkhlbaa.base Go.Proofs.Ytooiinicnkhlbaa.pairs
set_option linter.unusedVariables false
set_option linter.unusedSimpArgs false

set_option maxRecDepth 100000 in
set_option maxHeartbeats 1000000 in
theorem spec_l7Has (a : Option Addr) (len cap : Nat) (zs : List Int) (n : Int) (w : World) (h : SlZ w a len zs) :
    Calls Try.prog 63 #[.slice a len cap, .int .i64 n] w fun e w' => e = .returned (.bool (decide (n ∈ zs))) ∧ w' = w := by
  obtain ⟨hl, hm, hc⟩ := h
  subst hl
  unfold maxLen at hm
  generalize hR : decide (n ∈ zs) = R
  have HR := Hid.mk' hR
  clear hR
  go_enter Try.func63, Try.ntmps63
  go_wp2
  go_loop [5] (fun i => ∃ k : Nat, k ≤ zs.length ∧ i = .int .i64 (k : Int) ∧ decide (n ∈ zs.drop k) = R) (fun i => zs.length - (intOf i).toNat)
  case atStart => exact ⟨0, Nat.zero_le _, rfl, HR.out⟩
  case round =>
    obtain ⟨k, hk, rfl, hr⟩ := hrel
    by_cases hlt : k < zs.length
    · obtain ⟨b, off, ha, hcl⟩ := hc (by omega)
      subst ha
      have c1 := hcl k hlt
      have hki : (k : Int) < (zs.length : Int) := by omega
      rw [List.drop_eq_getElem_cons hlt] at hr
      generalize zs[k] = z at *
      by_cases he : z = n
      · have HF : Hid (R = true) := by show _ = _; rw [← hr, he]; simp
        subst he
        have hq : (z == z) = true := beq_self_eq_true _
        clear hr hcl hc
        go_wp2
        go_ret
        exact ⟨ret_bool HF.out.symm, rfl⟩
      · have HF : Hid (decide (n ∈ zs.drop (k + 1)) = R) := by
          show _ = _
          rw [← hr]
          have : ¬ n = z := fun e => he e.symm
          simp [this]
        have hq : (z == n) = false := beq_eq_false_iff_ne.2 he
        clear hr hcl hc he
        go_wp2
        go_round
        case rel => exact ⟨k + 1, by omega, by go_num, HF.out⟩
        case measure => simp [intOf]; omega
    · have HF : Hid (R = false) := by show _ = _; rw [← hr, List.drop_eq_nil_of_le (by omega)]; simp
      clear hr
      go_wp2
      go_ret
      exact ⟨ret_bool HF.out.symm, rfl⟩


theorem putI_length (zs : List Int) (n : Int) : (putI zs n).length ≤ zs.length + 1 := by
  unfold putI
  split
  · omega
  · have h1 : ∀ l : List Int, (l.filter fun x => decide (x < n)).length + (l.filter fun x => decide (n < x)).length ≤ l.length := by
      intro l
      induction l with
      | nil => simp
      | cons x l ih =>
        simp only [List.filter_cons]
        by_cases a : x < n
        · have b : ¬ n < x := by omega
          simp [a, b]; omega
        · by_cases b : n < x
          · simp [a, b]; omega
          · simp [a, b]; omega
    have := h1 zs
    simp only [List.length_append, List.length_cons]
    omega
end Go.Proofs.Ytooiinicnkhlbaa.ords
