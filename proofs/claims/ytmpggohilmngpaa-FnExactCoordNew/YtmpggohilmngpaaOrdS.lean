/- The specification's orders: what is right, what is met. -/
import Derived.Test.YtmpggohilmngpaaOrdRow
import Derived.Test.YtmpggohilmngpaaPairV
namespace Go.Proofs.Ytmpggohilmngpaa.ords
open Go Go.RowKit Go.Proofs.Ytmpggohilmngpaa.base Go.Proofs.Ytmpggohilmngpaa.pairs
set_option linter.unusedVariables false
set_option linter.unusedSimpArgs false

set_option maxHeartbeats 400000 in
theorem s_inZ (x a b : Int) (w : World) :
    Calls Try.prog 9 #[.int .i64 x, .int .i64 a, .int .i64 b] w fun e w' => e = .returned (.bool (decide (a ≤ x ∧ x ≤ b))) ∧ w' = w := by
  by_cases h1 : a ≤ x
  · by_cases h2 : x ≤ b
    · go_enter Try.func9, Try.ntmps9
      go_wp2
      go_ret
      exact ⟨ret_bool (by simp [h1, h2]), rfl⟩
    · go_enter Try.func9, Try.ntmps9
      go_wp2
      go_ret
      exact ⟨ret_bool (by simp [h1, h2]), rfl⟩
  · go_enter Try.func9, Try.ntmps9
    go_wp2
    go_ret
    exact ⟨ret_bool (by have h3 : ¬ a ≤ x := by omega
                        simp [h3]), rfl⟩

theorem size_empty {v : ByteArray} (h : v.size = 0) : v = ⟨#[]⟩ := by
  apply bytes_ext; exact List.eq_nil_of_length_eq_zero (by rw [Array.length_toList]; exact h)
theorem not_empty {v : ByteArray} (h : ¬ v.size = 0) : ¬ v.toList = [] ∧ v.toList.isEmpty = false := by
  have hq : ¬ v.toList = [] := fun e => h (by have : v = ⟨#[]⟩ := bytes_ext (by rw [← ByteArray.toList_eq]; exact e)
                                              rw [this]; rfl)
  exact ⟨hq, by rw [Bool.eq_false_iff]; intro e; exact hq (List.isEmpty_iff.1 e)⟩


end Go.Proofs.Ytmpggohilmngpaa.ords
