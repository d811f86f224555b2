/- The specification's orders: what is right, what is met. -/
import Derived.Test.YtjodbijcgcjndaaOrdRow
import Derived.Test.YtjodbijcgcjndaaPairV
namespace Go.Proofs.Ytjodbijcgcjndaa.ords
open Go Go.RowKit Go.Proofs.Ytjodbijcgcjndaa.base Go.Proofs.Ytjodbijcgcjndaa.pairs
set_option linter.unusedVariables false
set_option linter.unusedSimpArgs false

set_option maxHeartbeats 400000 in
theorem s_inZ (x a b : Int) (w : World) :
    Calls Try.prog 39 #[.int .i64 x, .int .i64 a, .int .i64 b] w fun e w' => e = .returned (.bool (decide (a ≤ x ∧ x ≤ b))) ∧ w' = w := by
  by_cases h1 : a ≤ x
  · by_cases h2 : x ≤ b
    · go_enter Try.func39, Try.ntmps39
      go_wp2
      go_ret
      exact ⟨ret_bool (by simp [h1, h2]), rfl⟩
    · go_enter Try.func39, Try.ntmps39
      go_wp2
      go_ret
      exact ⟨ret_bool (by simp [h1, h2]), rfl⟩
  · go_enter Try.func39, Try.ntmps39
    go_wp2
    go_ret
    exact ⟨ret_bool (by have h3 : ¬ a ≤ x := by omega
                        simp [h3]), rfl⟩

theorem size_empty {v : ByteArray} (h : v.size = 0) : v = ⟨#[]⟩ := by
  apply bytes_ext; exact List.eq_nil_of_length_eq_zero (by rw [Array.length_toList]; exact h)
theorem not_empty {v : ByteArray} (h : ¬ v.size = 0) : ¬ v.toList = [] ∧ v.toList.isEmpty = false := by
  have hq : ¬ v.toList = [] := fun e => h (by have : v = ⟨#[]⟩ := bytes_ext (by rw [← ByteArray.toList_eq]; exact e)
                                              rw [this]; rfl)
  exact ⟨hq, by rw [Bool.eq_false_iff]; intro e; exact hq (List.isEmpty_iff.1 e)⟩

set_option maxRecDepth 100000 in
set_option maxHeartbeats 1000000 in
theorem spec_l7Op (o : Od) (w : World) (ho : smallO o) (hs : o.2.1.size ≤ 1099511627776) :
    Calls Try.prog 61 #[.agg #[.int .i64 o.1, .string o.2.1, .string o.2.2]] w fun e w' => e = .returned (.bool (odOk o)) ∧ Below w.heap.size w w' := by
  obtain ⟨z, k, v⟩ := o
  have h2 := ho.2.2
  simp only [] at h2 hs ⊢
  unfold maxLen at h2
  have hba : Below w.heap.size w (w.alloc (.cells #[.int .i64 z, .string k, .string v] 90)) := (Below.refl _ _).alloc (Nat.le_refl _) _
  have hin := s_inZ z 1 3 (w.alloc (.cells #[.int .i64 z, .string k, .string v] 90))
  have hk := spec_keyOk k (w.alloc (.cells #[.int .i64 z, .string k, .string v] 90)) hs
  generalize hK : keyOk k = K at hk
  have H1 := Hid.mk' hK
  have HK := Hid.mk' hk
  clear hk hK ho
  by_cases hz : 1 ≤ z ∧ z ≤ 3
  · rw [decide_eq_true hz] at hin
    have HI := Hid.mk' hin
    clear hin
    by_cases hz2 : z = 2
    · subst hz2
      by_cases hv : v.size = 0
      · obtain rfl := size_empty hv
        clear hz hv
        go_enter Try.func61, Try.ntmps61
        go_wp2_with fail
        refine HI.out.mono ?_
        rintro e w1 ⟨rfl, rfl⟩
        go_wp2_with fail
        refine HK.out.mono ?_
        rintro e w1 ⟨rfl, rfl⟩
        cases K
        all_goals
          go_wp2_with fail
          go_ret
          exact ⟨ret_bool (by unfold odOk; rw [H1.out]; rfl), hba⟩
      · have HV := Hid.mk' hv
        obtain ⟨hq, hq2⟩ := not_empty hv
        clear hz hv
        go_enter Try.func61, Try.ntmps61
        go_wp2_with fail
        refine HI.out.mono ?_
        rintro e w1 ⟨rfl, rfl⟩
        go_wp2_with fail
        go_ret
        exact ⟨ret_bool (by have := HV.out; unfold odOk; simp [this]), hba⟩
    · have HZ := Hid.mk' hz
      have HZ2 := Hid.mk' hz2
      have hb : (z == 2) = false := beq_eq_false_iff_ne.2 hz2
      clear hz hz2
      go_enter Try.func61, Try.ntmps61
      go_wp2_with fail
      refine HI.out.mono ?_
      rintro e w1 ⟨rfl, rfl⟩
      go_wp2_with fail
      refine HK.out.mono ?_
      rintro e w1 ⟨rfl, rfl⟩
      cases K
      all_goals
        go_wp2_with fail
        go_ret
        exact ⟨ret_bool (by have a := HZ.out; have b := HZ2.out; unfold odOk; rw [H1.out]; simp [a, b]; try omega), hba⟩
  · rw [decide_eq_false hz] at hin
    have HI := Hid.mk' hin
    have HZ := Hid.mk' hz
    clear hin hz
    go_enter Try.func61, Try.ntmps61
    go_wp2_with fail
    refine HI.out.mono ?_
    rintro e w1 ⟨rfl, rfl⟩
    go_wp2_with fail
    go_ret
    exact ⟨ret_bool (by unfold odOk; rw [decide_eq_false HZ.out]; rfl), hba⟩

end Go.Proofs.Ytjodbijcgcjndaa.ords
