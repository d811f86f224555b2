/- The program's records: what is right. -/
import Derived.Test.YtooiinicnkhlbaaRecS
import Derived.Test.YtooiinicnkhlbaaOrdJ
namespace Go.Proofs.Ytooiinicnkhlbaa.recs
open Go Go.RowKit Go.Proofs.Ytooiinicnkhlbaa.base Go.Proofs.Ytooiinicnkhlbaa.pairs Go.Proofs.Ytooiinicnkhlbaa.ords
set_option linter.unusedVariables false
set_option linter.unusedSimpArgs false

theorem impl_opsOkA (a : Option Addr) (len cap : Nat) (l : List Od) (w : World) (h : SlO w a len l) (hks : ∀ p ∈ l, p.2.1.size ≤ 1099511627776) :
    Calls Try.prog 42 #[.slice a len cap] w fun e w' => e = .returned (.bool (opsOk l)) ∧ Below w.heap.size w w' := by
  by_cases h0 : len = 0
  · subst h0
    obtain rfl : l = [] := List.eq_nil_of_length_eq_zero h.1
    go_enter Try.func42, Try.ntmps42
    go_wp2_with fail
    go_ret
    exact ⟨ret_bool (by decide), Below.refl _ _⟩
  · obtain ⟨b, off, ha, _⟩ := h.2.2.2 (by omega)
    subst ha
    exact impl_opsOk b off len cap l w h hks

set_option maxRecDepth 100000 in
set_option maxHeartbeats 2000000 in
theorem impl_recOk (kind tx : Int) (a : Option Addr) (len cap : Nat) (l : List Od) (w : World) (h : SlO w a len l) (hks : ∀ p ∈ l, p.2.1.size ≤ 1099511627776) :
    Calls Try.prog 15 #[.agg #[.int .i64 kind, .int .i64 tx, .slice a len cap]] w fun e w' => e = .returned (.bool (recOk (kind, tx, l))) ∧ Below w.heap.size w w' := by
  have hba : Below w.heap.size w (w.alloc (.cells #[.int .i64 kind, .int .i64 tx, .slice a len cap] 32)) := (Below.refl _ _).alloc (Nat.le_refl _) _
  have hl := h.1
  have hm := h.2.1
  unfold maxLen at hm
  by_cases ht : 1 ≤ tx ∧ tx ≤ 1000000
  · have HR : Hid (recOk (kind, tx, l) = if kind = 1 then opsOk l else decide (kind = 2 ∨ kind = 3) && l.isEmpty) := by show _ = _; unfold recOk; rw [decide_eq_true ht]; simp
    have ht1 : ¬ tx < 1 := by omega
    have ht2 : ¬ 1000000 < tx := by omega
    clear ht
    by_cases h1 : kind = 1
    · subst h1
      have HO := Hid.mk' (impl_opsOkA a len cap l _ (h.below hba) hks)
      rw [if_pos rfl] at HR
      generalize opsOk l = K at *
      go_enter Try.func15, Try.ntmps15
      go_wp2_with fail
      refine HO.out.mono ?_
      rintro e w1 ⟨rfl, hb1⟩
      go_wp2_with fail
      go_ret
      exact ⟨ret_bool HR.out.symm, hba.trans (hb1.mono hba.size)⟩
    · rw [if_neg h1] at HR
      have hk1 : (kind == 1) = false := beq_eq_false_iff_ne.2 h1
      by_cases h23 : kind = 2 ∨ kind = 3
      · rw [decide_eq_true h23, Bool.true_and] at HR
        by_cases h0 : len = 0
        · have HE : Hid (recOk (kind, tx, l) = true) := by show _ = _; rw [HR.out, List.isEmpty_iff]; exact List.eq_nil_of_length_eq_zero (by omega)
          subst h0
          rcases h23 with rfl | rfl
          all_goals
            clear HR h1 hk1
            go_enter Try.func15, Try.ntmps15
            go_wp2_with fail
            go_ret
            exact ⟨ret_bool HE.out.symm, hba⟩
        · have HE : Hid (recOk (kind, tx, l) = false) := by
            show _ = _
            rw [HR.out]
            cases l with
            | nil => simp at hl; omega
            | cons x l => rfl
          have hl0 : ((len : Int) == 0) = false := by simp; omega
          rcases h23 with rfl | rfl
          all_goals
            clear HR h1 hk1
            go_enter Try.func15, Try.ntmps15
            go_wp2_with fail
            go_ret
            exact ⟨ret_bool HE.out.symm, hba⟩
      · rw [decide_eq_false h23, Bool.false_and] at HR
        have hk2 : (kind == 2) = false := beq_eq_false_iff_ne.2 (fun e => h23 (.inl e))
        have hk3 : (kind == 3) = false := beq_eq_false_iff_ne.2 (fun e => h23 (.inr e))
        clear h1 h23
        go_enter Try.func15, Try.ntmps15
        go_wp2_with fail
        go_ret
        exact ⟨ret_bool HR.out.symm, hba⟩
  · have HR : Hid (recOk (kind, tx, l) = false) := by show _ = _; unfold recOk; rw [decide_eq_false ht]; rfl
    by_cases ht1 : tx < 1
    · clear ht
      go_enter Try.func15, Try.ntmps15
      go_wp2_with fail
      go_ret
      exact ⟨ret_bool HR.out.symm, hba⟩
    · have ht2 : 1000000 < tx := by omega
      clear ht
      go_enter Try.func15, Try.ntmps15
      go_wp2_with fail
      go_ret
      exact ⟨ret_bool HR.out.symm, hba⟩
end Go.Proofs.Ytooiinicnkhlbaa.recs
