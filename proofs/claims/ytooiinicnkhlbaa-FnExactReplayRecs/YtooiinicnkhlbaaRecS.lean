/- The specification's records: what is right. -/
import Derived.Test.YtooiinicnkhlbaaRecRow
import Derived.Test.YtooiinicnkhlbaaOrdT
namespace Go.Proofs.Ytooiinicnkhlbaa.recs
open Go Go.RowKit Go.Proofs.Ytooiinicnkhlbaa.base Go.Proofs.Ytooiinicnkhlbaa.pairs Go.Proofs.Ytooiinicnkhlbaa.ords
set_option linter.unusedVariables false
set_option linter.unusedSimpArgs false

set_option maxRecDepth 100000 in
set_option maxHeartbeats 1000000 in
theorem spec_opsNil (a : Option Addr) (cap : Nat) (w : World) :
    Calls Try.prog 40 #[.slice a 0 cap] w fun e w' => e = .returned (.bool false) ∧ w' = w := by
  go_enter Try.func40, Try.ntmps40
  go_wp2_with fail
  refine wp_loop_rounds 1 ?_
  rw [rounds_succ]
  go_wp2_with fail
  refine (s_inZ 0 1 8 _).mono ?_
  rintro e w9 ⟨rfl, rfl⟩
  go_wp2_with fail
  go_ret
  exact ⟨ret_bool (by decide), rfl⟩
theorem spec_opsOkA (a : Option Addr) (len cap : Nat) (l : List Od) (w : World) (h : SlO w a len l) (hks : ∀ p ∈ l, p.2.1.size ≤ 1099511627776) :
    Calls Try.prog 40 #[.slice a len cap] w fun e w' => e = .returned (.bool (opsOk l)) ∧ Below w.heap.size w w' := by
  by_cases h0 : len = 0
  · subst h0
    obtain rfl : l = [] := List.eq_nil_of_length_eq_zero h.1
    refine (spec_opsNil a cap w).mono ?_
    rintro e w' ⟨rfl, rfl⟩
    exact ⟨rfl, Below.refl _ _⟩
  · obtain ⟨b, off, ha, _⟩ := h.2.2.2 (by omega)
    subst ha
    exact spec_opsOk b off len cap l w h hks

/-- a box of a record -/
def BoxR (X : Nat) (kind tx : Int) (v : Value) (w : World) : Prop := w.heap[X]? = some (.cells #[.int .i64 kind, .int .i64 tx, v] 32 (0, 0))
theorem boxR_new (w : World) (kind tx : Int) (v : Value) : BoxR w.heap.size kind tx v (w.alloc (.cells #[.int .i64 kind, .int .i64 tx, v] 32)) := heap_alloc_new w _
section
variable {X : Nat} {kind tx : Int} {v : Value} {w w' : World}
theorem BoxR.cells (h : BoxR X kind tx v w) : w.cell? ⟨X, 0, none⟩ = some (.int .i64 kind) ∧ w.cell? ⟨X, 1, none⟩ = some (.int .i64 tx) ∧ w.cell? ⟨X, 2, none⟩ = some v := by
  unfold BoxR at h
  simp [World.cell?, h]
theorem BoxR.lt (h : BoxR X kind tx v w) : X < w.heap.size := (Array.getElem?_eq_some_iff.1 h).1
theorem BoxR.below (h : BoxR X kind tx v w) (hb : Below w.heap.size w w') : BoxR X kind tx v w' := by
  have h' := h.lt
  unfold BoxR at h ⊢
  rw [hb.block X h', h]
theorem BoxR.grown {row : Option Nat} (h : BoxR X kind tx v w) (hg : w.grownBy w' row) (hne : some X ≠ row) : BoxR X kind tx v w' := by
  have h' := h.lt
  unfold BoxR at h ⊢
  rw [hg.block X h' hne, h]
end

set_option maxRecDepth 100000 in
set_option maxHeartbeats 2000000 in
theorem spec_recOk (kind tx : Int) (a : Option Addr) (len cap : Nat) (l : List Od) (w : World) (h : SlO w a len l) (hks : ∀ p ∈ l, p.2.1.size ≤ 1099511627776) :
    Calls Try.prog 13 #[.agg #[.int .i64 kind, .int .i64 tx, .slice a len cap]] w fun e w' => e = .returned (.bool (recOk (kind, tx, l))) ∧ Below w.heap.size w w' := by
  have hba : Below w.heap.size w (w.alloc (.cells #[.int .i64 kind, .int .i64 tx, .slice a len cap] 32)) := (Below.refl _ _).alloc (Nat.le_refl _) _
  have hin := s_inZ tx 1 1000000 (w.alloc (.cells #[.int .i64 kind, .int .i64 tx, .slice a len cap] 32))
  have hl := h.1
  have hm := h.2.1
  unfold maxLen at hm
  by_cases ht : 1 ≤ tx ∧ tx ≤ 1000000
  · rw [decide_eq_true ht] at hin
    have HI := Hid.mk' hin
    have HR : Hid (recOk (kind, tx, l) = if kind = 1 then opsOk l else decide (kind = 2 ∨ kind = 3) && l.isEmpty) := by show _ = _; unfold recOk; rw [decide_eq_true ht]; simp
    clear hin ht
    by_cases h1 : kind = 1
    · subst h1
      have HO := Hid.mk' (spec_opsOkA a len cap l _ (h.below hba) hks)
      rw [if_pos rfl] at HR
      generalize opsOk l = K at *
      go_enter Try.func13, Try.ntmps13
      go_wp2_with fail
      refine HI.out.mono ?_
      rintro e w1 ⟨rfl, hw1⟩
      subst hw1
      go_wp2_with fail
      refine HO.out.mono ?_
      rintro e w1 ⟨rfl, hb1⟩
      go_wp2_with fail
      go_ret
      exact ⟨ret_bool HR.out.symm, hba.trans (hb1.mono hba.size)⟩
    · rw [if_neg h1] at HR
      have hk1 : (kind == 1) = false := beq_eq_false_iff_ne.2 h1
      by_cases h23 : kind = 2 ∨ kind = 3
      · rw [decide_eq_true h23, Bool.true_and] at HR
        by_cases h0 : len = 0
        · have HE : Hid (recOk (kind, tx, l) = true) := by show _ = _; rw [HR.out, List.isEmpty_iff]; exact List.eq_nil_of_length_eq_zero (by omega)
          subst h0
          rcases h23 with rfl | rfl
          all_goals
            clear HR h1 hk1
            go_enter Try.func13, Try.ntmps13
            go_wp2_with fail
            refine HI.out.mono ?_
            rintro e w1 ⟨rfl, hw1⟩
            subst hw1
            go_wp2_with fail
            go_ret
            exact ⟨ret_bool HE.out.symm, hba⟩
        · have HE : Hid (recOk (kind, tx, l) = false) := by
            show _ = _
            rw [HR.out]
            cases l with
            | nil => simp at hl; omega
            | cons x l => rfl
          have hl0 : ((len : Int) == 0) = false := by simp; omega
          rcases h23 with rfl | rfl
          all_goals
            clear HR h1 hk1
            go_enter Try.func13, Try.ntmps13
            go_wp2_with fail
            refine HI.out.mono ?_
            rintro e w1 ⟨rfl, hw1⟩
            subst hw1
            go_wp2_with fail
            go_ret
            exact ⟨ret_bool HE.out.symm, hba⟩
      · rw [decide_eq_false h23, Bool.false_and] at HR
        have hk2 : (kind == 2) = false := beq_eq_false_iff_ne.2 (fun e => h23 (.inl e))
        have hk3 : (kind == 3) = false := beq_eq_false_iff_ne.2 (fun e => h23 (.inr e))
        clear h1 h23
        go_enter Try.func13, Try.ntmps13
        go_wp2_with fail
        refine HI.out.mono ?_
        rintro e w1 ⟨rfl, hw1⟩
        subst hw1
        go_wp2_with fail
        go_ret
        exact ⟨ret_bool HR.out.symm, hba⟩
  · rw [decide_eq_false ht] at hin
    have HI := Hid.mk' hin
    have HR : Hid (recOk (kind, tx, l) = false) := by show _ = _; unfold recOk; rw [decide_eq_false ht]; rfl
    clear hin ht
    go_enter Try.func13, Try.ntmps13
    go_wp2_with fail
    refine HI.out.mono ?_
    rintro e w1 ⟨rfl, hw1⟩
    subst hw1
    go_wp2_with fail
    go_ret
    exact ⟨ret_bool HR.out.symm, hba⟩
end Go.Proofs.Ytooiinicnkhlbaa.recs
