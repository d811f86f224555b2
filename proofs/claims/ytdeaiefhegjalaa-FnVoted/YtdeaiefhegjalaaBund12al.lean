/- The specification's places of choices and jobs; a box of one who decides. -/
import Derived.Test.YtdeaiefhegjalaaBund12ah
import Derived.Test.YtdeaiefhegjalaaBund12ak
namespace Go.Proofs.Ytdeaiefhegjalaa.cos
open Go Go.RowKit Go.Proofs.Ytdeaiefhegjalaa.base Go.Proofs.Ytdeaiefhegjalaa.pairs Go.Proofs.Ytdeaiefhegjalaa.ords Go.Proofs.Ytdeaiefhegjalaa.lay Go.Proofs.Ytdeaiefhegjalaa.wds
set_option linter.unusedVariables false
set_option linter.unusedSimpArgs false

/-- the value of one who decides -/
abbrev coV (n life next sure : Int) (ja : Option Addr) (jn jc : Nat) (la : Option Addr) (ln lc : Nat) : Value := .agg #[.int .i64 n, .int .i64 life, .int .i64 next, .slice ja jn jc, .slice la ln lc, .int .i64 sure]
/-- its box -/
abbrev coO (n life next sure : Int) (ja : Option Addr) (jn jc : Nat) (la : Option Addr) (ln lc : Nat) : Obj := .cells #[.int .i64 n, .int .i64 life, .int .i64 next, .slice ja jn jc, .slice la ln lc, .int .i64 sure] 27
def BoxC (X : Nat) (n life next sure : Int) (ja : Option Addr) (jn jc : Nat) (la : Option Addr) (ln lc : Nat) (w : World) : Prop := w.heap[X]? = some (.cells #[.int .i64 n, .int .i64 life, .int .i64 next, .slice ja jn jc, .slice la ln lc, .int .i64 sure] 27 (0, 0))
section
variable {X : Nat} {n life next sure : Int} {ja : Option Addr} {jn jc : Nat} {la : Option Addr} {ln lc : Nat} {w w' : World}
theorem boxC_new (w : World) (n life next sure : Int) (ja : Option Addr) (jn jc : Nat) (la : Option Addr) (ln lc : Nat) : BoxC w.heap.size n life next sure ja jn jc la ln lc (w.alloc (coO n life next sure ja jn jc la ln lc)) := heap_alloc_new w _
theorem BoxC.cells (h : BoxC X n life next sure ja jn jc la ln lc w) : w.cell? ⟨X, 0, none⟩ = some (.int .i64 n) ∧ w.cell? ⟨X, 1, none⟩ = some (.int .i64 life) ∧ w.cell? ⟨X, 2, none⟩ = some (.int .i64 next) ∧ w.cell? ⟨X, 3, none⟩ = some (.slice ja jn jc) ∧ w.cell? ⟨X, 4, none⟩ = some (.slice la ln lc) ∧ w.cell? ⟨X, 5, none⟩ = some (.int .i64 sure) := by
  unfold BoxC at h
  simp [World.cell?, h]
theorem BoxC.lt (h : BoxC X n life next sure ja jn jc la ln lc w) : X < w.heap.size := (Array.getElem?_eq_some_iff.1 h).1
theorem BoxC.below (h : BoxC X n life next sure ja jn jc la ln lc w) (hb : Below w.heap.size w w') : BoxC X n life next sure ja jn jc la ln lc w' := (hb.block X h.lt).trans h
theorem BoxC.grown {row : Option Nat} (h : BoxC X n life next sure ja jn jc la ln lc w) (hg : w.grownBy w' row) (hne : some X ≠ row) : BoxC X n life next sure ja jn jc la ln lc w' := (hg.block X h.lt hne).trans h
theorem BoxC.fz (h : BoxC X n life next sure ja jn jc la ln lc w) (j : Nat) : w.frozen? ⟨X, j, none⟩ = false := by unfold BoxC at h; simp [World.frozen?, h]
end
theorem below_new (w : World) (o : Obj) : Below w.heap.size w (w.alloc o) := (Below.refl _ _).alloc (Nat.le_refl _) _
theorem idx_some (k : Nat) : idx (some k) = (k : Int) := rfl
theorem idx_none : idx none = -1 := rfl

set_option maxRecDepth 100000 in
set_option maxHeartbeats 1000000 in
theorem spec_chosen (n life next sure : Int) (ja : Option Addr) (jn jc : Nat) (la : Option Addr) (ln lc : Nat) (log : List Ch) (tx : Int) (w : World) (h : SlG chR w la ln log) :
    Calls Try.prog 24 #[coV n life next sure ja jn jc la ln lc, .int .i64 tx] w fun e w' => e = .returned (.int .i64 (idx (chosen log tx))) ∧ w' = w.alloc (coO n life next sure ja jn jc la ln lc) := by
  have hl := h.1
  have hm := h.2.1
  unfold maxLen at hm
  have hb := below_new w (coO n life next sure ja jn jc la ln lc)
  have hbx := boxC_new w n life next sure ja jn jc la ln lc
  have hS := h.below hb
  obtain ⟨W, hW⟩ : ∃ W, w.alloc (coO n life next sure ja jn jc la ln lc) = W := ⟨_, rfl⟩
  rw [hW] at hbx hS
  have HW := Hid.mk' hW
  obtain ⟨c0, c1, c2, c3, c4, c5⟩ := hbx.cells
  clear h hb hW
  rw [HW.out]
  go_enter Try.func24, Try.ntmps24
  go_wp2_with fail
  rw [HW.out]
  go_loopw [5] (fun i wr => ∃ k : Nat, k ≤ ln ∧ i = .int .i64 (k : Int) ∧ wr = W ∧ ∀ j (hj : j < k) (hjl : j < log.length), log[j].1 ≠ tx) (fun i _ => ln - (intOf i).toNat)
  case atStart => exact ⟨0, Nat.zero_le _, rfl, rfl, fun j hj => absurd hj (by omega)⟩
  case round =>
    obtain ⟨k, hk, rfl, hwr, hall⟩ := hrel
    replace hwr := hwr.symm
    subst hwr
    have HALL := Hid.mk' hall
    clear hall
    by_cases hlt : k < ln
    · have hltl : k < log.length := by omega
      obtain ⟨b, off, e⟩ := slg_some hS (by omega)
      subst e
      have hki : (k : Int) < (ln : Int) := by omega
      have hat := (ch_at hS k hltl).1
      by_cases ht : log[k].1 = tx
      · have HF : Hid (idx (chosen log tx) = (k : Int)) := by
          show _ = _
          rw [show chosen log tx = some k from findIdx_hit hltl (fun i hi => decide_eq_false (HALL.out i hi (by omega))) (decide_eq_true ht)]
          rfl
        rw [ht] at hat
        clear ht HALL
        go_wp2_with fail
        go_ret
        exact ⟨ret_int HF.out.symm, rfl⟩
      · have HN : Hid (∀ j (hj : j < k + 1) (hjl : j < log.length), log[j].1 ≠ tx) := fun j hj hjl => by
          rcases Nat.lt_succ_iff_lt_or_eq.1 hj with e | e
          · exact HALL.out j e hjl
          · subst e; exact ht
        generalize log[k].1 = txk at *
        have htb : (txk == tx) = false := beq_eq_false_iff_ne.2 ht
        clear HALL
        go_wp2_with fail
        go_roundw
        case rel => exact ⟨k + 1, by omega, by go_num, by first | rfl | trivial, HN.out⟩
        case measure => simp [intOf]; omega
    · have hnk : ¬ (k : Int) < (ln : Int) := by omega
      have HF : Hid (idx (chosen log tx) = -1) := by
        show _ = _
        rw [show chosen log tx = none from findIdx_none (fun i hi => decide_eq_false (HALL.out i (by omega) hi))]
        rfl
      clear HALL
      go_wp2_with fail
      go_ret
      exact ⟨ret_int HF.out.symm, rfl⟩
set_option maxRecDepth 100000 in
set_option maxHeartbeats 1000000 in
theorem spec_jobAt (n life next sure : Int) (ja : Option Addr) (jn jc : Nat) (la : Option Addr) (ln lc : Nat) (jobs : List Jb) (tx : Int) (w : World) (h : SlG jobR w ja jn jobs) :
    Calls Try.prog 36 #[coV n life next sure ja jn jc la ln lc, .int .i64 tx] w fun e w' => e = .returned (.int .i64 (idx (jobAt jobs tx))) ∧ w' = w.alloc (coO n life next sure ja jn jc la ln lc) := by
  have hl := h.1
  have hm := h.2.1
  unfold maxLen at hm
  have hb := below_new w (coO n life next sure ja jn jc la ln lc)
  have hbx := boxC_new w n life next sure ja jn jc la ln lc
  have hS := h.below hb
  obtain ⟨W, hW⟩ : ∃ W, w.alloc (coO n life next sure ja jn jc la ln lc) = W := ⟨_, rfl⟩
  rw [hW] at hbx hS
  have HW := Hid.mk' hW
  obtain ⟨c0, c1, c2, c3, c4, c5⟩ := hbx.cells
  clear h hb hW
  rw [HW.out]
  go_enter Try.func36, Try.ntmps36
  go_wp2_with fail
  rw [HW.out]
  go_loopw [5] (fun i wr => ∃ k : Nat, k ≤ jn ∧ i = .int .i64 (k : Int) ∧ wr = W ∧ ∀ j (hj : j < k) (hjl : j < jobs.length), jobs[j].1 ≠ tx) (fun i _ => jn - (intOf i).toNat)
  case atStart => exact ⟨0, Nat.zero_le _, rfl, rfl, fun j hj => absurd hj (by omega)⟩
  case round =>
    obtain ⟨k, hk, rfl, hwr, hall⟩ := hrel
    replace hwr := hwr.symm
    subst hwr
    have HALL := Hid.mk' hall
    clear hall
    by_cases hlt : k < jn
    · have hltl : k < jobs.length := by omega
      obtain ⟨b, off, e⟩ := slg_some hS (by omega)
      subst e
      have hki : (k : Int) < (jn : Int) := by omega
      have hat := (job_at hS k hltl).1
      by_cases ht : jobs[k].1 = tx
      · have HF : Hid (idx (jobAt jobs tx) = (k : Int)) := by
          show _ = _
          rw [show jobAt jobs tx = some k from findIdx_hit hltl (fun i hi => decide_eq_false (HALL.out i hi (by omega))) (decide_eq_true ht)]
          rfl
        rw [ht] at hat
        clear ht HALL
        go_wp2_with fail
        go_ret
        exact ⟨ret_int HF.out.symm, rfl⟩
      · have HN : Hid (∀ j (hj : j < k + 1) (hjl : j < jobs.length), jobs[j].1 ≠ tx) := fun j hj hjl => by
          rcases Nat.lt_succ_iff_lt_or_eq.1 hj with e | e
          · exact HALL.out j e hjl
          · subst e; exact ht
        generalize jobs[k].1 = txk at *
        have htb : (txk == tx) = false := beq_eq_false_iff_ne.2 ht
        clear HALL
        go_wp2_with fail
        go_roundw
        case rel => exact ⟨k + 1, by omega, by go_num, by first | rfl | trivial, HN.out⟩
        case measure => simp [intOf]; omega
    · have hnk : ¬ (k : Int) < (jn : Int) := by omega
      have HF : Hid (idx (jobAt jobs tx) = -1) := by
        show _ = _
        rw [show jobAt jobs tx = none from findIdx_none (fun i hi => decide_eq_false (HALL.out i (by omega) hi))]
        rfl
      clear HALL
      go_wp2_with fail
      go_ret
      exact ⟨ret_int HF.out.symm, rfl⟩
end Go.Proofs.Ytdeaiefhegjalaa.cos
