/- The specification's one who decides: whether it is right. -/
import Derived.Test.YtmpggohilmngpaaCoT
namespace Go.Proofs.Ytmpggohilmngpaa.cos
open Go Go.RowKit Go.Proofs.Ytmpggohilmngpaa.base Go.Proofs.Ytmpggohilmngpaa.pairs Go.Proofs.Ytmpggohilmngpaa.ords Go.Proofs.Ytmpggohilmngpaa.lay Go.Proofs.Ytmpggohilmngpaa.wds
set_option linter.unusedVariables false
set_option linter.unusedSimpArgs false

theorem jobs_step {n life next : Int} {log : List Ch} {jobs : List Jb} {k : Nat} {p : Option Int} (hk : k < jobs.length) : jobsOk n life next log p (jobs.drop k) = (jobOk n life next log p jobs[k] && jobsOk n life next log (some jobs[k].1) (jobs.drop (k + 1))) := by
  rw [List.drop_eq_getElem_cons hk]; rfl
theorem prevTx_succ {jobs : List Jb} {k : Nat} (hk : k < jobs.length) : prevTx jobs (k + 1) = some jobs[k].1 := by
  unfold prevTx; simp [List.getElem?_eq_getElem hk]
theorem logOk_all {hi : Int} {log : List Ch} (h : ∀ j (hj : j < log.length), (1000 ≤ log[j].1 ∧ log[j].1 ≤ hi) ∧ chosen log log[j].1 = some j) : logOk hi log = true := by
  unfold logOk
  rw [Bool.and_eq_true, List.all_eq_true, decide_eq_true_iff]
  refine ⟨fun c hc => ?_, nodup_iff.2 fun i hi => (h i hi).2⟩
  obtain ⟨i, hi, rfl⟩ := List.getElem_of_mem hc
  exact decide_eq_true (h i hi).1
theorem logOk_no {hi : Int} {log : List Ch} {k : Nat} (hk : k < log.length) (h : ¬ ((1000 ≤ log[k].1 ∧ log[k].1 ≤ hi) ∧ chosen log log[k].1 = some k)) : logOk hi log = false := by
  cases e : logOk hi log
  · rfl
  · exfalso
    unfold logOk at e
    rw [Bool.and_eq_true, List.all_eq_true, decide_eq_true_iff] at e
    exact h ⟨of_decide_eq_true (e.1 _ (List.getElem_mem hk)), nodup_iff.1 e.2 k hk⟩
theorem idx_eq {r : Option Nat} {k : Nat} : idx r = (k : Int) ↔ r = some k := by
  cases r with
  | none => rw [idx_none]; constructor <;> intro h; omega; cases h
  | some j => rw [idx_some]; constructor
              · intro h; congr 1; omega
              · intro h; cases h; rfl
/-- what CoordOk asks of what it reads: no text or row is too great for a machine -/
def FitsCo (c : Co) : Prop := c.2.2.2.1.length ≤ 1099511627776 ∧ c.2.2.2.2.1.length ≤ 1099511627776 ∧ ∀ j ∈ c.2.2.2.1, j.2.1.length ≤ 1099511627776 ∧ (∀ p ∈ j.2.1, p.2.1.size ≤ 1099511627776)

end Go.Proofs.Ytmpggohilmngpaa.cos
