/- What the exact laws of those who decide share. -/
import Derived.Test.YtmpggohilmngpaaCoH
import Derived.Deep.RegionHeld3
namespace Go.Proofs.Ytmpggohilmngpaa.cos
open Go Go.RowKit Go.Proofs.Ytmpggohilmngpaa.base Go.Proofs.Ytmpggohilmngpaa.pairs Go.Proofs.Ytmpggohilmngpaa.ords Go.Proofs.Ytmpggohilmngpaa.lay Go.Proofs.Ytmpggohilmngpaa.wds
set_option linter.unusedVariables false
set_option linter.unusedSimpArgs false

section
variable {w w' : World} {vs : List Value} {c : Co} {F : List Nat}
theorem coord_shape (h : coordR.own w vs c F) : ∃ ja jn jc la ln lc, vs = [.int .i64 c.1, .int .i64 c.2.1, .int .i64 c.2.2.1, .slice ja jn jc, .slice la ln lc, .int .i64 c.2.2.2.2.2] := by
  obtain ⟨ja, jn, jc, la, ln, lc, e, _⟩ := coord_see.1 (coordR.ownSee h)
  exact ⟨ja, jn, jc, la, ln, lc, e⟩
theorem see_co {ja la : Option Addr} {jn jc ln lc : Nat} (h : coordR.see w [.int .i64 c.1, .int .i64 c.2.1, .int .i64 c.2.2.1, .slice ja jn jc, .slice la ln lc, .int .i64 c.2.2.2.2.2] c) : SeeCo w ja jn jc la ln lc c := by
  obtain ⟨ja', jn', jc', la', ln', lc', e, h⟩ := coord_see.1 h
  unfold coVals at e
  simp only [List.cons.injEq, Value.slice.injEq, true_and, and_true] at e
  obtain ⟨⟨rfl, rfl, rfl⟩, rfl, rfl, rfl⟩ := e
  exact h
/-- how many marks -/
def cntJ (j : Jb) : Nat := 2 + 3 * j.2.1.length + j.2.2.2.length
def cntC (c : Co) : Nat := (c.2.2.2.1.map cntJ).sum + 2 * c.2.2.2.2.1.length
theorem sum_cnt (l : List Jb) : (l.map cntJ).sum ≤ 2 * l.length + 3 * sumJ l := by
  induction l with
  | nil => simp
  | cons j l ih =>
    simp only [List.map_cons, List.sum_cons, List.length_cons, sumJ] at ih ⊢
    have : cntJ j ≤ 2 + 3 * jsz j := by unfold cntJ jsz; omega
    omega
theorem BoundCo.cnt (h : BoundCo c) : cntC c ≤ 7340032 := by
  have h1 := sum_cnt c.2.2.2.1
  have h2 := h.jobs
  have h3 := h.log
  have h4 := h.sum
  unfold cntC
  omega
end
end Go.Proofs.Ytmpggohilmngpaa.cos
