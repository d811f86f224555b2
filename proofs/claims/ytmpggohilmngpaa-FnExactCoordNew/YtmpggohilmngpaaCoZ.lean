/- The laws' helpers for those who decide: their sizes. -/
import Derived.Test.YtmpggohilmngpaaCoE
import Derived.Test.YtmpggohilmngpaaHelpO
namespace Go.Proofs.Ytmpggohilmngpaa.cos
open Go Go.RowKit Go.Proofs.Ytmpggohilmngpaa.base Go.Proofs.Ytmpggohilmngpaa.pairs Go.Proofs.Ytmpggohilmngpaa.ords Go.Proofs.Ytmpggohilmngpaa.lay Go.Proofs.Ytmpggohilmngpaa.wds
set_option linter.unusedVariables false
set_option linter.unusedSimpArgs false

def jsz (j : Jb) : Nat := j.2.1.length + sumO j.2.1 + j.2.2.2.length
def sumJ (l : List Jb) : Nat := (l.map jsz).sum
theorem sumJ_take (l : List Jb) (k : Nat) (h : k < l.length) : sumJ (l.take (k + 1)) = sumJ (l.take k) + jsz l[k] := by
  unfold sumJ
  rw [List.take_succ_eq_append_getElem h, List.map_append, List.sum_append]; simp
theorem sumJ_le (l : List Jb) (k : Nat) : sumJ (l.take k) ≤ sumJ l := by
  conv => rhs; rw [← List.take_append_drop k l]
  unfold sumJ
  rw [List.map_append, List.sum_append]; omega
theorem sumJ_mem {l : List Jb} {j : Jb} (h : j ∈ l) : jsz j ≤ sumJ l := by
  obtain ⟨i, hi, rfl⟩ := List.getElem_of_mem h
  have h1 := sumJ_take l i hi
  have h2 := sumJ_le l (i + 1)
  omega

/-- how great one who decides is -/
def csz (c : Co) : Nat := c.2.2.2.1.length + sumJ c.2.2.2.1 + c.2.2.2.2.1.length
end Go.Proofs.Ytmpggohilmngpaa.cos
