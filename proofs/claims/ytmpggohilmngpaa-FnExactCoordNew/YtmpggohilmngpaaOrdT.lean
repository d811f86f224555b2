/- The specification's orders: all of them are right. -/
import Derived.Test.YtmpggohilmngpaaOrdS
namespace Go.Proofs.Ytmpggohilmngpaa.ords
open Go Go.RowKit Go.Proofs.Ytmpggohilmngpaa.base Go.Proofs.Ytmpggohilmngpaa.pairs
set_option linter.unusedVariables false
set_option linter.unusedSimpArgs false

def prevO (l : List Od) (k : Nat) : Option ByteArray := if k = 0 then none else (l[k - 1]?).map (·.2.1)
theorem opsFrom_zero (l : List Od) (k : Nat) (h : k < l.length) (h0 : k = 0) : opsFrom (prevO l k) (l.drop k) = (odOk l[k] && opsFrom (prevO l (k + 1)) (l.drop (k + 1))) := by
  subst h0
  cases l with
  | nil => simp at h
  | cons p l => simp [prevO, opsFrom]
theorem opsFrom_step (l : List Od) (k : Nat) (h : k < l.length) (h0 : 0 < k) : opsFrom (prevO l k) (l.drop k) = (odOk l[k] && ltB l[k - 1].2.1 l[k].2.1 && opsFrom (prevO l (k + 1)) (l.drop (k + 1))) := by
  have e1 : prevO l k = some l[k - 1].2.1 := by unfold prevO; rw [if_neg (by omega), List.getElem?_eq_getElem (by omega)]; rfl
  have e2 : prevO l (k + 1) = some l[k].2.1 := by unfold prevO; rw [if_neg (by omega), Nat.add_sub_cancel, List.getElem?_eq_getElem h]; rfl
  rw [e1, e2, List.drop_eq_getElem_cons h, opsFrom]


end Go.Proofs.Ytmpggohilmngpaa.ords
