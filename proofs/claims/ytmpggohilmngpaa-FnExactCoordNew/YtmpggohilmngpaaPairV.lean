/- The specification's right pairs, and pairs put into others. -/
import Derived.Test.YtmpggohilmngpaaPairU
import Derived.Test.YtmpggohilmngpaaLast
namespace Go.Proofs.Ytmpggohilmngpaa.pairs
open Go Go.RowKit Go.Proofs.Ytmpggohilmngpaa.base
set_option linter.unusedVariables false
set_option linter.unusedSimpArgs false

/-- the key ahead of place k -/
def prevOf (l : List Pr) (k : Nat) : Option ByteArray := if k = 0 then none else (l[k - 1]?).map (·.1)
theorem okFrom_zero (l : List Pr) (k : Nat) (h : k < l.length) (h0 : k = 0) : okFrom (prevOf l k) (l.drop k) = (pairOk l[k] && okFrom (prevOf l (k + 1)) (l.drop (k + 1))) := by
  subst h0
  cases l with
  | nil => simp at h
  | cons p l => simp [prevOf, okFrom]
theorem okFrom_step (l : List Pr) (k : Nat) (h : k < l.length) (h0 : 0 < k) : okFrom (prevOf l k) (l.drop k) = (pairOk l[k] && ltB l[k - 1].1 l[k].1 && okFrom (prevOf l (k + 1)) (l.drop (k + 1))) := by
  have e1 : prevOf l k = some l[k - 1].1 := by unfold prevOf; rw [if_neg (by omega), List.getElem?_eq_getElem (by omega)]; rfl
  have e2 : prevOf l (k + 1) = some l[k].1 := by unfold prevOf; rw [if_neg (by omega), Nat.add_sub_cancel, List.getElem?_eq_getElem h]; rfl
  rw [e1, e2, List.drop_eq_getElem_cons h, okFrom]

theorem keepC {W w' : World} {b o : Nat} {v : Value} (hb : Below W.heap.size W w') (h : W.cell? ⟨b, o, none⟩ = some v) : w'.cell? ⟨b, o, none⟩ = some v :=
  (hb.cell (p := ⟨b, o, none⟩) (World.block_lt_of_cell? W _ h)).trans h
theorem keepB2 {W w' : World} {b o1 o2 : Nat} {v1 v2 : Value} (hb : Below W.heap.size W w') (h : W.cell? ⟨b, o1, none⟩ = some v1 ∧ W.cell? ⟨b, o2, none⟩ = some v2) :
    w'.cell? ⟨b, o1, none⟩ = some v1 ∧ w'.cell? ⟨b, o2, none⟩ = some v2 := ⟨keepC hb h.1, keepC hb h.2⟩
theorem keepB3 {W w' : World} {b o1 o2 o3 : Nat} {v1 v2 v3 : Value} (hb : Below W.heap.size W w') (h : W.cell? ⟨b, o1, none⟩ = some v1 ∧ W.cell? ⟨b, o2, none⟩ = some v2 ∧ W.cell? ⟨b, o3, none⟩ = some v3) :
    w'.cell? ⟨b, o1, none⟩ = some v1 ∧ w'.cell? ⟨b, o2, none⟩ = some v2 ∧ w'.cell? ⟨b, o3, none⟩ = some v3 := ⟨keepC hb h.1, keepB2 hb h.2⟩


end Go.Proofs.Ytmpggohilmngpaa.pairs
