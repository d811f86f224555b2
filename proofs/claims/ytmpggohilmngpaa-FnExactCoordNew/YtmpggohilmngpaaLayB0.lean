/- A struct in a block, whole or in the midst of it. No function of the program is named here. -/
import Derived.Test.YtmpggohilmngpaaLay
import Derived.Test.YtmpggohilmngpaaApp
namespace Go.Proofs.Ytmpggohilmngpaa.lay
open Go Go.RowKit Go.Proofs.Ytmpggohilmngpaa.base
set_option linter.unusedVariables false

/-- block X holds the cells vs, behind pre and ahead of post -/
def BoxIn (X : Nat) (T : TypeId) (pre vs post : List Value) (w : World) : Prop := w.heap[X]? = some (.cells (pre ++ vs ++ post).toArray T (0, 0))
section
variable {X : Nat} {T : TypeId} {pre vs post : List Value} {w w' : World} {G F : List Nat}
theorem BoxIn.lt (h : BoxIn X T pre vs post w) : X < w.heap.size := (Array.getElem?_eq_some_iff.1 h).1
theorem BoxIn.keep (h : BoxIn X T pre vs post w) (hk : w'.heap[X]? = w.heap[X]?) : BoxIn X T pre vs post w' := hk.trans h
theorem BoxIn.below (h : BoxIn X T pre vs post w) (hb : Below w.heap.size w w') : BoxIn X T pre vs post w' := h.keep (hb.block X h.lt)
theorem BoxIn.frame (h : BoxIn X T pre vs post w) (hf : Frame G w w') (hn : X ∉ G) : BoxIn X T pre vs post w' := h.keep (hf.block X h.lt hn)
theorem BoxIn.grown {row : Option Nat} (h : BoxIn X T pre vs post w) (hg : w.grownBy w' row) (hn : some X ≠ row) : BoxIn X T pre vs post w' := h.keep (hg.block X h.lt hn)
theorem BoxIn.cell (h : BoxIn X T pre vs post w) (j : Nat) (u : Value) (hj : vs[j]? = some u) : w.cell? ⟨X, pre.length + j, none⟩ = some u := by
  unfold BoxIn at h
  have hl := (List.getElem?_eq_some_iff.1 hj).1
  simp only [World.cell?, h]
  have hu := (List.getElem?_eq_some_iff.1 hj).2
  simp [List.getElem?_append, hl, hu]
theorem BoxIn.fz (h : BoxIn X T pre vs post w) (j : Nat) : w.frozen? ⟨X, j, none⟩ = false := by unfold BoxIn at h; simp [World.frozen?, h]
theorem BoxIn.set (h : BoxIn X T pre vs post w) (j : Nat) (hj : j < vs.length) (u : Value) : BoxIn X T pre (vs.set j u) post (w.setCell ⟨X, pre.length + j, none⟩ u) ∧ w.grownBy (w.setCell ⟨X, pre.length + j, none⟩ u) (some X) := by
  have h1 := set_cur h (pre.length + j) u
  refine ⟨?_, h1.2⟩
  unfold BoxIn
  rw [h1.1]
  congr 2
  rw [List.setIfInBounds_toArray]
  congr 1
  rw [List.append_assoc, List.set_append_right _ _ (by omega), Nat.add_sub_cancel_left, List.set_append_left _ _ hj, List.append_assoc]
theorem boxIn_new (w : World) (vs : List Value) (T : TypeId) : BoxIn w.heap.size T [] vs [] (w.alloc (.cells vs.toArray T)) := by
  unfold BoxIn
  rw [List.nil_append, List.append_nil]
  exact heap_alloc_new w _
end
end Go.Proofs.Ytmpggohilmngpaa.lay
