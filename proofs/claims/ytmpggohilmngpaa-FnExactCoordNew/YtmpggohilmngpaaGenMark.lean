/- Marks on rows of structs. No function of the program is named here. -/
import Derived.Test.YtmpggohilmngpaaGenAt
namespace Go.Proofs.Ytmpggohilmngpaa.lay
open Go Go.RowKit Go.Proofs.Ytmpggohilmngpaa.base
set_option linter.unusedVariables false
set_option linter.unusedSimpArgs false

section
variable {α : Type}
def cntTo (cnt : α → Nat) (l : List α) (i : Nat) : Nat := ((l.take i).map cnt).sum
def cntAll (cnt : α → Nat) (l : List α) : Nat := (l.map cnt).sum
theorem cntTo_zero (cnt : α → Nat) (l : List α) : cntTo cnt l 0 = 0 := rfl
theorem cntTo_succ (cnt : α → Nat) (l : List α) (i : Nat) (h : i < l.length) : cntTo cnt l (i + 1) = cntTo cnt l i + cnt l[i] := by
  unfold cntTo
  rw [List.take_succ_eq_append_getElem h, List.map_append, List.sum_append]; simp
theorem cntTo_all (cnt : α → Nat) (l : List α) : cntTo cnt l l.length = cntAll cnt l := by unfold cntTo cntAll; rw [List.take_length]
theorem cntTo_le (cnt : α → Nat) (l : List α) (i : Nat) : cntTo cnt l i ≤ cntAll cnt l := by
  unfold cntTo cntAll
  conv => rhs; rw [← List.take_append_drop i l]
  rw [List.map_append, List.sum_append]; omega
/-- marks on a row: each element is marked from where the one ahead ended -/
def markF (m : Nat → α → α) (cnt : α → Nat) (k0 : Nat) (l : List α) (i : Nat) (x : α) : α := m (k0 + cntTo cnt l i) x
def markRow (m : Nat → α → α) (cnt : α → Nat) (k0 : Nat) (l : List α) : List α := l.mapIdx (markF m cnt k0 l)
theorem markRow_length (m : Nat → α → α) (cnt : α → Nat) (k0 : Nat) (l : List α) : (markRow m cnt k0 l).length = l.length := by simp [markRow]
theorem markRow_at (m : Nat → α → α) (cnt : α → Nat) (k0 : Nat) (l : List α) (i : Nat) (h : i < l.length) : (markRow m cnt k0 l)[i]'(by rw [markRow_length]; exact h) = m (k0 + cntTo cnt l i) l[i] := by simp [markRow, markF]
theorem set_at {l : List α} {i : Nat} {x : α} (h : i < l.length) : (l.set i x)[i]'(by simpa using h) = x := by simp
end
/-- an element of a row of the call's own: its cells, what it owns, and the way back -/
theorem OwnG.open {α : Type} {ty : TypeId} {R : Rd α} {w : World} {g n cap : Nat} {l : List α} {q : Parts} (h : OwnG ty R w (.slice (some ⟨g, 0, none⟩) n cap) l q) (i : Nat) (hi : i < l.length) :
    ∃ us F, R.own w us l[i] F ∧ (∀ j u, us[j]? = some u → w.cell? ⟨g, i * R.size + j, none⟩ = some u) ∧ (∀ k ∈ F, k ∈ blocksOf q) ∧ ∀ (w' : World) (x' : α) (G : List Nat), Frame G w w' → (∀ k ∈ G, k ∈ F) → R.own w' us x' F → OwnG ty R w' (.slice (some ⟨g, 0, none⟩) n cap) (l.set i x') q := by
  have hl := h.len
  have hn := h.nlen
  subst hn
  refine ⟨_, _, h.each i hi, fun j u hj => ?_, fun k hk => List.mem_flatMap.2 ⟨_, List.getElem_mem _, hk⟩, fun w' x' G hf hG hx => h.inner i hi x' hf hG hx⟩
  have hp := h.parts
  have hjl := (List.getElem?_eq_some_iff.1 hj).1
  rw [hp _ (List.getElem_mem _)] at hjl
  have hin : i * R.size + j < l.length * R.size := by
    have := Nat.mul_le_mul_right R.size (show i + 1 ≤ l.length from hi)
    rw [Nat.add_mul] at this; omega
  rw [h.row.cellAt (i * R.size + j) hin, cellsOf_get hp i (by omega) j hjl]
  exact hj
end Go.Proofs.Ytmpggohilmngpaa.lay
