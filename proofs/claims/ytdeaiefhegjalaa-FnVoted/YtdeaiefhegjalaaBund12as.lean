/- The laws' helpers for those who decide: their sizes. A struct in a block, whole or in the midst of it. No function of the program is named here. A struct in a block of its own, and what it owns, whatever the struct. No function of the program is named here. -/
import Derived.Test.YtdeaiefhegjalaaBund12ar
import Derived.Test.YtdeaiefhegjalaaBund12aq
import Derived.Test.YtdeaiefhegjalaaBund12aa
import Derived.Test.YtdeaiefhegjalaaBund12ab
namespace Go.Proofs.Ytdeaiefhegjalaa.cos
open Go Go.RowKit Go.Proofs.Ytdeaiefhegjalaa.base Go.Proofs.Ytdeaiefhegjalaa.pairs Go.Proofs.Ytdeaiefhegjalaa.ords Go.Proofs.Ytdeaiefhegjalaa.lay Go.Proofs.Ytdeaiefhegjalaa.wds
set_option linter.unusedVariables false
set_option linter.unusedSimpArgs false

def jsz (j : Jb) : Nat := j.2.1.length + sumO j.2.1 + j.2.2.2.length
def sumJ (l : List Jb) : Nat := (l.map jsz).sum
theorem sumJ_take (l : List Jb) (k : Nat) (h : k < l.length) : sumJ (l.take (k + 1)) = sumJ (l.take k) + jsz l[k] := by
  unfold sumJ
  rw [List.take_succ_eq_append_getElem h, List.map_append, List.sum_append]; simp
theorem sumJ_le (l : List Jb) (k : Nat) : sumJ (l.take k) ≤ sumJ l := by
  conv => rhs; rw [← List.take_append_drop k l]
  unfold sumJ
  rw [List.map_append, List.sum_append]; omega
theorem sumJ_mem {l : List Jb} {j : Jb} (h : j ∈ l) : jsz j ≤ sumJ l := by
  obtain ⟨i, hi, rfl⟩ := List.getElem_of_mem h
  have h1 := sumJ_take l i hi
  have h2 := sumJ_le l (i + 1)
  omega

/-- how great one who decides is -/
def csz (c : Co) : Nat := c.2.2.2.1.length + sumJ c.2.2.2.1 + c.2.2.2.2.1.length
end Go.Proofs.Ytdeaiefhegjalaa.cos

namespace Go.Proofs.Ytdeaiefhegjalaa.lay
open Go Go.RowKit Go.Proofs.Ytdeaiefhegjalaa.base
set_option linter.unusedVariables false

/-- block X holds the cells vs, behind pre and ahead of post -/
def BoxIn (X : Nat) (T : TypeId) (pre vs post : List Value) (w : World) : Prop := w.heap[X]? = some (.cells (pre ++ vs ++ post).toArray T (0, 0))
section
variable {X : Nat} {T : TypeId} {pre vs post : List Value} {w w' : World} {G F : List Nat}
theorem BoxIn.lt (h : BoxIn X T pre vs post w) : X < w.heap.size := (Array.getElem?_eq_some_iff.1 h).1
theorem BoxIn.keep (h : BoxIn X T pre vs post w) (hk : w'.heap[X]? = w.heap[X]?) : BoxIn X T pre vs post w' := hk.trans h
theorem BoxIn.below (h : BoxIn X T pre vs post w) (hb : Below w.heap.size w w') : BoxIn X T pre vs post w' := h.keep (hb.block X h.lt)
theorem BoxIn.frame (h : BoxIn X T pre vs post w) (hf : Frame G w w') (hn : X ∉ G) : BoxIn X T pre vs post w' := h.keep (hf.block X h.lt hn)
theorem BoxIn.grown {row : Option Nat} (h : BoxIn X T pre vs post w) (hg : w.grownBy w' row) (hn : some X ≠ row) : BoxIn X T pre vs post w' := h.keep (hg.block X h.lt hn)
theorem BoxIn.cell (h : BoxIn X T pre vs post w) (j : Nat) (u : Value) (hj : vs[j]? = some u) : w.cell? ⟨X, pre.length + j, none⟩ = some u := by
  unfold BoxIn at h
  have hl := (List.getElem?_eq_some_iff.1 hj).1
  simp only [World.cell?, h]
  have hu := (List.getElem?_eq_some_iff.1 hj).2
  simp [List.getElem?_append, hl, hu]
theorem BoxIn.fz (h : BoxIn X T pre vs post w) (j : Nat) : w.frozen? ⟨X, j, none⟩ = false := by unfold BoxIn at h; simp [World.frozen?, h]
theorem BoxIn.set (h : BoxIn X T pre vs post w) (j : Nat) (hj : j < vs.length) (u : Value) : BoxIn X T pre (vs.set j u) post (w.setCell ⟨X, pre.length + j, none⟩ u) ∧ w.grownBy (w.setCell ⟨X, pre.length + j, none⟩ u) (some X) := by
  have h1 := set_cur h (pre.length + j) u
  refine ⟨?_, h1.2⟩
  unfold BoxIn
  rw [h1.1]
  congr 2
  rw [List.setIfInBounds_toArray]
  congr 1
  rw [List.append_assoc, List.set_append_right _ _ (by omega), Nat.add_sub_cancel_left, List.set_append_left _ _ hj, List.append_assoc]
theorem boxIn_new (w : World) (vs : List Value) (T : TypeId) : BoxIn w.heap.size T [] vs [] (w.alloc (.cells vs.toArray T)) := by
  unfold BoxIn
  rw [List.nil_append, List.append_nil]
  exact heap_alloc_new w _
end
end Go.Proofs.Ytdeaiefhegjalaa.lay

namespace Go.Proofs.Ytdeaiefhegjalaa.lay
open Go Go.RowKit Go.Proofs.Ytdeaiefhegjalaa.base
set_option linter.unusedVariables false

theorem below_make {w : World} {o : Obj} : Below w.heap.size w (w.alloc o) := (Below.refl _ _).alloc (Nat.le_refl _) _
/-- a struct in a block of its own -/
structure InR {α : Type} (R : Rd α) (T : TypeId) (w : World) (X : Nat) (vs : List Value) (x : α) (F : List Nat) : Prop where
  box : BoxIn X T [] vs [] w
  own : R.own w vs x F
  out : X ∉ F
/-- an answer that is new, and its own -/
def RetR {α : Type} (R : Rd α) (w : World) (x : α) (e : Ending) (w' : World) : Prop := ∃ vs F, e = .returned (.agg vs.toArray) ∧ R.own w' vs x F ∧ (∀ k ∈ F, w.heap.size ≤ k) ∧ Below w.heap.size w w'
section
variable {α : Type} {R : Rd α} {T : TypeId} {w w' : World} {X : Nat} {vs : List Value} {x : α} {F G : List Nat}
theorem inR_new (h : R.own w vs x F) : InR R T (w.alloc (.cells vs.toArray T)) w.heap.size vs x F :=
  ⟨boxIn_new w _ _, R.ownBelow h below_make, fun e => by have := R.ownLt h _ e; omega⟩
theorem InR.below (h : InR R T w X vs x F) (hb : Below w.heap.size w w') : InR R T w' X vs x F := ⟨h.box.below hb, R.ownBelow h.own hb, h.out⟩
theorem InR.framed (h : InR R T w X vs x F) (hf : Frame G w w') (hX : X ∉ G) (hF : ∀ k ∈ F, k ∉ G) : InR R T w' X vs x F := ⟨h.box.frame hf hX, R.ownFrame h.own hf hF, h.out⟩
theorem InR.see (h : InR R T w X vs x F) : R.see w vs x := R.ownSee h.own
theorem InR.lt (h : InR R T w X vs x F) : X < w.heap.size := h.box.lt
end
theorem vals2 {vs : List Value} (h : vs.length = 2) : ∃ v0 v1, vs = [v0, v1] := by
  match vs, h with
  | [v0, v1], _ => exact ⟨v0, v1, rfl⟩
theorem cells2 {X : Nat} {T : TypeId} {w : World} {v0 v1 : Value} (h : BoxIn X T [] [v0, v1] [] w) : w.cell? ⟨X, 0, none⟩ = some v0 ∧ w.cell? ⟨X, 1, none⟩ = some v1 := by
  have a0 := h.cell 0 _ rfl
  have a1 := h.cell 1 _ rfl
  simp only [List.length_nil, Nat.zero_add] at a0 a1
  exact ⟨a0, a1⟩
theorem keepBoth2 {w w' : World} {X A : Nat} {x0 x1 a0 a1 : Value} (hb : Below w.heap.size w w') (h : w.cell? ⟨X, 0, none⟩ = some x0 ∧ w.cell? ⟨X, 1, none⟩ = some x1 ∧ w.cell? ⟨A, 0, none⟩ = some a0 ∧ w.cell? ⟨A, 1, none⟩ = some a1) :
    w'.cell? ⟨X, 0, none⟩ = some x0 ∧ w'.cell? ⟨X, 1, none⟩ = some x1 ∧ w'.cell? ⟨A, 0, none⟩ = some a0 ∧ w'.cell? ⟨A, 1, none⟩ = some a1 := by
  have keep : ∀ b o v, w.cell? ⟨b, o, none⟩ = some v → w'.cell? ⟨b, o, none⟩ = some v := fun b o v hv => (hb.cell (p := ⟨b, o, none⟩) (World.block_lt_of_cell? w _ hv)).trans hv
  obtain ⟨h0, h1, k0, k1⟩ := h
  exact ⟨keep _ _ _ h0, keep _ _ _ h1, keep _ _ _ k0, keep _ _ _ k1⟩
theorem vals3 {vs : List Value} (h : vs.length = 3) : ∃ v0 v1 v2, vs = [v0, v1, v2] := by
  match vs, h with
  | [v0, v1, v2], _ => exact ⟨v0, v1, v2, rfl⟩
theorem cells3 {X : Nat} {T : TypeId} {w : World} {v0 v1 v2 : Value} (h : BoxIn X T [] [v0, v1, v2] [] w) : w.cell? ⟨X, 0, none⟩ = some v0 ∧ w.cell? ⟨X, 1, none⟩ = some v1 ∧ w.cell? ⟨X, 2, none⟩ = some v2 := by
  have a0 := h.cell 0 _ rfl
  have a1 := h.cell 1 _ rfl
  have a2 := h.cell 2 _ rfl
  simp only [List.length_nil, Nat.zero_add] at a0 a1 a2
  exact ⟨a0, a1, a2⟩
theorem keepBoth3 {w w' : World} {X A : Nat} {x0 x1 x2 a0 a1 a2 : Value} (hb : Below w.heap.size w w') (h : w.cell? ⟨X, 0, none⟩ = some x0 ∧ w.cell? ⟨X, 1, none⟩ = some x1 ∧ w.cell? ⟨X, 2, none⟩ = some x2 ∧ w.cell? ⟨A, 0, none⟩ = some a0 ∧ w.cell? ⟨A, 1, none⟩ = some a1 ∧ w.cell? ⟨A, 2, none⟩ = some a2) :
    w'.cell? ⟨X, 0, none⟩ = some x0 ∧ w'.cell? ⟨X, 1, none⟩ = some x1 ∧ w'.cell? ⟨X, 2, none⟩ = some x2 ∧ w'.cell? ⟨A, 0, none⟩ = some a0 ∧ w'.cell? ⟨A, 1, none⟩ = some a1 ∧ w'.cell? ⟨A, 2, none⟩ = some a2 := by
  have keep : ∀ b o v, w.cell? ⟨b, o, none⟩ = some v → w'.cell? ⟨b, o, none⟩ = some v := fun b o v hv => (hb.cell (p := ⟨b, o, none⟩) (World.block_lt_of_cell? w _ hv)).trans hv
  obtain ⟨h0, h1, h2, k0, k1, k2⟩ := h
  exact ⟨keep _ _ _ h0, keep _ _ _ h1, keep _ _ _ h2, keep _ _ _ k0, keep _ _ _ k1, keep _ _ _ k2⟩
theorem vals4 {vs : List Value} (h : vs.length = 4) : ∃ v0 v1 v2 v3, vs = [v0, v1, v2, v3] := by
  match vs, h with
  | [v0, v1, v2, v3], _ => exact ⟨v0, v1, v2, v3, rfl⟩
theorem cells4 {X : Nat} {T : TypeId} {w : World} {v0 v1 v2 v3 : Value} (h : BoxIn X T [] [v0, v1, v2, v3] [] w) : w.cell? ⟨X, 0, none⟩ = some v0 ∧ w.cell? ⟨X, 1, none⟩ = some v1 ∧ w.cell? ⟨X, 2, none⟩ = some v2 ∧ w.cell? ⟨X, 3, none⟩ = some v3 := by
  have a0 := h.cell 0 _ rfl
  have a1 := h.cell 1 _ rfl
  have a2 := h.cell 2 _ rfl
  have a3 := h.cell 3 _ rfl
  simp only [List.length_nil, Nat.zero_add] at a0 a1 a2 a3
  exact ⟨a0, a1, a2, a3⟩
theorem keepBoth4 {w w' : World} {X A : Nat} {x0 x1 x2 x3 a0 a1 a2 a3 : Value} (hb : Below w.heap.size w w') (h : w.cell? ⟨X, 0, none⟩ = some x0 ∧ w.cell? ⟨X, 1, none⟩ = some x1 ∧ w.cell? ⟨X, 2, none⟩ = some x2 ∧ w.cell? ⟨X, 3, none⟩ = some x3 ∧ w.cell? ⟨A, 0, none⟩ = some a0 ∧ w.cell? ⟨A, 1, none⟩ = some a1 ∧ w.cell? ⟨A, 2, none⟩ = some a2 ∧ w.cell? ⟨A, 3, none⟩ = some a3) :
    w'.cell? ⟨X, 0, none⟩ = some x0 ∧ w'.cell? ⟨X, 1, none⟩ = some x1 ∧ w'.cell? ⟨X, 2, none⟩ = some x2 ∧ w'.cell? ⟨X, 3, none⟩ = some x3 ∧ w'.cell? ⟨A, 0, none⟩ = some a0 ∧ w'.cell? ⟨A, 1, none⟩ = some a1 ∧ w'.cell? ⟨A, 2, none⟩ = some a2 ∧ w'.cell? ⟨A, 3, none⟩ = some a3 := by
  have keep : ∀ b o v, w.cell? ⟨b, o, none⟩ = some v → w'.cell? ⟨b, o, none⟩ = some v := fun b o v hv => (hb.cell (p := ⟨b, o, none⟩) (World.block_lt_of_cell? w _ hv)).trans hv
  obtain ⟨h0, h1, h2, h3, k0, k1, k2, k3⟩ := h
  exact ⟨keep _ _ _ h0, keep _ _ _ h1, keep _ _ _ h2, keep _ _ _ h3, keep _ _ _ k0, keep _ _ _ k1, keep _ _ _ k2, keep _ _ _ k3⟩
theorem vals6 {vs : List Value} (h : vs.length = 6) : ∃ v0 v1 v2 v3 v4 v5, vs = [v0, v1, v2, v3, v4, v5] := by
  match vs, h with
  | [v0, v1, v2, v3, v4, v5], _ => exact ⟨v0, v1, v2, v3, v4, v5, rfl⟩
theorem cells6 {X : Nat} {T : TypeId} {w : World} {v0 v1 v2 v3 v4 v5 : Value} (h : BoxIn X T [] [v0, v1, v2, v3, v4, v5] [] w) : w.cell? ⟨X, 0, none⟩ = some v0 ∧ w.cell? ⟨X, 1, none⟩ = some v1 ∧ w.cell? ⟨X, 2, none⟩ = some v2 ∧ w.cell? ⟨X, 3, none⟩ = some v3 ∧ w.cell? ⟨X, 4, none⟩ = some v4 ∧ w.cell? ⟨X, 5, none⟩ = some v5 := by
  have a0 := h.cell 0 _ rfl
  have a1 := h.cell 1 _ rfl
  have a2 := h.cell 2 _ rfl
  have a3 := h.cell 3 _ rfl
  have a4 := h.cell 4 _ rfl
  have a5 := h.cell 5 _ rfl
  simp only [List.length_nil, Nat.zero_add] at a0 a1 a2 a3 a4 a5
  exact ⟨a0, a1, a2, a3, a4, a5⟩
theorem keepBoth6 {w w' : World} {X A : Nat} {x0 x1 x2 x3 x4 x5 a0 a1 a2 a3 a4 a5 : Value} (hb : Below w.heap.size w w') (h : w.cell? ⟨X, 0, none⟩ = some x0 ∧ w.cell? ⟨X, 1, none⟩ = some x1 ∧ w.cell? ⟨X, 2, none⟩ = some x2 ∧ w.cell? ⟨X, 3, none⟩ = some x3 ∧ w.cell? ⟨X, 4, none⟩ = some x4 ∧ w.cell? ⟨X, 5, none⟩ = some x5 ∧ w.cell? ⟨A, 0, none⟩ = some a0 ∧ w.cell? ⟨A, 1, none⟩ = some a1 ∧ w.cell? ⟨A, 2, none⟩ = some a2 ∧ w.cell? ⟨A, 3, none⟩ = some a3 ∧ w.cell? ⟨A, 4, none⟩ = some a4 ∧ w.cell? ⟨A, 5, none⟩ = some a5) :
    w'.cell? ⟨X, 0, none⟩ = some x0 ∧ w'.cell? ⟨X, 1, none⟩ = some x1 ∧ w'.cell? ⟨X, 2, none⟩ = some x2 ∧ w'.cell? ⟨X, 3, none⟩ = some x3 ∧ w'.cell? ⟨X, 4, none⟩ = some x4 ∧ w'.cell? ⟨X, 5, none⟩ = some x5 ∧ w'.cell? ⟨A, 0, none⟩ = some a0 ∧ w'.cell? ⟨A, 1, none⟩ = some a1 ∧ w'.cell? ⟨A, 2, none⟩ = some a2 ∧ w'.cell? ⟨A, 3, none⟩ = some a3 ∧ w'.cell? ⟨A, 4, none⟩ = some a4 ∧ w'.cell? ⟨A, 5, none⟩ = some a5 := by
  have keep : ∀ b o v, w.cell? ⟨b, o, none⟩ = some v → w'.cell? ⟨b, o, none⟩ = some v := fun b o v hv => (hb.cell (p := ⟨b, o, none⟩) (World.block_lt_of_cell? w _ hv)).trans hv
  obtain ⟨h0, h1, h2, h3, h4, h5, k0, k1, k2, k3, k4, k5⟩ := h
  exact ⟨keep _ _ _ h0, keep _ _ _ h1, keep _ _ _ h2, keep _ _ _ h3, keep _ _ _ h4, keep _ _ _ h5, keep _ _ _ k0, keep _ _ _ k1, keep _ _ _ k2, keep _ _ _ k3, keep _ _ _ k4, keep _ _ _ k5⟩
theorem vals10 {vs : List Value} (h : vs.length = 10) : ∃ v0 v1 v2 v3 v4 v5 v6 v7 v8 v9, vs = [v0, v1, v2, v3, v4, v5, v6, v7, v8, v9] := by
  match vs, h with
  | [v0, v1, v2, v3, v4, v5, v6, v7, v8, v9], _ => exact ⟨v0, v1, v2, v3, v4, v5, v6, v7, v8, v9, rfl⟩
theorem cells10 {X : Nat} {T : TypeId} {w : World} {v0 v1 v2 v3 v4 v5 v6 v7 v8 v9 : Value} (h : BoxIn X T [] [v0, v1, v2, v3, v4, v5, v6, v7, v8, v9] [] w) : w.cell? ⟨X, 0, none⟩ = some v0 ∧ w.cell? ⟨X, 1, none⟩ = some v1 ∧ w.cell? ⟨X, 2, none⟩ = some v2 ∧ w.cell? ⟨X, 3, none⟩ = some v3 ∧ w.cell? ⟨X, 4, none⟩ = some v4 ∧ w.cell? ⟨X, 5, none⟩ = some v5 ∧ w.cell? ⟨X, 6, none⟩ = some v6 ∧ w.cell? ⟨X, 7, none⟩ = some v7 ∧ w.cell? ⟨X, 8, none⟩ = some v8 ∧ w.cell? ⟨X, 9, none⟩ = some v9 := by
  have a0 := h.cell 0 _ rfl
  have a1 := h.cell 1 _ rfl
  have a2 := h.cell 2 _ rfl
  have a3 := h.cell 3 _ rfl
  have a4 := h.cell 4 _ rfl
  have a5 := h.cell 5 _ rfl
  have a6 := h.cell 6 _ rfl
  have a7 := h.cell 7 _ rfl
  have a8 := h.cell 8 _ rfl
  have a9 := h.cell 9 _ rfl
  simp only [List.length_nil, Nat.zero_add] at a0 a1 a2 a3 a4 a5 a6 a7 a8 a9
  exact ⟨a0, a1, a2, a3, a4, a5, a6, a7, a8, a9⟩
theorem keepBoth10 {w w' : World} {X A : Nat} {x0 x1 x2 x3 x4 x5 x6 x7 x8 x9 a0 a1 a2 a3 a4 a5 a6 a7 a8 a9 : Value} (hb : Below w.heap.size w w') (h : w.cell? ⟨X, 0, none⟩ = some x0 ∧ w.cell? ⟨X, 1, none⟩ = some x1 ∧ w.cell? ⟨X, 2, none⟩ = some x2 ∧ w.cell? ⟨X, 3, none⟩ = some x3 ∧ w.cell? ⟨X, 4, none⟩ = some x4 ∧ w.cell? ⟨X, 5, none⟩ = some x5 ∧ w.cell? ⟨X, 6, none⟩ = some x6 ∧ w.cell? ⟨X, 7, none⟩ = some x7 ∧ w.cell? ⟨X, 8, none⟩ = some x8 ∧ w.cell? ⟨X, 9, none⟩ = some x9 ∧ w.cell? ⟨A, 0, none⟩ = some a0 ∧ w.cell? ⟨A, 1, none⟩ = some a1 ∧ w.cell? ⟨A, 2, none⟩ = some a2 ∧ w.cell? ⟨A, 3, none⟩ = some a3 ∧ w.cell? ⟨A, 4, none⟩ = some a4 ∧ w.cell? ⟨A, 5, none⟩ = some a5 ∧ w.cell? ⟨A, 6, none⟩ = some a6 ∧ w.cell? ⟨A, 7, none⟩ = some a7 ∧ w.cell? ⟨A, 8, none⟩ = some a8 ∧ w.cell? ⟨A, 9, none⟩ = some a9) :
    w'.cell? ⟨X, 0, none⟩ = some x0 ∧ w'.cell? ⟨X, 1, none⟩ = some x1 ∧ w'.cell? ⟨X, 2, none⟩ = some x2 ∧ w'.cell? ⟨X, 3, none⟩ = some x3 ∧ w'.cell? ⟨X, 4, none⟩ = some x4 ∧ w'.cell? ⟨X, 5, none⟩ = some x5 ∧ w'.cell? ⟨X, 6, none⟩ = some x6 ∧ w'.cell? ⟨X, 7, none⟩ = some x7 ∧ w'.cell? ⟨X, 8, none⟩ = some x8 ∧ w'.cell? ⟨X, 9, none⟩ = some x9 ∧ w'.cell? ⟨A, 0, none⟩ = some a0 ∧ w'.cell? ⟨A, 1, none⟩ = some a1 ∧ w'.cell? ⟨A, 2, none⟩ = some a2 ∧ w'.cell? ⟨A, 3, none⟩ = some a3 ∧ w'.cell? ⟨A, 4, none⟩ = some a4 ∧ w'.cell? ⟨A, 5, none⟩ = some a5 ∧ w'.cell? ⟨A, 6, none⟩ = some a6 ∧ w'.cell? ⟨A, 7, none⟩ = some a7 ∧ w'.cell? ⟨A, 8, none⟩ = some a8 ∧ w'.cell? ⟨A, 9, none⟩ = some a9 := by
  have keep : ∀ b o v, w.cell? ⟨b, o, none⟩ = some v → w'.cell? ⟨b, o, none⟩ = some v := fun b o v hv => (hb.cell (p := ⟨b, o, none⟩) (World.block_lt_of_cell? w _ hv)).trans hv
  obtain ⟨h0, h1, h2, h3, h4, h5, h6, h7, h8, h9, k0, k1, k2, k3, k4, k5, k6, k7, k8, k9⟩ := h
  exact ⟨keep _ _ _ h0, keep _ _ _ h1, keep _ _ _ h2, keep _ _ _ h3, keep _ _ _ h4, keep _ _ _ h5, keep _ _ _ h6, keep _ _ _ h7, keep _ _ _ h8, keep _ _ _ h9, keep _ _ _ k0, keep _ _ _ k1, keep _ _ _ k2, keep _ _ _ k3, keep _ _ _ k4, keep _ _ _ k5, keep _ _ _ k6, keep _ _ _ k7, keep _ _ _ k8, keep _ _ _ k9⟩
end Go.Proofs.Ytdeaiefhegjalaa.lay
