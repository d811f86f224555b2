/- A block of three cells: small facts on worlds; no function of the program is named here. -/
import Derived.Test.YtooiinicnkhlbaaOrdRow
import Derived.Test.YtooiinicnkhlbaaPairV
namespace Go.Proofs.Ytooiinicnkhlbaa.ords
open Go Go.RowKit Go.Proofs.Ytooiinicnkhlbaa.base Go.Proofs.Ytooiinicnkhlbaa.pairs
set_option linter.unusedVariables false

def V3 (w : World) (g : Nat) (t : TypeId) (x y z : Value) : Prop := w.heap[g]? = some (.cells #[x, y, z] t (0, 0))
section
variable {w w' : World} {g : Nat} {t : TypeId} {x y z : Value}
theorem V3.c0 (h : V3 w g t x y z) : w.cell? ⟨g, 0, none⟩ = some x := cell_cur h 0 _ rfl
theorem V3.c1 (h : V3 w g t x y z) : w.cell? ⟨g, 1, none⟩ = some y := cell_cur h 1 _ rfl
theorem V3.c2 (h : V3 w g t x y z) : w.cell? ⟨g, 2, none⟩ = some z := cell_cur h 2 _ rfl
theorem V3.lt (h : V3 w g t x y z) : g < w.heap.size := (Array.getElem?_eq_some_iff.1 h).1
theorem V3.below (h : V3 w g t x y z) (hb : Below w.heap.size w w') : V3 w' g t x y z := (hb.block g h.lt).trans h
end
theorem v3_grown {w w' : World} {g : Nat} {t : TypeId} {x y z : Value} {row : Option Nat} (h : V3 w g t x y z) (hg : w.grownBy w' row) (hne : some g ≠ row) : V3 w' g t x y z := (hg.block g h.lt hne).trans h
theorem v3_fz {w : World} {g : Nat} {t : TypeId} {x y z : Value} (h : V3 w g t x y z) (j : Nat) : w.frozen? ⟨g, j, none⟩ = false := by
  unfold V3 at h; simp [World.frozen?, h]
theorem v3_set {w : World} {g : Nat} {t : TypeId} {x y z : Value} (h : V3 w g t x y z) : (∀ u, V3 (w.setCell ⟨g, 0, none⟩ u) g t u y z ∧ w.grownBy (w.setCell ⟨g, 0, none⟩ u) (some g)) ∧ (∀ u, V3 (w.setCell ⟨g, 1, none⟩ u) g t x u z ∧ w.grownBy (w.setCell ⟨g, 1, none⟩ u) (some g)) ∧ (∀ u, V3 (w.setCell ⟨g, 2, none⟩ u) g t x y u ∧ w.grownBy (w.setCell ⟨g, 2, none⟩ u) (some g)) :=
  ⟨fun u => ⟨(set_cur h 0 u).1, (set_cur h 0 u).2⟩, fun u => ⟨(set_cur h 1 u).1, (set_cur h 1 u).2⟩, fun u => ⟨(set_cur h 2 u).1, (set_cur h 2 u).2⟩⟩
theorem v3_all {w : World} {g : Nat} {t : TypeId} {x y z : Value} (h : V3 w g t x y z) (a b c : Value) : V3 (((w.setCell ⟨g, 0, none⟩ a).setCell ⟨g, 1, none⟩ b).setCell ⟨g, 2, none⟩ c) g t a b c ∧ w.grownBy (((w.setCell ⟨g, 0, none⟩ a).setCell ⟨g, 1, none⟩ b).setCell ⟨g, 2, none⟩ c) (some g) := by
  have h1 := (v3_set h).1 a
  have h2 := (v3_set h1.1).2.1 b
  have h3 := (v3_set h2.1).2.2 c
  exact ⟨h3.1, grownBy_trans (grownBy_trans h1.2 h2.2) h3.2⟩
end Go.Proofs.Ytooiinicnkhlbaa.ords
