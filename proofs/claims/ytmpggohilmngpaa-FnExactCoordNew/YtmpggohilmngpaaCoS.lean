/- The specification's places of choices and jobs; a box of one who decides. -/
import Derived.Test.YtmpggohilmngpaaCoLay
import Derived.Test.YtmpggohilmngpaaOrdX
namespace Go.Proofs.Ytmpggohilmngpaa.cos
open Go Go.RowKit Go.Proofs.Ytmpggohilmngpaa.base Go.Proofs.Ytmpggohilmngpaa.pairs Go.Proofs.Ytmpggohilmngpaa.ords Go.Proofs.Ytmpggohilmngpaa.lay Go.Proofs.Ytmpggohilmngpaa.wds
set_option linter.unusedVariables false
set_option linter.unusedSimpArgs false

/-- the value of one who decides -/
abbrev coV (n life next sure : Int) (ja : Option Addr) (jn jc : Nat) (la : Option Addr) (ln lc : Nat) : Value := .agg #[.int .i64 n, .int .i64 life, .int .i64 next, .slice ja jn jc, .slice la ln lc, .int .i64 sure]
/-- its box -/
abbrev coO (n life next sure : Int) (ja : Option Addr) (jn jc : Nat) (la : Option Addr) (ln lc : Nat) : Obj := .cells #[.int .i64 n, .int .i64 life, .int .i64 next, .slice ja jn jc, .slice la ln lc, .int .i64 sure] 25
def BoxC (X : Nat) (n life next sure : Int) (ja : Option Addr) (jn jc : Nat) (la : Option Addr) (ln lc : Nat) (w : World) : Prop := w.heap[X]? = some (.cells #[.int .i64 n, .int .i64 life, .int .i64 next, .slice ja jn jc, .slice la ln lc, .int .i64 sure] 25 (0, 0))
section
variable {X : Nat} {n life next sure : Int} {ja : Option Addr} {jn jc : Nat} {la : Option Addr} {ln lc : Nat} {w w' : World}
theorem boxC_new (w : World) (n life next sure : Int) (ja : Option Addr) (jn jc : Nat) (la : Option Addr) (ln lc : Nat) : BoxC w.heap.size n life next sure ja jn jc la ln lc (w.alloc (coO n life next sure ja jn jc la ln lc)) := heap_alloc_new w _
theorem BoxC.cells (h : BoxC X n life next sure ja jn jc la ln lc w) : w.cell? ⟨X, 0, none⟩ = some (.int .i64 n) ∧ w.cell? ⟨X, 1, none⟩ = some (.int .i64 life) ∧ w.cell? ⟨X, 2, none⟩ = some (.int .i64 next) ∧ w.cell? ⟨X, 3, none⟩ = some (.slice ja jn jc) ∧ w.cell? ⟨X, 4, none⟩ = some (.slice la ln lc) ∧ w.cell? ⟨X, 5, none⟩ = some (.int .i64 sure) := by
  unfold BoxC at h
  simp [World.cell?, h]
theorem BoxC.lt (h : BoxC X n life next sure ja jn jc la ln lc w) : X < w.heap.size := (Array.getElem?_eq_some_iff.1 h).1
theorem BoxC.below (h : BoxC X n life next sure ja jn jc la ln lc w) (hb : Below w.heap.size w w') : BoxC X n life next sure ja jn jc la ln lc w' := (hb.block X h.lt).trans h
theorem BoxC.grown {row : Option Nat} (h : BoxC X n life next sure ja jn jc la ln lc w) (hg : w.grownBy w' row) (hne : some X ≠ row) : BoxC X n life next sure ja jn jc la ln lc w' := (hg.block X h.lt hne).trans h
theorem BoxC.fz (h : BoxC X n life next sure ja jn jc la ln lc w) (j : Nat) : w.frozen? ⟨X, j, none⟩ = false := by unfold BoxC at h; simp [World.frozen?, h]
end
theorem below_new (w : World) (o : Obj) : Below w.heap.size w (w.alloc o) := (Below.refl _ _).alloc (Nat.le_refl _) _
theorem idx_some (k : Nat) : idx (some k) = (k : Int) := rfl
theorem idx_none : idx none = -1 := rfl

end Go.Proofs.Ytmpggohilmngpaa.cos
