/- The program's putting of keys. The program's pairs between two ends. -/
import Derived.Test.YtdeaiefhegjalaaBund12aw
namespace Go.Proofs.Ytdeaiefhegjalaa.pairs
open Go Go.RowKit Go.Proofs.Ytdeaiefhegjalaa.base
set_option linter.unusedVariables false
set_option linter.unusedSimpArgs false

/-- the two cells of a pair that was boxed -/
theorem box_cell (w w' : World) (x y : ByteArray) (hB : Below (w.alloc (.cells #[.string x, .string y] 130)).heap.size (w.alloc (.cells #[.string x, .string y] 130)) w') :
    w'.cell? ⟨w.heap.size, 0, none⟩ = some (.string x) ∧ w'.cell? ⟨w.heap.size, 1, none⟩ = some (.string y) := by
  have hlt : w.heap.size < (w.alloc (.cells #[.string x, .string y] 130)).heap.size := by simp
  refine ⟨(hB.cell (p := ⟨w.heap.size, 0, none⟩) hlt).trans ?_, (hB.cell (p := ⟨w.heap.size, 1, none⟩) hlt).trans ?_⟩
  · simp
  · simp




end Go.Proofs.Ytdeaiefhegjalaa.pairs

namespace Go.Proofs.Ytdeaiefhegjalaa.pairs
open Go Go.RowKit Go.Proofs.Ytdeaiefhegjalaa.base
set_option linter.unusedVariables false
set_option linter.unusedSimpArgs false

theorem bel3 {w wr : World} (hB : Below w.heap.size w wr) (x y z : Obj) : Below w.heap.size w (((wr.alloc x).alloc y).alloc z) := (bel2 hB x y).alloc (bel2 hB x y).size _
theorem empty_iff (hi : ByteArray) : hi.size = 0 ↔ hi = ⟨#[]⟩ := by
  constructor
  · intro h; apply bytes_ext; exact List.eq_nil_of_length_eq_zero (by rw [Array.length_toList]; exact h)
  · rintro rfl; rfl



end Go.Proofs.Ytdeaiefhegjalaa.pairs
