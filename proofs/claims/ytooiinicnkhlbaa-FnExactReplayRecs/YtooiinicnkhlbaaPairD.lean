/- The program's pairs between two ends. -/
import Derived.Test.YtooiinicnkhlbaaPairC
namespace Go.Proofs.Ytooiinicnkhlbaa.pairs
open Go Go.RowKit Go.Proofs.Ytooiinicnkhlbaa.base
set_option linter.unusedVariables false
set_option linter.unusedSimpArgs false

theorem bel3 {w wr : World} (hB : Below w.heap.size w wr) (x y z : Obj) : Below w.heap.size w (((wr.alloc x).alloc y).alloc z) := (bel2 hB x y).alloc (bel2 hB x y).size _
theorem empty_iff (hi : ByteArray) : hi.size = 0 ↔ hi = ⟨#[]⟩ := by
  constructor
  · intro h; apply bytes_ext; exact List.eq_nil_of_length_eq_zero (by rw [Array.length_toList]; exact h)
  · rintro rfl; rfl



end Go.Proofs.Ytooiinicnkhlbaa.pairs
