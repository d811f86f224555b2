/- Three rows of bytes that a law made (the argument's copy, the answer, the specification's answer), kept from step to step. -/
import Derived.Test.YtooiinicnkhlbaaRows
import Derived.Test.YtooiinicnkhlbaaBase
import Derived.Test.YtooiinicnkhlbaaApp
import Derived.Test.YtooiinicnkhlbaaHelp
namespace Go.Proofs.Ytooiinicnkhlbaa.help
open Go.RowKit Go.Proofs.Ytooiinicnkhlbaa.base
set_option linter.unusedVariables false



structure Trio (w0 w : World) (gx lx cx : Nat) (X : List UInt8) (gg lg cg : Nat) (G : List UInt8) (gw lw cw : Nat) (W : List UInt8) : Prop where
  bel : Below w0.heap.size w0 w
  x : Own w w0.heap.size gx lx cx X
  g : Own w w0.heap.size gg lg cg G
  s : Own w w0.heap.size gw lw cw W
  xg : gx ≠ gg
  xs : gx ≠ gw
  gs : gg ≠ gw
section
variable {w0 w w' : World} {gx lx cx gg lg cg gw lw cw : Nat} {X G W : List UInt8}
theorem Trio.below (h : Trio w0 w gx lx cx X gg lg cg G gw lw cw W) (hb : Below w.heap.size w w') : Trio w0 w' gx lx cx X gg lg cg G gw lw cw W :=
  ⟨h.bel.trans (hb.mono h.bel.size), h.x.below hb, h.g.below hb, h.s.below hb, h.xg, h.xs, h.gs⟩
theorem Trio.markX (h : Trio w0 w gx lx cx X gg lg cg G gw lw cw W) {X' : List UInt8} (ho : Own w' w0.heap.size gx lx cx X') (hg : w.grownBy w' (some gx)) : Trio w0 w' gx lx cx X' gg lg cg G gw lw cw W :=
  ⟨h.bel.grown hg h.bel.size (fun k e => by cases e; exact h.x.lt.1), ho, h.g.grown hg (by simpa using h.xg.symm), h.s.grown hg (by simpa using h.xs.symm), h.xg, h.xs, h.gs⟩
theorem Trio.markG (h : Trio w0 w gx lx cx X gg lg cg G gw lw cw W) {G' : List UInt8} (ho : Own w' w0.heap.size gg lg cg G') (hg : w.grownBy w' (some gg)) : Trio w0 w' gx lx cx X gg lg cg G' gw lw cw W :=
  ⟨h.bel.grown hg h.bel.size (fun k e => by cases e; exact h.g.lt.1), h.x.grown hg (by simpa using h.xg), ho, h.s.grown hg (by simpa using h.gs.symm), h.xg, h.xs, h.gs⟩
end
end Go.Proofs.Ytooiinicnkhlbaa.help
