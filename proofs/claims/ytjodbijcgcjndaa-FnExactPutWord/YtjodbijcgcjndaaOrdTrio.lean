/- Rows of several kinds that a law made, kept from step to step. -/
import Derived.Test.YtjodbijcgcjndaaHelpN
import Derived.Test.YtjodbijcgcjndaaPairTrio
import Derived.Test.YtjodbijcgcjndaaTrio
namespace Go.Proofs.Ytjodbijcgcjndaa.ords
open Go Go.RowKit Go.Proofs.Ytjodbijcgcjndaa.base Go.Proofs.Ytjodbijcgcjndaa.pairs
set_option linter.unusedVariables false

structure TrioO (w0 w : World) (gx lx cx : Nat) (X : List Od) (gg lg cg : Nat) (G : List Od) (gw lw cw : Nat) (W : List Od) : Prop where
  bel : Below w0.heap.size w0 w
  x : OwnO w w0.heap.size gx lx cx X
  g : OwnO w w0.heap.size gg lg cg G
  s : OwnO w w0.heap.size gw lw cw W
  xg : gx ≠ gg
  xs : gx ≠ gw
  gs : gg ≠ gw
section
variable {w0 w w' : World} {gx lx cx gg lg cg gw lw cw : Nat} {X : List Od} {G W : List Od}
theorem TrioO.below (h : TrioO w0 w gx lx cx X gg lg cg G gw lw cw W) (hb : Below w.heap.size w w') : TrioO w0 w' gx lx cx X gg lg cg G gw lw cw W :=
  ⟨h.bel.trans (hb.mono h.bel.size), h.x.below hb, h.g.below hb, h.s.below hb, h.xg, h.xs, h.gs⟩
theorem TrioO.markX (h : TrioO w0 w gx lx cx X gg lg cg G gw lw cw W) {X' : List Od} (ho : OwnO w' w0.heap.size gx lx cx X') (hg : w.grownBy w' (some gx)) : TrioO w0 w' gx lx cx X' gg lg cg G gw lw cw W :=
  ⟨h.bel.grown hg h.bel.size (fun k e => by cases e; exact h.x.lt.1), ho, h.g.grown hg (by simpa using h.xg.symm), h.s.grown hg (by simpa using h.xs.symm), h.xg, h.xs, h.gs⟩
theorem TrioO.markG (h : TrioO w0 w gx lx cx X gg lg cg G gw lw cw W) {G' : List Od} (ho : OwnO w' w0.heap.size gg lg cg G') (hg : w.grownBy w' (some gg)) : TrioO w0 w' gx lx cx X gg lg cg G' gw lw cw W :=
  ⟨h.bel.grown hg h.bel.size (fun k e => by cases e; exact h.g.lt.1), h.x.grown hg (by simpa using h.xg), ho, h.s.grown hg (by simpa using h.gs.symm), h.xg, h.xs, h.gs⟩
end
structure TrioZ (w0 w : World) (gx lx cx : Nat) (X : List Od) (gg lg cg : Nat) (G : List Int) (gw lw cw : Nat) (W : List Int) : Prop where
  bel : Below w0.heap.size w0 w
  x : OwnO w w0.heap.size gx lx cx X
  g : OwnZ w w0.heap.size gg lg cg G
  s : OwnZ w w0.heap.size gw lw cw W
  xg : gx ≠ gg
  xs : gx ≠ gw
  gs : gg ≠ gw
section
variable {w0 w w' : World} {gx lx cx gg lg cg gw lw cw : Nat} {X : List Od} {G W : List Int}
theorem TrioZ.below (h : TrioZ w0 w gx lx cx X gg lg cg G gw lw cw W) (hb : Below w.heap.size w w') : TrioZ w0 w' gx lx cx X gg lg cg G gw lw cw W :=
  ⟨h.bel.trans (hb.mono h.bel.size), h.x.below hb, h.g.below hb, h.s.below hb, h.xg, h.xs, h.gs⟩
theorem TrioZ.markX (h : TrioZ w0 w gx lx cx X gg lg cg G gw lw cw W) {X' : List Od} (ho : OwnO w' w0.heap.size gx lx cx X') (hg : w.grownBy w' (some gx)) : TrioZ w0 w' gx lx cx X' gg lg cg G gw lw cw W :=
  ⟨h.bel.grown hg h.bel.size (fun k e => by cases e; exact h.x.lt.1), ho, h.g.grown hg (by simpa using h.xg.symm), h.s.grown hg (by simpa using h.xs.symm), h.xg, h.xs, h.gs⟩
theorem TrioZ.markG (h : TrioZ w0 w gx lx cx X gg lg cg G gw lw cw W) {G' : List Int} (ho : OwnZ w' w0.heap.size gg lg cg G') (hg : w.grownBy w' (some gg)) : TrioZ w0 w' gx lx cx X gg lg cg G' gw lw cw W :=
  ⟨h.bel.grown hg h.bel.size (fun k e => by cases e; exact h.g.lt.1), h.x.grown hg (by simpa using h.xg), ho, h.s.grown hg (by simpa using h.gs.symm), h.xg, h.xs, h.gs⟩
end
structure TrioQ (w0 w : World) (gx lx cx : Nat) (X : List Od) (gg lg cg : Nat) (G : List UInt8) (gw lw cw : Nat) (W : List UInt8) : Prop where
  bel : Below w0.heap.size w0 w
  x : OwnO w w0.heap.size gx lx cx X
  g : Own w w0.heap.size gg lg cg G
  s : Own w w0.heap.size gw lw cw W
  xg : gx ≠ gg
  xs : gx ≠ gw
  gs : gg ≠ gw
section
variable {w0 w w' : World} {gx lx cx gg lg cg gw lw cw : Nat} {X : List Od} {G W : List UInt8}
theorem TrioQ.below (h : TrioQ w0 w gx lx cx X gg lg cg G gw lw cw W) (hb : Below w.heap.size w w') : TrioQ w0 w' gx lx cx X gg lg cg G gw lw cw W :=
  ⟨h.bel.trans (hb.mono h.bel.size), h.x.below hb, h.g.below hb, h.s.below hb, h.xg, h.xs, h.gs⟩
theorem TrioQ.markX (h : TrioQ w0 w gx lx cx X gg lg cg G gw lw cw W) {X' : List Od} (ho : OwnO w' w0.heap.size gx lx cx X') (hg : w.grownBy w' (some gx)) : TrioQ w0 w' gx lx cx X' gg lg cg G gw lw cw W :=
  ⟨h.bel.grown hg h.bel.size (fun k e => by cases e; exact h.x.lt.1), ho, h.g.grown hg (by simpa using h.xg.symm), h.s.grown hg (by simpa using h.xs.symm), h.xg, h.xs, h.gs⟩
theorem TrioQ.markG (h : TrioQ w0 w gx lx cx X gg lg cg G gw lw cw W) {G' : List UInt8} (ho : Own w' w0.heap.size gg lg cg G') (hg : w.grownBy w' (some gg)) : TrioQ w0 w' gx lx cx X gg lg cg G' gw lw cw W :=
  ⟨h.bel.grown hg h.bel.size (fun k e => by cases e; exact h.g.lt.1), h.x.grown hg (by simpa using h.xg), ho, h.s.grown hg (by simpa using h.gs.symm), h.xg, h.xs, h.gs⟩
end
structure TrioG (w0 w : World) (gx lx cx : Nat) (X : List UInt8) (gg lg cg : Nat) (G : List Od) (gw lw cw : Nat) (W : List Od) : Prop where
  bel : Below w0.heap.size w0 w
  x : Own w w0.heap.size gx lx cx X
  g : OwnO w w0.heap.size gg lg cg G
  s : OwnO w w0.heap.size gw lw cw W
  xg : gx ≠ gg
  xs : gx ≠ gw
  gs : gg ≠ gw
section
variable {w0 w w' : World} {gx lx cx gg lg cg gw lw cw : Nat} {X : List UInt8} {G W : List Od}
theorem TrioG.below (h : TrioG w0 w gx lx cx X gg lg cg G gw lw cw W) (hb : Below w.heap.size w w') : TrioG w0 w' gx lx cx X gg lg cg G gw lw cw W :=
  ⟨h.bel.trans (hb.mono h.bel.size), h.x.below hb, h.g.below hb, h.s.below hb, h.xg, h.xs, h.gs⟩
theorem TrioG.markX (h : TrioG w0 w gx lx cx X gg lg cg G gw lw cw W) {X' : List UInt8} (ho : Own w' w0.heap.size gx lx cx X') (hg : w.grownBy w' (some gx)) : TrioG w0 w' gx lx cx X' gg lg cg G gw lw cw W :=
  ⟨h.bel.grown hg h.bel.size (fun k e => by cases e; exact h.x.lt.1), ho, h.g.grown hg (by simpa using h.xg.symm), h.s.grown hg (by simpa using h.xs.symm), h.xg, h.xs, h.gs⟩
theorem TrioG.markG (h : TrioG w0 w gx lx cx X gg lg cg G gw lw cw W) {G' : List Od} (ho : OwnO w' w0.heap.size gg lg cg G') (hg : w.grownBy w' (some gg)) : TrioG w0 w' gx lx cx X gg lg cg G' gw lw cw W :=
  ⟨h.bel.grown hg h.bel.size (fun k e => by cases e; exact h.g.lt.1), h.x.grown hg (by simpa using h.xg), ho, h.s.grown hg (by simpa using h.gs.symm), h.xg, h.xs, h.gs⟩
end
structure QuadA (w0 w : World) (gx lx cx : Nat) (X : List Pr) (gy ly cy : Nat) (Y : List Od) (gg lg cg : Nat) (G : List Pr) (gw lw cw : Nat) (W : List Pr) : Prop where
  t : TrioP w0 w gx lx cx X gg lg cg G gw lw cw W
  y : OwnO w w0.heap.size gy ly cy Y
  yx : gy ≠ gx
  yg : gy ≠ gg
  ys : gy ≠ gw
section
variable {w0 w w' : World} {gx lx cx gy ly cy gg lg cg gw lw cw : Nat} {X G W : List Pr} {Y : List Od}
theorem QuadA.below (h : QuadA w0 w gx lx cx X gy ly cy Y gg lg cg G gw lw cw W) (hb : Below w.heap.size w w') : QuadA w0 w' gx lx cx X gy ly cy Y gg lg cg G gw lw cw W :=
  ⟨h.t.below hb, h.y.below hb, h.yx, h.yg, h.ys⟩
theorem QuadA.markX (h : QuadA w0 w gx lx cx X gy ly cy Y gg lg cg G gw lw cw W) {X' : List Pr} (ho : OwnP w' w0.heap.size gx lx cx X') (hg : w.grownBy w' (some gx)) : QuadA w0 w' gx lx cx X' gy ly cy Y gg lg cg G gw lw cw W :=
  ⟨h.t.markX ho hg, h.y.grown hg (by simpa using h.yx), h.yx, h.yg, h.ys⟩
theorem QuadA.markY (h : QuadA w0 w gx lx cx X gy ly cy Y gg lg cg G gw lw cw W) {Y' : List Od} (ho : OwnO w' w0.heap.size gy ly cy Y') (hg : w.grownBy w' (some gy)) : QuadA w0 w' gx lx cx X gy ly cy Y' gg lg cg G gw lw cw W :=
  ⟨⟨h.t.bel.grown hg h.t.bel.size (fun k e => by cases e; exact h.y.lt.1), h.t.x.grown hg (by simpa using h.yx.symm), h.t.g.grown hg (by simpa using h.yg.symm), h.t.s.grown hg (by simpa using h.ys.symm), h.t.xg, h.t.xs, h.t.gs⟩, ho, h.yx, h.yg, h.ys⟩
theorem QuadA.markG (h : QuadA w0 w gx lx cx X gy ly cy Y gg lg cg G gw lw cw W) {G' : List Pr} (ho : OwnP w' w0.heap.size gg lg cg G') (hg : w.grownBy w' (some gg)) : QuadA w0 w' gx lx cx X gy ly cy Y gg lg cg G' gw lw cw W :=
  ⟨h.t.markG ho hg, h.y.grown hg (by simpa using h.yg), h.yx, h.yg, h.ys⟩
end
end Go.Proofs.Ytjodbijcgcjndaa.ords
