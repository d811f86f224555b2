/- What the exact laws over one word keep from step to step: the argument's box, the copy that was handed in with its box, the answer and the specification's. -/
import Derived.Test.YtjodbijcgcjndaaWdHA
import Derived.Test.YtjodbijcgcjndaaOrdTrio
namespace Go.Proofs.Ytjodbijcgcjndaa.wds
open Go Go.RowKit Go.Proofs.Ytjodbijcgcjndaa.base Go.Proofs.Ytjodbijcgcjndaa.pairs Go.Proofs.Ytjodbijcgcjndaa.ords Go.Proofs.Ytjodbijcgcjndaa.helps
set_option linter.unusedVariables false

theorem keepT {w w' : World} {b c : Nat} {x0 x1 x2 x3 x4 z0 z1 z2 z3 z4 : Value} (hb : Below w.heap.size w w') (h : w.cell? ⟨b, 0, none⟩ = some x0 ∧ w.cell? ⟨b, 1, none⟩ = some x1 ∧ w.cell? ⟨b, 2, none⟩ = some x2 ∧ w.cell? ⟨b, 3, none⟩ = some x3 ∧ w.cell? ⟨b, 4, none⟩ = some x4 ∧ w.cell? ⟨c, 0, none⟩ = some z0 ∧ w.cell? ⟨c, 1, none⟩ = some z1 ∧ w.cell? ⟨c, 2, none⟩ = some z2 ∧ w.cell? ⟨c, 3, none⟩ = some z3 ∧ w.cell? ⟨c, 4, none⟩ = some z4) :
    w'.cell? ⟨b, 0, none⟩ = some x0 ∧ w'.cell? ⟨b, 1, none⟩ = some x1 ∧ w'.cell? ⟨b, 2, none⟩ = some x2 ∧ w'.cell? ⟨b, 3, none⟩ = some x3 ∧ w'.cell? ⟨b, 4, none⟩ = some x4 ∧ w'.cell? ⟨c, 0, none⟩ = some z0 ∧ w'.cell? ⟨c, 1, none⟩ = some z1 ∧ w'.cell? ⟨c, 2, none⟩ = some z2 ∧ w'.cell? ⟨c, 3, none⟩ = some z3 ∧ w'.cell? ⟨c, 4, none⟩ = some z4 := by
  have k : ∀ {g o : Nat} {v : Value}, w.cell? ⟨g, o, none⟩ = some v → w'.cell? ⟨g, o, none⟩ = some v := fun {g o v} hv => (hb.cell (p := ⟨g, o, none⟩) (World.block_lt_of_cell? w _ hv)).trans hv
  obtain ⟨h0, h1, h2, h3, h4, h5, h6, h7, h8, h9⟩ := h
  exact ⟨k h0, k h1, k h2, k h3, k h4, k h5, k h6, k h7, k h8, k h9⟩

structure DuoW (w0 w : World) (k s t : Int) (y : Bool) (a : Option Addr) (len cap : Nat) (gx bx : Nat) (X : List Od) : Prop where
  bel : Below w0.heap.size w0 w
  box : V5 w w0.heap.size 37 (.int .i64 k) (.int .i64 s) (.int .i64 t) (.slice a len cap) (.bool y)
  vx : V5 w bx 26 (.int .i64 k) (.int .i64 s) (.int .i64 t) (.slice (some ⟨gx, 0, none⟩) len len) (.bool y)
  x : OwnO w w0.heap.size gx len len X
  xb : gx < bx
  b0 : w0.heap.size < gx
section
variable {w0 w w' : World} {k s t : Int} {y : Bool} {a : Option Addr} {len cap gx bx : Nat} {X : List Od}
theorem DuoW.below (h : DuoW w0 w k s t y a len cap gx bx X) (hb : Below w.heap.size w w') : DuoW w0 w' k s t y a len cap gx bx X :=
  ⟨h.bel.trans (hb.mono h.bel.size), h.box.below hb, h.vx.below hb, h.x.below hb, h.xb, h.b0⟩
theorem DuoW.markX (h : DuoW w0 w k s t y a len cap gx bx X) {X' : List Od} (ho : OwnO w' w0.heap.size gx len len X') (hg : w.grownBy w' (some gx)) : DuoW w0 w' k s t y a len cap gx bx X' :=
  ⟨h.bel.grown hg h.bel.size (fun k e => by cases e; exact h.x.lt.1), (hg.block _ h.box.lt (by have := h.b0; simp; omega)).trans h.box, (hg.block _ h.vx.lt (by have := h.xb; simp; omega)).trans h.vx, ho, h.xb, h.b0⟩
theorem DuoW.other (h : DuoW w0 w k s t y a len cap gx bx X) {g : Nat} (hg : w.grownBy w' (some g)) (hb : bx < g) : DuoW w0 w' k s t y a len cap gx bx X :=
  ⟨h.bel.grown hg h.bel.size (fun k e => by cases e; have := h.xb; have := h.b0; omega), (hg.block _ h.box.lt (by have := h.xb; have := h.b0; simp; omega)).trans h.box, (hg.block _ h.vx.lt (by simp; omega)).trans h.vx, h.x.grown hg (by have := h.xb; simp; omega), h.xb, h.b0⟩
theorem DuoW.cells (h : DuoW w0 w k s t y a len cap gx bx X) :
    w.cell? ⟨bx, 0, none⟩ = some (.int .i64 k) ∧ w.cell? ⟨bx, 1, none⟩ = some (.int .i64 s) ∧ w.cell? ⟨bx, 2, none⟩ = some (.int .i64 t) ∧ w.cell? ⟨bx, 3, none⟩ = some (.slice (some ⟨gx, 0, none⟩) len len) ∧ w.cell? ⟨bx, 4, none⟩ = some (.bool y) ∧ w.cell? ⟨w0.heap.size, 0, none⟩ = some (.int .i64 k) ∧ w.cell? ⟨w0.heap.size, 1, none⟩ = some (.int .i64 s) ∧ w.cell? ⟨w0.heap.size, 2, none⟩ = some (.int .i64 t) ∧ w.cell? ⟨w0.heap.size, 3, none⟩ = some (.slice a len cap) ∧ w.cell? ⟨w0.heap.size, 4, none⟩ = some (.bool y) :=
  ⟨h.vx.c0, h.vx.c1, h.vx.c2, h.vx.c3, h.vx.c4, h.box.c0, h.box.c1, h.box.c2, h.box.c3, h.box.c4⟩
end
/-- With an answer of bytes and the specification's. -/
structure QuadP (w0 w : World) (k s t : Int) (y : Bool) (a : Option Addr) (len cap : Nat) (gx bx : Nat) (X : List Od) (gg lg cg : Nat) (G : List UInt8) (gw lw cw : Nat) (W : List UInt8) : Prop where
  d : DuoW w0 w k s t y a len cap gx bx X
  g : Own w w0.heap.size gg lg cg G
  s : Own w w0.heap.size gw lw cw W
  wx : gw < gx
  xg : bx < gg
section
variable {w0 w w' : World} {k s t : Int} {y : Bool} {a : Option Addr} {len cap gx bx : Nat} {X : List Od} {gg lg cg gw lw cw : Nat} {G W : List UInt8}
theorem QuadP.below (h : QuadP w0 w k s t y a len cap gx bx X gg lg cg G gw lw cw W) (hb : Below w.heap.size w w') : QuadP w0 w' k s t y a len cap gx bx X gg lg cg G gw lw cw W :=
  ⟨h.d.below hb, h.g.below hb, h.s.below hb, h.wx, h.xg⟩
theorem QuadP.markX (h : QuadP w0 w k s t y a len cap gx bx X gg lg cg G gw lw cw W) {X' : List Od} (ho : OwnO w' w0.heap.size gx len len X') (hg : w.grownBy w' (some gx)) : QuadP w0 w' k s t y a len cap gx bx X' gg lg cg G gw lw cw W :=
  ⟨h.d.markX ho hg, h.g.grown hg (by have := h.d.xb; have := h.xg; simp; omega), h.s.grown hg (by have := h.wx; simp; omega), h.wx, h.xg⟩
theorem QuadP.markG (h : QuadP w0 w k s t y a len cap gx bx X gg lg cg G gw lw cw W) {G' : List UInt8} (ho : Own w' w0.heap.size gg lg cg G') (hg : w.grownBy w' (some gg)) : QuadP w0 w' k s t y a len cap gx bx X gg lg cg G' gw lw cw W :=
  ⟨h.d.other hg h.xg, ho, h.s.grown hg (by have := h.wx; have := h.d.xb; have := h.xg; simp; omega), h.wx, h.xg⟩
end
end Go.Proofs.Ytjodbijcgcjndaa.wds
