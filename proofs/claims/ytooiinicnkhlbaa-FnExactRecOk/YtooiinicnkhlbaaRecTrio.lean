/- What the exact laws over one record keep from step to step: the argument's box, the copy that was handed in with its box, the answer and the specification's. -/
import Derived.Test.YtooiinicnkhlbaaRecHC
import Derived.Test.YtooiinicnkhlbaaOrdTrio
namespace Go.Proofs.Ytooiinicnkhlbaa.recs
open Go Go.RowKit Go.Proofs.Ytooiinicnkhlbaa.base Go.Proofs.Ytooiinicnkhlbaa.pairs Go.Proofs.Ytooiinicnkhlbaa.ords Go.Proofs.Ytooiinicnkhlbaa.helps
set_option linter.unusedVariables false

theorem keep6 {w w' : World} {b c : Nat} {x y z x' y' z' : Value} (hb : Below w.heap.size w w') (h : w.cell? ⟨b, 0, none⟩ = some x ∧ w.cell? ⟨b, 1, none⟩ = some y ∧ w.cell? ⟨b, 2, none⟩ = some z ∧ w.cell? ⟨c, 0, none⟩ = some x' ∧ w.cell? ⟨c, 1, none⟩ = some y' ∧ w.cell? ⟨c, 2, none⟩ = some z') :
    w'.cell? ⟨b, 0, none⟩ = some x ∧ w'.cell? ⟨b, 1, none⟩ = some y ∧ w'.cell? ⟨b, 2, none⟩ = some z ∧ w'.cell? ⟨c, 0, none⟩ = some x' ∧ w'.cell? ⟨c, 1, none⟩ = some y' ∧ w'.cell? ⟨c, 2, none⟩ = some z' := by
  have k : ∀ {g o : Nat} {v : Value}, w.cell? ⟨g, o, none⟩ = some v → w'.cell? ⟨g, o, none⟩ = some v := fun {g o v} hv => (hb.cell (p := ⟨g, o, none⟩) (World.block_lt_of_cell? w _ hv)).trans hv
  exact ⟨k h.1, k h.2.1, k h.2.2.1, k h.2.2.2.1, k h.2.2.2.2.1, k h.2.2.2.2.2⟩

structure DuoR (w0 w : World) (kind tx : Int) (a : Option Addr) (len cap : Nat) (gx bx : Nat) (X : List Od) : Prop where
  bel : Below w0.heap.size w0 w
  box : V3 w w0.heap.size 36 (.int .i64 kind) (.int .i64 tx) (.slice a len cap)
  vx : V3 w bx 32 (.int .i64 kind) (.int .i64 tx) (.slice (some ⟨gx, 0, none⟩) len len)
  x : OwnO w w0.heap.size gx len len X
  xb : gx < bx
  b0 : w0.heap.size < gx
section
variable {w0 w w' : World} {kind tx : Int} {a : Option Addr} {len cap gx bx : Nat} {X : List Od}
theorem DuoR.below (h : DuoR w0 w kind tx a len cap gx bx X) (hb : Below w.heap.size w w') : DuoR w0 w' kind tx a len cap gx bx X :=
  ⟨h.bel.trans (hb.mono h.bel.size), h.box.below hb, h.vx.below hb, h.x.below hb, h.xb, h.b0⟩
theorem DuoR.markX (h : DuoR w0 w kind tx a len cap gx bx X) {X' : List Od} (ho : OwnO w' w0.heap.size gx len len X') (hg : w.grownBy w' (some gx)) : DuoR w0 w' kind tx a len cap gx bx X' :=
  ⟨h.bel.grown hg h.bel.size (fun k e => by cases e; exact h.x.lt.1), (hg.block _ h.box.lt (by have := h.b0; simp; omega)).trans h.box, (hg.block _ h.vx.lt (by have := h.xb; simp; omega)).trans h.vx, ho, h.xb, h.b0⟩
theorem DuoR.other (h : DuoR w0 w kind tx a len cap gx bx X) {g : Nat} (hg : w.grownBy w' (some g)) (hb : bx < g) : DuoR w0 w' kind tx a len cap gx bx X :=
  ⟨h.bel.grown hg h.bel.size (fun k e => by cases e; have := h.xb; have := h.b0; omega), (hg.block _ h.box.lt (by have := h.xb; have := h.b0; simp; omega)).trans h.box, (hg.block _ h.vx.lt (by simp; omega)).trans h.vx, h.x.grown hg (by have := h.xb; simp; omega), h.xb, h.b0⟩
theorem DuoR.cells (h : DuoR w0 w kind tx a len cap gx bx X) :
    w.cell? ⟨bx, 0, none⟩ = some (.int .i64 kind) ∧ w.cell? ⟨bx, 1, none⟩ = some (.int .i64 tx) ∧ w.cell? ⟨bx, 2, none⟩ = some (.slice (some ⟨gx, 0, none⟩) len len) ∧ w.cell? ⟨w0.heap.size, 0, none⟩ = some (.int .i64 kind) ∧ w.cell? ⟨w0.heap.size, 1, none⟩ = some (.int .i64 tx) ∧ w.cell? ⟨w0.heap.size, 2, none⟩ = some (.slice a len cap) :=
  ⟨h.vx.c0, h.vx.c1, h.vx.c2, h.box.c0, h.box.c1, h.box.c2⟩
end
/-- With an answer of bytes and the specification's. -/
structure QuadP (w0 w : World) (kind tx : Int) (a : Option Addr) (len cap : Nat) (gx bx : Nat) (X : List Od) (gg lg cg : Nat) (G : List UInt8) (gw lw cw : Nat) (W : List UInt8) : Prop where
  d : DuoR w0 w kind tx a len cap gx bx X
  g : Own w w0.heap.size gg lg cg G
  s : Own w w0.heap.size gw lw cw W
  wx : gw < gx
  xg : bx < gg
section
variable {w0 w w' : World} {kind tx : Int} {a : Option Addr} {len cap gx bx : Nat} {X : List Od} {gg lg cg gw lw cw : Nat} {G W : List UInt8}
theorem QuadP.below (h : QuadP w0 w kind tx a len cap gx bx X gg lg cg G gw lw cw W) (hb : Below w.heap.size w w') : QuadP w0 w' kind tx a len cap gx bx X gg lg cg G gw lw cw W :=
  ⟨h.d.below hb, h.g.below hb, h.s.below hb, h.wx, h.xg⟩
theorem QuadP.markX (h : QuadP w0 w kind tx a len cap gx bx X gg lg cg G gw lw cw W) {X' : List Od} (ho : OwnO w' w0.heap.size gx len len X') (hg : w.grownBy w' (some gx)) : QuadP w0 w' kind tx a len cap gx bx X' gg lg cg G gw lw cw W :=
  ⟨h.d.markX ho hg, h.g.grown hg (by have := h.d.xb; have := h.xg; simp; omega), h.s.grown hg (by have := h.wx; simp; omega), h.wx, h.xg⟩
theorem QuadP.markG (h : QuadP w0 w kind tx a len cap gx bx X gg lg cg G gw lw cw W) {G' : List UInt8} (ho : Own w' w0.heap.size gg lg cg G') (hg : w.grownBy w' (some gg)) : QuadP w0 w' kind tx a len cap gx bx X gg lg cg G' gw lw cw W :=
  ⟨h.d.other hg h.xg, ho, h.s.grown hg (by have := h.wx; have := h.d.xb; have := h.xg; simp; omega), h.wx, h.xg⟩
end
end Go.Proofs.Ytooiinicnkhlbaa.recs
