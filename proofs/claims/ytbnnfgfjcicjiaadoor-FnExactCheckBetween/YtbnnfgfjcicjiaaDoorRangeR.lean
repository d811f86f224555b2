/- Rows that the law of checking made, kept from step to step. -/
import Derived.Test.YtbnnfgfjcicjiaaDoorRangeQ
import Derived.Test.YtbnnfgfjcicjiaaDoorItemS
namespace Go.Proofs.YtbnnfgfjcicjiaaDoor.range
open Go Go.RowKit Go.Proofs.YtbnnfgfjcicjiaaDoor.base Go.Proofs.YtbnnfgfjcicjiaaDoor.pairs Go.Proofs.YtbnnfgfjcicjiaaDoor.tree
set_option linter.unusedVariables false

/-- the argument in its box, the specification's pairs s, a proof x in the variable bx, the program's pairs g: the box and s below B, x from B on, below bx < g -/
structure PentR (w0 w : World) (n fr : Int) (L X : List It) (S G : List Pr) (a : Option Addr) (len cap : Nat) (gw lw cw gx B bx gg lg cg : Nat) (hsx : List Hd) : Prop where
  bel : Below w0.heap.size w0 w
  box : V3 w w0.heap.size 50 (.int .i64 n) (.int .i64 fr) (.slice a len cap)
  s : OwnP w w0.heap.size gw lw cw S
  x : OwnI w B (.slice (some ⟨gx, 0, none⟩) len len) X hsx
  vx : V3 w bx 29 (.int .i64 n) (.int .i64 fr) (.slice (some ⟨gx, 0, none⟩) len len)
  g : OwnP w w0.heap.size gg lg cg G
  sB : gw < B
  bB : w0.heap.size < B
  lx : ∀ k, Blk (.slice (some ⟨gx, 0, none⟩) len len) hsx k → k < bx
  xg : bx < gg
  Bx : B ≤ bx
section
variable {w0 w w' : World} {n fr : Int} {L X : List It} {S G : List Pr} {a : Option Addr} {len cap gw lw cw gx B bx gg lg cg : Nat} {hsx : List Hd}
theorem PentR.below (h : PentR w0 w n fr L X S G a len cap gw lw cw gx B bx gg lg cg hsx) (hb : Below w.heap.size w w') : PentR w0 w' n fr L X S G a len cap gw lw cw gx B bx gg lg cg hsx :=
  ⟨h.bel.trans (hb.mono h.bel.size), h.box.below hb, h.s.below hb, h.x.below hb, h.vx.below hb, h.g.below hb, h.sB, h.bB, h.lx, h.xg, h.Bx⟩
theorem PentR.markX (h : PentR w0 w n fr L X S G a len cap gw lw cw gx B bx gg lg cg hsx) {X' : List It} (ho : OwnI w' B (.slice (some ⟨gx, 0, none⟩) len len) X' hsx) (hk : KeepB (.slice (some ⟨gx, 0, none⟩) len len) hsx w w') : PentR w0 w' n fr L X' S G a len cap gw lw cw gx B bx gg lg cg hsx := by
  have h1 := h.sB
  have h2 := h.bB
  have h3 := h.xg
  have h4 := h.Bx
  have hbw : B ≤ w.heap.size := by have := h.vx.lt; omega
  have hB : Below B w w' := hk.bel hbw (fun k e => (h.x.lt k e).1)
  refine ⟨h.bel.trans (hB.mono (by omega)), (hB.block _ h2).trans h.box, ownP_of_block h.s (hB.block _ h1), ho, ?_, ?_, h.sB, h.bB, h.lx, h.xg, h.Bx⟩
  · exact (hk.block bx h.vx.lt (fun e => by have := h.lx bx e; omega)).trans h.vx
  · exact ownP_of_block h.g (hk.block gg h.g.lt.2 (fun e => by have := h.lx gg e; omega))
theorem PentR.markG (h : PentR w0 w n fr L X S G a len cap gw lw cw gx B bx gg lg cg hsx) {G' : List Pr} (ho : OwnP w' w0.heap.size gg lg cg G') (hg : w.grownBy w' (some gg)) : PentR w0 w' n fr L X S G' a len cap gw lw cw gx B bx gg lg cg hsx := by
  have h1 := h.sB
  have h2 := h.bB
  have h3 := h.xg
  have h4 := h.Bx
  refine ⟨h.bel.grown hg h.bel.size (fun k e => by cases e; exact h.g.lt.1), (hg.block _ h.box.lt (fun e => by cases e; omega)).trans h.box, h.s.grown hg (fun e => by cases e; omega), h.x.grown hg (fun e => by have := h.lx _ e; omega), (hg.block bx h.vx.lt (fun e => by cases e; omega)).trans h.vx, ho, h.sB, h.bB, h.lx, h.xg, h.Bx⟩
theorem PentR.cells (h : PentR w0 w n fr L X S G a len cap gw lw cw gx B bx gg lg cg hsx) :
    w.cell? ⟨bx, 0, none⟩ = some (.int .i64 n) ∧ w.cell? ⟨bx, 1, none⟩ = some (.int .i64 fr) ∧ w.cell? ⟨bx, 2, none⟩ = some (.slice (some ⟨gx, 0, none⟩) len len) ∧ w.cell? ⟨w0.heap.size, 0, none⟩ = some (.int .i64 n) ∧ w.cell? ⟨w0.heap.size, 1, none⟩ = some (.int .i64 fr) ∧ w.cell? ⟨w0.heap.size, 2, none⟩ = some (.slice a len cap) :=
  ⟨h.vx.c0, h.vx.c1, h.vx.c2, h.box.c0, h.box.c1, h.box.c2⟩
end
end Go.Proofs.YtbnnfgfjcicjiaaDoor.range
