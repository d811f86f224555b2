/- Rows that the law of proving made, kept from step to step. -/
import Derived.Test.YtbnnfgfjcicjiaaDoorItemR
import Derived.Test.YtbnnfgfjcicjiaaDoorRangeT
import Derived.Test.YtbnnfgfjcicjiaaDoorHelpR
namespace Go.Proofs.YtbnnfgfjcicjiaaDoor.range
open Go Go.RowKit Go.Proofs.YtbnnfgfjcicjiaaDoor.base Go.Proofs.YtbnnfgfjcicjiaaDoor.pairs Go.Proofs.YtbnnfgfjcicjiaaDoor.tree
set_option linter.unusedVariables false

/-- a row of pairs x, the specification's proof s in the variable bs, the program's proof g in the variable bg: all s below bs < x < B, all g from B on, below bg -/
structure QuadR (w0 w : World) (n fr : Int) (L G : List It) (X : List Pr) (gx lx cx B bs bg : Nat) (sa ga : Option Addr) (sm sc gm gc : Nat) (hss hsg : List Hd) : Prop where
  bel : Below w0.heap.size w0 w
  x : OwnP w w0.heap.size gx lx cx X
  s : OwnI w w0.heap.size (.slice sa sm sc) L hss
  g : OwnI w B (.slice ga gm gc) G hsg
  vs : V3 w bs 29 (.int .i64 n) (.int .i64 fr) (.slice sa sm sc)
  vg : V3 w bg 29 (.int .i64 n) (.int .i64 fr) (.slice ga gm gc)
  ls : ∀ k, Blk (.slice sa sm sc) hss k → k < bs
  sx : bs < gx
  xb : gx < B
  lg : ∀ k, Blk (.slice ga gm gc) hsg k → k < bg
  w0s : w0.heap.size ≤ bs
  bw : B ≤ w.heap.size
section
variable {w0 w w' : World} {n fr : Int} {L G : List It} {X : List Pr} {gx lx cx B bs bg : Nat} {sa ga : Option Addr} {sm sc gm gc : Nat} {hss hsg : List Hd}
theorem QuadR.below (h : QuadR w0 w n fr L G X gx lx cx B bs bg sa ga sm sc gm gc hss hsg) (hb : Below w.heap.size w w') : QuadR w0 w' n fr L G X gx lx cx B bs bg sa ga sm sc gm gc hss hsg :=
  ⟨h.bel.trans (hb.mono h.bel.size), h.x.below hb, h.s.below hb, h.g.below hb, h.vs.below hb, h.vg.below hb, h.ls, h.sx, h.xb, h.lg, h.w0s, Nat.le_trans h.bw hb.size⟩
theorem QuadR.bgB (h : QuadR w0 w n fr L G X gx lx cx B bs bg sa ga sm sc gm gc hss hsg) (hbg : B ≤ bg) : bg ≠ gx := by have := h.xb; omega
theorem QuadR.markX (h : QuadR w0 w n fr L G X gx lx cx B bs bg sa ga sm sc gm gc hss hsg) (hbg : B ≤ bg) {X' : List Pr} (ho : OwnP w' w0.heap.size gx lx cx X') (hg : w.grownBy w' (some gx)) : QuadR w0 w' n fr L G X' gx lx cx B bs bg sa ga sm sc gm gc hss hsg := by
  have hsx := h.sx
  have hxb := h.xb
  refine ⟨h.bel.grown hg h.bel.size (fun k e => by cases e; exact h.x.lt.1), ho, h.s.grown hg (fun e => by have := h.ls _ e; omega), h.g.grown hg (fun e => by have := (h.g.lt _ e).1; omega), ?_, ?_, h.ls, h.sx, h.xb, h.lg, h.w0s, Nat.le_trans h.bw hg.size⟩
  · exact (hg.block bs h.vs.lt (fun e => by cases e; omega)).trans h.vs
  · exact (hg.block bg h.vg.lt (fun e => by cases e; omega)).trans h.vg
theorem QuadR.markG (h : QuadR w0 w n fr L G X gx lx cx B bs bg sa ga sm sc gm gc hss hsg) {G' : List It} (ho : OwnI w' B (.slice ga gm gc) G' hsg) (hk : KeepB (.slice ga gm gc) hsg w w') : QuadR w0 w' n fr L G' X gx lx cx B bs bg sa ga sm sc gm gc hss hsg := by
  have hsx := h.sx
  have hxb := h.xb
  have hw0 := h.w0s
  have hB : Below B w w' := hk.bel h.bw (fun k e => (h.g.lt k e).1)
  refine ⟨h.bel.trans (hB.mono (by omega)), ownP_of_block h.x (hB.block gx hxb), h.s.of_blocks (fun k e => hB.block k (by have := h.ls k e; omega)), ho, (hB.block bs (by omega)).trans h.vs, ?_, h.ls, h.sx, h.xb, h.lg, h.w0s, Nat.le_trans h.bw hk.size⟩
  exact (hk.block bg h.vg.lt (fun e => by have := h.lg bg e; omega)).trans h.vg
theorem QuadR.cells (h : QuadR w0 w n fr L G X gx lx cx B bs bg sa ga sm sc gm gc hss hsg) :
    w.cell? ⟨bg, 0, none⟩ = some (.int .i64 n) ∧ w.cell? ⟨bg, 1, none⟩ = some (.int .i64 fr) ∧ w.cell? ⟨bg, 2, none⟩ = some (.slice ga gm gc) ∧ w.cell? ⟨bs, 0, none⟩ = some (.int .i64 n) ∧ w.cell? ⟨bs, 1, none⟩ = some (.int .i64 fr) ∧ w.cell? ⟨bs, 2, none⟩ = some (.slice sa sm sc) :=
  ⟨h.vg.c0, h.vg.c1, h.vg.c2, h.vs.c0, h.vs.c1, h.vs.c2⟩
end
end Go.Proofs.YtbnnfgfjcicjiaaDoor.range
