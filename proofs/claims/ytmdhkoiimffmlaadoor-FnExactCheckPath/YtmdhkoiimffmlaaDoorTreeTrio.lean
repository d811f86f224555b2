/- Rows of pairs and of strings that a law made, kept from step to step. -/
import Derived.Test.YtmdhkoiimffmlaaDoorPairTrio
import Derived.Test.YtmdhkoiimffmlaaDoorHelpS
namespace Go.Proofs.YtmdhkoiimffmlaaDoor.tree
open Go Go.RowKit Go.Proofs.YtmdhkoiimffmlaaDoor.base Go.Proofs.YtmdhkoiimffmlaaDoor.pairs Go.Proofs.YtmdhkoiimffmlaaDoor.helps
set_option linter.unusedVariables false

theorem eqT (a a2 : Option Addr) (len cap len2 cap2 : Nat) (bs bs2 : List ByteArray) (w : World) (h : SlS w a len bs) (h2 : SlS w a2 len2 bs2) (he : bs = bs2) :
    Calls Tryd.prog 32 #[.slice a len cap, .slice a2 len2 cap2] w fun e w' => e = .returned (.bool true) ∧ Below w.heap.size w w' := by
  refine (eqStringS a a2 len cap len2 cap2 bs bs2 w h h2).mono ?_
  rintro e w' ⟨rfl, n, rfl⟩
  exact ⟨ret_bool (decide_eq_true he), below_drewN (Below.refl _ _) _⟩
theorem markT1 (g len cap base : Nat) (ss : List ByteArray) (w : World) (h : OwnS w base g len cap ss) (hk0 : len ≤ 1099511627775) :
    Calls Tryd.prog 34 #[.slice (some ⟨g, 0, none⟩) len cap, .int .i64 1] w fun e w' => e = .returned (.int .i64 (1 + (len : Int))) ∧ OwnS w' base g len cap (markS 1 len) ∧ w.grownBy w' (some g) := by
  refine (show Calls Tryd.prog 34 #[.slice (some ⟨g, 0, none⟩) len cap, .int .i64 ((1 : Nat) : Int)] w _ from markStringS g len cap 1 base ss w h (by omega) (by omega)).mono ?_
  rintro e w' ⟨rfl, h1, h2⟩
  exact ⟨ret_int (by omega), h1, h2⟩
theorem heldT1 (a : Option Addr) (len cap : Nat) (w : World) (h : SlS w a len (markS 1 len)) (hk0 : len ≤ 1099511627775) :
    Calls Tryd.prog 35 #[.slice a len cap, .int .i64 1] w fun e w' => e = .returned (.int .i64 (1 + (len : Int))) ∧ Below w.heap.size w w' := by
  refine (show Calls Tryd.prog 35 #[.slice a len cap, .int .i64 ((1 : Nat) : Int)] w _ from heldStringS a len cap 1 w h (by omega) (by omega)).mono ?_
  rintro e w' ⟨rfl, hb⟩
  exact ⟨ret_int (by omega), hb⟩

/-- a row of pairs and two rows of strings -/
structure TrioM (w0 w : World) (gx lx cx : Nat) (X : List Pr) (gg lg cg : Nat) (G : List ByteArray) (gw lw cw : Nat) (W : List ByteArray) : Prop where
  bel : Below w0.heap.size w0 w
  x : OwnP w w0.heap.size gx lx cx X
  g : OwnS w w0.heap.size gg lg cg G
  s : OwnS w w0.heap.size gw lw cw W
  xg : gx ≠ gg
  xs : gx ≠ gw
  gs : gg ≠ gw
section
variable {w0 w w' : World} {gx lx cx gg lg cg gw lw cw : Nat} {X : List Pr} {G W : List ByteArray}
theorem TrioM.below (h : TrioM w0 w gx lx cx X gg lg cg G gw lw cw W) (hb : Below w.heap.size w w') : TrioM w0 w' gx lx cx X gg lg cg G gw lw cw W :=
  ⟨h.bel.trans (hb.mono h.bel.size), h.x.below hb, h.g.below hb, h.s.below hb, h.xg, h.xs, h.gs⟩
theorem TrioM.markX (h : TrioM w0 w gx lx cx X gg lg cg G gw lw cw W) {X' : List Pr} (ho : OwnP w' w0.heap.size gx lx cx X') (hg : w.grownBy w' (some gx)) : TrioM w0 w' gx lx cx X' gg lg cg G gw lw cw W :=
  ⟨h.bel.grown hg h.bel.size (fun k e => by cases e; exact h.x.lt.1), ho, h.g.grown hg (by simpa using h.xg.symm), h.s.grown hg (by simpa using h.xs.symm), h.xg, h.xs, h.gs⟩
theorem TrioM.markG (h : TrioM w0 w gx lx cx X gg lg cg G gw lw cw W) {G' : List ByteArray} (ho : OwnS w' w0.heap.size gg lg cg G') (hg : w.grownBy w' (some gg)) : TrioM w0 w' gx lx cx X gg lg cg G' gw lw cw W :=
  ⟨h.bel.grown hg h.bel.size (fun k e => by cases e; exact h.g.lt.1), h.x.grown hg (by simpa using h.xg), ho, h.s.grown hg (by simpa using h.gs.symm), h.xg, h.xs, h.gs⟩
end
end Go.Proofs.YtmdhkoiimffmlaaDoor.tree
