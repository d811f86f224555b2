/- A row of bytes and two rows of strings that a law made, kept from step to step. -/
import Derived.Test.YtdiiabfkckbajaaRows
import Derived.Test.YtdiiabfkckbajaaBase
import Derived.Test.YtdiiabfkckbajaaHelp
import Derived.Test.YtdiiabfkckbajaaHelpS
import Derived.Test.YtdiiabfkckbajaaTrio
namespace Go.Proofs.Ytdiiabfkckbajaa.helps
open Go.RowKit Go.Proofs.Ytdiiabfkckbajaa.base Go.Proofs.Ytdiiabfkckbajaa.help
set_option linter.unusedVariables false

theorem eqS (a a2 : Option Addr) (len cap len2 cap2 : Nat) (bs bs2 : List ByteArray) (w : World) (h : SlS w a len bs) (h2 : SlS w a2 len2 bs2) (he : bs = bs2) :
    Calls Try.prog 37 #[.slice a len cap, .slice a2 len2 cap2] w fun e w' => e = .returned (.bool true) ∧ Below w.heap.size w w' := by
  refine (eqStringS a a2 len cap len2 cap2 bs bs2 w h h2).mono ?_
  rintro e w' ⟨rfl, n, rfl⟩
  exact ⟨ret_bool (decide_eq_true he), below_drewN (Below.refl _ _) _⟩
theorem markS1 (g len cap base : Nat) (ss : List ByteArray) (w : World) (h : OwnS w base g len cap ss) (hk0 : len ≤ 1099511627775) :
    Calls Try.prog 38 #[.slice (some ⟨g, 0, none⟩) len cap, .int .i64 1] w fun e w' => e = .returned (.int .i64 (1 + (len : Int))) ∧ OwnS w' base g len cap (markS 1 len) ∧ w.grownBy w' (some g) := by
  refine (show Calls Try.prog 38 #[.slice (some ⟨g, 0, none⟩) len cap, .int .i64 ((1 : Nat) : Int)] w _ from markStringS g len cap 1 base ss w h (by omega) (by omega)).mono ?_
  rintro e w' ⟨rfl, h1, h2⟩
  exact ⟨ret_int (by omega), h1, h2⟩
theorem heldS1 (a : Option Addr) (len cap : Nat) (w : World) (h : SlS w a len (markS 1 len)) (hk0 : len ≤ 1099511627775) :
    Calls Try.prog 40 #[.slice a len cap, .int .i64 1] w fun e w' => e = .returned (.int .i64 (1 + (len : Int))) ∧ Below w.heap.size w w' := by
  refine (show Calls Try.prog 40 #[.slice a len cap, .int .i64 ((1 : Nat) : Int)] w _ from heldStringS a len cap 1 w h (by omega) (by omega)).mono ?_
  rintro e w' ⟨rfl, hb⟩
  exact ⟨ret_int (by omega), hb⟩

structure TrioS (w0 w : World) (gx lx cx : Nat) (X : List UInt8) (gg lg cg : Nat) (G : List ByteArray) (gw lw cw : Nat) (W : List ByteArray) : Prop where
  bel : Below w0.heap.size w0 w
  x : Own w w0.heap.size gx lx cx X
  g : OwnS w w0.heap.size gg lg cg G
  s : OwnS w w0.heap.size gw lw cw W
  xg : gx ≠ gg
  xs : gx ≠ gw
  gs : gg ≠ gw
section
variable {w0 w w' : World} {gx lx cx gg lg cg gw lw cw : Nat} {X : List UInt8} {G W : List ByteArray}
theorem TrioS.below (h : TrioS w0 w gx lx cx X gg lg cg G gw lw cw W) (hb : Below w.heap.size w w') : TrioS w0 w' gx lx cx X gg lg cg G gw lw cw W :=
  ⟨h.bel.trans (hb.mono h.bel.size), h.x.below hb, h.g.below hb, h.s.below hb, h.xg, h.xs, h.gs⟩
theorem TrioS.markX (h : TrioS w0 w gx lx cx X gg lg cg G gw lw cw W) {X' : List UInt8} (ho : Own w' w0.heap.size gx lx cx X') (hg : w.grownBy w' (some gx)) : TrioS w0 w' gx lx cx X' gg lg cg G gw lw cw W :=
  ⟨h.bel.grown hg h.bel.size (fun k e => by cases e; exact h.x.lt.1), ho, h.g.grown hg (by simpa using h.xg.symm), h.s.grown hg (by simpa using h.xs.symm), h.xg, h.xs, h.gs⟩
theorem TrioS.markG (h : TrioS w0 w gx lx cx X gg lg cg G gw lw cw W) {G' : List ByteArray} (ho : OwnS w' w0.heap.size gg lg cg G') (hg : w.grownBy w' (some gg)) : TrioS w0 w' gx lx cx X gg lg cg G' gw lw cw W :=
  ⟨h.bel.grown hg h.bel.size (fun k e => by cases e; exact h.g.lt.1), h.x.grown hg (by simpa using h.xg), ho, h.s.grown hg (by simpa using h.gs.symm), h.xg, h.xs, h.gs⟩
end
end Go.Proofs.Ytdiiabfkckbajaa.helps
