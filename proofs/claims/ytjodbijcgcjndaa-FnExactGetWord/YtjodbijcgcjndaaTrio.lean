/- Three rows of bytes that a law made (the argument's copy, the answer, the specification's answer), kept from step to step. -/
import Derived.Test.YtjodbijcgcjndaaRows
import Derived.Test.YtjodbijcgcjndaaBase
import Derived.Test.YtjodbijcgcjndaaApp
import Derived.Test.YtjodbijcgcjndaaHelp
namespace Go.Proofs.Ytjodbijcgcjndaa.help
open Go.RowKit Go.Proofs.Ytjodbijcgcjndaa.base
set_option linter.unusedVariables false

theorem eqB (a a2 : Option Addr) (len cap len2 cap2 : Nat) (bs bs2 : List UInt8) (w : World) (h : Sl w a len bs) (h2 : Sl w a2 len2 bs2) (he : bs = bs2) :
    Calls Try.prog 21 #[.slice a len cap, .slice a2 len2 cap2] w fun e w' => e = .returned (.bool true) ∧ Below w.heap.size w w' := by
  refine (eqByteS a a2 len cap len2 cap2 bs bs2 w h h2).mono ?_
  rintro e w' ⟨rfl, n, rfl⟩
  exact ⟨ret_bool (decide_eq_true he), below_drewN (Below.refl _ _) _⟩

theorem mark1 (g len cap base : Nat) (bs : List UInt8) (w : World) (h : Own w base g len cap bs) (hk0 : len ≤ 1099511627775) :
    Calls Try.prog 23 #[.slice (some ⟨g, 0, none⟩) len cap, .int .i64 1] w fun e w' => e = .returned (.int .i64 (1 + (len : Int))) ∧ Own w' base g len cap (marks 1 len) ∧ w.grownBy w' (some g) := by
  refine (show Calls Try.prog 23 #[.slice (some ⟨g, 0, none⟩) len cap, .int .i64 ((1 : Nat) : Int)] w _ from markByteS g len cap 1 base bs w h (by omega)).mono ?_
  rintro e w' ⟨rfl, h1, h2⟩
  exact ⟨ret_int (by omega), h1, h2⟩
theorem held1 (a : Option Addr) (len cap : Nat) (w : World) (h : Sl w a len (marks 1 len)) (hk0 : len ≤ 1099511627775) :
    Calls Try.prog 24 #[.slice a len cap, .int .i64 1] w fun e w' => e = .returned (.int .i64 (1 + (len : Int))) ∧ Below w.heap.size w w' := by
  refine (show Calls Try.prog 24 #[.slice a len cap, .int .i64 ((1 : Nat) : Int)] w _ from heldByteS a len cap 1 w h (by omega)).mono ?_
  rintro e w' ⟨rfl, rfl⟩
  exact ⟨ret_int (by omega), Below.refl _ _⟩

structure Trio (w0 w : World) (gx lx cx : Nat) (X : List UInt8) (gg lg cg : Nat) (G : List UInt8) (gw lw cw : Nat) (W : List UInt8) : Prop where
  bel : Below w0.heap.size w0 w
  x : Own w w0.heap.size gx lx cx X
  g : Own w w0.heap.size gg lg cg G
  s : Own w w0.heap.size gw lw cw W
  xg : gx ≠ gg
  xs : gx ≠ gw
  gs : gg ≠ gw
section
variable {w0 w w' : World} {gx lx cx gg lg cg gw lw cw : Nat} {X G W : List UInt8}
theorem Trio.below (h : Trio w0 w gx lx cx X gg lg cg G gw lw cw W) (hb : Below w.heap.size w w') : Trio w0 w' gx lx cx X gg lg cg G gw lw cw W :=
  ⟨h.bel.trans (hb.mono h.bel.size), h.x.below hb, h.g.below hb, h.s.below hb, h.xg, h.xs, h.gs⟩
theorem Trio.markX (h : Trio w0 w gx lx cx X gg lg cg G gw lw cw W) {X' : List UInt8} (ho : Own w' w0.heap.size gx lx cx X') (hg : w.grownBy w' (some gx)) : Trio w0 w' gx lx cx X' gg lg cg G gw lw cw W :=
  ⟨h.bel.grown hg h.bel.size (fun k e => by cases e; exact h.x.lt.1), ho, h.g.grown hg (by simpa using h.xg.symm), h.s.grown hg (by simpa using h.xs.symm), h.xg, h.xs, h.gs⟩
theorem Trio.markG (h : Trio w0 w gx lx cx X gg lg cg G gw lw cw W) {G' : List UInt8} (ho : Own w' w0.heap.size gg lg cg G') (hg : w.grownBy w' (some gg)) : Trio w0 w' gx lx cx X gg lg cg G' gw lw cw W :=
  ⟨h.bel.grown hg h.bel.size (fun k e => by cases e; exact h.g.lt.1), h.x.grown hg (by simpa using h.xg), ho, h.s.grown hg (by simpa using h.gs.symm), h.xg, h.xs, h.gs⟩
end
end Go.Proofs.Ytjodbijcgcjndaa.help
