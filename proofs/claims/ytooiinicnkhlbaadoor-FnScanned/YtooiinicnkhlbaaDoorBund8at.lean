/- The laws' helpers for records that are handed in: copied; and the arguments, opened. Three rows of bytes that a law made (the argument's copy, the answer, the specification's answer), kept from step to step. Rows of several kinds that a law made, kept from step to step. What the exact laws over one record keep from step to step: the argument's box, the copy that was handed in with its box, the answer and the specification's. What all laws share whose road reads the table of the rounds' words: the table reads as its datum, so its cells are the words. The specification's orders, read of bytes. -/
import Derived.Test.YtooiinicnkhlbaaDoorBund8as
import Derived.Test.YtooiinicnkhlbaaDoorRows
import Derived.Test.YtooiinicnkhlbaaDoorBund8aa
import Derived.Test.YtooiinicnkhlbaaDoorBund8ab
import Derived.Test.YtooiinicnkhlbaaDoorBund8ap
import Derived.ProofKit
import Derived.OpenShut
import Derived.ShutString
import Derived.ChangeOld
import Derived.Below
import Derived.ChangeVars
import Derived.OpenVars
import Derived.LaidMore
import Derived.Lay
import Derived.LaidOnce
import Derived.SevenTiedAt
import Derived.Test.YtooiinicnkhlbaaDoorBund8al
namespace Go.Proofs.YtooiinicnkhlbaaDoor.recs
open Go Go.RowKit Go.Proofs.YtooiinicnkhlbaaDoor.base Go.Proofs.YtooiinicnkhlbaaDoor.pairs Go.Proofs.YtooiinicnkhlbaaDoor.ords Go.Proofs.YtooiinicnkhlbaaDoor.helps
set_option linter.unusedVariables false
set_option linter.unusedSimpArgs false

theorem v3n (w : World) (t : TypeId) (x y z : Value) : V3 (w.alloc (.cells #[x, y, z] t)) w.heap.size t x y z := heap_alloc_new w _
theorem v3a {w : World} {g : Nat} {t : TypeId} {x y z : Value} (h : V3 w g t x y z) (o : Obj) : V3 (w.alloc o) g t x y z := h.below ((Below.refl _ _).alloc (Nat.le_refl _) _)
theorem v3n1 (w : World) (o : Obj) (t : TypeId) (x y z : Value) : V3 ((w.alloc o).alloc (.cells #[x, y, z] t)) (w.heap.size + 1) t x y z := by
  have := v3n (w.alloc o) t x y z
  have e : (w.alloc o).heap.size = w.heap.size + 1 := by simp
  rw [e] at this; exact this
theorem v3n2 (w : World) (o o2 : Obj) (t : TypeId) (x y z : Value) : V3 (((w.alloc o).alloc o2).alloc (.cells #[x, y, z] t)) (w.heap.size + 2) t x y z := by
  have := v3n1 (w.alloc o) o2 t x y z
  have e : (w.alloc o).heap.size = w.heap.size + 1 := by simp
  rw [e] at this; exact this

set_option maxRecDepth 100000 in
set_option maxHeartbeats 2000000 in
theorem toRec (kind tx : Int) (pa : Option Addr) (pl pc : Nat) (l : List Od) (w : World) (h : SlO w pa pl l) (hsz : pl ≤ 1099511627776) :
    Calls Tryd.prog 26 #[.agg #[.int .i64 kind, .int .i64 tx, .slice pa pl pc]] w fun e w' =>
      ∃ g, e = .returned (.agg #[.int .i64 kind, .int .i64 tx, .slice (some ⟨g, 0, none⟩) pl pl]) ∧ OwnO w' w.heap.size g pl pl l ∧ Below w.heap.size w w' := by
  obtain ⟨W0, hW0⟩ : ∃ W, ((w.alloc (.cells #[.int .i64 kind, .int .i64 tx, .slice pa pl pc] 46)).alloc (.cells #[.int .i64 0, .int .i64 0, .slice none 0 0] 26)).alloc (.cells #[.int .i64 kind, .int .i64 tx, .slice none 0 0] 26) = W := ⟨_, rfl⟩
  have hB : Below w.heap.size w W0 := by rw [← hW0]; exact (((Below.refl _ _).alloc (Nat.le_refl _) _).alloc (by simp) _).alloc (by simp; omega) _
  have v1 : V3 W0 (w.heap.size + 1) 26 (.int .i64 0) (.int .i64 0) (.slice none 0 0) := by
    rw [← hW0]; exact v3a (v3n1 w _ _ _ _ _) _
  have v2 : V3 W0 (w.heap.size + 1 + 1) 26 (.int .i64 kind) (.int .i64 tx) (.slice none 0 0) := by
    rw [← hW0]; exact v3n2 w _ _ _ _ _ _
  have HW := Hid.mk' hW0
  have HT := Hid.mk' (toOpS pa pl pc l W0 (h.below hB) hsz)
  clear hW0
  go_enter Tryd.func26, Tryd.ntmps26
  go_wp2_with fail
  rw [HW.out]
  refine HT.out.mono ?_
  rintro e w2 ⟨g, rfl, hO, hb2⟩
  have u1 := v1.below hb2
  have u2 := v2.below hb2
  have hB2 := hB.trans (hb2.mono hB.size)
  have hgl := hO.lt
  have hl2 := v2.lt
  have s2 := (v3_set u2).2.2 (.slice (some ⟨g, 0, none⟩) pl pl)
  have t1 := v3_grown u1 s2.2 (by simp)
  have hO2 := hO.grown s2.2 (by simp; omega)
  have hB3 := hB2.grown s2.2 hB2.size (fun j e => by cases e; omega)
  have z := v3_all t1 (.int .i64 kind) (.int .i64 tx) (.slice (some ⟨g, 0, none⟩) pl pl)
  have HO := Hid.mk' ((hO2.grown z.2 (by simp; omega)).mono (base' := w.heap.size) hB.size)
  have HBz := Hid.mk' (hB3.grown z.2 hB3.size (fun j e => by cases e; omega))
  have z0 := z.1.c0
  have z1 := z.1.c1
  have z2 := z.1.c2
  have m2 := u2.c2
  have q2 := v3_fz u2 2
  have a0 := s2.1.c0
  have a1 := s2.1.c1
  have a2 := s2.1.c2
  have b0 := t1.c0
  have b1 := t1.c1
  have b2 := t1.c2
  have k0 := v3_fz t1 0
  have k1 := v3_fz t1 1
  have k2 := v3_fz t1 2
  clear v1 v2 u1 u2 s2 t1 z hO hO2 hb2 hB hB2 hB3 HW HT
  go_wp2_with fail
  refine bodyPost_ret (v := .agg #[.int .i64 kind, .int .i64 tx, .slice (some ⟨g, 0, none⟩) pl pl]) ?h1 rfl ⟨g, rfl, HO.out, HBz.out⟩
  simp [results, Tryd.results26, go_sem, z0, z1, z2]

/-! ### arguments -/
theorem slo_arg2 {H : Type} {enc : TypeId × Value → H} {W : World} {n : Nat} {v : Value} {y : DataW H × List MemPlace} (f0 f1 f2 : Field) (he : Tryd.prog.underlying 110 = some (.struct #[f0, f1, f2]))
    (ce : Tryd.prog.cellsOf 110 = 3) (o0 : f0.offset = 0) (o1 : f1.offset = 1) (o2 : f2.offset = 2) (t0 : f0.type = 3) (t1 : f1.type = 9) (t2 : f2.type = 9) (c3 : Tryd.prog.cellsOf 3 = 1) (c9 : Tryd.prog.cellsOf 9 = 1)
    (h : DataW.trod enc Tryd.prog W 0 (fun _ => true) true n 44 [v] = some y) : ∃ pa pl pc l, v = .slice pa pl pc ∧ SlO W pa pl l ∧ pl ≤ pc := by
  obtain ⟨pa, pl, pc, hv, hpc⟩ : ∃ a len cap, v = .slice a len cap ∧ len ≤ cap := by
    rcases Deep.open_slice Tryd.underlying44 h with ⟨hcs, _⟩ | ⟨ad, len, cap, _, _, _, _, hcs, _, hl, _⟩
    · simp at hcs; exact ⟨_, _, _, hcs, Nat.le_refl _⟩
    · simp at hcs; exact ⟨_, _, _, hcs, hl⟩
  subst hv
  obtain ⟨l, hl⟩ := slo_arg (cap := pc) 44 110 f0 f1 f2 Tryd.underlying44 he ce o0 o1 o2 t0 t1 t2 c3 c9 h
  exact ⟨pa, pl, pc, l, rfl, hl, hpc⟩
set_option maxRecDepth 100000 in
theorem rec_arg {H : Type} {enc : TypeId × Value → H} {W : World} {v : Value} {r : Reach} {base fuel : Nat} {x : DataW H × List MemPlace} (e : TypeId) (f0 f1 f2 : Field) (he : Tryd.prog.underlying e = some (.struct #[f0, f1, f2]))
    (ce : Tryd.prog.cellsOf e = 3) (o0 : f0.offset = 0) (o1 : f1.offset = 1) (o2 : f2.offset = 2) (t0 : f0.type = 3) (t1 : f1.type = 3) (t2 : f2.type = 44) (c3 : Tryd.prog.cellsOf 3 = 1) (cs1 : Tryd.prog.cellsOf 44 = 1)
    (g0 g1 g2 : Field) (hI : Tryd.prog.underlying 110 = some (.struct #[g0, g1, g2])) (cI : Tryd.prog.cellsOf 110 = 3) (i0 : g0.offset = 0) (i1 : g1.offset = 1) (i2 : g2.offset = 2) (u0 : g0.type = 3) (u1 : g1.type = 9) (u2 : g2.type = 9) (c9 : Tryd.prog.cellsOf 9 = 1)
    (hok : Value.okWide Tryd.prog W r base e v) (h : DataW.trod enc Tryd.prog W 0 (fun _ => true) true fuel e v.cells.toList = some x) :
    ∃ (kind tx : Int) (a : Option Addr) (len cap : Nat) (l : List Od), v = .agg #[.int .i64 kind, .int .i64 tx, .slice a len cap] ∧ (Lit.int .i64 kind).wf = true ∧ (Lit.int .i64 tx).wf = true ∧ SlO W a len l := by
  obtain ⟨cs, rfl, hsz⟩ := WideShapes.okWide_struct he hok
  rw [ce] at hsz
  obtain ⟨xs, m, _, _, _, hxl, hel⟩ := DataW.trod_struct he h
  have k0 := hel 0 f0 rfl
  have k1 := hel 1 f1 rfl
  have k2 := hel 2 f2 rfl
  obtain ⟨l⟩ := cs
  match l, hsz, xs, hxl with
  | [v0, v1, v2], _, [y0, y1, y2], _ =>
    simp [o0, o1, o2, t0, t1, t2, c3, cs1, Value.cells] at k0 k1 k2
    obtain ⟨n, e0, _, w0⟩ := DataW.trod_int Tryd.underlying3 k0
    obtain ⟨fr, e1, _, w1⟩ := DataW.trod_int Tryd.underlying3 k1
    simp at e0 e1
    subst e0 e1
    obtain ⟨pa, pl, pc, ops, rfl, hS, _⟩ := slo_arg2 g0 g1 g2 hI cI i0 i1 i2 u0 u1 u2 c3 c9 k2
    exact ⟨n, fr, pa, pl, pc, ops, rfl, w0, w1, hS⟩
end Go.Proofs.YtooiinicnkhlbaaDoor.recs

namespace Go.Proofs.YtooiinicnkhlbaaDoor.help
open Go.RowKit Go.Proofs.YtooiinicnkhlbaaDoor.base
set_option linter.unusedVariables false

theorem eqB (a a2 : Option Addr) (len cap len2 cap2 : Nat) (bs bs2 : List UInt8) (w : World) (h : Sl w a len bs) (h2 : Sl w a2 len2 bs2) (he : bs = bs2) :
    Calls Tryd.prog 27 #[.slice a len cap, .slice a2 len2 cap2] w fun e w' => e = .returned (.bool true) ∧ Below w.heap.size w w' := by
  refine (eqByteS a a2 len cap len2 cap2 bs bs2 w h h2).mono ?_
  rintro e w' ⟨rfl, n, rfl⟩
  exact ⟨ret_bool (decide_eq_true he), below_drewN (Below.refl _ _) _⟩

theorem mark1 (g len cap base : Nat) (bs : List UInt8) (w : World) (h : Own w base g len cap bs) (hk0 : len ≤ 1099511627775) :
    Calls Tryd.prog 30 #[.slice (some ⟨g, 0, none⟩) len cap, .int .i64 1] w fun e w' => e = .returned (.int .i64 (1 + (len : Int))) ∧ Own w' base g len cap (marks 1 len) ∧ w.grownBy w' (some g) := by
  refine (show Calls Tryd.prog 30 #[.slice (some ⟨g, 0, none⟩) len cap, .int .i64 ((1 : Nat) : Int)] w _ from markByteS g len cap 1 base bs w h (by omega)).mono ?_
  rintro e w' ⟨rfl, h1, h2⟩
  exact ⟨ret_int (by omega), h1, h2⟩
theorem held1 (a : Option Addr) (len cap : Nat) (w : World) (h : Sl w a len (marks 1 len)) (hk0 : len ≤ 1099511627775) :
    Calls Tryd.prog 31 #[.slice a len cap, .int .i64 1] w fun e w' => e = .returned (.int .i64 (1 + (len : Int))) ∧ Below w.heap.size w w' := by
  refine (show Calls Tryd.prog 31 #[.slice a len cap, .int .i64 ((1 : Nat) : Int)] w _ from heldByteS a len cap 1 w h (by omega)).mono ?_
  rintro e w' ⟨rfl, rfl⟩
  exact ⟨ret_int (by omega), Below.refl _ _⟩

structure Trio (w0 w : World) (gx lx cx : Nat) (X : List UInt8) (gg lg cg : Nat) (G : List UInt8) (gw lw cw : Nat) (W : List UInt8) : Prop where
  bel : Below w0.heap.size w0 w
  x : Own w w0.heap.size gx lx cx X
  g : Own w w0.heap.size gg lg cg G
  s : Own w w0.heap.size gw lw cw W
  xg : gx ≠ gg
  xs : gx ≠ gw
  gs : gg ≠ gw
section
variable {w0 w w' : World} {gx lx cx gg lg cg gw lw cw : Nat} {X G W : List UInt8}
theorem Trio.below (h : Trio w0 w gx lx cx X gg lg cg G gw lw cw W) (hb : Below w.heap.size w w') : Trio w0 w' gx lx cx X gg lg cg G gw lw cw W :=
  ⟨h.bel.trans (hb.mono h.bel.size), h.x.below hb, h.g.below hb, h.s.below hb, h.xg, h.xs, h.gs⟩
theorem Trio.markX (h : Trio w0 w gx lx cx X gg lg cg G gw lw cw W) {X' : List UInt8} (ho : Own w' w0.heap.size gx lx cx X') (hg : w.grownBy w' (some gx)) : Trio w0 w' gx lx cx X' gg lg cg G gw lw cw W :=
  ⟨h.bel.grown hg h.bel.size (fun k e => by cases e; exact h.x.lt.1), ho, h.g.grown hg (by simpa using h.xg.symm), h.s.grown hg (by simpa using h.xs.symm), h.xg, h.xs, h.gs⟩
theorem Trio.markG (h : Trio w0 w gx lx cx X gg lg cg G gw lw cw W) {G' : List UInt8} (ho : Own w' w0.heap.size gg lg cg G') (hg : w.grownBy w' (some gg)) : Trio w0 w' gx lx cx X gg lg cg G' gw lw cw W :=
  ⟨h.bel.grown hg h.bel.size (fun k e => by cases e; exact h.g.lt.1), h.x.grown hg (by simpa using h.xg), ho, h.s.grown hg (by simpa using h.gs.symm), h.xg, h.xs, h.gs⟩
end
end Go.Proofs.YtooiinicnkhlbaaDoor.help

namespace Go.Proofs.YtooiinicnkhlbaaDoor.ords
open Go Go.RowKit Go.Proofs.YtooiinicnkhlbaaDoor.base Go.Proofs.YtooiinicnkhlbaaDoor.pairs
set_option linter.unusedVariables false

structure TrioO (w0 w : World) (gx lx cx : Nat) (X : List Od) (gg lg cg : Nat) (G : List Od) (gw lw cw : Nat) (W : List Od) : Prop where
  bel : Below w0.heap.size w0 w
  x : OwnO w w0.heap.size gx lx cx X
  g : OwnO w w0.heap.size gg lg cg G
  s : OwnO w w0.heap.size gw lw cw W
  xg : gx ≠ gg
  xs : gx ≠ gw
  gs : gg ≠ gw
section
variable {w0 w w' : World} {gx lx cx gg lg cg gw lw cw : Nat} {X : List Od} {G W : List Od}
theorem TrioO.below (h : TrioO w0 w gx lx cx X gg lg cg G gw lw cw W) (hb : Below w.heap.size w w') : TrioO w0 w' gx lx cx X gg lg cg G gw lw cw W :=
  ⟨h.bel.trans (hb.mono h.bel.size), h.x.below hb, h.g.below hb, h.s.below hb, h.xg, h.xs, h.gs⟩
theorem TrioO.markX (h : TrioO w0 w gx lx cx X gg lg cg G gw lw cw W) {X' : List Od} (ho : OwnO w' w0.heap.size gx lx cx X') (hg : w.grownBy w' (some gx)) : TrioO w0 w' gx lx cx X' gg lg cg G gw lw cw W :=
  ⟨h.bel.grown hg h.bel.size (fun k e => by cases e; exact h.x.lt.1), ho, h.g.grown hg (by simpa using h.xg.symm), h.s.grown hg (by simpa using h.xs.symm), h.xg, h.xs, h.gs⟩
theorem TrioO.markG (h : TrioO w0 w gx lx cx X gg lg cg G gw lw cw W) {G' : List Od} (ho : OwnO w' w0.heap.size gg lg cg G') (hg : w.grownBy w' (some gg)) : TrioO w0 w' gx lx cx X gg lg cg G' gw lw cw W :=
  ⟨h.bel.grown hg h.bel.size (fun k e => by cases e; exact h.g.lt.1), h.x.grown hg (by simpa using h.xg), ho, h.s.grown hg (by simpa using h.gs.symm), h.xg, h.xs, h.gs⟩
end
structure TrioZ (w0 w : World) (gx lx cx : Nat) (X : List Od) (gg lg cg : Nat) (G : List Int) (gw lw cw : Nat) (W : List Int) : Prop where
  bel : Below w0.heap.size w0 w
  x : OwnO w w0.heap.size gx lx cx X
  g : OwnZ w w0.heap.size gg lg cg G
  s : OwnZ w w0.heap.size gw lw cw W
  xg : gx ≠ gg
  xs : gx ≠ gw
  gs : gg ≠ gw
section
variable {w0 w w' : World} {gx lx cx gg lg cg gw lw cw : Nat} {X : List Od} {G W : List Int}
theorem TrioZ.below (h : TrioZ w0 w gx lx cx X gg lg cg G gw lw cw W) (hb : Below w.heap.size w w') : TrioZ w0 w' gx lx cx X gg lg cg G gw lw cw W :=
  ⟨h.bel.trans (hb.mono h.bel.size), h.x.below hb, h.g.below hb, h.s.below hb, h.xg, h.xs, h.gs⟩
theorem TrioZ.markX (h : TrioZ w0 w gx lx cx X gg lg cg G gw lw cw W) {X' : List Od} (ho : OwnO w' w0.heap.size gx lx cx X') (hg : w.grownBy w' (some gx)) : TrioZ w0 w' gx lx cx X' gg lg cg G gw lw cw W :=
  ⟨h.bel.grown hg h.bel.size (fun k e => by cases e; exact h.x.lt.1), ho, h.g.grown hg (by simpa using h.xg.symm), h.s.grown hg (by simpa using h.xs.symm), h.xg, h.xs, h.gs⟩
theorem TrioZ.markG (h : TrioZ w0 w gx lx cx X gg lg cg G gw lw cw W) {G' : List Int} (ho : OwnZ w' w0.heap.size gg lg cg G') (hg : w.grownBy w' (some gg)) : TrioZ w0 w' gx lx cx X gg lg cg G' gw lw cw W :=
  ⟨h.bel.grown hg h.bel.size (fun k e => by cases e; exact h.g.lt.1), h.x.grown hg (by simpa using h.xg), ho, h.s.grown hg (by simpa using h.gs.symm), h.xg, h.xs, h.gs⟩
end
structure TrioQ (w0 w : World) (gx lx cx : Nat) (X : List Od) (gg lg cg : Nat) (G : List UInt8) (gw lw cw : Nat) (W : List UInt8) : Prop where
  bel : Below w0.heap.size w0 w
  x : OwnO w w0.heap.size gx lx cx X
  g : Own w w0.heap.size gg lg cg G
  s : Own w w0.heap.size gw lw cw W
  xg : gx ≠ gg
  xs : gx ≠ gw
  gs : gg ≠ gw
section
variable {w0 w w' : World} {gx lx cx gg lg cg gw lw cw : Nat} {X : List Od} {G W : List UInt8}
theorem TrioQ.below (h : TrioQ w0 w gx lx cx X gg lg cg G gw lw cw W) (hb : Below w.heap.size w w') : TrioQ w0 w' gx lx cx X gg lg cg G gw lw cw W :=
  ⟨h.bel.trans (hb.mono h.bel.size), h.x.below hb, h.g.below hb, h.s.below hb, h.xg, h.xs, h.gs⟩
theorem TrioQ.markX (h : TrioQ w0 w gx lx cx X gg lg cg G gw lw cw W) {X' : List Od} (ho : OwnO w' w0.heap.size gx lx cx X') (hg : w.grownBy w' (some gx)) : TrioQ w0 w' gx lx cx X' gg lg cg G gw lw cw W :=
  ⟨h.bel.grown hg h.bel.size (fun k e => by cases e; exact h.x.lt.1), ho, h.g.grown hg (by simpa using h.xg.symm), h.s.grown hg (by simpa using h.xs.symm), h.xg, h.xs, h.gs⟩
theorem TrioQ.markG (h : TrioQ w0 w gx lx cx X gg lg cg G gw lw cw W) {G' : List UInt8} (ho : Own w' w0.heap.size gg lg cg G') (hg : w.grownBy w' (some gg)) : TrioQ w0 w' gx lx cx X gg lg cg G' gw lw cw W :=
  ⟨h.bel.grown hg h.bel.size (fun k e => by cases e; exact h.g.lt.1), h.x.grown hg (by simpa using h.xg), ho, h.s.grown hg (by simpa using h.gs.symm), h.xg, h.xs, h.gs⟩
end
structure TrioG (w0 w : World) (gx lx cx : Nat) (X : List UInt8) (gg lg cg : Nat) (G : List Od) (gw lw cw : Nat) (W : List Od) : Prop where
  bel : Below w0.heap.size w0 w
  x : Own w w0.heap.size gx lx cx X
  g : OwnO w w0.heap.size gg lg cg G
  s : OwnO w w0.heap.size gw lw cw W
  xg : gx ≠ gg
  xs : gx ≠ gw
  gs : gg ≠ gw
section
variable {w0 w w' : World} {gx lx cx gg lg cg gw lw cw : Nat} {X : List UInt8} {G W : List Od}
theorem TrioG.below (h : TrioG w0 w gx lx cx X gg lg cg G gw lw cw W) (hb : Below w.heap.size w w') : TrioG w0 w' gx lx cx X gg lg cg G gw lw cw W :=
  ⟨h.bel.trans (hb.mono h.bel.size), h.x.below hb, h.g.below hb, h.s.below hb, h.xg, h.xs, h.gs⟩
theorem TrioG.markX (h : TrioG w0 w gx lx cx X gg lg cg G gw lw cw W) {X' : List UInt8} (ho : Own w' w0.heap.size gx lx cx X') (hg : w.grownBy w' (some gx)) : TrioG w0 w' gx lx cx X' gg lg cg G gw lw cw W :=
  ⟨h.bel.grown hg h.bel.size (fun k e => by cases e; exact h.x.lt.1), ho, h.g.grown hg (by simpa using h.xg.symm), h.s.grown hg (by simpa using h.xs.symm), h.xg, h.xs, h.gs⟩
theorem TrioG.markG (h : TrioG w0 w gx lx cx X gg lg cg G gw lw cw W) {G' : List Od} (ho : OwnO w' w0.heap.size gg lg cg G') (hg : w.grownBy w' (some gg)) : TrioG w0 w' gx lx cx X gg lg cg G' gw lw cw W :=
  ⟨h.bel.grown hg h.bel.size (fun k e => by cases e; exact h.g.lt.1), h.x.grown hg (by simpa using h.xg), ho, h.s.grown hg (by simpa using h.gs.symm), h.xg, h.xs, h.gs⟩
end
structure QuadA (w0 w : World) (gx lx cx : Nat) (X : List Pr) (gy ly cy : Nat) (Y : List Od) (gg lg cg : Nat) (G : List Pr) (gw lw cw : Nat) (W : List Pr) : Prop where
  t : TrioP w0 w gx lx cx X gg lg cg G gw lw cw W
  y : OwnO w w0.heap.size gy ly cy Y
  yx : gy ≠ gx
  yg : gy ≠ gg
  ys : gy ≠ gw
section
variable {w0 w w' : World} {gx lx cx gy ly cy gg lg cg gw lw cw : Nat} {X G W : List Pr} {Y : List Od}
theorem QuadA.below (h : QuadA w0 w gx lx cx X gy ly cy Y gg lg cg G gw lw cw W) (hb : Below w.heap.size w w') : QuadA w0 w' gx lx cx X gy ly cy Y gg lg cg G gw lw cw W :=
  ⟨h.t.below hb, h.y.below hb, h.yx, h.yg, h.ys⟩
theorem QuadA.markX (h : QuadA w0 w gx lx cx X gy ly cy Y gg lg cg G gw lw cw W) {X' : List Pr} (ho : OwnP w' w0.heap.size gx lx cx X') (hg : w.grownBy w' (some gx)) : QuadA w0 w' gx lx cx X' gy ly cy Y gg lg cg G gw lw cw W :=
  ⟨h.t.markX ho hg, h.y.grown hg (by simpa using h.yx), h.yx, h.yg, h.ys⟩
theorem QuadA.markY (h : QuadA w0 w gx lx cx X gy ly cy Y gg lg cg G gw lw cw W) {Y' : List Od} (ho : OwnO w' w0.heap.size gy ly cy Y') (hg : w.grownBy w' (some gy)) : QuadA w0 w' gx lx cx X gy ly cy Y' gg lg cg G gw lw cw W :=
  ⟨⟨h.t.bel.grown hg h.t.bel.size (fun k e => by cases e; exact h.y.lt.1), h.t.x.grown hg (by simpa using h.yx.symm), h.t.g.grown hg (by simpa using h.yg.symm), h.t.s.grown hg (by simpa using h.ys.symm), h.t.xg, h.t.xs, h.t.gs⟩, ho, h.yx, h.yg, h.ys⟩
theorem QuadA.markG (h : QuadA w0 w gx lx cx X gy ly cy Y gg lg cg G gw lw cw W) {G' : List Pr} (ho : OwnP w' w0.heap.size gg lg cg G') (hg : w.grownBy w' (some gg)) : QuadA w0 w' gx lx cx X gy ly cy Y gg lg cg G' gw lw cw W :=
  ⟨h.t.markG ho hg, h.y.grown hg (by simpa using h.yg), h.yx, h.yg, h.ys⟩
end
end Go.Proofs.YtooiinicnkhlbaaDoor.ords

namespace Go.Proofs.YtooiinicnkhlbaaDoor.recs
open Go Go.RowKit Go.Proofs.YtooiinicnkhlbaaDoor.base Go.Proofs.YtooiinicnkhlbaaDoor.pairs Go.Proofs.YtooiinicnkhlbaaDoor.ords Go.Proofs.YtooiinicnkhlbaaDoor.helps
set_option linter.unusedVariables false

theorem keep6 {w w' : World} {b c : Nat} {x y z x' y' z' : Value} (hb : Below w.heap.size w w') (h : w.cell? ⟨b, 0, none⟩ = some x ∧ w.cell? ⟨b, 1, none⟩ = some y ∧ w.cell? ⟨b, 2, none⟩ = some z ∧ w.cell? ⟨c, 0, none⟩ = some x' ∧ w.cell? ⟨c, 1, none⟩ = some y' ∧ w.cell? ⟨c, 2, none⟩ = some z') :
    w'.cell? ⟨b, 0, none⟩ = some x ∧ w'.cell? ⟨b, 1, none⟩ = some y ∧ w'.cell? ⟨b, 2, none⟩ = some z ∧ w'.cell? ⟨c, 0, none⟩ = some x' ∧ w'.cell? ⟨c, 1, none⟩ = some y' ∧ w'.cell? ⟨c, 2, none⟩ = some z' := by
  have k : ∀ {g o : Nat} {v : Value}, w.cell? ⟨g, o, none⟩ = some v → w'.cell? ⟨g, o, none⟩ = some v := fun {g o v} hv => (hb.cell (p := ⟨g, o, none⟩) (World.block_lt_of_cell? w _ hv)).trans hv
  exact ⟨k h.1, k h.2.1, k h.2.2.1, k h.2.2.2.1, k h.2.2.2.2.1, k h.2.2.2.2.2⟩

structure DuoR (w0 w : World) (kind tx : Int) (a : Option Addr) (len cap : Nat) (gx bx : Nat) (X : List Od) : Prop where
  bel : Below w0.heap.size w0 w
  box : V3 w w0.heap.size 46 (.int .i64 kind) (.int .i64 tx) (.slice a len cap)
  vx : V3 w bx 26 (.int .i64 kind) (.int .i64 tx) (.slice (some ⟨gx, 0, none⟩) len len)
  x : OwnO w w0.heap.size gx len len X
  xb : gx < bx
  b0 : w0.heap.size < gx
section
variable {w0 w w' : World} {kind tx : Int} {a : Option Addr} {len cap gx bx : Nat} {X : List Od}
theorem DuoR.below (h : DuoR w0 w kind tx a len cap gx bx X) (hb : Below w.heap.size w w') : DuoR w0 w' kind tx a len cap gx bx X :=
  ⟨h.bel.trans (hb.mono h.bel.size), h.box.below hb, h.vx.below hb, h.x.below hb, h.xb, h.b0⟩
theorem DuoR.markX (h : DuoR w0 w kind tx a len cap gx bx X) {X' : List Od} (ho : OwnO w' w0.heap.size gx len len X') (hg : w.grownBy w' (some gx)) : DuoR w0 w' kind tx a len cap gx bx X' :=
  ⟨h.bel.grown hg h.bel.size (fun k e => by cases e; exact h.x.lt.1), (hg.block _ h.box.lt (by have := h.b0; simp; omega)).trans h.box, (hg.block _ h.vx.lt (by have := h.xb; simp; omega)).trans h.vx, ho, h.xb, h.b0⟩
theorem DuoR.other (h : DuoR w0 w kind tx a len cap gx bx X) {g : Nat} (hg : w.grownBy w' (some g)) (hb : bx < g) : DuoR w0 w' kind tx a len cap gx bx X :=
  ⟨h.bel.grown hg h.bel.size (fun k e => by cases e; have := h.xb; have := h.b0; omega), (hg.block _ h.box.lt (by have := h.xb; have := h.b0; simp; omega)).trans h.box, (hg.block _ h.vx.lt (by simp; omega)).trans h.vx, h.x.grown hg (by have := h.xb; simp; omega), h.xb, h.b0⟩
theorem DuoR.cells (h : DuoR w0 w kind tx a len cap gx bx X) :
    w.cell? ⟨bx, 0, none⟩ = some (.int .i64 kind) ∧ w.cell? ⟨bx, 1, none⟩ = some (.int .i64 tx) ∧ w.cell? ⟨bx, 2, none⟩ = some (.slice (some ⟨gx, 0, none⟩) len len) ∧ w.cell? ⟨w0.heap.size, 0, none⟩ = some (.int .i64 kind) ∧ w.cell? ⟨w0.heap.size, 1, none⟩ = some (.int .i64 tx) ∧ w.cell? ⟨w0.heap.size, 2, none⟩ = some (.slice a len cap) :=
  ⟨h.vx.c0, h.vx.c1, h.vx.c2, h.box.c0, h.box.c1, h.box.c2⟩
end
/-- With an answer of bytes and the specification's. -/
structure QuadP (w0 w : World) (kind tx : Int) (a : Option Addr) (len cap : Nat) (gx bx : Nat) (X : List Od) (gg lg cg : Nat) (G : List UInt8) (gw lw cw : Nat) (W : List UInt8) : Prop where
  d : DuoR w0 w kind tx a len cap gx bx X
  g : Own w w0.heap.size gg lg cg G
  s : Own w w0.heap.size gw lw cw W
  wx : gw < gx
  xg : bx < gg
section
variable {w0 w w' : World} {kind tx : Int} {a : Option Addr} {len cap gx bx : Nat} {X : List Od} {gg lg cg gw lw cw : Nat} {G W : List UInt8}
theorem QuadP.below (h : QuadP w0 w kind tx a len cap gx bx X gg lg cg G gw lw cw W) (hb : Below w.heap.size w w') : QuadP w0 w' kind tx a len cap gx bx X gg lg cg G gw lw cw W :=
  ⟨h.d.below hb, h.g.below hb, h.s.below hb, h.wx, h.xg⟩
theorem QuadP.markX (h : QuadP w0 w kind tx a len cap gx bx X gg lg cg G gw lw cw W) {X' : List Od} (ho : OwnO w' w0.heap.size gx len len X') (hg : w.grownBy w' (some gx)) : QuadP w0 w' kind tx a len cap gx bx X' gg lg cg G gw lw cw W :=
  ⟨h.d.markX ho hg, h.g.grown hg (by have := h.d.xb; have := h.xg; simp; omega), h.s.grown hg (by have := h.wx; simp; omega), h.wx, h.xg⟩
theorem QuadP.markG (h : QuadP w0 w kind tx a len cap gx bx X gg lg cg G gw lw cw W) {G' : List UInt8} (ho : Own w' w0.heap.size gg lg cg G') (hg : w.grownBy w' (some gg)) : QuadP w0 w' kind tx a len cap gx bx X gg lg cg G' gw lw cw W :=
  ⟨h.d.other hg h.xg, ho, h.s.grown hg (by have := h.wx; have := h.d.xb; have := h.xg; simp; omega), h.wx, h.xg⟩
end
end Go.Proofs.YtooiinicnkhlbaaDoor.recs

namespace Go.Proofs.YtooiinicnkhlbaaDoor.door
open Go.ChangeShapes Go.WideShapes Go.ChangeAt Go.RowKit
open Go.ChangeMaps (open_string shut_string)
set_option linter.unusedVariables false
open Go.Proofs.YtooiinicnkhlbaaDoor.base

def kd (H : Type) : List (DataW H) := sha.K64.map fun (n : Nat) => .lit (.int .u32 (n : Int))
abbrev laidD : List (String × DataW Unit) := [("loop.example/g00244/impl.roundWords", Rows.laid_loop_example_g00244_impl_roundWords)]
theorem laid_kd : (Rows.laid_loop_example_g00244_impl_roundWords : DataW Unit) = .agg (kd Unit) := rfl
theorem own : ownKnob Tryd.prog.godebug = none := by kernel_rfl
theorem laidOut : laidOutB Tryd.prog = true := by kernel_rfl
theorem gRound : Tryd.prog.globalNamed "loop.example/g00244/impl.roundWords" = some 1 := by kernel_rfl
theorem tRound : (Tryd.prog.globals[1]?).map (·.type) = some 152 := by kernel_rfl
theorem words_of_laid {W : World} (h : laidMetH Tryd.prog laidD W) : sha.KW W := by
  rw [MakeChecks.laidMetH_plain _ _ _ (by kernel_rfl)] at h
  obtain ⟨ps, ⟨g, t, cs, fuel, p, q, hg, ht, hv, hd, _, _⟩, _, _⟩ := h
  obtain rfl := Option.some.inj (gRound.symm.trans hg)
  obtain rfl := Option.some.inj (tRound.symm.trans ht)
  have c1 : Tryd.prog.cellsOf 118 = 1 := by kernel_rfl
  have c64 : Tryd.prog.cellsOf 152 = 64 := by kernel_rfl
  obtain ⟨xs, m, _, ex, hlen, hl, hel⟩ := DataW.trod_array Tryd.underlying152 hd
  rw [c64] at hlen
  rw [laid_kd] at ex
  have e3 := (DataW.agg.inj (Prod.mk.inj ex).1)
  intro i hi
  rw [World.var?_cell gRound hv i]
  have hk := hel i hi
  have hxi : i < xs.length := by omega
  rw [c1, Nat.mul_one, List.getElem?_eq_getElem hxi] at hk
  obtain ⟨z, a0, b0, _⟩ := DataW.trod_int Tryd.underlying118 hk
  have hcs : cs.toList[i]? = some (.int .u32 z) := by
    have := congrArg (·[0]?) a0
    simpa using this
  have hz : (kd Unit)[i]? = some (.lit (.int .u32 z)) := by
    rw [e3]
    simp [hxi, b0]
  have hKl : sha.K64.length = 64 := rfl
  have hz2 : (kd Unit)[i]? = some (.lit (.int .u32 ((sha.K64.getD i 0 : Nat) : Int))) := by
    simp [kd, List.getD, show i < sha.K64.length by omega]
  have e4 : z = ((sha.K64.getD i 0 : Nat) : Int) := by
    have := hz.symm.trans hz2
    simpa using this
  rw [← e4, ← hcs]
  simp

end Go.Proofs.YtooiinicnkhlbaaDoor.door

namespace Go.Proofs.YtooiinicnkhlbaaDoor.ords
open Go Go.RowKit Go.Proofs.YtooiinicnkhlbaaDoor.base Go.Proofs.YtooiinicnkhlbaaDoor.pairs Go.Proofs.YtooiinicnkhlbaaDoor.putnum Go.Proofs.YtooiinicnkhlbaaDoor.puttext Go.Proofs.YtooiinicnkhlbaaDoor.getnum Go.Proofs.YtooiinicnkhlbaaDoor.gettext Go.Proofs.YtooiinicnkhlbaaDoor.gettexts
set_option linter.unusedVariables false
set_option linter.unusedSimpArgs false

def GetPost (w : World) (r : Option (List Od)) (e : Ending) (w' : World) : Prop :=
  ∃ g n cp, e = .returned (.tuple #[.slice (some ⟨g, 0, none⟩) n cp, .bool r.isSome]) ∧ OwnO w' w.heap.size g n cp (r.getD []) ∧ Below w.heap.size w w'
theorem getPost_none {w w' : World} {g : Nat} (h : OwnO w' w.heap.size g 0 0 []) (hb : Below w.heap.size w w') {r : Option (List Od)} (hr : r = none) : GetPost w r (.returned (.tuple #[.slice (some ⟨g, 0, none⟩) 0 0, .bool false])) w' := by
  subst hr; exact ⟨g, 0, 0, rfl, h, hb⟩
theorem getOp_none1 {bs : List UInt8} {p : Nat} (h : getNum bs (p : Int) = none) : getOp bs p = none := by unfold getOp; rw [h]
theorem getOp_none2 {bs : List UInt8} {p z a : Nat} (h : getNum bs (p : Int) = some (z, a)) (h2 : getText bs ((p + a : Nat) : Int) = none) : getOp bs p = none := by unfold getOp; rw [h]; simp only []; rw [h2]
theorem getOp_none3 {bs : List UInt8} {p z a b : Nat} {key : ByteArray} (h : getNum bs (p : Int) = some (z, a)) (h2 : getText bs ((p + a : Nat) : Int) = some (key, b)) (h3 : getText bs ((p + a + b : Nat) : Int) = none) : getOp bs p = none := by unfold getOp; rw [h]; simp only []; rw [h2]; simp only []; rw [h3]
theorem getOp_some3 {bs : List UInt8} {p z a b c : Nat} {key val : ByteArray} (h : getNum bs (p : Int) = some (z, a)) (h2 : getText bs ((p + a : Nat) : Int) = some (key, b)) (h3 : getText bs ((p + a + b : Nat) : Int) = some (val, c)) : getOp bs p = some (((z : Int), key, val), p + a + b + c) := by unfold getOp; rw [h]; simp only []; rw [h2]; simp only []; rw [h3]
/-- GetText at any place answers something -/
theorem some_text (a : Option Addr) (len cap : Nat) (at_ : Int) (bs : List UInt8) (w : World) (h : Sl w a len bs) (hcap : len ≤ cap) (hat : (Lit.int .i64 at_).wf = true) (hsz : len ≤ 1099511627776) :
    Calls Tryd.prog 81 #[.slice a len cap, .int .i64 at_] w fun e w' => ∃ (s : ByteArray) (r : Nat) (ok : Bool), r ≤ 1099511627776 ∧ e = .returned (.tuple #[.string s, .int .i64 (r : Int), .bool ok]) ∧ w' = w := by
  refine (gettext.spec_text a len cap at_ bs w h hcap hat).mono ?_
  rintro e w' ⟨rfl, rfl⟩
  have hl := h.1
  cases hT : getText bs at_ with
  | none => exact ⟨_, 0, _, by omega, rfl, rfl⟩
  | some x =>
    obtain ⟨s, k⟩ := x
    have h0 : 0 ≤ at_ := by
      unfold getText at hT
      split at hT
      · cases hT
      · next hn => exact (getNum_some hn).1
    obtain ⟨A, rfl⟩ := Int.eq_ofNat_of_zero_le h0
    have := getText_some hT
    exact ⟨s, A + k, true, by omega, by simp [textRet], rfl⟩

set_option maxRecDepth 100000 in
set_option maxHeartbeats 4000000 in
theorem spec_getOps (a : Option Addr) (len cap : Nat) (bs : List UInt8) (w : World) (h : Sl w a len bs) (hcap : len ≤ cap) (hsz : len ≤ 1099511627776) :
    Calls Tryd.prog 54 #[.slice a len cap] w fun e w' => GetPost w (getOps bs) e w' := by
  have hl := h.1
  have hm := h.2.1
  unfold maxLen at hm
  have hba : Below w.heap.size w (w.alloc (.cells #[] 85)) := (Below.refl _ _).alloc (Nat.le_refl _) _
  have hON := ownO_made w w.heap.size (Nat.le_refl _)
  have HG := Hid.mk' (spec_get a len cap 0 bs _ (h.below hba) (by rfl))
  rcases hG : getNum bs 0 with _ | ⟨n, k⟩
  · have HF : Hid (getOps bs = none) := by show _ = _; unfold getOps; rw [hG]
    rw [hG, numRet] at HG
    clear hG
    go_enter Tryd.func54, Tryd.ntmps54
    go_wp2_with fail
    refine HG.out.mono ?_
    rintro e w1 ⟨rfl, rfl⟩
    go_wp2_with fail
    go_ret2
    exact getPost_none hON hba HF.out
  · obtain ⟨h0, hk1, hk5, hle, hn9⟩ := getNum_some hG
    simp only [Int.toNat_zero, Nat.zero_add] at hle
    rw [hG, numRet] at HG
    simp only [Int.zero_add] at HG
    by_cases hbig : 8 < n
    · have HF : Hid (getOps bs = none) := by show _ = _; unfold getOps; rw [hG]; simp only []; rw [if_pos hbig]
      clear hG
      go_enter Tryd.func54, Tryd.ntmps54
      go_wp2_with fail
      refine HG.out.mono ?_
      rintro e w1 ⟨rfl, rfl⟩
      go_wp2_with fail
      go_ret2
      exact getPost_none hON hba HF.out
    · have HRES : Hid (getOps bs = match readOps bs n k [] with | none => none | some (l, p) => if p = bs.length ∧ opsOk l = true then some l else none) := by show _ = _; unfold getOps; rw [hG]; simp only []; rw [if_neg hbig]; rfl
      clear hG
      generalize hR : readOps bs n k [] = R at *
      have HR := Hid.mk' hR
      clear hR
      obtain ⟨i0, hi, hz0, hz1, hz2⟩ := info_parts infoO
      go_enter Tryd.func54, Tryd.ntmps54
      go_wp2_with fail
      refine HG.out.mono ?_
      rintro e w1 ⟨rfl, rfl⟩
      clear HG
      have hba2 := hba.alloc (le_alloc _ _ (Nat.le_refl _)) (.cells #[] 85)
      have hON2 : OwnO ((w.alloc (.cells #[] 85)).alloc (.cells #[] 85)) w.heap.size w.heap.size 0 0 [] := hON.below ((Below.refl _ _).alloc (Nat.le_refl _) _)
      have hOut := ownO_made (w.alloc (.cells #[] 85)) (w.heap.size + 1) (by simp)
      have hsz1 : (w.alloc (.cells #[] 85)).heap.size = w.heap.size + 1 := by simp
      rw [hsz1] at hOut
      go_wp2_with fail
      go_loopw [6, 8, 9] (fun pv lv iv wr => ∃ (j p g' cp : Nat) (acc : List Od), pv = .int .i64 (p : Int) ∧ lv = .slice (some ⟨g', 0, none⟩) j cp ∧ iv = .int .i64 (j : Int) ∧ j ≤ n ∧ p ≤ bs.length ∧ (∀ o ∈ acc, o.2.1.size ≤ bs.length) ∧ OwnO wr w.heap.size w.heap.size 0 0 [] ∧ OwnO wr (w.heap.size + 1) g' j cp acc ∧ Below w.heap.size w wr ∧ readOps bs (n - j) p acc = R) (fun _ _ iv _ => n - (intOf iv).toNat)
      case atStart => exact ⟨0, k, w.heap.size + 1, 0, [], by go_num, rfl, rfl, Nat.zero_le _, hle, fun o ho => absurd ho List.not_mem_nil, hON2, hOut, hba2, by simpa using HR.out⟩
      case round =>
        clear hON2 hOut hba2 hba hON HR
        obtain ⟨j, p, g', cp, acc, rfl, rfl, rfl, hj, hp, hacc, hN, hO, hB, hr⟩ := hrel
        have hS := h.below hB
        have hwf : (Lit.int .i64 (p : Int)).wf = true := WalkArith.wf_i64 (by omega)
        by_cases hlt : j < n
        · have hji : (j : Int) < (n : Int) := by omega
          have hrd : readOps bs (n - j) p acc = match getOp bs p with | none => none | some (o, q) => readOps bs (n - (j + 1)) q (acc ++ [o]) := by
            rw [show n - j = (n - (j + 1)) + 1 by omega, readOps]; rfl
          rw [hr] at hrd
          have HG := Hid.mk' (spec_get a len cap (p : Int) bs wr hS hwf)
          have HTX : Hid (∀ r : Nat, r ≤ 1099511627776 → Calls Tryd.prog 81 #[.slice a len cap, .int .i64 (r : Int)] wr fun e w' => ∃ (s : ByteArray) (r : Nat) (ok : Bool), r ≤ 1099511627776 ∧ e = .returned (.tuple #[.string s, .int .i64 (r : Int), .bool ok]) ∧ w' = wr) := fun r hr => some_text a len cap (r : Int) bs wr hS hcap (WalkArith.wf_i64 (by omega)) hsz
          rcases hG : getNum bs (p : Int) with _ | ⟨z, ka⟩
          · have HF : Hid (getOps bs = none) := by show _ = _; rw [HRES.out, hrd, getOp_none1 hG]
            rw [hG, numRet] at HG
            have HT0 := Hid.mk' (HTX.out 0 (by omega))
            clear hG hrd hr hS
            go_wp2_with fail
            refine HG.out.mono ?_
            rintro e w2 ⟨rfl, hw2⟩
            subst hw2
            go_wp2_with fail
            refine HT0.out.mono ?_
            rintro e w2 ⟨s1, r1, ok1, hr1, rfl, hw2⟩
            subst hw2
            go_wp2_with fail
            refine (HTX.out r1 hr1).mono ?_
            rintro e w2 ⟨s2, r2, ok2, hr2, rfl, hw2⟩
            subst hw2
            go_wp2_with fail
            go_ret2
            exact getPost_none hN hB HF.out
          · have hgs := getNum_some hG
            simp only [Int.toNat_natCast] at hgs
            rw [hG, numRet] at HG
            rw [show (p : Int) + (ka : Int) = ((p + ka : Nat) : Int) by omega] at HG
            have HT1 := Hid.mk' (gettext.spec_text a len cap ((p + ka : Nat) : Int) bs wr hS hcap (WalkArith.wf_i64 (by omega)))
            rcases hT : getText bs ((p + ka : Nat) : Int) with _ | ⟨key, kb⟩
            · have HF : Hid (getOps bs = none) := by show _ = _; rw [HRES.out, hrd, getOp_none2 hG hT]
              rw [hT, textRet] at HT1
              have HT0 := Hid.mk' (HTX.out 0 (by omega))
              generalize p + ka = q at *
              clear hG hT hrd hr hS
              go_wp2_with fail
              refine HG.out.mono ?_
              rintro e w2 ⟨rfl, hw2⟩
              subst hw2
              go_wp2_with fail
              refine HT1.out.mono ?_
              rintro e w2 ⟨rfl, hw2⟩
              subst hw2
              go_wp2_with fail
              refine HT0.out.mono ?_
              rintro e w2 ⟨s1, r1, ok1, hr1, rfl, hw2⟩
              subst hw2
              go_wp2_with fail
              go_ret2
              exact getPost_none hN hB HF.out
            · have hts := getText_some hT
              rw [hT, textRet] at HT1
              rw [show ((p + ka : Nat) : Int) + (kb : Int) = ((p + ka + kb : Nat) : Int) by omega] at HT1
              have HT2 := Hid.mk' (gettext.spec_text a len cap ((p + ka + kb : Nat) : Int) bs wr hS hcap (WalkArith.wf_i64 (by omega)))
              rcases hT2 : getText bs ((p + ka + kb : Nat) : Int) with _ | ⟨val, kc⟩
              · have HF : Hid (getOps bs = none) := by show _ = _; rw [HRES.out, hrd, getOp_none3 hG hT hT2]
                rw [hT2, textRet] at HT2
                generalize p + ka + kb = r at *
                generalize p + ka = q at *
                clear hG hT hT2 hrd hr hS
                go_wp2_with fail
                refine HG.out.mono ?_
                rintro e w2 ⟨rfl, hw2⟩
                subst hw2
                go_wp2_with fail
                refine HT1.out.mono ?_
                rintro e w2 ⟨rfl, hw2⟩
                subst hw2
                go_wp2_with fail
                refine HT2.out.mono ?_
                rintro e w2 ⟨rfl, hw2⟩
                subst hw2
                go_wp2_with fail
                go_ret2
                exact getPost_none hN hB HF.out
              · have hts2 := getText_some hT2
                rw [hT2, textRet] at HT2
                rw [show ((p + ka + kb : Nat) : Int) + (kc : Int) = ((p + ka + kb + kc : Nat) : Int) by omega] at HT2
                have HNX : Hid (readOps bs (n - (j + 1)) (p + ka + kb + kc) (acc ++ [((z : Int), key, val)]) = R) := by show _ = _; rw [hrd, getOp_some3 hG hT hT2]
                have hqq : p + ka + kb + kc ≤ bs.length := hts2.1
                have hsmO : smallO ((z : Int), key, val) := ⟨WalkArith.wf_i64 (by omega), by unfold maxLen; show key.size ≤ _; omega, by unfold maxLen; show val.size ≤ _; omega⟩
                have hc3 : j + 1 ≤ maxLen := by unfold maxLen; omega
                have hc4 : (j + 1) * 40 ≤ 140737488355328 := by omega
                have hbw : w.heap.size + 1 ≤ wr.heap.size := by have := hO.lt; omega
                have hbw0 := hB.size
                have hgl := hO.lt
                have hacc2 : ∀ o ∈ acc ++ [((z : Int), key, val)], o.2.1.size ≤ bs.length := by
                  intro o ho
                  rcases List.mem_append.1 ho with h1 | h1
                  · exact hacc o h1
                  · simp at h1; subst h1; exact hts.2
                generalize p + ka + kb + kc = s at *
                generalize p + ka + kb = r at *
                generalize p + ka = q at *
                clear hG hT hT2 hrd hr hS hgs hts hts2
                go_wp2_with fail
                refine HG.out.mono ?_
                rintro e w2 ⟨rfl, hw2⟩
                subst hw2
                go_wp2_with fail
                refine HT1.out.mono ?_
                rintro e w2 ⟨rfl, hw2⟩
                subst hw2
                go_wp2_with fail
                refine HT2.out.mono ?_
                rintro e w2 ⟨rfl, hw2⟩
                subst hw2
                go_wp2_with (at_builtin; refine wpList_append_own _ rfl _ _ 24 rfl (w.heap.size + 1) 85 i0 (.agg #[.int .i64 0, .string ⟨#[]⟩, .string ⟨#[]⟩]) 3 40 Tryd.underlying24 hi hz0 hz1 hz2 rfl (by decide) _ _ _ rfl (hO.2.2.alloc _) ⟨w2.heap.size, 0, none⟩ 1 1 (ordVals [((z : Int), key, val)]) rfl rfl (one_ord_cells _ _ _) (ordVals_oneCell _) hc3 hc4 (le_alloc _ _ hbw) ?_)
                intro v3 w3 hown hgrow hnn
                obtain ⟨g2, cp2, hv, hO2⟩ := ownO_app hO.1 hO.2.1 hsmO hnn hown
                subst hv
                have hB2 : Below w.heap.size w w3 := (hB.alloc hbw0 _).grown hgrow (le_alloc _ _ hbw0) (fun k e => by simp [Value.ownBlock] at e; omega)
                have hNa := hN.below ((Below.refl _ w2).alloc (Nat.le_refl _) (.cells #[.int .i64 z, .string key, .string val] 85))
                have hN2 := hNa.grown hgrow (by simp [Value.ownBlock]; omega)
                have HO2 := Hid.mk' hO2
                clear hown hgrow hnn hO2 hO hB hN hNa
                go_wp2_with fail
                go_roundw
                case rel => exact ⟨j + 1, s, g2, cp2, acc ++ [((z : Int), key, val)], by go_num, rfl, by go_num, by omega, hqq, hacc2, hN2, HO2.out, hB2, HNX.out⟩
                case measure => simp [intOf]; omega
        · have hjn : j = n := by omega
          have hR2 : R = some (acc, p) := by rw [← hr, hjn, Nat.sub_self, readOps]
          have hbO := hO.cases
          by_cases hpl : p = bs.length
          · have HOK := Hid.mk' (spec_opsOk g' 0 j cp acc wr hO.sl (fun o ho => Nat.le_trans (hacc o ho) (by omega)))
            have hpe : p = len := by omega
            cases hok : opsOk acc
            · rw [hok] at HOK
              have HF : Hid (getOps bs = none) := by show _ = _; rw [HRES.out, hR2]; simp [hok]
              clear hok hR2 hr hpl hjn
              subst hpe
              go_wp2_with fail
              refine HOK.out.mono ?_
              rintro e w2 ⟨rfl, hb2⟩
              have hN2 := hN.below hb2
              have hB2 := hB.trans (hb2.mono hB.size)
              go_wp2_with fail
              go_ret2
              exact getPost_none hN2 hB2 HF.out
            · rw [hok] at HOK
              have HF : Hid (getOps bs = some acc) := by show _ = _; rw [HRES.out, hR2]; simp [hok, hpl]
              clear hok hR2 hr hpl hjn
              subst hpe
              go_wp2_with fail
              refine HOK.out.mono ?_
              rintro e w2 ⟨rfl, hb2⟩
              have hO2 := hO.below hb2
              have hB2 := hB.trans (hb2.mono hB.size)
              go_wp2_with fail
              go_ret2
              rw [HF.out]
              exact ⟨g', j, cp, rfl, hO2.mono (by omega), hB2⟩
          · have hpb : ¬ (p : Int) = (len : Int) := by omega
            have HF : Hid (getOps bs = none) := by show _ = _; rw [HRES.out, hR2]; simp [hpl]
            clear hR2 hr hpl hjn
            go_wp2_with fail
            go_ret2
            exact getPost_none hN hB HF.out
end Go.Proofs.YtooiinicnkhlbaaDoor.ords
