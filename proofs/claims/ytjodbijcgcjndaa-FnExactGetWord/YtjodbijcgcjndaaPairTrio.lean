/- Rows of pairs that a law made, kept from step to step; arguments that are pairs, opened. -/
import Derived.Test.YtjodbijcgcjndaaHelpQ
import Derived.Deep.SlicePairs
import Derived.ChangeArms
namespace Go.Proofs.Ytjodbijcgcjndaa.pairs
open Go Go.RowKit Go.Proofs.Ytjodbijcgcjndaa.base Go.Proofs.Ytjodbijcgcjndaa.helps
set_option linter.unusedVariables false
set_option linter.unusedSimpArgs false


structure TrioP (w0 w : World) (gx lx cx : Nat) (X : List Pr) (gg lg cg : Nat) (G : List Pr) (gw lw cw : Nat) (W : List Pr) : Prop where
  bel : Below w0.heap.size w0 w
  x : OwnP w w0.heap.size gx lx cx X
  g : OwnP w w0.heap.size gg lg cg G
  s : OwnP w w0.heap.size gw lw cw W
  xg : gx ≠ gg
  xs : gx ≠ gw
  gs : gg ≠ gw
section
variable {w0 w w' : World} {gx lx cx gg lg cg gw lw cw : Nat} {X G W : List Pr}
theorem TrioP.below (h : TrioP w0 w gx lx cx X gg lg cg G gw lw cw W) (hb : Below w.heap.size w w') : TrioP w0 w' gx lx cx X gg lg cg G gw lw cw W :=
  ⟨h.bel.trans (hb.mono h.bel.size), h.x.below hb, h.g.below hb, h.s.below hb, h.xg, h.xs, h.gs⟩
theorem TrioP.markX (h : TrioP w0 w gx lx cx X gg lg cg G gw lw cw W) {X' : List Pr} (ho : OwnP w' w0.heap.size gx lx cx X') (hg : w.grownBy w' (some gx)) : TrioP w0 w' gx lx cx X' gg lg cg G gw lw cw W :=
  ⟨h.bel.grown hg h.bel.size (fun k e => by cases e; exact h.x.lt.1), ho, h.g.grown hg (by simpa using h.xg.symm), h.s.grown hg (by simpa using h.xs.symm), h.xg, h.xs, h.gs⟩
theorem TrioP.markG (h : TrioP w0 w gx lx cx X gg lg cg G gw lw cw W) {G' : List Pr} (ho : OwnP w' w0.heap.size gg lg cg G') (hg : w.grownBy w' (some gg)) : TrioP w0 w' gx lx cx X gg lg cg G' gw lw cw W :=
  ⟨h.bel.grown hg h.bel.size (fun k e => by cases e; exact h.g.lt.1), h.x.grown hg (by simpa using h.xg), ho, h.s.grown hg (by simpa using h.gs.symm), h.xg, h.xs, h.gs⟩
end

/-! ### arguments -/
def strOf : Value → ByteArray
  | .string s => s
  | _ => ⟨#[]⟩
theorem slp_open {W : World} {ad : Addr} {len cap : Nat} {V0 V1 : Nat → Value} (hl : len ≤ cap) (hm : cap ≤ maxLen)
    (hs : ∀ i, i < len → V0 i = .string (strOf (V0 i)) ∧ V1 i = .string (strOf (V1 i)) ∧ (strOf (V0 i)).size ≤ maxLen ∧ (strOf (V1 i)).size ≤ maxLen)
    (hc : ∀ i, i < len → W.cell? (ad.add (i * 2)) = some (V0 i) ∧ W.cell? (ad.add (i * 2 + 1)) = some (V1 i)) : ∃ l, SlP W (some ad) len l := by
  obtain ⟨b, off, spot⟩ := ad
  refine ⟨(List.range len).map fun i => (strOf (V0 i), strOf (V1 i)), by simp, by omega, ?_, fun h0 => ?_⟩
  · intro p hp
    obtain ⟨i, hi, rfl⟩ := List.mem_map.1 hp
    have := hs i (List.mem_range.1 hi)
    exact ⟨this.2.2.1, this.2.2.2⟩
  · have hspot : spot = none := by simpa [Addr.add] using World.cell?_spot (hc 0 h0).1
    subst hspot
    refine ⟨b, off, rfl, fun i hi => ?_⟩
    have hi' : i < len := by simpa using hi
    have h1 := hc i hi'
    have h2 := hs i hi'
    rw [Addr.add_lit, Addr.add_lit, h2.1, h2.2.1] at h1
    simp only [List.getElem_map, List.getElem_range]
    rw [← Nat.add_assoc] at h1
    exact h1
theorem slp_arg {H : Type} {enc : TypeId × Value → H} {W : World} {a : Option Addr} {len cap fuel : Nat} {x : DataW H × List MemPlace} (t : TypeId) (e : TypeId) (f0 f1 : Field) (ht : Try.prog.underlying t = some (.slice e)) (he : Try.prog.underlying e = some (.struct #[f0, f1]))
    (ce : Try.prog.cellsOf e = 2) (o0 : f0.offset = 0) (o1 : f1.offset = 1) (t0 : f0.type = 9) (t1 : f1.type = 9) (c9 : Try.prog.cellsOf 9 = 1)
    (h : DataW.trod enc Try.prog W 0 (fun _ => true) true fuel t (Value.cells (.slice a len cap)).toList = some x) : ∃ l, SlP W a len l := by
  rcases Deep.open_slice_pairs ht he ce o0 o1 (by rw [t0]; exact c9) (by rw [t1]; exact c9) h with ⟨hcs, _⟩ | ⟨ad, len', cap', m, n, V0, V1, D0, D1, P0, P1, hcs, _, hl, hm, hmm, _, hx⟩
  · simp [Value.cells] at hcs
    obtain ⟨rfl, rfl, rfl⟩ := hcs
    exact ⟨[], slp_nil _ _⟩
  · simp [Value.cells] at hcs
    obtain ⟨rfl, rfl, rfl⟩ := hcs
    simp at hmm
    refine slp_open (V0 := V0) (V1 := V1) hl hm (fun i hi => ?_) (fun i hi => ⟨(hx i (by omega)).1, (hx i (by omega)).2.1⟩)
    obtain ⟨_, _, h3, h4⟩ := hx i (by omega)
    rw [t0] at h3
    rw [t1] at h4
    obtain ⟨s0, e0, _, z0⟩ := DataW.trod_string Try.underlying9 h3
    obtain ⟨s1, e1, _, z1⟩ := DataW.trod_string Try.underlying9 h4
    simp at e0 e1
    rw [e0, e1]
    exact ⟨rfl, rfl, z0, z1⟩

set_option maxRecDepth 100000 in
theorem pair_arg {H : Type} {enc : TypeId × Value → H} {W : World} {v : Value} {r : Reach} {base fuel : Nat} {x : DataW H × List MemPlace} (e : TypeId) (f0 f1 : Field) (he : Try.prog.underlying e = some (.struct #[f0, f1]))
    (ce : Try.prog.cellsOf e = 2) (o0 : f0.offset = 0) (o1 : f1.offset = 1) (t0 : f0.type = 9) (t1 : f1.type = 9) (c9 : Try.prog.cellsOf 9 = 1)
    (hok : Value.okWide Try.prog W r base e v) (h : DataW.trod enc Try.prog W 0 (fun _ => true) true fuel e v.cells.toList = some x) : ∃ p : Pr, v = .agg #[.string p.1, .string p.2] ∧ small p := by
  obtain ⟨cs, rfl, hsz⟩ := WideShapes.okWide_struct he hok
  rw [ce] at hsz
  obtain ⟨xs, m, _, _, _, hxl, hel⟩ := DataW.trod_struct he h
  have g0 := hel 0 f0 rfl
  have g1 := hel 1 f1 rfl
  obtain ⟨l⟩ := cs
  match l, hsz, xs, hxl with
  | [c0, c1], _, [y0, y1], _ =>
    simp [o0, o1, t0, t1, c9, Value.cells] at g0 g1
    obtain ⟨s0, e0, _, z0⟩ := DataW.trod_string Try.underlying9 g0
    obtain ⟨s1, e1, _, z1⟩ := DataW.trod_string Try.underlying9 g1
    simp at e0 e1
    subst e0 e1
    exact ⟨(s0, s1), rfl, z0, z1⟩

end Go.Proofs.Ytjodbijcgcjndaa.pairs
