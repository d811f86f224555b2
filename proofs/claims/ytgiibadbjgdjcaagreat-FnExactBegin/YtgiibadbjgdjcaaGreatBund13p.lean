/- Rows of pairs that a law made, kept from step to step; arguments that are pairs, opened. An argument that is a slice of orders, opened. -/
import Derived.Test.YtgiibadbjgdjcaaGreatBund12ap
import Derived.Deep.SlicePairs
import Derived.ChangeArms
import Derived.Test.YtgiibadbjgdjcaaGreatBund12ag
namespace Go.Proofs.YtgiibadbjgdjcaaGreat.pairs
open Go Go.RowKit Go.Proofs.YtgiibadbjgdjcaaGreat.base Go.Proofs.YtgiibadbjgdjcaaGreat.helps
set_option linter.unusedVariables false
set_option linter.unusedSimpArgs false


structure TrioP (w0 w : World) (gx lx cx : Nat) (X : List Pr) (gg lg cg : Nat) (G : List Pr) (gw lw cw : Nat) (W : List Pr) : Prop where
  bel : Below w0.heap.size w0 w
  x : OwnP w w0.heap.size gx lx cx X
  g : OwnP w w0.heap.size gg lg cg G
  s : OwnP w w0.heap.size gw lw cw W
  xg : gx ≠ gg
  xs : gx ≠ gw
  gs : gg ≠ gw
section
variable {w0 w w' : World} {gx lx cx gg lg cg gw lw cw : Nat} {X G W : List Pr}
theorem TrioP.below (h : TrioP w0 w gx lx cx X gg lg cg G gw lw cw W) (hb : Below w.heap.size w w') : TrioP w0 w' gx lx cx X gg lg cg G gw lw cw W :=
  ⟨h.bel.trans (hb.mono h.bel.size), h.x.below hb, h.g.below hb, h.s.below hb, h.xg, h.xs, h.gs⟩
theorem TrioP.markX (h : TrioP w0 w gx lx cx X gg lg cg G gw lw cw W) {X' : List Pr} (ho : OwnP w' w0.heap.size gx lx cx X') (hg : w.grownBy w' (some gx)) : TrioP w0 w' gx lx cx X' gg lg cg G gw lw cw W :=
  ⟨h.bel.grown hg h.bel.size (fun k e => by cases e; exact h.x.lt.1), ho, h.g.grown hg (by simpa using h.xg.symm), h.s.grown hg (by simpa using h.xs.symm), h.xg, h.xs, h.gs⟩
theorem TrioP.markG (h : TrioP w0 w gx lx cx X gg lg cg G gw lw cw W) {G' : List Pr} (ho : OwnP w' w0.heap.size gg lg cg G') (hg : w.grownBy w' (some gg)) : TrioP w0 w' gx lx cx X gg lg cg G' gw lw cw W :=
  ⟨h.bel.grown hg h.bel.size (fun k e => by cases e; exact h.g.lt.1), h.x.grown hg (by simpa using h.xg), ho, h.s.grown hg (by simpa using h.gs.symm), h.xg, h.xs, h.gs⟩
end

/-! ### arguments -/
def strOf : Value → ByteArray
  | .string s => s
  | _ => ⟨#[]⟩
theorem slp_open {W : World} {ad : Addr} {len cap : Nat} {V0 V1 : Nat → Value} (hl : len ≤ cap) (hm : cap ≤ maxLen)
    (hs : ∀ i, i < len → V0 i = .string (strOf (V0 i)) ∧ V1 i = .string (strOf (V1 i)) ∧ (strOf (V0 i)).size ≤ maxLen ∧ (strOf (V1 i)).size ≤ maxLen)
    (hc : ∀ i, i < len → W.cell? (ad.add (i * 2)) = some (V0 i) ∧ W.cell? (ad.add (i * 2 + 1)) = some (V1 i)) : ∃ l, SlP W (some ad) len l := by
  obtain ⟨b, off, spot⟩ := ad
  refine ⟨(List.range len).map fun i => (strOf (V0 i), strOf (V1 i)), by simp, by omega, ?_, fun h0 => ?_⟩
  · intro p hp
    obtain ⟨i, hi, rfl⟩ := List.mem_map.1 hp
    have := hs i (List.mem_range.1 hi)
    exact ⟨this.2.2.1, this.2.2.2⟩
  · have hspot : spot = none := by simpa [Addr.add] using World.cell?_spot (hc 0 h0).1
    subst hspot
    refine ⟨b, off, rfl, fun i hi => ?_⟩
    have hi' : i < len := by simpa using hi
    have h1 := hc i hi'
    have h2 := hs i hi'
    rw [Addr.add_lit, Addr.add_lit, h2.1, h2.2.1] at h1
    simp only [List.getElem_map, List.getElem_range]
    rw [← Nat.add_assoc] at h1
    exact h1
theorem slp_arg {H : Type} {enc : TypeId × Value → H} {W : World} {a : Option Addr} {len cap fuel : Nat} {x : DataW H × List MemPlace} (t : TypeId) (e : TypeId) (f0 f1 : Field) (ht : Tryz.prog.underlying t = some (.slice e)) (he : Tryz.prog.underlying e = some (.struct #[f0, f1]))
    (ce : Tryz.prog.cellsOf e = 2) (o0 : f0.offset = 0) (o1 : f1.offset = 1) (t0 : f0.type = 9) (t1 : f1.type = 9) (c9 : Tryz.prog.cellsOf 9 = 1)
    (h : DataW.trod enc Tryz.prog W 0 (fun _ => true) true fuel t (Value.cells (.slice a len cap)).toList = some x) : ∃ l, SlP W a len l := by
  rcases Deep.open_slice_pairs ht he ce o0 o1 (by rw [t0]; exact c9) (by rw [t1]; exact c9) h with ⟨hcs, _⟩ | ⟨ad, len', cap', m, n, V0, V1, D0, D1, P0, P1, hcs, _, hl, hm, hmm, _, hx⟩
  · simp [Value.cells] at hcs
    obtain ⟨rfl, rfl, rfl⟩ := hcs
    exact ⟨[], slp_nil _ _⟩
  · simp [Value.cells] at hcs
    obtain ⟨rfl, rfl, rfl⟩ := hcs
    simp at hmm
    refine slp_open (V0 := V0) (V1 := V1) hl hm (fun i hi => ?_) (fun i hi => ⟨(hx i (by omega)).1, (hx i (by omega)).2.1⟩)
    obtain ⟨_, _, h3, h4⟩ := hx i (by omega)
    rw [t0] at h3
    rw [t1] at h4
    obtain ⟨s0, e0, _, z0⟩ := DataW.trod_string Tryz.underlying9 h3
    obtain ⟨s1, e1, _, z1⟩ := DataW.trod_string Tryz.underlying9 h4
    simp at e0 e1
    rw [e0, e1]
    exact ⟨rfl, rfl, z0, z1⟩

set_option maxRecDepth 100000 in
theorem pair_arg {H : Type} {enc : TypeId × Value → H} {W : World} {v : Value} {r : Reach} {base fuel : Nat} {x : DataW H × List MemPlace} (e : TypeId) (f0 f1 : Field) (he : Tryz.prog.underlying e = some (.struct #[f0, f1]))
    (ce : Tryz.prog.cellsOf e = 2) (o0 : f0.offset = 0) (o1 : f1.offset = 1) (t0 : f0.type = 9) (t1 : f1.type = 9) (c9 : Tryz.prog.cellsOf 9 = 1)
    (hok : Value.okWide Tryz.prog W r base e v) (h : DataW.trod enc Tryz.prog W 0 (fun _ => true) true fuel e v.cells.toList = some x) : ∃ p : Pr, v = .agg #[.string p.1, .string p.2] ∧ small p := by
  obtain ⟨cs, rfl, hsz⟩ := WideShapes.okWide_struct he hok
  rw [ce] at hsz
  obtain ⟨xs, m, _, _, _, hxl, hel⟩ := DataW.trod_struct he h
  have g0 := hel 0 f0 rfl
  have g1 := hel 1 f1 rfl
  obtain ⟨l⟩ := cs
  match l, hsz, xs, hxl with
  | [c0, c1], _, [y0, y1], _ =>
    simp [o0, o1, t0, t1, c9, Value.cells] at g0 g1
    obtain ⟨s0, e0, _, z0⟩ := DataW.trod_string Tryz.underlying9 g0
    obtain ⟨s1, e1, _, z1⟩ := DataW.trod_string Tryz.underlying9 g1
    simp at e0 e1
    subst e0 e1
    exact ⟨(s0, s1), rfl, z0, z1⟩

end Go.Proofs.YtgiibadbjgdjcaaGreat.pairs

namespace Go.Proofs.YtgiibadbjgdjcaaGreat.ords
open Go Go.RowKit Go.Proofs.YtgiibadbjgdjcaaGreat.base Go.Proofs.YtgiibadbjgdjcaaGreat.pairs
set_option linter.unusedVariables false
set_option linter.unusedSimpArgs false

theorem slo_open {W : World} {ad : Addr} {len cap : Nat} (hl : len ≤ cap) (hm : cap ≤ maxLen) (q : Nat → Od) (hs : ∀ i, i < len → smallO (q i))
    (hc : ∀ i, i < len → W.cell? (ad.add (i * 3)) = some (.int .i64 (q i).1) ∧ W.cell? (ad.add (i * 3 + 1)) = some (.string (q i).2.1) ∧ W.cell? (ad.add (i * 3 + 2)) = some (.string (q i).2.2)) : ∃ l, SlO W (some ad) len l := by
  obtain ⟨b, off, spot⟩ := ad
  refine ⟨(List.range len).map q, by simp, by omega, ?_, fun h0 => ?_⟩
  · intro p hp
    obtain ⟨i, hi, rfl⟩ := List.mem_map.1 hp
    exact hs i (List.mem_range.1 hi)
  · have hspot : spot = none := by simpa [Addr.add] using World.cell?_spot (hc 0 h0).1
    subst hspot
    refine ⟨b, off, rfl, fun i hi => ?_⟩
    have hi' : i < len := by simpa using hi
    have h1 := hc i hi'
    rw [Addr.add_lit, Addr.add_lit, Addr.add_lit] at h1
    simp only [List.getElem_map, List.getElem_range]
    rw [← Nat.add_assoc, ← Nat.add_assoc] at h1
    exact h1
set_option maxRecDepth 100000 in
theorem slo_arg {H : Type} {enc : TypeId × Value → H} {W : World} {a : Option Addr} {len cap fuel : Nat} {x : DataW H × List MemPlace} (t e : TypeId) (f0 f1 f2 : Field) (ht : Tryz.prog.underlying t = some (.slice e)) (he : Tryz.prog.underlying e = some (.struct #[f0, f1, f2]))
    (ce : Tryz.prog.cellsOf e = 3) (o0 : f0.offset = 0) (o1 : f1.offset = 1) (o2 : f2.offset = 2) (t0 : f0.type = 3) (t1 : f1.type = 9) (t2 : f2.type = 9) (c3 : Tryz.prog.cellsOf 3 = 1) (c9 : Tryz.prog.cellsOf 9 = 1)
    (h : DataW.trod enc Tryz.prog W 0 (fun _ => true) true fuel t (Value.cells (.slice a len cap)).toList = some x) : ∃ l, SlO W a len l := by
  rcases Deep.open_slice ht h with ⟨hcs, _⟩ | ⟨ad, len', cap', m, n, D, Pl, hcs, hb, hl, hm, hmm, _, hx⟩
  · simp [Value.cells] at hcs
    obtain ⟨rfl, rfl, rfl⟩ := hcs
    exact ⟨[], slo_nil _ _⟩
  · simp [Value.cells] at hcs
    obtain ⟨rfl, rfl, rfl⟩ := hcs
    simp at hmm
    have each : ∀ i, i < len → ∃ y : Od, smallO y ∧ W.cell? (ad.add (i * 3)) = some (.int .i64 y.1) ∧ W.cell? (ad.add (i * 3 + 1)) = some (.string y.2.1) ∧ W.cell? (ad.add (i * 3 + 2)) = some (.string y.2.2) := by
      intro i hi
      obtain ⟨cs', h1, h2⟩ := hx i (by omega)
      rw [ce] at h1
      obtain ⟨_, hlen, hcell⟩ := World.cells?_some h1
      obtain ⟨xs, k, hk, _, _, hxl, hf⟩ := DataW.trod_struct he h2
      match xs, hxl, cs', hlen with
      | [y0, y1, y2], _, [v0, v1, v2], _ =>
        have k0 := hf 0 f0 rfl
        have k1 := hf 1 f1 rfl
        have k2 := hf 2 f2 rfl
        rw [t0] at k0
        rw [t1] at k1
        rw [t2] at k2
        simp [o0, o1, o2, c3, c9] at k0 k1 k2
        obtain ⟨n0, e0, _, w0⟩ := DataW.trod_int Tryz.underlying3 k0
        obtain ⟨s1, e1, _, w1⟩ := DataW.trod_string Tryz.underlying9 k1
        obtain ⟨s2, e2, _, w2⟩ := DataW.trod_string Tryz.underlying9 k2
        simp at e0 e1 e2
        subst e0 e1 e2
        have d0 := hcell 0 (by omega)
        have d1 := hcell 1 (by omega)
        have d2 := hcell 2 (by omega)
        rw [Deep.add_add] at d0 d1 d2
        exact ⟨(n0, s1, s2), ⟨w0, w1, w2⟩, by simpa using d0, by simpa using d1, by simpa using d2⟩
    obtain ⟨q, hq⟩ := Deep.choose_lt each
    exact slo_open hl hm q (fun i hi => (hq i hi).1) (fun i hi => (hq i hi).2)
end Go.Proofs.YtgiibadbjgdjcaaGreat.ords
