/- An argument that is a slice of orders, opened. -/
import Derived.Test.YtjodbijcgcjndaaOrdRow
import Derived.Test.YtjodbijcgcjndaaPairTrio
namespace Go.Proofs.Ytjodbijcgcjndaa.ords
open Go Go.RowKit Go.Proofs.Ytjodbijcgcjndaa.base Go.Proofs.Ytjodbijcgcjndaa.pairs
set_option linter.unusedVariables false
set_option linter.unusedSimpArgs false

theorem slo_open {W : World} {ad : Addr} {len cap : Nat} (hl : len ≤ cap) (hm : cap ≤ maxLen) (q : Nat → Od) (hs : ∀ i, i < len → smallO (q i))
    (hc : ∀ i, i < len → W.cell? (ad.add (i * 3)) = some (.int .i64 (q i).1) ∧ W.cell? (ad.add (i * 3 + 1)) = some (.string (q i).2.1) ∧ W.cell? (ad.add (i * 3 + 2)) = some (.string (q i).2.2)) : ∃ l, SlO W (some ad) len l := by
  obtain ⟨b, off, spot⟩ := ad
  refine ⟨(List.range len).map q, by simp, by omega, ?_, fun h0 => ?_⟩
  · intro p hp
    obtain ⟨i, hi, rfl⟩ := List.mem_map.1 hp
    exact hs i (List.mem_range.1 hi)
  · have hspot : spot = none := by simpa [Addr.add] using World.cell?_spot (hc 0 h0).1
    subst hspot
    refine ⟨b, off, rfl, fun i hi => ?_⟩
    have hi' : i < len := by simpa using hi
    have h1 := hc i hi'
    rw [Addr.add_lit, Addr.add_lit, Addr.add_lit] at h1
    simp only [List.getElem_map, List.getElem_range]
    rw [← Nat.add_assoc, ← Nat.add_assoc] at h1
    exact h1
set_option maxRecDepth 100000 in
theorem slo_arg {H : Type} {enc : TypeId × Value → H} {W : World} {a : Option Addr} {len cap fuel : Nat} {x : DataW H × List MemPlace} (t e : TypeId) (f0 f1 f2 : Field) (ht : Try.prog.underlying t = some (.slice e)) (he : Try.prog.underlying e = some (.struct #[f0, f1, f2]))
    (ce : Try.prog.cellsOf e = 3) (o0 : f0.offset = 0) (o1 : f1.offset = 1) (o2 : f2.offset = 2) (t0 : f0.type = 3) (t1 : f1.type = 9) (t2 : f2.type = 9) (c3 : Try.prog.cellsOf 3 = 1) (c9 : Try.prog.cellsOf 9 = 1)
    (h : DataW.trod enc Try.prog W 0 (fun _ => true) true fuel t (Value.cells (.slice a len cap)).toList = some x) : ∃ l, SlO W a len l := by
  rcases Deep.open_slice ht h with ⟨hcs, _⟩ | ⟨ad, len', cap', m, n, D, Pl, hcs, hb, hl, hm, hmm, _, hx⟩
  · simp [Value.cells] at hcs
    obtain ⟨rfl, rfl, rfl⟩ := hcs
    exact ⟨[], slo_nil _ _⟩
  · simp [Value.cells] at hcs
    obtain ⟨rfl, rfl, rfl⟩ := hcs
    simp at hmm
    have each : ∀ i, i < len → ∃ y : Od, smallO y ∧ W.cell? (ad.add (i * 3)) = some (.int .i64 y.1) ∧ W.cell? (ad.add (i * 3 + 1)) = some (.string y.2.1) ∧ W.cell? (ad.add (i * 3 + 2)) = some (.string y.2.2) := by
      intro i hi
      obtain ⟨cs', h1, h2⟩ := hx i (by omega)
      rw [ce] at h1
      obtain ⟨_, hlen, hcell⟩ := World.cells?_some h1
      obtain ⟨xs, k, hk, _, _, hxl, hf⟩ := DataW.trod_struct he h2
      match xs, hxl, cs', hlen with
      | [y0, y1, y2], _, [v0, v1, v2], _ =>
        have k0 := hf 0 f0 rfl
        have k1 := hf 1 f1 rfl
        have k2 := hf 2 f2 rfl
        rw [t0] at k0
        rw [t1] at k1
        rw [t2] at k2
        simp [o0, o1, o2, c3, c9] at k0 k1 k2
        obtain ⟨n0, e0, _, w0⟩ := DataW.trod_int Try.underlying3 k0
        obtain ⟨s1, e1, _, w1⟩ := DataW.trod_string Try.underlying9 k1
        obtain ⟨s2, e2, _, w2⟩ := DataW.trod_string Try.underlying9 k2
        simp at e0 e1 e2
        subst e0 e1 e2
        have d0 := hcell 0 (by omega)
        have d1 := hcell 1 (by omega)
        have d2 := hcell 2 (by omega)
        rw [Deep.add_add] at d0 d1 d2
        exact ⟨(n0, s1, s2), ⟨w0, w1, w2⟩, by simpa using d0, by simpa using d1, by simpa using d2⟩
    obtain ⟨q, hq⟩ := Deep.choose_lt each
    exact slo_open hl hm q (fun i hi => (hq i hi).1) (fun i hi => (hq i hi).2)
end Go.Proofs.Ytjodbijcgcjndaa.ords
