/- Rows of pairs that a law made, kept from step to step; arguments that are pairs, opened. An argument that is a slice of orders, opened. The laws' helpers for one word: a block of five cells; its size, alike, marked, held, copied; and the argument, opened. -/
import Derived.Test.YtjodbijcgcjndaaBund10az
import Derived.Deep.SlicePairs
import Derived.ChangeArms
import Derived.Test.YtjodbijcgcjndaaBund10ap
import Derived.Test.YtjodbijcgcjndaaBund10ay
import Derived.Test.YtjodbijcgcjndaaBund10bb
import Derived.Test.YtjodbijcgcjndaaBund10ba
namespace Go.Proofs.Ytjodbijcgcjndaa.pairs
open Go Go.RowKit Go.Proofs.Ytjodbijcgcjndaa.base Go.Proofs.Ytjodbijcgcjndaa.helps
set_option linter.unusedVariables false
set_option linter.unusedSimpArgs false


structure TrioP (w0 w : World) (gx lx cx : Nat) (X : List Pr) (gg lg cg : Nat) (G : List Pr) (gw lw cw : Nat) (W : List Pr) : Prop where
  bel : Below w0.heap.size w0 w
  x : OwnP w w0.heap.size gx lx cx X
  g : OwnP w w0.heap.size gg lg cg G
  s : OwnP w w0.heap.size gw lw cw W
  xg : gx ≠ gg
  xs : gx ≠ gw
  gs : gg ≠ gw
section
variable {w0 w w' : World} {gx lx cx gg lg cg gw lw cw : Nat} {X G W : List Pr}
theorem TrioP.below (h : TrioP w0 w gx lx cx X gg lg cg G gw lw cw W) (hb : Below w.heap.size w w') : TrioP w0 w' gx lx cx X gg lg cg G gw lw cw W :=
  ⟨h.bel.trans (hb.mono h.bel.size), h.x.below hb, h.g.below hb, h.s.below hb, h.xg, h.xs, h.gs⟩
theorem TrioP.markX (h : TrioP w0 w gx lx cx X gg lg cg G gw lw cw W) {X' : List Pr} (ho : OwnP w' w0.heap.size gx lx cx X') (hg : w.grownBy w' (some gx)) : TrioP w0 w' gx lx cx X' gg lg cg G gw lw cw W :=
  ⟨h.bel.grown hg h.bel.size (fun k e => by cases e; exact h.x.lt.1), ho, h.g.grown hg (by simpa using h.xg.symm), h.s.grown hg (by simpa using h.xs.symm), h.xg, h.xs, h.gs⟩
theorem TrioP.markG (h : TrioP w0 w gx lx cx X gg lg cg G gw lw cw W) {G' : List Pr} (ho : OwnP w' w0.heap.size gg lg cg G') (hg : w.grownBy w' (some gg)) : TrioP w0 w' gx lx cx X gg lg cg G' gw lw cw W :=
  ⟨h.bel.grown hg h.bel.size (fun k e => by cases e; exact h.g.lt.1), h.x.grown hg (by simpa using h.xg), ho, h.s.grown hg (by simpa using h.gs.symm), h.xg, h.xs, h.gs⟩
end

/-! ### arguments -/
def strOf : Value → ByteArray
  | .string s => s
  | _ => ⟨#[]⟩
theorem slp_open {W : World} {ad : Addr} {len cap : Nat} {V0 V1 : Nat → Value} (hl : len ≤ cap) (hm : cap ≤ maxLen)
    (hs : ∀ i, i < len → V0 i = .string (strOf (V0 i)) ∧ V1 i = .string (strOf (V1 i)) ∧ (strOf (V0 i)).size ≤ maxLen ∧ (strOf (V1 i)).size ≤ maxLen)
    (hc : ∀ i, i < len → W.cell? (ad.add (i * 2)) = some (V0 i) ∧ W.cell? (ad.add (i * 2 + 1)) = some (V1 i)) : ∃ l, SlP W (some ad) len l := by
  obtain ⟨b, off, spot⟩ := ad
  refine ⟨(List.range len).map fun i => (strOf (V0 i), strOf (V1 i)), by simp, by omega, ?_, fun h0 => ?_⟩
  · intro p hp
    obtain ⟨i, hi, rfl⟩ := List.mem_map.1 hp
    have := hs i (List.mem_range.1 hi)
    exact ⟨this.2.2.1, this.2.2.2⟩
  · have hspot : spot = none := by simpa [Addr.add] using World.cell?_spot (hc 0 h0).1
    subst hspot
    refine ⟨b, off, rfl, fun i hi => ?_⟩
    have hi' : i < len := by simpa using hi
    have h1 := hc i hi'
    have h2 := hs i hi'
    rw [Addr.add_lit, Addr.add_lit, h2.1, h2.2.1] at h1
    simp only [List.getElem_map, List.getElem_range]
    rw [← Nat.add_assoc] at h1
    exact h1
theorem slp_arg {H : Type} {enc : TypeId × Value → H} {W : World} {a : Option Addr} {len cap fuel : Nat} {x : DataW H × List MemPlace} (t : TypeId) (e : TypeId) (f0 f1 : Field) (ht : Try.prog.underlying t = some (.slice e)) (he : Try.prog.underlying e = some (.struct #[f0, f1]))
    (ce : Try.prog.cellsOf e = 2) (o0 : f0.offset = 0) (o1 : f1.offset = 1) (t0 : f0.type = 9) (t1 : f1.type = 9) (c9 : Try.prog.cellsOf 9 = 1)
    (h : DataW.trod enc Try.prog W 0 (fun _ => true) true fuel t (Value.cells (.slice a len cap)).toList = some x) : ∃ l, SlP W a len l := by
  rcases Deep.open_slice_pairs ht he ce o0 o1 (by rw [t0]; exact c9) (by rw [t1]; exact c9) h with ⟨hcs, _⟩ | ⟨ad, len', cap', m, n, V0, V1, D0, D1, P0, P1, hcs, _, hl, hm, hmm, _, hx⟩
  · simp [Value.cells] at hcs
    obtain ⟨rfl, rfl, rfl⟩ := hcs
    exact ⟨[], slp_nil _ _⟩
  · simp [Value.cells] at hcs
    obtain ⟨rfl, rfl, rfl⟩ := hcs
    simp at hmm
    refine slp_open (V0 := V0) (V1 := V1) hl hm (fun i hi => ?_) (fun i hi => ⟨(hx i (by omega)).1, (hx i (by omega)).2.1⟩)
    obtain ⟨_, _, h3, h4⟩ := hx i (by omega)
    rw [t0] at h3
    rw [t1] at h4
    obtain ⟨s0, e0, _, z0⟩ := DataW.trod_string Try.underlying9 h3
    obtain ⟨s1, e1, _, z1⟩ := DataW.trod_string Try.underlying9 h4
    simp at e0 e1
    rw [e0, e1]
    exact ⟨rfl, rfl, z0, z1⟩

set_option maxRecDepth 100000 in
theorem pair_arg {H : Type} {enc : TypeId × Value → H} {W : World} {v : Value} {r : Reach} {base fuel : Nat} {x : DataW H × List MemPlace} (e : TypeId) (f0 f1 : Field) (he : Try.prog.underlying e = some (.struct #[f0, f1]))
    (ce : Try.prog.cellsOf e = 2) (o0 : f0.offset = 0) (o1 : f1.offset = 1) (t0 : f0.type = 9) (t1 : f1.type = 9) (c9 : Try.prog.cellsOf 9 = 1)
    (hok : Value.okWide Try.prog W r base e v) (h : DataW.trod enc Try.prog W 0 (fun _ => true) true fuel e v.cells.toList = some x) : ∃ p : Pr, v = .agg #[.string p.1, .string p.2] ∧ small p := by
  obtain ⟨cs, rfl, hsz⟩ := WideShapes.okWide_struct he hok
  rw [ce] at hsz
  obtain ⟨xs, m, _, _, _, hxl, hel⟩ := DataW.trod_struct he h
  have g0 := hel 0 f0 rfl
  have g1 := hel 1 f1 rfl
  obtain ⟨l⟩ := cs
  match l, hsz, xs, hxl with
  | [c0, c1], _, [y0, y1], _ =>
    simp [o0, o1, t0, t1, c9, Value.cells] at g0 g1
    obtain ⟨s0, e0, _, z0⟩ := DataW.trod_string Try.underlying9 g0
    obtain ⟨s1, e1, _, z1⟩ := DataW.trod_string Try.underlying9 g1
    simp at e0 e1
    subst e0 e1
    exact ⟨(s0, s1), rfl, z0, z1⟩

end Go.Proofs.Ytjodbijcgcjndaa.pairs

namespace Go.Proofs.Ytjodbijcgcjndaa.ords
open Go Go.RowKit Go.Proofs.Ytjodbijcgcjndaa.base Go.Proofs.Ytjodbijcgcjndaa.pairs
set_option linter.unusedVariables false
set_option linter.unusedSimpArgs false

theorem slo_open {W : World} {ad : Addr} {len cap : Nat} (hl : len ≤ cap) (hm : cap ≤ maxLen) (q : Nat → Od) (hs : ∀ i, i < len → smallO (q i))
    (hc : ∀ i, i < len → W.cell? (ad.add (i * 3)) = some (.int .i64 (q i).1) ∧ W.cell? (ad.add (i * 3 + 1)) = some (.string (q i).2.1) ∧ W.cell? (ad.add (i * 3 + 2)) = some (.string (q i).2.2)) : ∃ l, SlO W (some ad) len l := by
  obtain ⟨b, off, spot⟩ := ad
  refine ⟨(List.range len).map q, by simp, by omega, ?_, fun h0 => ?_⟩
  · intro p hp
    obtain ⟨i, hi, rfl⟩ := List.mem_map.1 hp
    exact hs i (List.mem_range.1 hi)
  · have hspot : spot = none := by simpa [Addr.add] using World.cell?_spot (hc 0 h0).1
    subst hspot
    refine ⟨b, off, rfl, fun i hi => ?_⟩
    have hi' : i < len := by simpa using hi
    have h1 := hc i hi'
    rw [Addr.add_lit, Addr.add_lit, Addr.add_lit] at h1
    simp only [List.getElem_map, List.getElem_range]
    rw [← Nat.add_assoc, ← Nat.add_assoc] at h1
    exact h1
set_option maxRecDepth 100000 in
theorem slo_arg {H : Type} {enc : TypeId × Value → H} {W : World} {a : Option Addr} {len cap fuel : Nat} {x : DataW H × List MemPlace} (t e : TypeId) (f0 f1 f2 : Field) (ht : Try.prog.underlying t = some (.slice e)) (he : Try.prog.underlying e = some (.struct #[f0, f1, f2]))
    (ce : Try.prog.cellsOf e = 3) (o0 : f0.offset = 0) (o1 : f1.offset = 1) (o2 : f2.offset = 2) (t0 : f0.type = 3) (t1 : f1.type = 9) (t2 : f2.type = 9) (c3 : Try.prog.cellsOf 3 = 1) (c9 : Try.prog.cellsOf 9 = 1)
    (h : DataW.trod enc Try.prog W 0 (fun _ => true) true fuel t (Value.cells (.slice a len cap)).toList = some x) : ∃ l, SlO W a len l := by
  rcases Deep.open_slice ht h with ⟨hcs, _⟩ | ⟨ad, len', cap', m, n, D, Pl, hcs, hb, hl, hm, hmm, _, hx⟩
  · simp [Value.cells] at hcs
    obtain ⟨rfl, rfl, rfl⟩ := hcs
    exact ⟨[], slo_nil _ _⟩
  · simp [Value.cells] at hcs
    obtain ⟨rfl, rfl, rfl⟩ := hcs
    simp at hmm
    have each : ∀ i, i < len → ∃ y : Od, smallO y ∧ W.cell? (ad.add (i * 3)) = some (.int .i64 y.1) ∧ W.cell? (ad.add (i * 3 + 1)) = some (.string y.2.1) ∧ W.cell? (ad.add (i * 3 + 2)) = some (.string y.2.2) := by
      intro i hi
      obtain ⟨cs', h1, h2⟩ := hx i (by omega)
      rw [ce] at h1
      obtain ⟨_, hlen, hcell⟩ := World.cells?_some h1
      obtain ⟨xs, k, hk, _, _, hxl, hf⟩ := DataW.trod_struct he h2
      match xs, hxl, cs', hlen with
      | [y0, y1, y2], _, [v0, v1, v2], _ =>
        have k0 := hf 0 f0 rfl
        have k1 := hf 1 f1 rfl
        have k2 := hf 2 f2 rfl
        rw [t0] at k0
        rw [t1] at k1
        rw [t2] at k2
        simp [o0, o1, o2, c3, c9] at k0 k1 k2
        obtain ⟨n0, e0, _, w0⟩ := DataW.trod_int Try.underlying3 k0
        obtain ⟨s1, e1, _, w1⟩ := DataW.trod_string Try.underlying9 k1
        obtain ⟨s2, e2, _, w2⟩ := DataW.trod_string Try.underlying9 k2
        simp at e0 e1 e2
        subst e0 e1 e2
        have d0 := hcell 0 (by omega)
        have d1 := hcell 1 (by omega)
        have d2 := hcell 2 (by omega)
        rw [Deep.add_add] at d0 d1 d2
        exact ⟨(n0, s1, s2), ⟨w0, w1, w2⟩, by simpa using d0, by simpa using d1, by simpa using d2⟩
    obtain ⟨q, hq⟩ := Deep.choose_lt each
    exact slo_open hl hm q (fun i hi => (hq i hi).1) (fun i hi => (hq i hi).2)
end Go.Proofs.Ytjodbijcgcjndaa.ords

namespace Go.Proofs.Ytjodbijcgcjndaa.wds
open Go Go.RowKit Go.Proofs.Ytjodbijcgcjndaa.base Go.Proofs.Ytjodbijcgcjndaa.pairs Go.Proofs.Ytjodbijcgcjndaa.ords Go.Proofs.Ytjodbijcgcjndaa.helps
set_option linter.unusedVariables false
set_option linter.unusedSimpArgs false

def V5 (w : World) (g : Nat) (T : TypeId) (a b c d e : Value) : Prop := w.heap[g]? = some (.cells #[a, b, c, d, e] T (0, 0))
section
variable {w w' : World} {g : Nat} {T : TypeId} {a b c d e : Value}
theorem V5.c0 (h : V5 w g T a b c d e) : w.cell? ⟨g, 0, none⟩ = some a := cell_cur h 0 _ rfl
theorem V5.c1 (h : V5 w g T a b c d e) : w.cell? ⟨g, 1, none⟩ = some b := cell_cur h 1 _ rfl
theorem V5.c2 (h : V5 w g T a b c d e) : w.cell? ⟨g, 2, none⟩ = some c := cell_cur h 2 _ rfl
theorem V5.c3 (h : V5 w g T a b c d e) : w.cell? ⟨g, 3, none⟩ = some d := cell_cur h 3 _ rfl
theorem V5.c4 (h : V5 w g T a b c d e) : w.cell? ⟨g, 4, none⟩ = some e := cell_cur h 4 _ rfl
theorem V5.lt (h : V5 w g T a b c d e) : g < w.heap.size := (Array.getElem?_eq_some_iff.1 h).1
theorem V5.below (h : V5 w g T a b c d e) (hb : Below w.heap.size w w') : V5 w' g T a b c d e := (hb.block g h.lt).trans h
theorem v5_grown {row : Option Nat} (h : V5 w g T a b c d e) (hg : w.grownBy w' row) (hne : some g ≠ row) : V5 w' g T a b c d e := (hg.block g h.lt hne).trans h
theorem v5_fz (h : V5 w g T a b c d e) (j : Nat) : w.frozen? ⟨g, j, none⟩ = false := by unfold V5 at h; simp [World.frozen?, h]
theorem v5_set3 (h : V5 w g T a b c d e) (u : Value) : V5 (w.setCell ⟨g, 3, none⟩ u) g T a b c u e ∧ w.grownBy (w.setCell ⟨g, 3, none⟩ u) (some g) := ⟨(set_cur h 3 u).1, (set_cur h 3 u).2⟩
theorem v5_set4 (h : V5 w g T a b c d e) (u : Value) : V5 (w.setCell ⟨g, 4, none⟩ u) g T a b c d u ∧ w.grownBy (w.setCell ⟨g, 4, none⟩ u) (some g) := ⟨(set_cur h 4 u).1, (set_cur h 4 u).2⟩
theorem v5_all (h : V5 w g T a b c d e) (p q r s t : Value) : V5 (put5 w g p q r s t) g T p q r s t ∧ w.grownBy (put5 w g p q r s t) (some g) := by
  have s0 := set_cur h 0 p
  have s1 := set_cur s0.1 1 q
  have s2 := set_cur s1.1 2 r
  have s3 := set_cur s2.1 3 s
  have s4 := set_cur s3.1 4 t
  exact ⟨s4.1, grownBy_trans (grownBy_trans (grownBy_trans (grownBy_trans s0.2 s1.2) s2.2) s3.2) s4.2⟩
theorem v5n (w : World) (T : TypeId) (a b c d e : Value) : V5 (w.alloc (.cells #[a, b, c, d, e] T)) w.heap.size T a b c d e := heap_alloc_new w _
theorem v5a (h : V5 w g T a b c d e) (o : Obj) : V5 (w.alloc o) g T a b c d e := h.below ((Below.refl _ _).alloc (Nat.le_refl _) _)
theorem v5n1 (w : World) (o : Obj) (T : TypeId) (a b c d e : Value) : V5 ((w.alloc o).alloc (.cells #[a, b, c, d, e] T)) (w.heap.size + 1) T a b c d e := by
  have := v5n (w.alloc o) T a b c d e
  have e : (w.alloc o).heap.size = w.heap.size + 1 := by simp
  rw [e] at this; exact this
theorem v5n2 (w : World) (o o2 : Obj) (T : TypeId) (a b c d e : Value) : V5 (((w.alloc o).alloc o2).alloc (.cells #[a, b, c, d, e] T)) (w.heap.size + 2) T a b c d e := by
  have := v5n1 (w.alloc o) o2 T a b c d e
  have e : (w.alloc o).heap.size = w.heap.size + 1 := by simp
  rw [e] at this; exact this
end
set_option maxRecDepth 100000 in
set_option maxHeartbeats 1000000 in
theorem szWord (k s t : Int) (y : Bool) (a : Option Addr) (len cap : Nat) (l : List Od) (L : Nat) (w : World) (h : SlO w a len l) (hL : L ≤ 1099511627776) :
    Calls Try.prog 17 #[.agg #[.int .i64 k, .int .i64 s, .int .i64 t, .slice a len cap, .bool y], .int .i64 (L : Int)] w fun e w' => e = .returned (.int .i64 (pairs.szR L (l.length + sumO l))) ∧ Below w.heap.size w w' := by
  have hba : Below w.heap.size w (w.alloc (.cells #[.int .i64 k, .int .i64 s, .int .i64 t, .slice a len cap, .bool y] 37)) := (Below.refl _ _).alloc (Nat.le_refl _) _
  have HS := Hid.mk' (szOpS a len cap l L _ (h.below hba) hL)
  by_cases hc : l.length + sumO l ≤ L
  · rw [pairs.szR_pos hc] at HS ⊢
    have hn : ¬ (L : Int) - ((l.length + sumO l : Nat) : Int) < 0 := by omega
    generalize (L : Int) - ((l.length + sumO l : Nat) : Int) = S at *
    go_enter Try.func17, Try.ntmps17
    go_wp2_with fail
    refine HS.out.mono ?_
    rintro e w1 ⟨rfl, hb1⟩
    go_wp2_with fail
    go_ret
    exact ⟨rfl, hba.trans (hb1.mono hba.size)⟩
  · rw [pairs.szR_neg (by omega)] at HS ⊢
    go_enter Try.func17, Try.ntmps17
    go_wp2_with fail
    refine HS.out.mono ?_
    rintro e w1 ⟨rfl, hb1⟩
    go_wp2_with fail
    go_ret
    exact ⟨rfl, hba.trans (hb1.mono hba.size)⟩

set_option maxRecDepth 100000 in
set_option maxHeartbeats 1000000 in
theorem eqWordT (k s t : Int) (y : Bool) (pa qa : Option Addr) (pl pc ql qc : Nat) (l : List Od) (w : World) (hx : SlO w pa pl l) (hy : SlO w qa ql l) :
    Calls Try.prog 19 #[.agg #[.int .i64 k, .int .i64 s, .int .i64 t, .slice pa pl pc, .bool y], .agg #[.int .i64 k, .int .i64 s, .int .i64 t, .slice qa ql qc, .bool y]] w fun e w' => e = .returned (.bool true) ∧ Below w.heap.size w w' := by
  obtain ⟨W, hW⟩ : ∃ W, (w.alloc (.cells #[.int .i64 k, .int .i64 s, .int .i64 t, .slice pa pl pc, .bool y] 26)).alloc (.cells #[.int .i64 k, .int .i64 s, .int .i64 t, .slice qa ql qc, .bool y] 26) = W := ⟨_, rfl⟩
  have hB : Below w.heap.size w W := by rw [← hW]; exact ((Below.refl _ _).alloc (Nat.le_refl _) _).alloc (by simp) _
  have vx : V5 W w.heap.size 26 (.int .i64 k) (.int .i64 s) (.int .i64 t) (.slice pa pl pc) (.bool y) := by rw [← hW]; exact v5a (v5n w _ _ _ _ _ _) _
  have vy : V5 W (w.heap.size + 1) 26 (.int .i64 k) (.int .i64 s) (.int .i64 t) (.slice qa ql qc) (.bool y) := by rw [← hW]; exact v5n1 w _ _ _ _ _ _ _
  have HE := Hid.mk' (eqO pa qa pl pc ql qc l l W (hx.below hB) (hy.below hB) rfl)
  have HW := Hid.mk' hW
  clear hW
  cases y
  all_goals
    have hn1 : (k == k) = true := by simp
    have hn2 : (s == s) = true := by simp
    have hn3 : (t == t) = true := by simp
    go_enter Try.func19, Try.ntmps19
    go_wp2_with fail
    rw [HW.out]
    refine HE.out.mono ?_
    rintro e w1 ⟨rfl, hb1⟩
    have hB1 := hB.trans (hb1.mono hB.size)
    have x4 := (vx.below hb1).c4
    have y4 := (vy.below hb1).c4
    clear HE HW hb1 vx vy
    go_wp2_with fail
    go_ret
    exact ⟨rfl, hB1⟩

set_option maxRecDepth 100000 in
set_option maxHeartbeats 1000000 in
theorem markNil (K : Int) (w : World) :
    Calls Try.prog 48 #[.slice none 0 0, .int .i64 K] w fun e w' => e = .returned (.int .i64 K) ∧ w' = w := by
  go_enter Try.func48, Try.ntmps48
  go_wp2_with fail
  refine wp_loop_rounds 1 ?_
  rw [rounds_succ]
  go_wp2_with fail
  go_ret
  exact ⟨rfl, rfl⟩
/-- orders of the call's own, or nil, marked -/
theorem markV (v : Value) (base k0 : Nat) (l : List Od) (w : World) (h : OwnV w base v l) (hk1 : 1 ≤ k0) (hk0 : k0 + 3 * l.length ≤ 1099511627776) (K : Int) (hK : Hid (K = (k0 : Int))) :
    Calls Try.prog 48 #[v, .int .i64 K] w fun e w' => e = .returned (.int .i64 ((k0 + 3 * l.length : Nat) : Int)) ∧ OwnV w' base v (marksO k0 l.length) ∧ w.grownBy w' v.ownBlock := by
  have e := hK.out
  subst e
  rcases h.shape with ⟨rfl, rfl⟩ | ⟨g, cap, rfl, hO⟩
  · refine (markNil (k0 : Int) w).mono ?_
    rintro e w' ⟨rfl, rfl⟩
    exact ⟨by simp, by simpa [marksO] using ownV_nil _ _, rfl, rfl, rfl, Nat.le_refl _, fun _ _ _ => rfl⟩
  · refine (markOpS g l.length cap k0 base l w hO hk1 hk0).mono ?_
    rintro e w' ⟨rfl, hO', hg⟩
    have := ownV_of hO'
    exact ⟨rfl, this, hg⟩
set_option maxRecDepth 100000 in
set_option maxHeartbeats 1000000 in
theorem markWord1 (k s t : Int) (y : Bool) (v : Value) (base : Nat) (l : List Od) (w : World) (h : OwnV w base v l) (hb : base ≤ w.heap.size) (hk0 : 1 + 3 * l.length ≤ 1099511627776) :
    Calls Try.prog 22 #[.agg #[.int .i64 k, .int .i64 s, .int .i64 t, v, .bool y], .int .i64 1] w fun e w' => e = .returned (.int .i64 ((1 + 3 * l.length : Nat) : Int)) ∧ OwnV w' base v (marksO 1 l.length) ∧ w.grownBy w' v.ownBlock := by
  have hba : Below w.heap.size w (w.alloc (.cells #[.int .i64 k, .int .i64 s, .int .i64 t, v, .bool y] 26)) := (Below.refl _ _).alloc (Nat.le_refl _) _
  have HM := Hid.mk' (markV v base 1 l _ (h.below hba) (by omega) hk0 1 (by show _ = _; rfl))
  have hga : w.grownBy (w.alloc (.cells #[.int .i64 k, .int .i64 s, .int .i64 t, v, .bool y] 26)) v.ownBlock := World.grownBy_alloc w _ _
  rcases h.shape with ⟨rfl, rfl⟩ | ⟨g, cap, rfl, _⟩
  all_goals
    clear h
    go_enter Try.func22, Try.ntmps22
    go_wp2_with fail
    refine HM.out.mono ?_
    rintro e w1 ⟨rfl, hO, hg⟩
    have HO := Hid.mk' hO
    have HG := Hid.mk' (grownBy_trans hga hg)
    clear hO hg HM
    go_wp2_with fail
    go_ret
    exact ⟨rfl, HO.out, HG.out⟩
set_option maxRecDepth 100000 in
set_option maxHeartbeats 1000000 in
theorem heldWord1 (k s t : Int) (y : Bool) (a : Option Addr) (len cap : Nat) (w : World) (h : SlO w a len (marksO 1 len)) (hk0 : 1 + 3 * len ≤ 1099511627776) :
    Calls Try.prog 26 #[.agg #[.int .i64 k, .int .i64 s, .int .i64 t, .slice a len cap, .bool y], .int .i64 1] w fun e w' => e = .returned (.int .i64 ((1 + 3 * len : Nat) : Int)) ∧ Below w.heap.size w w' := by
  have hba : Below w.heap.size w (w.alloc (.cells #[.int .i64 k, .int .i64 s, .int .i64 t, .slice a len cap, .bool y] 26)) := (Below.refl _ _).alloc (Nat.le_refl _) _
  have HM := Hid.mk' (show Calls Try.prog 49 #[.slice a len cap, .int .i64 ((1 : Nat) : Int)] _ _ from heldOpS a len cap 1 _ (h.below hba) (by omega) hk0)
  generalize hN : 1 + 3 * len = N at *
  clear hN h
  go_enter Try.func26, Try.ntmps26
  go_wp2_with fail
  refine HM.out.mono ?_
  rintro e w1 ⟨rfl, hb1⟩
  go_wp2_with fail
  go_ret
  exact ⟨rfl, hba.trans (hb1.mono hba.size)⟩
set_option maxRecDepth 100000 in
set_option maxHeartbeats 2000000 in
theorem toWord (k s t : Int) (y : Bool) (pa : Option Addr) (pl pc : Nat) (l : List Od) (w : World) (h : SlO w pa pl l) (hsz : pl ≤ 1099511627776) :
    Calls Try.prog 18 #[.agg #[.int .i64 k, .int .i64 s, .int .i64 t, .slice pa pl pc, .bool y]] w fun e w' =>
      ∃ g, e = .returned (.agg #[.int .i64 k, .int .i64 s, .int .i64 t, .slice (some ⟨g, 0, none⟩) pl pl, .bool y]) ∧ OwnO w' w.heap.size g pl pl l ∧ Below w.heap.size w w' := by
  obtain ⟨W0, hW0⟩ : ∃ W, ((w.alloc (.cells #[.int .i64 k, .int .i64 s, .int .i64 t, .slice pa pl pc, .bool y] 37)).alloc (.cells #[.int .i64 0, .int .i64 0, .int .i64 0, .slice none 0 0, .bool false] 26)).alloc (.cells #[.int .i64 k, .int .i64 s, .int .i64 t, .slice none 0 0, .bool false] 26) = W := ⟨_, rfl⟩
  have hB : Below w.heap.size w W0 := by rw [← hW0]; exact (((Below.refl _ _).alloc (Nat.le_refl _) _).alloc (by simp) _).alloc (by simp; omega) _
  have v0 : V5 W0 w.heap.size 37 (.int .i64 k) (.int .i64 s) (.int .i64 t) (.slice pa pl pc) (.bool y) := by
    rw [← hW0]; exact v5a (v5a (v5n w _ _ _ _ _ _) _) _
  have v1 : V5 W0 (w.heap.size + 1) 26 (.int .i64 0) (.int .i64 0) (.int .i64 0) (.slice none 0 0) (.bool false) := by
    rw [← hW0]; exact v5a (v5n1 w _ _ _ _ _ _ _) _
  have v2 : V5 W0 (w.heap.size + 1 + 1) 26 (.int .i64 k) (.int .i64 s) (.int .i64 t) (.slice none 0 0) (.bool false) := by
    rw [← hW0]; exact v5n2 w _ _ _ _ _ _ _ _
  have HW := Hid.mk' hW0
  have HT := Hid.mk' (toOpS pa pl pc l W0 (h.below hB) hsz)
  clear hW0
  go_enter Try.func18, Try.ntmps18
  go_wp2_with fail
  rw [HW.out]
  refine HT.out.mono ?_
  rintro e w2 ⟨g, rfl, hO, hb2⟩
  have u0 := v0.below hb2
  have u1 := v1.below hb2
  have u2 := v2.below hb2
  have hB2 := hB.trans (hb2.mono hB.size)
  have hgl := hO.lt
  have hl2 := v2.lt
  have s2 := v5_set3 u2 (.slice (some ⟨g, 0, none⟩) pl pl)
  have x0 := v5_grown u0 s2.2 (by simp; omega)
  have x1 := v5_grown u1 s2.2 (by simp)
  have hO2 := hO.grown s2.2 (by simp; omega)
  have hB3 := hB2.grown s2.2 hB2.size (fun j e => by cases e; omega)
  have s3 := v5_set4 s2.1 (.bool y)
  have y1 := v5_grown x1 s3.2 (by simp)
  have hO3 := hO2.grown s3.2 (by simp; omega)
  have hB4 := hB3.grown s3.2 hB3.size (fun j e => by cases e; omega)
  have z := v5_all y1 (.int .i64 k) (.int .i64 s) (.int .i64 t) (.slice (some ⟨g, 0, none⟩) pl pl) (.bool y)
  have HO := Hid.mk' ((hO3.grown z.2 (by simp; omega)).mono (base' := w.heap.size) hB.size)
  have HBz := Hid.mk' (hB4.grown z.2 hB4.size (fun j e => by cases e; omega))
  have z0 := z.1.c0
  have z1 := z.1.c1
  have z2 := z.1.c2
  have z3 := z.1.c3
  have z4 := z.1.c4
  have m2 := u2.c3
  have q2 := v5_fz u2 3
  have m3 := s2.1.c4
  have q3 := v5_fz s2.1 4
  have m4 := x0.c4
  have a0 := s3.1.c0
  have a1 := s3.1.c1
  have a2 := s3.1.c2
  have a3 := s3.1.c3
  have a4 := s3.1.c4
  have b0 := y1.c0
  have b1 := y1.c1
  have b2 := y1.c2
  have b3 := y1.c3
  have b4 := y1.c4
  have k0 := v5_fz y1 0
  have k1 := v5_fz y1 1
  have k2 := v5_fz y1 2
  have k3 := v5_fz y1 3
  have k4 := v5_fz y1 4
  clear v0 v1 v2 u0 u1 u2 s2 s3 x0 x1 y1 z hO hO2 hO3 hb2 hB hB2 hB3 hB4 HW HT
  go_wp2_with fail
  refine bodyPost_ret (v := .agg #[.int .i64 k, .int .i64 s, .int .i64 t, .slice (some ⟨g, 0, none⟩) pl pl, .bool y]) ?h1 rfl ⟨g, rfl, HO.out, HBz.out⟩
  simp [results, Try.results18, go_sem, z0, z1, z2, z3, z4]

/-! ### arguments -/
theorem slo_arg2 {H : Type} {enc : TypeId × Value → H} {W : World} {n : Nat} {v : Value} {y : DataW H × List MemPlace} (f0 f1 f2 : Field) (he : Try.prog.underlying 98 = some (.struct #[f0, f1, f2]))
    (ce : Try.prog.cellsOf 98 = 3) (o0 : f0.offset = 0) (o1 : f1.offset = 1) (o2 : f2.offset = 2) (t0 : f0.type = 3) (t1 : f1.type = 9) (t2 : f2.type = 9) (c3 : Try.prog.cellsOf 3 = 1) (c9 : Try.prog.cellsOf 9 = 1)
    (h : DataW.trod enc Try.prog W 0 (fun _ => true) true n 35 [v] = some y) : ∃ pa pl pc l, v = .slice pa pl pc ∧ SlO W pa pl l ∧ pl ≤ pc := by
  obtain ⟨pa, pl, pc, hv, hpc⟩ : ∃ a len cap, v = .slice a len cap ∧ len ≤ cap := by
    rcases Deep.open_slice Try.underlying35 h with ⟨hcs, _⟩ | ⟨ad, len, cap, _, _, _, _, hcs, _, hl, _⟩
    · simp at hcs; exact ⟨_, _, _, hcs, Nat.le_refl _⟩
    · simp at hcs; exact ⟨_, _, _, hcs, hl⟩
  subst hv
  obtain ⟨l, hl⟩ := slo_arg (cap := pc) 35 98 f0 f1 f2 Try.underlying35 he ce o0 o1 o2 t0 t1 t2 c3 c9 h
  exact ⟨pa, pl, pc, l, rfl, hl, hpc⟩
set_option maxRecDepth 100000 in
theorem word_arg {H : Type} {enc : TypeId × Value → H} {W : World} {v : Value} {r : Reach} {base fuel : Nat} {x : DataW H × List MemPlace} (e : TypeId) (f0 f1 f2 f3 f4 : Field) (he : Try.prog.underlying e = some (.struct #[f0, f1, f2, f3, f4]))
    (ce : Try.prog.cellsOf e = 5) (o0 : f0.offset = 0) (o1 : f1.offset = 1) (o2 : f2.offset = 2) (o3 : f3.offset = 3) (o4 : f4.offset = 4) (t0 : f0.type = 3) (t1 : f1.type = 3) (t2 : f2.type = 3) (t3 : f3.type = 35) (t4 : f4.type = 4) (c3 : Try.prog.cellsOf 3 = 1) (cs1 : Try.prog.cellsOf 35 = 1) (cb1 : Try.prog.cellsOf 4 = 1)
    (g0 g1 g2 : Field) (hI : Try.prog.underlying 98 = some (.struct #[g0, g1, g2])) (cI : Try.prog.cellsOf 98 = 3) (i0 : g0.offset = 0) (i1 : g1.offset = 1) (i2 : g2.offset = 2) (u0 : g0.type = 3) (u1 : g1.type = 9) (u2 : g2.type = 9) (c9 : Try.prog.cellsOf 9 = 1)
    (hok : Value.okWide Try.prog W r base e v) (h : DataW.trod enc Try.prog W 0 (fun _ => true) true fuel e v.cells.toList = some x) :
    ∃ (k s t : Int) (y : Bool) (a : Option Addr) (len cap : Nat) (l : List Od), v = .agg #[.int .i64 k, .int .i64 s, .int .i64 t, .slice a len cap, .bool y] ∧ (Lit.int .i64 k).wf = true ∧ (Lit.int .i64 s).wf = true ∧ (Lit.int .i64 t).wf = true ∧ SlO W a len l := by
  obtain ⟨cs, rfl, hsz⟩ := WideShapes.okWide_struct he hok
  rw [ce] at hsz
  obtain ⟨xs, m, _, _, _, hxl, hel⟩ := DataW.trod_struct he h
  have k0 := hel 0 f0 rfl
  have k1 := hel 1 f1 rfl
  have k2 := hel 2 f2 rfl
  have k3 := hel 3 f3 rfl
  have k4 := hel 4 f4 rfl
  obtain ⟨l⟩ := cs
  match l, hsz, xs, hxl with
  | [v0, v1, v2, v3, v4], _, [y0, y1, y2, y3, y4], _ =>
    simp [o0, o1, o2, o3, o4, t0, t1, t2, t3, t4, c3, cs1, cb1, Value.cells] at k0 k1 k2 k3 k4
    obtain ⟨n0, e0, _, w0⟩ := DataW.trod_int Try.underlying3 k0
    obtain ⟨n1, e1, _, w1⟩ := DataW.trod_int Try.underlying3 k1
    obtain ⟨n2, e2, _, w2⟩ := DataW.trod_int Try.underlying3 k2
    obtain ⟨b4, e4, _⟩ := DataW.trod_bool Try.underlying4 k4
    simp at e0 e1 e2 e4
    subst e0 e1 e2 e4
    obtain ⟨pa, pl, pc, ops, rfl, hS, _⟩ := slo_arg2 g0 g1 g2 hI cI i0 i1 i2 u0 u1 u2 c3 c9 k3
    exact ⟨n0, n1, n2, b4, pa, pl, pc, ops, rfl, w0, w1, w2, hS⟩
end Go.Proofs.Ytjodbijcgcjndaa.wds
