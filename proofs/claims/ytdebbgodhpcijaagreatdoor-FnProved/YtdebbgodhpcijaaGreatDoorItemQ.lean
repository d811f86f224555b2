/- Rows of items (a pair and a slice of texts: three cells an item): small facts on worlds; no function of the program is named here. Rows of items that a call made, kept block by block; no function of the program is named here. -/
import Derived.Test.YtdebbgodhpcijaaGreatDoorKitB
import Derived.Test.YtdebbgodhpcijaaGreatDoorClashM
import Derived.Deep.Slices
import Derived.ChangeSame
import Derived.SliceStrings
import Derived.Test.YtdebbgodhpcijaaGreatDoorKitA
namespace Go.Proofs.YtdebbgodhpcijaaGreatDoor.range
open Go Go.RowKit Go.Proofs.YtdebbgodhpcijaaGreatDoor.base Go.Proofs.YtdebbgodhpcijaaGreatDoor.pairs Go.Proofs.YtdebbgodhpcijaaGreatDoor.tree
set_option linter.unusedVariables false
set_option linter.unusedSimpArgs false

def smallI (x : It) : Prop := small x.1 ∧ ∀ s ∈ x.2, s.size ≤ maxLen
/-- the three cells of an item -/
def ItAt (w : World) (b o : Nat) (x : It) : Prop :=
  w.cell? ⟨b, o, none⟩ = some (.string x.1.1) ∧ w.cell? ⟨b, o + 1, none⟩ = some (.string x.1.2) ∧ ∃ pa pl pc, w.cell? ⟨b, o + 2, none⟩ = some (.slice pa pl pc) ∧ SlS w pa pl x.2 ∧ pl ≤ pc
theorem ItAt.below {w w' : World} {b o : Nat} {x : It} (h : ItAt w b o x) (hb : Below w.heap.size w w') : ItAt w' b o x := by
  have keep : ∀ o v, w.cell? ⟨b, o, none⟩ = some v → w'.cell? ⟨b, o, none⟩ = some v := fun o v hv => (hb.cell (p := ⟨b, o, none⟩) (World.block_lt_of_cell? w _ hv)).trans hv
  obtain ⟨h1, h2, pa, pl, pc, h3, h4, h5⟩ := h
  exact ⟨keep _ _ h1, keep _ _ h2, pa, pl, pc, keep _ _ h3, h4.below hb, h5⟩
/-- a slice of items that is read -/
def SlI (w : World) (a : Option Addr) (len : Nat) (l : List It) : Prop :=
  l.length = len ∧ len ≤ maxLen ∧ (∀ x ∈ l, smallI x) ∧ (0 < len → ∃ b off, a = some ⟨b, off, none⟩ ∧ ∀ i (h : i < l.length), ItAt w b (off + i * 3) l[i])
theorem sli_nil (w : World) (a : Option Addr) : SlI w a 0 [] := ⟨rfl, Nat.zero_le _, (fun _ h => absurd h List.not_mem_nil), fun h => absurd h (by omega)⟩
theorem SlI.below {w w' : World} {a : Option Addr} {len : Nat} {l : List It} (h : SlI w a len l) (hb : Below w.heap.size w w') : SlI w' a len l := by
  obtain ⟨h1, h2, h3, h4⟩ := h
  refine ⟨h1, h2, h3, fun h0 => ?_⟩
  obtain ⟨b, off, e, hc⟩ := h4 h0
  exact ⟨b, off, e, fun i hi => (hc i hi).below hb⟩
theorem SlI.at {w : World} {b off len : Nat} {l : List It} (h : SlI w (some ⟨b, off, none⟩) len l) (i : Nat) (hi : i < l.length) : ItAt w b (off + i * 3) l[i] := by
  obtain ⟨b', off', e, hc⟩ := h.2.2.2 (by have := h.1; omega)
  simp only [Option.some.injEq, Addr.mk.injEq, and_true] at e
  obtain ⟨rfl, rfl⟩ := e
  exact hc i hi

/-! ### rows of items that a call made: each path lies in a row of its own -/
abbrev Hd := Nat × Nat × Nat
def itVals (l : List It) (hs : List Hd) : List Value := (l.zip hs).flatMap fun q => [.string q.1.1.1, .string q.1.1.2, .slice (some ⟨q.2.1, 0, none⟩) q.2.2.1 q.2.2.2]
theorem itVals_length (l : List It) (hs : List Hd) (h : hs.length = l.length) : (itVals l hs).length = l.length * 3 := by
  induction l generalizing hs with
  | nil => rfl
  | cons x l ih =>
    cases hs with
    | nil => simp at h
    | cons y hs => simp at h; have := ih hs h; simp [itVals] at this ⊢; omega
theorem itVals_get (l : List It) (hs : List Hd) (h : hs.length = l.length) (i : Nat) (hi : i < l.length) :
    (itVals l hs)[i * 3]? = some (.string l[i].1.1) ∧ (itVals l hs)[i * 3 + 1]? = some (.string l[i].1.2) ∧ (itVals l hs)[i * 3 + 2]? = some (.slice (some ⟨(hs[i]'(by omega)).1, 0, none⟩) (hs[i]'(by omega)).2.1 (hs[i]'(by omega)).2.2) := by
  induction l generalizing hs i with
  | nil => simp at hi
  | cons x l ih =>
    cases hs with
    | nil => simp at h
    | cons y hs =>
      have e : itVals (x :: l) (y :: hs) = .string x.1.1 :: .string x.1.2 :: .slice (some ⟨y.1, 0, none⟩) y.2.1 y.2.2 :: itVals l hs := rfl
      rw [e]
      cases i with
      | zero => exact ⟨rfl, rfl, rfl⟩
      | succ i =>
        have := ih hs (by simpa using h) i (by simpa using hi)
        rw [show (i + 1) * 3 = i * 3 + 1 + 1 + 1 by omega]
        simpa using this
theorem itVals_snoc (l : List It) (hs : List Hd) (h : hs.length = l.length) (x : It) (y : Hd) : itVals (l ++ [x]) (hs ++ [y]) = itVals l hs ++ [.string x.1.1, .string x.1.2, .slice (some ⟨y.1, 0, none⟩) y.2.1 y.2.2] := by
  unfold itVals
  rw [List.zip_append h.symm, List.flatMap_append]; rfl
theorem itVals_oneCell (l : List It) (hs : List Hd) : ∀ v ∈ itVals l hs, v.oneCell' = true := by
  intro v hv
  obtain ⟨q, _, hq⟩ := List.mem_flatMap.1 hv
  simp at hq
  rcases hq with rfl | rfl | rfl <;> rfl
/-- the value v is a slice of items that the call made (or nil, of none) -/
structure OwnI (w : World) (base : Nat) (v : Value) (l : List It) (hs : List Hd) : Prop where
  len : hs.length = l.length
  sm : ∀ x ∈ l, smallI x
  row : w.ownsRow base 61 3 v l.length (itVals l hs)
  paths : ∀ i (h : i < l.length), OwnS w base (hs[i]'(by omega)).1 (hs[i]'(by omega)).2.1 (hs[i]'(by omega)).2.2 l[i].2
  apart : hs.Pairwise fun a b => a.1 ≠ b.1
  out : ∀ k, v.ownBlock = some k → ∀ y ∈ hs, y.1 ≠ k
theorem OwnI.below {w w' : World} {base : Nat} {v : Value} {l : List It} {hs : List Hd} (h : OwnI w base v l hs) (hb : Below w.heap.size w w') : OwnI w' base v l hs :=
  ⟨h.len, h.sm, h.row.kept (row := none) ⟨hb.os, hb.tape, hb.output, hb.size, fun k hk _ => hb.block k hk⟩ (by
    by_cases e : v.ownBlock = none
    · exact .inl e
    · exact .inr e), fun i hi => (h.paths i hi).below hb, h.apart, h.out⟩
theorem ownI_nil (w : World) (base : Nat) : OwnI w base (.slice none 0 0) [] [] :=
  ⟨rfl, (fun _ h => absurd h List.not_mem_nil), ⟨rfl, .inl ⟨rfl, rfl⟩⟩, fun i hi => absurd hi (by simp), List.Pairwise.nil, fun k hk => by cases hk⟩

/-! ### arguments -/
theorem sli_open {W : World} {ad : Addr} {len cap : Nat} (hl : len ≤ cap) (hm : cap ≤ maxLen) (q : Nat → It)
    (hs : ∀ i, i < len → smallI (q i)) (hc : ∀ i, i < len → W.cell? (ad.add (i * 3)) = some (.string (q i).1.1) ∧ W.cell? (ad.add (i * 3 + 1)) = some (.string (q i).1.2) ∧ ∃ pa pl pc, W.cell? (ad.add (i * 3 + 2)) = some (.slice pa pl pc) ∧ SlS W pa pl (q i).2 ∧ pl ≤ pc) : ∃ l, SlI W (some ad) len l := by
  obtain ⟨b, off, spot⟩ := ad
  refine ⟨(List.range len).map q, by simp, by omega, ?_, fun h0 => ?_⟩
  · intro x hx
    obtain ⟨i, hi, rfl⟩ := List.mem_map.1 hx
    exact hs i (List.mem_range.1 hi)
  · have hspot : spot = none := by simpa [Addr.add] using World.cell?_spot (hc 0 h0).1
    subst hspot
    refine ⟨b, off, rfl, fun i hi => ?_⟩
    have hi' : i < len := by simpa using hi
    have h1 := hc i hi'
    rw [Addr.add_lit, Addr.add_lit, Addr.add_lit] at h1
    simp only [List.getElem_map, List.getElem_range]
    rw [← Nat.add_assoc, ← Nat.add_assoc] at h1
    exact h1
theorem sls_arg {H : Type} {enc : TypeId × Value → H} {W : World} {n : Nat} {v : Value} {y : DataW H × List MemPlace} (h : DataW.trod enc Tryz.prog W 0 (fun _ => true) true n 59 [v] = some y) :
    ∃ pa pl pc ss, v = .slice pa pl pc ∧ SlS W pa pl ss ∧ pl ≤ pc := by
  rcases ChangeShapes.open_strings Tryz.underlying59 Tryz.underlying9 (by kernel_rfl) h with ⟨hcs, _⟩ | ⟨x, l, c, zs, hcs, _, hl, hm, hz, _, hcell, hwz⟩
  · simp at hcs
    exact ⟨none, 0, 0, [], hcs, sls_nil _ _, Nat.le_refl _⟩
  · simp at hcs
    exact ⟨some x, l, c, _, hcs, sls_of_strings hl hm (by simpa using hz) hcell hwz, hl⟩
set_option maxRecDepth 100000 in
theorem sli_arg {H : Type} {enc : TypeId × Value → H} {W : World} {a : Option Addr} {len cap fuel : Nat} {x : DataW H × List MemPlace} (t e p : TypeId) (f0 f1 g0 g1 : Field) (ht : Tryz.prog.underlying t = some (.slice e)) (he : Tryz.prog.underlying e = some (.struct #[f0, f1]))
    (ce : Tryz.prog.cellsOf e = 3) (o0 : f0.offset = 0) (o1 : f1.offset = 2) (tp : f0.type = p) (hp : Tryz.prog.underlying p = some (.struct #[g0, g1])) (cp : Tryz.prog.cellsOf p = 2) (q0 : g0.offset = 0) (q1 : g1.offset = 1) (t0 : g0.type = 9) (t1 : g1.type = 9) (c9 : Tryz.prog.cellsOf 9 = 1) (tq : f1.type = 59) (cq : Tryz.prog.cellsOf 59 = 1)
    (h : DataW.trod enc Tryz.prog W 0 (fun _ => true) true fuel t (Value.cells (.slice a len cap)).toList = some x) : ∃ l, SlI W a len l := by
  rcases Deep.open_slice ht h with ⟨hcs, _⟩ | ⟨ad, len', cap', m, n, D, Pl, hcs, hb, hl, hm, hmm, _, hx⟩
  · simp [Value.cells] at hcs
    obtain ⟨rfl, rfl, rfl⟩ := hcs
    exact ⟨[], sli_nil _ _⟩
  · simp [Value.cells] at hcs
    obtain ⟨rfl, rfl, rfl⟩ := hcs
    simp at hmm
    have each : ∀ i, i < len → ∃ y : It, smallI y ∧ W.cell? (ad.add (i * 3)) = some (.string y.1.1) ∧ W.cell? (ad.add (i * 3 + 1)) = some (.string y.1.2) ∧ ∃ pa pl pc, W.cell? (ad.add (i * 3 + 2)) = some (.slice pa pl pc) ∧ SlS W pa pl y.2 ∧ pl ≤ pc := by
      intro i hi
      obtain ⟨cs', h1, h2⟩ := hx i (by omega)
      rw [ce] at h1
      obtain ⟨_, hlen, hcell⟩ := World.cells?_some h1
      obtain ⟨xs, k, hk, _, _, hxl, hf⟩ := DataW.trod_struct he h2
      match xs, hxl, cs', hlen with
      | [y0, y1], _, [v0, v1, v2], _ =>
        have g0' := hf 0 f0 rfl
        have g1' := hf 1 f1 rfl
        rw [tp] at g0'
        rw [tq] at g1'
        simp [o0, o1, cp, cq] at g0' g1'
        obtain ⟨ys, k2, _, _, _, hyl, hg⟩ := DataW.trod_struct hp g0'
        match ys, hyl with
        | [z0, z1], _ =>
          have k0 := hg 0 g0 rfl
          have k1 := hg 1 g1 rfl
          rw [t0] at k0
          rw [t1] at k1
          simp [q0, q1, c9] at k0 k1
          obtain ⟨s0, e0, _, w0⟩ := DataW.trod_string Tryz.underlying9 k0
          obtain ⟨s1, e1, _, w1⟩ := DataW.trod_string Tryz.underlying9 k1
          simp at e0 e1
          subst e0 e1
          obtain ⟨pa, pl, pc, ss, rfl, hS, hpc⟩ := sls_arg g1'
          have d0 := hcell 0 (by omega)
          have d1 := hcell 1 (by omega)
          have d2 := hcell 2 (by omega)
          rw [Deep.add_add] at d0 d1 d2
          exact ⟨((s0, s1), ss), ⟨⟨w0, w1⟩, hS.2.2.1⟩, by simpa using d0, by simpa using d1, pa, pl, pc, by simpa using d2, hS, hpc⟩
    obtain ⟨q, hq⟩ := Deep.choose_lt each
    exact sli_open hl hm q (fun i hi => (hq i hi).1) (fun i hi => (hq i hi).2)

end Go.Proofs.YtdebbgodhpcijaaGreatDoor.range

namespace Go.Proofs.YtdebbgodhpcijaaGreatDoor.range
open Go Go.RowKit Go.Proofs.YtdebbgodhpcijaaGreatDoor.base Go.Proofs.YtdebbgodhpcijaaGreatDoor.pairs Go.Proofs.YtdebbgodhpcijaaGreatDoor.tree
set_option linter.unusedVariables false
set_option linter.unusedSimpArgs false

theorem row_of_block {w w' : World} {base : Nat} {e : TypeId} {size : Nat} {v : Value} {n : Nat} {xs : List Value} (h : w.ownsRow base e size v n xs) (hk : ∀ k, v.ownBlock = some k → w'.heap[k]? = w.heap[k]?) : w'.ownsRow base e size v n xs := by
  refine ⟨h.1, ?_⟩
  rcases h.2 with h' | ⟨g, cap, cur, rfl, h0, hg, r⟩
  · exact .inl h'
  · exact .inr ⟨g, cap, cur, rfl, h0, (hk g rfl).trans hg, r⟩
theorem row_mono {w : World} {base base' : Nat} {e : TypeId} {size : Nat} {v : Value} {n : Nat} {xs : List Value} (h : w.ownsRow base e size v n xs) (hb : base' ≤ base) : w.ownsRow base' e size v n xs := by
  refine ⟨h.1, ?_⟩
  rcases h.2 with h' | ⟨g, cap, cur, rfl, h0, r⟩
  · exact .inl h'
  · exact .inr ⟨g, cap, cur, rfl, by omega, r⟩
section
variable {w w' : World} {base base' g n cap : Nat} {v : Value} {l : List It} {hs : List Hd}
theorem ownS_of_block {ss : List ByteArray} (h : OwnS w base g n cap ss) (hk : w'.heap[g]? = w.heap[g]?) : OwnS w' base g n cap ss := ⟨h.1, h.2.1, row_of_block h.2.2 (fun k e => by cases e; exact hk)⟩
theorem ownP_of_block {ps : List Pr} (h : OwnP w base g n cap ps) (hk : w'.heap[g]? = w.heap[g]?) : OwnP w' base g n cap ps := ⟨h.1, h.2.1, row_of_block h.2.2 (fun k e => by cases e; exact hk)⟩
/-- the blocks of a slice of items that a call made -/
def Blk (v : Value) (hs : List Hd) (k : Nat) : Prop := v.ownBlock = some k ∨ ∃ y ∈ hs, y.1 = k
theorem OwnI.of_blocks (h : OwnI w base v l hs) (hk : ∀ k, Blk v hs k → w'.heap[k]? = w.heap[k]?) : OwnI w' base v l hs :=
  ⟨h.len, h.sm, row_of_block h.row (fun k e => hk k (.inl e)), fun i hi => ownS_of_block (h.paths i hi) (hk _ (.inr ⟨hs[i]'(by have := h.len; omega), List.getElem_mem _, rfl⟩)), h.apart, h.out⟩
theorem OwnI.mono (h : OwnI w base v l hs) (hb : base' ≤ base) : OwnI w base' v l hs :=
  ⟨h.len, h.sm, row_mono h.row hb, fun i hi => (h.paths i hi).mono hb, h.apart, h.out⟩
theorem OwnI.lt (h : OwnI w base v l hs) (k : Nat) (hk : Blk v hs k) : base ≤ k ∧ k < w.heap.size := by
  rcases hk with e | ⟨y, hy, rfl⟩
  · exact h.row.lt k e
  · obtain ⟨i, hi, rfl⟩ := List.getElem_of_mem hy
    exact (h.paths i (by have := h.len; omega)).lt
/-- kept by whatever leaves all below its base or all but one other block -/
theorem OwnI.grown (h : OwnI w base v l hs) {k : Nat} (hg : w.grownBy w' (some k)) (hne : ¬ Blk v hs k) : OwnI w' base v l hs :=
  h.of_blocks (fun j hj => hg.block j (h.lt j hj).2 (fun e => by cases e; exact hne hj))
theorem OwnI.within (h : OwnI w base v l hs) {B : Nat} (hb : Below B w w') (hB : ∀ k, Blk v hs k → k < B) : OwnI w' base v l hs :=
  h.of_blocks (fun j hj => hb.block j (hB j hj))
theorem OwnI.shape (h : OwnI w base v l hs) : (v = .slice none 0 0 ∧ l = [] ∧ hs = []) ∨ ∃ g cap, v = .slice (some ⟨g, 0, none⟩) l.length cap ∧ l.length ≤ cap ∧ cap ≤ maxLen := by
  rcases h.row.2 with ⟨rfl, h0⟩ | ⟨g, cap, cur, rfl, _, _, h1, h2, _⟩
  · have : l = [] := List.eq_nil_of_length_eq_zero h0
    subst this
    exact .inl ⟨rfl, rfl, List.eq_nil_of_length_eq_zero (by simpa using h.len)⟩
  · exact .inr ⟨g, cap, rfl, h1, h2⟩
theorem OwnI.at (h : OwnI w base (.slice (some ⟨g, 0, none⟩) n cap) l hs) (i : Nat) (hi : i < l.length) :
    w.cell? ⟨g, i * 3, none⟩ = some (.string l[i].1.1) ∧ w.cell? ⟨g, i * 3 + 1, none⟩ = some (.string l[i].1.2) ∧ w.cell? ⟨g, i * 3 + 2, none⟩ = some (.slice (some ⟨(hs[i]'(by have := h.len; omega)).1, 0, none⟩) (hs[i]'(by have := h.len; omega)).2.1 (hs[i]'(by have := h.len; omega)).2.2) := by
  have hn : n = l.length := by
    rcases h.shape with ⟨e, _⟩ | ⟨g', c', e, _⟩
    · cases e
    · cases e; rfl
  subst hn
  obtain ⟨h1, h2, h3⟩ := itVals_get l hs h.len i hi
  have key : ∀ j u, (itVals l hs)[j]? = some u → w.cell? ⟨g, j, none⟩ = some u := fun j u hu => by
    have := h.row.cells (g := g) rfl j u hu
    rw [Addr.add_lit, Nat.zero_add] at this
    exact this
  exact ⟨key _ _ h1, key _ _ h2, key _ _ h3⟩
theorem OwnI.nlen (h : OwnI w base (.slice (some ⟨g, 0, none⟩) n cap) l hs) : n = l.length := by
  rcases h.shape with ⟨e, _⟩ | ⟨g', c', e, _⟩
  · cases e
  · cases e; rfl
theorem OwnI.frozen (h : OwnI w base (.slice (some ⟨g, 0, none⟩) n cap) l hs) (j : Nat) : w.frozen? ⟨g, j, none⟩ = false := by
  obtain rfl := h.nlen
  exact h.row.frozenAt j
theorem OwnI.sl {a : Option Addr} (h : OwnI w base (.slice a n cap) l hs) : SlI w a n l := by
  rcases h.shape with ⟨e, rfl, _⟩ | ⟨g, c, e, h1, h2⟩
  · cases e; exact sli_nil _ _
  · cases e
    refine ⟨rfl, by omega, h.sm, fun _ => ⟨g, 0, rfl, fun i hi => ?_⟩⟩
    obtain ⟨c1, c2, c3⟩ := h.at i hi
    rw [Nat.zero_add]
    have hp := h.paths i hi
    exact ⟨c1, c2, _, _, _, c3, hp.sl, hp.cases.1⟩

/-! ### all blocks but those of a slice of items are as they were -/
structure KeepB (v : Value) (hs : List Hd) (w w' : World) : Prop where
  os : w'.os = w.os
  tape : w'.tape = w.tape
  output : w'.output = w.output
  size : w.heap.size ≤ w'.heap.size
  block : ∀ j, j < w.heap.size → ¬ Blk v hs j → w'.heap[j]? = w.heap[j]?
theorem KeepB.refl (v : Value) (hs : List Hd) (w : World) : KeepB v hs w w := ⟨rfl, rfl, rfl, Nat.le_refl _, fun _ _ _ => rfl⟩
theorem KeepB.below {w'' : World} (h : KeepB v hs w w') (hb : Below w'.heap.size w' w'') : KeepB v hs w w'' :=
  ⟨hb.os.trans h.os, hb.tape.trans h.tape, hb.output.trans h.output, Nat.le_trans h.size hb.size, fun j hj hn => (hb.block j (Nat.lt_of_lt_of_le hj h.size)).trans (h.block j hj hn)⟩
theorem KeepB.grown {w'' : World} {k : Nat} (h : KeepB v hs w w') (hg : w'.grownBy w'' (some k)) (hk : Blk v hs k) : KeepB v hs w w'' :=
  ⟨hg.os.trans h.os, hg.tape.trans h.tape, hg.output.trans h.output, Nat.le_trans h.size hg.size, fun j hj hn => (hg.block j (Nat.lt_of_lt_of_le hj h.size) (fun e => by cases e; exact hn hk)).trans (h.block j hj hn)⟩
theorem KeepB.bel (h : KeepB v hs w w') (hb : base ≤ w.heap.size) (hB : ∀ k, Blk v hs k → base ≤ k) : Below base w w' :=
  ⟨h.os, h.tape, h.output, h.size, fun j hj => h.block j (Nat.lt_of_lt_of_le hj hb) (fun e => by have := hB j e; omega)⟩

/-! ### stores -/
theorem itVals_set0 (l : List It) (hs : List Hd) (h : hs.length = l.length) (i : Nat) (hi : i < l.length) (k : ByteArray) : (itVals l hs).set (i * 3) (.string k) = itVals (l.set i ((k, l[i].1.2), l[i].2)) hs := by
  induction l generalizing hs i with
  | nil => simp at hi
  | cons x l ih =>
    cases hs with
    | nil => simp at h
    | cons y hs =>
      have e : ∀ (x : It) l, itVals (x :: l) (y :: hs) = .string x.1.1 :: .string x.1.2 :: .slice (some ⟨y.1, 0, none⟩) y.2.1 y.2.2 :: itVals l hs := fun _ _ => rfl
      cases i with
      | zero => rw [e]; simp [e]
      | succ i =>
        rw [e, show (i + 1) * 3 = i * 3 + 1 + 1 + 1 by omega]
        simp only [List.set_cons_succ, List.getElem_cons_succ, e]
        rw [ih hs (by simpa using h) i (by simpa using hi)]
theorem itVals_set1 (l : List It) (hs : List Hd) (h : hs.length = l.length) (i : Nat) (hi : i < l.length) (k : ByteArray) : (itVals l hs).set (i * 3 + 1) (.string k) = itVals (l.set i ((l[i].1.1, k), l[i].2)) hs := by
  induction l generalizing hs i with
  | nil => simp at hi
  | cons x l ih =>
    cases hs with
    | nil => simp at h
    | cons y hs =>
      have e : ∀ (x : It) l, itVals (x :: l) (y :: hs) = .string x.1.1 :: .string x.1.2 :: .slice (some ⟨y.1, 0, none⟩) y.2.1 y.2.2 :: itVals l hs := fun _ _ => rfl
      cases i with
      | zero => rw [e]; simp [e]
      | succ i =>
        rw [e, show (i + 1) * 3 + 1 = i * 3 + 1 + 1 + 1 + 1 by omega]
        simp only [List.set_cons_succ, List.getElem_cons_succ, e]
        rw [ih hs (by simpa using h) i (by simpa using hi)]
theorem itVals_path (l : List It) (hs : List Hd) (i : Nat) (P : List ByteArray) (h : hs.length = l.length) (hi : i < l.length) : itVals (l.set i (l[i].1, P)) hs = itVals l hs := by
  induction l generalizing hs i with
  | nil => simp at hi
  | cons x l ih =>
    cases hs with
    | nil => simp at h
    | cons y hs =>
      have e : ∀ (x : It) l, itVals (x :: l) (y :: hs) = .string x.1.1 :: .string x.1.2 :: .slice (some ⟨y.1, 0, none⟩) y.2.1 y.2.2 :: itVals l hs := fun _ _ => rfl
      cases i with
      | zero => rfl
      | succ i =>
        simp only [List.set_cons_succ, List.getElem_cons_succ, e]
        rw [ih hs i (by simpa using h) (by simpa using hi)]
theorem mem_set_smallI {i : Nat} {x : It} (h : ∀ y ∈ l, smallI y) (hx : smallI x) : ∀ y ∈ l.set i x, smallI y := by
  intro y hy
  rcases List.mem_or_eq_of_mem_set hy with h1 | h1
  · exact h y h1
  · subst h1; exact hx
theorem paths_set (h : OwnI w base v l hs) (i : Nat) (hi : i < l.length) (q : Pr) : ∀ j (hj : j < (l.set i (q, l[i].2)).length), OwnS w base (hs[j]'(by have := h.len; simp at hj; omega)).1 (hs[j]'(by have := h.len; simp at hj; omega)).2.1 (hs[j]'(by have := h.len; simp at hj; omega)).2.2 (l.set i (q, l[i].2))[j].2 := by
  intro j hj
  have hjl : j < l.length := by simpa using hj
  have := h.paths j hjl
  by_cases e : i = j
  · subst e; rw [List.getElem_set_self]; exact this
  · rw [List.getElem_set_ne e]; exact this
theorem OwnI.setKey (h : OwnI w base (.slice (some ⟨g, 0, none⟩) n cap) l hs) (i : Nat) (hi : i < l.length) (k : ByteArray) (hk : k.size ≤ maxLen) :
    OwnI (w.setCell ⟨g, i * 3, none⟩ (.string k)) base (.slice (some ⟨g, 0, none⟩) n cap) (l.set i ((k, l[i].1.2), l[i].2)) hs ∧ w.grownBy (w.setCell ⟨g, i * 3, none⟩ (.string k)) (some g) := by
  obtain rfl := h.nlen
  have hs1 := h.row.stored (i * 3) (.string k)
  rw [itVals_set0 l hs h.len i hi k] at hs1
  have hsm := h.sm l[i] (List.getElem_mem hi)
  refine ⟨⟨by simpa using h.len, mem_set_smallI h.sm ⟨⟨hk, hsm.1.2⟩, hsm.2⟩, by simpa using hs1.1, fun j hj => ?_, h.apart, h.out⟩, hs1.2⟩
  refine (paths_set h i hi (k, l[i].1.2) j hj).grown hs1.2 (fun e => ?_)
  exact h.out g rfl _ (List.getElem_mem _) (by simpa using e)
theorem OwnI.setVal (h : OwnI w base (.slice (some ⟨g, 0, none⟩) n cap) l hs) (i : Nat) (hi : i < l.length) (k : ByteArray) (hk : k.size ≤ maxLen) :
    OwnI (w.setCell ⟨g, i * 3 + 1, none⟩ (.string k)) base (.slice (some ⟨g, 0, none⟩) n cap) (l.set i ((l[i].1.1, k), l[i].2)) hs ∧ w.grownBy (w.setCell ⟨g, i * 3 + 1, none⟩ (.string k)) (some g) := by
  obtain rfl := h.nlen
  have hs1 := h.row.stored (i * 3 + 1) (.string k)
  rw [itVals_set1 l hs h.len i hi k] at hs1
  have hsm := h.sm l[i] (List.getElem_mem hi)
  refine ⟨⟨by simpa using h.len, mem_set_smallI h.sm ⟨⟨hsm.1.1, hk⟩, hsm.2⟩, by simpa using hs1.1, fun j hj => ?_, h.apart, h.out⟩, hs1.2⟩
  refine (paths_set h i hi (l[i].1.1, k) j hj).grown hs1.2 (fun e => ?_)
  exact h.out g rfl _ (List.getElem_mem _) (by simpa using e)
theorem OwnI.setPath (h : OwnI w base v l hs) (i : Nat) (hi : i < l.length) (P : List ByteArray) (hP : OwnS w' base (hs[i]'(by have := h.len; omega)).1 (hs[i]'(by have := h.len; omega)).2.1 (hs[i]'(by have := h.len; omega)).2.2 P) (hg : w.grownBy w' (some (hs[i]'(by have := h.len; omega)).1)) :
    OwnI w' base v (l.set i (l[i].1, P)) hs := by
  have hlen := h.len
  have hsm := h.sm l[i] (List.getElem_mem hi)
  refine ⟨by simpa using h.len, mem_set_smallI h.sm ⟨hsm.1, hP.2.1⟩, ?_, fun j hj => ?_, h.apart, h.out⟩
  · rw [itVals_path l hs i P h.len hi, List.length_set]
    exact h.row.kept hg (by
      by_cases e : v.ownBlock = none
      · exact .inl e
      · right; intro e2; exact h.out _ e2 _ (List.getElem_mem _) rfl)
  · have hjl : j < l.length := by simpa using hj
    by_cases e : i = j
    · subst e; rw [List.getElem_set_self]; exact hP
    · rw [List.getElem_set_ne e]
      refine (h.paths j hjl).grown hg (fun e2 => ?_)
      have e3 : (hs[j]'(by omega)).1 = (hs[i]'(by omega)).1 := by simpa using e2
      rcases Nat.lt_or_gt_of_ne e with hlt | hlt
      · exact (List.pairwise_iff_getElem.1 h.apart i j (by omega) (by omega) hlt) e3.symm
      · exact (List.pairwise_iff_getElem.1 h.apart j i (by omega) (by omega) hlt) e3
/-- a row of items is no row of texts -/
theorem row_ne {e1 e2 : TypeId} {s1 s2 n1 n2 : Nat} {v1 v2 : Value} {x1 x2 : List Value} {k b1 b2 : Nat} (h1 : w.ownsRow b1 e1 s1 v1 n1 x1) (h2 : w.ownsRow b2 e2 s2 v2 n2 x2) (hk1 : v1.ownBlock = some k) (hk2 : v2.ownBlock = some k) (hne : e1 ≠ e2) : False := by
  rcases h1.2 with ⟨rfl, _⟩ | ⟨g, c, cur, rfl, _, hg, _⟩
  · cases hk1
  rcases h2.2 with ⟨rfl, _⟩ | ⟨g2, c2, cur2, rfl, _, hg2, _⟩
  · cases hk2
  cases hk1
  simp only [Value.ownBlock, Option.some.injEq] at hk2
  rw [hk2, hg] at hg2
  injection hg2 with hg2
  injection hg2 with _ he
  exact hne he
/-- one item more: the row grew, its path lies in a row of its own -/
theorem OwnI.snoc {w5 w7 : World} {p : Pr} {P : List ByteArray} {g5 n5 c5 : Nat} {v7 : Value} (h : OwnI w base v l hs) (hb : Below w.heap.size w w5) (hP : OwnS w5 base g5 n5 c5 P) (hg5 : w.heap.size ≤ g5) (hp : small p)
    (o : Obj) (hown : w7.ownsRow base 61 3 v7 (l.length + 1) (itVals l hs ++ [.string p.1, .string p.2, .slice (some ⟨g5, 0, none⟩) n5 c5])) (hgrow : (w5.alloc o).grownBy w7 v.ownBlock) :
    OwnI w7 base v7 (l ++ [(p, P)]) (hs ++ [(g5, n5, c5)]) := by
  have hlen := h.len
  have hg5' : g5 < w5.heap.size := hP.lt.2
  have keep : ∀ {g n c : Nat} {ss : List ByteArray}, OwnS w5 base g n c ss → some g ≠ v.ownBlock → OwnS w7 base g n c ss := fun hS hne => (ownS_of_block (w' := w5.alloc o) hS (by
    have := hS.lt.2
    show (w5.heap.push o)[_]? = _
    rw [Array.getElem?_push]; split
    · omega
    · rfl)).grown hgrow hne
  have hps : ∀ i (hi : i < (l ++ [(p, P)]).length), OwnS w7 base ((hs ++ [(g5, n5, c5)])[i]'(by simp at hi ⊢; omega)).1 ((hs ++ [(g5, n5, c5)])[i]'(by simp at hi ⊢; omega)).2.1 ((hs ++ [(g5, n5, c5)])[i]'(by simp at hi ⊢; omega)).2.2 (l ++ [(p, P)])[i].2 := by
    intro i hi
    by_cases e : i < l.length
    · rw [List.getElem_append_left e]
      simp only [List.getElem_append_left (show i < hs.length by omega)]
      refine keep ((h.paths i e).below hb) (fun e2 => ?_)
      exact h.out _ e2.symm _ (List.getElem_mem _) rfl
    · have : i = l.length := by simp at hi; omega
      subst this
      rw [List.getElem_append_right (Nat.le_refl _)]
      simp only [List.getElem_append_right (show hs.length ≤ l.length by omega)]
      simp only [hlen, Nat.sub_self, List.getElem_cons_zero]
      refine keep hP (fun e2 => ?_)
      have := (h.row.lt g5 e2.symm).2
      omega
  refine ⟨by simp [hlen], fun x hx => ?_, ?_, hps, ?_, fun k hk y hy e => ?_⟩
  · rcases List.mem_append.1 hx with h1 | h1
    · exact h.sm x h1
    · rw [List.mem_singleton.1 h1]; exact ⟨hp, hP.2.1⟩
  · rw [itVals_snoc l hs hlen, List.length_append]; exact hown
  · rw [List.pairwise_append]
    refine ⟨h.apart, List.pairwise_singleton _ _, fun a ha y hy => ?_⟩
    rw [List.mem_singleton.1 hy]
    have := (h.lt a.1 (.inr ⟨a, ha, rfl⟩)).2
    show a.1 ≠ g5
    omega
  · obtain ⟨i, hi, rfl⟩ := List.getElem_of_mem hy
    have hS := hps i (by simp at hi ⊢; omega)
    exact row_ne hown hS.2.2 hk (by rw [← e]; rfl) (by decide)
end
end Go.Proofs.YtdebbgodhpcijaaGreatDoor.range
