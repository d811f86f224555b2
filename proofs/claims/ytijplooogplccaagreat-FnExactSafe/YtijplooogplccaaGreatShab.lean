/- PairRow OrdRow OrdOwn RowZ CoMath -/
import Derived.Test.YtijplooogplccaaGreatShaa
import Derived.OwnWalk
set_option linter.unusedVariables false
set_option linter.unusedSimpArgs false
namespace Go.Proofs.YtijplooogplccaaGreat
namespace pairs
open Go Go.RowKit base
def small (p : Pr) : Prop := p.1.size ≤ maxLen ∧ p.2.size ≤ maxLen
def pairVals (l : List Pr) : List Value := l.flatMap fun p => [.string p.1, .string p.2]
theorem pairVals_cons (p : Pr) (l : List Pr) : pairVals (p :: l) = .string p.1 :: .string p.2 :: pairVals l := rfl
theorem pairVals_append (a b : List Pr) : pairVals (a ++ b) = pairVals a ++ pairVals b := by simp [pairVals]
theorem pairVals_length (l : List Pr) : (pairVals l).length = l.length * 2 := by
 induction l with
 | nil => rfl
 | cons p l ih => rw [pairVals_cons]; simp [ih]; omega
theorem pairVals_key (l : List Pr) (i : Nat) (h : i < l.length) : (pairVals l)[i * 2]? = some (.string l[i].1) := by
 induction l generalizing i with
 | nil => simp at h
 | cons p l ih =>
  cases i with
  | zero => rfl
  | succ i => rw [pairVals_cons, show (i + 1) * 2 = i * 2 + 1 + 1 by omega]; simpa using ih i (by simpa using h)
theorem pairVals_val (l : List Pr) (i : Nat) (h : i < l.length) : (pairVals l)[i * 2 + 1]? = some (.string l[i].2) := by
 induction l generalizing i with
 | nil => simp at h
 | cons p l ih =>
  cases i with
  | zero => rfl
  | succ i => rw [pairVals_cons, show (i + 1) * 2 + 1 = i * 2 + 1 + 1 + 1 by omega]; simpa using ih i (by simpa using h)
theorem pairVals_oneCell (l : List Pr) : ∀ v ∈ pairVals l, v.oneCell' = true := by
 intro v hv
 obtain ⟨p, _, hp⟩ := List.mem_flatMap.1 hv
 simp at hp
 rcases hp with rfl | rfl <;> rfl
theorem pairVals_setKey (l : List Pr) (i : Nat) (h : i < l.length) (k : ByteArray) : (pairVals l).set (i * 2) (.string k) = pairVals (l.set i (k, l[i].2)) := by
 induction l generalizing i with
 | nil => simp at h
 | cons p l ih =>
  cases i with
  | zero => rfl
  | succ i => rw [pairVals_cons, show (i + 1) * 2 = i * 2 + 1 + 1 by omega]; simp only [List.set_cons_succ, pairVals_cons, List.getElem_cons_succ]; rw [ih i (by simpa using h)]
theorem pairVals_setVal (l : List Pr) (i : Nat) (h : i < l.length) (v : ByteArray) : (pairVals l).set (i * 2 + 1) (.string v) = pairVals (l.set i (l[i].1, v)) := by
 induction l generalizing i with
 | nil => simp at h
 | cons p l ih =>
  cases i with
  | zero => rfl
  | succ i => rw [pairVals_cons, show (i + 1) * 2 + 1 = i * 2 + 1 + 1 + 1 by omega]; simp only [List.set_cons_succ, pairVals_cons, List.getElem_cons_succ]; rw [ih i (by simpa using h)]
/-! ### slices of pairs that are read -/
def CellsP (w : World) (b off : Nat) (l : List Pr) : Prop := ∀ i (h : i < l.length), w.cell? ⟨b, off + i * 2, none⟩ = some (.string l[i].1) ∧ w.cell? ⟨b, off + i * 2 + 1, none⟩ = some (.string l[i].2)
def SlP (w : World) (a : Option Addr) (len : Nat) (l : List Pr) : Prop :=
 l.length = len ∧ len ≤ maxLen ∧ (∀ p ∈ l, small p) ∧ (0 < len → ∃ b off, a = some ⟨b, off, none⟩ ∧ CellsP w b off l)
theorem slp_nil (w : World) (a : Option Addr) : SlP w a 0 [] := ⟨rfl, Nat.zero_le _, (fun _ h => absurd h List.not_mem_nil), fun h => absurd h (by omega)⟩
section
variable {w w' : World} {a : Option Addr} {b off len base base' g n cap : Nat} {l : List Pr} {row : Option Nat}
theorem SlP.cells (h : SlP w (some ⟨b, off, none⟩) len l) : CellsP w b off l := by
 intro i hi
 obtain ⟨b', off', e, hc⟩ := h.2.2.2 (by have := h.1; omega)
 simp only [Option.some.injEq, Addr.mk.injEq, and_true] at e
 obtain ⟨rfl, rfl⟩ := e
 exact hc i hi
theorem SlP.lt (h : SlP w (some ⟨b, off, none⟩) len l) (h0 : 0 < len) : b < w.heap.size :=
 World.block_lt_of_cell? w _ (h.cells 0 (by have := h.1; omega)).1
theorem CellsP.keep (h : CellsP w b off l) (hk : ∀ o v, w.cell? ⟨b, o, none⟩ = some v → w'.cell? ⟨b, o, none⟩ = some v) : CellsP w' b off l :=
 fun i hi => ⟨hk _ _ (h i hi).1, hk _ _ (h i hi).2⟩
theorem SlP.below (h : SlP w a len l) (hb : Below w.heap.size w w') : SlP w' a len l := by
 obtain ⟨h1, h2, h4, h3⟩ := h
 refine ⟨h1, h2, h4, fun h0 => ?_⟩
 obtain ⟨b, off, rfl, hc⟩ := h3 h0
 exact ⟨b, off, rfl, hc.keep fun o v hv => (hb.cell (p := ⟨b, o, none⟩) (World.block_lt_of_cell? w _ hv)).trans hv⟩
theorem SlP.grown (h : SlP w (some ⟨b, off, none⟩) len l) (hg : w.grownBy w' row) (hne : some b ≠ row) : SlP w' (some ⟨b, off, none⟩) len l :=
 ⟨h.1, h.2.1, h.2.2.1, fun _ => ⟨b, off, rfl, h.cells.keep fun o v hv => hg.cell hv hne⟩⟩
/-! ### rows of pairs that a call made -/
def OwnP (w : World) (base g n cap : Nat) (l : List Pr) : Prop := l.length = n ∧ (∀ p ∈ l, small p) ∧ w.ownsRow base 151 2 (.slice (some ⟨g, 0, none⟩) n cap) n (pairVals l)
theorem OwnP.lt (h : OwnP w base g n cap l) : base ≤ g ∧ g < w.heap.size := h.2.2.lt g rfl
theorem OwnP.cases (h : OwnP w base g n cap l) : n ≤ cap ∧ cap ≤ maxLen := by
 rcases h.2.2.2 with ⟨h', _⟩ | ⟨g', cap', cur, h', _, hg, h1, h2, _⟩
 · simp at h'
 · simp only [Value.slice.injEq, Option.some.injEq, Addr.mk.injEq, and_true, true_and] at h'
   obtain ⟨rfl, rfl⟩ := h'
   exact ⟨h1, h2⟩
theorem OwnP.mono (h : OwnP w base g n cap l) (hb : base' ≤ base) : OwnP w base' g n cap l := by
 refine ⟨h.1, h.2.1, h.2.2.1, ?_⟩
 rcases h.2.2.2 with h' | ⟨g', cap', cur, h', h0, r⟩
 · exact .inl h'
 · exact .inr ⟨g', cap', cur, h', by omega, r⟩
theorem OwnP.cell (h : OwnP w base g n cap l) : CellsP w g 0 l := by
 intro i hi
 have hl := h.1
 have k1 := h.2.2.cellAt (i * 2) (by omega)
 have k2 := h.2.2.cellAt (i * 2 + 1) (by omega)
 rw [pairVals_key l i hi] at k1
 rw [pairVals_val l i hi] at k2
 rw [Nat.zero_add]
 exact ⟨k1, k2⟩
theorem OwnP.key (h : OwnP w base g n cap l) (i : Nat) (hi : i < l.length) : w.cell? ⟨g, i * 2, none⟩ = some (.string l[i].1) := by
 have := (h.cell i hi).1; rwa [Nat.zero_add] at this
theorem OwnP.val (h : OwnP w base g n cap l) (i : Nat) (hi : i < l.length) : w.cell? ⟨g, i * 2 + 1, none⟩ = some (.string l[i].2) := by
 have := (h.cell i hi).2; rwa [Nat.zero_add] at this
theorem OwnP.frozen (h : OwnP w base g n cap l) (i : Nat) : w.frozen? ⟨g, i, none⟩ = false := h.2.2.frozenAt i
theorem OwnP.sl (h : OwnP w base g n cap l) : SlP w (some ⟨g, 0, none⟩) n l :=
 ⟨h.1, by have := h.cases; omega, h.2.1, fun _ => ⟨g, 0, rfl, h.cell⟩⟩
theorem OwnP.grown (h : OwnP w base g n cap l) (hg : w.grownBy w' row) (hne : some g ≠ row) : OwnP w' base g n cap l :=
 ⟨h.1, h.2.1, h.2.2.kept hg (.inr hne)⟩
theorem OwnP.below (h : OwnP w base g n cap l) (hb : Below w.heap.size w w') : OwnP w' base g n cap l :=
 ⟨h.1, h.2.1, h.2.2.kept (row := none) ⟨hb.os, hb.tape, hb.output, hb.size, fun k hk _ => hb.block k hk⟩ (.inr (by simp [Value.ownBlock]))⟩
theorem mem_set_small {i : Nat} {p : Pr} (h : ∀ q ∈ l, small q) (hp : small p) : ∀ q ∈ l.set i p, small q := by
 intro q hq
 rcases List.mem_or_eq_of_mem_set hq with h1 | h1
 · exact h q h1
 · subst h1; exact hp
theorem OwnP.setKey (h : OwnP w base g n cap l) (i : Nat) (hi : i < l.length) (k : ByteArray) (hk : k.size ≤ maxLen) :
 OwnP (w.setCell ⟨g, i * 2, none⟩ (.string k)) base g n cap (l.set i (k, l[i].2)) ∧ w.grownBy (w.setCell ⟨g, i * 2, none⟩ (.string k)) (some g) := by
 have hs := h.2.2.stored (i * 2) (.string k)
 rw [pairVals_setKey l i hi] at hs
 exact ⟨⟨by simpa using h.1, mem_set_small h.2.1 ⟨hk, (h.2.1 _ (List.getElem_mem hi)).2⟩, hs.1⟩, hs.2⟩
theorem OwnP.setVal (h : OwnP w base g n cap l) (i : Nat) (hi : i < l.length) (v : ByteArray) (hv : v.size ≤ maxLen) :
 OwnP (w.setCell ⟨g, i * 2 + 1, none⟩ (.string v)) base g n cap (l.set i (l[i].1, v)) ∧ w.grownBy (w.setCell ⟨g, i * 2 + 1, none⟩ (.string v)) (some g) := by
 have hs := h.2.2.stored (i * 2 + 1) (.string v)
 rw [pairVals_setVal l i hi] at hs
 exact ⟨⟨by simpa using h.1, mem_set_small h.2.1 ⟨(h.2.1 _ (List.getElem_mem hi)).1, hv⟩, hs.1⟩, hs.2⟩
theorem OwnP.setBoth (h : OwnP w base g n cap l) (i : Nat) (hi : i < l.length) (k v : ByteArray) (hk : k.size ≤ maxLen) (hv : v.size ≤ maxLen) :
 OwnP ((w.setCell ⟨g, i * 2, none⟩ (.string k)).setCell ⟨g, i * 2 + 1, none⟩ (.string v)) base g n cap (l.set i (k, v)) ∧ w.grownBy ((w.setCell ⟨g, i * 2, none⟩ (.string k)).setCell ⟨g, i * 2 + 1, none⟩ (.string v)) (some g) := by
 have h1 := h.setKey i hi k hk
 have h2 := h1.1.setVal i (by simpa using hi) v hv
 simp only [List.getElem_set_self, List.set_set] at h2
 exact ⟨h2.1, grownBy_trans h1.2 h2.2⟩
theorem ownP_val {v' : Value} (hl : l.length = n) (hs : ∀ p ∈ l, small p) (h0 : ¬ v' = .slice none 0 0)
 (h : w'.ownsRow base 151 2 v' n (pairVals l)) : ∃ g' cap', v' = .slice (some ⟨g', 0, none⟩) n cap' ∧ OwnP w' base g' n cap' l := by
 rcases h.2 with ⟨h2, _⟩ | ⟨g', cap', cur, hv, _⟩
 · exact absurd h2 h0
 · subst hv
   exact ⟨g', cap', rfl, hl, hs, h⟩
theorem ownP_made (w : World) (base : Nat) (hb : base ≤ w.heap.size) : OwnP (w.alloc (.cells #[] 151)) base w.heap.size 0 0 [] :=
 ⟨rfl, fun s h => absurd h List.not_mem_nil, World.ownsRow_made w #[] 0 hb (Nat.zero_le _) rfl⟩
theorem cells_pairs (h : CellsP w b off l) : ∀ j v, (pairVals l)[j]? = some v → w.cell? ((⟨b, off, none⟩ : Addr).add j) = some v := by
 intro j v hj
 have hjl : j < l.length * 2 := by have := (List.getElem?_eq_some_iff.1 hj).1; rwa [pairVals_length] at this
 rw [Addr.add_lit]
 have hm : j = (j / 2) * 2 ∨ j = (j / 2) * 2 + 1 := by omega
 rcases hm with e | e
 · rw [e, pairVals_key l (j / 2) (by omega)] at hj
   rw [e, ← hj]; exact (h (j / 2) (by omega)).1
 · rw [e, pairVals_val l (j / 2) (by omega)] at hj
   rw [e, ← hj]; exact (h (j / 2) (by omega)).2
end
theorem infoP : (Tryz.prog.info? 151).map (fun i => (i.zero, i.size, i.bytes)) = some (some (.agg #[.string ⟨#[]⟩, .string ⟨#[]⟩]), 2, 32) := by kernel_rfl
end pairs
namespace ords
open Go Go.RowKit base pairs
def smallO (o : Od) : Prop := (Lit.int .i64 o.1).wf = true ∧ o.2.1.size ≤ maxLen ∧ o.2.2.size ≤ maxLen
def ordVals (l : List Od) : List Value := l.flatMap fun o => [.int .i64 o.1, .string o.2.1, .string o.2.2]
theorem ordVals_cons (o : Od) (l : List Od) : ordVals (o :: l) = .int .i64 o.1 :: .string o.2.1 :: .string o.2.2 :: ordVals l := rfl
theorem ordVals_append (a b : List Od) : ordVals (a ++ b) = ordVals a ++ ordVals b := by simp [ordVals]
theorem ordVals_length (l : List Od) : (ordVals l).length = l.length * 3 := by
 induction l with
 | nil => rfl
 | cons o l ih => rw [ordVals_cons]; simp [ih]; omega
theorem ordVals_at (l : List Od) (i : Nat) (h : i < l.length) : (ordVals l)[i * 3]? = some (.int .i64 l[i].1) ∧ (ordVals l)[i * 3 + 1]? = some (.string l[i].2.1) ∧ (ordVals l)[i * 3 + 2]? = some (.string l[i].2.2) := by
 induction l generalizing i with
 | nil => simp at h
 | cons p l ih =>
  cases i with
  | zero => exact ⟨rfl, rfl, rfl⟩
  | succ i =>
   rw [ordVals_cons, show (i + 1) * 3 = i * 3 + 1 + 1 + 1 by omega, show i * 3 + 1 + 1 + 1 + 1 = (i * 3 + 1) + 1 + 1 + 1 by omega, show i * 3 + 1 + 1 + 1 + 2 = (i * 3 + 2) + 1 + 1 + 1 by omega]
   simpa using ih i (by simpa using h)
theorem ordVals_oneCell (l : List Od) : ∀ v ∈ ordVals l, v.oneCell' = true := by
 intro v hv
 obtain ⟨p, _, hp⟩ := List.mem_flatMap.1 hv
 simp at hp
 rcases hp with rfl | rfl | rfl <;> rfl
theorem ordVals_setKind (l : List Od) (i : Nat) (h : i < l.length) (z : Int) : (ordVals l).set (i * 3) (.int .i64 z) = ordVals (l.set i (z, l[i].2)) := by
 induction l generalizing i with
 | nil => simp at h
 | cons p l ih =>
  cases i with
  | zero => rfl
  | succ i => rw [ordVals_cons, show (i + 1) * 3 = i * 3 + 1 + 1 + 1 by omega]; simp only [List.set_cons_succ, ordVals_cons, List.getElem_cons_succ]; rw [ih i (by simpa using h)]
theorem ordVals_setKey (l : List Od) (i : Nat) (h : i < l.length) (k : ByteArray) : (ordVals l).set (i * 3 + 1) (.string k) = ordVals (l.set i (l[i].1, k, l[i].2.2)) := by
 induction l generalizing i with
 | nil => simp at h
 | cons p l ih =>
  cases i with
  | zero => rfl
  | succ i => rw [ordVals_cons, show (i + 1) * 3 + 1 = i * 3 + 1 + 1 + 1 + 1 by omega]; simp only [List.set_cons_succ, ordVals_cons, List.getElem_cons_succ]; rw [ih i (by simpa using h)]
theorem ordVals_setVal (l : List Od) (i : Nat) (h : i < l.length) (v : ByteArray) : (ordVals l).set (i * 3 + 2) (.string v) = ordVals (l.set i (l[i].1, l[i].2.1, v)) := by
 induction l generalizing i with
 | nil => simp at h
 | cons p l ih =>
  cases i with
  | zero => rfl
  | succ i => rw [ordVals_cons, show (i + 1) * 3 + 2 = i * 3 + 2 + 1 + 1 + 1 by omega]; simp only [List.set_cons_succ, ordVals_cons, List.getElem_cons_succ]; rw [ih i (by simpa using h)]
/-! ### slices of orders that are read -/
def CellsO (w : World) (b off : Nat) (l : List Od) : Prop := ∀ i (h : i < l.length), w.cell? ⟨b, off + i * 3, none⟩ = some (.int .i64 l[i].1) ∧ w.cell? ⟨b, off + i * 3 + 1, none⟩ = some (.string l[i].2.1) ∧ w.cell? ⟨b, off + i * 3 + 2, none⟩ = some (.string l[i].2.2)
def SlO (w : World) (a : Option Addr) (len : Nat) (l : List Od) : Prop :=
 l.length = len ∧ len ≤ maxLen ∧ (∀ p ∈ l, smallO p) ∧ (0 < len → ∃ b off, a = some ⟨b, off, none⟩ ∧ CellsO w b off l)
theorem slo_nil (w : World) (a : Option Addr) : SlO w a 0 [] := ⟨rfl, Nat.zero_le _, (fun _ h => absurd h List.not_mem_nil), fun h => absurd h (by omega)⟩
section
variable {w w' : World} {a : Option Addr} {b off len base base' g n cap : Nat} {l : List Od} {row : Option Nat}
theorem SlO.cells (h : SlO w (some ⟨b, off, none⟩) len l) : CellsO w b off l := by
 intro i hi
 obtain ⟨b', off', e, hc⟩ := h.2.2.2 (by have := h.1; omega)
 simp only [Option.some.injEq, Addr.mk.injEq, and_true] at e
 obtain ⟨rfl, rfl⟩ := e
 exact hc i hi
theorem SlO.lt (h : SlO w (some ⟨b, off, none⟩) len l) (h0 : 0 < len) : b < w.heap.size :=
 World.block_lt_of_cell? w _ (h.cells 0 (by have := h.1; omega)).1
theorem CellsO.keep (h : CellsO w b off l) (hk : ∀ o v, w.cell? ⟨b, o, none⟩ = some v → w'.cell? ⟨b, o, none⟩ = some v) : CellsO w' b off l :=
 fun i hi => ⟨hk _ _ (h i hi).1, hk _ _ (h i hi).2.1, hk _ _ (h i hi).2.2⟩
theorem SlO.below (h : SlO w a len l) (hb : Below w.heap.size w w') : SlO w' a len l := by
 obtain ⟨h1, h2, h4, h3⟩ := h
 refine ⟨h1, h2, h4, fun h0 => ?_⟩
 obtain ⟨b, off, rfl, hc⟩ := h3 h0
 exact ⟨b, off, rfl, hc.keep fun o v hv => (hb.cell (p := ⟨b, o, none⟩) (World.block_lt_of_cell? w _ hv)).trans hv⟩
theorem SlO.grown (h : SlO w (some ⟨b, off, none⟩) len l) (hg : w.grownBy w' row) (hne : some b ≠ row) : SlO w' (some ⟨b, off, none⟩) len l :=
 ⟨h.1, h.2.1, h.2.2.1, fun _ => ⟨b, off, rfl, h.cells.keep fun o v hv => hg.cell hv hne⟩⟩
/-! ### rows of orders that a call made -/
def OwnO (w : World) (base g n cap : Nat) (l : List Od) : Prop := l.length = n ∧ (∀ p ∈ l, smallO p) ∧ w.ownsRow base 126 3 (.slice (some ⟨g, 0, none⟩) n cap) n (ordVals l)
theorem OwnO.lt (h : OwnO w base g n cap l) : base ≤ g ∧ g < w.heap.size := h.2.2.lt g rfl
theorem OwnO.cases (h : OwnO w base g n cap l) : n ≤ cap ∧ cap ≤ maxLen := by
 rcases h.2.2.2 with ⟨h', _⟩ | ⟨g', cap', cur, h', _, hg, h1, h2, _⟩
 · simp at h'
 · simp only [Value.slice.injEq, Option.some.injEq, Addr.mk.injEq, and_true, true_and] at h'
   obtain ⟨rfl, rfl⟩ := h'
   exact ⟨h1, h2⟩
theorem OwnO.mono (h : OwnO w base g n cap l) (hb : base' ≤ base) : OwnO w base' g n cap l := by
 refine ⟨h.1, h.2.1, h.2.2.1, ?_⟩
 rcases h.2.2.2 with h' | ⟨g', cap', cur, h', h0, r⟩
 · exact .inl h'
 · exact .inr ⟨g', cap', cur, h', by omega, r⟩
theorem OwnO.cell (h : OwnO w base g n cap l) : CellsO w g 0 l := by
 intro i hi
 have hl := h.1
 have k0 := h.2.2.cellAt (i * 3) (by omega)
 have k1 := h.2.2.cellAt (i * 3 + 1) (by omega)
 have k2 := h.2.2.cellAt (i * 3 + 2) (by omega)
 obtain ⟨e0, e1, e2⟩ := ordVals_at l i hi
 rw [e0] at k0
 rw [e1] at k1
 rw [e2] at k2
 rw [Nat.zero_add]
 exact ⟨k0, k1, k2⟩
theorem OwnO.kind (h : OwnO w base g n cap l) (i : Nat) (hi : i < l.length) : w.cell? ⟨g, i * 3, none⟩ = some (.int .i64 l[i].1) := by
 have := (h.cell i hi).1; rwa [Nat.zero_add] at this
theorem OwnO.key (h : OwnO w base g n cap l) (i : Nat) (hi : i < l.length) : w.cell? ⟨g, i * 3 + 1, none⟩ = some (.string l[i].2.1) := by
 have := (h.cell i hi).2.1; rwa [Nat.zero_add] at this
theorem OwnO.val (h : OwnO w base g n cap l) (i : Nat) (hi : i < l.length) : w.cell? ⟨g, i * 3 + 2, none⟩ = some (.string l[i].2.2) := by
 have := (h.cell i hi).2.2; rwa [Nat.zero_add] at this
theorem OwnO.frozen (h : OwnO w base g n cap l) (i : Nat) : w.frozen? ⟨g, i, none⟩ = false := h.2.2.frozenAt i
theorem OwnO.sl (h : OwnO w base g n cap l) : SlO w (some ⟨g, 0, none⟩) n l :=
 ⟨h.1, by have := h.cases; omega, h.2.1, fun _ => ⟨g, 0, rfl, h.cell⟩⟩
theorem OwnO.grown (h : OwnO w base g n cap l) (hg : w.grownBy w' row) (hne : some g ≠ row) : OwnO w' base g n cap l :=
 ⟨h.1, h.2.1, h.2.2.kept hg (.inr hne)⟩
theorem OwnO.below (h : OwnO w base g n cap l) (hb : Below w.heap.size w w') : OwnO w' base g n cap l :=
 ⟨h.1, h.2.1, h.2.2.kept (row := none) ⟨hb.os, hb.tape, hb.output, hb.size, fun k hk _ => hb.block k hk⟩ (.inr (by simp [Value.ownBlock]))⟩
theorem mem_set_smallO {i : Nat} {p : Od} (h : ∀ q ∈ l, smallO q) (hp : smallO p) : ∀ q ∈ l.set i p, smallO q := by
 intro q hq
 rcases List.mem_or_eq_of_mem_set hq with h1 | h1
 · exact h q h1
 · subst h1; exact hp
theorem OwnO.setKind (h : OwnO w base g n cap l) (i : Nat) (hi : i < l.length) (z : Int) (hz : (Lit.int .i64 z).wf = true) :
 OwnO (w.setCell ⟨g, i * 3, none⟩ (.int .i64 z)) base g n cap (l.set i (z, l[i].2)) ∧ w.grownBy (w.setCell ⟨g, i * 3, none⟩ (.int .i64 z)) (some g) := by
 have hs := h.2.2.stored (i * 3) (.int .i64 z)
 rw [ordVals_setKind l i hi] at hs
 exact ⟨⟨by simpa using h.1, mem_set_smallO h.2.1 ⟨hz, (h.2.1 _ (List.getElem_mem hi)).2⟩, hs.1⟩, hs.2⟩
theorem OwnO.setKey (h : OwnO w base g n cap l) (i : Nat) (hi : i < l.length) (k : ByteArray) (hk : k.size ≤ maxLen) :
 OwnO (w.setCell ⟨g, i * 3 + 1, none⟩ (.string k)) base g n cap (l.set i (l[i].1, k, l[i].2.2)) ∧ w.grownBy (w.setCell ⟨g, i * 3 + 1, none⟩ (.string k)) (some g) := by
 have hs := h.2.2.stored (i * 3 + 1) (.string k)
 rw [ordVals_setKey l i hi] at hs
 exact ⟨⟨by simpa using h.1, mem_set_smallO h.2.1 ⟨(h.2.1 _ (List.getElem_mem hi)).1, hk, (h.2.1 _ (List.getElem_mem hi)).2.2⟩, hs.1⟩, hs.2⟩
theorem OwnO.setVal (h : OwnO w base g n cap l) (i : Nat) (hi : i < l.length) (v : ByteArray) (hv : v.size ≤ maxLen) :
 OwnO (w.setCell ⟨g, i * 3 + 2, none⟩ (.string v)) base g n cap (l.set i (l[i].1, l[i].2.1, v)) ∧ w.grownBy (w.setCell ⟨g, i * 3 + 2, none⟩ (.string v)) (some g) := by
 have hs := h.2.2.stored (i * 3 + 2) (.string v)
 rw [ordVals_setVal l i hi] at hs
 exact ⟨⟨by simpa using h.1, mem_set_smallO h.2.1 ⟨(h.2.1 _ (List.getElem_mem hi)).1, (h.2.1 _ (List.getElem_mem hi)).2.1, hv⟩, hs.1⟩, hs.2⟩
theorem OwnO.setAll (h : OwnO w base g n cap l) (i : Nat) (hi : i < l.length) (z : Int) (k v : ByteArray) (hz : (Lit.int .i64 z).wf = true) (hk : k.size ≤ maxLen) (hv : v.size ≤ maxLen) :
 OwnO (((w.setCell ⟨g, i * 3, none⟩ (.int .i64 z)).setCell ⟨g, i * 3 + 1, none⟩ (.string k)).setCell ⟨g, i * 3 + 2, none⟩ (.string v)) base g n cap (l.set i (z, k, v)) ∧ w.grownBy (((w.setCell ⟨g, i * 3, none⟩ (.int .i64 z)).setCell ⟨g, i * 3 + 1, none⟩ (.string k)).setCell ⟨g, i * 3 + 2, none⟩ (.string v)) (some g) := by
 have h0 := h.setKind i hi z hz
 have h1 := h0.1.setKey i (by simpa using hi) k hk
 have h2 := h1.1.setVal i (by simpa using hi) v hv
 simp only [List.getElem_set_self, List.set_set] at h2
 simp only [List.getElem_set_self, List.set_set] at h1
 exact ⟨h2.1, grownBy_trans (grownBy_trans h0.2 h1.2) h2.2⟩
theorem ownO_val {v' : Value} (hl : l.length = n) (hs : ∀ p ∈ l, smallO p) (h0 : ¬ v' = .slice none 0 0)
 (h : w'.ownsRow base 126 3 v' n (ordVals l)) : ∃ g' cap', v' = .slice (some ⟨g', 0, none⟩) n cap' ∧ OwnO w' base g' n cap' l := by
 rcases h.2 with ⟨h2, _⟩ | ⟨g', cap', cur, hv, _⟩
 · exact absurd h2 h0
 · subst hv
   exact ⟨g', cap', rfl, hl, hs, h⟩
theorem ownO_made (w : World) (base : Nat) (hb : base ≤ w.heap.size) : OwnO (w.alloc (.cells #[] 126)) base w.heap.size 0 0 [] :=
 ⟨rfl, fun s h => absurd h List.not_mem_nil, World.ownsRow_made w #[] 0 hb (Nat.zero_le _) rfl⟩
theorem cells_ords (h : CellsO w b off l) : ∀ j v, (ordVals l)[j]? = some v → w.cell? ((⟨b, off, none⟩ : Addr).add j) = some v := by
 intro j v hj
 have hjl : j < l.length * 3 := by have := (List.getElem?_eq_some_iff.1 hj).1; rwa [ordVals_length] at this
 rw [Addr.add_lit]
 obtain ⟨e0, e1, e2⟩ := ordVals_at l (j / 3) (by omega)
 have hc := h (j / 3) (by omega)
 have hm : j = (j / 3) * 3 ∨ j = (j / 3) * 3 + 1 ∨ j = (j / 3) * 3 + 2 := by omega
 rcases hm with e | e | e
 · rw [e, e0] at hj
   rw [e, ← hj]; exact hc.1
 · rw [e, e1] at hj
   rw [e, ← hj]; exact hc.2.1
 · rw [e, e2] at hj
   rw [e, ← hj]; exact hc.2.2
end
theorem infoO : (Tryz.prog.info? 126).map (fun i => (i.zero, i.size, i.bytes)) = some (some (.agg #[.int .i64 0, .string ⟨#[]⟩, .string ⟨#[]⟩]), 3, 40) := by kernel_rfl
end ords
namespace wds
open Go Go.RowKit base pairs ords
/-! ### a slice of orders of the call's own, or nil -/
def OwnV (w : World) (base : Nat) (v : Value) (l : List Od) : Prop := (∀ p ∈ l, smallO p) ∧ w.ownsRow base 126 3 v l.length (ordVals l)
section
variable {w w' : World} {base base' : Nat} {v : Value} {l : List Od} {row : Option Nat}
theorem ownV_nil (w : World) (base : Nat) : OwnV w base (.slice none 0 0) [] := ⟨fun _ h => absurd h List.not_mem_nil, World.ownsRow_nil _ _ _ _⟩
theorem ownV_of {g n cap : Nat} (h : OwnO w base g n cap l) : OwnV w base (.slice (some ⟨g, 0, none⟩) n cap) l := ⟨h.2.1, by rw [h.1]; exact h.2.2⟩
theorem OwnV.shape (h : OwnV w base v l) : (v = .slice none 0 0 ∧ l = []) ∨ ∃ g cap, v = .slice (some ⟨g, 0, none⟩) l.length cap ∧ OwnO w base g l.length cap l := by
 rcases h.2.2 with ⟨rfl, h0⟩ | ⟨g, cap, cur, rfl, _⟩
 · exact .inl ⟨rfl, List.eq_nil_of_length_eq_zero h0⟩
 · exact .inr ⟨g, cap, rfl, rfl, h.1, h.2⟩
theorem OwnV.lt (h : OwnV w base v l) (k : Nat) (hk : v.ownBlock = some k) : base ≤ k ∧ k < w.heap.size := h.2.lt k hk
theorem OwnV.of_block (h : OwnV w base v l) (hk : ∀ k, v.ownBlock = some k → w'.heap[k]? = w.heap[k]?) : OwnV w' base v l := by
 refine ⟨h.1, h.2.1, ?_⟩
 rcases h.2.2 with h' | ⟨g, cap, cur, rfl, h0, hg, r⟩
 · exact .inl h'
 · exact .inr ⟨g, cap, cur, rfl, h0, (hk g rfl).trans hg, r⟩
theorem OwnV.below (h : OwnV w base v l) (hb : Below w.heap.size w w') : OwnV w' base v l := h.of_block fun k hk => hb.block k (h.lt k hk).2
theorem OwnV.grown (h : OwnV w base v l) (hg : w.grownBy w' row) (hne : v.ownBlock = none ∨ v.ownBlock ≠ row) : OwnV w' base v l :=
 h.of_block fun k hk => hg.block k (h.lt k hk).2 (fun e => by
  rcases hne with h1 | h1
  · rw [hk] at h1; cases h1
  · exact h1 (hk.trans e))
theorem OwnV.mono (h : OwnV w base v l) (hb : base' ≤ base) : OwnV w base' v l := by
 refine ⟨h.1, h.2.1, ?_⟩
 rcases h.2.2 with h' | ⟨g, cap, cur, rfl, h0, r⟩
 · exact .inl h'
 · exact .inr ⟨g, cap, cur, rfl, by omega, r⟩
theorem OwnV.sl (h : OwnV w base v l) : ∃ a cap, v = .slice a l.length cap ∧ SlO w a l.length l ∧ l.length ≤ cap := by
 rcases h.shape with ⟨rfl, rfl⟩ | ⟨g, cap, rfl, hO⟩
 · exact ⟨none, 0, rfl, slo_nil _ _, Nat.le_refl _⟩
 · exact ⟨_, cap, rfl, hO.sl, hO.cases.1⟩
theorem OwnV.one (h : OwnV w base v l) : v.oneCell' = true := by
 rcases h.shape with ⟨rfl, _⟩ | ⟨g, cap, rfl, _⟩ <;> rfl
end
end wds
namespace ords
open Go Go.RowKit base pairs
theorem infoZ : (Tryz.prog.info? 3).map (fun i => (i.zero, i.size, i.bytes)) = some (some (.int .i64 0), 1, 8) := by kernel_rfl
def intVals (zs : List Int) : List Value := zs.map fun z => .int .i64 z
theorem intVals_length (zs : List Int) : (intVals zs).length = zs.length := by simp [intVals]
theorem intVals_append (a b : List Int) : intVals (a ++ b) = intVals a ++ intVals b := by simp [intVals]
theorem intVals_set (zs : List Int) (k : Nat) (z : Int) : (intVals zs).set k (.int .i64 z) = intVals (zs.set k z) := by simp [intVals]
theorem intVals_oneCell (zs : List Int) : ∀ v ∈ intVals zs, v.oneCell' = true := by
 intro v hv; obtain ⟨_, _, rfl⟩ := List.mem_map.1 hv; rfl
def CellsZ (w : World) (b off : Nat) (zs : List Int) : Prop := ∀ i (h : i < zs.length), w.cell? ⟨b, off + i, none⟩ = some (.int .i64 zs[i])
def SlZ (w : World) (a : Option Addr) (len : Nat) (zs : List Int) : Prop :=
 zs.length = len ∧ len ≤ maxLen ∧ (0 < len → ∃ b off, a = some ⟨b, off, none⟩ ∧ CellsZ w b off zs)
def OwnZ (w : World) (base g n cap : Nat) (zs : List Int) : Prop := zs.length = n ∧ w.ownsRow base 3 1 (.slice (some ⟨g, 0, none⟩) n cap) n (intVals zs)
section
variable {w w' : World} {a : Option Addr} {b off len base base' g n cap : Nat} {zs : List Int} {row : Option Nat}
theorem SlZ.cells (h : SlZ w (some ⟨b, off, none⟩) len zs) : CellsZ w b off zs := by
 intro i hi
 obtain ⟨b', off', e, hc⟩ := h.2.2 (by have := h.1; omega)
 simp only [Option.some.injEq, Addr.mk.injEq, and_true] at e
 obtain ⟨rfl, rfl⟩ := e
 exact hc i hi
theorem SlZ.below (h : SlZ w a len zs) (hb : Below w.heap.size w w') : SlZ w' a len zs := by
 obtain ⟨h1, h2, h3⟩ := h
 refine ⟨h1, h2, fun h0 => ?_⟩
 obtain ⟨b, off, rfl, hc⟩ := h3 h0
 exact ⟨b, off, rfl, fun i hi => (hb.cell (p := ⟨b, off + i, none⟩) (World.block_lt_of_cell? w _ (hc i hi))).trans (hc i hi)⟩
theorem OwnZ.lt (h : OwnZ w base g n cap zs) : base ≤ g ∧ g < w.heap.size := h.2.lt g rfl
theorem OwnZ.cases (h : OwnZ w base g n cap zs) : n ≤ cap ∧ cap ≤ maxLen := by
 rcases h.2.2 with ⟨h', _⟩ | ⟨g', cap', cur, h', _, hg, h1, h2, _⟩
 · simp at h'
 · simp only [Value.slice.injEq, Option.some.injEq, Addr.mk.injEq, and_true, true_and] at h'
   obtain ⟨rfl, rfl⟩ := h'
   exact ⟨h1, h2⟩
theorem OwnZ.mono (h : OwnZ w base g n cap zs) (hb : base' ≤ base) : OwnZ w base' g n cap zs := by
 refine ⟨h.1, h.2.1, ?_⟩
 rcases h.2.2 with h' | ⟨g', cap', cur, h', h0, r⟩
 · exact .inl h'
 · exact .inr ⟨g', cap', cur, h', by omega, r⟩
theorem OwnZ.at (h : OwnZ w base g n cap zs) (i : Nat) (hi : i < zs.length) : w.cell? ⟨g, i, none⟩ = some (.int .i64 zs[i]) := by
 have hl := h.1
 rw [h.2.cellAt i (by omega)]
 simp [intVals, hi]
theorem OwnZ.frozen (h : OwnZ w base g n cap zs) (i : Nat) : w.frozen? ⟨g, i, none⟩ = false := h.2.frozenAt i
theorem OwnZ.sl (h : OwnZ w base g n cap zs) : SlZ w (some ⟨g, 0, none⟩) n zs :=
 ⟨h.1, by have := h.cases; omega, fun _ => ⟨g, 0, rfl, fun i hi => by rw [Nat.zero_add]; exact h.at i hi⟩⟩
theorem OwnZ.grown (h : OwnZ w base g n cap zs) (hg : w.grownBy w' row) (hne : some g ≠ row) : OwnZ w' base g n cap zs := ⟨h.1, h.2.kept hg (.inr hne)⟩
theorem OwnZ.below (h : OwnZ w base g n cap zs) (hb : Below w.heap.size w w') : OwnZ w' base g n cap zs :=
 ⟨h.1, h.2.kept (row := none) ⟨hb.os, hb.tape, hb.output, hb.size, fun k hk _ => hb.block k hk⟩ (.inr (by simp [Value.ownBlock]))⟩
theorem cells_ints (h : CellsZ w b off zs) : ∀ j v, (intVals zs)[j]? = some v → w.cell? ((⟨b, off, none⟩ : Addr).add j) = some v := by
 intro j v hj
 have hjl : j < zs.length := by have := (List.getElem?_eq_some_iff.1 hj).1; rwa [intVals_length] at this
 rw [Addr.add_lit, h j hjl]
 simpa [intVals, hjl] using hj
theorem ownZ_made (w : World) (base : Nat) (hb : base ≤ w.heap.size) : OwnZ (w.alloc (.cells #[] 3)) base w.heap.size 0 0 [] :=
 ⟨rfl, World.ownsRow_made w #[] 0 hb (Nat.zero_le _) rfl⟩
theorem ownZ_val {v' : Value} (hl : zs.length = n) (h0 : ¬ v' = .slice none 0 0) (h : w'.ownsRow base 3 1 v' n (intVals zs)) :
 ∃ g' cap', v' = .slice (some ⟨g', 0, none⟩) n cap' ∧ OwnZ w' base g' n cap' zs := by
 rcases h.2 with ⟨h2, _⟩ | ⟨g', cap', cur, hv, _⟩
 · exact absurd h2 h0
 · subst hv
   exact ⟨g', cap', rfl, hl, h⟩
theorem ownZ_app {v' : Value} {z : Int} (hl : zs.length = n) (h0 : ¬ v' = .slice none 0 0) (h : w'.ownsRow base 3 1 v' (n + 1) (intVals zs ++ intVals [z])) :
 ∃ g' cap', v' = .slice (some ⟨g', 0, none⟩) (n + 1) cap' ∧ OwnZ w' base g' (n + 1) cap' (zs ++ [z]) := by
 rw [← intVals_append] at h
 exact ownZ_val (by simp; omega) h0 h
theorem ownZ_set (h : OwnZ w base g n cap zs) (k : Nat) (z : Int) :
 OwnZ (w.setCell ⟨g, k, none⟩ (.int .i64 z)) base g n cap (zs.set k z) ∧ w.grownBy (w.setCell ⟨g, k, none⟩ (.int .i64 z)) (some g) := by
 have hs := h.2.stored k (.int .i64 z)
 rw [intVals_set] at hs
 exact ⟨⟨by simpa using h.1, hs.1⟩, hs.2⟩
end
theorem one_int_cells (w : World) (z : Int) (t : TypeId) : ∀ j u, (intVals [z])[j]? = some u → (w.alloc (.cells #[.int .i64 z] t)).cell? ((⟨w.heap.size, 0, none⟩ : Addr).add j) = some u := by
 intro j u hj
 match j, hj with
 | 0, hj => simp [intVals] at hj; subst hj; simp [Addr.add]
/-! ### a number put in order -/
theorem putI_at (zs : List Int) (n : Int) (k : Nat) (ha : Asc zs) (hn : n ∉ zs) (hk : k ≤ zs.length) (hd : ∀ x ∈ zs.drop k, n < x) (ht : k = 0 ∨ ∃ h : k - 1 < zs.length, ¬ n < zs[k - 1]) : putI zs n = zs.take k ++ n :: zs.drop k := by
 have htk : ∀ x ∈ zs.take k, x < n := by
  intro x hx
  rcases ht with rfl | ⟨h1, h2⟩
  · simp at hx
  · obtain ⟨i, hi, rfl⟩ := List.getElem_of_mem hx
    have hik : i < k := by simp at hi; omega
    rw [List.getElem_take]
    have hne : zs[k - 1] ≠ n := fun e => hn (e ▸ List.getElem_mem h1)
    by_cases e : i = k - 1
    · subst e; omega
    · have := List.pairwise_iff_getElem.1 ha i (k - 1) (by omega) h1 (by omega)
      omega
 unfold putI
 rw [if_neg hn]
 have e := List.take_append_drop k zs
 have e1 : zs.filter (fun x => decide (x < n)) = zs.take k := by
  conv => lhs; rw [← e, List.filter_append]
  rw [List.filter_eq_self.2 (fun x hx => by simpa using htk x hx), List.filter_eq_nil_iff.2 (fun x hx => by have := hd x hx; simp; omega), List.append_nil]
 have e2 : zs.filter (fun x => decide (n < x)) = zs.drop k := by
  conv => lhs; rw [← e, List.filter_append]
  rw [List.filter_eq_nil_iff.2 (fun x hx => by have := htk x hx; simp; omega), List.filter_eq_self.2 (fun x hx => by simpa using hd x hx), List.nil_append]
 rw [e1, e2]
def gap (zs : List Int) (k : Nat) (x : Int) : List Int := zs.take k ++ x :: zs.drop k
theorem gap_length (zs : List Int) (k : Nat) (x : Int) (h : k ≤ zs.length) : (gap zs k x).length = zs.length + 1 := by unfold gap; simp; omega
theorem gap_set (zs : List Int) (k : Nat) (x y : Int) (h : k ≤ zs.length) : (gap zs k x).set k y = gap zs k y := by
 unfold gap
 rw [List.set_append_right _ _ (by simp; omega), List.length_take_of_le h, Nat.sub_self, List.set_cons_zero]
theorem gap_prev (zs : List Int) (k : Nat) (x : Int) (h0 : 0 < k) (h : k ≤ zs.length) : (gap zs k x)[k - 1]? = some (zs[k - 1]'(by omega)) := by
 unfold gap
 rw [List.getElem?_append_left (by simp; omega), List.getElem?_take_of_lt (by omega), List.getElem?_eq_getElem (by omega)]
theorem gap_down (zs : List Int) (k : Nat) (h0 : 0 < k) (h : k ≤ zs.length) : gap zs k (zs[k - 1]'(by omega)) = gap zs (k - 1) (zs[k - 1]'(by omega)) := by
 unfold gap
 obtain ⟨j, rfl⟩ : ∃ j, k = j + 1 := ⟨k - 1, by omega⟩
 simp only [Nat.add_sub_cancel]
 rw [List.take_succ_eq_append_getElem (by omega), List.drop_eq_getElem_cons (i := j) (by omega), List.append_assoc]
 rfl
end ords
namespace cos
open Go Go.RowKit base pairs ords
abbrev Jb := Int × List Od × Int × List Int
abbrev Ch := Int × Bool
abbrev Co := Int × Int × Int × List Jb × List Ch × Int
def chosen (l : List Ch) (tx : Int) : Option Nat := l.findIdx? fun c => decide (c.1 = tx)
def idx (r : Option Nat) : Int := match r with | none => -1 | some k => (k : Int)
def choice (l : List Ch) (tx : Int) : Option Bool := (l.find? fun c => decide (c.1 = tx)).map fun c => c.2
def yesOk (list : List Int) : Option Int → List Int → Bool
 | _, [] => true
 | p, x :: r => (decide (x ∈ list) && match p with | none => true | some q => decide (q < x)) && yesOk list (some x) r
def stateOk (st : Int) : Option Bool → Bool
 | none => decide (st = 1)
 | some true => decide (st = 2)
 | some false => decide (st = 3)
def jobOk (n life next : Int) (log : List Ch) (p : Option Int) (j : Jb) : Bool :=
 decide (life * 1000 ≤ j.1 ∧ j.1 ≤ life * 1000 + next - 1) && (match p with | none => true | some q => decide (q < j.1)) && opsOk j.2.1 && decide (1 ≤ j.2.2.1 ∧ j.2.2.1 ≤ 3) && yesOk (shardsOf n j.2.1) none j.2.2.2 && stateOk j.2.2.1 (choice log j.1)
def jobsOk (n life next : Int) (log : List Ch) : Option Int → List Jb → Bool
 | _, [] => true
 | p, j :: r => jobOk n life next log p j && jobsOk n life next log (some j.1) r
def logOk (hi : Int) (log : List Ch) : Bool := log.all (fun c => decide (1000 ≤ c.1 ∧ c.1 ≤ hi)) && decide ((log.map fun c => c.1).Nodup)
def headOk (c : Co) : Bool := decide (1 ≤ c.1 ∧ c.1 ≤ 8) && decide (1 ≤ c.2.1 ∧ c.2.1 ≤ 900) && decide (0 ≤ c.2.2.1 ∧ c.2.2.1 ≤ 999) && decide (c.2.2.2.2.1.length ≤ 1000) && decide (0 ≤ c.2.2.2.2.2 ∧ c.2.2.2.2.2 ≤ (c.2.2.2.2.1.length : Int))
def coordOk (c : Co) : Bool := headOk c && logOk (c.2.1 * 1000 + c.2.2.1 - 1) c.2.2.2.2.1 && jobsOk c.1 c.2.1 c.2.2.1 c.2.2.2.2.1 none c.2.2.2.1
/-! ### places -/
theorem findIdx?_go {α : Type} (p : α → Bool) (l : List α) (k : Nat) (hk : k ≤ l.length) (h : ∀ i (hi : i < k), p (l[i]'(by omega)) = false) : l.findIdx? p = ((l.drop k).findIdx? p).map (· + k) := by
 induction k generalizing l with
 | zero => simp
 | succ k ih =>
  cases l with
  | nil => simp at hk
  | cons x l =>
   have h0 : p x = false := h 0 (by omega)
   rw [List.findIdx?_cons, h0]
   simp only [Bool.false_eq_true, if_false, List.drop_succ_cons]
   rw [ih l (by simpa using hk) (fun i hi => by simpa using h (i + 1) (by omega))]
   cases (l.drop k).findIdx? p <;> simp [Nat.add_assoc]
theorem findIdx_hit {α : Type} {p : α → Bool} {l : List α} {k : Nat} (hk : k < l.length) (h : ∀ i (hi : i < k), p (l[i]'(by omega)) = false) (hp : p l[k] = true) : l.findIdx? p = some k := by
 rw [findIdx?_go p l k (by omega) h, List.drop_eq_getElem_cons hk, List.findIdx?_cons, hp]
 simp
theorem findIdx_none {α : Type} {p : α → Bool} {l : List α} (h : ∀ i (hi : i < l.length), p l[i] = false) : l.findIdx? p = none := by
 rw [findIdx?_go p l l.length (Nat.le_refl _) (fun i hi => h i hi), List.drop_length]
 rfl
theorem findIdx_some {α : Type} {p : α → Bool} {l : List α} {k : Nat} (h : l.findIdx? p = some k) : ∃ hk : k < l.length, p l[k] = true ∧ ∀ i (hi : i < k), p (l[i]'(by omega)) = false := by
 induction l generalizing k with
 | nil => simp at h
 | cons x l ih =>
  rw [List.findIdx?_cons] at h
  cases hx : p x
  · rw [hx] at h
    simp only [Bool.false_eq_true, if_false] at h
    cases h2 : l.findIdx? p with
    | none => rw [h2] at h; cases h
    | some j =>
     rw [h2] at h
     simp only [Option.map_some, Option.some.injEq] at h
     subst h
     obtain ⟨hj, hp, hb⟩ := ih h2
     refine ⟨by simp; omega, by simpa using hp, fun i hi => ?_⟩
     cases i with
     | zero => exact hx
     | succ i => simpa using hb i (by omega)
  · rw [hx] at h
    simp only [if_true, Option.some.injEq] at h
    subst h
    exact ⟨by simp, hx, fun i hi => absurd hi (by omega)⟩
theorem find_of_idx {α : Type} {p : α → Bool} {l : List α} : (∀ k, l.findIdx? p = some k → ∃ hk : k < l.length, l.find? p = some l[k]) ∧ (l.findIdx? p = none → l.find? p = none) := by
 induction l with
 | nil => exact ⟨fun k h => by simp at h, fun _ => rfl⟩
 | cons x l ih =>
  constructor
  · intro k h
    rw [List.findIdx?_cons] at h
    cases hx : p x
    · rw [hx] at h
      simp only [Bool.false_eq_true, if_false] at h
      cases h2 : l.findIdx? p with
      | none => rw [h2] at h; cases h
      | some j =>
       rw [h2] at h
       simp only [Option.map_some, Option.some.injEq] at h
       subst h
       obtain ⟨hj, e⟩ := ih.1 j h2
       exact ⟨by simp; omega, by rw [List.find?_cons, hx]; simpa using e⟩
    · rw [hx] at h
      simp only [if_true, Option.some.injEq] at h
      subst h
      exact ⟨by simp, by rw [List.find?_cons, hx]; rfl⟩
  · intro h
    rw [List.findIdx?_cons] at h
    cases hx : p x
    · rw [hx] at h
      simp only [Bool.false_eq_true, if_false, Option.map_eq_none_iff] at h
      rw [List.find?_cons, hx]
      exact ih.2 h
    · rw [hx] at h; cases h
theorem choice_some {log : List Ch} {tx : Int} {k : Nat} (h : chosen log tx = some k) : ∃ hk : k < log.length, choice log tx = some log[k].2 := by
 obtain ⟨hk, e⟩ := find_of_idx.1 k h
 exact ⟨hk, by unfold choice; rw [e]; rfl⟩
theorem choice_none {log : List Ch} {tx : Int} (h : chosen log tx = none) : choice log tx = none := by
 unfold choice; rw [find_of_idx.2 h]; rfl
theorem nodup_iff {log : List Ch} : (log.map fun c => c.1).Nodup ↔ ∀ i (hi : i < log.length), chosen log log[i].1 = some i := by
 constructor
 · intro h i hi
   refine findIdx_hit hi (fun j hj => decide_eq_false fun e => ?_) (decide_eq_true rfl)
   have := List.pairwise_iff_getElem.1 h j i (by simp; omega) (by simpa using hi) hj
   simp only [List.getElem_map] at this
   exact this e
 · intro h
   refine List.pairwise_iff_getElem.2 fun i j hi hj hij => ?_
   simp only [List.getElem_map]
   intro e
   simp only [List.length_map] at hi hj
   have h1 := h j hj
   rw [← e, h i hi] at h1
   simp only [Option.some.injEq] at h1
   omega
end cos
end Go.Proofs.YtijplooogplccaaGreat
