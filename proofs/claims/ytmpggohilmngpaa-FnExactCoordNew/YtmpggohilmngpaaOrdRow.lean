/- Rows of orders (three cells each): small facts on worlds; no function of the program is named here. -/
import Derived.Test.YtmpggohilmngpaaApp
import Derived.Test.YtmpggohilmngpaaOrdMath
import Derived.Test.YtmpggohilmngpaaPairRow
import Derived.OwnWalk
namespace Go.Proofs.Ytmpggohilmngpaa.ords
open Go Go.RowKit Go.Proofs.Ytmpggohilmngpaa.base Go.Proofs.Ytmpggohilmngpaa.pairs
set_option linter.unusedVariables false
set_option linter.unusedSimpArgs false

def smallO (o : Od) : Prop := (Lit.int .i64 o.1).wf = true ∧ o.2.1.size ≤ maxLen ∧ o.2.2.size ≤ maxLen
def ordVals (l : List Od) : List Value := l.flatMap fun o => [.int .i64 o.1, .string o.2.1, .string o.2.2]
theorem ordVals_cons (o : Od) (l : List Od) : ordVals (o :: l) = .int .i64 o.1 :: .string o.2.1 :: .string o.2.2 :: ordVals l := rfl
theorem ordVals_append (a b : List Od) : ordVals (a ++ b) = ordVals a ++ ordVals b := by simp [ordVals]
theorem ordVals_length (l : List Od) : (ordVals l).length = l.length * 3 := by
  induction l with
  | nil => rfl
  | cons o l ih => rw [ordVals_cons]; simp [ih]; omega
theorem ordVals_at (l : List Od) (i : Nat) (h : i < l.length) : (ordVals l)[i * 3]? = some (.int .i64 l[i].1) ∧ (ordVals l)[i * 3 + 1]? = some (.string l[i].2.1) ∧ (ordVals l)[i * 3 + 2]? = some (.string l[i].2.2) := by
  induction l generalizing i with
  | nil => simp at h
  | cons p l ih =>
    cases i with
    | zero => exact ⟨rfl, rfl, rfl⟩
    | succ i =>
      rw [ordVals_cons, show (i + 1) * 3 = i * 3 + 1 + 1 + 1 by omega, show i * 3 + 1 + 1 + 1 + 1 = (i * 3 + 1) + 1 + 1 + 1 by omega, show i * 3 + 1 + 1 + 1 + 2 = (i * 3 + 2) + 1 + 1 + 1 by omega]
      simpa using ih i (by simpa using h)
theorem ordVals_oneCell (l : List Od) : ∀ v ∈ ordVals l, v.oneCell' = true := by
  intro v hv
  obtain ⟨p, _, hp⟩ := List.mem_flatMap.1 hv
  simp at hp
  rcases hp with rfl | rfl | rfl <;> rfl
theorem ordVals_setKind (l : List Od) (i : Nat) (h : i < l.length) (z : Int) : (ordVals l).set (i * 3) (.int .i64 z) = ordVals (l.set i (z, l[i].2)) := by
  induction l generalizing i with
  | nil => simp at h
  | cons p l ih =>
    cases i with
    | zero => rfl
    | succ i => rw [ordVals_cons, show (i + 1) * 3 = i * 3 + 1 + 1 + 1 by omega]; simp only [List.set_cons_succ, ordVals_cons, List.getElem_cons_succ]; rw [ih i (by simpa using h)]
theorem ordVals_setKey (l : List Od) (i : Nat) (h : i < l.length) (k : ByteArray) : (ordVals l).set (i * 3 + 1) (.string k) = ordVals (l.set i (l[i].1, k, l[i].2.2)) := by
  induction l generalizing i with
  | nil => simp at h
  | cons p l ih =>
    cases i with
    | zero => rfl
    | succ i => rw [ordVals_cons, show (i + 1) * 3 + 1 = i * 3 + 1 + 1 + 1 + 1 by omega]; simp only [List.set_cons_succ, ordVals_cons, List.getElem_cons_succ]; rw [ih i (by simpa using h)]
theorem ordVals_setVal (l : List Od) (i : Nat) (h : i < l.length) (v : ByteArray) : (ordVals l).set (i * 3 + 2) (.string v) = ordVals (l.set i (l[i].1, l[i].2.1, v)) := by
  induction l generalizing i with
  | nil => simp at h
  | cons p l ih =>
    cases i with
    | zero => rfl
    | succ i => rw [ordVals_cons, show (i + 1) * 3 + 2 = i * 3 + 2 + 1 + 1 + 1 by omega]; simp only [List.set_cons_succ, ordVals_cons, List.getElem_cons_succ]; rw [ih i (by simpa using h)]

/-! ### slices of orders that are read -/
def CellsO (w : World) (b off : Nat) (l : List Od) : Prop := ∀ i (h : i < l.length), w.cell? ⟨b, off + i * 3, none⟩ = some (.int .i64 l[i].1) ∧ w.cell? ⟨b, off + i * 3 + 1, none⟩ = some (.string l[i].2.1) ∧ w.cell? ⟨b, off + i * 3 + 2, none⟩ = some (.string l[i].2.2)
def SlO (w : World) (a : Option Addr) (len : Nat) (l : List Od) : Prop :=
  l.length = len ∧ len ≤ maxLen ∧ (∀ p ∈ l, smallO p) ∧ (0 < len → ∃ b off, a = some ⟨b, off, none⟩ ∧ CellsO w b off l)
theorem slo_nil (w : World) (a : Option Addr) : SlO w a 0 [] := ⟨rfl, Nat.zero_le _, (fun _ h => absurd h List.not_mem_nil), fun h => absurd h (by omega)⟩
section
variable {w w' : World} {a : Option Addr} {b off len base base' g n cap : Nat} {l : List Od} {row : Option Nat}
theorem SlO.cells (h : SlO w (some ⟨b, off, none⟩) len l) : CellsO w b off l := by
  intro i hi
  obtain ⟨b', off', e, hc⟩ := h.2.2.2 (by have := h.1; omega)
  simp only [Option.some.injEq, Addr.mk.injEq, and_true] at e
  obtain ⟨rfl, rfl⟩ := e
  exact hc i hi
theorem SlO.lt (h : SlO w (some ⟨b, off, none⟩) len l) (h0 : 0 < len) : b < w.heap.size :=
  World.block_lt_of_cell? w _ (h.cells 0 (by have := h.1; omega)).1
theorem CellsO.keep (h : CellsO w b off l) (hk : ∀ o v, w.cell? ⟨b, o, none⟩ = some v → w'.cell? ⟨b, o, none⟩ = some v) : CellsO w' b off l :=
  fun i hi => ⟨hk _ _ (h i hi).1, hk _ _ (h i hi).2.1, hk _ _ (h i hi).2.2⟩
theorem SlO.below (h : SlO w a len l) (hb : Below w.heap.size w w') : SlO w' a len l := by
  obtain ⟨h1, h2, h4, h3⟩ := h
  refine ⟨h1, h2, h4, fun h0 => ?_⟩
  obtain ⟨b, off, rfl, hc⟩ := h3 h0
  exact ⟨b, off, rfl, hc.keep fun o v hv => (hb.cell (p := ⟨b, o, none⟩) (World.block_lt_of_cell? w _ hv)).trans hv⟩
theorem SlO.grown (h : SlO w (some ⟨b, off, none⟩) len l) (hg : w.grownBy w' row) (hne : some b ≠ row) : SlO w' (some ⟨b, off, none⟩) len l :=
  ⟨h.1, h.2.1, h.2.2.1, fun _ => ⟨b, off, rfl, h.cells.keep fun o v hv => hg.cell hv hne⟩⟩

/-! ### rows of orders that a call made -/
def OwnO (w : World) (base g n cap : Nat) (l : List Od) : Prop := l.length = n ∧ (∀ p ∈ l, smallO p) ∧ w.ownsRow base 48 3 (.slice (some ⟨g, 0, none⟩) n cap) n (ordVals l)
theorem OwnO.lt (h : OwnO w base g n cap l) : base ≤ g ∧ g < w.heap.size := h.2.2.lt g rfl
theorem OwnO.cases (h : OwnO w base g n cap l) : n ≤ cap ∧ cap ≤ maxLen := by
  rcases h.2.2.2 with ⟨h', _⟩ | ⟨g', cap', cur, h', _, hg, h1, h2, _⟩
  · simp at h'
  · simp only [Value.slice.injEq, Option.some.injEq, Addr.mk.injEq, and_true, true_and] at h'
    obtain ⟨rfl, rfl⟩ := h'
    exact ⟨h1, h2⟩
theorem OwnO.mono (h : OwnO w base g n cap l) (hb : base' ≤ base) : OwnO w base' g n cap l := by
  refine ⟨h.1, h.2.1, h.2.2.1, ?_⟩
  rcases h.2.2.2 with h' | ⟨g', cap', cur, h', h0, r⟩
  · exact .inl h'
  · exact .inr ⟨g', cap', cur, h', by omega, r⟩
theorem OwnO.cell (h : OwnO w base g n cap l) : CellsO w g 0 l := by
  intro i hi
  have hl := h.1
  have k0 := h.2.2.cellAt (i * 3) (by omega)
  have k1 := h.2.2.cellAt (i * 3 + 1) (by omega)
  have k2 := h.2.2.cellAt (i * 3 + 2) (by omega)
  obtain ⟨e0, e1, e2⟩ := ordVals_at l i hi
  rw [e0] at k0
  rw [e1] at k1
  rw [e2] at k2
  rw [Nat.zero_add]
  exact ⟨k0, k1, k2⟩
theorem OwnO.kind (h : OwnO w base g n cap l) (i : Nat) (hi : i < l.length) : w.cell? ⟨g, i * 3, none⟩ = some (.int .i64 l[i].1) := by
  have := (h.cell i hi).1; rwa [Nat.zero_add] at this
theorem OwnO.key (h : OwnO w base g n cap l) (i : Nat) (hi : i < l.length) : w.cell? ⟨g, i * 3 + 1, none⟩ = some (.string l[i].2.1) := by
  have := (h.cell i hi).2.1; rwa [Nat.zero_add] at this
theorem OwnO.val (h : OwnO w base g n cap l) (i : Nat) (hi : i < l.length) : w.cell? ⟨g, i * 3 + 2, none⟩ = some (.string l[i].2.2) := by
  have := (h.cell i hi).2.2; rwa [Nat.zero_add] at this
theorem OwnO.frozen (h : OwnO w base g n cap l) (i : Nat) : w.frozen? ⟨g, i, none⟩ = false := h.2.2.frozenAt i
theorem OwnO.sl (h : OwnO w base g n cap l) : SlO w (some ⟨g, 0, none⟩) n l :=
  ⟨h.1, by have := h.cases; omega, h.2.1, fun _ => ⟨g, 0, rfl, h.cell⟩⟩
theorem OwnO.grown (h : OwnO w base g n cap l) (hg : w.grownBy w' row) (hne : some g ≠ row) : OwnO w' base g n cap l :=
  ⟨h.1, h.2.1, h.2.2.kept hg (.inr hne)⟩
theorem OwnO.below (h : OwnO w base g n cap l) (hb : Below w.heap.size w w') : OwnO w' base g n cap l :=
  ⟨h.1, h.2.1, h.2.2.kept (row := none) ⟨hb.os, hb.tape, hb.output, hb.size, fun k hk _ => hb.block k hk⟩ (.inr (by simp [Value.ownBlock]))⟩
theorem mem_set_smallO {i : Nat} {p : Od} (h : ∀ q ∈ l, smallO q) (hp : smallO p) : ∀ q ∈ l.set i p, smallO q := by
  intro q hq
  rcases List.mem_or_eq_of_mem_set hq with h1 | h1
  · exact h q h1
  · subst h1; exact hp
theorem OwnO.setKind (h : OwnO w base g n cap l) (i : Nat) (hi : i < l.length) (z : Int) (hz : (Lit.int .i64 z).wf = true) :
    OwnO (w.setCell ⟨g, i * 3, none⟩ (.int .i64 z)) base g n cap (l.set i (z, l[i].2)) ∧ w.grownBy (w.setCell ⟨g, i * 3, none⟩ (.int .i64 z)) (some g) := by
  have hs := h.2.2.stored (i * 3) (.int .i64 z)
  rw [ordVals_setKind l i hi] at hs
  exact ⟨⟨by simpa using h.1, mem_set_smallO h.2.1 ⟨hz, (h.2.1 _ (List.getElem_mem hi)).2⟩, hs.1⟩, hs.2⟩
theorem OwnO.setKey (h : OwnO w base g n cap l) (i : Nat) (hi : i < l.length) (k : ByteArray) (hk : k.size ≤ maxLen) :
    OwnO (w.setCell ⟨g, i * 3 + 1, none⟩ (.string k)) base g n cap (l.set i (l[i].1, k, l[i].2.2)) ∧ w.grownBy (w.setCell ⟨g, i * 3 + 1, none⟩ (.string k)) (some g) := by
  have hs := h.2.2.stored (i * 3 + 1) (.string k)
  rw [ordVals_setKey l i hi] at hs
  exact ⟨⟨by simpa using h.1, mem_set_smallO h.2.1 ⟨(h.2.1 _ (List.getElem_mem hi)).1, hk, (h.2.1 _ (List.getElem_mem hi)).2.2⟩, hs.1⟩, hs.2⟩
theorem OwnO.setVal (h : OwnO w base g n cap l) (i : Nat) (hi : i < l.length) (v : ByteArray) (hv : v.size ≤ maxLen) :
    OwnO (w.setCell ⟨g, i * 3 + 2, none⟩ (.string v)) base g n cap (l.set i (l[i].1, l[i].2.1, v)) ∧ w.grownBy (w.setCell ⟨g, i * 3 + 2, none⟩ (.string v)) (some g) := by
  have hs := h.2.2.stored (i * 3 + 2) (.string v)
  rw [ordVals_setVal l i hi] at hs
  exact ⟨⟨by simpa using h.1, mem_set_smallO h.2.1 ⟨(h.2.1 _ (List.getElem_mem hi)).1, (h.2.1 _ (List.getElem_mem hi)).2.1, hv⟩, hs.1⟩, hs.2⟩
theorem OwnO.setAll (h : OwnO w base g n cap l) (i : Nat) (hi : i < l.length) (z : Int) (k v : ByteArray) (hz : (Lit.int .i64 z).wf = true) (hk : k.size ≤ maxLen) (hv : v.size ≤ maxLen) :
    OwnO (((w.setCell ⟨g, i * 3, none⟩ (.int .i64 z)).setCell ⟨g, i * 3 + 1, none⟩ (.string k)).setCell ⟨g, i * 3 + 2, none⟩ (.string v)) base g n cap (l.set i (z, k, v)) ∧ w.grownBy (((w.setCell ⟨g, i * 3, none⟩ (.int .i64 z)).setCell ⟨g, i * 3 + 1, none⟩ (.string k)).setCell ⟨g, i * 3 + 2, none⟩ (.string v)) (some g) := by
  have h0 := h.setKind i hi z hz
  have h1 := h0.1.setKey i (by simpa using hi) k hk
  have h2 := h1.1.setVal i (by simpa using hi) v hv
  simp only [List.getElem_set_self, List.set_set] at h2
  simp only [List.getElem_set_self, List.set_set] at h1
  exact ⟨h2.1, grownBy_trans (grownBy_trans h0.2 h1.2) h2.2⟩
theorem ownO_val {v' : Value} (hl : l.length = n) (hs : ∀ p ∈ l, smallO p) (h0 : ¬ v' = .slice none 0 0)
    (h : w'.ownsRow base 48 3 v' n (ordVals l)) : ∃ g' cap', v' = .slice (some ⟨g', 0, none⟩) n cap' ∧ OwnO w' base g' n cap' l := by
  rcases h.2 with ⟨h2, _⟩ | ⟨g', cap', cur, hv, _⟩
  · exact absurd h2 h0
  · subst hv
    exact ⟨g', cap', rfl, hl, hs, h⟩
theorem ownO_made (w : World) (base : Nat) (hb : base ≤ w.heap.size) : OwnO (w.alloc (.cells #[] 48)) base w.heap.size 0 0 [] :=
  ⟨rfl, fun s h => absurd h List.not_mem_nil, World.ownsRow_made w #[] 0 hb (Nat.zero_le _) rfl⟩
theorem cells_ords (h : CellsO w b off l) : ∀ j v, (ordVals l)[j]? = some v → w.cell? ((⟨b, off, none⟩ : Addr).add j) = some v := by
  intro j v hj
  have hjl : j < l.length * 3 := by have := (List.getElem?_eq_some_iff.1 hj).1; rwa [ordVals_length] at this
  rw [Addr.add_lit]
  obtain ⟨e0, e1, e2⟩ := ordVals_at l (j / 3) (by omega)
  have hc := h (j / 3) (by omega)
  have hm : j = (j / 3) * 3 ∨ j = (j / 3) * 3 + 1 ∨ j = (j / 3) * 3 + 2 := by omega
  rcases hm with e | e | e
  · rw [e, e0] at hj
    rw [e, ← hj]; exact hc.1
  · rw [e, e1] at hj
    rw [e, ← hj]; exact hc.2.1
  · rw [e, e2] at hj
    rw [e, ← hj]; exact hc.2.2
end
theorem infoO : (Try.prog.info? 48).map (fun i => (i.zero, i.size, i.bytes)) = some (some (.agg #[.int .i64 0, .string ⟨#[]⟩, .string ⟨#[]⟩]), 3, 40) := by kernel_rfl

end Go.Proofs.Ytmpggohilmngpaa.ords
