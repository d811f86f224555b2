/- Rows of orders (three cells each): small facts on worlds; no function of the program is named here. Orders of the call's own, or nil. No function of the program is named here. Rows of whole numbers: small facts on worlds; no function of the program is named here. Plain mathematics of one who decides: what is right. How jobs, choices and one who decides lie in memory. No function of the program is named here. The specification's keys and pairs: what is right, what is got. The specification's lists of pairs. The specification's putting of keys. A region that draws its order, whose operations only read, but for its last, which waits for all the others: one walk of the text's order serves every order. No function of the program is named here. The specification's right pairs, and pairs put into others. -/
import Derived.Test.YteniflajiklffaaShaa
import Derived.OwnWalk
import Derived.Deep.RegionHeld3
import Derived.Deep.QuietTactic
import Derived.BigQuiet
import Derived.WalkKit
import Derived.WalkSpells
import Derived.WalkLawsBesides
namespace Go.Proofs.Yteniflajiklffaa.ords
open Go Go.RowKit Go.Proofs.Yteniflajiklffaa.base Go.Proofs.Yteniflajiklffaa.pairs
set_option linter.unusedVariables false
set_option linter.unusedSimpArgs false

def smallO (o : Od) : Prop := (Lit.int .i64 o.1).wf = true ∧ o.2.1.size ≤ maxLen ∧ o.2.2.size ≤ maxLen
def ordVals (l : List Od) : List Value := l.flatMap fun o => [.int .i64 o.1, .string o.2.1, .string o.2.2]
theorem ordVals_cons (o : Od) (l : List Od) : ordVals (o :: l) = .int .i64 o.1 :: .string o.2.1 :: .string o.2.2 :: ordVals l := rfl
theorem ordVals_append (a b : List Od) : ordVals (a ++ b) = ordVals a ++ ordVals b := by simp [ordVals]
theorem ordVals_length (l : List Od) : (ordVals l).length = l.length * 3 := by
  induction l with
  | nil => rfl
  | cons o l ih => rw [ordVals_cons]; simp [ih]; omega
theorem ordVals_at (l : List Od) (i : Nat) (h : i < l.length) : (ordVals l)[i * 3]? = some (.int .i64 l[i].1) ∧ (ordVals l)[i * 3 + 1]? = some (.string l[i].2.1) ∧ (ordVals l)[i * 3 + 2]? = some (.string l[i].2.2) := by
  induction l generalizing i with
  | nil => simp at h
  | cons p l ih =>
    cases i with
    | zero => exact ⟨rfl, rfl, rfl⟩
    | succ i =>
      rw [ordVals_cons, show (i + 1) * 3 = i * 3 + 1 + 1 + 1 by omega, show i * 3 + 1 + 1 + 1 + 1 = (i * 3 + 1) + 1 + 1 + 1 by omega, show i * 3 + 1 + 1 + 1 + 2 = (i * 3 + 2) + 1 + 1 + 1 by omega]
      simpa using ih i (by simpa using h)
theorem ordVals_oneCell (l : List Od) : ∀ v ∈ ordVals l, v.oneCell' = true := by
  intro v hv
  obtain ⟨p, _, hp⟩ := List.mem_flatMap.1 hv
  simp at hp
  rcases hp with rfl | rfl | rfl <;> rfl
theorem ordVals_setKind (l : List Od) (i : Nat) (h : i < l.length) (z : Int) : (ordVals l).set (i * 3) (.int .i64 z) = ordVals (l.set i (z, l[i].2)) := by
  induction l generalizing i with
  | nil => simp at h
  | cons p l ih =>
    cases i with
    | zero => rfl
    | succ i => rw [ordVals_cons, show (i + 1) * 3 = i * 3 + 1 + 1 + 1 by omega]; simp only [List.set_cons_succ, ordVals_cons, List.getElem_cons_succ]; rw [ih i (by simpa using h)]
theorem ordVals_setKey (l : List Od) (i : Nat) (h : i < l.length) (k : ByteArray) : (ordVals l).set (i * 3 + 1) (.string k) = ordVals (l.set i (l[i].1, k, l[i].2.2)) := by
  induction l generalizing i with
  | nil => simp at h
  | cons p l ih =>
    cases i with
    | zero => rfl
    | succ i => rw [ordVals_cons, show (i + 1) * 3 + 1 = i * 3 + 1 + 1 + 1 + 1 by omega]; simp only [List.set_cons_succ, ordVals_cons, List.getElem_cons_succ]; rw [ih i (by simpa using h)]
theorem ordVals_setVal (l : List Od) (i : Nat) (h : i < l.length) (v : ByteArray) : (ordVals l).set (i * 3 + 2) (.string v) = ordVals (l.set i (l[i].1, l[i].2.1, v)) := by
  induction l generalizing i with
  | nil => simp at h
  | cons p l ih =>
    cases i with
    | zero => rfl
    | succ i => rw [ordVals_cons, show (i + 1) * 3 + 2 = i * 3 + 2 + 1 + 1 + 1 by omega]; simp only [List.set_cons_succ, ordVals_cons, List.getElem_cons_succ]; rw [ih i (by simpa using h)]

/-! ### slices of orders that are read -/
def CellsO (w : World) (b off : Nat) (l : List Od) : Prop := ∀ i (h : i < l.length), w.cell? ⟨b, off + i * 3, none⟩ = some (.int .i64 l[i].1) ∧ w.cell? ⟨b, off + i * 3 + 1, none⟩ = some (.string l[i].2.1) ∧ w.cell? ⟨b, off + i * 3 + 2, none⟩ = some (.string l[i].2.2)
def SlO (w : World) (a : Option Addr) (len : Nat) (l : List Od) : Prop :=
  l.length = len ∧ len ≤ maxLen ∧ (∀ p ∈ l, smallO p) ∧ (0 < len → ∃ b off, a = some ⟨b, off, none⟩ ∧ CellsO w b off l)
theorem slo_nil (w : World) (a : Option Addr) : SlO w a 0 [] := ⟨rfl, Nat.zero_le _, (fun _ h => absurd h List.not_mem_nil), fun h => absurd h (by omega)⟩
section
variable {w w' : World} {a : Option Addr} {b off len base base' g n cap : Nat} {l : List Od} {row : Option Nat}
theorem SlO.cells (h : SlO w (some ⟨b, off, none⟩) len l) : CellsO w b off l := by
  intro i hi
  obtain ⟨b', off', e, hc⟩ := h.2.2.2 (by have := h.1; omega)
  simp only [Option.some.injEq, Addr.mk.injEq, and_true] at e
  obtain ⟨rfl, rfl⟩ := e
  exact hc i hi
theorem SlO.lt (h : SlO w (some ⟨b, off, none⟩) len l) (h0 : 0 < len) : b < w.heap.size :=
  World.block_lt_of_cell? w _ (h.cells 0 (by have := h.1; omega)).1
theorem CellsO.keep (h : CellsO w b off l) (hk : ∀ o v, w.cell? ⟨b, o, none⟩ = some v → w'.cell? ⟨b, o, none⟩ = some v) : CellsO w' b off l :=
  fun i hi => ⟨hk _ _ (h i hi).1, hk _ _ (h i hi).2.1, hk _ _ (h i hi).2.2⟩
theorem SlO.below (h : SlO w a len l) (hb : Below w.heap.size w w') : SlO w' a len l := by
  obtain ⟨h1, h2, h4, h3⟩ := h
  refine ⟨h1, h2, h4, fun h0 => ?_⟩
  obtain ⟨b, off, rfl, hc⟩ := h3 h0
  exact ⟨b, off, rfl, hc.keep fun o v hv => (hb.cell (p := ⟨b, o, none⟩) (World.block_lt_of_cell? w _ hv)).trans hv⟩
theorem SlO.grown (h : SlO w (some ⟨b, off, none⟩) len l) (hg : w.grownBy w' row) (hne : some b ≠ row) : SlO w' (some ⟨b, off, none⟩) len l :=
  ⟨h.1, h.2.1, h.2.2.1, fun _ => ⟨b, off, rfl, h.cells.keep fun o v hv => hg.cell hv hne⟩⟩

/-! ### rows of orders that a call made -/
def OwnO (w : World) (base g n cap : Nat) (l : List Od) : Prop := l.length = n ∧ (∀ p ∈ l, smallO p) ∧ w.ownsRow base 111 3 (.slice (some ⟨g, 0, none⟩) n cap) n (ordVals l)
theorem OwnO.lt (h : OwnO w base g n cap l) : base ≤ g ∧ g < w.heap.size := h.2.2.lt g rfl
theorem OwnO.cases (h : OwnO w base g n cap l) : n ≤ cap ∧ cap ≤ maxLen := by
  rcases h.2.2.2 with ⟨h', _⟩ | ⟨g', cap', cur, h', _, hg, h1, h2, _⟩
  · simp at h'
  · simp only [Value.slice.injEq, Option.some.injEq, Addr.mk.injEq, and_true, true_and] at h'
    obtain ⟨rfl, rfl⟩ := h'
    exact ⟨h1, h2⟩
theorem OwnO.mono (h : OwnO w base g n cap l) (hb : base' ≤ base) : OwnO w base' g n cap l := by
  refine ⟨h.1, h.2.1, h.2.2.1, ?_⟩
  rcases h.2.2.2 with h' | ⟨g', cap', cur, h', h0, r⟩
  · exact .inl h'
  · exact .inr ⟨g', cap', cur, h', by omega, r⟩
theorem OwnO.cell (h : OwnO w base g n cap l) : CellsO w g 0 l := by
  intro i hi
  have hl := h.1
  have k0 := h.2.2.cellAt (i * 3) (by omega)
  have k1 := h.2.2.cellAt (i * 3 + 1) (by omega)
  have k2 := h.2.2.cellAt (i * 3 + 2) (by omega)
  obtain ⟨e0, e1, e2⟩ := ordVals_at l i hi
  rw [e0] at k0
  rw [e1] at k1
  rw [e2] at k2
  rw [Nat.zero_add]
  exact ⟨k0, k1, k2⟩
theorem OwnO.kind (h : OwnO w base g n cap l) (i : Nat) (hi : i < l.length) : w.cell? ⟨g, i * 3, none⟩ = some (.int .i64 l[i].1) := by
  have := (h.cell i hi).1; rwa [Nat.zero_add] at this
theorem OwnO.key (h : OwnO w base g n cap l) (i : Nat) (hi : i < l.length) : w.cell? ⟨g, i * 3 + 1, none⟩ = some (.string l[i].2.1) := by
  have := (h.cell i hi).2.1; rwa [Nat.zero_add] at this
theorem OwnO.val (h : OwnO w base g n cap l) (i : Nat) (hi : i < l.length) : w.cell? ⟨g, i * 3 + 2, none⟩ = some (.string l[i].2.2) := by
  have := (h.cell i hi).2.2; rwa [Nat.zero_add] at this
theorem OwnO.frozen (h : OwnO w base g n cap l) (i : Nat) : w.frozen? ⟨g, i, none⟩ = false := h.2.2.frozenAt i
theorem OwnO.sl (h : OwnO w base g n cap l) : SlO w (some ⟨g, 0, none⟩) n l :=
  ⟨h.1, by have := h.cases; omega, h.2.1, fun _ => ⟨g, 0, rfl, h.cell⟩⟩
theorem OwnO.grown (h : OwnO w base g n cap l) (hg : w.grownBy w' row) (hne : some g ≠ row) : OwnO w' base g n cap l :=
  ⟨h.1, h.2.1, h.2.2.kept hg (.inr hne)⟩
theorem OwnO.below (h : OwnO w base g n cap l) (hb : Below w.heap.size w w') : OwnO w' base g n cap l :=
  ⟨h.1, h.2.1, h.2.2.kept (row := none) ⟨hb.os, hb.tape, hb.output, hb.size, fun k hk _ => hb.block k hk⟩ (.inr (by simp [Value.ownBlock]))⟩
theorem mem_set_smallO {i : Nat} {p : Od} (h : ∀ q ∈ l, smallO q) (hp : smallO p) : ∀ q ∈ l.set i p, smallO q := by
  intro q hq
  rcases List.mem_or_eq_of_mem_set hq with h1 | h1
  · exact h q h1
  · subst h1; exact hp
theorem OwnO.setKind (h : OwnO w base g n cap l) (i : Nat) (hi : i < l.length) (z : Int) (hz : (Lit.int .i64 z).wf = true) :
    OwnO (w.setCell ⟨g, i * 3, none⟩ (.int .i64 z)) base g n cap (l.set i (z, l[i].2)) ∧ w.grownBy (w.setCell ⟨g, i * 3, none⟩ (.int .i64 z)) (some g) := by
  have hs := h.2.2.stored (i * 3) (.int .i64 z)
  rw [ordVals_setKind l i hi] at hs
  exact ⟨⟨by simpa using h.1, mem_set_smallO h.2.1 ⟨hz, (h.2.1 _ (List.getElem_mem hi)).2⟩, hs.1⟩, hs.2⟩
theorem OwnO.setKey (h : OwnO w base g n cap l) (i : Nat) (hi : i < l.length) (k : ByteArray) (hk : k.size ≤ maxLen) :
    OwnO (w.setCell ⟨g, i * 3 + 1, none⟩ (.string k)) base g n cap (l.set i (l[i].1, k, l[i].2.2)) ∧ w.grownBy (w.setCell ⟨g, i * 3 + 1, none⟩ (.string k)) (some g) := by
  have hs := h.2.2.stored (i * 3 + 1) (.string k)
  rw [ordVals_setKey l i hi] at hs
  exact ⟨⟨by simpa using h.1, mem_set_smallO h.2.1 ⟨(h.2.1 _ (List.getElem_mem hi)).1, hk, (h.2.1 _ (List.getElem_mem hi)).2.2⟩, hs.1⟩, hs.2⟩
theorem OwnO.setVal (h : OwnO w base g n cap l) (i : Nat) (hi : i < l.length) (v : ByteArray) (hv : v.size ≤ maxLen) :
    OwnO (w.setCell ⟨g, i * 3 + 2, none⟩ (.string v)) base g n cap (l.set i (l[i].1, l[i].2.1, v)) ∧ w.grownBy (w.setCell ⟨g, i * 3 + 2, none⟩ (.string v)) (some g) := by
  have hs := h.2.2.stored (i * 3 + 2) (.string v)
  rw [ordVals_setVal l i hi] at hs
  exact ⟨⟨by simpa using h.1, mem_set_smallO h.2.1 ⟨(h.2.1 _ (List.getElem_mem hi)).1, (h.2.1 _ (List.getElem_mem hi)).2.1, hv⟩, hs.1⟩, hs.2⟩
theorem OwnO.setAll (h : OwnO w base g n cap l) (i : Nat) (hi : i < l.length) (z : Int) (k v : ByteArray) (hz : (Lit.int .i64 z).wf = true) (hk : k.size ≤ maxLen) (hv : v.size ≤ maxLen) :
    OwnO (((w.setCell ⟨g, i * 3, none⟩ (.int .i64 z)).setCell ⟨g, i * 3 + 1, none⟩ (.string k)).setCell ⟨g, i * 3 + 2, none⟩ (.string v)) base g n cap (l.set i (z, k, v)) ∧ w.grownBy (((w.setCell ⟨g, i * 3, none⟩ (.int .i64 z)).setCell ⟨g, i * 3 + 1, none⟩ (.string k)).setCell ⟨g, i * 3 + 2, none⟩ (.string v)) (some g) := by
  have h0 := h.setKind i hi z hz
  have h1 := h0.1.setKey i (by simpa using hi) k hk
  have h2 := h1.1.setVal i (by simpa using hi) v hv
  simp only [List.getElem_set_self, List.set_set] at h2
  simp only [List.getElem_set_self, List.set_set] at h1
  exact ⟨h2.1, grownBy_trans (grownBy_trans h0.2 h1.2) h2.2⟩
theorem ownO_val {v' : Value} (hl : l.length = n) (hs : ∀ p ∈ l, smallO p) (h0 : ¬ v' = .slice none 0 0)
    (h : w'.ownsRow base 111 3 v' n (ordVals l)) : ∃ g' cap', v' = .slice (some ⟨g', 0, none⟩) n cap' ∧ OwnO w' base g' n cap' l := by
  rcases h.2 with ⟨h2, _⟩ | ⟨g', cap', cur, hv, _⟩
  · exact absurd h2 h0
  · subst hv
    exact ⟨g', cap', rfl, hl, hs, h⟩
theorem ownO_made (w : World) (base : Nat) (hb : base ≤ w.heap.size) : OwnO (w.alloc (.cells #[] 111)) base w.heap.size 0 0 [] :=
  ⟨rfl, fun s h => absurd h List.not_mem_nil, World.ownsRow_made w #[] 0 hb (Nat.zero_le _) rfl⟩
theorem cells_ords (h : CellsO w b off l) : ∀ j v, (ordVals l)[j]? = some v → w.cell? ((⟨b, off, none⟩ : Addr).add j) = some v := by
  intro j v hj
  have hjl : j < l.length * 3 := by have := (List.getElem?_eq_some_iff.1 hj).1; rwa [ordVals_length] at this
  rw [Addr.add_lit]
  obtain ⟨e0, e1, e2⟩ := ordVals_at l (j / 3) (by omega)
  have hc := h (j / 3) (by omega)
  have hm : j = (j / 3) * 3 ∨ j = (j / 3) * 3 + 1 ∨ j = (j / 3) * 3 + 2 := by omega
  rcases hm with e | e | e
  · rw [e, e0] at hj
    rw [e, ← hj]; exact hc.1
  · rw [e, e1] at hj
    rw [e, ← hj]; exact hc.2.1
  · rw [e, e2] at hj
    rw [e, ← hj]; exact hc.2.2
end
theorem infoO : (Try.prog.info? 111).map (fun i => (i.zero, i.size, i.bytes)) = some (some (.agg #[.int .i64 0, .string ⟨#[]⟩, .string ⟨#[]⟩]), 3, 40) := by kernel_rfl

end Go.Proofs.Yteniflajiklffaa.ords

namespace Go.Proofs.Yteniflajiklffaa.wds
open Go Go.RowKit Go.Proofs.Yteniflajiklffaa.base Go.Proofs.Yteniflajiklffaa.pairs Go.Proofs.Yteniflajiklffaa.ords
set_option linter.unusedVariables false
set_option linter.unusedSimpArgs false

/-! ### a slice of orders of the call's own, or nil -/
def OwnV (w : World) (base : Nat) (v : Value) (l : List Od) : Prop := (∀ p ∈ l, smallO p) ∧ w.ownsRow base 111 3 v l.length (ordVals l)
section
variable {w w' : World} {base base' : Nat} {v : Value} {l : List Od} {row : Option Nat}
theorem ownV_of {g n cap : Nat} (h : OwnO w base g n cap l) : OwnV w base (.slice (some ⟨g, 0, none⟩) n cap) l := ⟨h.2.1, by rw [h.1]; exact h.2.2⟩
theorem OwnV.shape (h : OwnV w base v l) : (v = .slice none 0 0 ∧ l = []) ∨ ∃ g cap, v = .slice (some ⟨g, 0, none⟩) l.length cap ∧ OwnO w base g l.length cap l := by
  rcases h.2.2 with ⟨rfl, h0⟩ | ⟨g, cap, cur, rfl, _⟩
  · exact .inl ⟨rfl, List.eq_nil_of_length_eq_zero h0⟩
  · exact .inr ⟨g, cap, rfl, rfl, h.1, h.2⟩
theorem OwnV.lt (h : OwnV w base v l) (k : Nat) (hk : v.ownBlock = some k) : base ≤ k ∧ k < w.heap.size := h.2.lt k hk
theorem OwnV.of_block (h : OwnV w base v l) (hk : ∀ k, v.ownBlock = some k → w'.heap[k]? = w.heap[k]?) : OwnV w' base v l := by
  refine ⟨h.1, h.2.1, ?_⟩
  rcases h.2.2 with h' | ⟨g, cap, cur, rfl, h0, hg, r⟩
  · exact .inl h'
  · exact .inr ⟨g, cap, cur, rfl, h0, (hk g rfl).trans hg, r⟩
theorem OwnV.below (h : OwnV w base v l) (hb : Below w.heap.size w w') : OwnV w' base v l := h.of_block fun k hk => hb.block k (h.lt k hk).2
theorem OwnV.grown (h : OwnV w base v l) (hg : w.grownBy w' row) (hne : v.ownBlock = none ∨ v.ownBlock ≠ row) : OwnV w' base v l :=
  h.of_block fun k hk => hg.block k (h.lt k hk).2 (fun e => by
    rcases hne with h1 | h1
    · rw [hk] at h1; cases h1
    · exact h1 (hk.trans e))
theorem OwnV.mono (h : OwnV w base v l) (hb : base' ≤ base) : OwnV w base' v l := by
  refine ⟨h.1, h.2.1, ?_⟩
  rcases h.2.2 with h' | ⟨g, cap, cur, rfl, h0, r⟩
  · exact .inl h'
  · exact .inr ⟨g, cap, cur, rfl, by omega, r⟩
theorem OwnV.sl (h : OwnV w base v l) : ∃ a cap, v = .slice a l.length cap ∧ SlO w a l.length l ∧ l.length ≤ cap := by
  rcases h.shape with ⟨rfl, rfl⟩ | ⟨g, cap, rfl, hO⟩
  · exact ⟨none, 0, rfl, slo_nil _ _, Nat.le_refl _⟩
  · exact ⟨_, cap, rfl, hO.sl, hO.cases.1⟩
theorem OwnV.one (h : OwnV w base v l) : v.oneCell' = true := by
  rcases h.shape with ⟨rfl, _⟩ | ⟨g, cap, rfl, _⟩ <;> rfl
end

end Go.Proofs.Yteniflajiklffaa.wds

namespace Go.Proofs.Yteniflajiklffaa.ords
open Go Go.RowKit Go.Proofs.Yteniflajiklffaa.base Go.Proofs.Yteniflajiklffaa.pairs
set_option linter.unusedVariables false
set_option linter.unusedSimpArgs false

theorem infoZ : (Try.prog.info? 3).map (fun i => (i.zero, i.size, i.bytes)) = some (some (.int .i64 0), 1, 8) := by kernel_rfl
def intVals (zs : List Int) : List Value := zs.map fun z => .int .i64 z
theorem intVals_length (zs : List Int) : (intVals zs).length = zs.length := by simp [intVals]
theorem intVals_append (a b : List Int) : intVals (a ++ b) = intVals a ++ intVals b := by simp [intVals]
theorem intVals_set (zs : List Int) (k : Nat) (z : Int) : (intVals zs).set k (.int .i64 z) = intVals (zs.set k z) := by simp [intVals]
theorem intVals_oneCell (zs : List Int) : ∀ v ∈ intVals zs, v.oneCell' = true := by
  intro v hv; obtain ⟨_, _, rfl⟩ := List.mem_map.1 hv; rfl
def CellsZ (w : World) (b off : Nat) (zs : List Int) : Prop := ∀ i (h : i < zs.length), w.cell? ⟨b, off + i, none⟩ = some (.int .i64 zs[i])
def SlZ (w : World) (a : Option Addr) (len : Nat) (zs : List Int) : Prop :=
  zs.length = len ∧ len ≤ maxLen ∧ (0 < len → ∃ b off, a = some ⟨b, off, none⟩ ∧ CellsZ w b off zs)
def OwnZ (w : World) (base g n cap : Nat) (zs : List Int) : Prop := zs.length = n ∧ w.ownsRow base 3 1 (.slice (some ⟨g, 0, none⟩) n cap) n (intVals zs)
section
variable {w w' : World} {a : Option Addr} {b off len base base' g n cap : Nat} {zs : List Int} {row : Option Nat}
theorem SlZ.cells (h : SlZ w (some ⟨b, off, none⟩) len zs) : CellsZ w b off zs := by
  intro i hi
  obtain ⟨b', off', e, hc⟩ := h.2.2 (by have := h.1; omega)
  simp only [Option.some.injEq, Addr.mk.injEq, and_true] at e
  obtain ⟨rfl, rfl⟩ := e
  exact hc i hi
theorem SlZ.below (h : SlZ w a len zs) (hb : Below w.heap.size w w') : SlZ w' a len zs := by
  obtain ⟨h1, h2, h3⟩ := h
  refine ⟨h1, h2, fun h0 => ?_⟩
  obtain ⟨b, off, rfl, hc⟩ := h3 h0
  exact ⟨b, off, rfl, fun i hi => (hb.cell (p := ⟨b, off + i, none⟩) (World.block_lt_of_cell? w _ (hc i hi))).trans (hc i hi)⟩
theorem OwnZ.lt (h : OwnZ w base g n cap zs) : base ≤ g ∧ g < w.heap.size := h.2.lt g rfl
theorem OwnZ.cases (h : OwnZ w base g n cap zs) : n ≤ cap ∧ cap ≤ maxLen := by
  rcases h.2.2 with ⟨h', _⟩ | ⟨g', cap', cur, h', _, hg, h1, h2, _⟩
  · simp at h'
  · simp only [Value.slice.injEq, Option.some.injEq, Addr.mk.injEq, and_true, true_and] at h'
    obtain ⟨rfl, rfl⟩ := h'
    exact ⟨h1, h2⟩
theorem OwnZ.mono (h : OwnZ w base g n cap zs) (hb : base' ≤ base) : OwnZ w base' g n cap zs := by
  refine ⟨h.1, h.2.1, ?_⟩
  rcases h.2.2 with h' | ⟨g', cap', cur, h', h0, r⟩
  · exact .inl h'
  · exact .inr ⟨g', cap', cur, h', by omega, r⟩
theorem OwnZ.at (h : OwnZ w base g n cap zs) (i : Nat) (hi : i < zs.length) : w.cell? ⟨g, i, none⟩ = some (.int .i64 zs[i]) := by
  have hl := h.1
  rw [h.2.cellAt i (by omega)]
  simp [intVals, hi]
theorem OwnZ.frozen (h : OwnZ w base g n cap zs) (i : Nat) : w.frozen? ⟨g, i, none⟩ = false := h.2.frozenAt i
theorem OwnZ.sl (h : OwnZ w base g n cap zs) : SlZ w (some ⟨g, 0, none⟩) n zs :=
  ⟨h.1, by have := h.cases; omega, fun _ => ⟨g, 0, rfl, fun i hi => by rw [Nat.zero_add]; exact h.at i hi⟩⟩
theorem OwnZ.grown (h : OwnZ w base g n cap zs) (hg : w.grownBy w' row) (hne : some g ≠ row) : OwnZ w' base g n cap zs := ⟨h.1, h.2.kept hg (.inr hne)⟩
theorem OwnZ.below (h : OwnZ w base g n cap zs) (hb : Below w.heap.size w w') : OwnZ w' base g n cap zs :=
  ⟨h.1, h.2.kept (row := none) ⟨hb.os, hb.tape, hb.output, hb.size, fun k hk _ => hb.block k hk⟩ (.inr (by simp [Value.ownBlock]))⟩
theorem cells_ints (h : CellsZ w b off zs) : ∀ j v, (intVals zs)[j]? = some v → w.cell? ((⟨b, off, none⟩ : Addr).add j) = some v := by
  intro j v hj
  have hjl : j < zs.length := by have := (List.getElem?_eq_some_iff.1 hj).1; rwa [intVals_length] at this
  rw [Addr.add_lit, h j hjl]
  simpa [intVals, hjl] using hj
theorem ownZ_made (w : World) (base : Nat) (hb : base ≤ w.heap.size) : OwnZ (w.alloc (.cells #[] 3)) base w.heap.size 0 0 [] :=
  ⟨rfl, World.ownsRow_made w #[] 0 hb (Nat.zero_le _) rfl⟩
theorem ownZ_val {v' : Value} (hl : zs.length = n) (h0 : ¬ v' = .slice none 0 0) (h : w'.ownsRow base 3 1 v' n (intVals zs)) :
    ∃ g' cap', v' = .slice (some ⟨g', 0, none⟩) n cap' ∧ OwnZ w' base g' n cap' zs := by
  rcases h.2 with ⟨h2, _⟩ | ⟨g', cap', cur, hv, _⟩
  · exact absurd h2 h0
  · subst hv
    exact ⟨g', cap', rfl, hl, h⟩
theorem ownZ_app {v' : Value} {z : Int} (hl : zs.length = n) (h0 : ¬ v' = .slice none 0 0) (h : w'.ownsRow base 3 1 v' (n + 1) (intVals zs ++ intVals [z])) :
    ∃ g' cap', v' = .slice (some ⟨g', 0, none⟩) (n + 1) cap' ∧ OwnZ w' base g' (n + 1) cap' (zs ++ [z]) := by
  rw [← intVals_append] at h
  exact ownZ_val (by simp; omega) h0 h
theorem ownZ_set (h : OwnZ w base g n cap zs) (k : Nat) (z : Int) :
    OwnZ (w.setCell ⟨g, k, none⟩ (.int .i64 z)) base g n cap (zs.set k z) ∧ w.grownBy (w.setCell ⟨g, k, none⟩ (.int .i64 z)) (some g) := by
  have hs := h.2.stored k (.int .i64 z)
  rw [intVals_set] at hs
  exact ⟨⟨by simpa using h.1, hs.1⟩, hs.2⟩
end
theorem one_int_cells (w : World) (z : Int) (t : TypeId) : ∀ j u, (intVals [z])[j]? = some u → (w.alloc (.cells #[.int .i64 z] t)).cell? ((⟨w.heap.size, 0, none⟩ : Addr).add j) = some u := by
  intro j u hj
  match j, hj with
  | 0, hj => simp [intVals] at hj; subst hj; simp [Addr.add]

/-! ### a number put in order -/
theorem putI_at (zs : List Int) (n : Int) (k : Nat) (ha : Asc zs) (hn : n ∉ zs) (hk : k ≤ zs.length) (hd : ∀ x ∈ zs.drop k, n < x) (ht : k = 0 ∨ ∃ h : k - 1 < zs.length, ¬ n < zs[k - 1]) : putI zs n = zs.take k ++ n :: zs.drop k := by
  have htk : ∀ x ∈ zs.take k, x < n := by
    intro x hx
    rcases ht with rfl | ⟨h1, h2⟩
    · simp at hx
    · obtain ⟨i, hi, rfl⟩ := List.getElem_of_mem hx
      have hik : i < k := by simp at hi; omega
      rw [List.getElem_take]
      have hne : zs[k - 1] ≠ n := fun e => hn (e ▸ List.getElem_mem h1)
      by_cases e : i = k - 1
      · subst e; omega
      · have := List.pairwise_iff_getElem.1 ha i (k - 1) (by omega) h1 (by omega)
        omega
  unfold putI
  rw [if_neg hn]
  have e := List.take_append_drop k zs
  have e1 : zs.filter (fun x => decide (x < n)) = zs.take k := by
    conv => lhs; rw [← e, List.filter_append]
    rw [List.filter_eq_self.2 (fun x hx => by simpa using htk x hx), List.filter_eq_nil_iff.2 (fun x hx => by have := hd x hx; simp; omega), List.append_nil]
  have e2 : zs.filter (fun x => decide (n < x)) = zs.drop k := by
    conv => lhs; rw [← e, List.filter_append]
    rw [List.filter_eq_nil_iff.2 (fun x hx => by have := htk x hx; simp; omega), List.filter_eq_self.2 (fun x hx => by simpa using hd x hx), List.nil_append]
  rw [e1, e2]
def gap (zs : List Int) (k : Nat) (x : Int) : List Int := zs.take k ++ x :: zs.drop k
theorem gap_length (zs : List Int) (k : Nat) (x : Int) (h : k ≤ zs.length) : (gap zs k x).length = zs.length + 1 := by unfold gap; simp; omega
theorem gap_set (zs : List Int) (k : Nat) (x y : Int) (h : k ≤ zs.length) : (gap zs k x).set k y = gap zs k y := by
  unfold gap
  rw [List.set_append_right _ _ (by simp; omega), List.length_take_of_le h, Nat.sub_self, List.set_cons_zero]
theorem gap_prev (zs : List Int) (k : Nat) (x : Int) (h0 : 0 < k) (h : k ≤ zs.length) : (gap zs k x)[k - 1]? = some (zs[k - 1]'(by omega)) := by
  unfold gap
  rw [List.getElem?_append_left (by simp; omega), List.getElem?_take_of_lt (by omega), List.getElem?_eq_getElem (by omega)]
theorem gap_down (zs : List Int) (k : Nat) (h0 : 0 < k) (h : k ≤ zs.length) : gap zs k (zs[k - 1]'(by omega)) = gap zs (k - 1) (zs[k - 1]'(by omega)) := by
  unfold gap
  obtain ⟨j, rfl⟩ : ∃ j, k = j + 1 := ⟨k - 1, by omega⟩
  simp only [Nat.add_sub_cancel]
  rw [List.take_succ_eq_append_getElem (by omega), List.drop_eq_getElem_cons (i := j) (by omega), List.append_assoc]
  rfl
end Go.Proofs.Yteniflajiklffaa.ords

namespace Go.Proofs.Yteniflajiklffaa.cos
open Go Go.RowKit Go.Proofs.Yteniflajiklffaa.base Go.Proofs.Yteniflajiklffaa.pairs Go.Proofs.Yteniflajiklffaa.ords
set_option linter.unusedVariables false
set_option linter.unusedSimpArgs false

abbrev Jb := Int × List Od × Int × List Int
abbrev Ch := Int × Bool
abbrev Co := Int × Int × Int × List Jb × List Ch × Int
def chosen (l : List Ch) (tx : Int) : Option Nat := l.findIdx? fun c => decide (c.1 = tx)
def jobAt (l : List Jb) (tx : Int) : Option Nat := l.findIdx? fun j => decide (j.1 = tx)
def idx (r : Option Nat) : Int := match r with | none => -1 | some k => (k : Int)
def choice (l : List Ch) (tx : Int) : Option Bool := (l.find? fun c => decide (c.1 = tx)).map fun c => c.2
def yesOk (list : List Int) : Option Int → List Int → Bool
  | _, [] => true
  | p, x :: r => (decide (x ∈ list) && match p with | none => true | some q => decide (q < x)) && yesOk list (some x) r
def stateOk (st : Int) : Option Bool → Bool
  | none => decide (st = 1)
  | some true => decide (st = 2)
  | some false => decide (st = 3)
def jobOk (n life next : Int) (log : List Ch) (p : Option Int) (j : Jb) : Bool :=
  decide (life * 1000 ≤ j.1 ∧ j.1 ≤ life * 1000 + next - 1) && (match p with | none => true | some q => decide (q < j.1)) && opsOk j.2.1 && decide (1 ≤ j.2.2.1 ∧ j.2.2.1 ≤ 3) && yesOk (shardsOf n j.2.1) none j.2.2.2 && stateOk j.2.2.1 (choice log j.1)
def jobsOk (n life next : Int) (log : List Ch) : Option Int → List Jb → Bool
  | _, [] => true
  | p, j :: r => jobOk n life next log p j && jobsOk n life next log (some j.1) r
def logOk (hi : Int) (log : List Ch) : Bool := log.all (fun c => decide (1000 ≤ c.1 ∧ c.1 ≤ hi)) && decide ((log.map fun c => c.1).Nodup)
def headOk (c : Co) : Bool := decide (1 ≤ c.1 ∧ c.1 ≤ 8) && decide (1 ≤ c.2.1 ∧ c.2.1 ≤ 900) && decide (0 ≤ c.2.2.1 ∧ c.2.2.1 ≤ 999) && decide (c.2.2.2.2.1.length ≤ 1000) && decide (0 ≤ c.2.2.2.2.2 ∧ c.2.2.2.2.2 ≤ (c.2.2.2.2.1.length : Int))
def coordOk (c : Co) : Bool := headOk c && logOk (c.2.1 * 1000 + c.2.2.1 - 1) c.2.2.2.2.1 && jobsOk c.1 c.2.1 c.2.2.1 c.2.2.2.2.1 none c.2.2.2.1

/-! ### places -/
theorem findIdx?_go {α : Type} (p : α → Bool) (l : List α) (k : Nat) (hk : k ≤ l.length) (h : ∀ i (hi : i < k), p (l[i]'(by omega)) = false) : l.findIdx? p = ((l.drop k).findIdx? p).map (· + k) := by
  induction k generalizing l with
  | zero => simp
  | succ k ih =>
    cases l with
    | nil => simp at hk
    | cons x l =>
      have h0 : p x = false := h 0 (by omega)
      rw [List.findIdx?_cons, h0]
      simp only [Bool.false_eq_true, if_false, List.drop_succ_cons]
      rw [ih l (by simpa using hk) (fun i hi => by simpa using h (i + 1) (by omega))]
      cases (l.drop k).findIdx? p <;> simp [Nat.add_assoc]
theorem findIdx_hit {α : Type} {p : α → Bool} {l : List α} {k : Nat} (hk : k < l.length) (h : ∀ i (hi : i < k), p (l[i]'(by omega)) = false) (hp : p l[k] = true) : l.findIdx? p = some k := by
  rw [findIdx?_go p l k (by omega) h, List.drop_eq_getElem_cons hk, List.findIdx?_cons, hp]
  simp
theorem findIdx_none {α : Type} {p : α → Bool} {l : List α} (h : ∀ i (hi : i < l.length), p l[i] = false) : l.findIdx? p = none := by
  rw [findIdx?_go p l l.length (Nat.le_refl _) (fun i hi => h i hi), List.drop_length]
  rfl
theorem findIdx_some {α : Type} {p : α → Bool} {l : List α} {k : Nat} (h : l.findIdx? p = some k) : ∃ hk : k < l.length, p l[k] = true ∧ ∀ i (hi : i < k), p (l[i]'(by omega)) = false := by
  induction l generalizing k with
  | nil => simp at h
  | cons x l ih =>
    rw [List.findIdx?_cons] at h
    cases hx : p x
    · rw [hx] at h
      simp only [Bool.false_eq_true, if_false] at h
      cases h2 : l.findIdx? p with
      | none => rw [h2] at h; cases h
      | some j =>
        rw [h2] at h
        simp only [Option.map_some, Option.some.injEq] at h
        subst h
        obtain ⟨hj, hp, hb⟩ := ih h2
        refine ⟨by simp; omega, by simpa using hp, fun i hi => ?_⟩
        cases i with
        | zero => exact hx
        | succ i => simpa using hb i (by omega)
    · rw [hx] at h
      simp only [if_true, Option.some.injEq] at h
      subst h
      exact ⟨by simp, hx, fun i hi => absurd hi (by omega)⟩
theorem find_of_idx {α : Type} {p : α → Bool} {l : List α} : (∀ k, l.findIdx? p = some k → ∃ hk : k < l.length, l.find? p = some l[k]) ∧ (l.findIdx? p = none → l.find? p = none) := by
  induction l with
  | nil => exact ⟨fun k h => by simp at h, fun _ => rfl⟩
  | cons x l ih =>
    constructor
    · intro k h
      rw [List.findIdx?_cons] at h
      cases hx : p x
      · rw [hx] at h
        simp only [Bool.false_eq_true, if_false] at h
        cases h2 : l.findIdx? p with
        | none => rw [h2] at h; cases h
        | some j =>
          rw [h2] at h
          simp only [Option.map_some, Option.some.injEq] at h
          subst h
          obtain ⟨hj, e⟩ := ih.1 j h2
          exact ⟨by simp; omega, by rw [List.find?_cons, hx]; simpa using e⟩
      · rw [hx] at h
        simp only [if_true, Option.some.injEq] at h
        subst h
        exact ⟨by simp, by rw [List.find?_cons, hx]; rfl⟩
    · intro h
      rw [List.findIdx?_cons] at h
      cases hx : p x
      · rw [hx] at h
        simp only [Bool.false_eq_true, if_false, Option.map_eq_none_iff] at h
        rw [List.find?_cons, hx]
        exact ih.2 h
      · rw [hx] at h; cases h
theorem choice_some {log : List Ch} {tx : Int} {k : Nat} (h : chosen log tx = some k) : ∃ hk : k < log.length, choice log tx = some log[k].2 := by
  obtain ⟨hk, e⟩ := find_of_idx.1 k h
  exact ⟨hk, by unfold choice; rw [e]; rfl⟩
theorem choice_none {log : List Ch} {tx : Int} (h : chosen log tx = none) : choice log tx = none := by
  unfold choice; rw [find_of_idx.2 h]; rfl
theorem nodup_iff {log : List Ch} : (log.map fun c => c.1).Nodup ↔ ∀ i (hi : i < log.length), chosen log log[i].1 = some i := by
  constructor
  · intro h i hi
    refine findIdx_hit hi (fun j hj => decide_eq_false fun e => ?_) (decide_eq_true rfl)
    have := List.pairwise_iff_getElem.1 h j i (by simp; omega) (by simpa using hi) hj
    simp only [List.getElem_map] at this
    exact this e
  · intro h
    refine List.pairwise_iff_getElem.2 fun i j hi hj hij => ?_
    simp only [List.getElem_map]
    intro e
    simp only [List.length_map] at hi hj
    have h1 := h j hj
    rw [← e, h i hi] at h1
    simp only [Option.some.injEq] at h1
    omega
end Go.Proofs.Yteniflajiklffaa.cos

namespace Go.Proofs.Yteniflajiklffaa.cos
open Go Go.RowKit Go.Proofs.Yteniflajiklffaa.base Go.Proofs.Yteniflajiklffaa.pairs Go.Proofs.Yteniflajiklffaa.ords Go.Proofs.Yteniflajiklffaa.lay Go.Proofs.Yteniflajiklffaa.wds
set_option linter.unusedVariables false
set_option linter.unusedSimpArgs false

/-! ### types without slices -/
structure Flat {α : Type} (R : Rd α) (enc : α → List Value) (ok : α → Prop) : Prop where
  own : ∀ {w vs x F}, R.own w vs x F ↔ vs = enc x ∧ ok x ∧ F = []
  see : ∀ {w vs x}, R.see w vs x ↔ vs = enc x ∧ ok x
theorem flat_int : Flat int (fun x => [.int .i64 x]) (fun x => (Lit.int .i64 x).wf = true) :=
  ⟨fun {_ _ _ _} => ⟨fun h => ⟨h.1.1, h.1.2, h.2⟩, fun h => ⟨⟨h.1, h.2.1⟩, h.2.2⟩⟩, fun {_ _ _} => Iff.rfl⟩
theorem flat_bool : Flat bool (fun x => [.bool x]) (fun _ => True) :=
  ⟨fun {_ _ _ _} => ⟨fun h => ⟨h.1, trivial, h.2⟩, fun h => ⟨h.1, h.2.2⟩⟩, fun {_ _ _} => ⟨fun h => ⟨h, trivial⟩, fun h => h.1⟩⟩
theorem flat_str : Flat str (fun x => [.string x]) (fun x => x.size ≤ maxLen) :=
  ⟨fun {_ _ _ _} => ⟨fun h => ⟨h.1.1, h.1.2, h.2⟩, fun h => ⟨⟨h.1, h.2.1⟩, h.2.2⟩⟩, fun {_ _ _} => Iff.rfl⟩
theorem flat_both {α β : Type} {R : Rd α} {S : Rd β} {e1 : α → List Value} {e2 : β → List Value} {o1 : α → Prop} {o2 : β → Prop} (h1 : Flat R e1 o1) (h2 : Flat S e2 o2) : Flat (both R S) (fun x => e1 x.1 ++ e2 x.2) (fun x => o1 x.1 ∧ o2 x.2) := by
  constructor
  · intro w vs x F
    constructor
    · rintro ⟨us, ts, F1, F2, rfl, rfl, h3, h4, _⟩
      obtain ⟨rfl, k1, rfl⟩ := h1.own.1 h3
      obtain ⟨rfl, k2, rfl⟩ := h2.own.1 h4
      exact ⟨rfl, ⟨k1, k2⟩, rfl⟩
    · rintro ⟨rfl, ⟨k1, k2⟩, rfl⟩
      exact ⟨_, _, [], [], rfl, rfl, h1.own.2 ⟨rfl, k1, rfl⟩, h2.own.2 ⟨rfl, k2, rfl⟩, List.nodup_nil⟩
  · intro w vs x
    constructor
    · rintro ⟨us, ts, rfl, h3, h4⟩
      obtain ⟨rfl, k1⟩ := h1.see.1 h3
      obtain ⟨rfl, k2⟩ := h2.see.1 h4
      exact ⟨rfl, k1, k2⟩
    · rintro ⟨rfl, k1, k2⟩
      exact ⟨_, _, rfl, h1.see.2 ⟨rfl, k1⟩, h2.see.2 ⟨rfl, k2⟩⟩
section
variable {α : Type} {R : Rd α} {enc : α → List Value} {ok : α → Prop} {ty : TypeId} {w : World} {v : Value} {l : List α} {q : Parts} {F : List Nat}
theorem Flat.parts (hR : Flat R enc ok) (h : OwnG ty R w v l q) : q = l.map (fun x => (enc x, [])) ∧ (∀ x ∈ l, ok x) ∧ blocksOf q = [] ∧ cellsOf q = l.flatMap enc := by
  have hl := h.len
  have e : q = l.map (fun x => (enc x, [])) := by
    refine List.ext_getElem (by simp [hl]) fun i h1 h2 => ?_
    have h3 := hR.own.1 (h.each i (by omega))
    rw [List.getElem_map]
    exact Prod.ext h3.1 h3.2.2
  refine ⟨e, fun x hx => ?_, ?_, ?_⟩
  · obtain ⟨i, hi, rfl⟩ := List.getElem_of_mem hx
    exact (hR.own.1 (h.each i hi)).2.1
  · rw [e]; unfold blocksOf; rw [List.flatMap_map]; simp
  · rw [e]; unfold cellsOf; rw [List.flatMap_map]
theorem Flat.row (hR : Flat R enc ok) (h : OwnG ty R w v l q) : w.ownsRow 0 ty R.size v l.length (l.flatMap enc) := by
  rw [← (hR.parts h).2.2.2]; exact h.row
theorem Flat.made (hR : Flat R enc ok) (hr : w.ownsRow 0 ty R.size v l.length (l.flatMap enc)) (hok : ∀ x ∈ l, ok x) : OwnG ty R w v l (l.map (fun x => (enc x, []))) := by
  have e1 : cellsOf (l.map (fun x => (enc x, ([] : List Nat)))) = l.flatMap enc := by unfold cellsOf; rw [List.flatMap_map]
  have e2 : blocksOf (l.map (fun x => (enc x, ([] : List Nat)))) = [] := by unfold blocksOf; rw [List.flatMap_map]; simp
  refine ⟨by simp, by rw [e1]; exact hr, fun i hi => ?_, by rw [e2]; cases v.ownBlock <;> simp⟩
  simp only [List.getElem_map]
  exact hR.own.2 ⟨rfl, hok _ (List.getElem_mem _), rfl⟩
theorem Flat.slice (hR : Flat R enc ok) : (lay.slice ty R).own w [v] l F ↔ w.ownsRow 0 ty R.size v l.length (l.flatMap enc) ∧ (∀ x ∈ l, ok x) ∧ F = v.ownBlock.toList := by
  constructor
  · rintro ⟨v', q, e, rfl, h⟩
    cases e
    exact ⟨hR.row h, (hR.parts h).2.1, by rw [(hR.parts h).2.2.1, List.append_nil]⟩
  · rintro ⟨h1, h2, rfl⟩
    have h3 := hR.made h1 h2
    exact ⟨v, _, rfl, by rw [(hR.parts h3).2.2.1, List.append_nil], h3⟩
end
/-! ### pairs, orders, whole numbers -/
def opR : Rd Od := both int (both str str)
theorem flat_op : Flat opR (fun o => [.int .i64 o.1, .string o.2.1, .string o.2.2]) smallO := flat_both flat_int (flat_both flat_str flat_str)
def opsR : Rd (List Od) := slice 111 opR
def intsR : Rd (List Int) := slice 3 int
section
variable {w w' : World} {a : Option Addr} {n cap : Nat} {F : List Nat} {v : Value}
theorem ops_own {l : List Od} : opsR.own w [v] l F ↔ OwnV w 0 v l ∧ F = v.ownBlock.toList := by
  unfold opsR
  rw [flat_op.slice]
  constructor
  · rintro ⟨h1, h2, h3⟩
    exact ⟨⟨h2, h1⟩, h3⟩
  · rintro ⟨⟨h1, h2⟩, h4⟩
    exact ⟨h2, h1, h4⟩
theorem ops_see {l : List Od} : opsR.see w [.slice a n cap] l ↔ SlO w a n l ∧ n ≤ cap := by
  constructor
  · rintro ⟨a', n', c', e, hc, h1, h2, h3, h4⟩
    cases e
    refine ⟨⟨h1, h2, fun p hp => ?_, fun h0 => ?_⟩, hc⟩
    · obtain ⟨vs, hv⟩ := h3 p hp
      exact (flat_op.see.1 hv).2
    · obtain ⟨b, off, e, hi⟩ := h4 h0
      refine ⟨b, off, e, fun i hl => ?_⟩
      obtain ⟨vs, hs, hcl⟩ := hi i hl
      obtain ⟨rfl, _⟩ := flat_op.see.1 hs
      exact ⟨hcl 0 _ rfl, hcl 1 _ rfl, hcl 2 _ rfl⟩
  · rintro ⟨⟨h1, h2, h3, h4⟩, hc⟩
    refine ⟨a, n, cap, rfl, hc, h1, h2, fun p hp => ⟨_, flat_op.see.2 ⟨rfl, h3 p hp⟩⟩, fun h0 => ?_⟩
    obtain ⟨b, off, e, hi⟩ := h4 h0
    refine ⟨b, off, e, fun i hl => ⟨_, flat_op.see.2 ⟨rfl, h3 _ (List.getElem_mem hl)⟩, fun j u hu => ?_⟩⟩
    obtain ⟨c0, c1, c2⟩ := hi i hl
    match j, hu with
    | 0, hu => cases hu; exact c0
    | 1, hu => cases hu; exact c1
    | 2, hu => cases hu; exact c2
def OwnZV (w : World) (v : Value) (l : List Int) : Prop := (∀ z ∈ l, (Lit.int .i64 z).wf = true) ∧ w.ownsRow 0 3 1 v l.length (intVals l)
theorem flatMap_ints (l : List Int) : (l.flatMap fun x => [Value.int .i64 x]) = intVals l := by
  induction l with
  | nil => rfl
  | cons x l ih => simp only [List.flatMap_cons, ih]; rfl
theorem ints_own {l : List Int} : intsR.own w [v] l F ↔ OwnZV w v l ∧ F = v.ownBlock.toList := by
  unfold intsR
  rw [flat_int.slice, flatMap_ints]
  constructor
  · rintro ⟨h1, h2, h3⟩
    exact ⟨⟨h2, h1⟩, h3⟩
  · rintro ⟨⟨h1, h2⟩, h4⟩
    exact ⟨h2, h1, h4⟩
theorem ints_see {l : List Int} : intsR.see w [.slice a n cap] l ↔ (SlZ w a n l ∧ ∀ z ∈ l, (Lit.int .i64 z).wf = true) ∧ n ≤ cap := by
  constructor
  · rintro ⟨a', n', c', e, hc, h1, h2, h3, h4⟩
    cases e
    refine ⟨⟨⟨h1, h2, fun h0 => ?_⟩, fun p hp => ?_⟩, hc⟩
    · obtain ⟨b, off, e, hi⟩ := h4 h0
      refine ⟨b, off, e, fun i hl => ?_⟩
      obtain ⟨vs, hs, hcl⟩ := hi i hl
      obtain ⟨rfl, _⟩ := flat_int.see.1 hs
      have := hcl 0 _ rfl
      simpa [int] using this
    · obtain ⟨vs, hv⟩ := h3 p hp
      exact (flat_int.see.1 hv).2
  · rintro ⟨⟨⟨h1, h2, h4⟩, h3⟩, hc⟩
    refine ⟨a, n, cap, rfl, hc, h1, h2, fun p hp => ⟨_, flat_int.see.2 ⟨rfl, h3 p hp⟩⟩, fun h0 => ?_⟩
    obtain ⟨b, off, e, hi⟩ := h4 h0
    refine ⟨b, off, e, fun i hl => ⟨_, flat_int.see.2 ⟨rfl, h3 _ (List.getElem_mem hl)⟩, fun j u hu => ?_⟩⟩
    have c0 := hi i hl
    match j, hu with
    | 0, hu => cases hu; simpa [int] using c0
end

/-! ### jobs and choices -/
def jobR : Rd Jb := both int (both opsR (both int intsR))
def jobsR : Rd (List Jb) := slice 65 jobR
def chR : Rd Ch := both int bool
def logR : Rd (List Ch) := slice 42 chR
theorem flat_ch : Flat chR (fun c => [.int .i64 c.1, .bool c.2]) (fun c => (Lit.int .i64 c.1).wf = true ∧ True) := flat_both flat_int flat_bool
section
variable {w w' : World} {a : Option Addr} {n cap : Nat} {F : List Nat} {v : Value}
theorem job_see {vs : List Value} {j : Jb} : jobR.see w vs j ↔ ∃ oa ol oc ya yl yc, vs = [.int .i64 j.1, .slice oa ol oc, .int .i64 j.2.2.1, .slice ya yl yc] ∧ (Lit.int .i64 j.1).wf = true ∧ (Lit.int .i64 j.2.2.1).wf = true ∧ (SlO w oa ol j.2.1 ∧ ol ≤ oc) ∧ (SlZ w ya yl j.2.2.2 ∧ ∀ z ∈ j.2.2.2, (Lit.int .i64 z).wf = true) ∧ yl ≤ yc := by
  constructor
  · rintro ⟨us, ts, rfl, h1, us2, ts2, rfl, h2, us3, ts3, rfl, h3, h4⟩
    obtain ⟨rfl, k1⟩ := flat_int.see.1 h1
    obtain ⟨rfl, k3⟩ := flat_int.see.1 h3
    obtain ⟨oa, ol, oc, rfl, _⟩ := id h2
    obtain ⟨ya, yl, yc, rfl, _⟩ := id h4
    have h5 := ops_see.1 h2
    have h6 := ints_see.1 h4
    exact ⟨oa, ol, oc, ya, yl, yc, rfl, k1, k3, h5, h6.1, h6.2⟩
  · rintro ⟨oa, ol, oc, ya, yl, yc, rfl, k1, k3, h5, h6, h7⟩
    exact ⟨[_], [_, _, _], rfl, flat_int.see.2 ⟨rfl, k1⟩, [_], [_, _], rfl, ops_see.2 h5, [_], [_], rfl, flat_int.see.2 ⟨rfl, k3⟩, ints_see.2 ⟨h6, h7⟩⟩
theorem job_own {vs : List Value} {j : Jb} : jobR.own w vs j F ↔ ∃ x y, vs = [.int .i64 j.1, x, .int .i64 j.2.2.1, y] ∧ (Lit.int .i64 j.1).wf = true ∧ (Lit.int .i64 j.2.2.1).wf = true ∧ OwnV w 0 x j.2.1 ∧ OwnZV w y j.2.2.2 ∧ F = x.ownBlock.toList ++ y.ownBlock.toList ∧ F.Nodup := by
  constructor
  · rintro ⟨us, ts, F1, F2, rfl, rfl, h1, ⟨us2, ts2, F3, F4, rfl, rfl, h2, ⟨us3, ts3, F5, F6, rfl, rfl, h3, h4, n3⟩, n2⟩, n1⟩
    obtain ⟨rfl, k1, rfl⟩ := flat_int.own.1 h1
    obtain ⟨rfl, k3, rfl⟩ := flat_int.own.1 h3
    obtain ⟨a1, c1, q1, rfl, _⟩ := own_open h2
    obtain ⟨a2, c2, q2, rfl, _⟩ := own_open h4
    obtain ⟨h5, rfl⟩ := ops_own.1 h2
    obtain ⟨h6, rfl⟩ := ints_own.1 h4
    exact ⟨_, _, rfl, k1, k3, h5, h6, rfl, n1⟩
  · rintro ⟨x, y, rfl, k1, k3, h5, h6, rfl, hn⟩
    have hn2 := (nodup_parts hn).2.1
    exact ⟨[_], [x, _, y], [], _, rfl, rfl, flat_int.own.2 ⟨rfl, k1, rfl⟩, ⟨[x], [_, y], _, _, rfl, rfl, ops_own.2 ⟨h5, rfl⟩, ⟨[_], [y], [], _, rfl, rfl, flat_int.own.2 ⟨rfl, k3, rfl⟩, ints_own.2 ⟨h6, rfl⟩, hn2⟩, hn⟩, hn⟩
theorem job_at {b off len : Nat} {l : List Jb} (h : SlG jobR w (some ⟨b, off, none⟩) len l) (i : Nat) (hi : i < l.length) :
    w.cell? ⟨b, off + i * 4, none⟩ = some (.int .i64 l[i].1) ∧ w.cell? ⟨b, off + i * 4 + 2, none⟩ = some (.int .i64 l[i].2.2.1) ∧
      (∃ oa ol oc, w.cell? ⟨b, off + i * 4 + 1, none⟩ = some (.slice oa ol oc) ∧ SlO w oa ol l[i].2.1 ∧ ol ≤ oc) ∧ (∃ ya yl yc, w.cell? ⟨b, off + i * 4 + 3, none⟩ = some (.slice ya yl yc) ∧ SlZ w ya yl l[i].2.2.2 ∧ yl ≤ yc) := by
  obtain ⟨b', off', e, hc⟩ := h.2.2.2 (by have := h.1; omega)
  simp only [Option.some.injEq, Addr.mk.injEq, and_true] at e
  obtain ⟨rfl, rfl⟩ := e
  obtain ⟨vs, hs, hcl⟩ := hc i hi
  obtain ⟨oa, ol, oc, ya, yl, yc, rfl, k1, k3, h5, h6, h7⟩ := job_see.1 hs
  exact ⟨hcl 0 _ rfl, hcl 2 _ rfl, ⟨oa, ol, oc, hcl 1 _ rfl, h5.1, h5.2⟩, ya, yl, yc, hcl 3 _ rfl, h6.1, h7⟩
theorem ch_at {b off len : Nat} {l : List Ch} (h : SlG chR w (some ⟨b, off, none⟩) len l) (i : Nat) (hi : i < l.length) : w.cell? ⟨b, off + i * 2, none⟩ = some (.int .i64 l[i].1) ∧ w.cell? ⟨b, off + i * 2 + 1, none⟩ = some (.bool l[i].2) := by
  obtain ⟨b', off', e, hc⟩ := h.2.2.2 (by have := h.1; omega)
  simp only [Option.some.injEq, Addr.mk.injEq, and_true] at e
  obtain ⟨rfl, rfl⟩ := e
  obtain ⟨vs, hs, hcl⟩ := hc i hi
  obtain ⟨rfl, _⟩ := flat_ch.see.1 hs
  exact ⟨hcl 0 _ rfl, hcl 1 _ rfl⟩
theorem slg_some {α : Type} {R : Rd α} {len : Nat} {l : List α} (h : SlG R w a len l) (h0 : 0 < len) : ∃ b off, a = some ⟨b, off, none⟩ := by
  obtain ⟨b, off, e, _⟩ := h.2.2.2 h0
  exact ⟨b, off, e⟩
end

/-! ### one who decides -/
def coordR : Rd Co := both int (both int (both int (both jobsR (both logR int))))
def coVals (n life next sure : Int) (ja : Option Addr) (jn jc : Nat) (la : Option Addr) (ln lc : Nat) : List Value := [.int .i64 n, .int .i64 life, .int .i64 next, .slice ja jn jc, .slice la ln lc, .int .i64 sure]
structure SeeCo (w : World) (ja : Option Addr) (jn jc : Nat) (la : Option Addr) (ln lc : Nat) (c : Co) : Prop where
  n : (Lit.int .i64 c.1).wf = true
  life : (Lit.int .i64 c.2.1).wf = true
  next : (Lit.int .i64 c.2.2.1).wf = true
  sure : (Lit.int .i64 c.2.2.2.2.2).wf = true
  jobs : SlG jobR w ja jn c.2.2.2.1
  log : SlG chR w la ln c.2.2.2.2.1
  jc : jn ≤ jc
  lc : ln ≤ lc
section
variable {w w' : World} {ja : Option Addr} {jn jc : Nat} {la : Option Addr} {ln lc : Nat} {c : Co} {vs : List Value} {F : List Nat}
theorem SeeCo.below (h : SeeCo w ja jn jc la ln lc c) (hb : Below w.heap.size w w') : SeeCo w' ja jn jc la ln lc c := ⟨h.n, h.life, h.next, h.sure, h.jobs.below hb, h.log.below hb, h.jc, h.lc⟩
theorem coord_see : coordR.see w vs c ↔ ∃ ja jn jc la ln lc, vs = coVals c.1 c.2.1 c.2.2.1 c.2.2.2.2.2 ja jn jc la ln lc ∧ SeeCo w ja jn jc la ln lc c := by
  constructor
  · rintro ⟨u1, t1, rfl, h1, u2, t2, rfl, h2, u3, t3, rfl, h3, u4, t4, rfl, h4, u5, t5, rfl, h5, h6⟩
    obtain ⟨rfl, k1⟩ := flat_int.see.1 h1
    obtain ⟨rfl, k2⟩ := flat_int.see.1 h2
    obtain ⟨rfl, k3⟩ := flat_int.see.1 h3
    obtain ⟨rfl, k6⟩ := flat_int.see.1 h6
    obtain ⟨ja, jn, jc, rfl, j1, j2⟩ := h4
    obtain ⟨la, ln, lc, rfl, l1, l2⟩ := h5
    exact ⟨ja, jn, jc, la, ln, lc, rfl, k1, k2, k3, k6, j2, l2, j1, l1⟩
  · rintro ⟨ja, jn, jc, la, ln, lc, rfl, h⟩
    exact ⟨[_], [_, _, _, _, _], rfl, flat_int.see.2 ⟨rfl, h.n⟩, [_], [_, _, _, _], rfl, flat_int.see.2 ⟨rfl, h.life⟩, [_], [_, _, _], rfl, flat_int.see.2 ⟨rfl, h.next⟩, [_], [_, _], rfl, ⟨_, _, _, rfl, h.jc, h.jobs⟩, [_], [_], rfl, ⟨_, _, _, rfl, h.lc, h.log⟩, flat_int.see.2 ⟨rfl, h.sure⟩⟩
end
end Go.Proofs.Yteniflajiklffaa.cos

namespace Go.Proofs.Yteniflajiklffaa.pairs
open Go Go.RowKit Go.Proofs.Yteniflajiklffaa.base
set_option linter.unusedVariables false
set_option linter.unusedSimpArgs false

theorem bcell {W w1 : World} (hb : Below W.heap.size W w1) : (∀ b o, b < W.heap.size → w1.cell? ⟨b, o, none⟩ = W.cell? ⟨b, o, none⟩) :=
  fun b o h => hb.cell (p := ⟨b, o, none⟩) h
set_option maxHeartbeats 400000 in
theorem s_in (x a b : Int) (w : World) (hx : -1000 ≤ x ∧ x ≤ 1099511627776) (ha : 0 ≤ a ∧ a ≤ 1000) (hb : 0 ≤ b ∧ b ≤ 1000) :
    Calls Try.prog 63 #[.int .i64 x, .int .i64 a, .int .i64 b] w fun e w' => e = .returned (.bool (decide (a ≤ x ∧ x ≤ b))) ∧ w' = w := by
  by_cases h1 : a ≤ x
  · by_cases h2 : x ≤ b
    · go_enter Try.func63, Try.ntmps63
      go_wp2
      go_ret
      exact ⟨ret_bool (by simp [h1, h2]), rfl⟩
    · go_enter Try.func63, Try.ntmps63
      go_wp2
      go_ret
      exact ⟨ret_bool (by simp [h1, h2]), rfl⟩
  · go_enter Try.func63, Try.ntmps63
    go_wp2
    go_ret
    exact ⟨ret_bool (by have h3 : ¬ a ≤ x := by omega
                        simp [h3]), rfl⟩

theorem keyAll_drop (s : ByteArray) (k : Nat) (h : k < s.size) : keyAll (s.data.toList.drop k) = (keyCh s[k].toNat && keyAll (s.data.toList.drop (k + 1))) := by
  rw [List.drop_eq_getElem_cons (by simpa using h)]; rfl

set_option maxRecDepth 100000 in
set_option maxHeartbeats 1000000 in
theorem spec_keyOk (s : ByteArray) (w : World) (hs : s.size ≤ 1099511627776) :
    Calls Try.prog 133 #[.string s] w fun e w' => e = .returned (.bool (keyOk s)) ∧ w' = w := by
  generalize hR : keyAll s.data.toList = R
  have HR := Hid.mk' hR
  clear hR
  go_enter Try.func133, Try.ntmps133
  go_wp2
  go_loop [3] (fun i => ∃ k : Nat, k ≤ s.size ∧ i = .int .i64 (k : Int) ∧ keyAll (s.data.toList.drop k) = R) (fun i => s.size - (intOf i).toNat)
  case atStart => exact ⟨0, Nat.zero_le _, rfl, HR.out⟩
  case round =>
    obtain ⟨k, hk, rfl, hr⟩ := hrel
    by_cases hlt : k < s.size
    · have hst := keyAll_drop s k hlt
      rw [hr] at hst
      have hc := s[k].toNat_lt
      generalize hC : s[k].toNat = c at *
      have HST := Hid.mk' hst
      have HC := Hid.mk' hC
      clear hst hr
      have hki : (k : Int) < (s.size : Int) := by omega
      by_cases h1 : 97 ≤ c ∧ c ≤ 122
      · have HF : Hid (keyAll (s.data.toList.drop (k + 1)) = R) := by
          show _ = _
          have := HST.out; rw [show keyCh c = true by simp [keyCh, h1]] at this; simpa using this.symm
        have hl := s_in (c : Int) 97 122 w (by omega) (by omega) (by omega)
        rw [decide_eq_true (by omega)] at hl
        have HL := Hid.mk' hl
        clear hl HST
        go_wp2_with fail
        refine HL.out.mono ?_
        rintro e w1 ⟨rfl, rfl⟩
        go_wp2_with fail
        go_round
        case rel => exact ⟨k + 1, by omega, by go_num, HF.out⟩
        case measure => simp [intOf]; omega
      · have hl := s_in (c : Int) 97 122 w (by omega) (by omega) (by omega)
        rw [decide_eq_false (by omega)] at hl
        have HL := Hid.mk' hl
        clear hl
        by_cases h2 : 48 ≤ c ∧ c ≤ 57
        · have HF : Hid (keyAll (s.data.toList.drop (k + 1)) = R) := by
            show _ = _
            have := HST.out; rw [show keyCh c = true by simp [keyCh, h2]] at this; simpa using this.symm
          have hl := s_in (c : Int) 48 57 w (by omega) (by omega) (by omega)
          rw [decide_eq_true (by omega)] at hl
          have HL2 := Hid.mk' hl
          clear hl HST
          go_wp2_with fail
          refine HL.out.mono ?_
          rintro e w1 ⟨rfl, rfl⟩
          go_wp2_with fail
          refine HL2.out.mono ?_
          rintro e w1 ⟨rfl, rfl⟩
          go_wp2_with fail
          go_round
          case rel => exact ⟨k + 1, by omega, by go_num, HF.out⟩
          case measure => simp [intOf]; omega
        · have HF : Hid (R = false) := by
            show _ = _
            have := HST.out; rw [show keyCh c = false by simp only [keyCh, h1, h2]; rfl] at this; simpa using this
          have hl := s_in (c : Int) 48 57 w (by omega) (by omega) (by omega)
          rw [decide_eq_false (by omega)] at hl
          have HL2 := Hid.mk' hl
          clear hl HST
          go_wp2_with fail
          refine HL.out.mono ?_
          rintro e w1 ⟨rfl, rfl⟩
          go_wp2_with fail
          refine HL2.out.mono ?_
          rintro e w1 ⟨rfl, rfl⟩
          go_wp2_with fail
          go_ret
          exact ⟨ret_bool (by unfold keyOk; rw [HR.out, HF.out]; rfl), rfl⟩
    · have HF : Hid (R = true) := by show _ = _; rw [← hr, List.drop_eq_nil_of_le (by simp; omega)]; rfl
      have hl := s_in (s.size : Int) 1 12 w (by omega) (by omega) (by omega)
      rw [show decide ((1 : Int) ≤ (s.size : Int) ∧ (s.size : Int) ≤ 12) = decide (1 ≤ s.size ∧ s.size ≤ 12) by rw [decide_eq_decide]; omega] at hl
      have HL := Hid.mk' hl
      clear hl hr
      go_wp2_with fail
      refine HL.out.mono ?_
      rintro e w1 ⟨rfl, rfl⟩
      go_wp2_with fail
      go_ret
      exact ⟨ret_bool (by unfold keyOk; rw [HR.out, HF.out]; simp), rfl⟩


theorem str_ne {a b : ByteArray} (h : a ≠ b) : (a.toList == b.toList) = false := by
  rw [beq_eq_false_iff_ne]; intro e; rw [ByteArray.toList_eq, ByteArray.toList_eq] at e; exact h (bytes_ext e)

end Go.Proofs.Yteniflajiklffaa.pairs

namespace Go.Proofs.Yteniflajiklffaa.pairs
open Go Go.RowKit Go.Proofs.Yteniflajiklffaa.base
set_option linter.unusedVariables false
set_option linter.unusedSimpArgs false

end Go.Proofs.Yteniflajiklffaa.pairs

namespace Go.Proofs.Yteniflajiklffaa.pairs
open Go Go.RowKit Go.Proofs.Yteniflajiklffaa.base
set_option linter.unusedVariables false
set_option linter.unusedSimpArgs false

end Go.Proofs.Yteniflajiklffaa.pairs

namespace Go.Proofs.Yteniflajiklffaa.last
open Go Go.RowKit
section
variable {P : Program} {ops : Array Oper} {md : Region.Mode} {C : World → Prop}

theorem both_ready {i j : Nat} {o : Oper} {listed : Array Bool} (hi : i ∈ Region.ready md ops listed) (hj : j ∈ Region.ready md ops listed) (ho : ops[j]? = some o) :
    ∀ e ∈ o.after, Region.binds md e = true → e.on ≠ i := by
  rintro e he hb rfl
  obtain ⟨_, o', ho', hall⟩ := mem_ready.1 hj
  obtain rfl := Option.some.inj (ho'.symm.trans ho)
  have yes := hall e he hb
  have no := (mem_ready.1 hi).1
  by_cases hs : e.on < listed.size
  · simp only [Array.getD, hs, dif_pos] at yes no
    exact Bool.noConfusion (yes.symm.trans no)
  · simp [Array.getD, hs] at yes
def waits (md : Region.Mode) (oz : Oper) (k : Nat) : Bool := oz.after.any fun e => Region.binds md e && e.on == k
/-! ### calls that make memory: the class of the worlds that go on from w -/
def On (B : Nat) (w : World) : Type := { w' : World // Below B w w' }
def On.w {B : Nat} {w : World} (x : On B w) : World := x.1
theorem On.inh (B : Nat) (w : World) : Nonempty (On B w) := ⟨⟨w, Below.refl _ _⟩⟩
theorem wp_region_on {id : Nat} {Q : Exit → Act → World → Prop} {a : Act} {w : World} {l : List Oper} (B : Nat) (hm : P.follows .mixedOrders = true) (hB : Region.lexB .any l.toArray = true)
    (h : wpQuiet P l.toArray (fun w' => ∃ x : On B w, w' = x.w) (fun a' => ∀ w', (∃ x : On B w, w' = x.w) → Q .normal a' w') l a) : (Code.region id l.toArray true).wp P Q a w :=
  wp_region_quiet (C := fun w' => ∃ x : On B w, w' = x.w) hm hB ⟨⟨w.drew, (Below.refl _ _).drew⟩, rfl⟩ (by simpa using h)
theorem Calls.on {f : FuncId} {args : Array Value} {B : Nat} {w : World} {v : Value} (x : On B w) (hBw : B ≤ w.heap.size) (h : Calls P f args x.w fun e w' => e = .returned v ∧ Below x.w.heap.size x.w w') :
    Calls P f args x.w fun e w'' => e = .returned v ∧ ∃ y : On B w, w'' = y.w :=
  h.mono fun _ w'' ⟨he, hb⟩ => ⟨he, ⟨w'', x.2.trans (hb.mono (Nat.le_trans hBw x.2.size))⟩, rfl⟩
theorem On.cell {B : Nat} {w : World} {b o : Nat} {v : Value} (h : w.cell? ⟨b, o, none⟩ = some v) (hb : b < B) : ∀ x : On B w, x.w.cell? ⟨b, o, none⟩ = some v :=
  fun x => (x.2.cell (p := ⟨b, o, none⟩) hb).trans h

end
end Go.Proofs.Yteniflajiklffaa.last

namespace Go.Proofs.Yteniflajiklffaa.pairs
open Go Go.RowKit Go.Proofs.Yteniflajiklffaa.base
set_option linter.unusedVariables false
set_option linter.unusedSimpArgs false

theorem keepC {W w' : World} {b o : Nat} {v : Value} (hb : Below W.heap.size W w') (h : W.cell? ⟨b, o, none⟩ = some v) : w'.cell? ⟨b, o, none⟩ = some v :=
  (hb.cell (p := ⟨b, o, none⟩) (World.block_lt_of_cell? W _ h)).trans h
theorem keepB2 {W w' : World} {b o1 o2 : Nat} {v1 v2 : Value} (hb : Below W.heap.size W w') (h : W.cell? ⟨b, o1, none⟩ = some v1 ∧ W.cell? ⟨b, o2, none⟩ = some v2) :
    w'.cell? ⟨b, o1, none⟩ = some v1 ∧ w'.cell? ⟨b, o2, none⟩ = some v2 := ⟨keepC hb h.1, keepC hb h.2⟩
theorem keepB3 {W w' : World} {b o1 o2 o3 : Nat} {v1 v2 v3 : Value} (hb : Below W.heap.size W w') (h : W.cell? ⟨b, o1, none⟩ = some v1 ∧ W.cell? ⟨b, o2, none⟩ = some v2 ∧ W.cell? ⟨b, o3, none⟩ = some v3) :
    w'.cell? ⟨b, o1, none⟩ = some v1 ∧ w'.cell? ⟨b, o2, none⟩ = some v2 ∧ w'.cell? ⟨b, o3, none⟩ = some v3 := ⟨keepC hb h.1, keepB2 hb h.2⟩


end Go.Proofs.Yteniflajiklffaa.pairs
