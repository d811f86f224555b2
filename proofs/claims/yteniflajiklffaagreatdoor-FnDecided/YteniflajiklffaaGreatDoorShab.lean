/- Plain mathematics of orders: what is told of them, their bytes, and that these come back. Rows of pairs of texts: small facts on worlds; no function of the program is named here. Rows of orders (three cells each): small facts on worlds; no function of the program is named here. Plain mathematics of padding. Plain mathematics of SHA-256, on natural numbers below 2 to the power of 32. Plain mathematics of records: their bytes, that these come back, what they make. Rows of records (two numbers and a slice of orders: three cells a record): small facts on worlds; no function of the program is named here. -/
import Derived.Test.YteniflajiklffaaGreatDoorShaa
import Derived.OwnWalk
namespace Go.Proofs.YteniflajiklffaaGreatDoor.ords
open Go Go.RowKit Go.Proofs.YteniflajiklffaaGreatDoor.base Go.Proofs.YteniflajiklffaaGreatDoor.pairs Go.Proofs.YteniflajiklffaaGreatDoor.putnum Go.Proofs.YteniflajiklffaaGreatDoor.puttext Go.Proofs.YteniflajiklffaaGreatDoor.getnum Go.Proofs.YteniflajiklffaaGreatDoor.gettext Go.Proofs.YteniflajiklffaaGreatDoor.gettexts Go.Proofs.YteniflajiklffaaGreatDoor.nummath
set_option linter.unusedVariables false

abbrev Od := Int × ByteArray × ByteArray
def odOk (o : Od) : Bool := decide (1 ≤ o.1 ∧ o.1 ≤ 3) && (decide (o.1 ≠ 2) || decide (o.2.2.size = 0)) && keyOk o.2.1 && decide (o.2.2.size ≤ 20)
def opsFrom : Option ByteArray → List Od → Bool
  | _, [] => true
  | none, o :: l => odOk o && opsFrom (some o.2.1) l
  | some k, o :: l => odOk o && ltB k o.2.1 && opsFrom (some o.2.1) l
def opsOk (l : List Od) : Bool := opsFrom none l && decide (1 ≤ l.length ∧ l.length ≤ 8)
def meet1 (m : List Pr) (o : Od) : Bool := decide (o.1 ≠ 3) || match getKey o.2.1 m with | none => decide (o.2.2.size = 0) | some v => decide (o.2.2.size ≠ 0) && decide (v = o.2.2)
def meets (m : List Pr) (l : List Od) : Bool := l.all (meet1 m)
def apply1 (m : List Pr) (o : Od) : List Pr := if o.1 = 1 then putKey o.2.1 o.2.2 m else if o.1 = 2 then delKey o.2.1 m else m
def applyAll (m : List Pr) (l : List Od) : List Pr := l.foldl apply1 m
/-! ### orders that are right -/
def RiseO (l : List Od) : Prop := l.Pairwise fun p q => ltB p.2.1 q.2.1 = true
theorem opsFrom_iff (o : Option ByteArray) (l : List Od) : opsFrom o l = true ↔ (∀ p ∈ l, odOk p = true) ∧ RiseO l ∧ ∀ k, o = some k → ∀ p ∈ l, ltB k p.2.1 = true := by
  induction l generalizing o with
  | nil => simp [opsFrom, RiseO]
  | cons p l ih =>
    have hi := ih (some p.2.1)
    unfold RiseO at hi ⊢
    rw [List.pairwise_cons]
    cases o with
    | none =>
      simp only [opsFrom, Bool.and_eq_true, hi, List.mem_cons, forall_eq_or_imp]
      constructor
      · rintro ⟨h1, h2, h3, h4⟩
        exact ⟨⟨h1, h2⟩, ⟨h4 _ rfl, h3⟩, fun k e => by cases e⟩
      · rintro ⟨⟨h1, h2⟩, ⟨h3, h4⟩, _⟩
        exact ⟨h1, h2, h4, fun k e q hq => by cases e; exact h3 q hq⟩
    | some k0 =>
      simp only [opsFrom, Bool.and_eq_true, hi, List.mem_cons, forall_eq_or_imp]
      constructor
      · rintro ⟨⟨h1, h0⟩, h2, h3, h4⟩
        refine ⟨⟨h1, h2⟩, ⟨h4 _ rfl, h3⟩, fun k e => ?_⟩
        cases e
        exact ⟨h0, fun q hq => ltB_trans h0 (h4 _ rfl q hq)⟩
      · rintro ⟨⟨h1, h2⟩, ⟨h3, h4⟩, h5⟩
        exact ⟨⟨h1, (h5 k0 rfl).1⟩, h2, h4, fun k e q hq => by cases e; exact h3 q hq⟩
theorem opsOk_iff (l : List Od) : opsOk l = true ↔ ((∀ p ∈ l, odOk p = true) ∧ RiseO l) ∧ 1 ≤ l.length ∧ l.length ≤ 8 := by
  unfold opsOk
  rw [Bool.and_eq_true, opsFrom_iff, decide_eq_true_iff]
  constructor
  · rintro ⟨⟨h1, h2, _⟩, h3⟩; exact ⟨⟨h1, h2⟩, h3⟩
  · rintro ⟨⟨h1, h2⟩, h3⟩; exact ⟨⟨h1, h2, fun k e => by cases e⟩, h3⟩
theorem odOk_iff (o : Od) : odOk o = true ↔ (1 ≤ o.1 ∧ o.1 ≤ 3) ∧ (o.1 = 2 → o.2.2.size = 0) ∧ keyOk o.2.1 = true ∧ o.2.2.size ≤ 20 := by
  unfold odOk
  simp only [Bool.and_eq_true, Bool.or_eq_true, decide_eq_true_iff]
  constructor
  · rintro ⟨⟨⟨h1, h2⟩, h3⟩, h4⟩
    exact ⟨h1, fun e => by rcases h2 with h | h; exact absurd e h; exact h, h3, h4⟩
  · rintro ⟨h1, h2, h3, h4⟩
    exact ⟨⟨⟨h1, by by_cases e : o.1 = 2; exact .inr (h2 e); exact .inl e⟩, h3⟩, h4⟩
theorem keyOk_size {s : ByteArray} (h : keyOk s = true) : 1 ≤ s.size ∧ s.size ≤ 12 := by
  unfold keyOk at h
  simp at h
  exact h.2

/-! ### bytes of numbers and texts, read -/
/-! ### orders come back of their bytes -/
/-! ### behind orders -/
theorem apply_cons (m : List Pr) (o : Od) (l : List Od) : applyAll m (o :: l) = applyAll (apply1 m o) l := rfl
theorem apply_take (m : List Pr) (l : List Od) (k : Nat) (h : k < l.length) : applyAll m (l.take (k + 1)) = apply1 (applyAll m (l.take k)) l[k] := by
  unfold applyAll
  rw [List.take_succ_eq_append_getElem h, List.foldl_append]
  rfl
/-! ### shards -/
end Go.Proofs.YteniflajiklffaaGreatDoor.ords

namespace Go.Proofs.YteniflajiklffaaGreatDoor.pairs
open Go Go.RowKit Go.Proofs.YteniflajiklffaaGreatDoor.base
set_option linter.unusedVariables false
set_option linter.unusedSimpArgs false

def small (p : Pr) : Prop := p.1.size ≤ maxLen ∧ p.2.size ≤ maxLen
def pairVals (l : List Pr) : List Value := l.flatMap fun p => [.string p.1, .string p.2]
theorem pairVals_cons (p : Pr) (l : List Pr) : pairVals (p :: l) = .string p.1 :: .string p.2 :: pairVals l := rfl
theorem pairVals_append (a b : List Pr) : pairVals (a ++ b) = pairVals a ++ pairVals b := by simp [pairVals]
theorem pairVals_length (l : List Pr) : (pairVals l).length = l.length * 2 := by
  induction l with
  | nil => rfl
  | cons p l ih => rw [pairVals_cons]; simp [ih]; omega
theorem pairVals_key (l : List Pr) (i : Nat) (h : i < l.length) : (pairVals l)[i * 2]? = some (.string l[i].1) := by
  induction l generalizing i with
  | nil => simp at h
  | cons p l ih =>
    cases i with
    | zero => rfl
    | succ i => rw [pairVals_cons, show (i + 1) * 2 = i * 2 + 1 + 1 by omega]; simpa using ih i (by simpa using h)
theorem pairVals_val (l : List Pr) (i : Nat) (h : i < l.length) : (pairVals l)[i * 2 + 1]? = some (.string l[i].2) := by
  induction l generalizing i with
  | nil => simp at h
  | cons p l ih =>
    cases i with
    | zero => rfl
    | succ i => rw [pairVals_cons, show (i + 1) * 2 + 1 = i * 2 + 1 + 1 + 1 by omega]; simpa using ih i (by simpa using h)
theorem pairVals_oneCell (l : List Pr) : ∀ v ∈ pairVals l, v.oneCell' = true := by
  intro v hv
  obtain ⟨p, _, hp⟩ := List.mem_flatMap.1 hv
  simp at hp
  rcases hp with rfl | rfl <;> rfl
theorem pairVals_setKey (l : List Pr) (i : Nat) (h : i < l.length) (k : ByteArray) : (pairVals l).set (i * 2) (.string k) = pairVals (l.set i (k, l[i].2)) := by
  induction l generalizing i with
  | nil => simp at h
  | cons p l ih =>
    cases i with
    | zero => rfl
    | succ i => rw [pairVals_cons, show (i + 1) * 2 = i * 2 + 1 + 1 by omega]; simp only [List.set_cons_succ, pairVals_cons, List.getElem_cons_succ]; rw [ih i (by simpa using h)]
theorem pairVals_setVal (l : List Pr) (i : Nat) (h : i < l.length) (v : ByteArray) : (pairVals l).set (i * 2 + 1) (.string v) = pairVals (l.set i (l[i].1, v)) := by
  induction l generalizing i with
  | nil => simp at h
  | cons p l ih =>
    cases i with
    | zero => rfl
    | succ i => rw [pairVals_cons, show (i + 1) * 2 + 1 = i * 2 + 1 + 1 + 1 by omega]; simp only [List.set_cons_succ, pairVals_cons, List.getElem_cons_succ]; rw [ih i (by simpa using h)]

/-! ### slices of pairs that are read -/
def CellsP (w : World) (b off : Nat) (l : List Pr) : Prop := ∀ i (h : i < l.length), w.cell? ⟨b, off + i * 2, none⟩ = some (.string l[i].1) ∧ w.cell? ⟨b, off + i * 2 + 1, none⟩ = some (.string l[i].2)
def SlP (w : World) (a : Option Addr) (len : Nat) (l : List Pr) : Prop :=
  l.length = len ∧ len ≤ maxLen ∧ (∀ p ∈ l, small p) ∧ (0 < len → ∃ b off, a = some ⟨b, off, none⟩ ∧ CellsP w b off l)
theorem slp_nil (w : World) (a : Option Addr) : SlP w a 0 [] := ⟨rfl, Nat.zero_le _, (fun _ h => absurd h List.not_mem_nil), fun h => absurd h (by omega)⟩
section
variable {w w' : World} {a : Option Addr} {b off len base base' g n cap : Nat} {l : List Pr} {row : Option Nat}
theorem SlP.cells (h : SlP w (some ⟨b, off, none⟩) len l) : CellsP w b off l := by
  intro i hi
  obtain ⟨b', off', e, hc⟩ := h.2.2.2 (by have := h.1; omega)
  simp only [Option.some.injEq, Addr.mk.injEq, and_true] at e
  obtain ⟨rfl, rfl⟩ := e
  exact hc i hi
theorem SlP.lt (h : SlP w (some ⟨b, off, none⟩) len l) (h0 : 0 < len) : b < w.heap.size :=
  World.block_lt_of_cell? w _ (h.cells 0 (by have := h.1; omega)).1
theorem CellsP.keep (h : CellsP w b off l) (hk : ∀ o v, w.cell? ⟨b, o, none⟩ = some v → w'.cell? ⟨b, o, none⟩ = some v) : CellsP w' b off l :=
  fun i hi => ⟨hk _ _ (h i hi).1, hk _ _ (h i hi).2⟩
theorem SlP.below (h : SlP w a len l) (hb : Below w.heap.size w w') : SlP w' a len l := by
  obtain ⟨h1, h2, h4, h3⟩ := h
  refine ⟨h1, h2, h4, fun h0 => ?_⟩
  obtain ⟨b, off, rfl, hc⟩ := h3 h0
  exact ⟨b, off, rfl, hc.keep fun o v hv => (hb.cell (p := ⟨b, o, none⟩) (World.block_lt_of_cell? w _ hv)).trans hv⟩
theorem SlP.grown (h : SlP w (some ⟨b, off, none⟩) len l) (hg : w.grownBy w' row) (hne : some b ≠ row) : SlP w' (some ⟨b, off, none⟩) len l :=
  ⟨h.1, h.2.1, h.2.2.1, fun _ => ⟨b, off, rfl, h.cells.keep fun o v hv => hg.cell hv hne⟩⟩

/-! ### rows of pairs that a call made -/
def OwnP (w : World) (base g n cap : Nat) (l : List Pr) : Prop := l.length = n ∧ (∀ p ∈ l, small p) ∧ w.ownsRow base 74 2 (.slice (some ⟨g, 0, none⟩) n cap) n (pairVals l)
theorem OwnP.lt (h : OwnP w base g n cap l) : base ≤ g ∧ g < w.heap.size := h.2.2.lt g rfl
theorem OwnP.cases (h : OwnP w base g n cap l) : n ≤ cap ∧ cap ≤ maxLen := by
  rcases h.2.2.2 with ⟨h', _⟩ | ⟨g', cap', cur, h', _, hg, h1, h2, _⟩
  · simp at h'
  · simp only [Value.slice.injEq, Option.some.injEq, Addr.mk.injEq, and_true, true_and] at h'
    obtain ⟨rfl, rfl⟩ := h'
    exact ⟨h1, h2⟩
theorem OwnP.mono (h : OwnP w base g n cap l) (hb : base' ≤ base) : OwnP w base' g n cap l := by
  refine ⟨h.1, h.2.1, h.2.2.1, ?_⟩
  rcases h.2.2.2 with h' | ⟨g', cap', cur, h', h0, r⟩
  · exact .inl h'
  · exact .inr ⟨g', cap', cur, h', by omega, r⟩
theorem OwnP.cell (h : OwnP w base g n cap l) : CellsP w g 0 l := by
  intro i hi
  have hl := h.1
  have k1 := h.2.2.cellAt (i * 2) (by omega)
  have k2 := h.2.2.cellAt (i * 2 + 1) (by omega)
  rw [pairVals_key l i hi] at k1
  rw [pairVals_val l i hi] at k2
  rw [Nat.zero_add]
  exact ⟨k1, k2⟩
theorem OwnP.key (h : OwnP w base g n cap l) (i : Nat) (hi : i < l.length) : w.cell? ⟨g, i * 2, none⟩ = some (.string l[i].1) := by
  have := (h.cell i hi).1; rwa [Nat.zero_add] at this
theorem OwnP.val (h : OwnP w base g n cap l) (i : Nat) (hi : i < l.length) : w.cell? ⟨g, i * 2 + 1, none⟩ = some (.string l[i].2) := by
  have := (h.cell i hi).2; rwa [Nat.zero_add] at this
theorem OwnP.frozen (h : OwnP w base g n cap l) (i : Nat) : w.frozen? ⟨g, i, none⟩ = false := h.2.2.frozenAt i
theorem OwnP.sl (h : OwnP w base g n cap l) : SlP w (some ⟨g, 0, none⟩) n l :=
  ⟨h.1, by have := h.cases; omega, h.2.1, fun _ => ⟨g, 0, rfl, h.cell⟩⟩
theorem OwnP.grown (h : OwnP w base g n cap l) (hg : w.grownBy w' row) (hne : some g ≠ row) : OwnP w' base g n cap l :=
  ⟨h.1, h.2.1, h.2.2.kept hg (.inr hne)⟩
theorem OwnP.below (h : OwnP w base g n cap l) (hb : Below w.heap.size w w') : OwnP w' base g n cap l :=
  ⟨h.1, h.2.1, h.2.2.kept (row := none) ⟨hb.os, hb.tape, hb.output, hb.size, fun k hk _ => hb.block k hk⟩ (.inr (by simp [Value.ownBlock]))⟩
theorem mem_set_small {i : Nat} {p : Pr} (h : ∀ q ∈ l, small q) (hp : small p) : ∀ q ∈ l.set i p, small q := by
  intro q hq
  rcases List.mem_or_eq_of_mem_set hq with h1 | h1
  · exact h q h1
  · subst h1; exact hp
theorem OwnP.setKey (h : OwnP w base g n cap l) (i : Nat) (hi : i < l.length) (k : ByteArray) (hk : k.size ≤ maxLen) :
    OwnP (w.setCell ⟨g, i * 2, none⟩ (.string k)) base g n cap (l.set i (k, l[i].2)) ∧ w.grownBy (w.setCell ⟨g, i * 2, none⟩ (.string k)) (some g) := by
  have hs := h.2.2.stored (i * 2) (.string k)
  rw [pairVals_setKey l i hi] at hs
  exact ⟨⟨by simpa using h.1, mem_set_small h.2.1 ⟨hk, (h.2.1 _ (List.getElem_mem hi)).2⟩, hs.1⟩, hs.2⟩
theorem OwnP.setVal (h : OwnP w base g n cap l) (i : Nat) (hi : i < l.length) (v : ByteArray) (hv : v.size ≤ maxLen) :
    OwnP (w.setCell ⟨g, i * 2 + 1, none⟩ (.string v)) base g n cap (l.set i (l[i].1, v)) ∧ w.grownBy (w.setCell ⟨g, i * 2 + 1, none⟩ (.string v)) (some g) := by
  have hs := h.2.2.stored (i * 2 + 1) (.string v)
  rw [pairVals_setVal l i hi] at hs
  exact ⟨⟨by simpa using h.1, mem_set_small h.2.1 ⟨(h.2.1 _ (List.getElem_mem hi)).1, hv⟩, hs.1⟩, hs.2⟩
theorem ownP_val {v' : Value} (hl : l.length = n) (hs : ∀ p ∈ l, small p) (h0 : ¬ v' = .slice none 0 0)
    (h : w'.ownsRow base 74 2 v' n (pairVals l)) : ∃ g' cap', v' = .slice (some ⟨g', 0, none⟩) n cap' ∧ OwnP w' base g' n cap' l := by
  rcases h.2 with ⟨h2, _⟩ | ⟨g', cap', cur, hv, _⟩
  · exact absurd h2 h0
  · subst hv
    exact ⟨g', cap', rfl, hl, hs, h⟩
theorem ownP_made (w : World) (base : Nat) (hb : base ≤ w.heap.size) : OwnP (w.alloc (.cells #[] 74)) base w.heap.size 0 0 [] :=
  ⟨rfl, fun s h => absurd h List.not_mem_nil, World.ownsRow_made w #[] 0 hb (Nat.zero_le _) rfl⟩
theorem cells_pairs (h : CellsP w b off l) : ∀ j v, (pairVals l)[j]? = some v → w.cell? ((⟨b, off, none⟩ : Addr).add j) = some v := by
  intro j v hj
  have hjl : j < l.length * 2 := by have := (List.getElem?_eq_some_iff.1 hj).1; rwa [pairVals_length] at this
  rw [Addr.add_lit]
  have hm : j = (j / 2) * 2 ∨ j = (j / 2) * 2 + 1 := by omega
  rcases hm with e | e
  · rw [e, pairVals_key l (j / 2) (by omega)] at hj
    rw [e, ← hj]; exact (h (j / 2) (by omega)).1
  · rw [e, pairVals_val l (j / 2) (by omega)] at hj
    rw [e, ← hj]; exact (h (j / 2) (by omega)).2
end
theorem infoP : (Tryz.prog.info? 74).map (fun i => (i.zero, i.size, i.bytes)) = some (some (.agg #[.string ⟨#[]⟩, .string ⟨#[]⟩]), 2, 32) := by kernel_rfl

end Go.Proofs.YteniflajiklffaaGreatDoor.pairs

namespace Go.Proofs.YteniflajiklffaaGreatDoor.ords
open Go Go.RowKit Go.Proofs.YteniflajiklffaaGreatDoor.base Go.Proofs.YteniflajiklffaaGreatDoor.pairs
set_option linter.unusedVariables false
set_option linter.unusedSimpArgs false

def smallO (o : Od) : Prop := (Lit.int .i64 o.1).wf = true ∧ o.2.1.size ≤ maxLen ∧ o.2.2.size ≤ maxLen
def ordVals (l : List Od) : List Value := l.flatMap fun o => [.int .i64 o.1, .string o.2.1, .string o.2.2]
theorem ordVals_cons (o : Od) (l : List Od) : ordVals (o :: l) = .int .i64 o.1 :: .string o.2.1 :: .string o.2.2 :: ordVals l := rfl
theorem ordVals_append (a b : List Od) : ordVals (a ++ b) = ordVals a ++ ordVals b := by simp [ordVals]
theorem ordVals_length (l : List Od) : (ordVals l).length = l.length * 3 := by
  induction l with
  | nil => rfl
  | cons o l ih => rw [ordVals_cons]; simp [ih]; omega
theorem ordVals_at (l : List Od) (i : Nat) (h : i < l.length) : (ordVals l)[i * 3]? = some (.int .i64 l[i].1) ∧ (ordVals l)[i * 3 + 1]? = some (.string l[i].2.1) ∧ (ordVals l)[i * 3 + 2]? = some (.string l[i].2.2) := by
  induction l generalizing i with
  | nil => simp at h
  | cons p l ih =>
    cases i with
    | zero => exact ⟨rfl, rfl, rfl⟩
    | succ i =>
      rw [ordVals_cons, show (i + 1) * 3 = i * 3 + 1 + 1 + 1 by omega, show i * 3 + 1 + 1 + 1 + 1 = (i * 3 + 1) + 1 + 1 + 1 by omega, show i * 3 + 1 + 1 + 1 + 2 = (i * 3 + 2) + 1 + 1 + 1 by omega]
      simpa using ih i (by simpa using h)
theorem ordVals_oneCell (l : List Od) : ∀ v ∈ ordVals l, v.oneCell' = true := by
  intro v hv
  obtain ⟨p, _, hp⟩ := List.mem_flatMap.1 hv
  simp at hp
  rcases hp with rfl | rfl | rfl <;> rfl
theorem ordVals_setKind (l : List Od) (i : Nat) (h : i < l.length) (z : Int) : (ordVals l).set (i * 3) (.int .i64 z) = ordVals (l.set i (z, l[i].2)) := by
  induction l generalizing i with
  | nil => simp at h
  | cons p l ih =>
    cases i with
    | zero => rfl
    | succ i => rw [ordVals_cons, show (i + 1) * 3 = i * 3 + 1 + 1 + 1 by omega]; simp only [List.set_cons_succ, ordVals_cons, List.getElem_cons_succ]; rw [ih i (by simpa using h)]
theorem ordVals_setKey (l : List Od) (i : Nat) (h : i < l.length) (k : ByteArray) : (ordVals l).set (i * 3 + 1) (.string k) = ordVals (l.set i (l[i].1, k, l[i].2.2)) := by
  induction l generalizing i with
  | nil => simp at h
  | cons p l ih =>
    cases i with
    | zero => rfl
    | succ i => rw [ordVals_cons, show (i + 1) * 3 + 1 = i * 3 + 1 + 1 + 1 + 1 by omega]; simp only [List.set_cons_succ, ordVals_cons, List.getElem_cons_succ]; rw [ih i (by simpa using h)]
theorem ordVals_setVal (l : List Od) (i : Nat) (h : i < l.length) (v : ByteArray) : (ordVals l).set (i * 3 + 2) (.string v) = ordVals (l.set i (l[i].1, l[i].2.1, v)) := by
  induction l generalizing i with
  | nil => simp at h
  | cons p l ih =>
    cases i with
    | zero => rfl
    | succ i => rw [ordVals_cons, show (i + 1) * 3 + 2 = i * 3 + 2 + 1 + 1 + 1 by omega]; simp only [List.set_cons_succ, ordVals_cons, List.getElem_cons_succ]; rw [ih i (by simpa using h)]

/-! ### slices of orders that are read -/
def CellsO (w : World) (b off : Nat) (l : List Od) : Prop := ∀ i (h : i < l.length), w.cell? ⟨b, off + i * 3, none⟩ = some (.int .i64 l[i].1) ∧ w.cell? ⟨b, off + i * 3 + 1, none⟩ = some (.string l[i].2.1) ∧ w.cell? ⟨b, off + i * 3 + 2, none⟩ = some (.string l[i].2.2)
def SlO (w : World) (a : Option Addr) (len : Nat) (l : List Od) : Prop :=
  l.length = len ∧ len ≤ maxLen ∧ (∀ p ∈ l, smallO p) ∧ (0 < len → ∃ b off, a = some ⟨b, off, none⟩ ∧ CellsO w b off l)
theorem slo_nil (w : World) (a : Option Addr) : SlO w a 0 [] := ⟨rfl, Nat.zero_le _, (fun _ h => absurd h List.not_mem_nil), fun h => absurd h (by omega)⟩
section
variable {w w' : World} {a : Option Addr} {b off len base base' g n cap : Nat} {l : List Od} {row : Option Nat}
theorem SlO.cells (h : SlO w (some ⟨b, off, none⟩) len l) : CellsO w b off l := by
  intro i hi
  obtain ⟨b', off', e, hc⟩ := h.2.2.2 (by have := h.1; omega)
  simp only [Option.some.injEq, Addr.mk.injEq, and_true] at e
  obtain ⟨rfl, rfl⟩ := e
  exact hc i hi
theorem SlO.lt (h : SlO w (some ⟨b, off, none⟩) len l) (h0 : 0 < len) : b < w.heap.size :=
  World.block_lt_of_cell? w _ (h.cells 0 (by have := h.1; omega)).1
theorem CellsO.keep (h : CellsO w b off l) (hk : ∀ o v, w.cell? ⟨b, o, none⟩ = some v → w'.cell? ⟨b, o, none⟩ = some v) : CellsO w' b off l :=
  fun i hi => ⟨hk _ _ (h i hi).1, hk _ _ (h i hi).2.1, hk _ _ (h i hi).2.2⟩
theorem SlO.below (h : SlO w a len l) (hb : Below w.heap.size w w') : SlO w' a len l := by
  obtain ⟨h1, h2, h4, h3⟩ := h
  refine ⟨h1, h2, h4, fun h0 => ?_⟩
  obtain ⟨b, off, rfl, hc⟩ := h3 h0
  exact ⟨b, off, rfl, hc.keep fun o v hv => (hb.cell (p := ⟨b, o, none⟩) (World.block_lt_of_cell? w _ hv)).trans hv⟩
theorem SlO.grown (h : SlO w (some ⟨b, off, none⟩) len l) (hg : w.grownBy w' row) (hne : some b ≠ row) : SlO w' (some ⟨b, off, none⟩) len l :=
  ⟨h.1, h.2.1, h.2.2.1, fun _ => ⟨b, off, rfl, h.cells.keep fun o v hv => hg.cell hv hne⟩⟩

/-! ### rows of orders that a call made -/
def OwnO (w : World) (base g n cap : Nat) (l : List Od) : Prop := l.length = n ∧ (∀ p ∈ l, smallO p) ∧ w.ownsRow base 85 3 (.slice (some ⟨g, 0, none⟩) n cap) n (ordVals l)
theorem OwnO.lt (h : OwnO w base g n cap l) : base ≤ g ∧ g < w.heap.size := h.2.2.lt g rfl
theorem OwnO.cases (h : OwnO w base g n cap l) : n ≤ cap ∧ cap ≤ maxLen := by
  rcases h.2.2.2 with ⟨h', _⟩ | ⟨g', cap', cur, h', _, hg, h1, h2, _⟩
  · simp at h'
  · simp only [Value.slice.injEq, Option.some.injEq, Addr.mk.injEq, and_true, true_and] at h'
    obtain ⟨rfl, rfl⟩ := h'
    exact ⟨h1, h2⟩
theorem OwnO.mono (h : OwnO w base g n cap l) (hb : base' ≤ base) : OwnO w base' g n cap l := by
  refine ⟨h.1, h.2.1, h.2.2.1, ?_⟩
  rcases h.2.2.2 with h' | ⟨g', cap', cur, h', h0, r⟩
  · exact .inl h'
  · exact .inr ⟨g', cap', cur, h', by omega, r⟩
theorem OwnO.cell (h : OwnO w base g n cap l) : CellsO w g 0 l := by
  intro i hi
  have hl := h.1
  have k0 := h.2.2.cellAt (i * 3) (by omega)
  have k1 := h.2.2.cellAt (i * 3 + 1) (by omega)
  have k2 := h.2.2.cellAt (i * 3 + 2) (by omega)
  obtain ⟨e0, e1, e2⟩ := ordVals_at l i hi
  rw [e0] at k0
  rw [e1] at k1
  rw [e2] at k2
  rw [Nat.zero_add]
  exact ⟨k0, k1, k2⟩
theorem OwnO.kind (h : OwnO w base g n cap l) (i : Nat) (hi : i < l.length) : w.cell? ⟨g, i * 3, none⟩ = some (.int .i64 l[i].1) := by
  have := (h.cell i hi).1; rwa [Nat.zero_add] at this
theorem OwnO.key (h : OwnO w base g n cap l) (i : Nat) (hi : i < l.length) : w.cell? ⟨g, i * 3 + 1, none⟩ = some (.string l[i].2.1) := by
  have := (h.cell i hi).2.1; rwa [Nat.zero_add] at this
theorem OwnO.val (h : OwnO w base g n cap l) (i : Nat) (hi : i < l.length) : w.cell? ⟨g, i * 3 + 2, none⟩ = some (.string l[i].2.2) := by
  have := (h.cell i hi).2.2; rwa [Nat.zero_add] at this
theorem OwnO.frozen (h : OwnO w base g n cap l) (i : Nat) : w.frozen? ⟨g, i, none⟩ = false := h.2.2.frozenAt i
theorem OwnO.sl (h : OwnO w base g n cap l) : SlO w (some ⟨g, 0, none⟩) n l :=
  ⟨h.1, by have := h.cases; omega, h.2.1, fun _ => ⟨g, 0, rfl, h.cell⟩⟩
theorem OwnO.grown (h : OwnO w base g n cap l) (hg : w.grownBy w' row) (hne : some g ≠ row) : OwnO w' base g n cap l :=
  ⟨h.1, h.2.1, h.2.2.kept hg (.inr hne)⟩
theorem OwnO.below (h : OwnO w base g n cap l) (hb : Below w.heap.size w w') : OwnO w' base g n cap l :=
  ⟨h.1, h.2.1, h.2.2.kept (row := none) ⟨hb.os, hb.tape, hb.output, hb.size, fun k hk _ => hb.block k hk⟩ (.inr (by simp [Value.ownBlock]))⟩
theorem mem_set_smallO {i : Nat} {p : Od} (h : ∀ q ∈ l, smallO q) (hp : smallO p) : ∀ q ∈ l.set i p, smallO q := by
  intro q hq
  rcases List.mem_or_eq_of_mem_set hq with h1 | h1
  · exact h q h1
  · subst h1; exact hp
theorem OwnO.setKind (h : OwnO w base g n cap l) (i : Nat) (hi : i < l.length) (z : Int) (hz : (Lit.int .i64 z).wf = true) :
    OwnO (w.setCell ⟨g, i * 3, none⟩ (.int .i64 z)) base g n cap (l.set i (z, l[i].2)) ∧ w.grownBy (w.setCell ⟨g, i * 3, none⟩ (.int .i64 z)) (some g) := by
  have hs := h.2.2.stored (i * 3) (.int .i64 z)
  rw [ordVals_setKind l i hi] at hs
  exact ⟨⟨by simpa using h.1, mem_set_smallO h.2.1 ⟨hz, (h.2.1 _ (List.getElem_mem hi)).2⟩, hs.1⟩, hs.2⟩
theorem OwnO.setKey (h : OwnO w base g n cap l) (i : Nat) (hi : i < l.length) (k : ByteArray) (hk : k.size ≤ maxLen) :
    OwnO (w.setCell ⟨g, i * 3 + 1, none⟩ (.string k)) base g n cap (l.set i (l[i].1, k, l[i].2.2)) ∧ w.grownBy (w.setCell ⟨g, i * 3 + 1, none⟩ (.string k)) (some g) := by
  have hs := h.2.2.stored (i * 3 + 1) (.string k)
  rw [ordVals_setKey l i hi] at hs
  exact ⟨⟨by simpa using h.1, mem_set_smallO h.2.1 ⟨(h.2.1 _ (List.getElem_mem hi)).1, hk, (h.2.1 _ (List.getElem_mem hi)).2.2⟩, hs.1⟩, hs.2⟩
theorem OwnO.setVal (h : OwnO w base g n cap l) (i : Nat) (hi : i < l.length) (v : ByteArray) (hv : v.size ≤ maxLen) :
    OwnO (w.setCell ⟨g, i * 3 + 2, none⟩ (.string v)) base g n cap (l.set i (l[i].1, l[i].2.1, v)) ∧ w.grownBy (w.setCell ⟨g, i * 3 + 2, none⟩ (.string v)) (some g) := by
  have hs := h.2.2.stored (i * 3 + 2) (.string v)
  rw [ordVals_setVal l i hi] at hs
  exact ⟨⟨by simpa using h.1, mem_set_smallO h.2.1 ⟨(h.2.1 _ (List.getElem_mem hi)).1, (h.2.1 _ (List.getElem_mem hi)).2.1, hv⟩, hs.1⟩, hs.2⟩
theorem ownO_val {v' : Value} (hl : l.length = n) (hs : ∀ p ∈ l, smallO p) (h0 : ¬ v' = .slice none 0 0)
    (h : w'.ownsRow base 85 3 v' n (ordVals l)) : ∃ g' cap', v' = .slice (some ⟨g', 0, none⟩) n cap' ∧ OwnO w' base g' n cap' l := by
  rcases h.2 with ⟨h2, _⟩ | ⟨g', cap', cur, hv, _⟩
  · exact absurd h2 h0
  · subst hv
    exact ⟨g', cap', rfl, hl, hs, h⟩
theorem ownO_made (w : World) (base : Nat) (hb : base ≤ w.heap.size) : OwnO (w.alloc (.cells #[] 85)) base w.heap.size 0 0 [] :=
  ⟨rfl, fun s h => absurd h List.not_mem_nil, World.ownsRow_made w #[] 0 hb (Nat.zero_le _) rfl⟩
theorem cells_ords (h : CellsO w b off l) : ∀ j v, (ordVals l)[j]? = some v → w.cell? ((⟨b, off, none⟩ : Addr).add j) = some v := by
  intro j v hj
  have hjl : j < l.length * 3 := by have := (List.getElem?_eq_some_iff.1 hj).1; rwa [ordVals_length] at this
  rw [Addr.add_lit]
  obtain ⟨e0, e1, e2⟩ := ordVals_at l (j / 3) (by omega)
  have hc := h (j / 3) (by omega)
  have hm : j = (j / 3) * 3 ∨ j = (j / 3) * 3 + 1 ∨ j = (j / 3) * 3 + 2 := by omega
  rcases hm with e | e | e
  · rw [e, e0] at hj
    rw [e, ← hj]; exact hc.1
  · rw [e, e1] at hj
    rw [e, ← hj]; exact hc.2.1
  · rw [e, e2] at hj
    rw [e, ← hj]; exact hc.2.2
end
theorem infoO : (Tryz.prog.info? 85).map (fun i => (i.zero, i.size, i.bytes)) = some (some (.agg #[.int .i64 0, .string ⟨#[]⟩, .string ⟨#[]⟩]), 3, 40) := by kernel_rfl

end Go.Proofs.YteniflajiklffaaGreatDoor.ords

namespace Go.Proofs.YteniflajiklffaaGreatDoor.padmath
open Go.RowKit Go.Proofs.YteniflajiklffaaGreatDoor.base

end Go.Proofs.YteniflajiklffaaGreatDoor.padmath

namespace Go.Proofs.YteniflajiklffaaGreatDoor.sha
open Go.RowKit Go.Proofs.YteniflajiklffaaGreatDoor.base Go.Proofs.YteniflajiklffaaGreatDoor.padmath
set_option linter.unusedVariables false

def rotr (n x : Nat) : Nat := (x / 2 ^ n) ||| (x * 2 ^ (32 - n) % 4294967296)
def ssig0 (x : Nat) : Nat := rotr 7 x ^^^ rotr 18 x ^^^ x / 8
def ssig1 (x : Nat) : Nat := rotr 17 x ^^^ rotr 19 x ^^^ x / 1024
def bsig0 (x : Nat) : Nat := rotr 2 x ^^^ rotr 13 x ^^^ rotr 22 x
def bsig1 (x : Nat) : Nat := rotr 6 x ^^^ rotr 11 x ^^^ rotr 25 x
def ch (e f g : Nat) : Nat := (e &&& f) ^^^ ((4294967295 ^^^ e) &&& g)
def maj (a b c : Nat) : Nat := (a &&& b) ^^^ (a &&& c) ^^^ (b &&& c)
def be32 (bs : List UInt8) (i : Nat) : Nat := (bs.getD (4 * i) 0).toNat * 16777216 + (bs.getD (4 * i + 1) 0).toNat * 65536 + (bs.getD (4 * i + 2) 0).toNat * 256 + (bs.getD (4 * i + 3) 0).toNat
def nextWord (bs : List UInt8) (w : List Nat) (k : Nat) : Nat :=
  if k < 16 then be32 bs k else (w.getD (k - 16) 0 + ssig0 (w.getD (k - 15) 0) + w.getD (k - 7) 0 + ssig1 (w.getD (k - 2) 0)) % 4294967296
def ws (bs : List UInt8) : Nat → List Nat
  | 0 => []
  | k + 1 => ws bs k ++ [nextWord bs (ws bs k) k]
def rnd (s : List Nat) (kw : Nat) : List Nat :=
  let t1 := s.getD 7 0 + bsig1 (s.getD 4 0) + ch (s.getD 4 0) (s.getD 5 0) (s.getD 6 0) + kw
  let t2 := bsig0 (s.getD 0 0) + maj (s.getD 0 0) (s.getD 1 0) (s.getD 2 0)
  [(t1 + t2) % 4294967296, s.getD 0 0, s.getD 1 0, s.getD 2 0, (s.getD 3 0 + t1) % 4294967296, s.getD 4 0, s.getD 5 0, s.getD 6 0]
def rounds (ks w s : List Nat) : Nat → List Nat
  | 0 => s
  | i + 1 => rnd (rounds ks w s i) (ks.getD i 0 + w.getD i 0)
def addAll (a b : List Nat) : List Nat := (List.range 8).map fun i => (a.getD i 0 + b.getD i 0) % 4294967296
def block (ks h : List Nat) (bs : List UInt8) : List Nat := addAll (rounds ks (ws bs 64) h 64) h
end Go.Proofs.YteniflajiklffaaGreatDoor.sha

namespace Go.Proofs.YteniflajiklffaaGreatDoor.recs
open Go Go.RowKit Go.Proofs.YteniflajiklffaaGreatDoor.base Go.Proofs.YteniflajiklffaaGreatDoor.pairs Go.Proofs.YteniflajiklffaaGreatDoor.ords Go.Proofs.YteniflajiklffaaGreatDoor.putnum Go.Proofs.YteniflajiklffaaGreatDoor.puttext Go.Proofs.YteniflajiklffaaGreatDoor.getnum Go.Proofs.YteniflajiklffaaGreatDoor.gettext Go.Proofs.YteniflajiklffaaGreatDoor.gettexts Go.Proofs.YteniflajiklffaaGreatDoor.nummath
set_option linter.unusedVariables false

abbrev Rc := Int × Int × List Od
def recOk (r : Rc) : Bool := decide (1 ≤ r.2.1 ∧ r.2.1 ≤ 1000000) && (if r.1 = 1 then opsOk r.2.2 else decide (r.1 = 2 ∨ r.1 = 3) && r.2.2.isEmpty)
/-! ### bytes and back -/
theorem recOk_iff (r : Rc) : recOk r = true ↔ (1 ≤ r.2.1 ∧ r.2.1 ≤ 1000000) ∧ ((r.1 = 1 ∧ opsOk r.2.2 = true) ∨ ((r.1 = 2 ∨ r.1 = 3) ∧ r.2.2 = [])) := by
  unfold recOk
  rw [Bool.and_eq_true, decide_eq_true_iff]
  by_cases h : r.1 = 1
  · rw [if_pos h]
    constructor
    · rintro ⟨h1, h2⟩; exact ⟨h1, .inl ⟨h, h2⟩⟩
    · rintro ⟨h1, ⟨_, h2⟩ | ⟨h2, _⟩⟩
      · exact ⟨h1, h2⟩
      · omega
  · rw [if_neg h, Bool.and_eq_true, decide_eq_true_iff, List.isEmpty_iff]
    constructor
    · rintro ⟨h1, h2, h3⟩; exact ⟨h1, .inr ⟨h2, h3⟩⟩
    · rintro ⟨h1, ⟨h2, _⟩ | h2⟩
      · omega
      · exact ⟨h1, h2.1, h2.2⟩
/-! ### records one behind the other -/
/-! ### what records make -/
abbrev St := List Pr × List Rc × List Int
def locked (held : List Rc) (ops : List Od) : Bool := held.any fun h => h.2.2.any fun o => ops.any fun p => decide (o.2.1 = p.2.1)
def placeTx (tx : Int) : List Rc → Option Nat
  | [] => none
  | r :: l => if r.2.1 = tx then some 0 else (placeTx tx l).map (· + 1)
def opsAt (held : List Rc) (k : Nat) : List Od := match held[k]? with | none => [] | some r => r.2.2
def nextM (s : St) (r : Rc) (k : Nat) : List Pr := if r.1 = 2 then applyAll s.1 (opsAt s.2.1 k) else s.1
def one (s : St) (r : Rc) : Option St :=
  if recOk r = true then
    if r.1 = 1 then
      if decide (r.2.1 ∈ s.2.2) = true ∨ locked s.2.1 r.2.2 = true ∨ meets s.1 r.2.2 = false then none else some (s.1, s.2.1 ++ [r], s.2.2 ++ [r.2.1])
    else match placeTx r.2.1 s.2.1 with
      | none => if r.1 = 3 ∧ r.2.1 ∉ s.2.2 then some (s.1, s.2.1, s.2.2 ++ [r.2.1]) else none
      | some k => if (nextM s r k).length ≤ 60 then some (nextM s r k, s.2.1.take k ++ s.2.1.drop (k + 1), s.2.2) else none
  else none
def replayGo : St → List Rc → Option St
  | s, [] => some s
  | s, r :: l => match one s r with
    | none => none
    | some t => replayGo t l
def replay (l : List Rc) : Option St := replayGo ([], [], []) l
theorem replayGo_append (s : St) (a b : List Rc) : replayGo s (a ++ b) = match replayGo s a with | none => none | some t => replayGo t b := by
  induction a generalizing s with
  | nil => rfl
  | cons r a ih =>
    simp only [List.cons_append, replayGo]
    cases one s r with
    | none => rfl
    | some t => exact ih t
def Fine (l : List Rc) (s : St) : Prop := pairsOk s.1 = true ∧ (∀ r ∈ s.2.1, r ∈ l ∧ r.1 = 1 ∧ recOk r = true) ∧ ∀ r ∈ s.2.1, r.2.1 ∈ s.2.2
theorem placeTx_some {tx : Int} {l : List Rc} {k : Nat} (h : placeTx tx l = some k) : ∃ hk : k < l.length, l[k].2.1 = tx := by
  induction l generalizing k with
  | nil => cases h
  | cons r l ih =>
    rw [placeTx] at h
    split at h
    · next h1 => cases h; exact ⟨by simp, h1⟩
    · cases hp : placeTx tx l with
      | none => rw [hp] at h; cases h
      | some j =>
        rw [hp] at h
        simp only [Option.map_some, Option.some.injEq] at h
        subst h
        obtain ⟨hj, e⟩ := ih hp
        exact ⟨by simp; omega, by simpa using e⟩
theorem placeTx_none {tx : Int} {l : List Rc} (h : placeTx tx l = none) : ∀ r ∈ l, r.2.1 ≠ tx := by
  induction l with
  | nil => intro r hr; exact absurd hr List.not_mem_nil
  | cons x l ih =>
    rw [placeTx] at h
    split at h
    · cases h
    · next hne =>
      intro r hr
      rcases List.mem_cons.1 hr with e | e
      · subst e; exact hne
      · exact ih (by cases hp : placeTx tx l with | none => rfl | some j => rw [hp] at h; cases h) r e
theorem apply_fine {m : List Pr} {l : List Od} (h1 : ∀ p ∈ m, pairOk p = true) (h2 : Rise m) (hl : ∀ o ∈ l, odOk o = true) : (∀ p ∈ applyAll m l, pairOk p = true) ∧ Rise (applyAll m l) := by
  induction l generalizing m with
  | nil => exact ⟨h1, h2⟩
  | cons o l ih =>
    rw [apply_cons]
    have ho := (odOk_iff o).1 (hl o List.mem_cons_self)
    refine ih ?_ ?_ (fun x hx => hl x (List.mem_cons_of_mem _ hx))
    · intro p hp
      unfold apply1 at hp
      split at hp
      · rcases putKey_mem hp with e | e
        · exact h1 p e
        · subst e; unfold pairOk; rw [ho.2.2.1]; simpa using ho.2.2.2
      · split at hp
        · exact h1 p (List.mem_filter.1 hp).1
        · exact h1 p hp
    · unfold apply1
      split
      · exact rise_put h2
      · split
        · exact List.Pairwise.filter _ h2
        · exact h2
theorem opsAt_ok {held : List Rc} (h : ∀ r ∈ held, recOk r = true ∧ r.1 = 1) (k : Nat) : ∀ o ∈ opsAt held k, odOk o = true := by
  unfold opsAt
  cases hk : held[k]? with
  | none => intro o ho; exact absurd ho List.not_mem_nil
  | some r =>
    have hr := h r (List.mem_of_getElem? hk)
    obtain ⟨_, ⟨_, h2⟩ | ⟨h2, _⟩⟩ := (recOk_iff r).1 hr.1
    · exact ((opsOk_iff _).1 h2).1.1
    · omega
theorem mem_cut {l : List Rc} {k : Nat} {r : Rc} (h : r ∈ l.take k ++ l.drop (k + 1)) : r ∈ l := by
  rcases List.mem_append.1 h with h1 | h1
  · exact List.mem_of_mem_take h1
  · exact List.mem_of_mem_drop h1
theorem one_fine {l : List Rc} {s t : St} {r : Rc} (hs : Fine l s) (hr : r ∈ l) (h : one s r = some t) : Fine l t := by
  obtain ⟨h1, h2, h3⟩ := hs
  unfold one at h
  split at h
  · next hok =>
    split at h
    · next hk =>
      split at h
      · cases h
      · cases h
        refine ⟨h1, fun x hx => ?_, fun x hx => ?_⟩
        · rcases List.mem_append.1 hx with e | e
          · exact h2 x e
          · rw [List.mem_singleton.1 e]; exact ⟨hr, hk, hok⟩
        · rcases List.mem_append.1 hx with e | e
          · exact List.mem_append.2 (.inl (h3 x e))
          · rw [List.mem_singleton.1 e]; exact List.mem_append.2 (.inr (by simp))
    · split at h
      · split at h
        · cases h
          exact ⟨h1, h2, fun x hx => List.mem_append.2 (.inl (h3 x hx))⟩
        · cases h
      · next k hp =>
        split at h
        · next hlen =>
          cases h
          refine ⟨?_, fun x hx => h2 x (mem_cut hx), fun x hx => h3 x (mem_cut hx)⟩
          have h4 := (pairsOk_iff s.1).1 h1
          show pairsOk (nextM s r k) = true
          unfold nextM at hlen ⊢
          split
          · next h5 =>
            rw [if_pos h5] at hlen
            exact (pairsOk_iff _).2 ⟨apply_fine h4.1.1 h4.1.2 (opsAt_ok (fun x hx => ⟨(h2 x hx).2.2, (h2 x hx).2.1⟩) k), hlen⟩
          · exact h1
        · cases h
  · cases h
theorem replay_fine {l l' : List Rc} {s t : St} (hs : Fine l s) (hr : ∀ r ∈ l', r ∈ l) (h : replayGo s l' = some t) : Fine l t := by
  induction l' generalizing s with
  | nil => cases h; exact hs
  | cons r l' ih =>
    rw [replayGo] at h
    cases ho : one s r with
    | none => rw [ho] at h; cases h
    | some u =>
      rw [ho] at h
      exact ih (one_fine hs (hr r List.mem_cons_self) ho) (fun x hx => hr x (List.mem_cons_of_mem _ hx)) h
theorem replay_ok {l : List Rc} {t : St} (h : replay l = some t) : Fine l t := by
  refine replay_fine (s := ([], [], [])) ?_ (fun r hr => hr) h
  exact ⟨rfl, fun r hr => absurd hr List.not_mem_nil, fun r hr => absurd hr List.not_mem_nil⟩
end Go.Proofs.YteniflajiklffaaGreatDoor.recs

namespace Go.Proofs.YteniflajiklffaaGreatDoor.recs
open Go Go.RowKit Go.Proofs.YteniflajiklffaaGreatDoor.base Go.Proofs.YteniflajiklffaaGreatDoor.pairs Go.Proofs.YteniflajiklffaaGreatDoor.ords
set_option linter.unusedVariables false
set_option linter.unusedSimpArgs false

def smallR (x : Rc) : Prop := (Lit.int .i64 x.1).wf = true ∧ (Lit.int .i64 x.2.1).wf = true ∧ ∀ o ∈ x.2.2, smallO o

/-! ### a slice of orders of the call's own, or nil -/
def OwnV (w : World) (base : Nat) (v : Value) (l : List Od) : Prop := (∀ p ∈ l, smallO p) ∧ w.ownsRow base 85 3 v l.length (ordVals l)
section
variable {w w' : World} {base base' : Nat} {v : Value} {l : List Od} {row : Option Nat}
theorem ownV_nil (w : World) (base : Nat) : OwnV w base (.slice none 0 0) [] := ⟨fun _ h => absurd h List.not_mem_nil, World.ownsRow_nil _ _ _ _⟩
theorem ownV_of {g n cap : Nat} (h : OwnO w base g n cap l) : OwnV w base (.slice (some ⟨g, 0, none⟩) n cap) l := ⟨h.2.1, by rw [h.1]; exact h.2.2⟩
theorem OwnV.shape (h : OwnV w base v l) : (v = .slice none 0 0 ∧ l = []) ∨ ∃ g cap, v = .slice (some ⟨g, 0, none⟩) l.length cap ∧ OwnO w base g l.length cap l := by
  rcases h.2.2 with ⟨rfl, h0⟩ | ⟨g, cap, cur, rfl, _⟩
  · exact .inl ⟨rfl, List.eq_nil_of_length_eq_zero h0⟩
  · exact .inr ⟨g, cap, rfl, rfl, h.1, h.2⟩
theorem OwnV.lt (h : OwnV w base v l) (k : Nat) (hk : v.ownBlock = some k) : base ≤ k ∧ k < w.heap.size := h.2.lt k hk
theorem OwnV.of_block (h : OwnV w base v l) (hk : ∀ k, v.ownBlock = some k → w'.heap[k]? = w.heap[k]?) : OwnV w' base v l := by
  refine ⟨h.1, h.2.1, ?_⟩
  rcases h.2.2 with h' | ⟨g, cap, cur, rfl, h0, hg, r⟩
  · exact .inl h'
  · exact .inr ⟨g, cap, cur, rfl, h0, (hk g rfl).trans hg, r⟩
theorem OwnV.below (h : OwnV w base v l) (hb : Below w.heap.size w w') : OwnV w' base v l := h.of_block fun k hk => hb.block k (h.lt k hk).2
theorem OwnV.grown (h : OwnV w base v l) (hg : w.grownBy w' row) (hne : v.ownBlock = none ∨ v.ownBlock ≠ row) : OwnV w' base v l :=
  h.of_block fun k hk => hg.block k (h.lt k hk).2 (fun e => by
    rcases hne with h1 | h1
    · rw [hk] at h1; cases h1
    · exact h1 (hk.trans e))
theorem OwnV.mono (h : OwnV w base v l) (hb : base' ≤ base) : OwnV w base' v l := by
  refine ⟨h.1, h.2.1, ?_⟩
  rcases h.2.2 with h' | ⟨g, cap, cur, rfl, h0, r⟩
  · exact .inl h'
  · exact .inr ⟨g, cap, cur, rfl, by omega, r⟩
theorem OwnV.sl (h : OwnV w base v l) : ∃ a cap, v = .slice a l.length cap ∧ SlO w a l.length l ∧ l.length ≤ cap := by
  rcases h.shape with ⟨rfl, rfl⟩ | ⟨g, cap, rfl, hO⟩
  · exact ⟨none, 0, rfl, slo_nil _ _, Nat.le_refl _⟩
  · exact ⟨_, cap, rfl, hO.sl, hO.cases.1⟩
theorem OwnV.one (h : OwnV w base v l) : v.oneCell' = true := by
  rcases h.shape with ⟨rfl, _⟩ | ⟨g, cap, rfl, _⟩ <;> rfl
end

/-! ### records that are read -/
def RcAt (w : World) (b o : Nat) (x : Rc) : Prop :=
  w.cell? ⟨b, o, none⟩ = some (.int .i64 x.1) ∧ w.cell? ⟨b, o + 1, none⟩ = some (.int .i64 x.2.1) ∧ ∃ pa pl pc, w.cell? ⟨b, o + 2, none⟩ = some (.slice pa pl pc) ∧ SlO w pa pl x.2.2 ∧ pl ≤ pc
theorem RcAt.below {w w' : World} {b o : Nat} {x : Rc} (h : RcAt w b o x) (hb : Below w.heap.size w w') : RcAt w' b o x := by
  have keep : ∀ o v, w.cell? ⟨b, o, none⟩ = some v → w'.cell? ⟨b, o, none⟩ = some v := fun o v hv => (hb.cell (p := ⟨b, o, none⟩) (World.block_lt_of_cell? w _ hv)).trans hv
  obtain ⟨h1, h2, pa, pl, pc, h3, h4, h5⟩ := h
  exact ⟨keep _ _ h1, keep _ _ h2, pa, pl, pc, keep _ _ h3, h4.below hb, h5⟩
def SlR (w : World) (a : Option Addr) (len : Nat) (l : List Rc) : Prop :=
  l.length = len ∧ len ≤ maxLen ∧ (∀ x ∈ l, smallR x) ∧ (0 < len → ∃ b off, a = some ⟨b, off, none⟩ ∧ ∀ i (h : i < l.length), RcAt w b (off + i * 3) l[i])
theorem slr_nil (w : World) (a : Option Addr) : SlR w a 0 [] := ⟨rfl, Nat.zero_le _, (fun _ h => absurd h List.not_mem_nil), fun h => absurd h (by omega)⟩
theorem SlR.below {w w' : World} {a : Option Addr} {len : Nat} {l : List Rc} (h : SlR w a len l) (hb : Below w.heap.size w w') : SlR w' a len l := by
  obtain ⟨h1, h2, h3, h4⟩ := h
  refine ⟨h1, h2, h3, fun h0 => ?_⟩
  obtain ⟨b, off, e, hc⟩ := h4 h0
  exact ⟨b, off, e, fun i hi => (hc i hi).below hb⟩
theorem SlR.at {w : World} {b off len : Nat} {l : List Rc} (h : SlR w (some ⟨b, off, none⟩) len l) (i : Nat) (hi : i < l.length) : RcAt w b (off + i * 3) l[i] := by
  obtain ⟨b', off', e, hc⟩ := h.2.2.2 (by have := h.1; omega)
  simp only [Option.some.injEq, Addr.mk.injEq, and_true] at e
  obtain ⟨rfl, rfl⟩ := e
  exact hc i hi
theorem SlR.cut {w : World} {b off len : Nat} {l : List Rc} (h : SlR w (some ⟨b, off, none⟩) len l) (k : Nat) (hk : k ≤ len) : SlR w (some ⟨b, off, none⟩) k (l.take k) := by
  have hat := h.at
  refine ⟨by have := h.1; simp; omega, by have := h.2.1; omega, fun x hx => h.2.2.1 x (List.mem_of_mem_take hx), fun _ => ⟨b, off, rfl, fun i hi => ?_⟩⟩
  have hi' : i < l.length := by simp at hi; omega
  rw [List.getElem_take]
  exact hat i hi'

/-! ### rows of records that a call made: the orders of each lie in a row of their own -/
def recVals (l : List Rc) (hs : List Value) : List Value := (l.zip hs).flatMap fun q => [.int .i64 q.1.1, .int .i64 q.1.2.1, q.2]
theorem recVals_cons (x : Rc) (l : List Rc) (y : Value) (hs : List Value) : recVals (x :: l) (y :: hs) = .int .i64 x.1 :: .int .i64 x.2.1 :: y :: recVals l hs := rfl
theorem recVals_length (l : List Rc) (hs : List Value) (h : hs.length = l.length) : (recVals l hs).length = l.length * 3 := by
  induction l generalizing hs with
  | nil => rfl
  | cons x l ih =>
    cases hs with
    | nil => simp at h
    | cons y hs => simp at h; have := ih hs h; rw [recVals_cons]; simp [this]; omega
theorem recVals_get (l : List Rc) (hs : List Value) (h : hs.length = l.length) (i : Nat) (hi : i < l.length) :
    (recVals l hs)[i * 3]? = some (.int .i64 l[i].1) ∧ (recVals l hs)[i * 3 + 1]? = some (.int .i64 l[i].2.1) ∧ (recVals l hs)[i * 3 + 2]? = some (hs[i]'(by omega)) := by
  induction l generalizing hs i with
  | nil => simp at hi
  | cons x l ih =>
    cases hs with
    | nil => simp at h
    | cons y hs =>
      rw [recVals_cons]
      cases i with
      | zero => exact ⟨rfl, rfl, rfl⟩
      | succ i =>
        have := ih hs (by simpa using h) i (by simpa using hi)
        rw [show (i + 1) * 3 = i * 3 + 1 + 1 + 1 by omega]
        simpa using this
theorem recVals_append (l l2 : List Rc) (hs hs2 : List Value) (h : hs.length = l.length) : recVals (l ++ l2) (hs ++ hs2) = recVals l hs ++ recVals l2 hs2 := by
  unfold recVals
  rw [List.zip_append h.symm, List.flatMap_append]
theorem recVals_oneCell (l : List Rc) (hs : List Value) (h : ∀ y ∈ hs, y.oneCell' = true) : ∀ v ∈ recVals l hs, v.oneCell' = true := by
  intro v hv
  obtain ⟨q, hq, hv⟩ := List.mem_flatMap.1 hv
  simp at hv
  rcases hv with rfl | rfl | rfl
  · rfl
  · rfl
  · exact h _ (List.of_mem_zip hq).2
structure OwnR (w : World) (base : Nat) (v : Value) (l : List Rc) (hs : List Value) : Prop where
  len : hs.length = l.length
  sm : ∀ x ∈ l, smallR x
  row : w.ownsRow base 41 3 v l.length (recVals l hs)
  ops : ∀ i (h : i < l.length), OwnV w base (hs[i]'(by omega)) l[i].2.2
  apart : hs.Pairwise fun a b => a.ownBlock = none ∨ a.ownBlock ≠ b.ownBlock
  out : ∀ k, v.ownBlock = some k → ∀ y ∈ hs, y.ownBlock ≠ some k
section
variable {w w' : World} {base base' g n cap : Nat} {v : Value} {l : List Rc} {hs : List Value}
theorem ownR_nil (w : World) (base : Nat) : OwnR w base (.slice none 0 0) [] [] :=
  ⟨rfl, (fun _ h => absurd h List.not_mem_nil), ⟨rfl, .inl ⟨rfl, rfl⟩⟩, fun i hi => absurd hi (by simp), List.Pairwise.nil, fun k hk => by cases hk⟩
theorem ownR_made (w : World) (base : Nat) (hb : base ≤ w.heap.size) : OwnR (w.alloc (.cells #[] 41)) base (.slice (some ⟨w.heap.size, 0, none⟩) 0 0) [] [] :=
  ⟨rfl, (fun _ h => absurd h List.not_mem_nil), World.ownsRow_made w #[] 0 hb (Nat.zero_le _) rfl, fun i hi => absurd hi (by simp), List.Pairwise.nil, fun k _ y hy => absurd hy List.not_mem_nil⟩
def BlkR (v : Value) (hs : List Value) (k : Nat) : Prop := v.ownBlock = some k ∨ ∃ y ∈ hs, y.ownBlock = some k
theorem rowR_of_block {e : TypeId} {size n : Nat} {xs : List Value} (h : w.ownsRow base e size v n xs) (hk : ∀ k, v.ownBlock = some k → w'.heap[k]? = w.heap[k]?) : w'.ownsRow base e size v n xs := by
  refine ⟨h.1, ?_⟩
  rcases h.2 with h' | ⟨g, cap, cur, rfl, h0, hg, r⟩
  · exact .inl h'
  · exact .inr ⟨g, cap, cur, rfl, h0, (hk g rfl).trans hg, r⟩
theorem OwnR.of_blocks (h : OwnR w base v l hs) (hk : ∀ k, BlkR v hs k → w'.heap[k]? = w.heap[k]?) : OwnR w' base v l hs :=
  ⟨h.len, h.sm, rowR_of_block h.row (fun k e => hk k (.inl e)), fun i hi => (h.ops i hi).of_block (fun k e => hk k (.inr ⟨hs[i]'(by have := h.len; omega), List.getElem_mem _, e⟩)), h.apart, h.out⟩
theorem OwnR.lt (h : OwnR w base v l hs) (k : Nat) (hk : BlkR v hs k) : base ≤ k ∧ k < w.heap.size := by
  rcases hk with e | ⟨y, hy, e⟩
  · exact h.row.lt k e
  · obtain ⟨i, hi, rfl⟩ := List.getElem_of_mem hy
    exact (h.ops i (by have := h.len; omega)).lt k e
theorem OwnR.below (h : OwnR w base v l hs) (hb : Below w.heap.size w w') : OwnR w' base v l hs := h.of_blocks fun k hk => hb.block k (h.lt k hk).2
theorem OwnR.grown (h : OwnR w base v l hs) {k : Nat} (hg : w.grownBy w' (some k)) (hne : ¬ BlkR v hs k) : OwnR w' base v l hs :=
  h.of_blocks (fun j hj => hg.block j (h.lt j hj).2 (fun e => by cases e; exact hne hj))
theorem OwnR.mono (h : OwnR w base v l hs) (hb : base' ≤ base) : OwnR w base' v l hs := by
  refine ⟨h.len, h.sm, ⟨h.row.1, ?_⟩, fun i hi => (h.ops i hi).mono hb, h.apart, h.out⟩
  rcases h.row.2 with h' | ⟨g, cap, cur, rfl, h0, r⟩
  · exact .inl h'
  · exact .inr ⟨g, cap, cur, rfl, by omega, r⟩
theorem OwnR.shape (h : OwnR w base v l hs) : (v = .slice none 0 0 ∧ l = [] ∧ hs = []) ∨ ∃ g cap, v = .slice (some ⟨g, 0, none⟩) l.length cap ∧ l.length ≤ cap ∧ cap ≤ maxLen := by
  rcases h.row.2 with ⟨rfl, h0⟩ | ⟨g, cap, cur, rfl, _, _, h1, h2, _⟩
  · have : l = [] := List.eq_nil_of_length_eq_zero h0
    subst this
    exact .inl ⟨rfl, rfl, List.eq_nil_of_length_eq_zero (by simpa using h.len)⟩
  · exact .inr ⟨g, cap, rfl, h1, h2⟩
theorem OwnR.nlen {a : Option Addr} (h : OwnR w base (.slice a n cap) l hs) : n = l.length := by
  rcases h.shape with ⟨e, rfl, _⟩ | ⟨g', c', e, _⟩
  · cases e; rfl
  · cases e; rfl
theorem OwnR.room {a : Option Addr} (h : OwnR w base (.slice a n cap) l hs) : n ≤ cap ∧ cap ≤ maxLen := by
  rcases h.shape with ⟨e, rfl, _⟩ | ⟨g', c', e, h1, h2⟩
  · cases e; exact ⟨Nat.le_refl _, Nat.zero_le _⟩
  · cases e; exact ⟨h1, h2⟩
theorem OwnR.at (h : OwnR w base (.slice (some ⟨g, 0, none⟩) n cap) l hs) (i : Nat) (hi : i < l.length) :
    w.cell? ⟨g, i * 3, none⟩ = some (.int .i64 l[i].1) ∧ w.cell? ⟨g, i * 3 + 1, none⟩ = some (.int .i64 l[i].2.1) ∧ w.cell? ⟨g, i * 3 + 2, none⟩ = some (hs[i]'(by have := h.len; omega)) := by
  obtain rfl := h.nlen
  obtain ⟨h1, h2, h3⟩ := recVals_get l hs h.len i hi
  have key : ∀ j u, (recVals l hs)[j]? = some u → w.cell? ⟨g, j, none⟩ = some u := fun j u hu => by
    have := h.row.cells (g := g) rfl j u hu
    rw [Addr.add_lit, Nat.zero_add] at this
    exact this
  exact ⟨key _ _ h1, key _ _ h2, key _ _ h3⟩
theorem OwnR.frozen (h : OwnR w base (.slice (some ⟨g, 0, none⟩) n cap) l hs) (j : Nat) : w.frozen? ⟨g, j, none⟩ = false := by
  obtain rfl := h.nlen
  exact h.row.frozenAt j
theorem OwnR.sl {a : Option Addr} (h : OwnR w base (.slice a n cap) l hs) : SlR w a n l := by
  rcases h.shape with ⟨e, rfl, _⟩ | ⟨g, c, e, h1, h2⟩
  · cases e; exact slr_nil _ _
  · cases e
    refine ⟨rfl, by omega, h.sm, fun _ => ⟨g, 0, rfl, fun i hi => ?_⟩⟩
    obtain ⟨c1, c2, c3⟩ := h.at i hi
    rw [Nat.zero_add]
    obtain ⟨a, cp, e, hS, hc⟩ := (h.ops i hi).sl
    rw [e] at c3
    exact ⟨c1, c2, _, _, _, c3, hS, hc⟩
theorem OwnR.one (h : OwnR w base v l hs) : ∀ y ∈ hs, y.oneCell' = true := by
  intro y hy
  obtain ⟨i, hi, rfl⟩ := List.getElem_of_mem hy
  exact (h.ops i (by have := h.len; omega)).one

/-! ### all blocks but those of a slice of records are as they were -/
/-! ### stores -/
theorem recVals_set0 (l : List Rc) (hs : List Value) (h : hs.length = l.length) (i : Nat) (hi : i < l.length) (z : Int) : (recVals l hs).set (i * 3) (.int .i64 z) = recVals (l.set i (z, l[i].2)) hs := by
  induction l generalizing hs i with
  | nil => simp at hi
  | cons x l ih =>
    cases hs with
    | nil => simp at h
    | cons y hs =>
      cases i with
      | zero => rfl
      | succ i =>
        rw [recVals_cons, show (i + 1) * 3 = i * 3 + 1 + 1 + 1 by omega]
        simp only [List.set_cons_succ, List.getElem_cons_succ, recVals_cons]
        rw [ih hs (by simpa using h) i (by simpa using hi)]
theorem mem_set_smallR {i : Nat} {x : Rc} (h : ∀ y ∈ l, smallR y) (hx : smallR x) : ∀ y ∈ l.set i x, smallR y := by
  intro y hy
  rcases List.mem_or_eq_of_mem_set hy with h1 | h1
  · exact h y h1
  · subst h1; exact hx
theorem ops_set (h : OwnR w base v l hs) (i : Nat) (hi : i < l.length) (a b : Int) : ∀ j (hj : j < (l.set i (a, b, l[i].2.2)).length), OwnV w base (hs[j]'(by have := h.len; simp at hj; omega)) (l.set i (a, b, l[i].2.2))[j].2.2 := by
  intro j hj
  have hjl : j < l.length := by simpa using hj
  have := h.ops j hjl
  by_cases e : i = j
  · subst e; rw [List.getElem_set_self]; exact this
  · rw [List.getElem_set_ne e]; exact this
theorem OwnR.setKind (h : OwnR w base (.slice (some ⟨g, 0, none⟩) n cap) l hs) (i : Nat) (hi : i < l.length) (z : Int) (hz : (Lit.int .i64 z).wf = true) :
    OwnR (w.setCell ⟨g, i * 3, none⟩ (.int .i64 z)) base (.slice (some ⟨g, 0, none⟩) n cap) (l.set i (z, l[i].2)) hs ∧ w.grownBy (w.setCell ⟨g, i * 3, none⟩ (.int .i64 z)) (some g) := by
  obtain rfl := h.nlen
  have hs1 := h.row.stored (i * 3) (.int .i64 z)
  rw [recVals_set0 l hs h.len i hi z] at hs1
  have hsm := h.sm l[i] (List.getElem_mem hi)
  refine ⟨⟨by simpa using h.len, mem_set_smallR h.sm ⟨hz, hsm.2⟩, by simpa using hs1.1, fun j hj => ?_, h.apart, h.out⟩, hs1.2⟩
  refine (ops_set h i hi z l[i].2.1 j hj).grown hs1.2 (.inr (fun e => ?_))
  exact h.out g rfl _ (List.getElem_mem _) e
theorem recRow_ne {e1 e2 : TypeId} {s1 s2 n1 n2 : Nat} {v1 v2 : Value} {x1 x2 : List Value} {k b1 b2 : Nat} (h1 : w.ownsRow b1 e1 s1 v1 n1 x1) (h2 : w.ownsRow b2 e2 s2 v2 n2 x2) (hk1 : v1.ownBlock = some k) (hk2 : v2.ownBlock = some k) (hne : e1 ≠ e2) : False := by
  rcases h1.2 with ⟨rfl, _⟩ | ⟨g, c, cur, rfl, _, hg, _⟩
  · cases hk1
  rcases h2.2 with ⟨rfl, _⟩ | ⟨g2, c2, cur2, rfl, _, hg2, _⟩
  · cases hk2
  cases hk1
  simp only [Value.ownBlock, Option.some.injEq] at hk2
  rw [hk2, hg] at hg2
  injection hg2 with hg2
  injection hg2 with _ he
  exact hne he
theorem OwnR.snoc {w7 : World} {x : Rc} {y v7 : Value} (h : OwnR w base v l hs) (hP : OwnV w base y x.2.2) (hx : smallR x) (hy : ∀ k, y.ownBlock = some k → ¬ BlkR v hs k)
    (hown : w7.ownsRow base 41 3 v7 (l.length + 1) (recVals l hs ++ [.int .i64 x.1, .int .i64 x.2.1, y])) (hgrow : w.grownBy w7 v.ownBlock) : OwnR w7 base v7 (l ++ [x]) (hs ++ [y]) := by
  have hlen := h.len
  have hps : ∀ i (hi : i < (l ++ [x]).length), OwnV w7 base ((hs ++ [y])[i]'(by simp at hi ⊢; omega)) (l ++ [x])[i].2.2 := by
    intro i hi
    by_cases e : i < l.length
    · rw [List.getElem_append_left e]
      simp only [List.getElem_append_left (show i < hs.length by omega)]
      refine (h.ops i e).grown hgrow ?_
      by_cases hv : v.ownBlock = none
      · by_cases h1 : (hs[i]'(by omega)).ownBlock = none
        · exact .inl h1
        · exact .inr (by rw [hv]; exact h1)
      · obtain ⟨k, hk⟩ := Option.ne_none_iff_exists'.1 hv
        exact .inr (by rw [hk]; exact h.out k hk _ (List.getElem_mem _))
    · have : i = l.length := by simp at hi; omega
      subst this
      rw [List.getElem_append_right (Nat.le_refl _)]
      simp only [List.getElem_append_right (show hs.length ≤ l.length by omega)]
      simp only [hlen, Nat.sub_self, List.getElem_cons_zero]
      refine hP.grown hgrow ?_
      by_cases hv : y.ownBlock = none
      · exact .inl hv
      · obtain ⟨k, hk⟩ := Option.ne_none_iff_exists'.1 hv
        exact .inr (by rw [hk]; exact fun e2 => hy k hk (.inl e2.symm))
  refine ⟨by simp [hlen], fun z hz => ?_, ?_, hps, ?_, fun k hk z hz e => ?_⟩
  · rcases List.mem_append.1 hz with h1 | h1
    · exact h.sm z h1
    · rw [List.mem_singleton.1 h1]; exact hx
  · rw [recVals_append l [x] hs [y] hlen, List.length_append]; exact hown
  · rw [List.pairwise_append]
    refine ⟨h.apart, List.pairwise_singleton _ _, fun a ha z hz => ?_⟩
    rw [List.mem_singleton.1 hz]
    by_cases h1 : a.ownBlock = none
    · exact .inl h1
    · right
      intro e
      obtain ⟨k, hk⟩ := Option.ne_none_iff_exists'.1 h1
      exact hy k (by rw [← e, hk]) (.inr ⟨a, ha, hk⟩)
  · obtain ⟨i, hi, rfl⟩ := List.getElem_of_mem hz
    have hS := hps i (by simp at hi ⊢; omega)
    exact recRow_ne hown hS.2 hk e (by decide)
end
end Go.Proofs.YteniflajiklffaaGreatDoor.recs
