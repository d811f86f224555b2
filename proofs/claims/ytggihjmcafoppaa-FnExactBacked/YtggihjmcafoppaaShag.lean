/- Rows of records (two numbers and a slice of orders: three cells a record): small facts on worlds; no function of the program is named here. The specification's records: what is right. The specification's replay: where a transaction is held, and whether a key is. The specification's replay: whether a key of orders is one of what is held. append within the room that a make laid: small facts on worlds; no function of the program is named here. The program's keys and pairs: what is right. The program's places of keys, and what is got. The program's putting of keys. The program's deleting of keys: a map counts the keys, and the key is deleted from it. A map of records by their transactions, that the call itself made: its elements are records whose orders lie elsewhere. The program's orders: what is right. The program's records: what is right. The program's pairs between two ends. The program's orders: what is met, at which shard, what is done. The program's replay: what is held by key, and whether a record fits. The program's replay: one record more is taken. The program's replay: a record of the call's own, and what is held. What the program keeps from record to record is what the specification keeps: plain mathematics. The program's ReplayRecs. A region that draws its order: what is held from one operation to the next may fall with the last one, which waits for all the others. No function of the program is named here. A call inside a region that draws its order, as a law of one step. No function of the program is named here. -/
import Derived.Test.YtggihjmcafoppaaShab
import Derived.Test.YtggihjmcafoppaaShaf
import Derived.Test.YtggihjmcafoppaaShac
import Derived.BigQuiet
import Derived.Test.YtggihjmcafoppaaShaa
import Derived.OwnWalk
import Derived.Maps.OwnSet
import Derived.Maps.OwnOps
import Derived.Maps.Views
import Derived.Laws.CopyOwn
import Derived.Laws.CopyRow
import Derived.Deep.RegionHeld
import Derived.Deep.RegionLaw
import Derived.WalkKit
import Derived.WalkSpells
import Derived.WalkLawsBesides
namespace Go.Proofs.Ytggihjmcafoppaa.recs
open Go Go.RowKit Go.Proofs.Ytggihjmcafoppaa.base Go.Proofs.Ytggihjmcafoppaa.pairs Go.Proofs.Ytggihjmcafoppaa.ords
set_option linter.unusedVariables false
set_option linter.unusedSimpArgs false

def smallR (x : Rc) : Prop := (Lit.int .i64 x.1).wf = true ∧ (Lit.int .i64 x.2.1).wf = true ∧ ∀ o ∈ x.2.2, smallO o

/-! ### a slice of orders of the call's own, or nil -/
def OwnV (w : World) (base : Nat) (v : Value) (l : List Od) : Prop := (∀ p ∈ l, smallO p) ∧ w.ownsRow base 121 3 v l.length (ordVals l)
section
variable {w w' : World} {base base' : Nat} {v : Value} {l : List Od} {row : Option Nat}
theorem ownV_nil (w : World) (base : Nat) : OwnV w base (.slice none 0 0) [] := ⟨fun _ h => absurd h List.not_mem_nil, World.ownsRow_nil _ _ _ _⟩
theorem ownV_of {g n cap : Nat} (h : OwnO w base g n cap l) : OwnV w base (.slice (some ⟨g, 0, none⟩) n cap) l := ⟨h.2.1, by rw [h.1]; exact h.2.2⟩
theorem OwnV.shape (h : OwnV w base v l) : (v = .slice none 0 0 ∧ l = []) ∨ ∃ g cap, v = .slice (some ⟨g, 0, none⟩) l.length cap ∧ OwnO w base g l.length cap l := by
  rcases h.2.2 with ⟨rfl, h0⟩ | ⟨g, cap, cur, rfl, _⟩
  · exact .inl ⟨rfl, List.eq_nil_of_length_eq_zero h0⟩
  · exact .inr ⟨g, cap, rfl, rfl, h.1, h.2⟩
theorem OwnV.lt (h : OwnV w base v l) (k : Nat) (hk : v.ownBlock = some k) : base ≤ k ∧ k < w.heap.size := h.2.lt k hk
theorem OwnV.of_block (h : OwnV w base v l) (hk : ∀ k, v.ownBlock = some k → w'.heap[k]? = w.heap[k]?) : OwnV w' base v l := by
  refine ⟨h.1, h.2.1, ?_⟩
  rcases h.2.2 with h' | ⟨g, cap, cur, rfl, h0, hg, r⟩
  · exact .inl h'
  · exact .inr ⟨g, cap, cur, rfl, h0, (hk g rfl).trans hg, r⟩
theorem OwnV.below (h : OwnV w base v l) (hb : Below w.heap.size w w') : OwnV w' base v l := h.of_block fun k hk => hb.block k (h.lt k hk).2
theorem OwnV.grown (h : OwnV w base v l) (hg : w.grownBy w' row) (hne : v.ownBlock = none ∨ v.ownBlock ≠ row) : OwnV w' base v l :=
  h.of_block fun k hk => hg.block k (h.lt k hk).2 (fun e => by
    rcases hne with h1 | h1
    · rw [hk] at h1; cases h1
    · exact h1 (hk.trans e))
theorem OwnV.mono (h : OwnV w base v l) (hb : base' ≤ base) : OwnV w base' v l := by
  refine ⟨h.1, h.2.1, ?_⟩
  rcases h.2.2 with h' | ⟨g, cap, cur, rfl, h0, r⟩
  · exact .inl h'
  · exact .inr ⟨g, cap, cur, rfl, by omega, r⟩
theorem OwnV.sl (h : OwnV w base v l) : ∃ a cap, v = .slice a l.length cap ∧ SlO w a l.length l ∧ l.length ≤ cap := by
  rcases h.shape with ⟨rfl, rfl⟩ | ⟨g, cap, rfl, hO⟩
  · exact ⟨none, 0, rfl, slo_nil _ _, Nat.le_refl _⟩
  · exact ⟨_, cap, rfl, hO.sl, hO.cases.1⟩
theorem OwnV.one (h : OwnV w base v l) : v.oneCell' = true := by
  rcases h.shape with ⟨rfl, _⟩ | ⟨g, cap, rfl, _⟩ <;> rfl
end

/-! ### records that are read -/
def RcAt (w : World) (b o : Nat) (x : Rc) : Prop :=
  w.cell? ⟨b, o, none⟩ = some (.int .i64 x.1) ∧ w.cell? ⟨b, o + 1, none⟩ = some (.int .i64 x.2.1) ∧ ∃ pa pl pc, w.cell? ⟨b, o + 2, none⟩ = some (.slice pa pl pc) ∧ SlO w pa pl x.2.2 ∧ pl ≤ pc
theorem RcAt.below {w w' : World} {b o : Nat} {x : Rc} (h : RcAt w b o x) (hb : Below w.heap.size w w') : RcAt w' b o x := by
  have keep : ∀ o v, w.cell? ⟨b, o, none⟩ = some v → w'.cell? ⟨b, o, none⟩ = some v := fun o v hv => (hb.cell (p := ⟨b, o, none⟩) (World.block_lt_of_cell? w _ hv)).trans hv
  obtain ⟨h1, h2, pa, pl, pc, h3, h4, h5⟩ := h
  exact ⟨keep _ _ h1, keep _ _ h2, pa, pl, pc, keep _ _ h3, h4.below hb, h5⟩
def SlR (w : World) (a : Option Addr) (len : Nat) (l : List Rc) : Prop :=
  l.length = len ∧ len ≤ maxLen ∧ (∀ x ∈ l, smallR x) ∧ (0 < len → ∃ b off, a = some ⟨b, off, none⟩ ∧ ∀ i (h : i < l.length), RcAt w b (off + i * 3) l[i])
theorem slr_nil (w : World) (a : Option Addr) : SlR w a 0 [] := ⟨rfl, Nat.zero_le _, (fun _ h => absurd h List.not_mem_nil), fun h => absurd h (by omega)⟩
theorem SlR.below {w w' : World} {a : Option Addr} {len : Nat} {l : List Rc} (h : SlR w a len l) (hb : Below w.heap.size w w') : SlR w' a len l := by
  obtain ⟨h1, h2, h3, h4⟩ := h
  refine ⟨h1, h2, h3, fun h0 => ?_⟩
  obtain ⟨b, off, e, hc⟩ := h4 h0
  exact ⟨b, off, e, fun i hi => (hc i hi).below hb⟩
theorem SlR.at {w : World} {b off len : Nat} {l : List Rc} (h : SlR w (some ⟨b, off, none⟩) len l) (i : Nat) (hi : i < l.length) : RcAt w b (off + i * 3) l[i] := by
  obtain ⟨b', off', e, hc⟩ := h.2.2.2 (by have := h.1; omega)
  simp only [Option.some.injEq, Addr.mk.injEq, and_true] at e
  obtain ⟨rfl, rfl⟩ := e
  exact hc i hi
/-! ### rows of records that a call made: the orders of each lie in a row of their own -/
def recVals (l : List Rc) (hs : List Value) : List Value := (l.zip hs).flatMap fun q => [.int .i64 q.1.1, .int .i64 q.1.2.1, q.2]
theorem recVals_cons (x : Rc) (l : List Rc) (y : Value) (hs : List Value) : recVals (x :: l) (y :: hs) = .int .i64 x.1 :: .int .i64 x.2.1 :: y :: recVals l hs := rfl
theorem recVals_length (l : List Rc) (hs : List Value) (h : hs.length = l.length) : (recVals l hs).length = l.length * 3 := by
  induction l generalizing hs with
  | nil => rfl
  | cons x l ih =>
    cases hs with
    | nil => simp at h
    | cons y hs => simp at h; have := ih hs h; rw [recVals_cons]; simp [this]; omega
theorem recVals_get (l : List Rc) (hs : List Value) (h : hs.length = l.length) (i : Nat) (hi : i < l.length) :
    (recVals l hs)[i * 3]? = some (.int .i64 l[i].1) ∧ (recVals l hs)[i * 3 + 1]? = some (.int .i64 l[i].2.1) ∧ (recVals l hs)[i * 3 + 2]? = some (hs[i]'(by omega)) := by
  induction l generalizing hs i with
  | nil => simp at hi
  | cons x l ih =>
    cases hs with
    | nil => simp at h
    | cons y hs =>
      rw [recVals_cons]
      cases i with
      | zero => exact ⟨rfl, rfl, rfl⟩
      | succ i =>
        have := ih hs (by simpa using h) i (by simpa using hi)
        rw [show (i + 1) * 3 = i * 3 + 1 + 1 + 1 by omega]
        simpa using this
structure OwnR (w : World) (base : Nat) (v : Value) (l : List Rc) (hs : List Value) : Prop where
  len : hs.length = l.length
  sm : ∀ x ∈ l, smallR x
  row : w.ownsRow base 69 3 v l.length (recVals l hs)
  ops : ∀ i (h : i < l.length), OwnV w base (hs[i]'(by omega)) l[i].2.2
  apart : hs.Pairwise fun a b => a.ownBlock = none ∨ a.ownBlock ≠ b.ownBlock
  out : ∀ k, v.ownBlock = some k → ∀ y ∈ hs, y.ownBlock ≠ some k
section
variable {w w' : World} {base base' g n cap : Nat} {v : Value} {l : List Rc} {hs : List Value}
def BlkR (v : Value) (hs : List Value) (k : Nat) : Prop := v.ownBlock = some k ∨ ∃ y ∈ hs, y.ownBlock = some k
theorem rowR_of_block {e : TypeId} {size n : Nat} {xs : List Value} (h : w.ownsRow base e size v n xs) (hk : ∀ k, v.ownBlock = some k → w'.heap[k]? = w.heap[k]?) : w'.ownsRow base e size v n xs := by
  refine ⟨h.1, ?_⟩
  rcases h.2 with h' | ⟨g, cap, cur, rfl, h0, hg, r⟩
  · exact .inl h'
  · exact .inr ⟨g, cap, cur, rfl, h0, (hk g rfl).trans hg, r⟩
theorem OwnR.of_blocks (h : OwnR w base v l hs) (hk : ∀ k, BlkR v hs k → w'.heap[k]? = w.heap[k]?) : OwnR w' base v l hs :=
  ⟨h.len, h.sm, rowR_of_block h.row (fun k e => hk k (.inl e)), fun i hi => (h.ops i hi).of_block (fun k e => hk k (.inr ⟨hs[i]'(by have := h.len; omega), List.getElem_mem _, e⟩)), h.apart, h.out⟩
theorem OwnR.lt (h : OwnR w base v l hs) (k : Nat) (hk : BlkR v hs k) : base ≤ k ∧ k < w.heap.size := by
  rcases hk with e | ⟨y, hy, e⟩
  · exact h.row.lt k e
  · obtain ⟨i, hi, rfl⟩ := List.getElem_of_mem hy
    exact (h.ops i (by have := h.len; omega)).lt k e
theorem OwnR.below (h : OwnR w base v l hs) (hb : Below w.heap.size w w') : OwnR w' base v l hs := h.of_blocks fun k hk => hb.block k (h.lt k hk).2
theorem OwnR.grown (h : OwnR w base v l hs) {k : Nat} (hg : w.grownBy w' (some k)) (hne : ¬ BlkR v hs k) : OwnR w' base v l hs :=
  h.of_blocks (fun j hj => hg.block j (h.lt j hj).2 (fun e => by cases e; exact hne hj))
theorem OwnR.mono (h : OwnR w base v l hs) (hb : base' ≤ base) : OwnR w base' v l hs := by
  refine ⟨h.len, h.sm, ⟨h.row.1, ?_⟩, fun i hi => (h.ops i hi).mono hb, h.apart, h.out⟩
  rcases h.row.2 with h' | ⟨g, cap, cur, rfl, h0, r⟩
  · exact .inl h'
  · exact .inr ⟨g, cap, cur, rfl, by omega, r⟩
theorem OwnR.shape (h : OwnR w base v l hs) : (v = .slice none 0 0 ∧ l = [] ∧ hs = []) ∨ ∃ g cap, v = .slice (some ⟨g, 0, none⟩) l.length cap ∧ l.length ≤ cap ∧ cap ≤ maxLen := by
  rcases h.row.2 with ⟨rfl, h0⟩ | ⟨g, cap, cur, rfl, _, _, h1, h2, _⟩
  · have : l = [] := List.eq_nil_of_length_eq_zero h0
    subst this
    exact .inl ⟨rfl, rfl, List.eq_nil_of_length_eq_zero (by simpa using h.len)⟩
  · exact .inr ⟨g, cap, rfl, h1, h2⟩
theorem OwnR.nlen {a : Option Addr} (h : OwnR w base (.slice a n cap) l hs) : n = l.length := by
  rcases h.shape with ⟨e, rfl, _⟩ | ⟨g', c', e, _⟩
  · cases e; rfl
  · cases e; rfl
theorem OwnR.room {a : Option Addr} (h : OwnR w base (.slice a n cap) l hs) : n ≤ cap ∧ cap ≤ maxLen := by
  rcases h.shape with ⟨e, rfl, _⟩ | ⟨g', c', e, h1, h2⟩
  · cases e; exact ⟨Nat.le_refl _, Nat.zero_le _⟩
  · cases e; exact ⟨h1, h2⟩
theorem OwnR.at (h : OwnR w base (.slice (some ⟨g, 0, none⟩) n cap) l hs) (i : Nat) (hi : i < l.length) :
    w.cell? ⟨g, i * 3, none⟩ = some (.int .i64 l[i].1) ∧ w.cell? ⟨g, i * 3 + 1, none⟩ = some (.int .i64 l[i].2.1) ∧ w.cell? ⟨g, i * 3 + 2, none⟩ = some (hs[i]'(by have := h.len; omega)) := by
  obtain rfl := h.nlen
  obtain ⟨h1, h2, h3⟩ := recVals_get l hs h.len i hi
  have key : ∀ j u, (recVals l hs)[j]? = some u → w.cell? ⟨g, j, none⟩ = some u := fun j u hu => by
    have := h.row.cells (g := g) rfl j u hu
    rw [Addr.add_lit, Nat.zero_add] at this
    exact this
  exact ⟨key _ _ h1, key _ _ h2, key _ _ h3⟩
theorem OwnR.frozen (h : OwnR w base (.slice (some ⟨g, 0, none⟩) n cap) l hs) (j : Nat) : w.frozen? ⟨g, j, none⟩ = false := by
  obtain rfl := h.nlen
  exact h.row.frozenAt j
theorem OwnR.sl {a : Option Addr} (h : OwnR w base (.slice a n cap) l hs) : SlR w a n l := by
  rcases h.shape with ⟨e, rfl, _⟩ | ⟨g, c, e, h1, h2⟩
  · cases e; exact slr_nil _ _
  · cases e
    refine ⟨rfl, by omega, h.sm, fun _ => ⟨g, 0, rfl, fun i hi => ?_⟩⟩
    obtain ⟨c1, c2, c3⟩ := h.at i hi
    rw [Nat.zero_add]
    obtain ⟨a, cp, e, hS, hc⟩ := (h.ops i hi).sl
    rw [e] at c3
    exact ⟨c1, c2, _, _, _, c3, hS, hc⟩
theorem OwnR.one (h : OwnR w base v l hs) : ∀ y ∈ hs, y.oneCell' = true := by
  intro y hy
  obtain ⟨i, hi, rfl⟩ := List.getElem_of_mem hy
  exact (h.ops i (by have := h.len; omega)).one

/-! ### all blocks but those of a slice of records are as they were -/
structure KeepR (v : Value) (hs : List Value) (w w' : World) : Prop where
  os : w'.os = w.os
  tape : w'.tape = w.tape
  output : w'.output = w.output
  size : w.heap.size ≤ w'.heap.size
  block : ∀ j, j < w.heap.size → ¬ BlkR v hs j → w'.heap[j]? = w.heap[j]?
theorem KeepR.refl (v : Value) (hs : List Value) (w : World) : KeepR v hs w w := ⟨rfl, rfl, rfl, Nat.le_refl _, fun _ _ _ => rfl⟩
theorem KeepR.below {w'' : World} (h : KeepR v hs w w') (hb : Below w'.heap.size w' w'') : KeepR v hs w w'' :=
  ⟨hb.os.trans h.os, hb.tape.trans h.tape, hb.output.trans h.output, Nat.le_trans h.size hb.size, fun j hj hn => (hb.block j (Nat.lt_of_lt_of_le hj h.size)).trans (h.block j hj hn)⟩
theorem KeepR.grown {w'' : World} {k : Nat} (h : KeepR v hs w w') (hg : w'.grownBy w'' (some k)) (hk : BlkR v hs k) : KeepR v hs w w'' :=
  ⟨hg.os.trans h.os, hg.tape.trans h.tape, hg.output.trans h.output, Nat.le_trans h.size hg.size, fun j hj hn => (hg.block j (Nat.lt_of_lt_of_le hj h.size) (fun e => by cases e; exact hn hk)).trans (h.block j hj hn)⟩
theorem KeepR.bel (h : KeepR v hs w w') (hb : base ≤ w.heap.size) (hB : ∀ k, BlkR v hs k → base ≤ k) : Below base w w' :=
  ⟨h.os, h.tape, h.output, h.size, fun j hj => h.block j (Nat.lt_of_lt_of_le hj hb) (fun e => by have := hB j e; omega)⟩
theorem KeepR.trans {w'' : World} (h : KeepR v hs w w') (k : KeepR v hs w' w'') : KeepR v hs w w'' :=
  ⟨k.os.trans h.os, k.tape.trans h.tape, k.output.trans h.output, Nat.le_trans h.size k.size, fun j hj hn => (k.block j (Nat.lt_of_lt_of_le hj h.size) hn).trans (h.block j hj hn)⟩

/-! ### stores -/
theorem recVals_set0 (l : List Rc) (hs : List Value) (h : hs.length = l.length) (i : Nat) (hi : i < l.length) (z : Int) : (recVals l hs).set (i * 3) (.int .i64 z) = recVals (l.set i (z, l[i].2)) hs := by
  induction l generalizing hs i with
  | nil => simp at hi
  | cons x l ih =>
    cases hs with
    | nil => simp at h
    | cons y hs =>
      cases i with
      | zero => rfl
      | succ i =>
        rw [recVals_cons, show (i + 1) * 3 = i * 3 + 1 + 1 + 1 by omega]
        simp only [List.set_cons_succ, List.getElem_cons_succ, recVals_cons]
        rw [ih hs (by simpa using h) i (by simpa using hi)]
theorem mem_set_smallR {i : Nat} {x : Rc} (h : ∀ y ∈ l, smallR y) (hx : smallR x) : ∀ y ∈ l.set i x, smallR y := by
  intro y hy
  rcases List.mem_or_eq_of_mem_set hy with h1 | h1
  · exact h y h1
  · subst h1; exact hx
theorem ops_set (h : OwnR w base v l hs) (i : Nat) (hi : i < l.length) (a b : Int) : ∀ j (hj : j < (l.set i (a, b, l[i].2.2)).length), OwnV w base (hs[j]'(by have := h.len; simp at hj; omega)) (l.set i (a, b, l[i].2.2))[j].2.2 := by
  intro j hj
  have hjl : j < l.length := by simpa using hj
  have := h.ops j hjl
  by_cases e : i = j
  · subst e; rw [List.getElem_set_self]; exact this
  · rw [List.getElem_set_ne e]; exact this
theorem OwnR.setKind (h : OwnR w base (.slice (some ⟨g, 0, none⟩) n cap) l hs) (i : Nat) (hi : i < l.length) (z : Int) (hz : (Lit.int .i64 z).wf = true) :
    OwnR (w.setCell ⟨g, i * 3, none⟩ (.int .i64 z)) base (.slice (some ⟨g, 0, none⟩) n cap) (l.set i (z, l[i].2)) hs ∧ w.grownBy (w.setCell ⟨g, i * 3, none⟩ (.int .i64 z)) (some g) := by
  obtain rfl := h.nlen
  have hs1 := h.row.stored (i * 3) (.int .i64 z)
  rw [recVals_set0 l hs h.len i hi z] at hs1
  have hsm := h.sm l[i] (List.getElem_mem hi)
  refine ⟨⟨by simpa using h.len, mem_set_smallR h.sm ⟨hz, hsm.2⟩, by simpa using hs1.1, fun j hj => ?_, h.apart, h.out⟩, hs1.2⟩
  refine (ops_set h i hi z l[i].2.1 j hj).grown hs1.2 (.inr (fun e => ?_))
  exact h.out g rfl _ (List.getElem_mem _) e
theorem recRow_ne {e1 e2 : TypeId} {s1 s2 n1 n2 : Nat} {v1 v2 : Value} {x1 x2 : List Value} {k b1 b2 : Nat} (h1 : w.ownsRow b1 e1 s1 v1 n1 x1) (h2 : w.ownsRow b2 e2 s2 v2 n2 x2) (hk1 : v1.ownBlock = some k) (hk2 : v2.ownBlock = some k) (hne : e1 ≠ e2) : False := by
  rcases h1.2 with ⟨rfl, _⟩ | ⟨g, c, cur, rfl, _, hg, _⟩
  · cases hk1
  rcases h2.2 with ⟨rfl, _⟩ | ⟨g2, c2, cur2, rfl, _, hg2, _⟩
  · cases hk2
  cases hk1
  simp only [Value.ownBlock, Option.some.injEq] at hk2
  rw [hk2, hg] at hg2
  injection hg2 with hg2
  injection hg2 with _ he
  exact hne he
end
end Go.Proofs.Ytggihjmcafoppaa.recs

namespace Go.Proofs.Ytggihjmcafoppaa.recs
open Go Go.RowKit Go.Proofs.Ytggihjmcafoppaa.base Go.Proofs.Ytggihjmcafoppaa.pairs Go.Proofs.Ytggihjmcafoppaa.ords
set_option linter.unusedVariables false
set_option linter.unusedSimpArgs false


def BoxR (X : Nat) (kind tx : Int) (v : Value) (w : World) : Prop := w.heap[X]? = some (.cells #[.int .i64 kind, .int .i64 tx, v] 69 (0, 0))
section
variable {X : Nat} {kind tx : Int} {v : Value} {w w' : World}
theorem BoxR.cells (h : BoxR X kind tx v w) : w.cell? ⟨X, 0, none⟩ = some (.int .i64 kind) ∧ w.cell? ⟨X, 1, none⟩ = some (.int .i64 tx) ∧ w.cell? ⟨X, 2, none⟩ = some v := by
  unfold BoxR at h
  simp [World.cell?, h]
theorem BoxR.lt (h : BoxR X kind tx v w) : X < w.heap.size := (Array.getElem?_eq_some_iff.1 h).1
theorem BoxR.below (h : BoxR X kind tx v w) (hb : Below w.heap.size w w') : BoxR X kind tx v w' := by
  have h' := h.lt
  unfold BoxR at h ⊢
  rw [hb.block X h', h]
theorem BoxR.grown {row : Option Nat} (h : BoxR X kind tx v w) (hg : w.grownBy w' row) (hne : some X ≠ row) : BoxR X kind tx v w' := by
  have h' := h.lt
  unfold BoxR at h ⊢
  rw [hg.block X h' hne, h]
end

end Go.Proofs.Ytggihjmcafoppaa.recs

namespace Go.Proofs.Ytggihjmcafoppaa.recs
open Go Go.RowKit Go.Proofs.Ytggihjmcafoppaa.base Go.Proofs.Ytggihjmcafoppaa.pairs Go.Proofs.Ytggihjmcafoppaa.ords
set_option linter.unusedVariables false
set_option linter.unusedSimpArgs false

end Go.Proofs.Ytggihjmcafoppaa.recs

namespace Go.Proofs.Ytggihjmcafoppaa.recs
open Go Go.RowKit Go.Proofs.Ytggihjmcafoppaa.base Go.Proofs.Ytggihjmcafoppaa.pairs Go.Proofs.Ytggihjmcafoppaa.ords
set_option linter.unusedVariables false
set_option linter.unusedSimpArgs false

end Go.Proofs.Ytggihjmcafoppaa.recs

namespace Go.Proofs.Ytggihjmcafoppaa.base
open Go.RowKit
set_option linter.unusedVariables false
set_option linter.unusedSimpArgs false

def Bts (w : World) (g : Nat) (s : ByteArray) : Prop := g < w.heap.size ∧ ∀ j (h : j < s.size), w.cell? ⟨g, j, none⟩ = some (.int .u8 (s[j].toNat : Int))
theorem Bts.grown {w w' : World} {g g2 : Nat} {s : ByteArray} (h : Bts w g s) (hg : w.grownBy w' (some g2)) (hne : g ≠ g2) : Bts w' g s :=
  ⟨Nat.lt_of_lt_of_le h.1 hg.size, fun j hj => hg.cell (h.2 j hj) (by simpa using hne)⟩
theorem Bts.below {w w' : World} {g : Nat} {s : ByteArray} (h : Bts w g s) (hb : Below w.heap.size w w') : Bts w' g s :=
  ⟨Nat.lt_of_lt_of_le h.1 hb.size, fun j hj => (hb.cell (p := ⟨g, j, none⟩) h.1).trans (h.2 j hj)⟩

end Go.Proofs.Ytggihjmcafoppaa.base

namespace Go.Proofs.Ytggihjmcafoppaa.pairs
open Go Go.RowKit Go.Proofs.Ytggihjmcafoppaa.base
set_option linter.unusedVariables false
set_option linter.unusedSimpArgs false

end Go.Proofs.Ytggihjmcafoppaa.pairs

namespace Go.Proofs.Ytggihjmcafoppaa.pairs
open Go Go.RowKit Go.Proofs.Ytggihjmcafoppaa.base
set_option linter.unusedVariables false
set_option linter.unusedSimpArgs false

end Go.Proofs.Ytggihjmcafoppaa.pairs

namespace Go.Proofs.Ytggihjmcafoppaa.pairs
open Go Go.RowKit Go.Proofs.Ytggihjmcafoppaa.base
set_option linter.unusedVariables false
set_option linter.unusedSimpArgs false

end Go.Proofs.Ytggihjmcafoppaa.pairs

namespace Go.Proofs.Ytggihjmcafoppaa.pairs
open Go Go.RowKit Go.Proofs.Ytggihjmcafoppaa.base
open Go.Maps (Keyed)
open Go.WideMaps (keyOf_string_mk)
set_option linter.unusedVariables false
set_option linter.unusedSimpArgs false

/-! ### how often a key is there -/
theorem str_lit_ne {a b : ByteArray} (h : a ≠ b) : (Lit.string a.data.toList) ≠ .string b.data.toList := by
  intro e; apply h; apply bytes_ext; exact Lit.string.inj e

def Tally (w : World) (B n : Nat) (f : ByteArray → Nat) : Prop :=
  ∃ D : DataW Unit, w.ownsMap Try.prog 9 (plainElem Try.prog 3) B n D ∧ Maps.IsMap D ∧ ∀ s : ByteArray, D.atKey (.string s.data.toList) (.lit (.int .i64 0)) = .lit (.int .i64 (f s : Int))
theorem Tally.below {w w' : World} {B n : Nat} {f : ByteArray → Nat} (h : Tally w B n f) (hb : Below w.heap.size w w') : Tally w' B n f := by
  obtain ⟨D, h1, h2, h3⟩ := h
  exact ⟨D, h1.kept (row := none) ⟨hb.os, hb.tape, hb.output, hb.size, fun k hk _ => hb.block k hk⟩ (by simp), h2, h3⟩
theorem Tally.grown {w w' : World} {B n : Nat} {f : ByteArray → Nat} {row : Option Nat} (h : Tally w B n f) (hg : w.grownBy w' row) (hne : some B ≠ row) : Tally w' B n f := by
  obtain ⟨D, h1, h2, h3⟩ := h
  exact ⟨D, h1.kept hg hne, h2, h3⟩

theorem Tally.put {w' : World} {B n : Nat} {f f' : ByteArray → Nat} {D : DataW Unit} {x : ByteArray} (h2 : Maps.IsMap D) (h3 : ∀ s : ByteArray, D.atKey (.string s.data.toList) (.lit (.int .i64 0)) = .lit (.int .i64 (f s : Int))) {v : Int} (hv : v = (f' x : Int)) (ho : ∀ s, s ≠ x → f' s = f s)
    (h1 : w'.ownsMap Try.prog 9 (plainElem Try.prog 3) B n (D.put (.string x.data.toList) (.lit (.int .i64 v)))) : Tally w' B n f' := by
  refine ⟨_, h1, h2.put _ _, fun s => ?_⟩
  by_cases e : s = x
  · subst e
    rw [Maps.atKey_put_same h2 (by trivial), hv]
  · rw [Maps.atKey_put_other (str_lit_ne e), h3, ho s e]

end Go.Proofs.Ytggihjmcafoppaa.pairs

namespace Go.Proofs.Ytggihjmcafoppaa.recs
open Go Go.RowKit Go.Proofs.Ytggihjmcafoppaa.base Go.Proofs.Ytggihjmcafoppaa.pairs Go.Proofs.Ytggihjmcafoppaa.ords
open Go.ChangeMaps Go.MapKept
open Go.Maps (keyOf_int_mk)
set_option linter.unusedVariables false
set_option linter.unusedSimpArgs false

def codeA : Option Addr → List (DataW Unit)
  | none => []
  | some ⟨b, o, _⟩ => [.lit (.int .i64 (b : Int)), .lit (.int .i64 (o : Int))]
def codeR (k t : Int) (a : Option Addr) (n c : Nat) : DataW Unit := .agg ([.lit (.int .i64 k), .lit (.int .i64 t), .lit (.int .i64 (n : Int)), .lit (.int .i64 (c : Int))] ++ codeA a)
def recL : List Value → Option (DataW Unit × List MemPlace)
  | [.int .i64 k, .int .i64 t, .slice none n c] => some (codeR k t none n c, [])
  | [.int .i64 k, .int .i64 t, .slice (some ⟨b, o, none⟩) n c] => some (codeR k t (some ⟨b, o, none⟩) n c, [])
  | _ => none
def recE : Value → Option (DataW Unit × List MemPlace)
  | .agg xs => recL xs.toList
  | _ => none
def Plain (a : Option Addr) : Prop := a = none ∨ ∃ b o, a = some ⟨b, o, none⟩
def Lasts (w0 w : World) (B n : Nat) (f : Int → Rc) : Prop :=
  ∃ D : DataW Unit, w.ownsMap Try.prog 3 recE B n D ∧ Maps.IsMap D ∧
    ∀ s : Int, (Lit.int .i64 s).wf = true → ∃ a m c, Plain a ∧ SlO w0 a m (f s).2.2 ∧ D.atKey (.int .i64 s) (codeR 0 0 none 0 0) = codeR (f s).1 (f s).2.1 a m c
section
variable {w0 w w' : World} {B n : Nat} {f : Int → Rc}
theorem Lasts.lt (h : Lasts w0 w B n f) : B < w.heap.size := by
  obtain ⟨D, ⟨es, clock, hb, _⟩, _⟩ := h
  exact (Array.getElem?_eq_some_iff.1 hb).1
theorem Lasts.keep (h : Lasts w0 w B n f) (hb : w'.heap[B]? = w.heap[B]?) : Lasts w0 w' B n f := by
  obtain ⟨D, ⟨es, clock, h1, h2⟩, h3, h4⟩ := h
  exact ⟨D, ⟨es, clock, hb.trans h1, h2⟩, h3, h4⟩
theorem Lasts.below (h : Lasts w0 w B n f) (hb : Below w.heap.size w w') : Lasts w0 w' B n f := h.keep (hb.block B h.lt)
theorem Lasts.grown {row : Option Nat} (h : Lasts w0 w B n f) (hg : w.grownBy w' row) (hne : some B ≠ row) : Lasts w0 w' B n f := h.keep (hg.block B h.lt hne)
end
end Go.Proofs.Ytggihjmcafoppaa.recs

namespace Go.Proofs.Ytggihjmcafoppaa.ords
open Go Go.RowKit Go.Proofs.Ytggihjmcafoppaa.base Go.Proofs.Ytggihjmcafoppaa.pairs
set_option linter.unusedVariables false
set_option linter.unusedSimpArgs false

/-! ### orders that rise -/
end Go.Proofs.Ytggihjmcafoppaa.ords

namespace Go.Proofs.Ytggihjmcafoppaa.recs
open Go Go.RowKit Go.Proofs.Ytggihjmcafoppaa.base Go.Proofs.Ytggihjmcafoppaa.pairs Go.Proofs.Ytggihjmcafoppaa.ords
set_option linter.unusedVariables false
set_option linter.unusedSimpArgs false


end Go.Proofs.Ytggihjmcafoppaa.recs

namespace Go.Proofs.Ytggihjmcafoppaa.pairs
open Go Go.RowKit Go.Proofs.Ytggihjmcafoppaa.base
set_option linter.unusedVariables false
set_option linter.unusedSimpArgs false

end Go.Proofs.Ytggihjmcafoppaa.pairs

namespace Go.Proofs.Ytggihjmcafoppaa.ords
open Go Go.RowKit Go.Proofs.Ytggihjmcafoppaa.base Go.Proofs.Ytggihjmcafoppaa.pairs
set_option linter.unusedVariables false
set_option linter.unusedSimpArgs false

end Go.Proofs.Ytggihjmcafoppaa.ords

namespace Go.Proofs.Ytggihjmcafoppaa.recs
open Go Go.RowKit Go.Proofs.Ytggihjmcafoppaa.base Go.Proofs.Ytggihjmcafoppaa.pairs Go.Proofs.Ytggihjmcafoppaa.ords
open Go.WideMaps (keyOf_string_mk)
set_option linter.unusedVariables false
set_option linter.unusedSimpArgs false

def BoxM (X : Nat) (pv : Value) (B1 B2 : Nat) (w : World) : Prop := w.heap[X]? = some (.cells #[pv, .map (some B1), .map (some B2)] 999999 (0, 0))
section
variable {X B1 B2 : Nat} {pv : Value} {w w' : World}
theorem BoxM.cells (h : BoxM X pv B1 B2 w) : w.cell? ⟨X, 0, none⟩ = some pv ∧ w.cell? ⟨X, 1, none⟩ = some (.map (some B1)) ∧ w.cell? ⟨X, 2, none⟩ = some (.map (some B2)) := by
  unfold BoxM at h
  simp [World.cell?, h]
theorem BoxM.lt (h : BoxM X pv B1 B2 w) : X < w.heap.size := (Array.getElem?_eq_some_iff.1 h).1
theorem BoxM.below (h : BoxM X pv B1 B2 w) (hb : Below w.heap.size w w') : BoxM X pv B1 B2 w' := (hb.block X h.lt).trans h
theorem BoxM.grown {row : Option Nat} (h : BoxM X pv B1 B2 w) (hg : w.grownBy w' row) (hne : some X ≠ row) : BoxM X pv B1 B2 w' := (hg.block X h.lt hne).trans h
theorem BoxM.fz (h : BoxM X pv B1 B2 w) (j : Nat) : w.frozen? ⟨X, j, none⟩ = false := by unfold BoxM at h; simp [World.frozen?, h]
end
end Go.Proofs.Ytggihjmcafoppaa.recs

namespace Go.Proofs.Ytggihjmcafoppaa.recs
open Go Go.RowKit Go.Proofs.Ytggihjmcafoppaa.base Go.Proofs.Ytggihjmcafoppaa.pairs Go.Proofs.Ytggihjmcafoppaa.ords
open Go.WideMaps (keyOf_string_mk)
set_option linter.unusedVariables false
set_option linter.unusedSimpArgs false

def hasKey (ops : List Od) (s : ByteArray) : Bool := ops.any fun o => decide (o.2.1 = s)
structure Made (w0 w : World) (X B1 B2 n1 n2 g np cp : Nat) (f : Int → Rc) (hf : ByteArray → Nat) (m : List Pr) : Prop where
  box : BoxM X (.slice (some ⟨g, 0, none⟩) np cp) B1 B2 w
  lasts : Lasts w0 w B1 n1 f
  tally : Tally w B2 n2 hf
  own : OwnP w w0.heap.size g np cp m
  bel : Below w0.heap.size w0 w
  geX : w0.heap.size ≤ X
  ge1 : w0.heap.size ≤ B1
  ge2 : w0.heap.size ≤ B2
  x1 : X ≠ B1
  x2 : X ≠ B2
  x12 : B1 ≠ B2
  gX : g ≠ X
  g1 : g ≠ B1
  g2 : g ≠ B2
section
variable {w0 w w' : World} {X B1 B2 n1 n2 g np cp : Nat} {f : Int → Rc} {hf : ByteArray → Nat} {m : List Pr}
theorem Made.below (h : Made w0 w X B1 B2 n1 n2 g np cp f hf m) (hb : Below w.heap.size w w') : Made w0 w' X B1 B2 n1 n2 g np cp f hf m :=
  ⟨h.box.below hb, h.lasts.below hb, h.tally.below hb, h.own.below hb, h.bel.trans (hb.mono h.bel.size), h.geX, h.ge1, h.ge2, h.x1, h.x2, h.x12, h.gX, h.g1, h.g2⟩
end

end Go.Proofs.Ytggihjmcafoppaa.recs

namespace Go.Proofs.Ytggihjmcafoppaa.recs
open Go Go.RowKit Go.Proofs.Ytggihjmcafoppaa.base Go.Proofs.Ytggihjmcafoppaa.pairs Go.Proofs.Ytggihjmcafoppaa.ords
set_option linter.unusedVariables false
set_option linter.unusedSimpArgs false

theorem BoxR.fz {X : Nat} {k t : Int} {v : Value} {w : World} (h : BoxR X k t v w) (j : Nat) : w.frozen? ⟨X, j, none⟩ = false := by unfold BoxR at h; simp [World.frozen?, h]
def stillHeld (f : Int → Rc) (l : List Rc) : List Rc := l.filter fun r => decide ((f r.2.1).1 = 1)
end Go.Proofs.Ytggihjmcafoppaa.recs

namespace Go.Proofs.Ytggihjmcafoppaa.recs
open Go Go.RowKit Go.Proofs.Ytggihjmcafoppaa.base Go.Proofs.Ytggihjmcafoppaa.pairs Go.Proofs.Ytggihjmcafoppaa.ords
set_option linter.unusedVariables false
set_option linter.unusedSimpArgs false

structure Rel (pre : List Rc) (s : St) (f : Int → Rc) (hf : ByteArray → Nat) : Prop where
  new : ∀ tx, tx ∉ s.2.2 → f tx = (0, 0, [])
  old : ∀ tx, tx ∈ s.2.2 → (f tx).1 ≠ 0
  held : ∀ r ∈ s.2.1, f r.2.1 = r ∧ recOk r = true ∧ r.1 = 1
  back : ∀ tx, (f tx).1 = 1 → f tx ∈ s.2.1 ∧ (f tx).2.1 = tx
  bare : ∀ tx, (f tx).1 ≠ 1 → (f tx).2.2 = []
  keys : ∀ key, hf key ≠ 0 ↔ ∃ r ∈ s.2.1, hasKey r.2.2 key = true
  still : s.2.1 = stillHeld f pre
  met : ∀ r ∈ pre, r.2.1 ∈ s.2.2
  few : s.1.length ≤ 60
  apart : s.2.1.Pairwise fun a b => a.2.1 ≠ b.2.1 ∧ ∀ key, hasKey a.2.2 key = true → hasKey b.2.2 key = false
section
variable {pre : List Rc} {s : St} {f : Int → Rc} {hf : ByteArray → Nat}
theorem Rel.zero (h : Rel pre s f hf) (tx : Int) : (f tx).1 = 0 ↔ tx ∉ s.2.2 := by
  constructor
  · intro e hin; exact h.old tx hin e
  · intro e; rw [h.new tx e]
end
end Go.Proofs.Ytggihjmcafoppaa.recs

namespace Go.Proofs.Ytggihjmcafoppaa.recs
open Go Go.RowKit Go.Proofs.Ytggihjmcafoppaa.base Go.Proofs.Ytggihjmcafoppaa.pairs Go.Proofs.Ytggihjmcafoppaa.ords
set_option linter.unusedVariables false
set_option linter.unusedSimpArgs false

def PlainR (w : World) (a : Option Addr) (n : Nat) : Prop := ∀ b off, a = some ⟨b, off, none⟩ → ∀ i, i < n → ∀ pa pl pc, w.cell? ⟨b, off + i * 3 + 2, none⟩ = some (.slice pa pl pc) → Plain pa
end Go.Proofs.Ytggihjmcafoppaa.recs

namespace Go.Proofs.Ytggihjmcafoppaa.last
open Go Go.RowKit
section
variable {P : Program} {ops : Array Oper} {md : Region.Mode} {Q : Exit → Act → World → Prop} {S : World → Prop} {z : Nat}

end
end Go.Proofs.Ytggihjmcafoppaa.last

namespace Go.Proofs.Ytggihjmcafoppaa.stepc
open Go Go.RowKit
end Go.Proofs.Ytggihjmcafoppaa.stepc
