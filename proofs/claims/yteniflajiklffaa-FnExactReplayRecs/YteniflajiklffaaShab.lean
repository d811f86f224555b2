/- Rows of records (two numbers and a slice of orders: three cells a record): small facts on worlds; no function of the program is named here. The specification's keys and pairs: what is right, what is got. The specification's lists of pairs. The specification's putting of keys. -/
import Derived.Test.YteniflajiklffaaShaa
import Derived.Deep.RegionHeld3
namespace Go.Proofs.Yteniflajiklffaa.recs
open Go Go.RowKit Go.Proofs.Yteniflajiklffaa.base Go.Proofs.Yteniflajiklffaa.pairs Go.Proofs.Yteniflajiklffaa.ords
set_option linter.unusedVariables false
set_option linter.unusedSimpArgs false

def smallR (x : Rc) : Prop := (Lit.int .i64 x.1).wf = true ∧ (Lit.int .i64 x.2.1).wf = true ∧ ∀ o ∈ x.2.2, smallO o

/-! ### a slice of orders of the call's own, or nil -/
def OwnV (w : World) (base : Nat) (v : Value) (l : List Od) : Prop := (∀ p ∈ l, smallO p) ∧ w.ownsRow base 111 3 v l.length (ordVals l)
section
variable {w w' : World} {base base' : Nat} {v : Value} {l : List Od} {row : Option Nat}
theorem ownV_nil (w : World) (base : Nat) : OwnV w base (.slice none 0 0) [] := ⟨fun _ h => absurd h List.not_mem_nil, World.ownsRow_nil _ _ _ _⟩
theorem ownV_of {g n cap : Nat} (h : OwnO w base g n cap l) : OwnV w base (.slice (some ⟨g, 0, none⟩) n cap) l := ⟨h.2.1, by rw [h.1]; exact h.2.2⟩
theorem OwnV.shape (h : OwnV w base v l) : (v = .slice none 0 0 ∧ l = []) ∨ ∃ g cap, v = .slice (some ⟨g, 0, none⟩) l.length cap ∧ OwnO w base g l.length cap l := by
  rcases h.2.2 with ⟨rfl, h0⟩ | ⟨g, cap, cur, rfl, _⟩
  · exact .inl ⟨rfl, List.eq_nil_of_length_eq_zero h0⟩
  · exact .inr ⟨g, cap, rfl, rfl, h.1, h.2⟩
theorem OwnV.lt (h : OwnV w base v l) (k : Nat) (hk : v.ownBlock = some k) : base ≤ k ∧ k < w.heap.size := h.2.lt k hk
theorem OwnV.of_block (h : OwnV w base v l) (hk : ∀ k, v.ownBlock = some k → w'.heap[k]? = w.heap[k]?) : OwnV w' base v l := by
  refine ⟨h.1, h.2.1, ?_⟩
  rcases h.2.2 with h' | ⟨g, cap, cur, rfl, h0, hg, r⟩
  · exact .inl h'
  · exact .inr ⟨g, cap, cur, rfl, h0, (hk g rfl).trans hg, r⟩
theorem OwnV.below (h : OwnV w base v l) (hb : Below w.heap.size w w') : OwnV w' base v l := h.of_block fun k hk => hb.block k (h.lt k hk).2
theorem OwnV.grown (h : OwnV w base v l) (hg : w.grownBy w' row) (hne : v.ownBlock = none ∨ v.ownBlock ≠ row) : OwnV w' base v l :=
  h.of_block fun k hk => hg.block k (h.lt k hk).2 (fun e => by
    rcases hne with h1 | h1
    · rw [hk] at h1; cases h1
    · exact h1 (hk.trans e))
theorem OwnV.mono (h : OwnV w base v l) (hb : base' ≤ base) : OwnV w base' v l := by
  refine ⟨h.1, h.2.1, ?_⟩
  rcases h.2.2 with h' | ⟨g, cap, cur, rfl, h0, r⟩
  · exact .inl h'
  · exact .inr ⟨g, cap, cur, rfl, by omega, r⟩
theorem OwnV.sl (h : OwnV w base v l) : ∃ a cap, v = .slice a l.length cap ∧ SlO w a l.length l ∧ l.length ≤ cap := by
  rcases h.shape with ⟨rfl, rfl⟩ | ⟨g, cap, rfl, hO⟩
  · exact ⟨none, 0, rfl, slo_nil _ _, Nat.le_refl _⟩
  · exact ⟨_, cap, rfl, hO.sl, hO.cases.1⟩
theorem OwnV.one (h : OwnV w base v l) : v.oneCell' = true := by
  rcases h.shape with ⟨rfl, _⟩ | ⟨g, cap, rfl, _⟩ <;> rfl
end

/-! ### records that are read -/
def RcAt (w : World) (b o : Nat) (x : Rc) : Prop :=
  w.cell? ⟨b, o, none⟩ = some (.int .i64 x.1) ∧ w.cell? ⟨b, o + 1, none⟩ = some (.int .i64 x.2.1) ∧ ∃ pa pl pc, w.cell? ⟨b, o + 2, none⟩ = some (.slice pa pl pc) ∧ SlO w pa pl x.2.2 ∧ pl ≤ pc
theorem RcAt.below {w w' : World} {b o : Nat} {x : Rc} (h : RcAt w b o x) (hb : Below w.heap.size w w') : RcAt w' b o x := by
  have keep : ∀ o v, w.cell? ⟨b, o, none⟩ = some v → w'.cell? ⟨b, o, none⟩ = some v := fun o v hv => (hb.cell (p := ⟨b, o, none⟩) (World.block_lt_of_cell? w _ hv)).trans hv
  obtain ⟨h1, h2, pa, pl, pc, h3, h4, h5⟩ := h
  exact ⟨keep _ _ h1, keep _ _ h2, pa, pl, pc, keep _ _ h3, h4.below hb, h5⟩
def SlR (w : World) (a : Option Addr) (len : Nat) (l : List Rc) : Prop :=
  l.length = len ∧ len ≤ maxLen ∧ (∀ x ∈ l, smallR x) ∧ (0 < len → ∃ b off, a = some ⟨b, off, none⟩ ∧ ∀ i (h : i < l.length), RcAt w b (off + i * 3) l[i])
theorem slr_nil (w : World) (a : Option Addr) : SlR w a 0 [] := ⟨rfl, Nat.zero_le _, (fun _ h => absurd h List.not_mem_nil), fun h => absurd h (by omega)⟩
theorem SlR.below {w w' : World} {a : Option Addr} {len : Nat} {l : List Rc} (h : SlR w a len l) (hb : Below w.heap.size w w') : SlR w' a len l := by
  obtain ⟨h1, h2, h3, h4⟩ := h
  refine ⟨h1, h2, h3, fun h0 => ?_⟩
  obtain ⟨b, off, e, hc⟩ := h4 h0
  exact ⟨b, off, e, fun i hi => (hc i hi).below hb⟩
theorem SlR.at {w : World} {b off len : Nat} {l : List Rc} (h : SlR w (some ⟨b, off, none⟩) len l) (i : Nat) (hi : i < l.length) : RcAt w b (off + i * 3) l[i] := by
  obtain ⟨b', off', e, hc⟩ := h.2.2.2 (by have := h.1; omega)
  simp only [Option.some.injEq, Addr.mk.injEq, and_true] at e
  obtain ⟨rfl, rfl⟩ := e
  exact hc i hi
theorem SlR.cut {w : World} {b off len : Nat} {l : List Rc} (h : SlR w (some ⟨b, off, none⟩) len l) (k : Nat) (hk : k ≤ len) : SlR w (some ⟨b, off, none⟩) k (l.take k) := by
  have hat := h.at
  refine ⟨by have := h.1; simp; omega, by have := h.2.1; omega, fun x hx => h.2.2.1 x (List.mem_of_mem_take hx), fun _ => ⟨b, off, rfl, fun i hi => ?_⟩⟩
  have hi' : i < l.length := by simp at hi; omega
  rw [List.getElem_take]
  exact hat i hi'

/-! ### rows of records that a call made: the orders of each lie in a row of their own -/
def recVals (l : List Rc) (hs : List Value) : List Value := (l.zip hs).flatMap fun q => [.int .i64 q.1.1, .int .i64 q.1.2.1, q.2]
theorem recVals_cons (x : Rc) (l : List Rc) (y : Value) (hs : List Value) : recVals (x :: l) (y :: hs) = .int .i64 x.1 :: .int .i64 x.2.1 :: y :: recVals l hs := rfl
theorem recVals_length (l : List Rc) (hs : List Value) (h : hs.length = l.length) : (recVals l hs).length = l.length * 3 := by
  induction l generalizing hs with
  | nil => rfl
  | cons x l ih =>
    cases hs with
    | nil => simp at h
    | cons y hs => simp at h; have := ih hs h; rw [recVals_cons]; simp [this]; omega
theorem recVals_get (l : List Rc) (hs : List Value) (h : hs.length = l.length) (i : Nat) (hi : i < l.length) :
    (recVals l hs)[i * 3]? = some (.int .i64 l[i].1) ∧ (recVals l hs)[i * 3 + 1]? = some (.int .i64 l[i].2.1) ∧ (recVals l hs)[i * 3 + 2]? = some (hs[i]'(by omega)) := by
  induction l generalizing hs i with
  | nil => simp at hi
  | cons x l ih =>
    cases hs with
    | nil => simp at h
    | cons y hs =>
      rw [recVals_cons]
      cases i with
      | zero => exact ⟨rfl, rfl, rfl⟩
      | succ i =>
        have := ih hs (by simpa using h) i (by simpa using hi)
        rw [show (i + 1) * 3 = i * 3 + 1 + 1 + 1 by omega]
        simpa using this
theorem recVals_append (l l2 : List Rc) (hs hs2 : List Value) (h : hs.length = l.length) : recVals (l ++ l2) (hs ++ hs2) = recVals l hs ++ recVals l2 hs2 := by
  unfold recVals
  rw [List.zip_append h.symm, List.flatMap_append]
theorem recVals_oneCell (l : List Rc) (hs : List Value) (h : ∀ y ∈ hs, y.oneCell' = true) : ∀ v ∈ recVals l hs, v.oneCell' = true := by
  intro v hv
  obtain ⟨q, hq, hv⟩ := List.mem_flatMap.1 hv
  simp at hv
  rcases hv with rfl | rfl | rfl
  · rfl
  · rfl
  · exact h _ (List.of_mem_zip hq).2
structure OwnR (w : World) (base : Nat) (v : Value) (l : List Rc) (hs : List Value) : Prop where
  len : hs.length = l.length
  sm : ∀ x ∈ l, smallR x
  row : w.ownsRow base 91 3 v l.length (recVals l hs)
  ops : ∀ i (h : i < l.length), OwnV w base (hs[i]'(by omega)) l[i].2.2
  apart : hs.Pairwise fun a b => a.ownBlock = none ∨ a.ownBlock ≠ b.ownBlock
  out : ∀ k, v.ownBlock = some k → ∀ y ∈ hs, y.ownBlock ≠ some k
section
variable {w w' : World} {base base' g n cap : Nat} {v : Value} {l : List Rc} {hs : List Value}
theorem ownR_made (w : World) (base : Nat) (hb : base ≤ w.heap.size) : OwnR (w.alloc (.cells #[] 91)) base (.slice (some ⟨w.heap.size, 0, none⟩) 0 0) [] [] :=
  ⟨rfl, (fun _ h => absurd h List.not_mem_nil), World.ownsRow_made w #[] 0 hb (Nat.zero_le _) rfl, fun i hi => absurd hi (by simp), List.Pairwise.nil, fun k _ y hy => absurd hy List.not_mem_nil⟩
def BlkR (v : Value) (hs : List Value) (k : Nat) : Prop := v.ownBlock = some k ∨ ∃ y ∈ hs, y.ownBlock = some k
theorem rowR_of_block {e : TypeId} {size n : Nat} {xs : List Value} (h : w.ownsRow base e size v n xs) (hk : ∀ k, v.ownBlock = some k → w'.heap[k]? = w.heap[k]?) : w'.ownsRow base e size v n xs := by
  refine ⟨h.1, ?_⟩
  rcases h.2 with h' | ⟨g, cap, cur, rfl, h0, hg, r⟩
  · exact .inl h'
  · exact .inr ⟨g, cap, cur, rfl, h0, (hk g rfl).trans hg, r⟩
theorem OwnR.of_blocks (h : OwnR w base v l hs) (hk : ∀ k, BlkR v hs k → w'.heap[k]? = w.heap[k]?) : OwnR w' base v l hs :=
  ⟨h.len, h.sm, rowR_of_block h.row (fun k e => hk k (.inl e)), fun i hi => (h.ops i hi).of_block (fun k e => hk k (.inr ⟨hs[i]'(by have := h.len; omega), List.getElem_mem _, e⟩)), h.apart, h.out⟩
theorem OwnR.lt (h : OwnR w base v l hs) (k : Nat) (hk : BlkR v hs k) : base ≤ k ∧ k < w.heap.size := by
  rcases hk with e | ⟨y, hy, e⟩
  · exact h.row.lt k e
  · obtain ⟨i, hi, rfl⟩ := List.getElem_of_mem hy
    exact (h.ops i (by have := h.len; omega)).lt k e
theorem OwnR.below (h : OwnR w base v l hs) (hb : Below w.heap.size w w') : OwnR w' base v l hs := h.of_blocks fun k hk => hb.block k (h.lt k hk).2
theorem OwnR.grown (h : OwnR w base v l hs) {k : Nat} (hg : w.grownBy w' (some k)) (hne : ¬ BlkR v hs k) : OwnR w' base v l hs :=
  h.of_blocks (fun j hj => hg.block j (h.lt j hj).2 (fun e => by cases e; exact hne hj))
theorem OwnR.mono (h : OwnR w base v l hs) (hb : base' ≤ base) : OwnR w base' v l hs := by
  refine ⟨h.len, h.sm, ⟨h.row.1, ?_⟩, fun i hi => (h.ops i hi).mono hb, h.apart, h.out⟩
  rcases h.row.2 with h' | ⟨g, cap, cur, rfl, h0, r⟩
  · exact .inl h'
  · exact .inr ⟨g, cap, cur, rfl, by omega, r⟩
theorem OwnR.shape (h : OwnR w base v l hs) : (v = .slice none 0 0 ∧ l = [] ∧ hs = []) ∨ ∃ g cap, v = .slice (some ⟨g, 0, none⟩) l.length cap ∧ l.length ≤ cap ∧ cap ≤ maxLen := by
  rcases h.row.2 with ⟨rfl, h0⟩ | ⟨g, cap, cur, rfl, _, _, h1, h2, _⟩
  · have : l = [] := List.eq_nil_of_length_eq_zero h0
    subst this
    exact .inl ⟨rfl, rfl, List.eq_nil_of_length_eq_zero (by simpa using h.len)⟩
  · exact .inr ⟨g, cap, rfl, h1, h2⟩
theorem OwnR.nlen {a : Option Addr} (h : OwnR w base (.slice a n cap) l hs) : n = l.length := by
  rcases h.shape with ⟨e, rfl, _⟩ | ⟨g', c', e, _⟩
  · cases e; rfl
  · cases e; rfl
theorem OwnR.room {a : Option Addr} (h : OwnR w base (.slice a n cap) l hs) : n ≤ cap ∧ cap ≤ maxLen := by
  rcases h.shape with ⟨e, rfl, _⟩ | ⟨g', c', e, h1, h2⟩
  · cases e; exact ⟨Nat.le_refl _, Nat.zero_le _⟩
  · cases e; exact ⟨h1, h2⟩
theorem OwnR.at (h : OwnR w base (.slice (some ⟨g, 0, none⟩) n cap) l hs) (i : Nat) (hi : i < l.length) :
    w.cell? ⟨g, i * 3, none⟩ = some (.int .i64 l[i].1) ∧ w.cell? ⟨g, i * 3 + 1, none⟩ = some (.int .i64 l[i].2.1) ∧ w.cell? ⟨g, i * 3 + 2, none⟩ = some (hs[i]'(by have := h.len; omega)) := by
  obtain rfl := h.nlen
  obtain ⟨h1, h2, h3⟩ := recVals_get l hs h.len i hi
  have key : ∀ j u, (recVals l hs)[j]? = some u → w.cell? ⟨g, j, none⟩ = some u := fun j u hu => by
    have := h.row.cells (g := g) rfl j u hu
    rw [Addr.add_lit, Nat.zero_add] at this
    exact this
  exact ⟨key _ _ h1, key _ _ h2, key _ _ h3⟩
theorem OwnR.frozen (h : OwnR w base (.slice (some ⟨g, 0, none⟩) n cap) l hs) (j : Nat) : w.frozen? ⟨g, j, none⟩ = false := by
  obtain rfl := h.nlen
  exact h.row.frozenAt j
theorem OwnR.sl {a : Option Addr} (h : OwnR w base (.slice a n cap) l hs) : SlR w a n l := by
  rcases h.shape with ⟨e, rfl, _⟩ | ⟨g, c, e, h1, h2⟩
  · cases e; exact slr_nil _ _
  · cases e
    refine ⟨rfl, by omega, h.sm, fun _ => ⟨g, 0, rfl, fun i hi => ?_⟩⟩
    obtain ⟨c1, c2, c3⟩ := h.at i hi
    rw [Nat.zero_add]
    obtain ⟨a, cp, e, hS, hc⟩ := (h.ops i hi).sl
    rw [e] at c3
    exact ⟨c1, c2, _, _, _, c3, hS, hc⟩
theorem OwnR.one (h : OwnR w base v l hs) : ∀ y ∈ hs, y.oneCell' = true := by
  intro y hy
  obtain ⟨i, hi, rfl⟩ := List.getElem_of_mem hy
  exact (h.ops i (by have := h.len; omega)).one

/-! ### all blocks but those of a slice of records are as they were -/
structure KeepR (v : Value) (hs : List Value) (w w' : World) : Prop where
  os : w'.os = w.os
  tape : w'.tape = w.tape
  output : w'.output = w.output
  size : w.heap.size ≤ w'.heap.size
  block : ∀ j, j < w.heap.size → ¬ BlkR v hs j → w'.heap[j]? = w.heap[j]?
theorem KeepR.refl (v : Value) (hs : List Value) (w : World) : KeepR v hs w w := ⟨rfl, rfl, rfl, Nat.le_refl _, fun _ _ _ => rfl⟩
theorem KeepR.below {w'' : World} (h : KeepR v hs w w') (hb : Below w'.heap.size w' w'') : KeepR v hs w w'' :=
  ⟨hb.os.trans h.os, hb.tape.trans h.tape, hb.output.trans h.output, Nat.le_trans h.size hb.size, fun j hj hn => (hb.block j (Nat.lt_of_lt_of_le hj h.size)).trans (h.block j hj hn)⟩
theorem KeepR.grown {w'' : World} {k : Nat} (h : KeepR v hs w w') (hg : w'.grownBy w'' (some k)) (hk : BlkR v hs k) : KeepR v hs w w'' :=
  ⟨hg.os.trans h.os, hg.tape.trans h.tape, hg.output.trans h.output, Nat.le_trans h.size hg.size, fun j hj hn => (hg.block j (Nat.lt_of_lt_of_le hj h.size) (fun e => by cases e; exact hn hk)).trans (h.block j hj hn)⟩
theorem KeepR.bel (h : KeepR v hs w w') (hb : base ≤ w.heap.size) (hB : ∀ k, BlkR v hs k → base ≤ k) : Below base w w' :=
  ⟨h.os, h.tape, h.output, h.size, fun j hj => h.block j (Nat.lt_of_lt_of_le hj hb) (fun e => by have := hB j e; omega)⟩
theorem KeepR.trans {w'' : World} (h : KeepR v hs w w') (k : KeepR v hs w' w'') : KeepR v hs w w'' :=
  ⟨k.os.trans h.os, k.tape.trans h.tape, k.output.trans h.output, Nat.le_trans h.size k.size, fun j hj hn => (k.block j (Nat.lt_of_lt_of_le hj h.size) hn).trans (h.block j hj hn)⟩

/-! ### stores -/
theorem recVals_set0 (l : List Rc) (hs : List Value) (h : hs.length = l.length) (i : Nat) (hi : i < l.length) (z : Int) : (recVals l hs).set (i * 3) (.int .i64 z) = recVals (l.set i (z, l[i].2)) hs := by
  induction l generalizing hs i with
  | nil => simp at hi
  | cons x l ih =>
    cases hs with
    | nil => simp at h
    | cons y hs =>
      cases i with
      | zero => rfl
      | succ i =>
        rw [recVals_cons, show (i + 1) * 3 = i * 3 + 1 + 1 + 1 by omega]
        simp only [List.set_cons_succ, List.getElem_cons_succ, recVals_cons]
        rw [ih hs (by simpa using h) i (by simpa using hi)]
theorem recVals_set1 (l : List Rc) (hs : List Value) (h : hs.length = l.length) (i : Nat) (hi : i < l.length) (z : Int) : (recVals l hs).set (i * 3 + 1) (.int .i64 z) = recVals (l.set i (l[i].1, z, l[i].2.2)) hs := by
  induction l generalizing hs i with
  | nil => simp at hi
  | cons x l ih =>
    cases hs with
    | nil => simp at h
    | cons y hs =>
      cases i with
      | zero => rfl
      | succ i =>
        rw [recVals_cons, show (i + 1) * 3 + 1 = i * 3 + 1 + 1 + 1 + 1 by omega]
        simp only [List.set_cons_succ, List.getElem_cons_succ, recVals_cons]
        rw [ih hs (by simpa using h) i (by simpa using hi)]
theorem recVals_ops (l : List Rc) (hs : List Value) (i : Nat) (P : List Od) (h : hs.length = l.length) (hi : i < l.length) : recVals (l.set i (l[i].1, l[i].2.1, P)) hs = recVals l hs := by
  induction l generalizing hs i with
  | nil => simp at hi
  | cons x l ih =>
    cases hs with
    | nil => simp at h
    | cons y hs =>
      cases i with
      | zero => rfl
      | succ i =>
        simp only [List.set_cons_succ, List.getElem_cons_succ, recVals_cons]
        rw [ih hs i (by simpa using h) (by simpa using hi)]
theorem mem_set_smallR {i : Nat} {x : Rc} (h : ∀ y ∈ l, smallR y) (hx : smallR x) : ∀ y ∈ l.set i x, smallR y := by
  intro y hy
  rcases List.mem_or_eq_of_mem_set hy with h1 | h1
  · exact h y h1
  · subst h1; exact hx
theorem ops_set (h : OwnR w base v l hs) (i : Nat) (hi : i < l.length) (a b : Int) : ∀ j (hj : j < (l.set i (a, b, l[i].2.2)).length), OwnV w base (hs[j]'(by have := h.len; simp at hj; omega)) (l.set i (a, b, l[i].2.2))[j].2.2 := by
  intro j hj
  have hjl : j < l.length := by simpa using hj
  have := h.ops j hjl
  by_cases e : i = j
  · subst e; rw [List.getElem_set_self]; exact this
  · rw [List.getElem_set_ne e]; exact this
theorem OwnR.setKind (h : OwnR w base (.slice (some ⟨g, 0, none⟩) n cap) l hs) (i : Nat) (hi : i < l.length) (z : Int) (hz : (Lit.int .i64 z).wf = true) :
    OwnR (w.setCell ⟨g, i * 3, none⟩ (.int .i64 z)) base (.slice (some ⟨g, 0, none⟩) n cap) (l.set i (z, l[i].2)) hs ∧ w.grownBy (w.setCell ⟨g, i * 3, none⟩ (.int .i64 z)) (some g) := by
  obtain rfl := h.nlen
  have hs1 := h.row.stored (i * 3) (.int .i64 z)
  rw [recVals_set0 l hs h.len i hi z] at hs1
  have hsm := h.sm l[i] (List.getElem_mem hi)
  refine ⟨⟨by simpa using h.len, mem_set_smallR h.sm ⟨hz, hsm.2⟩, by simpa using hs1.1, fun j hj => ?_, h.apart, h.out⟩, hs1.2⟩
  refine (ops_set h i hi z l[i].2.1 j hj).grown hs1.2 (.inr (fun e => ?_))
  exact h.out g rfl _ (List.getElem_mem _) e
theorem OwnR.setTx (h : OwnR w base (.slice (some ⟨g, 0, none⟩) n cap) l hs) (i : Nat) (hi : i < l.length) (z : Int) (hz : (Lit.int .i64 z).wf = true) :
    OwnR (w.setCell ⟨g, i * 3 + 1, none⟩ (.int .i64 z)) base (.slice (some ⟨g, 0, none⟩) n cap) (l.set i (l[i].1, z, l[i].2.2)) hs ∧ w.grownBy (w.setCell ⟨g, i * 3 + 1, none⟩ (.int .i64 z)) (some g) := by
  obtain rfl := h.nlen
  have hs1 := h.row.stored (i * 3 + 1) (.int .i64 z)
  rw [recVals_set1 l hs h.len i hi z] at hs1
  have hsm := h.sm l[i] (List.getElem_mem hi)
  refine ⟨⟨by simpa using h.len, mem_set_smallR h.sm ⟨hsm.1, hz, hsm.2.2⟩, by simpa using hs1.1, fun j hj => ?_, h.apart, h.out⟩, hs1.2⟩
  refine (ops_set h i hi l[i].1 z j hj).grown hs1.2 (.inr (fun e => ?_))
  exact h.out g rfl _ (List.getElem_mem _) e
theorem OwnR.setOps (h : OwnR w base v l hs) (i : Nat) (hi : i < l.length) (P : List Od) (hP : OwnV w' base (hs[i]'(by have := h.len; omega)) P) {k : Nat} (hk : (hs[i]'(by have := h.len; omega)).ownBlock = some k) (hg : w.grownBy w' (some k)) :
    OwnR w' base v (l.set i (l[i].1, l[i].2.1, P)) hs := by
  have hlen := h.len
  have hsm := h.sm l[i] (List.getElem_mem hi)
  refine ⟨by simpa using h.len, mem_set_smallR h.sm ⟨hsm.1, hsm.2.1, hP.1⟩, ?_, fun j hj => ?_, h.apart, h.out⟩
  · rw [recVals_ops l hs i P h.len hi, List.length_set]
    exact rowR_of_block h.row fun j e => hg.block j (h.row.lt j e).2 (fun e2 => by
      cases e2
      exact h.out k e _ (List.getElem_mem _) hk)
  · have hjl : j < l.length := by simpa using hj
    by_cases e : i = j
    · subst e; rw [List.getElem_set_self]; exact hP
    · rw [List.getElem_set_ne e]
      refine (h.ops j hjl).grown hg ?_
      rcases Nat.lt_or_gt_of_ne e with hlt | hlt
      · have := List.pairwise_iff_getElem.1 h.apart i j (by omega) (by omega) hlt
        right
        rcases this with h1 | h1
        · rw [hk] at h1; cases h1
        · exact fun e2 => h1 (by rw [hk, e2])
      · have := List.pairwise_iff_getElem.1 h.apart j i (by omega) (by omega) hlt
        rcases this with h1 | h1
        · exact .inl h1
        · exact .inr (fun e2 => h1 (by rw [hk, e2]))
theorem recRow_ne {e1 e2 : TypeId} {s1 s2 n1 n2 : Nat} {v1 v2 : Value} {x1 x2 : List Value} {k b1 b2 : Nat} (h1 : w.ownsRow b1 e1 s1 v1 n1 x1) (h2 : w.ownsRow b2 e2 s2 v2 n2 x2) (hk1 : v1.ownBlock = some k) (hk2 : v2.ownBlock = some k) (hne : e1 ≠ e2) : False := by
  rcases h1.2 with ⟨rfl, _⟩ | ⟨g, c, cur, rfl, _, hg, _⟩
  · cases hk1
  rcases h2.2 with ⟨rfl, _⟩ | ⟨g2, c2, cur2, rfl, _, hg2, _⟩
  · cases hk2
  cases hk1
  simp only [Value.ownBlock, Option.some.injEq] at hk2
  rw [hk2, hg] at hg2
  injection hg2 with hg2
  injection hg2 with _ he
  exact hne he
theorem OwnR.snoc {w7 : World} {x : Rc} {y v7 : Value} (h : OwnR w base v l hs) (hP : OwnV w base y x.2.2) (hx : smallR x) (hy : ∀ k, y.ownBlock = some k → ¬ BlkR v hs k)
    (hown : w7.ownsRow base 91 3 v7 (l.length + 1) (recVals l hs ++ [.int .i64 x.1, .int .i64 x.2.1, y])) (hgrow : w.grownBy w7 v.ownBlock) : OwnR w7 base v7 (l ++ [x]) (hs ++ [y]) := by
  have hlen := h.len
  have hps : ∀ i (hi : i < (l ++ [x]).length), OwnV w7 base ((hs ++ [y])[i]'(by simp at hi ⊢; omega)) (l ++ [x])[i].2.2 := by
    intro i hi
    by_cases e : i < l.length
    · rw [List.getElem_append_left e]
      simp only [List.getElem_append_left (show i < hs.length by omega)]
      refine (h.ops i e).grown hgrow ?_
      by_cases hv : v.ownBlock = none
      · by_cases h1 : (hs[i]'(by omega)).ownBlock = none
        · exact .inl h1
        · exact .inr (by rw [hv]; exact h1)
      · obtain ⟨k, hk⟩ := Option.ne_none_iff_exists'.1 hv
        exact .inr (by rw [hk]; exact h.out k hk _ (List.getElem_mem _))
    · have : i = l.length := by simp at hi; omega
      subst this
      rw [List.getElem_append_right (Nat.le_refl _)]
      simp only [List.getElem_append_right (show hs.length ≤ l.length by omega)]
      simp only [hlen, Nat.sub_self, List.getElem_cons_zero]
      refine hP.grown hgrow ?_
      by_cases hv : y.ownBlock = none
      · exact .inl hv
      · obtain ⟨k, hk⟩ := Option.ne_none_iff_exists'.1 hv
        exact .inr (by rw [hk]; exact fun e2 => hy k hk (.inl e2.symm))
  refine ⟨by simp [hlen], fun z hz => ?_, ?_, hps, ?_, fun k hk z hz e => ?_⟩
  · rcases List.mem_append.1 hz with h1 | h1
    · exact h.sm z h1
    · rw [List.mem_singleton.1 h1]; exact hx
  · rw [recVals_append l [x] hs [y] hlen, List.length_append]; exact hown
  · rw [List.pairwise_append]
    refine ⟨h.apart, List.pairwise_singleton _ _, fun a ha z hz => ?_⟩
    rw [List.mem_singleton.1 hz]
    by_cases h1 : a.ownBlock = none
    · exact .inl h1
    · right
      intro e
      obtain ⟨k, hk⟩ := Option.ne_none_iff_exists'.1 h1
      exact hy k (by rw [← e, hk]) (.inr ⟨a, ha, hk⟩)
  · obtain ⟨i, hi, rfl⟩ := List.getElem_of_mem hz
    have hS := hps i (by simp at hi ⊢; omega)
    exact recRow_ne hown hS.2 hk e (by decide)
end
end Go.Proofs.Yteniflajiklffaa.recs

namespace Go.Proofs.Yteniflajiklffaa.pairs
open Go Go.RowKit Go.Proofs.Yteniflajiklffaa.base
set_option linter.unusedVariables false
set_option linter.unusedSimpArgs false

theorem bcell {W w1 : World} (hb : Below W.heap.size W w1) : (∀ b o, b < W.heap.size → w1.cell? ⟨b, o, none⟩ = W.cell? ⟨b, o, none⟩) :=
  fun b o h => hb.cell (p := ⟨b, o, none⟩) h
set_option maxHeartbeats 400000 in
theorem s_in (x a b : Int) (w : World) (hx : -1000 ≤ x ∧ x ≤ 1099511627776) (ha : 0 ≤ a ∧ a ≤ 1000) (hb : 0 ≤ b ∧ b ≤ 1000) :
    Calls Try.prog 63 #[.int .i64 x, .int .i64 a, .int .i64 b] w fun e w' => e = .returned (.bool (decide (a ≤ x ∧ x ≤ b))) ∧ w' = w := by
  by_cases h1 : a ≤ x
  · by_cases h2 : x ≤ b
    · go_enter Try.func63, Try.ntmps63
      go_wp2
      go_ret
      exact ⟨ret_bool (by simp [h1, h2]), rfl⟩
    · go_enter Try.func63, Try.ntmps63
      go_wp2
      go_ret
      exact ⟨ret_bool (by simp [h1, h2]), rfl⟩
  · go_enter Try.func63, Try.ntmps63
    go_wp2
    go_ret
    exact ⟨ret_bool (by have h3 : ¬ a ≤ x := by omega
                        simp [h3]), rfl⟩

theorem keyAll_drop (s : ByteArray) (k : Nat) (h : k < s.size) : keyAll (s.data.toList.drop k) = (keyCh s[k].toNat && keyAll (s.data.toList.drop (k + 1))) := by
  rw [List.drop_eq_getElem_cons (by simpa using h)]; rfl

set_option maxRecDepth 100000 in
set_option maxHeartbeats 1000000 in
theorem spec_keyOk (s : ByteArray) (w : World) (hs : s.size ≤ 1099511627776) :
    Calls Try.prog 133 #[.string s] w fun e w' => e = .returned (.bool (keyOk s)) ∧ w' = w := by
  generalize hR : keyAll s.data.toList = R
  have HR := Hid.mk' hR
  clear hR
  go_enter Try.func133, Try.ntmps133
  go_wp2
  go_loop [3] (fun i => ∃ k : Nat, k ≤ s.size ∧ i = .int .i64 (k : Int) ∧ keyAll (s.data.toList.drop k) = R) (fun i => s.size - (intOf i).toNat)
  case atStart => exact ⟨0, Nat.zero_le _, rfl, HR.out⟩
  case round =>
    obtain ⟨k, hk, rfl, hr⟩ := hrel
    by_cases hlt : k < s.size
    · have hst := keyAll_drop s k hlt
      rw [hr] at hst
      have hc := s[k].toNat_lt
      generalize hC : s[k].toNat = c at *
      have HST := Hid.mk' hst
      have HC := Hid.mk' hC
      clear hst hr
      have hki : (k : Int) < (s.size : Int) := by omega
      by_cases h1 : 97 ≤ c ∧ c ≤ 122
      · have HF : Hid (keyAll (s.data.toList.drop (k + 1)) = R) := by
          show _ = _
          have := HST.out; rw [show keyCh c = true by simp [keyCh, h1]] at this; simpa using this.symm
        have hl := s_in (c : Int) 97 122 w (by omega) (by omega) (by omega)
        rw [decide_eq_true (by omega)] at hl
        have HL := Hid.mk' hl
        clear hl HST
        go_wp2_with fail
        refine HL.out.mono ?_
        rintro e w1 ⟨rfl, rfl⟩
        go_wp2_with fail
        go_round
        case rel => exact ⟨k + 1, by omega, by go_num, HF.out⟩
        case measure => simp [intOf]; omega
      · have hl := s_in (c : Int) 97 122 w (by omega) (by omega) (by omega)
        rw [decide_eq_false (by omega)] at hl
        have HL := Hid.mk' hl
        clear hl
        by_cases h2 : 48 ≤ c ∧ c ≤ 57
        · have HF : Hid (keyAll (s.data.toList.drop (k + 1)) = R) := by
            show _ = _
            have := HST.out; rw [show keyCh c = true by simp [keyCh, h2]] at this; simpa using this.symm
          have hl := s_in (c : Int) 48 57 w (by omega) (by omega) (by omega)
          rw [decide_eq_true (by omega)] at hl
          have HL2 := Hid.mk' hl
          clear hl HST
          go_wp2_with fail
          refine HL.out.mono ?_
          rintro e w1 ⟨rfl, rfl⟩
          go_wp2_with fail
          refine HL2.out.mono ?_
          rintro e w1 ⟨rfl, rfl⟩
          go_wp2_with fail
          go_round
          case rel => exact ⟨k + 1, by omega, by go_num, HF.out⟩
          case measure => simp [intOf]; omega
        · have HF : Hid (R = false) := by
            show _ = _
            have := HST.out; rw [show keyCh c = false by simp only [keyCh, h1, h2]; rfl] at this; simpa using this
          have hl := s_in (c : Int) 48 57 w (by omega) (by omega) (by omega)
          rw [decide_eq_false (by omega)] at hl
          have HL2 := Hid.mk' hl
          clear hl HST
          go_wp2_with fail
          refine HL.out.mono ?_
          rintro e w1 ⟨rfl, rfl⟩
          go_wp2_with fail
          refine HL2.out.mono ?_
          rintro e w1 ⟨rfl, rfl⟩
          go_wp2_with fail
          go_ret
          exact ⟨ret_bool (by unfold keyOk; rw [HR.out, HF.out]; rfl), rfl⟩
    · have HF : Hid (R = true) := by show _ = _; rw [← hr, List.drop_eq_nil_of_le (by simp; omega)]; rfl
      have hl := s_in (s.size : Int) 1 12 w (by omega) (by omega) (by omega)
      rw [show decide ((1 : Int) ≤ (s.size : Int) ∧ (s.size : Int) ≤ 12) = decide (1 ≤ s.size ∧ s.size ≤ 12) by rw [decide_eq_decide]; omega] at hl
      have HL := Hid.mk' hl
      clear hl hr
      go_wp2_with fail
      refine HL.out.mono ?_
      rintro e w1 ⟨rfl, rfl⟩
      go_wp2_with fail
      go_ret
      exact ⟨ret_bool (by unfold keyOk; rw [HR.out, HF.out]; simp), rfl⟩


def getRet : Option ByteArray → Value
  | none => .tuple #[.string ⟨#[]⟩, .bool false]
  | some v => .tuple #[.string v, .bool true]
theorem str_ne {a b : ByteArray} (h : a ≠ b) : (a.toList == b.toList) = false := by
  rw [beq_eq_false_iff_ne]; intro e; rw [ByteArray.toList_eq, ByteArray.toList_eq] at e; exact h (bytes_ext e)

set_option maxRecDepth 100000 in
set_option maxHeartbeats 1000000 in
theorem spec_getKey (a : Option Addr) (len cap : Nat) (l : List Pr) (key : ByteArray) (w : World) (h : SlP w a len l) :
    Calls Try.prog 121 #[.slice a len cap, .string key] w fun e w' => e = .returned (getRet (getKey key l)) ∧ w' = w := by
  obtain ⟨hl, hm, hsm, hc⟩ := h
  subst hl
  unfold maxLen at hm
  generalize hR : getKey key l = R
  have HR := Hid.mk' hR
  clear hR
  go_enter Try.func121, Try.ntmps121
  go_wp2
  go_loop [6] (fun i => ∃ k : Nat, k ≤ l.length ∧ i = .int .i64 (k : Int) ∧ getKey key (l.drop k) = R) (fun i => l.length - (intOf i).toNat)
  case atStart => exact ⟨0, Nat.zero_le _, rfl, HR.out⟩
  case round =>
    obtain ⟨k, hk, rfl, hr⟩ := hrel
    by_cases hlt : k < l.length
    · obtain ⟨b, off, ha, hcl⟩ := hc (by omega)
      subst ha
      have hst := getKey_drop key l k hlt
      rw [hr] at hst
      obtain ⟨c1, c2⟩ := hcl k hlt
      have hki : (k : Int) < (l.length : Int) := by omega
      by_cases he : l[k].1 = key
      · have HF : Hid (R = some l[k].2) := by rw [if_pos he] at hst; exact hst
        rw [he] at c1
        generalize l[k].2 = v at *
        clear hst hr hcl hc hsm he
        go_wp2
        go_ret2
        exact ⟨by rw [HF.out]; rfl, rfl⟩
      · have HF : Hid (getKey key (l.drop (k + 1)) = R) := by rw [if_neg he] at hst; exact hst.symm
        have hq := str_ne he
        generalize l[k].1 = kk at *
        clear hst hr hcl hc hsm he
        go_wp2
        go_round
        case rel => exact ⟨k + 1, by omega, by go_num, HF.out⟩
        case measure => simp [intOf]; omega
    · have HF : Hid (R = none) := by show _ = _; rw [← hr, List.drop_eq_nil_of_le (by omega)]; rfl
      clear hr
      go_wp2
      go_ret2
      exact ⟨by rw [HF.out]; rfl, rfl⟩


end Go.Proofs.Yteniflajiklffaa.pairs

namespace Go.Proofs.Yteniflajiklffaa.pairs
open Go Go.RowKit Go.Proofs.Yteniflajiklffaa.base
set_option linter.unusedVariables false
set_option linter.unusedSimpArgs false

theorem take_snocP (l : List Pr) (k : Nat) (h : k < l.length) : l.take (k + 1) = l.take k ++ [l[k]] := List.take_succ_eq_append_getElem h
theorem filter_snoc (f : Pr → Bool) (l : List Pr) (k : Nat) (h : k < l.length) : (l.take (k + 1)).filter f = (l.take k).filter f ++ if f l[k] then [l[k]] else [] := by
  rw [take_snocP l k h, List.filter_append]
  cases hf : f l[k] <;> simp [List.filter_cons, hf]
theorem take_small {l : List Pr} (h : ∀ p ∈ l, small p) (k : Nat) : ∀ p ∈ l.take k, small p := fun p hp => h p (List.mem_of_mem_take hp)
theorem one_pair_cells (w : World) (p : Pr) (t : TypeId) : ∀ j u, (pairVals [p])[j]? = some u → (w.alloc (.cells #[.string p.1, .string p.2] t)).cell? ((⟨w.heap.size, 0, none⟩ : Addr).add j) = some u :=
  cells_two w (.string p.1) (.string p.2) t
theorem ownP_app {w' : World} {base n : Nat} {v' : Value} {l : List Pr} {p : Pr} (hl : l.length = n) (hs : ∀ q ∈ l, small q) (hp : small p) (h0 : ¬ v' = .slice none 0 0)
    (h : w'.ownsRow base 102 2 v' (n + 1) (pairVals l ++ pairVals [p])) : ∃ g' cap', v' = .slice (some ⟨g', 0, none⟩) (n + 1) cap' ∧ OwnP w' base g' (n + 1) cap' (l ++ [p]) := by
  rw [← pairVals_append] at h
  refine ownP_val (by simp; omega) ?_ h0 h
  intro q hq
  rcases List.mem_append.1 hq with h1 | h1
  · exact hs q h1
  · simp at h1; subst h1; exact hp

set_option maxRecDepth 100000 in
set_option maxHeartbeats 2000000 in
theorem spec_delKey (b off len cap : Nat) (l : List Pr) (key : ByteArray) (w : World) (h : SlP w (some ⟨b, off, none⟩) len l) (hsz : len ≤ 1099511627776) :
    Calls Try.prog 123 #[.slice (some ⟨b, off, none⟩) len cap, .string key] w fun e w' =>
      ∃ g' n' cap', e = .returned (.slice (some ⟨g', 0, none⟩) n' cap') ∧ OwnP w' w.heap.size g' n' cap' (delKey key l) ∧ Below w.heap.size w w' := by
  obtain ⟨i0, hi, hz0, hz1, hz2⟩ := info_parts infoP
  have hl := h.1
  have hsm := h.2.2.1
  subst hl
  go_enter Try.func123, Try.ntmps123
  go_wp2_with (at_builtin; fail)
  go_loopw [5, 6] (fun v i wr => ∃ (k g n cp : Nat), k ≤ l.length ∧ n ≤ k ∧ i = .int .i64 (k : Int) ∧ v = .slice (some ⟨g, 0, none⟩) n cp ∧ OwnP wr w.heap.size g n cp (delKey key (l.take k)) ∧ Below w.heap.size w wr) (fun _ i _ => l.length - (intOf i).toNat)
  case atStart => exact ⟨0, w.heap.size, 0, 0, Nat.zero_le _, Nat.le_refl _, rfl, rfl, ownP_made w _ (Nat.le_refl _), (Below.refl _ _).alloc (Nat.le_refl _) _⟩
  case round =>
    obtain ⟨k, g, n, cp, hk, hnk, rfl, rfl, hO, hB⟩ := hrel
    have hbw : w.heap.size ≤ wr.heap.size := hB.size
    by_cases hlt : k < l.length
    · obtain ⟨c1, c2⟩ := (h.below hB).cells k hlt
      have hst := filter_snoc (fun p => decide (p.1 ≠ key)) l k hlt
      have hpk := hsm _ (List.getElem_mem hlt)
      have hki : (k : Int) < (l.length : Int) := by omega
      by_cases he : l[k].1 = key
      · have HF : Hid (delKey key (l.take (k + 1)) = delKey key (l.take k)) := by
          show List.filter _ _ = List.filter _ _
          rw [hst]; simp [he]
        rw [he] at c1
        clear hst
        go_wp2_with (at_builtin; fail)
        go_roundw
        case rel => exact ⟨k + 1, g, n, cp, by omega, by omega, by go_num, rfl, by rw [HF.out]; exact hO, hB⟩
        case measure => simp [intOf]; omega
      · have HF : Hid (delKey key (l.take (k + 1)) = delKey key (l.take k) ++ [l[k]]) := by
          show List.filter _ _ = List.filter _ _ ++ _
          rw [hst]; simp [he]
        have hq := str_ne he
        have hc3 : n + 1 ≤ maxLen := by unfold maxLen; omega
        have hc4 : (n + 1) * 32 ≤ 140737488355328 := by omega
        generalize l[k] = p at *
        clear hst he
        go_wp2_with (at_builtin; refine wpList_append_own _ rfl (.tmp 21) (.tmp 26) 47 rfl w.heap.size 102 i0 (.agg #[.string ⟨#[]⟩, .string ⟨#[]⟩]) 2 32 Try.underlying47 hi hz0 hz1 hz2 rfl (by decide) _ _ _ rfl (hO.2.2.alloc _) ⟨wr.heap.size, 0, none⟩ 1 1 (pairVals [p]) rfl rfl (one_pair_cells _ _ _) (pairVals_oneCell _) hc3 hc4 (le_alloc _ _ hbw) ?_)
        intro v2 w2 hown hgrow hnn
        obtain ⟨g2, cp2, hv, hO2⟩ := ownP_app hO.1 hO.2.1 hpk hnn hown
        subst hv
        have hB2 : Below w.heap.size w w2 := (hB.alloc hbw _).grown hgrow (le_alloc _ _ hbw) (fun k e => by simp [Value.ownBlock] at e; have := hO.lt; omega)
        rw [← HF.out] at hO2
        have HO2 := Hid.mk' hO2
        clear hown hgrow hnn hO2 hO hB
        go_wp2_with (at_builtin; fail)
        go_roundw
        case rel => exact ⟨k + 1, g2, n + 1, cp2, by omega, by omega, by go_num, rfl, HO2.out, hB2⟩
        case measure => simp [intOf]; omega
    · have HE : Hid (l.take k = l) := List.take_of_length_le (by omega)
      go_wp2_with (at_builtin; fail)
      go_ret
      rw [HE.out] at hO
      exact ⟨g, n, cp, rfl, hO, hB⟩


end Go.Proofs.Yteniflajiklffaa.pairs

namespace Go.Proofs.Yteniflajiklffaa.pairs
open Go Go.RowKit Go.Proofs.Yteniflajiklffaa.base
set_option linter.unusedVariables false
set_option linter.unusedSimpArgs false

theorem getKey_none {key : ByteArray} {l : List Pr} (h : getKey key l = none) (k : Nat) (hk : k < l.length) : l[k].1 ≠ key := by
  intro e
  have h2 := getKey_append key (l.take k) (l.drop k)
  rw [List.take_append_drop, h, getKey_drop key l k hk, if_pos e] at h2
  cases h3 : getKey key (l.take k) <;> rw [h3] at h2 <;> cases h2
theorem put_found {key val : ByteArray} {l : List Pr} (k : Nat) (hk : k < l.length) (he : l[k].1 = key) (hn : getKey key (l.take k) = none) : putKey key val l = l.set k (l[k].1, val) := by
  have h2 := getKey_append key (l.take k) (l.drop k)
  rw [List.take_append_drop, hn, getKey_drop key l k hk, if_pos he] at h2
  unfold putKey
  rw [h2, if_pos (by rfl), setFirst_at key val l k hk he hn, he]
theorem put_new {key val : ByteArray} {l : List Pr} (hn : getKey key l = none) : putKey key val l = l.take (below key l) ++ (key, val) :: l.drop (below key l) := by
  unfold putKey; rw [hn]; rfl
theorem take_none (key : ByteArray) (l : List Pr) (k : Nat) (hk : k < l.length) (hn : getKey key (l.take k) = none) (he : l[k].1 ≠ key) : getKey key (l.take (k + 1)) = none := by
  rw [take_snocP l k hk]; exact getKey_snoc_none key _ _ hn he
theorem less_flip {a b : ByteArray} (h : a ≠ b) : Op.bytesLess a.toList b.toList = !Op.bytesLess b.toList a.toList := by
  cases h1 : Op.bytesLess b.toList a.toList
  · cases h2 : Op.bytesLess a.toList b.toList
    · exact absurd (ltB_total (a := a) (b := b) h2 h1) h
    · rfl
  · exact ltB_asymm (a := b) (b := a) h1
theorem cellsP_drop {w : World} {b off : Nat} {l : List Pr} (h : CellsP w b off l) (k : Nat) : CellsP w b (off + k * 2) (l.drop k) := by
  intro i hi
  have hki : k + i < l.length := by simp at hi; omega
  have := h (k + i) hki
  rw [List.getElem_drop, show off + k * 2 + i * 2 = off + (k + i) * 2 by omega]
  exact this
theorem cellsP_take {w : World} {b off : Nat} {l : List Pr} (h : CellsP w b off l) (k : Nat) : CellsP w b off (l.take k) := by
  intro i hi
  rw [List.getElem_take]
  exact h i (by simp at hi; omega)

set_option maxRecDepth 100000 in
set_option maxHeartbeats 2000000 in
theorem spec_putKey (b off len cap : Nat) (l : List Pr) (key val : ByteArray) (w : World) (h : SlP w (some ⟨b, off, none⟩) len l) (hcap : len ≤ cap) (hsz : len ≤ 1099511627776) (hks : key.size ≤ maxLen) (hvs : val.size ≤ maxLen) :
    Calls Try.prog 122 #[.slice (some ⟨b, off, none⟩) len cap, .string key, .string val] w fun e w' =>
      ∃ g' n' cap', e = .returned (.slice (some ⟨g', 0, none⟩) n' cap') ∧ OwnP w' w.heap.size g' n' cap' (putKey key val l) ∧ Below w.heap.size w w' := by
  obtain ⟨i0, hif, hz0, hz1, hz2⟩ := info_parts infoP
  have hl := h.1
  have hsm := h.2.2.1
  subst hl
  have hba : Below w.heap.size w (w.alloc (.cells #[] 102)) := (Below.refl _ _).alloc (Nat.le_refl _) _
  have HC := Hid.mk' (cells_pairs (h.below hba).cells)
  have hn0 := pairVals_length l
  have hm1 : 0 + l.length ≤ maxLen := by unfold maxLen; omega
  have hm2 : (0 + l.length) * 32 ≤ 140737488355328 := by omega
  have hown0 := (ownP_made w w.heap.size (Nat.le_refl _)).2.2
  go_enter Try.func122, Try.ntmps122
  go_wp2_with (at_builtin; refine wpList_append_own _ rfl (.tmp 10) (.tmp 11) 47 rfl w.heap.size 102 i0 (.agg #[.string ⟨#[]⟩, .string ⟨#[]⟩]) 2 32 Try.underlying47 hif hz0 hz1 hz2 rfl (by decide) _ _ _ rfl hown0 ⟨b, off, none⟩ l.length cap (pairVals l) rfl hn0 HC.out (pairVals_oneCell _) hm1 hm2 (le_alloc _ _ (Nat.le_refl _)) ?_)
  intro v1 w1 hown hgrow hnn
  have hnn' : ¬ v1 = .slice none 0 0 := by simpa using hnn
  obtain ⟨g1, cap1, hv, hO1⟩ := ownP_val rfl hsm hnn' (by simpa [pairVals] using hown)
  subst hv
  have hB1 : Below w.heap.size w w1 := hba.grown hgrow (le_alloc _ _ (Nat.le_refl _)) (fun k e => by simp [Value.ownBlock] at e; omega)
  clear hown hgrow hnn hnn' hown0 HC hn0 hm1 hm2 hba
  go_wp2_with (at_builtin; fail)
  go_loop [8] (fun i => ∃ k : Nat, k ≤ l.length ∧ i = .int .i64 (k : Int) ∧ getKey key (l.take k) = none) (fun i => l.length - (intOf i).toNat)
  case atStart => exact ⟨0, Nat.zero_le _, rfl, rfl⟩
  case round =>
    obtain ⟨k, hk, rfl, hno⟩ := hrel
    by_cases hlt : k < l.length
    · have c1 := hO1.key k hlt
      have c2 := hO1.val k hlt
      have hki : (k : Int) < (l.length : Int) := by omega
      by_cases he : l[k].1 = key
      · have HF : Hid (putKey key val l = l.set k (l[k].1, val)) := put_found k hlt he hno
        have hfz := hO1.frozen (k * 2 + 1)
        have hR := hO1.setVal k hlt val hvs
        rw [← HF.out] at hR
        have HR := Hid.mk' hR
        rw [he] at c1
        clear hno hR
        go_wp2_with (at_builtin; fail)
        go_ret
        exact ⟨_, _, _, rfl, HR.out.1, hB1.trans (below_grown HR.out.2 hO1.lt.1 hB1.size)⟩
      · have HF : Hid (getKey key (l.take (k + 1)) = none) := take_none key l k hlt hno he
        have hq := str_ne he
        clear hno he
        go_wp2_with (at_builtin; fail)
        go_round
        case rel => exact ⟨k + 1, by omega, by go_num, HF.out⟩
        case measure => simp [intOf]; omega
    · have hnone : getKey key l = none := by rw [List.take_of_length_le (by omega)] at hno; exact hno
      have HP := Hid.mk' (put_new (val := val) hnone)
      have hne := getKey_none hnone
      have hSl := h.below hB1
      obtain ⟨B, hBe⟩ : ∃ B, below key l = B := ⟨_, rfl⟩
      have hBl : B ≤ l.length := by rw [← hBe]; exact below_le key l
      rw [hBe] at HP
      have HB := Hid.mk' hBe
      clear hno hnone hBe
      go_wp2_with (at_builtin; fail)
      go_loop [9] (fun i => ∃ k : Nat, k ≤ l.length ∧ i = .int .i64 (k : Int) ∧ below key (l.drop k) + k = B) (fun i => l.length - (intOf i).toNat)
      case atStart => exact ⟨0, Nat.zero_le _, rfl, HB.out⟩
      case round =>
        obtain ⟨k, hk2, rfl, hr⟩ := hrel
        by_cases hlt2 : k < l.length ∧ Op.bytesLess key.toList (l[k]!).1.toList = false
        · obtain ⟨hlt2, hb⟩ := hlt2
          rw [getElem!_pos l k hlt2] at hb
          have c1 := (hSl.cells k hlt2).1
          have hst := below_drop key l k hlt2
          rw [if_neg (by show ¬ Op.bytesLess _ _ = true; rw [hb]; simp)] at hst
          have HF : Hid (below key (l.drop (k + 1)) + (k + 1) = B) := by show _ = _; omega
          have hq := str_ne (hne k hlt2)
          have hlf := less_flip (hne k hlt2)
          rw [hb] at hlf
          have hki : (k : Int) < (l.length : Int) := by omega
          generalize l[k].1 = kk at *
          clear hr hst hb hne
          go_wp2_with (at_builtin; fail)
          go_round
          case rel => exact ⟨k + 1, by omega, by go_num, HF.out⟩
          case measure => simp [intOf]; omega
        · have HE : Hid (k = B) := by
            show k = B
            by_cases h3 : k < l.length
            · have hst := below_drop key l k h3
              have : Op.bytesLess key.toList l[k].1.toList = true := by
                cases h4 : Op.bytesLess key.toList l[k].1.toList
                · exact absurd ⟨h3, by rw [getElem!_pos l k h3]; exact h4⟩ hlt2
                · rfl
              rw [if_pos (show ltB key l[k].1 = true from this)] at hst
              omega
            · rw [List.drop_eq_nil_of_le (by omega)] at hr
              have : below key [] = 0 := rfl
              omega
          have hcond : k < l.length → ∃ kk, w1.cell? ⟨b, off + k * 2, none⟩ = some (.string kk) ∧ Op.bytesLess kk.toList key.toList = false ∧ (kk.toList == key.toList) = false := by
            intro h3
            refine ⟨l[k].1, (hSl.cells k h3).1, ?_, str_ne (hne k h3)⟩
            rw [less_flip (hne k h3)]
            cases h4 : Op.bytesLess key.toList l[k].1.toList
            · exact absurd ⟨h3, by rw [getElem!_pos l k h3]; exact h4⟩ hlt2
            · rfl
          clear hr hlt2 hne
          by_cases h3 : k < l.length
          · obtain ⟨kk, c1, q1, q2⟩ := hcond h3
            have hki : (k : Int) < (l.length : Int) := by omega
            clear hcond
            have hba2 : Below w1.heap.size w1 (w1.alloc (.cells #[] 102)) := (Below.refl _ _).alloc (Nat.le_refl _) _
            have HC2 := Hid.mk' (cells_pairs (cellsP_take (hSl.below hba2).cells k))
            have hn2 : (pairVals (l.take k)).length = k * 2 := by rw [pairVals_length, List.length_take_of_le hk2]
            have hm3 : 0 + k ≤ maxLen := by unfold maxLen; omega
            have hm4 : (0 + k) * 32 ≤ 140737488355328 := by omega
            have hm5 : k + 1 ≤ maxLen := by unfold maxLen; omega
            have hm6 : (k + 1) * 32 ≤ 140737488355328 := by omega
            have hown2 := (ownP_made w1 w.heap.size hB1.size).2.2
            have hbw1 : w.heap.size ≤ w1.heap.size := hB1.size
            have hkc : (k : Int) ≤ (cap : Int) := by omega
            have hkl : (k : Int) ≤ (l.length : Int) := by omega
            go_wp2_with (at_builtin; refine wpList_append_own _ rfl (.tmp 47) (.tmp 50) 47 rfl w.heap.size 102 i0 (.agg #[.string ⟨#[]⟩, .string ⟨#[]⟩]) 2 32 Try.underlying47 hif hz0 hz1 hz2 rfl (by decide) _ _ _ rfl hown2 ⟨b, off, none⟩ k cap (pairVals (l.take k)) rfl hn2 HC2.out (pairVals_oneCell _) hm3 hm4 (le_alloc _ _ hbw1) ?_)
            intro v2 w2 hown hgrow hnn
            have hnn' : ¬ v2 = .slice none 0 0 := by simpa using hnn
            obtain ⟨g2, cap2, hv, hO2⟩ := ownP_val (l := l.take k) (n := k) (List.length_take_of_le hk2) (take_small hsm k) hnn' (by simpa [pairVals] using hown)
            subst hv
            have hBx : Below w.heap.size w1 (w1.alloc (.cells #[] 102)) := (Below.refl _ _).alloc hbw1 _
            have hB2 : Below w.heap.size w1 w2 := hBx.grown hgrow (le_alloc _ _ hbw1) (fun k e => by simp [Value.ownBlock] at e; omega)
            have hB2' : Below w.heap.size w w2 := hB1.trans hB2
            have hbw2 : w.heap.size ≤ w2.heap.size := hB2'.size
            clear hown hgrow hnn hnn' hown2 HC2 hn2 hm3 hm4 hba2 hBx hB2
            go_wp2_with (at_builtin; refine wpList_append_own _ rfl (.tmp 51) (.tmp 55) 47 rfl w.heap.size 102 i0 (.agg #[.string ⟨#[]⟩, .string ⟨#[]⟩]) 2 32 Try.underlying47 hif hz0 hz1 hz2 rfl (by decide) _ _ _ rfl (hO2.2.2.alloc _) ⟨w2.heap.size, 0, none⟩ 1 1 (pairVals [(key, val)]) rfl rfl (one_pair_cells _ (key, val) _) (pairVals_oneCell _) hm5 hm6 (le_alloc _ _ hbw2) ?_)
            intro v3 w3 hown hgrow hnn
            obtain ⟨g3, cap3, hv, hO3⟩ := ownP_app hO2.1 hO2.2.1 ⟨hks, hvs⟩ hnn hown
            subst hv
            have hB3 : Below w.heap.size w w3 := (hB2'.alloc hbw2 _).grown hgrow (le_alloc _ _ hbw2) (fun k e => by simp [Value.ownBlock] at e; have := hO2.lt; omega)
            have hbw3 : w.heap.size ≤ w3.heap.size := hB3.size
            have hSl3 := h.below hB3
            have hm7 : k + 1 + (l.length - k) ≤ maxLen := by unfold maxLen; omega
            have hm8 : (k + 1 + (l.length - k)) * 32 ≤ 140737488355328 := by omega
            have hn4 : (pairVals (l.drop k)).length = (l.length - k) * 2 := by rw [pairVals_length, List.length_drop]
            clear hown hgrow hnn hO2 hB2' hm5 hm6
            have hck : ¬ cap = k := by omega
            have HC4 := Hid.mk' (cells_pairs (cellsP_drop hSl3.cells k))
            go_wp2_with (at_builtin; refine wpList_append_own _ rfl (.tmp 57) (.tmp 60) 47 rfl w.heap.size 102 i0 (.agg #[.string ⟨#[]⟩, .string ⟨#[]⟩]) 2 32 Try.underlying47 hif hz0 hz1 hz2 rfl (by decide) _ _ _ rfl hO3.2.2 ⟨b, off + k * 2, none⟩ (l.length - k) (cap - k) (pairVals (l.drop k)) rfl hn4 HC4.out (pairVals_oneCell _) hm7 hm8 hbw3 ?_)
            intro v4 w4 hown hgrow hnn
            have hnn' : ¬ v4 = .slice none 0 0 := by simpa using hnn
            rw [← pairVals_append] at hown
            obtain ⟨g4, cap4, hv, hO4⟩ := ownP_val (n := k + 1 + (l.length - k)) (by simp; omega) (fun q hq => by
              rcases List.mem_append.1 hq with h1 | h1
              · exact hO3.2.1 q h1
              · exact hsm q (List.mem_of_mem_drop h1)) hnn' hown
            subst hv
            have hB4 : Below w.heap.size w w4 := hB3.grown hgrow hbw3 (fun k e => by simp [Value.ownBlock] at e; have := hO3.lt; omega)
            have HO4 := Hid.mk' hO4
            clear hown hgrow hnn hnn' hO4
            go_wp2_with (at_builtin; fail)
            go_ret
            refine ⟨g4, _, cap4, rfl, ?_, hB4⟩
            rw [HP.out, ← HE.out]
            have := HO4.out
            rw [List.append_assoc] at this
            exact this
          · clear hcond
            have hkl' : l.length = k := by omega
            have HDR : Hid (l.drop k = []) := List.drop_eq_nil_of_le (by omega)
            have hba2 : Below w1.heap.size w1 (w1.alloc (.cells #[] 102)) := (Below.refl _ _).alloc (Nat.le_refl _) _
            have HC2 := Hid.mk' (cells_pairs (cellsP_take (hSl.below hba2).cells k))
            have hn2 : (pairVals (l.take k)).length = k * 2 := by rw [pairVals_length, List.length_take_of_le hk2]
            have hm3 : 0 + k ≤ maxLen := by unfold maxLen; omega
            have hm4 : (0 + k) * 32 ≤ 140737488355328 := by omega
            have hm5 : k + 1 ≤ maxLen := by unfold maxLen; omega
            have hm6 : (k + 1) * 32 ≤ 140737488355328 := by omega
            have hown2 := (ownP_made w1 w.heap.size hB1.size).2.2
            have hbw1 : w.heap.size ≤ w1.heap.size := hB1.size
            have hkc : (k : Int) ≤ (cap : Int) := by omega
            have hkl : (k : Int) ≤ (l.length : Int) := by omega
            clear hkl'
            go_wp2_with (at_builtin; refine wpList_append_own _ rfl (.tmp 47) (.tmp 50) 47 rfl w.heap.size 102 i0 (.agg #[.string ⟨#[]⟩, .string ⟨#[]⟩]) 2 32 Try.underlying47 hif hz0 hz1 hz2 rfl (by decide) _ _ _ rfl hown2 ⟨b, off, none⟩ k cap (pairVals (l.take k)) rfl hn2 HC2.out (pairVals_oneCell _) hm3 hm4 (le_alloc _ _ hbw1) ?_)
            intro v2 w2 hown hgrow hnn
            have hnn' : ¬ v2 = .slice none 0 0 := by simpa using hnn
            obtain ⟨g2, cap2, hv, hO2⟩ := ownP_val (l := l.take k) (n := k) (List.length_take_of_le hk2) (take_small hsm k) hnn' (by simpa [pairVals] using hown)
            subst hv
            have hBx : Below w.heap.size w1 (w1.alloc (.cells #[] 102)) := (Below.refl _ _).alloc hbw1 _
            have hB2 : Below w.heap.size w1 w2 := hBx.grown hgrow (le_alloc _ _ hbw1) (fun k e => by simp [Value.ownBlock] at e; omega)
            have hB2' : Below w.heap.size w w2 := hB1.trans hB2
            have hbw2 : w.heap.size ≤ w2.heap.size := hB2'.size
            clear hown hgrow hnn hnn' hown2 HC2 hn2 hm3 hm4 hba2 hBx hB2
            go_wp2_with (at_builtin; refine wpList_append_own _ rfl (.tmp 51) (.tmp 55) 47 rfl w.heap.size 102 i0 (.agg #[.string ⟨#[]⟩, .string ⟨#[]⟩]) 2 32 Try.underlying47 hif hz0 hz1 hz2 rfl (by decide) _ _ _ rfl (hO2.2.2.alloc _) ⟨w2.heap.size, 0, none⟩ 1 1 (pairVals [(key, val)]) rfl rfl (one_pair_cells _ (key, val) _) (pairVals_oneCell _) hm5 hm6 (le_alloc _ _ hbw2) ?_)
            intro v3 w3 hown hgrow hnn
            obtain ⟨g3, cap3, hv, hO3⟩ := ownP_app hO2.1 hO2.2.1 ⟨hks, hvs⟩ hnn hown
            subst hv
            have hB3 : Below w.heap.size w w3 := (hB2'.alloc hbw2 _).grown hgrow (le_alloc _ _ hbw2) (fun k e => by simp [Value.ownBlock] at e; have := hO2.lt; omega)
            have hbw3 : w.heap.size ≤ w3.heap.size := hB3.size
            have hSl3 := h.below hB3
            have hm7 : k + 1 + (l.length - k) ≤ maxLen := by unfold maxLen; omega
            have hm8 : (k + 1 + (l.length - k)) * 32 ≤ 140737488355328 := by omega
            have hn4 : (pairVals (l.drop k)).length = (l.length - k) * 2 := by rw [pairVals_length, List.length_drop]
            clear hown hgrow hnn hO2 hB2' hm5 hm6
            by_cases hck : cap = k
            · have HC4 : Hid (∀ j v, (pairVals (l.drop k))[j]? = some v → w3.cell? ((⟨b, off, none⟩ : Addr).add j) = some v) := by
                show ∀ j v, _ → _
                intro j v hj
                rw [HDR.out] at hj
                simp [pairVals] at hj
              go_wp2_with (at_builtin; refine wpList_append_own _ rfl (.tmp 57) (.tmp 60) 47 rfl w.heap.size 102 i0 (.agg #[.string ⟨#[]⟩, .string ⟨#[]⟩]) 2 32 Try.underlying47 hif hz0 hz1 hz2 rfl (by decide) _ _ _ rfl hO3.2.2 ⟨b, off, none⟩ (l.length - k) _ (pairVals (l.drop k)) rfl hn4 HC4.out (pairVals_oneCell _) hm7 hm8 hbw3 ?_)
              intro v4 w4 hown hgrow hnn
              have hnn' : ¬ v4 = .slice none 0 0 := by simpa using hnn
              rw [← pairVals_append] at hown
              obtain ⟨g4, cap4, hv, hO4⟩ := ownP_val (n := k + 1 + (l.length - k)) (by simp; omega) (fun q hq => by
                rcases List.mem_append.1 hq with h1 | h1
                · exact hO3.2.1 q h1
                · exact hsm q (List.mem_of_mem_drop h1)) hnn' hown
              subst hv
              have hB4 : Below w.heap.size w w4 := hB3.grown hgrow hbw3 (fun k e => by simp [Value.ownBlock] at e; have := hO3.lt; omega)
              have HO4 := Hid.mk' hO4
              clear hown hgrow hnn hnn' hO4
              go_wp2_with (at_builtin; fail)
              go_ret
              refine ⟨g4, _, cap4, rfl, ?_, hB4⟩
              rw [HP.out, ← HE.out]
              have := HO4.out
              rw [List.append_assoc] at this
              exact this
            · have HC4 : Hid (∀ j v, (pairVals (l.drop k))[j]? = some v → w3.cell? ((⟨b, off + k * 2, none⟩ : Addr).add j) = some v) := by
                show ∀ j v, _ → _
                intro j v hj
                rw [HDR.out] at hj
                simp [pairVals] at hj
              go_wp2_with (at_builtin; refine wpList_append_own _ rfl (.tmp 57) (.tmp 60) 47 rfl w.heap.size 102 i0 (.agg #[.string ⟨#[]⟩, .string ⟨#[]⟩]) 2 32 Try.underlying47 hif hz0 hz1 hz2 rfl (by decide) _ _ _ rfl hO3.2.2 ⟨b, off + k * 2, none⟩ (l.length - k) _ (pairVals (l.drop k)) rfl hn4 HC4.out (pairVals_oneCell _) hm7 hm8 hbw3 ?_)
              intro v4 w4 hown hgrow hnn
              have hnn' : ¬ v4 = .slice none 0 0 := by simpa using hnn
              rw [← pairVals_append] at hown
              obtain ⟨g4, cap4, hv, hO4⟩ := ownP_val (n := k + 1 + (l.length - k)) (by simp; omega) (fun q hq => by
                rcases List.mem_append.1 hq with h1 | h1
                · exact hO3.2.1 q h1
                · exact hsm q (List.mem_of_mem_drop h1)) hnn' hown
              subst hv
              have hB4 : Below w.heap.size w w4 := hB3.grown hgrow hbw3 (fun k e => by simp [Value.ownBlock] at e; have := hO3.lt; omega)
              have HO4 := Hid.mk' hO4
              clear hown hgrow hnn hnn' hO4
              go_wp2_with (at_builtin; fail)
              go_ret
              refine ⟨g4, _, cap4, rfl, ?_, hB4⟩
              rw [HP.out, ← HE.out]
              have := HO4.out
              rw [List.append_assoc] at this
              exact this

end Go.Proofs.Yteniflajiklffaa.pairs
