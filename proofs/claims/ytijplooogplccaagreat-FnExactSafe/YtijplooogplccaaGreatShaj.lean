/- RecMath RecRow RecS RecZa RecZb Fits -/
import Derived.Test.YtijplooogplccaaGreatShaa
import Derived.Test.YtijplooogplccaaGreatShai
import Derived.Test.YtijplooogplccaaGreatShab
import Derived.Test.YtijplooogplccaaGreatShad
import Derived.BigQuiet
import Derived.OwnWalk
set_option linter.unusedVariables false
set_option linter.unusedSimpArgs false
namespace Go.Proofs.YtijplooogplccaaGreat
namespace recs
open Go Go.RowKit base pairs ords putnum puttext getnum gettext gettexts nummath
abbrev Rc := Int × Int × List Od
def recOk (r : Rc) : Bool := decide (1 ≤ r.2.1 ∧ r.2.1 ≤ 1000000) && (if r.1 = 1 then opsOk r.2.2 else decide (r.1 = 2 ∨ r.1 = 3) && r.2.2.isEmpty)
/-! ### bytes and back -/
theorem recOk_iff (r : Rc) : recOk r = true ↔ (1 ≤ r.2.1 ∧ r.2.1 ≤ 1000000) ∧ ((r.1 = 1 ∧ opsOk r.2.2 = true) ∨ ((r.1 = 2 ∨ r.1 = 3) ∧ r.2.2 = [])) := by
 unfold recOk
 rw [Bool.and_eq_true, decide_eq_true_iff]
 by_cases h : r.1 = 1
 · rw [if_pos h]
   constructor
   · rintro ⟨h1, h2⟩; exact ⟨h1, .inl ⟨h, h2⟩⟩
   · rintro ⟨h1, ⟨_, h2⟩ | ⟨h2, _⟩⟩
     · exact ⟨h1, h2⟩
     · omega
 · rw [if_neg h, Bool.and_eq_true, decide_eq_true_iff, List.isEmpty_iff]
   constructor
   · rintro ⟨h1, h2, h3⟩; exact ⟨h1, .inr ⟨h2, h3⟩⟩
   · rintro ⟨h1, ⟨h2, _⟩ | h2⟩
     · omega
     · exact ⟨h1, h2.1, h2.2⟩
/-! ### records one behind the other -/
/-! ### what records make -/
abbrev St := List Pr × List Rc × List Int
def locked (held : List Rc) (ops : List Od) : Bool := held.any fun h => h.2.2.any fun o => ops.any fun p => decide (o.2.1 = p.2.1)
def placeTx (tx : Int) : List Rc → Option Nat
 | [] => none
 | r :: l => if r.2.1 = tx then some 0 else (placeTx tx l).map (· + 1)
def opsAt (held : List Rc) (k : Nat) : List Od := match held[k]? with | none => [] | some r => r.2.2
def nextM (s : St) (r : Rc) (k : Nat) : List Pr := if r.1 = 2 then applyAll s.1 (opsAt s.2.1 k) else s.1
def one (s : St) (r : Rc) : Option St :=
 if recOk r = true then
  if r.1 = 1 then
   if decide (r.2.1 ∈ s.2.2) = true ∨ locked s.2.1 r.2.2 = true ∨ meets s.1 r.2.2 = false then none else some (s.1, s.2.1 ++ [r], s.2.2 ++ [r.2.1])
  else match placeTx r.2.1 s.2.1 with
   | none => if r.1 = 3 ∧ r.2.1 ∉ s.2.2 then some (s.1, s.2.1, s.2.2 ++ [r.2.1]) else none
   | some k => if (nextM s r k).length ≤ 60 then some (nextM s r k, s.2.1.take k ++ s.2.1.drop (k + 1), s.2.2) else none
 else none
def replayGo : St → List Rc → Option St
 | s, [] => some s
 | s, r :: l => match one s r with
  | none => none
  | some t => replayGo t l
def replay (l : List Rc) : Option St := replayGo ([], [], []) l
theorem placeTx_some {tx : Int} {l : List Rc} {k : Nat} (h : placeTx tx l = some k) : ∃ hk : k < l.length, l[k].2.1 = tx := by
 induction l generalizing k with
 | nil => cases h
 | cons r l ih =>
  rw [placeTx] at h
  split at h
  · next h1 => cases h; exact ⟨by simp, h1⟩
  · cases hp : placeTx tx l with
    | none => rw [hp] at h; cases h
    | some j =>
     rw [hp] at h
     simp only [Option.map_some, Option.some.injEq] at h
     subst h
     obtain ⟨hj, e⟩ := ih hp
     exact ⟨by simp; omega, by simpa using e⟩
theorem placeTx_none {tx : Int} {l : List Rc} (h : placeTx tx l = none) : ∀ r ∈ l, r.2.1 ≠ tx := by
 induction l with
 | nil => intro r hr; exact absurd hr List.not_mem_nil
 | cons x l ih =>
  rw [placeTx] at h
  split at h
  · cases h
  · next hne =>
    intro r hr
    rcases List.mem_cons.1 hr with e | e
    · subst e; exact hne
    · exact ih (by cases hp : placeTx tx l with | none => rfl | some j => rw [hp] at h; cases h) r e
end recs
namespace recs
open Go Go.RowKit base pairs ords
def smallR (x : Rc) : Prop := (Lit.int .i64 x.1).wf = true ∧ (Lit.int .i64 x.2.1).wf = true ∧ ∀ o ∈ x.2.2, smallO o
/-! ### a slice of orders of the call's own, or nil -/
def OwnV (w : World) (base : Nat) (v : Value) (l : List Od) : Prop := (∀ p ∈ l, smallO p) ∧ w.ownsRow base 126 3 v l.length (ordVals l)
section
variable {w w' : World} {base base' : Nat} {v : Value} {l : List Od} {row : Option Nat}
theorem ownV_nil (w : World) (base : Nat) : OwnV w base (.slice none 0 0) [] := ⟨fun _ h => absurd h List.not_mem_nil, World.ownsRow_nil _ _ _ _⟩
theorem ownV_of {g n cap : Nat} (h : OwnO w base g n cap l) : OwnV w base (.slice (some ⟨g, 0, none⟩) n cap) l := ⟨h.2.1, by rw [h.1]; exact h.2.2⟩
theorem OwnV.shape (h : OwnV w base v l) : (v = .slice none 0 0 ∧ l = []) ∨ ∃ g cap, v = .slice (some ⟨g, 0, none⟩) l.length cap ∧ OwnO w base g l.length cap l := by
 rcases h.2.2 with ⟨rfl, h0⟩ | ⟨g, cap, cur, rfl, _⟩
 · exact .inl ⟨rfl, List.eq_nil_of_length_eq_zero h0⟩
 · exact .inr ⟨g, cap, rfl, rfl, h.1, h.2⟩
theorem OwnV.lt (h : OwnV w base v l) (k : Nat) (hk : v.ownBlock = some k) : base ≤ k ∧ k < w.heap.size := h.2.lt k hk
theorem OwnV.of_block (h : OwnV w base v l) (hk : ∀ k, v.ownBlock = some k → w'.heap[k]? = w.heap[k]?) : OwnV w' base v l := by
 refine ⟨h.1, h.2.1, ?_⟩
 rcases h.2.2 with h' | ⟨g, cap, cur, rfl, h0, hg, r⟩
 · exact .inl h'
 · exact .inr ⟨g, cap, cur, rfl, h0, (hk g rfl).trans hg, r⟩
theorem OwnV.below (h : OwnV w base v l) (hb : Below w.heap.size w w') : OwnV w' base v l := h.of_block fun k hk => hb.block k (h.lt k hk).2
theorem OwnV.grown (h : OwnV w base v l) (hg : w.grownBy w' row) (hne : v.ownBlock = none ∨ v.ownBlock ≠ row) : OwnV w' base v l :=
 h.of_block fun k hk => hg.block k (h.lt k hk).2 (fun e => by
  rcases hne with h1 | h1
  · rw [hk] at h1; cases h1
  · exact h1 (hk.trans e))
theorem OwnV.mono (h : OwnV w base v l) (hb : base' ≤ base) : OwnV w base' v l := by
 refine ⟨h.1, h.2.1, ?_⟩
 rcases h.2.2 with h' | ⟨g, cap, cur, rfl, h0, r⟩
 · exact .inl h'
 · exact .inr ⟨g, cap, cur, rfl, by omega, r⟩
theorem OwnV.sl (h : OwnV w base v l) : ∃ a cap, v = .slice a l.length cap ∧ SlO w a l.length l ∧ l.length ≤ cap := by
 rcases h.shape with ⟨rfl, rfl⟩ | ⟨g, cap, rfl, hO⟩
 · exact ⟨none, 0, rfl, slo_nil _ _, Nat.le_refl _⟩
 · exact ⟨_, cap, rfl, hO.sl, hO.cases.1⟩
theorem OwnV.one (h : OwnV w base v l) : v.oneCell' = true := by
 rcases h.shape with ⟨rfl, _⟩ | ⟨g, cap, rfl, _⟩ <;> rfl
end
/-! ### records that are read -/
def RcAt (w : World) (b o : Nat) (x : Rc) : Prop :=
 w.cell? ⟨b, o, none⟩ = some (.int .i64 x.1) ∧ w.cell? ⟨b, o + 1, none⟩ = some (.int .i64 x.2.1) ∧ ∃ pa pl pc, w.cell? ⟨b, o + 2, none⟩ = some (.slice pa pl pc) ∧ SlO w pa pl x.2.2 ∧ pl ≤ pc
theorem RcAt.below {w w' : World} {b o : Nat} {x : Rc} (h : RcAt w b o x) (hb : Below w.heap.size w w') : RcAt w' b o x := by
 have keep : ∀ o v, w.cell? ⟨b, o, none⟩ = some v → w'.cell? ⟨b, o, none⟩ = some v := fun o v hv => (hb.cell (p := ⟨b, o, none⟩) (World.block_lt_of_cell? w _ hv)).trans hv
 obtain ⟨h1, h2, pa, pl, pc, h3, h4, h5⟩ := h
 exact ⟨keep _ _ h1, keep _ _ h2, pa, pl, pc, keep _ _ h3, h4.below hb, h5⟩
def SlR (w : World) (a : Option Addr) (len : Nat) (l : List Rc) : Prop :=
 l.length = len ∧ len ≤ maxLen ∧ (∀ x ∈ l, smallR x) ∧ (0 < len → ∃ b off, a = some ⟨b, off, none⟩ ∧ ∀ i (h : i < l.length), RcAt w b (off + i * 3) l[i])
theorem slr_nil (w : World) (a : Option Addr) : SlR w a 0 [] := ⟨rfl, Nat.zero_le _, (fun _ h => absurd h List.not_mem_nil), fun h => absurd h (by omega)⟩
theorem SlR.below {w w' : World} {a : Option Addr} {len : Nat} {l : List Rc} (h : SlR w a len l) (hb : Below w.heap.size w w') : SlR w' a len l := by
 obtain ⟨h1, h2, h3, h4⟩ := h
 refine ⟨h1, h2, h3, fun h0 => ?_⟩
 obtain ⟨b, off, e, hc⟩ := h4 h0
 exact ⟨b, off, e, fun i hi => (hc i hi).below hb⟩
theorem SlR.at {w : World} {b off len : Nat} {l : List Rc} (h : SlR w (some ⟨b, off, none⟩) len l) (i : Nat) (hi : i < l.length) : RcAt w b (off + i * 3) l[i] := by
 obtain ⟨b', off', e, hc⟩ := h.2.2.2 (by have := h.1; omega)
 simp only [Option.some.injEq, Addr.mk.injEq, and_true] at e
 obtain ⟨rfl, rfl⟩ := e
 exact hc i hi
theorem SlR.cut {w : World} {b off len : Nat} {l : List Rc} (h : SlR w (some ⟨b, off, none⟩) len l) (k : Nat) (hk : k ≤ len) : SlR w (some ⟨b, off, none⟩) k (l.take k) := by
 have hat := h.at
 refine ⟨by have := h.1; simp; omega, by have := h.2.1; omega, fun x hx => h.2.2.1 x (List.mem_of_mem_take hx), fun _ => ⟨b, off, rfl, fun i hi => ?_⟩⟩
 have hi' : i < l.length := by simp at hi; omega
 rw [List.getElem_take]
 exact hat i hi'
/-! ### rows of records that a call made: the orders of each lie in a row of their own -/
def recVals (l : List Rc) (hs : List Value) : List Value := (l.zip hs).flatMap fun q => [.int .i64 q.1.1, .int .i64 q.1.2.1, q.2]
theorem recVals_cons (x : Rc) (l : List Rc) (y : Value) (hs : List Value) : recVals (x :: l) (y :: hs) = .int .i64 x.1 :: .int .i64 x.2.1 :: y :: recVals l hs := rfl
theorem recVals_length (l : List Rc) (hs : List Value) (h : hs.length = l.length) : (recVals l hs).length = l.length * 3 := by
 induction l generalizing hs with
 | nil => rfl
 | cons x l ih =>
  cases hs with
  | nil => simp at h
  | cons y hs => simp at h; have := ih hs h; rw [recVals_cons]; simp [this]; omega
theorem recVals_get (l : List Rc) (hs : List Value) (h : hs.length = l.length) (i : Nat) (hi : i < l.length) :
 (recVals l hs)[i * 3]? = some (.int .i64 l[i].1) ∧ (recVals l hs)[i * 3 + 1]? = some (.int .i64 l[i].2.1) ∧ (recVals l hs)[i * 3 + 2]? = some (hs[i]'(by omega)) := by
 induction l generalizing hs i with
 | nil => simp at hi
 | cons x l ih =>
  cases hs with
  | nil => simp at h
  | cons y hs =>
   rw [recVals_cons]
   cases i with
   | zero => exact ⟨rfl, rfl, rfl⟩
   | succ i =>
    have := ih hs (by simpa using h) i (by simpa using hi)
    rw [show (i + 1) * 3 = i * 3 + 1 + 1 + 1 by omega]
    simpa using this
theorem recVals_append (l l2 : List Rc) (hs hs2 : List Value) (h : hs.length = l.length) : recVals (l ++ l2) (hs ++ hs2) = recVals l hs ++ recVals l2 hs2 := by
 unfold recVals
 rw [List.zip_append h.symm, List.flatMap_append]
theorem recVals_oneCell (l : List Rc) (hs : List Value) (h : ∀ y ∈ hs, y.oneCell' = true) : ∀ v ∈ recVals l hs, v.oneCell' = true := by
 intro v hv
 obtain ⟨q, hq, hv⟩ := List.mem_flatMap.1 hv
 simp at hv
 rcases hv with rfl | rfl | rfl
 · rfl
 · rfl
 · exact h _ (List.of_mem_zip hq).2
structure OwnR (w : World) (base : Nat) (v : Value) (l : List Rc) (hs : List Value) : Prop where
 len : hs.length = l.length
 sm : ∀ x ∈ l, smallR x
 row : w.ownsRow base 133 3 v l.length (recVals l hs)
 ops : ∀ i (h : i < l.length), OwnV w base (hs[i]'(by omega)) l[i].2.2
 apart : hs.Pairwise fun a b => a.ownBlock = none ∨ a.ownBlock ≠ b.ownBlock
 out : ∀ k, v.ownBlock = some k → ∀ y ∈ hs, y.ownBlock ≠ some k
section
variable {w w' : World} {base base' g n cap : Nat} {v : Value} {l : List Rc} {hs : List Value}
theorem ownR_made (w : World) (base : Nat) (hb : base ≤ w.heap.size) : OwnR (w.alloc (.cells #[] 133)) base (.slice (some ⟨w.heap.size, 0, none⟩) 0 0) [] [] :=
 ⟨rfl, (fun _ h => absurd h List.not_mem_nil), World.ownsRow_made w #[] 0 hb (Nat.zero_le _) rfl, fun i hi => absurd hi (by simp), List.Pairwise.nil, fun k _ y hy => absurd hy List.not_mem_nil⟩
def BlkR (v : Value) (hs : List Value) (k : Nat) : Prop := v.ownBlock = some k ∨ ∃ y ∈ hs, y.ownBlock = some k
theorem rowR_of_block {e : TypeId} {size n : Nat} {xs : List Value} (h : w.ownsRow base e size v n xs) (hk : ∀ k, v.ownBlock = some k → w'.heap[k]? = w.heap[k]?) : w'.ownsRow base e size v n xs := by
 refine ⟨h.1, ?_⟩
 rcases h.2 with h' | ⟨g, cap, cur, rfl, h0, hg, r⟩
 · exact .inl h'
 · exact .inr ⟨g, cap, cur, rfl, h0, (hk g rfl).trans hg, r⟩
theorem OwnR.of_blocks (h : OwnR w base v l hs) (hk : ∀ k, BlkR v hs k → w'.heap[k]? = w.heap[k]?) : OwnR w' base v l hs :=
 ⟨h.len, h.sm, rowR_of_block h.row (fun k e => hk k (.inl e)), fun i hi => (h.ops i hi).of_block (fun k e => hk k (.inr ⟨hs[i]'(by have := h.len; omega), List.getElem_mem _, e⟩)), h.apart, h.out⟩
theorem OwnR.lt (h : OwnR w base v l hs) (k : Nat) (hk : BlkR v hs k) : base ≤ k ∧ k < w.heap.size := by
 rcases hk with e | ⟨y, hy, e⟩
 · exact h.row.lt k e
 · obtain ⟨i, hi, rfl⟩ := List.getElem_of_mem hy
   exact (h.ops i (by have := h.len; omega)).lt k e
theorem OwnR.below (h : OwnR w base v l hs) (hb : Below w.heap.size w w') : OwnR w' base v l hs := h.of_blocks fun k hk => hb.block k (h.lt k hk).2
theorem OwnR.grown (h : OwnR w base v l hs) {k : Nat} (hg : w.grownBy w' (some k)) (hne : ¬ BlkR v hs k) : OwnR w' base v l hs :=
 h.of_blocks (fun j hj => hg.block j (h.lt j hj).2 (fun e => by cases e; exact hne hj))
theorem OwnR.within (h : OwnR w base v l hs) {B : Nat} (hb : Below B w w') (hB : ∀ k, BlkR v hs k → k < B) : OwnR w' base v l hs :=
 h.of_blocks (fun j hj => hb.block j (hB j hj))
theorem OwnR.mono (h : OwnR w base v l hs) (hb : base' ≤ base) : OwnR w base' v l hs := by
 refine ⟨h.len, h.sm, ⟨h.row.1, ?_⟩, fun i hi => (h.ops i hi).mono hb, h.apart, h.out⟩
 rcases h.row.2 with h' | ⟨g, cap, cur, rfl, h0, r⟩
 · exact .inl h'
 · exact .inr ⟨g, cap, cur, rfl, by omega, r⟩
theorem OwnR.shape (h : OwnR w base v l hs) : (v = .slice none 0 0 ∧ l = [] ∧ hs = []) ∨ ∃ g cap, v = .slice (some ⟨g, 0, none⟩) l.length cap ∧ l.length ≤ cap ∧ cap ≤ maxLen := by
 rcases h.row.2 with ⟨rfl, h0⟩ | ⟨g, cap, cur, rfl, _, _, h1, h2, _⟩
 · have : l = [] := List.eq_nil_of_length_eq_zero h0
   subst this
   exact .inl ⟨rfl, rfl, List.eq_nil_of_length_eq_zero (by simpa using h.len)⟩
 · exact .inr ⟨g, cap, rfl, h1, h2⟩
theorem OwnR.nlen {a : Option Addr} (h : OwnR w base (.slice a n cap) l hs) : n = l.length := by
 rcases h.shape with ⟨e, rfl, _⟩ | ⟨g', c', e, _⟩
 · cases e; rfl
 · cases e; rfl
theorem OwnR.room {a : Option Addr} (h : OwnR w base (.slice a n cap) l hs) : n ≤ cap ∧ cap ≤ maxLen := by
 rcases h.shape with ⟨e, rfl, _⟩ | ⟨g', c', e, h1, h2⟩
 · cases e; exact ⟨Nat.le_refl _, Nat.zero_le _⟩
 · cases e; exact ⟨h1, h2⟩
theorem OwnR.at (h : OwnR w base (.slice (some ⟨g, 0, none⟩) n cap) l hs) (i : Nat) (hi : i < l.length) :
 w.cell? ⟨g, i * 3, none⟩ = some (.int .i64 l[i].1) ∧ w.cell? ⟨g, i * 3 + 1, none⟩ = some (.int .i64 l[i].2.1) ∧ w.cell? ⟨g, i * 3 + 2, none⟩ = some (hs[i]'(by have := h.len; omega)) := by
 obtain rfl := h.nlen
 obtain ⟨h1, h2, h3⟩ := recVals_get l hs h.len i hi
 have key : ∀ j u, (recVals l hs)[j]? = some u → w.cell? ⟨g, j, none⟩ = some u := fun j u hu => by
  have := h.row.cells (g := g) rfl j u hu
  rw [Addr.add_lit, Nat.zero_add] at this
  exact this
 exact ⟨key _ _ h1, key _ _ h2, key _ _ h3⟩
theorem OwnR.frozen (h : OwnR w base (.slice (some ⟨g, 0, none⟩) n cap) l hs) (j : Nat) : w.frozen? ⟨g, j, none⟩ = false := by
 obtain rfl := h.nlen
 exact h.row.frozenAt j
theorem OwnR.sl {a : Option Addr} (h : OwnR w base (.slice a n cap) l hs) : SlR w a n l := by
 rcases h.shape with ⟨e, rfl, _⟩ | ⟨g, c, e, h1, h2⟩
 · cases e; exact slr_nil _ _
 · cases e
   refine ⟨rfl, by omega, h.sm, fun _ => ⟨g, 0, rfl, fun i hi => ?_⟩⟩
   obtain ⟨c1, c2, c3⟩ := h.at i hi
   rw [Nat.zero_add]
   obtain ⟨a, cp, e, hS, hc⟩ := (h.ops i hi).sl
   rw [e] at c3
   exact ⟨c1, c2, _, _, _, c3, hS, hc⟩
theorem OwnR.one (h : OwnR w base v l hs) : ∀ y ∈ hs, y.oneCell' = true := by
 intro y hy
 obtain ⟨i, hi, rfl⟩ := List.getElem_of_mem hy
 exact (h.ops i (by have := h.len; omega)).one
/-! ### all blocks but those of a slice of records are as they were -/
/-! ### stores -/
theorem recVals_set0 (l : List Rc) (hs : List Value) (h : hs.length = l.length) (i : Nat) (hi : i < l.length) (z : Int) : (recVals l hs).set (i * 3) (.int .i64 z) = recVals (l.set i (z, l[i].2)) hs := by
 induction l generalizing hs i with
 | nil => simp at hi
 | cons x l ih =>
  cases hs with
  | nil => simp at h
  | cons y hs =>
   cases i with
   | zero => rfl
   | succ i =>
    rw [recVals_cons, show (i + 1) * 3 = i * 3 + 1 + 1 + 1 by omega]
    simp only [List.set_cons_succ, List.getElem_cons_succ, recVals_cons]
    rw [ih hs (by simpa using h) i (by simpa using hi)]
theorem mem_set_smallR {i : Nat} {x : Rc} (h : ∀ y ∈ l, smallR y) (hx : smallR x) : ∀ y ∈ l.set i x, smallR y := by
 intro y hy
 rcases List.mem_or_eq_of_mem_set hy with h1 | h1
 · exact h y h1
 · subst h1; exact hx
theorem ops_set (h : OwnR w base v l hs) (i : Nat) (hi : i < l.length) (a b : Int) : ∀ j (hj : j < (l.set i (a, b, l[i].2.2)).length), OwnV w base (hs[j]'(by have := h.len; simp at hj; omega)) (l.set i (a, b, l[i].2.2))[j].2.2 := by
 intro j hj
 have hjl : j < l.length := by simpa using hj
 have := h.ops j hjl
 by_cases e : i = j
 · subst e; rw [List.getElem_set_self]; exact this
 · rw [List.getElem_set_ne e]; exact this
theorem OwnR.setKind (h : OwnR w base (.slice (some ⟨g, 0, none⟩) n cap) l hs) (i : Nat) (hi : i < l.length) (z : Int) (hz : (Lit.int .i64 z).wf = true) :
 OwnR (w.setCell ⟨g, i * 3, none⟩ (.int .i64 z)) base (.slice (some ⟨g, 0, none⟩) n cap) (l.set i (z, l[i].2)) hs ∧ w.grownBy (w.setCell ⟨g, i * 3, none⟩ (.int .i64 z)) (some g) := by
 obtain rfl := h.nlen
 have hs1 := h.row.stored (i * 3) (.int .i64 z)
 rw [recVals_set0 l hs h.len i hi z] at hs1
 have hsm := h.sm l[i] (List.getElem_mem hi)
 refine ⟨⟨by simpa using h.len, mem_set_smallR h.sm ⟨hz, hsm.2⟩, by simpa using hs1.1, fun j hj => ?_, h.apart, h.out⟩, hs1.2⟩
 refine (ops_set h i hi z l[i].2.1 j hj).grown hs1.2 (.inr (fun e => ?_))
 exact h.out g rfl _ (List.getElem_mem _) e
theorem recRow_ne {e1 e2 : TypeId} {s1 s2 n1 n2 : Nat} {v1 v2 : Value} {x1 x2 : List Value} {k b1 b2 : Nat} (h1 : w.ownsRow b1 e1 s1 v1 n1 x1) (h2 : w.ownsRow b2 e2 s2 v2 n2 x2) (hk1 : v1.ownBlock = some k) (hk2 : v2.ownBlock = some k) (hne : e1 ≠ e2) : False := by
 rcases h1.2 with ⟨rfl, _⟩ | ⟨g, c, cur, rfl, _, hg, _⟩
 · cases hk1
 rcases h2.2 with ⟨rfl, _⟩ | ⟨g2, c2, cur2, rfl, _, hg2, _⟩
 · cases hk2
 cases hk1
 simp only [Value.ownBlock, Option.some.injEq] at hk2
 rw [hk2, hg] at hg2
 injection hg2 with hg2
 injection hg2 with _ he
 exact hne he
theorem OwnR.snoc {w7 : World} {x : Rc} {y v7 : Value} (h : OwnR w base v l hs) (hP : OwnV w base y x.2.2) (hx : smallR x) (hy : ∀ k, y.ownBlock = some k → ¬ BlkR v hs k)
 (hown : w7.ownsRow base 133 3 v7 (l.length + 1) (recVals l hs ++ [.int .i64 x.1, .int .i64 x.2.1, y])) (hgrow : w.grownBy w7 v.ownBlock) : OwnR w7 base v7 (l ++ [x]) (hs ++ [y]) := by
 have hlen := h.len
 have hps : ∀ i (hi : i < (l ++ [x]).length), OwnV w7 base ((hs ++ [y])[i]'(by simp at hi ⊢; omega)) (l ++ [x])[i].2.2 := by
  intro i hi
  by_cases e : i < l.length
  · rw [List.getElem_append_left e]
    simp only [List.getElem_append_left (show i < hs.length by omega)]
    refine (h.ops i e).grown hgrow ?_
    by_cases hv : v.ownBlock = none
    · by_cases h1 : (hs[i]'(by omega)).ownBlock = none
      · exact .inl h1
      · exact .inr (by rw [hv]; exact h1)
    · obtain ⟨k, hk⟩ := Option.ne_none_iff_exists'.1 hv
      exact .inr (by rw [hk]; exact h.out k hk _ (List.getElem_mem _))
  · have : i = l.length := by simp at hi; omega
    subst this
    rw [List.getElem_append_right (Nat.le_refl _)]
    simp only [List.getElem_append_right (show hs.length ≤ l.length by omega)]
    simp only [hlen, Nat.sub_self, List.getElem_cons_zero]
    refine hP.grown hgrow ?_
    by_cases hv : y.ownBlock = none
    · exact .inl hv
    · obtain ⟨k, hk⟩ := Option.ne_none_iff_exists'.1 hv
      exact .inr (by rw [hk]; exact fun e2 => hy k hk (.inl e2.symm))
 refine ⟨by simp [hlen], fun z hz => ?_, ?_, hps, ?_, fun k hk z hz e => ?_⟩
 · rcases List.mem_append.1 hz with h1 | h1
   · exact h.sm z h1
   · rw [List.mem_singleton.1 h1]; exact hx
 · rw [recVals_append l [x] hs [y] hlen, List.length_append]; exact hown
 · rw [List.pairwise_append]
   refine ⟨h.apart, List.pairwise_singleton _ _, fun a ha z hz => ?_⟩
   rw [List.mem_singleton.1 hz]
   by_cases h1 : a.ownBlock = none
   · exact .inl h1
   · right
     intro e
     obtain ⟨k, hk⟩ := Option.ne_none_iff_exists'.1 h1
     exact hy k (by rw [← e, hk]) (.inr ⟨a, ha, hk⟩)
 · obtain ⟨i, hi, rfl⟩ := List.getElem_of_mem hz
   have hS := hps i (by simp at hi ⊢; omega)
   exact recRow_ne hown hS.2 hk e (by decide)
end
end recs
namespace recs
open Go Go.RowKit base pairs ords
set_option maxRecDepth 100000 in
set_option maxHeartbeats 1000000 in
theorem spec_opsNil (a : Option Addr) (cap : Nat) (w : World) :
 Calls Tryz.prog 47 #[.slice a 0 cap] w fun e w' => e = .returned (.bool false) ∧ w' = w := by
 go_enter Tryz.func47, Tryz.ntmps47
 go_wp2_with fail
 refine wp_loop_rounds 1 ?_
 rw [rounds_succ]
 go_wp2_with fail
 refine (s_inZ 0 1 8 _).mono ?_
 rintro e w9 ⟨rfl, rfl⟩
 go_wp2_with fail
 go_ret
 exact ⟨ret_bool (by decide), rfl⟩
theorem spec_opsOkA (a : Option Addr) (len cap : Nat) (l : List Od) (w : World) (h : SlO w a len l) (hks : ∀ p ∈ l, p.2.1.size ≤ 1099511627776) :
 Calls Tryz.prog 47 #[.slice a len cap] w fun e w' => e = .returned (.bool (opsOk l)) ∧ Below w.heap.size w w' := by
 by_cases h0 : len = 0
 · subst h0
   obtain rfl : l = [] := List.eq_nil_of_length_eq_zero h.1
   refine (spec_opsNil a cap w).mono ?_
   rintro e w' ⟨rfl, rfl⟩
   exact ⟨rfl, Below.refl _ _⟩
 · obtain ⟨b, off, ha, _⟩ := h.2.2.2 (by omega)
   subst ha
   exact spec_opsOk b off len cap l w h hks
def BoxR (X : Nat) (kind tx : Int) (v : Value) (w : World) : Prop := w.heap[X]? = some (.cells #[.int .i64 kind, .int .i64 tx, v] 133 (0, 0))
theorem boxR_new (w : World) (kind tx : Int) (v : Value) : BoxR w.heap.size kind tx v (w.alloc (.cells #[.int .i64 kind, .int .i64 tx, v] 133)) := heap_alloc_new w _
section
variable {X : Nat} {kind tx : Int} {v : Value} {w w' : World}
theorem BoxR.cells (h : BoxR X kind tx v w) : w.cell? ⟨X, 0, none⟩ = some (.int .i64 kind) ∧ w.cell? ⟨X, 1, none⟩ = some (.int .i64 tx) ∧ w.cell? ⟨X, 2, none⟩ = some v := by
 unfold BoxR at h
 simp [World.cell?, h]
theorem BoxR.lt (h : BoxR X kind tx v w) : X < w.heap.size := (Array.getElem?_eq_some_iff.1 h).1
theorem BoxR.below (h : BoxR X kind tx v w) (hb : Below w.heap.size w w') : BoxR X kind tx v w' := by
 have h' := h.lt
 unfold BoxR at h ⊢
 rw [hb.block X h', h]
theorem BoxR.grown {row : Option Nat} (h : BoxR X kind tx v w) (hg : w.grownBy w' row) (hne : some X ≠ row) : BoxR X kind tx v w' := by
 have h' := h.lt
 unfold BoxR at h ⊢
 rw [hg.block X h' hne, h]
end
set_option maxRecDepth 100000 in
set_option maxHeartbeats 2000000 in
theorem spec_recOk (kind tx : Int) (a : Option Addr) (len cap : Nat) (l : List Od) (w : World) (h : SlO w a len l) (hks : ∀ p ∈ l, p.2.1.size ≤ 1099511627776) :
 Calls Tryz.prog 124 #[.agg #[.int .i64 kind, .int .i64 tx, .slice a len cap]] w fun e w' => e = .returned (.bool (recOk (kind, tx, l))) ∧ Below w.heap.size w w' := by
 have hba : Below w.heap.size w (w.alloc (.cells #[.int .i64 kind, .int .i64 tx, .slice a len cap] 133)) := (Below.refl _ _).alloc (Nat.le_refl _) _
 have hin := s_inZ tx 1 1000000 (w.alloc (.cells #[.int .i64 kind, .int .i64 tx, .slice a len cap] 133))
 have hl := h.1
 have hm := h.2.1
 unfold maxLen at hm
 by_cases ht : 1 ≤ tx ∧ tx ≤ 1000000
 · rw [decide_eq_true ht] at hin
   have HI := Hid.mk' hin
   have HR : Hid (recOk (kind, tx, l) = if kind = 1 then opsOk l else decide (kind = 2 ∨ kind = 3) && l.isEmpty) := by show _ = _; unfold recOk; rw [decide_eq_true ht]; simp
   clear hin ht
   by_cases h1 : kind = 1
   · subst h1
     have HO := Hid.mk' (spec_opsOkA a len cap l _ (h.below hba) hks)
     rw [if_pos rfl] at HR
     generalize opsOk l = K at *
     go_enter Tryz.func124, Tryz.ntmps124
     go_wp2_with fail
     refine HI.out.mono ?_
     rintro e w1 ⟨rfl, hw1⟩
     subst hw1
     go_wp2_with fail
     refine HO.out.mono ?_
     rintro e w1 ⟨rfl, hb1⟩
     go_wp2_with fail
     go_ret
     exact ⟨ret_bool HR.out.symm, hba.trans (hb1.mono hba.size)⟩
   · rw [if_neg h1] at HR
     have hk1 : (kind == 1) = false := beq_eq_false_iff_ne.2 h1
     by_cases h23 : kind = 2 ∨ kind = 3
     · rw [decide_eq_true h23, Bool.true_and] at HR
       by_cases h0 : len = 0
       · have HE : Hid (recOk (kind, tx, l) = true) := by show _ = _; rw [HR.out, List.isEmpty_iff]; exact List.eq_nil_of_length_eq_zero (by omega)
         subst h0
         rcases h23 with rfl | rfl
         all_goals
          clear HR h1 hk1
          go_enter Tryz.func124, Tryz.ntmps124
          go_wp2_with fail
          refine HI.out.mono ?_
          rintro e w1 ⟨rfl, hw1⟩
          subst hw1
          go_wp2_with fail
          go_ret
          exact ⟨ret_bool HE.out.symm, hba⟩
       · have HE : Hid (recOk (kind, tx, l) = false) := by
          show _ = _
          rw [HR.out]
          cases l with
          | nil => simp at hl; omega
          | cons x l => rfl
         have hl0 : ((len : Int) == 0) = false := by simp; omega
         rcases h23 with rfl | rfl
         all_goals
          clear HR h1 hk1
          go_enter Tryz.func124, Tryz.ntmps124
          go_wp2_with fail
          refine HI.out.mono ?_
          rintro e w1 ⟨rfl, hw1⟩
          subst hw1
          go_wp2_with fail
          go_ret
          exact ⟨ret_bool HE.out.symm, hba⟩
     · rw [decide_eq_false h23, Bool.false_and] at HR
       have hk2 : (kind == 2) = false := beq_eq_false_iff_ne.2 (fun e => h23 (.inl e))
       have hk3 : (kind == 3) = false := beq_eq_false_iff_ne.2 (fun e => h23 (.inr e))
       clear h1 h23
       go_enter Tryz.func124, Tryz.ntmps124
       go_wp2_with fail
       refine HI.out.mono ?_
       rintro e w1 ⟨rfl, hw1⟩
       subst hw1
       go_wp2_with fail
       go_ret
       exact ⟨ret_bool HR.out.symm, hba⟩
 · rw [decide_eq_false ht] at hin
   have HI := Hid.mk' hin
   have HR : Hid (recOk (kind, tx, l) = false) := by show _ = _; unfold recOk; rw [decide_eq_false ht]; rfl
   clear hin ht
   go_enter Tryz.func124, Tryz.ntmps124
   go_wp2_with fail
   refine HI.out.mono ?_
   rintro e w1 ⟨rfl, hw1⟩
   subst hw1
   go_wp2_with fail
   go_ret
   exact ⟨ret_bool HR.out.symm, hba⟩
end recs
namespace recs
open Go Go.RowKit base pairs ords
theorem placeTx_hit {tx : Int} : ∀ {l : List Rc} {k : Nat} (h : k < l.length), (∀ r ∈ l.take k, r.2.1 ≠ tx) → l[k].2.1 = tx → placeTx tx l = some k
 | r :: l, 0, _, _, e => by rw [placeTx, if_pos (by simpa using e)]
 | r :: l, k + 1, h, hn, e => by
  rw [placeTx, if_neg (hn r (by simp)), placeTx_hit (k := k) (by simpa using h) (fun x hx => hn x (by simp [hx])) (by simpa using e)]
  rfl
theorem placeTx_miss {tx : Int} : ∀ {l : List Rc}, (∀ r ∈ l, r.2.1 ≠ tx) → placeTx tx l = none
 | [], _ => rfl
 | r :: l, hn => by rw [placeTx, if_neg (hn r (by simp)), placeTx_miss (fun x hx => hn x (by simp [hx]))]; rfl
def atRet (r : Option Nat) : Int := match r with | none => -1 | some k => (k : Int)
set_option maxRecDepth 100000 in
set_option maxHeartbeats 2000000 in
theorem spec_l8At (a : Option Addr) (len cap : Nat) (l : List Rc) (tx : Int) (w : World) (h : SlR w a len l) :
 Calls Tryz.prog 123 #[.slice a len cap, .int .i64 tx] w fun e w' => e = .returned (.int .i64 (atRet (placeTx tx l))) ∧ w' = w := by
 obtain ⟨hl, hm, hsm, hc⟩ := id h
 subst hl
 unfold maxLen at hm
 generalize hR : placeTx tx l = R
 have HR := Hid.mk' hR
 clear hR
 go_enter Tryz.func123, Tryz.ntmps123
 go_wp2_with fail
 go_loopw [5] (fun i wr => ∃ k : Nat, k ≤ l.length ∧ i = .int .i64 (k : Int) ∧ (∀ r ∈ l.take k, r.2.1 ≠ tx) ∧ wr = w) (fun i _ => l.length - (intOf i).toNat)
 case atStart => exact ⟨0, Nat.zero_le _, rfl, by simp, rfl⟩
 case round =>
  obtain ⟨k, hk, rfl, hno, rfl⟩ := hrel
  by_cases hlt : k < l.length
  · obtain ⟨b, off, ha, _⟩ := hc (by omega)
    subst ha
    obtain ⟨c0, c1, pa, pl, pc, c2, _, _⟩ := h.at k hlt
    have hki : (k : Int) < (l.length : Int) := by omega
    by_cases e : l[k].2.1 = tx
    · have HP : Hid (R = some k) := by show _ = _; rw [← HR.out]; exact placeTx_hit hlt hno e
      have eb : (l[k].2.1 == tx) = true := by simpa using e
      clear hno HR e
      generalize l[k] = p at *
      go_wp2_with fail
      go_ret
      rw [HP.out]
      exact ⟨rfl, rfl⟩
    · have eb : (l[k].2.1 == tx) = false := beq_eq_false_iff_ne.2 e
      have HN : Hid (∀ r ∈ l.take (k + 1), r.2.1 ≠ tx) := by
       intro r hr
       rw [List.take_succ_eq_append_getElem hlt] at hr
       rcases List.mem_append.1 hr with e2 | e2
       · exact hno r e2
       · rw [List.mem_singleton.1 e2]; exact e
      clear hno e
      generalize l[k] = p at *
      go_wp2_with fail
      go_roundw
      case rel => exact ⟨k + 1, by omega, by go_num, HN.out, by trivial⟩
      case measure => simp [intOf]; omega
  · have HP : Hid (R = none) := by
     show _ = _
     rw [← HR.out]
     rw [List.take_of_length_le (by omega)] at hno
     exact placeTx_miss hno
    go_wp2_with fail
    go_ret
    rw [HP.out]
    exact ⟨rfl, rfl⟩
theorem append_nothing (w : World) (g c : Nat) (ty : TypeId) : (Builtin.append_ #[98, 98] ty #[.slice (some ⟨g, 0, none⟩) 0 0, .slice none 0 c]).run Tryz.prog w = .ok (.slice (some ⟨g, 0, none⟩) 0 0) w := by kernel_rfl
set_option maxRecDepth 100000 in
set_option maxHeartbeats 2000000 in
theorem spec_copyOps (a : Option Addr) (len cap : Nat) (l : List Od) (w : World) (h : SlO w a len l) (hsz : len ≤ 1099511627776) :
 Calls Tryz.prog 151 #[.slice a len cap] w fun e w' => ∃ g' cp', e = .returned (.slice (some ⟨g', 0, none⟩) len cp') ∧ OwnO w' w.heap.size g' len cp' l ∧ Below w.heap.size w w' := by
 obtain ⟨i0, hi, hz0, hz1, hz2⟩ := info_parts infoO
 have hl := h.1
 have hsm := h.2.2.1
 have hba : Below w.heap.size w (w.alloc (.cells #[] 126)) := (Below.refl _ _).alloc (Nat.le_refl _) _
 have hOm := ownO_made w w.heap.size (Nat.le_refl _)
 cases a with
 | none =>
  have h0 : len = 0 := by
   rcases Nat.eq_zero_or_pos len with e | e
   · exact e
   · obtain ⟨b, off, ha, _⟩ := h.2.2.2 e; cases ha
  subst h0
  have e1 : l = [] := List.eq_nil_of_length_eq_zero hl
  subst e1
  have han := append_nothing
  go_enter Tryz.func151, Tryz.ntmps151
  go_wp2_with fail
  go_ret
  exact ⟨_, _, rfl, hOm, hba⟩
 | some ad =>
  have hcell : Hid (∀ j u, (ordVals l)[j]? = some u → (w.alloc (.cells #[] 126)).cell? (ad.add j) = some u) := by
   rcases Nat.eq_zero_or_pos len with e | e
   · intro j u hj
     have e1 : l = [] := List.eq_nil_of_length_eq_zero (by omega)
     rw [e1] at hj; simp [ordVals] at hj
   · obtain ⟨b, off, ha, _⟩ := h.2.2.2 e
     cases ha
     exact cells_ords (h.below hba).cells
  have hc3 : 0 + len ≤ maxLen := by unfold maxLen; omega
  have hc4 : (0 + len) * 40 ≤ 140737488355328 := by omega
  have hl2 : (ordVals l).length = len * 3 := by rw [ordVals_length]; omega
  go_enter Tryz.func151, Tryz.ntmps151
  go_wp2_with (at_builtin; refine wpList_append_own _ rfl (.tmp 3) (.tmp 4) 98 rfl w.heap.size 126 i0 (.agg #[.int .i64 0, .string ⟨#[]⟩, .string ⟨#[]⟩]) 3 40 Tryz.underlying98 hi hz0 hz1 hz2 rfl (by decide) _ _ _ rfl hOm.2.2 ad len cap (ordVals l) rfl hl2 hcell.out (ordVals_oneCell l) hc3 hc4 hba.size ?_)
  intro v1 w1 hown hgrow hnn
  have hnn' : ¬ v1 = .slice none 0 0 := by simpa using hnn
  obtain ⟨g1, c1, hv1, hO1⟩ := ownO_val hl hsm hnn' (by have h9 := hown; rwa [show ordVals [] ++ ordVals l = ordVals l from rfl] at h9)
  subst hv1
  have hgr : (w.alloc (.cells #[] 126)).grownBy w1 (some w.heap.size) := hgrow
  have hB1 := hba.grown hgr hba.size (fun k e => by cases e; exact Nat.le_refl _)
  clear hown hgrow hnn hnn' hgr
  go_wp2_with fail
  go_ret
  exact ⟨g1, c1, rfl, hO1, hB1⟩
set_option maxRecDepth 100000 in
set_option maxHeartbeats 2000000 in
theorem spec_copyRec (kind tx : Int) (a : Option Addr) (len cap : Nat) (l : List Od) (w : World) (h : SlO w a len l) (hsz : len ≤ 1099511627776) :
 Calls Tryz.prog 127 #[.agg #[.int .i64 kind, .int .i64 tx, .slice a len cap]] w fun e w' =>
  ∃ g cp, e = .returned (.agg #[.int .i64 kind, .int .i64 tx, .slice (some ⟨g, 0, none⟩) len cp]) ∧ OwnO w' w.heap.size g len cp l ∧ Below w.heap.size w w' := by
 obtain ⟨W, hW⟩ : ∃ W, W = (w.alloc (.cells #[.int .i64 kind, .int .i64 tx, .slice a len cap] 133)).alloc (.cells #[.int .i64 0, .int .i64 0, .slice none 0 0] 133) := ⟨_, rfl⟩
 have hba : Below w.heap.size w (w.alloc (.cells #[.int .i64 kind, .int .i64 tx, .slice a len cap] 133)) := (Below.refl _ _).alloc (Nat.le_refl _) _
 have hB : Below w.heap.size w W := by rw [hW]; exact hba.alloc hba.size _
 have hT : BoxR w.heap.size kind tx (.slice a len cap) W := by rw [hW]; exact (boxR_new w _ _ _).below ((Below.refl _ _).alloc (Nat.le_refl _) _)
 have hR : BoxR (w.heap.size + 1) 0 0 (.slice none 0 0) W := by
  rw [hW]
  have := boxR_new (w.alloc (.cells #[.int .i64 kind, .int .i64 tx, .slice a len cap] 133)) 0 0 (.slice none 0 0)
  rwa [show (w.alloc (.cells #[.int .i64 kind, .int .i64 tx, .slice a len cap] 133)).heap.size = w.heap.size + 1 by simp] at this
 have HC := Hid.mk' (spec_copyOps a len cap l W (h.below hB) hsz)
 obtain ⟨d0, d1, d2⟩ := hT.cells
 rw [hW] at d0 d1 d2
 have HW := Hid.mk' hW.symm
 clear hW
 go_enter Tryz.func127, Tryz.ntmps127
 go_wp2_with fail
 rw [HW.out]
 refine HC.out.mono ?_
 rintro e w2 ⟨g2, c2, rfl, hO2, hb2⟩
 have hT2 := hT.below hb2
 have hR2 := hR.below hb2
 have hB2 := hB.trans (hb2.mono hB.size)
 have hT0 : w2.heap[w.heap.size]? = some (.cells #[.int .i64 kind, .int .i64 tx, .slice a len cap] 133 (0, 0)) := hT2
 have s0 := set_cur hT0 2 (.slice (some ⟨g2, 0, none⟩) len c2)
 have hT3 : BoxR w.heap.size kind tx (.slice (some ⟨g2, 0, none⟩) len c2) (w2.setCell ⟨w.heap.size, 2, none⟩ (.slice (some ⟨g2, 0, none⟩) len c2)) := s0.1
 have hR3 := hR2.grown s0.2 (by simp)
 have hg2 := hO2.lt
 have hWl := hT.lt
 have hWl2 := hR.lt
 have hO3 := (hO2.mono hB.size).grown s0.2 (by simp; omega)
 have hB3 := hB2.grown s0.2 hB2.size (fun j e => by cases e; exact Nat.le_refl _)
 clear d0 d1 d2
 obtain ⟨d0, d1, d2⟩ := hT2.cells
 have fz2 : w2.frozen? ⟨w.heap.size, 2, none⟩ = false := by simp [World.frozen?, hT0]
 obtain ⟨W3, hW3⟩ : ∃ W3, W3 = w2.setCell ⟨w.heap.size, 2, none⟩ (.slice (some ⟨g2, 0, none⟩) len c2) := ⟨_, rfl⟩
 rw [← hW3] at hT3 hR3 hO3 hB3
 obtain ⟨t0, t1, t2⟩ := hT3.cells
 obtain ⟨r0, r1, r2⟩ := hR3.cells
 have hR0 : W3.heap[w.heap.size + 1]? = some (.cells #[.int .i64 0, .int .i64 0, .slice none 0 0] 133 (0, 0)) := hR3
 have f0 : W3.frozen? ⟨w.heap.size + 1, 0, none⟩ = false := by simp [World.frozen?, hR0]
 have f1 : W3.frozen? ⟨w.heap.size + 1, 1, none⟩ = false := by simp [World.frozen?, hR0]
 have f2 : W3.frozen? ⟨w.heap.size + 1, 2, none⟩ = false := by simp [World.frozen?, hR0]
 have z0 := set_cur hR0 0 (.int .i64 kind)
 have z1 := set_cur z0.1 1 (.int .i64 tx)
 have z2 := set_cur z1.1 2 (.slice (some ⟨g2, 0, none⟩) len c2)
 have zg := grownBy_trans (grownBy_trans z0.2 z1.2) z2.2
 have hz : BoxR (w.heap.size + 1) kind tx (.slice (some ⟨g2, 0, none⟩) len c2) _ := z2.1
 have hzc := hz.cells
 have HBz := Hid.mk' (hB3.grown zg hB3.size (fun j e => by cases e; omega))
 have HOz := Hid.mk' (hO3.grown zg (by simp; omega))
 have HW3 := Hid.mk' hW3.symm
 rw [hW3] at t0 t1 t2 r0 r1 r2 f0 f1 f2
 clear hW3 hT0 hR0 z0 z1 z2 s0
 go_wp2_with fail
 rw [HW3.out]
 refine bodyPost_ret (v := .agg #[.int .i64 kind, .int .i64 tx, .slice (some ⟨g2, 0, none⟩) len c2]) ?_ rfl ⟨_, _, rfl, HOz.out, HBz.out⟩
 simp [results, Tryz.results127, go_sem, hzc.1, hzc.2.1, hzc.2.2]
end recs
namespace recs
open Go Go.RowKit base pairs ords
def NoKey (o : Od) (ops : List Od) : Prop := ∀ p ∈ ops, o.2.1 ≠ p.2.1
def NoKeys (os ops : List Od) : Prop := ∀ o ∈ os, NoKey o ops
theorem locked_false {held : List Rc} {ops : List Od} (h : ∀ r ∈ held, NoKeys r.2.2 ops) : locked held ops = false := by
 rw [← Bool.not_eq_true]
 intro e
 unfold locked at e
 simp only [List.any_eq_true, decide_eq_true_eq] at e
 obtain ⟨r, hr, o, ho, p, hp, e⟩ := e
 exact h r hr o ho p hp e
theorem locked_true {held : List Rc} {ops : List Od} {r : Rc} {o p : Od} (hr : r ∈ held) (ho : o ∈ r.2.2) (hp : p ∈ ops) (e : o.2.1 = p.2.1) : locked held ops = true := by
 unfold locked
 simp only [List.any_eq_true, decide_eq_true_eq]
 exact ⟨r, hr, o, ho, p, hp, e⟩
theorem all_snoc {α : Type} {P : α → Prop} {l : List α} {k : Nat} (h : k < l.length) (h1 : ∀ x ∈ l.take k, P x) (h2 : P l[k]) : ∀ x ∈ l.take (k + 1), P x := by
 intro x hx
 rw [List.take_succ_eq_append_getElem h] at hx
 rcases List.mem_append.1 hx with e | e
 · exact h1 x e
 · rw [List.mem_singleton.1 e]; exact h2
set_option maxRecDepth 100000 in
set_option maxHeartbeats 4000000 in
theorem spec_locked (a : Option Addr) (len cap : Nat) (l : List Rc) (a2 : Option Addr) (len2 cap2 : Nat) (ops : List Od) (w : World) (h : SlR w a len l) (h2 : SlO w a2 len2 ops) :
 Calls Tryz.prog 125 #[.slice a len cap, .slice a2 len2 cap2] w fun e w' => e = .returned (.bool (locked l ops)) ∧ Below w.heap.size w w' := by
 obtain ⟨hl, hm, hsm, hc⟩ := id h
 obtain ⟨hl2, hm2, hsm2, hc2⟩ := id h2
 subst hl hl2
 unfold maxLen at hm hm2
 generalize hR : locked l ops = R
 have HR := Hid.mk' hR
 clear hR
 go_enter Tryz.func125, Tryz.ntmps125
 go_wp2_with fail
 go_loopw [5] (fun i wr => ∃ k : Nat, k ≤ l.length ∧ i = .int .i64 (k : Int) ∧ (∀ r ∈ l.take k, NoKeys r.2.2 ops) ∧ Below w.heap.size w wr) (fun i _ => l.length - (intOf i).toNat)
 case atStart => exact ⟨0, Nat.zero_le _, rfl, by simp, Below.refl _ _⟩
 case round =>
  obtain ⟨k, hk, rfl, hno, hB⟩ := hrel
  by_cases hlt : k < l.length
  · obtain ⟨b, off, ha, _⟩ := hc (by omega)
    subst ha
    have hki : (k : Int) < (l.length : Int) := by omega
    have hat := h.at k hlt
    obtain ⟨_, _, pa, pl, pc, c2', hSo', _⟩ := hat
    have hbl : b < w.heap.size := World.block_lt_of_cell? w _ c2'
    have HC : Hid (∀ wx, Below w.heap.size w wx → wx.cell? ⟨b, off + k * 3 + 2, none⟩ = some (.slice pa pl pc)) := fun wx hx => (hx.cell (p := ⟨b, off + k * 3 + 2, none⟩) hbl).trans c2'
    have HMEM : Hid (l[k] ∈ l) := List.getElem_mem hlt
    have HSN : Hid (NoKeys l[k].2.2 ops → ∀ r ∈ l.take (k + 1), NoKeys r.2.2 ops) := fun hh => all_snoc hlt hno hh
    generalize l[k] = r at *
    obtain ⟨hpl, hpm, hps, hpc⟩ := id hSo'
    subst hpl
    unfold maxLen at hpm
    clear hno c2'
    go_wp2_with fail
    go_loopw [6] (fun i wr => ∃ j : Nat, j ≤ r.2.2.length ∧ i = .int .i64 (j : Int) ∧ NoKeys (r.2.2.take j) ops ∧ Below w.heap.size w wr) (fun i _ => r.2.2.length - (intOf i).toNat)
    case atStart => exact ⟨0, Nat.zero_le _, rfl, by intro o ho; simp at ho, hB⟩
    case round =>
     clear hB
     obtain ⟨j, hj, rfl, hnj, hB⟩ := hrel
     have c2 := HC.out _ hB
     by_cases hlj : j < r.2.2.length
     · obtain ⟨pb, po, hpa, _⟩ := hpc (by omega)
       subst hpa
       have hji : (j : Int) < (r.2.2.length : Int) := by omega
       have hcj := (hSo'.cells j hlj).2.1
       have hpb : pb < w.heap.size := World.block_lt_of_cell? w _ hcj
       have HCJ : Hid (∀ wx, Below w.heap.size w wx → wx.cell? ⟨pb, po + j * 3 + 1, none⟩ = some (.string r.2.2[j].2.1)) := fun wx hx => (hx.cell (p := ⟨pb, po + j * 3 + 1, none⟩) hpb).trans hcj
       have HIN : Hid (∀ p ∈ ops, r.2.2[j].2.1 = p.2.1 → R = true) := fun p hp e => by rw [← HR.out]; exact locked_true HMEM.out (List.getElem_mem hlj) hp e
       have HSJ : Hid (NoKey r.2.2[j] ops → NoKeys (r.2.2.take (j + 1)) ops) := fun hh => all_snoc (P := fun o => NoKey o ops) hlj hnj hh
       generalize r.2.2[j] = o at *
       clear hnj hcj
       go_wp2_with fail
       go_loopw [7] (fun i wr => ∃ q : Nat, q ≤ ops.length ∧ i = .int .i64 (q : Int) ∧ NoKey o (ops.take q) ∧ Below w.heap.size w wr) (fun i _ => ops.length - (intOf i).toNat)
       case atStart => exact ⟨0, Nat.zero_le _, rfl, by intro p hp; simp at hp, hB⟩
       case round =>
        clear hB c2
        obtain ⟨q, hq, rfl, hnq, hB⟩ := hrel
        by_cases hlq : q < ops.length
        · obtain ⟨ob, oo, hoa, _⟩ := hc2 (by omega)
          subst hoa
          have hqi : (q : Int) < (ops.length : Int) := by omega
          have hcq := (h2.cells q hlq).2.1
          have hob : ob < w.heap.size := World.block_lt_of_cell? w _ hcq
          have hbs := hB.size
          have c3 := (hB.cell (p := ⟨ob, oo + q * 3 + 1, none⟩) hob).trans hcq
          have y1 := last.On.cell (B := wr.heap.size) (HC.out _ hB) (by omega)
          have y2 := last.On.cell (B := wr.heap.size) (HCJ.out _ hB) (by omega)
          have y3 := last.On.cell (B := wr.heap.size) c3 (by omega)
          have hinh := last.On.inh wr.heap.size wr
          by_cases e : o.2.1 = ops[q].2.1
          · have HP : Hid (R = true) := HIN.out _ (List.getElem_mem hlq) e
            rw [← e] at y3
            have eb : (o.2.1.toList == o.2.1.toList) = true := by simp
            clear hnq c3 hcq e
            go_wp2_with fail
            refine last.wp_region_on wr.heap.size (by kernel_rfl) (by kernel_rfl) ?_
            repeat (go_big_quiet_step (fail))
            refine wpQuiet_nil ?_
            intro w5 hw5
            obtain ⟨x5, hw5⟩ := hw5
            have hb5 : Below wr.heap.size wr w5 := by rw [hw5]; exact x5.2
            clear hw5 x5 hinh y1 y2 y3
            go_wp2_with fail
            go_ret
            exact ⟨ret_bool HP.out.symm, hB.trans (hb5.mono hB.size)⟩
          · have HN : Hid (NoKey o (ops.take (q + 1))) := all_snoc (P := fun p : Od => o.2.1 ≠ p.2.1) hlq hnq e
            have eb : (o.2.1.toList == ops[q].2.1.toList) = false := beq_eq_false_iff_ne.2 (fun e2 => e (by
             rw [ByteArray.toList_eq, ByteArray.toList_eq] at e2
             exact bytes_ext e2))
            clear hnq c3 hcq e
            generalize ops[q] = p at *
            go_wp2_with fail
            refine last.wp_region_on wr.heap.size (by kernel_rfl) (by kernel_rfl) ?_
            repeat (go_big_quiet_step (fail))
            refine wpQuiet_nil ?_
            intro w5 hw5
            obtain ⟨x5, hw5⟩ := hw5
            have hb5 : Below wr.heap.size wr w5 := by rw [hw5]; exact x5.2
            clear hw5 x5 hinh y1 y2 y3
            go_wp2_with fail
            go_roundw
            case rel => exact ⟨q + 1, by omega, by go_num, HN.out, hB.trans (hb5.mono hB.size)⟩
            case measure => simp [intOf]; omega
        · have hql : ¬ (q : Int) < (ops.length : Int) := by omega
          have HN : Hid (NoKeys (r.2.2.take (j + 1)) ops) := HSJ.out (by rwa [List.take_of_length_le (by omega)] at hnq)
          go_wp2_with fail
          go_roundw
          case rel => exact ⟨j + 1, by omega, by go_num, HN.out, hB⟩
          case measure => simp [intOf]; omega
     · have hjl : ¬ (j : Int) < (r.2.2.length : Int) := by omega
       have HN : Hid (∀ r ∈ l.take (k + 1), NoKeys r.2.2 ops) := HSN.out (by rwa [List.take_of_length_le (by omega)] at hnj)
       go_wp2_with fail
       go_roundw
       case rel => exact ⟨k + 1, by omega, by go_num, HN.out, hB⟩
       case measure => simp [intOf]; omega
  · have HP : Hid (R = false) := by
     show _ = _
     rw [← HR.out]
     rw [List.take_of_length_le (by omega)] at hno
     exact locked_false hno
    go_wp2_with fail
    go_ret
    exact ⟨ret_bool HP.out.symm, hB⟩
end recs
namespace base
open Go.RowKit
def Bts (w : World) (g : Nat) (s : ByteArray) : Prop := g < w.heap.size ∧ ∀ j (h : j < s.size), w.cell? ⟨g, j, none⟩ = some (.int .u8 (s[j].toNat : Int))
theorem bts_new (w : World) (s : ByteArray) : Bts (Lib.bytesWorld w 5 s) w.heap.size s := by
 refine ⟨by rw [Lib.bytesWorld_size]; omega, fun j h => ?_⟩
 rw [Lib.bytesWorld_cell w 5 s j h]; simp [List.getD, h]; rfl
theorem Bts.grown {w w' : World} {g g2 : Nat} {s : ByteArray} (h : Bts w g s) (hg : w.grownBy w' (some g2)) (hne : g ≠ g2) : Bts w' g s :=
 ⟨Nat.lt_of_lt_of_le h.1 hg.size, fun j hj => hg.cell (h.2 j hj) (by simpa using hne)⟩
theorem Bts.below {w w' : World} {g : Nat} {s : ByteArray} (h : Bts w g s) (hb : Below w.heap.size w w') : Bts w' g s :=
 ⟨Nat.lt_of_lt_of_le h.1 hb.size, fun j hj => (hb.cell (p := ⟨g, j, none⟩) h.1).trans (h.2 j hj)⟩
end base
end Go.Proofs.YtijplooogplccaaGreat
