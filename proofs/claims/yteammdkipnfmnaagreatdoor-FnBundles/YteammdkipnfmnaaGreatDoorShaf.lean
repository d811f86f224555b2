/- How values of a type lie in memory: what is read, what a call owns (with the blocks that it owns), and what a step leaves as it was. No function of the program is named here. A struct in a block, whole or in the midst of it. No function of the program is named here. The specification's seals: whether one is right. Types without slices. No function of the program is named here. A struct in a block of its own, and what it owns, whatever the struct. No function of the program is named here. Rows of structs that own memory: made, an element written, an element turned. No function of the program is named here. Cells of elements of rows; a struct written whole. No function of the program is named here. -/
import Derived.WalkKit
import Derived.WalkSpells
import Derived.WalkLawsBesides
import Derived.OwnWalk
import Derived.Deep.AppendLies
import Derived.Test.YteammdkipnfmnaaGreatDoorShaa
import Derived.Test.YteammdkipnfmnaaGreatDoorShae
import Derived.Test.YteammdkipnfmnaaGreatDoorShac
namespace Go.Proofs.YteammdkipnfmnaaGreatDoor.lay
open Go Go.RowKit
set_option linter.unusedVariables false

/-! ### what a step leaves as it was -/
structure Frame (G : List Nat) (w w' : World) : Prop where
  os : w'.os = w.os
  tape : w'.tape = w.tape
  output : w'.output = w.output
  size : w.heap.size ≤ w'.heap.size
  block : ∀ j, j < w.heap.size → j ∉ G → w'.heap[j]? = w.heap[j]?
def Fresh (w : World) (F F' : List Nat) : Prop := ∀ k ∈ F', k ∈ F ∨ w.heap.size ≤ k
section
variable {G G' F F' F'' : List Nat} {w w' w'' : World} {B : Nat}
theorem Frame.refl (G : List Nat) (w : World) : Frame G w w := ⟨rfl, rfl, rfl, Nat.le_refl _, fun _ _ _ => rfl⟩
theorem Frame.trans (h : Frame G w w') (k : Frame G' w' w'') (hf : Fresh w G G') : Frame G w w'' :=
  ⟨k.os.trans h.os, k.tape.trans h.tape, k.output.trans h.output, Nat.le_trans h.size k.size, fun j hj hn => (k.block j (Nat.lt_of_lt_of_le hj h.size) (fun e => by
    rcases hf j e with e | e
    · exact hn e
    · omega)).trans (h.block j hj hn)⟩
theorem Frame.mono (h : Frame G w w') (hg : ∀ k ∈ G, k ∈ G') : Frame G' w w' :=
  ⟨h.os, h.tape, h.output, h.size, fun j hj hn => h.block j hj (fun e => hn (hg j e))⟩
theorem Frame.of_below (h : Below w.heap.size w w') : Frame G w w' := ⟨h.os, h.tape, h.output, h.size, fun j hj _ => h.block j hj⟩
theorem Frame.below (h : Frame G w w') (k : Below w'.heap.size w' w'') : Frame G w w'' :=
  h.trans (G' := []) (Frame.of_below k) (fun _ e => absurd e List.not_mem_nil)
theorem Frame.grown {row : Option Nat} (h : Frame G w w') (k : w'.grownBy w'' row) (hr : ∀ k, row = some k → k ∈ G ∨ w.heap.size ≤ k) : Frame G w w'' :=
  ⟨k.os.trans h.os, k.tape.trans h.tape, k.output.trans h.output, Nat.le_trans h.size k.size, fun j hj hn => (k.block j (Nat.lt_of_lt_of_le hj h.size) (fun e => by
    rcases hr j e.symm with e2 | e2
    · exact hn e2
    · omega)).trans (h.block j hj hn)⟩
theorem Frame.bel (h : Frame G w w') (hB : B ≤ w.heap.size) (hG : ∀ k ∈ G, B ≤ k) : Below B w w' :=
  ⟨h.os, h.tape, h.output, h.size, fun j hj => h.block j (Nat.lt_of_lt_of_le hj hB) (fun e => by have := hG j e; omega)⟩
theorem Fresh.refl (w : World) (F : List Nat) : Fresh w F F := fun _ h => .inl h
theorem Fresh.trans (h : Fresh w F F') (k : Fresh w' F' F'') (hs : w.heap.size ≤ w'.heap.size) : Fresh w F F'' := fun j hj => by
  rcases k j hj with e | e
  · exact h j e
  · exact .inr (by omega)
theorem Fresh.new (h : ∀ k ∈ F', w.heap.size ≤ k) : Fresh w F F' := fun k hk => .inr (h k hk)
theorem Fresh.mono (h : Fresh w F F') (hF : ∀ k ∈ F, k ∈ G) : Fresh w G F' := fun k hk => (h k hk).imp_left (hF k)
theorem Fresh.append (h : Fresh w F F') (k : Fresh w F F'') : Fresh w F (F' ++ F'') := fun j hj => by
  rcases List.mem_append.1 hj with e | e
  · exact h j e
  · exact k j e
theorem nodup_parts (h : (F ++ F').Nodup) : F.Nodup ∧ F'.Nodup ∧ ∀ k ∈ F, k ∉ F' := by
  rw [List.nodup_append] at h
  exact ⟨h.1, h.2.1, fun k hk hk' => h.2.2 k hk k hk' rfl⟩
theorem nodup_mk (h1 : F.Nodup) (h2 : F'.Nodup) (h : ∀ k ∈ F, k ∉ F') : (F ++ F').Nodup := by
  rw [List.nodup_append]
  exact ⟨h1, h2, fun a ha b hb e => h a ha (e ▸ hb)⟩
end

/-! ### a type's way to lie -/
structure Rd (α : Type) where
  size : Nat
  see : World → List Value → α → Prop
  own : World → List Value → α → List Nat → Prop
  seeLen : ∀ {w vs x}, see w vs x → vs.length = size
  seeCells : ∀ {w w' vs x}, see w vs x → (∀ b o v, w.cell? ⟨b, o, none⟩ = some v → w'.cell? ⟨b, o, none⟩ = some v) → see w' vs x
  ownSee : ∀ {w vs x F}, own w vs x F → see w vs x
  ownAt : ∀ {w w' vs x F}, own w vs x F → (∀ k ∈ F, w'.heap[k]? = w.heap[k]?) → own w' vs x F
  ownLt : ∀ {w vs x F}, own w vs x F → ∀ k ∈ F, k < w.heap.size
  ownNodup : ∀ {w vs x F}, own w vs x F → F.Nodup
  ownOne : ∀ {w vs x F}, own w vs x F → ∀ v ∈ vs, v.oneCell' = true
section
variable {α β : Type} {R : Rd α} {S : Rd β} {w w' w'' : World} {vs us : List Value} {x : α} {F G : List Nat}
theorem Rd.ownLen (R : Rd α) (h : R.own w vs x F) : vs.length = R.size := R.seeLen (R.ownSee h)
theorem Rd.ownBelow (R : Rd α) (h : R.own w vs x F) (hb : Below w.heap.size w w') : R.own w' vs x F :=
  R.ownAt h fun k hk => hb.block k (R.ownLt h k hk)
theorem Rd.ownGrown (R : Rd α) (h : R.own w vs x F) {row : Option Nat} (hg : w.grownBy w' row) (hd : ∀ k ∈ F, some k ≠ row) : R.own w' vs x F :=
  R.ownAt h fun k hk => hg.block k (R.ownLt h k hk) (hd k hk)
end
def int : Rd Int where
  size := 1
  see _ vs x := vs = [.int .i64 x] ∧ (Lit.int .i64 x).wf = true
  own _ vs x F := (vs = [.int .i64 x] ∧ (Lit.int .i64 x).wf = true) ∧ F = []
  seeLen h := by rw [h.1]; rfl
  seeCells h _ := h
  ownSee h := h.1
  ownAt h _ := h
  ownLt h k hk := by rw [h.2] at hk; cases hk
  ownNodup h := by rw [h.2]; exact List.nodup_nil
  ownOne h v hv := by rw [h.1.1] at hv; rw [List.mem_singleton.1 hv]; rfl
def bool : Rd Bool where
  size := 1
  see _ vs x := vs = [.bool x]
  own _ vs x F := vs = [.bool x] ∧ F = []
  seeLen h := by rw [h]; rfl
  seeCells h _ := h
  ownSee h := h.1
  ownAt h _ := h
  ownLt h k hk := by rw [h.2] at hk; cases hk
  ownNodup h := by rw [h.2]; exact List.nodup_nil
  ownOne h v hv := by rw [h.1] at hv; rw [List.mem_singleton.1 hv]; rfl
def str : Rd ByteArray where
  size := 1
  see _ vs x := vs = [.string x] ∧ x.size ≤ maxLen
  own _ vs x F := (vs = [.string x] ∧ x.size ≤ maxLen) ∧ F = []
  seeLen h := by rw [h.1]; rfl
  seeCells h _ := h
  ownSee h := h.1
  ownAt h _ := h
  ownLt h k hk := by rw [h.2] at hk; cases hk
  ownNodup h := by rw [h.2]; exact List.nodup_nil
  ownOne h v hv := by rw [h.1.1] at hv; rw [List.mem_singleton.1 hv]; rfl
def both {α β : Type} (R : Rd α) (S : Rd β) : Rd (α × β) where
  size := R.size + S.size
  see w vs x := ∃ us ts, vs = us ++ ts ∧ R.see w us x.1 ∧ S.see w ts x.2
  own w vs x F := ∃ us ts F1 F2, vs = us ++ ts ∧ F = F1 ++ F2 ∧ R.own w us x.1 F1 ∧ S.own w ts x.2 F2 ∧ F.Nodup
  seeLen := by
    rintro w vs x ⟨us, ts, rfl, h1, h2⟩
    rw [List.length_append, R.seeLen h1, S.seeLen h2]
  seeCells := by
    rintro w w' vs x ⟨us, ts, rfl, h1, h2⟩ hc
    exact ⟨us, ts, rfl, R.seeCells h1 hc, S.seeCells h2 hc⟩
  ownSee := by
    rintro w vs x F ⟨us, ts, F1, F2, rfl, rfl, h1, h2, _⟩
    exact ⟨us, ts, rfl, R.ownSee h1, S.ownSee h2⟩
  ownAt := by
    rintro w w' vs x F ⟨us, ts, F1, F2, rfl, rfl, h1, h2, hn⟩ hk
    exact ⟨us, ts, F1, F2, rfl, rfl, R.ownAt h1 (fun k e => hk k (List.mem_append.2 (.inl e))), S.ownAt h2 (fun k e => hk k (List.mem_append.2 (.inr e))), hn⟩
  ownLt := by
    rintro w vs x F ⟨us, ts, F1, F2, rfl, rfl, h1, h2, _⟩ k hk
    rcases List.mem_append.1 hk with e | e
    · exact R.ownLt h1 k e
    · exact S.ownLt h2 k e
  ownNodup := by
    rintro w vs x F ⟨us, ts, F1, F2, _, _, _, _, hn⟩
    exact hn
  ownOne := by
    rintro w vs x F ⟨us, ts, F1, F2, rfl, rfl, h1, h2, _⟩ v hv
    rcases List.mem_append.1 hv with e | e
    · exact R.ownOne h1 v e
    · exact S.ownOne h2 v e

/-! ### slices -/
def CellsAt (w : World) (b o : Nat) (vs : List Value) : Prop := ∀ j u, vs[j]? = some u → w.cell? ⟨b, o + j, none⟩ = some u
def SlG {α : Type} (R : Rd α) (w : World) (a : Option Addr) (len : Nat) (l : List α) : Prop :=
  l.length = len ∧ len ≤ maxLen ∧ (∀ x ∈ l, ∃ vs, R.see w vs x) ∧ (0 < len → ∃ b off, a = some ⟨b, off, none⟩ ∧ ∀ i (h : i < l.length), ∃ vs, R.see w vs l[i] ∧ CellsAt w b (off + i * R.size) vs)
abbrev Parts := List (List Value × List Nat)
def cellsOf (q : Parts) : List Value := q.flatMap fun p => p.1
def blocksOf (q : Parts) : List Nat := q.flatMap fun p => p.2
theorem cellsOf_append (p q : Parts) : cellsOf (p ++ q) = cellsOf p ++ cellsOf q := by simp [cellsOf]
theorem blocksOf_append (p q : Parts) : blocksOf (p ++ q) = blocksOf p ++ blocksOf q := by simp [blocksOf]
theorem cellsOf_length {q : Parts} {n : Nat} (h : ∀ p ∈ q, p.1.length = n) : (cellsOf q).length = q.length * n := by
  induction q with
  | nil => simp [cellsOf]
  | cons p q ih =>
    have := ih fun x hx => h x (List.mem_cons_of_mem _ hx)
    have h1 := h p List.mem_cons_self
    unfold cellsOf at this ⊢
    rw [List.flatMap_cons, List.length_append, h1, this, List.length_cons, Nat.add_mul]; omega
theorem cellsOf_get {q : Parts} {n : Nat} (h : ∀ p ∈ q, p.1.length = n) (i : Nat) (hi : i < q.length) (j : Nat) (hj : j < n) : (cellsOf q)[i * n + j]? = (q[i].1)[j]? := by
  induction q generalizing i with
  | nil => simp at hi
  | cons p q ih =>
    have h1 := h p List.mem_cons_self
    unfold cellsOf at ih ⊢
    rw [List.flatMap_cons]
    cases i with
    | zero => rw [List.getElem?_append_left (by omega)]; simp
    | succ i =>
      rw [List.getElem?_append_right (by rw [h1, Nat.add_mul]; omega), h1, show (i + 1) * n + j - n = i * n + j by rw [Nat.add_mul]; omega]
      exact ih (fun x hx => h x (List.mem_cons_of_mem _ hx)) i (by simpa using hi)
structure OwnG {α : Type} (ty : TypeId) (R : Rd α) (w : World) (v : Value) (l : List α) (q : Parts) : Prop where
  len : q.length = l.length
  row : w.ownsRow 0 ty R.size v l.length (cellsOf q)
  each : ∀ i (h : i < l.length), R.own w (q[i]'(by omega)).1 l[i] (q[i]'(by omega)).2
  nodup : (v.ownBlock.toList ++ blocksOf q).Nodup
section
variable {α : Type} {ty : TypeId} {R : Rd α} {w w' : World} {v : Value} {l : List α} {q : Parts}
theorem OwnG.parts (h : OwnG ty R w v l q) : ∀ p ∈ q, p.1.length = R.size := fun p hp => by
  obtain ⟨i, hi, rfl⟩ := List.getElem_of_mem hp
  exact R.ownLen (h.each i (by have := h.len; omega))
theorem OwnG.shape (h : OwnG ty R w v l q) : (v = .slice none 0 0 ∧ l = [] ∧ q = []) ∨ ∃ g cap, v = .slice (some ⟨g, 0, none⟩) l.length cap ∧ l.length ≤ cap ∧ cap ≤ maxLen := by
  rcases h.row.2 with ⟨rfl, h0⟩ | ⟨g, cap, cur, rfl, _, _, h1, h2, _⟩
  · have : l = [] := List.eq_nil_of_length_eq_zero h0
    subst this
    exact .inl ⟨rfl, rfl, List.eq_nil_of_length_eq_zero (by simpa using h.len)⟩
  · exact .inr ⟨g, cap, rfl, h1, h2⟩
theorem OwnG.slice (h : OwnG ty R w v l q) : ∃ a cap, v = .slice a l.length cap ∧ l.length ≤ cap ∧ cap ≤ maxLen := by
  rcases h.shape with ⟨rfl, rfl, _⟩ | ⟨g, cap, rfl, h1, h2⟩
  · exact ⟨none, 0, rfl, Nat.le_refl _, Nat.zero_le _⟩
  · exact ⟨_, cap, rfl, h1, h2⟩
theorem OwnG.at_ (h : OwnG ty R w v l q) (k : Nat) (hk : k ∈ v.ownBlock.toList ++ blocksOf q) : k < w.heap.size := by
  rcases List.mem_append.1 hk with e | e
  · exact (h.row.lt k (by simpa using e)).2
  · obtain ⟨p, hp, e⟩ := List.mem_flatMap.1 e
    obtain ⟨i, hi, rfl⟩ := List.getElem_of_mem hp
    exact R.ownLt (h.each i (by have := h.len; omega)) k e
theorem row_of_block {base : Nat} {e : TypeId} {size n : Nat} {xs : List Value} (h : w.ownsRow base e size v n xs) (hk : ∀ k, v.ownBlock = some k → w'.heap[k]? = w.heap[k]?) : w'.ownsRow base e size v n xs := by
  refine ⟨h.1, ?_⟩
  rcases h.2 with h' | ⟨g, cap, cur, rfl, h0, hg, r⟩
  · exact .inl h'
  · exact .inr ⟨g, cap, cur, rfl, h0, (hk g rfl).trans hg, r⟩
theorem OwnG.keep (h : OwnG ty R w v l q) (hk : ∀ k ∈ v.ownBlock.toList ++ blocksOf q, w'.heap[k]? = w.heap[k]?) : OwnG ty R w' v l q :=
  ⟨h.len, row_of_block h.row (fun k e => hk k (List.mem_append.2 (.inl (by simp [e])))),
   fun i hi => R.ownAt (h.each i hi) (fun k e => hk k (List.mem_append.2 (.inr (List.mem_flatMap.2 ⟨_, List.getElem_mem _, e⟩)))), h.nodup⟩
theorem OwnG.cells {g n cap : Nat} (h : OwnG ty R w (.slice (some ⟨g, 0, none⟩) n cap) l q) (i : Nat) (hi : i < l.length) : CellsAt w g (i * R.size) (q[i]'(by have := h.len; omega)).1 := by
  intro j u hu
  have hj : j < R.size := by
    have h1 := (List.getElem?_eq_some_iff.1 hu).1
    rwa [h.parts _ (List.getElem_mem _)] at h1
  have hn : n = l.length := by
    rcases h.shape with ⟨e, _⟩ | ⟨g', c', e, _⟩
    · cases e
    · cases e; rfl
  subst hn
  have := h.row.cells (g := g) rfl (i * R.size + j) u (by rw [cellsOf_get h.parts i (by have := h.len; omega) j hj]; exact hu)
  rwa [Addr.add_lit, Nat.zero_add] at this
theorem OwnG.fz {g n cap : Nat} (h : OwnG ty R w (.slice (some ⟨g, 0, none⟩) n cap) l q) (j : Nat) : w.frozen? ⟨g, j, none⟩ = false := by
  have hn : n = l.length := by
    rcases h.shape with ⟨e, _⟩ | ⟨g', c', e, _⟩
    · cases e
    · cases e; rfl
  subst hn
  exact h.row.frozenAt j
theorem OwnG.sl {a : Option Addr} {n cap : Nat} (h : OwnG ty R w (.slice a n cap) l q) : SlG R w a n l := by
  have hsee : ∀ x ∈ l, ∃ vs, R.see w vs x := fun x hx => by
    obtain ⟨i, hi, rfl⟩ := List.getElem_of_mem hx
    exact ⟨_, R.ownSee (h.each i hi)⟩
  rcases h.shape with ⟨e, rfl, _⟩ | ⟨g, c, e, h1, h2⟩
  · cases e; exact ⟨rfl, Nat.zero_le _, hsee, fun h => absurd h (by omega)⟩
  · cases e
    refine ⟨rfl, by omega, hsee, fun _ => ⟨g, 0, rfl, fun i hi => ⟨_, R.ownSee (h.each i hi), ?_⟩⟩⟩
    rw [Nat.zero_add]
    exact h.cells i hi
end
theorem SlG.keep {α : Type} {R : Rd α} {w w' : World} {a : Option Addr} {len : Nat} {l : List α} (h : SlG R w a len l) (hc : ∀ b o v, w.cell? ⟨b, o, none⟩ = some v → w'.cell? ⟨b, o, none⟩ = some v) : SlG R w' a len l := by
  obtain ⟨h1, h2, h3, h4⟩ := h
  refine ⟨h1, h2, fun x hx => ?_, fun h0 => ?_⟩
  · obtain ⟨vs, hv⟩ := h3 x hx
    exact ⟨vs, R.seeCells hv hc⟩
  · obtain ⟨b, off, e, hi⟩ := h4 h0
    refine ⟨b, off, e, fun i h => ?_⟩
    obtain ⟨vs, hs, hcl⟩ := hi i h
    exact ⟨vs, R.seeCells hs hc, fun j u hu => hc _ _ _ (hcl j u hu)⟩
theorem SlG.below {α : Type} {R : Rd α} {w w' : World} {a : Option Addr} {len : Nat} {l : List α} (h : SlG R w a len l) (hb : Below w.heap.size w w') : SlG R w' a len l :=
  h.keep fun b o v hv => (hb.cell (p := ⟨b, o, none⟩) (World.block_lt_of_cell? w _ hv)).trans hv
def slice {α : Type} (ty : TypeId) (R : Rd α) : Rd (List α) where
  size := 1
  see w vs l := ∃ a len cap, vs = [.slice a len cap] ∧ len ≤ cap ∧ SlG R w a len l
  own w vs l F := ∃ v q, vs = [v] ∧ F = v.ownBlock.toList ++ blocksOf q ∧ OwnG ty R w v l q
  seeLen := by rintro w vs x ⟨a, len, cap, rfl, _⟩; rfl
  seeCells := by
    rintro w w' vs x ⟨a, len, cap, rfl, hc, h⟩ hk
    exact ⟨a, len, cap, rfl, hc, h.keep hk⟩
  ownSee := by
    rintro w vs x F ⟨v, q, rfl, rfl, h⟩
    obtain ⟨a, cap, rfl, hc, _⟩ := h.slice
    exact ⟨a, _, cap, rfl, hc, h.sl⟩
  ownAt := by
    rintro w w' vs x F ⟨v, q, rfl, rfl, h⟩ hk
    exact ⟨v, q, rfl, rfl, h.keep hk⟩
  ownLt := by
    rintro w vs x F ⟨v, q, rfl, rfl, h⟩ k hk
    exact h.at_ k hk
  ownNodup := by
    rintro w vs x F ⟨v, q, rfl, rfl, h⟩
    exact h.nodup
  ownOne := by
    rintro w vs x F ⟨v, q, rfl, rfl, h⟩ u hu
    rw [List.mem_singleton.1 hu]
    obtain ⟨a, cap, rfl, _⟩ := h.slice
    rfl
section
variable {α : Type} {ty : TypeId} {R : Rd α} {w w' w7 : World} {v v7 : Value} {l : List α} {q : Parts} {F : List Nat}
theorem own_mk (h : OwnG ty R w v l q) : (slice ty R).own w [v] l (v.ownBlock.toList ++ blocksOf q) := ⟨v, q, rfl, rfl, h⟩
theorem OwnG.snoc {x : α} {vs : List Value} {G : List Nat} {g cap H : Nat} (h : OwnG ty R w v l q) (hx : R.own w vs x G) (hd : ∀ k ∈ G, k ∉ v.ownBlock.toList ++ blocksOf q)
    (hown : w7.ownsRow 0 ty R.size (.slice (some ⟨g, 0, none⟩) (l.length + 1) cap) (l.length + 1) (cellsOf q ++ vs)) (hgrow : w.grownBy w7 v.ownBlock) (hat : v.ownBlock = some g ∨ g = H) (hH : w.heap.size = H) :
    OwnG ty R w7 (.slice (some ⟨g, 0, none⟩) (l.length + 1) cap) (l ++ [x]) (q ++ [(vs, G)]) := by
  have hlen := h.len
  obtain ⟨n1, n2, n3⟩ := nodup_parts h.nodup
  have hg1 : ∀ k ∈ blocksOf q, some k ≠ v.ownBlock := fun k hk e => n3 k (by rw [← e]; simp) hk
  have hg2 : ∀ k ∈ G, some k ≠ v.ownBlock := fun k hk e => hd k hk (List.mem_append.2 (.inl (by rw [← e]; simp)))
  refine ⟨by simp [hlen], ?_, fun i hi => ?_, ?_⟩
  · rw [cellsOf_append, List.length_append]
    simpa [cellsOf] using hown
  · by_cases e : i < l.length
    · simp only [List.getElem_append_left e, List.getElem_append_left (show i < q.length by omega)]
      exact R.ownGrown (h.each i e) hgrow (fun k hk => hg1 k (List.mem_flatMap.2 ⟨_, List.getElem_mem _, hk⟩))
    · have : i = l.length := by simp at hi; omega
      subst this
      rw [List.getElem_append_right (Nat.le_refl _)]
      simp only [List.getElem_append_right (show q.length ≤ l.length by omega)]
      simp only [hlen, Nat.sub_self, List.getElem_cons_zero]
      exact R.ownGrown hx hgrow hg2
  · have hgq : g ∉ blocksOf q := by
      rcases hat with e | e
      · exact n3 g (by rw [e]; simp)
      · intro hk
        have := h.at_ g (List.mem_append.2 (.inr hk))
        omega
    have hgG : g ∉ G := by
      rcases hat with e | e
      · exact fun hk => hg2 g hk e.symm
      · intro hk
        have := R.ownLt hx g hk
        omega
    have e1 : (Value.slice (some ⟨g, 0, none⟩) (l.length + 1) cap).ownBlock.toList ++ blocksOf (q ++ [(vs, G)]) = g :: (blocksOf q ++ G) := by
      rw [blocksOf_append]; simp [Value.ownBlock, blocksOf]
    rw [e1, List.nodup_cons]
    refine ⟨fun hk => ?_, nodup_mk n2 (R.ownNodup hx) (fun k hk hk2 => hd k hk2 (List.mem_append.2 (.inr hk)))⟩
    rcases List.mem_append.1 hk with e | e
    · exact hgq e
    · exact hgG e
theorem OwnG.take {a : Option Addr} {n cap : Nat} (h : OwnG ty R w (.slice a n cap) l q) (k : Nat) (hk : k ≤ l.length) : OwnG ty R w (.slice a k cap) (l.take k) (q.take k) := by
  have hlen := h.len
  have hsub : ∀ j ∈ blocksOf (q.take k), j ∈ blocksOf q := fun j hj => by
    obtain ⟨p, hp, e⟩ := List.mem_flatMap.1 hj
    exact List.mem_flatMap.2 ⟨p, List.mem_of_mem_take hp, e⟩
  have hcells : cellsOf (q.take k) = (cellsOf q).take (k * R.size) := by
    have hp := h.parts
    clear h hsub
    induction q generalizing k l with
    | nil => simp [cellsOf]
    | cons p q ih =>
      cases k with
      | zero => simp [cellsOf]
      | succ k =>
        have h1 := hp p List.mem_cons_self
        cases l with
        | nil => simp at hk
        | cons y l =>
          have := ih (l := l) k (by simpa using hk) (by simpa using hlen) (fun x hx => hp x (List.mem_cons_of_mem _ hx))
          unfold cellsOf at this ⊢
          rw [List.take_succ_cons, List.flatMap_cons, List.flatMap_cons, this, List.take_append, h1, List.take_of_length_le (l := p.1) (by rw [h1, Nat.add_mul]; omega), show (k + 1) * R.size - R.size = k * R.size by rw [Nat.add_mul]; omega]
  refine ⟨by simp [hlen], ?_, fun i hi => ?_, ?_⟩
  · have hl2 : (l.take k).length = k := by simp; omega
    rw [hl2, hcells]
    have hcl := h.row.1
    refine ⟨by rw [List.length_take, hcl]; exact Nat.min_eq_left (Nat.mul_le_mul_right _ hk), ?_⟩
    rcases h.row.2 with ⟨e, h0⟩ | ⟨g, c, cur, e, hb, hg, h1, h2, h3, h4⟩
    · cases e; exact .inl ⟨by have : k = 0 := by omega
                              subst this; rfl, by omega⟩
    · cases e
      refine .inr ⟨g, _, cur, rfl, hb, hg, by omega, h2, h3, ?_⟩
      rw [← h4, List.take_take, Nat.min_eq_left (Nat.mul_le_mul_right _ hk)]
  · have hi' : i < l.length := by simp at hi; omega
    simp only [List.getElem_take]
    exact h.each i hi'
  · obtain ⟨n1, n2, n3⟩ := nodup_parts h.nodup
    refine nodup_mk (by cases a <;> simp [Value.ownBlock]) ?_ (fun j hj hj2 => ?_)
    · refine List.Nodup.sublist ?_ n2
      rw [← List.take_append_drop k q, blocksOf_append]
      rw [List.take_append_drop]
      exact List.sublist_append_left _ _
    · exact n3 j (by cases a with
        | none => simp [Value.ownBlock] at hj
        | some ad => simpa [Value.ownBlock] using hj) (hsub j hj2)
end
end Go.Proofs.YteammdkipnfmnaaGreatDoor.lay

namespace Go.Proofs.YteammdkipnfmnaaGreatDoor.lay
open Go Go.RowKit Go.Proofs.YteammdkipnfmnaaGreatDoor.base
set_option linter.unusedVariables false

def BoxIn (X : Nat) (T : TypeId) (pre vs post : List Value) (w : World) : Prop := w.heap[X]? = some (.cells (pre ++ vs ++ post).toArray T (0, 0))
section
variable {X : Nat} {T : TypeId} {pre vs post : List Value} {w w' : World} {G F : List Nat}
theorem BoxIn.lt (h : BoxIn X T pre vs post w) : X < w.heap.size := (Array.getElem?_eq_some_iff.1 h).1
theorem BoxIn.keep (h : BoxIn X T pre vs post w) (hk : w'.heap[X]? = w.heap[X]?) : BoxIn X T pre vs post w' := hk.trans h
theorem BoxIn.below (h : BoxIn X T pre vs post w) (hb : Below w.heap.size w w') : BoxIn X T pre vs post w' := h.keep (hb.block X h.lt)
theorem BoxIn.grown {row : Option Nat} (h : BoxIn X T pre vs post w) (hg : w.grownBy w' row) (hn : some X ≠ row) : BoxIn X T pre vs post w' := h.keep (hg.block X h.lt hn)
theorem BoxIn.cell (h : BoxIn X T pre vs post w) (j : Nat) (u : Value) (hj : vs[j]? = some u) : w.cell? ⟨X, pre.length + j, none⟩ = some u := by
  unfold BoxIn at h
  have hl := (List.getElem?_eq_some_iff.1 hj).1
  simp only [World.cell?, h]
  have hu := (List.getElem?_eq_some_iff.1 hj).2
  simp [List.getElem?_append, hl, hu]
theorem BoxIn.fz (h : BoxIn X T pre vs post w) (j : Nat) : w.frozen? ⟨X, j, none⟩ = false := by unfold BoxIn at h; simp [World.frozen?, h]
theorem BoxIn.set (h : BoxIn X T pre vs post w) (j : Nat) (hj : j < vs.length) (u : Value) : BoxIn X T pre (vs.set j u) post (w.setCell ⟨X, pre.length + j, none⟩ u) ∧ w.grownBy (w.setCell ⟨X, pre.length + j, none⟩ u) (some X) := by
  have h1 := set_cur h (pre.length + j) u
  refine ⟨?_, h1.2⟩
  unfold BoxIn
  rw [h1.1]
  congr 2
  rw [List.setIfInBounds_toArray]
  congr 1
  rw [List.append_assoc, List.set_append_right _ _ (by omega), Nat.add_sub_cancel_left, List.set_append_left _ _ hj, List.append_assoc]
theorem boxIn_new (w : World) (vs : List Value) (T : TypeId) : BoxIn w.heap.size T [] vs [] (w.alloc (.cells vs.toArray T)) := by
  unfold BoxIn
  rw [List.nil_append, List.append_nil]
  exact heap_alloc_new w _
end
end Go.Proofs.YteammdkipnfmnaaGreatDoor.lay

namespace Go.Proofs.YteammdkipnfmnaaGreatDoor.seals
open Go Go.RowKit Go.Proofs.YteammdkipnfmnaaGreatDoor.base Go.Proofs.YteammdkipnfmnaaGreatDoor.pairs Go.Proofs.YteammdkipnfmnaaGreatDoor.tree Go.Proofs.YteammdkipnfmnaaGreatDoor.putnum Go.Proofs.YteammdkipnfmnaaGreatDoor.puttext Go.Proofs.YteammdkipnfmnaaGreatDoor.puttexts Go.Proofs.YteammdkipnfmnaaGreatDoor.lay
set_option linter.unusedVariables false
set_option linter.unusedSimpArgs false

abbrev Seal := Int × ByteArray × ByteArray × List ByteArray
theorem str_ne {a b : ByteArray} (h : a ≠ b) : (a.toList == b.toList) = false := by
  rw [beq_eq_false_iff_ne]; intro e; rw [ByteArray.toList_eq, ByteArray.toList_eq] at e; exact h (by cases a; cases b; simp only [ByteArray.mk.injEq]; exact Array.toList_inj.1 e)
theorem str_same (a : ByteArray) : (a.toList == a.toList) = true := by simp
theorem sum_32 {l : List ByteArray} (h : ∀ r ∈ l, r.size = 32) : sum l = 32 * l.length := by
  induction l with
  | nil => rfl
  | cons r l ih =>
    have h1 := ih (fun x hx => h x (List.mem_cons_of_mem _ hx))
    have h2 := h r List.mem_cons_self
    simp only [sum, List.map_cons, List.sum_cons, List.length_cons] at *
    omega
theorem s_in (x a b : Int) (w : World) :
    Calls Tryz.prog 30 #[.int .i64 x, .int .i64 a, .int .i64 b] w fun e w' => e = .returned (.bool (decide (a ≤ x ∧ x ≤ b))) ∧ w' = w := by
  by_cases h1 : a ≤ x
  · by_cases h2 : x ≤ b
    · go_enter Tryz.func30, Tryz.ntmps30
      go_wp2
      go_ret
      exact ⟨by simp [h1, h2], rfl⟩
    · go_enter Tryz.func30, Tryz.ntmps30
      go_wp2
      go_ret
      exact ⟨by simp [h1, h2], rfl⟩
  · go_enter Tryz.func30, Tryz.ntmps30
    go_wp2
    go_ret
    exact ⟨by have h3 : ¬ a ≤ x := by omega
              simp [h3], rfl⟩
theorem box4 {X : Nat} {T : TypeId} {w : World} {v0 v1 v2 v3 : Value} (h : BoxIn X T [] [v0, v1, v2, v3] [] w) : w.cell? ⟨X, 0, none⟩ = some v0 ∧ w.cell? ⟨X, 1, none⟩ = some v1 ∧ w.cell? ⟨X, 2, none⟩ = some v2 ∧ w.cell? ⟨X, 3, none⟩ = some v3 := by
  have a0 := h.cell 0 _ rfl
  have a1 := h.cell 1 _ rfl
  have a2 := h.cell 2 _ rfl
  have a3 := h.cell 3 _ rfl
  simp only [List.length_nil, Nat.zero_add] at a0 a1 a2 a3
  exact ⟨a0, a1, a2, a3⟩
end Go.Proofs.YteammdkipnfmnaaGreatDoor.seals

namespace Go.Proofs.YteammdkipnfmnaaGreatDoor.cos
open Go Go.RowKit Go.Proofs.YteammdkipnfmnaaGreatDoor.base Go.Proofs.YteammdkipnfmnaaGreatDoor.lay
set_option linter.unusedVariables false
set_option linter.unusedSimpArgs false

/-! ### types without slices -/
structure Flat {α : Type} (R : Rd α) (enc : α → List Value) (ok : α → Prop) : Prop where
  own : ∀ {w vs x F}, R.own w vs x F ↔ vs = enc x ∧ ok x ∧ F = []
  see : ∀ {w vs x}, R.see w vs x ↔ vs = enc x ∧ ok x
theorem flat_int : Flat int (fun x => [.int .i64 x]) (fun x => (Lit.int .i64 x).wf = true) :=
  ⟨fun {_ _ _ _} => ⟨fun h => ⟨h.1.1, h.1.2, h.2⟩, fun h => ⟨⟨h.1, h.2.1⟩, h.2.2⟩⟩, fun {_ _ _} => Iff.rfl⟩
theorem flat_str : Flat str (fun x => [.string x]) (fun x => x.size ≤ maxLen) :=
  ⟨fun {_ _ _ _} => ⟨fun h => ⟨h.1.1, h.1.2, h.2⟩, fun h => ⟨⟨h.1, h.2.1⟩, h.2.2⟩⟩, fun {_ _ _} => Iff.rfl⟩
theorem flat_both {α β : Type} {R : Rd α} {S : Rd β} {e1 : α → List Value} {e2 : β → List Value} {o1 : α → Prop} {o2 : β → Prop} (h1 : Flat R e1 o1) (h2 : Flat S e2 o2) : Flat (both R S) (fun x => e1 x.1 ++ e2 x.2) (fun x => o1 x.1 ∧ o2 x.2) := by
  constructor
  · intro w vs x F
    constructor
    · rintro ⟨us, ts, F1, F2, rfl, rfl, h3, h4, _⟩
      obtain ⟨rfl, k1, rfl⟩ := h1.own.1 h3
      obtain ⟨rfl, k2, rfl⟩ := h2.own.1 h4
      exact ⟨rfl, ⟨k1, k2⟩, rfl⟩
    · rintro ⟨rfl, ⟨k1, k2⟩, rfl⟩
      exact ⟨_, _, [], [], rfl, rfl, h1.own.2 ⟨rfl, k1, rfl⟩, h2.own.2 ⟨rfl, k2, rfl⟩, List.nodup_nil⟩
  · intro w vs x
    constructor
    · rintro ⟨us, ts, rfl, h3, h4⟩
      obtain ⟨rfl, k1⟩ := h1.see.1 h3
      obtain ⟨rfl, k2⟩ := h2.see.1 h4
      exact ⟨rfl, k1, k2⟩
    · rintro ⟨rfl, k1, k2⟩
      exact ⟨_, _, rfl, h1.see.2 ⟨rfl, k1⟩, h2.see.2 ⟨rfl, k2⟩⟩
section
variable {α : Type} {R : Rd α} {enc : α → List Value} {ok : α → Prop} {ty : TypeId} {w : World} {v : Value} {l : List α} {q : Parts} {F : List Nat}
theorem Flat.parts (hR : Flat R enc ok) (h : OwnG ty R w v l q) : q = l.map (fun x => (enc x, [])) ∧ (∀ x ∈ l, ok x) ∧ blocksOf q = [] ∧ cellsOf q = l.flatMap enc := by
  have hl := h.len
  have e : q = l.map (fun x => (enc x, [])) := by
    refine List.ext_getElem (by simp [hl]) fun i h1 h2 => ?_
    have h3 := hR.own.1 (h.each i (by omega))
    rw [List.getElem_map]
    exact Prod.ext h3.1 h3.2.2
  refine ⟨e, fun x hx => ?_, ?_, ?_⟩
  · obtain ⟨i, hi, rfl⟩ := List.getElem_of_mem hx
    exact (hR.own.1 (h.each i hi)).2.1
  · rw [e]; unfold blocksOf; rw [List.flatMap_map]; simp
  · rw [e]; unfold cellsOf; rw [List.flatMap_map]
theorem Flat.row (hR : Flat R enc ok) (h : OwnG ty R w v l q) : w.ownsRow 0 ty R.size v l.length (l.flatMap enc) := by
  rw [← (hR.parts h).2.2.2]; exact h.row
theorem Flat.made (hR : Flat R enc ok) (hr : w.ownsRow 0 ty R.size v l.length (l.flatMap enc)) (hok : ∀ x ∈ l, ok x) : OwnG ty R w v l (l.map (fun x => (enc x, []))) := by
  have e1 : cellsOf (l.map (fun x => (enc x, ([] : List Nat)))) = l.flatMap enc := by unfold cellsOf; rw [List.flatMap_map]
  have e2 : blocksOf (l.map (fun x => (enc x, ([] : List Nat)))) = [] := by unfold blocksOf; rw [List.flatMap_map]; simp
  refine ⟨by simp, by rw [e1]; exact hr, fun i hi => ?_, by rw [e2]; cases v.ownBlock <;> simp⟩
  simp only [List.getElem_map]
  exact hR.own.2 ⟨rfl, hok _ (List.getElem_mem _), rfl⟩
theorem Flat.slice (hR : Flat R enc ok) : (lay.slice ty R).own w [v] l F ↔ w.ownsRow 0 ty R.size v l.length (l.flatMap enc) ∧ (∀ x ∈ l, ok x) ∧ F = v.ownBlock.toList := by
  constructor
  · rintro ⟨v', q, e, rfl, h⟩
    cases e
    exact ⟨hR.row h, (hR.parts h).2.1, by rw [(hR.parts h).2.2.1, List.append_nil]⟩
  · rintro ⟨h1, h2, rfl⟩
    have h3 := hR.made h1 h2
    exact ⟨v, _, rfl, by rw [(hR.parts h3).2.2.1, List.append_nil], h3⟩
end
end Go.Proofs.YteammdkipnfmnaaGreatDoor.cos

namespace Go.Proofs.YteammdkipnfmnaaGreatDoor.lay
open Go Go.RowKit Go.Proofs.YteammdkipnfmnaaGreatDoor.base
set_option linter.unusedVariables false

theorem below_make {w : World} {o : Obj} : Below w.heap.size w (w.alloc o) := (Below.refl _ _).alloc (Nat.le_refl _) _
def RetR {α : Type} (R : Rd α) (w : World) (x : α) (e : Ending) (w' : World) : Prop := ∃ vs F, e = .returned (.agg vs.toArray) ∧ R.own w' vs x F ∧ (∀ k ∈ F, w.heap.size ≤ k) ∧ Below w.heap.size w w'
section
variable {α : Type} {R : Rd α} {T : TypeId} {w w' : World} {X : Nat} {vs : List Value} {x : α} {F G : List Nat}
end
end Go.Proofs.YteammdkipnfmnaaGreatDoor.lay

namespace Go.Proofs.YteammdkipnfmnaaGreatDoor.lay
open Go Go.RowKit Go.Proofs.YteammdkipnfmnaaGreatDoor.base
set_option linter.unusedVariables false
set_option linter.unusedSimpArgs false

def putAll (w : World) (g : Nat) : Nat → List Value → World
  | _, [] => w
  | o, u :: us => putAll (w.setCell ⟨g, o, none⟩ u) g (o + 1) us
def setAll (xs : List Value) : Nat → List Value → List Value
  | _, [] => xs
  | o, u :: us => setAll (xs.set o u) (o + 1) us
theorem setAll_length (us : List Value) : ∀ (xs : List Value) (o : Nat), (setAll xs o us).length = xs.length := by
  induction us with
  | nil => intro xs o; rfl
  | cons u us ih => intro xs o; rw [setAll, ih, List.length_set]
theorem setAll_get (us : List Value) : ∀ (xs : List Value) (o j : Nat) (h : o + us.length ≤ xs.length), (setAll xs o us)[j]? = if o ≤ j ∧ j < o + us.length then us[j - o]? else xs[j]? := by
  induction us with
  | nil => intro xs o j h; rw [setAll, if_neg (by simp)]
  | cons u us ih =>
    intro xs o j h
    simp only [List.length_cons] at h ⊢
    rw [setAll, ih _ _ _ (by rw [List.length_set]; omega)]
    by_cases e : j = o
    · subst e
      rw [if_neg (by omega), if_pos (by omega), List.getElem?_set_self (by omega), Nat.sub_self]; rfl
    · rw [List.getElem?_set_ne (by omega)]
      by_cases h1 : o + 1 ≤ j ∧ j < o + 1 + us.length
      · rw [if_pos h1, if_pos (by omega), show j - o = (j - (o + 1)) + 1 by omega, List.getElem?_cons_succ]
      · rw [if_neg h1, if_neg (by omega)]
theorem cellsOf_set {q : Parts} {n : Nat} (h : ∀ p ∈ q, p.1.length = n) (i : Nat) (hi : i < q.length) (us : List Value) (hu : us.length = n) (F : List Nat) : setAll (cellsOf q) (i * n) us = cellsOf (q.set i (us, F)) := by
  have hq : ∀ p ∈ q.set i (us, F), p.1.length = n := fun p hp => by
    rcases List.mem_or_eq_of_mem_set hp with h1 | h1
    · exact h p h1
    · subst h1; exact hu
  have hl1 := cellsOf_length h
  have hl2 := cellsOf_length hq
  rw [List.length_set] at hl2
  have hin : i * n + n ≤ q.length * n := by
    have := Nat.mul_le_mul_right n (show i + 1 ≤ q.length from hi)
    rw [Nat.add_mul] at this; omega
  refine List.ext_getElem? fun j => ?_
  by_cases hj : j < q.length * n
  · have hn0 : 0 < n := by
      rcases Nat.eq_zero_or_pos n with e | e
      · subst e; omega
      · exact e
    have hd := Nat.div_add_mod j n
    have hm := Nat.mod_lt j hn0
    have hjd : j / n < q.length := by
      rcases Nat.lt_or_ge (j / n) q.length with h1 | h1
      · exact h1
      · have := Nat.mul_le_mul_left n h1
        rw [Nat.mul_comm n q.length] at this; omega
    have e : j = j / n * n + j % n := by rw [Nat.mul_comm]; omega
    rw [setAll_get us _ _ _ (by omega)]
    conv => rhs; rw [e, cellsOf_get hq (j / n) (by simpa using hjd) (j % n) hm]
    by_cases hi2 : j / n = i
    · have e3 : j = i * n + j % n := by rw [← hi2]; exact e
      rw [if_pos (by omega), show j - i * n = j % n by omega]
      subst hi2
      rw [List.getElem_set_self]
    · have hne : ¬ (i * n ≤ j ∧ j < i * n + us.length) := by
        rintro ⟨h1, h2⟩
        rw [hu] at h2
        apply hi2
        rcases Nat.lt_trichotomy (j / n) i with h3 | h3 | h3
        · have := Nat.mul_le_mul_right n (show j / n + 1 ≤ i from h3)
          rw [Nat.add_mul] at this; omega
        · exact h3
        · have := Nat.mul_le_mul_right n (show i + 1 ≤ j / n from h3)
          rw [Nat.add_mul] at this; omega
      rw [if_neg hne, List.getElem_set_ne (fun e => hi2 e.symm)]
      conv => lhs; rw [e, cellsOf_get h (j / n) hjd (j % n) hm]
  · rw [List.getElem?_eq_none (by rw [setAll_length]; omega), List.getElem?_eq_none (by omega)]
section
variable {α : Type} {ty : TypeId} {R : Rd α} {w w' : World} {l : List α} {q : Parts} {g n cap : Nat}
theorem row_putAll {base size : Nat} (us : List Value) : ∀ {w : World} {xs : List Value} (o : Nat), w.ownsRow base ty size (.slice (some ⟨g, 0, none⟩) n cap) n xs → (putAll w g o us).ownsRow base ty size (.slice (some ⟨g, 0, none⟩) n cap) n (setAll xs o us) ∧ w.grownBy (putAll w g o us) (some g) := by
  induction us with
  | nil => intro w xs o h; exact ⟨h, World.grownBy.refl _ _⟩
  | cons u us ih =>
    intro w xs o h
    have s := h.stored o u
    have t := ih (o + 1) s.1
    exact ⟨t.1, grownBy_trans s.2 t.2⟩
theorem OwnG.turn {v : Value} (h : OwnG ty R w v l q) (i : Nat) (hi : i < l.length) (us : List Value) (x : α) (F : List Nat) (hr : w'.ownsRow 0 ty R.size v l.length (cellsOf (q.set i (us, F)))) (hx : R.own w' us x F)
    (hk : ∀ j (hj : j < l.length), j ≠ i → ∀ b ∈ (q[j]'(by have := h.len; omega)).2, w'.heap[b]? = w.heap[b]?) (hF : ∀ b ∈ F, b ∈ (q[i]'(by have := h.len; omega)).2 ∨ b ∉ v.ownBlock.toList ++ blocksOf q) : OwnG ty R w' v (l.set i x) (q.set i (us, F)) := by
  have hl := h.len
  have hnd := h.nodup
  refine ⟨by simp [hl], by simpa using hr, fun j hj => ?_, ?_⟩
  · have hjl : j < l.length := by simpa using hj
    by_cases e : i = j
    · subst e
      simp only [List.getElem_set_self]
      exact hx
    · simp only [List.getElem_set_ne e]
      exact R.ownAt (h.each j hjl) (hk j hjl fun e2 => e e2.symm)
  · have hxn := R.ownNodup hx
    have hqi : i < q.length := by omega
    have e1 : blocksOf q = blocksOf (q.take i) ++ (q[i].2 ++ blocksOf (q.drop (i + 1))) := by
      conv => lhs; rw [← List.take_append_drop i q, List.drop_eq_getElem_cons hqi]
      rw [blocksOf_append]; rfl
    have e2 : blocksOf (q.set i (us, F)) = blocksOf (q.take i) ++ (F ++ blocksOf (q.drop (i + 1))) := by
      rw [List.set_eq_take_append_cons_drop, if_pos hqi, blocksOf_append]; rfl
    have hF2 : ∀ b ∈ F, b ∉ v.ownBlock.toList ∧ b ∉ blocksOf (q.take i) ∧ b ∉ blocksOf (q.drop (i + 1)) := fun b hb => by
      rw [e1] at hnd
      rcases hF b hb with h1 | h1
      · obtain ⟨n1, n2, n3⟩ := nodup_parts hnd
        obtain ⟨m1, m2, m3⟩ := nodup_parts n2
        obtain ⟨k1, k2, k3⟩ := nodup_parts m2
        exact ⟨fun e => n3 b e (List.mem_append.2 (.inr (List.mem_append.2 (.inl h1)))), fun e => m3 b e (List.mem_append.2 (.inl h1)), k3 b h1⟩
      · rw [e1] at h1
        simp only [List.mem_append, not_or] at h1
        exact ⟨h1.1, h1.2.1, h1.2.2.2⟩
    rw [e1] at hnd
    obtain ⟨n1, n2, n3⟩ := nodup_parts hnd
    obtain ⟨m1, m2, m3⟩ := nodup_parts n2
    obtain ⟨k1, k2, k3⟩ := nodup_parts m2
    rw [e2]
    refine nodup_mk n1 (nodup_mk m1 (nodup_mk hxn k2 fun b hb => (hF2 b hb).2.2) fun b hb hb2 => ?_) fun b hb hb2 => ?_
    · rcases List.mem_append.1 hb2 with h1 | h1
      · exact (hF2 b h1).2.1 hb
      · exact m3 b hb (List.mem_append.2 (.inr h1))
    · rcases List.mem_append.1 hb2 with h1 | h1
      · exact n3 b hb (List.mem_append.2 (.inl h1))
      · rcases List.mem_append.1 h1 with h1 | h1
        · exact (hF2 b h1).1 hb
        · exact n3 b hb (List.mem_append.2 (.inr (List.mem_append.2 (.inr h1))))
theorem OwnG.put (h : OwnG ty R w (.slice (some ⟨g, 0, none⟩) n cap) l q) (i : Nat) (hi : i < l.length) (us : List Value) (x : α) (F : List Nat) (hx : R.own w us x F) (hF : ∀ b ∈ F, b ∉ g :: blocksOf q) :
    OwnG ty R (putAll w g (i * R.size) us) (.slice (some ⟨g, 0, none⟩) n cap) (l.set i x) (q.set i (us, F)) ∧ w.grownBy (putAll w g (i * R.size) us) (some g) := by
  have hn : n = l.length := by
    rcases h.shape with ⟨e, _⟩ | ⟨g', c', e, _⟩
    · cases e
    · cases e; rfl
  subst hn
  have hl := h.len
  have hr := row_putAll us (i * R.size) h.row
  rw [cellsOf_set h.parts i (by omega) us (R.ownLen hx) F] at hr
  have hgn : ∀ b ∈ blocksOf q, b ≠ g := fun b hb e => by
    have := (nodup_parts h.nodup).2.2 g (by simp [Value.ownBlock])
    exact this (e ▸ hb)
  refine ⟨h.turn i hi us x F hr.1 (R.ownAt hx fun k hk => hr.2.block k (R.ownLt hx k hk) fun e => hF k hk (by simp [Option.some.inj e])) (fun j hj hne b hb => ?_) (fun b hb => .inr (by simpa [Value.ownBlock] using hF b hb)), hr.2⟩
  have hbq : b ∈ blocksOf q := List.mem_flatMap.2 ⟨_, List.getElem_mem _, hb⟩
  exact hr.2.block b (R.ownLt (h.each j hj) b hb) fun e => hgn b hbq (Option.some.inj e)
theorem OwnG.inner (h : OwnG ty R w (.slice (some ⟨g, 0, none⟩) n cap) l q) (i : Nat) (hi : i < l.length) (x : α) {G : List Nat} (hf : Frame G w w') (hG : ∀ k ∈ G, k ∈ (q[i]'(by have := h.len; omega)).2) (hx : R.own w' (q[i]'(by have := h.len; omega)).1 x (q[i]'(by have := h.len; omega)).2) :
    OwnG ty R w' (.slice (some ⟨g, 0, none⟩) n cap) (l.set i x) q := by
  have hn : n = l.length := by
    rcases h.shape with ⟨e, _⟩ | ⟨g', c', e, _⟩
    · cases e
    · cases e; rfl
  subst hn
  have hl := h.len
  have hqi : i < q.length := by omega
  have hbq : ∀ k (hk : k < q.length), ∀ b ∈ q[k].2, b ∈ blocksOf q := fun k hk b hb => List.mem_flatMap.2 ⟨_, List.getElem_mem _, hb⟩
  have hgG : g ∉ G := fun e => by
    have := (nodup_parts h.nodup).2.2 g (by simp [Value.ownBlock])
    exact this (hbq i hqi g (hG g e))
  have hgl := (h.row.lt g rfl).2
  have eset : q.set i (q[i].1, q[i].2) = q := List.set_getElem_self hqi
  have hr : w'.ownsRow 0 ty R.size (.slice (some ⟨g, 0, none⟩) l.length cap) l.length (cellsOf q) := by
    rcases h.row with ⟨h1, ⟨h2, _⟩ | ⟨g', cap', cur, h2, h3, h4, h5⟩⟩
    · cases h2
    · cases h2
      exact ⟨h1, .inr ⟨g, cap, cur, rfl, h3, (hf.block g hgl hgG).trans h4, h5⟩⟩
  have hap : ∀ j (hj : j < l.length), j ≠ i → ∀ b ∈ (q[j]'(by omega)).2, b ∉ (q[i]'hqi).2 := fun j hj hne b hb hb2 => by
    have hnd := (nodup_parts h.nodup).2.1
    rcases Nat.lt_or_ge j i with hlt | hge
    · have e1 : blocksOf q = blocksOf (q.take i) ++ blocksOf (q.drop i) := by rw [← blocksOf_append, List.take_append_drop]
      rw [e1] at hnd
      refine (nodup_parts hnd).2.2 b (List.mem_flatMap.2 ⟨q[j], ?_, hb⟩) (List.mem_flatMap.2 ⟨q[i], ?_, hb2⟩)
      · rw [List.mem_take_iff_getElem]; exact ⟨j, by omega, rfl⟩
      · rw [List.mem_drop_iff_getElem]; exact ⟨0, by omega, by simp⟩
    · have hlt : i < j := by omega
      have e1 : blocksOf q = blocksOf (q.take j) ++ blocksOf (q.drop j) := by rw [← blocksOf_append, List.take_append_drop]
      rw [e1] at hnd
      refine (nodup_parts hnd).2.2 b (List.mem_flatMap.2 ⟨q[i], ?_, hb2⟩) (List.mem_flatMap.2 ⟨q[j], ?_, hb⟩)
      · rw [List.mem_take_iff_getElem]; exact ⟨i, by omega, rfl⟩
      · rw [List.mem_drop_iff_getElem]; exact ⟨0, by omega, by simp⟩
  have := h.turn (w' := w') i hi q[i].1 x q[i].2 (by rw [eset]; exact hr) hx (fun j hj hne b hb => hf.block b (R.ownLt (h.each j hj) b hb) fun e => hap j hj hne b hb (hG b e)) (fun b hb => .inl hb)
  rwa [eset] at this
end
section
variable {α : Type} {z : α} {l : List α}
end
end Go.Proofs.YteammdkipnfmnaaGreatDoor.lay

namespace Go.Proofs.YteammdkipnfmnaaGreatDoor.lay
open Go Go.RowKit Go.Proofs.YteammdkipnfmnaaGreatDoor.base
set_option linter.unusedVariables false
set_option linter.unusedSimpArgs false

theorem BoxIn.all {X : Nat} {T : TypeId} (us : List Value) : ∀ {vs done : List Value} {w : World}, vs.length = us.length → BoxIn X T done vs [] w → BoxIn X T done us [] (putAll w X done.length us) ∧ w.grownBy (putAll w X done.length us) (some X) := by
  induction us with
  | nil =>
    intro vs done w hl h
    have : vs = [] := List.eq_nil_of_length_eq_zero hl
    subst this
    exact ⟨h, World.grownBy.refl _ _⟩
  | cons u us ih =>
    intro vs done w hl h
    match vs, hl with
    | v :: vs, hl =>
      have s := h.set 0 (by simp) u
      rw [Nat.add_zero] at s
      have h2 : BoxIn X T (done ++ [u]) vs [] (w.setCell ⟨X, done.length, none⟩ u) := by
        have := s.1
        unfold BoxIn at this ⊢
        simpa using this
      have t := ih (by simpa using hl) h2
      rw [List.length_append, List.length_singleton] at t
      refine ⟨?_, grownBy_trans s.2 t.2⟩
      have := t.1
      unfold BoxIn at this ⊢
      simpa [putAll] using this
theorem BoxIn.whole {X : Nat} {T : TypeId} {vs : List Value} {w : World} (h : BoxIn X T [] vs [] w) (us : List Value) (hl : vs.length = us.length) : BoxIn X T [] us [] (putAll w X 0 us) ∧ w.grownBy (putAll w X 0 us) (some X) := BoxIn.all us hl h
theorem OwnG.frozen {α : Type} {ty : TypeId} {R : Rd α} {w : World} {g n cap : Nat} {l : List α} {q : Parts} (h : OwnG ty R w (.slice (some ⟨g, 0, none⟩) n cap) l q) (j : Nat) : w.frozen? ⟨g, j, none⟩ = false := by
  have hn : n = l.length := by
    rcases h.shape with ⟨e, _⟩ | ⟨g', c', e, _⟩
    · cases e
    · cases e; rfl
  subst hn
  exact h.row.frozenAt j
theorem OwnG.nlen {α : Type} {ty : TypeId} {R : Rd α} {w : World} {g n cap : Nat} {l : List α} {q : Parts} (h : OwnG ty R w (.slice (some ⟨g, 0, none⟩) n cap) l q) : n = l.length := by
  rcases h.shape with ⟨e, _⟩ | ⟨g', c', e, _⟩
  · cases e
  · cases e; rfl
theorem OwnG.lts {α : Type} {ty : TypeId} {R : Rd α} {w : World} {g n cap : Nat} {l : List α} {q : Parts} (h : OwnG ty R w (.slice (some ⟨g, 0, none⟩) n cap) l q) : ∀ b ∈ g :: blocksOf q, b < w.heap.size := fun b hb => h.at_ b (by simpa [Value.ownBlock] using hb)
theorem OwnG.below {α : Type} {ty : TypeId} {R : Rd α} {w w' : World} {v : Value} {l : List α} {q : Parts} (h : OwnG ty R w v l q) (hb : Below w.heap.size w w') : OwnG ty R w' v l q := h.keep fun b hb2 => hb.block b (h.at_ b hb2)
end Go.Proofs.YteammdkipnfmnaaGreatDoor.lay
