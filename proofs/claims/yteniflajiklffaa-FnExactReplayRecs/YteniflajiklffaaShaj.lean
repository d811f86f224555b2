/- How values of a type lie in memory: what is read, what a call owns (with the blocks that it owns), and what a step leaves as it was. No function of the program is named here. The specification's replay: its state on the heap. The specification's replay: one record more. The specification's replay: one record more, that is not held. -/
import Derived.WalkKit
import Derived.WalkSpells
import Derived.WalkLawsBesides
import Derived.OwnWalk
import Derived.Deep.AppendLies
import Derived.Test.YteniflajiklffaaShae
import Derived.Test.YteniflajiklffaaShai
import Derived.Test.YteniflajiklffaaShag
namespace Go.Proofs.Yteniflajiklffaa.lay
open Go Go.RowKit
set_option linter.unusedVariables false

/-! ### what a step leaves as it was -/
structure Frame (G : List Nat) (w w' : World) : Prop where
  os : w'.os = w.os
  tape : w'.tape = w.tape
  output : w'.output = w.output
  size : w.heap.size ≤ w'.heap.size
  block : ∀ j, j < w.heap.size → j ∉ G → w'.heap[j]? = w.heap[j]?
def Fresh (w : World) (F F' : List Nat) : Prop := ∀ k ∈ F', k ∈ F ∨ w.heap.size ≤ k
section
variable {G G' F F' F'' : List Nat} {w w' w'' : World} {B : Nat}
theorem Frame.refl (G : List Nat) (w : World) : Frame G w w := ⟨rfl, rfl, rfl, Nat.le_refl _, fun _ _ _ => rfl⟩
theorem Frame.trans (h : Frame G w w') (k : Frame G' w' w'') (hf : Fresh w G G') : Frame G w w'' :=
  ⟨k.os.trans h.os, k.tape.trans h.tape, k.output.trans h.output, Nat.le_trans h.size k.size, fun j hj hn => (k.block j (Nat.lt_of_lt_of_le hj h.size) (fun e => by
    rcases hf j e with e | e
    · exact hn e
    · omega)).trans (h.block j hj hn)⟩
theorem Frame.mono (h : Frame G w w') (hg : ∀ k ∈ G, k ∈ G') : Frame G' w w' :=
  ⟨h.os, h.tape, h.output, h.size, fun j hj hn => h.block j hj (fun e => hn (hg j e))⟩
theorem Frame.of_below (h : Below w.heap.size w w') : Frame G w w' := ⟨h.os, h.tape, h.output, h.size, fun j hj _ => h.block j hj⟩
theorem Frame.below (h : Frame G w w') (k : Below w'.heap.size w' w'') : Frame G w w'' :=
  h.trans (G' := []) (Frame.of_below k) (fun _ e => absurd e List.not_mem_nil)
theorem Frame.grown {row : Option Nat} (h : Frame G w w') (k : w'.grownBy w'' row) (hr : ∀ k, row = some k → k ∈ G ∨ w.heap.size ≤ k) : Frame G w w'' :=
  ⟨k.os.trans h.os, k.tape.trans h.tape, k.output.trans h.output, Nat.le_trans h.size k.size, fun j hj hn => (k.block j (Nat.lt_of_lt_of_le hj h.size) (fun e => by
    rcases hr j e.symm with e2 | e2
    · exact hn e2
    · omega)).trans (h.block j hj hn)⟩
theorem Frame.bel (h : Frame G w w') (hB : B ≤ w.heap.size) (hG : ∀ k ∈ G, B ≤ k) : Below B w w' :=
  ⟨h.os, h.tape, h.output, h.size, fun j hj => h.block j (Nat.lt_of_lt_of_le hj hB) (fun e => by have := hG j e; omega)⟩
theorem Fresh.refl (w : World) (F : List Nat) : Fresh w F F := fun _ h => .inl h
theorem Fresh.trans (h : Fresh w F F') (k : Fresh w' F' F'') (hs : w.heap.size ≤ w'.heap.size) : Fresh w F F'' := fun j hj => by
  rcases k j hj with e | e
  · exact h j e
  · exact .inr (by omega)
theorem Fresh.new (h : ∀ k ∈ F', w.heap.size ≤ k) : Fresh w F F' := fun k hk => .inr (h k hk)
theorem Fresh.mono (h : Fresh w F F') (hF : ∀ k ∈ F, k ∈ G) : Fresh w G F' := fun k hk => (h k hk).imp_left (hF k)
theorem Fresh.append (h : Fresh w F F') (k : Fresh w F F'') : Fresh w F (F' ++ F'') := fun j hj => by
  rcases List.mem_append.1 hj with e | e
  · exact h j e
  · exact k j e
theorem nodup_parts (h : (F ++ F').Nodup) : F.Nodup ∧ F'.Nodup ∧ ∀ k ∈ F, k ∉ F' := by
  rw [List.nodup_append] at h
  exact ⟨h.1, h.2.1, fun k hk hk' => h.2.2 k hk k hk' rfl⟩
theorem nodup_mk (h1 : F.Nodup) (h2 : F'.Nodup) (h : ∀ k ∈ F, k ∉ F') : (F ++ F').Nodup := by
  rw [List.nodup_append]
  exact ⟨h1, h2, fun a ha b hb e => h a ha (e ▸ hb)⟩
end

/-! ### a type's way to lie -/
structure Rd (α : Type) where
  size : Nat
  see : World → List Value → α → Prop
  own : World → List Value → α → List Nat → Prop
  seeLen : ∀ {w vs x}, see w vs x → vs.length = size
  seeCells : ∀ {w w' vs x}, see w vs x → (∀ b o v, w.cell? ⟨b, o, none⟩ = some v → w'.cell? ⟨b, o, none⟩ = some v) → see w' vs x
  ownSee : ∀ {w vs x F}, own w vs x F → see w vs x
  ownAt : ∀ {w w' vs x F}, own w vs x F → (∀ k ∈ F, w'.heap[k]? = w.heap[k]?) → own w' vs x F
  ownLt : ∀ {w vs x F}, own w vs x F → ∀ k ∈ F, k < w.heap.size
  ownNodup : ∀ {w vs x F}, own w vs x F → F.Nodup
  ownOne : ∀ {w vs x F}, own w vs x F → ∀ v ∈ vs, v.oneCell' = true
section
variable {α β : Type} {R : Rd α} {S : Rd β} {w w' w'' : World} {vs us : List Value} {x : α} {F G : List Nat}
theorem Rd.ownLen (R : Rd α) (h : R.own w vs x F) : vs.length = R.size := R.seeLen (R.ownSee h)
theorem Rd.ownGrown (R : Rd α) (h : R.own w vs x F) {row : Option Nat} (hg : w.grownBy w' row) (hd : ∀ k ∈ F, some k ≠ row) : R.own w' vs x F :=
  R.ownAt h fun k hk => hg.block k (R.ownLt h k hk) (hd k hk)
end
def int : Rd Int where
  size := 1
  see _ vs x := vs = [.int .i64 x] ∧ (Lit.int .i64 x).wf = true
  own _ vs x F := (vs = [.int .i64 x] ∧ (Lit.int .i64 x).wf = true) ∧ F = []
  seeLen h := by rw [h.1]; rfl
  seeCells h _ := h
  ownSee h := h.1
  ownAt h _ := h
  ownLt h k hk := by rw [h.2] at hk; cases hk
  ownNodup h := by rw [h.2]; exact List.nodup_nil
  ownOne h v hv := by rw [h.1.1] at hv; rw [List.mem_singleton.1 hv]; rfl
def bool : Rd Bool where
  size := 1
  see _ vs x := vs = [.bool x]
  own _ vs x F := vs = [.bool x] ∧ F = []
  seeLen h := by rw [h]; rfl
  seeCells h _ := h
  ownSee h := h.1
  ownAt h _ := h
  ownLt h k hk := by rw [h.2] at hk; cases hk
  ownNodup h := by rw [h.2]; exact List.nodup_nil
  ownOne h v hv := by rw [h.1] at hv; rw [List.mem_singleton.1 hv]; rfl
def both {α β : Type} (R : Rd α) (S : Rd β) : Rd (α × β) where
  size := R.size + S.size
  see w vs x := ∃ us ts, vs = us ++ ts ∧ R.see w us x.1 ∧ S.see w ts x.2
  own w vs x F := ∃ us ts F1 F2, vs = us ++ ts ∧ F = F1 ++ F2 ∧ R.own w us x.1 F1 ∧ S.own w ts x.2 F2 ∧ F.Nodup
  seeLen := by
    rintro w vs x ⟨us, ts, rfl, h1, h2⟩
    rw [List.length_append, R.seeLen h1, S.seeLen h2]
  seeCells := by
    rintro w w' vs x ⟨us, ts, rfl, h1, h2⟩ hc
    exact ⟨us, ts, rfl, R.seeCells h1 hc, S.seeCells h2 hc⟩
  ownSee := by
    rintro w vs x F ⟨us, ts, F1, F2, rfl, rfl, h1, h2, _⟩
    exact ⟨us, ts, rfl, R.ownSee h1, S.ownSee h2⟩
  ownAt := by
    rintro w w' vs x F ⟨us, ts, F1, F2, rfl, rfl, h1, h2, hn⟩ hk
    exact ⟨us, ts, F1, F2, rfl, rfl, R.ownAt h1 (fun k e => hk k (List.mem_append.2 (.inl e))), S.ownAt h2 (fun k e => hk k (List.mem_append.2 (.inr e))), hn⟩
  ownLt := by
    rintro w vs x F ⟨us, ts, F1, F2, rfl, rfl, h1, h2, _⟩ k hk
    rcases List.mem_append.1 hk with e | e
    · exact R.ownLt h1 k e
    · exact S.ownLt h2 k e
  ownNodup := by
    rintro w vs x F ⟨us, ts, F1, F2, _, _, _, _, hn⟩
    exact hn
  ownOne := by
    rintro w vs x F ⟨us, ts, F1, F2, rfl, rfl, h1, h2, _⟩ v hv
    rcases List.mem_append.1 hv with e | e
    · exact R.ownOne h1 v e
    · exact S.ownOne h2 v e

/-! ### slices -/
def CellsAt (w : World) (b o : Nat) (vs : List Value) : Prop := ∀ j u, vs[j]? = some u → w.cell? ⟨b, o + j, none⟩ = some u
def SlG {α : Type} (R : Rd α) (w : World) (a : Option Addr) (len : Nat) (l : List α) : Prop :=
  l.length = len ∧ len ≤ maxLen ∧ (∀ x ∈ l, ∃ vs, R.see w vs x) ∧ (0 < len → ∃ b off, a = some ⟨b, off, none⟩ ∧ ∀ i (h : i < l.length), ∃ vs, R.see w vs l[i] ∧ CellsAt w b (off + i * R.size) vs)
abbrev Parts := List (List Value × List Nat)
def cellsOf (q : Parts) : List Value := q.flatMap fun p => p.1
def blocksOf (q : Parts) : List Nat := q.flatMap fun p => p.2
theorem cellsOf_append (p q : Parts) : cellsOf (p ++ q) = cellsOf p ++ cellsOf q := by simp [cellsOf]
theorem blocksOf_append (p q : Parts) : blocksOf (p ++ q) = blocksOf p ++ blocksOf q := by simp [blocksOf]
theorem cellsOf_get {q : Parts} {n : Nat} (h : ∀ p ∈ q, p.1.length = n) (i : Nat) (hi : i < q.length) (j : Nat) (hj : j < n) : (cellsOf q)[i * n + j]? = (q[i].1)[j]? := by
  induction q generalizing i with
  | nil => simp at hi
  | cons p q ih =>
    have h1 := h p List.mem_cons_self
    unfold cellsOf at ih ⊢
    rw [List.flatMap_cons]
    cases i with
    | zero => rw [List.getElem?_append_left (by omega)]; simp
    | succ i =>
      rw [List.getElem?_append_right (by rw [h1, Nat.add_mul]; omega), h1, show (i + 1) * n + j - n = i * n + j by rw [Nat.add_mul]; omega]
      exact ih (fun x hx => h x (List.mem_cons_of_mem _ hx)) i (by simpa using hi)
structure OwnG {α : Type} (ty : TypeId) (R : Rd α) (w : World) (v : Value) (l : List α) (q : Parts) : Prop where
  len : q.length = l.length
  row : w.ownsRow 0 ty R.size v l.length (cellsOf q)
  each : ∀ i (h : i < l.length), R.own w (q[i]'(by omega)).1 l[i] (q[i]'(by omega)).2
  nodup : (v.ownBlock.toList ++ blocksOf q).Nodup
section
variable {α : Type} {ty : TypeId} {R : Rd α} {w w' : World} {v : Value} {l : List α} {q : Parts}
theorem OwnG.parts (h : OwnG ty R w v l q) : ∀ p ∈ q, p.1.length = R.size := fun p hp => by
  obtain ⟨i, hi, rfl⟩ := List.getElem_of_mem hp
  exact R.ownLen (h.each i (by have := h.len; omega))
theorem OwnG.shape (h : OwnG ty R w v l q) : (v = .slice none 0 0 ∧ l = [] ∧ q = []) ∨ ∃ g cap, v = .slice (some ⟨g, 0, none⟩) l.length cap ∧ l.length ≤ cap ∧ cap ≤ maxLen := by
  rcases h.row.2 with ⟨rfl, h0⟩ | ⟨g, cap, cur, rfl, _, _, h1, h2, _⟩
  · have : l = [] := List.eq_nil_of_length_eq_zero h0
    subst this
    exact .inl ⟨rfl, rfl, List.eq_nil_of_length_eq_zero (by simpa using h.len)⟩
  · exact .inr ⟨g, cap, rfl, h1, h2⟩
theorem OwnG.slice (h : OwnG ty R w v l q) : ∃ a cap, v = .slice a l.length cap ∧ l.length ≤ cap ∧ cap ≤ maxLen := by
  rcases h.shape with ⟨rfl, rfl, _⟩ | ⟨g, cap, rfl, h1, h2⟩
  · exact ⟨none, 0, rfl, Nat.le_refl _, Nat.zero_le _⟩
  · exact ⟨_, cap, rfl, h1, h2⟩
theorem OwnG.at_ (h : OwnG ty R w v l q) (k : Nat) (hk : k ∈ v.ownBlock.toList ++ blocksOf q) : k < w.heap.size := by
  rcases List.mem_append.1 hk with e | e
  · exact (h.row.lt k (by simpa using e)).2
  · obtain ⟨p, hp, e⟩ := List.mem_flatMap.1 e
    obtain ⟨i, hi, rfl⟩ := List.getElem_of_mem hp
    exact R.ownLt (h.each i (by have := h.len; omega)) k e
theorem row_of_block {base : Nat} {e : TypeId} {size n : Nat} {xs : List Value} (h : w.ownsRow base e size v n xs) (hk : ∀ k, v.ownBlock = some k → w'.heap[k]? = w.heap[k]?) : w'.ownsRow base e size v n xs := by
  refine ⟨h.1, ?_⟩
  rcases h.2 with h' | ⟨g, cap, cur, rfl, h0, hg, r⟩
  · exact .inl h'
  · exact .inr ⟨g, cap, cur, rfl, h0, (hk g rfl).trans hg, r⟩
theorem OwnG.keep (h : OwnG ty R w v l q) (hk : ∀ k ∈ v.ownBlock.toList ++ blocksOf q, w'.heap[k]? = w.heap[k]?) : OwnG ty R w' v l q :=
  ⟨h.len, row_of_block h.row (fun k e => hk k (List.mem_append.2 (.inl (by simp [e])))),
   fun i hi => R.ownAt (h.each i hi) (fun k e => hk k (List.mem_append.2 (.inr (List.mem_flatMap.2 ⟨_, List.getElem_mem _, e⟩)))), h.nodup⟩
theorem OwnG.cells {g n cap : Nat} (h : OwnG ty R w (.slice (some ⟨g, 0, none⟩) n cap) l q) (i : Nat) (hi : i < l.length) : CellsAt w g (i * R.size) (q[i]'(by have := h.len; omega)).1 := by
  intro j u hu
  have hj : j < R.size := by
    have h1 := (List.getElem?_eq_some_iff.1 hu).1
    rwa [h.parts _ (List.getElem_mem _)] at h1
  have hn : n = l.length := by
    rcases h.shape with ⟨e, _⟩ | ⟨g', c', e, _⟩
    · cases e
    · cases e; rfl
  subst hn
  have := h.row.cells (g := g) rfl (i * R.size + j) u (by rw [cellsOf_get h.parts i (by have := h.len; omega) j hj]; exact hu)
  rwa [Addr.add_lit, Nat.zero_add] at this
theorem OwnG.fz {g n cap : Nat} (h : OwnG ty R w (.slice (some ⟨g, 0, none⟩) n cap) l q) (j : Nat) : w.frozen? ⟨g, j, none⟩ = false := by
  have hn : n = l.length := by
    rcases h.shape with ⟨e, _⟩ | ⟨g', c', e, _⟩
    · cases e
    · cases e; rfl
  subst hn
  exact h.row.frozenAt j
theorem OwnG.sl {a : Option Addr} {n cap : Nat} (h : OwnG ty R w (.slice a n cap) l q) : SlG R w a n l := by
  have hsee : ∀ x ∈ l, ∃ vs, R.see w vs x := fun x hx => by
    obtain ⟨i, hi, rfl⟩ := List.getElem_of_mem hx
    exact ⟨_, R.ownSee (h.each i hi)⟩
  rcases h.shape with ⟨e, rfl, _⟩ | ⟨g, c, e, h1, h2⟩
  · cases e; exact ⟨rfl, Nat.zero_le _, hsee, fun h => absurd h (by omega)⟩
  · cases e
    refine ⟨rfl, by omega, hsee, fun _ => ⟨g, 0, rfl, fun i hi => ⟨_, R.ownSee (h.each i hi), ?_⟩⟩⟩
    rw [Nat.zero_add]
    exact h.cells i hi
end
theorem SlG.keep {α : Type} {R : Rd α} {w w' : World} {a : Option Addr} {len : Nat} {l : List α} (h : SlG R w a len l) (hc : ∀ b o v, w.cell? ⟨b, o, none⟩ = some v → w'.cell? ⟨b, o, none⟩ = some v) : SlG R w' a len l := by
  obtain ⟨h1, h2, h3, h4⟩ := h
  refine ⟨h1, h2, fun x hx => ?_, fun h0 => ?_⟩
  · obtain ⟨vs, hv⟩ := h3 x hx
    exact ⟨vs, R.seeCells hv hc⟩
  · obtain ⟨b, off, e, hi⟩ := h4 h0
    refine ⟨b, off, e, fun i h => ?_⟩
    obtain ⟨vs, hs, hcl⟩ := hi i h
    exact ⟨vs, R.seeCells hs hc, fun j u hu => hc _ _ _ (hcl j u hu)⟩
theorem SlG.below {α : Type} {R : Rd α} {w w' : World} {a : Option Addr} {len : Nat} {l : List α} (h : SlG R w a len l) (hb : Below w.heap.size w w') : SlG R w' a len l :=
  h.keep fun b o v hv => (hb.cell (p := ⟨b, o, none⟩) (World.block_lt_of_cell? w _ hv)).trans hv
def slice {α : Type} (ty : TypeId) (R : Rd α) : Rd (List α) where
  size := 1
  see w vs l := ∃ a len cap, vs = [.slice a len cap] ∧ len ≤ cap ∧ SlG R w a len l
  own w vs l F := ∃ v q, vs = [v] ∧ F = v.ownBlock.toList ++ blocksOf q ∧ OwnG ty R w v l q
  seeLen := by rintro w vs x ⟨a, len, cap, rfl, _⟩; rfl
  seeCells := by
    rintro w w' vs x ⟨a, len, cap, rfl, hc, h⟩ hk
    exact ⟨a, len, cap, rfl, hc, h.keep hk⟩
  ownSee := by
    rintro w vs x F ⟨v, q, rfl, rfl, h⟩
    obtain ⟨a, cap, rfl, hc, _⟩ := h.slice
    exact ⟨a, _, cap, rfl, hc, h.sl⟩
  ownAt := by
    rintro w w' vs x F ⟨v, q, rfl, rfl, h⟩ hk
    exact ⟨v, q, rfl, rfl, h.keep hk⟩
  ownLt := by
    rintro w vs x F ⟨v, q, rfl, rfl, h⟩ k hk
    exact h.at_ k hk
  ownNodup := by
    rintro w vs x F ⟨v, q, rfl, rfl, h⟩
    exact h.nodup
  ownOne := by
    rintro w vs x F ⟨v, q, rfl, rfl, h⟩ u hu
    rw [List.mem_singleton.1 hu]
    obtain ⟨a, cap, rfl, _⟩ := h.slice
    rfl
section
variable {α : Type} {ty : TypeId} {R : Rd α} {w w' w7 : World} {v v7 : Value} {l : List α} {q : Parts} {F : List Nat}
theorem OwnG.snoc {x : α} {vs : List Value} {G : List Nat} {g cap H : Nat} (h : OwnG ty R w v l q) (hx : R.own w vs x G) (hd : ∀ k ∈ G, k ∉ v.ownBlock.toList ++ blocksOf q)
    (hown : w7.ownsRow 0 ty R.size (.slice (some ⟨g, 0, none⟩) (l.length + 1) cap) (l.length + 1) (cellsOf q ++ vs)) (hgrow : w.grownBy w7 v.ownBlock) (hat : v.ownBlock = some g ∨ g = H) (hH : w.heap.size = H) :
    OwnG ty R w7 (.slice (some ⟨g, 0, none⟩) (l.length + 1) cap) (l ++ [x]) (q ++ [(vs, G)]) := by
  have hlen := h.len
  obtain ⟨n1, n2, n3⟩ := nodup_parts h.nodup
  have hg1 : ∀ k ∈ blocksOf q, some k ≠ v.ownBlock := fun k hk e => n3 k (by rw [← e]; simp) hk
  have hg2 : ∀ k ∈ G, some k ≠ v.ownBlock := fun k hk e => hd k hk (List.mem_append.2 (.inl (by rw [← e]; simp)))
  refine ⟨by simp [hlen], ?_, fun i hi => ?_, ?_⟩
  · rw [cellsOf_append, List.length_append]
    simpa [cellsOf] using hown
  · by_cases e : i < l.length
    · simp only [List.getElem_append_left e, List.getElem_append_left (show i < q.length by omega)]
      exact R.ownGrown (h.each i e) hgrow (fun k hk => hg1 k (List.mem_flatMap.2 ⟨_, List.getElem_mem _, hk⟩))
    · have : i = l.length := by simp at hi; omega
      subst this
      rw [List.getElem_append_right (Nat.le_refl _)]
      simp only [List.getElem_append_right (show q.length ≤ l.length by omega)]
      simp only [hlen, Nat.sub_self, List.getElem_cons_zero]
      exact R.ownGrown hx hgrow hg2
  · have hgq : g ∉ blocksOf q := by
      rcases hat with e | e
      · exact n3 g (by rw [e]; simp)
      · intro hk
        have := h.at_ g (List.mem_append.2 (.inr hk))
        omega
    have hgG : g ∉ G := by
      rcases hat with e | e
      · exact fun hk => hg2 g hk e.symm
      · intro hk
        have := R.ownLt hx g hk
        omega
    have e1 : (Value.slice (some ⟨g, 0, none⟩) (l.length + 1) cap).ownBlock.toList ++ blocksOf (q ++ [(vs, G)]) = g :: (blocksOf q ++ G) := by
      rw [blocksOf_append]; simp [Value.ownBlock, blocksOf]
    rw [e1, List.nodup_cons]
    refine ⟨fun hk => ?_, nodup_mk n2 (R.ownNodup hx) (fun k hk hk2 => hd k hk2 (List.mem_append.2 (.inr hk)))⟩
    rcases List.mem_append.1 hk with e | e
    · exact hgq e
    · exact hgG e
theorem OwnG.take {a : Option Addr} {n cap : Nat} (h : OwnG ty R w (.slice a n cap) l q) (k : Nat) (hk : k ≤ l.length) : OwnG ty R w (.slice a k cap) (l.take k) (q.take k) := by
  have hlen := h.len
  have hsub : ∀ j ∈ blocksOf (q.take k), j ∈ blocksOf q := fun j hj => by
    obtain ⟨p, hp, e⟩ := List.mem_flatMap.1 hj
    exact List.mem_flatMap.2 ⟨p, List.mem_of_mem_take hp, e⟩
  have hcells : cellsOf (q.take k) = (cellsOf q).take (k * R.size) := by
    have hp := h.parts
    clear h hsub
    induction q generalizing k l with
    | nil => simp [cellsOf]
    | cons p q ih =>
      cases k with
      | zero => simp [cellsOf]
      | succ k =>
        have h1 := hp p List.mem_cons_self
        cases l with
        | nil => simp at hk
        | cons y l =>
          have := ih (l := l) k (by simpa using hk) (by simpa using hlen) (fun x hx => hp x (List.mem_cons_of_mem _ hx))
          unfold cellsOf at this ⊢
          rw [List.take_succ_cons, List.flatMap_cons, List.flatMap_cons, this, List.take_append, h1, List.take_of_length_le (l := p.1) (by rw [h1, Nat.add_mul]; omega), show (k + 1) * R.size - R.size = k * R.size by rw [Nat.add_mul]; omega]
  refine ⟨by simp [hlen], ?_, fun i hi => ?_, ?_⟩
  · have hl2 : (l.take k).length = k := by simp; omega
    rw [hl2, hcells]
    have hcl := h.row.1
    refine ⟨by rw [List.length_take, hcl]; exact Nat.min_eq_left (Nat.mul_le_mul_right _ hk), ?_⟩
    rcases h.row.2 with ⟨e, h0⟩ | ⟨g, c, cur, e, hb, hg, h1, h2, h3, h4⟩
    · cases e; exact .inl ⟨by have : k = 0 := by omega
                              subst this; rfl, by omega⟩
    · cases e
      refine .inr ⟨g, _, cur, rfl, hb, hg, by omega, h2, h3, ?_⟩
      rw [← h4, List.take_take, Nat.min_eq_left (Nat.mul_le_mul_right _ hk)]
  · have hi' : i < l.length := by simp at hi; omega
    simp only [List.getElem_take]
    exact h.each i hi'
  · obtain ⟨n1, n2, n3⟩ := nodup_parts h.nodup
    refine nodup_mk (by cases a <;> simp [Value.ownBlock]) ?_ (fun j hj hj2 => ?_)
    · refine List.Nodup.sublist ?_ n2
      rw [← List.take_append_drop k q, blocksOf_append]
      rw [List.take_append_drop]
      exact List.sublist_append_left _ _
    · exact n3 j (by cases a with
        | none => simp [Value.ownBlock] at hj
        | some ad => simpa [Value.ownBlock] using hj) (hsub j hj2)
end
end Go.Proofs.Yteniflajiklffaa.lay

namespace Go.Proofs.Yteniflajiklffaa.recs
open Go Go.RowKit Go.Proofs.Yteniflajiklffaa.base Go.Proofs.Yteniflajiklffaa.pairs Go.Proofs.Yteniflajiklffaa.ords
set_option linter.unusedVariables false
set_option linter.unusedSimpArgs false

def BoxS (X : Nat) (x y z : Value) (w : World) : Prop := w.heap[X]? = some (.cells #[x, y, z] 88 (0, 0))
section
variable {X : Nat} {x y z : Value} {w w' : World}
theorem BoxS.cells (h : BoxS X x y z w) : w.cell? ⟨X, 0, none⟩ = some x ∧ w.cell? ⟨X, 1, none⟩ = some y ∧ w.cell? ⟨X, 2, none⟩ = some z := by
  unfold BoxS at h
  simp [World.cell?, h]
theorem BoxS.lt (h : BoxS X x y z w) : X < w.heap.size := (Array.getElem?_eq_some_iff.1 h).1
theorem BoxS.below (h : BoxS X x y z w) (hb : Below w.heap.size w w') : BoxS X x y z w' := (hb.block X h.lt).trans h
theorem BoxS.grown {row : Option Nat} (h : BoxS X x y z w) (hg : w.grownBy w' row) (hne : some X ≠ row) : BoxS X x y z w' := (hg.block X h.lt hne).trans h
theorem BoxS.fz (h : BoxS X x y z w) (j : Nat) : w.frozen? ⟨X, j, none⟩ = false := by unfold BoxS at h; simp [World.frozen?, h]
theorem BoxS.ne {b size n : Nat} {e : TypeId} {v : Value} {xs : List Value} (h : BoxS X x y z w) (h2 : w.ownsRow b e size v n xs) (hne : e ≠ 88) : some X ≠ v.ownBlock := by
  intro hk
  rcases h2.2 with ⟨rfl, _⟩ | ⟨g, c, cur, rfl, _, hg, _⟩
  · cases hk
  simp only [Value.ownBlock, Option.some.injEq] at hk
  unfold BoxS at h
  rw [hk, hg] at h
  injection h with h
  injection h with _ he
  exact hne he
end
def OwnQ (w : World) (base : Nat) (v : Value) (zs : List Int) : Prop := w.ownsRow base 3 1 v zs.length (intVals zs)
section
variable {w w' : World} {base : Nat} {v : Value} {zs : List Int}
theorem ownQ_nil (w : World) (base : Nat) : OwnQ w base (.slice none 0 0) [] := World.ownsRow_nil _ _ _ _
theorem OwnQ.sl (h : OwnQ w base v zs) : ∃ a cap, v = .slice a zs.length cap ∧ SlZ w a zs.length zs := by
  rcases h.2 with ⟨rfl, h0⟩ | ⟨g, cap, cur, rfl, _, _, h1, h2, _⟩
  · have : zs = [] := List.eq_nil_of_length_eq_zero h0
    subst this
    exact ⟨none, 0, rfl, rfl, Nat.zero_le _, fun h => absurd h (by simp)⟩
  · exact ⟨_, cap, rfl, OwnZ.sl (base := base) ⟨rfl, h⟩⟩
end
def OwnPV (w : World) (a : Option Addr) (n cap : Nat) (l : List Pr) : Prop := l.length = n ∧ (∀ p ∈ l, small p) ∧ w.ownsRow 0 102 2 (.slice a n cap) n (pairVals l)
section
variable {w w' : World} {a : Option Addr} {g n cap base : Nat} {l : List Pr}
theorem ownPV_of (h : OwnP w base g n cap l) : OwnPV w (some ⟨g, 0, none⟩) n cap l := ⟨h.1, h.2.1, (h.mono (base' := 0) (Nat.zero_le _)).2.2⟩
theorem OwnPV.shape (h : OwnPV w a n cap l) : (a = none ∧ n = 0 ∧ cap = 0 ∧ l = []) ∨ ∃ g, a = some ⟨g, 0, none⟩ ∧ OwnP w 0 g n cap l := by
  obtain ⟨h1, h2, h3⟩ := h
  rcases h3.2 with ⟨e, h0⟩ | ⟨g, c, cur, e, _⟩
  · cases e
    exact .inl ⟨rfl, rfl, rfl, List.eq_nil_of_length_eq_zero h1⟩
  · cases e
    exact .inr ⟨g, rfl, show OwnP w 0 g n cap l from ⟨h1, h2, h3⟩⟩
theorem OwnPV.sl (h : OwnPV w a n cap l) : SlP w a n l := by
  rcases h.shape with ⟨rfl, rfl, rfl, rfl⟩ | ⟨g, rfl, h⟩
  · exact slp_nil _ _
  · exact OwnP.sl h
theorem OwnPV.spot (h : OwnPV w a n cap l) : ∀ ad, a = some ad → ad.spot = none := by
  rcases h.shape with ⟨rfl, _⟩ | ⟨g, rfl, _⟩
  · intro ad e; cases e
  · intro ad e; cases e; rfl
theorem OwnPV.lt (h : OwnPV w a n cap l) (k : Nat) (hk : (Value.slice a n cap).ownBlock = some k) : k < w.heap.size := (h.2.2.lt k hk).2
theorem OwnPV.of_block (h : OwnPV w a n cap l) (hk : ∀ k, (Value.slice a n cap).ownBlock = some k → w'.heap[k]? = w.heap[k]?) : OwnPV w' a n cap l := ⟨h.1, h.2.1, rowR_of_block h.2.2 hk⟩
theorem OwnPV.below (h : OwnPV w a n cap l) (hb : Below w.heap.size w w') : OwnPV w' a n cap l := h.of_block fun k hk => hb.block k (h.lt k hk)
end
structure Kept (N : Prop) (w0 : World) (F0 : List Nat) (w : World) (X : Nat) (am : Option Addr) (nm cm : Nat) (ah : Option Addr) (ch : Nat) (vs : Value) (s : St) (hs : List Value) : Prop where
  box : BoxS X (.slice am nm cm) (.slice ah s.2.1.length ch) vs w
  m : OwnPV w am nm cm s.1
  held : OwnR w 0 (.slice ah s.2.1.length ch) s.2.1 hs
  seen : OwnQ w 0 vs s.2.2
  fr : lay.Frame (X :: F0) w0 w
  newM : ∀ k, (Value.slice am nm cm).ownBlock = some k → k ∈ F0 ∨ w0.heap.size ≤ k
  newH : ∀ k, BlkR (.slice ah s.2.1.length ch) hs k → k ∈ F0 ∨ w0.heap.size ≤ k
  newS : ∀ k, vs.ownBlock = some k → k ∈ F0 ∨ w0.heap.size ≤ k
  nnM : N → am ≠ none
  nnH : N → ah ≠ none
section
variable {N : Prop} {w0 w w' w7 : World} {F0 : List Nat} {X nm cm ch : Nat} {am ah : Option Addr} {vs : Value} {s : St} {hs : List Value}
theorem Kept.below (h : Kept N w0 F0 w X am nm cm ah ch vs s hs) (hb : Below w.heap.size w w') : Kept N w0 F0 w' X am nm cm ah ch vs s hs :=
  ⟨h.box.below hb, h.m.below hb, h.held.below hb, rowR_of_block h.seen fun k hk => hb.block k (h.seen.lt k hk).2, h.fr.below hb, h.newM, h.newH, h.newS, h.nnM, h.nnH⟩
theorem new_at {w0 w : World} {F0 : List Nat} {v : Value} {g H : Nat} (hn : ∀ k, v.ownBlock = some k → k ∈ F0 ∨ w0.heap.size ≤ k) (hat : v.ownBlock = some g ∨ g = H) (hH : w.heap.size = H) (hs : w0.heap.size ≤ w.heap.size) : g ∈ F0 ∨ w0.heap.size ≤ g := by
  rcases hat with e | e
  · exact hn g e
  · exact .inr (by omega)
theorem Kept.heldRow {v : Value} {e : TypeId} {size n : Nat} {xs : List Value} (h : Kept N w0 F0 w X am nm cm ah ch vs s hs) (h2 : w.ownsRow 0 e size v n xs) (h1 : e ≠ 91) (h3 : e ≠ 111) (k : Nat) (hk : BlkR (.slice ah s.2.1.length ch) hs k) : some k ≠ v.ownBlock := by
  intro e0
  rcases hk with e2 | ⟨y, hy, e2⟩
  · exact recRow_ne h.held.row h2 e2 e0.symm (fun e => h1 e.symm)
  · obtain ⟨i, hi, rfl⟩ := List.getElem_of_mem hy
    exact recRow_ne (h.held.ops i (by have := h.held.len; omega)).2 h2 e2 e0.symm (fun e => h3 e.symm)
theorem box_out {y : Value} {l : List Rc} (b7 : BoxS X (.slice am nm cm) (.slice ah s.2.1.length ch) y w) {v : Value} {hs : List Value} (hh : OwnR w 0 v l hs) (k : Nat) (hk : BlkR v hs k) : k ≠ X := by
  intro e
  rcases hk with e2 | ⟨y, hy, e2⟩
  · exact b7.ne hh.row (by decide) (by rw [e2, e])
  · obtain ⟨i, hi, rfl⟩ := List.getElem_of_mem hy
    exact b7.ne (hh.ops i (by have := hh.len; omega)).2 (by decide) (by rw [e2, e])
theorem Kept.see {g7 c7 H : Nat} {z : Int} (h : Kept N w0 F0 w X am nm cm ah ch vs s hs) (hown : w7.ownsRow 0 3 1 (.slice (some ⟨g7, 0, none⟩) (s.2.2.length + 1) c7) (s.2.2.length + 1) (intVals s.2.2 ++ intVals [z])) (hgrow : w.grownBy w7 vs.ownBlock) (hat : vs.ownBlock = some g7 ∨ g7 = H) (hH : w.heap.size = H) :
    BoxS X (.slice am nm cm) (.slice ah s.2.1.length ch) vs w7 ∧ Kept N w0 F0 (w7.setCell ⟨X, 2, none⟩ (.slice (some ⟨g7, 0, none⟩) (s.2.2.length + 1) c7)) X am nm cm ah ch (.slice (some ⟨g7, 0, none⟩) (s.2.2.length + 1) c7) (s.1, s.2.1, s.2.2 ++ [z]) hs := by
  have hX := h.box.ne h.seen (by decide)
  have b7 := h.box.grown hgrow hX
  have hm7 : OwnPV w7 am nm cm s.1 := h.m.of_block fun k hk => hgrow.block k (h.m.lt k hk) (fun e => recRow_ne h.m.2.2 h.seen hk e.symm (by decide))
  have hh7 : OwnR w7 0 (.slice ah s.2.1.length ch) s.2.1 hs := h.held.of_blocks fun k hk => hgrow.block k (h.held.lt k hk).2 (h.heldRow h.seen (by decide) (by decide) k hk)
  have hs7 : OwnQ w7 0 (.slice (some ⟨g7, 0, none⟩) (s.2.2.length + 1) c7) (s.2.2 ++ [z]) := by unfold OwnQ; rw [intVals_append, List.length_append]; exact hown
  have c8 := set_cur b7 2 (.slice (some ⟨g7, 0, none⟩) (s.2.2.length + 1) c7)
  refine ⟨b7, c8.1, hm7.of_block fun k hk => c8.2.block k (hm7.lt k hk) (fun e => b7.ne hm7.2.2 (by decide) (by rw [hk, e])), hh7.of_blocks fun k hk => c8.2.block k (hh7.lt k hk).2 (fun e => box_out b7 hh7 k hk (Option.some.inj e)), rowR_of_block hs7 fun k hk => c8.2.block k (hs7.lt k hk).2 (fun e => b7.ne hs7 (by decide) (by rw [hk, e])), ?_, h.newM, h.newH, fun k hk => ?_, h.nnM, h.nnH⟩
  · have B7 := h.fr.grown hgrow (fun k e => (h.newS k e).imp_left (List.mem_cons_of_mem _))
    exact B7.grown c8.2 (fun k e => .inl (by rw [← Option.some.inj e]; exact List.mem_cons_self))
  · have : g7 = k := by simpa [Value.ownBlock] using hk
    subst this
    exact new_at h.newS hat hH h.fr.size
theorem Kept.hold {g7 c7 H : Nat} {x : Rc} {y : Value} (h : Kept N w0 F0 w X am nm cm ah ch vs s hs) (hP : OwnV w 0 y x.2.2) (hx : smallR x) (hy : ∀ k, y.ownBlock = some k → ¬ BlkR (.slice ah s.2.1.length ch) hs k) (hyn : ∀ k, y.ownBlock = some k → w0.heap.size ≤ k)
    (hown : w7.ownsRow 0 91 3 (.slice (some ⟨g7, 0, none⟩) (s.2.1.length + 1) c7) (s.2.1.length + 1) (recVals s.2.1 hs ++ [.int .i64 x.1, .int .i64 x.2.1, y])) (hgrow : w.grownBy w7 (Value.slice ah s.2.1.length ch).ownBlock) (hat : (Value.slice ah s.2.1.length ch).ownBlock = some g7 ∨ g7 = H) (hH : w.heap.size = H) :
    BoxS X (.slice am nm cm) (.slice ah s.2.1.length ch) vs w7 ∧ Kept N w0 F0 (w7.setCell ⟨X, 1, none⟩ (.slice (some ⟨g7, 0, none⟩) (s.2.1.length + 1) c7)) X am nm cm (some ⟨g7, 0, none⟩) c7 vs (s.1, s.2.1 ++ [x], s.2.2) (hs ++ [y]) := by
  have hX := h.box.ne h.held.row (by decide)
  have b7 := h.box.grown hgrow hX
  have hm7 : OwnPV w7 am nm cm s.1 := h.m.of_block fun k hk => hgrow.block k (h.m.lt k hk) (fun e => recRow_ne h.m.2.2 h.held.row hk e.symm (by decide))
  have hh7 : OwnR w7 0 (.slice (some ⟨g7, 0, none⟩) (s.2.1.length + 1) c7) (s.2.1 ++ [x]) (hs ++ [y]) := h.held.snoc hP hx hy hown hgrow
  have hs7 : OwnQ w7 0 vs s.2.2 := rowR_of_block h.seen fun k hk => hgrow.block k (h.seen.lt k hk).2 (fun e => recRow_ne h.seen h.held.row hk e.symm (by decide))
  have c8 := set_cur b7 1 (.slice (some ⟨g7, 0, none⟩) (s.2.1.length + 1) c7)
  refine ⟨b7, ?_, hm7.of_block fun k hk => c8.2.block k (hm7.lt k hk) (fun e => b7.ne hm7.2.2 (by decide) (by rw [hk, e])), ?_, rowR_of_block hs7 fun k hk => c8.2.block k (hs7.lt k hk).2 (fun e => b7.ne hs7 (by decide) (by rw [hk, e])), ?_, h.newM, fun k hk => ?_, h.newS, h.nnM, fun _ e => by cases e⟩
  · have := c8.1
    simp only [List.length_append, List.length_singleton]
    exact this
  · simp only [List.length_append, List.length_singleton]
    exact hh7.of_blocks fun k hk => c8.2.block k (hh7.lt k hk).2 (fun e => box_out b7 hh7 k hk (Option.some.inj e))
  · have B7 := h.fr.grown hgrow (fun k e => (h.newH k (.inl e)).imp_left (List.mem_cons_of_mem _))
    exact B7.grown c8.2 (fun k e => .inl (by rw [← Option.some.inj e]; exact List.mem_cons_self))
  · rcases hk with e | ⟨z, hz, e⟩
    · have : g7 = k := by simpa [Value.ownBlock] using e
      subst this
      exact new_at (v := .slice ah s.2.1.length ch) (fun j hj => h.newH j (.inl hj)) hat hH h.fr.size
    · rcases List.mem_append.1 hz with e2 | e2
      · exact h.newH k (.inr ⟨z, e2, e⟩)
      · rw [List.mem_singleton.1 e2] at e
        exact .inr (hyn k e)
theorem Kept.pairs {g' n' c' : Nat} {m' : List Pr} (h : Kept N w0 F0 w X am nm cm ah ch vs s hs) (hO : OwnP w w0.heap.size g' n' c' m') :
    Kept N w0 F0 (w.setCell ⟨X, 0, none⟩ (.slice (some ⟨g', 0, none⟩) n' c')) X (some ⟨g', 0, none⟩) n' c' ah ch vs (m', s.2.1, s.2.2) hs := by
  have c8 := set_cur h.box 0 (.slice (some ⟨g', 0, none⟩) n' c')
  have hm := ownPV_of hO
  refine ⟨c8.1, hm.of_block fun k hk => c8.2.block k (hm.lt k hk) (fun e => h.box.ne hm.2.2 (by decide) (by rw [hk, e])), h.held.of_blocks fun k hk => c8.2.block k (h.held.lt k hk).2 (fun e => box_out h.box h.held k hk (Option.some.inj e)), rowR_of_block h.seen fun k hk => c8.2.block k (h.seen.lt k hk).2 (fun e => h.box.ne h.seen (by decide) (by rw [hk, e])), h.fr.grown c8.2 (fun k e => .inl (by rw [← Option.some.inj e]; exact List.mem_cons_self)), fun k hk => ?_, h.newH, h.newS, (fun _ e => by cases e), h.nnH⟩
  have : g' = k := by simpa [Value.ownBlock] using hk
  subst this
  exact .inr hO.lt.1
theorem Kept.cut {g' c' : Nat} {l' : List Rc} {hs' : List Value} (h : Kept N w0 F0 w X am nm cm ah ch vs s hs) (hO : OwnR w 0 (.slice (some ⟨g', 0, none⟩) l'.length c') l' hs') (hg : w0.heap.size ≤ g') (hsub : ∀ y ∈ hs', y ∈ hs) :
    Kept N w0 F0 (w.setCell ⟨X, 1, none⟩ (.slice (some ⟨g', 0, none⟩) l'.length c')) X am nm cm (some ⟨g', 0, none⟩) c' vs (s.1, l', s.2.2) hs' := by
  have c8 := set_cur h.box 1 (.slice (some ⟨g', 0, none⟩) l'.length c')
  refine ⟨c8.1, h.m.of_block fun k hk => c8.2.block k (h.m.lt k hk) (fun e => h.box.ne h.m.2.2 (by decide) (by rw [hk, e])), hO.of_blocks fun k hk => c8.2.block k (hO.lt k hk).2 (fun e => box_out h.box hO k hk (Option.some.inj e)), rowR_of_block h.seen fun k hk => c8.2.block k (h.seen.lt k hk).2 (fun e => h.box.ne h.seen (by decide) (by rw [hk, e])), h.fr.grown c8.2 (fun k e => .inl (by rw [← Option.some.inj e]; exact List.mem_cons_self)), h.newM, fun k hk => ?_, h.newS, h.nnM, fun _ e => by cases e⟩
  rcases hk with e | ⟨y, hy, e⟩
  · have : g' = k := by simpa [Value.ownBlock] using e
    subst this
    exact .inr hg
  · exact h.newH k (.inr ⟨y, hsub y hy, e⟩)
end
end Go.Proofs.Yteniflajiklffaa.recs

namespace Go.Proofs.Yteniflajiklffaa.recs
open Go Go.RowKit Go.Proofs.Yteniflajiklffaa.base Go.Proofs.Yteniflajiklffaa.pairs Go.Proofs.Yteniflajiklffaa.ords
set_option linter.unusedVariables false
set_option linter.unusedSimpArgs false

def OnePost (N : Prop) (w0 : World) (F0 : List Nat) (X : Nat) (r : Option St) (e : Ending) (w' : World) : Prop :=
  match r with
  | none => e = .returned (.bool false) ∧ lay.Frame (X :: F0) w0 w'
  | some t => e = .returned (.bool true) ∧ ∃ am nm cm ah ch vs hs, Kept N w0 F0 w' X am nm cm ah ch vs t hs

def OverPost (N : Prop) (w0 : World) (F0 : List Nat) (X : Nat) (t : St) (e : Ending) (w' : World) : Prop := e = .returned (.bool false) ∧ ∃ am nm cm ah ch vs hs, Kept N w0 F0 w' X am nm cm ah ch vs t hs
theorem OverPost.none {N : Prop} {w0 w' : World} {F0 : List Nat} {X : Nat} {t : St} {e : Ending} (h : OverPost N w0 F0 X t e w') : OnePost N w0 F0 X none e w' := by
  obtain ⟨h1, _, _, _, _, _, _, _, hK⟩ := h
  exact ⟨h1, hK.fr⟩
set_option maxRecDepth 100000 in
set_option maxHeartbeats 4000000 in
theorem one_bad (N : Prop) (w0 : World) (F0 : List Nat) (w : World) (X : Nat) (am : Option Addr) (nm cm : Nat) (ah : Option Addr) (ch : Nat) (vs : Value) (s : St) (hs : List Value) (kind tx : Int) (a : Option Addr) (len cap : Nat) (ops : List Od)
    (hK : Kept N w0 F0 w X am nm cm ah ch vs s hs) (hSo : SlO w a len ops) (hks : ∀ p ∈ ops, p.2.1.size ≤ 1099511627776) (hok : recOk (kind, tx, ops) = false) :
    Calls Try.prog 42 #[.pointer (some ⟨X, 0, none⟩), .agg #[.int .i64 kind, .int .i64 tx, .slice a len cap]] w (OnePost N w0 F0 X none) := by
  obtain ⟨V, hV⟩ : ∃ V, V = w.alloc (.cells #[.int .i64 kind, .int .i64 tx, .slice a len cap] 91) := ⟨_, rfl⟩
  have hbV : Below w.heap.size w V := by rw [hV]; exact (Below.refl _ _).alloc (Nat.le_refl _) _
  have hbx : BoxR w.heap.size kind tx (.slice a len cap) V := by rw [hV]; exact boxR_new _ _ _ _
  have hKV := hK.below hbV
  have hXl := hKV.box.lt
  have hRl := hbx.lt
  have y1 := last.On.cell (B := V.heap.size) hKV.box.cells.2.1 hXl
  have y2 := last.On.cell (B := V.heap.size) hbx.cells.2.1 hRl
  have hAt : ∀ x9 : last.On V.heap.size V, Calls Try.prog 77 #[.slice ah s.2.1.length ch, .int .i64 tx] x9.w fun e w' => e = .returned (.int .i64 (atRet (placeTx tx s.2.1))) ∧ ∃ y9 : last.On V.heap.size V, w' = y9.w := fun x9 => last.Calls.on x9 (Nat.le_refl _) ((spec_l8At _ _ ch s.2.1 tx x9.w (hKV.held.below x9.2).sl).mono (fun e w' h => ⟨h.1, h.2 ▸ Below.refl _ _⟩))
  have hinh := last.On.inh V.heap.size V
  have HV := Hid.mk' hV.symm
  clear hV
  go_enter Try.func42, Try.ntmps42
  go_wp2_with fail
  rw [HV.out]
  refine last.wp_region_on V.heap.size (by kernel_rfl) (by kernel_rfl) ?_
  repeat (go_big_quiet_step ((go_at_call 77; with_reducible exact hAt _)))
  refine wpQuiet_nil ?_
  intro w1 hw1
  obtain ⟨x1, hw1⟩ := hw1
  have hb1 : Below V.heap.size V w1 := by rw [hw1]; exact x1.2
  clear hw1 x1
  have hbx1 := hbx.below hb1
  have hK1 := hKV.below hb1
  have HOK := Hid.mk' (spec_recOk kind tx a len cap ops w1 ((hSo.below hbV).below hb1) hks)
  obtain ⟨d0, d1, d2⟩ := hbx1.cells
  clear y1 y2 hAt hinh
  go_wp2_with fail
  refine HOK.out.mono ?_
  rintro e w2 ⟨rfl, hb2⟩
  rw [hok]
  have hK2 := hK1.below hb2
  go_wp2_with fail
  go_ret
  exact ⟨rfl, hK2.fr⟩
end Go.Proofs.Yteniflajiklffaa.recs

namespace Go.Proofs.Yteniflajiklffaa.recs
open Go Go.RowKit Go.Proofs.Yteniflajiklffaa.base Go.Proofs.Yteniflajiklffaa.pairs Go.Proofs.Yteniflajiklffaa.ords
set_option linter.unusedVariables false
set_option linter.unusedSimpArgs false

set_option maxRecDepth 100000 in
set_option maxHeartbeats 4000000 in
theorem one_has (N : Prop) (w0 : World) (F0 : List Nat) (w : World) (X : Nat) (am : Option Addr) (nm cm : Nat) (ah : Option Addr) (ch : Nat) (vs : Value) (s : St) (hs : List Value) (tx : Int) (a : Option Addr) (len cap : Nat) (ops : List Od)
    (hK : Kept N w0 F0 w X am nm cm ah ch vs s hs) (hSo : SlO w a len ops) (hks : ∀ p ∈ ops, p.2.1.size ≤ 1099511627776) (hok : recOk (1, tx, ops) = true) (h1 : decide (tx ∈ s.2.2) = true) :
    Calls Try.prog 42 #[.pointer (some ⟨X, 0, none⟩), .agg #[.int .i64 1, .int .i64 tx, .slice a len cap]] w (OnePost N w0 F0 X none) := by
  obtain ⟨sa, sc, hvs, hSz⟩ := hK.seen.sl
  subst hvs
  obtain ⟨V, hV⟩ : ∃ V, V = w.alloc (.cells #[.int .i64 1, .int .i64 tx, .slice a len cap] 91) := ⟨_, rfl⟩
  have hbV : Below w.heap.size w V := by rw [hV]; exact (Below.refl _ _).alloc (Nat.le_refl _) _
  have hbx : BoxR w.heap.size 1 tx (.slice a len cap) V := by rw [hV]; exact boxR_new _ _ _ _
  have hKV := hK.below hbV
  have hXl := hKV.box.lt
  have hRl := hbx.lt
  have y1 := last.On.cell (B := V.heap.size) hKV.box.cells.2.1 hXl
  have y2 := last.On.cell (B := V.heap.size) hbx.cells.2.1 hRl
  have hAt : ∀ x9 : last.On V.heap.size V, Calls Try.prog 77 #[.slice ah s.2.1.length ch, .int .i64 tx] x9.w fun e w' => e = .returned (.int .i64 (atRet (placeTx tx s.2.1))) ∧ ∃ y9 : last.On V.heap.size V, w' = y9.w := fun x9 => last.Calls.on x9 (Nat.le_refl _) ((spec_l8At _ _ ch s.2.1 tx x9.w (hKV.held.below x9.2).sl).mono (fun e w' h => ⟨h.1, h.2 ▸ Below.refl _ _⟩))
  have hinh := last.On.inh V.heap.size V
  have HV := Hid.mk' hV.symm
  clear hV
  generalize hP : atRet (placeTx tx s.2.1) = P at hAt
  go_enter Try.func42, Try.ntmps42
  go_wp2_with fail
  rw [HV.out]
  refine last.wp_region_on V.heap.size (by kernel_rfl) (by kernel_rfl) ?_
  repeat (go_big_quiet_step ((go_at_call 77; with_reducible exact hAt _)))
  refine wpQuiet_nil ?_
  intro w1 hw1
  obtain ⟨x1, hw1⟩ := hw1
  have hb1 : Below V.heap.size V w1 := by rw [hw1]; exact x1.2
  clear hw1 x1
  have hbx1 := hbx.below hb1
  have hK1 := hKV.below hb1
  have HOK := Hid.mk' (spec_recOk 1 tx a len cap ops w1 ((hSo.below hbV).below hb1) hks)
  obtain ⟨d0, d1, d2⟩ := hbx1.cells
  clear y1 y2 hAt hinh
  go_wp2_with fail
  refine HOK.out.mono ?_
  rintro e w2 ⟨rfl, hb2⟩
  rw [hok]
  have hK2 := hK1.below hb2
  have hbx2 := hbx1.below hb2
  have hSo2 := ((hSo.below hbV).below hb1).below hb2
  have hSz2 := ((hSz.below hbV).below hb1).below hb2
  clear d0 d1 d2 HOK HV hbx1 hbx hKV hXl hRl
  obtain ⟨d0, d1, d2⟩ := hbx2.cells
  have hX2 := hK2.box.lt
  have hR2 := hbx2.lt
  have o0 := last.On.cell (B := w2.heap.size) hK2.box.cells.1 hX2
  have o1 := last.On.cell (B := w2.heap.size) hK2.box.cells.2.1 hX2
  have o2 := last.On.cell (B := w2.heap.size) hK2.box.cells.2.2 hX2
  have o3 := last.On.cell (B := w2.heap.size) hbx2.cells.1 hR2
  have o4 := last.On.cell (B := w2.heap.size) hbx2.cells.2.1 hR2
  have o5 := last.On.cell (B := w2.heap.size) hbx2.cells.2.2 hR2
  have hinh2 := last.On.inh w2.heap.size w2
  have hHas : ∀ x9 : last.On w2.heap.size w2, Calls Try.prog 79 #[.slice sa s.2.2.length sc, .int .i64 tx] x9.w fun e w' => e = .returned (.bool (decide (tx ∈ s.2.2))) ∧ ∃ y9 : last.On w2.heap.size w2, w' = y9.w := fun x9 => last.Calls.on x9 (Nat.le_refl _) ((spec_l7Has sa s.2.2.length sc s.2.2 tx x9.w (hSz2.below x9.2)).mono (fun e w' h => ⟨h.1, h.2 ▸ Below.refl _ _⟩))
  have hLk : ∀ x9 : last.On w2.heap.size w2, Calls Try.prog 80 #[.slice ah s.2.1.length ch, .slice a len cap] x9.w fun e w' => e = .returned (.bool (locked s.2.1 ops)) ∧ ∃ y9 : last.On w2.heap.size w2, w' = y9.w := fun x9 => last.Calls.on x9 (Nat.le_refl _) (spec_locked _ _ ch s.2.1 a len cap ops x9.w (hK2.held.below x9.2).sl (hSo2.below x9.2))
  have hMt : ∀ x9 : last.On w2.heap.size w2, Calls Try.prog 81 #[.slice am nm cm, .slice a len cap] x9.w fun e w' => e = .returned (.bool (meets s.1 ops)) ∧ ∃ y9 : last.On w2.heap.size w2, w' = y9.w := fun x9 => last.Calls.on x9 (Nat.le_refl _) (spec_meets _ nm cm s.1 a len cap ops x9.w (hK2.m.below x9.2).sl (hSo2.below x9.2))
  rw [h1] at hHas
  go_wp2_with fail
  refine last.wp_region_on w2.heap.size (by kernel_rfl) (by kernel_rfl) ?_
  repeat (go_big_quiet_step (first | (go_at_call 79; with_reducible exact hHas _) | (go_at_call 80; with_reducible exact hLk _) | (go_at_call 81; with_reducible exact hMt _)))
  refine wpQuiet_nil ?_
  intro w5 hw5
  obtain ⟨x5, hw5⟩ := hw5
  have hb5 : Below w2.heap.size w2 w5 := by rw [hw5]; exact x5.2
  clear hw5 x5 hinh2 o0 o1 o2 o3 o4 o5 hHas hLk hMt d0 d1 d2
  have hK5 := hK2.below hb5
  go_wp2_with fail
  go_ret
  exact ⟨rfl, hK5.fr⟩
set_option maxRecDepth 100000 in
set_option maxHeartbeats 4000000 in
theorem one_locked (N : Prop) (w0 : World) (F0 : List Nat) (w : World) (X : Nat) (am : Option Addr) (nm cm : Nat) (ah : Option Addr) (ch : Nat) (vs : Value) (s : St) (hs : List Value) (tx : Int) (a : Option Addr) (len cap : Nat) (ops : List Od)
    (hK : Kept N w0 F0 w X am nm cm ah ch vs s hs) (hSo : SlO w a len ops) (hks : ∀ p ∈ ops, p.2.1.size ≤ 1099511627776) (hok : recOk (1, tx, ops) = true) (h1 : decide (tx ∈ s.2.2) = false) (h2 : locked s.2.1 ops = true) :
    Calls Try.prog 42 #[.pointer (some ⟨X, 0, none⟩), .agg #[.int .i64 1, .int .i64 tx, .slice a len cap]] w (OnePost N w0 F0 X none) := by
  obtain ⟨sa, sc, hvs, hSz⟩ := hK.seen.sl
  subst hvs
  obtain ⟨V, hV⟩ : ∃ V, V = w.alloc (.cells #[.int .i64 1, .int .i64 tx, .slice a len cap] 91) := ⟨_, rfl⟩
  have hbV : Below w.heap.size w V := by rw [hV]; exact (Below.refl _ _).alloc (Nat.le_refl _) _
  have hbx : BoxR w.heap.size 1 tx (.slice a len cap) V := by rw [hV]; exact boxR_new _ _ _ _
  have hKV := hK.below hbV
  have hXl := hKV.box.lt
  have hRl := hbx.lt
  have y1 := last.On.cell (B := V.heap.size) hKV.box.cells.2.1 hXl
  have y2 := last.On.cell (B := V.heap.size) hbx.cells.2.1 hRl
  have hAt : ∀ x9 : last.On V.heap.size V, Calls Try.prog 77 #[.slice ah s.2.1.length ch, .int .i64 tx] x9.w fun e w' => e = .returned (.int .i64 (atRet (placeTx tx s.2.1))) ∧ ∃ y9 : last.On V.heap.size V, w' = y9.w := fun x9 => last.Calls.on x9 (Nat.le_refl _) ((spec_l8At _ _ ch s.2.1 tx x9.w (hKV.held.below x9.2).sl).mono (fun e w' h => ⟨h.1, h.2 ▸ Below.refl _ _⟩))
  have hinh := last.On.inh V.heap.size V
  have HV := Hid.mk' hV.symm
  clear hV
  generalize hP : atRet (placeTx tx s.2.1) = P at hAt
  go_enter Try.func42, Try.ntmps42
  go_wp2_with fail
  rw [HV.out]
  refine last.wp_region_on V.heap.size (by kernel_rfl) (by kernel_rfl) ?_
  repeat (go_big_quiet_step ((go_at_call 77; with_reducible exact hAt _)))
  refine wpQuiet_nil ?_
  intro w1 hw1
  obtain ⟨x1, hw1⟩ := hw1
  have hb1 : Below V.heap.size V w1 := by rw [hw1]; exact x1.2
  clear hw1 x1
  have hbx1 := hbx.below hb1
  have hK1 := hKV.below hb1
  have HOK := Hid.mk' (spec_recOk 1 tx a len cap ops w1 ((hSo.below hbV).below hb1) hks)
  obtain ⟨d0, d1, d2⟩ := hbx1.cells
  clear y1 y2 hAt hinh
  go_wp2_with fail
  refine HOK.out.mono ?_
  rintro e w2 ⟨rfl, hb2⟩
  rw [hok]
  have hK2 := hK1.below hb2
  have hbx2 := hbx1.below hb2
  have hSo2 := ((hSo.below hbV).below hb1).below hb2
  have hSz2 := ((hSz.below hbV).below hb1).below hb2
  clear d0 d1 d2 HOK HV hbx1 hbx hKV hXl hRl
  obtain ⟨d0, d1, d2⟩ := hbx2.cells
  have hX2 := hK2.box.lt
  have hR2 := hbx2.lt
  have o0 := last.On.cell (B := w2.heap.size) hK2.box.cells.1 hX2
  have o1 := last.On.cell (B := w2.heap.size) hK2.box.cells.2.1 hX2
  have o2 := last.On.cell (B := w2.heap.size) hK2.box.cells.2.2 hX2
  have o3 := last.On.cell (B := w2.heap.size) hbx2.cells.1 hR2
  have o4 := last.On.cell (B := w2.heap.size) hbx2.cells.2.1 hR2
  have o5 := last.On.cell (B := w2.heap.size) hbx2.cells.2.2 hR2
  have hinh2 := last.On.inh w2.heap.size w2
  have hHas : ∀ x9 : last.On w2.heap.size w2, Calls Try.prog 79 #[.slice sa s.2.2.length sc, .int .i64 tx] x9.w fun e w' => e = .returned (.bool (decide (tx ∈ s.2.2))) ∧ ∃ y9 : last.On w2.heap.size w2, w' = y9.w := fun x9 => last.Calls.on x9 (Nat.le_refl _) ((spec_l7Has sa s.2.2.length sc s.2.2 tx x9.w (hSz2.below x9.2)).mono (fun e w' h => ⟨h.1, h.2 ▸ Below.refl _ _⟩))
  have hLk : ∀ x9 : last.On w2.heap.size w2, Calls Try.prog 80 #[.slice ah s.2.1.length ch, .slice a len cap] x9.w fun e w' => e = .returned (.bool (locked s.2.1 ops)) ∧ ∃ y9 : last.On w2.heap.size w2, w' = y9.w := fun x9 => last.Calls.on x9 (Nat.le_refl _) (spec_locked _ _ ch s.2.1 a len cap ops x9.w (hK2.held.below x9.2).sl (hSo2.below x9.2))
  have hMt : ∀ x9 : last.On w2.heap.size w2, Calls Try.prog 81 #[.slice am nm cm, .slice a len cap] x9.w fun e w' => e = .returned (.bool (meets s.1 ops)) ∧ ∃ y9 : last.On w2.heap.size w2, w' = y9.w := fun x9 => last.Calls.on x9 (Nat.le_refl _) (spec_meets _ nm cm s.1 a len cap ops x9.w (hK2.m.below x9.2).sl (hSo2.below x9.2))
  rw [h1] at hHas
  rw [h2] at hLk
  go_wp2_with fail
  refine last.wp_region_on w2.heap.size (by kernel_rfl) (by kernel_rfl) ?_
  repeat (go_big_quiet_step (first | (go_at_call 79; with_reducible exact hHas _) | (go_at_call 80; with_reducible exact hLk _) | (go_at_call 81; with_reducible exact hMt _)))
  refine wpQuiet_nil ?_
  intro w5 hw5
  obtain ⟨x5, hw5⟩ := hw5
  have hb5 : Below w2.heap.size w2 w5 := by rw [hw5]; exact x5.2
  clear hw5 x5 hinh2 o0 o1 o2 o3 o4 o5 hHas hLk hMt d0 d1 d2
  have hK5 := hK2.below hb5
  go_wp2_with fail
  go_ret
  exact ⟨rfl, hK5.fr⟩
set_option maxRecDepth 100000 in
set_option maxHeartbeats 4000000 in
theorem one_unmet (N : Prop) (w0 : World) (F0 : List Nat) (w : World) (X : Nat) (am : Option Addr) (nm cm : Nat) (ah : Option Addr) (ch : Nat) (vs : Value) (s : St) (hs : List Value) (tx : Int) (a : Option Addr) (len cap : Nat) (ops : List Od)
    (hK : Kept N w0 F0 w X am nm cm ah ch vs s hs) (hSo : SlO w a len ops) (hks : ∀ p ∈ ops, p.2.1.size ≤ 1099511627776) (hok : recOk (1, tx, ops) = true) (h1 : decide (tx ∈ s.2.2) = false) (h2 : locked s.2.1 ops = false) (h3 : meets s.1 ops = false) :
    Calls Try.prog 42 #[.pointer (some ⟨X, 0, none⟩), .agg #[.int .i64 1, .int .i64 tx, .slice a len cap]] w (OnePost N w0 F0 X none) := by
  obtain ⟨sa, sc, hvs, hSz⟩ := hK.seen.sl
  subst hvs
  obtain ⟨V, hV⟩ : ∃ V, V = w.alloc (.cells #[.int .i64 1, .int .i64 tx, .slice a len cap] 91) := ⟨_, rfl⟩
  have hbV : Below w.heap.size w V := by rw [hV]; exact (Below.refl _ _).alloc (Nat.le_refl _) _
  have hbx : BoxR w.heap.size 1 tx (.slice a len cap) V := by rw [hV]; exact boxR_new _ _ _ _
  have hKV := hK.below hbV
  have hXl := hKV.box.lt
  have hRl := hbx.lt
  have y1 := last.On.cell (B := V.heap.size) hKV.box.cells.2.1 hXl
  have y2 := last.On.cell (B := V.heap.size) hbx.cells.2.1 hRl
  have hAt : ∀ x9 : last.On V.heap.size V, Calls Try.prog 77 #[.slice ah s.2.1.length ch, .int .i64 tx] x9.w fun e w' => e = .returned (.int .i64 (atRet (placeTx tx s.2.1))) ∧ ∃ y9 : last.On V.heap.size V, w' = y9.w := fun x9 => last.Calls.on x9 (Nat.le_refl _) ((spec_l8At _ _ ch s.2.1 tx x9.w (hKV.held.below x9.2).sl).mono (fun e w' h => ⟨h.1, h.2 ▸ Below.refl _ _⟩))
  have hinh := last.On.inh V.heap.size V
  have HV := Hid.mk' hV.symm
  clear hV
  generalize hP : atRet (placeTx tx s.2.1) = P at hAt
  go_enter Try.func42, Try.ntmps42
  go_wp2_with fail
  rw [HV.out]
  refine last.wp_region_on V.heap.size (by kernel_rfl) (by kernel_rfl) ?_
  repeat (go_big_quiet_step ((go_at_call 77; with_reducible exact hAt _)))
  refine wpQuiet_nil ?_
  intro w1 hw1
  obtain ⟨x1, hw1⟩ := hw1
  have hb1 : Below V.heap.size V w1 := by rw [hw1]; exact x1.2
  clear hw1 x1
  have hbx1 := hbx.below hb1
  have hK1 := hKV.below hb1
  have HOK := Hid.mk' (spec_recOk 1 tx a len cap ops w1 ((hSo.below hbV).below hb1) hks)
  obtain ⟨d0, d1, d2⟩ := hbx1.cells
  clear y1 y2 hAt hinh
  go_wp2_with fail
  refine HOK.out.mono ?_
  rintro e w2 ⟨rfl, hb2⟩
  rw [hok]
  have hK2 := hK1.below hb2
  have hbx2 := hbx1.below hb2
  have hSo2 := ((hSo.below hbV).below hb1).below hb2
  have hSz2 := ((hSz.below hbV).below hb1).below hb2
  clear d0 d1 d2 HOK HV hbx1 hbx hKV hXl hRl
  obtain ⟨d0, d1, d2⟩ := hbx2.cells
  have hX2 := hK2.box.lt
  have hR2 := hbx2.lt
  have o0 := last.On.cell (B := w2.heap.size) hK2.box.cells.1 hX2
  have o1 := last.On.cell (B := w2.heap.size) hK2.box.cells.2.1 hX2
  have o2 := last.On.cell (B := w2.heap.size) hK2.box.cells.2.2 hX2
  have o3 := last.On.cell (B := w2.heap.size) hbx2.cells.1 hR2
  have o4 := last.On.cell (B := w2.heap.size) hbx2.cells.2.1 hR2
  have o5 := last.On.cell (B := w2.heap.size) hbx2.cells.2.2 hR2
  have hinh2 := last.On.inh w2.heap.size w2
  have hHas : ∀ x9 : last.On w2.heap.size w2, Calls Try.prog 79 #[.slice sa s.2.2.length sc, .int .i64 tx] x9.w fun e w' => e = .returned (.bool (decide (tx ∈ s.2.2))) ∧ ∃ y9 : last.On w2.heap.size w2, w' = y9.w := fun x9 => last.Calls.on x9 (Nat.le_refl _) ((spec_l7Has sa s.2.2.length sc s.2.2 tx x9.w (hSz2.below x9.2)).mono (fun e w' h => ⟨h.1, h.2 ▸ Below.refl _ _⟩))
  have hLk : ∀ x9 : last.On w2.heap.size w2, Calls Try.prog 80 #[.slice ah s.2.1.length ch, .slice a len cap] x9.w fun e w' => e = .returned (.bool (locked s.2.1 ops)) ∧ ∃ y9 : last.On w2.heap.size w2, w' = y9.w := fun x9 => last.Calls.on x9 (Nat.le_refl _) (spec_locked _ _ ch s.2.1 a len cap ops x9.w (hK2.held.below x9.2).sl (hSo2.below x9.2))
  have hMt : ∀ x9 : last.On w2.heap.size w2, Calls Try.prog 81 #[.slice am nm cm, .slice a len cap] x9.w fun e w' => e = .returned (.bool (meets s.1 ops)) ∧ ∃ y9 : last.On w2.heap.size w2, w' = y9.w := fun x9 => last.Calls.on x9 (Nat.le_refl _) (spec_meets _ nm cm s.1 a len cap ops x9.w (hK2.m.below x9.2).sl (hSo2.below x9.2))
  rw [h1] at hHas
  rw [h2] at hLk
  rw [h3] at hMt
  go_wp2_with fail
  refine last.wp_region_on w2.heap.size (by kernel_rfl) (by kernel_rfl) ?_
  repeat (go_big_quiet_step (first | (go_at_call 79; with_reducible exact hHas _) | (go_at_call 80; with_reducible exact hLk _) | (go_at_call 81; with_reducible exact hMt _)))
  refine wpQuiet_nil ?_
  intro w5 hw5
  obtain ⟨x5, hw5⟩ := hw5
  have hb5 : Below w2.heap.size w2 w5 := by rw [hw5]; exact x5.2
  clear hw5 x5 hinh2 o0 o1 o2 o3 o4 o5 hHas hLk hMt d0 d1 d2
  have hK5 := hK2.below hb5
  go_wp2_with fail
  go_ret
  exact ⟨rfl, hK5.fr⟩
end Go.Proofs.Yteniflajiklffaa.recs
