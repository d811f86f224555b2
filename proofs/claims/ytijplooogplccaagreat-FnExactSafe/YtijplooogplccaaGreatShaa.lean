/- Lay Base App PairMath PairLaw Help GetNum GetNumS GetText HelpS GetTexts PutNum PutText PutTexts NumMath OrdMath -/
import Derived.WalkKit
import Derived.WalkSpells
import Derived.WalkLawsBesides
import Derived.OwnWalk
import Derived.Deep.AppendLies
import Derived.Lib.ConvBytes
import Derived.Test.YtijplooogplccaaGreatRows
import Derived.Deep.QuietTactic
import Derived.BigQuiet
import Derived.Deep.RegionWith
import Derived.Laws.CopyOwn
import Derived.Laws.BytesArg
import Derived.Lib.AppendStr
import Derived.ArgAppend
import Derived.Deep.RegionLaw
import Derived.Sort.Walk0
import Derived.WideShapes
set_option linter.unusedVariables false
set_option linter.unusedSimpArgs false
namespace Go.Proofs.YtijplooogplccaaGreat
namespace lay
open Go Go.RowKit
/-! ### what a step leaves as it was -/
structure Frame (G : List Nat) (w w' : World) : Prop where
 os : w'.os = w.os
 tape : w'.tape = w.tape
 output : w'.output = w.output
 size : w.heap.size ≤ w'.heap.size
 block : ∀ j, j < w.heap.size → j ∉ G → w'.heap[j]? = w.heap[j]?
def Fresh (w : World) (F F' : List Nat) : Prop := ∀ k ∈ F', k ∈ F ∨ w.heap.size ≤ k
section
variable {G G' F F' F'' : List Nat} {w w' w'' : World} {B : Nat}
theorem Frame.refl (G : List Nat) (w : World) : Frame G w w := ⟨rfl, rfl, rfl, Nat.le_refl _, fun _ _ _ => rfl⟩
theorem Frame.trans (h : Frame G w w') (k : Frame G' w' w'') (hf : Fresh w G G') : Frame G w w'' :=
 ⟨k.os.trans h.os, k.tape.trans h.tape, k.output.trans h.output, Nat.le_trans h.size k.size, fun j hj hn => (k.block j (Nat.lt_of_lt_of_le hj h.size) (fun e => by
  rcases hf j e with e | e
  · exact hn e
  · omega)).trans (h.block j hj hn)⟩
theorem Frame.mono (h : Frame G w w') (hg : ∀ k ∈ G, k ∈ G') : Frame G' w w' :=
 ⟨h.os, h.tape, h.output, h.size, fun j hj hn => h.block j hj (fun e => hn (hg j e))⟩
theorem Frame.of_below (h : Below w.heap.size w w') : Frame G w w' := ⟨h.os, h.tape, h.output, h.size, fun j hj _ => h.block j hj⟩
theorem Frame.below (h : Frame G w w') (k : Below w'.heap.size w' w'') : Frame G w w'' :=
 h.trans (G' := []) (Frame.of_below k) (fun _ e => absurd e List.not_mem_nil)
theorem Frame.grown {row : Option Nat} (h : Frame G w w') (k : w'.grownBy w'' row) (hr : ∀ k, row = some k → k ∈ G ∨ w.heap.size ≤ k) : Frame G w w'' :=
 ⟨k.os.trans h.os, k.tape.trans h.tape, k.output.trans h.output, Nat.le_trans h.size k.size, fun j hj hn => (k.block j (Nat.lt_of_lt_of_le hj h.size) (fun e => by
  rcases hr j e.symm with e2 | e2
  · exact hn e2
  · omega)).trans (h.block j hj hn)⟩
theorem Frame.bel (h : Frame G w w') (hB : B ≤ w.heap.size) (hG : ∀ k ∈ G, B ≤ k) : Below B w w' :=
 ⟨h.os, h.tape, h.output, h.size, fun j hj => h.block j (Nat.lt_of_lt_of_le hj hB) (fun e => by have := hG j e; omega)⟩
theorem Fresh.refl (w : World) (F : List Nat) : Fresh w F F := fun _ h => .inl h
theorem Fresh.trans (h : Fresh w F F') (k : Fresh w' F' F'') (hs : w.heap.size ≤ w'.heap.size) : Fresh w F F'' := fun j hj => by
 rcases k j hj with e | e
 · exact h j e
 · exact .inr (by omega)
theorem Fresh.new (h : ∀ k ∈ F', w.heap.size ≤ k) : Fresh w F F' := fun k hk => .inr (h k hk)
theorem Fresh.mono (h : Fresh w F F') (hF : ∀ k ∈ F, k ∈ G) : Fresh w G F' := fun k hk => (h k hk).imp_left (hF k)
theorem Fresh.append (h : Fresh w F F') (k : Fresh w F F'') : Fresh w F (F' ++ F'') := fun j hj => by
 rcases List.mem_append.1 hj with e | e
 · exact h j e
 · exact k j e
theorem nodup_new (h1 : F.Nodup) (h2 : F'.Nodup) (hF : ∀ k ∈ F, k < B) (hF' : ∀ k ∈ F', B ≤ k) : (F ++ F').Nodup := by
 rw [List.nodup_append]
 exact ⟨h1, h2, fun a ha b hb e => by have := hF a ha; have := hF' b hb; omega⟩
theorem nodup_parts (h : (F ++ F').Nodup) : F.Nodup ∧ F'.Nodup ∧ ∀ k ∈ F, k ∉ F' := by
 rw [List.nodup_append] at h
 exact ⟨h.1, h.2.1, fun k hk hk' => h.2.2 k hk k hk' rfl⟩
theorem nodup_mk (h1 : F.Nodup) (h2 : F'.Nodup) (h : ∀ k ∈ F, k ∉ F') : (F ++ F').Nodup := by
 rw [List.nodup_append]
 exact ⟨h1, h2, fun a ha b hb e => h a ha (e ▸ hb)⟩
end
/-! ### a type's way to lie -/
structure Rd (α : Type) where
 size : Nat
 see : World → List Value → α → Prop
 own : World → List Value → α → List Nat → Prop
 seeLen : ∀ {w vs x}, see w vs x → vs.length = size
 seeCells : ∀ {w w' vs x}, see w vs x → (∀ b o v, w.cell? ⟨b, o, none⟩ = some v → w'.cell? ⟨b, o, none⟩ = some v) → see w' vs x
 ownSee : ∀ {w vs x F}, own w vs x F → see w vs x
 ownAt : ∀ {w w' vs x F}, own w vs x F → (∀ k ∈ F, w'.heap[k]? = w.heap[k]?) → own w' vs x F
 ownLt : ∀ {w vs x F}, own w vs x F → ∀ k ∈ F, k < w.heap.size
 ownNodup : ∀ {w vs x F}, own w vs x F → F.Nodup
 ownOne : ∀ {w vs x F}, own w vs x F → ∀ v ∈ vs, v.oneCell' = true
section
variable {α β : Type} {R : Rd α} {S : Rd β} {w w' w'' : World} {vs us : List Value} {x : α} {F G : List Nat}
theorem Rd.ownLen (R : Rd α) (h : R.own w vs x F) : vs.length = R.size := R.seeLen (R.ownSee h)
theorem Rd.ownBelow (R : Rd α) (h : R.own w vs x F) (hb : Below w.heap.size w w') : R.own w' vs x F :=
 R.ownAt h fun k hk => hb.block k (R.ownLt h k hk)
theorem Rd.ownGrown (R : Rd α) (h : R.own w vs x F) {row : Option Nat} (hg : w.grownBy w' row) (hd : ∀ k ∈ F, some k ≠ row) : R.own w' vs x F :=
 R.ownAt h fun k hk => hg.block k (R.ownLt h k hk) (hd k hk)
end
def int : Rd Int where
 size := 1
 see _ vs x := vs = [.int .i64 x] ∧ (Lit.int .i64 x).wf = true
 own _ vs x F := (vs = [.int .i64 x] ∧ (Lit.int .i64 x).wf = true) ∧ F = []
 seeLen h := by rw [h.1]; rfl
 seeCells h _ := h
 ownSee h := h.1
 ownAt h _ := h
 ownLt h k hk := by rw [h.2] at hk; cases hk
 ownNodup h := by rw [h.2]; exact List.nodup_nil
 ownOne h v hv := by rw [h.1.1] at hv; rw [List.mem_singleton.1 hv]; rfl
def bool : Rd Bool where
 size := 1
 see _ vs x := vs = [.bool x]
 own _ vs x F := vs = [.bool x] ∧ F = []
 seeLen h := by rw [h]; rfl
 seeCells h _ := h
 ownSee h := h.1
 ownAt h _ := h
 ownLt h k hk := by rw [h.2] at hk; cases hk
 ownNodup h := by rw [h.2]; exact List.nodup_nil
 ownOne h v hv := by rw [h.1] at hv; rw [List.mem_singleton.1 hv]; rfl
def str : Rd ByteArray where
 size := 1
 see _ vs x := vs = [.string x] ∧ x.size ≤ maxLen
 own _ vs x F := (vs = [.string x] ∧ x.size ≤ maxLen) ∧ F = []
 seeLen h := by rw [h.1]; rfl
 seeCells h _ := h
 ownSee h := h.1
 ownAt h _ := h
 ownLt h k hk := by rw [h.2] at hk; cases hk
 ownNodup h := by rw [h.2]; exact List.nodup_nil
 ownOne h v hv := by rw [h.1.1] at hv; rw [List.mem_singleton.1 hv]; rfl
def both {α β : Type} (R : Rd α) (S : Rd β) : Rd (α × β) where
 size := R.size + S.size
 see w vs x := ∃ us ts, vs = us ++ ts ∧ R.see w us x.1 ∧ S.see w ts x.2
 own w vs x F := ∃ us ts F1 F2, vs = us ++ ts ∧ F = F1 ++ F2 ∧ R.own w us x.1 F1 ∧ S.own w ts x.2 F2 ∧ F.Nodup
 seeLen := by
  rintro w vs x ⟨us, ts, rfl, h1, h2⟩
  rw [List.length_append, R.seeLen h1, S.seeLen h2]
 seeCells := by
  rintro w w' vs x ⟨us, ts, rfl, h1, h2⟩ hc
  exact ⟨us, ts, rfl, R.seeCells h1 hc, S.seeCells h2 hc⟩
 ownSee := by
  rintro w vs x F ⟨us, ts, F1, F2, rfl, rfl, h1, h2, _⟩
  exact ⟨us, ts, rfl, R.ownSee h1, S.ownSee h2⟩
 ownAt := by
  rintro w w' vs x F ⟨us, ts, F1, F2, rfl, rfl, h1, h2, hn⟩ hk
  exact ⟨us, ts, F1, F2, rfl, rfl, R.ownAt h1 (fun k e => hk k (List.mem_append.2 (.inl e))), S.ownAt h2 (fun k e => hk k (List.mem_append.2 (.inr e))), hn⟩
 ownLt := by
  rintro w vs x F ⟨us, ts, F1, F2, rfl, rfl, h1, h2, _⟩ k hk
  rcases List.mem_append.1 hk with e | e
  · exact R.ownLt h1 k e
  · exact S.ownLt h2 k e
 ownNodup := by
  rintro w vs x F ⟨us, ts, F1, F2, _, _, _, _, hn⟩
  exact hn
 ownOne := by
  rintro w vs x F ⟨us, ts, F1, F2, rfl, rfl, h1, h2, _⟩ v hv
  rcases List.mem_append.1 hv with e | e
  · exact R.ownOne h1 v e
  · exact S.ownOne h2 v e
/-! ### slices -/
def CellsAt (w : World) (b o : Nat) (vs : List Value) : Prop := ∀ j u, vs[j]? = some u → w.cell? ⟨b, o + j, none⟩ = some u
def SlG {α : Type} (R : Rd α) (w : World) (a : Option Addr) (len : Nat) (l : List α) : Prop :=
 l.length = len ∧ len ≤ maxLen ∧ (∀ x ∈ l, ∃ vs, R.see w vs x) ∧ (0 < len → ∃ b off, a = some ⟨b, off, none⟩ ∧ ∀ i (h : i < l.length), ∃ vs, R.see w vs l[i] ∧ CellsAt w b (off + i * R.size) vs)
abbrev Parts := List (List Value × List Nat)
def cellsOf (q : Parts) : List Value := q.flatMap fun p => p.1
def blocksOf (q : Parts) : List Nat := q.flatMap fun p => p.2
theorem cellsOf_append (p q : Parts) : cellsOf (p ++ q) = cellsOf p ++ cellsOf q := by simp [cellsOf]
theorem blocksOf_append (p q : Parts) : blocksOf (p ++ q) = blocksOf p ++ blocksOf q := by simp [blocksOf]
theorem cellsOf_length {q : Parts} {n : Nat} (h : ∀ p ∈ q, p.1.length = n) : (cellsOf q).length = q.length * n := by
 induction q with
 | nil => simp [cellsOf]
 | cons p q ih =>
  have := ih fun x hx => h x (List.mem_cons_of_mem _ hx)
  have h1 := h p List.mem_cons_self
  unfold cellsOf at this ⊢
  rw [List.flatMap_cons, List.length_append, h1, this, List.length_cons, Nat.add_mul]; omega
theorem cellsOf_get {q : Parts} {n : Nat} (h : ∀ p ∈ q, p.1.length = n) (i : Nat) (hi : i < q.length) (j : Nat) (hj : j < n) : (cellsOf q)[i * n + j]? = (q[i].1)[j]? := by
 induction q generalizing i with
 | nil => simp at hi
 | cons p q ih =>
  have h1 := h p List.mem_cons_self
  unfold cellsOf at ih ⊢
  rw [List.flatMap_cons]
  cases i with
  | zero => rw [List.getElem?_append_left (by omega)]; simp
  | succ i =>
   rw [List.getElem?_append_right (by rw [h1, Nat.add_mul]; omega), h1, show (i + 1) * n + j - n = i * n + j by rw [Nat.add_mul]; omega]
   exact ih (fun x hx => h x (List.mem_cons_of_mem _ hx)) i (by simpa using hi)
structure OwnG {α : Type} (ty : TypeId) (R : Rd α) (w : World) (v : Value) (l : List α) (q : Parts) : Prop where
 len : q.length = l.length
 row : w.ownsRow 0 ty R.size v l.length (cellsOf q)
 each : ∀ i (h : i < l.length), R.own w (q[i]'(by omega)).1 l[i] (q[i]'(by omega)).2
 nodup : (v.ownBlock.toList ++ blocksOf q).Nodup
section
variable {α : Type} {ty : TypeId} {R : Rd α} {w w' : World} {v : Value} {l : List α} {q : Parts}
theorem OwnG.parts (h : OwnG ty R w v l q) : ∀ p ∈ q, p.1.length = R.size := fun p hp => by
 obtain ⟨i, hi, rfl⟩ := List.getElem_of_mem hp
 exact R.ownLen (h.each i (by have := h.len; omega))
theorem OwnG.shape (h : OwnG ty R w v l q) : (v = .slice none 0 0 ∧ l = [] ∧ q = []) ∨ ∃ g cap, v = .slice (some ⟨g, 0, none⟩) l.length cap ∧ l.length ≤ cap ∧ cap ≤ maxLen := by
 rcases h.row.2 with ⟨rfl, h0⟩ | ⟨g, cap, cur, rfl, _, _, h1, h2, _⟩
 · have : l = [] := List.eq_nil_of_length_eq_zero h0
   subst this
   exact .inl ⟨rfl, rfl, List.eq_nil_of_length_eq_zero (by simpa using h.len)⟩
 · exact .inr ⟨g, cap, rfl, h1, h2⟩
theorem OwnG.slice (h : OwnG ty R w v l q) : ∃ a cap, v = .slice a l.length cap ∧ l.length ≤ cap ∧ cap ≤ maxLen := by
 rcases h.shape with ⟨rfl, rfl, _⟩ | ⟨g, cap, rfl, h1, h2⟩
 · exact ⟨none, 0, rfl, Nat.le_refl _, Nat.zero_le _⟩
 · exact ⟨_, cap, rfl, h1, h2⟩
theorem OwnG.at_ (h : OwnG ty R w v l q) (k : Nat) (hk : k ∈ v.ownBlock.toList ++ blocksOf q) : k < w.heap.size := by
 rcases List.mem_append.1 hk with e | e
 · exact (h.row.lt k (by simpa using e)).2
 · obtain ⟨p, hp, e⟩ := List.mem_flatMap.1 e
   obtain ⟨i, hi, rfl⟩ := List.getElem_of_mem hp
   exact R.ownLt (h.each i (by have := h.len; omega)) k e
theorem row_of_block {base : Nat} {e : TypeId} {size n : Nat} {xs : List Value} (h : w.ownsRow base e size v n xs) (hk : ∀ k, v.ownBlock = some k → w'.heap[k]? = w.heap[k]?) : w'.ownsRow base e size v n xs := by
 refine ⟨h.1, ?_⟩
 rcases h.2 with h' | ⟨g, cap, cur, rfl, h0, hg, r⟩
 · exact .inl h'
 · exact .inr ⟨g, cap, cur, rfl, h0, (hk g rfl).trans hg, r⟩
theorem OwnG.keep (h : OwnG ty R w v l q) (hk : ∀ k ∈ v.ownBlock.toList ++ blocksOf q, w'.heap[k]? = w.heap[k]?) : OwnG ty R w' v l q :=
  ⟨h.len, row_of_block h.row (fun k e => hk k (List.mem_append.2 (.inl (by simp [e])))),
   fun i hi => R.ownAt (h.each i hi) (fun k e => hk k (List.mem_append.2 (.inr (List.mem_flatMap.2 ⟨_, List.getElem_mem _, e⟩)))), h.nodup⟩
theorem OwnG.cells {g n cap : Nat} (h : OwnG ty R w (.slice (some ⟨g, 0, none⟩) n cap) l q) (i : Nat) (hi : i < l.length) : CellsAt w g (i * R.size) (q[i]'(by have := h.len; omega)).1 := by
 intro j u hu
 have hj : j < R.size := by
  have h1 := (List.getElem?_eq_some_iff.1 hu).1
  rwa [h.parts _ (List.getElem_mem _)] at h1
 have hn : n = l.length := by
  rcases h.shape with ⟨e, _⟩ | ⟨g', c', e, _⟩
  · cases e
  · cases e; rfl
 subst hn
 have := h.row.cells (g := g) rfl (i * R.size + j) u (by rw [cellsOf_get h.parts i (by have := h.len; omega) j hj]; exact hu)
 rwa [Addr.add_lit, Nat.zero_add] at this
theorem OwnG.fz {g n cap : Nat} (h : OwnG ty R w (.slice (some ⟨g, 0, none⟩) n cap) l q) (j : Nat) : w.frozen? ⟨g, j, none⟩ = false := by
 have hn : n = l.length := by
  rcases h.shape with ⟨e, _⟩ | ⟨g', c', e, _⟩
  · cases e
  · cases e; rfl
 subst hn
 exact h.row.frozenAt j
theorem OwnG.sl {a : Option Addr} {n cap : Nat} (h : OwnG ty R w (.slice a n cap) l q) : SlG R w a n l := by
 have hsee : ∀ x ∈ l, ∃ vs, R.see w vs x := fun x hx => by
  obtain ⟨i, hi, rfl⟩ := List.getElem_of_mem hx
  exact ⟨_, R.ownSee (h.each i hi)⟩
 rcases h.shape with ⟨e, rfl, _⟩ | ⟨g, c, e, h1, h2⟩
 · cases e; exact ⟨rfl, Nat.zero_le _, hsee, fun h => absurd h (by omega)⟩
 · cases e
   refine ⟨rfl, by omega, hsee, fun _ => ⟨g, 0, rfl, fun i hi => ⟨_, R.ownSee (h.each i hi), ?_⟩⟩⟩
   rw [Nat.zero_add]
   exact h.cells i hi
end
theorem SlG.keep {α : Type} {R : Rd α} {w w' : World} {a : Option Addr} {len : Nat} {l : List α} (h : SlG R w a len l) (hc : ∀ b o v, w.cell? ⟨b, o, none⟩ = some v → w'.cell? ⟨b, o, none⟩ = some v) : SlG R w' a len l := by
 obtain ⟨h1, h2, h3, h4⟩ := h
 refine ⟨h1, h2, fun x hx => ?_, fun h0 => ?_⟩
 · obtain ⟨vs, hv⟩ := h3 x hx
   exact ⟨vs, R.seeCells hv hc⟩
 · obtain ⟨b, off, e, hi⟩ := h4 h0
   refine ⟨b, off, e, fun i h => ?_⟩
   obtain ⟨vs, hs, hcl⟩ := hi i h
   exact ⟨vs, R.seeCells hs hc, fun j u hu => hc _ _ _ (hcl j u hu)⟩
theorem SlG.below {α : Type} {R : Rd α} {w w' : World} {a : Option Addr} {len : Nat} {l : List α} (h : SlG R w a len l) (hb : Below w.heap.size w w') : SlG R w' a len l :=
 h.keep fun b o v hv => (hb.cell (p := ⟨b, o, none⟩) (World.block_lt_of_cell? w _ hv)).trans hv
def slice {α : Type} (ty : TypeId) (R : Rd α) : Rd (List α) where
 size := 1
 see w vs l := ∃ a len cap, vs = [.slice a len cap] ∧ len ≤ cap ∧ SlG R w a len l
 own w vs l F := ∃ v q, vs = [v] ∧ F = v.ownBlock.toList ++ blocksOf q ∧ OwnG ty R w v l q
 seeLen := by rintro w vs x ⟨a, len, cap, rfl, _⟩; rfl
 seeCells := by
  rintro w w' vs x ⟨a, len, cap, rfl, hc, h⟩ hk
  exact ⟨a, len, cap, rfl, hc, h.keep hk⟩
 ownSee := by
  rintro w vs x F ⟨v, q, rfl, rfl, h⟩
  obtain ⟨a, cap, rfl, hc, _⟩ := h.slice
  exact ⟨a, _, cap, rfl, hc, h.sl⟩
 ownAt := by
  rintro w w' vs x F ⟨v, q, rfl, rfl, h⟩ hk
  exact ⟨v, q, rfl, rfl, h.keep hk⟩
 ownLt := by
  rintro w vs x F ⟨v, q, rfl, rfl, h⟩ k hk
  exact h.at_ k hk
 ownNodup := by
  rintro w vs x F ⟨v, q, rfl, rfl, h⟩
  exact h.nodup
 ownOne := by
  rintro w vs x F ⟨v, q, rfl, rfl, h⟩ u hu
  rw [List.mem_singleton.1 hu]
  obtain ⟨a, cap, rfl, _⟩ := h.slice
  rfl
section
variable {α : Type} {ty : TypeId} {R : Rd α} {w w' w7 : World} {v v7 : Value} {l : List α} {q : Parts} {F : List Nat}
theorem own_open {vs : List Value} (h : (slice ty R).own w vs l F) : ∃ a cap q, vs = [.slice a l.length cap] ∧ l.length ≤ cap ∧ cap ≤ maxLen ∧ F = (Value.slice a l.length cap).ownBlock.toList ++ blocksOf q ∧ OwnG ty R w (.slice a l.length cap) l q := by
 obtain ⟨v, q, rfl, rfl, h⟩ := h
 obtain ⟨a, cap, rfl, h1, h2⟩ := h.slice
 exact ⟨a, cap, q, rfl, h1, h2, rfl, h⟩
theorem OwnG.snoc {x : α} {vs : List Value} {G : List Nat} {g cap H : Nat} (h : OwnG ty R w v l q) (hx : R.own w vs x G) (hd : ∀ k ∈ G, k ∉ v.ownBlock.toList ++ blocksOf q)
 (hown : w7.ownsRow 0 ty R.size (.slice (some ⟨g, 0, none⟩) (l.length + 1) cap) (l.length + 1) (cellsOf q ++ vs)) (hgrow : w.grownBy w7 v.ownBlock) (hat : v.ownBlock = some g ∨ g = H) (hH : w.heap.size = H) :
 OwnG ty R w7 (.slice (some ⟨g, 0, none⟩) (l.length + 1) cap) (l ++ [x]) (q ++ [(vs, G)]) := by
 have hlen := h.len
 obtain ⟨n1, n2, n3⟩ := nodup_parts h.nodup
 have hg1 : ∀ k ∈ blocksOf q, some k ≠ v.ownBlock := fun k hk e => n3 k (by rw [← e]; simp) hk
 have hg2 : ∀ k ∈ G, some k ≠ v.ownBlock := fun k hk e => hd k hk (List.mem_append.2 (.inl (by rw [← e]; simp)))
 refine ⟨by simp [hlen], ?_, fun i hi => ?_, ?_⟩
 · rw [cellsOf_append, List.length_append]
   simpa [cellsOf] using hown
 · by_cases e : i < l.length
   · simp only [List.getElem_append_left e, List.getElem_append_left (show i < q.length by omega)]
     exact R.ownGrown (h.each i e) hgrow (fun k hk => hg1 k (List.mem_flatMap.2 ⟨_, List.getElem_mem _, hk⟩))
   · have : i = l.length := by simp at hi; omega
     subst this
     rw [List.getElem_append_right (Nat.le_refl _)]
     simp only [List.getElem_append_right (show q.length ≤ l.length by omega)]
     simp only [hlen, Nat.sub_self, List.getElem_cons_zero]
     exact R.ownGrown hx hgrow hg2
 · have hgq : g ∉ blocksOf q := by
    rcases hat with e | e
    · exact n3 g (by rw [e]; simp)
    · intro hk
      have := h.at_ g (List.mem_append.2 (.inr hk))
      omega
   have hgG : g ∉ G := by
    rcases hat with e | e
    · exact fun hk => hg2 g hk e.symm
    · intro hk
      have := R.ownLt hx g hk
      omega
   have e1 : (Value.slice (some ⟨g, 0, none⟩) (l.length + 1) cap).ownBlock.toList ++ blocksOf (q ++ [(vs, G)]) = g :: (blocksOf q ++ G) := by
    rw [blocksOf_append]; simp [Value.ownBlock, blocksOf]
   rw [e1, List.nodup_cons]
   refine ⟨fun hk => ?_, nodup_mk n2 (R.ownNodup hx) (fun k hk hk2 => hd k hk2 (List.mem_append.2 (.inr hk)))⟩
   rcases List.mem_append.1 hk with e | e
   · exact hgq e
   · exact hgG e
theorem OwnG.take {a : Option Addr} {n cap : Nat} (h : OwnG ty R w (.slice a n cap) l q) (k : Nat) (hk : k ≤ l.length) : OwnG ty R w (.slice a k cap) (l.take k) (q.take k) := by
  have hlen := h.len
  have hsub : ∀ j ∈ blocksOf (q.take k), j ∈ blocksOf q := fun j hj => by
    obtain ⟨p, hp, e⟩ := List.mem_flatMap.1 hj
    exact List.mem_flatMap.2 ⟨p, List.mem_of_mem_take hp, e⟩
  have hcells : cellsOf (q.take k) = (cellsOf q).take (k * R.size) := by
    have hp := h.parts
    clear h hsub
    induction q generalizing k l with
    | nil => simp [cellsOf]
    | cons p q ih =>
      cases k with
      | zero => simp [cellsOf]
      | succ k =>
        have h1 := hp p List.mem_cons_self
        cases l with
        | nil => simp at hk
        | cons y l =>
          have := ih (l := l) k (by simpa using hk) (by simpa using hlen) (fun x hx => hp x (List.mem_cons_of_mem _ hx))
          unfold cellsOf at this ⊢
          rw [List.take_succ_cons, List.flatMap_cons, List.flatMap_cons, this, List.take_append, h1, List.take_of_length_le (l := p.1) (by rw [h1, Nat.add_mul]; omega), show (k + 1) * R.size - R.size = k * R.size by rw [Nat.add_mul]; omega]
  refine ⟨by simp [hlen], ?_, fun i hi => ?_, ?_⟩
  · have hl2 : (l.take k).length = k := by simp; omega
    rw [hl2, hcells]
    have hcl := h.row.1
    refine ⟨by rw [List.length_take, hcl]; exact Nat.min_eq_left (Nat.mul_le_mul_right _ hk), ?_⟩
    rcases h.row.2 with ⟨e, h0⟩ | ⟨g, c, cur, e, hb, hg, h1, h2, h3, h4⟩
    · cases e; exact .inl ⟨by have : k = 0 := by omega
                              subst this; rfl, by omega⟩
    · cases e
      refine .inr ⟨g, _, cur, rfl, hb, hg, by omega, h2, h3, ?_⟩
      rw [← h4, List.take_take, Nat.min_eq_left (Nat.mul_le_mul_right _ hk)]
  · have hi' : i < l.length := by simp at hi; omega
    simp only [List.getElem_take]
    exact h.each i hi'
  · obtain ⟨n1, n2, n3⟩ := nodup_parts h.nodup
    refine nodup_mk (by cases a <;> simp [Value.ownBlock]) ?_ (fun j hj hj2 => ?_)
    · refine List.Nodup.sublist ?_ n2
      rw [← List.take_append_drop k q, blocksOf_append]
      rw [List.take_append_drop]
      exact List.sublist_append_left _ _
    · exact n3 j (by cases a with
        | none => simp [Value.ownBlock] at hj
        | some ad => simpa [Value.ownBlock] using hj) (hsub j hj2)
end
end lay
namespace base
open Go.RowKit
/-! ### the hash -/
def hstep (h c : Nat) : Nat := (h ^^^ c) * 16777619 % 4294967296
def hashOf (l : List UInt8) : Nat := l.foldl (fun h c => hstep h c.toNat) 2166136261
theorem hstep_lt (h c : Nat) : hstep h c < 4294967296 := by unfold hstep; omega
theorem foldl_lt (l : List UInt8) (h : Nat) (hh : h < 4294967296) : l.foldl (fun h c => hstep h c.toNat) h < 4294967296 := by
 induction l generalizing h with
 | nil => simpa using hh
 | cons c l ih => simp only [List.foldl_cons]; exact ih _ (hstep_lt _ _)
theorem hashOf_lt (l : List UInt8) : hashOf l < 4294967296 := by
 unfold hashOf; exact foldl_lt l 2166136261 (by omega)
theorem foldl_snoc {α β : Type} (f : β → α → β) (b : β) (l : List α) (c : α) : (l ++ [c]).foldl f b = f (l.foldl f b) c := by simp
theorem hashOf_snoc (l : List UInt8) (c : UInt8) : hashOf (l ++ [c]) = hstep (hashOf l) c.toNat := by
 unfold hashOf; exact foldl_snoc (fun h (c : UInt8) => hstep h c.toNat) 2166136261 l c
theorem xor_lt (h c : Nat) (hh : h < 4294967296) (hc : c < 256) : h ^^^ c < 4294967296 :=
 Nat.xor_lt_two_pow (n := 32) (by omega) (by omega)
theorem i64_xor_nat (a b : Nat) (ha : a < 4294967296) (hb : b < 4294967296) : bits .xor .i64 (a : Int) (b : Int) = ((a ^^^ b : Nat) : Int) := by
 have hx : a ^^^ b < 4294967296 := Nat.xor_lt_two_pow (n := 32) (by omega) (by omega)
 show IntKind.i64.wrap ((BitVec.ofInt 64 (a : Int) ^^^ BitVec.ofInt 64 (b : Int)).toNat : Int) = _
 rw [BitVec.toNat_xor, ofInt_u64 a (by omega), ofInt_u64 b (by omega), IntKind.wrap_i64]
 omega
theorem wraps_i64 (n : Int) (h₀ : 0 ≤ n) (h₁ : n < 2 ^ 63) : IntKind.i64.wrap n = n := by rw [IntKind.wrap_i64]; omega
theorem i64_mask32 (x : Int) (h₀ : 0 ≤ x) (h₁ : x < 9223372036854775808) : bits .and .i64 x 4294967295 = x % 4294967296 :=
 bits_mask .i64 63 (by decide) wraps_i64 32 (by decide) x h₀ (by omega)
theorem u32_step (h c : Nat) (hh : h < 4294967296) (hc : c < 256) : IntKind.u32.wrap (bits .xor .u32 (h : Int) (c : Int) * 16777619) = (hstep h c : Int) := by
 rw [u32_xor_nat h c hh (by omega), IntKind.wrap_u32]; unfold hstep; omega
theorem i64_step (h c : Nat) (hh : h < 4294967296) (hc : c < 256) : bits .and .i64 (bits .xor .i64 (h : Int) (c : Int) * 16777619) 4294967295 = (hstep h c : Int) := by
 have := xor_lt h c hh hc
 rw [i64_xor_nat h c hh (by omega), i64_mask32 _ (by omega) (by omega)]; unfold hstep; omega
theorem i64_step' (h c : Nat) (hh : h < 4294967296) (hc : c < 256) : bits .and .i64 (wrap64 (bits .xor .i64 (h : Int) (c : Int) * 16777619)) 4294967295 = (hstep h c : Int) := by
 have := xor_lt h c hh hc
 rw [IntWalk.wrap64_in _ (by rw [i64_xor_nat h c hh (by omega)]; omega)]
 exact i64_step h c hh hc
theorem take_snoc (s : ByteArray) (k : Nat) (h : k < s.size) : s.data.toList.take (k + 1) = s.data.toList.take k ++ [s[k]] := by
 rw [List.take_succ_eq_append_getElem (by simpa using h)]; rfl
theorem val_int {k : IntKind} {a b : Int} (h : a = b) : Value.int k a = .int k b := by rw [h]
theorem ret_bool {a b : Bool} (h : a = b) : Ending.returned (.bool a) = .returned (.bool b) := by rw [h]
theorem ret_int {k : IntKind} {a b : Int} (h : a = b) : Ending.returned (.int k a) = .returned (.int k b) := by rw [h]
/-! ### worlds -/
theorem below_bytesWorld (w : World) (e : TypeId) (s : ByteArray) : Below w.heap.size w (Lib.bytesWorld w e s) :=
 ⟨rfl, rfl, rfl, by rw [Lib.bytesWorld_size]; omega, fun k hk => Lib.bytesWorld_at_old w e s k hk⟩
/-! ### slices of bytes that are read -/
/-! ### slices of bytes that the call itself made -/
theorem below_grown {w w' : World} {B g : Nat} (hg : w.grownBy w' (some g)) (h : B ≤ g) (hB : B ≤ w.heap.size) : Below B w w' :=
 (Below.refl B w).grown hg hB (fun k e => by cases e; exact h)
/-! ### slices of strings -/
section
variable {w w' : World} {base base' g n cap : Nat} {ss : List ByteArray} {row : Option Nat}
end
end base
namespace base
open Go.RowKit
theorem grownBy_trans {a b c : World} {row : Option Nat} (h : a.grownBy b row) (k : b.grownBy c row) : a.grownBy c row :=
 ⟨k.os.trans h.os, k.tape.trans h.tape, k.output.trans h.output, Nat.le_trans h.size k.size, fun i hi hr => (k.block i (Nat.lt_of_lt_of_le hi h.size) hr).trans (h.block i hi hr)⟩
theorem Hid.mk' {p : Prop} (h : p) : Hid p := h
theorem le_alloc {base : Nat} (w : World) (o : Obj) (h : base ≤ w.heap.size) : base ≤ (w.alloc o).heap.size := by simp; omega
def cut (bs : List UInt8) (p n : Nat) : ByteArray := ⟨((bs.drop p).take n).toArray⟩
theorem cell_cur {w : World} {gc : Nat} {cur : Array Value} {t : TypeId} {mk : Nat × Nat} (h : w.heap[gc]? = some (.cells cur t mk)) (j : Nat) (v : Value) (hj : cur[j]? = some v) : w.cell? ⟨gc, j, none⟩ = some v := by
 rw [cell_of_row w gc j cur t mk h]; exact hj
theorem set_cur {w : World} {gc : Nat} {cur : Array Value} {t : TypeId} (h : w.heap[gc]? = some (.cells cur t (0, 0))) (j : Nat) (v : Value) :
 (w.setCell ⟨gc, j, none⟩ v).heap[gc]? = some (.cells (cur.setIfInBounds j v) t (0, 0)) ∧ w.grownBy (w.setCell ⟨gc, j, none⟩ v) (some gc) :=
 ⟨heap_setCell_same w gc j cur t v h, ⟨rfl, rfl, rfl, by simp, fun k _ hk => heap_setCell_other w ⟨gc, j, none⟩ k v (fun e => hk (by simp [e]))⟩⟩
theorem step_append_own {P : Program} {ops : Array Oper} {o : Oper} {a : Act} {w : World} {K : Act → World → Prop} {Q : Exit → Act → World → Prop} {E : Prop} (hgd : o.guard = none) (s x : Operand) (t : TypeId)
 (ho : o.op = .call { callee := .builtin .append, args := #[s, x], argTypes := #[t, t] })
 (base : Nat) (e : TypeId) (i : TypeInfo) (z : Value) (size bytes : Nat) (ht : P.underlying t = some (.slice e)) (hi : P.info? e = some i) (hz : i.zero = some z)
 (hsize : i.size = size) (hby : i.bytes = bytes) (hzs : z.cells.size = size) (hsz : 0 < size)
 (v : Value) (n : Nat) (xs : List Value) (hs : a.eval s = v) (hown : w.ownsRow base e size v n xs)
 (ad : Addr) (m c : Nat) (news : List Value) (hx : a.eval x = .slice (some ad) m c) (hl : news.length = m * size) (hnews : ∀ j u, news[j]? = some u → w.cell? (ad.add j) = some u) (h1 : ∀ u ∈ news, u.oneCell' = true)
 (h63 : n + m ≤ maxLen) (hbytes : (n + m) * bytes ≤ 140737488355328) (hbase : base ≤ w.heap.size)
 (h : ∀ v' w', w'.ownsRow base e size v' (n + m) (xs ++ news) → w.grownBy w' v.ownBlock → (v' = .slice none 0 0 ↔ v = .slice none 0 0 ∧ m = 0) → K (a.put o.dst v') w') :
 if Region.wanted o (yielded ops a.tmps) = true then Oper.wp P o a w K Q else E := by
 have hw : Region.wanted o (yielded ops a.tmps) = true := by simp [Region.wanted, hgd]
 rw [if_pos hw]
 exact wp_append_own w s x t ho base e i z size bytes ht hi hz hsize hby hzs hsz v n xs hs hown ad m c news hx hl hnews h1 h63 hbytes hbase h
theorem cells_two (w : World) (x y : Value) (t : TypeId) : ∀ j u, [x, y][j]? = some u → (w.alloc (.cells #[x, y] t)).cell? ((⟨w.heap.size, 0, none⟩ : Addr).add j) = some u := by
 intro j u hj
 match j, hj with
 | 0, hj => simp at hj; subst hj; simp [Addr.add]
 | 1, hj => simp at hj; subst hj; simp [Addr.add]
end base
namespace pairs
open Go
abbrev Pr := ByteArray × ByteArray
theorem bytes_ext {a b : ByteArray} (h : a.data.toList = b.data.toList) : a = b := WideShapes.bytes_inj h
/-! ### the order of texts -/
def ltB (a b : ByteArray) : Bool := Op.bytesLess a.toList b.toList
theorem ltB_iff (a b : ByteArray) : ltB a b = true ↔ a.data.toList < b.data.toList := by
 unfold ltB; rw [Proofs.bytesLess_eq, ByteArray.toList_eq, ByteArray.toList_eq]; simp
theorem ltB_irrefl (a : ByteArray) : ltB a a = false := by
 rw [Bool.eq_false_iff]; intro h; exact List.lt_irrefl _ ((ltB_iff a a).1 h)
theorem ltB_trans {a b c : ByteArray} (h : ltB a b = true) (k : ltB b c = true) : ltB a c = true :=
 (ltB_iff a c).2 (List.lt_trans ((ltB_iff a b).1 h) ((ltB_iff b c).1 k))
theorem ltB_asymm {a b : ByteArray} (h : ltB a b = true) : ltB b a = false := by
 rw [Bool.eq_false_iff]; intro k; have := ltB_trans h k; rw [ltB_irrefl] at this; cases this
theorem ltB_total {a b : ByteArray} (h : ltB a b = false) (k : ltB b a = false) : a = b := by
 apply bytes_ext
 have h' : ¬ a.data.toList < b.data.toList := fun e => by rw [(ltB_iff a b).2 e] at h; cases h
 have k' : ¬ b.data.toList < a.data.toList := fun e => by rw [(ltB_iff b a).2 e] at k; cases k
 exact List.le_antisymm (List.not_lt.1 k') (List.not_lt.1 h')
/-! ### the functions -/
def keyCh (c : Nat) : Bool := decide (97 ≤ c ∧ c ≤ 122) || decide (48 ≤ c ∧ c ≤ 57)
def keyAll (l : List UInt8) : Bool := l.all fun c => keyCh c.toNat
def keyOk (s : ByteArray) : Bool := keyAll s.data.toList && decide (1 ≤ s.size ∧ s.size ≤ 12)
def pairOk (p : Pr) : Bool := keyOk p.1 && decide (p.2.size ≤ 20)
def getKey (key : ByteArray) : List Pr → Option ByteArray
 | [] => none
 | p :: l => if p.1 = key then some p.2 else getKey key l
def setFirst (key val : ByteArray) : List Pr → List Pr
 | [] => []
 | p :: l => if p.1 = key then (p.1, val) :: l else p :: setFirst key val l
def below (key : ByteArray) : List Pr → Nat
 | [] => 0
 | p :: l => if ltB key p.1 = true then 0 else below key l + 1
def putKey (key val : ByteArray) (l : List Pr) : List Pr :=
 if (getKey key l).isSome then setFirst key val l else l.take (below key l) ++ (key, val) :: l.drop (below key l)
def delKey (key : ByteArray) (l : List Pr) : List Pr := l.filter fun p => decide (p.1 ≠ key)
/-! ### first facts -/
theorem setFirst_length (key val : ByteArray) (l : List Pr) : (setFirst key val l).length = l.length := by
 induction l with
 | nil => rfl
 | cons p l ih => unfold setFirst; split <;> simp [ih]
theorem below_le (key : ByteArray) (l : List Pr) : below key l ≤ l.length := by
 induction l with
 | nil => exact Nat.le_refl _
 | cons p l ih => unfold below; split <;> simp; omega
theorem putKey_length (key val : ByteArray) (l : List Pr) : (putKey key val l).length ≤ l.length + 1 ∧ l.length ≤ (putKey key val l).length := by
 have := below_le key l
 unfold putKey
 split
 · rw [setFirst_length]; omega
 · simp; omega
theorem getKey_drop (key : ByteArray) (l : List Pr) (k : Nat) (h : k < l.length) : getKey key (l.drop k) = if l[k].1 = key then some l[k].2 else getKey key (l.drop (k + 1)) := by
 rw [List.drop_eq_getElem_cons h, getKey]
theorem below_drop (key : ByteArray) (l : List Pr) (k : Nat) (h : k < l.length) : below key (l.drop k) = if ltB key l[k].1 = true then 0 else below key (l.drop (k + 1)) + 1 := by
 rw [List.drop_eq_getElem_cons h, below]
theorem setFirst_at (key val : ByteArray) (l : List Pr) (k : Nat) (h : k < l.length) (he : l[k].1 = key) (hn : getKey key (l.take k) = none) : setFirst key val l = l.set k (key, val) := by
 induction l generalizing k with
 | nil => simp at h
 | cons p l ih =>
  cases k with
  | zero => simp at he; unfold setFirst; rw [if_pos he, he]; rfl
  | succ k =>
   rw [List.take_succ_cons, getKey] at hn
   by_cases hp : p.1 = key
   · rw [if_pos hp] at hn; cases hn
   · rw [if_neg hp] at hn
     unfold setFirst
     rw [if_neg hp, List.set_cons_succ, ih k (by simpa using h) (by simpa using he) hn]
theorem getKey_snoc_none (key : ByteArray) (l : List Pr) (p : Pr) (h : getKey key l = none) (hp : p.1 ≠ key) : getKey key (l ++ [p]) = none := by
 induction l with
 | nil => simp [getKey, hp]
 | cons q l ih =>
  rw [getKey] at h
  by_cases hq : q.1 = key
  · rw [if_pos hq] at h; cases h
  · rw [if_neg hq] at h
    rw [List.cons_append, getKey, if_neg hq]
    exact ih h
theorem getKey_append (key : ByteArray) (a b : List Pr) : getKey key (a ++ b) = (getKey key a).or (getKey key b) := by
 induction a with
 | nil => rfl
 | cons q l ih =>
  rw [List.cons_append, getKey, getKey]
  by_cases hq : q.1 = key
  · rw [if_pos hq, if_pos hq]; rfl
  · rw [if_neg hq, if_neg hq, ih]
end pairs
namespace pairs
open Go
/-! ### rising lists -/
/-! ### what is got -/
/-! ### pairs that stay right -/
/-! ### between -/
/-! ### union -/
end pairs
namespace help
open Go.RowKit base
def marks (k0 n : Nat) : List UInt8 := (List.range n).map (fun j => UInt8.ofNat (k0 + j))
end help
namespace getnum
open Go.RowKit base help
end getnum
namespace getnum
open Go.RowKit base help
end getnum
namespace gettext
open Go.RowKit base help getnum
end gettext
namespace helps
open Go.RowKit base help
end helps
namespace gettexts
open Go.RowKit base help helps getnum gettext
end gettexts
namespace putnum
open Go.RowKit base help
end putnum
namespace puttext
open Go.RowKit base help putnum
end puttext
namespace puttexts
open Go.RowKit base help helps putnum puttext
def sum (ss : List ByteArray) : Nat := (ss.map ByteArray.size).sum
def szR (L t : Nat) : Int := if t ≤ L then (L : Int) - (t : Int) else -1
theorem szR_neg {L t : Nat} (h : L < t) : szR L t = -1 := by unfold szR; rw [if_neg (by omega)]
theorem szR_pos {L t : Nat} (h : t ≤ L) : szR L t = (L : Int) - (t : Int) := by unfold szR; rw [if_pos h]
end puttexts
namespace nummath
open Go.RowKit base help getnum putnum gettext puttext gettexts puttexts
end nummath
namespace ords
open Go Go.RowKit base pairs putnum puttext getnum gettext gettexts nummath
abbrev Od := Int × ByteArray × ByteArray
def odOk (o : Od) : Bool := decide (1 ≤ o.1 ∧ o.1 ≤ 3) && (decide (o.1 ≠ 2) || decide (o.2.2.size = 0)) && keyOk o.2.1 && decide (o.2.2.size ≤ 20)
def opsFrom : Option ByteArray → List Od → Bool
 | _, [] => true
 | none, o :: l => odOk o && opsFrom (some o.2.1) l
 | some k, o :: l => odOk o && ltB k o.2.1 && opsFrom (some o.2.1) l
def opsOk (l : List Od) : Bool := opsFrom none l && decide (1 ≤ l.length ∧ l.length ≤ 8)
def meet1 (m : List Pr) (o : Od) : Bool := decide (o.1 ≠ 3) || match getKey o.2.1 m with | none => decide (o.2.2.size = 0) | some v => decide (o.2.2.size ≠ 0) && decide (v = o.2.2)
def meets (m : List Pr) (l : List Od) : Bool := l.all (meet1 m)
def apply1 (m : List Pr) (o : Od) : List Pr := if o.1 = 1 then putKey o.2.1 o.2.2 m else if o.1 = 2 then delKey o.2.1 m else m
def applyAll (m : List Pr) (l : List Od) : List Pr := l.foldl apply1 m
def shardOf (key : ByteArray) (n : Int) : Int := if n < 1 then 0 else (hashOf key.data.toList : Int) % n
def opsFor (s n : Int) (l : List Od) : List Od := l.filter fun o => decide (shardOf o.2.1 n = s)
def putI (l : List Int) (n : Int) : List Int := if n ∈ l then l else l.filter (fun x => decide (x < n)) ++ n :: l.filter (fun x => decide (n < x))
def shardsOf (n : Int) (l : List Od) : List Int := l.foldl (fun u o => putI u (shardOf o.2.1 n)) []
/-! ### orders that are right -/
def RiseO (l : List Od) : Prop := l.Pairwise fun p q => ltB p.2.1 q.2.1 = true
theorem opsFrom_iff (o : Option ByteArray) (l : List Od) : opsFrom o l = true ↔ (∀ p ∈ l, odOk p = true) ∧ RiseO l ∧ ∀ k, o = some k → ∀ p ∈ l, ltB k p.2.1 = true := by
 induction l generalizing o with
 | nil => simp [opsFrom, RiseO]
 | cons p l ih =>
  have hi := ih (some p.2.1)
  unfold RiseO at hi ⊢
  rw [List.pairwise_cons]
  cases o with
  | none =>
   simp only [opsFrom, Bool.and_eq_true, hi, List.mem_cons, forall_eq_or_imp]
   constructor
   · rintro ⟨h1, h2, h3, h4⟩
     exact ⟨⟨h1, h2⟩, ⟨h4 _ rfl, h3⟩, fun k e => by cases e⟩
   · rintro ⟨⟨h1, h2⟩, ⟨h3, h4⟩, _⟩
     exact ⟨h1, h2, h4, fun k e q hq => by cases e; exact h3 q hq⟩
  | some k0 =>
   simp only [opsFrom, Bool.and_eq_true, hi, List.mem_cons, forall_eq_or_imp]
   constructor
   · rintro ⟨⟨h1, h0⟩, h2, h3, h4⟩
     refine ⟨⟨h1, h2⟩, ⟨h4 _ rfl, h3⟩, fun k e => ?_⟩
     cases e
     exact ⟨h0, fun q hq => ltB_trans h0 (h4 _ rfl q hq)⟩
   · rintro ⟨⟨h1, h2⟩, ⟨h3, h4⟩, h5⟩
     exact ⟨⟨h1, (h5 k0 rfl).1⟩, h2, h4, fun k e q hq => by cases e; exact h3 q hq⟩
theorem opsOk_iff (l : List Od) : opsOk l = true ↔ ((∀ p ∈ l, odOk p = true) ∧ RiseO l) ∧ 1 ≤ l.length ∧ l.length ≤ 8 := by
 unfold opsOk
 rw [Bool.and_eq_true, opsFrom_iff, decide_eq_true_iff]
 constructor
 · rintro ⟨⟨h1, h2, _⟩, h3⟩; exact ⟨⟨h1, h2⟩, h3⟩
 · rintro ⟨⟨h1, h2⟩, h3⟩; exact ⟨⟨h1, h2, fun k e => by cases e⟩, h3⟩
/-! ### bytes of numbers and texts, read -/
/-! ### orders come back of their bytes -/
/-! ### behind orders -/
theorem apply_take (m : List Pr) (l : List Od) (k : Nat) (h : k < l.length) : applyAll m (l.take (k + 1)) = apply1 (applyAll m (l.take k)) l[k] := by
 unfold applyAll
 rw [List.take_succ_eq_append_getElem h, List.foldl_append]
 rfl
/-! ### shards -/
def Asc (l : List Int) : Prop := l.Pairwise (· < ·)
theorem putI_mem (l : List Int) (n x : Int) : x ∈ putI l n ↔ x ∈ l ∨ x = n := by
 unfold putI
 split
 · next h =>
   constructor
   · exact .inl
   · rintro (h1 | rfl)
     · exact h1
     · exact h
 · next h =>
   simp only [List.mem_append, List.mem_filter, List.mem_cons, decide_eq_true_iff]
   constructor
   · rintro (h1 | rfl | h1)
     · exact .inl h1.1
     · exact .inr rfl
     · exact .inl h1.1
   · rintro (h1 | rfl)
     · have hne : x ≠ n := fun e => h (e ▸ h1)
       rcases Int.lt_or_gt_of_ne hne with h2 | h2
       · exact .inl ⟨h1, h2⟩
       · exact .inr (.inr ⟨h1, h2⟩)
     · exact .inr (.inl rfl)
theorem putI_asc {l : List Int} (h : Asc l) (n : Int) : Asc (putI l n) := by
 unfold putI
 split
 · exact h
 · unfold Asc at h ⊢
   rw [List.pairwise_append, List.pairwise_cons]
   refine ⟨h.filter _, ⟨fun x hx => by simpa using (List.mem_filter.1 hx).2, h.filter _⟩, fun a ha b hb => ?_⟩
   have h1 : a < n := by simpa using (List.mem_filter.1 ha).2
   rcases List.mem_cons.1 hb with rfl | hb
   · exact h1
   · have h2 : n < b := by simpa using (List.mem_filter.1 hb).2
     omega
theorem fold_shards (n : Int) (l : List Od) (u : List Int) (h : Asc u) : Asc (l.foldl (fun u o => putI u (shardOf o.2.1 n)) u) ∧ ∀ x, x ∈ l.foldl (fun u o => putI u (shardOf o.2.1 n)) u ↔ x ∈ u ∨ ∃ o ∈ l, shardOf o.2.1 n = x := by
 induction l generalizing u with
 | nil => exact ⟨h, fun x => by simp⟩
 | cons o l ih =>
  have := ih (putI u (shardOf o.2.1 n)) (putI_asc h _)
  refine ⟨this.1, fun x => ?_⟩
  rw [List.foldl_cons, this.2 x, putI_mem]
  simp only [List.mem_cons, exists_eq_or_imp]
  constructor
  · rintro ((h1 | h1) | h1)
    · exact .inl h1
    · exact .inr (.inl h1.symm)
    · exact .inr (.inr h1)
  · rintro (h1 | h1 | h1)
    · exact .inl (.inl h1)
    · exact .inl (.inr h1.symm)
    · exact .inr h1
theorem shards_asc (n : Int) (l : List Od) : Asc (shardsOf n l) := (fold_shards n l [] List.Pairwise.nil).1
theorem shards_mem (n : Int) (l : List Od) (x : Int) : x ∈ shardsOf n l ↔ ∃ o ∈ l, shardOf o.2.1 n = x := by
 have := (fold_shards n l [] List.Pairwise.nil).2 x
 simpa [shardsOf] using this
theorem shards_take (n : Int) (l : List Od) (k : Nat) (h : k < l.length) : shardsOf n (l.take (k + 1)) = putI (shardsOf n (l.take k)) (shardOf l[k].2.1 n) := by
 unfold shardsOf
 rw [List.take_succ_eq_append_getElem h, List.foldl_append]
 rfl
theorem shardOf_range (key : ByteArray) (n : Int) : 0 ≤ shardOf key n ∧ (0 < n → shardOf key n < n) := by
 unfold shardOf
 split
 · exact ⟨by omega, fun h => by omega⟩
 · next h => exact ⟨Int.emod_nonneg _ (by omega), fun h0 => Int.emod_lt_of_pos _ h0⟩
theorem shardOf_lt (key : ByteArray) (n : Int) : shardOf key n < 4294967296 := by
 unfold shardOf
 split
 · omega
 · next h =>
   have h1 := hashOf_lt key.data.toList
   have h2 := Int.emod_add_ediv_mul (hashOf key.data.toList : Int) n
   have h3 : 0 ≤ (hashOf key.data.toList : Int) / n * n := Int.mul_nonneg (Int.ediv_nonneg (by omega) (by omega)) (by omega)
   omega
theorem asc_ext {a b : List Int} (ha : Asc a) (hb : Asc b) (h : ∀ x, x ∈ a ↔ x ∈ b) : a = b := by
 induction a generalizing b with
 | nil =>
  cases b with
  | nil => rfl
  | cons y b => exact absurd ((h y).2 List.mem_cons_self) List.not_mem_nil
 | cons x a ih =>
  cases b with
  | nil => exact absurd ((h x).1 List.mem_cons_self) List.not_mem_nil
  | cons y b =>
   unfold Asc at ha hb
   rw [List.pairwise_cons] at ha hb
   have e : x = y := by
    rcases List.mem_cons.1 ((h x).1 List.mem_cons_self) with e | h1
    · exact e
    · rcases List.mem_cons.1 ((h y).2 List.mem_cons_self) with e | h2
      · exact e.symm
      · have := hb.1 x h1
        have := ha.1 y h2
        omega
   subst e
   congr 1
   refine ih ha.2 hb.2 fun z => ?_
   constructor
   · intro hz
     rcases List.mem_cons.1 ((h z).1 (List.mem_cons_of_mem _ hz)) with e | h1
     · subst e; have := ha.1 z hz; omega
     · exact h1
   · intro hz
     rcases List.mem_cons.1 ((h z).2 (List.mem_cons_of_mem _ hz)) with e | h1
     · subst e; have := hb.1 z hz; omega
     · exact h1
end ords
end Go.Proofs.YtijplooogplccaaGreat
