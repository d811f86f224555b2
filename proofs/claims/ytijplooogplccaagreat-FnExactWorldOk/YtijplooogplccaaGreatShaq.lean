/- The specification's replay: its state on the heap. Shards: plain mathematics. No function of the program is named here. How pairs, orders, records and shards lie in memory. No function of the program is named here. -/
import Derived.Test.YtijplooogplccaaGreatShal
import Derived.Test.YtijplooogplccaaGreatShap
import Derived.Test.YtijplooogplccaaGreatShae
import Derived.Test.YtijplooogplccaaGreatShaf
import Derived.Test.YtijplooogplccaaGreatShaa
import Derived.Test.YtijplooogplccaaGreatShak
namespace Go.Proofs.YtijplooogplccaaGreat.recs
open Go Go.RowKit Go.Proofs.YtijplooogplccaaGreat.base Go.Proofs.YtijplooogplccaaGreat.pairs Go.Proofs.YtijplooogplccaaGreat.ords
set_option linter.unusedVariables false
set_option linter.unusedSimpArgs false

def BoxS (X : Nat) (x y z : Value) (w : World) : Prop := w.heap[X]? = some (.cells #[x, y, z] 148 (0, 0))
section
variable {X : Nat} {x y z : Value} {w w' : World}
theorem BoxS.cells (h : BoxS X x y z w) : w.cell? ⟨X, 0, none⟩ = some x ∧ w.cell? ⟨X, 1, none⟩ = some y ∧ w.cell? ⟨X, 2, none⟩ = some z := by
  unfold BoxS at h
  simp [World.cell?, h]
theorem BoxS.lt (h : BoxS X x y z w) : X < w.heap.size := (Array.getElem?_eq_some_iff.1 h).1
theorem BoxS.below (h : BoxS X x y z w) (hb : Below w.heap.size w w') : BoxS X x y z w' := (hb.block X h.lt).trans h
theorem BoxS.grown {row : Option Nat} (h : BoxS X x y z w) (hg : w.grownBy w' row) (hne : some X ≠ row) : BoxS X x y z w' := (hg.block X h.lt hne).trans h
theorem BoxS.fz (h : BoxS X x y z w) (j : Nat) : w.frozen? ⟨X, j, none⟩ = false := by unfold BoxS at h; simp [World.frozen?, h]
theorem BoxS.ne {b size n : Nat} {e : TypeId} {v : Value} {xs : List Value} (h : BoxS X x y z w) (h2 : w.ownsRow b e size v n xs) (hne : e ≠ 148) : some X ≠ v.ownBlock := by
  intro hk
  rcases h2.2 with ⟨rfl, _⟩ | ⟨g, c, cur, rfl, _, hg, _⟩
  · cases hk
  simp only [Value.ownBlock, Option.some.injEq] at hk
  unfold BoxS at h
  rw [hk, hg] at h
  injection h with h
  injection h with _ he
  exact hne he
end
def OwnQ (w : World) (base : Nat) (v : Value) (zs : List Int) : Prop := w.ownsRow base 3 1 v zs.length (intVals zs)
section
variable {w w' : World} {base : Nat} {v : Value} {zs : List Int}
theorem ownQ_nil (w : World) (base : Nat) : OwnQ w base (.slice none 0 0) [] := World.ownsRow_nil _ _ _ _
theorem OwnQ.sl (h : OwnQ w base v zs) : ∃ a cap, v = .slice a zs.length cap ∧ SlZ w a zs.length zs := by
  rcases h.2 with ⟨rfl, h0⟩ | ⟨g, cap, cur, rfl, _, _, h1, h2, _⟩
  · have : zs = [] := List.eq_nil_of_length_eq_zero h0
    subst this
    exact ⟨none, 0, rfl, rfl, Nat.zero_le _, fun h => absurd h (by simp)⟩
  · exact ⟨_, cap, rfl, OwnZ.sl (base := base) ⟨rfl, h⟩⟩
end
def OwnPV (w : World) (a : Option Addr) (n cap : Nat) (l : List Pr) : Prop := l.length = n ∧ (∀ p ∈ l, small p) ∧ w.ownsRow 0 151 2 (.slice a n cap) n (pairVals l)
section
variable {w w' : World} {a : Option Addr} {g n cap base : Nat} {l : List Pr}
theorem ownPV_of (h : OwnP w base g n cap l) : OwnPV w (some ⟨g, 0, none⟩) n cap l := ⟨h.1, h.2.1, (h.mono (base' := 0) (Nat.zero_le _)).2.2⟩
theorem OwnPV.shape (h : OwnPV w a n cap l) : (a = none ∧ n = 0 ∧ cap = 0 ∧ l = []) ∨ ∃ g, a = some ⟨g, 0, none⟩ ∧ OwnP w 0 g n cap l := by
  obtain ⟨h1, h2, h3⟩ := h
  rcases h3.2 with ⟨e, h0⟩ | ⟨g, c, cur, e, _⟩
  · cases e
    exact .inl ⟨rfl, rfl, rfl, List.eq_nil_of_length_eq_zero h1⟩
  · cases e
    exact .inr ⟨g, rfl, show OwnP w 0 g n cap l from ⟨h1, h2, h3⟩⟩
theorem OwnPV.sl (h : OwnPV w a n cap l) : SlP w a n l := by
  rcases h.shape with ⟨rfl, rfl, rfl, rfl⟩ | ⟨g, rfl, h⟩
  · exact slp_nil _ _
  · exact OwnP.sl h
theorem OwnPV.spot (h : OwnPV w a n cap l) : ∀ ad, a = some ad → ad.spot = none := by
  rcases h.shape with ⟨rfl, _⟩ | ⟨g, rfl, _⟩
  · intro ad e; cases e
  · intro ad e; cases e; rfl
theorem OwnPV.lt (h : OwnPV w a n cap l) (k : Nat) (hk : (Value.slice a n cap).ownBlock = some k) : k < w.heap.size := (h.2.2.lt k hk).2
theorem OwnPV.of_block (h : OwnPV w a n cap l) (hk : ∀ k, (Value.slice a n cap).ownBlock = some k → w'.heap[k]? = w.heap[k]?) : OwnPV w' a n cap l := ⟨h.1, h.2.1, rowR_of_block h.2.2 hk⟩
theorem OwnPV.below (h : OwnPV w a n cap l) (hb : Below w.heap.size w w') : OwnPV w' a n cap l := h.of_block fun k hk => hb.block k (h.lt k hk)
end
structure Kept (N : Prop) (w0 : World) (F0 : List Nat) (w : World) (X : Nat) (am : Option Addr) (nm cm : Nat) (ah : Option Addr) (ch : Nat) (vs : Value) (s : St) (hs : List Value) : Prop where
  box : BoxS X (.slice am nm cm) (.slice ah s.2.1.length ch) vs w
  m : OwnPV w am nm cm s.1
  held : OwnR w 0 (.slice ah s.2.1.length ch) s.2.1 hs
  seen : OwnQ w 0 vs s.2.2
  fr : lay.Frame (X :: F0) w0 w
  newM : ∀ k, (Value.slice am nm cm).ownBlock = some k → k ∈ F0 ∨ w0.heap.size ≤ k
  newH : ∀ k, BlkR (.slice ah s.2.1.length ch) hs k → k ∈ F0 ∨ w0.heap.size ≤ k
  newS : ∀ k, vs.ownBlock = some k → k ∈ F0 ∨ w0.heap.size ≤ k
  nnM : N → am ≠ none
  nnH : N → ah ≠ none
section
variable {N : Prop} {w0 w w' w7 : World} {F0 : List Nat} {X nm cm ch : Nat} {am ah : Option Addr} {vs : Value} {s : St} {hs : List Value}
theorem Kept.below (h : Kept N w0 F0 w X am nm cm ah ch vs s hs) (hb : Below w.heap.size w w') : Kept N w0 F0 w' X am nm cm ah ch vs s hs :=
  ⟨h.box.below hb, h.m.below hb, h.held.below hb, rowR_of_block h.seen fun k hk => hb.block k (h.seen.lt k hk).2, h.fr.below hb, h.newM, h.newH, h.newS, h.nnM, h.nnH⟩
theorem new_at {w0 w : World} {F0 : List Nat} {v : Value} {g H : Nat} (hn : ∀ k, v.ownBlock = some k → k ∈ F0 ∨ w0.heap.size ≤ k) (hat : v.ownBlock = some g ∨ g = H) (hH : w.heap.size = H) (hs : w0.heap.size ≤ w.heap.size) : g ∈ F0 ∨ w0.heap.size ≤ g := by
  rcases hat with e | e
  · exact hn g e
  · exact .inr (by omega)
theorem Kept.heldRow {v : Value} {e : TypeId} {size n : Nat} {xs : List Value} (h : Kept N w0 F0 w X am nm cm ah ch vs s hs) (h2 : w.ownsRow 0 e size v n xs) (h1 : e ≠ 133) (h3 : e ≠ 126) (k : Nat) (hk : BlkR (.slice ah s.2.1.length ch) hs k) : some k ≠ v.ownBlock := by
  intro e0
  rcases hk with e2 | ⟨y, hy, e2⟩
  · exact recRow_ne h.held.row h2 e2 e0.symm (fun e => h1 e.symm)
  · obtain ⟨i, hi, rfl⟩ := List.getElem_of_mem hy
    exact recRow_ne (h.held.ops i (by have := h.held.len; omega)).2 h2 e2 e0.symm (fun e => h3 e.symm)
theorem box_out {y : Value} {l : List Rc} (b7 : BoxS X (.slice am nm cm) (.slice ah s.2.1.length ch) y w) {v : Value} {hs : List Value} (hh : OwnR w 0 v l hs) (k : Nat) (hk : BlkR v hs k) : k ≠ X := by
  intro e
  rcases hk with e2 | ⟨y, hy, e2⟩
  · exact b7.ne hh.row (by decide) (by rw [e2, e])
  · obtain ⟨i, hi, rfl⟩ := List.getElem_of_mem hy
    exact b7.ne (hh.ops i (by have := hh.len; omega)).2 (by decide) (by rw [e2, e])
theorem Kept.see {g7 c7 H : Nat} {z : Int} (h : Kept N w0 F0 w X am nm cm ah ch vs s hs) (hown : w7.ownsRow 0 3 1 (.slice (some ⟨g7, 0, none⟩) (s.2.2.length + 1) c7) (s.2.2.length + 1) (intVals s.2.2 ++ intVals [z])) (hgrow : w.grownBy w7 vs.ownBlock) (hat : vs.ownBlock = some g7 ∨ g7 = H) (hH : w.heap.size = H) :
    BoxS X (.slice am nm cm) (.slice ah s.2.1.length ch) vs w7 ∧ Kept N w0 F0 (w7.setCell ⟨X, 2, none⟩ (.slice (some ⟨g7, 0, none⟩) (s.2.2.length + 1) c7)) X am nm cm ah ch (.slice (some ⟨g7, 0, none⟩) (s.2.2.length + 1) c7) (s.1, s.2.1, s.2.2 ++ [z]) hs := by
  have hX := h.box.ne h.seen (by decide)
  have b7 := h.box.grown hgrow hX
  have hm7 : OwnPV w7 am nm cm s.1 := h.m.of_block fun k hk => hgrow.block k (h.m.lt k hk) (fun e => recRow_ne h.m.2.2 h.seen hk e.symm (by decide))
  have hh7 : OwnR w7 0 (.slice ah s.2.1.length ch) s.2.1 hs := h.held.of_blocks fun k hk => hgrow.block k (h.held.lt k hk).2 (h.heldRow h.seen (by decide) (by decide) k hk)
  have hs7 : OwnQ w7 0 (.slice (some ⟨g7, 0, none⟩) (s.2.2.length + 1) c7) (s.2.2 ++ [z]) := by unfold OwnQ; rw [intVals_append, List.length_append]; exact hown
  have c8 := set_cur b7 2 (.slice (some ⟨g7, 0, none⟩) (s.2.2.length + 1) c7)
  refine ⟨b7, c8.1, hm7.of_block fun k hk => c8.2.block k (hm7.lt k hk) (fun e => b7.ne hm7.2.2 (by decide) (by rw [hk, e])), hh7.of_blocks fun k hk => c8.2.block k (hh7.lt k hk).2 (fun e => box_out b7 hh7 k hk (Option.some.inj e)), rowR_of_block hs7 fun k hk => c8.2.block k (hs7.lt k hk).2 (fun e => b7.ne hs7 (by decide) (by rw [hk, e])), ?_, h.newM, h.newH, fun k hk => ?_, h.nnM, h.nnH⟩
  · have B7 := h.fr.grown hgrow (fun k e => (h.newS k e).imp_left (List.mem_cons_of_mem _))
    exact B7.grown c8.2 (fun k e => .inl (by rw [← Option.some.inj e]; exact List.mem_cons_self))
  · have : g7 = k := by simpa [Value.ownBlock] using hk
    subst this
    exact new_at h.newS hat hH h.fr.size
theorem Kept.hold {g7 c7 H : Nat} {x : Rc} {y : Value} (h : Kept N w0 F0 w X am nm cm ah ch vs s hs) (hP : OwnV w 0 y x.2.2) (hx : smallR x) (hy : ∀ k, y.ownBlock = some k → ¬ BlkR (.slice ah s.2.1.length ch) hs k) (hyn : ∀ k, y.ownBlock = some k → w0.heap.size ≤ k)
    (hown : w7.ownsRow 0 133 3 (.slice (some ⟨g7, 0, none⟩) (s.2.1.length + 1) c7) (s.2.1.length + 1) (recVals s.2.1 hs ++ [.int .i64 x.1, .int .i64 x.2.1, y])) (hgrow : w.grownBy w7 (Value.slice ah s.2.1.length ch).ownBlock) (hat : (Value.slice ah s.2.1.length ch).ownBlock = some g7 ∨ g7 = H) (hH : w.heap.size = H) :
    BoxS X (.slice am nm cm) (.slice ah s.2.1.length ch) vs w7 ∧ Kept N w0 F0 (w7.setCell ⟨X, 1, none⟩ (.slice (some ⟨g7, 0, none⟩) (s.2.1.length + 1) c7)) X am nm cm (some ⟨g7, 0, none⟩) c7 vs (s.1, s.2.1 ++ [x], s.2.2) (hs ++ [y]) := by
  have hX := h.box.ne h.held.row (by decide)
  have b7 := h.box.grown hgrow hX
  have hm7 : OwnPV w7 am nm cm s.1 := h.m.of_block fun k hk => hgrow.block k (h.m.lt k hk) (fun e => recRow_ne h.m.2.2 h.held.row hk e.symm (by decide))
  have hh7 : OwnR w7 0 (.slice (some ⟨g7, 0, none⟩) (s.2.1.length + 1) c7) (s.2.1 ++ [x]) (hs ++ [y]) := h.held.snoc hP hx hy hown hgrow
  have hs7 : OwnQ w7 0 vs s.2.2 := rowR_of_block h.seen fun k hk => hgrow.block k (h.seen.lt k hk).2 (fun e => recRow_ne h.seen h.held.row hk e.symm (by decide))
  have c8 := set_cur b7 1 (.slice (some ⟨g7, 0, none⟩) (s.2.1.length + 1) c7)
  refine ⟨b7, ?_, hm7.of_block fun k hk => c8.2.block k (hm7.lt k hk) (fun e => b7.ne hm7.2.2 (by decide) (by rw [hk, e])), ?_, rowR_of_block hs7 fun k hk => c8.2.block k (hs7.lt k hk).2 (fun e => b7.ne hs7 (by decide) (by rw [hk, e])), ?_, h.newM, fun k hk => ?_, h.newS, h.nnM, fun _ e => by cases e⟩
  · have := c8.1
    simp only [List.length_append, List.length_singleton]
    exact this
  · simp only [List.length_append, List.length_singleton]
    exact hh7.of_blocks fun k hk => c8.2.block k (hh7.lt k hk).2 (fun e => box_out b7 hh7 k hk (Option.some.inj e))
  · have B7 := h.fr.grown hgrow (fun k e => (h.newH k (.inl e)).imp_left (List.mem_cons_of_mem _))
    exact B7.grown c8.2 (fun k e => .inl (by rw [← Option.some.inj e]; exact List.mem_cons_self))
  · rcases hk with e | ⟨z, hz, e⟩
    · have : g7 = k := by simpa [Value.ownBlock] using e
      subst this
      exact new_at (v := .slice ah s.2.1.length ch) (fun j hj => h.newH j (.inl hj)) hat hH h.fr.size
    · rcases List.mem_append.1 hz with e2 | e2
      · exact h.newH k (.inr ⟨z, e2, e⟩)
      · rw [List.mem_singleton.1 e2] at e
        exact .inr (hyn k e)
theorem Kept.pairs {g' n' c' : Nat} {m' : List Pr} (h : Kept N w0 F0 w X am nm cm ah ch vs s hs) (hO : OwnP w w0.heap.size g' n' c' m') :
    Kept N w0 F0 (w.setCell ⟨X, 0, none⟩ (.slice (some ⟨g', 0, none⟩) n' c')) X (some ⟨g', 0, none⟩) n' c' ah ch vs (m', s.2.1, s.2.2) hs := by
  have c8 := set_cur h.box 0 (.slice (some ⟨g', 0, none⟩) n' c')
  have hm := ownPV_of hO
  refine ⟨c8.1, hm.of_block fun k hk => c8.2.block k (hm.lt k hk) (fun e => h.box.ne hm.2.2 (by decide) (by rw [hk, e])), h.held.of_blocks fun k hk => c8.2.block k (h.held.lt k hk).2 (fun e => box_out h.box h.held k hk (Option.some.inj e)), rowR_of_block h.seen fun k hk => c8.2.block k (h.seen.lt k hk).2 (fun e => h.box.ne h.seen (by decide) (by rw [hk, e])), h.fr.grown c8.2 (fun k e => .inl (by rw [← Option.some.inj e]; exact List.mem_cons_self)), fun k hk => ?_, h.newH, h.newS, (fun _ e => by cases e), h.nnH⟩
  have : g' = k := by simpa [Value.ownBlock] using hk
  subst this
  exact .inr hO.lt.1
theorem Kept.cut {g' c' : Nat} {l' : List Rc} {hs' : List Value} (h : Kept N w0 F0 w X am nm cm ah ch vs s hs) (hO : OwnR w 0 (.slice (some ⟨g', 0, none⟩) l'.length c') l' hs') (hg : w0.heap.size ≤ g') (hsub : ∀ y ∈ hs', y ∈ hs) :
    Kept N w0 F0 (w.setCell ⟨X, 1, none⟩ (.slice (some ⟨g', 0, none⟩) l'.length c')) X am nm cm (some ⟨g', 0, none⟩) c' vs (s.1, l', s.2.2) hs' := by
  have c8 := set_cur h.box 1 (.slice (some ⟨g', 0, none⟩) l'.length c')
  refine ⟨c8.1, h.m.of_block fun k hk => c8.2.block k (h.m.lt k hk) (fun e => h.box.ne h.m.2.2 (by decide) (by rw [hk, e])), hO.of_blocks fun k hk => c8.2.block k (hO.lt k hk).2 (fun e => box_out h.box hO k hk (Option.some.inj e)), rowR_of_block h.seen fun k hk => c8.2.block k (h.seen.lt k hk).2 (fun e => h.box.ne h.seen (by decide) (by rw [hk, e])), h.fr.grown c8.2 (fun k e => .inl (by rw [← Option.some.inj e]; exact List.mem_cons_self)), h.newM, fun k hk => ?_, h.newS, h.nnM, fun _ e => by cases e⟩
  rcases hk with e | ⟨y, hy, e⟩
  · have : g' = k := by simpa [Value.ownBlock] using e
    subst this
    exact .inr hg
  · exact h.newH k (.inr ⟨y, hsub y hy, e⟩)
end
end Go.Proofs.YtijplooogplccaaGreat.recs

namespace Go.Proofs.YtijplooogplccaaGreat.recs
open Go Go.RowKit Go.Proofs.YtijplooogplccaaGreat.base Go.Proofs.YtijplooogplccaaGreat.pairs Go.Proofs.YtijplooogplccaaGreat.ords
set_option linter.unusedVariables false

abbrev Shd := Int × List Rc × Int × List Pr × List Rc
def shardOk (s : Shd) : Bool :=
  decide (0 ≤ s.1 ∧ s.1 ≤ 7) && decide (s.2.1.length ≤ 300) && decide (0 ≤ s.2.2.1 ∧ s.2.2.1 ≤ (s.2.1.length : Int)) &&
    (match replay s.2.1 with
     | none => false
     | some t => decide (t.1 = s.2.2.2.1) && decide (t.2.1 = s.2.2.2.2) && decide (s.2.1.length + t.2.1.length ≤ 300))
structure Right (s : Shd) : Prop where
  id : 0 ≤ s.1 ∧ s.1 ≤ 7
  made : ∃ seen, replay s.2.1 = some (s.2.2.2.1, s.2.2.2.2, seen)
  sure : 0 ≤ s.2.2.1 ∧ s.2.2.1 ≤ (s.2.1.length : Int)
  room : s.2.1.length + s.2.2.2.2.length ≤ 300
theorem shardOk_iff (s : Shd) : shardOk s = true ↔ Right s := by
  unfold shardOk
  constructor
  · intro h
    simp only [Bool.and_eq_true, decide_eq_true_iff] at h
    obtain ⟨⟨⟨h1, h2⟩, h3⟩, h4⟩ := h
    cases hr : replay s.2.1 with
    | none => rw [hr] at h4; cases h4
    | some t =>
      rw [hr] at h4
      simp only [Bool.and_eq_true, decide_eq_true_iff] at h4
      obtain ⟨⟨h5, h6⟩, h7⟩ := h4
      exact ⟨h1, ⟨t.2.2, by rw [hr, ← h5, ← h6]⟩, h3, by rw [← h6]; exact h7⟩
  · rintro ⟨h1, ⟨seen, h2⟩, h3, h4⟩
    simp only [Bool.and_eq_true, decide_eq_true_iff]
    refine ⟨⟨⟨h1, by omega⟩, h3⟩, ?_⟩
    rw [h2]
    simp [h4]
/-! ### how it is with a transaction -/
def lastOut (tx : Int) (l : List Rc) : Int := l.foldl (fun o r => if r.2.1 = tx ∧ r.1 = 3 then 4 else if r.2.1 = tx ∧ r.1 = 2 then 3 else o) 2
def outc (s : Shd) (tx : Int) : Int := if (placeTx tx s.2.2.2.2).isSome = true then 1 else lastOut tx s.2.1
/-! ### what is written -/
def forced (m : List Pr) (held : List Rc) (r : Rc) : List Pr × List Rc :=
  if r.1 = 1 then (m, held ++ [r]) else match placeTx r.2.1 held with
    | none => (m, held)
    | some k => (nextM (m, held, []) r k, held.take k ++ held.drop (k + 1))
def written (s : Shd) (r : Rc) : Shd := (s.1, s.2.1 ++ [r], s.2.2.1, (forced s.2.2.2.1 s.2.2.2.2 r).1, (forced s.2.2.2.1 s.2.2.2.2 r).2)
/-! ### what a shard does -/
end Go.Proofs.YtijplooogplccaaGreat.recs

namespace Go.Proofs.YtijplooogplccaaGreat.lay
open Go Go.RowKit Go.Proofs.YtijplooogplccaaGreat.base Go.Proofs.YtijplooogplccaaGreat.pairs Go.Proofs.YtijplooogplccaaGreat.ords Go.Proofs.YtijplooogplccaaGreat.recs
set_option linter.unusedVariables false
set_option linter.unusedSimpArgs false

/-! ### types without slices -/
structure Flat {α : Type} (R : Rd α) (enc : α → List Value) (ok : α → Prop) : Prop where
  own : ∀ {w vs x F}, R.own w vs x F ↔ vs = enc x ∧ ok x ∧ F = []
  see : ∀ {w vs x}, R.see w vs x ↔ vs = enc x ∧ ok x
theorem flat_int : Flat int (fun x => [.int .i64 x]) (fun x => (Lit.int .i64 x).wf = true) :=
  ⟨fun {_ _ _ _} => ⟨fun h => ⟨h.1.1, h.1.2, h.2⟩, fun h => ⟨⟨h.1, h.2.1⟩, h.2.2⟩⟩, fun {_ _ _} => Iff.rfl⟩
theorem flat_bool : Flat bool (fun x => [.bool x]) (fun _ => True) :=
  ⟨fun {_ _ _ _} => ⟨fun h => ⟨h.1, trivial, h.2⟩, fun h => ⟨h.1, h.2.2⟩⟩, fun {_ _ _} => ⟨fun h => ⟨h, trivial⟩, fun h => h.1⟩⟩
theorem flat_str : Flat str (fun x => [.string x]) (fun x => x.size ≤ maxLen) :=
  ⟨fun {_ _ _ _} => ⟨fun h => ⟨h.1.1, h.1.2, h.2⟩, fun h => ⟨⟨h.1, h.2.1⟩, h.2.2⟩⟩, fun {_ _ _} => Iff.rfl⟩
theorem flat_both {α β : Type} {R : Rd α} {S : Rd β} {e1 : α → List Value} {e2 : β → List Value} {o1 : α → Prop} {o2 : β → Prop} (h1 : Flat R e1 o1) (h2 : Flat S e2 o2) : Flat (both R S) (fun x => e1 x.1 ++ e2 x.2) (fun x => o1 x.1 ∧ o2 x.2) := by
  constructor
  · intro w vs x F
    constructor
    · rintro ⟨us, ts, F1, F2, rfl, rfl, h3, h4, _⟩
      obtain ⟨rfl, k1, rfl⟩ := h1.own.1 h3
      obtain ⟨rfl, k2, rfl⟩ := h2.own.1 h4
      exact ⟨rfl, ⟨k1, k2⟩, rfl⟩
    · rintro ⟨rfl, ⟨k1, k2⟩, rfl⟩
      exact ⟨_, _, [], [], rfl, rfl, h1.own.2 ⟨rfl, k1, rfl⟩, h2.own.2 ⟨rfl, k2, rfl⟩, List.nodup_nil⟩
  · intro w vs x
    constructor
    · rintro ⟨us, ts, rfl, h3, h4⟩
      obtain ⟨rfl, k1⟩ := h1.see.1 h3
      obtain ⟨rfl, k2⟩ := h2.see.1 h4
      exact ⟨rfl, k1, k2⟩
    · rintro ⟨rfl, k1, k2⟩
      exact ⟨_, _, rfl, h1.see.2 ⟨rfl, k1⟩, h2.see.2 ⟨rfl, k2⟩⟩
section
variable {α : Type} {R : Rd α} {enc : α → List Value} {ok : α → Prop} {ty : TypeId} {w : World} {v : Value} {l : List α} {q : Parts} {F : List Nat}
theorem Flat.parts (hR : Flat R enc ok) (h : OwnG ty R w v l q) : q = l.map (fun x => (enc x, [])) ∧ (∀ x ∈ l, ok x) ∧ blocksOf q = [] ∧ cellsOf q = l.flatMap enc := by
  have hl := h.len
  have e : q = l.map (fun x => (enc x, [])) := by
    refine List.ext_getElem (by simp [hl]) fun i h1 h2 => ?_
    have h3 := hR.own.1 (h.each i (by omega))
    rw [List.getElem_map]
    exact Prod.ext h3.1 h3.2.2
  refine ⟨e, fun x hx => ?_, ?_, ?_⟩
  · obtain ⟨i, hi, rfl⟩ := List.getElem_of_mem hx
    exact (hR.own.1 (h.each i hi)).2.1
  · rw [e]; unfold blocksOf; rw [List.flatMap_map]; simp
  · rw [e]; unfold cellsOf; rw [List.flatMap_map]
theorem Flat.row (hR : Flat R enc ok) (h : OwnG ty R w v l q) : w.ownsRow 0 ty R.size v l.length (l.flatMap enc) := by
  rw [← (hR.parts h).2.2.2]; exact h.row
theorem Flat.made (hR : Flat R enc ok) (hr : w.ownsRow 0 ty R.size v l.length (l.flatMap enc)) (hok : ∀ x ∈ l, ok x) : OwnG ty R w v l (l.map (fun x => (enc x, []))) := by
  have e1 : cellsOf (l.map (fun x => (enc x, ([] : List Nat)))) = l.flatMap enc := by unfold cellsOf; rw [List.flatMap_map]
  have e2 : blocksOf (l.map (fun x => (enc x, ([] : List Nat)))) = [] := by unfold blocksOf; rw [List.flatMap_map]; simp
  refine ⟨by simp, by rw [e1]; exact hr, fun i hi => ?_, by rw [e2]; cases v.ownBlock <;> simp⟩
  simp only [List.getElem_map]
  exact hR.own.2 ⟨rfl, hok _ (List.getElem_mem _), rfl⟩
theorem Flat.slice (hR : Flat R enc ok) : (lay.slice ty R).own w [v] l F ↔ w.ownsRow 0 ty R.size v l.length (l.flatMap enc) ∧ (∀ x ∈ l, ok x) ∧ F = v.ownBlock.toList := by
  constructor
  · rintro ⟨v', q, e, rfl, h⟩
    cases e
    exact ⟨hR.row h, (hR.parts h).2.1, by rw [(hR.parts h).2.2.1, List.append_nil]⟩
  · rintro ⟨h1, h2, rfl⟩
    have h3 := hR.made h1 h2
    exact ⟨v, _, rfl, by rw [(hR.parts h3).2.2.1, List.append_nil], h3⟩
end
/-! ### pairs, orders, whole numbers -/
def pairR : Rd Pr := both str str
def opR : Rd Od := both int (both str str)
theorem flat_pair : Flat pairR (fun p => [.string p.1, .string p.2]) small := flat_both flat_str flat_str
theorem flat_op : Flat opR (fun o => [.int .i64 o.1, .string o.2.1, .string o.2.2]) smallO := flat_both flat_int (flat_both flat_str flat_str)
def pairsR : Rd (List Pr) := slice 151 pairR
def opsR : Rd (List Od) := slice 126 opR
def intsR : Rd (List Int) := slice 3 int
section
variable {w w' : World} {a : Option Addr} {n cap : Nat} {F : List Nat} {v : Value}
theorem pairs_own {l : List Pr} : pairsR.own w [.slice a n cap] l F ↔ OwnPV w a n cap l ∧ F = (Value.slice a n cap).ownBlock.toList := by
  unfold pairsR
  rw [flat_pair.slice]
  constructor
  · rintro ⟨h1, h2, h3⟩
    have e : l.length = n := by
      rcases h1.2 with ⟨e, h0⟩ | ⟨g, c, cur, e, _⟩
      · cases e; exact h0
      · cases e; rfl
    exact ⟨⟨e, h2, by rw [← e] at h1 ⊢; exact h1⟩, h3⟩
  · rintro ⟨⟨h1, h2, h3⟩, h4⟩
    exact ⟨by rw [h1]; exact h3, h2, h4⟩
theorem ops_own {l : List Od} : opsR.own w [v] l F ↔ OwnV w 0 v l ∧ F = v.ownBlock.toList := by
  unfold opsR
  rw [flat_op.slice]
  constructor
  · rintro ⟨h1, h2, h3⟩
    exact ⟨⟨h2, h1⟩, h3⟩
  · rintro ⟨⟨h1, h2⟩, h4⟩
    exact ⟨h2, h1, h4⟩
theorem pairs_see {l : List Pr} : pairsR.see w [.slice a n cap] l ↔ SlP w a n l ∧ n ≤ cap := by
  constructor
  · rintro ⟨a', n', c', e, hc, h1, h2, h3, h4⟩
    cases e
    refine ⟨⟨h1, h2, fun p hp => ?_, fun h0 => ?_⟩, hc⟩
    · obtain ⟨vs, hv⟩ := h3 p hp
      exact (flat_pair.see.1 hv).2
    · obtain ⟨b, off, e, hi⟩ := h4 h0
      refine ⟨b, off, e, fun i hl => ?_⟩
      obtain ⟨vs, hs, hcl⟩ := hi i hl
      obtain ⟨rfl, _⟩ := flat_pair.see.1 hs
      exact ⟨hcl 0 _ rfl, hcl 1 _ rfl⟩
  · rintro ⟨⟨h1, h2, h3, h4⟩, hc⟩
    refine ⟨a, n, cap, rfl, hc, h1, h2, fun p hp => ⟨_, flat_pair.see.2 ⟨rfl, h3 p hp⟩⟩, fun h0 => ?_⟩
    obtain ⟨b, off, e, hi⟩ := h4 h0
    refine ⟨b, off, e, fun i hl => ⟨_, flat_pair.see.2 ⟨rfl, h3 _ (List.getElem_mem hl)⟩, fun j u hu => ?_⟩⟩
    obtain ⟨c0, c1⟩ := hi i hl
    match j, hu with
    | 0, hu => cases hu; exact c0
    | 1, hu => cases hu; exact c1
theorem ops_see {l : List Od} : opsR.see w [.slice a n cap] l ↔ SlO w a n l ∧ n ≤ cap := by
  constructor
  · rintro ⟨a', n', c', e, hc, h1, h2, h3, h4⟩
    cases e
    refine ⟨⟨h1, h2, fun p hp => ?_, fun h0 => ?_⟩, hc⟩
    · obtain ⟨vs, hv⟩ := h3 p hp
      exact (flat_op.see.1 hv).2
    · obtain ⟨b, off, e, hi⟩ := h4 h0
      refine ⟨b, off, e, fun i hl => ?_⟩
      obtain ⟨vs, hs, hcl⟩ := hi i hl
      obtain ⟨rfl, _⟩ := flat_op.see.1 hs
      exact ⟨hcl 0 _ rfl, hcl 1 _ rfl, hcl 2 _ rfl⟩
  · rintro ⟨⟨h1, h2, h3, h4⟩, hc⟩
    refine ⟨a, n, cap, rfl, hc, h1, h2, fun p hp => ⟨_, flat_op.see.2 ⟨rfl, h3 p hp⟩⟩, fun h0 => ?_⟩
    obtain ⟨b, off, e, hi⟩ := h4 h0
    refine ⟨b, off, e, fun i hl => ⟨_, flat_op.see.2 ⟨rfl, h3 _ (List.getElem_mem hl)⟩, fun j u hu => ?_⟩⟩
    obtain ⟨c0, c1, c2⟩ := hi i hl
    match j, hu with
    | 0, hu => cases hu; exact c0
    | 1, hu => cases hu; exact c1
    | 2, hu => cases hu; exact c2
end
/-! ### records -/
def recR : Rd Rc := both int (both int opsR)
def recsR : Rd (List Rc) := slice 133 recR
def blkR (v : Value) (hs : List Value) : List Nat := v.ownBlock.toList ++ hs.flatMap fun y => y.ownBlock.toList
section
variable {w w' : World} {a : Option Addr} {n cap : Nat} {F : List Nat} {v : Value}
theorem mem_blkR {hs : List Value} {k : Nat} : k ∈ blkR v hs ↔ BlkR v hs k := by
  unfold blkR BlkR
  rw [List.mem_append, List.mem_flatMap]
  constructor
  · rintro (h | ⟨y, hy, h⟩)
    · exact .inl (by simpa using h)
    · exact .inr ⟨y, hy, by simpa using h⟩
  · rintro (h | ⟨y, hy, h⟩)
    · exact .inl (by simp [h])
    · exact .inr ⟨y, hy, by simp [h]⟩
theorem rec_own {vs : List Value} {r : Rc} : recR.own w vs r F ↔ ∃ y, vs = [.int .i64 r.1, .int .i64 r.2.1, y] ∧ (Lit.int .i64 r.1).wf = true ∧ (Lit.int .i64 r.2.1).wf = true ∧ OwnV w 0 y r.2.2 ∧ F = y.ownBlock.toList := by
  constructor
  · rintro ⟨us, ts, F1, F2, rfl, rfl, h1, ⟨us2, ts2, F3, F4, rfl, rfl, h2, h3, _⟩, _⟩
    obtain ⟨rfl, k1, rfl⟩ := flat_int.own.1 h1
    obtain ⟨rfl, k2, rfl⟩ := flat_int.own.1 h2
    obtain ⟨a, c, q, rfl, _⟩ := own_open h3
    obtain ⟨h4, rfl⟩ := ops_own.1 h3
    exact ⟨_, rfl, k1, k2, h4, rfl⟩
  · rintro ⟨y, rfl, k1, k2, h4, rfl⟩
    have hn : (y.ownBlock.toList).Nodup := by cases y.ownBlock <;> simp
    exact ⟨[_], [_, y], [], _, rfl, rfl, flat_int.own.2 ⟨rfl, k1, rfl⟩, ⟨[_], [y], [], _, rfl, rfl, flat_int.own.2 ⟨rfl, k2, rfl⟩, ops_own.2 ⟨h4, rfl⟩, hn⟩, hn⟩
theorem rec_see {vs : List Value} {r : Rc} : recR.see w vs r ↔ ∃ pa pl pc, vs = [.int .i64 r.1, .int .i64 r.2.1, .slice pa pl pc] ∧ (Lit.int .i64 r.1).wf = true ∧ (Lit.int .i64 r.2.1).wf = true ∧ SlO w pa pl r.2.2 ∧ pl ≤ pc := by
  constructor
  · rintro ⟨us, ts, rfl, h1, us2, ts2, rfl, h2, h3⟩
    obtain ⟨rfl, k1⟩ := flat_int.see.1 h1
    obtain ⟨rfl, k2⟩ := flat_int.see.1 h2
    obtain ⟨pa, pl, pc, rfl, _⟩ := id h3
    have := ops_see.1 h3
    exact ⟨pa, pl, pc, rfl, k1, k2, this.1, this.2⟩
  · rintro ⟨pa, pl, pc, rfl, k1, k2, h1, h2⟩
    exact ⟨[_], [_, _], rfl, flat_int.see.2 ⟨rfl, k1⟩, [_], [_], rfl, flat_int.see.2 ⟨rfl, k2⟩, ops_see.2 ⟨h1, h2⟩⟩
theorem recs_see {l : List Rc} : recsR.see w [.slice a n cap] l ↔ SlR w a n l ∧ n ≤ cap := by
  constructor
  · rintro ⟨a', n', c', e, hc, h1, h2, h3, h4⟩
    cases e
    refine ⟨⟨h1, h2, fun p hp => ?_, fun h0 => ?_⟩, hc⟩
    · obtain ⟨vs, hv⟩ := h3 p hp
      obtain ⟨pa, pl, pc, _, k1, k2, k3, _⟩ := rec_see.1 hv
      exact ⟨k1, k2, k3.2.2.1⟩
    · obtain ⟨b, off, e, hi⟩ := h4 h0
      refine ⟨b, off, e, fun i hl => ?_⟩
      obtain ⟨vs, hs, hcl⟩ := hi i hl
      obtain ⟨pa, pl, pc, rfl, k1, k2, k3, k4⟩ := rec_see.1 hs
      exact ⟨hcl 0 _ rfl, hcl 1 _ rfl, pa, pl, pc, hcl 2 _ rfl, k3, k4⟩
  · rintro ⟨⟨h1, h2, h3, h4⟩, hc⟩
    have hat : 0 < n → ∃ b off, a = some ⟨b, off, none⟩ ∧ ∀ i (h : i < l.length), ∃ vs, recR.see w vs l[i] ∧ CellsAt w b (off + i * recR.size) vs := fun h0 => by
      obtain ⟨b, off, e, hi⟩ := h4 h0
      refine ⟨b, off, e, fun i hl => ?_⟩
      obtain ⟨c0, c1, pa, pl, pc, c2, k3, k4⟩ := hi i hl
      have hsm := h3 _ (List.getElem_mem hl)
      refine ⟨_, rec_see.2 ⟨pa, pl, pc, rfl, hsm.1, hsm.2.1, k3, k4⟩, fun j u hu => ?_⟩
      match j, hu with
      | 0, hu => cases hu; exact c0
      | 1, hu => cases hu; exact c1
      | 2, hu => cases hu; exact c2
    refine ⟨a, n, cap, rfl, hc, h1, h2, fun p hp => ?_, hat⟩
    obtain ⟨i, hi, rfl⟩ := List.getElem_of_mem hp
    obtain ⟨b, off, _, hx⟩ := hat (by omega)
    obtain ⟨vs, hv, _⟩ := hx i hi
    exact ⟨vs, hv⟩
def recPart (z : Rc × Value) : List Value × List Nat := ([.int .i64 z.1.1, .int .i64 z.1.2.1, z.2], z.2.ownBlock.toList)
theorem parts_cells (l : List Rc) (hs : List Value) : cellsOf ((l.zip hs).map recPart) = recVals l hs := by
  unfold cellsOf recVals recPart; rw [List.flatMap_map]
theorem parts_blocks (l : List Rc) (hs : List Value) (h : hs.length = l.length) : blocksOf ((l.zip hs).map recPart) = hs.flatMap fun y => y.ownBlock.toList := by
  unfold blocksOf recPart
  rw [List.flatMap_map]
  conv => rhs; rw [← List.map_snd_zip (l₁ := l) (l₂ := hs) (by omega)]
  rw [List.flatMap_map]
theorem recs_own {l : List Rc} : recsR.own w [v] l F ↔ ∃ hs, OwnR w 0 v l hs ∧ F = blkR v hs := by
  constructor
  · rintro ⟨v', q, e, rfl, h⟩
    cases e
    have hl := h.len
    obtain ⟨hs, hhl, hq⟩ : ∃ hs : List Value, hs.length = l.length ∧ ∀ i (h1 : i < l.length) (h2 : i < hs.length), (q[i]'(by omega)).1 = [.int .i64 l[i].1, .int .i64 l[i].2.1, hs[i]] := by
      refine ⟨q.map fun p => p.1.getD 2 (.slice none 0 0), by simp [hl], fun i h1 h2 => ?_⟩
      obtain ⟨y, e, _⟩ := rec_own.1 (h.each i h1)
      rw [List.getElem_map, e]; rfl
    have hq2 : ∀ i (h1 : i < l.length), smallR l[i] ∧ OwnV w 0 (hs[i]'(by omega)) l[i].2.2 ∧ (q[i]'(by omega)).2 = (hs[i]'(by omega)).ownBlock.toList := fun i h1 => by
      obtain ⟨y, e, k1, k2, k3, k4⟩ := rec_own.1 (h.each i h1)
      have e2 := hq i h1 (by omega)
      rw [e] at e2
      obtain rfl : y = hs[i]'(by omega) := by simpa using e2
      exact ⟨⟨k1, k2, k3.1⟩, k3, k4⟩
    have eq : q = (l.zip hs).map recPart := by
      refine List.ext_getElem (by simp [hl, hhl]) fun i h1 h2 => ?_
      rw [List.getElem_map, List.getElem_zip]
      exact Prod.ext (hq i (by omega) (by omega)) (hq2 i (by omega)).2.2
    have hnd := h.nodup
    rw [eq, parts_blocks l hs hhl] at hnd
    obtain ⟨n1, n2, n3⟩ := nodup_parts hnd
    refine ⟨hs, ⟨hhl, fun x hx => ?_, by rw [← parts_cells, ← eq]; exact h.row, fun i hi => (hq2 i hi).2.1, ?_, fun k hk y hy e => ?_⟩, ?_⟩
    · obtain ⟨i, hi, rfl⟩ := List.getElem_of_mem hx
      exact (hq2 i hi).1
    · have := (List.pairwise_flatMap.1 n2).2
      refine this.imp fun {a b} hab => ?_
      cases ha : a.ownBlock with
      | none => exact .inl rfl
      | some k =>
        right
        intro e
        exact hab k (by simp [ha]) k (by simp [← e]) rfl
    · exact n3 k (by simp [hk]) (List.mem_flatMap.2 ⟨y, hy, by simp [e]⟩)
    · unfold blkR; rw [eq, parts_blocks l hs hhl]
  · rintro ⟨hs, h, rfl⟩
    have hhl := h.len
    refine ⟨v, (l.zip hs).map recPart, rfl, by rw [parts_blocks l hs hhl]; rfl, ⟨by simp [hhl], by rw [parts_cells]; exact h.row, fun i hi => ?_, ?_⟩⟩
    · simp only [List.getElem_map, List.getElem_zip]
      have hsm := h.sm _ (List.getElem_mem hi)
      exact rec_own.2 ⟨_, rfl, hsm.1, hsm.2.1, h.ops i hi, rfl⟩
    · rw [parts_blocks l hs hhl]
      refine nodup_mk (by cases v.ownBlock <;> simp) ?_ (fun k hk hk2 => ?_)
      · refine List.pairwise_flatMap.2 ⟨fun a _ => by cases a.ownBlock <;> simp, h.apart.imp fun {a b} hab x hx y hy e => ?_⟩
        have ha : a.ownBlock = some x := by simpa using hx
        have hb : b.ownBlock = some y := by simpa using hy
        rcases hab with h1 | h1
        · rw [ha] at h1; cases h1
        · exact h1 (by rw [ha, hb, e])
      · obtain ⟨y, hy, e⟩ := List.mem_flatMap.1 hk2
        exact h.out k (by simpa using hk) y hy (by simpa using e)
end
/-! ### shards -/
def shardR : Rd Shd := both int (both recsR (both int (both pairsR recsR)))
def shVals (id sure : Int) (la : Option Addr) (ln lc : Nat) (ma : Option Addr) (mn mc : Nat) (ha : Option Addr) (hn hc : Nat) : List Value := [.int .i64 id, .slice la ln lc, .int .i64 sure, .slice ma mn mc, .slice ha hn hc]
structure SeeSh (w : World) (la : Option Addr) (ln lc : Nat) (ma : Option Addr) (mn mc : Nat) (ha : Option Addr) (hn hc : Nat) (s : Shd) : Prop where
  id : (Lit.int .i64 s.1).wf = true
  sure : (Lit.int .i64 s.2.2.1).wf = true
  log : SlR w la ln s.2.1
  map : SlP w ma mn s.2.2.2.1
  held : SlR w ha hn s.2.2.2.2
  lc : ln ≤ lc
  mc : mn ≤ mc
  hc : hn ≤ hc
section
variable {w w' : World} {la ma ha : Option Addr} {ln lc mn mc hn hc : Nat} {s : Shd} {vs : List Value} {F : List Nat}
theorem SeeSh.below (h : SeeSh w la ln lc ma mn mc ha hn hc s) (hb : Below w.heap.size w w') : SeeSh w' la ln lc ma mn mc ha hn hc s :=
  ⟨h.id, h.sure, h.log.below hb, h.map.below hb, h.held.below hb, h.lc, h.mc, h.hc⟩
theorem shard_see : shardR.see w vs s ↔ ∃ la ln lc ma mn mc ha hn hc, vs = shVals s.1 s.2.2.1 la ln lc ma mn mc ha hn hc ∧ SeeSh w la ln lc ma mn mc ha hn hc s := by
  constructor
  · rintro ⟨u1, t1, rfl, h1, u2, t2, rfl, h2, u3, t3, rfl, h3, u4, t4, rfl, h4, h5⟩
    obtain ⟨rfl, k1⟩ := flat_int.see.1 h1
    obtain ⟨rfl, k3⟩ := flat_int.see.1 h3
    obtain ⟨la, ln, lc, rfl, _⟩ := id h2
    obtain ⟨ma, mn, mc, rfl, _⟩ := id h4
    obtain ⟨ha, hn, hc, rfl, _⟩ := id h5
    have e2 := recs_see.1 h2
    have e4 := pairs_see.1 h4
    have e5 := recs_see.1 h5
    exact ⟨la, ln, lc, ma, mn, mc, ha, hn, hc, rfl, k1, k3, e2.1, e4.1, e5.1, e2.2, e4.2, e5.2⟩
  · rintro ⟨la, ln, lc, ma, mn, mc, ha, hn, hc, rfl, h⟩
    exact ⟨[_], [_, _, _, _], rfl, flat_int.see.2 ⟨rfl, h.id⟩, [_], [_, _, _], rfl, recs_see.2 ⟨h.log, h.lc⟩, [_], [_, _], rfl, flat_int.see.2 ⟨rfl, h.sure⟩, [_], [_], rfl, pairs_see.2 ⟨h.map, h.mc⟩, recs_see.2 ⟨h.held, h.hc⟩⟩
structure OwnSh (w : World) (la : Option Addr) (ln lc : Nat) (ma : Option Addr) (mn mc : Nat) (ha : Option Addr) (hn hc : Nat) (s : Shd) (F : List Nat) : Prop where
  id : (Lit.int .i64 s.1).wf = true
  sure : (Lit.int .i64 s.2.2.1).wf = true
  log : ∃ hl, OwnR w 0 (.slice la ln lc) s.2.1 hl ∧ ∃ hh, OwnR w 0 (.slice ha hn hc) s.2.2.2.2 hh ∧ F = blkR (.slice la ln lc) hl ++ ((Value.slice ma mn mc).ownBlock.toList ++ blkR (.slice ha hn hc) hh)
  map : OwnPV w ma mn mc s.2.2.2.1
  nodup : F.Nodup
theorem shard_own : shardR.own w vs s F ↔ ∃ la ln lc ma mn mc ha hn hc, vs = shVals s.1 s.2.2.1 la ln lc ma mn mc ha hn hc ∧ OwnSh w la ln lc ma mn mc ha hn hc s F := by
  constructor
  · rintro ⟨u1, t1, F1, G1, rfl, rfl, h1, ⟨u2, t2, F2, G2, rfl, rfl, h2, ⟨u3, t3, F3, G3, rfl, rfl, h3, ⟨u4, t4, F4, G4, rfl, rfl, h4, h5, _⟩, _⟩, _⟩, hnd⟩
    obtain ⟨rfl, k1, rfl⟩ := flat_int.own.1 h1
    obtain ⟨rfl, k3, rfl⟩ := flat_int.own.1 h3
    obtain ⟨la, lc, q2, rfl, _⟩ := own_open h2
    obtain ⟨ma, mc, q4, rfl, _⟩ := own_open h4
    obtain ⟨ha, hc, q5, rfl, _⟩ := own_open h5
    obtain ⟨hl, e2, rfl⟩ := recs_own.1 h2
    obtain ⟨e4, rfl⟩ := pairs_own.1 h4
    obtain ⟨hh, e5, rfl⟩ := recs_own.1 h5
    exact ⟨la, _, lc, ma, _, mc, ha, _, hc, rfl, k1, k3, ⟨hl, e2, hh, e5, rfl⟩, e4, hnd⟩
  · rintro ⟨la, ln, lc, ma, mn, mc, ha, hn, hc, rfl, h⟩
    obtain ⟨hl, e2, hh, e5, rfl⟩ := h.log
    have hnd := h.nodup
    have hnd2 := (nodup_parts hnd).2.1
    exact ⟨[_], [_, _, _, _], [], _, rfl, rfl, flat_int.own.2 ⟨rfl, h.id, rfl⟩, ⟨[_], [_, _, _], _, _, rfl, rfl, recs_own.2 ⟨hl, e2, rfl⟩, ⟨[_], [_, _], [], _, rfl, rfl, flat_int.own.2 ⟨rfl, h.sure, rfl⟩, ⟨[_], [_], _, _, rfl, rfl, pairs_own.2 ⟨h.map, rfl⟩, recs_own.2 ⟨hh, e5, rfl⟩, hnd2⟩, hnd2⟩, hnd⟩, hnd⟩
theorem OwnPV.room {l : List Pr} {a : Option Addr} {n cap : Nat} (h : OwnPV w a n cap l) : n ≤ cap ∧ cap ≤ maxLen := by
  rcases h.shape with ⟨rfl, rfl, rfl, _⟩ | ⟨g, rfl, h⟩
  · exact ⟨Nat.le_refl _, Nat.zero_le _⟩
  · exact OwnP.cases h
theorem OwnSh.see (h : OwnSh w la ln lc ma mn mc ha hn hc s F) : SeeSh w la ln lc ma mn mc ha hn hc s := by
  obtain ⟨hl, e2, hh, e5, rfl⟩ := h.log
  exact ⟨h.id, h.sure, e2.sl, h.map.sl, e5.sl, e2.room.1, (OwnPV.room h.map).1, e5.room.1⟩
theorem OwnSh.lt (h : OwnSh w la ln lc ma mn mc ha hn hc s F) : ∀ k ∈ F, k < w.heap.size :=
  shardR.ownLt (shard_own.2 ⟨_, _, _, _, _, _, _, _, _, rfl, h⟩)
theorem OwnSh.keep (h : OwnSh w la ln lc ma mn mc ha hn hc s F) (hk : ∀ k ∈ F, w'.heap[k]? = w.heap[k]?) : OwnSh w' la ln lc ma mn mc ha hn hc s F := by
  obtain ⟨hl, e2, hh, e5, rfl⟩ := h.log
  refine ⟨h.id, h.sure, ⟨hl, e2.of_blocks (fun k e => hk k (List.mem_append.2 (.inl (mem_blkR.2 e)))), hh, e5.of_blocks (fun k e => hk k (List.mem_append.2 (.inr (List.mem_append.2 (.inr (mem_blkR.2 e)))))), rfl⟩, h.map.of_block (fun k e => hk k (List.mem_append.2 (.inr (List.mem_append.2 (.inl (by simp [e])))))), h.nodup⟩
theorem OwnSh.below (h : OwnSh w la ln lc ma mn mc ha hn hc s F) (hb : Below w.heap.size w w') : OwnSh w' la ln lc ma mn mc ha hn hc s F := h.keep fun k hk => hb.block k (h.lt k hk)
theorem OwnSh.frame {G : List Nat} (h : OwnSh w la ln lc ma mn mc ha hn hc s F) (hf : Frame G w w') (hd : ∀ k ∈ F, k ∉ G) : OwnSh w' la ln lc ma mn mc ha hn hc s F := h.keep fun k hk => hf.block k (h.lt k hk) (hd k hk)
end
end Go.Proofs.YtijplooogplccaaGreat.lay
