/- The laws' helpers for records that are handed in: copied; and the arguments, opened. The laws' own harness at slices of records: made anew, and counted. What the exact law of ReplayRecs keeps from step to step: the records that were handed in, the answer's pairs and records and the specification's. The specification's shard: whether it is right. The specification's copy of records. -/
import Derived.Test.YtggdgceglmbaiaaGreatDoorBund9at
import Derived.Test.YtggdgceglmbaiaaGreatDoorBund9ar
import Derived.Test.YtggdgceglmbaiaaGreatDoorBund9ah
import Derived.Test.YtggdgceglmbaiaaGreatDoorBund9al
namespace Go.Proofs.YtggdgceglmbaiaaGreatDoor.recs
open Go Go.RowKit Go.Proofs.YtggdgceglmbaiaaGreatDoor.base Go.Proofs.YtggdgceglmbaiaaGreatDoor.pairs Go.Proofs.YtggdgceglmbaiaaGreatDoor.ords Go.Proofs.YtggdgceglmbaiaaGreatDoor.helps
set_option linter.unusedVariables false
set_option linter.unusedSimpArgs false

theorem v3n (w : World) (t : TypeId) (x y z : Value) : V3 (w.alloc (.cells #[x, y, z] t)) w.heap.size t x y z := heap_alloc_new w _
theorem v3a {w : World} {g : Nat} {t : TypeId} {x y z : Value} (h : V3 w g t x y z) (o : Obj) : V3 (w.alloc o) g t x y z := h.below ((Below.refl _ _).alloc (Nat.le_refl _) _)
theorem v3n1 (w : World) (o : Obj) (t : TypeId) (x y z : Value) : V3 ((w.alloc o).alloc (.cells #[x, y, z] t)) (w.heap.size + 1) t x y z := by
  have := v3n (w.alloc o) t x y z
  have e : (w.alloc o).heap.size = w.heap.size + 1 := by simp
  rw [e] at this; exact this
theorem v3n2 (w : World) (o o2 : Obj) (t : TypeId) (x y z : Value) : V3 (((w.alloc o).alloc o2).alloc (.cells #[x, y, z] t)) (w.heap.size + 2) t x y z := by
  have := v3n1 (w.alloc o) o2 t x y z
  have e : (w.alloc o).heap.size = w.heap.size + 1 := by simp
  rw [e] at this; exact this


/-! ### arguments -/
end Go.Proofs.YtggdgceglmbaiaaGreatDoor.recs

namespace Go.Proofs.YtggdgceglmbaiaaGreatDoor.recs
open Go Go.RowKit Go.Proofs.YtggdgceglmbaiaaGreatDoor.base Go.Proofs.YtggdgceglmbaiaaGreatDoor.pairs Go.Proofs.YtggdgceglmbaiaaGreatDoor.ords
set_option linter.unusedVariables false
set_option linter.unusedSimpArgs false

theorem recVals_put (l : List Rc) (hs : List Value) (h : hs.length = l.length) (i : Nat) (hi : i < l.length) (x : Rc) (y : Value) : (((recVals l hs).set (i * 3) (.int .i64 x.1)).set (i * 3 + 1) (.int .i64 x.2.1)).set (i * 3 + 2) y = recVals (l.set i x) (hs.set i y) := by
  induction l generalizing hs i with
  | nil => simp at hi
  | cons r l ih =>
    cases hs with
    | nil => simp at h
    | cons u hs =>
      cases i with
      | zero => rfl
      | succ i =>
        rw [recVals_cons, show (i + 1) * 3 = i * 3 + 1 + 1 + 1 by omega, show i * 3 + 1 + 1 + 1 + 1 = (i * 3 + 1) + 1 + 1 + 1 by omega, show i * 3 + 1 + 1 + 1 + 2 = (i * 3 + 2) + 1 + 1 + 1 by omega]
        simp only [List.set_cons_succ, recVals_cons]
        rw [ih hs (by simpa using h) i (by simpa using hi)]
/-- one record written into its place -/
theorem OwnR.put {w : World} {base g n cap : Nat} {l : List Rc} {hs : List Value} (h : OwnR w base (.slice (some ⟨g, 0, none⟩) n cap) l hs) (i : Nat) (hi : i < l.length) (x : Rc) (y : Value) (hx : smallR x) (hy : OwnV w base y x.2.2) (hout : ∀ k, y.ownBlock = some k → ¬ BlkR (.slice (some ⟨g, 0, none⟩) n cap) hs k) :
    OwnR (((w.setCell ⟨g, i * 3, none⟩ (.int .i64 x.1)).setCell ⟨g, i * 3 + 1, none⟩ (.int .i64 x.2.1)).setCell ⟨g, i * 3 + 2, none⟩ y) base (.slice (some ⟨g, 0, none⟩) n cap) (l.set i x) (hs.set i y) ∧
      w.grownBy (((w.setCell ⟨g, i * 3, none⟩ (.int .i64 x.1)).setCell ⟨g, i * 3 + 1, none⟩ (.int .i64 x.2.1)).setCell ⟨g, i * 3 + 2, none⟩ y) (some g) := by
  obtain rfl := h.nlen
  have hlen := h.len
  have s0 := h.row.stored (i * 3) (.int .i64 x.1)
  have s1 := s0.1.stored (i * 3 + 1) (.int .i64 x.2.1)
  have s2 := s1.1.stored (i * 3 + 2) y
  rw [recVals_put l hs h.len i hi x y] at s2
  have hg := grownBy_trans (grownBy_trans s0.2 s1.2) s2.2
  have hyg : y.ownBlock ≠ some g := fun e => hout g e (.inl rfl)
  refine ⟨⟨by simpa using h.len, mem_set_smallR h.sm hx, by simpa using s2.1, fun j hj => ?_, ?_, ?_⟩, hg⟩
  · have hjl : j < l.length := by simpa using hj
    by_cases e : i = j
    · subst e
      rw [List.getElem_set_self, List.getElem_set_self]
      exact hy.grown hg (.inr hyg)
    · rw [List.getElem_set_ne e, List.getElem_set_ne e]
      exact (h.ops j hjl).grown hg (.inr (h.out g rfl _ (List.getElem_mem _)))
  · rw [List.pairwise_iff_getElem]
    intro a b ha hb hab
    have ha' : a < hs.length := by simpa using ha
    have hb' : b < hs.length := by simpa using hb
    have hp := List.pairwise_iff_getElem.1 h.apart a b ha' hb' hab
    by_cases ea : i = a
    · subst ea
      rw [List.getElem_set_self, List.getElem_set_ne (by omega)]
      cases e : y.ownBlock with
      | none => exact .inl rfl
      | some k => exact .inr (fun e2 => hout k e (.inr ⟨hs[b], List.getElem_mem _, e2.symm⟩))
    · rw [List.getElem_set_ne ea]
      by_cases eb : i = b
      · subst eb
        rw [List.getElem_set_self]
        cases e : hs[a].ownBlock with
        | none => exact .inl rfl
        | some k => exact .inr (fun e2 => hout k e2.symm (.inr ⟨hs[a], List.getElem_mem _, e⟩))
      · rw [List.getElem_set_ne eb]; exact hp
  · intro k hk z hz
    rcases List.mem_or_eq_of_mem_set hz with h1 | h1
    · exact h.out k hk z h1
    · subst h1
      have : k = g := by simpa [Value.ownBlock] using hk.symm
      rw [this]; exact hyg
/-- the records that are there, the zero one behind them -/
def copyR (l : List Rc) (k : Nat) : List Rc := l.take k ++ List.replicate (l.length - k) (0, 0, [])
theorem copyR_length (l : List Rc) (k : Nat) (h : k ≤ l.length) : (copyR l k).length = l.length := by simp [copyR]; omega
theorem copyR_set (l : List Rc) (k : Nat) (h : k < l.length) : (copyR l k).set k l[k] = copyR l (k + 1) := by
  unfold copyR
  rw [List.take_succ_eq_append_getElem h]
  have e1 : (l.take k).length = k := by simp; omega
  have e2 : l.length - k = (l.length - (k + 1)) + 1 := by omega
  rw [List.set_append_right _ _ (by omega), e1, Nat.sub_self, e2, List.replicate_succ, List.set_cons_zero, List.append_assoc]
  rfl
theorem copyR_all (l : List Rc) : copyR l l.length = l := by simp [copyR]
theorem recVals_rep (n : Nat) : recVals (List.replicate n (0, 0, [])) (List.replicate n (.slice none 0 0)) = (madeCells (Value.agg #[.int .i64 0, .int .i64 0, .slice none 0 0]).cells (n * 3)).toList := by
  apply List.ext_getElem?
  intro j
  by_cases hj : j < n * 3
  · have hd : j / 3 < n := by omega
    have hc := recVals_get (List.replicate n ((0, 0, []) : Rc)) (List.replicate n (.slice none 0 0)) (by simp) (j / 3) (by simpa using hd)
    have hmod : j % 3 = 0 ∨ j % 3 = 1 ∨ j % 3 = 2 := by omega
    rcases hmod with h3 | h3 | h3
    · have e : j = j / 3 * 3 := by omega
      conv => lhs; rw [e, hc.1]
      simp [madeCells, h3, hj, Value.cells]
    · have e : j = j / 3 * 3 + 1 := by omega
      conv => lhs; rw [e, hc.2.1]
      simp [madeCells, h3, hj, Value.cells]
    · have e : j = j / 3 * 3 + 2 := by omega
      conv => lhs; rw [e, hc.2.2]
      simp [madeCells, h3, hj, Value.cells]
  · rw [List.getElem?_eq_none (by rw [recVals_length _ _ (by simp)]; simp; omega), List.getElem?_eq_none (by simp [madeCells]; omega)]
theorem infoRH : (Tryz.prog.info? 36).map (fun i => (i.zero, i.size, i.bytes)) = some (some (.agg #[.int .i64 0, .int .i64 0, .slice none 0 0]), 3, 40) := by kernel_rfl
theorem copyR_small {l : List Rc} (k : Nat) (h : ∀ x ∈ l, smallR x) : ∀ x ∈ copyR l k, smallR x := by
  intro x hx
  rcases List.mem_append.1 hx with h1 | h1
  · exact h x (List.mem_of_mem_take h1)
  · obtain rfl := (List.mem_replicate.1 h1).2
    exact ⟨rfl, rfl, fun o ho => absurd ho List.not_mem_nil⟩

def rsz (r : Rc) : Nat := r.2.2.length + sumO r.2.2
def sumR (l : List Rc) : Nat := (l.map rsz).sum
theorem sumR_take (l : List Rc) (k : Nat) (h : k < l.length) : sumR (l.take (k + 1)) = sumR (l.take k) + rsz l[k] := by
  unfold sumR
  rw [List.take_succ_eq_append_getElem h, List.map_append, List.sum_append]; simp
theorem sumR_le (l : List Rc) (k : Nat) : sumR (l.take k) ≤ sumR l := by
  conv => rhs; rw [← List.take_append_drop k l]
  unfold sumR
  rw [List.map_append, List.sum_append]; omega
theorem sumR_mem {l : List Rc} {r : Rc} (h : r ∈ l) : rsz r ≤ sumR l := by
  obtain ⟨i, hi, rfl⟩ := List.getElem_of_mem h
  have h1 := sumR_take l i hi
  have h2 := sumR_le l (i + 1)
  omega

end Go.Proofs.YtggdgceglmbaiaaGreatDoor.recs

namespace Go.Proofs.YtggdgceglmbaiaaGreatDoor.recs
open Go Go.RowKit Go.Proofs.YtggdgceglmbaiaaGreatDoor.base Go.Proofs.YtggdgceglmbaiaaGreatDoor.pairs Go.Proofs.YtggdgceglmbaiaaGreatDoor.ords
set_option linter.unusedVariables false

theorem replayGo_tame : ∀ (l : List Rc) (k : Nat) (s t : St), Tame k s → replayGo s l = some t → Tame (k + l.length) t
  | [], k, s, t, h, e => by cases e; exact h
  | r :: l, k, s, t, h, e => by
    rw [replayGo] at e
    split at e
    · cases e
    · next u hu =>
      have := replayGo_tame l (k + 1) u t (h.step hu) e
      rw [List.length_cons, Nat.add_comm l.length 1, ← Nat.add_assoc]
      exact this
theorem cntR_le8 (l : List Rc) (h : ∀ r ∈ l, recOk r = true) : cntR l ≤ 26 * l.length := by
  induction l with
  | nil => simp [cntR]
  | cons x l ih =>
    rw [cntR_cons, List.length_cons]
    have h1 := ih fun r hr => h r (List.mem_cons_of_mem _ hr)
    have h2 : x.2.2.length ≤ 8 := by
      rcases ((recOk_iff x).1 (h x List.mem_cons_self)).2 with ⟨_, h2⟩ | ⟨_, h2⟩
      · exact ((opsOk_iff _).1 h2).2.2
      · rw [h2]; simp
    omega
theorem replay_sizes (l : List Rc) : (resM (replay l)).length ≤ 60 ∧ (resH (replay l)).length ≤ l.length ∧ cntR (resH (replay l)) ≤ 26 * l.length := by
  cases hr : replay l with
  | none => simp [resM, resH, cntR]
  | some s =>
    have h := replayGo_tame l 0 _ s tame_start hr
    have h2 := cntR_le8 s.2.1 h.ok
    have h3 := h.held
    simp only [resM, resH]
    exact ⟨h.few, by omega, by omega⟩
theorem repPost_open {w w' : World} {r : Option St} {e : Ending} {P : List Pr} {L : List Rc} {bb : Bool} {n m : Nat} (hP : resM r = P) (hL : resH r = L) (hb : r.isSome = bb) (hn : P.length = n) (hm : L.length = m) (h : RepPost w r e w') :
    ∃ g cp g2 c2 hs, e = .returned (.tuple #[.slice (some ⟨g, 0, none⟩) n cp, .slice (some ⟨g2, 0, none⟩) m c2, .bool bb]) ∧ OwnP w' w.heap.size g n cp P ∧ OwnR w' w.heap.size (.slice (some ⟨g2, 0, none⟩) m c2) L hs ∧ ¬ BlkR (.slice (some ⟨g2, 0, none⟩) m c2) hs g ∧ Below w.heap.size w w' := by
  obtain ⟨g, np, cp, g2, c2, hs, rfl, h1, h2, h3, h4⟩ := h
  subst hP hL hb hm
  have e1 : np = n := by have := h1.1; omega
  subst e1
  exact ⟨g, cp, g2, c2, hs, rfl, h1, h2, h3, h4⟩
theorem OwnR.plain {w : World} {base g n cap : Nat} {l : List Rc} {hs : List Value} (h : OwnR w base (.slice (some ⟨g, 0, none⟩) n cap) l hs) : PlainR w (some ⟨g, 0, none⟩) n := by
  intro b off e i hi pa pl pc hc
  obtain rfl := h.nlen
  simp only [Option.some.injEq, Addr.mk.injEq, and_true] at e
  obtain ⟨rfl, rfl⟩ := e
  have h1 := (h.at i hi).2.2
  rw [Nat.zero_add] at hc
  rw [hc] at h1
  have h2 := (h.ops i hi).shape
  rw [← Option.some.inj h1] at h2
  rcases h2 with ⟨h2, _⟩ | ⟨g2, c2, h2, _⟩
  · cases h2; exact .inl rfl
  · cases h2; exact .inr ⟨_, _, rfl⟩
structure HexR (w0 w : World) (B1 B2 gw n cw : Nat) (vs vx : Value) (gg cg : Nat) (vg : Value) (hss hsx hsg : List Value) (P : List Pr) (R X : List Rc) (G : List Pr) (H : List Rc) : Prop where
  bel : Below w0.heap.size w0 w
  wp : OwnP w w0.heap.size gw n cw P
  wr : OwnR w w0.heap.size vs R hss
  x : OwnR w w0.heap.size vx X hsx
  gp : OwnP w w0.heap.size gg n cg G
  gr : OwnR w w0.heap.size vg H hsg
  h1 : gw < B1
  h2 : ∀ k, BlkR vs hss k → k < B1
  h3 : ∀ k, BlkR vx hsx k → B1 ≤ k ∧ k < B2
  h4 : B2 ≤ gg
  h5 : ∀ k, BlkR vg hsg k → B2 ≤ k
  h6 : ¬ BlkR vg hsg gg
  h7 : B1 ≤ B2
section
variable {w0 w w' : World} {B1 B2 gw n cw gg cg : Nat} {vs vx vg : Value} {hss hsx hsg : List Value} {P G : List Pr} {R X H : List Rc}
theorem HexR.below (h : HexR w0 w B1 B2 gw n cw vs vx gg cg vg hss hsx hsg P R X G H) (hb : Below w.heap.size w w') : HexR w0 w' B1 B2 gw n cw vs vx gg cg vg hss hsx hsg P R X G H :=
  ⟨h.bel.trans (hb.mono h.bel.size), h.wp.below hb, h.wr.below hb, h.x.below hb, h.gp.below hb, h.gr.below hb, h.h1, h.h2, h.h3, h.h4, h.h5, h.h6, h.h7⟩
theorem ownP_of_block {base g n c : Nat} {l : List Pr} (h : OwnP w base g n c l) (hk : w'.heap[g]? = w.heap[g]?) : OwnP w' base g n c l :=
  ⟨h.1, h.2.1, rowR_of_block h.2.2 (fun k e => by cases e; exact hk)⟩
theorem HexR.markX (h : HexR w0 w B1 B2 gw n cw vs vx gg cg vg hss hsx hsg P R X G H) {X' : List Rc} (ho : OwnR w' w0.heap.size vx X' hsx) (hk : KeepR vx hsx w w') : HexR w0 w' B1 B2 gw n cw vs vx gg cg vg hss hsx hsg P R X' G H := by
  have h1 := h.h1
  have h4 := h.h4
  have h7 := h.h7
  refine ⟨h.bel.trans (hk.bel h.bel.size (fun k e => (h.x.lt k e).1)), ownP_of_block h.wp (hk.block _ h.wp.lt.2 (fun e => by have := h.h3 _ e; omega)), h.wr.of_blocks (fun k e => hk.block k (h.wr.lt k e).2 (fun e2 => by have := h.h3 _ e2; have := h.h2 _ e; omega)), ho, ownP_of_block h.gp (hk.block _ h.gp.lt.2 (fun e => by have := h.h3 _ e; omega)), h.gr.of_blocks (fun k e => hk.block k (h.gr.lt k e).2 (fun e2 => by have := h.h3 _ e2; have := h.h5 _ e; omega)), h.h1, h.h2, h.h3, h.h4, h.h5, h.h6, h.h7⟩
theorem HexR.markP (h : HexR w0 w B1 B2 gw n cw vs vx gg cg vg hss hsx hsg P R X G H) {G' : List Pr} (ho : OwnP w' w0.heap.size gg n cg G') (hg : w.grownBy w' (some gg)) : HexR w0 w' B1 B2 gw n cw vs vx gg cg vg hss hsx hsg P R X G' H := by
  have h1 := h.h1
  have h4 := h.h4
  have h7 := h.h7
  refine ⟨h.bel.grown hg h.bel.size (fun k e => by cases e; exact h.gp.lt.1), h.wp.grown hg (fun e => by cases e; omega), h.wr.grown hg (fun e => by have := h.h2 _ e; omega), h.x.grown hg (fun e => by have := h.h3 _ e; omega), ho, h.gr.grown hg h.h6, h.h1, h.h2, h.h3, h.h4, h.h5, h.h6, h.h7⟩
theorem HexR.markG (h : HexR w0 w B1 B2 gw n cw vs vx gg cg vg hss hsx hsg P R X G H) {H' : List Rc} (ho : OwnR w' w0.heap.size vg H' hsg) (hk : KeepR vg hsg w w') : HexR w0 w' B1 B2 gw n cw vs vx gg cg vg hss hsx hsg P R X G H' := by
  have h1 := h.h1
  have h4 := h.h4
  have h7 := h.h7
  refine ⟨h.bel.trans (hk.bel h.bel.size (fun k e => (h.gr.lt k e).1)), ownP_of_block h.wp (hk.block _ h.wp.lt.2 (fun e => by have := h.h5 _ e; omega)), h.wr.of_blocks (fun k e => hk.block k (h.wr.lt k e).2 (fun e2 => by have := h.h5 _ e2; have := h.h2 _ e; omega)), h.x.of_blocks (fun k e => hk.block k (h.x.lt k e).2 (fun e2 => by have := h.h5 _ e2; have := h.h3 _ e; omega)), ownP_of_block h.gp (hk.block _ h.gp.lt.2 h.h6), ho, h.h1, h.h2, h.h3, h.h4, h.h5, h.h6, h.h7⟩
end
end Go.Proofs.YtggdgceglmbaiaaGreatDoor.recs

namespace Go.Proofs.YtggdgceglmbaiaaGreatDoor.recs
open Go Go.RowKit Go.Proofs.YtggdgceglmbaiaaGreatDoor.base Go.Proofs.YtggdgceglmbaiaaGreatDoor.pairs Go.Proofs.YtggdgceglmbaiaaGreatDoor.ords Go.Proofs.YtggdgceglmbaiaaGreatDoor.helps Go.Proofs.YtggdgceglmbaiaaGreatDoor.help Go.Proofs.YtggdgceglmbaiaaGreatDoor.lay
set_option linter.unusedVariables false
set_option linter.unusedSimpArgs false

/-- records whose orders and keys are no longer than any machine has room for -/
def Few (l : List Rc) : Prop := ∀ r ∈ l, r.2.2.length ≤ 1099511627776 ∧ ∀ p ∈ r.2.2, p.2.1.size ≤ 1099511627776
abbrev aggSh (id sure : Int) (la : Option Addr) (ln lc : Nat) (ma : Option Addr) (mn mc : Nat) (ha : Option Addr) (hn hc : Nat) : Value := .agg #[.int .i64 id, .slice la ln lc, .int .i64 sure, .slice ma mn mc, .slice ha hn hc]
abbrev boxSh (id sure : Int) (la : Option Addr) (ln lc : Nat) (ma : Option Addr) (mn mc : Nat) (ha : Option Addr) (hn hc : Nat) : Obj := .cells #[.int .i64 id, .slice la ln lc, .int .i64 sure, .slice ma mn mc, .slice ha hn hc] 27
theorem shardOk_no1 {s : Shd} (h : ¬ (0 ≤ s.1 ∧ s.1 ≤ 7)) : shardOk s = false := by unfold shardOk; rw [decide_eq_false h]; rfl
theorem shardOk_no2 {s : Shd} (h : 300 < s.2.1.length) : shardOk s = false := by unfold shardOk; rw [decide_eq_false (p := s.2.1.length ≤ 300) (by omega)]; simp
theorem shardOk_no3 {s : Shd} (h : ¬ (0 ≤ s.2.2.1 ∧ s.2.2.1 ≤ (s.2.1.length : Int))) : shardOk s = false := by unfold shardOk; rw [decide_eq_false h]; simp
theorem shardOk_yes {s : Shd} (h1 : 0 ≤ s.1 ∧ s.1 ≤ 7) (h2 : s.2.1.length ≤ 300) (h3 : 0 ≤ s.2.2.1 ∧ s.2.2.1 ≤ (s.2.1.length : Int)) :
    shardOk s = ((replay s.2.1).isSome && decide (resM (replay s.2.1) = s.2.2.2.1) && decide (resH (replay s.2.1) = s.2.2.2.2) && decide (s.2.1.length + (resH (replay s.2.1)).length ≤ 300)) := by
  unfold shardOk
  rw [decide_eq_true h1, decide_eq_true h2, decide_eq_true h3]
  cases replay s.2.1 with
  | none => rfl
  | some t =>
    rw [Bool.eq_iff_iff]
    simp only [Bool.and_eq_true, decide_eq_true_iff, resM, resH, Option.isSome_some, true_and]
    exact ⟨fun ⟨⟨a, b⟩, c⟩ => ⟨⟨decide_eq_true a, decide_eq_true b⟩, decide_eq_true c⟩, fun ⟨⟨a, b⟩, c⟩ => ⟨⟨of_decide_eq_true a, of_decide_eq_true b⟩, of_decide_eq_true c⟩⟩
set_option maxRecDepth 100000 in
set_option maxHeartbeats 2000000 in
theorem spec_shardOk (la : Option Addr) (ln lc : Nat) (ma : Option Addr) (mn mc : Nat) (ha : Option Addr) (hn hc : Nat) (s : Shd) (w : World) (h : SeeSh w la ln lc ma mn mc ha hn hc s) (hf : Few s.2.1) :
    Calls Tryz.prog 23 #[aggSh s.1 s.2.2.1 la ln lc ma mn mc ha hn hc] w fun e w' => e = .returned (.bool (shardOk s)) ∧ Below w.heap.size w w' := by
  have hll := h.log.1
  have hmx := h.log.2.1
  unfold maxLen at hmx
  obtain ⟨W, hW⟩ : ∃ W, w.alloc (boxSh s.1 s.2.2.1 la ln lc ma mn mc ha hn hc) = W := ⟨_, rfl⟩
  have hB : Below w.heap.size w W := by rw [← hW]; exact (Below.refl _ _).alloc (Nat.le_refl _) _
  have hbx : BoxIn w.heap.size 27 [] (shVals s.1 s.2.2.1 la ln lc ma mn mc ha hn hc) [] W := by rw [← hW]; exact boxIn_new w _ _
  have HI1 := Hid.mk' (fun wx => spec_in s.1 0 7 wx)
  have HI2 := Hid.mk' (fun wx => spec_in s.2.2.1 0 ln wx)
  have HW := Hid.mk' hW
  have HHL := Hid.mk' h.held.1
  have hhm := h.held.2.1
  unfold maxLen at hhm
  have HLL := Hid.mk' hll
  generalize hR : shardOk s = R
  have c0 := hbx.cell 0 _ rfl
  have c1 := hbx.cell 1 _ rfl
  have c2 := hbx.cell 2 _ rfl
  simp only [List.length_nil, Nat.zero_add] at c0 c1 c2
  have hXl := hbx.lt
  by_cases h1 : 0 ≤ s.1 ∧ s.1 ≤ 7
  · rw [decide_eq_true h1] at HI1
    by_cases h2 : s.2.1.length ≤ 300
    · have hn2 : ¬ (300 : Int) < (ln : Int) := by omega
      by_cases h3 : 0 ≤ s.2.2.1 ∧ s.2.2.1 ≤ (s.2.1.length : Int)
      · rw [decide_eq_true (show 0 ≤ s.2.2.1 ∧ s.2.2.1 ≤ (ln : Int) by omega)] at HI2
        rw [shardOk_yes h1 h2 h3] at hR
        have HRP := Hid.mk' (spec_replay la ln lc s.2.1 W (h.log.below hB) (by omega) hf)
        have hlt : (resH (replay s.2.1)).length ≤ 300 := by have := (replay_sizes s.2.1).2.1; omega
        have hln : ln ≤ 300 := by omega
        generalize replay s.2.1 = t at *
        have HR := Hid.mk' hR
        have hS := h
        clear hR hW h h1 h2 h3 hll
        go_enter Tryz.func23, Tryz.ntmps23
        go_wp2_with fail
        refine (HI1.out _).mono ?_
        rintro e w1 ⟨rfl, rfl⟩
        go_wp2_with fail
        refine (HI2.out _).mono ?_
        rintro e w1 ⟨rfl, rfl⟩
        go_wp2_with fail
        rw [HW.out]
        refine HRP.out.mono ?_
        rintro e w2 ⟨g, np, cp, g2, c2', hs, rfl, hO, hOR, _, hb2⟩
        have hbx2 := hbx.below hb2
        have d1 := hbx2.cell 1 _ rfl
        have d3 := hbx2.cell 3 _ rfl
        have d4 := hbx2.cell 4 _ rfl
        simp only [List.length_nil, Nat.zero_add] at d1 d3 d4
        have hB2 := hB.trans (hb2.mono hB.size)
        have HSP := Hid.mk' (spec_samePairs (some ⟨g, 0, none⟩) ma np cp mn mc (resM t) s.2.2.2.1 w2 hO.sl (hS.map.below hB2))
        have HSR := Hid.mk' (fun wx (hx : Below w2.heap.size w2 wx) => spec_sameRecs (some ⟨g2, 0, none⟩) ha _ c2' hn hc (resH t) s.2.2.2.2 wx (hOR.sl.below hx) ((hS.held.below hB2).below hx))
        have hlh : (resH t).length ≤ maxLen := hOR.sl.2.1
        unfold maxLen at hlh
        clear HRP HI1 HI2 HW c0 c1 c2 hbx hO
        cases hts : t.isSome with
        | false =>
          have HR2 : Hid (R = false) := by show _ = _; rw [← HR.out, hts]; rfl
          clear HR HSP HSR
          go_wp2_with fail
          go_ret
          rw [HR2.out]
          exact ⟨rfl, hB2⟩
        | true =>
          by_cases e1 : resM t = s.2.2.2.1
          · rw [decide_eq_true e1] at HSP
            have hbd : ∀ n, Below w2.heap.size w2 (w2.drewN n) := fun n => below_drewN (Below.refl _ _) n
            by_cases e2 : resH t = s.2.2.2.2
            · rw [decide_eq_true e2] at HSR
              have HR2 : Hid (R = decide (s.2.1.length + (resH t).length ≤ 300)) := by show _ = _; rw [← HR.out, hts, decide_eq_true e1, decide_eq_true e2]; simp
              clear HR
              have hes : (resH t).length = hn := by rw [e2]; exact HHL.out
              have HES := Hid.mk' hes
              clear hes e1 e2
              go_wp2_with fail
              refine HSP.out.mono ?_
              rintro e w3 ⟨rfl, n3, rfl⟩
              have hbx3 := hbx2.below (hbd n3)
              have f1 := hbx3.cell 1 _ rfl
              have f4 := hbx3.cell 4 _ rfl
              simp only [List.length_nil, Nat.zero_add] at f1 f4
              go_wp2_with fail
              refine (HSR.out _ (hbd n3)).mono ?_
              rintro e w4 ⟨rfl, hb4⟩
              have hbx4 := hbx3.below hb4
              have k1 := hbx4.cell 1 _ rfl
              simp only [List.length_nil, Nat.zero_add] at k1
              have hB4 := hB2.trans ((hbd n3).mono hB2.size) |>.trans (hb4.mono (Nat.le_trans hB2.size (hbd n3).size))
              clear HSP HSR d1 d3 d4 f1 f4
              go_wp2_with fail
              go_ret
              rw [HR2.out]
              exact ⟨ret_bool (by rw [Bool.eq_iff_iff, decide_eq_true_iff, decide_eq_true_iff]; have := HES.out; have := HLL.out; omega), hB4⟩
            · rw [decide_eq_false e2] at HSR
              have HR2 : Hid (R = false) := by show _ = _; rw [← HR.out, decide_eq_false e2]; simp
              clear HR
              go_wp2_with fail
              refine HSP.out.mono ?_
              rintro e w3 ⟨rfl, n3, rfl⟩
              have hbx3 := hbx2.below (hbd n3)
              have f1 := hbx3.cell 1 _ rfl
              have f4 := hbx3.cell 4 _ rfl
              simp only [List.length_nil, Nat.zero_add] at f1 f4
              go_wp2_with fail
              refine (HSR.out _ (hbd n3)).mono ?_
              rintro e w4 ⟨rfl, hb4⟩
              have hB4 := hB2.trans ((hbd n3).mono hB2.size) |>.trans (hb4.mono (Nat.le_trans hB2.size (hbd n3).size))
              clear HSP HSR d1 d3 d4 f1 f4
              go_wp2_with fail
              go_ret
              rw [HR2.out]
              exact ⟨rfl, hB4⟩
          · rw [decide_eq_false e1] at HSP
            have HR2 : Hid (R = false) := by show _ = _; rw [← HR.out, decide_eq_false e1]; simp
            clear HR
            go_wp2_with fail
            refine HSP.out.mono ?_
            rintro e w3 ⟨rfl, n3, rfl⟩
            have hB4 := hB2.trans ((below_drewN (Below.refl _ _) n3 : Below w2.heap.size w2 (w2.drewN n3)).mono hB2.size)
            clear HSP HSR d1 d3 d4
            go_wp2_with fail
            go_ret
            rw [HR2.out]
            exact ⟨rfl, hB4⟩
      · rw [decide_eq_false (show ¬ (0 ≤ s.2.2.1 ∧ s.2.2.1 ≤ (ln : Int)) by omega)] at HI2
        have HR2 : Hid (R = false) := by show _ = _; rw [← hR]; exact shardOk_no3 h3
        clear hR hW h h1 h2 h3 hll
        go_enter Tryz.func23, Tryz.ntmps23
        go_wp2_with fail
        refine (HI1.out _).mono ?_
        rintro e w1 ⟨rfl, rfl⟩
        go_wp2_with fail
        refine (HI2.out _).mono ?_
        rintro e w1 ⟨rfl, rfl⟩
        go_wp2_with fail
        go_ret
        rw [HR2.out, HW.out]
        exact ⟨rfl, hB⟩
    · have hn2 : (300 : Int) < (ln : Int) := by omega
      have HR2 : Hid (R = false) := by show _ = _; rw [← hR]; exact shardOk_no2 (by omega)
      clear hR hW h h1 h2 HI2 hll
      go_enter Tryz.func23, Tryz.ntmps23
      go_wp2_with fail
      refine (HI1.out _).mono ?_
      rintro e w1 ⟨rfl, rfl⟩
      go_wp2_with fail
      go_ret
      rw [HR2.out, HW.out]
      exact ⟨rfl, hB⟩
  · rw [decide_eq_false h1] at HI1
    have HR2 : Hid (R = false) := by show _ = _; rw [← hR]; exact shardOk_no1 h1
    clear hR hW h h1 HI2 hll
    go_enter Tryz.func23, Tryz.ntmps23
    go_wp2_with fail
    refine (HI1.out _).mono ?_
    rintro e w1 ⟨rfl, rfl⟩
    go_wp2_with fail
    go_ret
    rw [HR2.out, HW.out]
    exact ⟨rfl, hB⟩
end Go.Proofs.YtggdgceglmbaiaaGreatDoor.recs

namespace Go.Proofs.YtggdgceglmbaiaaGreatDoor.recs
open Go Go.RowKit Go.Proofs.YtggdgceglmbaiaaGreatDoor.base Go.Proofs.YtggdgceglmbaiaaGreatDoor.pairs Go.Proofs.YtggdgceglmbaiaaGreatDoor.ords
set_option linter.unusedVariables false
set_option linter.unusedSimpArgs false

set_option maxRecDepth 100000 in
set_option maxHeartbeats 1000000 in
theorem spec_copyRecs (a : Option Addr) (len cap : Nat) (l : List Rc) (w : World) (h : SlR w a len l) (hsz : len ≤ 1099511627776) (hops : ∀ r ∈ l, r.2.2.length ≤ 1099511627776) :
    Calls Tryz.prog 44 #[.slice a len cap] w fun e w' => ∃ g cp hs, e = .returned (.slice (some ⟨g, 0, none⟩) len cp) ∧ OwnR w' w.heap.size (.slice (some ⟨g, 0, none⟩) len cp) l hs ∧ Below w.heap.size w w' := by
  obtain ⟨i0, hi, hz0, hz1, hz2⟩ := info_parts infoRW
  obtain ⟨hl, hm, hsm, hc⟩ := id h
  subst hl
  unfold maxLen at hm
  have hB0 : Below w.heap.size w (w.alloc (.cells #[] 36)) := (Below.refl _ _).alloc (Nat.le_refl _) _
  have hO0 := ownR_made w w.heap.size (Nat.le_refl _)
  go_enter Tryz.func44, Tryz.ntmps44
  go_wp2_with (at_builtin; fail)
  go_loopw [3, 4] (fun v i wr => ∃ (k g cp : Nat) (hs : List Value), k ≤ l.length ∧ v = .slice (some ⟨g, 0, none⟩) k cp ∧ i = .int .i64 (k : Int) ∧ OwnR wr w.heap.size (.slice (some ⟨g, 0, none⟩) k cp) (l.take k) hs ∧ Below w.heap.size w wr) (fun _ i _ => l.length - (intOf i).toNat)
  case atStart => exact ⟨0, _, 0, [], Nat.zero_le _, rfl, rfl, hO0, hB0⟩
  case round =>
    clear hO0 hB0
    obtain ⟨k, g, cp, hs, hk, rfl, rfl, hO, hB⟩ := hrel
    by_cases hlt : k < l.length
    · obtain ⟨b, off, ha, _⟩ := hc (by omega)
      subst ha
      obtain ⟨c0', c1', pa, pl, pc, c2', hSo, _⟩ := h.at k hlt
      have hbw := World.block_lt_of_cell? w _ c0'
      have c0 := (hB.cell (p := ⟨b, off + k * 3, none⟩) hbw).trans c0'
      have c1 := (hB.cell (p := ⟨b, off + k * 3 + 1, none⟩) hbw).trans c1'
      have c2 := (hB.cell (p := ⟨b, off + k * 3 + 2, none⟩) hbw).trans c2'
      have hki : (k : Int) < (l.length : Int) := by omega
      have hsr := hsm _ (List.getElem_mem hlt)
      have hol := hops _ (List.getElem_mem hlt)
      have HTK : Hid (l.take (k + 1) = l.take k ++ [l[k]]) := List.take_succ_eq_append_getElem hlt
      have htl : (l.take k).length = k := by rw [List.length_take]; omega
      generalize l[k] = r at *
      generalize l.take k = T at *
      clear c0' c1' c2' hbw
      have hpe := hSo.1
      have HCR := Hid.mk' (spec_copyRec r.1 r.2.1 pa pl pc r.2.2 wr (hSo.below hB) (by omega))
      have HTL := Hid.mk' htl
      have HO := Hid.mk' hO
      clear hO htl
      go_wp2_with (at_builtin; fail)
      refine HCR.out.mono ?_
      rintro e w3 ⟨g3, c3, rfl, hO3, hb3⟩
      have hV3 := (ownV_of hO3).mono (base' := w.heap.size) hB.size
      have hOa := HO.out.below hb3
      have hB3 := hB.trans (hb3.mono hB.size)
      have hg3 := hO3.lt
      have hout : ∀ j, (Value.slice (some ⟨g3, 0, none⟩) pl c3).ownBlock = some j → ¬ BlkR (.slice (some ⟨g, 0, none⟩) k cp) hs j := fun j hj hb => by
        have e1 : g3 = j := by simpa [Value.ownBlock] using hj
        have := (HO.out.lt j hb).2
        omega
      have HOU := Hid.mk' hout
      have hbn : Below w3.heap.size w3 (w3.alloc (.cells #[.int .i64 r.1, .int .i64 r.2.1, .slice (some ⟨g3, 0, none⟩) pl c3] 36)) := (Below.refl _ _).alloc (Nat.le_refl _) _
      have hO4 := hOa.below hbn
      have hV4 := hV3.below hbn
      have hB4 := hB3.trans (hbn.mono hB3.size)
      have HOC := Hid.mk' (rec_cellsW w3 r.1 r.2.1 (.slice (some ⟨g3, 0, none⟩) pl c3) 36)
      have HON := Hid.mk' (rec_oneW r.1 r.2.1 hV3.one)
      have hc3 : T.length + 1 ≤ maxLen := by have := HTL.out; unfold maxLen; omega
      have hc4 : (T.length + 1) * 40 ≤ 140737488355328 := by have := HTL.out; omega
      clear HCR hO3 hb3 hV3 hOa hB3 hbn hout c0 c1 c2 HO
      go_wp2_with (at_builtin; refine wpList_append_own _ rfl (.tmp 12) (.tmp 18) 24 rfl w.heap.size 36 i0 (.agg #[.int .i64 0, .int .i64 0, .slice none 0 0]) 3 40 Tryz.underlying24 hi hz0 hz1 hz2 rfl (by decide) _ _ _ rfl hO4.row ⟨w3.heap.size, 0, none⟩ 1 1 _ rfl rfl HOC.out HON.out hc3 hc4 hB4.size ?_)
      intro v5 w5 hown5 hgrow5 hnn5
      have hnn' : ¬ v5 = .slice none 0 0 := by simpa using hnn5
      have hO5 := hO4.snoc hV4 hsr HOU.out hown5 hgrow5
      have hB5 : Below w.heap.size w w5 := hB4.grown hgrow5 hB4.size (fun j e => (hO4.row.lt j e).1)
      rw [← HTK.out] at hO5
      have htl2 : (l.take (k + 1)).length = k + 1 := by rw [List.length_take]; omega
      rcases hO5.shape with ⟨hv5, _⟩ | ⟨g5, cp5, hv5, _⟩
      · exact absurd hv5 hnn'
      · rw [htl2] at hv5
        subst hv5
        have HO5 := Hid.mk' hO5
        clear hown5 hgrow5 hnn5 hnn' hO5 hO4 hB4 hV4 HOC HON HOU htl2
        go_wp2_with (at_builtin; fail)
        go_roundw
        case rel => exact ⟨k + 1, g5, cp5, _, by omega, rfl, by go_num, HO5.out, hB5⟩
        case measure => simp [intOf]; omega
    · have hke : k = l.length := by omega
      subst hke
      rw [List.take_length] at hO
      have hlt2 : ¬ (l.length : Int) < (l.length : Int) := by omega
      go_wp2_with (at_builtin; fail)
      go_ret
      exact ⟨g, cp, rfl, ⟨hs, hO⟩, hB⟩
end Go.Proofs.YtggdgceglmbaiaaGreatDoor.recs
