/- A range over a function whose values are right only in the world in which they are handed on (a law of my own beside the library's; no function of the program is named here). The program's items of a proof, which come out of an iterator. The program's proving of all between. The program's placed items of a proof, which come out of an iterator. The program's pairs of a proof that are held. -/
import Derived.RangeFuncNested
import Derived.Shelf.Abstract
import Derived.Test.YteammdkipnfmnaaGreatDoorShay
import Derived.Test.YteammdkipnfmnaaGreatDoorShag
import Derived.Test.YteammdkipnfmnaaGreatDoorShba
import Derived.Shelf.RegionOpen
import Derived.RangeFuncBound
import Derived.WalkKit
import Derived.OwnWalkIn
import Derived.TacticsInMore
import Derived.LoopNIn
import Derived.LoopIn
import Derived.Test.YteammdkipnfmnaaGreatDoorShaj
import Derived.Test.YteammdkipnfmnaaGreatDoorShak
import Derived.Test.YteammdkipnfmnaaGreatDoorShbb
namespace Go.Proofs.YteammdkipnfmnaaGreatDoor.hands
open Go Go.RowKit
set_option linter.unusedVariables false
set_option linter.unusedSimpArgs false

end Go.Proofs.YteammdkipnfmnaaGreatDoor.hands

namespace Go.Proofs.YteammdkipnfmnaaGreatDoor.range
open Go Go.RowKit Go.Shelf Go.Proofs.YteammdkipnfmnaaGreatDoor.base Go.Proofs.YteammdkipnfmnaaGreatDoor.pairs Go.Proofs.YteammdkipnfmnaaGreatDoor.tree
set_option linter.unusedVariables false
set_option linter.unusedSimpArgs false
attribute [local go_sem] Oper.semAt_some

end Go.Proofs.YteammdkipnfmnaaGreatDoor.range

namespace Go.Proofs.YteammdkipnfmnaaGreatDoor.range
open Go Go.RowKit Go.Shelf Go.Proofs.YteammdkipnfmnaaGreatDoor.base Go.Proofs.YteammdkipnfmnaaGreatDoor.pairs Go.Proofs.YteammdkipnfmnaaGreatDoor.tree
set_option linter.unusedVariables false
set_option linter.unusedSimpArgs false
attribute [local go_sem] Oper.semAt_some

theorem V3.of_block {w w' : World} {g : Nat} {t : TypeId} {x y z : Value} (h : V3 w g t x y z) (hk : w'.heap[g]? = w.heap[g]?) : V3 w' g t x y z := hk.trans h

/-! ### blocks of cells lie as they lay, whatever else is turned -/
theorem keep_cells {w w' : World} {row : Option Nat} {B k : Nat} {cs : Array Value} {t : TypeId} {f : Nat × Nat} (hk : w.heap[k]? = some (.cells cs t f)) (hg : w.grownBy w' row) (hr : ∀ r, row = some r → B ≤ r ∧ ∃ o : Obj, w.heap[r]? = some o ∧ o.isCells = false) : w'.heap[k]? = w.heap[k]? := by
  refine hg.block k (Array.getElem?_eq_some_iff.1 hk).1 (fun e => ?_)
  obtain ⟨_, o, ho, hc⟩ := hr k e.symm
  rw [hk] at ho; cases ho; cases hc
theorem row_cells {w : World} {base : Nat} {e : TypeId} {size : Nat} {v : Value} {n k : Nat} {xs : List Value} (h : w.ownsRow base e size v n xs) (hk : v.ownBlock = some k) : ∃ cs t f, w.heap[k]? = some (.cells cs t f) := by
  rcases h.2 with ⟨rfl, _⟩ | ⟨g, cap, cur, rfl, _, hg, _⟩
  · cases hk
  · cases hk; exact ⟨_, _, _, hg⟩
theorem OwnI.cellsAt {w : World} {base k : Nat} {v : Value} {l : List It} {hs : List Hd} (h : OwnI w base v l hs) (hk : Blk v hs k) : ∃ cs t f, w.heap[k]? = some (.cells cs t f) := by
  rcases hk with e | ⟨y, hy, rfl⟩
  · exact row_cells h.row e
  · obtain ⟨i, hi, rfl⟩ := List.getElem_of_mem hy
    exact row_cells (h.paths i (by have := h.len; omega)).2.2 rfl
theorem OwnI.turned {w w' : World} {base B : Nat} {v : Value} {l : List It} {hs : List Hd} {row : Option Nat} (h : OwnI w base v l hs) (hg : w.grownBy w' row) (hr : ∀ r, row = some r → B ≤ r ∧ ∃ o : Obj, w.heap[r]? = some o ∧ o.isCells = false) : OwnI w' base v l hs :=
  h.of_blocks (fun k hk => by obtain ⟨cs, t, f, hc⟩ := h.cellsAt hk; exact keep_cells hc hg hr)
theorem OwnI.push {w w7 : World} {base g5 n5 c5 : Nat} {v v7 : Value} {l : List It} {hs : List Hd} {p : Pr} {P : List ByteArray} (h : OwnI w base v l hs) (hP : OwnS w base g5 n5 c5 P) (hfr : ∀ y ∈ hs, y.1 ≠ g5) (hp : small p)
    (o : Obj) (hown : w7.ownsRow base 107 3 v7 (l.length + 1) (itVals l hs ++ [.string p.1, .string p.2, .slice (some ⟨g5, 0, none⟩) n5 c5])) (hgrow : (w.alloc o).grownBy w7 v.ownBlock) :
    OwnI w7 base v7 (l ++ [(p, P)]) (hs ++ [(g5, n5, c5)]) := by
  have hlen := h.len
  have keep : ∀ {g n c : Nat} {ss : List ByteArray}, OwnS w base g n c ss → some g ≠ v.ownBlock → OwnS w7 base g n c ss := fun hS hne => (ownS_of_block (w' := w.alloc o) hS (Below.heap_alloc w o _ hS.lt.2)).grown hgrow hne
  have hps : ∀ i (hi : i < (l ++ [(p, P)]).length), OwnS w7 base ((hs ++ [(g5, n5, c5)])[i]'(by simp at hi ⊢; omega)).1 ((hs ++ [(g5, n5, c5)])[i]'(by simp at hi ⊢; omega)).2.1 ((hs ++ [(g5, n5, c5)])[i]'(by simp at hi ⊢; omega)).2.2 (l ++ [(p, P)])[i].2 := by
    intro i hi
    by_cases e : i < l.length
    · rw [List.getElem_append_left e]
      simp only [List.getElem_append_left (show i < hs.length by omega)]
      refine keep (h.paths i e) (fun e2 => ?_)
      exact h.out _ e2.symm _ (List.getElem_mem _) rfl
    · have : i = l.length := by simp at hi; omega
      subst this
      rw [List.getElem_append_right (Nat.le_refl _)]
      simp only [List.getElem_append_right (show hs.length ≤ l.length by omega)]
      simp only [hlen, Nat.sub_self, List.getElem_cons_zero]
      exact keep hP (fun e2 => row_ne h.row hP.2.2 e2.symm rfl (by decide))
  refine ⟨by simp [hlen], fun x hx => ?_, ?_, hps, ?_, fun k hk y hy e => ?_⟩
  · rcases List.mem_append.1 hx with h1 | h1
    · exact h.sm x h1
    · rw [List.mem_singleton.1 h1]; exact ⟨hp, hP.2.1⟩
  · rw [itVals_snoc l hs hlen, List.length_append]; exact hown
  · rw [List.pairwise_append]
    refine ⟨h.apart, List.pairwise_singleton _ _, fun a ha y hy => ?_⟩
    rw [List.mem_singleton.1 hy]
    exact hfr a ha
  · obtain ⟨i, hi, rfl⟩ := List.getElem_of_mem hy
    have hS := hps i (by simp at hi ⊢; omega)
    exact row_ne hown hS.2.2 hk (by rw [← e]; rfl) (by decide)

/-! ### what a loop that gathers items keeps -/
end Go.Proofs.YteammdkipnfmnaaGreatDoor.range

namespace Go.Proofs.YteammdkipnfmnaaGreatDoor.range
open Go Go.RowKit Go.Shelf Go.Proofs.YteammdkipnfmnaaGreatDoor.base Go.Proofs.YteammdkipnfmnaaGreatDoor.pairs Go.Proofs.YteammdkipnfmnaaGreatDoor.tree
set_option linter.unusedVariables false
set_option linter.unusedSimpArgs false
attribute [local go_sem] Oper.semAt_some

def Lies (w : World) (b off : Nat) (l : List It) (hp : Nat → Nat × Nat × Nat) : Prop :=
  ∀ i (hi : i < l.length), w.cell? ⟨b, off + i * 3, none⟩ = some (.string l[i].1.1) ∧ w.cell? ⟨b, off + i * 3 + 1, none⟩ = some (.string l[i].1.2) ∧ w.cell? ⟨b, off + i * 3 + 2, none⟩ = some (.slice (some ⟨(hp i).1, (hp i).2.1, none⟩) l[i].2.length (hp i).2.2) ∧
    SlS w (some ⟨(hp i).1, (hp i).2.1, none⟩) l[i].2.length l[i].2 ∧ l[i].2.length ≤ (hp i).2.2
theorem SlJ.lies {w : World} {b off len : Nat} {l : List It} (h : SlJ w (some ⟨b, off, none⟩) len l) : ∃ hp, Lies w b off l hp := by
  have key : ∀ i, ∃ y : Nat × Nat × Nat, ∀ hi : i < l.length, w.cell? ⟨b, off + i * 3, none⟩ = some (.string l[i].1.1) ∧ w.cell? ⟨b, off + i * 3 + 1, none⟩ = some (.string l[i].1.2) ∧ w.cell? ⟨b, off + i * 3 + 2, none⟩ = some (.slice (some ⟨y.1, y.2.1, none⟩) l[i].2.length y.2.2) ∧ SlS w (some ⟨y.1, y.2.1, none⟩) l[i].2.length l[i].2 ∧ l[i].2.length ≤ y.2.2 := by
    intro i
    by_cases hi : i < l.length
    · obtain ⟨c1, c2, pb, po, pc, c3, hS, hle⟩ := h.at i hi
      exact ⟨(pb, po, pc), fun _ => ⟨c1, c2, c3, hS, hle⟩⟩
    · exact ⟨(0, 0, 0), fun h => absurd h hi⟩
  obtain ⟨hp, hh⟩ := Classical.axiomOfChoice key
  exact ⟨hp, hh⟩
theorem Lies.below {w w' : World} {b off : Nat} {l : List It} {hp : Nat → Nat × Nat × Nat} (h : Lies w b off l hp) (hb : Below w.heap.size w w') : Lies w' b off l hp := by
  intro i hi
  obtain ⟨c1, c2, c3, c4, c5⟩ := h i hi
  have keep : ∀ o v, w.cell? ⟨b, o, none⟩ = some v → w'.cell? ⟨b, o, none⟩ = some v := fun o v hv => (hb.cell (p := ⟨b, o, none⟩) (World.block_lt_of_cell? w _ hv)).trans hv
  exact ⟨keep _ _ c1, keep _ _ c2, keep _ _ c3, c4.below hb, c5⟩

def encP (fr : Int) (l : List It) (hp : Nat → Nat × Nat × Nat) (k : Fin l.length) : Array Value :=
  #[.int .i64 (wrap64 (fr + (k.1 : Int))), .agg #[.string l[k.1].1.1, .string l[k.1].1.2, .slice (some ⟨(hp k.1).1, (hp k.1).2.1, none⟩) l[k.1].2.length (hp k.1).2.2]]
def KeepP (n₀ pb : Nat) (w w' : World) : Prop := Below n₀ w w' ∧ w'.heap[pb]? = w.heap[pb]?
theorem KeepP.refl (n₀ pb : Nat) (w : World) : KeepP n₀ pb w w := ⟨Below.refl _ _, rfl⟩
theorem KeepP.trans {n₀ pb : Nat} {a b c : World} (h : KeepP n₀ pb a b) (k : KeepP n₀ pb b c) : KeepP n₀ pb a c := ⟨h.1.trans k.1, k.2.trans h.2⟩

set_option maxHeartbeats 1000000 in
theorem impl_placed (n fr : Int) (a : Option Addr) (len cap : Nat) (w : World) :
    Calls Tryz.prog 97 #[.agg #[.int .i64 n, .int .i64 fr, .slice a len cap]] w fun e w' =>
      e = .returned (.func (.func 122) #[] #[.pointer (some ⟨w.heap.size, 0, none⟩)]) ∧ w' = w.alloc (.cells #[.int .i64 n, .int .i64 fr, .slice a len cap] 64) := by
  have hmf := makeFunc_run
  go_enter Tryz.func97, Tryz.ntmps97
  go_wp2_with fail
  go_ret
  exact ⟨rfl, rfl⟩

set_option maxRecDepth 100000 in
set_option maxHeartbeats 2000000 in
theorem placed_stops (m pb : Nat) (n fr : Int) (a : Option Addr) (b off cap : Nat) (l : List It) (hp : Nat → Nat × Nat × Nat) (w0 w : World) (hm : 1 ≤ m) (ha : 0 < l.length → a = some ⟨b, off, none⟩) (hl : Lies w0 b off l hp) (hll : l.length ≤ 1099511627776) (hw0 : Below w0.heap.size w0 w)
    (hV : V3 w pb 64 (.int .i64 n) (.int .i64 fr) (.slice a l.length cap)) :
    SeqStopsK Fence.wide m Tryz.prog 122 #[.pointer (some ⟨pb, 0, none⟩)] (encP fr l hp) (KeepP w0.heap.size pb) (fun xs => xs.map (·.1) = List.range l.length) (fun _ => True) l.length w := by
  intro lp J Jx W hbW hJ hJx hY hJ0
  refine callsIn_of_wp Tryz.func122 rfl trivial ?_ rfl
  simp only [Tryz.ntmps122, List.size_toArray, List.length_cons, List.length_nil, Nat.reduceAdd, Nat.reduceSub, Array.replicate_succ, Array.replicate_zero, List.push_toArray, List.append_toArray, List.nil_append, List.cons_append]
  have hVW := hV.below hbW
  have d1 := hVW.c2
  have hsW := hbW.size
  have hs0 := hw0.size
  gi_wp2
  gi_loopw [8] (fun i wr => ∃ (k : Nat) (ys : List (Fin l.length)), k ≤ l.length ∧ i = .int .i64 (k : Int) ∧ ys.map (·.1) = List.range k ∧ J ys wr ∧ KeepP w0.heap.size pb W wr) (fun i _ => l.length - (intOf i).toNat)
  case atStart => exact ⟨0, [], Nat.zero_le _, rfl, rfl, hJ0, KeepP.refl _ _ _⟩
  case round =>
    obtain ⟨k, ys, hk, rfl, hys, hJk, hKk⟩ := hrel
    by_cases hkl : k < l.length
    · have ha' := ha (by omega)
      subst ha'
      have hb0 : Below w0.heap.size w0 wr := (hw0.trans (hbW.mono hs0)).trans hKk.1
      have hsr := hKk.1.size
      obtain ⟨q1, q2, q3, _, _⟩ := (hl.below hb0) k hkl
      have hVr : V3 wr pb 64 (.int .i64 n) (.int .i64 fr) (.slice (some ⟨b, off, none⟩) l.length cap) := hVW.of_block hKk.2
      have v1 := hVr.c1
      have hki : (k : Int) < (l.length : Int) := by omega
      have hlen : ys.length = k := by
        have := congrArg List.length hys
        rw [List.length_map, List.length_range] at this; exact this
      obtain ⟨Wb, hWb⟩ : ∃ Wb, Wb = wr.alloc (.cells #[.string l[k].1.1, .string l[k].1.2, .slice (some ⟨(hp k).1, (hp k).2.1, none⟩) l[k].2.length (hp k).2.2] 107) := ⟨_, rfl⟩
      have hJb : J ys Wb := by rw [hWb]; exact hJ ys wr _ none hJk (World.grownBy_alloc wr _ none) (fun r e => by cases e)
      have hKb : KeepP w0.heap.size pb W Wb := by
        rw [hWb]
        exact ⟨hKk.1.alloc (by omega) _, (Below.heap_alloc wr _ pb hVr.lt).trans hKk.2⟩
      obtain ⟨fn, tmps, assign, body, hy, hR⟩ := hY ys ⟨k, hkl⟩ Wb hJb (by omega)
      dsimp only [encP] at hy
      have hpb := hVr.lt
      subst hWb
      have HKb := Hid.mk' hKb
      clear hY hJk hKk hb0 hJ hJx hJ0 d1 hw0 hbW hl hJb hVr hKb
      gi_wp2
      refine hR.mono ?_
      rintro e W3 (⟨rfl, hJ3, hk3⟩ | ⟨rfl, hJx3⟩)
      · gi_wp2
        go_roundw
        case rel => exact ⟨k + 1, _, by omega, by go_num, by rw [List.map_append, hys, List.range_succ]; rfl, hJ3, HKb.out.trans hk3⟩
        case measure => simp [intOf]; omega
      · gi_wp2
        refine bodyPost_ret (results_none rfl _ _ _) rfl ?_
        exact ⟨⟨_, rfl⟩, .inr ⟨_, trivial, hJx3⟩⟩
    · obtain rfl : k = l.length := by omega
      gi_wp2
      go_end0
      exact ⟨⟨_, rfl⟩, .inl ⟨ys, hys, hJk⟩⟩
end Go.Proofs.YteammdkipnfmnaaGreatDoor.range

namespace Go.Proofs.YteammdkipnfmnaaGreatDoor.range
open Go Go.RowKit Go.Shelf Go.Proofs.YteammdkipnfmnaaGreatDoor.base Go.Proofs.YteammdkipnfmnaaGreatDoor.pairs Go.Proofs.YteammdkipnfmnaaGreatDoor.tree
set_option linter.unusedVariables false
set_option linter.unusedSimpArgs false
attribute [local go_sem] Oper.semAt_some

def heldAt (root : ByteArray) (n fr : Int) (x : It) (k : Nat) : Bool := pairOk x.1 && checkPathI x.1 (wrap64 (fr + (k : Int))) n x.2 root
def AllHeld (root : ByteArray) (n fr : Int) (l : List It) : Prop := ∀ k (h : k < l.length), heldAt root n fr l[k] k = true
def HPost (w : World) (root : ByteArray) (n fr : Int) (l : List It) (e : Ending) (w' : World) : Prop :=
  ∃ (r : Bool) (g m c : Nat), e = .returned (.tuple #[.slice (some ⟨g, 0, none⟩) m c, .bool r]) ∧ (r = true ↔ l ≠ [] ∧ AllHeld root n fr l) ∧ OwnP w' w.heap.size g m c (if r = true then keysOf l else []) ∧ Below w.heap.size w w'

theorem size_set (w : World) (a : Addr) (v : Value) : (w.setCell a v).heap.size = w.heap.size := by show (w.heap.modify _ _).size = _; rw [Array.size_modify]
theorem boxed_kept {W W' : World} {B : Nat} {t : TypeId} {v : Value} (h : Boxed W B t v) (hk : W'.heap[B]? = W.heap[B]?) : Boxed W' B t v := hk.trans h
theorem V3.not_row {W : World} {B : Nat} {t e : TypeId} {x y z : Value} (h : V3 W B t x y z) (hte : t ≠ e) {base size k : Nat} {v : Value} {xs : List Value} (hr : W.ownsRow base e size v k xs) : some B ≠ v.ownBlock := by
  rcases hr.2 with ⟨rfl, _⟩ | ⟨g, cap, cur, rfl, _, hgb, _⟩
  · simp [Value.ownBlock]
  · intro e'
    obtain rfl : B = g := by simpa [Value.ownBlock] using e'
    have := (show W.heap[B]? = _ from h).symm.trans hgb
    simp at this
    exact hte this.2
theorem ownP_turned {w w' : World} {base g n c B : Nat} {l : List Pr} {row : Option Nat} (h : OwnP w base g n c l) (hg : w.grownBy w' row) (hr : ∀ r, row = some r → B ≤ r ∧ ∃ o : Obj, w.heap[r]? = some o ∧ o.isCells = false) : OwnP w' base g n c l := by
  obtain ⟨cs, t, f, hc⟩ := row_cells h.2.2 rfl
  exact ownP_of_block h (keep_cells hc hg hr)

structure HeldI (w : World) (s1 s2 s3 s5 s6 B : Nat) (root : ByteArray) (n fr : Int) (sl : Value) (l : List It) (pre : List (Fin l.length)) (W : World) : Prop where
  vf : V3 W w.heap.size 64 (.int .i64 n) (.int .i64 fr) sl
  vr : Boxed W s1 9 (.string root)
  r1 : Boxed W s2 30 (.slice none 0 0)
  r2 : Boxed W s3 4 (.bool false)
  vp : V3 W s6 64 (.int .i64 n) (.int .i64 fr) sl
  bel : Below w.heap.size w W
  siz : B ≤ W.heap.size
  all : ∀ k ∈ pre, heldAt root n fr l[k.1] k.1 = true
  own : ∃ g m c, Boxed W s5 30 (.slice (some ⟨g, 0, none⟩) m c) ∧ OwnP W w.heap.size g m c (pre.map fun k => l[k.1].1)
theorem heldI_own {w : World} {s1 s2 s3 s5 s6 B : Nat} {root : ByteArray} {n fr : Int} {sl : Value} {l : List It} (hB : w.heap.size ≤ B) : OwnFrom B (HeldI w s1 s2 s3 s5 s6 B root n fr sl l) := by
  rintro pre X Y row h hg hr
  obtain ⟨g, m, c, h9, h10⟩ := h.own
  exact ⟨h.vf.of_block (keep_cells h.vf hg hr), boxed_kept h.vr (keep_cells h.vr hg hr), boxed_kept h.r1 (keep_cells h.r1 hg hr), boxed_kept h.r2 (keep_cells h.r2 hg hr), h.vp.of_block (keep_cells h.vp hg hr), h.bel.grown hg h.bel.size (fun k e => Nat.le_trans hB (hr k e).1), Nat.le_trans h.siz hg.size, h.all, g, m, c, boxed_kept h9 (keep_cells h9 hg hr), ownP_turned h10 hg hr⟩
def HeldX (w : World) (s2 s3 : Nat) (root : ByteArray) (n fr : Int) (l : List It) (c : Code) (pre : List (Fin l.length)) (W : World) : Prop :=
  c = .ret ∧ Below w.heap.size w W ∧ w.heap.size ≤ W.heap.size ∧ (∃ k ∈ pre, heldAt root n fr l[k.1] k.1 = false) ∧ Boxed W s3 4 (.bool false) ∧ ∃ g m c, Boxed W s2 30 (.slice (some ⟨g, 0, none⟩) m c) ∧ OwnP W w.heap.size g m c []
theorem heldX_own {w : World} {s2 s3 B : Nat} {root : ByteArray} {n fr : Int} {l : List It} (hB : w.heap.size ≤ B) (c : Code) : OwnFrom B (HeldX w s2 s3 root n fr l c) := by
  rintro pre X Y row ⟨h1, h2, h0, h3, h4, g, m, c, h5, h6⟩ hg hr
  exact ⟨h1, h2.grown hg h2.size (fun k e => Nat.le_trans hB (hr k e).1), Nat.le_trans h0 hg.size, h3, boxed_kept h4 (keep_cells h4 hg hr), g, m, c, boxed_kept h5 (keep_cells h5 hg hr), ownP_turned h6 hg hr⟩
def BoxP (l : List It) (hp : Nat → Nat × Nat × Nat) (tm : Nat → Fin l.length → Array Value) (x : Fin l.length) (a : Act) (W : World) : Prop :=
  ∃ Bx, V3 W Bx 107 (.string l[x.1].1.1) (.string l[x.1].1.2) (.slice (some ⟨(hp x.1).1, (hp x.1).2.1, none⟩) l[x.1].2.length (hp x.1).2.2) ∧ a = { tmps := tm Bx x, defers := [] }
theorem boxP_own {l : List It} {hp : Nat → Nat × Nat × Nat} {B : Nat} {tm : Nat → Fin l.length → Array Value} (x : Fin l.length) (a : Act) : OwnFrom B (fun (_ : Unit) W => BoxP l hp tm x a W) := by
  rintro _ X Y row ⟨Bx, h1, h2⟩ hg hr
  exact ⟨Bx, h1.of_block (keep_cells h1 hg hr), h2⟩

theorem held_end {w W : World} {root : ByteArray} {n fr : Int} {l : List It} {tmps : Array Value} {s2 s3 D g m c : Nat} {r : Bool} (h4 : tmps[4]? = some (.pointer (some ⟨s2, 0, none⟩))) (h5 : tmps[5]? = some (.pointer (some ⟨s3, 0, none⟩)))
    (r1 : Boxed W s2 30 (.slice (some ⟨g, 0, none⟩) m c)) (r2 : Boxed W s3 4 (.bool r)) (hD : w.heap.size ≤ D) (hKD : W.heap[D]? = some (.deferred (some []))) (hB : Below w.heap.size w W) (hr : r = true ↔ l ≠ [] ∧ AllHeld root n fr l) (hO : OwnP W w.heap.size g m c (if r = true then keysOf l else [])) :
    bodyPostM Fence.wide 6 Tryz.prog Tryz.f59 (HPost w root n fr l) .ret { tmps := tmps, defers := [{ target := .collected D, args := #[] }] } W := by
  have hg := grownBy_putObj' W D (.deferred none)
  have hrow : ∀ r, some D = some r → 0 ≤ r ∧ ∃ o : Obj, W.heap[r]? = some o ∧ o.isCells = false := fun r e => by cases e; exact ⟨Nat.zero_le _, _, hKD, rfl⟩
  have c1 := (boxed_kept r1 (keep_cells r1 hg hrow)).cell
  have c2 := (boxed_kept r2 (keep_cells r2 hg hrow)).cell
  refine ⟨by simp, .inl ⟨D, _, rfl, run_takeDeferred hKD, ?_⟩⟩
  refine ⟨.tuple #[.slice (some ⟨g, 0, none⟩) m c, .bool r], ?_, r, g, m, c, rfl, hr, ownP_turned hO hg hrow, hB.grown hg hB.size (fun k e => by cases e; exact hD)⟩
  simp [results, Tryz.results59, go_sem, h4, h5, c1, c2]

set_option maxRecDepth 100000 in
set_option maxHeartbeats 2000000 in
theorem impl_pairsHeld (root : ByteArray) (n fr : Int) (a : Option Addr) (cap : Nat) (l : List It) (w : World) (h : SlJ w a l.length l) (hnw : (Lit.int .i64 n).wf = true) (hr : root.size ≤ 1048576) (hK : sha.KW w) :
    Calls Tryz.prog 59 #[.agg #[.int .i64 n, .int .i64 fr, .slice a l.length cap], .string root] w (HPost w root n fr l) := by
  have hll := h.2.1
  obtain ⟨b, off, hp, ha, hl⟩ : ∃ b off hp, (0 < l.length → a = some ⟨b, off, none⟩) ∧ Lies w b off l hp := by
    by_cases h0 : 0 < l.length
    · obtain ⟨b, off, rfl, _⟩ := h.2.2.2 h0
      obtain ⟨hp, hl⟩ := h.lies
      exact ⟨b, off, hp, fun _ => rfl, hl⟩
    · exact ⟨0, 0, fun _ => (0, 0, 0), fun h => absurd h h0, fun i hi => absurd hi (by omega)⟩
  refine (callsIn_wide (n := 6)).1 (callsIn_of_wp_marks Tryz.func59 rfl trivial ?_ rfl)
  simp only [Tryz.ntmps59, List.size_toArray, List.length_cons, List.length_nil, Nat.reduceAdd, Nat.reduceSub, Array.replicate_succ, Array.replicate_zero, List.push_toArray, List.append_toArray, List.nil_append, List.cons_append]
  refine wpIn_wide.2 ?_
  go_wp2_with fail
  refine (impl_placed _ _ _ _ _ _).mono ?_
  rintro e w7 ⟨rfl, hw7⟩
  go_wp2_with fail
  obtain ⟨s1, hs1⟩ : ∃ s, s = w.heap.size + 1 := ⟨_, rfl⟩
  obtain ⟨s2, hs2⟩ : ∃ s, s = s1 + 1 := ⟨_, rfl⟩
  obtain ⟨s3, hs3⟩ : ∃ s, s = s2 + 1 := ⟨_, rfl⟩
  obtain ⟨s4, hs4⟩ : ∃ s, s = s3 + 1 := ⟨_, rfl⟩
  obtain ⟨s5, hs5⟩ : ∃ s, s = s4 + 1 := ⟨_, rfl⟩
  obtain ⟨s6, hs6⟩ : ∃ s, s = s5 + 1 := ⟨_, rfl⟩
  rw [← hw7]
  simp only [← hs1, ← hs2, ← hs3, ← hs4, ← hs5, ← hs6] at hw7 ⊢
  obtain ⟨wa, hwa⟩ : ∃ W, W = w.alloc (.cells #[.int .i64 n, .int .i64 fr, .slice a l.length cap] 64) := ⟨_, rfl⟩
  obtain ⟨wb, hwb⟩ : ∃ W, W = wa.alloc (.cells #[.string root] 9) := ⟨_, rfl⟩
  obtain ⟨wc, hwc⟩ : ∃ W, W = wb.alloc (.cells #[.slice none 0 0] 30) := ⟨_, rfl⟩
  obtain ⟨wd, hwd⟩ : ∃ W, W = wc.alloc (.cells #[.bool false] 4) := ⟨_, rfl⟩
  obtain ⟨we, hwe⟩ : ∃ W, W = wd.alloc (.cells #[] 34) := ⟨_, rfl⟩
  obtain ⟨wf, hwf⟩ : ∃ W, W = we.alloc (.cells #[.slice (some ⟨s4, 0, none⟩) 0 0] 30) := ⟨_, rfl⟩
  simp only [← hwa, ← hwb, ← hwc, ← hwd, ← hwe, ← hwf] at hw7
  have za : wa.heap.size = s1 := by rw [hwa, World.size_alloc]; omega
  have zb : wb.heap.size = s2 := by rw [hwb, World.size_alloc]; omega
  have zc : wc.heap.size = s3 := by rw [hwc, World.size_alloc]; omega
  have zd : wd.heap.size = s4 := by rw [hwd, World.size_alloc]; omega
  have ze : we.heap.size = s5 := by rw [hwe, World.size_alloc]; omega
  have zf : wf.heap.size = s6 := by rw [hwf, World.size_alloc]; omega
  have z7 : w7.heap.size = s6 + 1 := by rw [hw7, World.size_alloc]; omega
  have ba : Below w.heap.size w wa := by rw [hwa]; exact (Below.refl _ _).alloc (Nat.le_refl _) _
  have b6 : Below wf.heap.size wf w7 := by rw [hw7]; exact (Below.refl _ _).alloc (Nat.le_refl _) _
  have b5 : Below we.heap.size we w7 := ((by rw [hwf]; exact (Below.refl _ _).alloc (Nat.le_refl _) _) : Below we.heap.size we wf).trans (b6.mono (by omega))
  have b4 : Below wd.heap.size wd w7 := ((by rw [hwe]; exact (Below.refl _ _).alloc (Nat.le_refl _) _) : Below wd.heap.size wd we).trans (b5.mono (by omega))
  have b3 : Below wc.heap.size wc w7 := ((by rw [hwd]; exact (Below.refl _ _).alloc (Nat.le_refl _) _) : Below wc.heap.size wc wd).trans (b4.mono (by omega))
  have b2 : Below wb.heap.size wb w7 := ((by rw [hwc]; exact (Below.refl _ _).alloc (Nat.le_refl _) _) : Below wb.heap.size wb wc).trans (b3.mono (by omega))
  have b1 : Below wa.heap.size wa w7 := ((by rw [hwb]; exact (Below.refl _ _).alloc (Nat.le_refl _) _) : Below wa.heap.size wa wb).trans (b2.mono (by omega))
  have b0 : Below w.heap.size w w7 := ba.trans (b1.mono (by omega))
  have start : HeldI w s1 s2 s3 s5 s6 w7.heap.size root n fr (.slice a l.length cap) l [] w7 := by
    refine ⟨?_, ?_, ?_, ?_, ?_, b0, Nat.le_refl _, (fun k hk => absurd hk List.not_mem_nil), s4, 0, 0, ?_, ?_⟩
    · exact (by rw [hwa]; exact heap_alloc_new w _ : V3 wa w.heap.size 64 (.int .i64 n) (.int .i64 fr) (.slice a l.length cap)).below b1
    · exact (b2.block s1 (by omega)).trans (by rw [hwb, ← za]; exact heap_alloc_new wa _)
    · exact (b3.block s2 (by omega)).trans (by rw [hwc, ← zb]; exact heap_alloc_new wb _)
    · exact (b4.block s3 (by omega)).trans (by rw [hwd, ← zc]; exact heap_alloc_new wc _)
    · show w7.heap[s6]? = _
      rw [hw7, ← zf]; exact heap_alloc_new wf _
    · exact (b6.block s5 (by omega)).trans (by rw [hwf, ← ze]; exact heap_alloc_new we _)
    · have := ownP_made wd w.heap.size (by omega)
      rw [zd, ← hwe] at this
      exact this.below b5
  have lt1 : w.heap.size < s1 := by omega
  have lt2 : s1 < s2 := by omega
  have lt3 : s2 < s3 := by omega
  have lt5 : s3 < s5 := by omega
  have lt6 : s5 < s6 := by omega
  have lt7 : s6 < w7.heap.size := by omega
  have hst := placed_stops 5 s6 n fr a b off cap l hp w w7 (by omega) ha hl hll b0 start.vp
  clear b1 b2 b3 b4 b5 b6 za zb zc zd ze zf z7 ba hwa hwb hwc hwd hwe hwf hw7 wa wb wc wd we wf hs1 hs2 hs3 hs4 hs5 hs6
  refine wpIn_wide.1 (wpIn_rangeFunc_ownH (n := 6) rfl (by omega) rfl trivial (enters_of Tryz.func122 (by kernel_rfl) rfl) hst KeepP.trans ?kb (Below.refl _ _) (fun _ => rfl)
    (HeldI w s1 s2 s3 s5 s6 w7.heap.size root n fr (.slice a l.length cap) l) (HeldX w s2 s3 root n fr l) (heldI_own (by omega)) (heldX_own (by omega)) start
    (BoxP l hp (fun Bx x => #[.agg #[.int .i64 n, .int .i64 fr, .slice a l.length cap], .string root, .pointer (some ⟨w.heap.size, 0, none⟩), .pointer (some ⟨s1, 0, none⟩), .pointer (some ⟨s2, 0, none⟩), .pointer (some ⟨s3, 0, none⟩), .pointer (some ⟨s5, 0, none⟩), .int .i64 (wrap64 (fr + (x.1 : Int))), .pointer (some ⟨Bx, 0, none⟩), .slice (some ⟨s4, 0, none⟩) 0 0, .agg #[.int .i64 n, .int .i64 fr, .slice a l.length cap], .func (.func 122) #[] #[.pointer (some ⟨s6, 0, none⟩)], .int .i64 (wrap64 (fr + (x.1 : Int))), .agg #[.string l[x.1].1.1, .string l[x.1].1.2, .slice (some ⟨(hp x.1).1, (hp x.1).2.1, none⟩) l[x.1].2.length (hp x.1).2.2], undef, undef, undef, undef, undef, undef, undef, undef, undef, undef, undef, undef, undef, undef, undef, undef, undef, undef, undef, undef, undef, undef, undef, undef, undef, undef])) boxP_own ?assign ?body ?done ?stop)
  case kb =>
    intro W lp o o' hle ho hc _
    exact ⟨(Below.refl _ W).grown (grownBy_putObj' W lp o') (by have := (Array.getElem?_eq_some_iff.1 ho).1; omega) (fun k e => by cases e; omega), World.putObj_heap_other (by omega)⟩
  case assign =>
    rintro lp pre ⟨k, hk⟩ W K hi hK
    dsimp only [encP]
    have HK := Hid.mk' hK
    have hbA : ∀ o, Below W.heap.size W (W.alloc o) := fun o => (Below.refl _ W).alloc (Nat.le_refl _) o
    have hsz := hi.siz
    clear hK
    gi_wp2
    exact HK.out _ _ ((KeepsOthers.alloc W _).from _) ⟨(hbA _).mono (by omega), Below.heap_alloc W _ s6 (by omega)⟩ ((heldI_own (by omega)).alloc _ hi) ⟨W.heap.size, heap_alloc_new W _, rfl⟩
  case body =>
    rintro lp pre ⟨k, hk⟩ a' W hlp ⟨rc, hrc⟩ hi ⟨Bx, hX, rfl⟩ hlt
    dsimp only at hX ⊢
    obtain ⟨g, m, c, hbx, hO⟩ := hi.own
    obtain ⟨q1, q2, q3, hS, hpc⟩ := (hl.below hi.bel) k hk
    obtain ⟨hlp1, hls⟩ := h.2.2.1 l[k] (List.getElem_mem hk)
    have hsm : small l[k].1 := ⟨by have := hlp1.1; unfold maxLen; omega, by have := hlp1.2; unfold maxLen; omega⟩
    have hPO := impl_pairOk l[k].1 W hsm (by have := hlp1.1; omega)
    have HCP : Hid (∀ wx, Below W.heap.size W wx → Calls Tryz.prog 99 #[.agg #[.string l[k].1.1, .string l[k].1.2], .int .i64 (wrap64 (fr + (k : Int))), .int .i64 n, .slice (some ⟨(hp k).1, (hp k).2.1, none⟩) l[k].2.length (hp k).2.2, .string root] wx fun e w' => e = .returned (.bool (checkPathI l[k].1 (wrap64 (fr + (k : Int))) n l[k].2 root)) ∧ Below wx.heap.size wx w') :=
      fun wx hx => impl_checkPath l[k].1 (wrap64 (fr + (k : Int))) n (hp k).1 (hp k).2.1 (hp k).2.2 l[k].2 root wx hlp1 (hS.below hx) hls hpc (by unfold maxLen; omega) (wrap64_wf _) hnw ((hK.below hi.bel).below hx)
    have hsz := hi.siz
    have hbs := hi.bel.size
    have HI := Hid.mk' hi
    have HO := Hid.mk' hO
    have HBX := Hid.mk' hbx
    have x0 := hX.c0
    have x1 := hX.c1
    have HXX := Hid.mk' hX
    clear hS hls hpc q1 q2 q3 hst hl h hK ha start b0 hO hX
    obtain ⟨y, hy⟩ : ∃ y, l[k] = y := ⟨_, rfl⟩
    simp only [hy] at hPO HCP HXX x0 x1 hlp1 hsm ⊢
    have HY := Hid.mk' hy
    clear hy
    -- a way out ahead of the end
    have out : ∀ w3, Below W.heap.size W w3 → heldAt root n fr y k = false → HeldX w s2 s3 root n fr l .ret (pre ++ [⟨k, hk⟩]) (((w3.setCell ⟨s2, 0, none⟩ (.slice (some ⟨w3.heap.size, 0, none⟩) 0 0)).setCell ⟨s3, 0, none⟩ (.bool false)).alloc (.cells #[] 34)) ∧ KeepsFrom w7.heap.size W (((w3.setCell ⟨s2, 0, none⟩ (.slice (some ⟨w3.heap.size, 0, none⟩) 0 0)).setCell ⟨s3, 0, none⟩ (.bool false)).alloc (.cells #[] 34)) := by
      intro w3 hb3 hF
      have hs3 := hb3.size
      have r1 : Boxed w3 s2 30 (.slice none 0 0) := boxed_kept HI.out.r1 (hb3.block s2 HI.out.r1.lt)
      have r2 : Boxed w3 s3 4 (.bool false) := boxed_kept HI.out.r2 (hb3.block s3 HI.out.r2.lt)
      have hz : ((w3.setCell ⟨s2, 0, none⟩ (.slice (some ⟨w3.heap.size, 0, none⟩) 0 0)).setCell ⟨s3, 0, none⟩ (.bool false)).heap.size = w3.heap.size := by
        rw [size_set, size_set]
      have hO3 := ownP_made ((w3.setCell ⟨s2, 0, none⟩ (.slice (some ⟨w3.heap.size, 0, none⟩) 0 0)).setCell ⟨s3, 0, none⟩ (.bool false)) w.heap.size (by omega)
      rw [hz] at hO3
      have hbz : Below w.heap.size w ((w3.setCell ⟨s2, 0, none⟩ (.slice (some ⟨w3.heap.size, 0, none⟩) 0 0)).setCell ⟨s3, 0, none⟩ (.bool false)) := ((HI.out.bel.trans (hb3.mono hbs)).setCell (p := ⟨s2, 0, none⟩) (by show _ ≤ s2; omega) _).setCell (p := ⟨s3, 0, none⟩) (by show _ ≤ s3; omega) _
      refine ⟨⟨rfl, hbz.alloc hbz.size _, ?_, ⟨⟨k, hk⟩, by simp, by rw [HY.out]; exact hF⟩, Boxed.alloc ((r2.other (by omega) _).set _) _, w3.heap.size, 0, 0, Boxed.alloc ((r1.set _).other (by omega) _) _, hO3⟩, ?_⟩
      · rw [World.size_alloc, hz]; omega
      · exact (((⟨hb3.size, fun k o hk _ => (hb3.block k (Array.getElem?_eq_some_iff.1 hk).1).trans hk⟩ : KeepsOthers W w3).trans ((KeepsOthers.setCell _ _ _).trans (KeepsOthers.setCell _ _ _))).trans (KeepsOthers.alloc _ _)).from _
    have HOUT := Hid.mk' out
    clear out
    cases hP1 : pairOk y.1 with
    | false =>
      rw [hP1] at hPO
      have HPO := Hid.mk' hPO
      have HF : Hid (heldAt root n fr y k = false) := by show _ = _; unfold heldAt; rw [hP1]; rfl
      clear hPO hP1 HCP
      gi_wp2
      refine ⟨trivial, (CallsIn.inRound lp (callsIn_wide.2 HPO.out)).mono ?_⟩
      rintro e w1 ⟨rfl, hb1⟩
      have r1 : Boxed w1 s2 30 (.slice none 0 0) := boxed_kept HI.out.r1 (hb1.block s2 HI.out.r1.lt)
      have r2 : Boxed w1 s3 4 (.bool false) := boxed_kept HI.out.r2 (hb1.block s3 HI.out.r2.lt)
      have j1 := r1.cell
      have j2 := r1.frozen
      have j3 := r2.cell
      have j4 := r2.frozen
      have j5 := r1.lt
      have j6 := r2.lt
      have j7 : s2 ≠ s3 := by omega
      have hE := HOUT.out w1 hb1 HF.out
      have HE := Hid.mk' hE
      clear HPO HOUT HI HO HBX HXX x0 x1 r1 r2 hE hbx hi
      gi_wp2
      refine ⟨trivial, ?_⟩
      gi_wp2
      exact ⟨HE.out.2, HE.out.1⟩
    | true =>
      rw [hP1] at hPO
      have HPO := Hid.mk' hPO
      have HT : Hid (heldAt root n fr y k = checkPathI y.1 (wrap64 (fr + (k : Int))) n y.2 root) := by show _ = _; unfold heldAt; rw [hP1]; rfl
      clear hPO hP1 hbx hi
      gi_wp2
      refine ⟨trivial, (CallsIn.inRound lp (callsIn_wide.2 HPO.out)).mono ?_⟩
      rintro e w1 ⟨rfl, hb1⟩
      have X1 := HXX.out.below hb1
      have y0 := X1.c0
      have y1 := X1.c1
      have y2 := X1.c2
      have f0 := (HI.out.vf.below hb1).c0
      have vr1 : Boxed w1 s1 9 (.string root) := boxed_kept HI.out.vr (hb1.block s1 HI.out.vr.lt)
      have f1 := vr1.cell
      have HC := Hid.mk' (HCP.out w1 hb1)
      clear HPO HCP x0 x1 X1 vr1
      cases hC : checkPathI y.1 (wrap64 (fr + (k : Int))) n y.2 root with
      | false =>
        rw [hC] at HC HT
        clear hC
        gi_wp2
        refine ⟨trivial, (CallsIn.inRound lp (callsIn_wide.2 HC.out)).mono ?_⟩
        rintro e w2 ⟨rfl, hb2⟩
        have hb2' := hb1.trans (hb2.mono hb1.size)
        have r1 : Boxed w2 s2 30 (.slice none 0 0) := boxed_kept HI.out.r1 (hb2'.block s2 HI.out.r1.lt)
        have r2 : Boxed w2 s3 4 (.bool false) := boxed_kept HI.out.r2 (hb2'.block s3 HI.out.r2.lt)
        have j1 := r1.cell
        have j2 := r1.frozen
        have j3 := r2.cell
        have j4 := r2.frozen
        have j5 := r1.lt
        have j6 := r2.lt
        have j7 : s2 ≠ s3 := by omega
        have hE := HOUT.out w2 hb2' HT.out
        have HE := Hid.mk' hE
        clear HC HOUT HI HO HBX HXX r1 r2 hE y0 y1 y2 f0 f1
        gi_wp2
        exact ⟨HE.out.2, HE.out.1⟩
      | true =>
        rw [hC] at HC HT
        clear hC HOUT
        gi_wp2
        refine ⟨trivial, (CallsIn.inRound lp (callsIn_wide.2 HC.out)).mono ?_⟩
        rintro e w2 ⟨rfl, hb2⟩
        have hb2' := hb1.trans (hb2.mono hb1.size)
        have hs2' := hb2'.size
        have X2 := HXX.out.below hb2'
        have bx2 : Boxed w2 s5 30 (.slice (some ⟨g, 0, none⟩) m c) := boxed_kept HBX.out (hb2'.block s5 HBX.out.lt)
        have hO2 := HO.out.below hb2'
        have j1 := bx2.cell
        have j2 := X2.c0
        have j3 := X2.c1
        have hm2 : m ≤ 1099511627776 := by have := hO2.1; rw [List.length_map] at this; omega
        have hc3 : m + 1 ≤ maxLen := by unfold maxLen; omega
        have hc4 : (m + 1) * 32 ≤ 140737488355328 := by omega
        obtain ⟨i0, hif, hz0, hz1, hz2⟩ := info_parts infoP
        have hle2 : w.heap.size ≤ w2.heap.size := by omega
        have HX2 := Hid.mk' X2
        have HB2 := Hid.mk' bx2
        clear HC y0 y1 y2 f0 f1 X2 bx2
        gi_wp2_with (gi_at_builtin; refine wpListIn_append_own _ rfl (.tmp 31) (.tmp 34) 30 rfl w.heap.size 34 i0 (.agg #[.string ⟨#[]⟩, .string ⟨#[]⟩]) 2 32 Tryz.underlying30 hif hz0 hz1 hz2 rfl (by decide) _ _ _ rfl (hO2.2.2.alloc _) ⟨w2.heap.size, 0, none⟩ 1 1 (pairVals [y.1]) rfl rfl (one_pair_cells _ _ _) (pairVals_oneCell _) hc3 hc4 (le_alloc _ _ hle2) ?_)
        intro v2 w5 hown hgrow hnn
        obtain ⟨g2, cp2, hv, hO5⟩ := ownP_app hO2.1 hO2.2.1 hsm hnn hown
        subst hv
        obtain ⟨k1, k2, k3, k4, k5⟩ := HB2.out.appended (by decide) hO2.2.2 hle2 (by omega) hO5.2.2 hgrow
        have keep : ∀ B, B < w2.heap.size → some B ≠ (Value.slice (some ⟨g, 0, none⟩) m c).ownBlock → B ≠ s5 → (w5.setCell ⟨s5, 0, none⟩ (.slice (some ⟨g2, 0, none⟩) (m + 1) cp2)).heap[B]? = w2.heap[B]? := fun B h1 h2 h3 => by
          rw [Below.heap_setCell _ ⟨s5, 0, none⟩ _ B h3, hgrow.block B (by simp; omega) h2, Below.heap_alloc w2 _ B h1]
        have HN : Hid (HeldI w s1 s2 s3 s5 s6 w7.heap.size root n fr (.slice a l.length cap) l (pre ++ [⟨k, hk⟩]) (w5.setCell ⟨s5, 0, none⟩ (.slice (some ⟨g2, 0, none⟩) (m + 1) cp2))) := by
          have vf := HI.out.vf.below hb2'
          have vp := HI.out.vp.below hb2'
          have vr : Boxed w2 s1 9 (.string root) := boxed_kept HI.out.vr (hb2'.block s1 HI.out.vr.lt)
          have r1 : Boxed w2 s2 30 (.slice none 0 0) := boxed_kept HI.out.r1 (hb2'.block s2 HI.out.r1.lt)
          have r2 : Boxed w2 s3 4 (.bool false) := boxed_kept HI.out.r2 (hb2'.block s3 HI.out.r2.lt)
          refine ⟨vf.of_block (keep _ vf.lt (vf.not_row (by decide) hO2.2.2) (by omega)), boxed_kept vr (keep _ vr.lt (vr.not_row (by decide) hO2.2.2) (by omega)), boxed_kept r1 (keep _ r1.lt (r1.not_row (by decide) hO2.2.2) (by omega)), boxed_kept r2 (keep _ r2.lt (r2.not_row (by decide) hO2.2.2) (by omega)), vp.of_block (keep _ vp.lt (vp.not_row (by decide) hO2.2.2) (by omega)), (HI.out.bel.trans (hb2'.mono hbs)).trans k5, ?_, ?_, g2, m + 1, cp2, k2, ?_⟩
          · have := k5.size; omega
          · intro j hj
            rcases List.mem_append.1 hj with h1 | h1
            · exact HI.out.all j h1
            · rw [List.mem_singleton.1 h1]
              show heldAt root n fr l[k] k = true
              rw [HY.out, HT.out]
          · rw [List.map_append]
            show OwnP _ _ _ _ _ (_ ++ [l[k].1])
            rw [HY.out]
            exact ⟨hO5.1, hO5.2.1, k3⟩
        have hK2 : KeepsOthers W w2 := ⟨hb2'.size, fun k o hk _ => (hb2'.block k (Array.getElem?_eq_some_iff.1 hk).1).trans hk⟩
        have HKF : Hid (KeepsFrom w7.heap.size W (w5.setCell ⟨s5, 0, none⟩ (.slice (some ⟨g2, 0, none⟩) (m + 1) cp2))) := (hK2.trans k4).from _
        have HKP : Hid (KeepP w.heap.size s6 W (w5.setCell ⟨s5, 0, none⟩ (.slice (some ⟨g2, 0, none⟩) (m + 1) cp2))) := by
          have vp := HI.out.vp.below hb2'
          exact ⟨(hb2'.mono hbs).trans k5, (keep _ vp.lt (vp.not_row (by decide) hO2.2.2) (by omega)).trans (hb2'.block s6 HI.out.vp.lt)⟩
        have e1 := k1.cell
        have e2 := k1.frozen
        clear hown hgrow hnn hO2 hO5 k1 k2 k3 k4 k5 keep hK2 HI HO HBX HXX HX2 HB2 j1 j2 j3
        gi_wp2
        exact ⟨HKF.out, HKP.out, HN.out⟩
  case done =>
    rintro D xs W hD hS hi hKD
    obtain ⟨g, m, c, hbx, hO⟩ := hi.own
    have j1 := hbx.cell
    have j2 := hi.r1.cell
    have j3 := hi.r1.frozen
    have j4 := hi.r2.cell
    have j5 := hi.r2.frozen
    have j7 : s2 ≠ s3 := by omega
    have j8 : s5 ≠ s2 := by omega
    have j9 : s5 ≠ s3 := by omega
    have HI := Hid.mk' hi
    have HO := Hid.mk' hO
    have HBX := Hid.mk' hbx
    have HKD := Hid.mk' hKD
    clear hi hO hbx hKD hst start h hl hK
    go_wp2_with fail
    go_region
    have hlen : xs.map (fun k => l[k.1].1) = keysOf l := by
      unfold keysOf
      apply List.ext_getElem
      · have := congrArg List.length hS
        simpa using this
      · intro i h1 h2
        have h3 := congrArg (fun z => z[i]?) hS
        have hi' : i < xs.length := by simpa using h1
        simp only [List.getElem?_map, List.getElem?_eq_getElem hi', Option.map_some] at h3
        have hil : i < l.length := by simpa using h2
        rw [List.getElem?_eq_getElem (by simpa using hil), List.getElem_range] at h3
        have h4 : xs[i].1 = i := by simpa using h3
        simp [h4]
    have hm : m = l.length := by
      have h1 := HO.out.1
      rw [hlen] at h1
      unfold keysOf at h1
      rw [List.length_map] at h1
      omega
    have hall : AllHeld root n fr l := fun k hk => by
      have h1 : k ∈ xs.map (·.1) := by rw [hS]; exact List.mem_range.2 hk
      obtain ⟨j, hj, rfl⟩ := List.mem_map.1 h1
      exact HI.out.all j hj
    have hO' : OwnP W w.heap.size g m c (if decide (0 < m) = true then keysOf l else []) := by
      have h1 := HO.out
      rw [hlen] at h1
      by_cases h0 : 0 < m
      · rw [if_pos (by simpa using h0)]; exact h1
      · rw [if_neg (by simpa using h0)]
        have h2 : keysOf l = [] := List.eq_nil_of_length_eq_zero (by have := h1.1; omega)
        rw [h2] at h1; exact h1
    obtain ⟨W9, hW9⟩ : ∃ W9, W9 = ((W.setCell ⟨s2, 0, none⟩ (.slice (some ⟨g, 0, none⟩) m c)).setCell ⟨s3, 0, none⟩ (.bool (decide (0 < m)))).drew := ⟨_, rfl⟩
    have HE : Hid (∀ tmps : Array Value, tmps[4]? = some (.pointer (some ⟨s2, 0, none⟩)) → tmps[5]? = some (.pointer (some ⟨s3, 0, none⟩)) → bodyPostM Fence.wide 6 Tryz.prog Tryz.f59 (HPost w root n fr l) .ret { tmps := tmps, defers := [{ target := .collected D, args := #[] }] } W9) := by
      intro tmps h4 h5
      have blk : ∀ k, k ≠ s2 → k ≠ s3 → W9.heap[k]? = W.heap[k]? := fun k h1 h2 => by
        rw [hW9]
        exact (Below.heap_setCell _ ⟨s3, 0, none⟩ _ k h2).trans (Below.heap_setCell _ ⟨s2, 0, none⟩ _ k h1)
      have hng : g ≠ s2 ∧ g ≠ s3 := ⟨fun e => HI.out.r1.not_row (by decide) HO.out.2.2 (by rw [← e]; rfl), fun e => HI.out.r2.not_row (by decide) HO.out.2.2 (by rw [← e]; rfl)⟩
      have hKO : KeepsOthers W W9 := by rw [hW9]; exact ((KeepsOthers.setCell _ _ _).trans (KeepsOthers.setCell _ _ _)).trans (KeepsOthers.drew _)
      have hB9 : Below w.heap.size w W9 := by rw [hW9]; exact ((HI.out.bel.setCell (p := ⟨s2, 0, none⟩) (by show _ ≤ s2; omega) _).setCell (p := ⟨s3, 0, none⟩) (by show _ ≤ s3; omega) _).drew
      refine held_end (g := g) (m := m) (c := c) (r := decide (0 < m)) h4 h5 ?_ ?_ (by omega) (hKO.same D _ HKD.out rfl) hB9 ?_ (ownP_of_block hO' (blk g hng.1 hng.2))
      · rw [hW9]; exact (HI.out.r1.set _).other j7 _
      · rw [hW9]; exact (HI.out.r2.other (Ne.symm j7) _).set _
      · constructor
        · intro h1
          exact ⟨fun e => by rw [e] at hm; simp at h1; simp at hm; omega, hall⟩
        · rintro ⟨h1, _⟩
          have h0 : 0 < l.length := List.length_pos_iff.2 h1
          simp; omega
    rw [← hW9]
    clear hW9
    go_wp2_with fail
    exact HE.out _ rfl rfl
  case stop =>
    rintro D cd pre W hD _ ⟨rfl, hB, hsz, ⟨k, hk, hF⟩, r2, g, m, c, r1, hO⟩ hKD
    refine wpIn_wide.2 ?_
    go_wp2_with fail
    refine held_end (r := false) rfl rfl r1 r2 (by omega) hKD hB ⟨(fun e => by cases e), fun h1 => ?_⟩ hO
    have := h1.2 k.1 k.2
    rw [hF] at this; cases this
end Go.Proofs.YteammdkipnfmnaaGreatDoor.range
