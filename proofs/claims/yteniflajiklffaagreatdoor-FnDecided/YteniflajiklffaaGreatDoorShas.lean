/- Shards: what stays right, whatever they do. Plain mathematics. The cursor from which the laws draw: what each call does to it. The specification's union. What the laws on pairs draw. What the laws on pairs draw: whole draws. Draws of pairs that are right, and a place of one. -/
import Derived.Test.YteniflajiklffaaGreatDoorShai
import Derived.Test.YteniflajiklffaaGreatDoorRows
import Derived.Test.YteniflajiklffaaGreatDoorShaa
import Derived.Test.YteniflajiklffaaGreatDoorShac
namespace Go.Proofs.YteniflajiklffaaGreatDoor.recs
open Go Go.RowKit Go.Proofs.YteniflajiklffaaGreatDoor.base Go.Proofs.YteniflajiklffaaGreatDoor.pairs Go.Proofs.YteniflajiklffaaGreatDoor.ords
set_option linter.unusedVariables false

def Snug (l : List Rc) : Prop := ∀ k t, replay (l.take k) = some t → t.1.length + sumOps t.2.1 ≤ 60
theorem Snug.take {l : List Rc} (h : Snug l) (n : Nat) : Snug (l.take n) := fun k t ht => h (min k n) t (by rw [List.take_take] at ht; exact ht)
theorem Snug.whole {l : List Rc} (h : Snug l) {t : St} (ht : replay l = some t) : t.1.length + sumOps t.2.1 ≤ 60 := h l.length t (by rw [List.take_length]; exact ht)
theorem snug_nil : Snug [] := fun k t ht => by
  simp only [List.take_nil] at ht
  cases ht
  simp [sumOps]
theorem Snug.snoc {l : List Rc} (h : Snug l) {r : Rc} (hw : ∀ t, replay (l ++ [r]) = some t → t.1.length + sumOps t.2.1 ≤ 60) : Snug (l ++ [r]) := fun k t ht => by
  by_cases e : k ≤ l.length
  · rw [List.take_append_of_le_length e] at ht
    exact h k t ht
  · rw [List.take_of_length_le (by simp; omega)] at ht
    exact hw t ht
theorem sumOps_append (a b : List Rc) : sumOps (a ++ b) = sumOps a + sumOps b := by unfold sumOps; rw [List.map_append, List.sum_append]
theorem sumOps_cut (l : List Rc) (k : Nat) (hk : k < l.length) : sumOps (l.take k ++ l.drop (k + 1)) + (opsAt l k).length = sumOps l := by
  have e : l = l.take k ++ (l[k] :: l.drop (k + 1)) := by rw [← List.drop_eq_getElem_cons hk, List.take_append_drop]
  have e2 : opsAt l k = l[k].2.2 := by unfold opsAt; rw [List.getElem?_eq_getElem hk]
  have e3 : sumOps l = sumOps (l.take k) + (l[k].2.2.length + sumOps (l.drop (k + 1))) := by
    conv => lhs; rw [e]
    rw [sumOps_append]
    rw [show sumOps (l[k] :: l.drop (k + 1)) = l[k].2.2.length + sumOps (l.drop (k + 1)) by unfold sumOps; rw [List.map_cons, List.sum_cons]]
  rw [sumOps_append, e2, e3]; omega
theorem applyAll_length (m : List Pr) (l : List Od) : (applyAll m l).length ≤ m.length + l.length := by
  unfold applyAll
  induction l generalizing m with
  | nil => simp
  | cons o l ih =>
    rw [List.foldl_cons, List.length_cons]
    have h1 := ih (apply1 m o)
    have h2 : (apply1 m o).length ≤ m.length + 1 := by
      unfold apply1
      split
      · exact (putKey_length _ _ _).1
      · split
        · exact Nat.le_trans (List.length_filter_le _ _) (by omega)
        · omega
    omega
theorem go_recOk : ∀ (l : List Rc) (s t : St), replayGo s l = some t → ∀ r ∈ l, recOk r = true
  | [], _, _, _, r, hr => absurd hr List.not_mem_nil
  | x :: l, s, t, e, r, hr => by
    rw [replayGo] at e
    split at e
    · cases e
    · next u hu =>
      rcases List.mem_cons.1 hr with rfl | hr
      · unfold one at hu
        split at hu
        · assumption
        · cases hu
      · exact go_recOk l u t e r hr
theorem Right.recOk {s : Shd} (h : Right s) : ∀ r ∈ s.2.1, recs.recOk r = true := by
  obtain ⟨seen, hm⟩ := h.made
  exact go_recOk _ _ _ hm
theorem right_sure {s : Shd} (h : Right s) : Right (s.1, s.2.1, (s.2.1.length : Int), s.2.2.2.1, s.2.2.2.2) :=
  ⟨h.id, h.made, ⟨by simp, Int.le_refl _⟩, h.room⟩
theorem right_new {id : Int} (h : 0 ≤ id ∧ id ≤ 7) : Right (id, [], 0, [], []) :=
  ⟨h, ⟨[], rfl⟩, ⟨Int.le_refl _, Int.le_refl _⟩, Nat.zero_le _⟩
theorem holdNo_false {s : Shd} {ops : List Od} (h : ¬ holdNo s ops = true) : locked s.2.2.2.2 ops = false ∧ meets s.2.2.2.1 ops = true ∧ keysOf s ops ≤ 60 ∧ s.2.1.length + s.2.2.2.2.length + 2 ≤ 300 := by
  unfold holdNo at h
  simp only [Bool.or_eq_true, decide_eq_true_iff, not_or, Bool.not_eq_true', Bool.not_eq_true, Bool.not_eq_false] at h
  exact ⟨h.1.1.1, h.1.1.2, by omega, by omega⟩
theorem holdS_cases (s : Shd) (tx : Int) (ops : List Od) : (holdS s tx ops).1 = s ∨ ((holdS s tx ops) = (written s (1, tx, ops), 1) ∧ (txOk tx && opsOk ops) = true ∧ outc s tx = 2 ∧ ¬ holdNo s ops = true) := by
  unfold holdS
  split
  · exact .inl rfl
  · next h1 =>
    split
    · exact .inl rfl
    · next h2 =>
      split
      · exact .inl rfl
      · next h3 => exact .inr ⟨rfl, by simpa using h1, by omega, h3⟩
theorem recOk_of {tx : Int} {ops : List Od} (h : (txOk tx && opsOk ops) = true) : recOk (1, tx, ops) = true := by
  rw [Bool.and_eq_true] at h
  exact (recOk_iff _).2 ⟨by simpa [txOk] using h.1, .inl ⟨rfl, h.2⟩⟩
theorem hold_one {s : Shd} {tx : Int} {ops : List Od} (h : Right s) (h1 : (txOk tx && opsOk ops) = true) (h2 : outc s tx = 2) (h3 : ¬ holdNo s ops = true) : ∃ seen, replay s.2.1 = some (s.2.2.2.1, s.2.2.2.2, seen) ∧ one (s.2.2.2.1, s.2.2.2.2, seen) (1, tx, ops) = some (s.2.2.2.1, s.2.2.2.2 ++ [(1, tx, ops)], seen ++ [tx]) := by
  obtain ⟨seen, hm⟩ := h.made
  obtain ⟨g1, g2, _, _⟩ := holdNo_false h3
  exact ⟨seen, hm, hold_fits h hm (recOk_of h1) h2 g1 g2⟩
theorem right_hold {s : Shd} {tx : Int} {ops : List Od} (h : Right s) : Right (holdS s tx ops).1 := by
  rcases holdS_cases s tx ops with e | ⟨e, h1, h2, h3⟩
  · rw [e]; exact h
  · rw [e]
    obtain ⟨seen, hm, ho⟩ := hold_one h h1 h2 h3
    obtain ⟨_, _, _, g4⟩ := holdNo_false h3
    exact right_written h hm ho (by simp; omega)
theorem snug_hold {s : Shd} {tx : Int} {ops : List Od} (h : Right s) (hs : Snug s.2.1) : Snug (holdS s tx ops).1.2.1 := by
  rcases holdS_cases s tx ops with e | ⟨e, h1, h2, h3⟩
  · rw [e]; exact hs
  · rw [e]
    obtain ⟨seen, hm, ho⟩ := hold_one h h1 h2 h3
    obtain ⟨_, _, g3, _⟩ := holdNo_false h3
    refine hs.snoc fun t ht => ?_
    rw [replay_snoc, hm] at ht
    simp only [] at ht
    rw [ho] at ht
    cases ht
    show s.2.2.2.1.length + sumOps (s.2.2.2.2 ++ [(1, tx, ops)]) ≤ 60
    rw [sumOps_append]
    unfold keysOf at g3
    have : sumOps [((1 : Int), tx, ops)] = ops.length := by simp [sumOps]
    omega
theorem decideS_cases (s : Shd) (tx : Int) (yes : Bool) : (decideS s tx yes).1 = s ∨ (decideS s tx yes = (written s (if yes = true then 2 else 3, tx, []), true) ∧ txOk tx = true ∧ outc s tx = 1) ∨ (decideS s tx yes = (written s (3, tx, []), true) ∧ txOk tx = true ∧ yes = false ∧ outc s tx ≠ 1 ∧ outc s tx ≠ 3 ∧ outc s tx ≠ 4 ∧ s.2.1.length + s.2.2.2.2.length < 300) := by
  unfold decideS
  split
  · exact .inl rfl
  · next h1 =>
    have h1' : txOk tx = true := by simpa using h1
    split
    · next h2 => exact .inr (.inl ⟨rfl, h1', h2⟩)
    · next h2 =>
      split
      · exact .inl rfl
      · next h3 =>
        split
        · exact .inl rfl
        · next h4 =>
          split
          · exact .inl rfl
          · next h5 => exact .inr (.inr ⟨rfl, h1', by cases yes <;> simp_all, h2, h3, h4, by omega⟩)
theorem outc_two {s : Shd} {tx : Int} (h : Right s) (h1 : outc s tx ≠ 1) (h3 : outc s tx ≠ 3) (h4 : outc s tx ≠ 4) : outc s tx = 2 := by
  rw [outc_stand h] at h1 h3 h4 ⊢
  unfold standCode at h1 h3 h4 ⊢
  split
  · next e => rw [if_pos e] at h1; exact absurd rfl h1
  · next e =>
    rw [if_neg e] at h1 h3 h4
    split
    · next e2 => rw [if_pos e2] at h3; exact absurd rfl h3
    · next e2 =>
      rw [if_neg e2] at h3 h4
      split
      · next e3 => rw [if_pos e3] at h4; exact absurd rfl h4
      · rfl
theorem end_one {s : Shd} {tx kind : Int} (h : Right s) (hs : Snug s.2.1) (ht : txOk tx = true) (hk : kind = 2 ∨ kind = 3) (ho : outc s tx = 1) : ∃ seen k, replay s.2.1 = some (s.2.2.2.1, s.2.2.2.2, seen) ∧ k < s.2.2.2.2.length ∧ placeTx tx s.2.2.2.2 = some k ∧
    one (s.2.2.2.1, s.2.2.2.2, seen) (kind, tx, []) = some (nextM (s.2.2.2.1, s.2.2.2.2, seen) (kind, tx, []) k, s.2.2.2.2.take k ++ s.2.2.2.2.drop (k + 1), seen) ∧ (nextM (s.2.2.2.1, s.2.2.2.2, seen) (kind, tx, []) k).length + sumOps (s.2.2.2.2.take k ++ s.2.2.2.2.drop (k + 1)) ≤ 60 := by
  obtain ⟨seen, hm⟩ := h.made
  obtain ⟨k, hp⟩ := outc_held h ho
  obtain ⟨hkl, _⟩ := placeTx_some hp
  have h60 := hs.whole hm
  have hcut := sumOps_cut s.2.2.2.2 k hkl
  have hle : (nextM (s.2.2.2.1, s.2.2.2.2, seen) (kind, tx, []) k).length + sumOps (s.2.2.2.2.take k ++ s.2.2.2.2.drop (k + 1)) ≤ 60 := by
    unfold nextM
    show (if kind = 2 then applyAll s.2.2.2.1 (opsAt s.2.2.2.2 k) else s.2.2.2.1).length + _ ≤ 60
    simp only [] at h60
    split
    · have := applyAll_length s.2.2.2.1 (opsAt s.2.2.2.2 k)
      omega
    · omega
  have hok : recOk (kind, tx, []) = true := (recOk_iff _).2 ⟨by simpa [txOk] using ht, .inr ⟨hk, rfl⟩⟩
  exact ⟨seen, k, hm, hkl, hp, end_fits hok (by omega) hp (by omega), hle⟩
theorem right_decide {s : Shd} {tx : Int} {yes : Bool} (h : Right s) (hs : Snug s.2.1) : Right (decideS s tx yes).1 := by
  rcases decideS_cases s tx yes with e | ⟨e, h1, h2⟩ | ⟨e, h1, hy, h2, h3, h4, h5⟩
  · rw [e]; exact h
  · rw [e]
    obtain ⟨seen, k, hm, hkl, hp, ho, hle⟩ := end_one (kind := if yes = true then 2 else 3) h hs h1 (by split <;> simp) h2
    refine right_written h hm ho ?_
    have := h.room
    simp; omega
  · rw [e]
    obtain ⟨seen, hm⟩ := h.made
    have hok : recOk (3, tx, []) = true := (recOk_iff _).2 ⟨by simpa [txOk] using h1, .inr ⟨.inr rfl, rfl⟩⟩
    exact right_written h hm (gone_fits h hm hok (outc_two h h2 h3 h4)) (by simp; omega)
theorem snug_decide {s : Shd} {tx : Int} {yes : Bool} (h : Right s) (hs : Snug s.2.1) : Snug (decideS s tx yes).1.2.1 := by
  rcases decideS_cases s tx yes with e | ⟨e, h1, h2⟩ | ⟨e, h1, hy, h2, h3, h4, h5⟩
  · rw [e]; exact hs
  · rw [e]
    obtain ⟨seen, k, hm, hkl, hp, ho, hle⟩ := end_one (kind := if yes = true then 2 else 3) h hs h1 (by split <;> simp) h2
    refine hs.snoc fun t ht => ?_
    rw [replay_snoc, hm] at ht
    simp only [] at ht
    rw [ho] at ht
    cases ht
    exact hle
  · rw [e]
    obtain ⟨seen, hm⟩ := h.made
    have hok : recOk (3, tx, []) = true := (recOk_iff _).2 ⟨by simpa [txOk] using h1, .inr ⟨.inr rfl, rfl⟩⟩
    refine hs.snoc fun t ht => ?_
    rw [replay_snoc, hm] at ht
    simp only [] at ht
    rw [gone_fits h hm hok (outc_two h h2 h3 h4)] at ht
    cases ht
    have h9 := hs.whole hm
    exact h9
theorem snug_crash {s : Shd} (hs : Snug s.2.1) (keep : Int) : Snug (crashS s keep).2.1 := hs.take _
structure Drawn (s : Shd) : Prop where
  right : Right s
  snug : Snug s.2.1
  txs : ∀ r ∈ s.2.1, 1 ≤ r.2.1 ∧ r.2.1 ≤ 6
theorem drawn_new {id : Int} (h : 0 ≤ id ∧ id ≤ 7) : Drawn (id, [], 0, [], []) := ⟨right_new h, snug_nil, fun r hr => absurd hr List.not_mem_nil⟩
theorem Drawn.hold {s : Shd} (h : Drawn s) {tx : Int} (ops : List Od) (ht : 1 ≤ tx ∧ tx ≤ 6) : Drawn (holdS s tx ops).1 := by
  refine ⟨right_hold h.right, snug_hold h.right h.snug, ?_⟩
  rcases holdS_cases s tx ops with e | ⟨e, _⟩
  · rw [e]; exact h.txs
  · rw [e]
    intro r hr
    rcases List.mem_append.1 hr with e | e
    · exact h.txs r e
    · rw [List.mem_singleton.1 e]; exact ht
theorem Drawn.decide {s : Shd} (h : Drawn s) {tx : Int} (yes : Bool) (ht : 1 ≤ tx ∧ tx ≤ 6) : Drawn (decideS s tx yes).1 := by
  refine ⟨right_decide h.right h.snug, snug_decide h.right h.snug, ?_⟩
  rcases decideS_cases s tx yes with e | ⟨e, _⟩ | ⟨e, _⟩
  · rw [e]; exact h.txs
  all_goals
    rw [e]
    intro r hr
    rcases List.mem_append.1 hr with e | e
    · exact h.txs r e
    · rw [List.mem_singleton.1 e]; exact ht
theorem Drawn.crash {s : Shd} (h : Drawn s) (keep : Int) : Drawn (crashS s keep) :=
  ⟨right_crash h.right keep, snug_crash h.snug keep, fun r hr => h.txs r (List.mem_of_mem_take hr)⟩
theorem Drawn.sure {s : Shd} (h : Drawn s) : Drawn (s.1, s.2.1, (s.2.1.length : Int), s.2.2.2.1, s.2.2.2.2) := ⟨right_sure h.right, h.snug, h.txs⟩
theorem Right.held_tx {s : Shd} (h : Right s) : ∀ r ∈ s.2.2.2.2, r ∈ s.2.1 ∧ r.1 = 1 := fun r hr => by
  obtain ⟨seen, hm⟩ := h.made
  have := (replay_ok hm).2.1 r hr
  exact ⟨this.1, this.2.1⟩
end Go.Proofs.YteniflajiklffaaGreatDoor.recs

namespace Go.Proofs.YteniflajiklffaaGreatDoor.draw
open Go.RowKit Go.Proofs.YteniflajiklffaaGreatDoor.base
set_option linter.unusedVariables false
set_option linter.unusedSimpArgs false

def Cur (w0 w : World) (gc : Nat) (a : Option Addr) (len cap : Nat) (code : List UInt8) : Prop :=
  Sl w0 a len code ∧ Below w0.heap.size w0 w ∧ w0.heap.size ≤ gc ∧ len ≤ 1099511627776 ∧
  ∃ i h : Int, 0 ≤ i ∧ i ≤ len ∧ w.heap[gc]? = some (.cells #[.slice a len cap, .int .i64 i, .int .i64 h] 101 (0, 0))

theorem and_byte (z : Int) : 0 ≤ bits .and .i64 z 255 ∧ bits .and .i64 z 255 ≤ 255 := by
  have e : bits .and .i64 z 255 = IntKind.i64.wrap (((BitVec.ofInt 64 z) &&& (BitVec.ofInt 64 255)).toNat : Int) := rfl
  have h : ((BitVec.ofInt 64 z) &&& (BitVec.ofInt 64 255)).toNat ≤ 255 := by
    rw [BitVec.toNat_and]
    exact Nat.le_trans Nat.and_le_right (by decide)
  rw [e, wraps_i64 _ (by omega) (by omega)]
  omega

theorem cur_of {w0 w w1 : World} {gc : Nat} {a : Option Addr} {len cap : Nat} {code : List UInt8} {i h : Int} (hS : Sl w0 a len code) (hB : Below w0.heap.size w0 w) (hgc : w0.heap.size ≤ gc) (hln : len ≤ 1099511627776)
    (hi0 : 0 ≤ i) (hi1 : i ≤ len) (hg : w.grownBy w1 (some gc)) (hr : w1.heap[gc]? = some (.cells #[.slice a len cap, .int .i64 i, .int .i64 h] 101 (0, 0))) : Cur w0 w1 gc a len cap code :=
  ⟨hS, hB.grown hg hB.size (fun k e => by cases e; exact hgc), hgc, hln, i, h, hi0, hi1, hr⟩

set_option maxRecDepth 100000 in
set_option maxHeartbeats 1000000 in
theorem byte_ (w0 w : World) (gc : Nat) (a : Option Addr) (len cap : Nat) (code : List UInt8) (h : Cur w0 w gc a len cap code) :
    Calls Tryz.prog 91 #[.pointer (some ⟨gc, 0, none⟩)] w fun e w' => ∃ x : Int, 0 ≤ x ∧ x ≤ 255 ∧ e = .returned (.int .i64 x) ∧ Cur w0 w' gc a len cap code ∧ w.grownBy w' (some gc) := by
  obtain ⟨hS, hB, hgc, hln, i, hh, hi0, hi1, hrow⟩ := h
  have c0 : w.cell? ⟨gc, 0, none⟩ = some (.slice a len cap) := cell_cur hrow 0 _ rfl
  have c1 : w.cell? ⟨gc, 1, none⟩ = some (.int .i64 i) := cell_cur hrow 1 _ rfl
  have c2 : w.cell? ⟨gc, 2, none⟩ = some (.int .i64 hh) := cell_cur hrow 2 _ rfl
  have f1 : w.frozen? ⟨gc, 1, none⟩ = false := frozen_of_row w gc 1 _ _ hrow
  have f2 : w.frozen? ⟨gc, 2, none⟩ = false := frozen_of_row w gc 2 _ _ hrow
  have HROW := Hid.mk' hrow
  clear hrow
  by_cases hlt : i < len
  · obtain ⟨I, rfl⟩ := Int.eq_ofNat_of_zero_le hi0
    have hS' := hS.below hB
    have hIl : I < code.length := by have := hS.1; omega
    obtain ⟨b, off, ha, hcl⟩ := hS.2.2 (by omega)
    subst ha
    have hbb : b < w0.heap.size := World.block_lt_of_cell? w0 _ (hcl I hIl)
    have hne : ¬ b = gc := by omega
    have hne2 : ¬ gc = b := by omega
    generalize hcc : code[I].toNat = c
    have hc256 : c < 256 := by rw [← hcc]; exact UInt8.toNat_lt _
    have c3 : w.cell? ⟨b, off + I, none⟩ = some (.int .u8 (c : Int)) := by rw [hS'.at I hIl, hcc]
    have hi3 : (I : Int) < (len : Int) := hlt
    clear hcl hcc hIl hS'
    go_enter Tryz.func91, Tryz.ntmps91
    go_wp2
    go_quiet (fail)
    go_wp2
    go_quiet (fail)
    go_wp2
    go_quiet (fail)
    go_wp2
    go_ret
    have hs := set_cur HROW.out 2 (.int .i64 (wrap64 (wrap64 (hh * 6364136223846793005) + 1442695040888963407)))
    have hs2 := fun n => set_cur (w := (w.setCell ⟨gc, 2, none⟩ (.int .i64 (wrap64 (wrap64 (hh * 6364136223846793005) + 1442695040888963407)))).drewN n) hs.1 1 (.int .i64 ((I : Int) + 1))
    have hg := fun n => grownBy_trans (grown_drewN hs.2 n) (hs2 n).2
    exact ⟨_, (and_byte _).1, (and_byte _).2, rfl, cur_of hS hB hgc hln (by omega) (by omega) (hg _) (hs2 _).1, hg _⟩
  · go_enter Tryz.func91, Tryz.ntmps91
    go_wp2
    go_quiet (fail)
    go_wp2
    go_quiet (fail)
    go_wp2
    go_ret
    have hs := set_cur HROW.out 2 (.int .i64 (wrap64 (wrap64 (hh * 6364136223846793005) + 1442695040888963407)))
    exact ⟨_, (and_byte _).1, (and_byte _).2, rfl, cur_of hS hB hgc hln hi0 hi1 (grown_drewN (grown_drewN hs.2 _) _) hs.1, grown_drewN (grown_drewN hs.2 _) _⟩

theorem Cur.lt {w0 w : World} {gc : Nat} {a : Option Addr} {len cap : Nat} {code : List UInt8} (h : Cur w0 w gc a len cap code) : gc < w.heap.size := by
  obtain ⟨_, _, _, _, i, hh, _, _, hr⟩ := h
  exact (Array.getElem?_eq_some_iff.1 hr).1
theorem Cur.bel {w0 w : World} {gc : Nat} {a : Option Addr} {len cap : Nat} {code : List UInt8} (h : Cur w0 w gc a len cap code) : Below w0.heap.size w0 w := h.2.1
theorem Cur.ge {w0 w : World} {gc : Nat} {a : Option Addr} {len cap : Nat} {code : List UInt8} (h : Cur w0 w gc a len cap code) : w0.heap.size ≤ gc := h.2.2.1
theorem Cur.grown {w0 w w1 : World} {gc : Nat} {a : Option Addr} {len cap : Nat} {code : List UInt8} {row : Option Nat} (h : Cur w0 w gc a len cap code) (hg : w.grownBy w1 row) (hne : some gc ≠ row) (hr : ∀ k, row = some k → w0.heap.size ≤ k) : Cur w0 w1 gc a len cap code := by
  have hlt := h.lt
  obtain ⟨hS, hB, hgc, hln, i, hh, hi0, hi1, hrow⟩ := h
  exact ⟨hS, hB.grown hg hB.size hr, hgc, hln, i, hh, hi0, hi1, by rw [hg.block gc hlt hne]; exact hrow⟩
theorem Cur.below {w0 w w1 : World} {gc : Nat} {a : Option Addr} {len cap : Nat} {code : List UInt8} (h : Cur w0 w gc a len cap code) (hb : Below w.heap.size w w1) : Cur w0 w1 gc a len cap code :=
  h.grown (row := none) ⟨hb.os, hb.tape, hb.output, hb.size, fun k hk _ => hb.block k hk⟩ (by simp) (fun k e => by cases e)

set_option maxRecDepth 100000 in
set_option maxHeartbeats 1000000 in
theorem below_ (w0 w : World) (gc : Nat) (a : Option Addr) (len cap : Nat) (code : List UInt8) (n : Int) (h : Cur w0 w gc a len cap code) (hn : 0 < n) (hn2 : n ≤ 1000000000) :
    Calls Tryz.prog 45 #[.pointer (some ⟨gc, 0, none⟩), .int .i64 n] w fun e w' => ∃ x : Nat, (x : Int) < n ∧ e = .returned (.int .i64 (x : Int)) ∧ Cur w0 w' gc a len cap code ∧ w.grownBy w' (some gc) := by
  by_cases hs : n ≤ 256
  · go_enter Tryz.func45, Tryz.ntmps45
    go_wp2_with fail
    refine (byte_ w0 _ gc a len cap code h).mono ?_
    rintro e w1 ⟨x, hx0, hx1, rfl, hc1, hg1⟩
    go_wp2_with fail
    go_ret
    have e1 : 0 ≤ x % n := Int.emod_nonneg _ (by omega)
    have e2 : x % n < n := Int.emod_lt_of_pos _ hn
    exact ⟨(x % n).toNat, by omega, ret_int (by omega), hc1, hg1⟩
  · go_enter Tryz.func45, Tryz.ntmps45
    go_wp2_with fail
    refine (byte_ w0 _ gc a len cap code h).mono ?_
    rintro e w1 ⟨x, hx0, hx1, rfl, hc1, hg1⟩
    go_wp2_with fail
    refine (byte_ w0 _ gc a len cap code hc1).mono ?_
    rintro e w2 ⟨y, hy0, hy1, rfl, hc2, hg2⟩
    go_wp2_with fail
    refine (byte_ w0 _ gc a len cap code hc2).mono ?_
    rintro e w3 ⟨z, hz0, hz1, rfl, hc3, hg3⟩
    go_wp2_with fail
    go_ret
    have e1 : 0 ≤ (x * 65536 + y * 256 + z) % n := Int.emod_nonneg _ (by omega)
    have e2 : (x * 65536 + y * 256 + z) % n < n := Int.emod_lt_of_pos _ hn
    exact ⟨((x * 65536 + y * 256 + z) % n).toNat, by omega, ret_int (by omega), hc3, grownBy_trans (grownBy_trans hg1 hg2) hg3⟩

theorem int_ (w0 w : World) (gc : Nat) (a : Option Addr) (len cap : Nat) (code : List UInt8) (gl n cp : Nat) (zs : Array Value) (mk : Nat × Nat) (h : Cur w0 w gc a len cap code) (hr : w.heap[gl]? = some (.cells zs 3 mk)) (hz : zs.size = n) (hn : 0 < n) (hn2 : n ≤ 1000) (hne : gl ≠ gc)
    (P : Int → Prop) (hP : ∀ i, i < n → ∃ z, zs[i]? = some (.int .i64 z) ∧ P z) :
    Calls Tryz.prog 30 #[.pointer (some ⟨gc, 0, none⟩), .slice (some ⟨gl, 0, none⟩) n cp] w fun e w' => ∃ z : Int, P z ∧ e = .returned (.int .i64 z) ∧ Cur w0 w' gc a len cap code ∧ w.grownBy w' (some gc) := by
  go_enter Tryz.func30, Tryz.ntmps30
  go_wp2_with fail
  refine (below_ w0 _ gc a len cap code _ h (by omega) (by omega)).mono ?_
  rintro e w1 ⟨x, hx, rfl, hc1, hg1⟩
  have hgl : gl < w.heap.size := (Array.getElem?_eq_some_iff.1 hr).1
  obtain ⟨z, hz1, hz2⟩ := hP x (by omega)
  have c1 : w1.cell? ⟨gl, x, none⟩ = some (.int .i64 z) := by
    have e1 := hg1.block gl hgl (by simpa using hne)
    rw [hr] at e1
    exact cell_cur e1 x _ hz1
  go_wp2_with fail
  go_ret
  exact ⟨z, hz2, rfl, hc1, hg1⟩

theorem str_ (w0 w : World) (gc : Nat) (a : Option Addr) (len cap : Nat) (code : List UInt8) (gl n cp : Nat) (zs : Array Value) (mk : Nat × Nat) (h : Cur w0 w gc a len cap code) (hr : w.heap[gl]? = some (.cells zs 9 mk)) (hz : zs.size = n) (hn : 0 < n) (hn2 : n ≤ 1000) (hne : gl ≠ gc)
    (P : ByteArray → Prop) (hP : ∀ i, i < n → ∃ z, zs[i]? = some (.string z) ∧ P z) :
    Calls Tryz.prog 110 #[.pointer (some ⟨gc, 0, none⟩), .slice (some ⟨gl, 0, none⟩) n cp] w fun e w' => ∃ z : ByteArray, P z ∧ e = .returned (.string z) ∧ Cur w0 w' gc a len cap code ∧ w.grownBy w' (some gc) := by
  go_enter Tryz.func110, Tryz.ntmps110
  go_wp2_with fail
  refine (below_ w0 _ gc a len cap code _ h (by omega) (by omega)).mono ?_
  rintro e w1 ⟨x, hx, rfl, hc1, hg1⟩
  have hgl : gl < w.heap.size := (Array.getElem?_eq_some_iff.1 hr).1
  obtain ⟨z, hz1, hz2⟩ := hP x (by omega)
  have c1 : w1.cell? ⟨gl, x, none⟩ = some (.string z) := by
    have e1 := hg1.block gl hgl (by simpa using hne)
    rw [hr] at e1
    exact cell_cur e1 x _ hz1
  go_wp2_with fail
  go_ret
  exact ⟨z, hz2, rfl, hc1, hg1⟩

set_option maxRecDepth 100000 in
set_option maxHeartbeats 1000000 in
theorem new_ (w0 w : World) (a : Option Addr) (len cap : Nat) (code : List UInt8) (h0 : Sl w0 a len code) (hB : Below w0.heap.size w0 w) (hln : len ≤ 1099511627776) :
    Calls Tryz.prog 27 #[.slice a len cap] w fun e w' => e = .returned (.pointer (some ⟨w.heap.size, 0, none⟩)) ∧ Cur w0 w' w.heap.size a len cap code ∧ Below w.heap.size w w' := by
  have hS := h0.below hB
  obtain ⟨hl, hm, hc⟩ := id hS
  subst hl
  go_enter Tryz.func27, Tryz.ntmps27
  go_wp2
  go_loop [3, 4] (fun hv i => ∃ (k : Nat) (hh : Int), k ≤ code.length ∧ i = .int .i64 (k : Int) ∧ hv = .int .i64 hh) (fun _ i => code.length - (intOf i).toNat)
  case atStart => exact ⟨0, _, Nat.zero_le _, rfl, rfl⟩
  case round =>
    obtain ⟨k, hh, hk, rfl, rfl⟩ := hrel
    by_cases hlt : k < code.length
    · by_cases h4 : k < 4000
      · obtain ⟨b, off, ha, hcl⟩ := hc (by omega)
        subst ha
        have c1 : w.cell? ⟨b, off + k, none⟩ = some (.int .u8 code[k].toNat) := hcl k hlt
        have hi1 : (k : Int) < (code.length : Int) := by omega
        clear hcl hc
        go_wp2
        go_round
        case rel => exact ⟨k + 1, _, by omega, by go_num, rfl⟩
        case measure => simp [intOf]; omega
      · go_wp2
        go_ret
        exact ⟨rfl, ⟨h0, hB.alloc hB.size _, hB.size, hln, 0, hh, by omega, by omega, heap_alloc_new w _⟩, (Below.refl _ _).alloc (Nat.le_refl _) _⟩
    · go_wp2
      go_ret
      exact ⟨rfl, ⟨h0, hB.alloc hB.size _, hB.size, hln, 0, hh, by omega, by omega, heap_alloc_new w _⟩, (Below.refl _ _).alloc (Nat.le_refl _) _⟩

end Go.Proofs.YteniflajiklffaaGreatDoor.draw

namespace Go.Proofs.YteniflajiklffaaGreatDoor.pairs
open Go Go.RowKit Go.Proofs.YteniflajiklffaaGreatDoor.base
set_option linter.unusedVariables false
set_option linter.unusedSimpArgs false

end Go.Proofs.YteniflajiklffaaGreatDoor.pairs

namespace Go.Proofs.YteniflajiklffaaGreatDoor.pairs
open Go Go.RowKit Go.Proofs.YteniflajiklffaaGreatDoor.base Go.Proofs.YteniflajiklffaaGreatDoor.draw
set_option linter.unusedVariables false
set_option linter.unusedSimpArgs false

def GotS (N : Nat) (w0 w : World) (gc : Nat) (a : Option Addr) (len cap : Nat) (code : List UInt8) (e : Ending) (w' : World) : Prop :=
  ∃ z : ByteArray, z.size ≤ N ∧ e = .returned (.string z) ∧ Cur w0 w' gc a len cap code ∧ w.grownBy w' (some gc)
theorem grown_of_alloc {w w' : World} {o : Obj} {row : Option Nat} (h : (w.alloc o).grownBy w' row) : w.grownBy w' row := grownBy_trans (grown_alloc0 w o row) h

set_option maxHeartbeats 1000000 in
theorem d_once (w0 w : World) (gc : Nat) (a : Option Addr) (len cap : Nat) (code : List UInt8) (n : Int) (h : Cur w0 w gc a len cap code) (hn : 0 < n) (hn2 : n ≤ 1000000000) :
    Calls Tryz.prog 44 #[.pointer (some ⟨gc, 0, none⟩), .int .i64 n] w fun e w' => ∃ b : Bool, e = .returned (.bool b) ∧ Cur w0 w' gc a len cap code ∧ w.grownBy w' (some gc) := by
  go_enter Tryz.func44, Tryz.ntmps44
  go_wp2_with fail
  refine (below_ w0 _ gc a len cap code n h hn hn2).mono ?_
  rintro e w1 ⟨x, hx, rfl, hc1, hg1⟩
  go_wp2_with fail
  go_ret
  exact ⟨_, rfl, hc1, hg1⟩

theorem curNe {w0 w : World} {gc : Nat} {a : Option Addr} {len cap : Nat} {code : List UInt8} (h : Cur w0 w gc a len cap code) : w.heap.size ≠ gc := by have := h.lt; omega
theorem some_at (zs : Array Value) (n : Nat) (N : Nat) (h : (List.range n).all (fun i => match zs[i]? with | some (.string z) => decide (z.size ≤ N) | _ => false) = true) : ∀ i, i < n → ∃ z, zs[i]? = some (.string z) ∧ z.size ≤ N := by
  intro i hi
  have := List.all_eq_true.1 h i (List.mem_range.2 hi)
  split at this
  · rename_i z hz; exact ⟨z, hz, of_decide_eq_true this⟩
  · cases this

set_option maxHeartbeats 1000000 in
theorem d_key (w0 w : World) (gc : Nat) (a : Option Addr) (len cap : Nat) (code : List UInt8) (h : Cur w0 w gc a len cap code) :
    Calls Tryz.prog 109 #[.pointer (some ⟨gc, 0, none⟩)] w fun e w' => GotS 13 w0 w gc a len cap code e w' := by
  go_enter Tryz.func109, Tryz.ntmps109
  go_wp2_with fail
  have hne := curNe h
  refine (str_ w0 _ gc a len cap code w.heap.size 7 _ _ _ (h.below ((Below.refl _ _).alloc (Nat.le_refl _) _)) (heap_alloc_new w _) rfl (by omega) (by omega) hne (fun z => z.size ≤ 13) (some_at _ 7 13 (by kernel_rfl))).mono ?_
  rintro e w1 ⟨z, hz, rfl, hc1, hg1⟩
  go_wp2_with fail
  go_ret
  exact ⟨z, hz, rfl, hc1, grown_of_alloc hg1⟩
set_option maxHeartbeats 1000000 in
theorem d_keyAny (w0 w : World) (gc : Nat) (a : Option Addr) (len cap : Nat) (code : List UInt8) (h : Cur w0 w gc a len cap code) :
    Calls Tryz.prog 70 #[.pointer (some ⟨gc, 0, none⟩)] w fun e w' => GotS 13 w0 w gc a len cap code e w' := by
  go_enter Tryz.func70, Tryz.ntmps70
  go_wp2_with fail
  refine (d_once w0 _ gc a len cap code _ h (by omega) (by omega)).mono ?_
  rintro e w1 ⟨b, rfl, hc1, hg1⟩
  cases b
  · go_wp2_with fail
    refine (d_key w0 _ gc a len cap code hc1).mono ?_
    rintro e w2 ⟨z, hz, rfl, hc2, hg2⟩
    go_wp2_with fail
    go_ret
    exact ⟨z, hz, rfl, hc2, grownBy_trans hg1 hg2⟩
  · go_wp2_with fail
    have hne := curNe hc1
    refine (str_ w0 _ gc a len cap code w1.heap.size 5 _ _ _ (hc1.below ((Below.refl _ _).alloc (Nat.le_refl _) _)) (heap_alloc_new w1 _) rfl (by omega) (by omega) hne (fun z => z.size ≤ 13) (some_at _ 5 13 (by kernel_rfl))).mono ?_
    rintro e w2 ⟨z, hz, rfl, hc2, hg2⟩
    go_wp2_with fail
    go_ret
    exact ⟨z, hz, rfl, hc2, grownBy_trans hg1 (grown_of_alloc hg2)⟩

theorem max13 {n : Nat} (h : n ≤ 21) : n ≤ maxLen := Nat.le_trans h (by decide)


end Go.Proofs.YteniflajiklffaaGreatDoor.pairs

namespace Go.Proofs.YteniflajiklffaaGreatDoor.pairs
open Go Go.RowKit Go.Proofs.YteniflajiklffaaGreatDoor.base Go.Proofs.YteniflajiklffaaGreatDoor.draw
set_option linter.unusedVariables false
set_option linter.unusedSimpArgs false



end Go.Proofs.YteniflajiklffaaGreatDoor.pairs

namespace Go.Proofs.YteniflajiklffaaGreatDoor.pairs
open Go Go.RowKit Go.Proofs.YteniflajiklffaaGreatDoor.base Go.Proofs.YteniflajiklffaaGreatDoor.draw
set_option linter.unusedVariables false
set_option linter.unusedSimpArgs false

def goodK (z : ByteArray) : Bool := keyOk z && Op.bytesLess z.data.toList [122, 122]
theorem goodK_ok {z : ByteArray} (h : goodK z = true) : keyOk z = true := (Bool.and_eq_true_iff.1 h).1
theorem some_atB (zs : Array Value) (n : Nat) (f : ByteArray → Bool) (h : (List.range n).all (fun i => match zs[i]? with | some (.string z) => f z | _ => false) = true) : ∀ i, i < n → ∃ z, zs[i]? = some (.string z) ∧ f z = true := by
  intro i hi
  have := List.all_eq_true.1 h i (List.mem_range.2 hi)
  split at this
  · rename_i z hz; exact ⟨z, hz, this⟩
  · cases this
set_option maxHeartbeats 1000000 in
theorem d_keyG (w0 w : World) (gc : Nat) (a : Option Addr) (len cap : Nat) (code : List UInt8) (h : Cur w0 w gc a len cap code) :
    Calls Tryz.prog 109 #[.pointer (some ⟨gc, 0, none⟩)] w fun e w' => ∃ z : ByteArray, goodK z = true ∧ e = .returned (.string z) ∧ Cur w0 w' gc a len cap code ∧ w.grownBy w' (some gc) := by
  go_enter Tryz.func109, Tryz.ntmps109
  go_wp2_with fail
  have hne := curNe h
  refine (str_ w0 _ gc a len cap code w.heap.size 7 _ _ _ (h.below ((Below.refl _ _).alloc (Nat.le_refl _) _)) (heap_alloc_new w _) rfl (by omega) (by omega) hne (fun z => goodK z = true) (some_atB _ 7 goodK (by kernel_rfl))).mono ?_
  rintro e w1 ⟨z, hz, rfl, hc1, hg1⟩
  go_wp2_with fail
  go_ret
  exact ⟨z, hz, rfl, hc1, grown_of_alloc hg1⟩
end Go.Proofs.YteniflajiklffaaGreatDoor.pairs
