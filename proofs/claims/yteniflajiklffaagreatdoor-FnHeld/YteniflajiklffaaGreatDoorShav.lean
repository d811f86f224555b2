/- The program's shard: what is alike, and whether it is right. The program's shard: whether it is right. What the exact laws of shards share. Shards: what is right is no greater than the laws take. Plain mathematics. Draws of records, and where their transactions lie. -/
import Derived.Test.YteniflajiklffaaGreatDoorShao
import Derived.Test.YteniflajiklffaaGreatDoorShag
import Derived.Test.YteniflajiklffaaGreatDoorShap
import Derived.Test.YteniflajiklffaaGreatDoorShau
import Derived.Test.YteniflajiklffaaGreatDoorShaq
import Derived.Deep.RegionHeld3
import Derived.Test.YteniflajiklffaaGreatDoorShas
import Derived.Test.YteniflajiklffaaGreatDoorShat
namespace Go.Proofs.YteniflajiklffaaGreatDoor.recs
open Go Go.RowKit Go.Proofs.YteniflajiklffaaGreatDoor.base Go.Proofs.YteniflajiklffaaGreatDoor.pairs Go.Proofs.YteniflajiklffaaGreatDoor.ords Go.Proofs.YteniflajiklffaaGreatDoor.helps Go.Proofs.YteniflajiklffaaGreatDoor.help Go.Proofs.YteniflajiklffaaGreatDoor.lay
set_option linter.unusedVariables false
set_option linter.unusedSimpArgs false

set_option maxRecDepth 100000 in
set_option maxHeartbeats 1000000 in
theorem eq_pairs (a a2 : Option Addr) (len cap len2 cap2 : Nat) (l l2 : List Pr) (w : World) (h : SlP w a len l) (h2 : SlP w a2 len2 l2) :
    Calls Tryz.prog 41 #[.slice a len cap, .slice a2 len2 cap2] w fun e w' => e = .returned (.bool (decide (l = l2))) ∧ ∃ n, w' = w.drewN n := by
  obtain ⟨hl, hm, _, hc⟩ := h
  obtain ⟨hl2, hm2, _, hc2⟩ := h2
  subst hl hl2
  unfold maxLen at hm hm2
  by_cases hne : l.length = l2.length
  · have hb : ((l.length : Int) == (l2.length : Int)) = true := by simp; omega
    go_enter Tryz.func41, Tryz.ntmps41
    go_wp2_with fail
    go_loopw [13] (fun i wr => ∃ k : Nat, k ≤ l.length ∧ i = .int .i64 k ∧ l.take k = l2.take k ∧ ∃ n, wr = w.drewN n) (fun i _ => l.length - (intOf i).toNat)
    case atStart => exact ⟨0, Nat.zero_le _, rfl, rfl, 0, rfl⟩
    case round =>
      obtain ⟨k, hk, rfl, htk, n, rfl⟩ := hrel
      by_cases hlt : k < l.length
      · obtain ⟨b, off, ha, hcl⟩ := hc (by omega)
        obtain ⟨b2, off2, ha2, hcl2⟩ := hc2 (by omega)
        subst ha ha2
        have hlt2 : k < l2.length := by omega
        have hi1 : (k : Int) < (l.length : Int) := by omega
        have hi2 : (k : Int) < (l2.length : Int) := by omega
        obtain ⟨c1, c2⟩ := hcl k hlt
        obtain ⟨c3, c4⟩ := hcl2 k hlt2
        by_cases e : l[k] = l2[k]
        · have HE := Hid.mk' (take_eqP htk hlt hlt2 e)
          rw [← e] at c3 c4
          clear hcl hcl2 hc hc2 htk hne e
          generalize l[k] = p at *
          go_wp2_with fail
          go_quiet (fail)
          go_wp2_with fail
          go_roundw
          case rel => exact ⟨k + 1, by omega, by go_num, HE.out, _, rfl⟩
          case measure => simp [intOf]; omega
        · have HE : Hid (¬ l = l2) := by
            show ¬ _
            rintro rfl; exact e rfl
          generalize l[k] = p at *
          generalize l2[k] = q at *
          clear hcl hcl2 hc hc2 htk hne
          by_cases e1 : p.1 = q.1
          · have hq := str_ne (fun e2 : p.2 = q.2 => e (Prod.ext e1 e2))
            rw [← e1] at c3
            generalize p.1 = p1 at *
            generalize p.2 = p2 at *
            generalize q.2 = q2 at *
            clear e e1
            go_wp2_with fail
            go_quiet (fail)
            go_wp2_with fail
            go_ret
            exact ⟨ret_bool (by symm; rw [decide_eq_false_iff_not]; exact HE.out), _, World.drewN_drewN _ _ _⟩
          · have hq := str_ne e1
            generalize p.1 = p1 at *
            generalize p.2 = p2 at *
            generalize q.1 = q1 at *
            generalize q.2 = q2 at *
            clear e e1
            go_wp2_with fail
            go_quiet (fail)
            go_wp2_with fail
            go_ret
            exact ⟨ret_bool (by symm; rw [decide_eq_false_iff_not]; exact HE.out), _, World.drewN_drewN _ _ _⟩
      · have e : k = l.length := by omega
        have hfin : l = l2 := by
          subst e
          rw [List.take_of_length_le (Nat.le_refl _), List.take_of_length_le (by omega)] at htk
          exact htk
        have HF := Hid.mk' hfin
        clear hfin htk
        go_wp2_with fail
        go_ret
        exact ⟨ret_bool (by symm; rw [decide_eq_true_iff]; exact HF.out), _, rfl⟩
  · have hb : ((l.length : Int) == (l2.length : Int)) = false := by simp; omega
    go_enter Tryz.func41, Tryz.ntmps41
    go_wp2
    go_ret
    exact ⟨ret_bool (by symm; rw [decide_eq_false_iff_not]; intro h; exact hne (by rw [h])), 0, rfl⟩
set_option maxRecDepth 100000 in
set_option maxHeartbeats 1000000 in
theorem eq_ops (a a2 : Option Addr) (len cap len2 cap2 : Nat) (l l2 : List Od) (w : World) (h : SlO w a len l) (h2 : SlO w a2 len2 l2) :
    Calls Tryz.prog 90 #[.slice a len cap, .slice a2 len2 cap2] w fun e w' => e = .returned (.bool (decide (l = l2))) ∧ ∃ n, w' = w.drewN n := by
  obtain ⟨hl, hm, _, hc⟩ := h
  obtain ⟨hl2, hm2, _, hc2⟩ := h2
  subst hl hl2
  unfold maxLen at hm hm2
  by_cases hne : l.length = l2.length
  · have hb : ((l.length : Int) == (l2.length : Int)) = true := by simp; omega
    go_enter Tryz.func90, Tryz.ntmps90
    go_wp2_with fail
    go_loopw [13] (fun i wr => ∃ k : Nat, k ≤ l.length ∧ i = .int .i64 k ∧ l.take k = l2.take k ∧ ∃ n, wr = w.drewN n) (fun i _ => l.length - (intOf i).toNat)
    case atStart => exact ⟨0, Nat.zero_le _, rfl, rfl, 0, rfl⟩
    case round =>
      obtain ⟨k, hk, rfl, htk, n, rfl⟩ := hrel
      by_cases hlt : k < l.length
      · obtain ⟨b, off, ha, hcl⟩ := hc (by omega)
        obtain ⟨b2, off2, ha2, hcl2⟩ := hc2 (by omega)
        subst ha ha2
        have hlt2 : k < l2.length := by omega
        have hi1 : (k : Int) < (l.length : Int) := by omega
        have hi2 : (k : Int) < (l2.length : Int) := by omega
        obtain ⟨c0, c1, c2⟩ := hcl k hlt
        obtain ⟨d0, d1, d2⟩ := hcl2 k hlt2
        by_cases e : l[k] = l2[k]
        · have HE := Hid.mk' (take_eqO htk hlt hlt2 e)
          rw [← e] at d0 d1 d2
          clear hcl hcl2 hc hc2 htk hne e
          generalize l[k] = p at *
          go_wp2_with fail
          go_quiet (fail)
          go_wp2_with fail
          go_roundw
          case rel => exact ⟨k + 1, by omega, by go_num, HE.out, _, rfl⟩
          case measure => simp [intOf]; omega
        · have HE : Hid (¬ l = l2) := by
            show ¬ _
            rintro rfl; exact e rfl
          generalize l[k] = p at *
          generalize l2[k] = q at *
          clear hcl hcl2 hc hc2 htk hne
          obtain ⟨p0, p1, p2⟩ := p
          obtain ⟨q0, q1, q2⟩ := q
          simp only [] at c0 c1 c2 d0 d1 d2
          by_cases e0 : p0 = q0
          · subst e0
            have h0 : (p0 == p0) = true := beq_self_eq_true _
            by_cases e1 : p1 = q1
            · subst e1
              have hq := str_ne (fun e2 : p2 = q2 => e (by rw [e2]))
              clear e
              go_wp2_with fail
              go_quiet (fail)
              go_wp2_with fail
              go_ret
              exact ⟨ret_bool (by symm; rw [decide_eq_false_iff_not]; exact HE.out), _, World.drewN_drewN _ _ _⟩
            · have hq := str_ne e1
              clear e e1
              go_wp2_with fail
              go_quiet (fail)
              go_wp2_with fail
              go_ret
              exact ⟨ret_bool (by symm; rw [decide_eq_false_iff_not]; exact HE.out), _, World.drewN_drewN _ _ _⟩
          · have h0 : (p0 == q0) = false := beq_eq_false_iff_ne.2 e0
            clear e e0
            go_wp2_with fail
            go_quiet (fail)
            go_wp2_with fail
            go_ret
            exact ⟨ret_bool (by symm; rw [decide_eq_false_iff_not]; exact HE.out), _, World.drewN_drewN _ _ _⟩
      · have e : k = l.length := by omega
        have hfin : l = l2 := by
          subst e
          rw [List.take_of_length_le (Nat.le_refl _), List.take_of_length_le (by omega)] at htk
          exact htk
        have HF := Hid.mk' hfin
        clear hfin htk
        go_wp2_with fail
        go_ret
        exact ⟨ret_bool (by symm; rw [decide_eq_true_iff]; exact HF.out), _, rfl⟩
  · have hb : ((l.length : Int) == (l2.length : Int)) = false := by simp; omega
    go_enter Tryz.func90, Tryz.ntmps90
    go_wp2
    go_ret
    exact ⟨ret_bool (by symm; rw [decide_eq_false_iff_not]; intro h; exact hne (by rw [h])), 0, rfl⟩
theorem i_idOk (id : Int) (w : World) :
    Calls Tryz.prog 39 #[.int .i64 id] w fun e w' => e = .returned (.bool (decide (0 ≤ id ∧ id ≤ 7))) ∧ w = w' := by
  by_cases h1 : 0 ≤ id
  · by_cases h2 : id ≤ 7
    · go_enter Tryz.func39, Tryz.ntmps39
      go_wp2
      go_ret
      exact ⟨ret_bool (by simp [h1, h2]), rfl⟩
    · go_enter Tryz.func39, Tryz.ntmps39
      go_wp2
      go_ret
      exact ⟨ret_bool (by simp [h1, h2]), rfl⟩
  · go_enter Tryz.func39, Tryz.ntmps39
    go_wp2
    go_ret
    exact ⟨ret_bool (by have h3 : ¬ 0 ≤ id := by omega
                        simp [h3]), rfl⟩
theorem eq_opsB (a a2 : Option Addr) (len cap len2 cap2 : Nat) (l l2 : List Od) (w : World) (h : SlO w a len l) (h2 : SlO w a2 len2 l2) :
    Calls Tryz.prog 90 #[.slice a len cap, .slice a2 len2 cap2] w fun e w' => e = .returned (.bool (decide (l = l2))) ∧ Below w.heap.size w w' := by
  refine (eq_ops a a2 len cap len2 cap2 l l2 w h h2).mono ?_
  rintro e w' ⟨rfl, n, rfl⟩
  exact ⟨rfl, below_drewN (Below.refl _ _) n⟩
set_option maxRecDepth 100000 in
set_option maxHeartbeats 2000000 in
theorem i_sameRec (x y : Rc) (pa qa : Option Addr) (pl pc ql qc : Nat) (w : World) (hx : SlO w pa pl x.2.2) (hy : SlO w qa ql y.2.2) :
    Calls Tryz.prog 43 #[.agg #[.int .i64 x.1, .int .i64 x.2.1, .slice pa pl pc], .agg #[.int .i64 y.1, .int .i64 y.2.1, .slice qa ql qc]] w fun e w' => e = .returned (.bool (decide (x = y))) ∧ Below w.heap.size w w' := by
  obtain ⟨W, hW⟩ : ∃ W, (w.alloc (.cells #[.int .i64 x.1, .int .i64 x.2.1, .slice pa pl pc] 41)).alloc (.cells #[.int .i64 y.1, .int .i64 y.2.1, .slice qa ql qc] 41) = W := ⟨_, rfl⟩
  have hB : Below w.heap.size w W := by rw [← hW]; exact ((Below.refl _ _).alloc (Nat.le_refl _) _).alloc (by simp) _
  have HE := Hid.mk' (eq_opsB pa qa pl pc ql qc x.2.2 y.2.2 W (hx.below hB) (hy.below hB))
  have HW := Hid.mk' hW
  obtain ⟨x1, x2, x3⟩ := x
  obtain ⟨y1, y2, y3⟩ := y
  simp only [] at HE HW
  clear hW hx hy
  by_cases e1 : x1 = y1
  · subst e1
    have hn : (x1 == x1) = true := by simp
    by_cases e2 : x2 = y2
    · subst e2
      have hf : (x2 == x2) = true := by simp
      have HD : Hid (decide ((x1, x2, x3) = (x1, x2, y3)) = decide (x3 = y3)) := by show _ = _; simp
      go_enter Tryz.func43, Tryz.ntmps43
      go_wp2_with fail
      rw [HW.out]
      refine HE.out.mono ?_
      rintro e w1 ⟨rfl, hb1⟩
      have hB1 := hB.trans (hb1.mono hB.size)
      clear HE HW hb1
      go_wp2_with fail
      go_ret
      rw [HD.out]
      exact ⟨rfl, hB1⟩
    · have hf : (x2 == y2) = false := beq_eq_false_iff_ne.2 e2
      have HD : Hid (decide ((x1, x2, x3) = (x1, y2, y3)) = false) := by show _ = _; simp [e2]
      clear e2
      go_enter Tryz.func43, Tryz.ntmps43
      go_wp2_with fail
      go_ret
      rw [HD.out, HW.out]
      exact ⟨rfl, hB⟩
  · have hn : (x1 == y1) = false := beq_eq_false_iff_ne.2 e1
    have HD : Hid (decide ((x1, x2, x3) = (y1, y2, y3)) = false) := by show _ = _; simp [e1]
    clear e1
    go_enter Tryz.func43, Tryz.ntmps43
    go_wp2_with fail
    go_ret
    rw [HD.out, HW.out]
    exact ⟨rfl, hB⟩
set_option maxRecDepth 100000 in
set_option maxHeartbeats 2000000 in
theorem eq_recs (a a2 : Option Addr) (len cap len2 cap2 : Nat) (l l2 : List Rc) (w : World) (h : SlR w a len l) (h2 : SlR w a2 len2 l2) :
    Calls Tryz.prog 42 #[.slice a len cap, .slice a2 len2 cap2, .func (.func 43) #[] #[]] w fun e w' => e = .returned (.bool (decide (l = l2))) ∧ Below w.heap.size w w' := by
  obtain ⟨hl, hm, hsm, hc⟩ := id h
  obtain ⟨hl2, hm2, hsm2, hc2⟩ := id h2
  subst hl hl2
  unfold maxLen at hm hm2
  by_cases hne : l.length = l2.length
  · have hb : ((l.length : Int) == (l2.length : Int)) = true := by simp; omega
    go_enter Tryz.func42, Tryz.ntmps42
    go_wp2_with fail
    go_loopw [17] (fun i wr => ∃ k : Nat, k ≤ l.length ∧ i = .int .i64 k ∧ l.take k = l2.take k ∧ Below w.heap.size w wr) (fun i _ => l.length - (intOf i).toNat)
    case atStart => exact ⟨0, Nat.zero_le _, rfl, rfl, Below.refl _ _⟩
    case round =>
      obtain ⟨k, hk, rfl, htk, hB⟩ := hrel
      by_cases hlt : k < l.length
      · obtain ⟨b, off, ha, hcl⟩ := hc (by omega)
        obtain ⟨b2, off2, ha2, hcl2⟩ := hc2 (by omega)
        subst ha ha2
        have hlt2 : k < l2.length := by omega
        have hki : (k : Int) < (l.length : Int) := by omega
        have hki2 : (k : Int) < (l2.length : Int) := by omega
        have i1 := h.at k hlt
        have i2 := h2.at k hlt2
        obtain ⟨c1, c2, pa, pl, pc, c3, hS1, _⟩ := i1.below hB
        obtain ⟨c4, c5, qa, ql, qc, c6, hS2, _⟩ := i2.below hB
        have hg1 := World.block_lt_of_cell? _ _ c1
        have hg2 := World.block_lt_of_cell? _ _ c4
        obtain ⟨W1, hW1⟩ : ∃ W1, (wr.alloc (.cells #[.int .i64 l[k].1, .int .i64 l[k].2.1, .slice pa pl pc] 41)) = W1 := ⟨_, rfl⟩
        have hb1 : Below wr.heap.size wr W1 := by rw [← hW1]; exact (Below.refl _ _).alloc (Nat.le_refl _) _
        obtain ⟨W2, hW2⟩ : ∃ W2, (W1.alloc (.cells #[.int .i64 l2[k].1, .int .i64 l2[k].2.1, .slice qa ql qc] 41)) = W2 := ⟨_, rfl⟩
        have hb2 : Below W1.heap.size W1 W2 := by rw [← hW2]; exact (Below.refl _ _).alloc (Nat.le_refl _) _
        have hB2 := (hB.trans (hb1.mono hB.size)).trans (hb2.mono (Nat.le_trans hB.size hb1.size))
        have HSA := Hid.mk' (i_sameRec l[k] l2[k] pa qa pl pc ql qc W2 ((hS1.below hb1).below hb2) ((hS2.below hb1).below hb2))
        have HE1 : Hid (l[k] = l2[k] → l.take (k + 1) = l2.take (k + 1)) := fun e => take_eqR htk hlt hlt2 e
        have HE2 : Hid (¬ l[k] = l2[k] → ¬ l = l2) := fun e e2 => e (by subst e2; rfl)
        have HW : Hid ((wr.alloc (.cells #[.int .i64 l[k].1, .int .i64 l[k].2.1, .slice pa pl pc] 41)).alloc (.cells #[.int .i64 l2[k].1, .int .i64 l2[k].2.1, .slice qa ql qc] 41) = W2) := by show _ = _; rw [hW1, hW2]
        clear hcl hcl2 hc hc2 i1 i2 hsm hsm2 h h2 hS1 hS2 htk hne hW1 hW2 hb1 hb2
        cases hd : decide (l[k] = l2[k]) with
        | true =>
          rw [hd] at HSA
          have HE := Hid.mk' (HE1.out (of_decide_eq_true hd))
          clear hd HE1 HE2
          generalize l[k] = p at *
          generalize l2[k] = q at *
          go_wp2_with fail
          rw [HW.out]
          refine HSA.out.mono ?_
          rintro e w5 ⟨rfl, hb5⟩
          have hB5 := hB2.trans (hb5.mono hB2.size)
          clear HSA HW
          go_wp2_with fail
          go_roundw
          case rel => exact ⟨k + 1, by omega, by go_num, HE.out, hB5⟩
          case measure => simp [intOf]; omega
        | false =>
          rw [hd] at HSA
          have HE := Hid.mk' (HE2.out (of_decide_eq_false hd))
          clear hd HE1 HE2
          generalize l[k] = p at *
          generalize l2[k] = q at *
          go_wp2_with fail
          rw [HW.out]
          refine HSA.out.mono ?_
          rintro e w5 ⟨rfl, hb5⟩
          have hB5 := hB2.trans (hb5.mono hB2.size)
          clear HSA HW
          go_wp2_with fail
          go_ret
          exact ⟨ret_bool (by symm; rw [decide_eq_false_iff_not]; exact HE.out), hB5⟩
      · have e : k = l.length := by omega
        have hfin : l = l2 := by
          subst e
          rw [List.take_of_length_le (Nat.le_refl _), List.take_of_length_le (by omega)] at htk
          exact htk
        have HF := Hid.mk' hfin
        clear hfin htk
        go_wp2_with fail
        go_ret
        exact ⟨ret_bool (by symm; rw [decide_eq_true_iff]; exact HF.out), hB⟩
  · have hb : ((l.length : Int) == (l2.length : Int)) = false := by simp; omega
    go_enter Tryz.func42, Tryz.ntmps42
    go_wp2
    go_ret
    exact ⟨ret_bool (by symm; rw [decide_eq_false_iff_not]; intro h; exact hne (by rw [h])), Below.refl _ _⟩
end Go.Proofs.YteniflajiklffaaGreatDoor.recs

namespace Go.Proofs.YteniflajiklffaaGreatDoor.recs
open Go Go.RowKit Go.Proofs.YteniflajiklffaaGreatDoor.base Go.Proofs.YteniflajiklffaaGreatDoor.pairs Go.Proofs.YteniflajiklffaaGreatDoor.ords Go.Proofs.YteniflajiklffaaGreatDoor.helps Go.Proofs.YteniflajiklffaaGreatDoor.help Go.Proofs.YteniflajiklffaaGreatDoor.lay
set_option linter.unusedVariables false
set_option linter.unusedSimpArgs false

def MadePost (w : World) (id sure : Int) (la : Option Addr) (ln lc : Nat) (t : Option St) (e : Ending) (w' : World) : Prop :=
  ∃ (g np cp g2 c2 : Nat) (hs : List Value), e = .returned (.tuple #[aggSh id sure la ln lc (some ⟨g, 0, none⟩) np cp (some ⟨g2, 0, none⟩) (resH t).length c2, .bool t.isSome]) ∧
    OwnP w' w.heap.size g np cp (resM t) ∧ OwnR w' w.heap.size (.slice (some ⟨g2, 0, none⟩) (resH t).length c2) (resH t) hs ∧ ¬ BlkR (.slice (some ⟨g2, 0, none⟩) (resH t).length c2) hs g ∧ Below w.heap.size w w'
set_option maxRecDepth 100000 in
set_option maxHeartbeats 1000000 in
theorem i_shardOf (id sure : Int) (la : Option Addr) (ln lc : Nat) (log : List Rc) (w : World) (h : SlR w la ln log) (hpl : PlainR w la ln) (hf : Few log) (hl : ln ≤ 1099511627776 / 16) :
    Calls Tryz.prog 40 #[.int .i64 id, .slice la ln lc, .int .i64 sure] w fun e w' => MadePost w id sure la ln lc (replay log) e w' := by
  obtain ⟨W, hW⟩ : ∃ W, w.alloc (boxSh 0 0 none 0 0 none 0 0 none 0 0) = W := ⟨_, rfl⟩
  have hB : Below w.heap.size w W := by rw [← hW]; exact (Below.refl _ _).alloc (Nat.le_refl _) _
  have hbx : BoxIn w.heap.size 27 [] (shVals 0 0 none 0 0 none 0 0 none 0 0) [] W := by rw [← hW]; exact boxIn_new w _ _
  have hplW : PlainR W la ln := fun b off e i hi pa pl pc hc => by
    rcases Nat.eq_zero_or_pos ln with e0 | e0
    · omega
    · obtain ⟨b', off', e2, hcl⟩ := h.2.2.2 e0
      rw [e] at e2
      simp only [Option.some.injEq, Addr.mk.injEq, and_true] at e2
      obtain ⟨rfl, rfl⟩ := e2
      have hlt : b < w.heap.size := World.block_lt_of_cell? w _ (hcl i (by have := h.1; omega)).1
      exact hpl b off e i hi pa pl pc ((hB.cell (p := ⟨b, off + i * 3 + 2, none⟩) hlt).symm.trans hc)
  have HRP := Hid.mk' (impl_replay la ln lc log W (h.below hB) hplW hl hf)
  have HW := Hid.mk' hW
  have hXl := hbx.lt
  clear hW
  generalize replay log = t at *
  go_enter Tryz.func40, Tryz.ntmps40
  go_wp2_with fail
  rw [HW.out]
  refine HRP.out.mono ?_
  rintro e w2 ⟨g, np, cp, g2, c2, hs, rfl, hO, hOR, hnb, hb2⟩
  have hR := hbx.below hb2
  have hg := hO.lt
  have z0 := hR.cell 0 _ rfl
  have z1 := hR.cell 1 _ rfl
  have z2 := hR.cell 2 _ rfl
  have z3 := hR.cell 3 _ rfl
  have z4 := hR.cell 4 _ rfl
  simp only [List.length_nil, Nat.zero_add] at z0 z1 z2 z3 z4
  have f0 := hR.fz 0
  have f1 := hR.fz 1
  have f2 := hR.fz 2
  have f3 := hR.fz 3
  have f4 := hR.fz 4
  have hS5 := hR.set5 (.int .i64 id) (.slice la ln lc) (.int .i64 sure) (.slice (some ⟨g, 0, none⟩) np cp) (.slice (some ⟨g2, 0, none⟩) (resH t).length c2)
  simp only [List.length_nil, Nat.zero_add] at hS5
  have hB2 := hB.trans (hb2.mono hB.size)
  have hBz := hB2.grown hS5.2 hB2.size (fun j e => by cases e; exact Nat.le_refl _)
  have hOz := (hO.mono (base' := w.heap.size) hB.size).grown hS5.2 (fun e => by have := Option.some.inj e; omega)
  have hORz := (hOR.mono (base' := w.heap.size) hB.size).grown hS5.2 (fun e => by have := (hOR.lt _ e).1; omega)
  have hzc0 := hS5.1.cell 0 _ rfl
  have hzc1 := hS5.1.cell 1 _ rfl
  have hzc2 := hS5.1.cell 2 _ rfl
  have hzc3 := hS5.1.cell 3 _ rfl
  have hzc4 := hS5.1.cell 4 _ rfl
  simp only [List.length_nil, Nat.zero_add] at hzc0 hzc1 hzc2 hzc3 hzc4
  have HP : Hid (MadePost w id sure la ln lc t (.returned (.tuple #[aggSh id sure la ln lc (some ⟨g, 0, none⟩) np cp (some ⟨g2, 0, none⟩) (resH t).length c2, .bool t.isSome])) _) := ⟨g, np, cp, g2, c2, hs, rfl, hOz, hORz, hnb, hBz⟩
  clear hOz hORz hBz hS5 hO hOR HRP HW
  go_wp2_with fail
  refine bodyPost_ret (v := .tuple #[aggSh id sure la ln lc (some ⟨g, 0, none⟩) np cp (some ⟨g2, 0, none⟩) (resH t).length c2, .bool t.isSome]) ?_ rfl HP.out
  simp [results, Tryz.results40, go_sem, hzc0, hzc1, hzc2, hzc3, hzc4]
theorem plain_below {w w' : World} {a : Option Addr} {n : Nat} {l : List Rc} (h : SlR w a n l) (hp : PlainR w a n) (hB : Below w.heap.size w w') : PlainR w' a n := fun b off e i hi pa pl pc hc => by
  rcases Nat.eq_zero_or_pos n with e0 | e0
  · omega
  · obtain ⟨b', off', e2, hcl⟩ := h.2.2.2 e0
    rw [e] at e2
    simp only [Option.some.injEq, Addr.mk.injEq, and_true] at e2
    obtain ⟨rfl, rfl⟩ := e2
    have hlt : b < w.heap.size := World.block_lt_of_cell? w _ (hcl i (by have := h.1; omega)).1
    exact hp b off e i hi pa pl pc ((hB.cell (p := ⟨b, off + i * 3 + 2, none⟩) hlt).symm.trans hc)
theorem shardOk_few {s : Shd} (h : 300 < s.2.1.length + s.2.2.2.2.length) : shardOk s = false := by
  cases hk : shardOk s with
  | false => rfl
  | true => have := ((shardOk_iff s).1 hk).room; omega
theorem shardOk_all {s : Shd} (h1 : 0 ≤ s.1 ∧ s.1 ≤ 7) (h2 : s.2.1.length + s.2.2.2.2.length ≤ 300) (h3 : 0 ≤ s.2.2.1 ∧ s.2.2.1 ≤ (s.2.1.length : Int)) :
    shardOk s = ((replay s.2.1).isSome && decide (s.2.2.2.1 = resM (replay s.2.1)) && decide (s.2.2.2.2 = resH (replay s.2.1))) := by
  rw [shardOk_yes h1 (by omega) h3, Bool.eq_iff_iff]
  simp only [Bool.and_eq_true, decide_eq_true_iff]
  constructor
  · rintro ⟨⟨⟨a, b⟩, c⟩, d⟩
    exact ⟨⟨a, b.symm⟩, c.symm⟩
  · rintro ⟨⟨a, b⟩, c⟩
    exact ⟨⟨⟨a, b.symm⟩, c.symm⟩, by rw [← c]; exact h2⟩
set_option maxRecDepth 100000 in
set_option maxHeartbeats 2000000 in
theorem impl_shardOk (la : Option Addr) (ln lc : Nat) (ma : Option Addr) (mn mc : Nat) (ha : Option Addr) (hn hc : Nat) (s : Shd) (w : World) (h : SeeSh w la ln lc ma mn mc ha hn hc s) (hpl : PlainR w la ln) (hf : Few s.2.1) (hl1 : ln ≤ 1099511627776) (hl3 : hn ≤ 1099511627776) :
    Calls Tryz.prog 13 #[aggSh s.1 s.2.2.1 la ln lc ma mn mc ha hn hc] w fun e w' => e = .returned (.bool (shardOk s)) ∧ Below w.heap.size w w' := by
  have hll := h.log.1
  have hhl := h.held.1
  obtain ⟨W, hW⟩ : ∃ W, w.alloc (boxSh s.1 s.2.2.1 la ln lc ma mn mc ha hn hc) = W := ⟨_, rfl⟩
  have hB : Below w.heap.size w W := by rw [← hW]; exact (Below.refl _ _).alloc (Nat.le_refl _) _
  have hbx : BoxIn w.heap.size 27 [] (shVals s.1 s.2.2.1 la ln lc ma mn mc ha hn hc) [] W := by rw [← hW]; exact boxIn_new w _ _
  have HI1 := Hid.mk' (fun wx => i_idOk s.1 wx)
  have HW := Hid.mk' hW
  have c0 := hbx.cell 0 _ rfl
  have c1 := hbx.cell 1 _ rfl
  have c2 := hbx.cell 2 _ rfl
  have c4 := hbx.cell 4 _ rfl
  simp only [List.length_nil, Nat.zero_add] at c0 c1 c2 c4
  rw [← hW] at c0 c1 c2 c4
  have hXl := hbx.lt
  generalize hR : shardOk s = R
  by_cases h1 : 0 ≤ s.1 ∧ s.1 ≤ 7
  · rw [decide_eq_true h1] at HI1
    by_cases h2 : s.2.2.1 < 0
    · have HR2 : Hid (R = false) := by show _ = _; rw [← hR]; exact shardOk_no3 (by omega)
      clear hR hW h h1 hll hhl
      go_enter Tryz.func13, Tryz.ntmps13
      go_wp2_with fail
      refine (HI1.out _).mono ?_
      rintro e w1 ⟨rfl, rfl⟩
      go_wp2_with fail
      go_ret
      rw [HR2.out, HW.out]
      exact ⟨rfl, hB⟩
    · by_cases h3 : (ln : Int) < s.2.2.1
      · have HR2 : Hid (R = false) := by show _ = _; rw [← hR]; exact shardOk_no3 (by omega)
        clear hR hW h h1 hll hhl
        go_enter Tryz.func13, Tryz.ntmps13
        go_wp2_with fail
        refine (HI1.out _).mono ?_
        rintro e w1 ⟨rfl, rfl⟩
        go_wp2_with fail
        go_ret
        rw [HR2.out, HW.out]
        exact ⟨rfl, hB⟩
      · by_cases h4 : 300 < ln + hn
        · have HR2 : Hid (R = false) := by show _ = _; rw [← hR]; exact shardOk_few (by omega)
          have h4i : (300 : Int) < (ln : Int) + (hn : Int) := by omega
          clear hR hW h h1 hll hhl h4
          go_enter Tryz.func13, Tryz.ntmps13
          go_wp2_with fail
          refine (HI1.out _).mono ?_
          rintro e w1 ⟨rfl, rfl⟩
          go_wp2_with fail
          go_ret
          rw [HR2.out, HW.out]
          exact ⟨rfl, hB⟩
        · have h4i : ¬ (300 : Int) < (ln : Int) + (hn : Int) := by omega
          have HRR := Hid.mk' (shardOk_all (s := s) h1 (by omega) (by omega))
          have HMK := Hid.mk' (i_shardOf s.1 s.2.2.1 la ln lc s.2.1 W (h.log.below hB) (plain_below h.log hpl hB) hf (by omega))
          have hS := h
          generalize hT : replay s.2.1 = t at *
          have HR : Hid (R = (t.isSome && decide (s.2.2.2.1 = resM t) && decide (s.2.2.2.2 = resH t))) := by show _ = _; rw [← hR]; exact HRR.out
          clear hR HRR hW h h1 hll hhl h4 hT
          go_enter Tryz.func13, Tryz.ntmps13
          go_wp2_with fail
          refine (HI1.out _).mono ?_
          rintro e w1 ⟨rfl, rfl⟩
          go_wp2_with fail
          rw [HW.out]
          refine HMK.out.mono ?_
          rintro e w2 ⟨g, np, cp, g2, c2', hs, rfl, hO, hOR, _, hb2⟩
          obtain ⟨W3, hW3⟩ : ∃ W3, w2.alloc (boxSh s.1 s.2.2.1 la ln lc (some ⟨g, 0, none⟩) np cp (some ⟨g2, 0, none⟩) (resH t).length c2') = W3 := ⟨_, rfl⟩
          have hb3 : Below w2.heap.size w2 W3 := by rw [← hW3]; exact (Below.refl _ _).alloc (Nat.le_refl _) _
          have hbx3 := (hbx.below hb2).below hb3
          have hby3 : BoxIn w2.heap.size 27 [] (shVals s.1 s.2.2.1 la ln lc (some ⟨g, 0, none⟩) np cp (some ⟨g2, 0, none⟩) (resH t).length c2') [] W3 := by rw [← hW3]; exact boxIn_new w2 _ _
          have hB2 := hB.trans (hb2.mono hB.size)
          have hB3 := hB2.trans (hb3.mono hB2.size)
          have d3 := hbx3.cell 3 _ rfl
          have d4 := hbx3.cell 4 _ rfl
          have e3 := hby3.cell 3 _ rfl
          have e4 := hby3.cell 4 _ rfl
          simp only [List.length_nil, Nat.zero_add] at d3 d4 e3 e4
          rw [← hW3] at d3 d4 e3 e4
          have HW3 := Hid.mk' hW3
          have HSP := Hid.mk' (eq_pairs ma (some ⟨g, 0, none⟩) mn mc np cp s.2.2.2.1 (resM t) W3 (hS.map.below hB3) (hO.below hb3).sl)
          have HSR := Hid.mk' (fun wx (hx : Below W3.heap.size W3 wx) => eq_recs ha (some ⟨g2, 0, none⟩) hn hc _ c2' s.2.2.2.2 (resH t) wx ((hS.held.below hB3).below hx) ((hOR.below hb3).sl.below hx))
          clear HMK HI1 HW c0 c1 c2 c4 hO hOR hW3
          cases hts : t.isSome with
          | false =>
            have HR2 : Hid (R = false) := by show _ = _; rw [HR.out, hts]; rfl
            clear HR HSP HSR
            go_wp2_with fail
            go_ret
            rw [HR2.out, HW3.out]
            exact ⟨rfl, hB3⟩
          | true =>
            have hbd : ∀ n, Below W3.heap.size W3 (W3.drewN n) := fun n => below_drewN (Below.refl _ _) n
            by_cases q1 : s.2.2.2.1 = resM t
            · rw [decide_eq_true q1] at HSP
              have HR2 : Hid (R = decide (s.2.2.2.2 = resH t)) := by show _ = _; rw [HR.out, hts, decide_eq_true q1]; rfl
              clear HR q1
              go_wp2_with fail
              rw [HW3.out]
              refine HSP.out.mono ?_
              rintro e w4 ⟨rfl, n4, rfl⟩
              have k4 := (hbx3.below (hbd n4)).cell 4 _ rfl
              have m4 := (hby3.below (hbd n4)).cell 4 _ rfl
              simp only [List.length_nil, Nat.zero_add] at k4 m4
              go_wp2_with fail
              refine (HSR.out _ (hbd n4)).mono ?_
              rintro e w5 ⟨rfl, hb5⟩
              have hB5 := hB3.trans ((hbd n4).mono hB3.size) |>.trans (hb5.mono (Nat.le_trans hB3.size (hbd n4).size))
              clear HSP HSR d3 d4 e3 e4 k4 m4
              go_wp2_with fail
              go_ret
              rw [HR2.out]
              exact ⟨rfl, hB5⟩
            · rw [decide_eq_false q1] at HSP
              have HR2 : Hid (R = false) := by show _ = _; rw [HR.out, decide_eq_false q1]; simp
              clear HR q1
              go_wp2_with fail
              rw [HW3.out]
              refine HSP.out.mono ?_
              rintro e w4 ⟨rfl, n4, rfl⟩
              have hB5 := hB3.trans ((hbd n4).mono hB3.size)
              clear HSP HSR d3 d4 e3 e4
              go_wp2_with fail
              go_ret
              rw [HR2.out]
              exact ⟨rfl, hB5⟩
  · rw [decide_eq_false h1] at HI1
    have HR2 : Hid (R = false) := by show _ = _; rw [← hR]; exact shardOk_no1 h1
    clear hR hW h h1 hll hhl
    go_enter Tryz.func13, Tryz.ntmps13
    go_wp2_with fail
    refine (HI1.out _).mono ?_
    rintro e w1 ⟨rfl, rfl⟩
    go_wp2_with fail
    go_ret
    rw [HR2.out, HW.out]
    exact ⟨rfl, hB⟩
end Go.Proofs.YteniflajiklffaaGreatDoor.recs

namespace Go.Proofs.YteniflajiklffaaGreatDoor.recs
open Go Go.RowKit Go.Proofs.YteniflajiklffaaGreatDoor.base Go.Proofs.YteniflajiklffaaGreatDoor.pairs Go.Proofs.YteniflajiklffaaGreatDoor.ords Go.Proofs.YteniflajiklffaaGreatDoor.helps Go.Proofs.YteniflajiklffaaGreatDoor.help Go.Proofs.YteniflajiklffaaGreatDoor.lay
set_option linter.unusedVariables false
set_option linter.unusedSimpArgs false

theorem below_alloc {w : World} {o : Obj} : Below w.heap.size w (w.alloc o) := (Below.refl _ _).alloc (Nat.le_refl _) _
structure Bound (s : Shd) : Prop where
  few : Few s.2.1
  fewH : Few s.2.2.2.2
  log : s.2.1.length ≤ 1048576
  map : s.2.2.2.1.length ≤ 1048576
  held : s.2.2.2.2.length ≤ 1048576
  cnt : cntS s ≤ 3145728
theorem OwnSh.plain {w : World} {ln lc mn mc hn hc gl : Nat} {ma ha : Option Addr} {s : Shd} {F : List Nat} (h : OwnSh w (some ⟨gl, 0, none⟩) ln lc ma mn mc ha hn hc s F) : PlainR w (some ⟨gl, 0, none⟩) ln := by
  obtain ⟨hl, q1, _⟩ := h.log
  exact q1.plain
theorem OwnSh.plainV {w : World} {la ma ha : Option Addr} {ln lc mn mc hn hc : Nat} {s : Shd} {F : List Nat} (h : OwnSh w la ln lc ma mn mc ha hn hc s F) : PlainR w la ln ∧ PlainR w ha hn := by
  obtain ⟨hl, q1, hh, q3, _⟩ := h.log
  refine ⟨?_, ?_⟩
  · rcases q1.shape with ⟨e, _⟩ | ⟨g, c, e, _⟩
    · cases e; intro b off e; cases e
    · cases e; exact q1.plain
  · rcases q3.shape with ⟨e, _⟩ | ⟨g, c, e, _⟩
    · cases e; intro b off e; cases e
    · cases e; exact q3.plain
theorem SeeSh.few {w : World} {la ma ha : Option Addr} {ln lc mn mc hn hc : Nat} {s : Shd} (h : SeeSh w la ln lc ma mn mc ha hn hc s) (b : Bound s) : ln ≤ 1048576 ∧ mn ≤ 1048576 ∧ hn ≤ 1048576 := by
  obtain ⟨l1, l2, l3⟩ := SeeSh.lens h
  have h1 := b.log
  have h2 := b.map
  have h3 := b.held
  omega
abbrev InBox (w : World) (X : Nat) (la : Option Addr) (ln lc : Nat) (ma : Option Addr) (mn mc : Nat) (ha : Option Addr) (hn hc : Nat) (s : Shd) (F : List Nat) : Prop := InSh w X 27 [] [] la ln lc ma mn mc ha hn hc s F
section
variable {w w' : World} {X : Nat} {la ma ha : Option Addr} {ln lc mn mc hn hc : Nat} {s s' : Shd} {F G : List Nat}
theorem inBox_new (h : OwnSh w la ln lc ma mn mc ha hn hc s F) : InBox (w.alloc (boxSh s.1 s.2.2.1 la ln lc ma mn mc ha hn hc)) w.heap.size la ln lc ma mn mc ha hn hc s F :=
  ⟨boxIn_new w _ _, h.below below_alloc, fun e => by have := h.lt _ e; omega⟩
theorem InSh.cells (h : InBox w X la ln lc ma mn mc ha hn hc s F) : w.cell? ⟨X, 0, none⟩ = some (.int .i64 s.1) ∧ w.cell? ⟨X, 1, none⟩ = some (.slice la ln lc) ∧ w.cell? ⟨X, 2, none⟩ = some (.int .i64 s.2.2.1) ∧ w.cell? ⟨X, 3, none⟩ = some (.slice ma mn mc) ∧ w.cell? ⟨X, 4, none⟩ = some (.slice ha hn hc) := by
  have a0 := h.box.cell 0 _ rfl
  have a1 := h.box.cell 1 _ rfl
  have a2 := h.box.cell 2 _ rfl
  have a3 := h.box.cell 3 _ rfl
  have a4 := h.box.cell 4 _ rfl
  simp only [List.length_nil, Nat.zero_add] at a0 a1 a2 a3 a4
  exact ⟨a0, a1, a2, a3, a4⟩
end
end Go.Proofs.YteniflajiklffaaGreatDoor.recs

namespace Go.Proofs.YteniflajiklffaaGreatDoor.recs
open Go Go.RowKit Go.Proofs.YteniflajiklffaaGreatDoor.base Go.Proofs.YteniflajiklffaaGreatDoor.pairs Go.Proofs.YteniflajiklffaaGreatDoor.ords Go.Proofs.YteniflajiklffaaGreatDoor.helps Go.Proofs.YteniflajiklffaaGreatDoor.help Go.Proofs.YteniflajiklffaaGreatDoor.lay
set_option linter.unusedVariables false
set_option linter.unusedSimpArgs false

theorem ok_eight {r : Rc} (h : recOk r = true) : r.2.2.length ≤ 8 ∧ ∀ p ∈ r.2.2, p.2.1.size ≤ 1099511627776 := by
  rcases ((recOk_iff r).1 h).2 with ⟨_, h2⟩ | ⟨_, h2⟩
  · refine ⟨((opsOk_iff _).1 h2).2.2, fun p hp => ?_⟩
    have h3 := ((opsOk_iff _).1 h2).1.1 p hp
    have h5 := keyOk_size ((odOk_iff p).1 h3).2.2.1
    omega
  · rw [h2]; exact ⟨by simp, fun p hp => absurd hp List.not_mem_nil⟩
theorem cntR_26 {l : List Rc} (h : ∀ r ∈ l, r.2.2.length ≤ 8) : cntR l ≤ 26 * l.length := by
  induction l with
  | nil => simp [cntR]
  | cons r l ih =>
    have h1 := h r List.mem_cons_self
    have h2 := ih (fun x hx => h x (List.mem_cons_of_mem _ hx))
    unfold cntR at h2 ⊢
    simp only [List.map_cons, List.sum_cons, List.length_cons]
    omega
theorem few_ok {l : List Rc} (h : ∀ r ∈ l, recOk r = true) : Few l := fun r hr => ⟨by have := (ok_eight (h r hr)).1; omega, (ok_eight (h r hr)).2⟩
theorem right_bd {s : Shd} (h : Right s) : Bound s := by
  have h1 := h.room
  obtain ⟨seen, hm⟩ := h.made
  have h2 := ((pairsOk_iff _).1 (replay_ok hm).1).2
  have h3 := cntR_26 (fun r hr => (ok_eight (h.recOk r hr)).1)
  have h4 := cntR_26 (l := s.2.2.2.2) (fun r hr => (ok_eight (h.recOk r (h.held_tx r hr).1)).1)
  simp only [] at h2
  refine ⟨few_ok h.recOk, few_ok (fun r hr => h.recOk r (h.held_tx r hr).1), by omega, by omega, by omega, ?_⟩
  unfold cntS
  omega
end Go.Proofs.YteniflajiklffaaGreatDoor.recs

namespace Go.Proofs.YteniflajiklffaaGreatDoor.recs
open Go Go.RowKit Go.Proofs.YteniflajiklffaaGreatDoor.base Go.Proofs.YteniflajiklffaaGreatDoor.pairs Go.Proofs.YteniflajiklffaaGreatDoor.draw Go.Proofs.YteniflajiklffaaGreatDoor.ords
set_option linter.unusedVariables false
set_option linter.unusedSimpArgs false

def farT (t : Int) : Prop := t ≤ 4 ∨ 1000000 ≤ t
def GotRec4 (w0 w : World) (gc : Nat) (a : Option Addr) (len cap : Nat) (code : List UInt8) (e : Ending) (w' : World) : Prop :=
  ∃ (r : Rc) (v : Value), (recOk r = true ∧ r.2.1 ≤ 4) ∧ e = .returned (.agg #[.int .i64 r.1, .int .i64 r.2.1, v]) ∧ OwnV w' w.heap.size v r.2.2 ∧ Cur w0 w' gc a len cap code ∧ w.grownBy w' (some gc)
set_option maxRecDepth 100000 in
set_option maxHeartbeats 2000000 in
theorem d_rec4 (w0 w : World) (gc : Nat) (a : Option Addr) (len cap : Nat) (code : List UInt8) (h : Cur w0 w gc a len cap code) :
    Calls Tryz.prog 107 #[.pointer (some ⟨gc, 0, none⟩)] w fun e w' => GotRec4 w0 w gc a len cap code e w' := by
  have hcl := h.lt
  have hge := h.ge
  obtain ⟨wa, hwa⟩ : ∃ wa, w.alloc (.cells #[.int .i64 0, .int .i64 0, .slice none 0 0] 41) = wa := ⟨_, rfl⟩
  have hba : Below w.heap.size w wa := by rw [← hwa]; exact (Below.refl _ _).alloc (Nat.le_refl _) _
  have hsa : wa.heap.size = w.heap.size + 1 := by rw [← hwa]; simp
  have hRa : V3 wa w.heap.size 41 (.int .i64 0) (.int .i64 0) (.slice none 0 0) := by rw [← hwa]; exact heap_alloc_new w _
  have HWA := Hid.mk' hwa
  clear hwa
  go_enter Tryz.func107, Tryz.ntmps107
  go_wp2_with fail
  rw [HWA.out]
  clear HWA
  have hbb : Below wa.heap.size wa (wa.alloc (.cells #[.int .i64 1, .int .i64 1, .int .i64 2, .int .i64 3] 3)) := (Below.refl _ _).alloc (Nat.le_refl _) _
  have hL := heap_alloc_new wa (.cells #[.int .i64 1, .int .i64 1, .int .i64 2, .int .i64 3] 3)
  rw [hsa] at hL
  refine (int_ w0 _ gc a len cap code (w.heap.size + 1) 4 4 _ _ ((h.below hba).below hbb) hL rfl (by omega) (by omega) (by omega) (fun z => decide (1 ≤ z ∧ z ≤ 3) = true) (some_atI _ 4 (fun z => decide (1 ≤ z ∧ z ≤ 3)) (by kernel_rfl))).mono ?_
  rintro e w1 ⟨z, hz, rfl, hc1, hg1⟩
  go_wp2_with fail
  refine (below_ w0 _ gc a len cap code _ hc1 (by omega) (by omega)).mono ?_
  rintro e w2 ⟨x, hx, rfl, hc2, hg2⟩
  have hR1 := hRa.below hbb
  have hR2 := v3_grown hR1 hg1 (by simp; omega)
  have hR3 := v3_grown hR2 hg2 (by simp; omega)
  have hG2 : w.grownBy w2 (some gc) := grownBy_trans (grown_below (grown_below (World.grownBy.refl _ _) hba) hbb) (grownBy_trans hg1 hg2)
  have hcl2 := hc2.lt
  have hs2 : w.heap.size < w2.heap.size := hR3.lt
  clear hR1 hR2 hRa hL hc1 hg1 hg2 hba
  obtain ⟨w3, hw3⟩ : ∃ w3, w2.alloc (.cells #[.int .i64 z, .int .i64 (1 + (x : Int)), .slice none 0 0] 41) = w3 := ⟨_, rfl⟩
  have hb3 : Below w2.heap.size w2 w3 := by rw [← hw3]; exact (Below.refl _ _).alloc (Nat.le_refl _) _
  have hV3 : V3 w3 w2.heap.size 41 (.int .i64 z) (.int .i64 (1 + (x : Int))) (.slice none 0 0) := by rw [← hw3]; exact heap_alloc_new w2 _
  have hs3 : w3.heap.size = w2.heap.size + 1 := by rw [← hw3]; simp
  have hR4 := hR3.below hb3
  have hc3 := hc2.below hb3
  have hG3 := grown_below hG2 hb3
  have hz' := of_decide_eq_true hz
  have HW3 := Hid.mk' hw3
  clear hw3 hb3 hz
  by_cases hz1 : z = 1
  · subst hz1
    have HOP := Hid.mk' (d_ops w0 w3 gc a len cap code hc3)
    rw [← HW3.out] at HOP
    clear hR3 hc2 hG2 hc3
    go_wp2_with fail
    refine HOP.out.mono ?_
    rw [HW3.out]
    rintro e w5 ⟨g, n, cp, l, hn, hok, rfl, hO5, hc5, hg5⟩
    have hV5 := v3_grown hV3 hg5 (by simp; omega)
    have hR5 := v3_grown hR4 hg5 (by simp; omega)
    have hG5 := grownBy_trans hG3 hg5
    have hgl := hO5.lt
    have HOK : Hid (recOk ((1 : Int), 1 + (x : Int), l) = true) := (recOk_iff _).2 ⟨⟨by show (1 : Int) ≤ 1 + (x : Int); omega, by show 1 + (x : Int) ≤ 1000000; omega⟩, .inl ⟨rfl, hok⟩⟩
    clear HOP HW3 hV3 hR4 hG3 hg5 hok
    have t0 := hV5.c0
    have t1 := hV5.c1
    have t2 := hV5.c2
    have t3 := v3_fz hV5 2
    have hset := (v3_set hV5).2.2 (.slice (some ⟨g, 0, none⟩) n cp)
    have hR6 := v3_grown hR5 hset.2 (by simp; omega)
    have hc6 := hc5.grown hset.2 (by simp; omega) (fun k e => by cases e; omega)
    have hG6 := grown_own hG5 hset.2 (by omega)
    have hO6 := hO5.grown hset.2 (by simp; omega)
    have r0 := hR5.c0
    have r1 := hR5.c1
    have r2 := hR5.c2
    have q0 := v3_fz hR5 0
    have q1 := v3_fz hR5 1
    have q2 := v3_fz hR5 2
    have hfin := (v3_all hR6 (.int .i64 1) (.int .i64 (1 + (x : Int))) (.slice (some ⟨g, 0, none⟩) n cp)).2
    have HCz := Hid.mk' (hc6.grown hfin (by simp; omega) (fun k e => by cases e; omega))
    have HGz := Hid.mk' (grown_own hG6 hfin (Nat.le_refl _))
    have HOz := Hid.mk' (ownV_of ((hO6.grown hfin (by simp; omega)).mono (base' := w.heap.size) (by omega)))
    have hnn : w.heap.size ≠ w2.heap.size := by omega
    clear hfin hc6 hG6 hR6 hset hV5 hR5 hc5 hG5 hO5 hO6
    go_wp2_with fail
    refine bodyPost_ret (v := .agg #[.int .i64 1, .int .i64 (1 + (x : Int)), .slice (some ⟨g, 0, none⟩) n cp]) ?_ rfl ⟨((1 : Int), 1 + (x : Int), l), _, ⟨HOK.out, by show 1 + (x : Int) ≤ 4; omega⟩, rfl, HOz.out, HCz.out, HGz.out⟩
    simp [results, Tryz.results107, go_sem, r0, r1, r2]
  · have hzb : (z == 1) = false := beq_eq_false_iff_ne.2 hz1
    have HOK : Hid (recOk (z, 1 + (x : Int), []) = true) := (recOk_iff _).2 ⟨⟨by show (1 : Int) ≤ 1 + (x : Int); omega, by show 1 + (x : Int) ≤ 1000000; omega⟩, .inr ⟨by show z = 2 ∨ z = 3; omega, rfl⟩⟩
    have r0 := hR3.c0
    have r1 := hR3.c1
    have r2 := hR3.c2
    have q0 := v3_fz hR3 0
    have q1 := v3_fz hR3 1
    have q2 := v3_fz hR3 2
    have hfin := (v3_all hR3 (.int .i64 z) (.int .i64 (1 + (x : Int))) (.slice none 0 0)).2
    have hcz := hc2.grown hfin (by simp; omega) (fun k e => by cases e; omega)
    have hgz := grown_own hG2 hfin (Nat.le_refl _)
    have hbz : ∀ W : World, Below W.heap.size W (W.alloc (.cells #[.int .i64 z, .int .i64 (1 + (x : Int)), .slice none 0 0] 41)) := fun W => (Below.refl _ _).alloc (Nat.le_refl _) _
    have HVz := Hid.mk' ((v3_all hR3 (.int .i64 z) (.int .i64 (1 + (x : Int))) (.slice none 0 0)).1.below (hbz _))
    have HCz := Hid.mk' (hcz.below (hbz _))
    have HGz := Hid.mk' (grown_below hgz (hbz _))
    clear hfin hcz hgz hbz hc2 hG2 hR3 hc3 hG3 hV3 hR4 HW3 hs3
    go_wp2_with fail
    refine bodyPost_ret (v := .agg #[.int .i64 z, .int .i64 (1 + (x : Int)), .slice none 0 0]) ?_ rfl ⟨(z, 1 + (x : Int), []), _, ⟨HOK.out, by show 1 + (x : Int) ≤ 4; omega⟩, rfl, ownV_nil _ _, HCz.out, HGz.out⟩
    simp [results, Tryz.results107, go_sem, HVz.out.c0, HVz.out.c1, HVz.out.c2]
def GotAnyT (w0 w : World) (gc : Nat) (a : Option Addr) (len cap : Nat) (code : List UInt8) (e : Ending) (w' : World) : Prop :=
  ∃ (r : Rc) (v : Value), (tinyR r ∧ farT r.2.1) ∧ e = .returned (.agg #[.int .i64 r.1, .int .i64 r.2.1, v]) ∧ OwnV w' w.heap.size v r.2.2 ∧ Cur w0 w' gc a len cap code ∧ w.grownBy w' (some gc)
set_option maxRecDepth 100000 in
set_option maxHeartbeats 2000000 in
theorem d_anyT (w0 w : World) (gc : Nat) (a : Option Addr) (len cap : Nat) (code : List UInt8) (h : Cur w0 w gc a len cap code) :
    Calls Tryz.prog 67 #[.pointer (some ⟨gc, 0, none⟩)] w fun e w' => GotAnyT w0 w gc a len cap code e w' := by
  have hcl := h.lt
  have hge := h.ge
  obtain ⟨wa, hwa⟩ : ∃ wa, w.alloc (.cells #[.int .i64 0, .int .i64 0, .slice none 0 0] 41) = wa := ⟨_, rfl⟩
  have hba : Below w.heap.size w wa := by rw [← hwa]; exact (Below.refl _ _).alloc (Nat.le_refl _) _
  have hsa : wa.heap.size = w.heap.size + 1 := by rw [← hwa]; simp
  have hRa : V3 wa w.heap.size 41 (.int .i64 0) (.int .i64 0) (.slice none 0 0) := by rw [← hwa]; exact heap_alloc_new w _
  have HWA := Hid.mk' hwa
  clear hwa
  go_enter Tryz.func67, Tryz.ntmps67
  go_wp2_with fail
  rw [HWA.out]
  clear HWA
  refine (d_rec4 w0 _ gc a len cap code (h.below hba)).mono ?_
  rintro e w1 ⟨⟨k, t, l⟩, v, ⟨hok, ht4⟩, rfl, hv1, hc1, hg1⟩
  have ht0 := tinyR_ok hok
  have ht4 : farT t := .inl ht4
  have hka : 0 ≤ k ∧ k ≤ 5 := ht0.1
  have hta : 0 ≤ t ∧ t ≤ 1000001 := ht0.2.1
  have hla : l.length ≤ 8 := ht0.2.2.1
  have HTO : Hid (∀ p ∈ l, tinyO p) := ht0.2.2.2
  have hv1 : OwnV w1 wa.heap.size v l := hv1
  obtain ⟨pa, pc, hv, _, _⟩ := hv1.sl
  obtain ⟨n, hn⟩ : ∃ n, l.length = n := ⟨_, rfl⟩
  rw [hn] at hv
  subst hv
  have hne : ∀ g, (Value.slice pa n pc).ownBlock = some g → w.heap.size < g ∧ g < w1.heap.size := fun g e => by have := hv1.lt g e; omega
  have hR1 := v3_grown hRa hg1 (by simp; omega)
  have hG1 : w.grownBy w1 (some gc) := grownBy_trans (grown_below (World.grownBy.refl _ _) hba) hg1
  have hs1 : w.heap.size < w1.heap.size := hR1.lt
  obtain ⟨wb, hwb⟩ : ∃ wb, w1.alloc (.cells #[.int .i64 k, .int .i64 t, .slice pa n pc] 41) = wb := ⟨_, rfl⟩
  have hbb : Below w1.heap.size w1 wb := by rw [← hwb]; exact (Below.refl _ _).alloc (Nat.le_refl _) _
  have hVb : V3 wb w1.heap.size 41 (.int .i64 k) (.int .i64 t) (.slice pa n pc) := by rw [← hwb]; exact heap_alloc_new w1 _
  have hcb := hc1.below hbb
  have HBL := Hid.mk' (below_ w0 wb gc a len cap code 8 hcb (by omega) (by omega))
  rw [← hwb] at HBL
  have HWB := Hid.mk' hwb
  have hRb := hR1.below hbb
  have hOb := hv1.below hbb
  have hGb := grown_below hG1 hbb
  clear hwb hR1 hG1 hv1 hc1 hg1 hba hRa hok ht0 hcb
  go_wp2_with fail
  refine HBL.out.mono ?_
  rw [HWB.out]
  rintro e w2 ⟨x, hx, rfl, hc2, hg2⟩
  have hV2 := v3_grown hVb hg2 (by simp; omega)
  have hR2 := v3_grown hRb hg2 (by simp; omega)
  have hO2 := hOb.grown hg2 (.inr fun e => by have := hne _ e; omega)
  have hG2 := grownBy_trans hGb hg2
  have hs2 : w1.heap.size < w2.heap.size := hV2.lt
  clear HBL HWB hVb hRb hOb hGb hg2 hbb
  by_cases x0 : x = 0
  · subst x0
    go_wp2_with fail
    refine (below_ w0 _ gc a len cap code _ hc2 (by omega) (by omega)).mono ?_
    rintro e w3 ⟨y, hy, rfl, hc3, hg3⟩
    have hV3 := v3_grown hV2 hg3 (by simp; omega)
    have hR3 := v3_grown hR2 hg3 (by simp; omega)
    have hO3 := hO2.grown hg3 (.inr fun e => by have := hne _ e; omega)
    have hG3 := grownBy_trans hG2 hg3
    have HT : Hid (tinyR ((y : Int), t, l)) := ⟨⟨by show (0 : Int) ≤ (y : Int); omega, by show (y : Int) ≤ 5; omega⟩, hta, hla, HTO.out⟩
    clear hV2 hR2 hO2 hG2 hc2 hg3
    have t0 := hV3.c0
    have t1 := hV3.c1
    have t2 := hV3.c2
    have t3 := v3_fz hV3 0
    have hset := (v3_set hV3).1 (.int .i64 (y : Int))
    have hR6 := v3_grown hR3 hset.2 (by simp; omega)
    have hc6 := hc3.grown hset.2 (by simp; omega) (fun k e => by cases e; omega)
    have hG6 := grown_own hG3 hset.2 (by omega)
    have hO6 := hO3.grown hset.2 (.inr fun e => by have := hne _ e; omega)
    have r0 := hR3.c0
    have q0 := v3_fz hR3 0
    have r1 := hR3.c1
    have q1 := v3_fz hR3 1
    have r2 := hR3.c2
    have q2 := v3_fz hR3 2
    have hfin := (v3_all hR6 (.int .i64 (y : Int)) (.int .i64 t) (.slice pa n pc)).2
    have HCz := Hid.mk' (hc6.grown hfin (by simp; omega) (fun k e => by cases e; omega))
    have HGz := Hid.mk' (grown_own hG6 hfin (Nat.le_refl _))
    have HOz := Hid.mk' ((hO6.grown hfin (.inr fun e => by have := hne _ e; omega)).mono (base' := w.heap.size) (by omega))
    have hnn : w.heap.size ≠ w1.heap.size := by omega
    clear hfin hc6 hG6 hR6 hO6 hV3 hR3 hc3 hG3 hO3 hne  hset
    go_wp2_with fail
    refine bodyPost_ret (v := .agg #[.int .i64 (y : Int), .int .i64 t, .slice pa n pc]) ?_ rfl ⟨((y : Int), t, l), _, ⟨HT.out, ht4⟩, rfl, HOz.out, HCz.out, HGz.out⟩
    simp [results, Tryz.results67, go_sem, r0, r1, r2]
  by_cases x1 : x = 1
  · subst x1
    obtain ⟨w4, hw4⟩ : ∃ w4, w2.alloc (.cells #[.int .i64 0, .int .i64 1000000, .int .i64 1000001] 3) = w4 := ⟨_, rfl⟩
    have hb4 : Below w2.heap.size w2 w4 := by rw [← hw4]; exact (Below.refl _ _).alloc (Nat.le_refl _) _
    have hL4 : w4.heap[w2.heap.size]? = some (.cells #[.int .i64 0, .int .i64 1000000, .int .i64 1000001] 3) := by rw [← hw4]; exact heap_alloc_new w2 _
    have HIN := Hid.mk' (int_ w0 w4 gc a len cap code w2.heap.size 3 3 _ _ (hc2.below hb4) hL4 rfl (by omega) (by omega) (by omega) (fun z => decide ((0 ≤ z ∧ z ≤ 1000001) ∧ (z ≤ 4 ∨ 1000000 ≤ z)) = true) (some_atI _ 3 (fun z => decide ((0 ≤ z ∧ z ≤ 1000001) ∧ (z ≤ 4 ∨ 1000000 ≤ z))) (by kernel_rfl)))
    rw [← hw4] at HIN
    have HW4 := Hid.mk' hw4
    clear hw4 hL4
    go_wp2_with fail
    refine HIN.out.mono ?_
    rw [HW4.out]
    rintro e w3 ⟨z, hz, rfl, hc3, hg3⟩
    have hz' := of_decide_eq_true hz
    have hV3 := v3_grown (hV2.below hb4) hg3 (by simp; omega)
    have hR3 := v3_grown (hR2.below hb4) hg3 (by simp; omega)
    have hO3 := (hO2.below hb4).grown hg3 (.inr fun e => by have := hne _ e; omega)
    have hG3 := grownBy_trans (grown_below hG2 hb4) hg3
    have HT : Hid (tinyR (k, z, l)) := ⟨hka, hz'.1, hla, HTO.out⟩
    clear hV2 hR2 hO2 hG2 hc2 hg3 HIN HW4 hb4 hz
    have t0 := hV3.c0
    have t1 := hV3.c1
    have t2 := hV3.c2
    have t3 := v3_fz hV3 1
    have hset := (v3_set hV3).2.1 (.int .i64 z)
    have hR6 := v3_grown hR3 hset.2 (by simp; omega)
    have hc6 := hc3.grown hset.2 (by simp; omega) (fun k e => by cases e; omega)
    have hG6 := grown_own hG3 hset.2 (by omega)
    have hO6 := hO3.grown hset.2 (.inr fun e => by have := hne _ e; omega)
    have r0 := hR3.c0
    have q0 := v3_fz hR3 0
    have r1 := hR3.c1
    have q1 := v3_fz hR3 1
    have r2 := hR3.c2
    have q2 := v3_fz hR3 2
    have hfin := (v3_all hR6 (.int .i64 k) (.int .i64 z) (.slice pa n pc)).2
    have HCz := Hid.mk' (hc6.grown hfin (by simp; omega) (fun k e => by cases e; omega))
    have HGz := Hid.mk' (grown_own hG6 hfin (Nat.le_refl _))
    have HOz := Hid.mk' ((hO6.grown hfin (.inr fun e => by have := hne _ e; omega)).mono (base' := w.heap.size) (by omega))
    have hnn : w.heap.size ≠ w1.heap.size := by omega
    clear hfin hc6 hG6 hR6 hO6 hV3 hR3 hc3 hG3 hO3 hne  hset
    go_wp2_with fail
    refine bodyPost_ret (v := .agg #[.int .i64 k, .int .i64 z, .slice pa n pc]) ?_ rfl ⟨(k, z, l), _, ⟨HT.out, hz'.2⟩, rfl, HOz.out, HCz.out, HGz.out⟩
    simp [results, Tryz.results67, go_sem, r0, r1, r2]
  by_cases x2 : x = 2
  · subst x2
    go_wp2_with fail
    refine (d_anyO w0 _ gc a len cap code hc2).mono ?_
    rintro e w3 ⟨g, m, cp, l3, hm, htt, rfl, hOo, hc3, hg3⟩
    have hV3 := v3_grown hV2 hg3 (by simp; omega)
    have hR3 := v3_grown hR2 hg3 (by simp; omega)
    have hG3 := grownBy_trans hG2 hg3
    have hgl := hOo.lt
    have HT : Hid (tinyR (k, t, l3)) := ⟨hka, hta, by show l3.length ≤ 8; have := hOo.1; omega, htt⟩
    have hO3 := ownV_of hOo
    have hne : ∀ g', (Value.slice (some ⟨g, 0, none⟩) m cp).ownBlock = some g' → w1.heap.size < g' := fun g' e => by cases e; show w1.heap.size < g; omega
    clear hV2 hR2 hO2 hG2 hc2 hg3 htt hOo
    have t0 := hV3.c0
    have t1 := hV3.c1
    have t2 := hV3.c2
    have t3 := v3_fz hV3 2
    have hset := (v3_set hV3).2.2 (.slice (some ⟨g, 0, none⟩) m cp)
    have hR6 := v3_grown hR3 hset.2 (by simp; omega)
    have hc6 := hc3.grown hset.2 (by simp; omega) (fun k e => by cases e; omega)
    have hG6 := grown_own hG3 hset.2 (by omega)
    have hO6 := hO3.grown hset.2 (.inr fun e => by have := hne _ e; omega)
    have r0 := hR3.c0
    have q0 := v3_fz hR3 0
    have r1 := hR3.c1
    have q1 := v3_fz hR3 1
    have r2 := hR3.c2
    have q2 := v3_fz hR3 2
    have hfin := (v3_all hR6 (.int .i64 k) (.int .i64 t) (.slice (some ⟨g, 0, none⟩) m cp)).2
    have HCz := Hid.mk' (hc6.grown hfin (by simp; omega) (fun k e => by cases e; omega))
    have HGz := Hid.mk' (grown_own hG6 hfin (Nat.le_refl _))
    have HOz := Hid.mk' ((hO6.grown hfin (.inr fun e => by have := hne _ e; omega)).mono (base' := w.heap.size) (by omega))
    have hnn : w.heap.size ≠ w1.heap.size := by omega
    clear hfin hc6 hG6 hR6 hO6 hV3 hR3 hc3 hG3 hO3 hne  hset
    go_wp2_with fail
    refine bodyPost_ret (v := .agg #[.int .i64 k, .int .i64 t, .slice (some ⟨g, 0, none⟩) m cp]) ?_ rfl ⟨(k, t, l3), _, ⟨HT.out, ht4⟩, rfl, HOz.out, HCz.out, HGz.out⟩
    simp [results, Tryz.results67, go_sem, r0, r1, r2]
  · have y0 : ¬ (x : Int) = 0 := by omega
    have y1 : ¬ (x : Int) = 1 := by omega
    have y2 : ¬ (x : Int) = 2 := by omega
    have z0 : ((x : Int) == 0) = false := beq_eq_false_iff_ne.2 y0
    have z1 : ((x : Int) == 1) = false := beq_eq_false_iff_ne.2 y1
    have z2 : ((x : Int) == 2) = false := beq_eq_false_iff_ne.2 y2
    have HT : Hid (tinyR (k, t, l)) := ⟨hka, hta, hla, HTO.out⟩
    have t0 := hV2.c0
    have t1 := hV2.c1
    have t2 := hV2.c2
    have hR6 := hR2
    have hc6 := hc2
    have hG6 := hG2
    have hO6 := hO2
    have r0 := hR2.c0
    have q0 := v3_fz hR2 0
    have r1 := hR2.c1
    have q1 := v3_fz hR2 1
    have r2 := hR2.c2
    have q2 := v3_fz hR2 2
    have hfin := (v3_all hR6 (.int .i64 k) (.int .i64 t) (.slice pa n pc)).2
    have HCz := Hid.mk' (hc6.grown hfin (by simp; omega) (fun k e => by cases e; omega))
    have HGz := Hid.mk' (grown_own hG6 hfin (Nat.le_refl _))
    have HOz := Hid.mk' ((hO6.grown hfin (.inr fun e => by have := hne _ e; omega)).mono (base' := w.heap.size) (by omega))
    have hnn : w.heap.size ≠ w1.heap.size := by omega
    clear hfin hc6 hG6 hR6 hO6 hV2 hR2 hc2 hG2 hO2 hne 
    go_wp2_with fail
    refine bodyPost_ret (v := .agg #[.int .i64 k, .int .i64 t, .slice pa n pc]) ?_ rfl ⟨(k, t, l), _, ⟨HT.out, ht4⟩, rfl, HOz.out, HCz.out, HGz.out⟩
    simp [results, Tryz.results67, go_sem, r0, r1, r2]
end Go.Proofs.YteniflajiklffaaGreatDoor.recs
