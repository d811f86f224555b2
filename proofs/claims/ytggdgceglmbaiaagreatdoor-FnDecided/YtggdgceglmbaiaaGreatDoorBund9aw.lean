/- The laws' own functions on shards: copies and marks. The specification's shard: how it is with a transaction, and how many keys there are. The program's shard: what is alike, and whether it is right. -/
import Derived.Test.YtggdgceglmbaiaaGreatDoorBund9av
import Derived.Test.YtggdgceglmbaiaaGreatDoorBund9au
import Derived.Test.YtggdgceglmbaiaaGreatDoorBund9al
namespace Go.Proofs.YtggdgceglmbaiaaGreatDoor.recs
open Go Go.RowKit Go.Proofs.YtggdgceglmbaiaaGreatDoor.base Go.Proofs.YtggdgceglmbaiaaGreatDoor.pairs Go.Proofs.YtggdgceglmbaiaaGreatDoor.ords Go.Proofs.YtggdgceglmbaiaaGreatDoor.helps Go.Proofs.YtggdgceglmbaiaaGreatDoor.help Go.Proofs.YtggdgceglmbaiaaGreatDoor.lay
set_option linter.unusedVariables false
set_option linter.unusedSimpArgs false

theorem blkS_split {w : World} {la ma ha : Option Addr} {ln lc mn mc hn hc : Nat} {s : Shd} {F : List Nat} (h : OwnSh w la ln lc ma mn mc ha hn hc s F) : ∃ hl hh, OwnR w 0 (.slice la ln lc) s.2.1 hl ∧ OwnR w 0 (.slice ha hn hc) s.2.2.2.2 hh ∧ F = blkR (.slice la ln lc) hl ++ ((Value.slice ma mn mc).ownBlock.toList ++ blkR (.slice ha hn hc) hh) ∧
    (∀ k, BlkR (.slice la ln lc) hl k → (Value.slice ma mn mc).ownBlock ≠ some k ∧ ¬ BlkR (.slice ha hn hc) hh k) ∧ (∀ k, (Value.slice ma mn mc).ownBlock = some k → ¬ BlkR (.slice ha hn hc) hh k) := by
  obtain ⟨hl, q1, hh, q3, rfl⟩ := h.log
  obtain ⟨n1, n2, n3⟩ := nodup_parts h.nodup
  obtain ⟨m1, m2, m3⟩ := nodup_parts n2
  refine ⟨hl, hh, q1, q3, rfl, fun k hk => ⟨fun e => ?_, fun e => ?_⟩, fun k hk e => ?_⟩
  · exact n3 k (mem_blkR.2 hk) (List.mem_append.2 (.inl (by simp [e])))
  · exact n3 k (mem_blkR.2 hk) (List.mem_append.2 (.inr (mem_blkR.2 e)))
  · exact m3 k (by simp [hk]) (mem_blkR.2 e)
theorem frame_keepR {v : Value} {hs : List Value} {w w' : World} {G : List Nat} (h : KeepR v hs w w') (hG : ∀ k, BlkR v hs k → k ∈ G) : lay.Frame G w w' :=
  ⟨h.os, h.tape, h.output, h.size, fun j hj hn => h.block j hj (fun e => hn (hG j e))⟩
end Go.Proofs.YtggdgceglmbaiaaGreatDoor.recs

namespace Go.Proofs.YtggdgceglmbaiaaGreatDoor.recs
open Go Go.RowKit Go.Proofs.YtggdgceglmbaiaaGreatDoor.base Go.Proofs.YtggdgceglmbaiaaGreatDoor.pairs Go.Proofs.YtggdgceglmbaiaaGreatDoor.ords Go.Proofs.YtggdgceglmbaiaaGreatDoor.helps Go.Proofs.YtggdgceglmbaiaaGreatDoor.help Go.Proofs.YtggdgceglmbaiaaGreatDoor.lay
set_option linter.unusedVariables false
set_option linter.unusedSimpArgs false

theorem lastOut_take (tx : Int) (l : List Rc) (k : Nat) (h : k < l.length) : lastOut tx (l.take (k + 1)) = if l[k].2.1 = tx ∧ l[k].1 = 3 then 4 else if l[k].2.1 = tx ∧ l[k].1 = 2 then 3 else lastOut tx (l.take k) := by
  rw [List.take_succ_eq_append_getElem h, lastOut_snoc]
theorem sumOps_take (l : List Rc) (k : Nat) (h : k < l.length) : sumOps (l.take (k + 1)) = sumOps (l.take k) + l[k].2.2.length := by
  rw [List.take_succ_eq_append_getElem h]; unfold sumOps; rw [List.map_append, List.sum_append]; simp
theorem sumOps_le (l : List Rc) (k : Nat) : sumOps (l.take k) ≤ sumOps l := by
  conv => rhs; rw [← List.take_append_drop k l]
  unfold sumOps; rw [List.map_append, List.sum_append]; omega
set_option maxRecDepth 100000 in
set_option maxHeartbeats 2000000 in
theorem spec_l9Outcome (la : Option Addr) (ln lc : Nat) (ma : Option Addr) (mn mc : Nat) (ha : Option Addr) (hn hc : Nat) (s : Shd) (tx : Int) (w : World) (h : SeeSh w la ln lc ma mn mc ha hn hc s) :
    Calls Tryz.prog 49 #[aggSh s.1 s.2.2.1 la ln lc ma mn mc ha hn hc, .int .i64 tx] w fun e w' => e = .returned (.int .i64 (outc s tx)) ∧ Below w.heap.size w w' := by
  obtain ⟨hl, hm, hsm, hc'⟩ := id h.log
  unfold maxLen at hm
  obtain ⟨W, hW⟩ : ∃ W, w.alloc (boxSh s.1 s.2.2.1 la ln lc ma mn mc ha hn hc) = W := ⟨_, rfl⟩
  have hB : Below w.heap.size w W := by rw [← hW]; exact (Below.refl _ _).alloc (Nat.le_refl _) _
  have hbx : BoxIn w.heap.size 27 [] (shVals s.1 s.2.2.1 la ln lc ma mn mc ha hn hc) [] W := by rw [← hW]; exact boxIn_new w _ _
  have HAT := Hid.mk' (spec_l8At ha hn hc s.2.2.2.2 tx W (h.held.below hB))
  have c1 := hbx.cell 1 _ rfl
  have c4 := hbx.cell 4 _ rfl
  simp only [List.length_nil, Nat.zero_add] at c1 c4
  have hlog := h.log.below hB
  have HW := Hid.mk' hW
  rw [← hW] at c1 c4
  have HL := Hid.mk' hl
  clear hW hl
  cases hp : placeTx tx s.2.2.2.2 with
  | some k =>
    have HO : Hid (outc s tx = 1) := by show _ = _; unfold outc; rw [hp]; rfl
    rw [hp, show atRet (some k) = (k : Int) from rfl] at HAT
    have hk0 : (0 : Int) ≤ (k : Int) := by omega
    clear hp
    go_enter Tryz.func49, Tryz.ntmps49
    go_wp2_with fail
    rw [HW.out]
    refine HAT.out.mono ?_
    rintro e w1 ⟨rfl, rfl⟩
    clear c1 c4 HAT HW
    go_wp2_with fail
    go_ret
    rw [HO.out]
    exact ⟨rfl, hB⟩
  | none =>
    have HO : Hid (outc s tx = lastOut tx s.2.1) := by show _ = _; unfold outc; rw [hp]; rfl
    rw [hp, show atRet none = (-1 : Int) from rfl] at HAT
    clear hp
    go_enter Tryz.func49, Tryz.ntmps49
    go_wp2_with fail
    rw [HW.out]
    refine HAT.out.mono ?_
    rintro e w1 ⟨rfl, rfl⟩
    have d1 := hbx.cell 1 _ rfl
    simp only [List.length_nil, Nat.zero_add] at d1
    clear c1 c4 HAT HW
    go_wp2_with fail
    go_loopw [5, 6] (fun o i wr => ∃ k : Nat, k ≤ ln ∧ i = .int .i64 (k : Int) ∧ o = .int .i64 (lastOut tx (s.2.1.take k)) ∧ wr = w1) (fun _ i _ => ln - (intOf i).toNat)
    case atStart => exact ⟨0, Nat.zero_le _, rfl, rfl, rfl⟩
    case round =>
      obtain ⟨k, hk, rfl, rfl, rfl⟩ := hrel
      by_cases hlt : k < ln
      · have hltl : k < s.2.1.length := by have := HL.out; omega
        obtain ⟨b, off, e, _⟩ := hc' (by omega)
        subst e
        obtain ⟨e0, e1, pa, pl, pc, e2, _, _⟩ := hlog.at k hltl
        have hki : (k : Int) < (ln : Int) := by omega
        have HT := Hid.mk' (lastOut_take tx s.2.1 k hltl)
        generalize s.2.1[k] = r at *
        generalize lastOut tx (s.2.1.take k) = o0 at *
        obtain ⟨r1, r2, r3⟩ := r
        simp only [] at e0 e1 e2 HT
        by_cases h1 : r2 = tx
        · subst h1
          have f1 : (r2 == r2) = true := by simp
          by_cases h2 : r1 = 2
          · subst h2
            have HT2 : Hid (lastOut r2 (s.2.1.take (k + 1)) = 3) := by show _ = _; rw [HT.out]; simp
            clear HT
            go_wp2_with fail
            go_roundw
            case rel => exact ⟨k + 1, by omega, by go_num, by rw [HT2.out], by trivial⟩
            case measure => simp [intOf]; omega
          · have g2 : (r1 == 2) = false := beq_eq_false_iff_ne.2 h2
            by_cases h3 : r1 = 3
            · subst h3
              have HT2 : Hid (lastOut r2 (s.2.1.take (k + 1)) = 4) := by show _ = _; rw [HT.out]; simp
              clear HT h2 g2
              go_wp2_with fail
              go_roundw
              case rel => exact ⟨k + 1, by omega, by go_num, by rw [HT2.out], by trivial⟩
              case measure => simp [intOf]; omega
            · have g3 : (r1 == 3) = false := beq_eq_false_iff_ne.2 h3
              have HT2 : Hid (lastOut r2 (s.2.1.take (k + 1)) = o0) := by show _ = _; rw [HT.out]; simp [h2, h3]
              clear HT h2 h3
              go_wp2_with fail
              go_roundw
              case rel => exact ⟨k + 1, by omega, by go_num, by rw [HT2.out], by trivial⟩
              case measure => simp [intOf]; omega
        · have f1 : (r2 == tx) = false := beq_eq_false_iff_ne.2 h1
          have HT2 : Hid (lastOut tx (s.2.1.take (k + 1)) = o0) := by show _ = _; rw [HT.out]; simp [h1]
          clear HT h1
          go_wp2_with fail
          go_roundw
          case rel => exact ⟨k + 1, by omega, by go_num, by rw [HT2.out], by trivial⟩
          case measure => simp [intOf]; omega
      · have HE : Hid (s.2.1.take k = s.2.1) := List.take_of_length_le (by have := HL.out; omega)
        have hnk : ¬ (k : Int) < (ln : Int) := by omega
        go_wp2_with fail
        go_ret
        rw [HO.out, HE.out]
        exact ⟨rfl, hB⟩
set_option maxRecDepth 100000 in
set_option maxHeartbeats 2000000 in
theorem spec_l9Keys (la : Option Addr) (ln lc : Nat) (ma : Option Addr) (mn mc : Nat) (ha : Option Addr) (hn hc : Nat) (s : Shd) (oa : Option Addr) (on oc : Nat) (ops : List Od) (w : World) (h : SeeSh w la ln lc ma mn mc ha hn hc s) (ho : SlO w oa on ops) (hs1 : sumOps s.2.2.2.2 ≤ 1099511627776) (hs2 : mn ≤ 1099511627776) (hs3 : on ≤ 1099511627776) :
    Calls Tryz.prog 77 #[aggSh s.1 s.2.2.1 la ln lc ma mn mc ha hn hc, .slice oa on oc] w fun e w' => e = .returned (.int .i64 (keysOf s ops : Int)) ∧ Below w.heap.size w w' := by
  obtain ⟨hl, hm, hsm, hc'⟩ := id h.held
  unfold maxLen at hm
  obtain ⟨W, hW⟩ : ∃ W, w.alloc (boxSh s.1 s.2.2.1 la ln lc ma mn mc ha hn hc) = W := ⟨_, rfl⟩
  have hB : Below w.heap.size w W := by rw [← hW]; exact (Below.refl _ _).alloc (Nat.le_refl _) _
  have hbx : BoxIn w.heap.size 27 [] (shVals s.1 s.2.2.1 la ln lc ma mn mc ha hn hc) [] W := by rw [← hW]; exact boxIn_new w _ _
  have c3 := hbx.cell 3 _ rfl
  have c4 := hbx.cell 4 _ rfl
  simp only [List.length_nil, Nat.zero_add] at c3 c4
  have hheld := h.held.below hB
  have HW := Hid.mk' hW
  rw [← hW] at c3
  have HL := Hid.mk' hl
  have HK : Hid (keysOf s ops = mn + on + sumOps s.2.2.2.2) := by show _ = _; unfold keysOf; rw [h.map.1, ho.1]
  clear hW hl
  go_enter Tryz.func77, Tryz.ntmps77
  go_wp2_with fail
  go_loopw [5, 6] (fun o i wr => ∃ k : Nat, k ≤ hn ∧ i = .int .i64 (k : Int) ∧ o = .int .i64 ((mn + on + sumOps (s.2.2.2.2.take k) : Nat) : Int) ∧ wr = W) (fun _ i _ => hn - (intOf i).toNat)
  case atStart => exact ⟨0, Nat.zero_le _, rfl, by simp [sumOps], HW.out⟩
  case round =>
    obtain ⟨k, hk, rfl, rfl, rfl⟩ := hrel
    clear c3
    by_cases hlt : k < hn
    · have hltl : k < s.2.2.2.2.length := by have := HL.out; omega
      obtain ⟨b, off, e, _⟩ := hc' (by omega)
      subst e
      obtain ⟨e0, e1, pa, pl, pc, e2, hSo, _⟩ := hheld.at k hltl
      have hki : (k : Int) < (hn : Int) := by omega
      have HT := Hid.mk' (sumOps_take s.2.2.2.2 k hltl)
      have hle := sumOps_le s.2.2.2.2 (k + 1)
      have hpl := hSo.1
      have hS0 : sumOps (s.2.2.2.2.take k) + pl ≤ 1099511627776 := by rw [HT.out] at hle; omega
      have HPL := Hid.mk' hpl
      clear hpl hle hSo
      generalize hA : sumOps (s.2.2.2.2.take k) = A at *
      clear hA
      generalize s.2.2.2.2[k] = r at *
      go_wp2_with fail
      go_roundw
      case rel => exact ⟨k + 1, by omega, by go_num, by rw [HT.out, HPL.out]; go_num, by trivial⟩
      case measure => simp [intOf]; omega
    · have HE : Hid (s.2.2.2.2.take k = s.2.2.2.2) := List.take_of_length_le (by have := HL.out; omega)
      have hnk : ¬ (k : Int) < (hn : Int) := by omega
      go_wp2_with fail
      go_ret
      rw [HK.out, HE.out]
      exact ⟨rfl, hB⟩
end Go.Proofs.YtggdgceglmbaiaaGreatDoor.recs

namespace Go.Proofs.YtggdgceglmbaiaaGreatDoor.recs
open Go Go.RowKit Go.Proofs.YtggdgceglmbaiaaGreatDoor.base Go.Proofs.YtggdgceglmbaiaaGreatDoor.pairs Go.Proofs.YtggdgceglmbaiaaGreatDoor.ords Go.Proofs.YtggdgceglmbaiaaGreatDoor.helps Go.Proofs.YtggdgceglmbaiaaGreatDoor.help Go.Proofs.YtggdgceglmbaiaaGreatDoor.lay
set_option linter.unusedVariables false
set_option linter.unusedSimpArgs false

set_option maxRecDepth 100000 in
set_option maxHeartbeats 1000000 in
theorem eq_pairs (a a2 : Option Addr) (len cap len2 cap2 : Nat) (l l2 : List Pr) (w : World) (h : SlP w a len l) (h2 : SlP w a2 len2 l2) :
    Calls Tryz.prog 29 #[.slice a len cap, .slice a2 len2 cap2] w fun e w' => e = .returned (.bool (decide (l = l2))) ∧ ∃ n, w' = w.drewN n := by
  obtain ⟨hl, hm, _, hc⟩ := h
  obtain ⟨hl2, hm2, _, hc2⟩ := h2
  subst hl hl2
  unfold maxLen at hm hm2
  by_cases hne : l.length = l2.length
  · have hb : ((l.length : Int) == (l2.length : Int)) = true := by simp; omega
    go_enter Tryz.func29, Tryz.ntmps29
    go_wp2_with fail
    go_loopw [13] (fun i wr => ∃ k : Nat, k ≤ l.length ∧ i = .int .i64 k ∧ l.take k = l2.take k ∧ ∃ n, wr = w.drewN n) (fun i _ => l.length - (intOf i).toNat)
    case atStart => exact ⟨0, Nat.zero_le _, rfl, rfl, 0, rfl⟩
    case round =>
      obtain ⟨k, hk, rfl, htk, n, rfl⟩ := hrel
      by_cases hlt : k < l.length
      · obtain ⟨b, off, ha, hcl⟩ := hc (by omega)
        obtain ⟨b2, off2, ha2, hcl2⟩ := hc2 (by omega)
        subst ha ha2
        have hlt2 : k < l2.length := by omega
        have hi1 : (k : Int) < (l.length : Int) := by omega
        have hi2 : (k : Int) < (l2.length : Int) := by omega
        obtain ⟨c1, c2⟩ := hcl k hlt
        obtain ⟨c3, c4⟩ := hcl2 k hlt2
        by_cases e : l[k] = l2[k]
        · have HE := Hid.mk' (take_eqP htk hlt hlt2 e)
          rw [← e] at c3 c4
          clear hcl hcl2 hc hc2 htk hne e
          generalize l[k] = p at *
          go_wp2_with fail
          go_quiet (fail)
          go_wp2_with fail
          go_roundw
          case rel => exact ⟨k + 1, by omega, by go_num, HE.out, _, rfl⟩
          case measure => simp [intOf]; omega
        · have HE : Hid (¬ l = l2) := by
            show ¬ _
            rintro rfl; exact e rfl
          generalize l[k] = p at *
          generalize l2[k] = q at *
          clear hcl hcl2 hc hc2 htk hne
          by_cases e1 : p.1 = q.1
          · have hq := str_ne (fun e2 : p.2 = q.2 => e (Prod.ext e1 e2))
            rw [← e1] at c3
            generalize p.1 = p1 at *
            generalize p.2 = p2 at *
            generalize q.2 = q2 at *
            clear e e1
            go_wp2_with fail
            go_quiet (fail)
            go_wp2_with fail
            go_ret
            exact ⟨ret_bool (by symm; rw [decide_eq_false_iff_not]; exact HE.out), _, World.drewN_drewN _ _ _⟩
          · have hq := str_ne e1
            generalize p.1 = p1 at *
            generalize p.2 = p2 at *
            generalize q.1 = q1 at *
            generalize q.2 = q2 at *
            clear e e1
            go_wp2_with fail
            go_quiet (fail)
            go_wp2_with fail
            go_ret
            exact ⟨ret_bool (by symm; rw [decide_eq_false_iff_not]; exact HE.out), _, World.drewN_drewN _ _ _⟩
      · have e : k = l.length := by omega
        have hfin : l = l2 := by
          subst e
          rw [List.take_of_length_le (Nat.le_refl _), List.take_of_length_le (by omega)] at htk
          exact htk
        have HF := Hid.mk' hfin
        clear hfin htk
        go_wp2_with fail
        go_ret
        exact ⟨ret_bool (by symm; rw [decide_eq_true_iff]; exact HF.out), _, rfl⟩
  · have hb : ((l.length : Int) == (l2.length : Int)) = false := by simp; omega
    go_enter Tryz.func29, Tryz.ntmps29
    go_wp2
    go_ret
    exact ⟨ret_bool (by symm; rw [decide_eq_false_iff_not]; intro h; exact hne (by rw [h])), 0, rfl⟩
set_option maxRecDepth 100000 in
set_option maxHeartbeats 1000000 in
theorem eq_ops (a a2 : Option Addr) (len cap len2 cap2 : Nat) (l l2 : List Od) (w : World) (h : SlO w a len l) (h2 : SlO w a2 len2 l2) :
    Calls Tryz.prog 52 #[.slice a len cap, .slice a2 len2 cap2] w fun e w' => e = .returned (.bool (decide (l = l2))) ∧ ∃ n, w' = w.drewN n := by
  obtain ⟨hl, hm, _, hc⟩ := h
  obtain ⟨hl2, hm2, _, hc2⟩ := h2
  subst hl hl2
  unfold maxLen at hm hm2
  by_cases hne : l.length = l2.length
  · have hb : ((l.length : Int) == (l2.length : Int)) = true := by simp; omega
    go_enter Tryz.func52, Tryz.ntmps52
    go_wp2_with fail
    go_loopw [13] (fun i wr => ∃ k : Nat, k ≤ l.length ∧ i = .int .i64 k ∧ l.take k = l2.take k ∧ ∃ n, wr = w.drewN n) (fun i _ => l.length - (intOf i).toNat)
    case atStart => exact ⟨0, Nat.zero_le _, rfl, rfl, 0, rfl⟩
    case round =>
      obtain ⟨k, hk, rfl, htk, n, rfl⟩ := hrel
      by_cases hlt : k < l.length
      · obtain ⟨b, off, ha, hcl⟩ := hc (by omega)
        obtain ⟨b2, off2, ha2, hcl2⟩ := hc2 (by omega)
        subst ha ha2
        have hlt2 : k < l2.length := by omega
        have hi1 : (k : Int) < (l.length : Int) := by omega
        have hi2 : (k : Int) < (l2.length : Int) := by omega
        obtain ⟨c0, c1, c2⟩ := hcl k hlt
        obtain ⟨d0, d1, d2⟩ := hcl2 k hlt2
        by_cases e : l[k] = l2[k]
        · have HE := Hid.mk' (take_eqO htk hlt hlt2 e)
          rw [← e] at d0 d1 d2
          clear hcl hcl2 hc hc2 htk hne e
          generalize l[k] = p at *
          go_wp2_with fail
          go_quiet (fail)
          go_wp2_with fail
          go_roundw
          case rel => exact ⟨k + 1, by omega, by go_num, HE.out, _, rfl⟩
          case measure => simp [intOf]; omega
        · have HE : Hid (¬ l = l2) := by
            show ¬ _
            rintro rfl; exact e rfl
          generalize l[k] = p at *
          generalize l2[k] = q at *
          clear hcl hcl2 hc hc2 htk hne
          obtain ⟨p0, p1, p2⟩ := p
          obtain ⟨q0, q1, q2⟩ := q
          simp only [] at c0 c1 c2 d0 d1 d2
          by_cases e0 : p0 = q0
          · subst e0
            have h0 : (p0 == p0) = true := beq_self_eq_true _
            by_cases e1 : p1 = q1
            · subst e1
              have hq := str_ne (fun e2 : p2 = q2 => e (by rw [e2]))
              clear e
              go_wp2_with fail
              go_quiet (fail)
              go_wp2_with fail
              go_ret
              exact ⟨ret_bool (by symm; rw [decide_eq_false_iff_not]; exact HE.out), _, World.drewN_drewN _ _ _⟩
            · have hq := str_ne e1
              clear e e1
              go_wp2_with fail
              go_quiet (fail)
              go_wp2_with fail
              go_ret
              exact ⟨ret_bool (by symm; rw [decide_eq_false_iff_not]; exact HE.out), _, World.drewN_drewN _ _ _⟩
          · have h0 : (p0 == q0) = false := beq_eq_false_iff_ne.2 e0
            clear e e0
            go_wp2_with fail
            go_quiet (fail)
            go_wp2_with fail
            go_ret
            exact ⟨ret_bool (by symm; rw [decide_eq_false_iff_not]; exact HE.out), _, World.drewN_drewN _ _ _⟩
      · have e : k = l.length := by omega
        have hfin : l = l2 := by
          subst e
          rw [List.take_of_length_le (Nat.le_refl _), List.take_of_length_le (by omega)] at htk
          exact htk
        have HF := Hid.mk' hfin
        clear hfin htk
        go_wp2_with fail
        go_ret
        exact ⟨ret_bool (by symm; rw [decide_eq_true_iff]; exact HF.out), _, rfl⟩
  · have hb : ((l.length : Int) == (l2.length : Int)) = false := by simp; omega
    go_enter Tryz.func52, Tryz.ntmps52
    go_wp2
    go_ret
    exact ⟨ret_bool (by symm; rw [decide_eq_false_iff_not]; intro h; exact hne (by rw [h])), 0, rfl⟩
theorem i_idOk (id : Int) (w : World) :
    Calls Tryz.prog 27 #[.int .i64 id] w fun e w' => e = .returned (.bool (decide (0 ≤ id ∧ id ≤ 7))) ∧ w = w' := by
  by_cases h1 : 0 ≤ id
  · by_cases h2 : id ≤ 7
    · go_enter Tryz.func27, Tryz.ntmps27
      go_wp2
      go_ret
      exact ⟨ret_bool (by simp [h1, h2]), rfl⟩
    · go_enter Tryz.func27, Tryz.ntmps27
      go_wp2
      go_ret
      exact ⟨ret_bool (by simp [h1, h2]), rfl⟩
  · go_enter Tryz.func27, Tryz.ntmps27
    go_wp2
    go_ret
    exact ⟨ret_bool (by have h3 : ¬ 0 ≤ id := by omega
                        simp [h3]), rfl⟩
theorem eq_opsB (a a2 : Option Addr) (len cap len2 cap2 : Nat) (l l2 : List Od) (w : World) (h : SlO w a len l) (h2 : SlO w a2 len2 l2) :
    Calls Tryz.prog 52 #[.slice a len cap, .slice a2 len2 cap2] w fun e w' => e = .returned (.bool (decide (l = l2))) ∧ Below w.heap.size w w' := by
  refine (eq_ops a a2 len cap len2 cap2 l l2 w h h2).mono ?_
  rintro e w' ⟨rfl, n, rfl⟩
  exact ⟨rfl, below_drewN (Below.refl _ _) n⟩
set_option maxRecDepth 100000 in
set_option maxHeartbeats 2000000 in
theorem i_sameRec (x y : Rc) (pa qa : Option Addr) (pl pc ql qc : Nat) (w : World) (hx : SlO w pa pl x.2.2) (hy : SlO w qa ql y.2.2) :
    Calls Tryz.prog 31 #[.agg #[.int .i64 x.1, .int .i64 x.2.1, .slice pa pl pc], .agg #[.int .i64 y.1, .int .i64 y.2.1, .slice qa ql qc]] w fun e w' => e = .returned (.bool (decide (x = y))) ∧ Below w.heap.size w w' := by
  obtain ⟨W, hW⟩ : ∃ W, (w.alloc (.cells #[.int .i64 x.1, .int .i64 x.2.1, .slice pa pl pc] 36)).alloc (.cells #[.int .i64 y.1, .int .i64 y.2.1, .slice qa ql qc] 36) = W := ⟨_, rfl⟩
  have hB : Below w.heap.size w W := by rw [← hW]; exact ((Below.refl _ _).alloc (Nat.le_refl _) _).alloc (by simp) _
  have HE := Hid.mk' (eq_opsB pa qa pl pc ql qc x.2.2 y.2.2 W (hx.below hB) (hy.below hB))
  have HW := Hid.mk' hW
  obtain ⟨x1, x2, x3⟩ := x
  obtain ⟨y1, y2, y3⟩ := y
  simp only [] at HE HW
  clear hW hx hy
  by_cases e1 : x1 = y1
  · subst e1
    have hn : (x1 == x1) = true := by simp
    by_cases e2 : x2 = y2
    · subst e2
      have hf : (x2 == x2) = true := by simp
      have HD : Hid (decide ((x1, x2, x3) = (x1, x2, y3)) = decide (x3 = y3)) := by show _ = _; simp
      go_enter Tryz.func31, Tryz.ntmps31
      go_wp2_with fail
      rw [HW.out]
      refine HE.out.mono ?_
      rintro e w1 ⟨rfl, hb1⟩
      have hB1 := hB.trans (hb1.mono hB.size)
      clear HE HW hb1
      go_wp2_with fail
      go_ret
      rw [HD.out]
      exact ⟨rfl, hB1⟩
    · have hf : (x2 == y2) = false := beq_eq_false_iff_ne.2 e2
      have HD : Hid (decide ((x1, x2, x3) = (x1, y2, y3)) = false) := by show _ = _; simp [e2]
      clear e2
      go_enter Tryz.func31, Tryz.ntmps31
      go_wp2_with fail
      go_ret
      rw [HD.out, HW.out]
      exact ⟨rfl, hB⟩
  · have hn : (x1 == y1) = false := beq_eq_false_iff_ne.2 e1
    have HD : Hid (decide ((x1, x2, x3) = (y1, y2, y3)) = false) := by show _ = _; simp [e1]
    clear e1
    go_enter Tryz.func31, Tryz.ntmps31
    go_wp2_with fail
    go_ret
    rw [HD.out, HW.out]
    exact ⟨rfl, hB⟩
set_option maxRecDepth 100000 in
set_option maxHeartbeats 2000000 in
theorem eq_recs (a a2 : Option Addr) (len cap len2 cap2 : Nat) (l l2 : List Rc) (w : World) (h : SlR w a len l) (h2 : SlR w a2 len2 l2) :
    Calls Tryz.prog 30 #[.slice a len cap, .slice a2 len2 cap2, .func (.func 31) #[] #[]] w fun e w' => e = .returned (.bool (decide (l = l2))) ∧ Below w.heap.size w w' := by
  obtain ⟨hl, hm, hsm, hc⟩ := id h
  obtain ⟨hl2, hm2, hsm2, hc2⟩ := id h2
  subst hl hl2
  unfold maxLen at hm hm2
  by_cases hne : l.length = l2.length
  · have hb : ((l.length : Int) == (l2.length : Int)) = true := by simp; omega
    go_enter Tryz.func30, Tryz.ntmps30
    go_wp2_with fail
    go_loopw [17] (fun i wr => ∃ k : Nat, k ≤ l.length ∧ i = .int .i64 k ∧ l.take k = l2.take k ∧ Below w.heap.size w wr) (fun i _ => l.length - (intOf i).toNat)
    case atStart => exact ⟨0, Nat.zero_le _, rfl, rfl, Below.refl _ _⟩
    case round =>
      obtain ⟨k, hk, rfl, htk, hB⟩ := hrel
      by_cases hlt : k < l.length
      · obtain ⟨b, off, ha, hcl⟩ := hc (by omega)
        obtain ⟨b2, off2, ha2, hcl2⟩ := hc2 (by omega)
        subst ha ha2
        have hlt2 : k < l2.length := by omega
        have hki : (k : Int) < (l.length : Int) := by omega
        have hki2 : (k : Int) < (l2.length : Int) := by omega
        have i1 := h.at k hlt
        have i2 := h2.at k hlt2
        obtain ⟨c1, c2, pa, pl, pc, c3, hS1, _⟩ := i1.below hB
        obtain ⟨c4, c5, qa, ql, qc, c6, hS2, _⟩ := i2.below hB
        have hg1 := World.block_lt_of_cell? _ _ c1
        have hg2 := World.block_lt_of_cell? _ _ c4
        obtain ⟨W1, hW1⟩ : ∃ W1, (wr.alloc (.cells #[.int .i64 l[k].1, .int .i64 l[k].2.1, .slice pa pl pc] 36)) = W1 := ⟨_, rfl⟩
        have hb1 : Below wr.heap.size wr W1 := by rw [← hW1]; exact (Below.refl _ _).alloc (Nat.le_refl _) _
        obtain ⟨W2, hW2⟩ : ∃ W2, (W1.alloc (.cells #[.int .i64 l2[k].1, .int .i64 l2[k].2.1, .slice qa ql qc] 36)) = W2 := ⟨_, rfl⟩
        have hb2 : Below W1.heap.size W1 W2 := by rw [← hW2]; exact (Below.refl _ _).alloc (Nat.le_refl _) _
        have hB2 := (hB.trans (hb1.mono hB.size)).trans (hb2.mono (Nat.le_trans hB.size hb1.size))
        have HSA := Hid.mk' (i_sameRec l[k] l2[k] pa qa pl pc ql qc W2 ((hS1.below hb1).below hb2) ((hS2.below hb1).below hb2))
        have HE1 : Hid (l[k] = l2[k] → l.take (k + 1) = l2.take (k + 1)) := fun e => take_eqR htk hlt hlt2 e
        have HE2 : Hid (¬ l[k] = l2[k] → ¬ l = l2) := fun e e2 => e (by subst e2; rfl)
        have HW : Hid ((wr.alloc (.cells #[.int .i64 l[k].1, .int .i64 l[k].2.1, .slice pa pl pc] 36)).alloc (.cells #[.int .i64 l2[k].1, .int .i64 l2[k].2.1, .slice qa ql qc] 36) = W2) := by show _ = _; rw [hW1, hW2]
        clear hcl hcl2 hc hc2 i1 i2 hsm hsm2 h h2 hS1 hS2 htk hne hW1 hW2 hb1 hb2
        cases hd : decide (l[k] = l2[k]) with
        | true =>
          rw [hd] at HSA
          have HE := Hid.mk' (HE1.out (of_decide_eq_true hd))
          clear hd HE1 HE2
          generalize l[k] = p at *
          generalize l2[k] = q at *
          go_wp2_with fail
          rw [HW.out]
          refine HSA.out.mono ?_
          rintro e w5 ⟨rfl, hb5⟩
          have hB5 := hB2.trans (hb5.mono hB2.size)
          clear HSA HW
          go_wp2_with fail
          go_roundw
          case rel => exact ⟨k + 1, by omega, by go_num, HE.out, hB5⟩
          case measure => simp [intOf]; omega
        | false =>
          rw [hd] at HSA
          have HE := Hid.mk' (HE2.out (of_decide_eq_false hd))
          clear hd HE1 HE2
          generalize l[k] = p at *
          generalize l2[k] = q at *
          go_wp2_with fail
          rw [HW.out]
          refine HSA.out.mono ?_
          rintro e w5 ⟨rfl, hb5⟩
          have hB5 := hB2.trans (hb5.mono hB2.size)
          clear HSA HW
          go_wp2_with fail
          go_ret
          exact ⟨ret_bool (by symm; rw [decide_eq_false_iff_not]; exact HE.out), hB5⟩
      · have e : k = l.length := by omega
        have hfin : l = l2 := by
          subst e
          rw [List.take_of_length_le (Nat.le_refl _), List.take_of_length_le (by omega)] at htk
          exact htk
        have HF := Hid.mk' hfin
        clear hfin htk
        go_wp2_with fail
        go_ret
        exact ⟨ret_bool (by symm; rw [decide_eq_true_iff]; exact HF.out), hB⟩
  · have hb : ((l.length : Int) == (l2.length : Int)) = false := by simp; omega
    go_enter Tryz.func30, Tryz.ntmps30
    go_wp2
    go_ret
    exact ⟨ret_bool (by symm; rw [decide_eq_false_iff_not]; intro h; exact hne (by rw [h])), Below.refl _ _⟩
end Go.Proofs.YtggdgceglmbaiaaGreatDoor.recs
