/- The specification's shard: what is alike, and whether it is right. A struct in a block, whole or in the midst of it. No function of the program is named here. The laws' helpers for one record: its size, alike, marked, held. The laws' helpers for records: alike, marked, held. A block of three cells: small facts on worlds; no function of the program is named here. Rows of pairs that a law made, kept from step to step; arguments that are pairs, opened. An argument that is a slice of orders, opened. -/
import Derived.Test.YtggdgceglmbaiaaGreatDoorBund9an
import Derived.Test.YtggdgceglmbaiaaGreatDoorBund9ar
import Derived.Test.YtggdgceglmbaiaaGreatDoorBund9as
import Derived.Test.YtggdgceglmbaiaaGreatDoorBund9ah
import Derived.Test.YtggdgceglmbaiaaGreatDoorBund9ae
import Derived.Test.YtggdgceglmbaiaaGreatDoorBund9ag
import Derived.Deep.SlicePairs
import Derived.ChangeArms
namespace Go.Proofs.YtggdgceglmbaiaaGreatDoor.recs
open Go Go.RowKit Go.Proofs.YtggdgceglmbaiaaGreatDoor.base Go.Proofs.YtggdgceglmbaiaaGreatDoor.pairs Go.Proofs.YtggdgceglmbaiaaGreatDoor.ords Go.Proofs.YtggdgceglmbaiaaGreatDoor.helps Go.Proofs.YtggdgceglmbaiaaGreatDoor.help
set_option linter.unusedVariables false
set_option linter.unusedSimpArgs false

theorem spec_in (x a b : Int) (w : World) :
    Calls Tryz.prog 45 #[.int .i64 x, .int .i64 a, .int .i64 b] w fun e w' => e = .returned (.bool (decide (a ≤ x ∧ x ≤ b))) ∧ w' = w := by
  by_cases h1 : a ≤ x
  · by_cases h2 : x ≤ b
    · go_enter Tryz.func45, Tryz.ntmps45
      go_wp2
      go_ret
      exact ⟨ret_bool (by simp [h1, h2]), rfl⟩
    · go_enter Tryz.func45, Tryz.ntmps45
      go_wp2
      go_ret
      exact ⟨ret_bool (by simp [h1, h2]), rfl⟩
  · go_enter Tryz.func45, Tryz.ntmps45
    go_wp2
    go_ret
    exact ⟨ret_bool (by have h3 : ¬ a ≤ x := by omega
                        simp [h3]), rfl⟩
/-- a new shard -/
def newShd (id : Int) : Shd := if 0 ≤ id ∧ id ≤ 7 then (id, [], 0, [], []) else (0, [], 0, [], [])
def nilShd (id : Int) : Value := .agg #[.int .i64 id, .slice none 0 0, .int .i64 0, .slice none 0 0, .slice none 0 0]
theorem ownSh_new (w : World) (id : Int) (h : (Lit.int .i64 id).wf = true) : lay.OwnSh w none 0 0 none 0 0 none 0 0 (id, [], 0, [], []) [] :=
  ⟨h, rfl, ⟨[], ownR_nil _ _, [], ownR_nil _ _, rfl⟩, ownPV_nil _, List.nodup_nil⟩
set_option maxRecDepth 100000 in
theorem spec_shardNew (id : Int) (w : World) :
    Calls Tryz.prog 55 #[.int .i64 id] w fun e w' => e = .returned (nilShd (newShd id).1) ∧ Below w.heap.size w w' := by
  have HI := Hid.mk' (fun wx => spec_in id 0 7 wx)
  by_cases h : 0 ≤ id ∧ id ≤ 7
  · rw [decide_eq_true h] at HI
    have e0 : (newShd id).1 = id := by unfold newShd; rw [if_pos h]
    rw [e0]
    clear h e0
    go_enter Tryz.func55, Tryz.ntmps55
    go_wp2_with fail
    refine (HI.out _).mono ?_
    rintro e w1 ⟨rfl, rfl⟩
    clear HI
    go_wp2_with fail
    exact bodyPost_ret (v := nilShd id) (by simp [results, Tryz.results55, go_sem, nilShd]) rfl ⟨rfl, (Below.refl _ _).alloc (Nat.le_refl _) _⟩
  · rw [decide_eq_false h] at HI
    have e0 : (newShd id).1 = 0 := by unfold newShd; rw [if_neg h]
    rw [e0]
    clear h e0
    go_enter Tryz.func55, Tryz.ntmps55
    go_wp2_with fail
    refine (HI.out _).mono ?_
    rintro e w1 ⟨rfl, rfl⟩
    clear HI
    go_wp2_with fail
    exact bodyPost_ret (v := nilShd 0) (by simp [results, Tryz.results55, go_sem, nilShd]) rfl ⟨rfl, (Below.refl _ _).alloc (Nat.le_refl _) _⟩
set_option maxRecDepth 100000 in
set_option maxHeartbeats 1000000 in
theorem spec_samePairs (a a2 : Option Addr) (len cap len2 cap2 : Nat) (l l2 : List Pr) (w : World) (h : SlP w a len l) (h2 : SlP w a2 len2 l2) :
    Calls Tryz.prog 47 #[.slice a len cap, .slice a2 len2 cap2] w fun e w' => e = .returned (.bool (decide (l = l2))) ∧ ∃ n, w' = w.drewN n := by
  obtain ⟨hl, hm, _, hc⟩ := h
  obtain ⟨hl2, hm2, _, hc2⟩ := h2
  subst hl hl2
  unfold maxLen at hm hm2
  by_cases hne : l.length = l2.length
  · have hb : ((l.length : Int) == (l2.length : Int)) = true := by simp; omega
    go_enter Tryz.func47, Tryz.ntmps47
    go_wp2_with fail
    go_loopw [5] (fun i wr => ∃ k : Nat, k ≤ l.length ∧ i = .int .i64 k ∧ l.take k = l2.take k ∧ ∃ n, wr = w.drewN n) (fun i _ => l.length - (intOf i).toNat)
    case atStart => exact ⟨0, Nat.zero_le _, rfl, rfl, 0, rfl⟩
    case round =>
      obtain ⟨k, hk, rfl, htk, n, rfl⟩ := hrel
      by_cases hlt : k < l.length
      · obtain ⟨b, off, ha, hcl⟩ := hc (by omega)
        obtain ⟨b2, off2, ha2, hcl2⟩ := hc2 (by omega)
        subst ha ha2
        have hlt2 : k < l2.length := by omega
        have hi1 : (k : Int) < (l.length : Int) := by omega
        have hi2 : (k : Int) < (l2.length : Int) := by omega
        obtain ⟨c1, c2⟩ := hcl k hlt
        obtain ⟨c3, c4⟩ := hcl2 k hlt2
        by_cases e : l[k] = l2[k]
        · have HE := Hid.mk' (take_eqP htk hlt hlt2 e)
          rw [← e] at c3 c4
          clear hcl hcl2 hc hc2 htk hne e
          generalize l[k] = p at *
          go_wp2_with fail
          go_quiet (fail)
          go_wp2_with fail
          go_roundw
          case rel => exact ⟨k + 1, by omega, by go_num, HE.out, _, rfl⟩
          case measure => simp [intOf]; omega
        · have HE : Hid (¬ l = l2) := by
            show ¬ _
            rintro rfl; exact e rfl
          generalize l[k] = p at *
          generalize l2[k] = q at *
          clear hcl hcl2 hc hc2 htk hne
          by_cases e1 : p.1 = q.1
          · have hq := str_ne (fun e2 : p.2 = q.2 => e (Prod.ext e1 e2))
            rw [← e1] at c3
            generalize p.1 = p1 at *
            generalize p.2 = p2 at *
            generalize q.2 = q2 at *
            clear e e1
            go_wp2_with fail
            go_quiet (fail)
            go_wp2_with fail
            go_ret
            exact ⟨ret_bool (by symm; rw [decide_eq_false_iff_not]; exact HE.out), _, World.drewN_drewN _ _ _⟩
          · have hq := str_ne e1
            generalize p.1 = p1 at *
            generalize p.2 = p2 at *
            generalize q.1 = q1 at *
            generalize q.2 = q2 at *
            clear e e1
            go_wp2_with fail
            go_quiet (fail)
            go_wp2_with fail
            go_ret
            exact ⟨ret_bool (by symm; rw [decide_eq_false_iff_not]; exact HE.out), _, World.drewN_drewN _ _ _⟩
      · have e : k = l.length := by omega
        have hfin : l = l2 := by
          subst e
          rw [List.take_of_length_le (Nat.le_refl _), List.take_of_length_le (by omega)] at htk
          exact htk
        have HF := Hid.mk' hfin
        clear hfin htk
        go_wp2_with fail
        go_ret
        exact ⟨ret_bool (by symm; rw [decide_eq_true_iff]; exact HF.out), _, rfl⟩
  · have hb : ((l.length : Int) == (l2.length : Int)) = false := by simp; omega
    go_enter Tryz.func47, Tryz.ntmps47
    go_wp2
    go_ret
    exact ⟨ret_bool (by symm; rw [decide_eq_false_iff_not]; intro h; exact hne (by rw [h])), 0, rfl⟩
set_option maxRecDepth 100000 in
set_option maxHeartbeats 1000000 in
theorem spec_sameOps (a a2 : Option Addr) (len cap len2 cap2 : Nat) (l l2 : List Od) (w : World) (h : SlO w a len l) (h2 : SlO w a2 len2 l2) :
    Calls Tryz.prog 68 #[.slice a len cap, .slice a2 len2 cap2] w fun e w' => e = .returned (.bool (decide (l = l2))) ∧ ∃ n, w' = w.drewN n := by
  obtain ⟨hl, hm, _, hc⟩ := h
  obtain ⟨hl2, hm2, _, hc2⟩ := h2
  subst hl hl2
  unfold maxLen at hm hm2
  by_cases hne : l.length = l2.length
  · have hb : ((l.length : Int) == (l2.length : Int)) = true := by simp; omega
    go_enter Tryz.func68, Tryz.ntmps68
    go_wp2_with fail
    go_loopw [5] (fun i wr => ∃ k : Nat, k ≤ l.length ∧ i = .int .i64 k ∧ l.take k = l2.take k ∧ ∃ n, wr = w.drewN n) (fun i _ => l.length - (intOf i).toNat)
    case atStart => exact ⟨0, Nat.zero_le _, rfl, rfl, 0, rfl⟩
    case round =>
      obtain ⟨k, hk, rfl, htk, n, rfl⟩ := hrel
      by_cases hlt : k < l.length
      · obtain ⟨b, off, ha, hcl⟩ := hc (by omega)
        obtain ⟨b2, off2, ha2, hcl2⟩ := hc2 (by omega)
        subst ha ha2
        have hlt2 : k < l2.length := by omega
        have hi1 : (k : Int) < (l.length : Int) := by omega
        have hi2 : (k : Int) < (l2.length : Int) := by omega
        obtain ⟨c0, c1, c2⟩ := hcl k hlt
        obtain ⟨d0, d1, d2⟩ := hcl2 k hlt2
        by_cases e : l[k] = l2[k]
        · have HE := Hid.mk' (take_eqO htk hlt hlt2 e)
          rw [← e] at d0 d1 d2
          clear hcl hcl2 hc hc2 htk hne e
          generalize l[k] = p at *
          go_wp2_with fail
          go_quiet (fail)
          go_wp2_with fail
          go_roundw
          case rel => exact ⟨k + 1, by omega, by go_num, HE.out, _, rfl⟩
          case measure => simp [intOf]; omega
        · have HE : Hid (¬ l = l2) := by
            show ¬ _
            rintro rfl; exact e rfl
          generalize l[k] = p at *
          generalize l2[k] = q at *
          clear hcl hcl2 hc hc2 htk hne
          obtain ⟨p0, p1, p2⟩ := p
          obtain ⟨q0, q1, q2⟩ := q
          simp only [] at c0 c1 c2 d0 d1 d2
          by_cases e0 : p0 = q0
          · subst e0
            have h0 : (p0 == p0) = true := beq_self_eq_true _
            by_cases e1 : p1 = q1
            · subst e1
              have hq := str_ne (fun e2 : p2 = q2 => e (by rw [e2]))
              clear e
              go_wp2_with fail
              go_quiet (fail)
              go_wp2_with fail
              go_ret
              exact ⟨ret_bool (by symm; rw [decide_eq_false_iff_not]; exact HE.out), _, World.drewN_drewN _ _ _⟩
            · have hq := str_ne e1
              clear e e1
              go_wp2_with fail
              go_quiet (fail)
              go_wp2_with fail
              go_ret
              exact ⟨ret_bool (by symm; rw [decide_eq_false_iff_not]; exact HE.out), _, World.drewN_drewN _ _ _⟩
          · have h0 : (p0 == q0) = false := beq_eq_false_iff_ne.2 e0
            clear e e0
            go_wp2_with fail
            go_quiet (fail)
            go_wp2_with fail
            go_ret
            exact ⟨ret_bool (by symm; rw [decide_eq_false_iff_not]; exact HE.out), _, World.drewN_drewN _ _ _⟩
      · have e : k = l.length := by omega
        have hfin : l = l2 := by
          subst e
          rw [List.take_of_length_le (Nat.le_refl _), List.take_of_length_le (by omega)] at htk
          exact htk
        have HF := Hid.mk' hfin
        clear hfin htk
        go_wp2_with fail
        go_ret
        exact ⟨ret_bool (by symm; rw [decide_eq_true_iff]; exact HF.out), _, rfl⟩
  · have hb : ((l.length : Int) == (l2.length : Int)) = false := by simp; omega
    go_enter Tryz.func68, Tryz.ntmps68
    go_wp2
    go_ret
    exact ⟨ret_bool (by symm; rw [decide_eq_false_iff_not]; intro h; exact hne (by rw [h])), 0, rfl⟩
theorem rc_ext {p q : Rc} (h1 : p.1 = q.1) (h2 : p.2.1 = q.2.1) (h3 : p.2.2 = q.2.2) : p = q := Prod.ext h1 (Prod.ext h2 h3)
theorem take_eqR {l l2 : List Rc} {k : Nat} (h : l.take k = l2.take k) (h1 : k < l.length) (h2 : k < l2.length) (e : l[k] = l2[k]) : l.take (k + 1) = l2.take (k + 1) := by
  rw [List.take_succ_eq_append_getElem h1, List.take_succ_eq_append_getElem h2, h, e]
set_option maxRecDepth 100000 in
set_option maxHeartbeats 2000000 in
theorem spec_sameRecs (a a2 : Option Addr) (len cap len2 cap2 : Nat) (l l2 : List Rc) (w : World) (h : SlR w a len l) (h2 : SlR w a2 len2 l2) :
    Calls Tryz.prog 48 #[.slice a len cap, .slice a2 len2 cap2] w fun e w' => e = .returned (.bool (decide (l = l2))) ∧ Below w.heap.size w w' := by
  obtain ⟨hl, hm, hsm, hc⟩ := id h
  obtain ⟨hl2, hm2, hsm2, hc2⟩ := id h2
  subst hl hl2
  unfold maxLen at hm hm2
  by_cases hne : l.length = l2.length
  · have hb : ((l.length : Int) == (l2.length : Int)) = true := by simp; omega
    go_enter Tryz.func48, Tryz.ntmps48
    go_wp2_with fail
    go_loopw [5] (fun i wr => ∃ k : Nat, k ≤ l.length ∧ i = .int .i64 k ∧ l.take k = l2.take k ∧ Below w.heap.size w wr) (fun i _ => l.length - (intOf i).toNat)
    case atStart => exact ⟨0, Nat.zero_le _, rfl, rfl, Below.refl _ _⟩
    case round =>
      obtain ⟨k, hk, rfl, htk, hB⟩ := hrel
      by_cases hlt : k < l.length
      · obtain ⟨b, off, ha, hcl⟩ := hc (by omega)
        obtain ⟨b2, off2, ha2, hcl2⟩ := hc2 (by omega)
        subst ha ha2
        have hlt2 : k < l2.length := by omega
        have hki : (k : Int) < (l.length : Int) := by omega
        have hki2 : (k : Int) < (l2.length : Int) := by omega
        have i1 := h.at k hlt
        have i2 := h2.at k hlt2
        have hb1 : b < w.heap.size := World.block_lt_of_cell? w _ i1.1
        have hb2 : b2 < w.heap.size := World.block_lt_of_cell? w _ i2.1
        have hbs := hB.size
        obtain ⟨c1, c2, pa, pl, pc, c3, hS1, _⟩ := i1.below hB
        obtain ⟨c4, c5, qa, ql, qc, c6, hS2, _⟩ := i2.below hB
        have hinh := last.On.inh wr.heap.size wr
        have hcall : ∀ x : last.On wr.heap.size wr, Calls Tryz.prog 68 #[.slice pa pl pc, .slice qa ql qc] x.w fun e w' => e = .returned (.bool (decide (l[k].2.2 = l2[k].2.2))) ∧ ∃ y : last.On wr.heap.size wr, w' = y.w := fun x => last.Calls.on x (Nat.le_refl _) ((spec_sameOps pa qa pl pc ql qc l[k].2.2 l2[k].2.2 x.w (hS1.below x.2) (hS2.below x.2)).mono (fun e w' h => ⟨h.1, by obtain ⟨n, rfl⟩ := h.2; exact below_drewN (Below.refl _ _) n⟩))
        have HE1 : Hid (l[k] = l2[k] → l.take (k + 1) = l2.take (k + 1)) := fun e => take_eqR htk hlt hlt2 e
        have HE2 : Hid (¬ l[k] = l2[k] → ¬ l = l2) := fun e e2 => e (by subst e2; rfl)
        clear hcl hcl2 hc hc2 i1 i2 hsm hsm2 h h2 hS1 hS2 htk hne
        generalize l[k] = p at *
        generalize l2[k] = q at *
        have hbad : ¬ p = q → (last.On wr.heap.size wr → True) := fun _ _ => trivial
        clear hbad
        obtain ⟨p1, p2, p3⟩ := p
        obtain ⟨q1, q2, q3⟩ := q
        simp only [] at c1 c2 c3 c4 c5 c6 hcall
        by_cases e1 : p1 = q1
        · subst e1
          have f1 : (p1 == p1) = true := by simp
          by_cases e2 : p2 = q2
          · subst e2
            have f2 : (p2 == p2) = true := by simp
            by_cases e3 : p3 = q3
            · rw [decide_eq_true e3] at hcall
              have HE := Hid.mk' (HE1.out (by rw [e3]))
              clear HE1 HE2 e3
              have o1 := last.On.cell (B := wr.heap.size) c1 (by omega)
              have o2 := last.On.cell (B := wr.heap.size) c2 (by omega)
              have o3 := last.On.cell (B := wr.heap.size) c3 (by omega)
              have o4 := last.On.cell (B := wr.heap.size) c4 (by omega)
              have o5 := last.On.cell (B := wr.heap.size) c5 (by omega)
              have o6 := last.On.cell (B := wr.heap.size) c6 (by omega)
              go_wp2_with fail
              refine last.wp_region_on wr.heap.size (by kernel_rfl) (by kernel_rfl) ?_
              repeat (go_big_quiet_step ((go_at_call 68; with_reducible exact hcall _)))
              refine wpQuiet_nil ?_
              intro w5 hw5
              obtain ⟨x5, hw5⟩ := hw5
              have hB5 : Below w.heap.size w w5 := by rw [hw5]; exact hB.trans (x5.2.mono hB.size)
              clear hw5 x5 o1 o2 o3 o4 o5 o6 hcall hinh
              go_wp2_with fail
              go_roundw
              case rel => exact ⟨k + 1, by omega, by go_num, HE.out, hB5⟩
              case measure => simp [intOf]; omega
            · rw [decide_eq_false e3] at hcall
              have HE := Hid.mk' (HE2.out (fun e => e3 (by cases e; rfl)))
              clear HE1 HE2 e3
              have o1 := last.On.cell (B := wr.heap.size) c1 (by omega)
              have o2 := last.On.cell (B := wr.heap.size) c2 (by omega)
              have o3 := last.On.cell (B := wr.heap.size) c3 (by omega)
              have o4 := last.On.cell (B := wr.heap.size) c4 (by omega)
              have o5 := last.On.cell (B := wr.heap.size) c5 (by omega)
              have o6 := last.On.cell (B := wr.heap.size) c6 (by omega)
              go_wp2_with fail
              refine last.wp_region_on wr.heap.size (by kernel_rfl) (by kernel_rfl) ?_
              repeat (go_big_quiet_step ((go_at_call 68; with_reducible exact hcall _)))
              refine wpQuiet_nil ?_
              intro w5 hw5
              obtain ⟨x5, hw5⟩ := hw5
              have hB5 : Below w.heap.size w w5 := by rw [hw5]; exact hB.trans (x5.2.mono hB.size)
              clear hw5 x5 o1 o2 o3 o4 o5 o6 hcall hinh
              go_wp2_with fail
              go_ret
              exact ⟨ret_bool (by symm; rw [decide_eq_false_iff_not]; exact HE.out), hB5⟩
          · have f2 : (p2 != q2) = true := by simpa using e2
            have HE := Hid.mk' (HE2.out (fun e => e2 (by cases e; rfl)))
            clear HE1 HE2 e2
            have o1 := last.On.cell (B := wr.heap.size) c1 (by omega)
            have o2 := last.On.cell (B := wr.heap.size) c2 (by omega)
            have o3 := last.On.cell (B := wr.heap.size) c3 (by omega)
            have o4 := last.On.cell (B := wr.heap.size) c4 (by omega)
            have o5 := last.On.cell (B := wr.heap.size) c5 (by omega)
            have o6 := last.On.cell (B := wr.heap.size) c6 (by omega)
            go_wp2_with fail
            refine last.wp_region_on wr.heap.size (by kernel_rfl) (by kernel_rfl) ?_
            repeat (go_big_quiet_step ((go_at_call 68; with_reducible exact hcall _)))
            refine wpQuiet_nil ?_
            intro w5 hw5
            obtain ⟨x5, hw5⟩ := hw5
            have hB5 : Below w.heap.size w w5 := by rw [hw5]; exact hB.trans (x5.2.mono hB.size)
            clear hw5 x5 o1 o2 o3 o4 o5 o6 hcall hinh
            go_wp2_with fail
            go_ret
            exact ⟨ret_bool (by symm; rw [decide_eq_false_iff_not]; exact HE.out), hB5⟩
        · have f1 : (p1 != q1) = true := by simpa using e1
          have HE := Hid.mk' (HE2.out (fun e => e1 (by cases e; rfl)))
          clear HE1 HE2 e1
          have o1 := last.On.cell (B := wr.heap.size) c1 (by omega)
          have o2 := last.On.cell (B := wr.heap.size) c2 (by omega)
          have o3 := last.On.cell (B := wr.heap.size) c3 (by omega)
          have o4 := last.On.cell (B := wr.heap.size) c4 (by omega)
          have o5 := last.On.cell (B := wr.heap.size) c5 (by omega)
          have o6 := last.On.cell (B := wr.heap.size) c6 (by omega)
          go_wp2_with fail
          refine last.wp_region_on wr.heap.size (by kernel_rfl) (by kernel_rfl) ?_
          repeat (go_big_quiet_step ((go_at_call 68; with_reducible exact hcall _)))
          refine wpQuiet_nil ?_
          intro w5 hw5
          obtain ⟨x5, hw5⟩ := hw5
          have hB5 : Below w.heap.size w w5 := by rw [hw5]; exact hB.trans (x5.2.mono hB.size)
          clear hw5 x5 o1 o2 o3 o4 o5 o6 hcall hinh
          go_wp2_with fail
          go_ret
          exact ⟨ret_bool (by symm; rw [decide_eq_false_iff_not]; exact HE.out), hB5⟩
      · have e : k = l.length := by omega
        have hfin : l = l2 := by
          subst e
          rw [List.take_of_length_le (Nat.le_refl _), List.take_of_length_le (by omega)] at htk
          exact htk
        have HF := Hid.mk' hfin
        clear hfin htk
        go_wp2_with fail
        go_ret
        exact ⟨ret_bool (by symm; rw [decide_eq_true_iff]; exact HF.out), hB⟩
  · have hb : ((l.length : Int) == (l2.length : Int)) = false := by simp; omega
    go_enter Tryz.func48, Tryz.ntmps48
    go_wp2
    go_ret
    exact ⟨ret_bool (by symm; rw [decide_eq_false_iff_not]; intro h; exact hne (by rw [h])), Below.refl _ _⟩
end Go.Proofs.YtggdgceglmbaiaaGreatDoor.recs

namespace Go.Proofs.YtggdgceglmbaiaaGreatDoor.lay
open Go Go.RowKit Go.Proofs.YtggdgceglmbaiaaGreatDoor.base Go.Proofs.YtggdgceglmbaiaaGreatDoor.pairs Go.Proofs.YtggdgceglmbaiaaGreatDoor.ords Go.Proofs.YtggdgceglmbaiaaGreatDoor.recs
set_option linter.unusedVariables false

/-- block X holds the cells vs, behind pre and ahead of post -/
def BoxIn (X : Nat) (T : TypeId) (pre vs post : List Value) (w : World) : Prop := w.heap[X]? = some (.cells (pre ++ vs ++ post).toArray T (0, 0))
section
variable {X : Nat} {T : TypeId} {pre vs post : List Value} {w w' : World} {G F : List Nat}
theorem BoxIn.lt (h : BoxIn X T pre vs post w) : X < w.heap.size := (Array.getElem?_eq_some_iff.1 h).1
theorem BoxIn.keep (h : BoxIn X T pre vs post w) (hk : w'.heap[X]? = w.heap[X]?) : BoxIn X T pre vs post w' := hk.trans h
theorem BoxIn.below (h : BoxIn X T pre vs post w) (hb : Below w.heap.size w w') : BoxIn X T pre vs post w' := h.keep (hb.block X h.lt)
theorem BoxIn.frame (h : BoxIn X T pre vs post w) (hf : Frame G w w') (hn : X ∉ G) : BoxIn X T pre vs post w' := h.keep (hf.block X h.lt hn)
theorem BoxIn.grown {row : Option Nat} (h : BoxIn X T pre vs post w) (hg : w.grownBy w' row) (hn : some X ≠ row) : BoxIn X T pre vs post w' := h.keep (hg.block X h.lt hn)
theorem BoxIn.cell (h : BoxIn X T pre vs post w) (j : Nat) (u : Value) (hj : vs[j]? = some u) : w.cell? ⟨X, pre.length + j, none⟩ = some u := by
  unfold BoxIn at h
  have hl := (List.getElem?_eq_some_iff.1 hj).1
  simp only [World.cell?, h]
  have hu := (List.getElem?_eq_some_iff.1 hj).2
  simp [List.getElem?_append, hl, hu]
theorem BoxIn.fz (h : BoxIn X T pre vs post w) (j : Nat) : w.frozen? ⟨X, j, none⟩ = false := by unfold BoxIn at h; simp [World.frozen?, h]
theorem BoxIn.set (h : BoxIn X T pre vs post w) (j : Nat) (hj : j < vs.length) (u : Value) : BoxIn X T pre (vs.set j u) post (w.setCell ⟨X, pre.length + j, none⟩ u) ∧ w.grownBy (w.setCell ⟨X, pre.length + j, none⟩ u) (some X) := by
  have h1 := set_cur h (pre.length + j) u
  refine ⟨?_, h1.2⟩
  unfold BoxIn
  rw [h1.1]
  congr 2
  rw [List.setIfInBounds_toArray]
  congr 1
  rw [List.append_assoc, List.set_append_right _ _ (by omega), Nat.add_sub_cancel_left, List.set_append_left _ _ hj, List.append_assoc]
theorem boxIn_new (w : World) (vs : List Value) (T : TypeId) : BoxIn w.heap.size T [] vs [] (w.alloc (.cells vs.toArray T)) := by
  unfold BoxIn
  rw [List.nil_append, List.append_nil]
  exact heap_alloc_new w _
end
end Go.Proofs.YtggdgceglmbaiaaGreatDoor.lay

namespace Go.Proofs.YtggdgceglmbaiaaGreatDoor.recs
open Go Go.RowKit Go.Proofs.YtggdgceglmbaiaaGreatDoor.base Go.Proofs.YtggdgceglmbaiaaGreatDoor.pairs Go.Proofs.YtggdgceglmbaiaaGreatDoor.ords Go.Proofs.YtggdgceglmbaiaaGreatDoor.helps
set_option linter.unusedVariables false
set_option linter.unusedSimpArgs false



end Go.Proofs.YtggdgceglmbaiaaGreatDoor.recs

namespace Go.Proofs.YtggdgceglmbaiaaGreatDoor.recs
open Go Go.RowKit Go.Proofs.YtggdgceglmbaiaaGreatDoor.base Go.Proofs.YtggdgceglmbaiaaGreatDoor.pairs Go.Proofs.YtggdgceglmbaiaaGreatDoor.ords Go.Proofs.YtggdgceglmbaiaaGreatDoor.helps
set_option linter.unusedVariables false
set_option linter.unusedSimpArgs false


/-! ### marks -/
def cntR (l : List Rc) : Nat := (l.map fun x => 2 + 3 * x.2.2.length).sum
def markR : Nat → List Rc → List Rc
  | _, [] => []
  | k, x :: l => ((k : Int), ((k + 1 : Nat) : Int), marksO (k + 2) x.2.2.length) :: markR (k + 2 + 3 * x.2.2.length) l
theorem cntR_cons (x : Rc) (l : List Rc) : cntR (x :: l) = 2 + 3 * x.2.2.length + cntR l := by simp [cntR]
theorem cntR_append (a b : List Rc) : cntR (a ++ b) = cntR a + cntR b := by simp [cntR]
theorem cntR_take (l : List Rc) (i : Nat) (h : i < l.length) : cntR (l.take (i + 1)) = cntR (l.take i) + 2 + 3 * l[i].2.2.length := by
  rw [List.take_succ_eq_append_getElem h, cntR_append]; simp [cntR]; omega
theorem cntR_take_le (l : List Rc) (i : Nat) : cntR (l.take i) ≤ cntR l := by
  have : cntR l = cntR (l.take i) + cntR (l.drop i) := by rw [← cntR_append, List.take_append_drop]
  omega
theorem markR_length (k : Nat) (l : List Rc) : (markR k l).length = l.length := by
  induction l generalizing k with
  | nil => rfl
  | cons x l ih => simp [markR, ih]
theorem markR_append (k : Nat) (a b : List Rc) : markR k (a ++ b) = markR k a ++ markR (k + cntR a) b := by
  induction a generalizing k with
  | nil => simp [markR, cntR]
  | cons x a ih => simp only [List.cons_append, markR, ih, cntR_cons, Nat.add_assoc]
def markRTo (l : List Rc) (k i : Nat) : List Rc := markR k (l.take i) ++ l.drop i
theorem markRTo_zero (l : List Rc) (k : Nat) : markRTo l k 0 = l := by simp [markRTo, markR]
theorem markRTo_all (l : List Rc) (k : Nat) : markRTo l k l.length = markR k l := by simp [markRTo]
theorem markRTo_length (l : List Rc) (k i : Nat) (h : i ≤ l.length) : (markRTo l k i).length = l.length := by simp [markRTo, markR_length]; omega
theorem markRTo_at (l : List Rc) (k i : Nat) (h : i < l.length) : (markRTo l k i)[i]'(by rw [markRTo_length l k i (by omega)]; exact h) = l[i] := by
  unfold markRTo
  rw [List.getElem_append_right (by rw [markR_length, List.length_take]; exact Nat.min_le_left _ _)]
  simp [markR_length, Nat.min_eq_left (Nat.le_of_lt h)]
theorem markRTo_set (l : List Rc) (k i : Nat) (h : i < l.length) :
    (markRTo l k i).set i (((k + cntR (l.take i) : Nat) : Int), ((k + cntR (l.take i) + 1 : Nat) : Int), marksO (k + cntR (l.take i) + 2) l[i].2.2.length) = markRTo l k (i + 1) := by
  unfold markRTo
  rw [List.set_append_right _ _ (by rw [markR_length, List.length_take]; exact Nat.min_le_left _ _), markR_length, List.length_take, Nat.min_eq_left (Nat.le_of_lt h), Nat.sub_self, List.drop_eq_getElem_cons h, List.set_cons_zero,
    List.take_succ_eq_append_getElem h, markR_append, List.append_assoc]
  rfl
theorem markR_at (k : Nat) (l : List Rc) (i : Nat) (h : i < l.length) : (markR k l)[i]'(by rw [markR_length]; exact h) = (((k + cntR (l.take i) : Nat) : Int), ((k + cntR (l.take i) + 1 : Nat) : Int), marksO (k + cntR (l.take i) + 2) l[i].2.2.length) := by
  induction l generalizing k i with
  | nil => simp at h
  | cons x l ih =>
    cases i with
    | zero => simp [markR, cntR]
    | succ i =>
      simp only [markR, List.getElem_cons_succ, List.take_succ_cons, cntR_cons]
      rw [ih _ i (by simpa using h)]
      simp only [Nat.add_assoc]

/-- the orders of one record, written over where they lie (or nil) -/
theorem OwnR.setOpsV {w w' : World} {base : Nat} {v : Value} {l : List Rc} {hs : List Value} (h : OwnR w base v l hs) (i : Nat) (hi : i < l.length) (P : List Od) (hP : OwnV w' base (hs[i]'(by have := h.len; omega)) P) (hg : w.grownBy w' (hs[i]'(by have := h.len; omega)).ownBlock) :
    OwnR w' base v (l.set i (l[i].1, l[i].2.1, P)) hs := by
  cases hk : (hs[i]'(by have := h.len; omega)).ownBlock with
  | some k => rw [hk] at hg; exact h.setOps i hi P hP hk hg
  | none =>
    rw [hk] at hg
    have hsm := h.sm l[i] (List.getElem_mem hi)
    have h2 := h.of_blocks (w' := w') (fun k hb => hg.block k (h.lt k hb).2 (by simp))
    refine ⟨by simpa using h.len, mem_set_smallR h.sm ⟨hsm.1, hsm.2.1, hP.1⟩, ?_, fun j hj => ?_, h.apart, h.out⟩
    · rw [recVals_ops l hs i P h.len hi, List.length_set]; exact h2.row
    · have hjl : j < l.length := by simpa using hj
      by_cases e : i = j
      · subst e; rw [List.getElem_set_self]; exact hP
      · rw [List.getElem_set_ne e]; exact h2.ops j hjl
theorem KeepR.grownV {v : Value} {hs : List Value} {w w' w'' : World} {row : Option Nat} (h : KeepR v hs w w') (hg : w'.grownBy w'' row) (hk : ∀ k, row = some k → BlkR v hs k) : KeepR v hs w w'' :=
  ⟨hg.os.trans h.os, hg.tape.trans h.tape, hg.output.trans h.output, Nat.le_trans h.size hg.size, fun j hj hn => (hg.block j (Nat.lt_of_lt_of_le hj h.size) (fun e => hn (hk j e.symm))).trans (h.block j hj hn)⟩


end Go.Proofs.YtggdgceglmbaiaaGreatDoor.recs

namespace Go.Proofs.YtggdgceglmbaiaaGreatDoor.ords
open Go Go.RowKit Go.Proofs.YtggdgceglmbaiaaGreatDoor.base Go.Proofs.YtggdgceglmbaiaaGreatDoor.pairs
set_option linter.unusedVariables false

def V3 (w : World) (g : Nat) (t : TypeId) (x y z : Value) : Prop := w.heap[g]? = some (.cells #[x, y, z] t (0, 0))
section
variable {w w' : World} {g : Nat} {t : TypeId} {x y z : Value}
theorem V3.c0 (h : V3 w g t x y z) : w.cell? ⟨g, 0, none⟩ = some x := cell_cur h 0 _ rfl
theorem V3.c1 (h : V3 w g t x y z) : w.cell? ⟨g, 1, none⟩ = some y := cell_cur h 1 _ rfl
theorem V3.c2 (h : V3 w g t x y z) : w.cell? ⟨g, 2, none⟩ = some z := cell_cur h 2 _ rfl
theorem V3.lt (h : V3 w g t x y z) : g < w.heap.size := (Array.getElem?_eq_some_iff.1 h).1
theorem V3.below (h : V3 w g t x y z) (hb : Below w.heap.size w w') : V3 w' g t x y z := (hb.block g h.lt).trans h
end
theorem v3_grown {w w' : World} {g : Nat} {t : TypeId} {x y z : Value} {row : Option Nat} (h : V3 w g t x y z) (hg : w.grownBy w' row) (hne : some g ≠ row) : V3 w' g t x y z := (hg.block g h.lt hne).trans h
theorem v3_fz {w : World} {g : Nat} {t : TypeId} {x y z : Value} (h : V3 w g t x y z) (j : Nat) : w.frozen? ⟨g, j, none⟩ = false := by
  unfold V3 at h; simp [World.frozen?, h]
theorem v3_set {w : World} {g : Nat} {t : TypeId} {x y z : Value} (h : V3 w g t x y z) : (∀ u, V3 (w.setCell ⟨g, 0, none⟩ u) g t u y z ∧ w.grownBy (w.setCell ⟨g, 0, none⟩ u) (some g)) ∧ (∀ u, V3 (w.setCell ⟨g, 1, none⟩ u) g t x u z ∧ w.grownBy (w.setCell ⟨g, 1, none⟩ u) (some g)) ∧ (∀ u, V3 (w.setCell ⟨g, 2, none⟩ u) g t x y u ∧ w.grownBy (w.setCell ⟨g, 2, none⟩ u) (some g)) :=
  ⟨fun u => ⟨(set_cur h 0 u).1, (set_cur h 0 u).2⟩, fun u => ⟨(set_cur h 1 u).1, (set_cur h 1 u).2⟩, fun u => ⟨(set_cur h 2 u).1, (set_cur h 2 u).2⟩⟩
theorem v3_all {w : World} {g : Nat} {t : TypeId} {x y z : Value} (h : V3 w g t x y z) (a b c : Value) : V3 (((w.setCell ⟨g, 0, none⟩ a).setCell ⟨g, 1, none⟩ b).setCell ⟨g, 2, none⟩ c) g t a b c ∧ w.grownBy (((w.setCell ⟨g, 0, none⟩ a).setCell ⟨g, 1, none⟩ b).setCell ⟨g, 2, none⟩ c) (some g) := by
  have h1 := (v3_set h).1 a
  have h2 := (v3_set h1.1).2.1 b
  have h3 := (v3_set h2.1).2.2 c
  exact ⟨h3.1, grownBy_trans (grownBy_trans h1.2 h2.2) h3.2⟩
end Go.Proofs.YtggdgceglmbaiaaGreatDoor.ords

namespace Go.Proofs.YtggdgceglmbaiaaGreatDoor.pairs
open Go Go.RowKit Go.Proofs.YtggdgceglmbaiaaGreatDoor.base Go.Proofs.YtggdgceglmbaiaaGreatDoor.helps
set_option linter.unusedVariables false
set_option linter.unusedSimpArgs false


structure TrioP (w0 w : World) (gx lx cx : Nat) (X : List Pr) (gg lg cg : Nat) (G : List Pr) (gw lw cw : Nat) (W : List Pr) : Prop where
  bel : Below w0.heap.size w0 w
  x : OwnP w w0.heap.size gx lx cx X
  g : OwnP w w0.heap.size gg lg cg G
  s : OwnP w w0.heap.size gw lw cw W
  xg : gx ≠ gg
  xs : gx ≠ gw
  gs : gg ≠ gw
section
variable {w0 w w' : World} {gx lx cx gg lg cg gw lw cw : Nat} {X G W : List Pr}
theorem TrioP.below (h : TrioP w0 w gx lx cx X gg lg cg G gw lw cw W) (hb : Below w.heap.size w w') : TrioP w0 w' gx lx cx X gg lg cg G gw lw cw W :=
  ⟨h.bel.trans (hb.mono h.bel.size), h.x.below hb, h.g.below hb, h.s.below hb, h.xg, h.xs, h.gs⟩
theorem TrioP.markX (h : TrioP w0 w gx lx cx X gg lg cg G gw lw cw W) {X' : List Pr} (ho : OwnP w' w0.heap.size gx lx cx X') (hg : w.grownBy w' (some gx)) : TrioP w0 w' gx lx cx X' gg lg cg G gw lw cw W :=
  ⟨h.bel.grown hg h.bel.size (fun k e => by cases e; exact h.x.lt.1), ho, h.g.grown hg (by simpa using h.xg.symm), h.s.grown hg (by simpa using h.xs.symm), h.xg, h.xs, h.gs⟩
theorem TrioP.markG (h : TrioP w0 w gx lx cx X gg lg cg G gw lw cw W) {G' : List Pr} (ho : OwnP w' w0.heap.size gg lg cg G') (hg : w.grownBy w' (some gg)) : TrioP w0 w' gx lx cx X gg lg cg G' gw lw cw W :=
  ⟨h.bel.grown hg h.bel.size (fun k e => by cases e; exact h.g.lt.1), h.x.grown hg (by simpa using h.xg), ho, h.s.grown hg (by simpa using h.gs.symm), h.xg, h.xs, h.gs⟩
end

/-! ### arguments -/
def strOf : Value → ByteArray
  | .string s => s
  | _ => ⟨#[]⟩
theorem slp_open {W : World} {ad : Addr} {len cap : Nat} {V0 V1 : Nat → Value} (hl : len ≤ cap) (hm : cap ≤ maxLen)
    (hs : ∀ i, i < len → V0 i = .string (strOf (V0 i)) ∧ V1 i = .string (strOf (V1 i)) ∧ (strOf (V0 i)).size ≤ maxLen ∧ (strOf (V1 i)).size ≤ maxLen)
    (hc : ∀ i, i < len → W.cell? (ad.add (i * 2)) = some (V0 i) ∧ W.cell? (ad.add (i * 2 + 1)) = some (V1 i)) : ∃ l, SlP W (some ad) len l := by
  obtain ⟨b, off, spot⟩ := ad
  refine ⟨(List.range len).map fun i => (strOf (V0 i), strOf (V1 i)), by simp, by omega, ?_, fun h0 => ?_⟩
  · intro p hp
    obtain ⟨i, hi, rfl⟩ := List.mem_map.1 hp
    have := hs i (List.mem_range.1 hi)
    exact ⟨this.2.2.1, this.2.2.2⟩
  · have hspot : spot = none := by simpa [Addr.add] using World.cell?_spot (hc 0 h0).1
    subst hspot
    refine ⟨b, off, rfl, fun i hi => ?_⟩
    have hi' : i < len := by simpa using hi
    have h1 := hc i hi'
    have h2 := hs i hi'
    rw [Addr.add_lit, Addr.add_lit, h2.1, h2.2.1] at h1
    simp only [List.getElem_map, List.getElem_range]
    rw [← Nat.add_assoc] at h1
    exact h1
theorem slp_arg {H : Type} {enc : TypeId × Value → H} {W : World} {a : Option Addr} {len cap fuel : Nat} {x : DataW H × List MemPlace} (t : TypeId) (e : TypeId) (f0 f1 : Field) (ht : Tryz.prog.underlying t = some (.slice e)) (he : Tryz.prog.underlying e = some (.struct #[f0, f1]))
    (ce : Tryz.prog.cellsOf e = 2) (o0 : f0.offset = 0) (o1 : f1.offset = 1) (t0 : f0.type = 9) (t1 : f1.type = 9) (c9 : Tryz.prog.cellsOf 9 = 1)
    (h : DataW.trod enc Tryz.prog W 0 (fun _ => true) true fuel t (Value.cells (.slice a len cap)).toList = some x) : ∃ l, SlP W a len l := by
  rcases Deep.open_slice_pairs ht he ce o0 o1 (by rw [t0]; exact c9) (by rw [t1]; exact c9) h with ⟨hcs, _⟩ | ⟨ad, len', cap', m, n, V0, V1, D0, D1, P0, P1, hcs, _, hl, hm, hmm, _, hx⟩
  · simp [Value.cells] at hcs
    obtain ⟨rfl, rfl, rfl⟩ := hcs
    exact ⟨[], slp_nil _ _⟩
  · simp [Value.cells] at hcs
    obtain ⟨rfl, rfl, rfl⟩ := hcs
    simp at hmm
    refine slp_open (V0 := V0) (V1 := V1) hl hm (fun i hi => ?_) (fun i hi => ⟨(hx i (by omega)).1, (hx i (by omega)).2.1⟩)
    obtain ⟨_, _, h3, h4⟩ := hx i (by omega)
    rw [t0] at h3
    rw [t1] at h4
    obtain ⟨s0, e0, _, z0⟩ := DataW.trod_string Tryz.underlying9 h3
    obtain ⟨s1, e1, _, z1⟩ := DataW.trod_string Tryz.underlying9 h4
    simp at e0 e1
    rw [e0, e1]
    exact ⟨rfl, rfl, z0, z1⟩

set_option maxRecDepth 100000 in
theorem pair_arg {H : Type} {enc : TypeId × Value → H} {W : World} {v : Value} {r : Reach} {base fuel : Nat} {x : DataW H × List MemPlace} (e : TypeId) (f0 f1 : Field) (he : Tryz.prog.underlying e = some (.struct #[f0, f1]))
    (ce : Tryz.prog.cellsOf e = 2) (o0 : f0.offset = 0) (o1 : f1.offset = 1) (t0 : f0.type = 9) (t1 : f1.type = 9) (c9 : Tryz.prog.cellsOf 9 = 1)
    (hok : Value.okWide Tryz.prog W r base e v) (h : DataW.trod enc Tryz.prog W 0 (fun _ => true) true fuel e v.cells.toList = some x) : ∃ p : Pr, v = .agg #[.string p.1, .string p.2] ∧ small p := by
  obtain ⟨cs, rfl, hsz⟩ := WideShapes.okWide_struct he hok
  rw [ce] at hsz
  obtain ⟨xs, m, _, _, _, hxl, hel⟩ := DataW.trod_struct he h
  have g0 := hel 0 f0 rfl
  have g1 := hel 1 f1 rfl
  obtain ⟨l⟩ := cs
  match l, hsz, xs, hxl with
  | [c0, c1], _, [y0, y1], _ =>
    simp [o0, o1, t0, t1, c9, Value.cells] at g0 g1
    obtain ⟨s0, e0, _, z0⟩ := DataW.trod_string Tryz.underlying9 g0
    obtain ⟨s1, e1, _, z1⟩ := DataW.trod_string Tryz.underlying9 g1
    simp at e0 e1
    subst e0 e1
    exact ⟨(s0, s1), rfl, z0, z1⟩

end Go.Proofs.YtggdgceglmbaiaaGreatDoor.pairs

namespace Go.Proofs.YtggdgceglmbaiaaGreatDoor.ords
open Go Go.RowKit Go.Proofs.YtggdgceglmbaiaaGreatDoor.base Go.Proofs.YtggdgceglmbaiaaGreatDoor.pairs
set_option linter.unusedVariables false
set_option linter.unusedSimpArgs false

theorem slo_open {W : World} {ad : Addr} {len cap : Nat} (hl : len ≤ cap) (hm : cap ≤ maxLen) (q : Nat → Od) (hs : ∀ i, i < len → smallO (q i))
    (hc : ∀ i, i < len → W.cell? (ad.add (i * 3)) = some (.int .i64 (q i).1) ∧ W.cell? (ad.add (i * 3 + 1)) = some (.string (q i).2.1) ∧ W.cell? (ad.add (i * 3 + 2)) = some (.string (q i).2.2)) : ∃ l, SlO W (some ad) len l := by
  obtain ⟨b, off, spot⟩ := ad
  refine ⟨(List.range len).map q, by simp, by omega, ?_, fun h0 => ?_⟩
  · intro p hp
    obtain ⟨i, hi, rfl⟩ := List.mem_map.1 hp
    exact hs i (List.mem_range.1 hi)
  · have hspot : spot = none := by simpa [Addr.add] using World.cell?_spot (hc 0 h0).1
    subst hspot
    refine ⟨b, off, rfl, fun i hi => ?_⟩
    have hi' : i < len := by simpa using hi
    have h1 := hc i hi'
    rw [Addr.add_lit, Addr.add_lit, Addr.add_lit] at h1
    simp only [List.getElem_map, List.getElem_range]
    rw [← Nat.add_assoc, ← Nat.add_assoc] at h1
    exact h1
set_option maxRecDepth 100000 in
theorem slo_arg {H : Type} {enc : TypeId × Value → H} {W : World} {a : Option Addr} {len cap fuel : Nat} {x : DataW H × List MemPlace} (t e : TypeId) (f0 f1 f2 : Field) (ht : Tryz.prog.underlying t = some (.slice e)) (he : Tryz.prog.underlying e = some (.struct #[f0, f1, f2]))
    (ce : Tryz.prog.cellsOf e = 3) (o0 : f0.offset = 0) (o1 : f1.offset = 1) (o2 : f2.offset = 2) (t0 : f0.type = 3) (t1 : f1.type = 9) (t2 : f2.type = 9) (c3 : Tryz.prog.cellsOf 3 = 1) (c9 : Tryz.prog.cellsOf 9 = 1)
    (h : DataW.trod enc Tryz.prog W 0 (fun _ => true) true fuel t (Value.cells (.slice a len cap)).toList = some x) : ∃ l, SlO W a len l := by
  rcases Deep.open_slice ht h with ⟨hcs, _⟩ | ⟨ad, len', cap', m, n, D, Pl, hcs, hb, hl, hm, hmm, _, hx⟩
  · simp [Value.cells] at hcs
    obtain ⟨rfl, rfl, rfl⟩ := hcs
    exact ⟨[], slo_nil _ _⟩
  · simp [Value.cells] at hcs
    obtain ⟨rfl, rfl, rfl⟩ := hcs
    simp at hmm
    have each : ∀ i, i < len → ∃ y : Od, smallO y ∧ W.cell? (ad.add (i * 3)) = some (.int .i64 y.1) ∧ W.cell? (ad.add (i * 3 + 1)) = some (.string y.2.1) ∧ W.cell? (ad.add (i * 3 + 2)) = some (.string y.2.2) := by
      intro i hi
      obtain ⟨cs', h1, h2⟩ := hx i (by omega)
      rw [ce] at h1
      obtain ⟨_, hlen, hcell⟩ := World.cells?_some h1
      obtain ⟨xs, k, hk, _, _, hxl, hf⟩ := DataW.trod_struct he h2
      match xs, hxl, cs', hlen with
      | [y0, y1, y2], _, [v0, v1, v2], _ =>
        have k0 := hf 0 f0 rfl
        have k1 := hf 1 f1 rfl
        have k2 := hf 2 f2 rfl
        rw [t0] at k0
        rw [t1] at k1
        rw [t2] at k2
        simp [o0, o1, o2, c3, c9] at k0 k1 k2
        obtain ⟨n0, e0, _, w0⟩ := DataW.trod_int Tryz.underlying3 k0
        obtain ⟨s1, e1, _, w1⟩ := DataW.trod_string Tryz.underlying9 k1
        obtain ⟨s2, e2, _, w2⟩ := DataW.trod_string Tryz.underlying9 k2
        simp at e0 e1 e2
        subst e0 e1 e2
        have d0 := hcell 0 (by omega)
        have d1 := hcell 1 (by omega)
        have d2 := hcell 2 (by omega)
        rw [Deep.add_add] at d0 d1 d2
        exact ⟨(n0, s1, s2), ⟨w0, w1, w2⟩, by simpa using d0, by simpa using d1, by simpa using d2⟩
    obtain ⟨q, hq⟩ := Deep.choose_lt each
    exact slo_open hl hm q (fun i hi => (hq i hi).1) (fun i hi => (hq i hi).2)
end Go.Proofs.YtggdgceglmbaiaaGreatDoor.ords
