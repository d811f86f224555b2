/- The laws' own comparison of records, at records that are alike. -/
import Derived.Test.YtooiinicnkhlbaaDoorBund8at
import Derived.Test.YtooiinicnkhlbaaDoorBund8as
namespace Go.Proofs.YtooiinicnkhlbaaDoor.recs
open Go Go.RowKit Go.Proofs.YtooiinicnkhlbaaDoor.base Go.Proofs.YtooiinicnkhlbaaDoor.pairs Go.Proofs.YtooiinicnkhlbaaDoor.ords Go.Proofs.YtooiinicnkhlbaaDoor.helps
set_option linter.unusedVariables false
set_option linter.unusedSimpArgs false

theorem sameO (a a2 : Option Addr) (len cap len2 cap2 : Nat) (l : List Od) (w : World) (h : SlO w a len l) (h2 : SlO w a2 len2 l) :
    Calls Tryd.prog 48 #[.slice a len cap, .slice a2 len2 cap2] w fun e w' => e = .returned (.bool true) ∧ Below w.heap.size w w' := by
  refine (sameOps a a2 len cap len2 cap2 l l w h h2).mono ?_
  rintro e w' ⟨rfl, n, rfl⟩
  exact ⟨by simp, below_drewN (Below.refl _ _) n⟩
set_option maxRecDepth 100000 in
set_option maxHeartbeats 2000000 in
theorem sameRecT (kind tx : Int) (pa qa : Option Addr) (pl pc ql qc : Nat) (l : List Od) (w : World) (hx : SlO w pa pl l) (hy : SlO w qa ql l) :
    Calls Tryd.prog 17 #[.agg #[.int .i64 kind, .int .i64 tx, .slice pa pl pc], .agg #[.int .i64 kind, .int .i64 tx, .slice qa ql qc]] w fun e w' => e = .returned (.bool true) ∧ Below w.heap.size w w' := by
  obtain ⟨W, hW⟩ : ∃ W, (w.alloc (.cells #[.int .i64 kind, .int .i64 tx, .slice pa pl pc] 26)).alloc (.cells #[.int .i64 kind, .int .i64 tx, .slice qa ql qc] 26) = W := ⟨_, rfl⟩
  have hB : Below w.heap.size w W := by rw [← hW]; exact ((Below.refl _ _).alloc (Nat.le_refl _) _).alloc (by simp) _
  have HE := Hid.mk' (sameO pa qa pl pc ql qc l W (hx.below hB) (hy.below hB))
  have HW := Hid.mk' hW
  have hn : (kind == kind) = true := by simp
  have hf : (tx == tx) = true := by simp
  clear hW hx hy
  go_enter Tryd.func17, Tryd.ntmps17
  go_wp2_with fail
  rw [HW.out]
  refine HE.out.mono ?_
  rintro e w1 ⟨rfl, hb1⟩
  have hB1 := hB.trans (hb1.mono hB.size)
  clear HE HW hb1
  go_wp2_with fail
  go_ret
  exact ⟨rfl, hB1⟩
set_option maxRecDepth 100000 in
set_option maxHeartbeats 2000000 in
theorem sameRecsT (a a2 : Option Addr) (len cap cap2 : Nat) (l : List Rc) (w : World) (h : SlR w a len l) (h2 : SlR w a2 len l) :
    Calls Tryd.prog 23 #[.slice a len cap, .slice a2 len cap2] w fun e w' => e = .returned (.bool true) ∧ Below w.heap.size w w' := by
  obtain ⟨hl, hm, hsm, hc⟩ := id h
  obtain ⟨_, _, _, hc2⟩ := id h2
  subst hl
  unfold maxLen at hm
  have hb : ((l.length : Int) == (l.length : Int)) = true := by simp
  go_enter Tryd.func23, Tryd.ntmps23
  go_wp2_with fail
  go_loopw [5] (fun i wr => ∃ k : Nat, k ≤ l.length ∧ i = .int .i64 k ∧ Below w.heap.size w wr) (fun i _ => l.length - (intOf i).toNat)
  case atStart => exact ⟨0, Nat.zero_le _, rfl, Below.refl _ _⟩
  case round =>
    obtain ⟨k, hk, rfl, hB⟩ := hrel
    by_cases hlt : k < l.length
    · obtain ⟨b, off, ha, hcl⟩ := hc (by omega)
      obtain ⟨b2, off2, ha2, hcl2⟩ := hc2 (by omega)
      subst ha ha2
      have hki : (k : Int) < (l.length : Int) := by omega
      have i1 := h.at k hlt
      have i2 := h2.at k hlt
      have hb1 : b < w.heap.size := World.block_lt_of_cell? w _ i1.1
      have hb2 : b2 < w.heap.size := World.block_lt_of_cell? w _ i2.1
      have hbs := hB.size
      obtain ⟨c1, c2, pa, pl, pc, c3, hS1, _⟩ := i1.below hB
      obtain ⟨c4, c5, qa, ql, qc, c6, hS2, _⟩ := i2.below hB
      have o1 := last.On.cell (B := wr.heap.size) c1 (by omega)
      have o2 := last.On.cell (B := wr.heap.size) c2 (by omega)
      have o3 := last.On.cell (B := wr.heap.size) c3 (by omega)
      have o4 := last.On.cell (B := wr.heap.size) c4 (by omega)
      have o5 := last.On.cell (B := wr.heap.size) c5 (by omega)
      have o6 := last.On.cell (B := wr.heap.size) c6 (by omega)
      have hinh := last.On.inh wr.heap.size wr
      have hcall : ∀ x : last.On wr.heap.size wr, Calls Tryd.prog 17 #[.agg #[.int .i64 l[k].1, .int .i64 l[k].2.1, .slice pa pl pc], .agg #[.int .i64 l[k].1, .int .i64 l[k].2.1, .slice qa ql qc]] x.w fun e w' => e = .returned (.bool true) ∧ ∃ y : last.On wr.heap.size wr, w' = y.w := fun x => last.Calls.on x (Nat.le_refl _) (sameRecT l[k].1 l[k].2.1 pa qa pl pc ql qc l[k].2.2 x.w (hS1.below x.2) (hS2.below x.2))
      clear hcl hcl2 hc hc2 i1 i2 hsm h h2 hS1 hS2
      generalize l[k] = p at *
      go_wp2_with fail
      refine last.wp_region_on wr.heap.size (by kernel_rfl) (by kernel_rfl) ?_
      repeat (go_big_quiet_step ((go_at_call 17; exact hcall _)))
      refine wpQuiet_nil ?_
      intro w5 hw5
      obtain ⟨x5, hw5⟩ := hw5
      subst hw5
      have hB5 : Below w.heap.size w x5.w := hB.trans (x5.2.mono hB.size)
      go_wp2_with fail
      go_roundw
      case rel => exact ⟨k + 1, by omega, by go_num, hB5⟩
      case measure => simp [intOf]; omega
    · go_wp2_with fail
      go_ret
      exact ⟨rfl, hB⟩
set_option maxRecDepth 100000 in
set_option maxHeartbeats 2000000 in
/-- sameRec at any two records -/
theorem sameRecG (k t k2 t2 : Int) (pa qa : Option Addr) (pl pc ql qc : Nat) (l l2 : List Od) (w : World) (hx : SlO w pa pl l) (hy : SlO w qa ql l2) :
    Calls Tryd.prog 17 #[.agg #[.int .i64 k, .int .i64 t, .slice pa pl pc], .agg #[.int .i64 k2, .int .i64 t2, .slice qa ql qc]] w fun e w' => e = .returned (.bool (decide ((k, t, l) = (k2, t2, l2)))) ∧ Below w.heap.size w w' := by
  obtain ⟨W, hW⟩ : ∃ W, (w.alloc (.cells #[.int .i64 k, .int .i64 t, .slice pa pl pc] 26)).alloc (.cells #[.int .i64 k2, .int .i64 t2, .slice qa ql qc] 26) = W := ⟨_, rfl⟩
  have hB : Below w.heap.size w W := by rw [← hW]; exact ((Below.refl _ _).alloc (Nat.le_refl _) _).alloc (by simp) _
  by_cases hk : k = k2
  · subst hk
    by_cases ht : t = t2
    · subst ht
      have HE := Hid.mk' (sameOps pa qa pl pc ql qc l l2 W (hx.below hB) (hy.below hB))
      have HW := Hid.mk' hW
      have hn : (k == k) = true := by simp
      have hf : (t == t) = true := by simp
      have hd : Hid (decide (l = l2) = decide ((k, t, l) = (k, t, l2))) := by
        show _ = _
        by_cases e : l = l2
        · subst e; simp
        · rw [decide_eq_false e, decide_eq_false (fun h => e (by simpa using h))]
      clear hW hx hy
      cases hdv : decide (l = l2)
      all_goals
        rw [hdv] at HE hd
        rw [← hd.out]
        clear hdv hd
        go_enter Tryd.func17, Tryd.ntmps17
        go_wp2_with fail
        rw [HW.out]
        refine HE.out.mono ?_
        rintro e w1 ⟨rfl, m, rfl⟩
        have hB1 := below_drewN hB m
        clear HE HW
        go_wp2_with fail
        go_ret
        exact ⟨rfl, hB1⟩
    · have hf : (t == t2) = false := beq_eq_false_iff_ne.2 ht
      have hn : (k == k) = true := by simp
      have hdk : decide ((k, t, l) = (k, t2, l2)) = false := decide_eq_false (fun h => ht (by simp at h; exact h.1))
      rw [hdk]
      rw [← hW] at hB
      clear hW hx hy hdk
      go_enter Tryd.func17, Tryd.ntmps17
      go_wp2_with fail
      go_ret
      exact ⟨rfl, hB⟩
  · have hn : (k == k2) = false := beq_eq_false_iff_ne.2 hk
    have hdk : decide ((k, t, l) = (k2, t2, l2)) = false := decide_eq_false (fun h => hk (by simp at h; exact h.1))
    rw [hdk]
    rw [← hW] at hB
    clear hW hx hy hdk
    go_enter Tryd.func17, Tryd.ntmps17
    go_wp2_with fail
    go_ret
    exact ⟨rfl, hB⟩
end Go.Proofs.YtooiinicnkhlbaaDoor.recs
