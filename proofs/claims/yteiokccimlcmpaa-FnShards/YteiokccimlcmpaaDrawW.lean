/- Draws of orders that are right. -/
import Derived.Test.YteiokccimlcmpaaDrawO
import Derived.Test.YteiokccimlcmpaaRowV
namespace Go.Proofs.Yteiokccimlcmpaa.ords
open Go Go.RowKit Go.Proofs.Yteiokccimlcmpaa.base Go.Proofs.Yteiokccimlcmpaa.pairs Go.Proofs.Yteiokccimlcmpaa.draw
set_option linter.unusedVariables false
set_option linter.unusedSimpArgs false

theorem some_atI (zs : Array Value) (n : Nat) (f : Int → Bool) (h : (List.range n).all (fun i => match zs[i]? with | some (.int .i64 z) => f z | _ => false) = true) : ∀ i, i < n → ∃ z, zs[i]? = some (.int .i64 z) ∧ f z = true := by
  intro i hi
  have := List.all_eq_true.1 h i (List.mem_range.2 hi)
  split at this
  · rename_i z hz; exact ⟨z, hz, this⟩
  · cases this
def GotOd (w0 w : World) (gc : Nat) (a : Option Addr) (len cap : Nat) (code : List UInt8) (e : Ending) (w' : World) : Prop :=
  ∃ o : Od, odOk o = true ∧ e = .returned (.agg #[.int .i64 o.1, .string o.2.1, .string o.2.2]) ∧ Cur w0 w' gc a len cap code ∧ w.grownBy w' (some gc)
theorem odOk_small {o : Od} (h : odOk o = true) : smallO o := by
  obtain ⟨h1, _, h3, h4⟩ := (odOk_iff o).1 h
  have := keyOk_size h3
  exact ⟨WalkArith.wf_i64 (by omega), by unfold maxLen; omega, by unfold maxLen; omega⟩
set_option maxRecDepth 100000 in
set_option maxHeartbeats 2000000 in
theorem d_op1 (w0 w : World) (gc : Nat) (a : Option Addr) (len cap : Nat) (code : List UInt8) (h : Cur w0 w gc a len cap code) :
    Calls Try.prog 102 #[.pointer (some ⟨gc, 0, none⟩)] w fun e w' => GotOd w0 w gc a len cap code e w' := by
  have hcl := h.lt
  have hge := h.ge
  obtain ⟨wa, hwa⟩ : ∃ wa, w.alloc (.cells #[.int .i64 0, .string ⟨#[]⟩, .string ⟨#[]⟩] 40) = wa := ⟨_, rfl⟩
  have hba : Below w.heap.size w wa := by rw [← hwa]; exact (Below.refl _ _).alloc (Nat.le_refl _) _
  have hsa : wa.heap.size = w.heap.size + 1 := by rw [← hwa]; simp
  have hRa : V3 wa w.heap.size 40 (.int .i64 0) (.string ⟨#[]⟩) (.string ⟨#[]⟩) := by rw [← hwa]; exact heap_alloc_new w _
  have HWA := Hid.mk' hwa
  clear hwa
  go_enter Try.func102, Try.ntmps102
  go_wp2_with fail
  rw [HWA.out]
  clear HWA
  have hbb : Below wa.heap.size wa (wa.alloc (.cells #[.int .i64 1, .int .i64 1, .int .i64 1, .int .i64 2, .int .i64 3] 3)) := (Below.refl _ _).alloc (Nat.le_refl _) _
  have hL := heap_alloc_new wa (.cells #[.int .i64 1, .int .i64 1, .int .i64 1, .int .i64 2, .int .i64 3] 3)
  rw [hsa] at hL
  refine (int_ w0 _ gc a len cap code (w.heap.size + 1) 5 5 _ _ ((h.below hba).below hbb) hL rfl (by omega) (by omega) (by omega) (fun z => decide (1 ≤ z ∧ z ≤ 3) = true) (some_atI _ 5 (fun z => decide (1 ≤ z ∧ z ≤ 3)) (by kernel_rfl))).mono ?_
  rintro e w1 ⟨z, hz, rfl, hc1, hg1⟩
  go_wp2_with fail
  refine (d_keyG w0 _ gc a len cap code hc1).mono ?_
  rintro e w2 ⟨key, hkey, rfl, hc2, hg2⟩
  have hR1 := hRa.below hbb
  have hR2 := v3_grown hR1 hg1 (by simp; omega)
  have hR3 := v3_grown hR2 hg2 (by simp; omega)
  have hG2 : w.grownBy w2 (some gc) := grownBy_trans (grown_below (grown_below (World.grownBy.refl _ _) hba) hbb) (grownBy_trans hg1 hg2)
  have hcl2 := hc2.lt
  have hs2 : w.heap.size < w2.heap.size := hR3.lt
  clear hR1 hR2 hRa hL hc1 hg1 hg2 hba
  obtain ⟨w3, hw3⟩ : ∃ w3, w2.alloc (.cells #[.int .i64 z, .string key, .string ⟨#[]⟩] 40) = w3 := ⟨_, rfl⟩
  have hb3 : Below w2.heap.size w2 w3 := by rw [← hw3]; exact (Below.refl _ _).alloc (Nat.le_refl _) _
  have hV3 : V3 w3 w2.heap.size 40 (.int .i64 z) (.string key) (.string ⟨#[]⟩) := by rw [← hw3]; exact heap_alloc_new w2 _
  have hs3 : w3.heap.size = w2.heap.size + 1 := by rw [← hw3]; simp
  have hR4 := hR3.below hb3
  have hc3 := hc2.below hb3
  have hG3 := grown_below hG2 hb3
  have hz' := of_decide_eq_true hz
  have hko := goodK_ok hkey
  have HW3 := Hid.mk' hw3
  clear hw3 hb3 hz hkey
  by_cases hz2 : z = 2
  · subst hz2
    have HOK : Hid (odOk ((2 : Int), key, (⟨#[]⟩ : ByteArray)) = true) := (odOk_iff _).2 ⟨hz', fun _ => rfl, hko, by show (0 : Nat) ≤ 20; omega⟩
    have r0 := hR3.c0
    have r1 := hR3.c1
    have r2 := hR3.c2
    have q0 := v3_fz hR3 0
    have q1 := v3_fz hR3 1
    have q2 := v3_fz hR3 2
    have hfin := (v3_all hR3 (.int .i64 2) (.string key) (.string ⟨#[]⟩)).2
    have hcz := hc2.grown hfin (by simp; omega) (fun k e => by cases e; omega)
    have hgz := grown_own hG2 hfin (Nat.le_refl _)
    have hbz : ∀ W : World, Below W.heap.size W (W.alloc (.cells #[.int .i64 2, .string key, .string ⟨#[]⟩] 40)) := fun W => (Below.refl _ _).alloc (Nat.le_refl _) _
    have HVz := Hid.mk' ((v3_all hR3 (.int .i64 2) (.string key) (.string ⟨#[]⟩)).1.below (hbz _))
    have HCz := Hid.mk' (hcz.below (hbz _))
    have HGz := Hid.mk' (grown_below hgz (hbz _))
    clear hfin hcz hgz hbz hc2 hG2 hR3 hc3 hG3 hV3 hR4 HW3 hs3
    go_wp2_with fail
    refine bodyPost_ret (v := .agg #[.int .i64 2, .string key, .string ⟨#[]⟩]) ?_ rfl ⟨((2 : Int), key, (⟨#[]⟩ : ByteArray)), HOK.out, rfl, HCz.out, HGz.out⟩
    simp [results, Try.results102, go_sem, HVz.out.c0, HVz.out.c1, HVz.out.c2]
  · have hzb : (z == 2) = false := beq_eq_false_iff_ne.2 hz2
    have hzn : ¬ z = 2 := hz2
    clear hz2 hR3 hc2 hG2
    obtain ⟨w4, hw4⟩ : ∃ w4, w3.alloc (.cells #[.string ⟨#[49]⟩, .string ⟨#[50]⟩, .string ⟨#[120]⟩, .string ⟨#[]⟩, .string ⟨#[49]⟩] 9) = w4 := ⟨_, rfl⟩
    have hb4 : Below w3.heap.size w3 w4 := by rw [← hw4]; exact (Below.refl _ _).alloc (Nat.le_refl _) _
    have hL4 : w4.heap[w2.heap.size + 1]? = some (.cells #[.string ⟨#[49]⟩, .string ⟨#[50]⟩, .string ⟨#[120]⟩, .string ⟨#[]⟩, .string ⟨#[49]⟩] 9) := by
      have := heap_alloc_new w3 (.cells #[.string ⟨#[49]⟩, .string ⟨#[50]⟩, .string ⟨#[120]⟩, .string ⟨#[]⟩, .string ⟨#[49]⟩] 9)
      rw [hs3, hw4] at this
      exact this
    have HST := Hid.mk' (str_ w0 w4 gc a len cap code (w2.heap.size + 1) 5 5 _ _ (hc3.below hb4) hL4 rfl (by omega) (by omega) (by omega) (fun z => decide (z.size ≤ 20) = true) (some_atB _ 5 (fun z => decide (z.size ≤ 20)) (by kernel_rfl)))
    rw [← hw4, ← HW3.out] at HST
    have HB4 := Hid.mk' hb4
    have HW4 := Hid.mk' hw4
    clear hw4 hL4 hb4
    go_wp2_with fail
    refine HST.out.mono ?_
    rw [HW3.out, HW4.out]
    rintro e w5 ⟨val, hval, rfl, hc5, hg5⟩
    have hV5 := v3_grown (hV3.below HB4.out) hg5 (by simp; omega)
    have hR5 := v3_grown (hR4.below HB4.out) hg5 (by simp; omega)
    have hG5 := grownBy_trans (grown_below hG3 HB4.out) hg5
    have HOK : Hid (odOk (z, key, val) = true) := (odOk_iff _).2 ⟨hz', fun e => absurd e hzn, hko, of_decide_eq_true hval⟩
    clear HST HB4 HW4 HW3 hV3 hR4 hG3 hc3 hg5
    have t0 := hV5.c0
    have t1 := hV5.c1
    have t2 := hV5.c2
    have t3 := v3_fz hV5 2
    have hset := (v3_set hV5).2.2 (.string val)
    have hR6 := v3_grown hR5 hset.2 (by simp; omega)
    have hc6 := hc5.grown hset.2 (by simp; omega) (fun k e => by cases e; omega)
    have hG6 := grown_own hG5 hset.2 (by omega)
    have r0 := hR5.c0
    have r1 := hR5.c1
    have r2 := hR5.c2
    have q0 := v3_fz hR5 0
    have q1 := v3_fz hR5 1
    have q2 := v3_fz hR5 2
    have hfin := (v3_all hR6 (.int .i64 z) (.string key) (.string val)).2
    have HCz := Hid.mk' (hc6.grown hfin (by simp; omega) (fun k e => by cases e; omega))
    have HGz := Hid.mk' (grown_own hG6 hfin (Nat.le_refl _))
    have hnn : w.heap.size ≠ w2.heap.size := by omega
    clear hfin hc6 hG6 hR6 hset hV5 hR5 hc5 hG5
    go_wp2_with fail
    refine bodyPost_ret (v := .agg #[.int .i64 z, .string key, .string val]) ?_ rfl ⟨(z, key, val), HOK.out, rfl, HCz.out, HGz.out⟩
    simp [results, Try.results102, go_sem, r0, r1, r2]
end Go.Proofs.Yteiokccimlcmpaa.ords
