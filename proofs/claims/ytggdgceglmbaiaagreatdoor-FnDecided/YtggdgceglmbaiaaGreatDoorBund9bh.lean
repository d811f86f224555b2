/- Draws of records, and where their transactions lie. A drawn shard with one thing changed. -/
import Derived.Test.YtggdgceglmbaiaaGreatDoorBund9bd
import Derived.Test.YtggdgceglmbaiaaGreatDoorBund9be
import Derived.Test.YtggdgceglmbaiaaGreatDoorBund9bg
namespace Go.Proofs.YtggdgceglmbaiaaGreatDoor.recs
open Go Go.RowKit Go.Proofs.YtggdgceglmbaiaaGreatDoor.base Go.Proofs.YtggdgceglmbaiaaGreatDoor.pairs Go.Proofs.YtggdgceglmbaiaaGreatDoor.draw Go.Proofs.YtggdgceglmbaiaaGreatDoor.ords
set_option linter.unusedVariables false
set_option linter.unusedSimpArgs false

def farT (t : Int) : Prop := t ≤ 4 ∨ 1000000 ≤ t
def GotRec4 (w0 w : World) (gc : Nat) (a : Option Addr) (len cap : Nat) (code : List UInt8) (e : Ending) (w' : World) : Prop :=
  ∃ (r : Rc) (v : Value), (recOk r = true ∧ r.2.1 ≤ 4) ∧ e = .returned (.agg #[.int .i64 r.1, .int .i64 r.2.1, v]) ∧ OwnV w' w.heap.size v r.2.2 ∧ Cur w0 w' gc a len cap code ∧ w.grownBy w' (some gc)
set_option maxRecDepth 100000 in
set_option maxHeartbeats 2000000 in
theorem d_rec4 (w0 w : World) (gc : Nat) (a : Option Addr) (len cap : Nat) (code : List UInt8) (h : Cur w0 w gc a len cap code) :
    Calls Tryz.prog 59 #[.pointer (some ⟨gc, 0, none⟩)] w fun e w' => GotRec4 w0 w gc a len cap code e w' := by
  have hcl := h.lt
  have hge := h.ge
  obtain ⟨wa, hwa⟩ : ∃ wa, w.alloc (.cells #[.int .i64 0, .int .i64 0, .slice none 0 0] 36) = wa := ⟨_, rfl⟩
  have hba : Below w.heap.size w wa := by rw [← hwa]; exact (Below.refl _ _).alloc (Nat.le_refl _) _
  have hsa : wa.heap.size = w.heap.size + 1 := by rw [← hwa]; simp
  have hRa : V3 wa w.heap.size 36 (.int .i64 0) (.int .i64 0) (.slice none 0 0) := by rw [← hwa]; exact heap_alloc_new w _
  have HWA := Hid.mk' hwa
  clear hwa
  go_enter Tryz.func59, Tryz.ntmps59
  go_wp2_with fail
  rw [HWA.out]
  clear HWA
  have hbb : Below wa.heap.size wa (wa.alloc (.cells #[.int .i64 1, .int .i64 1, .int .i64 2, .int .i64 3] 3)) := (Below.refl _ _).alloc (Nat.le_refl _) _
  have hL := heap_alloc_new wa (.cells #[.int .i64 1, .int .i64 1, .int .i64 2, .int .i64 3] 3)
  rw [hsa] at hL
  refine (int_ w0 _ gc a len cap code (w.heap.size + 1) 4 4 _ _ ((h.below hba).below hbb) hL rfl (by omega) (by omega) (by omega) (fun z => decide (1 ≤ z ∧ z ≤ 3) = true) (some_atI _ 4 (fun z => decide (1 ≤ z ∧ z ≤ 3)) (by kernel_rfl))).mono ?_
  rintro e w1 ⟨z, hz, rfl, hc1, hg1⟩
  go_wp2_with fail
  refine (below_ w0 _ gc a len cap code _ hc1 (by omega) (by omega)).mono ?_
  rintro e w2 ⟨x, hx, rfl, hc2, hg2⟩
  have hR1 := hRa.below hbb
  have hR2 := v3_grown hR1 hg1 (by simp; omega)
  have hR3 := v3_grown hR2 hg2 (by simp; omega)
  have hG2 : w.grownBy w2 (some gc) := grownBy_trans (grown_below (grown_below (World.grownBy.refl _ _) hba) hbb) (grownBy_trans hg1 hg2)
  have hcl2 := hc2.lt
  have hs2 : w.heap.size < w2.heap.size := hR3.lt
  clear hR1 hR2 hRa hL hc1 hg1 hg2 hba
  obtain ⟨w3, hw3⟩ : ∃ w3, w2.alloc (.cells #[.int .i64 z, .int .i64 (1 + (x : Int)), .slice none 0 0] 36) = w3 := ⟨_, rfl⟩
  have hb3 : Below w2.heap.size w2 w3 := by rw [← hw3]; exact (Below.refl _ _).alloc (Nat.le_refl _) _
  have hV3 : V3 w3 w2.heap.size 36 (.int .i64 z) (.int .i64 (1 + (x : Int))) (.slice none 0 0) := by rw [← hw3]; exact heap_alloc_new w2 _
  have hs3 : w3.heap.size = w2.heap.size + 1 := by rw [← hw3]; simp
  have hR4 := hR3.below hb3
  have hc3 := hc2.below hb3
  have hG3 := grown_below hG2 hb3
  have hz' := of_decide_eq_true hz
  have HW3 := Hid.mk' hw3
  clear hw3 hb3 hz
  by_cases hz1 : z = 1
  · subst hz1
    have HOP := Hid.mk' (d_ops w0 w3 gc a len cap code hc3)
    rw [← HW3.out] at HOP
    clear hR3 hc2 hG2 hc3
    go_wp2_with fail
    refine HOP.out.mono ?_
    rw [HW3.out]
    rintro e w5 ⟨g, n, cp, l, hn, hok, rfl, hO5, hc5, hg5⟩
    have hV5 := v3_grown hV3 hg5 (by simp; omega)
    have hR5 := v3_grown hR4 hg5 (by simp; omega)
    have hG5 := grownBy_trans hG3 hg5
    have hgl := hO5.lt
    have HOK : Hid (recOk ((1 : Int), 1 + (x : Int), l) = true) := (recOk_iff _).2 ⟨⟨by show (1 : Int) ≤ 1 + (x : Int); omega, by show 1 + (x : Int) ≤ 1000000; omega⟩, .inl ⟨rfl, hok⟩⟩
    clear HOP HW3 hV3 hR4 hG3 hg5 hok
    have t0 := hV5.c0
    have t1 := hV5.c1
    have t2 := hV5.c2
    have t3 := v3_fz hV5 2
    have hset := (v3_set hV5).2.2 (.slice (some ⟨g, 0, none⟩) n cp)
    have hR6 := v3_grown hR5 hset.2 (by simp; omega)
    have hc6 := hc5.grown hset.2 (by simp; omega) (fun k e => by cases e; omega)
    have hG6 := grown_own hG5 hset.2 (by omega)
    have hO6 := hO5.grown hset.2 (by simp; omega)
    have r0 := hR5.c0
    have r1 := hR5.c1
    have r2 := hR5.c2
    have q0 := v3_fz hR5 0
    have q1 := v3_fz hR5 1
    have q2 := v3_fz hR5 2
    have hfin := (v3_all hR6 (.int .i64 1) (.int .i64 (1 + (x : Int))) (.slice (some ⟨g, 0, none⟩) n cp)).2
    have HCz := Hid.mk' (hc6.grown hfin (by simp; omega) (fun k e => by cases e; omega))
    have HGz := Hid.mk' (grown_own hG6 hfin (Nat.le_refl _))
    have HOz := Hid.mk' (ownV_of ((hO6.grown hfin (by simp; omega)).mono (base' := w.heap.size) (by omega)))
    have hnn : w.heap.size ≠ w2.heap.size := by omega
    clear hfin hc6 hG6 hR6 hset hV5 hR5 hc5 hG5 hO5 hO6
    go_wp2_with fail
    refine bodyPost_ret (v := .agg #[.int .i64 1, .int .i64 (1 + (x : Int)), .slice (some ⟨g, 0, none⟩) n cp]) ?_ rfl ⟨((1 : Int), 1 + (x : Int), l), _, ⟨HOK.out, by show 1 + (x : Int) ≤ 4; omega⟩, rfl, HOz.out, HCz.out, HGz.out⟩
    simp [results, Tryz.results59, go_sem, r0, r1, r2]
  · have hzb : (z == 1) = false := beq_eq_false_iff_ne.2 hz1
    have HOK : Hid (recOk (z, 1 + (x : Int), []) = true) := (recOk_iff _).2 ⟨⟨by show (1 : Int) ≤ 1 + (x : Int); omega, by show 1 + (x : Int) ≤ 1000000; omega⟩, .inr ⟨by show z = 2 ∨ z = 3; omega, rfl⟩⟩
    have r0 := hR3.c0
    have r1 := hR3.c1
    have r2 := hR3.c2
    have q0 := v3_fz hR3 0
    have q1 := v3_fz hR3 1
    have q2 := v3_fz hR3 2
    have hfin := (v3_all hR3 (.int .i64 z) (.int .i64 (1 + (x : Int))) (.slice none 0 0)).2
    have hcz := hc2.grown hfin (by simp; omega) (fun k e => by cases e; omega)
    have hgz := grown_own hG2 hfin (Nat.le_refl _)
    have hbz : ∀ W : World, Below W.heap.size W (W.alloc (.cells #[.int .i64 z, .int .i64 (1 + (x : Int)), .slice none 0 0] 36)) := fun W => (Below.refl _ _).alloc (Nat.le_refl _) _
    have HVz := Hid.mk' ((v3_all hR3 (.int .i64 z) (.int .i64 (1 + (x : Int))) (.slice none 0 0)).1.below (hbz _))
    have HCz := Hid.mk' (hcz.below (hbz _))
    have HGz := Hid.mk' (grown_below hgz (hbz _))
    clear hfin hcz hgz hbz hc2 hG2 hR3 hc3 hG3 hV3 hR4 HW3 hs3
    go_wp2_with fail
    refine bodyPost_ret (v := .agg #[.int .i64 z, .int .i64 (1 + (x : Int)), .slice none 0 0]) ?_ rfl ⟨(z, 1 + (x : Int), []), _, ⟨HOK.out, by show 1 + (x : Int) ≤ 4; omega⟩, rfl, ownV_nil _ _, HCz.out, HGz.out⟩
    simp [results, Tryz.results59, go_sem, HVz.out.c0, HVz.out.c1, HVz.out.c2]
def GotAnyT (w0 w : World) (gc : Nat) (a : Option Addr) (len cap : Nat) (code : List UInt8) (e : Ending) (w' : World) : Prop :=
  ∃ (r : Rc) (v : Value), (tinyR r ∧ farT r.2.1) ∧ e = .returned (.agg #[.int .i64 r.1, .int .i64 r.2.1, v]) ∧ OwnV w' w.heap.size v r.2.2 ∧ Cur w0 w' gc a len cap code ∧ w.grownBy w' (some gc)
set_option maxRecDepth 100000 in
set_option maxHeartbeats 2000000 in
theorem d_anyT (w0 w : World) (gc : Nat) (a : Option Addr) (len cap : Nat) (code : List UInt8) (h : Cur w0 w gc a len cap code) :
    Calls Tryz.prog 35 #[.pointer (some ⟨gc, 0, none⟩)] w fun e w' => GotAnyT w0 w gc a len cap code e w' := by
  have hcl := h.lt
  have hge := h.ge
  obtain ⟨wa, hwa⟩ : ∃ wa, w.alloc (.cells #[.int .i64 0, .int .i64 0, .slice none 0 0] 36) = wa := ⟨_, rfl⟩
  have hba : Below w.heap.size w wa := by rw [← hwa]; exact (Below.refl _ _).alloc (Nat.le_refl _) _
  have hsa : wa.heap.size = w.heap.size + 1 := by rw [← hwa]; simp
  have hRa : V3 wa w.heap.size 36 (.int .i64 0) (.int .i64 0) (.slice none 0 0) := by rw [← hwa]; exact heap_alloc_new w _
  have HWA := Hid.mk' hwa
  clear hwa
  go_enter Tryz.func35, Tryz.ntmps35
  go_wp2_with fail
  rw [HWA.out]
  clear HWA
  refine (d_rec4 w0 _ gc a len cap code (h.below hba)).mono ?_
  rintro e w1 ⟨⟨k, t, l⟩, v, ⟨hok, ht4⟩, rfl, hv1, hc1, hg1⟩
  have ht0 := tinyR_ok hok
  have ht4 : farT t := .inl ht4
  have hka : 0 ≤ k ∧ k ≤ 5 := ht0.1
  have hta : 0 ≤ t ∧ t ≤ 1000001 := ht0.2.1
  have hla : l.length ≤ 8 := ht0.2.2.1
  have HTO : Hid (∀ p ∈ l, tinyO p) := ht0.2.2.2
  have hv1 : OwnV w1 wa.heap.size v l := hv1
  obtain ⟨pa, pc, hv, _, _⟩ := hv1.sl
  obtain ⟨n, hn⟩ : ∃ n, l.length = n := ⟨_, rfl⟩
  rw [hn] at hv
  subst hv
  have hne : ∀ g, (Value.slice pa n pc).ownBlock = some g → w.heap.size < g ∧ g < w1.heap.size := fun g e => by have := hv1.lt g e; omega
  have hR1 := v3_grown hRa hg1 (by simp; omega)
  have hG1 : w.grownBy w1 (some gc) := grownBy_trans (grown_below (World.grownBy.refl _ _) hba) hg1
  have hs1 : w.heap.size < w1.heap.size := hR1.lt
  obtain ⟨wb, hwb⟩ : ∃ wb, w1.alloc (.cells #[.int .i64 k, .int .i64 t, .slice pa n pc] 36) = wb := ⟨_, rfl⟩
  have hbb : Below w1.heap.size w1 wb := by rw [← hwb]; exact (Below.refl _ _).alloc (Nat.le_refl _) _
  have hVb : V3 wb w1.heap.size 36 (.int .i64 k) (.int .i64 t) (.slice pa n pc) := by rw [← hwb]; exact heap_alloc_new w1 _
  have hcb := hc1.below hbb
  have HBL := Hid.mk' (below_ w0 wb gc a len cap code 8 hcb (by omega) (by omega))
  rw [← hwb] at HBL
  have HWB := Hid.mk' hwb
  have hRb := hR1.below hbb
  have hOb := hv1.below hbb
  have hGb := grown_below hG1 hbb
  clear hwb hR1 hG1 hv1 hc1 hg1 hba hRa hok ht0 hcb
  go_wp2_with fail
  refine HBL.out.mono ?_
  rw [HWB.out]
  rintro e w2 ⟨x, hx, rfl, hc2, hg2⟩
  have hV2 := v3_grown hVb hg2 (by simp; omega)
  have hR2 := v3_grown hRb hg2 (by simp; omega)
  have hO2 := hOb.grown hg2 (.inr fun e => by have := hne _ e; omega)
  have hG2 := grownBy_trans hGb hg2
  have hs2 : w1.heap.size < w2.heap.size := hV2.lt
  clear HBL HWB hVb hRb hOb hGb hg2 hbb
  by_cases x0 : x = 0
  · subst x0
    go_wp2_with fail
    refine (below_ w0 _ gc a len cap code _ hc2 (by omega) (by omega)).mono ?_
    rintro e w3 ⟨y, hy, rfl, hc3, hg3⟩
    have hV3 := v3_grown hV2 hg3 (by simp; omega)
    have hR3 := v3_grown hR2 hg3 (by simp; omega)
    have hO3 := hO2.grown hg3 (.inr fun e => by have := hne _ e; omega)
    have hG3 := grownBy_trans hG2 hg3
    have HT : Hid (tinyR ((y : Int), t, l)) := ⟨⟨by show (0 : Int) ≤ (y : Int); omega, by show (y : Int) ≤ 5; omega⟩, hta, hla, HTO.out⟩
    clear hV2 hR2 hO2 hG2 hc2 hg3
    have t0 := hV3.c0
    have t1 := hV3.c1
    have t2 := hV3.c2
    have t3 := v3_fz hV3 0
    have hset := (v3_set hV3).1 (.int .i64 (y : Int))
    have hR6 := v3_grown hR3 hset.2 (by simp; omega)
    have hc6 := hc3.grown hset.2 (by simp; omega) (fun k e => by cases e; omega)
    have hG6 := grown_own hG3 hset.2 (by omega)
    have hO6 := hO3.grown hset.2 (.inr fun e => by have := hne _ e; omega)
    have r0 := hR3.c0
    have q0 := v3_fz hR3 0
    have r1 := hR3.c1
    have q1 := v3_fz hR3 1
    have r2 := hR3.c2
    have q2 := v3_fz hR3 2
    have hfin := (v3_all hR6 (.int .i64 (y : Int)) (.int .i64 t) (.slice pa n pc)).2
    have HCz := Hid.mk' (hc6.grown hfin (by simp; omega) (fun k e => by cases e; omega))
    have HGz := Hid.mk' (grown_own hG6 hfin (Nat.le_refl _))
    have HOz := Hid.mk' ((hO6.grown hfin (.inr fun e => by have := hne _ e; omega)).mono (base' := w.heap.size) (by omega))
    have hnn : w.heap.size ≠ w1.heap.size := by omega
    clear hfin hc6 hG6 hR6 hO6 hV3 hR3 hc3 hG3 hO3 hne  hset
    go_wp2_with fail
    refine bodyPost_ret (v := .agg #[.int .i64 (y : Int), .int .i64 t, .slice pa n pc]) ?_ rfl ⟨((y : Int), t, l), _, ⟨HT.out, ht4⟩, rfl, HOz.out, HCz.out, HGz.out⟩
    simp [results, Tryz.results35, go_sem, r0, r1, r2]
  by_cases x1 : x = 1
  · subst x1
    obtain ⟨w4, hw4⟩ : ∃ w4, w2.alloc (.cells #[.int .i64 0, .int .i64 1000000, .int .i64 1000001] 3) = w4 := ⟨_, rfl⟩
    have hb4 : Below w2.heap.size w2 w4 := by rw [← hw4]; exact (Below.refl _ _).alloc (Nat.le_refl _) _
    have hL4 : w4.heap[w2.heap.size]? = some (.cells #[.int .i64 0, .int .i64 1000000, .int .i64 1000001] 3) := by rw [← hw4]; exact heap_alloc_new w2 _
    have HIN := Hid.mk' (int_ w0 w4 gc a len cap code w2.heap.size 3 3 _ _ (hc2.below hb4) hL4 rfl (by omega) (by omega) (by omega) (fun z => decide ((0 ≤ z ∧ z ≤ 1000001) ∧ (z ≤ 4 ∨ 1000000 ≤ z)) = true) (some_atI _ 3 (fun z => decide ((0 ≤ z ∧ z ≤ 1000001) ∧ (z ≤ 4 ∨ 1000000 ≤ z))) (by kernel_rfl)))
    rw [← hw4] at HIN
    have HW4 := Hid.mk' hw4
    clear hw4 hL4
    go_wp2_with fail
    refine HIN.out.mono ?_
    rw [HW4.out]
    rintro e w3 ⟨z, hz, rfl, hc3, hg3⟩
    have hz' := of_decide_eq_true hz
    have hV3 := v3_grown (hV2.below hb4) hg3 (by simp; omega)
    have hR3 := v3_grown (hR2.below hb4) hg3 (by simp; omega)
    have hO3 := (hO2.below hb4).grown hg3 (.inr fun e => by have := hne _ e; omega)
    have hG3 := grownBy_trans (grown_below hG2 hb4) hg3
    have HT : Hid (tinyR (k, z, l)) := ⟨hka, hz'.1, hla, HTO.out⟩
    clear hV2 hR2 hO2 hG2 hc2 hg3 HIN HW4 hb4 hz
    have t0 := hV3.c0
    have t1 := hV3.c1
    have t2 := hV3.c2
    have t3 := v3_fz hV3 1
    have hset := (v3_set hV3).2.1 (.int .i64 z)
    have hR6 := v3_grown hR3 hset.2 (by simp; omega)
    have hc6 := hc3.grown hset.2 (by simp; omega) (fun k e => by cases e; omega)
    have hG6 := grown_own hG3 hset.2 (by omega)
    have hO6 := hO3.grown hset.2 (.inr fun e => by have := hne _ e; omega)
    have r0 := hR3.c0
    have q0 := v3_fz hR3 0
    have r1 := hR3.c1
    have q1 := v3_fz hR3 1
    have r2 := hR3.c2
    have q2 := v3_fz hR3 2
    have hfin := (v3_all hR6 (.int .i64 k) (.int .i64 z) (.slice pa n pc)).2
    have HCz := Hid.mk' (hc6.grown hfin (by simp; omega) (fun k e => by cases e; omega))
    have HGz := Hid.mk' (grown_own hG6 hfin (Nat.le_refl _))
    have HOz := Hid.mk' ((hO6.grown hfin (.inr fun e => by have := hne _ e; omega)).mono (base' := w.heap.size) (by omega))
    have hnn : w.heap.size ≠ w1.heap.size := by omega
    clear hfin hc6 hG6 hR6 hO6 hV3 hR3 hc3 hG3 hO3 hne  hset
    go_wp2_with fail
    refine bodyPost_ret (v := .agg #[.int .i64 k, .int .i64 z, .slice pa n pc]) ?_ rfl ⟨(k, z, l), _, ⟨HT.out, hz'.2⟩, rfl, HOz.out, HCz.out, HGz.out⟩
    simp [results, Tryz.results35, go_sem, r0, r1, r2]
  by_cases x2 : x = 2
  · subst x2
    go_wp2_with fail
    refine (d_anyO w0 _ gc a len cap code hc2).mono ?_
    rintro e w3 ⟨g, m, cp, l3, hm, htt, rfl, hOo, hc3, hg3⟩
    have hV3 := v3_grown hV2 hg3 (by simp; omega)
    have hR3 := v3_grown hR2 hg3 (by simp; omega)
    have hG3 := grownBy_trans hG2 hg3
    have hgl := hOo.lt
    have HT : Hid (tinyR (k, t, l3)) := ⟨hka, hta, by show l3.length ≤ 8; have := hOo.1; omega, htt⟩
    have hO3 := ownV_of hOo
    have hne : ∀ g', (Value.slice (some ⟨g, 0, none⟩) m cp).ownBlock = some g' → w1.heap.size < g' := fun g' e => by cases e; show w1.heap.size < g; omega
    clear hV2 hR2 hO2 hG2 hc2 hg3 htt hOo
    have t0 := hV3.c0
    have t1 := hV3.c1
    have t2 := hV3.c2
    have t3 := v3_fz hV3 2
    have hset := (v3_set hV3).2.2 (.slice (some ⟨g, 0, none⟩) m cp)
    have hR6 := v3_grown hR3 hset.2 (by simp; omega)
    have hc6 := hc3.grown hset.2 (by simp; omega) (fun k e => by cases e; omega)
    have hG6 := grown_own hG3 hset.2 (by omega)
    have hO6 := hO3.grown hset.2 (.inr fun e => by have := hne _ e; omega)
    have r0 := hR3.c0
    have q0 := v3_fz hR3 0
    have r1 := hR3.c1
    have q1 := v3_fz hR3 1
    have r2 := hR3.c2
    have q2 := v3_fz hR3 2
    have hfin := (v3_all hR6 (.int .i64 k) (.int .i64 t) (.slice (some ⟨g, 0, none⟩) m cp)).2
    have HCz := Hid.mk' (hc6.grown hfin (by simp; omega) (fun k e => by cases e; omega))
    have HGz := Hid.mk' (grown_own hG6 hfin (Nat.le_refl _))
    have HOz := Hid.mk' ((hO6.grown hfin (.inr fun e => by have := hne _ e; omega)).mono (base' := w.heap.size) (by omega))
    have hnn : w.heap.size ≠ w1.heap.size := by omega
    clear hfin hc6 hG6 hR6 hO6 hV3 hR3 hc3 hG3 hO3 hne  hset
    go_wp2_with fail
    refine bodyPost_ret (v := .agg #[.int .i64 k, .int .i64 t, .slice (some ⟨g, 0, none⟩) m cp]) ?_ rfl ⟨(k, t, l3), _, ⟨HT.out, ht4⟩, rfl, HOz.out, HCz.out, HGz.out⟩
    simp [results, Tryz.results35, go_sem, r0, r1, r2]
  · have y0 : ¬ (x : Int) = 0 := by omega
    have y1 : ¬ (x : Int) = 1 := by omega
    have y2 : ¬ (x : Int) = 2 := by omega
    have z0 : ((x : Int) == 0) = false := beq_eq_false_iff_ne.2 y0
    have z1 : ((x : Int) == 1) = false := beq_eq_false_iff_ne.2 y1
    have z2 : ((x : Int) == 2) = false := beq_eq_false_iff_ne.2 y2
    have HT : Hid (tinyR (k, t, l)) := ⟨hka, hta, hla, HTO.out⟩
    have t0 := hV2.c0
    have t1 := hV2.c1
    have t2 := hV2.c2
    have hR6 := hR2
    have hc6 := hc2
    have hG6 := hG2
    have hO6 := hO2
    have r0 := hR2.c0
    have q0 := v3_fz hR2 0
    have r1 := hR2.c1
    have q1 := v3_fz hR2 1
    have r2 := hR2.c2
    have q2 := v3_fz hR2 2
    have hfin := (v3_all hR6 (.int .i64 k) (.int .i64 t) (.slice pa n pc)).2
    have HCz := Hid.mk' (hc6.grown hfin (by simp; omega) (fun k e => by cases e; omega))
    have HGz := Hid.mk' (grown_own hG6 hfin (Nat.le_refl _))
    have HOz := Hid.mk' ((hO6.grown hfin (.inr fun e => by have := hne _ e; omega)).mono (base' := w.heap.size) (by omega))
    have hnn : w.heap.size ≠ w1.heap.size := by omega
    clear hfin hc6 hG6 hR6 hO6 hV2 hR2 hc2 hG2 hO2 hne 
    go_wp2_with fail
    refine bodyPost_ret (v := .agg #[.int .i64 k, .int .i64 t, .slice pa n pc]) ?_ rfl ⟨(k, t, l), _, ⟨HT.out, ht4⟩, rfl, HOz.out, HCz.out, HGz.out⟩
    simp [results, Tryz.results35, go_sem, r0, r1, r2]
end Go.Proofs.YtggdgceglmbaiaaGreatDoor.recs

namespace Go.Proofs.YtggdgceglmbaiaaGreatDoor.recs
open Go Go.RowKit Go.Proofs.YtggdgceglmbaiaaGreatDoor.base Go.Proofs.YtggdgceglmbaiaaGreatDoor.pairs Go.Proofs.YtggdgceglmbaiaaGreatDoor.ords Go.Proofs.YtggdgceglmbaiaaGreatDoor.helps Go.Proofs.YtggdgceglmbaiaaGreatDoor.help Go.Proofs.YtggdgceglmbaiaaGreatDoor.lay Go.Proofs.YtggdgceglmbaiaaGreatDoor.draw
set_option linter.unusedVariables false
set_option linter.unusedSimpArgs false

/-- what is so of a drawn shard with one thing changed -/
structure AnyS (s : Shd) : Prop where
  bd : Bound s
  snug : Right s → Snug s.2.1
  txs : ∀ r ∈ s.2.1, r.2.1 ≤ 6 ∨ 1000000 ≤ r.2.1
  id : (Lit.int .i64 s.1).wf = true
  sure : (Lit.int .i64 s.2.2.1).wf = true
theorem Drawn.any {s : Shd} (h : Drawn s) : AnyS s := by
  have h1 := h.right.id
  have h2 := h.right.sure
  have h3 := h.right.room
  exact ⟨right_bd h.right, fun _ => h.snug, fun r hr => .inl (h.txs r hr).2, WalkArith.wf_i64 (by omega), WalkArith.wf_i64 (by omega)⟩
theorem Drawn.any_id {s : Shd} (h : Drawn s) {z : Int} (hz : -1 ≤ z ∧ z ≤ 8) : AnyS (z, s.2.1, s.2.2.1, s.2.2.2.1, s.2.2.2.2) := by
  have ha := h.any
  have hzw : (Lit.int .i64 z).wf = true := WalkArith.wf_i64 (by omega)
  exact ⟨⟨ha.bd.few, ha.bd.fewH, ha.bd.log, ha.bd.map, ha.bd.held, ha.bd.cnt⟩, fun _ => h.snug, ha.txs, hzw, ha.sure⟩
theorem Drawn.any_sure {s : Shd} (h : Drawn s) {z : Int} (hz : -1 ≤ z ∧ z ≤ 301) : AnyS (s.1, s.2.1, z, s.2.2.2.1, s.2.2.2.2) := by
  have ha := h.any
  have hzw : (Lit.int .i64 z).wf = true := WalkArith.wf_i64 (by omega)
  exact ⟨⟨ha.bd.few, ha.bd.fewH, ha.bd.log, ha.bd.map, ha.bd.held, ha.bd.cnt⟩, fun _ => h.snug, ha.txs, ha.id, hzw⟩
theorem Drawn.small {s : Shd} (h : Drawn s) : s.2.1.length ≤ 300 ∧ s.2.2.2.1.length ≤ 60 ∧ s.2.2.2.2.length ≤ 300 ∧ cntS s ≤ 20000 := by
  have h1 := h.right.room
  obtain ⟨seen, hm⟩ := h.right.made
  have h2 := ((pairsOk_iff _).1 (replay_ok hm).1).2
  have h3 := cntR_26 (fun r hr => (ok_eight (h.right.recOk r hr)).1)
  have h4 := cntR_26 (l := s.2.2.2.2) (fun r hr => (ok_eight (h.right.recOk r (h.right.held_tx r hr).1)).1)
  simp only [] at h2
  refine ⟨by omega, by omega, by omega, ?_⟩
  unfold cntS
  omega
theorem Drawn.any_map {s : Shd} (h : Drawn s) (p : Pr) : AnyS (s.1, s.2.1, s.2.2.1, s.2.2.2.1 ++ [p], s.2.2.2.2) := by
  have ha := h.any
  obtain ⟨_, h2, _, h4⟩ := h.small
  refine ⟨⟨ha.bd.few, ha.bd.fewH, ha.bd.log, ?_, ha.bd.held, ?_⟩, fun _ => h.snug, ha.txs, ha.id, ha.sure⟩
  · show (s.2.2.2.1 ++ [p]).length ≤ 1048576
    rw [List.length_append, List.length_singleton]; omega
  · unfold cntS at h4 ⊢
    show cntR s.2.1 + 2 * (s.2.2.2.1 ++ [p]).length + cntR s.2.2.2.2 ≤ 3145728
    rw [List.length_append, List.length_singleton]; omega
theorem one_held {m : List Pr} {held : List Rc} {seen : List Int} {r : Rc} {t : St} (h : one (m, held, seen) r = some t) (hm : t.1 = m) (hh : t.2.1 = held) : t.1.length + sumOps t.2.1 = m.length + sumOps held := by rw [hm, hh]
theorem Drawn.any_log {s : Shd} (h : Drawn s) {r : Rc} (hr : tinyR r) (hf : farT r.2.1) : AnyS (s.1, s.2.1 ++ [r], s.2.2.1, s.2.2.2.1, s.2.2.2.2) := by
  have ha := h.any
  obtain ⟨h1, h2, h3, h4⟩ := h.small
  refine ⟨⟨fun x hx => ?_, ha.bd.fewH, ?_, ha.bd.map, ha.bd.held, ?_⟩, fun hR => ?_, fun x hx => ?_, ha.id, ha.sure⟩
  · rcases List.mem_append.1 hx with e | e
    · exact ha.bd.few x e
    · rw [List.mem_singleton.1 e]
      refine ⟨by have := hr.2.2.1; omega, fun p hp => ?_⟩
      have := (hr.2.2.2 p hp).2.2.1
      omega
  · show (s.2.1 ++ [r]).length ≤ 1048576
    rw [List.length_append, List.length_singleton]; omega
  · unfold cntS at h4 ⊢
    show cntR (s.2.1 ++ [r]) + 2 * s.2.2.2.1.length + cntR s.2.2.2.2 ≤ 3145728
    have e : cntR [r] ≤ 26 := by
      have := hr.2.2.1
      simp [cntR]; omega
    rw [cntR_append]; omega
  · obtain ⟨seen, hm⟩ := h.right.made
    refine h.snug.snoc fun t ht => ?_
    obtain ⟨sn, hm2⟩ := hR.made
    have hm2 : replay (s.2.1 ++ [r]) = some (s.2.2.2.1, s.2.2.2.2, sn) := hm2
    rw [hm2] at ht
    cases ht
    have h60 := h.snug.whole hm
    exact h60
  · rcases List.mem_append.1 hx with e | e
    · exact ha.txs x e
    · rw [List.mem_singleton.1 e]
      rcases hf with e | e
      · exact .inl (by omega)
      · exact .inr e
/-! ### what is written into a shard that lies in a block -/
section
variable {w w' : World} {X : Nat} {T : TypeId} {pre post : List Value} {la ma ha : Option Addr} {ln lc mn mc hn hc : Nat} {s : Shd} {F : List Nat}
theorem InSh.putId (h : InSh w X T pre post la ln lc ma mn mc ha hn hc s F) (z : Int) (hz : (Lit.int .i64 z).wf = true) : InSh (w.setCell ⟨X, pre.length, none⟩ (.int .i64 z)) X T pre post la ln lc ma mn mc ha hn hc (z, s.2.1, s.2.2.1, s.2.2.2.1, s.2.2.2.2) F ∧ w.grownBy (w.setCell ⟨X, pre.length, none⟩ (.int .i64 z)) (some X) := by
  have c := h.box.set 0 (by simp [shVals]) (.int .i64 z)
  rw [Nat.add_zero] at c
  have hO := h.own.keep (w' := w.setCell ⟨X, pre.length, none⟩ (.int .i64 z)) (fun j hj => c.2.block j (h.own.lt j hj) (fun e => h.out (by rw [← Option.some.inj e]; exact hj)))
  exact ⟨⟨c.1, ⟨hz, hO.sure, hO.log, hO.map, hO.nodup⟩, h.out⟩, c.2⟩
theorem InSh.putSure (h : InSh w X T pre post la ln lc ma mn mc ha hn hc s F) (z : Int) (hz : (Lit.int .i64 z).wf = true) : InSh (w.setCell ⟨X, pre.length + 2, none⟩ (.int .i64 z)) X T pre post la ln lc ma mn mc ha hn hc (s.1, s.2.1, z, s.2.2.2.1, s.2.2.2.2) F ∧ w.grownBy (w.setCell ⟨X, pre.length + 2, none⟩ (.int .i64 z)) (some X) := by
  have c := h.box.set 2 (by simp [shVals]) (.int .i64 z)
  have hO := h.own.keep (w' := w.setCell ⟨X, pre.length + 2, none⟩ (.int .i64 z)) (fun j hj => c.2.block j (h.own.lt j hj) (fun e => h.out (by rw [← Option.some.inj e]; exact hj)))
  exact ⟨⟨c.1, ⟨hO.id, hz, hO.log, hO.map, hO.nodup⟩, h.out⟩, c.2⟩
/-- other pairs are put in -/
theorem InSh.putMap {w8 : World} {g8 n8 c8 : Nat} {m8 : List Pr} (h : InSh w X T pre post la ln lc ma mn mc ha hn hc s F) (hg : w.grownBy w8 (Value.slice ma mn mc).ownBlock) (hO8 : OwnPV w8 (some ⟨g8, 0, none⟩) n8 c8 m8) (hat : (Value.slice ma mn mc).ownBlock = some g8 ∨ (g8 ∉ F ∧ g8 ≠ X)) :
    ∃ F', InSh (w8.setCell ⟨X, pre.length + 3, none⟩ (.slice (some ⟨g8, 0, none⟩) n8 c8)) X T pre post la ln lc (some ⟨g8, 0, none⟩) n8 c8 ha hn hc (s.1, s.2.1, s.2.2.1, m8, s.2.2.2.2) F' ∧ lay.Frame (X :: F) w (w8.setCell ⟨X, pre.length + 3, none⟩ (.slice (some ⟨g8, 0, none⟩) n8 c8)) ∧ ∀ k ∈ F', k ∈ F ∨ k = g8 := by
  obtain ⟨hl, hOL, hh, hOH, hFe⟩ := h.own.log
  have hnd := h.own.nodup
  have hXF := h.out
  have hmF : ∀ k, (Value.slice ma mn mc).ownBlock = some k → k ∈ F := fun k e => by rw [hFe]; exact List.mem_append.2 (.inr (List.mem_append.2 (.inl (by simp [e]))))
  have hLF : ∀ k, BlkR (.slice la ln lc) hl k → k ∈ F := fun k e => by rw [hFe]; exact List.mem_append.2 (.inl (mem_blkR.2 e))
  have hHF : ∀ k, BlkR (.slice ha hn hc) hh k → k ∈ F := fun k e => by rw [hFe]; exact List.mem_append.2 (.inr (List.mem_append.2 (.inr (mem_blkR.2 e))))
  have hnd0 := hnd
  rw [hFe] at hnd
  obtain ⟨n1, n2, n3⟩ := nodup_parts hnd
  obtain ⟨n4, n5, n6⟩ := nodup_parts n2
  have hLm : ∀ k, BlkR (.slice la ln lc) hl k → (Value.slice ma mn mc).ownBlock ≠ some k := fun k e e2 => n3 k (mem_blkR.2 e) (List.mem_append.2 (.inl (by simp [e2])))
  have hHm : ∀ k, BlkR (.slice ha hn hc) hh k → (Value.slice ma mn mc).ownBlock ≠ some k := fun k e e2 => n6 k (by simp [e2]) (mem_blkR.2 e)
  have hb8 := h.box.grown hg (fun e => hXF (hmF X e.symm))
  have hOL8 := hOL.of_blocks fun k hk => hg.block k (hOL.lt k hk).2 (fun e => hLm k hk e.symm)
  have hOH8 := hOH.of_blocks fun k hk => hg.block k (hOH.lt k hk).2 (fun e => hHm k hk e.symm)
  have c := hb8.set 3 (by simp [shVals]) (.slice (some ⟨g8, 0, none⟩) n8 c8)
  have hgX : g8 ≠ X := by
    rcases hat with e | e
    · exact fun e2 => hXF (hmF X (by rw [← e2]; exact e))
    · exact e.2
  have hOL9 := hOL8.of_blocks fun k hk => c.2.block k (hOL8.lt k hk).2 (fun e => hXF (by rw [← Option.some.inj e]; exact hLF k hk))
  have hOH9 := hOH8.of_blocks fun k hk => c.2.block k (hOH8.lt k hk).2 (fun e => hXF (by rw [← Option.some.inj e]; exact hHF k hk))
  have hOM9 := hO8.of_block fun k hk => c.2.block k (hO8.lt k hk) (fun e => hgX (by
    have e2 : g8 = k := by have q := hk; simp [Value.ownBlock] at q; omega
    rw [e2]; exact Option.some.inj e))
  refine ⟨blkR (.slice la ln lc) hl ++ ((Value.slice (some ⟨g8, 0, none⟩) n8 c8).ownBlock.toList ++ blkR (.slice ha hn hc) hh), ⟨c.1, ⟨h.own.id, h.own.sure, ⟨hl, hOL9, hh, hOH9, rfl⟩, hOM9, ?_⟩, ?_⟩, ?_, ?_⟩
  · have hg8n : ∀ k, k ∈ blkR (.slice la ln lc) hl ∨ k ∈ blkR (.slice ha hn hc) hh → k ≠ g8 := fun k hk e => by
      rcases hat with e2 | e2
      · rcases hk with e3 | e3
        · exact hLm k (mem_blkR.1 e3) (by rw [e]; exact e2)
        · exact hHm k (mem_blkR.1 e3) (by rw [e]; exact e2)
      · rcases hk with e3 | e3
        · exact e2.1 (by rw [← e]; exact hLF k (mem_blkR.1 e3))
        · exact e2.1 (by rw [← e]; exact hHF k (mem_blkR.1 e3))
    refine nodup_mk n1 (nodup_mk (by simp [Value.ownBlock]) n5 (fun k hk hk2 => ?_)) (fun k hk hk2 => ?_)
    · have e2 : g8 = k := by have q := hk; simp [Value.ownBlock] at q; omega
      exact hg8n k (.inr hk2) e2.symm
    · rcases List.mem_append.1 hk2 with e3 | e3
      · have e2 : g8 = k := by have q := e3; simp [Value.ownBlock] at q; omega
        exact hg8n k (.inl hk) e2.symm
      · exact n3 k hk (List.mem_append.2 (.inr e3))
  · intro e
    rcases List.mem_append.1 e with e3 | e3
    · exact hXF (hLF X (mem_blkR.1 e3))
    · rcases List.mem_append.1 e3 with e3 | e3
      · have e2 : g8 = X := by have q := e3; simp [Value.ownBlock] at q; omega
        exact hgX e2
      · exact hXF (hHF X (mem_blkR.1 e3))
  · exact ((lay.Frame.refl (X :: F) w).grown hg (fun k e => .inl (List.mem_cons_of_mem _ (hmF k e)))).grown c.2 (fun k e => .inl (by rw [← Option.some.inj e]; exact List.mem_cons_self))
  · intro k hk
    rcases List.mem_append.1 hk with e3 | e3
    · exact .inl (hLF k (mem_blkR.1 e3))
    · rcases List.mem_append.1 e3 with e3 | e3
      · have e2 : g8 = k := by have q := e3; simp [Value.ownBlock] at q; omega
        exact .inr e2.symm
      · exact .inl (hHF k (mem_blkR.1 e3))
/-- a record is put behind the log -/
theorem InSh.putLog {w8 : World} {g8 n8 c8 : Nat} {v : Value} {r : Rc} {hl hh : List Value} (h : InSh w X T pre post la ln lc ma mn mc ha hn hc s F) (hOL : OwnR w 0 (.slice la ln lc) s.2.1 hl) (hOH : OwnR w 0 (.slice ha hn hc) s.2.2.2.2 hh) (hFe : F = blkR (.slice la ln lc) hl ++ ((Value.slice ma mn mc).ownBlock.toList ++ blkR (.slice ha hn hc) hh))
    (hv : ∀ j, v.ownBlock = some j → j ∉ F ∧ j ≠ X) (hg : w.grownBy w8 (Value.slice la ln lc).ownBlock) (hO8 : OwnR w8 0 (.slice (some ⟨g8, 0, none⟩) n8 c8) (s.2.1 ++ [r]) (hl ++ [v])) (hat : (Value.slice la ln lc).ownBlock = some g8 ∨ g8 = w.heap.size) :
    ∃ F', InSh (w8.setCell ⟨X, pre.length + 1, none⟩ (.slice (some ⟨g8, 0, none⟩) n8 c8)) X T pre post (some ⟨g8, 0, none⟩) n8 c8 ma mn mc ha hn hc (s.1, s.2.1 ++ [r], s.2.2.1, s.2.2.2.1, s.2.2.2.2) F' ∧ lay.Frame (X :: F) w (w8.setCell ⟨X, pre.length + 1, none⟩ (.slice (some ⟨g8, 0, none⟩) n8 c8)) ∧ ∀ k ∈ F', k ∈ F ∨ v.ownBlock = some k ∨ w.heap.size ≤ k := by
  have hOM := h.own.map
  have hnd := h.own.nodup
  have hXF := h.out
  have hFlt := h.own.lt
  have hXl := h.box.lt
  have hmF : ∀ k, (Value.slice ma mn mc).ownBlock = some k → k ∈ F := fun k e => by rw [hFe]; exact List.mem_append.2 (.inr (List.mem_append.2 (.inl (by simp [e]))))
  have hLF : ∀ k, BlkR (.slice la ln lc) hl k → k ∈ F := fun k e => by rw [hFe]; exact List.mem_append.2 (.inl (mem_blkR.2 e))
  have hHF : ∀ k, BlkR (.slice ha hn hc) hh k → k ∈ F := fun k e => by rw [hFe]; exact List.mem_append.2 (.inr (List.mem_append.2 (.inr (mem_blkR.2 e))))
  rw [hFe] at hnd
  obtain ⟨n1, n2, n3⟩ := nodup_parts hnd
  have hLm : ∀ k, (Value.slice la ln lc).ownBlock = some k → (Value.slice ma mn mc).ownBlock ≠ some k := fun k e e2 => n3 k (mem_blkR.2 (.inl e)) (List.mem_append.2 (.inl (by simp [e2])))
  have hLh : ∀ k, (Value.slice la ln lc).ownBlock = some k → ¬ BlkR (.slice ha hn hc) hh k := fun k e e2 => n3 k (mem_blkR.2 (.inl e)) (List.mem_append.2 (.inr (mem_blkR.2 e2)))
  have hb8 := h.box.grown hg (fun e => hXF (hLF X (.inl e.symm)))
  have hOM8 := hOM.of_block fun k hk => hg.block k (hOM.lt k hk) (fun e => hLm k e.symm hk)
  have hOH8 := hOH.of_blocks fun k hk => hg.block k (hOH.lt k hk).2 (fun e => hLh k e.symm hk)
  have c := hb8.set 1 (by simp [shVals]) (.slice (some ⟨g8, 0, none⟩) n8 c8)
  have hg8 : g8 ∈ F ∧ BlkR (.slice la ln lc) hl g8 ∨ g8 = w.heap.size := hat.imp_left (fun e => ⟨hLF g8 (.inl e), .inl e⟩)
  have hL8 : ∀ k, BlkR (.slice (some ⟨g8, 0, none⟩) n8 c8) (hl ++ [v]) k → BlkR (.slice la ln lc) hl k ∨ v.ownBlock = some k ∨ k = w.heap.size := fun k hk => by
    rcases hk with e | ⟨y, hy, e⟩
    · have e2 : g8 = k := by simpa [Value.ownBlock] using e
      rcases hg8 with e3 | e3
      · exact .inl (by rw [← e2]; exact e3.2)
      · exact .inr (.inr (by omega))
    · rcases List.mem_append.1 hy with e2 | e2
      · exact .inl (.inr ⟨y, e2, e⟩)
      · rw [List.mem_singleton.1 e2] at e
        exact .inr (.inl e)
  have hLX : ∀ k, BlkR (.slice (some ⟨g8, 0, none⟩) n8 c8) (hl ++ [v]) k → k ≠ X := fun k hk e => by
    rcases hL8 k hk with e2 | e2 | e2
    · exact hXF (by rw [← e]; exact hLF k e2)
    · exact (hv k e2).2 e
    · omega
  have hOL9 := hO8.of_blocks fun k hk => c.2.block k (hO8.lt k hk).2 (fun e => hLX k hk (Option.some.inj e))
  have hOH9 := hOH8.of_blocks fun k hk => c.2.block k (hOH8.lt k hk).2 (fun e => hXF (by rw [← Option.some.inj e]; exact hHF k hk))
  have hOM9 := hOM8.of_block fun k hk => c.2.block k (hOM8.lt k hk) (fun e => hXF (by rw [← Option.some.inj e]; exact hmF k hk))
  have hnd8 : (blkR (.slice (some ⟨g8, 0, none⟩) n8 c8) (hl ++ [v])).Nodup := by
    have := recs_own.2 ⟨_, hOL9, rfl⟩
    exact recsR.ownNodup this
  refine ⟨blkR (.slice (some ⟨g8, 0, none⟩) n8 c8) (hl ++ [v]) ++ ((Value.slice ma mn mc).ownBlock.toList ++ blkR (.slice ha hn hc) hh), ⟨c.1, ⟨h.own.id, h.own.sure, ⟨_, hOL9, hh, hOH9, rfl⟩, hOM9, ?_⟩, ?_⟩, ?_, ?_⟩
  · refine nodup_mk hnd8 n2 (fun k hk hk2 => ?_)
    have hkF : k ∈ F := by
      rcases List.mem_append.1 hk2 with e3 | e3
      · exact hmF k (by simpa using e3)
      · exact hHF k (mem_blkR.1 e3)
    rcases hL8 k (mem_blkR.1 hk) with e2 | e2 | e2
    · exact n3 k (mem_blkR.2 e2) hk2
    · exact (hv k e2).1 hkF
    · have := hFlt k hkF; omega
  · intro e
    rcases List.mem_append.1 e with e3 | e3
    · exact hLX X (mem_blkR.1 e3) rfl
    · rcases List.mem_append.1 e3 with e3 | e3
      · exact hXF (hmF X (by simpa using e3))
      · exact hXF (hHF X (mem_blkR.1 e3))
  · exact ((lay.Frame.refl (X :: F) w).grown hg (fun k e => .inl (List.mem_cons_of_mem _ (hLF k (.inl e))))).grown c.2 (fun k e => .inl (by rw [← Option.some.inj e]; exact List.mem_cons_self))
  · intro k hk
    rcases List.mem_append.1 hk with e3 | e3
    · rcases hL8 k (mem_blkR.1 e3) with e2 | e2 | e2
      · exact .inl (hLF k e2)
      · exact .inr (.inl e2)
      · exact .inr (.inr (by omega))
    · rcases List.mem_append.1 e3 with e3 | e3
      · exact .inl (hmF k (by simpa using e3))
      · exact .inl (hHF k (mem_blkR.1 e3))
end
/-- a shard that is being drawn, in a block -/
structure ASt (w0 w wr : World) (gc : Nat) (a : Option Addr) (len cap : Nat) (code : List UInt8) (RB X : Nat) (la : Option Addr) (ln lc : Nat) (ma : Option Addr) (mn mc : Nat) (ha : Option Addr) (hn hc : Nat) (s : Shd) (F : List Nat) : Prop where
  cur : Cur w0 wr gc a len cap code
  ins : InSh wr X TSh [] [] la ln lc ma mn mc ha hn hc s F
  new : ∀ k ∈ X :: F, w.heap.size ≤ k
  old : gc < w.heap.size
  base : w0.heap.size ≤ w.heap.size
  fr : w.grownBy wr (some gc)
  rb : BoxIn RB TSh [] zeroSh [] wr
  rX : RB ≠ X
  rF : RB ∉ F
  rn : w.heap.size ≤ RB
section
variable {w0 w wr w' : World} {gc : Nat} {a : Option Addr} {len cap : Nat} {code : List UInt8} {RB X : Nat} {la ma ha : Option Addr} {ln lc mn mc hn hc : Nat} {s s' : Shd} {F F' : List Nat} {la' ma' ha' : Option Addr} {ln' lc' mn' mc' hn' hc' : Nat}
theorem ASt.gX (h : ASt w0 w wr gc a len cap code RB X la ln lc ma mn mc ha hn hc s F) : gc ≠ X ∧ gc ∉ F ∧ gc ≠ RB := by
  have h1 := h.old
  have h2 := h.new
  have h3 := h.rn
  refine ⟨fun e => ?_, fun e => ?_, fun e => ?_⟩
  · have := h2 X List.mem_cons_self; omega
  · have := h2 gc (List.mem_cons_of_mem _ e); omega
  · omega
theorem ASt.step (h : ASt w0 w wr gc a len cap code RB X la ln lc ma mn mc ha hn hc s F) (hc' : Cur w0 w' gc a len cap code) (hg : wr.grownBy w' (some gc)) : ASt w0 w w' gc a len cap code RB X la ln lc ma mn mc ha hn hc s F := by
  obtain ⟨g1, g2, g3⟩ := h.gX
  exact ⟨hc', h.ins.keepg hg g1 g2, h.new, h.old, h.base, grownBy_trans h.fr hg, h.rb.grown hg (fun e => g3 (Option.some.inj e).symm), h.rX, h.rF, h.rn⟩
theorem ASt.below (h : ASt w0 w wr gc a len cap code RB X la ln lc ma mn mc ha hn hc s F) (hb : Below wr.heap.size wr w') : ASt w0 w w' gc a len cap code RB X la ln lc ma mn mc ha hn hc s F :=
  ⟨h.cur.below hb, h.ins.below hb, h.new, h.old, h.base, grown_below h.fr hb, h.rb.below hb, h.rX, h.rF, h.rn⟩
theorem ASt.wrote (h : ASt w0 w wr gc a len cap code RB X la ln lc ma mn mc ha hn hc s F) (h1 : InSh w' X TSh [] [] la' ln' lc' ma' mn' mc' ha' hn' hc' s' F') (h2 : lay.Frame (X :: F) wr w') (h3 : ∀ k ∈ F', k ∈ F ∨ (w.heap.size ≤ k ∧ k ≠ RB)) : ASt w0 w w' gc a len cap code RB X la' ln' lc' ma' mn' mc' ha' hn' hc' s' F' := by
  obtain ⟨g1, g2, g3⟩ := h.gX
  refine ⟨cur_frame h.cur h2 (fun e => ?_) (fun k hk => Nat.le_trans h.base (h.new k hk)), h1, fun k hk => ?_, h.old, h.base, ?_, h.rb.frame h2 (fun e => ?_), h.rX, fun e => ?_, h.rn⟩
  · rcases List.mem_cons.1 e with e | e
    · exact g1 e
    · exact g2 e
  · rcases List.mem_cons.1 hk with e | e
    · rw [e]; exact h.new X List.mem_cons_self
    · rcases h3 k e with e2 | e2
      · exact h.new k (List.mem_cons_of_mem _ e2)
      · exact e2.1
  · exact ⟨h2.os.trans h.fr.os, h2.tape.trans h.fr.tape, h2.output.trans h.fr.output, Nat.le_trans h.fr.size h2.size, fun k hk hne => (h2.block k (Nat.lt_of_lt_of_le hk h.fr.size) (fun e => by have := h.new k e; omega)).trans (h.fr.block k hk hne)⟩
  · rcases List.mem_cons.1 e with e | e
    · exact h.rX e
    · exact h.rF e
  · rcases h3 RB e with e | e
    · exact h.rF e
    · exact e.2 rfl
end
def GotAny (w0 w : World) (gc : Nat) (a : Option Addr) (len cap : Nat) (code : List UInt8) (e : Ending) (w' : World) : Prop :=
  ∃ (la : Option Addr) (ln lc : Nat) (ma : Option Addr) (mn mc : Nat) (ha : Option Addr) (hn hc : Nat) (s : Shd) (F : List Nat), AnyS s ∧ e = .returned (aggSh s.1 s.2.2.1 la ln lc ma mn mc ha hn hc) ∧ OwnSh w' la ln lc ma mn mc ha hn hc s F ∧ (∀ k ∈ F, w.heap.size ≤ k) ∧ Cur w0 w' gc a len cap code ∧ w.grownBy w' (some gc)
theorem ASt.set5 {w0 w wr : World} {gc : Nat} {a : Option Addr} {len cap : Nat} {code : List UInt8} {RB X : Nat} {la ma ha : Option Addr} {ln lc mn mc hn hc : Nat} {s : Shd} {F : List Nat} (h : ASt w0 w wr gc a len cap code RB X la ln lc ma mn mc ha hn hc s F) (hA : AnyS s) :
    wr.cell? ⟨X, 0, none⟩ = some (.int .i64 s.1) ∧ wr.cell? ⟨X, 1, none⟩ = some (.slice la ln lc) ∧ wr.cell? ⟨X, 2, none⟩ = some (.int .i64 s.2.2.1) ∧ wr.cell? ⟨X, 3, none⟩ = some (.slice ma mn mc) ∧ wr.cell? ⟨X, 4, none⟩ = some (.slice ha hn hc) ∧
    wr.cell? ⟨RB, 0, none⟩ = some (.int .i64 0) ∧ wr.cell? ⟨RB, 1, none⟩ = some (.slice none 0 0) ∧ wr.cell? ⟨RB, 2, none⟩ = some (.int .i64 0) ∧ wr.cell? ⟨RB, 3, none⟩ = some (.slice none 0 0) ∧ wr.cell? ⟨RB, 4, none⟩ = some (.slice none 0 0) ∧
    wr.frozen? ⟨RB, 0, none⟩ = false ∧ wr.frozen? ⟨RB, 1, none⟩ = false ∧ wr.frozen? ⟨RB, 2, none⟩ = false ∧ wr.frozen? ⟨RB, 3, none⟩ = false ∧ wr.frozen? ⟨RB, 4, none⟩ = false ∧
    ((((((wr.setCell ⟨RB, 0, none⟩ (.int .i64 s.1)).setCell ⟨RB, 1, none⟩ (.slice la ln lc)).setCell ⟨RB, 2, none⟩ (.int .i64 s.2.2.1)).setCell ⟨RB, 3, none⟩ (.slice ma mn mc)).setCell ⟨RB, 4, none⟩ (.slice ha hn hc)).cell? ⟨RB, 0, none⟩ = some (.int .i64 s.1) ∧
    (((((wr.setCell ⟨RB, 0, none⟩ (.int .i64 s.1)).setCell ⟨RB, 1, none⟩ (.slice la ln lc)).setCell ⟨RB, 2, none⟩ (.int .i64 s.2.2.1)).setCell ⟨RB, 3, none⟩ (.slice ma mn mc)).setCell ⟨RB, 4, none⟩ (.slice ha hn hc)).cell? ⟨RB, 1, none⟩ = some (.slice la ln lc) ∧
    (((((wr.setCell ⟨RB, 0, none⟩ (.int .i64 s.1)).setCell ⟨RB, 1, none⟩ (.slice la ln lc)).setCell ⟨RB, 2, none⟩ (.int .i64 s.2.2.1)).setCell ⟨RB, 3, none⟩ (.slice ma mn mc)).setCell ⟨RB, 4, none⟩ (.slice ha hn hc)).cell? ⟨RB, 2, none⟩ = some (.int .i64 s.2.2.1) ∧
    (((((wr.setCell ⟨RB, 0, none⟩ (.int .i64 s.1)).setCell ⟨RB, 1, none⟩ (.slice la ln lc)).setCell ⟨RB, 2, none⟩ (.int .i64 s.2.2.1)).setCell ⟨RB, 3, none⟩ (.slice ma mn mc)).setCell ⟨RB, 4, none⟩ (.slice ha hn hc)).cell? ⟨RB, 3, none⟩ = some (.slice ma mn mc) ∧
    (((((wr.setCell ⟨RB, 0, none⟩ (.int .i64 s.1)).setCell ⟨RB, 1, none⟩ (.slice la ln lc)).setCell ⟨RB, 2, none⟩ (.int .i64 s.2.2.1)).setCell ⟨RB, 3, none⟩ (.slice ma mn mc)).setCell ⟨RB, 4, none⟩ (.slice ha hn hc)).cell? ⟨RB, 4, none⟩ = some (.slice ha hn hc)) ∧
    Hid (GotAny w0 w gc a len cap code (.returned (aggSh s.1 s.2.2.1 la ln lc ma mn mc ha hn hc)) (((((wr.setCell ⟨RB, 0, none⟩ (.int .i64 s.1)).setCell ⟨RB, 1, none⟩ (.slice la ln lc)).setCell ⟨RB, 2, none⟩ (.int .i64 s.2.2.1)).setCell ⟨RB, 3, none⟩ (.slice ma mn mc)).setCell ⟨RB, 4, none⟩ (.slice ha hn hc))) := by
  have b := h.ins.box
  have q0 := b.cell 0 _ rfl
  have q1 := b.cell 1 _ rfl
  have q2 := b.cell 2 _ rfl
  have q3 := b.cell 3 _ rfl
  have q4 := b.cell 4 _ rfl
  have r := h.rb
  have z0 := r.cell 0 _ rfl
  have z1 := r.cell 1 _ rfl
  have z2 := r.cell 2 _ rfl
  have z3 := r.cell 3 _ rfl
  have z4 := r.cell 4 _ rfl
  have hS5 := r.set5 (.int .i64 s.1) (.slice la ln lc) (.int .i64 s.2.2.1) (.slice ma mn mc) (.slice ha hn hc)
  simp only [List.length_nil, Nat.zero_add] at q0 q1 q2 q3 q4 z0 z1 z2 z3 z4 hS5
  obtain ⟨g1, g2, g3⟩ := h.gX
  have hge := Nat.le_trans h.base h.rn
  have hOz := h.ins.own.keep (fun j hj => hS5.2.block j (h.ins.own.lt j hj) (fun e => h.rF (by rw [← Option.some.inj e]; exact hj)))
  have hcz := h.cur.grown hS5.2 (fun e => g3 (Option.some.inj e)) (fun k e => by cases e; exact hge)
  have hGz : w.grownBy _ (some gc) := ⟨hS5.2.os.trans h.fr.os, hS5.2.tape.trans h.fr.tape, hS5.2.output.trans h.fr.output, Nat.le_trans h.fr.size hS5.2.size, fun k hk hne => (hS5.2.block k (Nat.lt_of_lt_of_le hk h.fr.size) (fun e => by have e1 := Option.some.inj e; have e2 := h.rn; omega)).trans (h.fr.block k hk hne)⟩
  have hzc0 := hS5.1.cell 0 _ rfl
  have hzc1 := hS5.1.cell 1 _ rfl
  have hzc2 := hS5.1.cell 2 _ rfl
  have hzc3 := hS5.1.cell 3 _ rfl
  have hzc4 := hS5.1.cell 4 _ rfl
  simp only [List.length_nil, Nat.zero_add] at hzc0 hzc1 hzc2 hzc3 hzc4
  exact ⟨q0, q1, q2, q3, q4, z0, z1, z2, z3, z4, r.fz 0, r.fz 1, r.fz 2, r.fz 3, r.fz 4, ⟨hzc0, hzc1, hzc2, hzc3, hzc4⟩, ⟨la, ln, lc, ma, mn, mc, ha, hn, hc, s, F, hA, rfl, hOz, fun k hk => h.new k (List.mem_cons_of_mem _ hk), hcz, hGz⟩⟩
end Go.Proofs.YtggdgceglmbaiaaGreatDoor.recs
