/- The program's one who decides: a new life. -/
import Derived.Test.YtgiibadbjgdjcaaBund12bg
import Derived.Test.YtgiibadbjgdjcaaBund12bc
import Derived.Test.YtgiibadbjgdjcaaBund12au
import Derived.Test.YtgiibadbjgdjcaaBund12bf
import Derived.Deep.RegionHeldLaw
namespace Go.Proofs.Ytgiibadbjgdjcaa.cos
open Go Go.RowKit Go.Proofs.Ytgiibadbjgdjcaa.base Go.Proofs.Ytgiibadbjgdjcaa.pairs Go.Proofs.Ytgiibadbjgdjcaa.ords Go.Proofs.Ytgiibadbjgdjcaa.lay Go.Proofs.Ytgiibadbjgdjcaa.wds
set_option linter.unusedVariables false
set_option linter.unusedSimpArgs false

/-- how many choices are left -/
def leftC (ln : Nat) (sure keep : Int) : Nat := (sure + min (max keep 0) ((ln : Int) - sure)).toNat
def crashR (c : Co) (keep : Int) : Co := if coordOk c = true ∧ c.2.1 ≠ 900 then (c.1, c.2.1 + 1, 0, [], c.2.2.2.2.1.take (leftC c.2.2.2.2.1.length c.2.2.2.2.2 keep), (leftC c.2.2.2.2.1.length c.2.2.2.2.2 keep : Int)) else c
theorem leftC_le {ln : Nat} {sure keep : Int} (h : 0 ≤ sure ∧ sure ≤ (ln : Int)) : leftC ln sure keep ≤ ln ∧ ((leftC ln sure keep : Nat) : Int) = sure + min (max keep 0) ((ln : Int) - sure) := by
  unfold leftC; omega
theorem slg_take {α : Type} {R : Rd α} {w : World} {a : Option Addr} {n : Nat} {l : List α} (h : SlG R w a n l) (k : Nat) (hk : k ≤ n) : SlG R w a k (l.take k) := by
  obtain ⟨h1, h2, h3, h4⟩ := h
  refine ⟨by simp; omega, by omega, fun x hx => h3 x (List.mem_of_mem_take hx), fun h0 => ?_⟩
  obtain ⟨b, off, e, hc⟩ := h4 (by omega)
  refine ⟨b, off, e, fun i hi => ?_⟩
  simp only [List.getElem_take]
  exact hc i (by simp at hi; omega)
theorem cnt_crash {c : Co} {keep : Int} {N : Nat} (h : cntC c ≤ N) : cntC (crashR c keep) ≤ N := by
  unfold crashR
  split
  · unfold cntC at h ⊢
    simp only [List.map_nil, List.sum_nil, List.length_take]
    omega
  · exact h
set_option maxRecDepth 100000 in
set_option maxHeartbeats 4000000 in
theorem impl_crashCoord (ja : Option Addr) (jn jc : Nat) (la : Option Addr) (ln lc : Nat) (c : Co) (keep : Int) (w : World) (h : SeeCo w ja jn jc la ln lc c) (hbd : BoundCo c) (hkw : (Lit.int .i64 keep).wf = true) :
    Calls Try.prog 23 #[coV c.1 c.2.1 c.2.2.1 c.2.2.2.2.2 ja jn jc la ln lc, .int .i64 keep] w (RetR coordR w (crashR c keep)) := by
  have hwf := h.wf
  have hll := h.log.1
  have hl8 := hbd.log
  obtain ⟨W, hW⟩ : ∃ W, (w.alloc (.cells #[.int .i64 c.1, .int .i64 c.2.1, .int .i64 c.2.2.1, .slice ja jn jc, .slice la ln lc, .int .i64 c.2.2.2.2.2] 27)).alloc (.cells #[.int .i64 0, .int .i64 0, .int .i64 0, .slice none 0 0, .slice none 0 0, .int .i64 0] 27) = W := ⟨_, rfl⟩
  have hB : Below w.heap.size w W := by rw [← hW]; exact ((Below.refl _ _).alloc (Nat.le_refl _) _).alloc (by simp) _
  have hA : BoxIn w.heap.size 27 [] [.int .i64 c.1, .int .i64 c.2.1, .int .i64 c.2.2.1, .slice ja jn jc, .slice la ln lc, .int .i64 c.2.2.2.2.2] [] W := by rw [← hW]; exact (boxIn_new w _ _).below below_make
  have hR : BoxIn (w.heap.size + 1) 27 [] [.int .i64 0, .int .i64 0, .int .i64 0, .slice none 0 0, .slice none 0 0, .int .i64 0] [] W := by
    rw [← hW]
    have := boxIn_new (w.alloc (.cells #[.int .i64 c.1, .int .i64 c.2.1, .int .i64 c.2.2.1, .slice ja jn jc, .slice la ln lc, .int .i64 c.2.2.2.2.2] 27)) [.int .i64 0, .int .i64 0, .int .i64 0, .slice none 0 0, .slice none 0 0, .int .i64 0] 27
    rwa [show (w.alloc (.cells #[.int .i64 c.1, .int .i64 c.2.1, .int .i64 c.2.2.1, .slice ja jn jc, .slice la ln lc, .int .i64 c.2.2.2.2.2] 27)).heap.size = w.heap.size + 1 by simp] at this
  have hRl := hR.lt
  have HOC := Hid.mk' (fun wx (hx : Below w.heap.size w wx) => i_ownCoord ja jn jc la ln lc c wx (h.below hx) hbd)
  have HCK := Hid.mk' (impl_coordOk ja jn jc la ln lc c W (h.below hB) hbd.fits)
  have HLG := Hid.mk' (h.log.below hB)
  have HLC := Hid.mk' h.lc
  have HW := Hid.mk' hW
  obtain ⟨a0, a1, a2, a3, a4, a5⟩ := cells6 hA
  rw [← hW] at a0 a1 a2 a3 a4 a5
  have HLN := Hid.mk' hll
  clear hW h hll
  cases hok : coordOk c
  · have HE : Hid (crashR c keep = c) := if_neg (by rw [hok]; simp)
    rw [hok] at HCK
    clear hok HLG
    go_enter Try.func23, Try.ntmps23
    go_wp2_with fail
    rw [HW.out]
    refine HCK.out.mono ?_
    rintro e w1 ⟨rfl, hb1⟩
    have hB1 := hB.trans (hb1.mono hB.size)
    clear a0 a1 a2 a3 a4 a5
    obtain ⟨a0, a1, a2, a3, a4, a5⟩ := cells6 (hA.below hb1)
    go_wp2_with fail
    refine (HOC.out _ hB1).mono ?_
    rintro e w2 ⟨vs, F, rfl, hO, hF, hb2⟩
    obtain ⟨xja, xjn, xjc, xla, xln, xlc, rfl⟩ := coord_shape hO
    have hB2 := hB1.trans (hb2.mono hB1.size)
    have hR2 := (hR.below hb1).below hb2
    have hs1 := hb1.size
    obtain ⟨z0, z1, z2, z3, z4, z5⟩ := cells6 hR2
    have f0 := hR2.fz 0
    have f1 := hR2.fz 1
    have f2 := hR2.fz 2
    have f3 := hR2.fz 3
    have f4 := hR2.fz 4
    have f5 := hR2.fz 5
    have hS := hR2.whole [.int .i64 c.1, .int .i64 c.2.1, .int .i64 c.2.2.1, .slice xja xjn xjc, .slice xla xln xlc, .int .i64 c.2.2.2.2.2] rfl
    obtain ⟨y0, y1, y2, y3, y4, y5⟩ := cells6 hS.1
    simp only [putAll, Nat.zero_add, Nat.reduceAdd] at y0 y1 y2 y3 y4 y5
    have hO2 := coordR.ownGrown hO hS.2 (fun b hb e => by have := hF b hb; cases e; omega)
    have hBz := hB2.grown hS.2 hB2.size (fun j e => by cases e; omega)
    have hFN : ∀ b ∈ F, w.heap.size ≤ b := fun b hb => by have := hF b hb; have := hB1.size; omega
    have HRET := Hid.mk' (show RetR coordR w (crashR c keep) (.returned (.agg #[.int .i64 c.1, .int .i64 c.2.1, .int .i64 c.2.2.1, .slice xja xjn xjc, .slice xla xln xlc, .int .i64 c.2.2.2.2.2])) _ from by rw [HE.out]; exact ⟨_, _, rfl, hO2, hFN, hBz⟩)
    clear hO2 hS hR2 hBz hFN hO
    go_wp2_with fail
    refine bodyPost_ret (v := .agg #[.int .i64 c.1, .int .i64 c.2.1, .int .i64 c.2.2.1, .slice xja xjn xjc, .slice xla xln xlc, .int .i64 c.2.2.2.2.2]) ?_ rfl HRET.out
    simp [results, Try.results23, go_sem, y0, y1, y2, y3, y4, y5]
  rw [hok] at HCK
  have hhd := coordOk_head hok
  by_cases hlife : c.2.1 = 900
  · have HE : Hid (crashR c keep = c) := if_neg (fun e => e.2 hlife)
    have hge : (900 : Int) ≤ c.2.1 := by omega
    clear hok HLG hlife hhd
    go_enter Try.func23, Try.ntmps23
    go_wp2_with fail
    rw [HW.out]
    refine HCK.out.mono ?_
    rintro e w1 ⟨rfl, hb1⟩
    have hB1 := hB.trans (hb1.mono hB.size)
    clear a0 a1 a2 a3 a4 a5
    obtain ⟨a0, a1, a2, a3, a4, a5⟩ := cells6 (hA.below hb1)
    go_wp2_with fail
    refine (HOC.out _ hB1).mono ?_
    rintro e w2 ⟨vs, F, rfl, hO, hF, hb2⟩
    obtain ⟨xja, xjn, xjc, xla, xln, xlc, rfl⟩ := coord_shape hO
    have hB2 := hB1.trans (hb2.mono hB1.size)
    have hR2 := (hR.below hb1).below hb2
    have hs1 := hb1.size
    obtain ⟨z0, z1, z2, z3, z4, z5⟩ := cells6 hR2
    have f0 := hR2.fz 0
    have f1 := hR2.fz 1
    have f2 := hR2.fz 2
    have f3 := hR2.fz 3
    have f4 := hR2.fz 4
    have f5 := hR2.fz 5
    have hS := hR2.whole [.int .i64 c.1, .int .i64 c.2.1, .int .i64 c.2.2.1, .slice xja xjn xjc, .slice xla xln xlc, .int .i64 c.2.2.2.2.2] rfl
    obtain ⟨y0, y1, y2, y3, y4, y5⟩ := cells6 hS.1
    simp only [putAll, Nat.zero_add, Nat.reduceAdd] at y0 y1 y2 y3 y4 y5
    have hO2 := coordR.ownGrown hO hS.2 (fun b hb e => by have := hF b hb; cases e; omega)
    have hBz := hB2.grown hS.2 hB2.size (fun j e => by cases e; omega)
    have hFN : ∀ b ∈ F, w.heap.size ≤ b := fun b hb => by have := hF b hb; have := hB1.size; omega
    have HRET := Hid.mk' (show RetR coordR w (crashR c keep) (.returned (.agg #[.int .i64 c.1, .int .i64 c.2.1, .int .i64 c.2.2.1, .slice xja xjn xjc, .slice xla xln xlc, .int .i64 c.2.2.2.2.2])) _ from by rw [HE.out]; exact ⟨_, _, rfl, hO2, hFN, hBz⟩)
    clear hO2 hS hR2 hBz hFN hO
    go_wp2_with fail
    refine bodyPost_ret (v := .agg #[.int .i64 c.1, .int .i64 c.2.1, .int .i64 c.2.2.1, .slice xja xjn xjc, .slice xla xln xlc, .int .i64 c.2.2.2.2.2]) ?_ rfl HRET.out
    simp [results, Try.results23, go_sem, y0, y1, y2, y3, y4, y5]
  have hge : ¬ (900 : Int) ≤ c.2.1 := by omega
  obtain ⟨k, hk⟩ : ∃ k, leftC ln c.2.2.2.2.2 keep = k := ⟨_, rfl⟩
  have hkl := leftC_le (ln := ln) (sure := c.2.2.2.2.2) (keep := keep) (by have := HLN.out; omega)
  rw [hk] at hkl
  have HE : Hid (crashR c keep = (c.1, c.2.1 + 1, 0, [], c.2.2.2.2.1.take k, (k : Int))) := by show _ = _; unfold crashR; rw [if_pos ⟨hok, hlife⟩, HLN.out, hk]
  clear hok HOC hk
  have w1 : IntKind.i64.wrap (c.2.1 + 1) = c.2.1 + 1 := by rw [IntKind.wrap_i64]; omega
  have w2 : IntKind.i64.wrap ((ln : Int) - c.2.2.2.2.2) = (ln : Int) - c.2.2.2.2.2 := by have := HLN.out; rw [IntKind.wrap_i64]; omega
  have w3 : IntKind.i64.wrap (c.2.2.2.2.2 + min (max keep 0) ((ln : Int) - c.2.2.2.2.2)) = (k : Int) := by have := HLN.out; rw [← hkl.2, IntKind.wrap_i64]; omega
  have HKL := Hid.mk' hkl
  have HHD := Hid.mk' hhd
  clear hkl hhd hlife
  go_enter Try.func23, Try.ntmps23
  go_wp2_with fail
  rw [HW.out]
  refine HCK.out.mono ?_
  rintro e w1 ⟨rfl, hb1⟩
  have hB1 := hB.trans (hb1.mono hB.size)
  clear a0 a1 a2 a3 a4 a5
  obtain ⟨a0, a1, a2, a3, a4, a5⟩ := cells6 (hA.below hb1)
  go_wp2_with fail
  have hAlt := (hA.below hb1).lt
  have hRw := hR.below hb1
  have HLw := Hid.mk' (slg_take (HLG.out.below hb1) k HKL.out.1)
  have hdW : Below w1.heap.size w1 w1.drew := (Below.refl _ _).drew
  refine last.wp_region_later (S := fun w' => Below w1.heap.size w1 w') 13 (by kernel_rfl) hdW (fun hHeld0 => ?_)
  generalize hD : w1.drew = D at *
  clear hD
  refine last.wpAnyL_take (i := 0) (v := (.pointer (some ⟨w.heap.size, 0, none⟩))) rfl rfl (by kernel_rfl) (by kernel_rfl) (by kernel_rfl) (by kernel_rfl) (fun _ _ _ h => h) (Or.inl ⟨by rfl, ?_⟩) (by assumption) ?_
  · intro wq hSq; go_simp
  try simp only [Act.put, List.setIfInBounds_toArray, List.set_cons_zero, List.set_cons_succ]
  refine last.wpAnyL_take (i := 1) (v := (.int .i64 c.1)) rfl rfl (by kernel_rfl) (by kernel_rfl) (by kernel_rfl) (by kernel_rfl) (fun _ _ _ h => h) (Or.inl ⟨by rfl, ?_⟩) (by assumption) ?_
  · intro wq hSq; have q := (hSq.cell (p := ⟨w.heap.size, 0, none⟩) hAlt).trans a0; go_simp
  try simp only [Act.put, List.setIfInBounds_toArray, List.set_cons_zero, List.set_cons_succ]
  refine last.wpAnyL_take (i := 2) (v := (.pointer (some ⟨w.heap.size, 1, none⟩))) rfl rfl (by kernel_rfl) (by kernel_rfl) (by kernel_rfl) (by kernel_rfl) (fun _ _ _ h => h) (Or.inl ⟨by rfl, ?_⟩) (by assumption) ?_
  · intro wq hSq; go_simp
  try simp only [Act.put, List.setIfInBounds_toArray, List.set_cons_zero, List.set_cons_succ]
  refine last.wpAnyL_take (i := 3) (v := (.int .i64 c.2.1)) rfl rfl (by kernel_rfl) (by kernel_rfl) (by kernel_rfl) (by kernel_rfl) (fun _ _ _ h => h) (Or.inl ⟨by rfl, ?_⟩) (by assumption) ?_
  · intro wq hSq; have q := (hSq.cell (p := ⟨w.heap.size, 1, none⟩) hAlt).trans a1; go_simp
  try simp only [Act.put, List.setIfInBounds_toArray, List.set_cons_zero, List.set_cons_succ]
  refine last.wpAnyL_take (i := 4) (v := (.int .i64 (c.2.1 + 1))) rfl rfl (by kernel_rfl) (by kernel_rfl) (by kernel_rfl) (by kernel_rfl) (fun _ _ _ h => h) (Or.inl ⟨by rfl, ?_⟩) (by assumption) ?_
  · intro wq hSq; go_simp
  try simp only [Act.put, List.setIfInBounds_toArray, List.set_cons_zero, List.set_cons_succ]
  refine last.wpAnyL_take (i := 6) (v := (.pointer (some ⟨w.heap.size, 4, none⟩))) rfl rfl (by kernel_rfl) (by kernel_rfl) (by kernel_rfl) (by kernel_rfl) (fun _ _ _ h => h) (Or.inl ⟨by rfl, ?_⟩) (by assumption) ?_
  · intro wq hSq; go_simp
  try simp only [Act.put, List.setIfInBounds_toArray, List.set_cons_zero, List.set_cons_succ]
  refine last.wpAnyL_take (i := 7) (v := (.slice la ln lc)) rfl rfl (by kernel_rfl) (by kernel_rfl) (by kernel_rfl) (by kernel_rfl) (fun _ _ _ h => h) (Or.inl ⟨by rfl, ?_⟩) (by assumption) ?_
  · intro wq hSq; have q := (hSq.cell (p := ⟨w.heap.size, 4, none⟩) hAlt).trans a4; go_simp
  try simp only [Act.put, List.setIfInBounds_toArray, List.set_cons_zero, List.set_cons_succ]
  refine last.wpAnyL_take (i := 8) (v := (.int .i64 (k : Int))) rfl rfl (by kernel_rfl) (by kernel_rfl) (by kernel_rfl) (by kernel_rfl) (fun _ _ _ h => h) (Or.inl ⟨by rfl, ?_⟩) (by assumption) ?_
  · intro wq hSq; go_simp
  try simp only [Act.put, List.setIfInBounds_toArray, List.set_cons_zero, List.set_cons_succ]
  refine last.wpAnyL_take (i := 9) (v := (.slice la k lc)) rfl rfl (by kernel_rfl) (by kernel_rfl) (by kernel_rfl) (by kernel_rfl) (fun _ _ _ h => h) (Or.inl ⟨by rfl, ?_⟩) (by assumption) ?_
  · intro wq hSq; have q1 : ¬ lc < k := by (have := HKL.out.1; have := HLC.out; omega)
    go_simp
  try simp only [Act.put, List.setIfInBounds_toArray, List.set_cons_zero, List.set_cons_succ]
  refine last.wpAnyL_take (i := 11) (v := (.int .i64 (k : Int))) rfl rfl (by kernel_rfl) (by kernel_rfl) (by kernel_rfl) (by kernel_rfl) (fun _ _ _ h => h) (Or.inl ⟨by rfl, ?_⟩) (by assumption) ?_
  · intro wq hSq; go_simp
  try simp only [Act.put, List.setIfInBounds_toArray, List.set_cons_zero, List.set_cons_succ]
  refine last.wpAnyL_one (i := 5) (o := { dst := some 33, op := Op.buildSlice 25 0 #[], type := 25, pos := "l11_coord.go:116", after := #[], guard := none }) (by kernel_rfl) rfl (fun K hK => ?_)
  go_simp
  have hbB : Below w1.heap.size w1 (D.alloc (.cells #[] 42)) := hdW.alloc hdW.size _
  have hr1 := row_new D 42 2
  have hDs := hdW.size
  refine hK.out _ _ ?_ (fun hHeld => ?_)
  · exact hbB
  clear hK K hHeld0
  have hHeld0 := hHeld
  clear hHeld
  try simp only [Act.put, List.setIfInBounds_toArray, List.set_cons_zero, List.set_cons_succ]
  generalize hwB : D.alloc (.cells #[] 42) = wB at *
  clear hwB
  refine last.wpAnyL_one (i := 10) (o := { dst := some 38, op := Op.call { callee := Callee.builtin Builtin.append, args := #[Operand.tmp 33, Operand.tmp 37], argTypes := #[25, 25] }, type := 25, pos := "l11_coord.go:116", after := #[{ on := 5, ground := Ground.data }, { on := 9, ground := Ground.data }], guard := none }) (by kernel_rfl) rfl (fun K hK => ?_)
  obtain ⟨gl, lcap, wC, hrun, hlo, hgr, hloc⟩ := copy_chs _ la k lc 25 hr1 (HLw.out.below hbB) (by have := HKL.out.1; have := HLN.out; omega)
  refine step_append_run rfl (.tmp 33) (.tmp 37) 25 rfl (by kernel_rfl) (by kernel_rfl) hrun ?_
  have hbC : Below w1.heap.size w1 wC := hbB.grown hgr hbB.size (fun k e => by cases e; omega)
  have hglb : w1.heap.size ≤ gl := by
    have := hbB.size
    rcases hloc with e | e <;> omega
  refine hK.out _ _ ?_ (fun hHeld => ?_)
  · exact hbC
  clear hK K hHeld0
  have hHeld0 := hHeld
  clear hHeld
  try simp only [Act.put, List.setIfInBounds_toArray, List.set_cons_zero, List.set_cons_succ]
  clear hrun hr1 hgr hloc
  refine last.wpAnyL_take (i := 12) (v := (.agg #[.int .i64 c.1, .int .i64 (c.2.1 + 1), .int .i64 0, .slice none 0 0, .slice (some ⟨gl, 0, none⟩) k lcap, .int .i64 (k : Int)])) rfl rfl (by kernel_rfl) (by kernel_rfl) (by kernel_rfl) (by kernel_rfl) (fun _ _ _ h => h) (Or.inl ⟨by rfl, ?_⟩) (by assumption) ?_
  · intro wq hSq; go_simp
  try simp only [Act.put, List.setIfInBounds_toArray, List.set_cons_zero, List.set_cons_succ]
  have hRC := hRw.below hbC
  obtain ⟨z0, z1, z2, z3, z4, z5⟩ := cells6 hRC
  have f0 := hRC.fz 0
  have f1 := hRC.fz 1
  have f2 := hRC.fz 2
  have f3 := hRC.fz 3
  have f4 := hRC.fz 4
  have f5 := hRC.fz 5
  have hS := hRC.whole [.int .i64 c.1, .int .i64 (c.2.1 + 1), .int .i64 0, .slice none 0 0, .slice (some ⟨gl, 0, none⟩) k lcap, .int .i64 (k : Int)] rfl
  obtain ⟨y0, y1, y2, y3, y4, y5⟩ := cells6 hS.1
  simp only [putAll, Nat.zero_add, Nat.reduceAdd] at y0 y1 y2 y3 y4 y5
  have hBC := hB1.trans (hbC.mono hB1.size)
  have hsw := hb1.size
  have hBz := hBC.grown hS.2 hBC.size (fun j e => by cases e; omega)
  have hl2 := logR.ownGrown hlo hS.2 (fun b hb e => by simp only [List.mem_singleton] at hb; subst hb; cases e; omega)
  have hkln := HKL.out.1
  have hlnl := HLN.out
  have hhd2 := HHD.out
  have hOW := (coord_own (c := (c.1, c.2.1 + 1, 0, [], c.2.2.2.2.1.take k, (k : Int)))).2 ⟨_, _, _, _, rfl, ⟨hwf.n, WalkArith.wf_i64 (by simp only []; omega), (by show (Lit.int .i64 0).wf = true; decide), WalkArith.wf_i64 (by simp only []; omega)⟩, own_nil 49 jobR _, hl2, rfl, by simp⟩
  have hFN : ∀ b ∈ ([] : List Nat) ++ [gl], w.heap.size ≤ b := fun b hb => by
    have hs := hB1.size
    simp only [List.nil_append, List.mem_singleton] at hb; omega
  have HRET := Hid.mk' (show RetR coordR w (crashR c keep) (.returned (.agg #[.int .i64 c.1, .int .i64 (c.2.1 + 1), .int .i64 0, .slice none 0 0, .slice (some ⟨gl, 0, none⟩) k lcap, .int .i64 (k : Int)])) _ from by rw [HE.out]; exact ⟨_, _, rfl, hOW, hFN, hBz⟩)
  clear hl2 hlo hBz hS hOW hFN hlnl
  refine last.wpAnyL_last (o := { dst := none, op := Op.store 27 (Operand.tmp 4) (Operand.tmp 40), type := 0, pos := "l11_coord.go:116", after := #[{ on := 12, ground := Ground.data }, { on := 10, ground := Ground.chain }, { on := 0, ground := Ground.phase }, { on := 1, ground := Ground.phase }, { on := 2, ground := Ground.phase }, { on := 3, ground := Ground.phase }, { on := 4, ground := Ground.phase }, { on := 5, ground := Ground.phase }, { on := 6, ground := Ground.phase }, { on := 7, ground := Ground.phase }, { on := 8, ground := Ground.phase }, { on := 9, ground := Ground.phase }, { on := 10, ground := Ground.phase }, { on := 11, ground := Ground.phase }, { on := 12, ground := Ground.phase }], guard := none }) (by kernel_rfl) rfl (by kernel_rfl) (fun K hK => ?_)
  go_simp
  refine hK.out _ _ ?_
  clear hK K
  go_wp2_with fail
  refine bodyPost_ret (v := .agg #[.int .i64 c.1, .int .i64 (c.2.1 + 1), .int .i64 0, .slice none 0 0, .slice (some ⟨gl, 0, none⟩) k lcap, .int .i64 (k : Int)]) ?_ rfl HRET.out
  simp [results, Try.results23, go_sem, y0, y1, y2, y3, y4, y5]
end Go.Proofs.Ytgiibadbjgdjcaa.cos
