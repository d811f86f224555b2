/- RecZe RecZf -/
import Derived.Test.YtijplooogplccaaGreatShap
set_option linter.unusedVariables false
set_option linter.unusedSimpArgs false
namespace Go.Proofs.YtijplooogplccaaGreat
namespace recs
open Go Go.RowKit base pairs ords
set_option maxRecDepth 100000 in
set_option maxHeartbeats 4000000 in
theorem one_has (N : Prop) (w0 : World) (F0 : List Nat) (w : World) (X : Nat) (am : Option Addr) (nm cm : Nat) (ah : Option Addr) (ch : Nat) (vs : Value) (s : St) (hs : List Value) (tx : Int) (a : Option Addr) (len cap : Nat) (ops : List Od)
 (hK : Kept N w0 F0 w X am nm cm ah ch vs s hs) (hSo : SlO w a len ops) (hks : ∀ p ∈ ops, p.2.1.size ≤ 1099511627776) (hok : recOk (1, tx, ops) = true) (h1 : decide (tx ∈ s.2.2) = true) :
 Calls Tryz.prog 85 #[.pointer (some ⟨X, 0, none⟩), .agg #[.int .i64 1, .int .i64 tx, .slice a len cap]] w (OnePost N w0 F0 X none) := by
 obtain ⟨sa, sc, hvs, hSz⟩ := hK.seen.sl
 subst hvs
 obtain ⟨V, hV⟩ : ∃ V, V = w.alloc (.cells #[.int .i64 1, .int .i64 tx, .slice a len cap] 133) := ⟨_, rfl⟩
 have hbV : Below w.heap.size w V := by rw [hV]; exact (Below.refl _ _).alloc (Nat.le_refl _) _
 have hbx : BoxR w.heap.size 1 tx (.slice a len cap) V := by rw [hV]; exact boxR_new _ _ _ _
 have hKV := hK.below hbV
 have hXl := hKV.box.lt
 have hRl := hbx.lt
 have y1 := last.On.cell (B := V.heap.size) hKV.box.cells.2.1 hXl
 have y2 := last.On.cell (B := V.heap.size) hbx.cells.2.1 hRl
 have hAt : ∀ x9 : last.On V.heap.size V, Calls Tryz.prog 123 #[.slice ah s.2.1.length ch, .int .i64 tx] x9.w fun e w' => e = .returned (.int .i64 (atRet (placeTx tx s.2.1))) ∧ ∃ y9 : last.On V.heap.size V, w' = y9.w := fun x9 => last.Calls.on x9 (Nat.le_refl _) ((spec_l8At _ _ ch s.2.1 tx x9.w (hKV.held.below x9.2).sl).mono (fun e w' h => ⟨h.1, h.2 ▸ Below.refl _ _⟩))
 have hinh := last.On.inh V.heap.size V
 have HV := Hid.mk' hV.symm
 clear hV
 generalize hP : atRet (placeTx tx s.2.1) = P at hAt
 go_enter Tryz.func85, Tryz.ntmps85
 go_wp2_with fail
 rw [HV.out]
 refine last.wp_region_on V.heap.size (by kernel_rfl) (by kernel_rfl) ?_
 repeat (go_big_quiet_step ((go_at_call 123; with_reducible exact hAt _)))
 refine wpQuiet_nil ?_
 intro w1 hw1
 obtain ⟨x1, hw1⟩ := hw1
 have hb1 : Below V.heap.size V w1 := by rw [hw1]; exact x1.2
 clear hw1 x1
 have hbx1 := hbx.below hb1
 have hK1 := hKV.below hb1
 have HOK := Hid.mk' (spec_recOk 1 tx a len cap ops w1 ((hSo.below hbV).below hb1) hks)
 obtain ⟨d0, d1, d2⟩ := hbx1.cells
 clear y1 y2 hAt hinh
 go_wp2_with fail
 refine HOK.out.mono ?_
 rintro e w2 ⟨rfl, hb2⟩
 rw [hok]
 have hK2 := hK1.below hb2
 have hbx2 := hbx1.below hb2
 have hSo2 := ((hSo.below hbV).below hb1).below hb2
 have hSz2 := ((hSz.below hbV).below hb1).below hb2
 clear d0 d1 d2 HOK HV hbx1 hbx hKV hXl hRl
 obtain ⟨d0, d1, d2⟩ := hbx2.cells
 have hX2 := hK2.box.lt
 have hR2 := hbx2.lt
 have o0 := last.On.cell (B := w2.heap.size) hK2.box.cells.1 hX2
 have o1 := last.On.cell (B := w2.heap.size) hK2.box.cells.2.1 hX2
 have o2 := last.On.cell (B := w2.heap.size) hK2.box.cells.2.2 hX2
 have o3 := last.On.cell (B := w2.heap.size) hbx2.cells.1 hR2
 have o4 := last.On.cell (B := w2.heap.size) hbx2.cells.2.1 hR2
 have o5 := last.On.cell (B := w2.heap.size) hbx2.cells.2.2 hR2
 have hinh2 := last.On.inh w2.heap.size w2
 have hHas : ∀ x9 : last.On w2.heap.size w2, Calls Tryz.prog 83 #[.slice sa s.2.2.length sc, .int .i64 tx] x9.w fun e w' => e = .returned (.bool (decide (tx ∈ s.2.2))) ∧ ∃ y9 : last.On w2.heap.size w2, w' = y9.w := fun x9 => last.Calls.on x9 (Nat.le_refl _) ((spec_l7Has sa s.2.2.length sc s.2.2 tx x9.w (hSz2.below x9.2)).mono (fun e w' h => ⟨h.1, h.2 ▸ Below.refl _ _⟩))
 have hLk : ∀ x9 : last.On w2.heap.size w2, Calls Tryz.prog 125 #[.slice ah s.2.1.length ch, .slice a len cap] x9.w fun e w' => e = .returned (.bool (locked s.2.1 ops)) ∧ ∃ y9 : last.On w2.heap.size w2, w' = y9.w := fun x9 => last.Calls.on x9 (Nat.le_refl _) (spec_locked _ _ ch s.2.1 a len cap ops x9.w (hK2.held.below x9.2).sl (hSo2.below x9.2))
 have hMt : ∀ x9 : last.On w2.heap.size w2, Calls Tryz.prog 126 #[.slice am nm cm, .slice a len cap] x9.w fun e w' => e = .returned (.bool (meets s.1 ops)) ∧ ∃ y9 : last.On w2.heap.size w2, w' = y9.w := fun x9 => last.Calls.on x9 (Nat.le_refl _) (spec_meets _ nm cm s.1 a len cap ops x9.w (hK2.m.below x9.2).sl (hSo2.below x9.2))
 rw [h1] at hHas
 go_wp2_with fail
 refine last.wp_region_on w2.heap.size (by kernel_rfl) (by kernel_rfl) ?_
 repeat (go_big_quiet_step (first | (go_at_call 83; with_reducible exact hHas _) | (go_at_call 125; with_reducible exact hLk _) | (go_at_call 126; with_reducible exact hMt _)))
 refine wpQuiet_nil ?_
 intro w5 hw5
 obtain ⟨x5, hw5⟩ := hw5
 have hb5 : Below w2.heap.size w2 w5 := by rw [hw5]; exact x5.2
 clear hw5 x5 hinh2 o0 o1 o2 o3 o4 o5 hHas hLk hMt d0 d1 d2
 have hK5 := hK2.below hb5
 go_wp2_with fail
 go_ret
 exact ⟨rfl, hK5.fr⟩
set_option maxRecDepth 100000 in
set_option maxHeartbeats 4000000 in
theorem one_locked (N : Prop) (w0 : World) (F0 : List Nat) (w : World) (X : Nat) (am : Option Addr) (nm cm : Nat) (ah : Option Addr) (ch : Nat) (vs : Value) (s : St) (hs : List Value) (tx : Int) (a : Option Addr) (len cap : Nat) (ops : List Od)
 (hK : Kept N w0 F0 w X am nm cm ah ch vs s hs) (hSo : SlO w a len ops) (hks : ∀ p ∈ ops, p.2.1.size ≤ 1099511627776) (hok : recOk (1, tx, ops) = true) (h1 : decide (tx ∈ s.2.2) = false) (h2 : locked s.2.1 ops = true) :
 Calls Tryz.prog 85 #[.pointer (some ⟨X, 0, none⟩), .agg #[.int .i64 1, .int .i64 tx, .slice a len cap]] w (OnePost N w0 F0 X none) := by
 obtain ⟨sa, sc, hvs, hSz⟩ := hK.seen.sl
 subst hvs
 obtain ⟨V, hV⟩ : ∃ V, V = w.alloc (.cells #[.int .i64 1, .int .i64 tx, .slice a len cap] 133) := ⟨_, rfl⟩
 have hbV : Below w.heap.size w V := by rw [hV]; exact (Below.refl _ _).alloc (Nat.le_refl _) _
 have hbx : BoxR w.heap.size 1 tx (.slice a len cap) V := by rw [hV]; exact boxR_new _ _ _ _
 have hKV := hK.below hbV
 have hXl := hKV.box.lt
 have hRl := hbx.lt
 have y1 := last.On.cell (B := V.heap.size) hKV.box.cells.2.1 hXl
 have y2 := last.On.cell (B := V.heap.size) hbx.cells.2.1 hRl
 have hAt : ∀ x9 : last.On V.heap.size V, Calls Tryz.prog 123 #[.slice ah s.2.1.length ch, .int .i64 tx] x9.w fun e w' => e = .returned (.int .i64 (atRet (placeTx tx s.2.1))) ∧ ∃ y9 : last.On V.heap.size V, w' = y9.w := fun x9 => last.Calls.on x9 (Nat.le_refl _) ((spec_l8At _ _ ch s.2.1 tx x9.w (hKV.held.below x9.2).sl).mono (fun e w' h => ⟨h.1, h.2 ▸ Below.refl _ _⟩))
 have hinh := last.On.inh V.heap.size V
 have HV := Hid.mk' hV.symm
 clear hV
 generalize hP : atRet (placeTx tx s.2.1) = P at hAt
 go_enter Tryz.func85, Tryz.ntmps85
 go_wp2_with fail
 rw [HV.out]
 refine last.wp_region_on V.heap.size (by kernel_rfl) (by kernel_rfl) ?_
 repeat (go_big_quiet_step ((go_at_call 123; with_reducible exact hAt _)))
 refine wpQuiet_nil ?_
 intro w1 hw1
 obtain ⟨x1, hw1⟩ := hw1
 have hb1 : Below V.heap.size V w1 := by rw [hw1]; exact x1.2
 clear hw1 x1
 have hbx1 := hbx.below hb1
 have hK1 := hKV.below hb1
 have HOK := Hid.mk' (spec_recOk 1 tx a len cap ops w1 ((hSo.below hbV).below hb1) hks)
 obtain ⟨d0, d1, d2⟩ := hbx1.cells
 clear y1 y2 hAt hinh
 go_wp2_with fail
 refine HOK.out.mono ?_
 rintro e w2 ⟨rfl, hb2⟩
 rw [hok]
 have hK2 := hK1.below hb2
 have hbx2 := hbx1.below hb2
 have hSo2 := ((hSo.below hbV).below hb1).below hb2
 have hSz2 := ((hSz.below hbV).below hb1).below hb2
 clear d0 d1 d2 HOK HV hbx1 hbx hKV hXl hRl
 obtain ⟨d0, d1, d2⟩ := hbx2.cells
 have hX2 := hK2.box.lt
 have hR2 := hbx2.lt
 have o0 := last.On.cell (B := w2.heap.size) hK2.box.cells.1 hX2
 have o1 := last.On.cell (B := w2.heap.size) hK2.box.cells.2.1 hX2
 have o2 := last.On.cell (B := w2.heap.size) hK2.box.cells.2.2 hX2
 have o3 := last.On.cell (B := w2.heap.size) hbx2.cells.1 hR2
 have o4 := last.On.cell (B := w2.heap.size) hbx2.cells.2.1 hR2
 have o5 := last.On.cell (B := w2.heap.size) hbx2.cells.2.2 hR2
 have hinh2 := last.On.inh w2.heap.size w2
 have hHas : ∀ x9 : last.On w2.heap.size w2, Calls Tryz.prog 83 #[.slice sa s.2.2.length sc, .int .i64 tx] x9.w fun e w' => e = .returned (.bool (decide (tx ∈ s.2.2))) ∧ ∃ y9 : last.On w2.heap.size w2, w' = y9.w := fun x9 => last.Calls.on x9 (Nat.le_refl _) ((spec_l7Has sa s.2.2.length sc s.2.2 tx x9.w (hSz2.below x9.2)).mono (fun e w' h => ⟨h.1, h.2 ▸ Below.refl _ _⟩))
 have hLk : ∀ x9 : last.On w2.heap.size w2, Calls Tryz.prog 125 #[.slice ah s.2.1.length ch, .slice a len cap] x9.w fun e w' => e = .returned (.bool (locked s.2.1 ops)) ∧ ∃ y9 : last.On w2.heap.size w2, w' = y9.w := fun x9 => last.Calls.on x9 (Nat.le_refl _) (spec_locked _ _ ch s.2.1 a len cap ops x9.w (hK2.held.below x9.2).sl (hSo2.below x9.2))
 have hMt : ∀ x9 : last.On w2.heap.size w2, Calls Tryz.prog 126 #[.slice am nm cm, .slice a len cap] x9.w fun e w' => e = .returned (.bool (meets s.1 ops)) ∧ ∃ y9 : last.On w2.heap.size w2, w' = y9.w := fun x9 => last.Calls.on x9 (Nat.le_refl _) (spec_meets _ nm cm s.1 a len cap ops x9.w (hK2.m.below x9.2).sl (hSo2.below x9.2))
 rw [h1] at hHas
 rw [h2] at hLk
 go_wp2_with fail
 refine last.wp_region_on w2.heap.size (by kernel_rfl) (by kernel_rfl) ?_
 repeat (go_big_quiet_step (first | (go_at_call 83; with_reducible exact hHas _) | (go_at_call 125; with_reducible exact hLk _) | (go_at_call 126; with_reducible exact hMt _)))
 refine wpQuiet_nil ?_
 intro w5 hw5
 obtain ⟨x5, hw5⟩ := hw5
 have hb5 : Below w2.heap.size w2 w5 := by rw [hw5]; exact x5.2
 clear hw5 x5 hinh2 o0 o1 o2 o3 o4 o5 hHas hLk hMt d0 d1 d2
 have hK5 := hK2.below hb5
 go_wp2_with fail
 go_ret
 exact ⟨rfl, hK5.fr⟩
set_option maxRecDepth 100000 in
set_option maxHeartbeats 4000000 in
theorem one_unmet (N : Prop) (w0 : World) (F0 : List Nat) (w : World) (X : Nat) (am : Option Addr) (nm cm : Nat) (ah : Option Addr) (ch : Nat) (vs : Value) (s : St) (hs : List Value) (tx : Int) (a : Option Addr) (len cap : Nat) (ops : List Od)
 (hK : Kept N w0 F0 w X am nm cm ah ch vs s hs) (hSo : SlO w a len ops) (hks : ∀ p ∈ ops, p.2.1.size ≤ 1099511627776) (hok : recOk (1, tx, ops) = true) (h1 : decide (tx ∈ s.2.2) = false) (h2 : locked s.2.1 ops = false) (h3 : meets s.1 ops = false) :
 Calls Tryz.prog 85 #[.pointer (some ⟨X, 0, none⟩), .agg #[.int .i64 1, .int .i64 tx, .slice a len cap]] w (OnePost N w0 F0 X none) := by
 obtain ⟨sa, sc, hvs, hSz⟩ := hK.seen.sl
 subst hvs
 obtain ⟨V, hV⟩ : ∃ V, V = w.alloc (.cells #[.int .i64 1, .int .i64 tx, .slice a len cap] 133) := ⟨_, rfl⟩
 have hbV : Below w.heap.size w V := by rw [hV]; exact (Below.refl _ _).alloc (Nat.le_refl _) _
 have hbx : BoxR w.heap.size 1 tx (.slice a len cap) V := by rw [hV]; exact boxR_new _ _ _ _
 have hKV := hK.below hbV
 have hXl := hKV.box.lt
 have hRl := hbx.lt
 have y1 := last.On.cell (B := V.heap.size) hKV.box.cells.2.1 hXl
 have y2 := last.On.cell (B := V.heap.size) hbx.cells.2.1 hRl
 have hAt : ∀ x9 : last.On V.heap.size V, Calls Tryz.prog 123 #[.slice ah s.2.1.length ch, .int .i64 tx] x9.w fun e w' => e = .returned (.int .i64 (atRet (placeTx tx s.2.1))) ∧ ∃ y9 : last.On V.heap.size V, w' = y9.w := fun x9 => last.Calls.on x9 (Nat.le_refl _) ((spec_l8At _ _ ch s.2.1 tx x9.w (hKV.held.below x9.2).sl).mono (fun e w' h => ⟨h.1, h.2 ▸ Below.refl _ _⟩))
 have hinh := last.On.inh V.heap.size V
 have HV := Hid.mk' hV.symm
 clear hV
 generalize hP : atRet (placeTx tx s.2.1) = P at hAt
 go_enter Tryz.func85, Tryz.ntmps85
 go_wp2_with fail
 rw [HV.out]
 refine last.wp_region_on V.heap.size (by kernel_rfl) (by kernel_rfl) ?_
 repeat (go_big_quiet_step ((go_at_call 123; with_reducible exact hAt _)))
 refine wpQuiet_nil ?_
 intro w1 hw1
 obtain ⟨x1, hw1⟩ := hw1
 have hb1 : Below V.heap.size V w1 := by rw [hw1]; exact x1.2
 clear hw1 x1
 have hbx1 := hbx.below hb1
 have hK1 := hKV.below hb1
 have HOK := Hid.mk' (spec_recOk 1 tx a len cap ops w1 ((hSo.below hbV).below hb1) hks)
 obtain ⟨d0, d1, d2⟩ := hbx1.cells
 clear y1 y2 hAt hinh
 go_wp2_with fail
 refine HOK.out.mono ?_
 rintro e w2 ⟨rfl, hb2⟩
 rw [hok]
 have hK2 := hK1.below hb2
 have hbx2 := hbx1.below hb2
 have hSo2 := ((hSo.below hbV).below hb1).below hb2
 have hSz2 := ((hSz.below hbV).below hb1).below hb2
 clear d0 d1 d2 HOK HV hbx1 hbx hKV hXl hRl
 obtain ⟨d0, d1, d2⟩ := hbx2.cells
 have hX2 := hK2.box.lt
 have hR2 := hbx2.lt
 have o0 := last.On.cell (B := w2.heap.size) hK2.box.cells.1 hX2
 have o1 := last.On.cell (B := w2.heap.size) hK2.box.cells.2.1 hX2
 have o2 := last.On.cell (B := w2.heap.size) hK2.box.cells.2.2 hX2
 have o3 := last.On.cell (B := w2.heap.size) hbx2.cells.1 hR2
 have o4 := last.On.cell (B := w2.heap.size) hbx2.cells.2.1 hR2
 have o5 := last.On.cell (B := w2.heap.size) hbx2.cells.2.2 hR2
 have hinh2 := last.On.inh w2.heap.size w2
 have hHas : ∀ x9 : last.On w2.heap.size w2, Calls Tryz.prog 83 #[.slice sa s.2.2.length sc, .int .i64 tx] x9.w fun e w' => e = .returned (.bool (decide (tx ∈ s.2.2))) ∧ ∃ y9 : last.On w2.heap.size w2, w' = y9.w := fun x9 => last.Calls.on x9 (Nat.le_refl _) ((spec_l7Has sa s.2.2.length sc s.2.2 tx x9.w (hSz2.below x9.2)).mono (fun e w' h => ⟨h.1, h.2 ▸ Below.refl _ _⟩))
 have hLk : ∀ x9 : last.On w2.heap.size w2, Calls Tryz.prog 125 #[.slice ah s.2.1.length ch, .slice a len cap] x9.w fun e w' => e = .returned (.bool (locked s.2.1 ops)) ∧ ∃ y9 : last.On w2.heap.size w2, w' = y9.w := fun x9 => last.Calls.on x9 (Nat.le_refl _) (spec_locked _ _ ch s.2.1 a len cap ops x9.w (hK2.held.below x9.2).sl (hSo2.below x9.2))
 have hMt : ∀ x9 : last.On w2.heap.size w2, Calls Tryz.prog 126 #[.slice am nm cm, .slice a len cap] x9.w fun e w' => e = .returned (.bool (meets s.1 ops)) ∧ ∃ y9 : last.On w2.heap.size w2, w' = y9.w := fun x9 => last.Calls.on x9 (Nat.le_refl _) (spec_meets _ nm cm s.1 a len cap ops x9.w (hK2.m.below x9.2).sl (hSo2.below x9.2))
 rw [h1] at hHas
 rw [h2] at hLk
 rw [h3] at hMt
 go_wp2_with fail
 refine last.wp_region_on w2.heap.size (by kernel_rfl) (by kernel_rfl) ?_
 repeat (go_big_quiet_step (first | (go_at_call 83; with_reducible exact hHas _) | (go_at_call 125; with_reducible exact hLk _) | (go_at_call 126; with_reducible exact hMt _)))
 refine wpQuiet_nil ?_
 intro w5 hw5
 obtain ⟨x5, hw5⟩ := hw5
 have hb5 : Below w2.heap.size w2 w5 := by rw [hw5]; exact x5.2
 clear hw5 x5 hinh2 o0 o1 o2 o3 o4 o5 hHas hLk hMt d0 d1 d2
 have hK5 := hK2.below hb5
 go_wp2_with fail
 go_ret
 exact ⟨rfl, hK5.fr⟩
end recs
namespace stepc
open Go Go.RowKit
theorem step_call1 {P : Program} {ops : Array Oper} {o : Oper} {a : Act} {w : World} {K : Act → World → Prop} {Q : Exit → Act → World → Prop} {E : Prop} (hgd : o.guard = none) (f : FuncId) (x : Operand) (ts : Array TypeId)
 (ho : o.op = .call { callee := .value (.func f), args := #[x], argTypes := ts }) (hent : ∀ args w, (callFunc f args).run P w = .ok (.enter f args) w)
 (v1 : Value) (h1 : a.eval x = v1) (R : Ending → World → Prop) (hc : Calls P f #[v1] w R)
 (h : ∀ e w', R e w' → ∃ v, e = .returned v ∧ K (a.put o.dst v) w') :
 if Region.wanted o (yielded ops a.tmps) = true then Oper.wp P o a w K Q else E := by
 have hw : Region.wanted o (yielded ops a.tmps) = true := by simp [Region.wanted, hgd]
 rw [if_pos hw]
 unfold Oper.wp execOp
 have hf : a.eval (.func f) = .func (.func f) #[] #[] := rfl
 have hof : (Deferred.ofValue (Value.func (Fn.func f) #[] #[]) #[v1]).run P w = .ok { target := .fn (.func f) #[], args := #[v1] } w := rfl
 simp only [ho, resolve, invoke, Sem.run_bind, List.map_toArray, List.map_cons, List.map_nil, h1, hf, hof, Result.andThen_ok, hent]
 show Calls P f #[v1] w _
 exact hc.mono (fun e w' he => by obtain ⟨v, rfl, hr⟩ := h e w' he; exact hr)
end stepc
namespace recs
open Go Go.RowKit base pairs ords
theorem rowR_shape {w : World} {base : Nat} {e : TypeId} {size : Nat} {v : Value} {n : Nat} {xs : List Value} (h : w.ownsRow base e size v n xs) (h0 : ¬ v = .slice none 0 0) : ∃ g c, v = .slice (some ⟨g, 0, none⟩) n c := by
 rcases h.2 with ⟨h', _⟩ | ⟨g, c, cur, rfl, _⟩
 · exact absurd h' h0
 · exact ⟨g, c, rfl⟩
theorem keptBox {N : Prop} {w0 w : World} {F0 : List Nat} {X nm cm ch : Nat} {am ah : Option Addr} {vs : Value} {m : List Pr} {l : List Rc} {x : Rc} {z : List Int} {hs : List Value} (h : Kept N w0 F0 w X am nm cm ah ch vs (m, l ++ [x], z) hs) : BoxS X (.slice am nm cm) (.slice ah (l.length + 1) ch) vs w := by
 have := h.box
 simpa using this
set_option maxRecDepth 100000 in
set_option maxHeartbeats 4000000 in
theorem one_hold (N : Prop) (w0 : World) (F0 : List Nat) (w : World) (X : Nat) (am : Option Addr) (nm cm : Nat) (ah : Option Addr) (ch : Nat) (vs : Value) (s : St) (hs : List Value) (tx : Int) (a : Option Addr) (len cap : Nat) (ops : List Od)
 (hK : Kept N w0 F0 w X am nm cm ah ch vs s hs) (hSo : SlO w a len ops) (hks : ∀ p ∈ ops, p.2.1.size ≤ 1099511627776) (hok : recOk (1, tx, ops) = true) (hsr : smallR (1, tx, ops)) (hlen : len ≤ 1099511627776) (hlh : s.2.1.length ≤ 1099511627776) (hls : s.2.2.length ≤ 1099511627776) (h1 : decide (tx ∈ s.2.2) = false) (h2 : locked s.2.1 ops = false) (h3 : meets s.1 ops = true) :
 Calls Tryz.prog 85 #[.pointer (some ⟨X, 0, none⟩), .agg #[.int .i64 1, .int .i64 tx, .slice a len cap]] w (OnePost N w0 F0 X (some (s.1, s.2.1 ++ [(1, tx, ops)], s.2.2 ++ [tx]))) := by
 have hghl : ∀ k, (Value.slice ah s.2.1.length ch).ownBlock = some k → k < w.heap.size := fun k e => (hK.held.row.lt k e).2
 have hw0w : w0.heap.size ≤ w.heap.size := hK.fr.size
 have hXw : X < w.heap.size := hK.box.lt
 have hsnl : ∀ k, vs.ownBlock = some k → k < w.heap.size := fun k e => (hK.seen.lt k e).2
 obtain ⟨i0, hi, hz0, hz1, hz2⟩ := info_parts infoRW
 obtain ⟨z0, hzi, hy0, hy1, hy2⟩ := info_parts infoZ
 have hc3 : s.2.1.length + 1 ≤ maxLen := by unfold maxLen; omega
 have hc4 : (s.2.1.length + 1) * 40 ≤ 140737488355328 := by omega
 have hc5 : s.2.2.length + 1 ≤ maxLen := by unfold maxLen; omega
 have hc6 : (s.2.2.length + 1) * 8 ≤ 140737488355328 := by omega
 obtain ⟨sa, sc, hvs, hSz⟩ := hK.seen.sl
 subst hvs
 obtain ⟨V, hV⟩ : ∃ V, V = w.alloc (.cells #[.int .i64 1, .int .i64 tx, .slice a len cap] 133) := ⟨_, rfl⟩
 have hbV : Below w.heap.size w V := by rw [hV]; exact (Below.refl _ _).alloc (Nat.le_refl _) _
 have hbx : BoxR w.heap.size 1 tx (.slice a len cap) V := by rw [hV]; exact boxR_new _ _ _ _
 have hKV := hK.below hbV
 have hXl := hKV.box.lt
 have hRl := hbx.lt
 have y1 := last.On.cell (B := V.heap.size) hKV.box.cells.2.1 hXl
 have y2 := last.On.cell (B := V.heap.size) hbx.cells.2.1 hRl
 have hAt : ∀ x9 : last.On V.heap.size V, Calls Tryz.prog 123 #[.slice ah s.2.1.length ch, .int .i64 tx] x9.w fun e w' => e = .returned (.int .i64 (atRet (placeTx tx s.2.1))) ∧ ∃ y9 : last.On V.heap.size V, w' = y9.w := fun x9 => last.Calls.on x9 (Nat.le_refl _) ((spec_l8At _ _ ch s.2.1 tx x9.w (hKV.held.below x9.2).sl).mono (fun e w' h => ⟨h.1, h.2 ▸ Below.refl _ _⟩))
 have hinh := last.On.inh V.heap.size V
 have HV := Hid.mk' hV.symm
 clear hV
 generalize hP : atRet (placeTx tx s.2.1) = P at hAt
 go_enter Tryz.func85, Tryz.ntmps85
 go_wp2_with fail
 rw [HV.out]
 refine last.wp_region_on V.heap.size (by kernel_rfl) (by kernel_rfl) ?_
 repeat (go_big_quiet_step ((go_at_call 123; with_reducible exact hAt _)))
 refine wpQuiet_nil ?_
 intro w1 hw1
 obtain ⟨x1, hw1⟩ := hw1
 have hb1 : Below V.heap.size V w1 := by rw [hw1]; exact x1.2
 clear hw1 x1
 have hbx1 := hbx.below hb1
 have hK1 := hKV.below hb1
 have HOK := Hid.mk' (spec_recOk 1 tx a len cap ops w1 ((hSo.below hbV).below hb1) hks)
 obtain ⟨d0, d1, d2⟩ := hbx1.cells
 clear y1 y2 hAt hinh
 go_wp2_with fail
 refine HOK.out.mono ?_
 rintro e w2 ⟨rfl, hb2⟩
 rw [hok]
 have hK2 := hK1.below hb2
 have hbx2 := hbx1.below hb2
 have hSo2 := ((hSo.below hbV).below hb1).below hb2
 have hSz2 := ((hSz.below hbV).below hb1).below hb2
 clear d0 d1 d2 HOK HV hbx1 hbx hKV hXl hRl
 obtain ⟨d0, d1, d2⟩ := hbx2.cells
 have hX2 := hK2.box.lt
 have hR2 := hbx2.lt
 have o0 := last.On.cell (B := w2.heap.size) hK2.box.cells.1 hX2
 have o1 := last.On.cell (B := w2.heap.size) hK2.box.cells.2.1 hX2
 have o2 := last.On.cell (B := w2.heap.size) hK2.box.cells.2.2 hX2
 have o3 := last.On.cell (B := w2.heap.size) hbx2.cells.1 hR2
 have o4 := last.On.cell (B := w2.heap.size) hbx2.cells.2.1 hR2
 have o5 := last.On.cell (B := w2.heap.size) hbx2.cells.2.2 hR2
 have hinh2 := last.On.inh w2.heap.size w2
 have hHas : ∀ x9 : last.On w2.heap.size w2, Calls Tryz.prog 83 #[.slice sa s.2.2.length sc, .int .i64 tx] x9.w fun e w' => e = .returned (.bool (decide (tx ∈ s.2.2))) ∧ ∃ y9 : last.On w2.heap.size w2, w' = y9.w := fun x9 => last.Calls.on x9 (Nat.le_refl _) ((spec_l7Has sa s.2.2.length sc s.2.2 tx x9.w (hSz2.below x9.2)).mono (fun e w' h => ⟨h.1, h.2 ▸ Below.refl _ _⟩))
 have hLk : ∀ x9 : last.On w2.heap.size w2, Calls Tryz.prog 125 #[.slice ah s.2.1.length ch, .slice a len cap] x9.w fun e w' => e = .returned (.bool (locked s.2.1 ops)) ∧ ∃ y9 : last.On w2.heap.size w2, w' = y9.w := fun x9 => last.Calls.on x9 (Nat.le_refl _) (spec_locked _ _ ch s.2.1 a len cap ops x9.w (hK2.held.below x9.2).sl (hSo2.below x9.2))
 have hMt : ∀ x9 : last.On w2.heap.size w2, Calls Tryz.prog 126 #[.slice am nm cm, .slice a len cap] x9.w fun e w' => e = .returned (.bool (meets s.1 ops)) ∧ ∃ y9 : last.On w2.heap.size w2, w' = y9.w := fun x9 => last.Calls.on x9 (Nat.le_refl _) (spec_meets _ nm cm s.1 a len cap ops x9.w (hK2.m.below x9.2).sl (hSo2.below x9.2))
 rw [h1] at hHas
 rw [h2] at hLk
 rw [h3] at hMt
 go_wp2_with fail
 refine last.wp_region_on w2.heap.size (by kernel_rfl) (by kernel_rfl) ?_
 repeat (go_big_quiet_step (first | (go_at_call 83; with_reducible exact hHas _) | (go_at_call 125; with_reducible exact hLk _) | (go_at_call 126; with_reducible exact hMt _)))
 refine wpQuiet_nil ?_
 intro w5 hw5
 obtain ⟨x5, hw5⟩ := hw5
 have hb5 : Below w2.heap.size w2 w5 := by rw [hw5]; exact x5.2
 clear hw5 x5 hinh2 o0 o1 o2 o3 o4 o5 hHas hLk hMt d0 d1 d2
 have hK5 := hK2.below hb5
 have hbx5 := hbx2.below hb5
 have hd5 : Below w5.heap.size w5 w5.drew := (Below.refl _ _).drew
 have hSo5 := hSo2.below hb5
 have HCR := Hid.mk' (spec_copyRec 1 tx a len cap ops w5.drew (hSo5.below hd5) hlen)
 go_wp2_with fail
 refine last.wp_region_later (S := fun w' => BoxS X (.slice am nm cm) (.slice ah s.2.1.length ch) (.slice sa s.2.2.length sc) w' ∧ BoxR w.heap.size 1 tx (.slice a len cap) w') 11 (by kernel_rfl) ⟨hK5.box.below hd5, hbx5.below hd5⟩ (fun hHeld0 => ?_)
 refine last.wpAnyL_take (i := 0) (v := (.pointer (some ⟨X, 0, none⟩))) rfl rfl (by kernel_rfl) (by kernel_rfl) (by kernel_rfl) (by kernel_rfl) (fun _ _ _ h => h) (Or.inl ⟨by rfl, ?_⟩) (by assumption) ?_
 · intro wq hSq; go_simp
 try simp only [Act.put, List.setIfInBounds_toArray, List.set_cons_zero, List.set_cons_succ]
 refine last.wpAnyL_take (i := 1) (v := (.pointer (some ⟨X, 0, none⟩))) rfl rfl (by kernel_rfl) (by kernel_rfl) (by kernel_rfl) (by kernel_rfl) (fun _ _ _ h => h) (Or.inl ⟨by rfl, ?_⟩) (by assumption) ?_
 · intro wq hSq; go_simp
 try simp only [Act.put, List.setIfInBounds_toArray, List.set_cons_zero, List.set_cons_succ]
 refine last.wpAnyL_take (i := 2) (v := (.pointer (some ⟨X, 0, none⟩))) rfl rfl (by kernel_rfl) (by kernel_rfl) (by kernel_rfl) (by kernel_rfl) (fun _ _ _ h => h) (Or.inl ⟨by rfl, ?_⟩) (by assumption) ?_
 · intro wq hSq; go_simp
 try simp only [Act.put, List.setIfInBounds_toArray, List.set_cons_zero, List.set_cons_succ]
 refine last.wpAnyL_take (i := 3) (v := (.pointer (some ⟨X, 1, none⟩))) rfl rfl (by kernel_rfl) (by kernel_rfl) (by kernel_rfl) (by kernel_rfl) (fun _ _ _ h => h) (Or.inl ⟨by rfl, ?_⟩) (by assumption) ?_
 · intro wq hSq; go_simp
 try simp only [Act.put, List.setIfInBounds_toArray, List.set_cons_zero, List.set_cons_succ]
 refine last.wpAnyL_take (i := 4) (v := (.slice ah s.2.1.length ch)) rfl rfl (by kernel_rfl) (by kernel_rfl) (by kernel_rfl) (by kernel_rfl) (fun _ _ _ h => h) (Or.inl ⟨by rfl, ?_⟩) (by assumption) ?_
 · intro wq hSq; have q := hSq.1.cells.2.1; go_simp
 try simp only [Act.put, List.setIfInBounds_toArray, List.set_cons_zero, List.set_cons_succ]
 refine last.wpAnyL_take (i := 5) (v := (.agg #[.int .i64 1, .int .i64 tx, .slice a len cap])) rfl rfl (by kernel_rfl) (by kernel_rfl) (by kernel_rfl) (by kernel_rfl) (fun _ _ _ h => h) (Or.inl ⟨by rfl, ?_⟩) (by assumption) ?_
 · intro wq hSq; obtain ⟨q1, q2, q3⟩ := hSq.2.cells; go_simp
 try simp only [Act.put, List.setIfInBounds_toArray, List.set_cons_zero, List.set_cons_succ]
 refine last.wpAnyL_one (i := 6) (o := { dst := some 52, op := Op.call { callee := Callee.value (Operand.func 127), args := #[Operand.tmp 51], argTypes := #[133] }, type := 133, pos := "l08_record.go:123", after := #[{ on := 5, ground := Ground.data }], guard := none }) (by kernel_rfl) rfl (fun K hK => ?_)
 refine stepc.step_call1 rfl 127 (.tmp 51) _ rfl (fun _ _ => rfl) _ rfl _ HCR.out ?_
 rintro e w6 ⟨g6, c6, rfl, hO6, hb6⟩
 refine ⟨_, rfl, ?_⟩
 have hK6 := (hK5.below hd5).below hb6
 have hbx6 := (hbx5.below hd5).below hb6
 refine hK.out _ _ ?_ (fun hHeld => ?_)
 · exact ⟨hK6.box, hbx6⟩
 clear hK K hHeld0
 have hHeld0 := hHeld
 clear hHeld
 try simp only [Act.put, List.setIfInBounds_toArray, List.set_cons_zero, List.set_cons_succ]
 refine last.wpAnyL_one (i := 7) (o := { dst := some 53, op := Op.buildSlice 52 1 #[(0, Operand.tmp 52)], type := 52, pos := "l08_record.go:123", after := #[{ on := 6, ground := Ground.data }], guard := none }) (by kernel_rfl) rfl (fun K hK => ?_)
 go_simp
 have hb7 : Below w6.heap.size w6 (w6.alloc (.cells #[.int .i64 1, .int .i64 tx, .slice (some ⟨g6, 0, none⟩) len c6] 133)) := (Below.refl _ _).alloc (Nat.le_refl _) _
 have hK7 := hK6.below hb7
 have hbx7 := hbx6.below hb7
 refine hK.out _ _ ?_ (fun hHeld => ?_)
 · exact ⟨hK7.box, hbx7⟩
 clear hK K hHeld0
 have hHeld0 := hHeld
 clear hHeld
 try simp only [Act.put, List.setIfInBounds_toArray, List.set_cons_zero, List.set_cons_succ]
 refine last.wpAnyL_one (i := 8) (o := { dst := some 54, op := Op.call { callee := Callee.builtin Builtin.append, args := #[Operand.tmp 50, Operand.tmp 53], argTypes := #[52, 52] }, type := 52, pos := "l08_record.go:123", after := #[{ on := 4, ground := Ground.data }, { on := 7, ground := Ground.data }, { on := 6, ground := Ground.chain }], guard := none }) (by kernel_rfl) rfl (fun K hK => ?_)
 have hV6 := (ownV_of hO6).mono (base' := 0) (Nat.zero_le _)
 have hV7 := hV6.below hb7
 refine step_append_lies _ rfl (.tmp 50) (.tmp 53) 52 rfl 0 133 i0 (.agg #[.int .i64 0, .int .i64 0, .slice none 0 0]) 3 40 Tryz.underlying52 hi hz0 hz1 hz2 rfl (by decide) _ _ _ rfl hK7.held.row ⟨w6.heap.size, 0, none⟩ 1 1 [.int .i64 1, .int .i64 tx, .slice (some ⟨g6, 0, none⟩) len c6] rfl rfl (rec_cellsW w6 1 tx _ _) (rec_oneW 1 tx hV6.one) (by decide) hc3 hc4 (Nat.zero_le _) _ rfl ?_
 intro g8 c8 w8 hown8 hgrow8 hat8 hlt8
 have hout : ∀ j, (Value.slice (some ⟨g6, 0, none⟩) len c6).ownBlock = some j → ¬ BlkR (.slice ah s.2.1.length ch) hs j := fun j hj hb => by
  have e1 : g6 = j := by simpa [Value.ownBlock] using hj
  have h1 := ((hK5.below hd5).held.lt j hb).2
  have h2 := hO6.lt.1
  omega
 have hyn : ∀ j, (Value.slice (some ⟨g6, 0, none⟩) len c6).ownBlock = some j → w0.heap.size ≤ j := fun j hj => by
  have e1 : g6 = j := by simpa [Value.ownBlock] using hj
  have h1 := (hK5.below hd5).fr.size
  have h2 := hO6.lt.1
  omega
 obtain ⟨hbS8, hK8⟩ := hK7.hold (x := (1, tx, ops)) hV7 hsr hout hyn hown8 hgrow8 hat8 rfl
 have hbx8 := hbx7.grown hgrow8 (fun e => absurd (hghl _ e.symm) (Nat.lt_irrefl _))
 refine hK.out _ _ ?_ (fun hHeld => ?_)
 · exact ⟨hbS8, hbx8⟩
 clear hK K hHeld0
 have hHeld0 := hHeld
 clear hHeld
 try simp only [Act.put, List.setIfInBounds_toArray, List.set_cons_zero, List.set_cons_succ]
 refine last.wpAnyL_one (i := 9) (o := { dst := some 55, op := Op.nilCheck (Operand.tmp 46), type := 0, pos := "l08_record.go:123", after := #[{ on := 0, ground := Ground.data }, { on := 0, ground := Ground.phase }, { on := 1, ground := Ground.phase }, { on := 2, ground := Ground.phase }, { on := 3, ground := Ground.phase }, { on := 4, ground := Ground.phase }, { on := 5, ground := Ground.phase }, { on := 6, ground := Ground.phase }, { on := 7, ground := Ground.phase }, { on := 8, ground := Ground.phase }], guard := none }) (by kernel_rfl) rfl (fun K hK => ?_)
 go_simp
 refine hK.out _ _ ?_ (fun hHeld => ?_)
 · exact hHeld0
 clear hK K hHeld0
 have hHeld0 := hHeld
 clear hHeld
 try simp only [Act.put, List.setIfInBounds_toArray, List.set_cons_zero, List.set_cons_succ]
 refine last.wpAnyL_take (i := 10) (v := (.pointer (some ⟨X, 1, none⟩))) rfl rfl (by kernel_rfl) (by kernel_rfl) (by kernel_rfl) (by kernel_rfl) (fun _ _ _ h => h) (Or.inl ⟨by rfl, ?_⟩) (by assumption) ?_
 · intro wq hSq; go_simp
 try simp only [Act.put, List.setIfInBounds_toArray, List.set_cons_zero, List.set_cons_succ]
 have e8 := hbS8.cells.2.1
 have f8 := hbS8.fz 1
 refine last.wpAnyL_last (o := { dst := none, op := Op.store 52 (Operand.tmp 56) (Operand.tmp 54), type := 0, pos := "l08_record.go:123", after := #[{ on := 10, ground := Ground.data }, { on := 8, ground := Ground.data }, { on := 8, ground := Ground.chain }, { on := 0, ground := Ground.phase }, { on := 1, ground := Ground.phase }, { on := 2, ground := Ground.phase }, { on := 3, ground := Ground.phase }, { on := 4, ground := Ground.phase }, { on := 5, ground := Ground.phase }, { on := 6, ground := Ground.phase }, { on := 7, ground := Ground.phase }, { on := 8, ground := Ground.phase }], guard := none }) (by kernel_rfl) rfl (by kernel_rfl) (fun K hK => ?_)
 go_simp
 refine hK.out _ _ ?_
 clear hK K
 have c8' := set_cur hbS8 1 (.slice (some ⟨g8, 0, none⟩) (s.2.1.length + 1) c8)
 have hbx9 := hbx8.grown c8'.2 (fun e => absurd (show w.heap.size = X by simpa using e) (Nat.ne_of_gt hXw))
 generalize hW9 : w8.setCell ⟨X, 1, none⟩ (.slice (some ⟨g8, 0, none⟩) (s.2.1.length + 1) c8) = w9 at *
 clear hW9 c8' hown8 hgrow8 hat8 hlt8 hHeld0 e8 f8 hbS8 hbx8 hout hyn hV6 hV7 hK7 hbx7 hb7 hO6 hK6 hbx6 hb6 HCR
 have hL9 : (s.2.1 ++ [(1, tx, ops)]).length = s.2.1.length + 1 := by simp
 have hdn : Below w9.heap.size w9 w9.drew := (Below.refl _ _).drew
 go_wp2_with fail
 refine last.wp_region_later (S := fun w' => BoxS X (.slice am nm cm) (.slice (some ⟨g8, 0, none⟩) (s.2.1.length + 1) c8) (.slice sa s.2.2.length sc) w' ∧ BoxR w.heap.size 1 tx (.slice a len cap) w') 11 (by kernel_rfl) ⟨(keptBox hK8).below hdn, hbx9.below hdn⟩ (fun hHeld0 => ?_)
 refine last.wpAnyL_take (i := 0) (v := (.pointer (some ⟨X, 0, none⟩))) rfl rfl (by kernel_rfl) (by kernel_rfl) (by kernel_rfl) (by kernel_rfl) (fun _ _ _ h => h) (Or.inl ⟨by rfl, ?_⟩) (by assumption) ?_
 · intro wq hSq; go_simp
 try simp only [Act.put, List.setIfInBounds_toArray, List.set_cons_zero, List.set_cons_succ]
 refine last.wpAnyL_take (i := 1) (v := (.pointer (some ⟨X, 0, none⟩))) rfl rfl (by kernel_rfl) (by kernel_rfl) (by kernel_rfl) (by kernel_rfl) (fun _ _ _ h => h) (Or.inl ⟨by rfl, ?_⟩) (by assumption) ?_
 · intro wq hSq; go_simp
 try simp only [Act.put, List.setIfInBounds_toArray, List.set_cons_zero, List.set_cons_succ]
 refine last.wpAnyL_take (i := 2) (v := (.pointer (some ⟨X, 0, none⟩))) rfl rfl (by kernel_rfl) (by kernel_rfl) (by kernel_rfl) (by kernel_rfl) (fun _ _ _ h => h) (Or.inl ⟨by rfl, ?_⟩) (by assumption) ?_
 · intro wq hSq; go_simp
 try simp only [Act.put, List.setIfInBounds_toArray, List.set_cons_zero, List.set_cons_succ]
 refine last.wpAnyL_take (i := 3) (v := (.pointer (some ⟨X, 2, none⟩))) rfl rfl (by kernel_rfl) (by kernel_rfl) (by kernel_rfl) (by kernel_rfl) (fun _ _ _ h => h) (Or.inl ⟨by rfl, ?_⟩) (by assumption) ?_
 · intro wq hSq; go_simp
 try simp only [Act.put, List.setIfInBounds_toArray, List.set_cons_zero, List.set_cons_succ]
 refine last.wpAnyL_take (i := 4) (v := (.slice sa s.2.2.length sc)) rfl rfl (by kernel_rfl) (by kernel_rfl) (by kernel_rfl) (by kernel_rfl) (fun _ _ _ h => h) (Or.inl ⟨by rfl, ?_⟩) (by assumption) ?_
 · intro wq hSq; have q := hSq.1.cells.2.2; go_simp
 try simp only [Act.put, List.setIfInBounds_toArray, List.set_cons_zero, List.set_cons_succ]
 refine last.wpAnyL_take (i := 5) (v := (.pointer (some ⟨w.heap.size, 1, none⟩))) rfl rfl (by kernel_rfl) (by kernel_rfl) (by kernel_rfl) (by kernel_rfl) (fun _ _ _ h => h) (Or.inl ⟨by rfl, ?_⟩) (by assumption) ?_
 · intro wq hSq; go_simp
 try simp only [Act.put, List.setIfInBounds_toArray, List.set_cons_zero, List.set_cons_succ]
 refine last.wpAnyL_take (i := 6) (v := (.int .i64 tx)) rfl rfl (by kernel_rfl) (by kernel_rfl) (by kernel_rfl) (by kernel_rfl) (fun _ _ _ h => h) (Or.inl ⟨by rfl, ?_⟩) (by assumption) ?_
 · intro wq hSq; have q := hSq.2.cells.2.1; go_simp
 try simp only [Act.put, List.setIfInBounds_toArray, List.set_cons_zero, List.set_cons_succ]
 refine last.wpAnyL_one (i := 7) (o := { dst := some 64, op := Op.buildSlice 105 1 #[(0, Operand.tmp 63)], type := 105, pos := "l08_record.go:124", after := #[{ on := 6, ground := Ground.data }], guard := none }) (by kernel_rfl) rfl (fun K hK => ?_)
 go_simp
 have hbn : Below w9.heap.size w9 (w9.drew.alloc (.cells #[.int .i64 tx] 3)) := hdn.alloc hdn.size _
 have hKan := hK8.below hbn
 have hbxan := hbx9.below hbn
 refine hK.out _ _ ?_ (fun hHeld => ?_)
 · exact ⟨keptBox hKan, hbxan⟩
 clear hK K hHeld0
 have hHeld0 := hHeld
 clear hHeld
 try simp only [Act.put, List.setIfInBounds_toArray, List.set_cons_zero, List.set_cons_succ]
 refine last.wpAnyL_one (i := 8) (o := { dst := some 65, op := Op.call { callee := Callee.builtin Builtin.append, args := #[Operand.tmp 61, Operand.tmp 64], argTypes := #[105, 105] }, type := 105, pos := "l08_record.go:124", after := #[{ on := 4, ground := Ground.data }, { on := 7, ground := Ground.data }], guard := none }) (by kernel_rfl) rfl (fun K hK => ?_)
 refine step_append_lies _ rfl (.tmp 61) (.tmp 64) 105 rfl 0 3 z0 (.int .i64 0) 1 8 Tryz.underlying105 hzi hy0 hy1 hy2 rfl (by decide) _ _ _ rfl hKan.seen ⟨w9.heap.size, 0, none⟩ 1 1 (intVals [tx]) rfl rfl (one_int_cells _ _ _) (intVals_oneCell _) (by decide) hc5 hc6 (Nat.zero_le _) _ rfl ?_
 intro gt ct wt hownt hgrowt hatt hltt
 obtain ⟨hbSt, hKt⟩ := hKan.see hownt hgrowt hatt rfl
 simp only [List.length_append, List.length_singleton] at hbSt
 have hbxt := hbxan.grown hgrowt (fun e => absurd (hsnl _ e.symm) (Nat.lt_irrefl _))
 refine hK.out _ _ ?_ (fun hHeld => ?_)
 · exact ⟨hbSt, hbxt⟩
 clear hK K hHeld0
 have hHeld0 := hHeld
 clear hHeld
 try simp only [Act.put, List.setIfInBounds_toArray, List.set_cons_zero, List.set_cons_succ]
 refine last.wpAnyL_one (i := 9) (o := { dst := some 66, op := Op.nilCheck (Operand.tmp 57), type := 0, pos := "l08_record.go:124", after := #[{ on := 0, ground := Ground.data }, { on := 0, ground := Ground.phase }, { on := 1, ground := Ground.phase }, { on := 2, ground := Ground.phase }, { on := 3, ground := Ground.phase }, { on := 4, ground := Ground.phase }, { on := 5, ground := Ground.phase }, { on := 6, ground := Ground.phase }, { on := 7, ground := Ground.phase }, { on := 8, ground := Ground.phase }], guard := none }) (by kernel_rfl) rfl (fun K hK => ?_)
 go_simp
 refine hK.out _ _ ?_ (fun hHeld => ?_)
 · exact hHeld0
 clear hK K hHeld0
 have hHeld0 := hHeld
 clear hHeld
 try simp only [Act.put, List.setIfInBounds_toArray, List.set_cons_zero, List.set_cons_succ]
 refine last.wpAnyL_take (i := 10) (v := (.pointer (some ⟨X, 2, none⟩))) rfl rfl (by kernel_rfl) (by kernel_rfl) (by kernel_rfl) (by kernel_rfl) (fun _ _ _ h => h) (Or.inl ⟨by rfl, ?_⟩) (by assumption) ?_
 · intro wq hSq; go_simp
 try simp only [Act.put, List.setIfInBounds_toArray, List.set_cons_zero, List.set_cons_succ]
 have et := hbSt.cells.2.2
 have ft := hbSt.fz 2
 refine last.wpAnyL_last (o := { dst := none, op := Op.store 105 (Operand.tmp 67) (Operand.tmp 65), type := 0, pos := "l08_record.go:124", after := #[{ on := 10, ground := Ground.data }, { on := 8, ground := Ground.data }, { on := 8, ground := Ground.chain }, { on := 0, ground := Ground.phase }, { on := 1, ground := Ground.phase }, { on := 2, ground := Ground.phase }, { on := 3, ground := Ground.phase }, { on := 4, ground := Ground.phase }, { on := 5, ground := Ground.phase }, { on := 6, ground := Ground.phase }, { on := 7, ground := Ground.phase }, { on := 8, ground := Ground.phase }], guard := none }) (by kernel_rfl) rfl (by kernel_rfl) (fun K hK => ?_)
 go_simp
 refine hK.out _ _ ?_
 clear hK K
 generalize hWt : wt.setCell ⟨X, 2, none⟩ (.slice (some ⟨gt, 0, none⟩) (s.2.2.length + 1) ct) = wz at *
 go_wp2_with fail
 go_ret
 exact ⟨rfl, _, _, _, _, _, _, _, hKt⟩
end recs
end Go.Proofs.YtijplooogplccaaGreat
