/- RecZg RecZh -/
import Derived.Test.YtijplooogplccaaGreatShaq
set_option linter.unusedVariables false
set_option linter.unusedSimpArgs false
namespace Go.Proofs.YtijplooogplccaaGreat
namespace recs
open Go Go.RowKit base pairs ords
set_option maxRecDepth 100000 in
set_option maxHeartbeats 4000000 in
theorem one_gone (N : Prop) (w0 : World) (F0 : List Nat) (w : World) (X : Nat) (am : Option Addr) (nm cm : Nat) (ah : Option Addr) (ch : Nat) (vs : Value) (s : St) (hs : List Value) (tx : Int) (a : Option Addr) (len cap : Nat) (ops : List Od)
 (hK : Kept N w0 F0 w X am nm cm ah ch vs s hs) (hSo : SlO w a len ops) (hks : ∀ p ∈ ops, p.2.1.size ≤ 1099511627776) (hok : recOk (3, tx, ops) = true) (hls : s.2.2.length ≤ 1099511627776) (hpl : placeTx tx s.2.1 = none) (h1 : decide (tx ∈ s.2.2) = false) :
 Calls Tryz.prog 85 #[.pointer (some ⟨X, 0, none⟩), .agg #[.int .i64 3, .int .i64 tx, .slice a len cap]] w (OnePost N w0 F0 X (some (s.1, s.2.1, s.2.2 ++ [tx]))) := by
 have hghl : ∀ k, (Value.slice ah s.2.1.length ch).ownBlock = some k → k < w.heap.size := fun k e => (hK.held.row.lt k e).2
 have hXw : X < w.heap.size := hK.box.lt
 have hsnl : ∀ k, vs.ownBlock = some k → k < w.heap.size := fun k e => (hK.seen.lt k e).2
 obtain ⟨z0, hzi, hy0, hy1, hy2⟩ := info_parts infoZ
 have hc5 : s.2.2.length + 1 ≤ maxLen := by unfold maxLen; omega
 have hc6 : (s.2.2.length + 1) * 8 ≤ 140737488355328 := by omega
 obtain ⟨sa, sc, hvs, hSz⟩ := hK.seen.sl
 subst hvs
 obtain ⟨V, hV⟩ : ∃ V, V = w.alloc (.cells #[.int .i64 3, .int .i64 tx, .slice a len cap] 133) := ⟨_, rfl⟩
 have hbV : Below w.heap.size w V := by rw [hV]; exact (Below.refl _ _).alloc (Nat.le_refl _) _
 have hbx : BoxR w.heap.size 3 tx (.slice a len cap) V := by rw [hV]; exact boxR_new _ _ _ _
 have hKV := hK.below hbV
 have hXl := hKV.box.lt
 have hRl := hbx.lt
 have y1 := last.On.cell (B := V.heap.size) hKV.box.cells.2.1 hXl
 have y2 := last.On.cell (B := V.heap.size) hbx.cells.2.1 hRl
 have hAt : ∀ x9 : last.On V.heap.size V, Calls Tryz.prog 123 #[.slice ah s.2.1.length ch, .int .i64 tx] x9.w fun e w' => e = .returned (.int .i64 (atRet (placeTx tx s.2.1))) ∧ ∃ y9 : last.On V.heap.size V, w' = y9.w := fun x9 => last.Calls.on x9 (Nat.le_refl _) ((spec_l8At _ _ ch s.2.1 tx x9.w (hKV.held.below x9.2).sl).mono (fun e w' h => ⟨h.1, h.2 ▸ Below.refl _ _⟩))
 have hinh := last.On.inh V.heap.size V
 have HV := Hid.mk' hV.symm
 clear hV
 rw [hpl, show atRet none = -1 from rfl] at hAt
 go_enter Tryz.func85, Tryz.ntmps85
 go_wp2_with fail
 rw [HV.out]
 refine last.wp_region_on V.heap.size (by kernel_rfl) (by kernel_rfl) ?_
 repeat (go_big_quiet_step ((go_at_call 123; with_reducible exact hAt _)))
 refine wpQuiet_nil ?_
 intro w1 hw1
 obtain ⟨x1, hw1⟩ := hw1
 have hb1 : Below V.heap.size V w1 := by rw [hw1]; exact x1.2
 clear hw1 x1
 have hbx1 := hbx.below hb1
 have hK1 := hKV.below hb1
 have HOK := Hid.mk' (spec_recOk 3 tx a len cap ops w1 ((hSo.below hbV).below hb1) hks)
 obtain ⟨d0, d1, d2⟩ := hbx1.cells
 clear y1 y2 hAt hinh
 go_wp2_with fail
 refine HOK.out.mono ?_
 rintro e w2 ⟨rfl, hb2⟩
 rw [hok]
 have hK2 := hK1.below hb2
 have hbx2 := hbx1.below hb2
 have hSo2 := ((hSo.below hbV).below hb1).below hb2
 have hSz2 := ((hSz.below hbV).below hb1).below hb2
 clear d0 d1 d2 HOK HV hbx1 hbx hKV hXl hRl
 obtain ⟨d0, d1, d2⟩ := hbx2.cells
 have hX2 := hK2.box.lt
 have hR2 := hbx2.lt
 have o0 := last.On.cell (B := w2.heap.size) hK2.box.cells.1 hX2
 have o1 := last.On.cell (B := w2.heap.size) hK2.box.cells.2.1 hX2
 have o2 := last.On.cell (B := w2.heap.size) hK2.box.cells.2.2 hX2
 have o3 := last.On.cell (B := w2.heap.size) hbx2.cells.1 hR2
 have o4 := last.On.cell (B := w2.heap.size) hbx2.cells.2.1 hR2
 have o5 := last.On.cell (B := w2.heap.size) hbx2.cells.2.2 hR2
 have hinh2 := last.On.inh w2.heap.size w2
 have hHas : ∀ x9 : last.On w2.heap.size w2, Calls Tryz.prog 83 #[.slice sa s.2.2.length sc, .int .i64 tx] x9.w fun e w' => e = .returned (.bool (decide (tx ∈ s.2.2))) ∧ ∃ y9 : last.On w2.heap.size w2, w' = y9.w := fun x9 => last.Calls.on x9 (Nat.le_refl _) ((spec_l7Has sa s.2.2.length sc s.2.2 tx x9.w (hSz2.below x9.2)).mono (fun e w' h => ⟨h.1, h.2 ▸ Below.refl _ _⟩))
 rw [h1] at hHas
 go_wp2_with fail
 refine last.wp_region_on w2.heap.size (by kernel_rfl) (by kernel_rfl) ?_
 repeat (go_big_quiet_step ((go_at_call 83; with_reducible exact hHas _)))
 refine wpQuiet_nil ?_
 intro w5 hw5
 obtain ⟨x5, hw5⟩ := hw5
 have hb5 : Below w2.heap.size w2 w5 := by rw [hw5]; exact x5.2
 clear hw5 x5 hinh2 o0 o1 o2 o3 o4 o5 hHas d0 d1 d2
 have hK5 := hK2.below hb5
 have hbx5 := hbx2.below hb5
 have hdn : Below w5.heap.size w5 w5.drew := (Below.refl _ _).drew
 go_wp2_with fail
 refine last.wp_region_later (S := fun w' => BoxS X (.slice am nm cm) (.slice ah s.2.1.length ch) (.slice sa s.2.2.length sc) w' ∧ BoxR w.heap.size 3 tx (.slice a len cap) w') 11 (by kernel_rfl) ⟨(hK5.box).below hdn, hbx5.below hdn⟩ (fun hHeld0 => ?_)
 refine last.wpAnyL_take (i := 0) (v := (.pointer (some ⟨X, 0, none⟩))) rfl rfl (by kernel_rfl) (by kernel_rfl) (by kernel_rfl) (by kernel_rfl) (fun _ _ _ h => h) (Or.inl ⟨by rfl, ?_⟩) (by assumption) ?_
 · intro wq hSq; go_simp
 try simp only [Act.put, List.setIfInBounds_toArray, List.set_cons_zero, List.set_cons_succ]
 refine last.wpAnyL_take (i := 1) (v := (.pointer (some ⟨X, 0, none⟩))) rfl rfl (by kernel_rfl) (by kernel_rfl) (by kernel_rfl) (by kernel_rfl) (fun _ _ _ h => h) (Or.inl ⟨by rfl, ?_⟩) (by assumption) ?_
 · intro wq hSq; go_simp
 try simp only [Act.put, List.setIfInBounds_toArray, List.set_cons_zero, List.set_cons_succ]
 refine last.wpAnyL_take (i := 2) (v := (.pointer (some ⟨X, 0, none⟩))) rfl rfl (by kernel_rfl) (by kernel_rfl) (by kernel_rfl) (by kernel_rfl) (fun _ _ _ h => h) (Or.inl ⟨by rfl, ?_⟩) (by assumption) ?_
 · intro wq hSq; go_simp
 try simp only [Act.put, List.setIfInBounds_toArray, List.set_cons_zero, List.set_cons_succ]
 refine last.wpAnyL_take (i := 3) (v := (.pointer (some ⟨X, 2, none⟩))) rfl rfl (by kernel_rfl) (by kernel_rfl) (by kernel_rfl) (by kernel_rfl) (fun _ _ _ h => h) (Or.inl ⟨by rfl, ?_⟩) (by assumption) ?_
 · intro wq hSq; go_simp
 try simp only [Act.put, List.setIfInBounds_toArray, List.set_cons_zero, List.set_cons_succ]
 refine last.wpAnyL_take (i := 4) (v := (.slice sa s.2.2.length sc)) rfl rfl (by kernel_rfl) (by kernel_rfl) (by kernel_rfl) (by kernel_rfl) (fun _ _ _ h => h) (Or.inl ⟨by rfl, ?_⟩) (by assumption) ?_
 · intro wq hSq; have q := hSq.1.cells.2.2; go_simp
 try simp only [Act.put, List.setIfInBounds_toArray, List.set_cons_zero, List.set_cons_succ]
 refine last.wpAnyL_take (i := 5) (v := (.pointer (some ⟨w.heap.size, 1, none⟩))) rfl rfl (by kernel_rfl) (by kernel_rfl) (by kernel_rfl) (by kernel_rfl) (fun _ _ _ h => h) (Or.inl ⟨by rfl, ?_⟩) (by assumption) ?_
 · intro wq hSq; go_simp
 try simp only [Act.put, List.setIfInBounds_toArray, List.set_cons_zero, List.set_cons_succ]
 refine last.wpAnyL_take (i := 6) (v := (.int .i64 tx)) rfl rfl (by kernel_rfl) (by kernel_rfl) (by kernel_rfl) (by kernel_rfl) (fun _ _ _ h => h) (Or.inl ⟨by rfl, ?_⟩) (by assumption) ?_
 · intro wq hSq; have q := hSq.2.cells.2.1; go_simp
 try simp only [Act.put, List.setIfInBounds_toArray, List.set_cons_zero, List.set_cons_succ]
 refine last.wpAnyL_one (i := 7) (o := { dst := some 90, op := Op.buildSlice 105 1 #[(0, Operand.tmp 89)], type := 105, pos := "l08_record.go:129", after := #[{ on := 6, ground := Ground.data }], guard := none }) (by kernel_rfl) rfl (fun K hK => ?_)
 go_simp
 have hbn : Below w5.heap.size w5 (w5.drew.alloc (.cells #[.int .i64 tx] 3)) := hdn.alloc hdn.size _
 have hKan := hK5.below hbn
 have hbxan := hbx5.below hbn
 refine hK.out _ _ ?_ (fun hHeld => ?_)
 · exact ⟨hKan.box, hbxan⟩
 clear hK K hHeld0
 have hHeld0 := hHeld
 clear hHeld
 try simp only [Act.put, List.setIfInBounds_toArray, List.set_cons_zero, List.set_cons_succ]
 refine last.wpAnyL_one (i := 8) (o := { dst := some 91, op := Op.call { callee := Callee.builtin Builtin.append, args := #[Operand.tmp 87, Operand.tmp 90], argTypes := #[105, 105] }, type := 105, pos := "l08_record.go:129", after := #[{ on := 4, ground := Ground.data }, { on := 7, ground := Ground.data }], guard := none }) (by kernel_rfl) rfl (fun K hK => ?_)
 refine step_append_lies _ rfl (.tmp 87) (.tmp 90) 105 rfl 0 3 z0 (.int .i64 0) 1 8 Tryz.underlying105 hzi hy0 hy1 hy2 rfl (by decide) _ _ _ rfl hKan.seen ⟨w5.heap.size, 0, none⟩ 1 1 (intVals [tx]) rfl rfl (one_int_cells _ _ _) (intVals_oneCell _) (by decide) hc5 hc6 (Nat.zero_le _) _ rfl ?_
 intro gt ct wt hownt hgrowt hatt hltt
 obtain ⟨hbSt, hKt⟩ := hKan.see hownt hgrowt hatt rfl
 have hbxt := hbxan.grown hgrowt (fun e => absurd (hsnl _ e.symm) (Nat.lt_irrefl _))
 refine hK.out _ _ ?_ (fun hHeld => ?_)
 · exact ⟨hbSt, hbxt⟩
 clear hK K hHeld0
 have hHeld0 := hHeld
 clear hHeld
 try simp only [Act.put, List.setIfInBounds_toArray, List.set_cons_zero, List.set_cons_succ]
 refine last.wpAnyL_one (i := 9) (o := { dst := some 92, op := Op.nilCheck (Operand.tmp 83), type := 0, pos := "l08_record.go:129", after := #[{ on := 0, ground := Ground.data }, { on := 0, ground := Ground.phase }, { on := 1, ground := Ground.phase }, { on := 2, ground := Ground.phase }, { on := 3, ground := Ground.phase }, { on := 4, ground := Ground.phase }, { on := 5, ground := Ground.phase }, { on := 6, ground := Ground.phase }, { on := 7, ground := Ground.phase }, { on := 8, ground := Ground.phase }], guard := none }) (by kernel_rfl) rfl (fun K hK => ?_)
 go_simp
 refine hK.out _ _ ?_ (fun hHeld => ?_)
 · exact hHeld0
 clear hK K hHeld0
 have hHeld0 := hHeld
 clear hHeld
 try simp only [Act.put, List.setIfInBounds_toArray, List.set_cons_zero, List.set_cons_succ]
 refine last.wpAnyL_take (i := 10) (v := (.pointer (some ⟨X, 2, none⟩))) rfl rfl (by kernel_rfl) (by kernel_rfl) (by kernel_rfl) (by kernel_rfl) (fun _ _ _ h => h) (Or.inl ⟨by rfl, ?_⟩) (by assumption) ?_
 · intro wq hSq; go_simp
 try simp only [Act.put, List.setIfInBounds_toArray, List.set_cons_zero, List.set_cons_succ]
 have et := hbSt.cells.2.2
 have ft := hbSt.fz 2
 refine last.wpAnyL_last (o := { dst := none, op := Op.store 105 (Operand.tmp 93) (Operand.tmp 91), type := 0, pos := "l08_record.go:129", after := #[{ on := 10, ground := Ground.data }, { on := 8, ground := Ground.data }, { on := 8, ground := Ground.chain }, { on := 0, ground := Ground.phase }, { on := 1, ground := Ground.phase }, { on := 2, ground := Ground.phase }, { on := 3, ground := Ground.phase }, { on := 4, ground := Ground.phase }, { on := 5, ground := Ground.phase }, { on := 6, ground := Ground.phase }, { on := 7, ground := Ground.phase }, { on := 8, ground := Ground.phase }], guard := none }) (by kernel_rfl) rfl (by kernel_rfl) (fun K hK => ?_)
 go_simp
 refine hK.out _ _ ?_
 clear hK K
 generalize hWt : wt.setCell ⟨X, 2, none⟩ (.slice (some ⟨gt, 0, none⟩) (s.2.2.length + 1) ct) = wz at *
 go_wp2_with fail
 go_ret
 exact ⟨rfl, _, _, _, _, _, _, _, hKt⟩
set_option maxRecDepth 100000 in
set_option maxHeartbeats 4000000 in
theorem one_gone_seen (N : Prop) (w0 : World) (F0 : List Nat) (w : World) (X : Nat) (am : Option Addr) (nm cm : Nat) (ah : Option Addr) (ch : Nat) (vs : Value) (s : St) (hs : List Value) (tx : Int) (a : Option Addr) (len cap : Nat) (ops : List Od)
 (hK : Kept N w0 F0 w X am nm cm ah ch vs s hs) (hSo : SlO w a len ops) (hks : ∀ p ∈ ops, p.2.1.size ≤ 1099511627776) (hok : recOk (3, tx, ops) = true) (hls : s.2.2.length ≤ 1099511627776) (hpl : placeTx tx s.2.1 = none) (h1 : decide (tx ∈ s.2.2) = true) :
 Calls Tryz.prog 85 #[.pointer (some ⟨X, 0, none⟩), .agg #[.int .i64 3, .int .i64 tx, .slice a len cap]] w (OnePost N w0 F0 X none) := by
 have hghl : ∀ k, (Value.slice ah s.2.1.length ch).ownBlock = some k → k < w.heap.size := fun k e => (hK.held.row.lt k e).2
 have hXw : X < w.heap.size := hK.box.lt
 have hsnl : ∀ k, vs.ownBlock = some k → k < w.heap.size := fun k e => (hK.seen.lt k e).2
 obtain ⟨z0, hzi, hy0, hy1, hy2⟩ := info_parts infoZ
 have hc5 : s.2.2.length + 1 ≤ maxLen := by unfold maxLen; omega
 have hc6 : (s.2.2.length + 1) * 8 ≤ 140737488355328 := by omega
 obtain ⟨sa, sc, hvs, hSz⟩ := hK.seen.sl
 subst hvs
 obtain ⟨V, hV⟩ : ∃ V, V = w.alloc (.cells #[.int .i64 3, .int .i64 tx, .slice a len cap] 133) := ⟨_, rfl⟩
 have hbV : Below w.heap.size w V := by rw [hV]; exact (Below.refl _ _).alloc (Nat.le_refl _) _
 have hbx : BoxR w.heap.size 3 tx (.slice a len cap) V := by rw [hV]; exact boxR_new _ _ _ _
 have hKV := hK.below hbV
 have hXl := hKV.box.lt
 have hRl := hbx.lt
 have y1 := last.On.cell (B := V.heap.size) hKV.box.cells.2.1 hXl
 have y2 := last.On.cell (B := V.heap.size) hbx.cells.2.1 hRl
 have hAt : ∀ x9 : last.On V.heap.size V, Calls Tryz.prog 123 #[.slice ah s.2.1.length ch, .int .i64 tx] x9.w fun e w' => e = .returned (.int .i64 (atRet (placeTx tx s.2.1))) ∧ ∃ y9 : last.On V.heap.size V, w' = y9.w := fun x9 => last.Calls.on x9 (Nat.le_refl _) ((spec_l8At _ _ ch s.2.1 tx x9.w (hKV.held.below x9.2).sl).mono (fun e w' h => ⟨h.1, h.2 ▸ Below.refl _ _⟩))
 have hinh := last.On.inh V.heap.size V
 have HV := Hid.mk' hV.symm
 clear hV
 rw [hpl, show atRet none = -1 from rfl] at hAt
 go_enter Tryz.func85, Tryz.ntmps85
 go_wp2_with fail
 rw [HV.out]
 refine last.wp_region_on V.heap.size (by kernel_rfl) (by kernel_rfl) ?_
 repeat (go_big_quiet_step ((go_at_call 123; with_reducible exact hAt _)))
 refine wpQuiet_nil ?_
 intro w1 hw1
 obtain ⟨x1, hw1⟩ := hw1
 have hb1 : Below V.heap.size V w1 := by rw [hw1]; exact x1.2
 clear hw1 x1
 have hbx1 := hbx.below hb1
 have hK1 := hKV.below hb1
 have HOK := Hid.mk' (spec_recOk 3 tx a len cap ops w1 ((hSo.below hbV).below hb1) hks)
 obtain ⟨d0, d1, d2⟩ := hbx1.cells
 clear y1 y2 hAt hinh
 go_wp2_with fail
 refine HOK.out.mono ?_
 rintro e w2 ⟨rfl, hb2⟩
 rw [hok]
 have hK2 := hK1.below hb2
 have hbx2 := hbx1.below hb2
 have hSo2 := ((hSo.below hbV).below hb1).below hb2
 have hSz2 := ((hSz.below hbV).below hb1).below hb2
 clear d0 d1 d2 HOK HV hbx1 hbx hKV hXl hRl
 obtain ⟨d0, d1, d2⟩ := hbx2.cells
 have hX2 := hK2.box.lt
 have hR2 := hbx2.lt
 have o0 := last.On.cell (B := w2.heap.size) hK2.box.cells.1 hX2
 have o1 := last.On.cell (B := w2.heap.size) hK2.box.cells.2.1 hX2
 have o2 := last.On.cell (B := w2.heap.size) hK2.box.cells.2.2 hX2
 have o3 := last.On.cell (B := w2.heap.size) hbx2.cells.1 hR2
 have o4 := last.On.cell (B := w2.heap.size) hbx2.cells.2.1 hR2
 have o5 := last.On.cell (B := w2.heap.size) hbx2.cells.2.2 hR2
 have hinh2 := last.On.inh w2.heap.size w2
 have hHas : ∀ x9 : last.On w2.heap.size w2, Calls Tryz.prog 83 #[.slice sa s.2.2.length sc, .int .i64 tx] x9.w fun e w' => e = .returned (.bool (decide (tx ∈ s.2.2))) ∧ ∃ y9 : last.On w2.heap.size w2, w' = y9.w := fun x9 => last.Calls.on x9 (Nat.le_refl _) ((spec_l7Has sa s.2.2.length sc s.2.2 tx x9.w (hSz2.below x9.2)).mono (fun e w' h => ⟨h.1, h.2 ▸ Below.refl _ _⟩))
 rw [h1] at hHas
 go_wp2_with fail
 refine last.wp_region_on w2.heap.size (by kernel_rfl) (by kernel_rfl) ?_
 repeat (go_big_quiet_step ((go_at_call 83; with_reducible exact hHas _)))
 refine wpQuiet_nil ?_
 intro w5 hw5
 obtain ⟨x5, hw5⟩ := hw5
 have hb5 : Below w2.heap.size w2 w5 := by rw [hw5]; exact x5.2
 clear hw5 x5 hinh2 o0 o1 o2 o3 o4 o5 hHas d0 d1 d2
 have hK5 := hK2.below hb5
 have hbx5 := hbx2.below hb5
 have hdn : Below w5.heap.size w5 w5.drew := (Below.refl _ _).drew
 go_wp2_with fail
 refine last.wp_region_later (S := fun w' => BoxS X (.slice am nm cm) (.slice ah s.2.1.length ch) (.slice sa s.2.2.length sc) w' ∧ BoxR w.heap.size 3 tx (.slice a len cap) w') 11 (by kernel_rfl) ⟨(hK5.box).below hdn, hbx5.below hdn⟩ (fun hHeld0 => ?_)
 refine last.wpAnyL_take (i := 0) (v := (.pointer (some ⟨X, 0, none⟩))) rfl rfl (by kernel_rfl) (by kernel_rfl) (by kernel_rfl) (by kernel_rfl) (fun _ _ _ h => h) (Or.inl ⟨by rfl, ?_⟩) (by assumption) ?_
 · intro wq hSq; go_simp
 try simp only [Act.put, List.setIfInBounds_toArray, List.set_cons_zero, List.set_cons_succ]
 refine last.wpAnyL_take (i := 1) (v := (.pointer (some ⟨X, 0, none⟩))) rfl rfl (by kernel_rfl) (by kernel_rfl) (by kernel_rfl) (by kernel_rfl) (fun _ _ _ h => h) (Or.inl ⟨by rfl, ?_⟩) (by assumption) ?_
 · intro wq hSq; go_simp
 try simp only [Act.put, List.setIfInBounds_toArray, List.set_cons_zero, List.set_cons_succ]
 refine last.wpAnyL_take (i := 2) (v := (.pointer (some ⟨X, 0, none⟩))) rfl rfl (by kernel_rfl) (by kernel_rfl) (by kernel_rfl) (by kernel_rfl) (fun _ _ _ h => h) (Or.inl ⟨by rfl, ?_⟩) (by assumption) ?_
 · intro wq hSq; go_simp
 try simp only [Act.put, List.setIfInBounds_toArray, List.set_cons_zero, List.set_cons_succ]
 refine last.wpAnyL_take (i := 3) (v := (.pointer (some ⟨X, 2, none⟩))) rfl rfl (by kernel_rfl) (by kernel_rfl) (by kernel_rfl) (by kernel_rfl) (fun _ _ _ h => h) (Or.inl ⟨by rfl, ?_⟩) (by assumption) ?_
 · intro wq hSq; go_simp
 try simp only [Act.put, List.setIfInBounds_toArray, List.set_cons_zero, List.set_cons_succ]
 refine last.wpAnyL_take (i := 4) (v := (.slice sa s.2.2.length sc)) rfl rfl (by kernel_rfl) (by kernel_rfl) (by kernel_rfl) (by kernel_rfl) (fun _ _ _ h => h) (Or.inl ⟨by rfl, ?_⟩) (by assumption) ?_
 · intro wq hSq; have q := hSq.1.cells.2.2; go_simp
 try simp only [Act.put, List.setIfInBounds_toArray, List.set_cons_zero, List.set_cons_succ]
 refine last.wpAnyL_take (i := 5) (v := (.pointer (some ⟨w.heap.size, 1, none⟩))) rfl rfl (by kernel_rfl) (by kernel_rfl) (by kernel_rfl) (by kernel_rfl) (fun _ _ _ h => h) (Or.inl ⟨by rfl, ?_⟩) (by assumption) ?_
 · intro wq hSq; go_simp
 try simp only [Act.put, List.setIfInBounds_toArray, List.set_cons_zero, List.set_cons_succ]
 refine last.wpAnyL_take (i := 6) (v := (.int .i64 tx)) rfl rfl (by kernel_rfl) (by kernel_rfl) (by kernel_rfl) (by kernel_rfl) (fun _ _ _ h => h) (Or.inl ⟨by rfl, ?_⟩) (by assumption) ?_
 · intro wq hSq; have q := hSq.2.cells.2.1; go_simp
 try simp only [Act.put, List.setIfInBounds_toArray, List.set_cons_zero, List.set_cons_succ]
 refine last.wpAnyL_one (i := 7) (o := { dst := some 90, op := Op.buildSlice 105 1 #[(0, Operand.tmp 89)], type := 105, pos := "l08_record.go:129", after := #[{ on := 6, ground := Ground.data }], guard := none }) (by kernel_rfl) rfl (fun K hK => ?_)
 go_simp
 have hbn : Below w5.heap.size w5 (w5.drew.alloc (.cells #[.int .i64 tx] 3)) := hdn.alloc hdn.size _
 have hKan := hK5.below hbn
 have hbxan := hbx5.below hbn
 refine hK.out _ _ ?_ (fun hHeld => ?_)
 · exact ⟨hKan.box, hbxan⟩
 clear hK K hHeld0
 have hHeld0 := hHeld
 clear hHeld
 try simp only [Act.put, List.setIfInBounds_toArray, List.set_cons_zero, List.set_cons_succ]
 refine last.wpAnyL_one (i := 8) (o := { dst := some 91, op := Op.call { callee := Callee.builtin Builtin.append, args := #[Operand.tmp 87, Operand.tmp 90], argTypes := #[105, 105] }, type := 105, pos := "l08_record.go:129", after := #[{ on := 4, ground := Ground.data }, { on := 7, ground := Ground.data }], guard := none }) (by kernel_rfl) rfl (fun K hK => ?_)
 refine step_append_lies _ rfl (.tmp 87) (.tmp 90) 105 rfl 0 3 z0 (.int .i64 0) 1 8 Tryz.underlying105 hzi hy0 hy1 hy2 rfl (by decide) _ _ _ rfl hKan.seen ⟨w5.heap.size, 0, none⟩ 1 1 (intVals [tx]) rfl rfl (one_int_cells _ _ _) (intVals_oneCell _) (by decide) hc5 hc6 (Nat.zero_le _) _ rfl ?_
 intro gt ct wt hownt hgrowt hatt hltt
 obtain ⟨hbSt, hKt⟩ := hKan.see hownt hgrowt hatt rfl
 have hbxt := hbxan.grown hgrowt (fun e => absurd (hsnl _ e.symm) (Nat.lt_irrefl _))
 refine hK.out _ _ ?_ (fun hHeld => ?_)
 · exact ⟨hbSt, hbxt⟩
 clear hK K hHeld0
 have hHeld0 := hHeld
 clear hHeld
 try simp only [Act.put, List.setIfInBounds_toArray, List.set_cons_zero, List.set_cons_succ]
 refine last.wpAnyL_one (i := 9) (o := { dst := some 92, op := Op.nilCheck (Operand.tmp 83), type := 0, pos := "l08_record.go:129", after := #[{ on := 0, ground := Ground.data }, { on := 0, ground := Ground.phase }, { on := 1, ground := Ground.phase }, { on := 2, ground := Ground.phase }, { on := 3, ground := Ground.phase }, { on := 4, ground := Ground.phase }, { on := 5, ground := Ground.phase }, { on := 6, ground := Ground.phase }, { on := 7, ground := Ground.phase }, { on := 8, ground := Ground.phase }], guard := none }) (by kernel_rfl) rfl (fun K hK => ?_)
 go_simp
 refine hK.out _ _ ?_ (fun hHeld => ?_)
 · exact hHeld0
 clear hK K hHeld0
 have hHeld0 := hHeld
 clear hHeld
 try simp only [Act.put, List.setIfInBounds_toArray, List.set_cons_zero, List.set_cons_succ]
 refine last.wpAnyL_take (i := 10) (v := (.pointer (some ⟨X, 2, none⟩))) rfl rfl (by kernel_rfl) (by kernel_rfl) (by kernel_rfl) (by kernel_rfl) (fun _ _ _ h => h) (Or.inl ⟨by rfl, ?_⟩) (by assumption) ?_
 · intro wq hSq; go_simp
 try simp only [Act.put, List.setIfInBounds_toArray, List.set_cons_zero, List.set_cons_succ]
 have et := hbSt.cells.2.2
 have ft := hbSt.fz 2
 refine last.wpAnyL_last (o := { dst := none, op := Op.store 105 (Operand.tmp 93) (Operand.tmp 91), type := 0, pos := "l08_record.go:129", after := #[{ on := 10, ground := Ground.data }, { on := 8, ground := Ground.data }, { on := 8, ground := Ground.chain }, { on := 0, ground := Ground.phase }, { on := 1, ground := Ground.phase }, { on := 2, ground := Ground.phase }, { on := 3, ground := Ground.phase }, { on := 4, ground := Ground.phase }, { on := 5, ground := Ground.phase }, { on := 6, ground := Ground.phase }, { on := 7, ground := Ground.phase }, { on := 8, ground := Ground.phase }], guard := none }) (by kernel_rfl) rfl (by kernel_rfl) (fun K hK => ?_)
 go_simp
 refine hK.out _ _ ?_
 clear hK K
 generalize hWt : wt.setCell ⟨X, 2, none⟩ (.slice (some ⟨gt, 0, none⟩) (s.2.2.length + 1) ct) = wz at *
 go_wp2_with fail
 go_ret
 exact ⟨rfl, hKt.fr⟩
set_option maxRecDepth 100000 in
set_option maxHeartbeats 4000000 in
theorem one_lost (N : Prop) (w0 : World) (F0 : List Nat) (w : World) (X : Nat) (am : Option Addr) (nm cm : Nat) (ah : Option Addr) (ch : Nat) (vs : Value) (s : St) (hs : List Value) (tx : Int) (a : Option Addr) (len cap : Nat) (ops : List Od)
 (hK : Kept N w0 F0 w X am nm cm ah ch vs s hs) (hSo : SlO w a len ops) (hks : ∀ p ∈ ops, p.2.1.size ≤ 1099511627776) (hok : recOk (2, tx, ops) = true) (hls : s.2.2.length ≤ 1099511627776) (hpl : placeTx tx s.2.1 = none) :
 Calls Tryz.prog 85 #[.pointer (some ⟨X, 0, none⟩), .agg #[.int .i64 2, .int .i64 tx, .slice a len cap]] w (OnePost N w0 F0 X none) := by
 have hghl : ∀ k, (Value.slice ah s.2.1.length ch).ownBlock = some k → k < w.heap.size := fun k e => (hK.held.row.lt k e).2
 have hXw : X < w.heap.size := hK.box.lt
 have hsnl : ∀ k, vs.ownBlock = some k → k < w.heap.size := fun k e => (hK.seen.lt k e).2
 obtain ⟨z0, hzi, hy0, hy1, hy2⟩ := info_parts infoZ
 have hc5 : s.2.2.length + 1 ≤ maxLen := by unfold maxLen; omega
 have hc6 : (s.2.2.length + 1) * 8 ≤ 140737488355328 := by omega
 obtain ⟨sa, sc, hvs, hSz⟩ := hK.seen.sl
 subst hvs
 obtain ⟨V, hV⟩ : ∃ V, V = w.alloc (.cells #[.int .i64 2, .int .i64 tx, .slice a len cap] 133) := ⟨_, rfl⟩
 have hbV : Below w.heap.size w V := by rw [hV]; exact (Below.refl _ _).alloc (Nat.le_refl _) _
 have hbx : BoxR w.heap.size 2 tx (.slice a len cap) V := by rw [hV]; exact boxR_new _ _ _ _
 have hKV := hK.below hbV
 have hXl := hKV.box.lt
 have hRl := hbx.lt
 have y1 := last.On.cell (B := V.heap.size) hKV.box.cells.2.1 hXl
 have y2 := last.On.cell (B := V.heap.size) hbx.cells.2.1 hRl
 have hAt : ∀ x9 : last.On V.heap.size V, Calls Tryz.prog 123 #[.slice ah s.2.1.length ch, .int .i64 tx] x9.w fun e w' => e = .returned (.int .i64 (atRet (placeTx tx s.2.1))) ∧ ∃ y9 : last.On V.heap.size V, w' = y9.w := fun x9 => last.Calls.on x9 (Nat.le_refl _) ((spec_l8At _ _ ch s.2.1 tx x9.w (hKV.held.below x9.2).sl).mono (fun e w' h => ⟨h.1, h.2 ▸ Below.refl _ _⟩))
 have hinh := last.On.inh V.heap.size V
 have HV := Hid.mk' hV.symm
 clear hV
 rw [hpl, show atRet none = -1 from rfl] at hAt
 go_enter Tryz.func85, Tryz.ntmps85
 go_wp2_with fail
 rw [HV.out]
 refine last.wp_region_on V.heap.size (by kernel_rfl) (by kernel_rfl) ?_
 repeat (go_big_quiet_step ((go_at_call 123; with_reducible exact hAt _)))
 refine wpQuiet_nil ?_
 intro w1 hw1
 obtain ⟨x1, hw1⟩ := hw1
 have hb1 : Below V.heap.size V w1 := by rw [hw1]; exact x1.2
 clear hw1 x1
 have hbx1 := hbx.below hb1
 have hK1 := hKV.below hb1
 have HOK := Hid.mk' (spec_recOk 2 tx a len cap ops w1 ((hSo.below hbV).below hb1) hks)
 obtain ⟨d0, d1, d2⟩ := hbx1.cells
 clear y1 y2 hAt hinh
 go_wp2_with fail
 refine HOK.out.mono ?_
 rintro e w2 ⟨rfl, hb2⟩
 rw [hok]
 have hK2 := hK1.below hb2
 have hbx2 := hbx1.below hb2
 have hSo2 := ((hSo.below hbV).below hb1).below hb2
 have hSz2 := ((hSz.below hbV).below hb1).below hb2
 clear d0 d1 d2 HOK HV hbx1 hbx hKV hXl hRl
 obtain ⟨d0, d1, d2⟩ := hbx2.cells
 have hX2 := hK2.box.lt
 have hR2 := hbx2.lt
 have o0 := last.On.cell (B := w2.heap.size) hK2.box.cells.1 hX2
 have o1 := last.On.cell (B := w2.heap.size) hK2.box.cells.2.1 hX2
 have o2 := last.On.cell (B := w2.heap.size) hK2.box.cells.2.2 hX2
 have o3 := last.On.cell (B := w2.heap.size) hbx2.cells.1 hR2
 have o4 := last.On.cell (B := w2.heap.size) hbx2.cells.2.1 hR2
 have o5 := last.On.cell (B := w2.heap.size) hbx2.cells.2.2 hR2
 have hinh2 := last.On.inh w2.heap.size w2
 have hHas : ∀ x9 : last.On w2.heap.size w2, Calls Tryz.prog 83 #[.slice sa s.2.2.length sc, .int .i64 tx] x9.w fun e w' => e = .returned (.bool (decide (tx ∈ s.2.2))) ∧ ∃ y9 : last.On w2.heap.size w2, w' = y9.w := fun x9 => last.Calls.on x9 (Nat.le_refl _) ((spec_l7Has sa s.2.2.length sc s.2.2 tx x9.w (hSz2.below x9.2)).mono (fun e w' h => ⟨h.1, h.2 ▸ Below.refl _ _⟩))
 go_wp2_with fail
 refine last.wp_region_on w2.heap.size (by kernel_rfl) (by kernel_rfl) ?_
 repeat (go_big_quiet_step ((go_at_call 83; with_reducible exact hHas _)))
 refine wpQuiet_nil ?_
 intro w5 hw5
 obtain ⟨x5, hw5⟩ := hw5
 have hb5 : Below w2.heap.size w2 w5 := by rw [hw5]; exact x5.2
 clear hw5 x5 hinh2 o0 o1 o2 o3 o4 o5 hHas d0 d1 d2
 have hK5 := hK2.below hb5
 have hbx5 := hbx2.below hb5
 have hdn : Below w5.heap.size w5 w5.drew := (Below.refl _ _).drew
 go_wp2_with fail
 refine last.wp_region_later (S := fun w' => BoxS X (.slice am nm cm) (.slice ah s.2.1.length ch) (.slice sa s.2.2.length sc) w' ∧ BoxR w.heap.size 2 tx (.slice a len cap) w') 11 (by kernel_rfl) ⟨(hK5.box).below hdn, hbx5.below hdn⟩ (fun hHeld0 => ?_)
 refine last.wpAnyL_take (i := 0) (v := (.pointer (some ⟨X, 0, none⟩))) rfl rfl (by kernel_rfl) (by kernel_rfl) (by kernel_rfl) (by kernel_rfl) (fun _ _ _ h => h) (Or.inl ⟨by rfl, ?_⟩) (by assumption) ?_
 · intro wq hSq; go_simp
 try simp only [Act.put, List.setIfInBounds_toArray, List.set_cons_zero, List.set_cons_succ]
 refine last.wpAnyL_take (i := 1) (v := (.pointer (some ⟨X, 0, none⟩))) rfl rfl (by kernel_rfl) (by kernel_rfl) (by kernel_rfl) (by kernel_rfl) (fun _ _ _ h => h) (Or.inl ⟨by rfl, ?_⟩) (by assumption) ?_
 · intro wq hSq; go_simp
 try simp only [Act.put, List.setIfInBounds_toArray, List.set_cons_zero, List.set_cons_succ]
 refine last.wpAnyL_take (i := 2) (v := (.pointer (some ⟨X, 0, none⟩))) rfl rfl (by kernel_rfl) (by kernel_rfl) (by kernel_rfl) (by kernel_rfl) (fun _ _ _ h => h) (Or.inl ⟨by rfl, ?_⟩) (by assumption) ?_
 · intro wq hSq; go_simp
 try simp only [Act.put, List.setIfInBounds_toArray, List.set_cons_zero, List.set_cons_succ]
 refine last.wpAnyL_take (i := 3) (v := (.pointer (some ⟨X, 2, none⟩))) rfl rfl (by kernel_rfl) (by kernel_rfl) (by kernel_rfl) (by kernel_rfl) (fun _ _ _ h => h) (Or.inl ⟨by rfl, ?_⟩) (by assumption) ?_
 · intro wq hSq; go_simp
 try simp only [Act.put, List.setIfInBounds_toArray, List.set_cons_zero, List.set_cons_succ]
 refine last.wpAnyL_take (i := 4) (v := (.slice sa s.2.2.length sc)) rfl rfl (by kernel_rfl) (by kernel_rfl) (by kernel_rfl) (by kernel_rfl) (fun _ _ _ h => h) (Or.inl ⟨by rfl, ?_⟩) (by assumption) ?_
 · intro wq hSq; have q := hSq.1.cells.2.2; go_simp
 try simp only [Act.put, List.setIfInBounds_toArray, List.set_cons_zero, List.set_cons_succ]
 refine last.wpAnyL_take (i := 5) (v := (.pointer (some ⟨w.heap.size, 1, none⟩))) rfl rfl (by kernel_rfl) (by kernel_rfl) (by kernel_rfl) (by kernel_rfl) (fun _ _ _ h => h) (Or.inl ⟨by rfl, ?_⟩) (by assumption) ?_
 · intro wq hSq; go_simp
 try simp only [Act.put, List.setIfInBounds_toArray, List.set_cons_zero, List.set_cons_succ]
 refine last.wpAnyL_take (i := 6) (v := (.int .i64 tx)) rfl rfl (by kernel_rfl) (by kernel_rfl) (by kernel_rfl) (by kernel_rfl) (fun _ _ _ h => h) (Or.inl ⟨by rfl, ?_⟩) (by assumption) ?_
 · intro wq hSq; have q := hSq.2.cells.2.1; go_simp
 try simp only [Act.put, List.setIfInBounds_toArray, List.set_cons_zero, List.set_cons_succ]
 refine last.wpAnyL_one (i := 7) (o := { dst := some 90, op := Op.buildSlice 105 1 #[(0, Operand.tmp 89)], type := 105, pos := "l08_record.go:129", after := #[{ on := 6, ground := Ground.data }], guard := none }) (by kernel_rfl) rfl (fun K hK => ?_)
 go_simp
 have hbn : Below w5.heap.size w5 (w5.drew.alloc (.cells #[.int .i64 tx] 3)) := hdn.alloc hdn.size _
 have hKan := hK5.below hbn
 have hbxan := hbx5.below hbn
 refine hK.out _ _ ?_ (fun hHeld => ?_)
 · exact ⟨hKan.box, hbxan⟩
 clear hK K hHeld0
 have hHeld0 := hHeld
 clear hHeld
 try simp only [Act.put, List.setIfInBounds_toArray, List.set_cons_zero, List.set_cons_succ]
 refine last.wpAnyL_one (i := 8) (o := { dst := some 91, op := Op.call { callee := Callee.builtin Builtin.append, args := #[Operand.tmp 87, Operand.tmp 90], argTypes := #[105, 105] }, type := 105, pos := "l08_record.go:129", after := #[{ on := 4, ground := Ground.data }, { on := 7, ground := Ground.data }], guard := none }) (by kernel_rfl) rfl (fun K hK => ?_)
 refine step_append_lies _ rfl (.tmp 87) (.tmp 90) 105 rfl 0 3 z0 (.int .i64 0) 1 8 Tryz.underlying105 hzi hy0 hy1 hy2 rfl (by decide) _ _ _ rfl hKan.seen ⟨w5.heap.size, 0, none⟩ 1 1 (intVals [tx]) rfl rfl (one_int_cells _ _ _) (intVals_oneCell _) (by decide) hc5 hc6 (Nat.zero_le _) _ rfl ?_
 intro gt ct wt hownt hgrowt hatt hltt
 obtain ⟨hbSt, hKt⟩ := hKan.see hownt hgrowt hatt rfl
 have hbxt := hbxan.grown hgrowt (fun e => absurd (hsnl _ e.symm) (Nat.lt_irrefl _))
 refine hK.out _ _ ?_ (fun hHeld => ?_)
 · exact ⟨hbSt, hbxt⟩
 clear hK K hHeld0
 have hHeld0 := hHeld
 clear hHeld
 try simp only [Act.put, List.setIfInBounds_toArray, List.set_cons_zero, List.set_cons_succ]
 refine last.wpAnyL_one (i := 9) (o := { dst := some 92, op := Op.nilCheck (Operand.tmp 83), type := 0, pos := "l08_record.go:129", after := #[{ on := 0, ground := Ground.data }, { on := 0, ground := Ground.phase }, { on := 1, ground := Ground.phase }, { on := 2, ground := Ground.phase }, { on := 3, ground := Ground.phase }, { on := 4, ground := Ground.phase }, { on := 5, ground := Ground.phase }, { on := 6, ground := Ground.phase }, { on := 7, ground := Ground.phase }, { on := 8, ground := Ground.phase }], guard := none }) (by kernel_rfl) rfl (fun K hK => ?_)
 go_simp
 refine hK.out _ _ ?_ (fun hHeld => ?_)
 · exact hHeld0
 clear hK K hHeld0
 have hHeld0 := hHeld
 clear hHeld
 try simp only [Act.put, List.setIfInBounds_toArray, List.set_cons_zero, List.set_cons_succ]
 refine last.wpAnyL_take (i := 10) (v := (.pointer (some ⟨X, 2, none⟩))) rfl rfl (by kernel_rfl) (by kernel_rfl) (by kernel_rfl) (by kernel_rfl) (fun _ _ _ h => h) (Or.inl ⟨by rfl, ?_⟩) (by assumption) ?_
 · intro wq hSq; go_simp
 try simp only [Act.put, List.setIfInBounds_toArray, List.set_cons_zero, List.set_cons_succ]
 have et := hbSt.cells.2.2
 have ft := hbSt.fz 2
 refine last.wpAnyL_last (o := { dst := none, op := Op.store 105 (Operand.tmp 93) (Operand.tmp 91), type := 0, pos := "l08_record.go:129", after := #[{ on := 10, ground := Ground.data }, { on := 8, ground := Ground.data }, { on := 8, ground := Ground.chain }, { on := 0, ground := Ground.phase }, { on := 1, ground := Ground.phase }, { on := 2, ground := Ground.phase }, { on := 3, ground := Ground.phase }, { on := 4, ground := Ground.phase }, { on := 5, ground := Ground.phase }, { on := 6, ground := Ground.phase }, { on := 7, ground := Ground.phase }, { on := 8, ground := Ground.phase }], guard := none }) (by kernel_rfl) rfl (by kernel_rfl) (fun K hK => ?_)
 go_simp
 refine hK.out _ _ ?_
 clear hK K
 generalize hWt : wt.setCell ⟨X, 2, none⟩ (.slice (some ⟨gt, 0, none⟩) (s.2.2.length + 1) ct) = wz at *
 go_wp2_with fail
 go_ret
 exact ⟨rfl, hKt.fr⟩
end recs
namespace recs
open Go Go.RowKit base pairs ords
theorem recVals_split (l : List Rc) (hs : List Value) (h : hs.length = l.length) (k : Nat) : recVals l hs = recVals (l.take k) (hs.take k) ++ recVals (l.drop k) (hs.drop k) := by
 conv => lhs; rw [← List.take_append_drop k l, ← List.take_append_drop k hs]
 rw [recVals_append]
 simp [h]
theorem OwnR.cellsTake {w : World} {base g n cap : Nat} {l : List Rc} {hs : List Value} (h : OwnR w base (.slice (some ⟨g, 0, none⟩) n cap) l hs) (k : Nat) : ∀ j u, (recVals (l.take k) (hs.take k))[j]? = some u → w.cell? ((⟨g, 0, none⟩ : Addr).add j) = some u := by
 intro j u hu
 obtain rfl := h.nlen
 refine h.row.cells (g := g) rfl j u ?_
 rw [recVals_split l hs h.len k, List.getElem?_append_left (List.getElem?_eq_some_iff.1 hu).1]
 exact hu
theorem OwnR.cellsDrop {w : World} {base g n cap : Nat} {l : List Rc} {hs : List Value} (h : OwnR w base (.slice (some ⟨g, 0, none⟩) n cap) l hs) (k : Nat) (hk : k ≤ l.length) : ∀ j u, (recVals (l.drop k) (hs.drop k))[j]? = some u → w.cell? ((⟨g, k * 3, none⟩ : Addr).add j) = some u := by
 intro j u hu
 obtain rfl := h.nlen
 have hl := h.len
 have hlt : (recVals (l.take k) (hs.take k)).length = k * 3 := by rw [recVals_length _ _ (by simp [hl])]; simp; omega
 have := h.row.cells (g := g) rfl (k * 3 + j) u (by
  rw [recVals_split l hs h.len k, List.getElem?_append_right (by omega), hlt, Nat.add_sub_cancel_left]
  exact hu)
 rw [Addr.add_lit, Nat.zero_add] at this
 rw [Addr.add_lit]
 exact this
theorem OwnR.erase {w w' : World} {base g g' n c c' : Nat} {l : List Rc} {hs : List Value} (h : OwnR w base (.slice (some ⟨g, 0, none⟩) n c) l hs) (hb : Below w.heap.size w w') (k : Nat) (hk : k < l.length) {n' : Nat} (hn : n' = l.length - 1)
 (hown : w'.ownsRow base 133 3 (.slice (some ⟨g', 0, none⟩) n' c') n' (recVals (l.take k ++ l.drop (k + 1)) (hs.take k ++ hs.drop (k + 1)))) :
 OwnR w' base (.slice (some ⟨g', 0, none⟩) (l.take k ++ l.drop (k + 1)).length c') (l.take k ++ l.drop (k + 1)) (hs.take k ++ hs.drop (k + 1)) := by
 have hl := h.len
 have hlen : (l.take k ++ l.drop (k + 1)).length = n' := by simp; omega
 rw [hlen]
 have hops : ∀ i (hi : i < (l.take k ++ l.drop (k + 1)).length), OwnV w' base ((hs.take k ++ hs.drop (k + 1))[i]'(by simp at hi ⊢; omega)) (l.take k ++ l.drop (k + 1))[i].2.2 := by
  intro i hi
  by_cases e : i < k
  · have h1 : (l.take k ++ l.drop (k + 1))[i] = l[i]'(by omega) := by
     rw [List.getElem_append_left (by simp; omega)]; simp
    have h2 : (hs.take k ++ hs.drop (k + 1))[i]'(by simp at hi ⊢; omega) = hs[i]'(by omega) := by
     rw [List.getElem_append_left (by simp; omega)]; simp
    rw [h1, h2]
    exact (h.ops i (by omega)).below hb
  · have hi' : i + 1 < l.length := by simp at hi; omega
    have h1 : (l.take k ++ l.drop (k + 1))[i] = l[i + 1]'hi' := by
     rw [List.getElem_append_right (by simp; omega)]
     simp only [List.getElem_drop]
     congr 1
     simp; omega
    have h2 : (hs.take k ++ hs.drop (k + 1))[i]'(by simp at hi ⊢; omega) = hs[i + 1]'(by omega) := by
     rw [List.getElem_append_right (by simp; omega)]
     simp only [List.getElem_drop]
     congr 1
     simp; omega
    rw [h1, h2]
    exact (h.ops (i + 1) hi').below hb
 have hsub : (hs.take k ++ hs.drop (k + 1)).Sublist hs := by
  rw [← List.eraseIdx_eq_take_drop_succ]; exact List.eraseIdx_sublist _ _
 refine ⟨by simp; omega, fun x hx => h.sm x ?_, by rw [hlen]; exact hown, hops, h.apart.sublist hsub, fun j hj y hy e => ?_⟩
 · rcases List.mem_append.1 hx with h1 | h1
   · exact List.mem_of_mem_take h1
   · exact List.mem_of_mem_drop h1
 · obtain ⟨i, hi, rfl⟩ := List.getElem_of_mem hy
   exact recRow_ne hown (hops i (by simp at hi ⊢; omega)).2 hj e (by decide)
theorem opsAt_eq {l : List Rc} {k : Nat} (h : k < l.length) : opsAt l k = l[k].2.2 := by unfold opsAt; rw [List.getElem?_eq_getElem h]
theorem placeTx_lt {tx : Int} : ∀ {l : List Rc} {k : Nat}, placeTx tx l = some k → k < l.length
 | [], _, h => by cases h
 | r :: l, k, h => by
  rw [placeTx] at h
  split at h
  · cases h; simp
  · cases hq : placeTx tx l with
    | none => rw [hq] at h; cases h
    | some j =>
     rw [hq] at h
     simp only [Option.map_some, Option.some.injEq] at h
     subst h
     have := placeTx_lt hq
     simp; omega
end recs
end Go.Proofs.YtijplooogplccaaGreat
