/- The specification's replay: one record more, that is held. The specification's replay: a record of a transaction that is not held. Rows of records: one taken out. The specification's replay: a transaction that is held is let go. The specification's replay: a transaction that is held is done. -/
import Derived.Test.YtooiinicnkhlbaaBnrc
namespace Go.Proofs.Ytooiinicnkhlbaa.stepc
open Go Go.RowKit
theorem step_call1 {P : Program} {ops : Array Oper} {o : Oper} {a : Act} {w : World} {K : Act → World → Prop} {Q : Exit → Act → World → Prop} {E : Prop} (hgd : o.guard = none) (f : FuncId) (x : Operand) (ts : Array TypeId)
    (ho : o.op = .call { callee := .value (.func f), args := #[x], argTypes := ts }) (hent : ∀ args w, (callFunc f args).run P w = .ok (.enter f args) w)
    (v1 : Value) (h1 : a.eval x = v1) (R : Ending → World → Prop) (hc : Calls P f #[v1] w R)
    (h : ∀ e w', R e w' → ∃ v, e = .returned v ∧ K (a.put o.dst v) w') :
    if Region.wanted o (yielded ops a.tmps) = true then Oper.wp P o a w K Q else E := by
  have hw : Region.wanted o (yielded ops a.tmps) = true := by simp [Region.wanted, hgd]
  rw [if_pos hw]
  unfold Oper.wp execOp
  have hf : a.eval (.func f) = .func (.func f) #[] #[] := rfl
  have hof : (Deferred.ofValue (Value.func (Fn.func f) #[] #[]) #[v1]).run P w = .ok { target := .fn (.func f) #[], args := #[v1] } w := rfl
  simp only [ho, resolve, invoke, Sem.run_bind, List.map_toArray, List.map_cons, List.map_nil, h1, hf, hof, Result.andThen_ok, hent]
  show Calls P f #[v1] w _
  exact hc.mono (fun e w' he => by obtain ⟨v, rfl, hr⟩ := h e w' he; exact hr)
end Go.Proofs.Ytooiinicnkhlbaa.stepc
namespace Go.Proofs.Ytooiinicnkhlbaa.recs
open Go Go.RowKit Go.Proofs.Ytooiinicnkhlbaa.base Go.Proofs.Ytooiinicnkhlbaa.pairs Go.Proofs.Ytooiinicnkhlbaa.ords
set_option linter.unusedVariables false
set_option linter.unusedSimpArgs false
theorem rowR_shape {w : World} {base : Nat} {e : TypeId} {size : Nat} {v : Value} {n : Nat} {xs : List Value} (h : w.ownsRow base e size v n xs) (h0 : ¬ v = .slice none 0 0) : ∃ g c, v = .slice (some ⟨g, 0, none⟩) n c := by
  rcases h.2 with ⟨h', _⟩ | ⟨g, c, cur, rfl, _⟩
  · exact absurd h' h0
  · exact ⟨g, c, rfl⟩
theorem keptBox {w0 w : World} {X gm nm cm gh ch : Nat} {vs : Value} {m : List Pr} {l : List Rc} {x : Rc} {z : List Int} {hs : List Value} (h : Kept w0 w X gm nm cm gh ch vs (m, l ++ [x], z) hs) : BoxS X (.slice (some ⟨gm, 0, none⟩) nm cm) (.slice (some ⟨gh, 0, none⟩) (l.length + 1) ch) vs w := by
  have := h.box
  simpa using this
set_option maxRecDepth 100000 in
set_option maxHeartbeats 4000000 in
theorem one_hold (w0 w : World) (X gm nm cm gh ch : Nat) (vs : Value) (s : St) (hs : List Value) (tx : Int) (a : Option Addr) (len cap : Nat) (ops : List Od)
    (hK : Kept w0 w X gm nm cm gh ch vs s hs) (hSo : SlO w a len ops) (hks : ∀ p ∈ ops, p.2.1.size ≤ 1099511627776) (hok : recOk (1, tx, ops) = true) (hsr : smallR (1, tx, ops)) (hlen : len ≤ 1099511627776) (hlh : s.2.1.length ≤ 1099511627776) (hls : s.2.2.length ≤ 1099511627776) (h1 : decide (tx ∈ s.2.2) = false) (h2 : locked s.2.1 ops = false) (h3 : meets s.1 ops = true) :
    Calls Try.prog 34 #[.pointer (some ⟨X, 0, none⟩), .agg #[.int .i64 1, .int .i64 tx, .slice a len cap]] w (OnePost w0 X (some (s.1, s.2.1 ++ [(1, tx, ops)], s.2.2 ++ [tx]))) := by
  have hghl : gh < w.heap.size := (hK.held.row.lt gh rfl).2
  have hXw : X < w.heap.size := hK.box.lt
  have hsnl : ∀ k, vs.ownBlock = some k → k < w.heap.size := fun k e => (hK.seen.lt k e).2
  obtain ⟨i0, hi, hz0, hz1, hz2⟩ := info_parts infoRW
  obtain ⟨z0, hzi, hy0, hy1, hy2⟩ := info_parts infoZ
  have hc3 : s.2.1.length + 1 ≤ maxLen := by unfold maxLen; omega
  have hc4 : (s.2.1.length + 1) * 40 ≤ 140737488355328 := by omega
  have hc5 : s.2.2.length + 1 ≤ maxLen := by unfold maxLen; omega
  have hc6 : (s.2.2.length + 1) * 8 ≤ 140737488355328 := by omega
  obtain ⟨sa, sc, hvs, hSz⟩ := hK.seen.sl
  subst hvs
  obtain ⟨V, hV⟩ : ∃ V, V = w.alloc (.cells #[.int .i64 1, .int .i64 tx, .slice a len cap] 32) := ⟨_, rfl⟩
  have hbV : Below w.heap.size w V := by rw [hV]; exact (Below.refl _ _).alloc (Nat.le_refl _) _
  have hbx : BoxR w.heap.size 1 tx (.slice a len cap) V := by rw [hV]; exact boxR_new _ _ _ _
  have hKV := hK.below hbV
  have hXl := hKV.box.lt
  have hRl := hbx.lt
  have y1 := last.On.cell (B := V.heap.size) hKV.box.cells.2.1 hXl
  have y2 := last.On.cell (B := V.heap.size) hbx.cells.2.1 hRl
  have hAt : ∀ x9 : last.On V.heap.size V, Calls Try.prog 62 #[.slice (some ⟨gh, 0, none⟩) s.2.1.length ch, .int .i64 tx] x9.w fun e w' => e = .returned (.int .i64 (atRet (placeTx tx s.2.1))) ∧ ∃ y9 : last.On V.heap.size V, w' = y9.w := fun x9 => last.Calls.on x9 (Nat.le_refl _) ((spec_l8At _ _ ch s.2.1 tx x9.w (hKV.held.below x9.2).sl).mono (fun e w' h => ⟨h.1, h.2 ▸ Below.refl _ _⟩))
  have hinh := last.On.inh V.heap.size V
  have HV := Hid.mk' hV.symm
  clear hV
  generalize hP : atRet (placeTx tx s.2.1) = P at hAt
  go_enter Try.func34, Try.ntmps34
  go_wp2_with fail
  rw [HV.out]
  refine last.wp_region_on V.heap.size (by kernel_rfl) (by kernel_rfl) ?_
  repeat (go_big_quiet_step ((go_at_call 62; with_reducible exact hAt _)))
  refine wpQuiet_nil ?_
  intro w1 hw1
  obtain ⟨x1, hw1⟩ := hw1
  have hb1 : Below V.heap.size V w1 := by rw [hw1]; exact x1.2
  clear hw1 x1
  have hbx1 := hbx.below hb1
  have hK1 := hKV.below hb1
  have HOK := Hid.mk' (spec_recOk 1 tx a len cap ops w1 ((hSo.below hbV).below hb1) hks)
  obtain ⟨d0, d1, d2⟩ := hbx1.cells
  clear y1 y2 hAt hinh
  go_wp2_with fail
  refine HOK.out.mono ?_
  rintro e w2 ⟨rfl, hb2⟩
  rw [hok]
  have hK2 := hK1.below hb2
  have hbx2 := hbx1.below hb2
  have hSo2 := ((hSo.below hbV).below hb1).below hb2
  have hSz2 := ((hSz.below hbV).below hb1).below hb2
  clear d0 d1 d2 HOK HV hbx1 hbx hKV hXl hRl
  obtain ⟨d0, d1, d2⟩ := hbx2.cells
  have hX2 := hK2.box.lt
  have hR2 := hbx2.lt
  have o0 := last.On.cell (B := w2.heap.size) hK2.box.cells.1 hX2
  have o1 := last.On.cell (B := w2.heap.size) hK2.box.cells.2.1 hX2
  have o2 := last.On.cell (B := w2.heap.size) hK2.box.cells.2.2 hX2
  have o3 := last.On.cell (B := w2.heap.size) hbx2.cells.1 hR2
  have o4 := last.On.cell (B := w2.heap.size) hbx2.cells.2.1 hR2
  have o5 := last.On.cell (B := w2.heap.size) hbx2.cells.2.2 hR2
  have hinh2 := last.On.inh w2.heap.size w2
  have hHas : ∀ x9 : last.On w2.heap.size w2, Calls Try.prog 63 #[.slice sa s.2.2.length sc, .int .i64 tx] x9.w fun e w' => e = .returned (.bool (decide (tx ∈ s.2.2))) ∧ ∃ y9 : last.On w2.heap.size w2, w' = y9.w := fun x9 => last.Calls.on x9 (Nat.le_refl _) ((spec_l7Has sa s.2.2.length sc s.2.2 tx x9.w (hSz2.below x9.2)).mono (fun e w' h => ⟨h.1, h.2 ▸ Below.refl _ _⟩))
  have hLk : ∀ x9 : last.On w2.heap.size w2, Calls Try.prog 64 #[.slice (some ⟨gh, 0, none⟩) s.2.1.length ch, .slice a len cap] x9.w fun e w' => e = .returned (.bool (locked s.2.1 ops)) ∧ ∃ y9 : last.On w2.heap.size w2, w' = y9.w := fun x9 => last.Calls.on x9 (Nat.le_refl _) (spec_locked _ _ ch s.2.1 a len cap ops x9.w (hK2.held.below x9.2).sl (hSo2.below x9.2))
  have hMt : ∀ x9 : last.On w2.heap.size w2, Calls Try.prog 65 #[.slice (some ⟨gm, 0, none⟩) nm cm, .slice a len cap] x9.w fun e w' => e = .returned (.bool (meets s.1 ops)) ∧ ∃ y9 : last.On w2.heap.size w2, w' = y9.w := fun x9 => last.Calls.on x9 (Nat.le_refl _) (spec_meets _ nm cm s.1 a len cap ops x9.w (hK2.m.below x9.2).sl (hSo2.below x9.2))
  rw [h1] at hHas
  rw [h2] at hLk
  rw [h3] at hMt
  go_wp2_with fail
  refine last.wp_region_on w2.heap.size (by kernel_rfl) (by kernel_rfl) ?_
  repeat (go_big_quiet_step (first | (go_at_call 63; with_reducible exact hHas _) | (go_at_call 64; with_reducible exact hLk _) | (go_at_call 65; with_reducible exact hMt _)))
  refine wpQuiet_nil ?_
  intro w5 hw5
  obtain ⟨x5, hw5⟩ := hw5
  have hb5 : Below w2.heap.size w2 w5 := by rw [hw5]; exact x5.2
  clear hw5 x5 hinh2 o0 o1 o2 o3 o4 o5 hHas hLk hMt d0 d1 d2
  have hK5 := hK2.below hb5
  have hbx5 := hbx2.below hb5
  have hd5 : Below w5.heap.size w5 w5.drew := (Below.refl _ _).drew
  have hSo5 := hSo2.below hb5
  have HCR := Hid.mk' (spec_copyRec 1 tx a len cap ops w5.drew (hSo5.below hd5) hlen)
  go_wp2_with fail
  refine last.wp_region_later (S := fun w' => BoxS X (.slice (some ⟨gm, 0, none⟩) nm cm) (.slice (some ⟨gh, 0, none⟩) s.2.1.length ch) (.slice sa s.2.2.length sc) w' ∧ BoxR w.heap.size 1 tx (.slice a len cap) w') 11 (by kernel_rfl) ⟨hK5.box.below hd5, hbx5.below hd5⟩ (fun hHeld0 => ?_)
  refine last.wpAnyL_take (i := 0) (v := (.pointer (some ⟨X, 0, none⟩))) rfl rfl (by kernel_rfl) (by kernel_rfl) (by kernel_rfl) (by kernel_rfl) (fun _ _ _ h => h) (Or.inl ⟨by rfl, ?_⟩) (by assumption) ?_
  · intro wq hSq; go_simp
  try simp only [Act.put, List.setIfInBounds_toArray, List.set_cons_zero, List.set_cons_succ]
  refine last.wpAnyL_take (i := 1) (v := (.pointer (some ⟨X, 0, none⟩))) rfl rfl (by kernel_rfl) (by kernel_rfl) (by kernel_rfl) (by kernel_rfl) (fun _ _ _ h => h) (Or.inl ⟨by rfl, ?_⟩) (by assumption) ?_
  · intro wq hSq; go_simp
  try simp only [Act.put, List.setIfInBounds_toArray, List.set_cons_zero, List.set_cons_succ]
  refine last.wpAnyL_take (i := 2) (v := (.pointer (some ⟨X, 0, none⟩))) rfl rfl (by kernel_rfl) (by kernel_rfl) (by kernel_rfl) (by kernel_rfl) (fun _ _ _ h => h) (Or.inl ⟨by rfl, ?_⟩) (by assumption) ?_
  · intro wq hSq; go_simp
  try simp only [Act.put, List.setIfInBounds_toArray, List.set_cons_zero, List.set_cons_succ]
  refine last.wpAnyL_take (i := 3) (v := (.pointer (some ⟨X, 1, none⟩))) rfl rfl (by kernel_rfl) (by kernel_rfl) (by kernel_rfl) (by kernel_rfl) (fun _ _ _ h => h) (Or.inl ⟨by rfl, ?_⟩) (by assumption) ?_
  · intro wq hSq; go_simp
  try simp only [Act.put, List.setIfInBounds_toArray, List.set_cons_zero, List.set_cons_succ]
  refine last.wpAnyL_take (i := 4) (v := (.slice (some ⟨gh, 0, none⟩) s.2.1.length ch)) rfl rfl (by kernel_rfl) (by kernel_rfl) (by kernel_rfl) (by kernel_rfl) (fun _ _ _ h => h) (Or.inl ⟨by rfl, ?_⟩) (by assumption) ?_
  · intro wq hSq; have q := hSq.1.cells.2.1; go_simp
  try simp only [Act.put, List.setIfInBounds_toArray, List.set_cons_zero, List.set_cons_succ]
  refine last.wpAnyL_take (i := 5) (v := (.agg #[.int .i64 1, .int .i64 tx, .slice a len cap])) rfl rfl (by kernel_rfl) (by kernel_rfl) (by kernel_rfl) (by kernel_rfl) (fun _ _ _ h => h) (Or.inl ⟨by rfl, ?_⟩) (by assumption) ?_
  · intro wq hSq; obtain ⟨q1, q2, q3⟩ := hSq.2.cells; go_simp
  try simp only [Act.put, List.setIfInBounds_toArray, List.set_cons_zero, List.set_cons_succ]
  refine last.wpAnyL_one (i := 6) (o := { dst := some 52, op := Op.call { callee := Callee.value (Operand.func 54), args := #[Operand.tmp 51], argTypes := #[32] }, type := 32, pos := "l08_record.go:123", after := #[{ on := 5, ground := Ground.data }], guard := none }) (by kernel_rfl) rfl (fun K hK => ?_)
  refine stepc.step_call1 rfl 54 (.tmp 51) _ rfl (fun _ _ => rfl) _ rfl _ HCR.out ?_
  rintro e w6 ⟨g6, c6, rfl, hO6, hb6⟩
  refine ⟨_, rfl, ?_⟩
  have hK6 := (hK5.below hd5).below hb6
  have hbx6 := (hbx5.below hd5).below hb6
  refine hK.out _ _ ?_ (fun hHeld => ?_)
  · exact ⟨hK6.box, hbx6⟩
  clear hK K hHeld0
  have hHeld0 := hHeld
  clear hHeld
  try simp only [Act.put, List.setIfInBounds_toArray, List.set_cons_zero, List.set_cons_succ]
  refine last.wpAnyL_one (i := 7) (o := { dst := some 53, op := Op.buildSlice 24 1 #[(0, Operand.tmp 52)], type := 24, pos := "l08_record.go:123", after := #[{ on := 6, ground := Ground.data }], guard := none }) (by kernel_rfl) rfl (fun K hK => ?_)
  go_simp
  have hb7 : Below w6.heap.size w6 (w6.alloc (.cells #[.int .i64 1, .int .i64 tx, .slice (some ⟨g6, 0, none⟩) len c6] 32)) := (Below.refl _ _).alloc (Nat.le_refl _) _
  have hK7 := hK6.below hb7
  have hbx7 := hbx6.below hb7
  refine hK.out _ _ ?_ (fun hHeld => ?_)
  · exact ⟨hK7.box, hbx7⟩
  clear hK K hHeld0
  have hHeld0 := hHeld
  clear hHeld
  try simp only [Act.put, List.setIfInBounds_toArray, List.set_cons_zero, List.set_cons_succ]
  refine last.wpAnyL_one (i := 8) (o := { dst := some 54, op := Op.call { callee := Callee.builtin Builtin.append, args := #[Operand.tmp 50, Operand.tmp 53], argTypes := #[24, 24] }, type := 24, pos := "l08_record.go:123", after := #[{ on := 4, ground := Ground.data }, { on := 7, ground := Ground.data }, { on := 6, ground := Ground.chain }], guard := none }) (by kernel_rfl) rfl (fun K hK => ?_)
  have hV6 := (ownV_of hO6).mono (base' := w0.heap.size) (hK5.below hd5).bel.size
  have hV7 := hV6.below hb7
  refine step_append_own rfl (.tmp 50) (.tmp 53) 24 rfl w0.heap.size 32 i0 (.agg #[.int .i64 0, .int .i64 0, .slice none 0 0]) 3 40 Try.underlying24 hi hz0 hz1 hz2 rfl (by decide) _ _ _ rfl hK7.held.row ⟨w6.heap.size, 0, none⟩ 1 1 [.int .i64 1, .int .i64 tx, .slice (some ⟨g6, 0, none⟩) len c6] rfl rfl (rec_cellsW w6 1 tx _ _) (rec_oneW 1 tx hV6.one) hc3 hc4 hK7.bel.size ?_
  intro v8 w8 hown8 hgrow8 hnn8
  have hnn' : ¬ v8 = .slice none 0 0 := fun e => by have := (hnn8.1 e).2; omega
  obtain ⟨g8, c8, hv8⟩ := rowR_shape hown8 hnn'
  subst hv8
  have hgrow8 : (w6.alloc (.cells #[.int .i64 1, .int .i64 tx, .slice (some ⟨g6, 0, none⟩) len c6] 32)).grownBy w8 (some gh) := hgrow8
  have hout : ∀ j, (Value.slice (some ⟨g6, 0, none⟩) len c6).ownBlock = some j → ¬ BlkR (.slice (some ⟨gh, 0, none⟩) s.2.1.length ch) hs j := fun j hj hb => by
    have e1 : g6 = j := by simpa [Value.ownBlock] using hj
    have h1 := ((hK5.below hd5).held.lt j hb).2
    have h2 := hO6.lt.1
    omega
  obtain ⟨hbS8, hK8⟩ := hK7.hold (x := (1, tx, ops)) hV7 hsr hout hown8 hgrow8
  have hbx8 := hbx7.grown hgrow8 (fun e => absurd (show w.heap.size = gh by simpa [Value.ownBlock] using e) (Nat.ne_of_gt hghl))
  refine hK.out _ _ ?_ (fun hHeld => ?_)
  · exact ⟨hbS8, hbx8⟩
  clear hK K hHeld0
  have hHeld0 := hHeld
  clear hHeld
  try simp only [Act.put, List.setIfInBounds_toArray, List.set_cons_zero, List.set_cons_succ]
  refine last.wpAnyL_one (i := 9) (o := { dst := some 55, op := Op.nilCheck (Operand.tmp 46), type := 0, pos := "l08_record.go:123", after := #[{ on := 0, ground := Ground.data }, { on := 0, ground := Ground.phase }, { on := 1, ground := Ground.phase }, { on := 2, ground := Ground.phase }, { on := 3, ground := Ground.phase }, { on := 4, ground := Ground.phase }, { on := 5, ground := Ground.phase }, { on := 6, ground := Ground.phase }, { on := 7, ground := Ground.phase }, { on := 8, ground := Ground.phase }], guard := none }) (by kernel_rfl) rfl (fun K hK => ?_)
  go_simp
  refine hK.out _ _ ?_ (fun hHeld => ?_)
  · exact hHeld0
  clear hK K hHeld0
  have hHeld0 := hHeld
  clear hHeld
  try simp only [Act.put, List.setIfInBounds_toArray, List.set_cons_zero, List.set_cons_succ]
  refine last.wpAnyL_take (i := 10) (v := (.pointer (some ⟨X, 1, none⟩))) rfl rfl (by kernel_rfl) (by kernel_rfl) (by kernel_rfl) (by kernel_rfl) (fun _ _ _ h => h) (Or.inl ⟨by rfl, ?_⟩) (by assumption) ?_
  · intro wq hSq; go_simp
  try simp only [Act.put, List.setIfInBounds_toArray, List.set_cons_zero, List.set_cons_succ]
  have e8 := hbS8.cells.2.1
  have f8 := hbS8.fz 1
  refine last.wpAnyL_last (o := { dst := none, op := Op.store 24 (Operand.tmp 56) (Operand.tmp 54), type := 0, pos := "l08_record.go:123", after := #[{ on := 10, ground := Ground.data }, { on := 8, ground := Ground.data }, { on := 8, ground := Ground.chain }, { on := 0, ground := Ground.phase }, { on := 1, ground := Ground.phase }, { on := 2, ground := Ground.phase }, { on := 3, ground := Ground.phase }, { on := 4, ground := Ground.phase }, { on := 5, ground := Ground.phase }, { on := 6, ground := Ground.phase }, { on := 7, ground := Ground.phase }, { on := 8, ground := Ground.phase }], guard := none }) (by kernel_rfl) rfl (by kernel_rfl) (fun K hK => ?_)
  go_simp
  refine hK.out _ _ ?_
  clear hK K
  have c8' := set_cur hbS8 1 (.slice (some ⟨g8, 0, none⟩) (s.2.1.length + 1) c8)
  have hbx9 := hbx8.grown c8'.2 (fun e => absurd (show w.heap.size = X by simpa using e) (Nat.ne_of_gt hXw))
  generalize hW9 : w8.setCell ⟨X, 1, none⟩ (.slice (some ⟨g8, 0, none⟩) (s.2.1.length + 1) c8) = w9 at *
  clear hW9 c8' hown8 hgrow8 hnn8 hnn' hHeld0 e8 f8 hbS8 hbx8 hout hV6 hV7 hK7 hbx7 hb7 hO6 hK6 hbx6 hb6 HCR
  have hL9 : (s.2.1 ++ [(1, tx, ops)]).length = s.2.1.length + 1 := by simp
  have hdn : Below w9.heap.size w9 w9.drew := (Below.refl _ _).drew
  go_wp2_with fail
  refine last.wp_region_later (S := fun w' => BoxS X (.slice (some ⟨gm, 0, none⟩) nm cm) (.slice (some ⟨g8, 0, none⟩) (s.2.1.length + 1) c8) (.slice sa s.2.2.length sc) w' ∧ BoxR w.heap.size 1 tx (.slice a len cap) w') 11 (by kernel_rfl) ⟨(keptBox hK8).below hdn, hbx9.below hdn⟩ (fun hHeld0 => ?_)
  refine last.wpAnyL_take (i := 0) (v := (.pointer (some ⟨X, 0, none⟩))) rfl rfl (by kernel_rfl) (by kernel_rfl) (by kernel_rfl) (by kernel_rfl) (fun _ _ _ h => h) (Or.inl ⟨by rfl, ?_⟩) (by assumption) ?_
  · intro wq hSq; go_simp
  try simp only [Act.put, List.setIfInBounds_toArray, List.set_cons_zero, List.set_cons_succ]
  refine last.wpAnyL_take (i := 1) (v := (.pointer (some ⟨X, 0, none⟩))) rfl rfl (by kernel_rfl) (by kernel_rfl) (by kernel_rfl) (by kernel_rfl) (fun _ _ _ h => h) (Or.inl ⟨by rfl, ?_⟩) (by assumption) ?_
  · intro wq hSq; go_simp
  try simp only [Act.put, List.setIfInBounds_toArray, List.set_cons_zero, List.set_cons_succ]
  refine last.wpAnyL_take (i := 2) (v := (.pointer (some ⟨X, 0, none⟩))) rfl rfl (by kernel_rfl) (by kernel_rfl) (by kernel_rfl) (by kernel_rfl) (fun _ _ _ h => h) (Or.inl ⟨by rfl, ?_⟩) (by assumption) ?_
  · intro wq hSq; go_simp
  try simp only [Act.put, List.setIfInBounds_toArray, List.set_cons_zero, List.set_cons_succ]
  refine last.wpAnyL_take (i := 3) (v := (.pointer (some ⟨X, 2, none⟩))) rfl rfl (by kernel_rfl) (by kernel_rfl) (by kernel_rfl) (by kernel_rfl) (fun _ _ _ h => h) (Or.inl ⟨by rfl, ?_⟩) (by assumption) ?_
  · intro wq hSq; go_simp
  try simp only [Act.put, List.setIfInBounds_toArray, List.set_cons_zero, List.set_cons_succ]
  refine last.wpAnyL_take (i := 4) (v := (.slice sa s.2.2.length sc)) rfl rfl (by kernel_rfl) (by kernel_rfl) (by kernel_rfl) (by kernel_rfl) (fun _ _ _ h => h) (Or.inl ⟨by rfl, ?_⟩) (by assumption) ?_
  · intro wq hSq; have q := hSq.1.cells.2.2; go_simp
  try simp only [Act.put, List.setIfInBounds_toArray, List.set_cons_zero, List.set_cons_succ]
  refine last.wpAnyL_take (i := 5) (v := (.pointer (some ⟨w.heap.size, 1, none⟩))) rfl rfl (by kernel_rfl) (by kernel_rfl) (by kernel_rfl) (by kernel_rfl) (fun _ _ _ h => h) (Or.inl ⟨by rfl, ?_⟩) (by assumption) ?_
  · intro wq hSq; go_simp
  try simp only [Act.put, List.setIfInBounds_toArray, List.set_cons_zero, List.set_cons_succ]
  refine last.wpAnyL_take (i := 6) (v := (.int .i64 tx)) rfl rfl (by kernel_rfl) (by kernel_rfl) (by kernel_rfl) (by kernel_rfl) (fun _ _ _ h => h) (Or.inl ⟨by rfl, ?_⟩) (by assumption) ?_
  · intro wq hSq; have q := hSq.2.cells.2.1; go_simp
  try simp only [Act.put, List.setIfInBounds_toArray, List.set_cons_zero, List.set_cons_succ]
  refine last.wpAnyL_one (i := 7) (o := { dst := some 64, op := Op.buildSlice 64 1 #[(0, Operand.tmp 63)], type := 64, pos := "l08_record.go:124", after := #[{ on := 6, ground := Ground.data }], guard := none }) (by kernel_rfl) rfl (fun K hK => ?_)
  go_simp
  have hbn : Below w9.heap.size w9 (w9.drew.alloc (.cells #[.int .i64 tx] 3)) := hdn.alloc hdn.size _
  have hKan := hK8.below hbn
  have hbxan := hbx9.below hbn
  refine hK.out _ _ ?_ (fun hHeld => ?_)
  · exact ⟨keptBox hKan, hbxan⟩
  clear hK K hHeld0
  have hHeld0 := hHeld
  clear hHeld
  try simp only [Act.put, List.setIfInBounds_toArray, List.set_cons_zero, List.set_cons_succ]
  refine last.wpAnyL_one (i := 8) (o := { dst := some 65, op := Op.call { callee := Callee.builtin Builtin.append, args := #[Operand.tmp 61, Operand.tmp 64], argTypes := #[64, 64] }, type := 64, pos := "l08_record.go:124", after := #[{ on := 4, ground := Ground.data }, { on := 7, ground := Ground.data }], guard := none }) (by kernel_rfl) rfl (fun K hK => ?_)
  refine step_append_own rfl (.tmp 61) (.tmp 64) 64 rfl w0.heap.size 3 z0 (.int .i64 0) 1 8 Try.underlying64 hzi hy0 hy1 hy2 rfl (by decide) _ _ _ rfl hKan.seen ⟨w9.heap.size, 0, none⟩ 1 1 (intVals [tx]) rfl rfl (one_int_cells _ _ _) (intVals_oneCell _) hc5 hc6 hKan.bel.size ?_
  intro vt wt hownt hgrowt hnnt
  obtain ⟨gt, ct, hvt⟩ := rowR_shape hownt (fun e => by have := (hnnt.1 e).2; omega)
  subst hvt
  obtain ⟨hbSt, hKt⟩ := hKan.see hownt hgrowt
  simp only [List.length_append, List.length_singleton] at hbSt
  have hbxt := hbxan.grown hgrowt (fun e => absurd (hsnl _ e.symm) (Nat.lt_irrefl _))
  refine hK.out _ _ ?_ (fun hHeld => ?_)
  · exact ⟨hbSt, hbxt⟩
  clear hK K hHeld0
  have hHeld0 := hHeld
  clear hHeld
  try simp only [Act.put, List.setIfInBounds_toArray, List.set_cons_zero, List.set_cons_succ]
  refine last.wpAnyL_one (i := 9) (o := { dst := some 66, op := Op.nilCheck (Operand.tmp 57), type := 0, pos := "l08_record.go:124", after := #[{ on := 0, ground := Ground.data }, { on := 0, ground := Ground.phase }, { on := 1, ground := Ground.phase }, { on := 2, ground := Ground.phase }, { on := 3, ground := Ground.phase }, { on := 4, ground := Ground.phase }, { on := 5, ground := Ground.phase }, { on := 6, ground := Ground.phase }, { on := 7, ground := Ground.phase }, { on := 8, ground := Ground.phase }], guard := none }) (by kernel_rfl) rfl (fun K hK => ?_)
  go_simp
  refine hK.out _ _ ?_ (fun hHeld => ?_)
  · exact hHeld0
  clear hK K hHeld0
  have hHeld0 := hHeld
  clear hHeld
  try simp only [Act.put, List.setIfInBounds_toArray, List.set_cons_zero, List.set_cons_succ]
  refine last.wpAnyL_take (i := 10) (v := (.pointer (some ⟨X, 2, none⟩))) rfl rfl (by kernel_rfl) (by kernel_rfl) (by kernel_rfl) (by kernel_rfl) (fun _ _ _ h => h) (Or.inl ⟨by rfl, ?_⟩) (by assumption) ?_
  · intro wq hSq; go_simp
  try simp only [Act.put, List.setIfInBounds_toArray, List.set_cons_zero, List.set_cons_succ]
  have et := hbSt.cells.2.2
  have ft := hbSt.fz 2
  refine last.wpAnyL_last (o := { dst := none, op := Op.store 64 (Operand.tmp 67) (Operand.tmp 65), type := 0, pos := "l08_record.go:124", after := #[{ on := 10, ground := Ground.data }, { on := 8, ground := Ground.data }, { on := 8, ground := Ground.chain }, { on := 0, ground := Ground.phase }, { on := 1, ground := Ground.phase }, { on := 2, ground := Ground.phase }, { on := 3, ground := Ground.phase }, { on := 4, ground := Ground.phase }, { on := 5, ground := Ground.phase }, { on := 6, ground := Ground.phase }, { on := 7, ground := Ground.phase }, { on := 8, ground := Ground.phase }], guard := none }) (by kernel_rfl) rfl (by kernel_rfl) (fun K hK => ?_)
  go_simp
  refine hK.out _ _ ?_
  clear hK K
  generalize hWt : wt.setCell ⟨X, 2, none⟩ (.slice (some ⟨gt, 0, none⟩) (s.2.2.length + 1) ct) = wz at *
  go_wp2_with fail
  go_ret
  exact ⟨rfl, _, _, _, _, _, _, _, hKt⟩
end Go.Proofs.Ytooiinicnkhlbaa.recs

namespace Go.Proofs.Ytooiinicnkhlbaa.recs
open Go Go.RowKit Go.Proofs.Ytooiinicnkhlbaa.base Go.Proofs.Ytooiinicnkhlbaa.pairs Go.Proofs.Ytooiinicnkhlbaa.ords
set_option linter.unusedVariables false
set_option linter.unusedSimpArgs false
set_option maxRecDepth 100000 in
set_option maxHeartbeats 4000000 in
theorem one_gone (w0 w : World) (X gm nm cm gh ch : Nat) (vs : Value) (s : St) (hs : List Value) (tx : Int) (a : Option Addr) (len cap : Nat) (ops : List Od)
    (hK : Kept w0 w X gm nm cm gh ch vs s hs) (hSo : SlO w a len ops) (hks : ∀ p ∈ ops, p.2.1.size ≤ 1099511627776) (hok : recOk (3, tx, ops) = true) (hls : s.2.2.length ≤ 1099511627776) (hpl : placeTx tx s.2.1 = none) (h1 : decide (tx ∈ s.2.2) = false) :
    Calls Try.prog 34 #[.pointer (some ⟨X, 0, none⟩), .agg #[.int .i64 3, .int .i64 tx, .slice a len cap]] w (OnePost w0 X (some (s.1, s.2.1, s.2.2 ++ [tx]))) := by
  have hghl : gh < w.heap.size := (hK.held.row.lt gh rfl).2
  have hXw : X < w.heap.size := hK.box.lt
  have hsnl : ∀ k, vs.ownBlock = some k → k < w.heap.size := fun k e => (hK.seen.lt k e).2
  obtain ⟨z0, hzi, hy0, hy1, hy2⟩ := info_parts infoZ
  have hc5 : s.2.2.length + 1 ≤ maxLen := by unfold maxLen; omega
  have hc6 : (s.2.2.length + 1) * 8 ≤ 140737488355328 := by omega
  obtain ⟨sa, sc, hvs, hSz⟩ := hK.seen.sl
  subst hvs
  obtain ⟨V, hV⟩ : ∃ V, V = w.alloc (.cells #[.int .i64 3, .int .i64 tx, .slice a len cap] 32) := ⟨_, rfl⟩
  have hbV : Below w.heap.size w V := by rw [hV]; exact (Below.refl _ _).alloc (Nat.le_refl _) _
  have hbx : BoxR w.heap.size 3 tx (.slice a len cap) V := by rw [hV]; exact boxR_new _ _ _ _
  have hKV := hK.below hbV
  have hXl := hKV.box.lt
  have hRl := hbx.lt
  have y1 := last.On.cell (B := V.heap.size) hKV.box.cells.2.1 hXl
  have y2 := last.On.cell (B := V.heap.size) hbx.cells.2.1 hRl
  have hAt : ∀ x9 : last.On V.heap.size V, Calls Try.prog 62 #[.slice (some ⟨gh, 0, none⟩) s.2.1.length ch, .int .i64 tx] x9.w fun e w' => e = .returned (.int .i64 (atRet (placeTx tx s.2.1))) ∧ ∃ y9 : last.On V.heap.size V, w' = y9.w := fun x9 => last.Calls.on x9 (Nat.le_refl _) ((spec_l8At _ _ ch s.2.1 tx x9.w (hKV.held.below x9.2).sl).mono (fun e w' h => ⟨h.1, h.2 ▸ Below.refl _ _⟩))
  have hinh := last.On.inh V.heap.size V
  have HV := Hid.mk' hV.symm
  clear hV
  rw [hpl, show atRet none = -1 from rfl] at hAt
  go_enter Try.func34, Try.ntmps34
  go_wp2_with fail
  rw [HV.out]
  refine last.wp_region_on V.heap.size (by kernel_rfl) (by kernel_rfl) ?_
  repeat (go_big_quiet_step ((go_at_call 62; with_reducible exact hAt _)))
  refine wpQuiet_nil ?_
  intro w1 hw1
  obtain ⟨x1, hw1⟩ := hw1
  have hb1 : Below V.heap.size V w1 := by rw [hw1]; exact x1.2
  clear hw1 x1
  have hbx1 := hbx.below hb1
  have hK1 := hKV.below hb1
  have HOK := Hid.mk' (spec_recOk 3 tx a len cap ops w1 ((hSo.below hbV).below hb1) hks)
  obtain ⟨d0, d1, d2⟩ := hbx1.cells
  clear y1 y2 hAt hinh
  go_wp2_with fail
  refine HOK.out.mono ?_
  rintro e w2 ⟨rfl, hb2⟩
  rw [hok]
  have hK2 := hK1.below hb2
  have hbx2 := hbx1.below hb2
  have hSo2 := ((hSo.below hbV).below hb1).below hb2
  have hSz2 := ((hSz.below hbV).below hb1).below hb2
  clear d0 d1 d2 HOK HV hbx1 hbx hKV hXl hRl
  obtain ⟨d0, d1, d2⟩ := hbx2.cells
  have hX2 := hK2.box.lt
  have hR2 := hbx2.lt
  have o0 := last.On.cell (B := w2.heap.size) hK2.box.cells.1 hX2
  have o1 := last.On.cell (B := w2.heap.size) hK2.box.cells.2.1 hX2
  have o2 := last.On.cell (B := w2.heap.size) hK2.box.cells.2.2 hX2
  have o3 := last.On.cell (B := w2.heap.size) hbx2.cells.1 hR2
  have o4 := last.On.cell (B := w2.heap.size) hbx2.cells.2.1 hR2
  have o5 := last.On.cell (B := w2.heap.size) hbx2.cells.2.2 hR2
  have hinh2 := last.On.inh w2.heap.size w2
  have hHas : ∀ x9 : last.On w2.heap.size w2, Calls Try.prog 63 #[.slice sa s.2.2.length sc, .int .i64 tx] x9.w fun e w' => e = .returned (.bool (decide (tx ∈ s.2.2))) ∧ ∃ y9 : last.On w2.heap.size w2, w' = y9.w := fun x9 => last.Calls.on x9 (Nat.le_refl _) ((spec_l7Has sa s.2.2.length sc s.2.2 tx x9.w (hSz2.below x9.2)).mono (fun e w' h => ⟨h.1, h.2 ▸ Below.refl _ _⟩))
  rw [h1] at hHas
  go_wp2_with fail
  refine last.wp_region_on w2.heap.size (by kernel_rfl) (by kernel_rfl) ?_
  repeat (go_big_quiet_step ((go_at_call 63; with_reducible exact hHas _)))
  refine wpQuiet_nil ?_
  intro w5 hw5
  obtain ⟨x5, hw5⟩ := hw5
  have hb5 : Below w2.heap.size w2 w5 := by rw [hw5]; exact x5.2
  clear hw5 x5 hinh2 o0 o1 o2 o3 o4 o5 hHas d0 d1 d2
  have hK5 := hK2.below hb5
  have hbx5 := hbx2.below hb5
  have hdn : Below w5.heap.size w5 w5.drew := (Below.refl _ _).drew
  go_wp2_with fail
  refine last.wp_region_later (S := fun w' => BoxS X (.slice (some ⟨gm, 0, none⟩) nm cm) (.slice (some ⟨gh, 0, none⟩) s.2.1.length ch) (.slice sa s.2.2.length sc) w' ∧ BoxR w.heap.size 3 tx (.slice a len cap) w') 11 (by kernel_rfl) ⟨(hK5.box).below hdn, hbx5.below hdn⟩ (fun hHeld0 => ?_)
  refine last.wpAnyL_take (i := 0) (v := (.pointer (some ⟨X, 0, none⟩))) rfl rfl (by kernel_rfl) (by kernel_rfl) (by kernel_rfl) (by kernel_rfl) (fun _ _ _ h => h) (Or.inl ⟨by rfl, ?_⟩) (by assumption) ?_
  · intro wq hSq; go_simp
  try simp only [Act.put, List.setIfInBounds_toArray, List.set_cons_zero, List.set_cons_succ]
  refine last.wpAnyL_take (i := 1) (v := (.pointer (some ⟨X, 0, none⟩))) rfl rfl (by kernel_rfl) (by kernel_rfl) (by kernel_rfl) (by kernel_rfl) (fun _ _ _ h => h) (Or.inl ⟨by rfl, ?_⟩) (by assumption) ?_
  · intro wq hSq; go_simp
  try simp only [Act.put, List.setIfInBounds_toArray, List.set_cons_zero, List.set_cons_succ]
  refine last.wpAnyL_take (i := 2) (v := (.pointer (some ⟨X, 0, none⟩))) rfl rfl (by kernel_rfl) (by kernel_rfl) (by kernel_rfl) (by kernel_rfl) (fun _ _ _ h => h) (Or.inl ⟨by rfl, ?_⟩) (by assumption) ?_
  · intro wq hSq; go_simp
  try simp only [Act.put, List.setIfInBounds_toArray, List.set_cons_zero, List.set_cons_succ]
  refine last.wpAnyL_take (i := 3) (v := (.pointer (some ⟨X, 2, none⟩))) rfl rfl (by kernel_rfl) (by kernel_rfl) (by kernel_rfl) (by kernel_rfl) (fun _ _ _ h => h) (Or.inl ⟨by rfl, ?_⟩) (by assumption) ?_
  · intro wq hSq; go_simp
  try simp only [Act.put, List.setIfInBounds_toArray, List.set_cons_zero, List.set_cons_succ]
  refine last.wpAnyL_take (i := 4) (v := (.slice sa s.2.2.length sc)) rfl rfl (by kernel_rfl) (by kernel_rfl) (by kernel_rfl) (by kernel_rfl) (fun _ _ _ h => h) (Or.inl ⟨by rfl, ?_⟩) (by assumption) ?_
  · intro wq hSq; have q := hSq.1.cells.2.2; go_simp
  try simp only [Act.put, List.setIfInBounds_toArray, List.set_cons_zero, List.set_cons_succ]
  refine last.wpAnyL_take (i := 5) (v := (.pointer (some ⟨w.heap.size, 1, none⟩))) rfl rfl (by kernel_rfl) (by kernel_rfl) (by kernel_rfl) (by kernel_rfl) (fun _ _ _ h => h) (Or.inl ⟨by rfl, ?_⟩) (by assumption) ?_
  · intro wq hSq; go_simp
  try simp only [Act.put, List.setIfInBounds_toArray, List.set_cons_zero, List.set_cons_succ]
  refine last.wpAnyL_take (i := 6) (v := (.int .i64 tx)) rfl rfl (by kernel_rfl) (by kernel_rfl) (by kernel_rfl) (by kernel_rfl) (fun _ _ _ h => h) (Or.inl ⟨by rfl, ?_⟩) (by assumption) ?_
  · intro wq hSq; have q := hSq.2.cells.2.1; go_simp
  try simp only [Act.put, List.setIfInBounds_toArray, List.set_cons_zero, List.set_cons_succ]
  refine last.wpAnyL_one (i := 7) (o := { dst := some 90, op := Op.buildSlice 64 1 #[(0, Operand.tmp 89)], type := 64, pos := "l08_record.go:129", after := #[{ on := 6, ground := Ground.data }], guard := none }) (by kernel_rfl) rfl (fun K hK => ?_)
  go_simp
  have hbn : Below w5.heap.size w5 (w5.drew.alloc (.cells #[.int .i64 tx] 3)) := hdn.alloc hdn.size _
  have hKan := hK5.below hbn
  have hbxan := hbx5.below hbn
  refine hK.out _ _ ?_ (fun hHeld => ?_)
  · exact ⟨hKan.box, hbxan⟩
  clear hK K hHeld0
  have hHeld0 := hHeld
  clear hHeld
  try simp only [Act.put, List.setIfInBounds_toArray, List.set_cons_zero, List.set_cons_succ]
  refine last.wpAnyL_one (i := 8) (o := { dst := some 91, op := Op.call { callee := Callee.builtin Builtin.append, args := #[Operand.tmp 87, Operand.tmp 90], argTypes := #[64, 64] }, type := 64, pos := "l08_record.go:129", after := #[{ on := 4, ground := Ground.data }, { on := 7, ground := Ground.data }], guard := none }) (by kernel_rfl) rfl (fun K hK => ?_)
  refine step_append_own rfl (.tmp 87) (.tmp 90) 64 rfl w0.heap.size 3 z0 (.int .i64 0) 1 8 Try.underlying64 hzi hy0 hy1 hy2 rfl (by decide) _ _ _ rfl hKan.seen ⟨w5.heap.size, 0, none⟩ 1 1 (intVals [tx]) rfl rfl (one_int_cells _ _ _) (intVals_oneCell _) hc5 hc6 hKan.bel.size ?_
  intro vt wt hownt hgrowt hnnt
  obtain ⟨gt, ct, hvt⟩ := rowR_shape hownt (fun e => by have := (hnnt.1 e).2; omega)
  subst hvt
  obtain ⟨hbSt, hKt⟩ := hKan.see hownt hgrowt
  have hbxt := hbxan.grown hgrowt (fun e => absurd (hsnl _ e.symm) (Nat.lt_irrefl _))
  refine hK.out _ _ ?_ (fun hHeld => ?_)
  · exact ⟨hbSt, hbxt⟩
  clear hK K hHeld0
  have hHeld0 := hHeld
  clear hHeld
  try simp only [Act.put, List.setIfInBounds_toArray, List.set_cons_zero, List.set_cons_succ]
  refine last.wpAnyL_one (i := 9) (o := { dst := some 92, op := Op.nilCheck (Operand.tmp 83), type := 0, pos := "l08_record.go:129", after := #[{ on := 0, ground := Ground.data }, { on := 0, ground := Ground.phase }, { on := 1, ground := Ground.phase }, { on := 2, ground := Ground.phase }, { on := 3, ground := Ground.phase }, { on := 4, ground := Ground.phase }, { on := 5, ground := Ground.phase }, { on := 6, ground := Ground.phase }, { on := 7, ground := Ground.phase }, { on := 8, ground := Ground.phase }], guard := none }) (by kernel_rfl) rfl (fun K hK => ?_)
  go_simp
  refine hK.out _ _ ?_ (fun hHeld => ?_)
  · exact hHeld0
  clear hK K hHeld0
  have hHeld0 := hHeld
  clear hHeld
  try simp only [Act.put, List.setIfInBounds_toArray, List.set_cons_zero, List.set_cons_succ]
  refine last.wpAnyL_take (i := 10) (v := (.pointer (some ⟨X, 2, none⟩))) rfl rfl (by kernel_rfl) (by kernel_rfl) (by kernel_rfl) (by kernel_rfl) (fun _ _ _ h => h) (Or.inl ⟨by rfl, ?_⟩) (by assumption) ?_
  · intro wq hSq; go_simp
  try simp only [Act.put, List.setIfInBounds_toArray, List.set_cons_zero, List.set_cons_succ]
  have et := hbSt.cells.2.2
  have ft := hbSt.fz 2
  refine last.wpAnyL_last (o := { dst := none, op := Op.store 64 (Operand.tmp 93) (Operand.tmp 91), type := 0, pos := "l08_record.go:129", after := #[{ on := 10, ground := Ground.data }, { on := 8, ground := Ground.data }, { on := 8, ground := Ground.chain }, { on := 0, ground := Ground.phase }, { on := 1, ground := Ground.phase }, { on := 2, ground := Ground.phase }, { on := 3, ground := Ground.phase }, { on := 4, ground := Ground.phase }, { on := 5, ground := Ground.phase }, { on := 6, ground := Ground.phase }, { on := 7, ground := Ground.phase }, { on := 8, ground := Ground.phase }], guard := none }) (by kernel_rfl) rfl (by kernel_rfl) (fun K hK => ?_)
  go_simp
  refine hK.out _ _ ?_
  clear hK K
  generalize hWt : wt.setCell ⟨X, 2, none⟩ (.slice (some ⟨gt, 0, none⟩) (s.2.2.length + 1) ct) = wz at *
  go_wp2_with fail
  go_ret
  exact ⟨rfl, _, _, _, _, _, _, _, hKt⟩
set_option maxRecDepth 100000 in
set_option maxHeartbeats 4000000 in
theorem one_gone_seen (w0 w : World) (X gm nm cm gh ch : Nat) (vs : Value) (s : St) (hs : List Value) (tx : Int) (a : Option Addr) (len cap : Nat) (ops : List Od)
    (hK : Kept w0 w X gm nm cm gh ch vs s hs) (hSo : SlO w a len ops) (hks : ∀ p ∈ ops, p.2.1.size ≤ 1099511627776) (hok : recOk (3, tx, ops) = true) (hls : s.2.2.length ≤ 1099511627776) (hpl : placeTx tx s.2.1 = none) (h1 : decide (tx ∈ s.2.2) = true) :
    Calls Try.prog 34 #[.pointer (some ⟨X, 0, none⟩), .agg #[.int .i64 3, .int .i64 tx, .slice a len cap]] w (OnePost w0 X none) := by
  have hghl : gh < w.heap.size := (hK.held.row.lt gh rfl).2
  have hXw : X < w.heap.size := hK.box.lt
  have hsnl : ∀ k, vs.ownBlock = some k → k < w.heap.size := fun k e => (hK.seen.lt k e).2
  obtain ⟨z0, hzi, hy0, hy1, hy2⟩ := info_parts infoZ
  have hc5 : s.2.2.length + 1 ≤ maxLen := by unfold maxLen; omega
  have hc6 : (s.2.2.length + 1) * 8 ≤ 140737488355328 := by omega
  obtain ⟨sa, sc, hvs, hSz⟩ := hK.seen.sl
  subst hvs
  obtain ⟨V, hV⟩ : ∃ V, V = w.alloc (.cells #[.int .i64 3, .int .i64 tx, .slice a len cap] 32) := ⟨_, rfl⟩
  have hbV : Below w.heap.size w V := by rw [hV]; exact (Below.refl _ _).alloc (Nat.le_refl _) _
  have hbx : BoxR w.heap.size 3 tx (.slice a len cap) V := by rw [hV]; exact boxR_new _ _ _ _
  have hKV := hK.below hbV
  have hXl := hKV.box.lt
  have hRl := hbx.lt
  have y1 := last.On.cell (B := V.heap.size) hKV.box.cells.2.1 hXl
  have y2 := last.On.cell (B := V.heap.size) hbx.cells.2.1 hRl
  have hAt : ∀ x9 : last.On V.heap.size V, Calls Try.prog 62 #[.slice (some ⟨gh, 0, none⟩) s.2.1.length ch, .int .i64 tx] x9.w fun e w' => e = .returned (.int .i64 (atRet (placeTx tx s.2.1))) ∧ ∃ y9 : last.On V.heap.size V, w' = y9.w := fun x9 => last.Calls.on x9 (Nat.le_refl _) ((spec_l8At _ _ ch s.2.1 tx x9.w (hKV.held.below x9.2).sl).mono (fun e w' h => ⟨h.1, h.2 ▸ Below.refl _ _⟩))
  have hinh := last.On.inh V.heap.size V
  have HV := Hid.mk' hV.symm
  clear hV
  rw [hpl, show atRet none = -1 from rfl] at hAt
  go_enter Try.func34, Try.ntmps34
  go_wp2_with fail
  rw [HV.out]
  refine last.wp_region_on V.heap.size (by kernel_rfl) (by kernel_rfl) ?_
  repeat (go_big_quiet_step ((go_at_call 62; with_reducible exact hAt _)))
  refine wpQuiet_nil ?_
  intro w1 hw1
  obtain ⟨x1, hw1⟩ := hw1
  have hb1 : Below V.heap.size V w1 := by rw [hw1]; exact x1.2
  clear hw1 x1
  have hbx1 := hbx.below hb1
  have hK1 := hKV.below hb1
  have HOK := Hid.mk' (spec_recOk 3 tx a len cap ops w1 ((hSo.below hbV).below hb1) hks)
  obtain ⟨d0, d1, d2⟩ := hbx1.cells
  clear y1 y2 hAt hinh
  go_wp2_with fail
  refine HOK.out.mono ?_
  rintro e w2 ⟨rfl, hb2⟩
  rw [hok]
  have hK2 := hK1.below hb2
  have hbx2 := hbx1.below hb2
  have hSo2 := ((hSo.below hbV).below hb1).below hb2
  have hSz2 := ((hSz.below hbV).below hb1).below hb2
  clear d0 d1 d2 HOK HV hbx1 hbx hKV hXl hRl
  obtain ⟨d0, d1, d2⟩ := hbx2.cells
  have hX2 := hK2.box.lt
  have hR2 := hbx2.lt
  have o0 := last.On.cell (B := w2.heap.size) hK2.box.cells.1 hX2
  have o1 := last.On.cell (B := w2.heap.size) hK2.box.cells.2.1 hX2
  have o2 := last.On.cell (B := w2.heap.size) hK2.box.cells.2.2 hX2
  have o3 := last.On.cell (B := w2.heap.size) hbx2.cells.1 hR2
  have o4 := last.On.cell (B := w2.heap.size) hbx2.cells.2.1 hR2
  have o5 := last.On.cell (B := w2.heap.size) hbx2.cells.2.2 hR2
  have hinh2 := last.On.inh w2.heap.size w2
  have hHas : ∀ x9 : last.On w2.heap.size w2, Calls Try.prog 63 #[.slice sa s.2.2.length sc, .int .i64 tx] x9.w fun e w' => e = .returned (.bool (decide (tx ∈ s.2.2))) ∧ ∃ y9 : last.On w2.heap.size w2, w' = y9.w := fun x9 => last.Calls.on x9 (Nat.le_refl _) ((spec_l7Has sa s.2.2.length sc s.2.2 tx x9.w (hSz2.below x9.2)).mono (fun e w' h => ⟨h.1, h.2 ▸ Below.refl _ _⟩))
  rw [h1] at hHas
  go_wp2_with fail
  refine last.wp_region_on w2.heap.size (by kernel_rfl) (by kernel_rfl) ?_
  repeat (go_big_quiet_step ((go_at_call 63; with_reducible exact hHas _)))
  refine wpQuiet_nil ?_
  intro w5 hw5
  obtain ⟨x5, hw5⟩ := hw5
  have hb5 : Below w2.heap.size w2 w5 := by rw [hw5]; exact x5.2
  clear hw5 x5 hinh2 o0 o1 o2 o3 o4 o5 hHas d0 d1 d2
  have hK5 := hK2.below hb5
  have hbx5 := hbx2.below hb5
  have hdn : Below w5.heap.size w5 w5.drew := (Below.refl _ _).drew
  go_wp2_with fail
  refine last.wp_region_later (S := fun w' => BoxS X (.slice (some ⟨gm, 0, none⟩) nm cm) (.slice (some ⟨gh, 0, none⟩) s.2.1.length ch) (.slice sa s.2.2.length sc) w' ∧ BoxR w.heap.size 3 tx (.slice a len cap) w') 11 (by kernel_rfl) ⟨(hK5.box).below hdn, hbx5.below hdn⟩ (fun hHeld0 => ?_)
  refine last.wpAnyL_take (i := 0) (v := (.pointer (some ⟨X, 0, none⟩))) rfl rfl (by kernel_rfl) (by kernel_rfl) (by kernel_rfl) (by kernel_rfl) (fun _ _ _ h => h) (Or.inl ⟨by rfl, ?_⟩) (by assumption) ?_
  · intro wq hSq; go_simp
  try simp only [Act.put, List.setIfInBounds_toArray, List.set_cons_zero, List.set_cons_succ]
  refine last.wpAnyL_take (i := 1) (v := (.pointer (some ⟨X, 0, none⟩))) rfl rfl (by kernel_rfl) (by kernel_rfl) (by kernel_rfl) (by kernel_rfl) (fun _ _ _ h => h) (Or.inl ⟨by rfl, ?_⟩) (by assumption) ?_
  · intro wq hSq; go_simp
  try simp only [Act.put, List.setIfInBounds_toArray, List.set_cons_zero, List.set_cons_succ]
  refine last.wpAnyL_take (i := 2) (v := (.pointer (some ⟨X, 0, none⟩))) rfl rfl (by kernel_rfl) (by kernel_rfl) (by kernel_rfl) (by kernel_rfl) (fun _ _ _ h => h) (Or.inl ⟨by rfl, ?_⟩) (by assumption) ?_
  · intro wq hSq; go_simp
  try simp only [Act.put, List.setIfInBounds_toArray, List.set_cons_zero, List.set_cons_succ]
  refine last.wpAnyL_take (i := 3) (v := (.pointer (some ⟨X, 2, none⟩))) rfl rfl (by kernel_rfl) (by kernel_rfl) (by kernel_rfl) (by kernel_rfl) (fun _ _ _ h => h) (Or.inl ⟨by rfl, ?_⟩) (by assumption) ?_
  · intro wq hSq; go_simp
  try simp only [Act.put, List.setIfInBounds_toArray, List.set_cons_zero, List.set_cons_succ]
  refine last.wpAnyL_take (i := 4) (v := (.slice sa s.2.2.length sc)) rfl rfl (by kernel_rfl) (by kernel_rfl) (by kernel_rfl) (by kernel_rfl) (fun _ _ _ h => h) (Or.inl ⟨by rfl, ?_⟩) (by assumption) ?_
  · intro wq hSq; have q := hSq.1.cells.2.2; go_simp
  try simp only [Act.put, List.setIfInBounds_toArray, List.set_cons_zero, List.set_cons_succ]
  refine last.wpAnyL_take (i := 5) (v := (.pointer (some ⟨w.heap.size, 1, none⟩))) rfl rfl (by kernel_rfl) (by kernel_rfl) (by kernel_rfl) (by kernel_rfl) (fun _ _ _ h => h) (Or.inl ⟨by rfl, ?_⟩) (by assumption) ?_
  · intro wq hSq; go_simp
  try simp only [Act.put, List.setIfInBounds_toArray, List.set_cons_zero, List.set_cons_succ]
  refine last.wpAnyL_take (i := 6) (v := (.int .i64 tx)) rfl rfl (by kernel_rfl) (by kernel_rfl) (by kernel_rfl) (by kernel_rfl) (fun _ _ _ h => h) (Or.inl ⟨by rfl, ?_⟩) (by assumption) ?_
  · intro wq hSq; have q := hSq.2.cells.2.1; go_simp
  try simp only [Act.put, List.setIfInBounds_toArray, List.set_cons_zero, List.set_cons_succ]
  refine last.wpAnyL_one (i := 7) (o := { dst := some 90, op := Op.buildSlice 64 1 #[(0, Operand.tmp 89)], type := 64, pos := "l08_record.go:129", after := #[{ on := 6, ground := Ground.data }], guard := none }) (by kernel_rfl) rfl (fun K hK => ?_)
  go_simp
  have hbn : Below w5.heap.size w5 (w5.drew.alloc (.cells #[.int .i64 tx] 3)) := hdn.alloc hdn.size _
  have hKan := hK5.below hbn
  have hbxan := hbx5.below hbn
  refine hK.out _ _ ?_ (fun hHeld => ?_)
  · exact ⟨hKan.box, hbxan⟩
  clear hK K hHeld0
  have hHeld0 := hHeld
  clear hHeld
  try simp only [Act.put, List.setIfInBounds_toArray, List.set_cons_zero, List.set_cons_succ]
  refine last.wpAnyL_one (i := 8) (o := { dst := some 91, op := Op.call { callee := Callee.builtin Builtin.append, args := #[Operand.tmp 87, Operand.tmp 90], argTypes := #[64, 64] }, type := 64, pos := "l08_record.go:129", after := #[{ on := 4, ground := Ground.data }, { on := 7, ground := Ground.data }], guard := none }) (by kernel_rfl) rfl (fun K hK => ?_)
  refine step_append_own rfl (.tmp 87) (.tmp 90) 64 rfl w0.heap.size 3 z0 (.int .i64 0) 1 8 Try.underlying64 hzi hy0 hy1 hy2 rfl (by decide) _ _ _ rfl hKan.seen ⟨w5.heap.size, 0, none⟩ 1 1 (intVals [tx]) rfl rfl (one_int_cells _ _ _) (intVals_oneCell _) hc5 hc6 hKan.bel.size ?_
  intro vt wt hownt hgrowt hnnt
  obtain ⟨gt, ct, hvt⟩ := rowR_shape hownt (fun e => by have := (hnnt.1 e).2; omega)
  subst hvt
  obtain ⟨hbSt, hKt⟩ := hKan.see hownt hgrowt
  have hbxt := hbxan.grown hgrowt (fun e => absurd (hsnl _ e.symm) (Nat.lt_irrefl _))
  refine hK.out _ _ ?_ (fun hHeld => ?_)
  · exact ⟨hbSt, hbxt⟩
  clear hK K hHeld0
  have hHeld0 := hHeld
  clear hHeld
  try simp only [Act.put, List.setIfInBounds_toArray, List.set_cons_zero, List.set_cons_succ]
  refine last.wpAnyL_one (i := 9) (o := { dst := some 92, op := Op.nilCheck (Operand.tmp 83), type := 0, pos := "l08_record.go:129", after := #[{ on := 0, ground := Ground.data }, { on := 0, ground := Ground.phase }, { on := 1, ground := Ground.phase }, { on := 2, ground := Ground.phase }, { on := 3, ground := Ground.phase }, { on := 4, ground := Ground.phase }, { on := 5, ground := Ground.phase }, { on := 6, ground := Ground.phase }, { on := 7, ground := Ground.phase }, { on := 8, ground := Ground.phase }], guard := none }) (by kernel_rfl) rfl (fun K hK => ?_)
  go_simp
  refine hK.out _ _ ?_ (fun hHeld => ?_)
  · exact hHeld0
  clear hK K hHeld0
  have hHeld0 := hHeld
  clear hHeld
  try simp only [Act.put, List.setIfInBounds_toArray, List.set_cons_zero, List.set_cons_succ]
  refine last.wpAnyL_take (i := 10) (v := (.pointer (some ⟨X, 2, none⟩))) rfl rfl (by kernel_rfl) (by kernel_rfl) (by kernel_rfl) (by kernel_rfl) (fun _ _ _ h => h) (Or.inl ⟨by rfl, ?_⟩) (by assumption) ?_
  · intro wq hSq; go_simp
  try simp only [Act.put, List.setIfInBounds_toArray, List.set_cons_zero, List.set_cons_succ]
  have et := hbSt.cells.2.2
  have ft := hbSt.fz 2
  refine last.wpAnyL_last (o := { dst := none, op := Op.store 64 (Operand.tmp 93) (Operand.tmp 91), type := 0, pos := "l08_record.go:129", after := #[{ on := 10, ground := Ground.data }, { on := 8, ground := Ground.data }, { on := 8, ground := Ground.chain }, { on := 0, ground := Ground.phase }, { on := 1, ground := Ground.phase }, { on := 2, ground := Ground.phase }, { on := 3, ground := Ground.phase }, { on := 4, ground := Ground.phase }, { on := 5, ground := Ground.phase }, { on := 6, ground := Ground.phase }, { on := 7, ground := Ground.phase }, { on := 8, ground := Ground.phase }], guard := none }) (by kernel_rfl) rfl (by kernel_rfl) (fun K hK => ?_)
  go_simp
  refine hK.out _ _ ?_
  clear hK K
  generalize hWt : wt.setCell ⟨X, 2, none⟩ (.slice (some ⟨gt, 0, none⟩) (s.2.2.length + 1) ct) = wz at *
  go_wp2_with fail
  go_ret
  exact ⟨rfl, hKt.bel⟩
set_option maxRecDepth 100000 in
set_option maxHeartbeats 4000000 in
theorem one_lost (w0 w : World) (X gm nm cm gh ch : Nat) (vs : Value) (s : St) (hs : List Value) (tx : Int) (a : Option Addr) (len cap : Nat) (ops : List Od)
    (hK : Kept w0 w X gm nm cm gh ch vs s hs) (hSo : SlO w a len ops) (hks : ∀ p ∈ ops, p.2.1.size ≤ 1099511627776) (hok : recOk (2, tx, ops) = true) (hls : s.2.2.length ≤ 1099511627776) (hpl : placeTx tx s.2.1 = none) :
    Calls Try.prog 34 #[.pointer (some ⟨X, 0, none⟩), .agg #[.int .i64 2, .int .i64 tx, .slice a len cap]] w (OnePost w0 X none) := by
  have hghl : gh < w.heap.size := (hK.held.row.lt gh rfl).2
  have hXw : X < w.heap.size := hK.box.lt
  have hsnl : ∀ k, vs.ownBlock = some k → k < w.heap.size := fun k e => (hK.seen.lt k e).2
  obtain ⟨z0, hzi, hy0, hy1, hy2⟩ := info_parts infoZ
  have hc5 : s.2.2.length + 1 ≤ maxLen := by unfold maxLen; omega
  have hc6 : (s.2.2.length + 1) * 8 ≤ 140737488355328 := by omega
  obtain ⟨sa, sc, hvs, hSz⟩ := hK.seen.sl
  subst hvs
  obtain ⟨V, hV⟩ : ∃ V, V = w.alloc (.cells #[.int .i64 2, .int .i64 tx, .slice a len cap] 32) := ⟨_, rfl⟩
  have hbV : Below w.heap.size w V := by rw [hV]; exact (Below.refl _ _).alloc (Nat.le_refl _) _
  have hbx : BoxR w.heap.size 2 tx (.slice a len cap) V := by rw [hV]; exact boxR_new _ _ _ _
  have hKV := hK.below hbV
  have hXl := hKV.box.lt
  have hRl := hbx.lt
  have y1 := last.On.cell (B := V.heap.size) hKV.box.cells.2.1 hXl
  have y2 := last.On.cell (B := V.heap.size) hbx.cells.2.1 hRl
  have hAt : ∀ x9 : last.On V.heap.size V, Calls Try.prog 62 #[.slice (some ⟨gh, 0, none⟩) s.2.1.length ch, .int .i64 tx] x9.w fun e w' => e = .returned (.int .i64 (atRet (placeTx tx s.2.1))) ∧ ∃ y9 : last.On V.heap.size V, w' = y9.w := fun x9 => last.Calls.on x9 (Nat.le_refl _) ((spec_l8At _ _ ch s.2.1 tx x9.w (hKV.held.below x9.2).sl).mono (fun e w' h => ⟨h.1, h.2 ▸ Below.refl _ _⟩))
  have hinh := last.On.inh V.heap.size V
  have HV := Hid.mk' hV.symm
  clear hV
  rw [hpl, show atRet none = -1 from rfl] at hAt
  go_enter Try.func34, Try.ntmps34
  go_wp2_with fail
  rw [HV.out]
  refine last.wp_region_on V.heap.size (by kernel_rfl) (by kernel_rfl) ?_
  repeat (go_big_quiet_step ((go_at_call 62; with_reducible exact hAt _)))
  refine wpQuiet_nil ?_
  intro w1 hw1
  obtain ⟨x1, hw1⟩ := hw1
  have hb1 : Below V.heap.size V w1 := by rw [hw1]; exact x1.2
  clear hw1 x1
  have hbx1 := hbx.below hb1
  have hK1 := hKV.below hb1
  have HOK := Hid.mk' (spec_recOk 2 tx a len cap ops w1 ((hSo.below hbV).below hb1) hks)
  obtain ⟨d0, d1, d2⟩ := hbx1.cells
  clear y1 y2 hAt hinh
  go_wp2_with fail
  refine HOK.out.mono ?_
  rintro e w2 ⟨rfl, hb2⟩
  rw [hok]
  have hK2 := hK1.below hb2
  have hbx2 := hbx1.below hb2
  have hSo2 := ((hSo.below hbV).below hb1).below hb2
  have hSz2 := ((hSz.below hbV).below hb1).below hb2
  clear d0 d1 d2 HOK HV hbx1 hbx hKV hXl hRl
  obtain ⟨d0, d1, d2⟩ := hbx2.cells
  have hX2 := hK2.box.lt
  have hR2 := hbx2.lt
  have o0 := last.On.cell (B := w2.heap.size) hK2.box.cells.1 hX2
  have o1 := last.On.cell (B := w2.heap.size) hK2.box.cells.2.1 hX2
  have o2 := last.On.cell (B := w2.heap.size) hK2.box.cells.2.2 hX2
  have o3 := last.On.cell (B := w2.heap.size) hbx2.cells.1 hR2
  have o4 := last.On.cell (B := w2.heap.size) hbx2.cells.2.1 hR2
  have o5 := last.On.cell (B := w2.heap.size) hbx2.cells.2.2 hR2
  have hinh2 := last.On.inh w2.heap.size w2
  have hHas : ∀ x9 : last.On w2.heap.size w2, Calls Try.prog 63 #[.slice sa s.2.2.length sc, .int .i64 tx] x9.w fun e w' => e = .returned (.bool (decide (tx ∈ s.2.2))) ∧ ∃ y9 : last.On w2.heap.size w2, w' = y9.w := fun x9 => last.Calls.on x9 (Nat.le_refl _) ((spec_l7Has sa s.2.2.length sc s.2.2 tx x9.w (hSz2.below x9.2)).mono (fun e w' h => ⟨h.1, h.2 ▸ Below.refl _ _⟩))
  go_wp2_with fail
  refine last.wp_region_on w2.heap.size (by kernel_rfl) (by kernel_rfl) ?_
  repeat (go_big_quiet_step ((go_at_call 63; with_reducible exact hHas _)))
  refine wpQuiet_nil ?_
  intro w5 hw5
  obtain ⟨x5, hw5⟩ := hw5
  have hb5 : Below w2.heap.size w2 w5 := by rw [hw5]; exact x5.2
  clear hw5 x5 hinh2 o0 o1 o2 o3 o4 o5 hHas d0 d1 d2
  have hK5 := hK2.below hb5
  have hbx5 := hbx2.below hb5
  have hdn : Below w5.heap.size w5 w5.drew := (Below.refl _ _).drew
  go_wp2_with fail
  refine last.wp_region_later (S := fun w' => BoxS X (.slice (some ⟨gm, 0, none⟩) nm cm) (.slice (some ⟨gh, 0, none⟩) s.2.1.length ch) (.slice sa s.2.2.length sc) w' ∧ BoxR w.heap.size 2 tx (.slice a len cap) w') 11 (by kernel_rfl) ⟨(hK5.box).below hdn, hbx5.below hdn⟩ (fun hHeld0 => ?_)
  refine last.wpAnyL_take (i := 0) (v := (.pointer (some ⟨X, 0, none⟩))) rfl rfl (by kernel_rfl) (by kernel_rfl) (by kernel_rfl) (by kernel_rfl) (fun _ _ _ h => h) (Or.inl ⟨by rfl, ?_⟩) (by assumption) ?_
  · intro wq hSq; go_simp
  try simp only [Act.put, List.setIfInBounds_toArray, List.set_cons_zero, List.set_cons_succ]
  refine last.wpAnyL_take (i := 1) (v := (.pointer (some ⟨X, 0, none⟩))) rfl rfl (by kernel_rfl) (by kernel_rfl) (by kernel_rfl) (by kernel_rfl) (fun _ _ _ h => h) (Or.inl ⟨by rfl, ?_⟩) (by assumption) ?_
  · intro wq hSq; go_simp
  try simp only [Act.put, List.setIfInBounds_toArray, List.set_cons_zero, List.set_cons_succ]
  refine last.wpAnyL_take (i := 2) (v := (.pointer (some ⟨X, 0, none⟩))) rfl rfl (by kernel_rfl) (by kernel_rfl) (by kernel_rfl) (by kernel_rfl) (fun _ _ _ h => h) (Or.inl ⟨by rfl, ?_⟩) (by assumption) ?_
  · intro wq hSq; go_simp
  try simp only [Act.put, List.setIfInBounds_toArray, List.set_cons_zero, List.set_cons_succ]
  refine last.wpAnyL_take (i := 3) (v := (.pointer (some ⟨X, 2, none⟩))) rfl rfl (by kernel_rfl) (by kernel_rfl) (by kernel_rfl) (by kernel_rfl) (fun _ _ _ h => h) (Or.inl ⟨by rfl, ?_⟩) (by assumption) ?_
  · intro wq hSq; go_simp
  try simp only [Act.put, List.setIfInBounds_toArray, List.set_cons_zero, List.set_cons_succ]
  refine last.wpAnyL_take (i := 4) (v := (.slice sa s.2.2.length sc)) rfl rfl (by kernel_rfl) (by kernel_rfl) (by kernel_rfl) (by kernel_rfl) (fun _ _ _ h => h) (Or.inl ⟨by rfl, ?_⟩) (by assumption) ?_
  · intro wq hSq; have q := hSq.1.cells.2.2; go_simp
  try simp only [Act.put, List.setIfInBounds_toArray, List.set_cons_zero, List.set_cons_succ]
  refine last.wpAnyL_take (i := 5) (v := (.pointer (some ⟨w.heap.size, 1, none⟩))) rfl rfl (by kernel_rfl) (by kernel_rfl) (by kernel_rfl) (by kernel_rfl) (fun _ _ _ h => h) (Or.inl ⟨by rfl, ?_⟩) (by assumption) ?_
  · intro wq hSq; go_simp
  try simp only [Act.put, List.setIfInBounds_toArray, List.set_cons_zero, List.set_cons_succ]
  refine last.wpAnyL_take (i := 6) (v := (.int .i64 tx)) rfl rfl (by kernel_rfl) (by kernel_rfl) (by kernel_rfl) (by kernel_rfl) (fun _ _ _ h => h) (Or.inl ⟨by rfl, ?_⟩) (by assumption) ?_
  · intro wq hSq; have q := hSq.2.cells.2.1; go_simp
  try simp only [Act.put, List.setIfInBounds_toArray, List.set_cons_zero, List.set_cons_succ]
  refine last.wpAnyL_one (i := 7) (o := { dst := some 90, op := Op.buildSlice 64 1 #[(0, Operand.tmp 89)], type := 64, pos := "l08_record.go:129", after := #[{ on := 6, ground := Ground.data }], guard := none }) (by kernel_rfl) rfl (fun K hK => ?_)
  go_simp
  have hbn : Below w5.heap.size w5 (w5.drew.alloc (.cells #[.int .i64 tx] 3)) := hdn.alloc hdn.size _
  have hKan := hK5.below hbn
  have hbxan := hbx5.below hbn
  refine hK.out _ _ ?_ (fun hHeld => ?_)
  · exact ⟨hKan.box, hbxan⟩
  clear hK K hHeld0
  have hHeld0 := hHeld
  clear hHeld
  try simp only [Act.put, List.setIfInBounds_toArray, List.set_cons_zero, List.set_cons_succ]
  refine last.wpAnyL_one (i := 8) (o := { dst := some 91, op := Op.call { callee := Callee.builtin Builtin.append, args := #[Operand.tmp 87, Operand.tmp 90], argTypes := #[64, 64] }, type := 64, pos := "l08_record.go:129", after := #[{ on := 4, ground := Ground.data }, { on := 7, ground := Ground.data }], guard := none }) (by kernel_rfl) rfl (fun K hK => ?_)
  refine step_append_own rfl (.tmp 87) (.tmp 90) 64 rfl w0.heap.size 3 z0 (.int .i64 0) 1 8 Try.underlying64 hzi hy0 hy1 hy2 rfl (by decide) _ _ _ rfl hKan.seen ⟨w5.heap.size, 0, none⟩ 1 1 (intVals [tx]) rfl rfl (one_int_cells _ _ _) (intVals_oneCell _) hc5 hc6 hKan.bel.size ?_
  intro vt wt hownt hgrowt hnnt
  obtain ⟨gt, ct, hvt⟩ := rowR_shape hownt (fun e => by have := (hnnt.1 e).2; omega)
  subst hvt
  obtain ⟨hbSt, hKt⟩ := hKan.see hownt hgrowt
  have hbxt := hbxan.grown hgrowt (fun e => absurd (hsnl _ e.symm) (Nat.lt_irrefl _))
  refine hK.out _ _ ?_ (fun hHeld => ?_)
  · exact ⟨hbSt, hbxt⟩
  clear hK K hHeld0
  have hHeld0 := hHeld
  clear hHeld
  try simp only [Act.put, List.setIfInBounds_toArray, List.set_cons_zero, List.set_cons_succ]
  refine last.wpAnyL_one (i := 9) (o := { dst := some 92, op := Op.nilCheck (Operand.tmp 83), type := 0, pos := "l08_record.go:129", after := #[{ on := 0, ground := Ground.data }, { on := 0, ground := Ground.phase }, { on := 1, ground := Ground.phase }, { on := 2, ground := Ground.phase }, { on := 3, ground := Ground.phase }, { on := 4, ground := Ground.phase }, { on := 5, ground := Ground.phase }, { on := 6, ground := Ground.phase }, { on := 7, ground := Ground.phase }, { on := 8, ground := Ground.phase }], guard := none }) (by kernel_rfl) rfl (fun K hK => ?_)
  go_simp
  refine hK.out _ _ ?_ (fun hHeld => ?_)
  · exact hHeld0
  clear hK K hHeld0
  have hHeld0 := hHeld
  clear hHeld
  try simp only [Act.put, List.setIfInBounds_toArray, List.set_cons_zero, List.set_cons_succ]
  refine last.wpAnyL_take (i := 10) (v := (.pointer (some ⟨X, 2, none⟩))) rfl rfl (by kernel_rfl) (by kernel_rfl) (by kernel_rfl) (by kernel_rfl) (fun _ _ _ h => h) (Or.inl ⟨by rfl, ?_⟩) (by assumption) ?_
  · intro wq hSq; go_simp
  try simp only [Act.put, List.setIfInBounds_toArray, List.set_cons_zero, List.set_cons_succ]
  have et := hbSt.cells.2.2
  have ft := hbSt.fz 2
  refine last.wpAnyL_last (o := { dst := none, op := Op.store 64 (Operand.tmp 93) (Operand.tmp 91), type := 0, pos := "l08_record.go:129", after := #[{ on := 10, ground := Ground.data }, { on := 8, ground := Ground.data }, { on := 8, ground := Ground.chain }, { on := 0, ground := Ground.phase }, { on := 1, ground := Ground.phase }, { on := 2, ground := Ground.phase }, { on := 3, ground := Ground.phase }, { on := 4, ground := Ground.phase }, { on := 5, ground := Ground.phase }, { on := 6, ground := Ground.phase }, { on := 7, ground := Ground.phase }, { on := 8, ground := Ground.phase }], guard := none }) (by kernel_rfl) rfl (by kernel_rfl) (fun K hK => ?_)
  go_simp
  refine hK.out _ _ ?_
  clear hK K
  generalize hWt : wt.setCell ⟨X, 2, none⟩ (.slice (some ⟨gt, 0, none⟩) (s.2.2.length + 1) ct) = wz at *
  go_wp2_with fail
  go_ret
  exact ⟨rfl, hKt.bel⟩
end Go.Proofs.Ytooiinicnkhlbaa.recs

namespace Go.Proofs.Ytooiinicnkhlbaa.recs
open Go Go.RowKit Go.Proofs.Ytooiinicnkhlbaa.base Go.Proofs.Ytooiinicnkhlbaa.pairs Go.Proofs.Ytooiinicnkhlbaa.ords
set_option linter.unusedVariables false
set_option linter.unusedSimpArgs false

theorem recVals_split (l : List Rc) (hs : List Value) (h : hs.length = l.length) (k : Nat) : recVals l hs = recVals (l.take k) (hs.take k) ++ recVals (l.drop k) (hs.drop k) := by
  conv => lhs; rw [← List.take_append_drop k l, ← List.take_append_drop k hs]
  rw [recVals_append]
  simp [h]
theorem OwnR.cellsTake {w : World} {base g n cap : Nat} {l : List Rc} {hs : List Value} (h : OwnR w base (.slice (some ⟨g, 0, none⟩) n cap) l hs) (k : Nat) : ∀ j u, (recVals (l.take k) (hs.take k))[j]? = some u → w.cell? ((⟨g, 0, none⟩ : Addr).add j) = some u := by
  intro j u hu
  obtain rfl := h.nlen
  refine h.row.cells (g := g) rfl j u ?_
  rw [recVals_split l hs h.len k, List.getElem?_append_left (List.getElem?_eq_some_iff.1 hu).1]
  exact hu
theorem OwnR.cellsDrop {w : World} {base g n cap : Nat} {l : List Rc} {hs : List Value} (h : OwnR w base (.slice (some ⟨g, 0, none⟩) n cap) l hs) (k : Nat) (hk : k ≤ l.length) : ∀ j u, (recVals (l.drop k) (hs.drop k))[j]? = some u → w.cell? ((⟨g, k * 3, none⟩ : Addr).add j) = some u := by
  intro j u hu
  obtain rfl := h.nlen
  have hl := h.len
  have hlt : (recVals (l.take k) (hs.take k)).length = k * 3 := by rw [recVals_length _ _ (by simp [hl])]; simp; omega
  have := h.row.cells (g := g) rfl (k * 3 + j) u (by
    rw [recVals_split l hs h.len k, List.getElem?_append_right (by omega), hlt, Nat.add_sub_cancel_left]
    exact hu)
  rw [Addr.add_lit, Nat.zero_add] at this
  rw [Addr.add_lit]
  exact this
theorem OwnR.erase {w w' : World} {base g g' n c c' : Nat} {l : List Rc} {hs : List Value} (h : OwnR w base (.slice (some ⟨g, 0, none⟩) n c) l hs) (hb : Below w.heap.size w w') (k : Nat) (hk : k < l.length) {n' : Nat} (hn : n' = l.length - 1)
    (hown : w'.ownsRow base 32 3 (.slice (some ⟨g', 0, none⟩) n' c') n' (recVals (l.take k ++ l.drop (k + 1)) (hs.take k ++ hs.drop (k + 1)))) :
    OwnR w' base (.slice (some ⟨g', 0, none⟩) (l.take k ++ l.drop (k + 1)).length c') (l.take k ++ l.drop (k + 1)) (hs.take k ++ hs.drop (k + 1)) := by
  have hl := h.len
  have hlen : (l.take k ++ l.drop (k + 1)).length = n' := by simp; omega
  rw [hlen]
  have hops : ∀ i (hi : i < (l.take k ++ l.drop (k + 1)).length), OwnV w' base ((hs.take k ++ hs.drop (k + 1))[i]'(by simp at hi ⊢; omega)) (l.take k ++ l.drop (k + 1))[i].2.2 := by
    intro i hi
    by_cases e : i < k
    · have h1 : (l.take k ++ l.drop (k + 1))[i] = l[i]'(by omega) := by
        rw [List.getElem_append_left (by simp; omega)]; simp
      have h2 : (hs.take k ++ hs.drop (k + 1))[i]'(by simp at hi ⊢; omega) = hs[i]'(by omega) := by
        rw [List.getElem_append_left (by simp; omega)]; simp
      rw [h1, h2]
      exact (h.ops i (by omega)).below hb
    · have hi' : i + 1 < l.length := by simp at hi; omega
      have h1 : (l.take k ++ l.drop (k + 1))[i] = l[i + 1]'hi' := by
        rw [List.getElem_append_right (by simp; omega)]
        simp only [List.getElem_drop]
        congr 1
        simp; omega
      have h2 : (hs.take k ++ hs.drop (k + 1))[i]'(by simp at hi ⊢; omega) = hs[i + 1]'(by omega) := by
        rw [List.getElem_append_right (by simp; omega)]
        simp only [List.getElem_drop]
        congr 1
        simp; omega
      rw [h1, h2]
      exact (h.ops (i + 1) hi').below hb
  have hsub : (hs.take k ++ hs.drop (k + 1)).Sublist hs := by
    rw [← List.eraseIdx_eq_take_drop_succ]; exact List.eraseIdx_sublist _ _
  refine ⟨by simp; omega, fun x hx => h.sm x ?_, by rw [hlen]; exact hown, hops, h.apart.sublist hsub, fun j hj y hy e => ?_⟩
  · rcases List.mem_append.1 hx with h1 | h1
    · exact List.mem_of_mem_take h1
    · exact List.mem_of_mem_drop h1
  · obtain ⟨i, hi, rfl⟩ := List.getElem_of_mem hy
    exact recRow_ne hown (hops i (by simp at hi ⊢; omega)).2 hj e (by decide)
theorem opsAt_eq {l : List Rc} {k : Nat} (h : k < l.length) : opsAt l k = l[k].2.2 := by unfold opsAt; rw [List.getElem?_eq_getElem h]
theorem placeTx_lt {tx : Int} : ∀ {l : List Rc} {k : Nat}, placeTx tx l = some k → k < l.length
  | [], _, h => by cases h
  | r :: l, k, h => by
    rw [placeTx] at h
    split at h
    · cases h; simp
    · cases hq : placeTx tx l with
      | none => rw [hq] at h; cases h
      | some j =>
        rw [hq] at h
        simp only [Option.map_some, Option.some.injEq] at h
        subst h
        have := placeTx_lt hq
        simp; omega
end Go.Proofs.Ytooiinicnkhlbaa.recs

namespace Go.Proofs.Ytooiinicnkhlbaa.recs
open Go Go.RowKit Go.Proofs.Ytooiinicnkhlbaa.base Go.Proofs.Ytooiinicnkhlbaa.pairs Go.Proofs.Ytooiinicnkhlbaa.ords
set_option linter.unusedVariables false
set_option linter.unusedSimpArgs false
theorem rowR_mono {w : World} {base base' : Nat} {e : TypeId} {size : Nat} {v : Value} {n : Nat} {xs : List Value} (h : w.ownsRow base e size v n xs) (hb : base' ≤ base) : w.ownsRow base' e size v n xs := by
  refine ⟨h.1, ?_⟩
  rcases h.2 with h' | ⟨g, cap, cur, rfl, h0, r⟩
  · exact .inl h'
  · exact .inr ⟨g, cap, cur, rfl, by omega, r⟩
set_option maxRecDepth 100000 in
set_option maxHeartbeats 4000000 in
theorem one_end (w0 w : World) (X gm nm cm gh ch : Nat) (vs : Value) (s : St) (hs : List Value) (tx : Int) (a : Option Addr) (len cap : Nat) (ops : List Od)
    (hK : Kept w0 w X gm nm cm gh ch vs s hs) (hSo : SlO w a len ops) (hks : ∀ p ∈ ops, p.2.1.size ≤ 1099511627776) (hok : recOk (3, tx, ops) = true) (k : Nat) (hlh : s.2.1.length ≤ 1099511627776) (hpl : placeTx tx s.2.1 = some k) (hfew : s.1.length ≤ 60) :
    Calls Try.prog 34 #[.pointer (some ⟨X, 0, none⟩), .agg #[.int .i64 3, .int .i64 tx, .slice a len cap]] w (OnePost w0 X (some (s.1, s.2.1.take k ++ s.2.1.drop (k + 1), s.2.2))) := by
  obtain ⟨i0, hi, hz0, hz1, hz2⟩ := info_parts infoRW
  have hklt := placeTx_lt hpl
  have hlh9 := hK.held.len
  have hrm := hK.held.room
  have hk1 : k + 1 ≤ s.2.1.length := hklt
  have hn1 : (recVals (s.2.1.take k) (hs.take k)).length = k * 3 := by rw [recVals_length _ _ (by simp [hlh9])]; simp; omega
  have hn2 : (recVals (s.2.1.drop (k + 1)) (hs.drop (k + 1))).length = (s.2.1.length - (k + 1)) * 3 := by rw [recVals_length _ _ (by simp [hlh9])]; simp
  have hone1 : ∀ y ∈ hs.take k, y.oneCell' = true := fun y hy => hK.held.one y (List.mem_of_mem_take hy)
  have hone2 : ∀ y ∈ hs.drop (k + 1), y.oneCell' = true := fun y hy => hK.held.one y (List.mem_of_mem_drop hy)
  have hc3 : 0 + k ≤ maxLen := by unfold maxLen; omega
  have hc4 : (0 + k) * 40 ≤ 140737488355328 := by omega
  have hc5 : k + (s.2.1.length - (k + 1)) ≤ maxLen := by unfold maxLen; omega
  have hc6 : (k + (s.2.1.length - (k + 1))) * 40 ≤ 140737488355328 := by omega
  have hmx : maxLen = 9223372036854775807 := rfl
  obtain ⟨ad, had⟩ : ∃ ad : Addr, (if ch = k + 1 then some (⟨gh, 0, none⟩ : Addr) else some ⟨gh, (k + 1) * 3, none⟩) = some ad := by split <;> exact ⟨_, rfl⟩
  have HCD : Hid (∀ wq : World, OwnR wq w0.heap.size (.slice (some ⟨gh, 0, none⟩) s.2.1.length ch) s.2.1 hs → ∀ j u, (recVals (s.2.1.drop (k + 1)) (hs.drop (k + 1)))[j]? = some u → wq.cell? (ad.add j) = some u) := by
    intro wq hq j u hu
    split at had
    · have : s.2.1.drop (k + 1) = [] := List.drop_eq_nil_of_le (by omega)
      rw [this] at hu
      simp [recVals] at hu
    · cases had
      exact hq.cellsDrop (k + 1) hk1 j u hu
  have HAD := Hid.mk' had
  clear had
  have hki : (k : Int) < (s.2.1.length : Int) := by omega
  have hk0 : ¬ (k : Int) < 0 := by omega
  obtain ⟨sa, sc, hvs, hSz⟩ := hK.seen.sl
  subst hvs
  obtain ⟨V, hV⟩ : ∃ V, V = w.alloc (.cells #[.int .i64 3, .int .i64 tx, .slice a len cap] 32) := ⟨_, rfl⟩
  have hbV : Below w.heap.size w V := by rw [hV]; exact (Below.refl _ _).alloc (Nat.le_refl _) _
  have hbx : BoxR w.heap.size 3 tx (.slice a len cap) V := by rw [hV]; exact boxR_new _ _ _ _
  have hKV := hK.below hbV
  have hXl := hKV.box.lt
  have hRl := hbx.lt
  have y1 := last.On.cell (B := V.heap.size) hKV.box.cells.2.1 hXl
  have y2 := last.On.cell (B := V.heap.size) hbx.cells.2.1 hRl
  have hAt : ∀ x9 : last.On V.heap.size V, Calls Try.prog 62 #[.slice (some ⟨gh, 0, none⟩) s.2.1.length ch, .int .i64 tx] x9.w fun e w' => e = .returned (.int .i64 (atRet (placeTx tx s.2.1))) ∧ ∃ y9 : last.On V.heap.size V, w' = y9.w := fun x9 => last.Calls.on x9 (Nat.le_refl _) ((spec_l8At _ _ ch s.2.1 tx x9.w (hKV.held.below x9.2).sl).mono (fun e w' h => ⟨h.1, h.2 ▸ Below.refl _ _⟩))
  have hinh := last.On.inh V.heap.size V
  have HV := Hid.mk' hV.symm
  clear hV
  rw [hpl, show atRet (some k) = (k : Int) from rfl] at hAt
  go_enter Try.func34, Try.ntmps34
  go_wp2_with fail
  rw [HV.out]
  refine last.wp_region_on V.heap.size (by kernel_rfl) (by kernel_rfl) ?_
  repeat (go_big_quiet_step ((go_at_call 62; with_reducible exact hAt _)))
  refine wpQuiet_nil ?_
  intro w1 hw1
  obtain ⟨x1, hw1⟩ := hw1
  have hb1 : Below V.heap.size V w1 := by rw [hw1]; exact x1.2
  clear hw1 x1
  have hbx1 := hbx.below hb1
  have hK1 := hKV.below hb1
  have HOK := Hid.mk' (spec_recOk 3 tx a len cap ops w1 ((hSo.below hbV).below hb1) hks)
  obtain ⟨d0, d1, d2⟩ := hbx1.cells
  clear y1 y2 hAt hinh
  go_wp2_with fail
  refine HOK.out.mono ?_
  rintro e w2 ⟨rfl, hb2⟩
  rw [hok]
  have hK2 := hK1.below hb2
  have hbx2 := hbx1.below hb2
  have hSo2 := ((hSo.below hbV).below hb1).below hb2
  have hSz2 := ((hSz.below hbV).below hb1).below hb2
  clear d0 d1 d2 HOK HV hbx1 hbx hKV hXl hRl
  obtain ⟨d0, d1, d2⟩ := hbx2.cells
  have hdc : Below w2.heap.size w2 w2.drew := (Below.refl _ _).drew
  go_wp2_with fail
  refine last.wp_region_later (S := fun w' => BoxS X (.slice (some ⟨gm, 0, none⟩) nm cm) (.slice (some ⟨gh, 0, none⟩) s.2.1.length ch) (.slice sa s.2.2.length sc) w') 19 (by kernel_rfl) (hK2.box.below hdc) (fun hHeld0 => ?_)
  refine last.wpAnyL_take (i := 0) (v := (.pointer (some ⟨X, 0, none⟩))) rfl rfl (by kernel_rfl) (by kernel_rfl) (by kernel_rfl) (by kernel_rfl) (fun _ _ _ h => h) (Or.inl ⟨by rfl, ?_⟩) (by assumption) ?_
  · intro wq hSq; go_simp
  try simp only [Act.put, List.setIfInBounds_toArray, List.set_cons_zero, List.set_cons_succ]
  refine last.wpAnyL_take (i := 2) (v := (.pointer (some ⟨X, 0, none⟩))) rfl rfl (by kernel_rfl) (by kernel_rfl) (by kernel_rfl) (by kernel_rfl) (fun _ _ _ h => h) (Or.inl ⟨by rfl, ?_⟩) (by assumption) ?_
  · intro wq hSq; go_simp
  try simp only [Act.put, List.setIfInBounds_toArray, List.set_cons_zero, List.set_cons_succ]
  refine last.wpAnyL_take (i := 3) (v := (.pointer (some ⟨X, 0, none⟩))) rfl rfl (by kernel_rfl) (by kernel_rfl) (by kernel_rfl) (by kernel_rfl) (fun _ _ _ h => h) (Or.inl ⟨by rfl, ?_⟩) (by assumption) ?_
  · intro wq hSq; go_simp
  try simp only [Act.put, List.setIfInBounds_toArray, List.set_cons_zero, List.set_cons_succ]
  refine last.wpAnyL_take (i := 4) (v := (.pointer (some ⟨X, 1, none⟩))) rfl rfl (by kernel_rfl) (by kernel_rfl) (by kernel_rfl) (by kernel_rfl) (fun _ _ _ h => h) (Or.inl ⟨by rfl, ?_⟩) (by assumption) ?_
  · intro wq hSq; go_simp
  try simp only [Act.put, List.setIfInBounds_toArray, List.set_cons_zero, List.set_cons_succ]
  refine last.wpAnyL_take (i := 5) (v := (.slice (some ⟨gh, 0, none⟩) s.2.1.length ch)) rfl rfl (by kernel_rfl) (by kernel_rfl) (by kernel_rfl) (by kernel_rfl) (fun _ _ _ h => h) (Or.inl ⟨by rfl, ?_⟩) (by assumption) ?_
  · intro wq hSq; have q := hSq.cells.2.1; go_simp
  try simp only [Act.put, List.setIfInBounds_toArray, List.set_cons_zero, List.set_cons_succ]
  refine last.wpAnyL_take (i := 6) (v := (.int .i64 (k : Int))) rfl rfl (by kernel_rfl) (by kernel_rfl) (by kernel_rfl) (by kernel_rfl) (fun _ _ _ h => h) (Or.inl ⟨by rfl, ?_⟩) (by assumption) ?_
  · intro wq hSq; go_simp
  try simp only [Act.put, List.setIfInBounds_toArray, List.set_cons_zero, List.set_cons_succ]
  refine last.wpAnyL_take (i := 7) (v := (.slice (some ⟨gh, 0, none⟩) k ch)) rfl rfl (by kernel_rfl) (by kernel_rfl) (by kernel_rfl) (by kernel_rfl) (fun _ _ _ h => h) (Or.inl ⟨by rfl, ?_⟩) (by assumption) ?_
  · intro wq hSq; go_simp; exact fun h => absurd h (by omega)
  try simp only [Act.put, List.setIfInBounds_toArray, List.set_cons_zero, List.set_cons_succ]
  refine last.wpAnyL_take (i := 9) (v := (.pointer (some ⟨X, 0, none⟩))) rfl rfl (by kernel_rfl) (by kernel_rfl) (by kernel_rfl) (by kernel_rfl) (fun _ _ _ h => h) (Or.inl ⟨by rfl, ?_⟩) (by assumption) ?_
  · intro wq hSq; go_simp
  try simp only [Act.put, List.setIfInBounds_toArray, List.set_cons_zero, List.set_cons_succ]
  refine last.wpAnyL_take (i := 10) (v := (.pointer (some ⟨X, 0, none⟩))) rfl rfl (by kernel_rfl) (by kernel_rfl) (by kernel_rfl) (by kernel_rfl) (fun _ _ _ h => h) (Or.inl ⟨by rfl, ?_⟩) (by assumption) ?_
  · intro wq hSq; go_simp
  try simp only [Act.put, List.setIfInBounds_toArray, List.set_cons_zero, List.set_cons_succ]
  refine last.wpAnyL_take (i := 11) (v := (.pointer (some ⟨X, 1, none⟩))) rfl rfl (by kernel_rfl) (by kernel_rfl) (by kernel_rfl) (by kernel_rfl) (fun _ _ _ h => h) (Or.inl ⟨by rfl, ?_⟩) (by assumption) ?_
  · intro wq hSq; go_simp
  try simp only [Act.put, List.setIfInBounds_toArray, List.set_cons_zero, List.set_cons_succ]
  refine last.wpAnyL_take (i := 12) (v := (.slice (some ⟨gh, 0, none⟩) s.2.1.length ch)) rfl rfl (by kernel_rfl) (by kernel_rfl) (by kernel_rfl) (by kernel_rfl) (fun _ _ _ h => h) (Or.inl ⟨by rfl, ?_⟩) (by assumption) ?_
  · intro wq hSq; have q := hSq.cells.2.1; go_simp
  try simp only [Act.put, List.setIfInBounds_toArray, List.set_cons_zero, List.set_cons_succ]
  refine last.wpAnyL_take (i := 13) (v := (.int .i64 (k : Int))) rfl rfl (by kernel_rfl) (by kernel_rfl) (by kernel_rfl) (by kernel_rfl) (fun _ _ _ h => h) (Or.inl ⟨by rfl, ?_⟩) (by assumption) ?_
  · intro wq hSq; go_simp
  try simp only [Act.put, List.setIfInBounds_toArray, List.set_cons_zero, List.set_cons_succ]
  refine last.wpAnyL_take (i := 14) (v := (.int .i64 ((k : Int) + 1))) rfl rfl (by kernel_rfl) (by kernel_rfl) (by kernel_rfl) (by kernel_rfl) (fun _ _ _ h => h) (Or.inl ⟨by rfl, ?_⟩) (by assumption) ?_
  · intro wq hSq; go_simp; rw [IntKind.wrap_i64]; omega
  try simp only [Act.put, List.setIfInBounds_toArray, List.set_cons_zero, List.set_cons_succ]
  refine last.wpAnyL_take (i := 15) (v := (.slice (some ad) (s.2.1.length - (k + 1)) (ch - (k + 1)))) rfl rfl (by kernel_rfl) (by kernel_rfl) (by kernel_rfl) (by kernel_rfl) (fun _ _ _ h => h) (Or.inl ⟨by rfl, ?_⟩) (by assumption) ?_
  · intro wq hSq; go_simp; rw [if_pos ⟨by omega, by omega⟩, HAD.out]
  try simp only [Act.put, List.setIfInBounds_toArray, List.set_cons_zero, List.set_cons_succ]
  refine last.wpAnyL_one (i := 1) (o := { dst := some 115, op := Op.buildSlice 24 0 #[], type := 24, pos := "l08_record.go:135", after := #[], guard := none }) (by kernel_rfl) rfl (fun K hK => ?_)
  go_simp
  have hbm : Below w2.heap.size w2 (w2.drew.alloc (.cells #[] 32)) := hdc.alloc hdc.size _
  have hKm := hK2.below hbm
  have hOm : (w2.drew.alloc (.cells #[] 32)).ownsRow w2.heap.size 32 3 (.slice (some ⟨w2.heap.size, 0, none⟩) 0 0) 0 [] := World.ownsRow_made w2.drew #[] 0 (Nat.le_refl _) (Nat.zero_le _) rfl
  refine hK.out _ _ ?_ (fun hHeld => ?_)
  · exact hKm.box
  clear hK K hHeld0
  have hHeld0 := hHeld
  clear hHeld
  try simp only [Act.put, List.setIfInBounds_toArray, List.set_cons_zero, List.set_cons_succ]
  refine last.wpAnyL_one (i := 8) (o := { dst := some 122, op := Op.call { callee := Callee.builtin Builtin.append, args := #[Operand.tmp 115, Operand.tmp 121], argTypes := #[24, 24] }, type := 24, pos := "l08_record.go:135", after := #[{ on := 1, ground := Ground.data }, { on := 7, ground := Ground.data }], guard := none }) (by kernel_rfl) rfl (fun K hK => ?_)
  refine step_append_own rfl (.tmp 115) (.tmp 121) 24 rfl w2.heap.size 32 i0 (.agg #[.int .i64 0, .int .i64 0, .slice none 0 0]) 3 40 Try.underlying24 hi hz0 hz1 hz2 rfl (by decide) _ _ _ rfl hOm ⟨gh, 0, none⟩ k ch (recVals (s.2.1.take k) (hs.take k)) rfl hn1 (hKm.held.cellsTake k) (recVals_oneCell _ _ hone1) hc3 hc4 hbm.size ?_
  intro vp wp hownp hgrowp hnnp
  simp only [Nat.zero_add, List.nil_append] at hownp
  obtain ⟨gp, cp, hvp⟩ := rowR_shape hownp (fun e => by have := (hnnp.1 e).1; cases this)
  subst hvp
  have hgp : (w2.drew.alloc (.cells #[] 32)).grownBy wp (some w2.heap.size) := hgrowp
  have hbp : Below w2.heap.size w2 wp := hbm.grown hgp hbm.size (fun j e => by cases e; exact Nat.le_refl _)
  have hKp := hK2.below hbp
  refine hK.out _ _ ?_ (fun hHeld => ?_)
  · exact hKp.box
  clear hK K hHeld0
  have hHeld0 := hHeld
  clear hHeld
  try simp only [Act.put, List.setIfInBounds_toArray, List.set_cons_zero, List.set_cons_succ]
  refine last.wpAnyL_one (i := 16) (o := { dst := some 130, op := Op.call { callee := Callee.builtin Builtin.append, args := #[Operand.tmp 122, Operand.tmp 129], argTypes := #[24, 24] }, type := 24, pos := "l08_record.go:135", after := #[{ on := 8, ground := Ground.data }, { on := 15, ground := Ground.data }, { on := 8, ground := Ground.chain }], guard := none }) (by kernel_rfl) rfl (fun K hK => ?_)
  refine step_append_own rfl (.tmp 122) (.tmp 129) 24 rfl w2.heap.size 32 i0 (.agg #[.int .i64 0, .int .i64 0, .slice none 0 0]) 3 40 Try.underlying24 hi hz0 hz1 hz2 rfl (by decide) _ _ _ rfl hownp ad (s.2.1.length - (k + 1)) (ch - (k + 1)) (recVals (s.2.1.drop (k + 1)) (hs.drop (k + 1))) rfl hn2 (HCD.out _ hKp.held) (recVals_oneCell _ _ hone2) hc5 hc6 hbp.size ?_
  intro vr wr hownr hgrowr hnnr
  obtain ⟨gr, cr, hvr⟩ := rowR_shape hownr (fun e => by have := (hnnr.1 e).1; cases this)
  subst hvr
  have hgr : wp.grownBy wr (some gp) := hgrowr
  have hbr : Below w2.heap.size w2 wr := hbp.grown hgr hbp.size (fun j e => by cases e; exact (hownp.lt gp rfl).1)
  have hKr := hK2.below hbr
  have hOR := OwnR.erase (l := s.2.1) (hs := hs) hK2.held hbr k hklt (g' := gr) (c' := cr) (n' := k + (s.2.1.length - (k + 1))) (by omega) (by
    have h9 := hownr
    rw [← recVals_append _ _ _ _ (by simp [hlh9])] at h9
    exact rowR_mono h9 hK2.bel.size)
  refine hK.out _ _ ?_ (fun hHeld => ?_)
  · exact hKr.box
  clear hK K hHeld0
  have hHeld0 := hHeld
  clear hHeld
  try simp only [Act.put, List.setIfInBounds_toArray, List.set_cons_zero, List.set_cons_succ]
  refine last.wpAnyL_one (i := 17) (o := { dst := some 131, op := Op.nilCheck (Operand.tmp 114), type := 0, pos := "l08_record.go:135", after := #[{ on := 0, ground := Ground.data }, { on := 0, ground := Ground.phase }, { on := 1, ground := Ground.phase }, { on := 2, ground := Ground.phase }, { on := 3, ground := Ground.phase }, { on := 4, ground := Ground.phase }, { on := 5, ground := Ground.phase }, { on := 6, ground := Ground.phase }, { on := 7, ground := Ground.phase }, { on := 8, ground := Ground.phase }, { on := 9, ground := Ground.phase }, { on := 10, ground := Ground.phase }, { on := 11, ground := Ground.phase }, { on := 12, ground := Ground.phase }, { on := 13, ground := Ground.phase }, { on := 14, ground := Ground.phase }, { on := 15, ground := Ground.phase }, { on := 16, ground := Ground.phase }], guard := none }) (by kernel_rfl) rfl (fun K hK => ?_)
  go_simp
  refine hK.out _ _ ?_ (fun hHeld => ?_)
  · exact hHeld0
  clear hK K hHeld0
  have hHeld0 := hHeld
  clear hHeld
  try simp only [Act.put, List.setIfInBounds_toArray, List.set_cons_zero, List.set_cons_succ]
  refine last.wpAnyL_take (i := 18) (v := (.pointer (some ⟨X, 1, none⟩))) rfl rfl (by kernel_rfl) (by kernel_rfl) (by kernel_rfl) (by kernel_rfl) (fun _ _ _ h => h) (Or.inl ⟨by rfl, ?_⟩) (by assumption) ?_
  · intro wq hSq; go_simp
  try simp only [Act.put, List.setIfInBounds_toArray, List.set_cons_zero, List.set_cons_succ]
  have er := hKr.box.cells.2.1
  have fr := hKr.box.fz 1
  refine last.wpAnyL_last (o := { dst := none, op := Op.store 24 (Operand.tmp 132) (Operand.tmp 130), type := 0, pos := "l08_record.go:135", after := #[{ on := 18, ground := Ground.data }, { on := 16, ground := Ground.data }, { on := 16, ground := Ground.chain }, { on := 0, ground := Ground.phase }, { on := 1, ground := Ground.phase }, { on := 2, ground := Ground.phase }, { on := 3, ground := Ground.phase }, { on := 4, ground := Ground.phase }, { on := 5, ground := Ground.phase }, { on := 6, ground := Ground.phase }, { on := 7, ground := Ground.phase }, { on := 8, ground := Ground.phase }, { on := 9, ground := Ground.phase }, { on := 10, ground := Ground.phase }, { on := 11, ground := Ground.phase }, { on := 12, ground := Ground.phase }, { on := 13, ground := Ground.phase }, { on := 14, ground := Ground.phase }, { on := 15, ground := Ground.phase }, { on := 16, ground := Ground.phase }], guard := none }) (by kernel_rfl) rfl (by kernel_rfl) (fun K hK => ?_)
  go_simp
  refine hK.out _ _ ?_
  clear hK K
  have hKc := hKr.cut hOR
  have hlc : (s.2.1.take k ++ s.2.1.drop (k + 1)).length = k + (s.2.1.length - (k + 1)) := by simp; omega
  rw [hlc] at hKc
  generalize hWc : wr.setCell ⟨X, 1, none⟩ (.slice (some ⟨gr, 0, none⟩) (k + (s.2.1.length - (k + 1))) cr) = wz at *
  clear hWc hOR hownr hownp hgr hgp hgrowp hgrowr hnnp hnnr er fr hHeld0 hOm
  have hKc' : Kept w0 wz X gm nm cm gr cr (.slice sa s.2.2.length sc) (s.1, s.2.1.take k ++ s.2.1.drop (k + 1), s.2.2) (hs.take k ++ hs.drop (k + 1)) := hKc
  have hnm : s.1.length = nm := hKc.m.1
  obtain ⟨u0, _, _⟩ := hKc.box.cells
  have h60 : (nm : Int) ≤ 60 := by omega
  go_wp2_with fail
  go_ret
  exact ⟨rfl, _, _, _, _, _, _, _, hKc'⟩
end Go.Proofs.Ytooiinicnkhlbaa.recs

namespace Go.Proofs.Ytooiinicnkhlbaa.stepc
open Go Go.RowKit
theorem step_call2 {P : Program} {ops : Array Oper} {o : Oper} {a : Act} {w : World} {K : Act → World → Prop} {Q : Exit → Act → World → Prop} {E : Prop} (hgd : o.guard = none) (f : FuncId) (x y : Operand) (ts : Array TypeId)
    (ho : o.op = .call { callee := .value (.func f), args := #[x, y], argTypes := ts }) (hent : ∀ args w, (callFunc f args).run P w = .ok (.enter f args) w)
    (v1 v2 : Value) (h1 : a.eval x = v1) (h2 : a.eval y = v2) (R : Ending → World → Prop) (hc : Calls P f #[v1, v2] w R)
    (h : ∀ e w', R e w' → ∃ v, e = .returned v ∧ K (a.put o.dst v) w') :
    if Region.wanted o (yielded ops a.tmps) = true then Oper.wp P o a w K Q else E := by
  have hw : Region.wanted o (yielded ops a.tmps) = true := by simp [Region.wanted, hgd]
  rw [if_pos hw]
  unfold Oper.wp execOp
  have hf : a.eval (.func f) = .func (.func f) #[] #[] := rfl
  have hof : (Deferred.ofValue (Value.func (Fn.func f) #[] #[]) #[v1, v2]).run P w = .ok { target := .fn (.func f) #[], args := #[v1, v2] } w := rfl
  simp only [ho, resolve, invoke, Sem.run_bind, List.map_toArray, List.map_cons, List.map_nil, h1, h2, hf, hof, Result.andThen_ok, hent]
  show Calls P f #[v1, v2] w _
  exact hc.mono (fun e w' he => by obtain ⟨v, rfl, hr⟩ := h e w' he; exact hr)
end Go.Proofs.Ytooiinicnkhlbaa.stepc
namespace Go.Proofs.Ytooiinicnkhlbaa.recs
open Go Go.RowKit Go.Proofs.Ytooiinicnkhlbaa.base Go.Proofs.Ytooiinicnkhlbaa.pairs Go.Proofs.Ytooiinicnkhlbaa.ords
set_option linter.unusedVariables false
set_option linter.unusedSimpArgs false
set_option maxRecDepth 100000 in
set_option maxHeartbeats 4000000 in
theorem one_done (w0 w : World) (X gm nm cm gh ch : Nat) (vs : Value) (s : St) (hs : List Value) (tx : Int) (a : Option Addr) (len cap : Nat) (ops : List Od)
    (hK : Kept w0 w X gm nm cm gh ch vs s hs) (hSo : SlO w a len ops) (hks : ∀ p ∈ ops, p.2.1.size ≤ 1099511627776) (hok : recOk (2, tx, ops) = true) (k : Nat) (hlh : s.2.1.length ≤ 1099511627776) (hpl : placeTx tx s.2.1 = some k) (hfew : s.1.length ≤ 60) (h8 : (opsAt s.2.1 k).length ≤ 8) (h60 : (applyAll s.1 (opsAt s.2.1 k)).length ≤ 60) :
    Calls Try.prog 34 #[.pointer (some ⟨X, 0, none⟩), .agg #[.int .i64 2, .int .i64 tx, .slice a len cap]] w (OnePost w0 X (some (applyAll s.1 (opsAt s.2.1 k), s.2.1.take k ++ s.2.1.drop (k + 1), s.2.2))) := by
  obtain ⟨i0, hi, hz0, hz1, hz2⟩ := info_parts infoRW
  have hklt := placeTx_lt hpl
  have hlh9 := hK.held.len
  have hrm := hK.held.room
  have hk1 : k + 1 ≤ s.2.1.length := hklt
  have hn1 : (recVals (s.2.1.take k) (hs.take k)).length = k * 3 := by rw [recVals_length _ _ (by simp [hlh9])]; simp; omega
  have hn2 : (recVals (s.2.1.drop (k + 1)) (hs.drop (k + 1))).length = (s.2.1.length - (k + 1)) * 3 := by rw [recVals_length _ _ (by simp [hlh9])]; simp
  have hone1 : ∀ y ∈ hs.take k, y.oneCell' = true := fun y hy => hK.held.one y (List.mem_of_mem_take hy)
  have hone2 : ∀ y ∈ hs.drop (k + 1), y.oneCell' = true := fun y hy => hK.held.one y (List.mem_of_mem_drop hy)
  have hc3 : 0 + k ≤ maxLen := by unfold maxLen; omega
  have hc4 : (0 + k) * 40 ≤ 140737488355328 := by omega
  have hc5 : k + (s.2.1.length - (k + 1)) ≤ maxLen := by unfold maxLen; omega
  have hc6 : (k + (s.2.1.length - (k + 1))) * 40 ≤ 140737488355328 := by omega
  have hmx : maxLen = 9223372036854775807 := rfl
  obtain ⟨ad, had⟩ : ∃ ad : Addr, (if ch = k + 1 then some (⟨gh, 0, none⟩ : Addr) else some ⟨gh, (k + 1) * 3, none⟩) = some ad := by split <;> exact ⟨_, rfl⟩
  have HCD : Hid (∀ wq : World, OwnR wq w0.heap.size (.slice (some ⟨gh, 0, none⟩) s.2.1.length ch) s.2.1 hs → ∀ j u, (recVals (s.2.1.drop (k + 1)) (hs.drop (k + 1)))[j]? = some u → wq.cell? (ad.add j) = some u) := by
    intro wq hq j u hu
    split at had
    · have : s.2.1.drop (k + 1) = [] := List.drop_eq_nil_of_le (by omega)
      rw [this] at hu
      simp [recVals] at hu
    · cases had
      exact hq.cellsDrop (k + 1) hk1 j u hu
  have HAD := Hid.mk' had
  clear had
  have hki : (k : Int) < (s.2.1.length : Int) := by omega
  have hk0 : ¬ (k : Int) < 0 := by omega
  obtain ⟨pa, pc, hpe, hps, _⟩ := (hK.held.ops k hklt).sl
  have HQC : Hid (∀ wq : World, OwnR wq w0.heap.size (.slice (some ⟨gh, 0, none⟩) s.2.1.length ch) s.2.1 hs → wq.cell? ⟨gh, k * 3 + 2, none⟩ = some (.slice pa (opsAt s.2.1 k).length pc)) := fun wq hq => by
    rw [opsAt_eq hklt, (hq.at k hklt).2.2, hpe]
  have HQS : Hid (∀ wq : World, Below w.heap.size w wq → SlO wq pa (opsAt s.2.1 k).length (opsAt s.2.1 k)) := fun wq hb => by rw [opsAt_eq hklt]; exact hps.below hb
  clear hpe hps
  obtain ⟨sa, sc, hvs, hSz⟩ := hK.seen.sl
  subst hvs
  obtain ⟨V, hV⟩ : ∃ V, V = w.alloc (.cells #[.int .i64 2, .int .i64 tx, .slice a len cap] 32) := ⟨_, rfl⟩
  have hbV : Below w.heap.size w V := by rw [hV]; exact (Below.refl _ _).alloc (Nat.le_refl _) _
  have hbx : BoxR w.heap.size 2 tx (.slice a len cap) V := by rw [hV]; exact boxR_new _ _ _ _
  have hKV := hK.below hbV
  have hXl := hKV.box.lt
  have hRl := hbx.lt
  have y1 := last.On.cell (B := V.heap.size) hKV.box.cells.2.1 hXl
  have y2 := last.On.cell (B := V.heap.size) hbx.cells.2.1 hRl
  have hAt : ∀ x9 : last.On V.heap.size V, Calls Try.prog 62 #[.slice (some ⟨gh, 0, none⟩) s.2.1.length ch, .int .i64 tx] x9.w fun e w' => e = .returned (.int .i64 (atRet (placeTx tx s.2.1))) ∧ ∃ y9 : last.On V.heap.size V, w' = y9.w := fun x9 => last.Calls.on x9 (Nat.le_refl _) ((spec_l8At _ _ ch s.2.1 tx x9.w (hKV.held.below x9.2).sl).mono (fun e w' h => ⟨h.1, h.2 ▸ Below.refl _ _⟩))
  have hinh := last.On.inh V.heap.size V
  have HV := Hid.mk' hV.symm
  clear hV
  rw [hpl, show atRet (some k) = (k : Int) from rfl] at hAt
  go_enter Try.func34, Try.ntmps34
  go_wp2_with fail
  rw [HV.out]
  refine last.wp_region_on V.heap.size (by kernel_rfl) (by kernel_rfl) ?_
  repeat (go_big_quiet_step ((go_at_call 62; with_reducible exact hAt _)))
  refine wpQuiet_nil ?_
  intro w1 hw1
  obtain ⟨x1, hw1⟩ := hw1
  have hb1 : Below V.heap.size V w1 := by rw [hw1]; exact x1.2
  clear hw1 x1
  have hbx1 := hbx.below hb1
  have hK1 := hKV.below hb1
  have HOK := Hid.mk' (spec_recOk 2 tx a len cap ops w1 ((hSo.below hbV).below hb1) hks)
  obtain ⟨d0, d1, d2⟩ := hbx1.cells
  clear y1 y2 hAt hinh
  go_wp2_with fail
  refine HOK.out.mono ?_
  rintro e w2 ⟨rfl, hb2⟩
  rw [hok]
  have hK2 := hK1.below hb2
  have hbx2 := hbx1.below hb2
  have hSo2 := ((hSo.below hbV).below hb1).below hb2
  have hSz2 := ((hSz.below hbV).below hb1).below hb2
  clear d0 d1 d2 HOK HV hbx1 hbx hKV hXl hRl
  obtain ⟨d0, d1, d2⟩ := hbx2.cells
  have hd2 : Below w2.heap.size w2 w2.drew := (Below.refl _ _).drew
  have hKd := hK2.below hd2
  have hqd := HQC.out _ hKd.held
  have HAP := Hid.mk' (spec_apply gm 0 nm cm s.1 pa (opsAt s.2.1 k).length pc (opsAt s.2.1 k) w2.drew hKd.m.sl (HQS.out _ (((hbV.trans (hb1.mono hbV.size)).trans (hb2.mono (Nat.le_trans hbV.size hb1.size))).trans (hd2.mono (Nat.le_trans hbV.size (Nat.le_trans hb1.size hb2.size))))) (by have := hKd.m.1; omega))
  go_wp2_with fail
  refine last.wp_region_later (S := fun w' => BoxS X (.slice (some ⟨gm, 0, none⟩) nm cm) (.slice (some ⟨gh, 0, none⟩) s.2.1.length ch) (.slice sa s.2.2.length sc) w' ∧ w'.cell? ⟨gh, k * 3 + 2, none⟩ = some (.slice pa (opsAt s.2.1 k).length pc)) 16 (by kernel_rfl) ⟨hKd.box, hqd⟩ (fun hHeld0 => ?_)
  refine last.wpAnyL_take (i := 0) (v := (.pointer (some ⟨X, 0, none⟩))) rfl rfl (by kernel_rfl) (by kernel_rfl) (by kernel_rfl) (by kernel_rfl) (fun _ _ _ h => h) (Or.inl ⟨by rfl, ?_⟩) (by assumption) ?_
  · intro wq hSq; go_simp
  try simp only [Act.put, List.setIfInBounds_toArray, List.set_cons_zero, List.set_cons_succ]
  refine last.wpAnyL_take (i := 1) (v := (.pointer (some ⟨X, 0, none⟩))) rfl rfl (by kernel_rfl) (by kernel_rfl) (by kernel_rfl) (by kernel_rfl) (fun _ _ _ h => h) (Or.inl ⟨by rfl, ?_⟩) (by assumption) ?_
  · intro wq hSq; go_simp
  try simp only [Act.put, List.setIfInBounds_toArray, List.set_cons_zero, List.set_cons_succ]
  refine last.wpAnyL_take (i := 2) (v := (.pointer (some ⟨X, 0, none⟩))) rfl rfl (by kernel_rfl) (by kernel_rfl) (by kernel_rfl) (by kernel_rfl) (fun _ _ _ h => h) (Or.inl ⟨by rfl, ?_⟩) (by assumption) ?_
  · intro wq hSq; go_simp
  try simp only [Act.put, List.setIfInBounds_toArray, List.set_cons_zero, List.set_cons_succ]
  refine last.wpAnyL_take (i := 3) (v := (.pointer (some ⟨X, 0, none⟩))) rfl rfl (by kernel_rfl) (by kernel_rfl) (by kernel_rfl) (by kernel_rfl) (fun _ _ _ h => h) (Or.inl ⟨by rfl, ?_⟩) (by assumption) ?_
  · intro wq hSq; go_simp
  try simp only [Act.put, List.setIfInBounds_toArray, List.set_cons_zero, List.set_cons_succ]
  refine last.wpAnyL_take (i := 4) (v := (.slice (some ⟨gm, 0, none⟩) nm cm)) rfl rfl (by kernel_rfl) (by kernel_rfl) (by kernel_rfl) (by kernel_rfl) (fun _ _ _ h => h) (Or.inl ⟨by rfl, ?_⟩) (by assumption) ?_
  · intro wq hSq; have q := hSq.1.cells.1; go_simp
  try simp only [Act.put, List.setIfInBounds_toArray, List.set_cons_zero, List.set_cons_succ]
  refine last.wpAnyL_take (i := 5) (v := (.pointer (some ⟨X, 0, none⟩))) rfl rfl (by kernel_rfl) (by kernel_rfl) (by kernel_rfl) (by kernel_rfl) (fun _ _ _ h => h) (Or.inl ⟨by rfl, ?_⟩) (by assumption) ?_
  · intro wq hSq; go_simp
  try simp only [Act.put, List.setIfInBounds_toArray, List.set_cons_zero, List.set_cons_succ]
  refine last.wpAnyL_take (i := 6) (v := (.pointer (some ⟨X, 0, none⟩))) rfl rfl (by kernel_rfl) (by kernel_rfl) (by kernel_rfl) (by kernel_rfl) (fun _ _ _ h => h) (Or.inl ⟨by rfl, ?_⟩) (by assumption) ?_
  · intro wq hSq; go_simp
  try simp only [Act.put, List.setIfInBounds_toArray, List.set_cons_zero, List.set_cons_succ]
  refine last.wpAnyL_take (i := 7) (v := (.pointer (some ⟨X, 1, none⟩))) rfl rfl (by kernel_rfl) (by kernel_rfl) (by kernel_rfl) (by kernel_rfl) (fun _ _ _ h => h) (Or.inl ⟨by rfl, ?_⟩) (by assumption) ?_
  · intro wq hSq; go_simp
  try simp only [Act.put, List.setIfInBounds_toArray, List.set_cons_zero, List.set_cons_succ]
  refine last.wpAnyL_take (i := 8) (v := (.slice (some ⟨gh, 0, none⟩) s.2.1.length ch)) rfl rfl (by kernel_rfl) (by kernel_rfl) (by kernel_rfl) (by kernel_rfl) (fun _ _ _ h => h) (Or.inl ⟨by rfl, ?_⟩) (by assumption) ?_
  · intro wq hSq; have q := hSq.1.cells.2.1; go_simp
  try simp only [Act.put, List.setIfInBounds_toArray, List.set_cons_zero, List.set_cons_succ]
  refine last.wpAnyL_take (i := 9) (v := (.int .i64 (k : Int))) rfl rfl (by kernel_rfl) (by kernel_rfl) (by kernel_rfl) (by kernel_rfl) (fun _ _ _ h => h) (Or.inl ⟨by rfl, ?_⟩) (by assumption) ?_
  · intro wq hSq; go_simp
  try simp only [Act.put, List.setIfInBounds_toArray, List.set_cons_zero, List.set_cons_succ]
  refine last.wpAnyL_take (i := 10) (v := (.pointer (some ⟨gh, k * 3, none⟩))) rfl rfl (by kernel_rfl) (by kernel_rfl) (by kernel_rfl) (by kernel_rfl) (fun _ _ _ h => h) (Or.inl ⟨by rfl, ?_⟩) (by assumption) ?_
  · intro wq hSq; go_simp
  try simp only [Act.put, List.setIfInBounds_toArray, List.set_cons_zero, List.set_cons_succ]
  refine last.wpAnyL_take (i := 11) (v := (.pointer (some ⟨gh, k * 3 + 2, none⟩))) rfl rfl (by kernel_rfl) (by kernel_rfl) (by kernel_rfl) (by kernel_rfl) (fun _ _ _ h => h) (Or.inl ⟨by rfl, ?_⟩) (by assumption) ?_
  · intro wq hSq; go_simp
  try simp only [Act.put, List.setIfInBounds_toArray, List.set_cons_zero, List.set_cons_succ]
  refine last.wpAnyL_take (i := 12) (v := (.slice pa (opsAt s.2.1 k).length pc)) rfl rfl (by kernel_rfl) (by kernel_rfl) (by kernel_rfl) (by kernel_rfl) (fun _ _ _ h => h) (Or.inl ⟨by rfl, ?_⟩) (by assumption) ?_
  · intro wq hSq; have q := hSq.2; go_simp
  try simp only [Act.put, List.setIfInBounds_toArray, List.set_cons_zero, List.set_cons_succ]
  refine last.wpAnyL_one (i := 13) (o := { dst := some 111, op := Op.call { callee := Callee.value (Operand.func 66), args := #[Operand.tmp 102, Operand.tmp 110], argTypes := #[26, 30] }, type := 26, pos := "l08_record.go:133", after := #[{ on := 4, ground := Ground.data }, { on := 12, ground := Ground.data }], guard := none }) (by kernel_rfl) rfl (fun K hK => ?_)
  refine stepc.step_call2 rfl 66 (.tmp 102) (.tmp 110) _ rfl (fun _ _ => rfl) (.slice (some ⟨gm, 0, none⟩) nm cm) (.slice pa (opsAt s.2.1 k).length pc) (by kernel_rfl) (by kernel_rfl) _ HAP.out ?_
  rintro e w6 ⟨g6, n6, c6, rfl, hO6, hb6⟩
  refine ⟨_, rfl, ?_⟩
  have hK6 := hKd.below hb6
  have hq6 := HQC.out _ hK6.held
  refine hK.out _ _ ?_ (fun hHeld => ?_)
  · exact ⟨hK6.box, hq6⟩
  clear hK K hHeld0
  have hHeld0 := hHeld
  clear hHeld
  try simp only [Act.put, List.setIfInBounds_toArray, List.set_cons_zero, List.set_cons_succ]
  refine last.wpAnyL_one (i := 14) (o := { dst := some 112, op := Op.nilCheck (Operand.tmp 98), type := 0, pos := "l08_record.go:133", after := #[{ on := 0, ground := Ground.data }, { on := 0, ground := Ground.phase }, { on := 1, ground := Ground.phase }, { on := 2, ground := Ground.phase }, { on := 3, ground := Ground.phase }, { on := 4, ground := Ground.phase }, { on := 5, ground := Ground.phase }, { on := 6, ground := Ground.phase }, { on := 7, ground := Ground.phase }, { on := 8, ground := Ground.phase }, { on := 9, ground := Ground.phase }, { on := 10, ground := Ground.phase }, { on := 11, ground := Ground.phase }, { on := 12, ground := Ground.phase }, { on := 13, ground := Ground.phase }], guard := none }) (by kernel_rfl) rfl (fun K hK => ?_)
  go_simp
  refine hK.out _ _ ?_ (fun hHeld => ?_)
  · exact hHeld0
  clear hK K hHeld0
  have hHeld0 := hHeld
  clear hHeld
  try simp only [Act.put, List.setIfInBounds_toArray, List.set_cons_zero, List.set_cons_succ]
  refine last.wpAnyL_take (i := 15) (v := (.pointer (some ⟨X, 0, none⟩))) rfl rfl (by kernel_rfl) (by kernel_rfl) (by kernel_rfl) (by kernel_rfl) (fun _ _ _ h => h) (Or.inl ⟨by rfl, ?_⟩) (by assumption) ?_
  · intro wq hSq; go_simp
  try simp only [Act.put, List.setIfInBounds_toArray, List.set_cons_zero, List.set_cons_succ]
  have e6 := hK6.box.cells.1
  have f6 := hK6.box.fz 0
  refine last.wpAnyL_last (o := { dst := none, op := Op.store 26 (Operand.tmp 113) (Operand.tmp 111), type := 0, pos := "l08_record.go:133", after := #[{ on := 15, ground := Ground.data }, { on := 13, ground := Ground.data }, { on := 13, ground := Ground.chain }, { on := 0, ground := Ground.phase }, { on := 1, ground := Ground.phase }, { on := 2, ground := Ground.phase }, { on := 3, ground := Ground.phase }, { on := 4, ground := Ground.phase }, { on := 5, ground := Ground.phase }, { on := 6, ground := Ground.phase }, { on := 7, ground := Ground.phase }, { on := 8, ground := Ground.phase }, { on := 9, ground := Ground.phase }, { on := 10, ground := Ground.phase }, { on := 11, ground := Ground.phase }, { on := 12, ground := Ground.phase }, { on := 13, ground := Ground.phase }], guard := none }) (by kernel_rfl) rfl (by kernel_rfl) (fun K hK => ?_)
  go_simp
  refine hK.out _ _ ?_
  clear hK K
  have hK9 := hK6.pairs (hO6.mono hKd.bel.size)
  generalize hW9 : w6.setCell ⟨X, 0, none⟩ (.slice (some ⟨g6, 0, none⟩) n6 c6) = w9 at *
  clear hW9 hq6 hqd e6 f6 hHeld0 hO6 hb6 HAP HQS HQC hd2 hKd hK6 d0 d1 d2
  have hdc : Below w9.heap.size w9 w9.drew := (Below.refl _ _).drew
  go_wp2_with fail
  refine last.wp_region_later (S := fun w' => BoxS X (.slice (some ⟨g6, 0, none⟩) n6 c6) (.slice (some ⟨gh, 0, none⟩) s.2.1.length ch) (.slice sa s.2.2.length sc) w') 19 (by kernel_rfl) (hK9.box.below hdc) (fun hHeld0 => ?_)
  refine last.wpAnyL_take (i := 0) (v := (.pointer (some ⟨X, 0, none⟩))) rfl rfl (by kernel_rfl) (by kernel_rfl) (by kernel_rfl) (by kernel_rfl) (fun _ _ _ h => h) (Or.inl ⟨by rfl, ?_⟩) (by assumption) ?_
  · intro wq hSq; go_simp
  try simp only [Act.put, List.setIfInBounds_toArray, List.set_cons_zero, List.set_cons_succ]
  refine last.wpAnyL_take (i := 2) (v := (.pointer (some ⟨X, 0, none⟩))) rfl rfl (by kernel_rfl) (by kernel_rfl) (by kernel_rfl) (by kernel_rfl) (fun _ _ _ h => h) (Or.inl ⟨by rfl, ?_⟩) (by assumption) ?_
  · intro wq hSq; go_simp
  try simp only [Act.put, List.setIfInBounds_toArray, List.set_cons_zero, List.set_cons_succ]
  refine last.wpAnyL_take (i := 3) (v := (.pointer (some ⟨X, 0, none⟩))) rfl rfl (by kernel_rfl) (by kernel_rfl) (by kernel_rfl) (by kernel_rfl) (fun _ _ _ h => h) (Or.inl ⟨by rfl, ?_⟩) (by assumption) ?_
  · intro wq hSq; go_simp
  try simp only [Act.put, List.setIfInBounds_toArray, List.set_cons_zero, List.set_cons_succ]
  refine last.wpAnyL_take (i := 4) (v := (.pointer (some ⟨X, 1, none⟩))) rfl rfl (by kernel_rfl) (by kernel_rfl) (by kernel_rfl) (by kernel_rfl) (fun _ _ _ h => h) (Or.inl ⟨by rfl, ?_⟩) (by assumption) ?_
  · intro wq hSq; go_simp
  try simp only [Act.put, List.setIfInBounds_toArray, List.set_cons_zero, List.set_cons_succ]
  refine last.wpAnyL_take (i := 5) (v := (.slice (some ⟨gh, 0, none⟩) s.2.1.length ch)) rfl rfl (by kernel_rfl) (by kernel_rfl) (by kernel_rfl) (by kernel_rfl) (fun _ _ _ h => h) (Or.inl ⟨by rfl, ?_⟩) (by assumption) ?_
  · intro wq hSq; have q := hSq.cells.2.1; go_simp
  try simp only [Act.put, List.setIfInBounds_toArray, List.set_cons_zero, List.set_cons_succ]
  refine last.wpAnyL_take (i := 6) (v := (.int .i64 (k : Int))) rfl rfl (by kernel_rfl) (by kernel_rfl) (by kernel_rfl) (by kernel_rfl) (fun _ _ _ h => h) (Or.inl ⟨by rfl, ?_⟩) (by assumption) ?_
  · intro wq hSq; go_simp
  try simp only [Act.put, List.setIfInBounds_toArray, List.set_cons_zero, List.set_cons_succ]
  refine last.wpAnyL_take (i := 7) (v := (.slice (some ⟨gh, 0, none⟩) k ch)) rfl rfl (by kernel_rfl) (by kernel_rfl) (by kernel_rfl) (by kernel_rfl) (fun _ _ _ h => h) (Or.inl ⟨by rfl, ?_⟩) (by assumption) ?_
  · intro wq hSq; go_simp; exact fun h => absurd h (by omega)
  try simp only [Act.put, List.setIfInBounds_toArray, List.set_cons_zero, List.set_cons_succ]
  refine last.wpAnyL_take (i := 9) (v := (.pointer (some ⟨X, 0, none⟩))) rfl rfl (by kernel_rfl) (by kernel_rfl) (by kernel_rfl) (by kernel_rfl) (fun _ _ _ h => h) (Or.inl ⟨by rfl, ?_⟩) (by assumption) ?_
  · intro wq hSq; go_simp
  try simp only [Act.put, List.setIfInBounds_toArray, List.set_cons_zero, List.set_cons_succ]
  refine last.wpAnyL_take (i := 10) (v := (.pointer (some ⟨X, 0, none⟩))) rfl rfl (by kernel_rfl) (by kernel_rfl) (by kernel_rfl) (by kernel_rfl) (fun _ _ _ h => h) (Or.inl ⟨by rfl, ?_⟩) (by assumption) ?_
  · intro wq hSq; go_simp
  try simp only [Act.put, List.setIfInBounds_toArray, List.set_cons_zero, List.set_cons_succ]
  refine last.wpAnyL_take (i := 11) (v := (.pointer (some ⟨X, 1, none⟩))) rfl rfl (by kernel_rfl) (by kernel_rfl) (by kernel_rfl) (by kernel_rfl) (fun _ _ _ h => h) (Or.inl ⟨by rfl, ?_⟩) (by assumption) ?_
  · intro wq hSq; go_simp
  try simp only [Act.put, List.setIfInBounds_toArray, List.set_cons_zero, List.set_cons_succ]
  refine last.wpAnyL_take (i := 12) (v := (.slice (some ⟨gh, 0, none⟩) s.2.1.length ch)) rfl rfl (by kernel_rfl) (by kernel_rfl) (by kernel_rfl) (by kernel_rfl) (fun _ _ _ h => h) (Or.inl ⟨by rfl, ?_⟩) (by assumption) ?_
  · intro wq hSq; have q := hSq.cells.2.1; go_simp
  try simp only [Act.put, List.setIfInBounds_toArray, List.set_cons_zero, List.set_cons_succ]
  refine last.wpAnyL_take (i := 13) (v := (.int .i64 (k : Int))) rfl rfl (by kernel_rfl) (by kernel_rfl) (by kernel_rfl) (by kernel_rfl) (fun _ _ _ h => h) (Or.inl ⟨by rfl, ?_⟩) (by assumption) ?_
  · intro wq hSq; go_simp
  try simp only [Act.put, List.setIfInBounds_toArray, List.set_cons_zero, List.set_cons_succ]
  refine last.wpAnyL_take (i := 14) (v := (.int .i64 ((k : Int) + 1))) rfl rfl (by kernel_rfl) (by kernel_rfl) (by kernel_rfl) (by kernel_rfl) (fun _ _ _ h => h) (Or.inl ⟨by rfl, ?_⟩) (by assumption) ?_
  · intro wq hSq; go_simp; rw [IntKind.wrap_i64]; omega
  try simp only [Act.put, List.setIfInBounds_toArray, List.set_cons_zero, List.set_cons_succ]
  refine last.wpAnyL_take (i := 15) (v := (.slice (some ad) (s.2.1.length - (k + 1)) (ch - (k + 1)))) rfl rfl (by kernel_rfl) (by kernel_rfl) (by kernel_rfl) (by kernel_rfl) (fun _ _ _ h => h) (Or.inl ⟨by rfl, ?_⟩) (by assumption) ?_
  · intro wq hSq; go_simp; rw [if_pos ⟨by omega, by omega⟩, HAD.out]
  try simp only [Act.put, List.setIfInBounds_toArray, List.set_cons_zero, List.set_cons_succ]
  refine last.wpAnyL_one (i := 1) (o := { dst := some 115, op := Op.buildSlice 24 0 #[], type := 24, pos := "l08_record.go:135", after := #[], guard := none }) (by kernel_rfl) rfl (fun K hK => ?_)
  go_simp
  have hbm : Below w9.heap.size w9 (w9.drew.alloc (.cells #[] 32)) := hdc.alloc hdc.size _
  have hKm := hK9.below hbm
  have hOm : (w9.drew.alloc (.cells #[] 32)).ownsRow w9.heap.size 32 3 (.slice (some ⟨w9.heap.size, 0, none⟩) 0 0) 0 [] := World.ownsRow_made w9.drew #[] 0 (Nat.le_refl _) (Nat.zero_le _) rfl
  refine hK.out _ _ ?_ (fun hHeld => ?_)
  · exact hKm.box
  clear hK K hHeld0
  have hHeld0 := hHeld
  clear hHeld
  try simp only [Act.put, List.setIfInBounds_toArray, List.set_cons_zero, List.set_cons_succ]
  refine last.wpAnyL_one (i := 8) (o := { dst := some 122, op := Op.call { callee := Callee.builtin Builtin.append, args := #[Operand.tmp 115, Operand.tmp 121], argTypes := #[24, 24] }, type := 24, pos := "l08_record.go:135", after := #[{ on := 1, ground := Ground.data }, { on := 7, ground := Ground.data }], guard := none }) (by kernel_rfl) rfl (fun K hK => ?_)
  refine step_append_own rfl (.tmp 115) (.tmp 121) 24 rfl w9.heap.size 32 i0 (.agg #[.int .i64 0, .int .i64 0, .slice none 0 0]) 3 40 Try.underlying24 hi hz0 hz1 hz2 rfl (by decide) _ _ _ rfl hOm ⟨gh, 0, none⟩ k ch (recVals (s.2.1.take k) (hs.take k)) rfl hn1 (hKm.held.cellsTake k) (recVals_oneCell _ _ hone1) hc3 hc4 hbm.size ?_
  intro vp wp hownp hgrowp hnnp
  simp only [Nat.zero_add, List.nil_append] at hownp
  obtain ⟨gp, cp, hvp⟩ := rowR_shape hownp (fun e => by have := (hnnp.1 e).1; cases this)
  subst hvp
  have hgp : (w9.drew.alloc (.cells #[] 32)).grownBy wp (some w9.heap.size) := hgrowp
  have hbp : Below w9.heap.size w9 wp := hbm.grown hgp hbm.size (fun j e => by cases e; exact Nat.le_refl _)
  have hKp := hK9.below hbp
  refine hK.out _ _ ?_ (fun hHeld => ?_)
  · exact hKp.box
  clear hK K hHeld0
  have hHeld0 := hHeld
  clear hHeld
  try simp only [Act.put, List.setIfInBounds_toArray, List.set_cons_zero, List.set_cons_succ]
  refine last.wpAnyL_one (i := 16) (o := { dst := some 130, op := Op.call { callee := Callee.builtin Builtin.append, args := #[Operand.tmp 122, Operand.tmp 129], argTypes := #[24, 24] }, type := 24, pos := "l08_record.go:135", after := #[{ on := 8, ground := Ground.data }, { on := 15, ground := Ground.data }, { on := 8, ground := Ground.chain }], guard := none }) (by kernel_rfl) rfl (fun K hK => ?_)
  refine step_append_own rfl (.tmp 122) (.tmp 129) 24 rfl w9.heap.size 32 i0 (.agg #[.int .i64 0, .int .i64 0, .slice none 0 0]) 3 40 Try.underlying24 hi hz0 hz1 hz2 rfl (by decide) _ _ _ rfl hownp ad (s.2.1.length - (k + 1)) (ch - (k + 1)) (recVals (s.2.1.drop (k + 1)) (hs.drop (k + 1))) rfl hn2 (HCD.out _ hKp.held) (recVals_oneCell _ _ hone2) hc5 hc6 hbp.size ?_
  intro vr wr hownr hgrowr hnnr
  obtain ⟨gr, cr, hvr⟩ := rowR_shape hownr (fun e => by have := (hnnr.1 e).1; cases this)
  subst hvr
  have hgr : wp.grownBy wr (some gp) := hgrowr
  have hbr : Below w9.heap.size w9 wr := hbp.grown hgr hbp.size (fun j e => by cases e; exact (hownp.lt gp rfl).1)
  have hKr := hK9.below hbr
  have hOR := OwnR.erase (l := s.2.1) (hs := hs) hK9.held hbr k hklt (g' := gr) (c' := cr) (n' := k + (s.2.1.length - (k + 1))) (by omega) (by
    have h9 := hownr
    rw [← recVals_append _ _ _ _ (by simp [hlh9])] at h9
    exact rowR_mono h9 hK9.bel.size)
  refine hK.out _ _ ?_ (fun hHeld => ?_)
  · exact hKr.box
  clear hK K hHeld0
  have hHeld0 := hHeld
  clear hHeld
  try simp only [Act.put, List.setIfInBounds_toArray, List.set_cons_zero, List.set_cons_succ]
  refine last.wpAnyL_one (i := 17) (o := { dst := some 131, op := Op.nilCheck (Operand.tmp 114), type := 0, pos := "l08_record.go:135", after := #[{ on := 0, ground := Ground.data }, { on := 0, ground := Ground.phase }, { on := 1, ground := Ground.phase }, { on := 2, ground := Ground.phase }, { on := 3, ground := Ground.phase }, { on := 4, ground := Ground.phase }, { on := 5, ground := Ground.phase }, { on := 6, ground := Ground.phase }, { on := 7, ground := Ground.phase }, { on := 8, ground := Ground.phase }, { on := 9, ground := Ground.phase }, { on := 10, ground := Ground.phase }, { on := 11, ground := Ground.phase }, { on := 12, ground := Ground.phase }, { on := 13, ground := Ground.phase }, { on := 14, ground := Ground.phase }, { on := 15, ground := Ground.phase }, { on := 16, ground := Ground.phase }], guard := none }) (by kernel_rfl) rfl (fun K hK => ?_)
  go_simp
  refine hK.out _ _ ?_ (fun hHeld => ?_)
  · exact hHeld0
  clear hK K hHeld0
  have hHeld0 := hHeld
  clear hHeld
  try simp only [Act.put, List.setIfInBounds_toArray, List.set_cons_zero, List.set_cons_succ]
  refine last.wpAnyL_take (i := 18) (v := (.pointer (some ⟨X, 1, none⟩))) rfl rfl (by kernel_rfl) (by kernel_rfl) (by kernel_rfl) (by kernel_rfl) (fun _ _ _ h => h) (Or.inl ⟨by rfl, ?_⟩) (by assumption) ?_
  · intro wq hSq; go_simp
  try simp only [Act.put, List.setIfInBounds_toArray, List.set_cons_zero, List.set_cons_succ]
  have er := hKr.box.cells.2.1
  have fr := hKr.box.fz 1
  refine last.wpAnyL_last (o := { dst := none, op := Op.store 24 (Operand.tmp 132) (Operand.tmp 130), type := 0, pos := "l08_record.go:135", after := #[{ on := 18, ground := Ground.data }, { on := 16, ground := Ground.data }, { on := 16, ground := Ground.chain }, { on := 0, ground := Ground.phase }, { on := 1, ground := Ground.phase }, { on := 2, ground := Ground.phase }, { on := 3, ground := Ground.phase }, { on := 4, ground := Ground.phase }, { on := 5, ground := Ground.phase }, { on := 6, ground := Ground.phase }, { on := 7, ground := Ground.phase }, { on := 8, ground := Ground.phase }, { on := 9, ground := Ground.phase }, { on := 10, ground := Ground.phase }, { on := 11, ground := Ground.phase }, { on := 12, ground := Ground.phase }, { on := 13, ground := Ground.phase }, { on := 14, ground := Ground.phase }, { on := 15, ground := Ground.phase }, { on := 16, ground := Ground.phase }], guard := none }) (by kernel_rfl) rfl (by kernel_rfl) (fun K hK => ?_)
  go_simp
  refine hK.out _ _ ?_
  clear hK K
  have hKc := hKr.cut hOR
  have hlc : (s.2.1.take k ++ s.2.1.drop (k + 1)).length = k + (s.2.1.length - (k + 1)) := by simp; omega
  rw [hlc] at hKc
  generalize hWc : wr.setCell ⟨X, 1, none⟩ (.slice (some ⟨gr, 0, none⟩) (k + (s.2.1.length - (k + 1))) cr) = wz at *
  clear hWc hOR hownr hownp hgr hgp hgrowp hgrowr hnnp hnnr er fr hHeld0 hOm
  have hKc' : Kept w0 wz X g6 n6 c6 gr cr (.slice sa s.2.2.length sc) (applyAll s.1 (opsAt s.2.1 k), s.2.1.take k ++ s.2.1.drop (k + 1), s.2.2) (hs.take k ++ hs.drop (k + 1)) := hKc
  have hnm : (applyAll s.1 (opsAt s.2.1 k)).length = n6 := hKc.m.1
  obtain ⟨u0, _, _⟩ := hKc.box.cells
  have h60 : (n6 : Int) ≤ 60 := by omega
  go_wp2_with fail
  go_ret
  exact ⟨rfl, _, _, _, _, _, _, _, hKc'⟩
set_option maxRecDepth 100000 in
set_option maxHeartbeats 4000000 in
theorem one_over (w0 w : World) (X gm nm cm gh ch : Nat) (vs : Value) (s : St) (hs : List Value) (tx : Int) (a : Option Addr) (len cap : Nat) (ops : List Od)
    (hK : Kept w0 w X gm nm cm gh ch vs s hs) (hSo : SlO w a len ops) (hks : ∀ p ∈ ops, p.2.1.size ≤ 1099511627776) (hok : recOk (2, tx, ops) = true) (k : Nat) (hlh : s.2.1.length ≤ 1099511627776) (hpl : placeTx tx s.2.1 = some k) (hfew : s.1.length ≤ 60) (h8 : (opsAt s.2.1 k).length ≤ 8) (h60 : 60 < (applyAll s.1 (opsAt s.2.1 k)).length) :
    Calls Try.prog 34 #[.pointer (some ⟨X, 0, none⟩), .agg #[.int .i64 2, .int .i64 tx, .slice a len cap]] w (OnePost w0 X none) := by
  obtain ⟨i0, hi, hz0, hz1, hz2⟩ := info_parts infoRW
  have hklt := placeTx_lt hpl
  have hlh9 := hK.held.len
  have hrm := hK.held.room
  have hk1 : k + 1 ≤ s.2.1.length := hklt
  have hn1 : (recVals (s.2.1.take k) (hs.take k)).length = k * 3 := by rw [recVals_length _ _ (by simp [hlh9])]; simp; omega
  have hn2 : (recVals (s.2.1.drop (k + 1)) (hs.drop (k + 1))).length = (s.2.1.length - (k + 1)) * 3 := by rw [recVals_length _ _ (by simp [hlh9])]; simp
  have hone1 : ∀ y ∈ hs.take k, y.oneCell' = true := fun y hy => hK.held.one y (List.mem_of_mem_take hy)
  have hone2 : ∀ y ∈ hs.drop (k + 1), y.oneCell' = true := fun y hy => hK.held.one y (List.mem_of_mem_drop hy)
  have hc3 : 0 + k ≤ maxLen := by unfold maxLen; omega
  have hc4 : (0 + k) * 40 ≤ 140737488355328 := by omega
  have hc5 : k + (s.2.1.length - (k + 1)) ≤ maxLen := by unfold maxLen; omega
  have hc6 : (k + (s.2.1.length - (k + 1))) * 40 ≤ 140737488355328 := by omega
  have hmx : maxLen = 9223372036854775807 := rfl
  obtain ⟨ad, had⟩ : ∃ ad : Addr, (if ch = k + 1 then some (⟨gh, 0, none⟩ : Addr) else some ⟨gh, (k + 1) * 3, none⟩) = some ad := by split <;> exact ⟨_, rfl⟩
  have HCD : Hid (∀ wq : World, OwnR wq w0.heap.size (.slice (some ⟨gh, 0, none⟩) s.2.1.length ch) s.2.1 hs → ∀ j u, (recVals (s.2.1.drop (k + 1)) (hs.drop (k + 1)))[j]? = some u → wq.cell? (ad.add j) = some u) := by
    intro wq hq j u hu
    split at had
    · have : s.2.1.drop (k + 1) = [] := List.drop_eq_nil_of_le (by omega)
      rw [this] at hu
      simp [recVals] at hu
    · cases had
      exact hq.cellsDrop (k + 1) hk1 j u hu
  have HAD := Hid.mk' had
  clear had
  have hki : (k : Int) < (s.2.1.length : Int) := by omega
  have hk0 : ¬ (k : Int) < 0 := by omega
  obtain ⟨pa, pc, hpe, hps, _⟩ := (hK.held.ops k hklt).sl
  have HQC : Hid (∀ wq : World, OwnR wq w0.heap.size (.slice (some ⟨gh, 0, none⟩) s.2.1.length ch) s.2.1 hs → wq.cell? ⟨gh, k * 3 + 2, none⟩ = some (.slice pa (opsAt s.2.1 k).length pc)) := fun wq hq => by
    rw [opsAt_eq hklt, (hq.at k hklt).2.2, hpe]
  have HQS : Hid (∀ wq : World, Below w.heap.size w wq → SlO wq pa (opsAt s.2.1 k).length (opsAt s.2.1 k)) := fun wq hb => by rw [opsAt_eq hklt]; exact hps.below hb
  clear hpe hps
  obtain ⟨sa, sc, hvs, hSz⟩ := hK.seen.sl
  subst hvs
  obtain ⟨V, hV⟩ : ∃ V, V = w.alloc (.cells #[.int .i64 2, .int .i64 tx, .slice a len cap] 32) := ⟨_, rfl⟩
  have hbV : Below w.heap.size w V := by rw [hV]; exact (Below.refl _ _).alloc (Nat.le_refl _) _
  have hbx : BoxR w.heap.size 2 tx (.slice a len cap) V := by rw [hV]; exact boxR_new _ _ _ _
  have hKV := hK.below hbV
  have hXl := hKV.box.lt
  have hRl := hbx.lt
  have y1 := last.On.cell (B := V.heap.size) hKV.box.cells.2.1 hXl
  have y2 := last.On.cell (B := V.heap.size) hbx.cells.2.1 hRl
  have hAt : ∀ x9 : last.On V.heap.size V, Calls Try.prog 62 #[.slice (some ⟨gh, 0, none⟩) s.2.1.length ch, .int .i64 tx] x9.w fun e w' => e = .returned (.int .i64 (atRet (placeTx tx s.2.1))) ∧ ∃ y9 : last.On V.heap.size V, w' = y9.w := fun x9 => last.Calls.on x9 (Nat.le_refl _) ((spec_l8At _ _ ch s.2.1 tx x9.w (hKV.held.below x9.2).sl).mono (fun e w' h => ⟨h.1, h.2 ▸ Below.refl _ _⟩))
  have hinh := last.On.inh V.heap.size V
  have HV := Hid.mk' hV.symm
  clear hV
  rw [hpl, show atRet (some k) = (k : Int) from rfl] at hAt
  go_enter Try.func34, Try.ntmps34
  go_wp2_with fail
  rw [HV.out]
  refine last.wp_region_on V.heap.size (by kernel_rfl) (by kernel_rfl) ?_
  repeat (go_big_quiet_step ((go_at_call 62; with_reducible exact hAt _)))
  refine wpQuiet_nil ?_
  intro w1 hw1
  obtain ⟨x1, hw1⟩ := hw1
  have hb1 : Below V.heap.size V w1 := by rw [hw1]; exact x1.2
  clear hw1 x1
  have hbx1 := hbx.below hb1
  have hK1 := hKV.below hb1
  have HOK := Hid.mk' (spec_recOk 2 tx a len cap ops w1 ((hSo.below hbV).below hb1) hks)
  obtain ⟨d0, d1, d2⟩ := hbx1.cells
  clear y1 y2 hAt hinh
  go_wp2_with fail
  refine HOK.out.mono ?_
  rintro e w2 ⟨rfl, hb2⟩
  rw [hok]
  have hK2 := hK1.below hb2
  have hbx2 := hbx1.below hb2
  have hSo2 := ((hSo.below hbV).below hb1).below hb2
  have hSz2 := ((hSz.below hbV).below hb1).below hb2
  clear d0 d1 d2 HOK HV hbx1 hbx hKV hXl hRl
  obtain ⟨d0, d1, d2⟩ := hbx2.cells
  have hd2 : Below w2.heap.size w2 w2.drew := (Below.refl _ _).drew
  have hKd := hK2.below hd2
  have hqd := HQC.out _ hKd.held
  have HAP := Hid.mk' (spec_apply gm 0 nm cm s.1 pa (opsAt s.2.1 k).length pc (opsAt s.2.1 k) w2.drew hKd.m.sl (HQS.out _ (((hbV.trans (hb1.mono hbV.size)).trans (hb2.mono (Nat.le_trans hbV.size hb1.size))).trans (hd2.mono (Nat.le_trans hbV.size (Nat.le_trans hb1.size hb2.size))))) (by have := hKd.m.1; omega))
  go_wp2_with fail
  refine last.wp_region_later (S := fun w' => BoxS X (.slice (some ⟨gm, 0, none⟩) nm cm) (.slice (some ⟨gh, 0, none⟩) s.2.1.length ch) (.slice sa s.2.2.length sc) w' ∧ w'.cell? ⟨gh, k * 3 + 2, none⟩ = some (.slice pa (opsAt s.2.1 k).length pc)) 16 (by kernel_rfl) ⟨hKd.box, hqd⟩ (fun hHeld0 => ?_)
  refine last.wpAnyL_take (i := 0) (v := (.pointer (some ⟨X, 0, none⟩))) rfl rfl (by kernel_rfl) (by kernel_rfl) (by kernel_rfl) (by kernel_rfl) (fun _ _ _ h => h) (Or.inl ⟨by rfl, ?_⟩) (by assumption) ?_
  · intro wq hSq; go_simp
  try simp only [Act.put, List.setIfInBounds_toArray, List.set_cons_zero, List.set_cons_succ]
  refine last.wpAnyL_take (i := 1) (v := (.pointer (some ⟨X, 0, none⟩))) rfl rfl (by kernel_rfl) (by kernel_rfl) (by kernel_rfl) (by kernel_rfl) (fun _ _ _ h => h) (Or.inl ⟨by rfl, ?_⟩) (by assumption) ?_
  · intro wq hSq; go_simp
  try simp only [Act.put, List.setIfInBounds_toArray, List.set_cons_zero, List.set_cons_succ]
  refine last.wpAnyL_take (i := 2) (v := (.pointer (some ⟨X, 0, none⟩))) rfl rfl (by kernel_rfl) (by kernel_rfl) (by kernel_rfl) (by kernel_rfl) (fun _ _ _ h => h) (Or.inl ⟨by rfl, ?_⟩) (by assumption) ?_
  · intro wq hSq; go_simp
  try simp only [Act.put, List.setIfInBounds_toArray, List.set_cons_zero, List.set_cons_succ]
  refine last.wpAnyL_take (i := 3) (v := (.pointer (some ⟨X, 0, none⟩))) rfl rfl (by kernel_rfl) (by kernel_rfl) (by kernel_rfl) (by kernel_rfl) (fun _ _ _ h => h) (Or.inl ⟨by rfl, ?_⟩) (by assumption) ?_
  · intro wq hSq; go_simp
  try simp only [Act.put, List.setIfInBounds_toArray, List.set_cons_zero, List.set_cons_succ]
  refine last.wpAnyL_take (i := 4) (v := (.slice (some ⟨gm, 0, none⟩) nm cm)) rfl rfl (by kernel_rfl) (by kernel_rfl) (by kernel_rfl) (by kernel_rfl) (fun _ _ _ h => h) (Or.inl ⟨by rfl, ?_⟩) (by assumption) ?_
  · intro wq hSq; have q := hSq.1.cells.1; go_simp
  try simp only [Act.put, List.setIfInBounds_toArray, List.set_cons_zero, List.set_cons_succ]
  refine last.wpAnyL_take (i := 5) (v := (.pointer (some ⟨X, 0, none⟩))) rfl rfl (by kernel_rfl) (by kernel_rfl) (by kernel_rfl) (by kernel_rfl) (fun _ _ _ h => h) (Or.inl ⟨by rfl, ?_⟩) (by assumption) ?_
  · intro wq hSq; go_simp
  try simp only [Act.put, List.setIfInBounds_toArray, List.set_cons_zero, List.set_cons_succ]
  refine last.wpAnyL_take (i := 6) (v := (.pointer (some ⟨X, 0, none⟩))) rfl rfl (by kernel_rfl) (by kernel_rfl) (by kernel_rfl) (by kernel_rfl) (fun _ _ _ h => h) (Or.inl ⟨by rfl, ?_⟩) (by assumption) ?_
  · intro wq hSq; go_simp
  try simp only [Act.put, List.setIfInBounds_toArray, List.set_cons_zero, List.set_cons_succ]
  refine last.wpAnyL_take (i := 7) (v := (.pointer (some ⟨X, 1, none⟩))) rfl rfl (by kernel_rfl) (by kernel_rfl) (by kernel_rfl) (by kernel_rfl) (fun _ _ _ h => h) (Or.inl ⟨by rfl, ?_⟩) (by assumption) ?_
  · intro wq hSq; go_simp
  try simp only [Act.put, List.setIfInBounds_toArray, List.set_cons_zero, List.set_cons_succ]
  refine last.wpAnyL_take (i := 8) (v := (.slice (some ⟨gh, 0, none⟩) s.2.1.length ch)) rfl rfl (by kernel_rfl) (by kernel_rfl) (by kernel_rfl) (by kernel_rfl) (fun _ _ _ h => h) (Or.inl ⟨by rfl, ?_⟩) (by assumption) ?_
  · intro wq hSq; have q := hSq.1.cells.2.1; go_simp
  try simp only [Act.put, List.setIfInBounds_toArray, List.set_cons_zero, List.set_cons_succ]
  refine last.wpAnyL_take (i := 9) (v := (.int .i64 (k : Int))) rfl rfl (by kernel_rfl) (by kernel_rfl) (by kernel_rfl) (by kernel_rfl) (fun _ _ _ h => h) (Or.inl ⟨by rfl, ?_⟩) (by assumption) ?_
  · intro wq hSq; go_simp
  try simp only [Act.put, List.setIfInBounds_toArray, List.set_cons_zero, List.set_cons_succ]
  refine last.wpAnyL_take (i := 10) (v := (.pointer (some ⟨gh, k * 3, none⟩))) rfl rfl (by kernel_rfl) (by kernel_rfl) (by kernel_rfl) (by kernel_rfl) (fun _ _ _ h => h) (Or.inl ⟨by rfl, ?_⟩) (by assumption) ?_
  · intro wq hSq; go_simp
  try simp only [Act.put, List.setIfInBounds_toArray, List.set_cons_zero, List.set_cons_succ]
  refine last.wpAnyL_take (i := 11) (v := (.pointer (some ⟨gh, k * 3 + 2, none⟩))) rfl rfl (by kernel_rfl) (by kernel_rfl) (by kernel_rfl) (by kernel_rfl) (fun _ _ _ h => h) (Or.inl ⟨by rfl, ?_⟩) (by assumption) ?_
  · intro wq hSq; go_simp
  try simp only [Act.put, List.setIfInBounds_toArray, List.set_cons_zero, List.set_cons_succ]
  refine last.wpAnyL_take (i := 12) (v := (.slice pa (opsAt s.2.1 k).length pc)) rfl rfl (by kernel_rfl) (by kernel_rfl) (by kernel_rfl) (by kernel_rfl) (fun _ _ _ h => h) (Or.inl ⟨by rfl, ?_⟩) (by assumption) ?_
  · intro wq hSq; have q := hSq.2; go_simp
  try simp only [Act.put, List.setIfInBounds_toArray, List.set_cons_zero, List.set_cons_succ]
  refine last.wpAnyL_one (i := 13) (o := { dst := some 111, op := Op.call { callee := Callee.value (Operand.func 66), args := #[Operand.tmp 102, Operand.tmp 110], argTypes := #[26, 30] }, type := 26, pos := "l08_record.go:133", after := #[{ on := 4, ground := Ground.data }, { on := 12, ground := Ground.data }], guard := none }) (by kernel_rfl) rfl (fun K hK => ?_)
  refine stepc.step_call2 rfl 66 (.tmp 102) (.tmp 110) _ rfl (fun _ _ => rfl) (.slice (some ⟨gm, 0, none⟩) nm cm) (.slice pa (opsAt s.2.1 k).length pc) (by kernel_rfl) (by kernel_rfl) _ HAP.out ?_
  rintro e w6 ⟨g6, n6, c6, rfl, hO6, hb6⟩
  refine ⟨_, rfl, ?_⟩
  have hK6 := hKd.below hb6
  have hq6 := HQC.out _ hK6.held
  refine hK.out _ _ ?_ (fun hHeld => ?_)
  · exact ⟨hK6.box, hq6⟩
  clear hK K hHeld0
  have hHeld0 := hHeld
  clear hHeld
  try simp only [Act.put, List.setIfInBounds_toArray, List.set_cons_zero, List.set_cons_succ]
  refine last.wpAnyL_one (i := 14) (o := { dst := some 112, op := Op.nilCheck (Operand.tmp 98), type := 0, pos := "l08_record.go:133", after := #[{ on := 0, ground := Ground.data }, { on := 0, ground := Ground.phase }, { on := 1, ground := Ground.phase }, { on := 2, ground := Ground.phase }, { on := 3, ground := Ground.phase }, { on := 4, ground := Ground.phase }, { on := 5, ground := Ground.phase }, { on := 6, ground := Ground.phase }, { on := 7, ground := Ground.phase }, { on := 8, ground := Ground.phase }, { on := 9, ground := Ground.phase }, { on := 10, ground := Ground.phase }, { on := 11, ground := Ground.phase }, { on := 12, ground := Ground.phase }, { on := 13, ground := Ground.phase }], guard := none }) (by kernel_rfl) rfl (fun K hK => ?_)
  go_simp
  refine hK.out _ _ ?_ (fun hHeld => ?_)
  · exact hHeld0
  clear hK K hHeld0
  have hHeld0 := hHeld
  clear hHeld
  try simp only [Act.put, List.setIfInBounds_toArray, List.set_cons_zero, List.set_cons_succ]
  refine last.wpAnyL_take (i := 15) (v := (.pointer (some ⟨X, 0, none⟩))) rfl rfl (by kernel_rfl) (by kernel_rfl) (by kernel_rfl) (by kernel_rfl) (fun _ _ _ h => h) (Or.inl ⟨by rfl, ?_⟩) (by assumption) ?_
  · intro wq hSq; go_simp
  try simp only [Act.put, List.setIfInBounds_toArray, List.set_cons_zero, List.set_cons_succ]
  have e6 := hK6.box.cells.1
  have f6 := hK6.box.fz 0
  refine last.wpAnyL_last (o := { dst := none, op := Op.store 26 (Operand.tmp 113) (Operand.tmp 111), type := 0, pos := "l08_record.go:133", after := #[{ on := 15, ground := Ground.data }, { on := 13, ground := Ground.data }, { on := 13, ground := Ground.chain }, { on := 0, ground := Ground.phase }, { on := 1, ground := Ground.phase }, { on := 2, ground := Ground.phase }, { on := 3, ground := Ground.phase }, { on := 4, ground := Ground.phase }, { on := 5, ground := Ground.phase }, { on := 6, ground := Ground.phase }, { on := 7, ground := Ground.phase }, { on := 8, ground := Ground.phase }, { on := 9, ground := Ground.phase }, { on := 10, ground := Ground.phase }, { on := 11, ground := Ground.phase }, { on := 12, ground := Ground.phase }, { on := 13, ground := Ground.phase }], guard := none }) (by kernel_rfl) rfl (by kernel_rfl) (fun K hK => ?_)
  go_simp
  refine hK.out _ _ ?_
  clear hK K
  have hK9 := hK6.pairs (hO6.mono hKd.bel.size)
  generalize hW9 : w6.setCell ⟨X, 0, none⟩ (.slice (some ⟨g6, 0, none⟩) n6 c6) = w9 at *
  clear hW9 hq6 hqd e6 f6 hHeld0 hO6 hb6 HAP HQS HQC hd2 hKd hK6 d0 d1 d2
  have hdc : Below w9.heap.size w9 w9.drew := (Below.refl _ _).drew
  go_wp2_with fail
  refine last.wp_region_later (S := fun w' => BoxS X (.slice (some ⟨g6, 0, none⟩) n6 c6) (.slice (some ⟨gh, 0, none⟩) s.2.1.length ch) (.slice sa s.2.2.length sc) w') 19 (by kernel_rfl) (hK9.box.below hdc) (fun hHeld0 => ?_)
  refine last.wpAnyL_take (i := 0) (v := (.pointer (some ⟨X, 0, none⟩))) rfl rfl (by kernel_rfl) (by kernel_rfl) (by kernel_rfl) (by kernel_rfl) (fun _ _ _ h => h) (Or.inl ⟨by rfl, ?_⟩) (by assumption) ?_
  · intro wq hSq; go_simp
  try simp only [Act.put, List.setIfInBounds_toArray, List.set_cons_zero, List.set_cons_succ]
  refine last.wpAnyL_take (i := 2) (v := (.pointer (some ⟨X, 0, none⟩))) rfl rfl (by kernel_rfl) (by kernel_rfl) (by kernel_rfl) (by kernel_rfl) (fun _ _ _ h => h) (Or.inl ⟨by rfl, ?_⟩) (by assumption) ?_
  · intro wq hSq; go_simp
  try simp only [Act.put, List.setIfInBounds_toArray, List.set_cons_zero, List.set_cons_succ]
  refine last.wpAnyL_take (i := 3) (v := (.pointer (some ⟨X, 0, none⟩))) rfl rfl (by kernel_rfl) (by kernel_rfl) (by kernel_rfl) (by kernel_rfl) (fun _ _ _ h => h) (Or.inl ⟨by rfl, ?_⟩) (by assumption) ?_
  · intro wq hSq; go_simp
  try simp only [Act.put, List.setIfInBounds_toArray, List.set_cons_zero, List.set_cons_succ]
  refine last.wpAnyL_take (i := 4) (v := (.pointer (some ⟨X, 1, none⟩))) rfl rfl (by kernel_rfl) (by kernel_rfl) (by kernel_rfl) (by kernel_rfl) (fun _ _ _ h => h) (Or.inl ⟨by rfl, ?_⟩) (by assumption) ?_
  · intro wq hSq; go_simp
  try simp only [Act.put, List.setIfInBounds_toArray, List.set_cons_zero, List.set_cons_succ]
  refine last.wpAnyL_take (i := 5) (v := (.slice (some ⟨gh, 0, none⟩) s.2.1.length ch)) rfl rfl (by kernel_rfl) (by kernel_rfl) (by kernel_rfl) (by kernel_rfl) (fun _ _ _ h => h) (Or.inl ⟨by rfl, ?_⟩) (by assumption) ?_
  · intro wq hSq; have q := hSq.cells.2.1; go_simp
  try simp only [Act.put, List.setIfInBounds_toArray, List.set_cons_zero, List.set_cons_succ]
  refine last.wpAnyL_take (i := 6) (v := (.int .i64 (k : Int))) rfl rfl (by kernel_rfl) (by kernel_rfl) (by kernel_rfl) (by kernel_rfl) (fun _ _ _ h => h) (Or.inl ⟨by rfl, ?_⟩) (by assumption) ?_
  · intro wq hSq; go_simp
  try simp only [Act.put, List.setIfInBounds_toArray, List.set_cons_zero, List.set_cons_succ]
  refine last.wpAnyL_take (i := 7) (v := (.slice (some ⟨gh, 0, none⟩) k ch)) rfl rfl (by kernel_rfl) (by kernel_rfl) (by kernel_rfl) (by kernel_rfl) (fun _ _ _ h => h) (Or.inl ⟨by rfl, ?_⟩) (by assumption) ?_
  · intro wq hSq; go_simp; exact fun h => absurd h (by omega)
  try simp only [Act.put, List.setIfInBounds_toArray, List.set_cons_zero, List.set_cons_succ]
  refine last.wpAnyL_take (i := 9) (v := (.pointer (some ⟨X, 0, none⟩))) rfl rfl (by kernel_rfl) (by kernel_rfl) (by kernel_rfl) (by kernel_rfl) (fun _ _ _ h => h) (Or.inl ⟨by rfl, ?_⟩) (by assumption) ?_
  · intro wq hSq; go_simp
  try simp only [Act.put, List.setIfInBounds_toArray, List.set_cons_zero, List.set_cons_succ]
  refine last.wpAnyL_take (i := 10) (v := (.pointer (some ⟨X, 0, none⟩))) rfl rfl (by kernel_rfl) (by kernel_rfl) (by kernel_rfl) (by kernel_rfl) (fun _ _ _ h => h) (Or.inl ⟨by rfl, ?_⟩) (by assumption) ?_
  · intro wq hSq; go_simp
  try simp only [Act.put, List.setIfInBounds_toArray, List.set_cons_zero, List.set_cons_succ]
  refine last.wpAnyL_take (i := 11) (v := (.pointer (some ⟨X, 1, none⟩))) rfl rfl (by kernel_rfl) (by kernel_rfl) (by kernel_rfl) (by kernel_rfl) (fun _ _ _ h => h) (Or.inl ⟨by rfl, ?_⟩) (by assumption) ?_
  · intro wq hSq; go_simp
  try simp only [Act.put, List.setIfInBounds_toArray, List.set_cons_zero, List.set_cons_succ]
  refine last.wpAnyL_take (i := 12) (v := (.slice (some ⟨gh, 0, none⟩) s.2.1.length ch)) rfl rfl (by kernel_rfl) (by kernel_rfl) (by kernel_rfl) (by kernel_rfl) (fun _ _ _ h => h) (Or.inl ⟨by rfl, ?_⟩) (by assumption) ?_
  · intro wq hSq; have q := hSq.cells.2.1; go_simp
  try simp only [Act.put, List.setIfInBounds_toArray, List.set_cons_zero, List.set_cons_succ]
  refine last.wpAnyL_take (i := 13) (v := (.int .i64 (k : Int))) rfl rfl (by kernel_rfl) (by kernel_rfl) (by kernel_rfl) (by kernel_rfl) (fun _ _ _ h => h) (Or.inl ⟨by rfl, ?_⟩) (by assumption) ?_
  · intro wq hSq; go_simp
  try simp only [Act.put, List.setIfInBounds_toArray, List.set_cons_zero, List.set_cons_succ]
  refine last.wpAnyL_take (i := 14) (v := (.int .i64 ((k : Int) + 1))) rfl rfl (by kernel_rfl) (by kernel_rfl) (by kernel_rfl) (by kernel_rfl) (fun _ _ _ h => h) (Or.inl ⟨by rfl, ?_⟩) (by assumption) ?_
  · intro wq hSq; go_simp; rw [IntKind.wrap_i64]; omega
  try simp only [Act.put, List.setIfInBounds_toArray, List.set_cons_zero, List.set_cons_succ]
  refine last.wpAnyL_take (i := 15) (v := (.slice (some ad) (s.2.1.length - (k + 1)) (ch - (k + 1)))) rfl rfl (by kernel_rfl) (by kernel_rfl) (by kernel_rfl) (by kernel_rfl) (fun _ _ _ h => h) (Or.inl ⟨by rfl, ?_⟩) (by assumption) ?_
  · intro wq hSq; go_simp; rw [if_pos ⟨by omega, by omega⟩, HAD.out]
  try simp only [Act.put, List.setIfInBounds_toArray, List.set_cons_zero, List.set_cons_succ]
  refine last.wpAnyL_one (i := 1) (o := { dst := some 115, op := Op.buildSlice 24 0 #[], type := 24, pos := "l08_record.go:135", after := #[], guard := none }) (by kernel_rfl) rfl (fun K hK => ?_)
  go_simp
  have hbm : Below w9.heap.size w9 (w9.drew.alloc (.cells #[] 32)) := hdc.alloc hdc.size _
  have hKm := hK9.below hbm
  have hOm : (w9.drew.alloc (.cells #[] 32)).ownsRow w9.heap.size 32 3 (.slice (some ⟨w9.heap.size, 0, none⟩) 0 0) 0 [] := World.ownsRow_made w9.drew #[] 0 (Nat.le_refl _) (Nat.zero_le _) rfl
  refine hK.out _ _ ?_ (fun hHeld => ?_)
  · exact hKm.box
  clear hK K hHeld0
  have hHeld0 := hHeld
  clear hHeld
  try simp only [Act.put, List.setIfInBounds_toArray, List.set_cons_zero, List.set_cons_succ]
  refine last.wpAnyL_one (i := 8) (o := { dst := some 122, op := Op.call { callee := Callee.builtin Builtin.append, args := #[Operand.tmp 115, Operand.tmp 121], argTypes := #[24, 24] }, type := 24, pos := "l08_record.go:135", after := #[{ on := 1, ground := Ground.data }, { on := 7, ground := Ground.data }], guard := none }) (by kernel_rfl) rfl (fun K hK => ?_)
  refine step_append_own rfl (.tmp 115) (.tmp 121) 24 rfl w9.heap.size 32 i0 (.agg #[.int .i64 0, .int .i64 0, .slice none 0 0]) 3 40 Try.underlying24 hi hz0 hz1 hz2 rfl (by decide) _ _ _ rfl hOm ⟨gh, 0, none⟩ k ch (recVals (s.2.1.take k) (hs.take k)) rfl hn1 (hKm.held.cellsTake k) (recVals_oneCell _ _ hone1) hc3 hc4 hbm.size ?_
  intro vp wp hownp hgrowp hnnp
  simp only [Nat.zero_add, List.nil_append] at hownp
  obtain ⟨gp, cp, hvp⟩ := rowR_shape hownp (fun e => by have := (hnnp.1 e).1; cases this)
  subst hvp
  have hgp : (w9.drew.alloc (.cells #[] 32)).grownBy wp (some w9.heap.size) := hgrowp
  have hbp : Below w9.heap.size w9 wp := hbm.grown hgp hbm.size (fun j e => by cases e; exact Nat.le_refl _)
  have hKp := hK9.below hbp
  refine hK.out _ _ ?_ (fun hHeld => ?_)
  · exact hKp.box
  clear hK K hHeld0
  have hHeld0 := hHeld
  clear hHeld
  try simp only [Act.put, List.setIfInBounds_toArray, List.set_cons_zero, List.set_cons_succ]
  refine last.wpAnyL_one (i := 16) (o := { dst := some 130, op := Op.call { callee := Callee.builtin Builtin.append, args := #[Operand.tmp 122, Operand.tmp 129], argTypes := #[24, 24] }, type := 24, pos := "l08_record.go:135", after := #[{ on := 8, ground := Ground.data }, { on := 15, ground := Ground.data }, { on := 8, ground := Ground.chain }], guard := none }) (by kernel_rfl) rfl (fun K hK => ?_)
  refine step_append_own rfl (.tmp 122) (.tmp 129) 24 rfl w9.heap.size 32 i0 (.agg #[.int .i64 0, .int .i64 0, .slice none 0 0]) 3 40 Try.underlying24 hi hz0 hz1 hz2 rfl (by decide) _ _ _ rfl hownp ad (s.2.1.length - (k + 1)) (ch - (k + 1)) (recVals (s.2.1.drop (k + 1)) (hs.drop (k + 1))) rfl hn2 (HCD.out _ hKp.held) (recVals_oneCell _ _ hone2) hc5 hc6 hbp.size ?_
  intro vr wr hownr hgrowr hnnr
  obtain ⟨gr, cr, hvr⟩ := rowR_shape hownr (fun e => by have := (hnnr.1 e).1; cases this)
  subst hvr
  have hgr : wp.grownBy wr (some gp) := hgrowr
  have hbr : Below w9.heap.size w9 wr := hbp.grown hgr hbp.size (fun j e => by cases e; exact (hownp.lt gp rfl).1)
  have hKr := hK9.below hbr
  have hOR := OwnR.erase (l := s.2.1) (hs := hs) hK9.held hbr k hklt (g' := gr) (c' := cr) (n' := k + (s.2.1.length - (k + 1))) (by omega) (by
    have h9 := hownr
    rw [← recVals_append _ _ _ _ (by simp [hlh9])] at h9
    exact rowR_mono h9 hK9.bel.size)
  refine hK.out _ _ ?_ (fun hHeld => ?_)
  · exact hKr.box
  clear hK K hHeld0
  have hHeld0 := hHeld
  clear hHeld
  try simp only [Act.put, List.setIfInBounds_toArray, List.set_cons_zero, List.set_cons_succ]
  refine last.wpAnyL_one (i := 17) (o := { dst := some 131, op := Op.nilCheck (Operand.tmp 114), type := 0, pos := "l08_record.go:135", after := #[{ on := 0, ground := Ground.data }, { on := 0, ground := Ground.phase }, { on := 1, ground := Ground.phase }, { on := 2, ground := Ground.phase }, { on := 3, ground := Ground.phase }, { on := 4, ground := Ground.phase }, { on := 5, ground := Ground.phase }, { on := 6, ground := Ground.phase }, { on := 7, ground := Ground.phase }, { on := 8, ground := Ground.phase }, { on := 9, ground := Ground.phase }, { on := 10, ground := Ground.phase }, { on := 11, ground := Ground.phase }, { on := 12, ground := Ground.phase }, { on := 13, ground := Ground.phase }, { on := 14, ground := Ground.phase }, { on := 15, ground := Ground.phase }, { on := 16, ground := Ground.phase }], guard := none }) (by kernel_rfl) rfl (fun K hK => ?_)
  go_simp
  refine hK.out _ _ ?_ (fun hHeld => ?_)
  · exact hHeld0
  clear hK K hHeld0
  have hHeld0 := hHeld
  clear hHeld
  try simp only [Act.put, List.setIfInBounds_toArray, List.set_cons_zero, List.set_cons_succ]
  refine last.wpAnyL_take (i := 18) (v := (.pointer (some ⟨X, 1, none⟩))) rfl rfl (by kernel_rfl) (by kernel_rfl) (by kernel_rfl) (by kernel_rfl) (fun _ _ _ h => h) (Or.inl ⟨by rfl, ?_⟩) (by assumption) ?_
  · intro wq hSq; go_simp
  try simp only [Act.put, List.setIfInBounds_toArray, List.set_cons_zero, List.set_cons_succ]
  have er := hKr.box.cells.2.1
  have fr := hKr.box.fz 1
  refine last.wpAnyL_last (o := { dst := none, op := Op.store 24 (Operand.tmp 132) (Operand.tmp 130), type := 0, pos := "l08_record.go:135", after := #[{ on := 18, ground := Ground.data }, { on := 16, ground := Ground.data }, { on := 16, ground := Ground.chain }, { on := 0, ground := Ground.phase }, { on := 1, ground := Ground.phase }, { on := 2, ground := Ground.phase }, { on := 3, ground := Ground.phase }, { on := 4, ground := Ground.phase }, { on := 5, ground := Ground.phase }, { on := 6, ground := Ground.phase }, { on := 7, ground := Ground.phase }, { on := 8, ground := Ground.phase }, { on := 9, ground := Ground.phase }, { on := 10, ground := Ground.phase }, { on := 11, ground := Ground.phase }, { on := 12, ground := Ground.phase }, { on := 13, ground := Ground.phase }, { on := 14, ground := Ground.phase }, { on := 15, ground := Ground.phase }, { on := 16, ground := Ground.phase }], guard := none }) (by kernel_rfl) rfl (by kernel_rfl) (fun K hK => ?_)
  go_simp
  refine hK.out _ _ ?_
  clear hK K
  have hKc := hKr.cut hOR
  have hlc : (s.2.1.take k ++ s.2.1.drop (k + 1)).length = k + (s.2.1.length - (k + 1)) := by simp; omega
  rw [hlc] at hKc
  generalize hWc : wr.setCell ⟨X, 1, none⟩ (.slice (some ⟨gr, 0, none⟩) (k + (s.2.1.length - (k + 1))) cr) = wz at *
  clear hWc hOR hownr hownp hgr hgp hgrowp hgrowr hnnp hnnr er fr hHeld0 hOm
  have hKc' : Kept w0 wz X g6 n6 c6 gr cr (.slice sa s.2.2.length sc) (applyAll s.1 (opsAt s.2.1 k), s.2.1.take k ++ s.2.1.drop (k + 1), s.2.2) (hs.take k ++ hs.drop (k + 1)) := hKc
  have hnm : (applyAll s.1 (opsAt s.2.1 k)).length = n6 := hKc.m.1
  obtain ⟨u0, _, _⟩ := hKc.box.cells
  have h60 : ¬ (n6 : Int) ≤ 60 := by omega
  go_wp2_with fail
  go_ret
  exact ⟨rfl, hKc'.bel⟩
end Go.Proofs.Ytooiinicnkhlbaa.recs
