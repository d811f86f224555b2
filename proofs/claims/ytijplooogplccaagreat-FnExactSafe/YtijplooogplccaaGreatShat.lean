/- RecZj -/
import Derived.Test.YtijplooogplccaaGreatShas
set_option linter.unusedVariables false
set_option linter.unusedSimpArgs false
namespace Go.Proofs.YtijplooogplccaaGreat
namespace stepc
open Go Go.RowKit
theorem step_call2 {P : Program} {ops : Array Oper} {o : Oper} {a : Act} {w : World} {K : Act → World → Prop} {Q : Exit → Act → World → Prop} {E : Prop} (hgd : o.guard = none) (f : FuncId) (x y : Operand) (ts : Array TypeId)
 (ho : o.op = .call { callee := .value (.func f), args := #[x, y], argTypes := ts }) (hent : ∀ args w, (callFunc f args).run P w = .ok (.enter f args) w)
 (v1 v2 : Value) (h1 : a.eval x = v1) (h2 : a.eval y = v2) (R : Ending → World → Prop) (hc : Calls P f #[v1, v2] w R)
 (h : ∀ e w', R e w' → ∃ v, e = .returned v ∧ K (a.put o.dst v) w') :
 if Region.wanted o (yielded ops a.tmps) = true then Oper.wp P o a w K Q else E := by
 have hw : Region.wanted o (yielded ops a.tmps) = true := by simp [Region.wanted, hgd]
 rw [if_pos hw]
 unfold Oper.wp execOp
 have hf : a.eval (.func f) = .func (.func f) #[] #[] := rfl
 have hof : (Deferred.ofValue (Value.func (Fn.func f) #[] #[]) #[v1, v2]).run P w = .ok { target := .fn (.func f) #[], args := #[v1, v2] } w := rfl
 simp only [ho, resolve, invoke, Sem.run_bind, List.map_toArray, List.map_cons, List.map_nil, h1, h2, hf, hof, Result.andThen_ok, hent]
 show Calls P f #[v1, v2] w _
 exact hc.mono (fun e w' he => by obtain ⟨v, rfl, hr⟩ := h e w' he; exact hr)
end stepc
namespace recs
open Go Go.RowKit base pairs ords
set_option maxRecDepth 100000 in
set_option maxHeartbeats 4000000 in
theorem one_done (N : Prop) (w0 : World) (F0 : List Nat) (w : World) (X : Nat) (am : Option Addr) (nm cm : Nat) (ah : Option Addr) (ch : Nat) (vs : Value) (s : St) (hs : List Value) (tx : Int) (a : Option Addr) (len cap : Nat) (ops : List Od)
 (hK : Kept N w0 F0 w X am nm cm ah ch vs s hs) (hSo : SlO w a len ops) (hks : ∀ p ∈ ops, p.2.1.size ≤ 1099511627776) (hok : recOk (2, tx, ops) = true) (k : Nat) (hlh : s.2.1.length ≤ 1099511627776) (hpl : placeTx tx s.2.1 = some k) (hfew : s.1.length ≤ 60) (h8 : (opsAt s.2.1 k).length ≤ 8) (h60 : (applyAll s.1 (opsAt s.2.1 k)).length ≤ 60) :
 Calls Tryz.prog 85 #[.pointer (some ⟨X, 0, none⟩), .agg #[.int .i64 2, .int .i64 tx, .slice a len cap]] w (OnePost N w0 F0 X (some (applyAll s.1 (opsAt s.2.1 k), s.2.1.take k ++ s.2.1.drop (k + 1), s.2.2))) := by
 obtain ⟨i0, hi, hz0, hz1, hz2⟩ := info_parts infoRW
 have hklt := placeTx_lt hpl
 obtain ⟨gh, rfl⟩ : ∃ gh, ah = some ⟨gh, 0, none⟩ := by
  rcases hK.held.shape with ⟨_, e, _⟩ | ⟨g, c, e, _⟩
  · rw [e] at hklt; cases hklt
  · cases e; exact ⟨g, rfl⟩
 have hlh9 := hK.held.len
 have hrm := hK.held.room
 have hk1 : k + 1 ≤ s.2.1.length := hklt
 have hn1 : (recVals (s.2.1.take k) (hs.take k)).length = k * 3 := by rw [recVals_length _ _ (by simp [hlh9])]; simp; omega
 have hn2 : (recVals (s.2.1.drop (k + 1)) (hs.drop (k + 1))).length = (s.2.1.length - (k + 1)) * 3 := by rw [recVals_length _ _ (by simp [hlh9])]; simp
 have hone1 : ∀ y ∈ hs.take k, y.oneCell' = true := fun y hy => hK.held.one y (List.mem_of_mem_take hy)
 have hone2 : ∀ y ∈ hs.drop (k + 1), y.oneCell' = true := fun y hy => hK.held.one y (List.mem_of_mem_drop hy)
 have hc3 : 0 + k ≤ maxLen := by unfold maxLen; omega
 have hc4 : (0 + k) * 40 ≤ 140737488355328 := by omega
 have hc5 : k + (s.2.1.length - (k + 1)) ≤ maxLen := by unfold maxLen; omega
 have hc6 : (k + (s.2.1.length - (k + 1))) * 40 ≤ 140737488355328 := by omega
 have hmx : maxLen = 9223372036854775807 := rfl
 obtain ⟨ad, had⟩ : ∃ ad : Addr, (if ch = k + 1 then some (⟨gh, 0, none⟩ : Addr) else some ⟨gh, (k + 1) * 3, none⟩) = some ad := by split <;> exact ⟨_, rfl⟩
 have HCD : Hid (∀ wq : World, OwnR wq 0 (.slice (some ⟨gh, 0, none⟩) s.2.1.length ch) s.2.1 hs → ∀ j u, (recVals (s.2.1.drop (k + 1)) (hs.drop (k + 1)))[j]? = some u → wq.cell? (ad.add j) = some u) := by
  intro wq hq j u hu
  split at had
  · have : s.2.1.drop (k + 1) = [] := List.drop_eq_nil_of_le (by omega)
    rw [this] at hu
    simp [recVals] at hu
  · cases had
    exact hq.cellsDrop (k + 1) hk1 j u hu
 have HAD := Hid.mk' had
 clear had
 have hki : (k : Int) < (s.2.1.length : Int) := by omega
 have hk0 : ¬ (k : Int) < 0 := by omega
 obtain ⟨pa, pc, hpe, hps, _⟩ := (hK.held.ops k hklt).sl
 have HQC : Hid (∀ wq : World, OwnR wq 0 (.slice (some ⟨gh, 0, none⟩) s.2.1.length ch) s.2.1 hs → wq.cell? ⟨gh, k * 3 + 2, none⟩ = some (.slice pa (opsAt s.2.1 k).length pc)) := fun wq hq => by
  rw [opsAt_eq hklt, (hq.at k hklt).2.2, hpe]
 have HQS : Hid (∀ wq : World, Below w.heap.size w wq → SlO wq pa (opsAt s.2.1 k).length (opsAt s.2.1 k)) := fun wq hb => by rw [opsAt_eq hklt]; exact hps.below hb
 clear hpe hps
 obtain ⟨sa, sc, hvs, hSz⟩ := hK.seen.sl
 subst hvs
 obtain ⟨V, hV⟩ : ∃ V, V = w.alloc (.cells #[.int .i64 2, .int .i64 tx, .slice a len cap] 133) := ⟨_, rfl⟩
 have hbV : Below w.heap.size w V := by rw [hV]; exact (Below.refl _ _).alloc (Nat.le_refl _) _
 have hbx : BoxR w.heap.size 2 tx (.slice a len cap) V := by rw [hV]; exact boxR_new _ _ _ _
 have hKV := hK.below hbV
 have hXl := hKV.box.lt
 have hRl := hbx.lt
 have y1 := last.On.cell (B := V.heap.size) hKV.box.cells.2.1 hXl
 have y2 := last.On.cell (B := V.heap.size) hbx.cells.2.1 hRl
 have hAt : ∀ x9 : last.On V.heap.size V, Calls Tryz.prog 123 #[.slice (some ⟨gh, 0, none⟩) s.2.1.length ch, .int .i64 tx] x9.w fun e w' => e = .returned (.int .i64 (atRet (placeTx tx s.2.1))) ∧ ∃ y9 : last.On V.heap.size V, w' = y9.w := fun x9 => last.Calls.on x9 (Nat.le_refl _) ((spec_l8At _ _ ch s.2.1 tx x9.w (hKV.held.below x9.2).sl).mono (fun e w' h => ⟨h.1, h.2 ▸ Below.refl _ _⟩))
 have hinh := last.On.inh V.heap.size V
 have HV := Hid.mk' hV.symm
 clear hV
 rw [hpl, show atRet (some k) = (k : Int) from rfl] at hAt
 go_enter Tryz.func85, Tryz.ntmps85
 go_wp2_with fail
 rw [HV.out]
 refine last.wp_region_on V.heap.size (by kernel_rfl) (by kernel_rfl) ?_
 repeat (go_big_quiet_step ((go_at_call 123; with_reducible exact hAt _)))
 refine wpQuiet_nil ?_
 intro w1 hw1
 obtain ⟨x1, hw1⟩ := hw1
 have hb1 : Below V.heap.size V w1 := by rw [hw1]; exact x1.2
 clear hw1 x1
 have hbx1 := hbx.below hb1
 have hK1 := hKV.below hb1
 have HOK := Hid.mk' (spec_recOk 2 tx a len cap ops w1 ((hSo.below hbV).below hb1) hks)
 obtain ⟨d0, d1, d2⟩ := hbx1.cells
 clear y1 y2 hAt hinh
 go_wp2_with fail
 refine HOK.out.mono ?_
 rintro e w2 ⟨rfl, hb2⟩
 rw [hok]
 have hK2 := hK1.below hb2
 have hbx2 := hbx1.below hb2
 have hSo2 := ((hSo.below hbV).below hb1).below hb2
 have hSz2 := ((hSz.below hbV).below hb1).below hb2
 clear d0 d1 d2 HOK HV hbx1 hbx hKV hXl hRl
 obtain ⟨d0, d1, d2⟩ := hbx2.cells
 have hd2 : Below w2.heap.size w2 w2.drew := (Below.refl _ _).drew
 have hKd := hK2.below hd2
 have hqd := HQC.out _ hKd.held
 have HAP := Hid.mk' (spec_applyV am nm cm s.1 pa (opsAt s.2.1 k).length pc (opsAt s.2.1 k) w2.drew hKd.m.sl hKd.m.spot (HQS.out _ (((hbV.trans (hb1.mono hbV.size)).trans (hb2.mono (Nat.le_trans hbV.size hb1.size))).trans (hd2.mono (Nat.le_trans hbV.size (Nat.le_trans hb1.size hb2.size))))) (by have := hKd.m.1; omega))
 go_wp2_with fail
 refine last.wp_region_later (S := fun w' => BoxS X (.slice am nm cm) (.slice (some ⟨gh, 0, none⟩) s.2.1.length ch) (.slice sa s.2.2.length sc) w' ∧ w'.cell? ⟨gh, k * 3 + 2, none⟩ = some (.slice pa (opsAt s.2.1 k).length pc)) 16 (by kernel_rfl) ⟨hKd.box, hqd⟩ (fun hHeld0 => ?_)
 refine last.wpAnyL_take (i := 0) (v := (.pointer (some ⟨X, 0, none⟩))) rfl rfl (by kernel_rfl) (by kernel_rfl) (by kernel_rfl) (by kernel_rfl) (fun _ _ _ h => h) (Or.inl ⟨by rfl, ?_⟩) (by assumption) ?_
 · intro wq hSq; go_simp
 try simp only [Act.put, List.setIfInBounds_toArray, List.set_cons_zero, List.set_cons_succ]
 refine last.wpAnyL_take (i := 1) (v := (.pointer (some ⟨X, 0, none⟩))) rfl rfl (by kernel_rfl) (by kernel_rfl) (by kernel_rfl) (by kernel_rfl) (fun _ _ _ h => h) (Or.inl ⟨by rfl, ?_⟩) (by assumption) ?_
 · intro wq hSq; go_simp
 try simp only [Act.put, List.setIfInBounds_toArray, List.set_cons_zero, List.set_cons_succ]
 refine last.wpAnyL_take (i := 2) (v := (.pointer (some ⟨X, 0, none⟩))) rfl rfl (by kernel_rfl) (by kernel_rfl) (by kernel_rfl) (by kernel_rfl) (fun _ _ _ h => h) (Or.inl ⟨by rfl, ?_⟩) (by assumption) ?_
 · intro wq hSq; go_simp
 try simp only [Act.put, List.setIfInBounds_toArray, List.set_cons_zero, List.set_cons_succ]
 refine last.wpAnyL_take (i := 3) (v := (.pointer (some ⟨X, 0, none⟩))) rfl rfl (by kernel_rfl) (by kernel_rfl) (by kernel_rfl) (by kernel_rfl) (fun _ _ _ h => h) (Or.inl ⟨by rfl, ?_⟩) (by assumption) ?_
 · intro wq hSq; go_simp
 try simp only [Act.put, List.setIfInBounds_toArray, List.set_cons_zero, List.set_cons_succ]
 refine last.wpAnyL_take (i := 4) (v := (.slice am nm cm)) rfl rfl (by kernel_rfl) (by kernel_rfl) (by kernel_rfl) (by kernel_rfl) (fun _ _ _ h => h) (Or.inl ⟨by rfl, ?_⟩) (by assumption) ?_
 · intro wq hSq; have q := hSq.1.cells.1; go_simp
 try simp only [Act.put, List.setIfInBounds_toArray, List.set_cons_zero, List.set_cons_succ]
 refine last.wpAnyL_take (i := 5) (v := (.pointer (some ⟨X, 0, none⟩))) rfl rfl (by kernel_rfl) (by kernel_rfl) (by kernel_rfl) (by kernel_rfl) (fun _ _ _ h => h) (Or.inl ⟨by rfl, ?_⟩) (by assumption) ?_
 · intro wq hSq; go_simp
 try simp only [Act.put, List.setIfInBounds_toArray, List.set_cons_zero, List.set_cons_succ]
 refine last.wpAnyL_take (i := 6) (v := (.pointer (some ⟨X, 0, none⟩))) rfl rfl (by kernel_rfl) (by kernel_rfl) (by kernel_rfl) (by kernel_rfl) (fun _ _ _ h => h) (Or.inl ⟨by rfl, ?_⟩) (by assumption) ?_
 · intro wq hSq; go_simp
 try simp only [Act.put, List.setIfInBounds_toArray, List.set_cons_zero, List.set_cons_succ]
 refine last.wpAnyL_take (i := 7) (v := (.pointer (some ⟨X, 1, none⟩))) rfl rfl (by kernel_rfl) (by kernel_rfl) (by kernel_rfl) (by kernel_rfl) (fun _ _ _ h => h) (Or.inl ⟨by rfl, ?_⟩) (by assumption) ?_
 · intro wq hSq; go_simp
 try simp only [Act.put, List.setIfInBounds_toArray, List.set_cons_zero, List.set_cons_succ]
 refine last.wpAnyL_take (i := 8) (v := (.slice (some ⟨gh, 0, none⟩) s.2.1.length ch)) rfl rfl (by kernel_rfl) (by kernel_rfl) (by kernel_rfl) (by kernel_rfl) (fun _ _ _ h => h) (Or.inl ⟨by rfl, ?_⟩) (by assumption) ?_
 · intro wq hSq; have q := hSq.1.cells.2.1; go_simp
 try simp only [Act.put, List.setIfInBounds_toArray, List.set_cons_zero, List.set_cons_succ]
 refine last.wpAnyL_take (i := 9) (v := (.int .i64 (k : Int))) rfl rfl (by kernel_rfl) (by kernel_rfl) (by kernel_rfl) (by kernel_rfl) (fun _ _ _ h => h) (Or.inl ⟨by rfl, ?_⟩) (by assumption) ?_
 · intro wq hSq; go_simp
 try simp only [Act.put, List.setIfInBounds_toArray, List.set_cons_zero, List.set_cons_succ]
 refine last.wpAnyL_take (i := 10) (v := (.pointer (some ⟨gh, k * 3, none⟩))) rfl rfl (by kernel_rfl) (by kernel_rfl) (by kernel_rfl) (by kernel_rfl) (fun _ _ _ h => h) (Or.inl ⟨by rfl, ?_⟩) (by assumption) ?_
 · intro wq hSq; go_simp
 try simp only [Act.put, List.setIfInBounds_toArray, List.set_cons_zero, List.set_cons_succ]
 refine last.wpAnyL_take (i := 11) (v := (.pointer (some ⟨gh, k * 3 + 2, none⟩))) rfl rfl (by kernel_rfl) (by kernel_rfl) (by kernel_rfl) (by kernel_rfl) (fun _ _ _ h => h) (Or.inl ⟨by rfl, ?_⟩) (by assumption) ?_
 · intro wq hSq; go_simp
 try simp only [Act.put, List.setIfInBounds_toArray, List.set_cons_zero, List.set_cons_succ]
 refine last.wpAnyL_take (i := 12) (v := (.slice pa (opsAt s.2.1 k).length pc)) rfl rfl (by kernel_rfl) (by kernel_rfl) (by kernel_rfl) (by kernel_rfl) (fun _ _ _ h => h) (Or.inl ⟨by rfl, ?_⟩) (by assumption) ?_
 · intro wq hSq; have q := hSq.2; go_simp
 try simp only [Act.put, List.setIfInBounds_toArray, List.set_cons_zero, List.set_cons_succ]
 refine last.wpAnyL_one (i := 13) (o := { dst := some 111, op := Op.call { callee := Callee.value (Operand.func 128), args := #[Operand.tmp 102, Operand.tmp 110], argTypes := #[53, 98] }, type := 53, pos := "l08_record.go:133", after := #[{ on := 4, ground := Ground.data }, { on := 12, ground := Ground.data }], guard := none }) (by kernel_rfl) rfl (fun K hK => ?_)
 refine stepc.step_call2 rfl 128 (.tmp 102) (.tmp 110) _ rfl (fun _ _ => rfl) (.slice am nm cm) (.slice pa (opsAt s.2.1 k).length pc) (by kernel_rfl) (by kernel_rfl) _ HAP.out ?_
 rintro e w6 ⟨g6, n6, c6, rfl, hO6, hb6⟩
 refine ⟨_, rfl, ?_⟩
 have hK6 := hKd.below hb6
 have hq6 := HQC.out _ hK6.held
 refine hK.out _ _ ?_ (fun hHeld => ?_)
 · exact ⟨hK6.box, hq6⟩
 clear hK K hHeld0
 have hHeld0 := hHeld
 clear hHeld
 try simp only [Act.put, List.setIfInBounds_toArray, List.set_cons_zero, List.set_cons_succ]
 refine last.wpAnyL_one (i := 14) (o := { dst := some 112, op := Op.nilCheck (Operand.tmp 98), type := 0, pos := "l08_record.go:133", after := #[{ on := 0, ground := Ground.data }, { on := 0, ground := Ground.phase }, { on := 1, ground := Ground.phase }, { on := 2, ground := Ground.phase }, { on := 3, ground := Ground.phase }, { on := 4, ground := Ground.phase }, { on := 5, ground := Ground.phase }, { on := 6, ground := Ground.phase }, { on := 7, ground := Ground.phase }, { on := 8, ground := Ground.phase }, { on := 9, ground := Ground.phase }, { on := 10, ground := Ground.phase }, { on := 11, ground := Ground.phase }, { on := 12, ground := Ground.phase }, { on := 13, ground := Ground.phase }], guard := none }) (by kernel_rfl) rfl (fun K hK => ?_)
 go_simp
 refine hK.out _ _ ?_ (fun hHeld => ?_)
 · exact hHeld0
 clear hK K hHeld0
 have hHeld0 := hHeld
 clear hHeld
 try simp only [Act.put, List.setIfInBounds_toArray, List.set_cons_zero, List.set_cons_succ]
 refine last.wpAnyL_take (i := 15) (v := (.pointer (some ⟨X, 0, none⟩))) rfl rfl (by kernel_rfl) (by kernel_rfl) (by kernel_rfl) (by kernel_rfl) (fun _ _ _ h => h) (Or.inl ⟨by rfl, ?_⟩) (by assumption) ?_
 · intro wq hSq; go_simp
 try simp only [Act.put, List.setIfInBounds_toArray, List.set_cons_zero, List.set_cons_succ]
 have e6 := hK6.box.cells.1
 have f6 := hK6.box.fz 0
 refine last.wpAnyL_last (o := { dst := none, op := Op.store 53 (Operand.tmp 113) (Operand.tmp 111), type := 0, pos := "l08_record.go:133", after := #[{ on := 15, ground := Ground.data }, { on := 13, ground := Ground.data }, { on := 13, ground := Ground.chain }, { on := 0, ground := Ground.phase }, { on := 1, ground := Ground.phase }, { on := 2, ground := Ground.phase }, { on := 3, ground := Ground.phase }, { on := 4, ground := Ground.phase }, { on := 5, ground := Ground.phase }, { on := 6, ground := Ground.phase }, { on := 7, ground := Ground.phase }, { on := 8, ground := Ground.phase }, { on := 9, ground := Ground.phase }, { on := 10, ground := Ground.phase }, { on := 11, ground := Ground.phase }, { on := 12, ground := Ground.phase }, { on := 13, ground := Ground.phase }], guard := none }) (by kernel_rfl) rfl (by kernel_rfl) (fun K hK => ?_)
 go_simp
 refine hK.out _ _ ?_
 clear hK K
 have hK9 := hK6.pairs (hO6.mono hKd.fr.size)
 generalize hW9 : w6.setCell ⟨X, 0, none⟩ (.slice (some ⟨g6, 0, none⟩) n6 c6) = w9 at *
 clear hW9 hq6 hqd e6 f6 hHeld0 hO6 hb6 HAP HQS HQC hd2 hKd hK6 d0 d1 d2
 have hdc : Below w9.heap.size w9 w9.drew := (Below.refl _ _).drew
 go_wp2_with fail
 refine last.wp_region_later (S := fun w' => BoxS X (.slice (some ⟨g6, 0, none⟩) n6 c6) (.slice (some ⟨gh, 0, none⟩) s.2.1.length ch) (.slice sa s.2.2.length sc) w') 19 (by kernel_rfl) (hK9.box.below hdc) (fun hHeld0 => ?_)
 refine last.wpAnyL_take (i := 0) (v := (.pointer (some ⟨X, 0, none⟩))) rfl rfl (by kernel_rfl) (by kernel_rfl) (by kernel_rfl) (by kernel_rfl) (fun _ _ _ h => h) (Or.inl ⟨by rfl, ?_⟩) (by assumption) ?_
 · intro wq hSq; go_simp
 try simp only [Act.put, List.setIfInBounds_toArray, List.set_cons_zero, List.set_cons_succ]
 refine last.wpAnyL_take (i := 2) (v := (.pointer (some ⟨X, 0, none⟩))) rfl rfl (by kernel_rfl) (by kernel_rfl) (by kernel_rfl) (by kernel_rfl) (fun _ _ _ h => h) (Or.inl ⟨by rfl, ?_⟩) (by assumption) ?_
 · intro wq hSq; go_simp
 try simp only [Act.put, List.setIfInBounds_toArray, List.set_cons_zero, List.set_cons_succ]
 refine last.wpAnyL_take (i := 3) (v := (.pointer (some ⟨X, 0, none⟩))) rfl rfl (by kernel_rfl) (by kernel_rfl) (by kernel_rfl) (by kernel_rfl) (fun _ _ _ h => h) (Or.inl ⟨by rfl, ?_⟩) (by assumption) ?_
 · intro wq hSq; go_simp
 try simp only [Act.put, List.setIfInBounds_toArray, List.set_cons_zero, List.set_cons_succ]
 refine last.wpAnyL_take (i := 4) (v := (.pointer (some ⟨X, 1, none⟩))) rfl rfl (by kernel_rfl) (by kernel_rfl) (by kernel_rfl) (by kernel_rfl) (fun _ _ _ h => h) (Or.inl ⟨by rfl, ?_⟩) (by assumption) ?_
 · intro wq hSq; go_simp
 try simp only [Act.put, List.setIfInBounds_toArray, List.set_cons_zero, List.set_cons_succ]
 refine last.wpAnyL_take (i := 5) (v := (.slice (some ⟨gh, 0, none⟩) s.2.1.length ch)) rfl rfl (by kernel_rfl) (by kernel_rfl) (by kernel_rfl) (by kernel_rfl) (fun _ _ _ h => h) (Or.inl ⟨by rfl, ?_⟩) (by assumption) ?_
 · intro wq hSq; have q := hSq.cells.2.1; go_simp
 try simp only [Act.put, List.setIfInBounds_toArray, List.set_cons_zero, List.set_cons_succ]
 refine last.wpAnyL_take (i := 6) (v := (.int .i64 (k : Int))) rfl rfl (by kernel_rfl) (by kernel_rfl) (by kernel_rfl) (by kernel_rfl) (fun _ _ _ h => h) (Or.inl ⟨by rfl, ?_⟩) (by assumption) ?_
 · intro wq hSq; go_simp
 try simp only [Act.put, List.setIfInBounds_toArray, List.set_cons_zero, List.set_cons_succ]
 refine last.wpAnyL_take (i := 7) (v := (.slice (some ⟨gh, 0, none⟩) k ch)) rfl rfl (by kernel_rfl) (by kernel_rfl) (by kernel_rfl) (by kernel_rfl) (fun _ _ _ h => h) (Or.inl ⟨by rfl, ?_⟩) (by assumption) ?_
 · intro wq hSq; go_simp; exact fun h => absurd h (by omega)
 try simp only [Act.put, List.setIfInBounds_toArray, List.set_cons_zero, List.set_cons_succ]
 refine last.wpAnyL_take (i := 9) (v := (.pointer (some ⟨X, 0, none⟩))) rfl rfl (by kernel_rfl) (by kernel_rfl) (by kernel_rfl) (by kernel_rfl) (fun _ _ _ h => h) (Or.inl ⟨by rfl, ?_⟩) (by assumption) ?_
 · intro wq hSq; go_simp
 try simp only [Act.put, List.setIfInBounds_toArray, List.set_cons_zero, List.set_cons_succ]
 refine last.wpAnyL_take (i := 10) (v := (.pointer (some ⟨X, 0, none⟩))) rfl rfl (by kernel_rfl) (by kernel_rfl) (by kernel_rfl) (by kernel_rfl) (fun _ _ _ h => h) (Or.inl ⟨by rfl, ?_⟩) (by assumption) ?_
 · intro wq hSq; go_simp
 try simp only [Act.put, List.setIfInBounds_toArray, List.set_cons_zero, List.set_cons_succ]
 refine last.wpAnyL_take (i := 11) (v := (.pointer (some ⟨X, 1, none⟩))) rfl rfl (by kernel_rfl) (by kernel_rfl) (by kernel_rfl) (by kernel_rfl) (fun _ _ _ h => h) (Or.inl ⟨by rfl, ?_⟩) (by assumption) ?_
 · intro wq hSq; go_simp
 try simp only [Act.put, List.setIfInBounds_toArray, List.set_cons_zero, List.set_cons_succ]
 refine last.wpAnyL_take (i := 12) (v := (.slice (some ⟨gh, 0, none⟩) s.2.1.length ch)) rfl rfl (by kernel_rfl) (by kernel_rfl) (by kernel_rfl) (by kernel_rfl) (fun _ _ _ h => h) (Or.inl ⟨by rfl, ?_⟩) (by assumption) ?_
 · intro wq hSq; have q := hSq.cells.2.1; go_simp
 try simp only [Act.put, List.setIfInBounds_toArray, List.set_cons_zero, List.set_cons_succ]
 refine last.wpAnyL_take (i := 13) (v := (.int .i64 (k : Int))) rfl rfl (by kernel_rfl) (by kernel_rfl) (by kernel_rfl) (by kernel_rfl) (fun _ _ _ h => h) (Or.inl ⟨by rfl, ?_⟩) (by assumption) ?_
 · intro wq hSq; go_simp
 try simp only [Act.put, List.setIfInBounds_toArray, List.set_cons_zero, List.set_cons_succ]
 refine last.wpAnyL_take (i := 14) (v := (.int .i64 ((k : Int) + 1))) rfl rfl (by kernel_rfl) (by kernel_rfl) (by kernel_rfl) (by kernel_rfl) (fun _ _ _ h => h) (Or.inl ⟨by rfl, ?_⟩) (by assumption) ?_
 · intro wq hSq; go_simp; rw [IntKind.wrap_i64]; omega
 try simp only [Act.put, List.setIfInBounds_toArray, List.set_cons_zero, List.set_cons_succ]
 refine last.wpAnyL_take (i := 15) (v := (.slice (some ad) (s.2.1.length - (k + 1)) (ch - (k + 1)))) rfl rfl (by kernel_rfl) (by kernel_rfl) (by kernel_rfl) (by kernel_rfl) (fun _ _ _ h => h) (Or.inl ⟨by rfl, ?_⟩) (by assumption) ?_
 · intro wq hSq; go_simp; rw [if_pos ⟨by omega, by omega⟩, HAD.out]
 try simp only [Act.put, List.setIfInBounds_toArray, List.set_cons_zero, List.set_cons_succ]
 refine last.wpAnyL_one (i := 1) (o := { dst := some 115, op := Op.buildSlice 52 0 #[], type := 52, pos := "l08_record.go:135", after := #[], guard := none }) (by kernel_rfl) rfl (fun K hK => ?_)
 go_simp
 have hbm : Below w9.heap.size w9 (w9.drew.alloc (.cells #[] 133)) := hdc.alloc hdc.size _
 have hKm := hK9.below hbm
 have hOm : (w9.drew.alloc (.cells #[] 133)).ownsRow w9.heap.size 133 3 (.slice (some ⟨w9.heap.size, 0, none⟩) 0 0) 0 [] := World.ownsRow_made w9.drew #[] 0 (Nat.le_refl _) (Nat.zero_le _) rfl
 refine hK.out _ _ ?_ (fun hHeld => ?_)
 · exact hKm.box
 clear hK K hHeld0
 have hHeld0 := hHeld
 clear hHeld
 try simp only [Act.put, List.setIfInBounds_toArray, List.set_cons_zero, List.set_cons_succ]
 refine last.wpAnyL_one (i := 8) (o := { dst := some 122, op := Op.call { callee := Callee.builtin Builtin.append, args := #[Operand.tmp 115, Operand.tmp 121], argTypes := #[52, 52] }, type := 52, pos := "l08_record.go:135", after := #[{ on := 1, ground := Ground.data }, { on := 7, ground := Ground.data }], guard := none }) (by kernel_rfl) rfl (fun K hK => ?_)
 refine step_append_own rfl (.tmp 115) (.tmp 121) 52 rfl w9.heap.size 133 i0 (.agg #[.int .i64 0, .int .i64 0, .slice none 0 0]) 3 40 Tryz.underlying52 hi hz0 hz1 hz2 rfl (by decide) _ _ _ rfl hOm ⟨gh, 0, none⟩ k ch (recVals (s.2.1.take k) (hs.take k)) rfl hn1 (hKm.held.cellsTake k) (recVals_oneCell _ _ hone1) hc3 hc4 hbm.size ?_
 intro vp wp hownp hgrowp hnnp
 simp only [Nat.zero_add, List.nil_append] at hownp
 obtain ⟨gp, cp, hvp⟩ := rowR_shape hownp (fun e => by have := (hnnp.1 e).1; cases this)
 subst hvp
 have hgp : (w9.drew.alloc (.cells #[] 133)).grownBy wp (some w9.heap.size) := hgrowp
 have hbp : Below w9.heap.size w9 wp := hbm.grown hgp hbm.size (fun j e => by cases e; exact Nat.le_refl _)
 have hKp := hK9.below hbp
 refine hK.out _ _ ?_ (fun hHeld => ?_)
 · exact hKp.box
 clear hK K hHeld0
 have hHeld0 := hHeld
 clear hHeld
 try simp only [Act.put, List.setIfInBounds_toArray, List.set_cons_zero, List.set_cons_succ]
 refine last.wpAnyL_one (i := 16) (o := { dst := some 130, op := Op.call { callee := Callee.builtin Builtin.append, args := #[Operand.tmp 122, Operand.tmp 129], argTypes := #[52, 52] }, type := 52, pos := "l08_record.go:135", after := #[{ on := 8, ground := Ground.data }, { on := 15, ground := Ground.data }, { on := 8, ground := Ground.chain }], guard := none }) (by kernel_rfl) rfl (fun K hK => ?_)
 refine step_append_own rfl (.tmp 122) (.tmp 129) 52 rfl w9.heap.size 133 i0 (.agg #[.int .i64 0, .int .i64 0, .slice none 0 0]) 3 40 Tryz.underlying52 hi hz0 hz1 hz2 rfl (by decide) _ _ _ rfl hownp ad (s.2.1.length - (k + 1)) (ch - (k + 1)) (recVals (s.2.1.drop (k + 1)) (hs.drop (k + 1))) rfl hn2 (HCD.out _ hKp.held) (recVals_oneCell _ _ hone2) hc5 hc6 hbp.size ?_
 intro vr wr hownr hgrowr hnnr
 obtain ⟨gr, cr, hvr⟩ := rowR_shape hownr (fun e => by have := (hnnr.1 e).1; cases this)
 subst hvr
 have hgr : wp.grownBy wr (some gp) := hgrowr
 have hbr : Below w9.heap.size w9 wr := hbp.grown hgr hbp.size (fun j e => by cases e; exact (hownp.lt gp rfl).1)
 have hKr := hK9.below hbr
 have hOR := OwnR.erase (l := s.2.1) (hs := hs) hK9.held hbr k hklt (g' := gr) (c' := cr) (n' := k + (s.2.1.length - (k + 1))) (by omega) (by
  have h9 := hownr
  rw [← recVals_append _ _ _ _ (by simp [hlh9])] at h9
  exact rowR_mono h9 (Nat.zero_le _))
 refine hK.out _ _ ?_ (fun hHeld => ?_)
 · exact hKr.box
 clear hK K hHeld0
 have hHeld0 := hHeld
 clear hHeld
 try simp only [Act.put, List.setIfInBounds_toArray, List.set_cons_zero, List.set_cons_succ]
 refine last.wpAnyL_one (i := 17) (o := { dst := some 131, op := Op.nilCheck (Operand.tmp 114), type := 0, pos := "l08_record.go:135", after := #[{ on := 0, ground := Ground.data }, { on := 0, ground := Ground.phase }, { on := 1, ground := Ground.phase }, { on := 2, ground := Ground.phase }, { on := 3, ground := Ground.phase }, { on := 4, ground := Ground.phase }, { on := 5, ground := Ground.phase }, { on := 6, ground := Ground.phase }, { on := 7, ground := Ground.phase }, { on := 8, ground := Ground.phase }, { on := 9, ground := Ground.phase }, { on := 10, ground := Ground.phase }, { on := 11, ground := Ground.phase }, { on := 12, ground := Ground.phase }, { on := 13, ground := Ground.phase }, { on := 14, ground := Ground.phase }, { on := 15, ground := Ground.phase }, { on := 16, ground := Ground.phase }], guard := none }) (by kernel_rfl) rfl (fun K hK => ?_)
 go_simp
 refine hK.out _ _ ?_ (fun hHeld => ?_)
 · exact hHeld0
 clear hK K hHeld0
 have hHeld0 := hHeld
 clear hHeld
 try simp only [Act.put, List.setIfInBounds_toArray, List.set_cons_zero, List.set_cons_succ]
 refine last.wpAnyL_take (i := 18) (v := (.pointer (some ⟨X, 1, none⟩))) rfl rfl (by kernel_rfl) (by kernel_rfl) (by kernel_rfl) (by kernel_rfl) (fun _ _ _ h => h) (Or.inl ⟨by rfl, ?_⟩) (by assumption) ?_
 · intro wq hSq; go_simp
 try simp only [Act.put, List.setIfInBounds_toArray, List.set_cons_zero, List.set_cons_succ]
 have er := hKr.box.cells.2.1
 have fr := hKr.box.fz 1
 refine last.wpAnyL_last (o := { dst := none, op := Op.store 52 (Operand.tmp 132) (Operand.tmp 130), type := 0, pos := "l08_record.go:135", after := #[{ on := 18, ground := Ground.data }, { on := 16, ground := Ground.data }, { on := 16, ground := Ground.chain }, { on := 0, ground := Ground.phase }, { on := 1, ground := Ground.phase }, { on := 2, ground := Ground.phase }, { on := 3, ground := Ground.phase }, { on := 4, ground := Ground.phase }, { on := 5, ground := Ground.phase }, { on := 6, ground := Ground.phase }, { on := 7, ground := Ground.phase }, { on := 8, ground := Ground.phase }, { on := 9, ground := Ground.phase }, { on := 10, ground := Ground.phase }, { on := 11, ground := Ground.phase }, { on := 12, ground := Ground.phase }, { on := 13, ground := Ground.phase }, { on := 14, ground := Ground.phase }, { on := 15, ground := Ground.phase }, { on := 16, ground := Ground.phase }], guard := none }) (by kernel_rfl) rfl (by kernel_rfl) (fun K hK => ?_)
 go_simp
 refine hK.out _ _ ?_
 clear hK K
 have hgrn : w0.heap.size ≤ gr := Nat.le_trans hK9.fr.size (hownr.lt gr rfl).1
 have hKc := hKr.cut hOR hgrn (fun y hy => by
  rcases List.mem_append.1 hy with e | e
  · exact List.mem_of_mem_take e
  · exact List.mem_of_mem_drop e)
 have hlc : (s.2.1.take k ++ s.2.1.drop (k + 1)).length = k + (s.2.1.length - (k + 1)) := by simp; omega
 rw [hlc] at hKc
 generalize hWc : wr.setCell ⟨X, 1, none⟩ (.slice (some ⟨gr, 0, none⟩) (k + (s.2.1.length - (k + 1))) cr) = wz at *
 clear hWc hOR hownr hownp hgr hgp hgrowp hgrowr hnnp hnnr er fr hHeld0 hOm
 have hKc' : Kept N w0 F0 wz X (some ⟨g6, 0, none⟩) n6 c6 (some ⟨gr, 0, none⟩) cr (.slice sa s.2.2.length sc) (applyAll s.1 (opsAt s.2.1 k), s.2.1.take k ++ s.2.1.drop (k + 1), s.2.2) (hs.take k ++ hs.drop (k + 1)) := hKc
 have hnm : (applyAll s.1 (opsAt s.2.1 k)).length = n6 := hKc.m.1
 obtain ⟨u0, _, _⟩ := hKc.box.cells
 have h60 : (n6 : Int) ≤ 60 := by omega
 go_wp2_with fail
 go_ret
 exact ⟨rfl, _, _, _, _, _, _, _, hKc'⟩
set_option maxRecDepth 100000 in
set_option maxHeartbeats 4000000 in
theorem one_over (N : Prop) (w0 : World) (F0 : List Nat) (w : World) (X : Nat) (am : Option Addr) (nm cm : Nat) (ah : Option Addr) (ch : Nat) (vs : Value) (s : St) (hs : List Value) (tx : Int) (a : Option Addr) (len cap : Nat) (ops : List Od)
 (hK : Kept N w0 F0 w X am nm cm ah ch vs s hs) (hSo : SlO w a len ops) (hks : ∀ p ∈ ops, p.2.1.size ≤ 1099511627776) (hok : recOk (2, tx, ops) = true) (k : Nat) (hlh : s.2.1.length ≤ 1099511627776) (hpl : placeTx tx s.2.1 = some k) (hfew : s.1.length ≤ 60) (h8 : (opsAt s.2.1 k).length ≤ 8) (h60 : 60 < (applyAll s.1 (opsAt s.2.1 k)).length) :
 Calls Tryz.prog 85 #[.pointer (some ⟨X, 0, none⟩), .agg #[.int .i64 2, .int .i64 tx, .slice a len cap]] w (OverPost N w0 F0 X (applyAll s.1 (opsAt s.2.1 k), s.2.1.take k ++ s.2.1.drop (k + 1), s.2.2)) := by
 obtain ⟨i0, hi, hz0, hz1, hz2⟩ := info_parts infoRW
 have hklt := placeTx_lt hpl
 obtain ⟨gh, rfl⟩ : ∃ gh, ah = some ⟨gh, 0, none⟩ := by
  rcases hK.held.shape with ⟨_, e, _⟩ | ⟨g, c, e, _⟩
  · rw [e] at hklt; cases hklt
  · cases e; exact ⟨g, rfl⟩
 have hlh9 := hK.held.len
 have hrm := hK.held.room
 have hk1 : k + 1 ≤ s.2.1.length := hklt
 have hn1 : (recVals (s.2.1.take k) (hs.take k)).length = k * 3 := by rw [recVals_length _ _ (by simp [hlh9])]; simp; omega
 have hn2 : (recVals (s.2.1.drop (k + 1)) (hs.drop (k + 1))).length = (s.2.1.length - (k + 1)) * 3 := by rw [recVals_length _ _ (by simp [hlh9])]; simp
 have hone1 : ∀ y ∈ hs.take k, y.oneCell' = true := fun y hy => hK.held.one y (List.mem_of_mem_take hy)
 have hone2 : ∀ y ∈ hs.drop (k + 1), y.oneCell' = true := fun y hy => hK.held.one y (List.mem_of_mem_drop hy)
 have hc3 : 0 + k ≤ maxLen := by unfold maxLen; omega
 have hc4 : (0 + k) * 40 ≤ 140737488355328 := by omega
 have hc5 : k + (s.2.1.length - (k + 1)) ≤ maxLen := by unfold maxLen; omega
 have hc6 : (k + (s.2.1.length - (k + 1))) * 40 ≤ 140737488355328 := by omega
 have hmx : maxLen = 9223372036854775807 := rfl
 obtain ⟨ad, had⟩ : ∃ ad : Addr, (if ch = k + 1 then some (⟨gh, 0, none⟩ : Addr) else some ⟨gh, (k + 1) * 3, none⟩) = some ad := by split <;> exact ⟨_, rfl⟩
 have HCD : Hid (∀ wq : World, OwnR wq 0 (.slice (some ⟨gh, 0, none⟩) s.2.1.length ch) s.2.1 hs → ∀ j u, (recVals (s.2.1.drop (k + 1)) (hs.drop (k + 1)))[j]? = some u → wq.cell? (ad.add j) = some u) := by
  intro wq hq j u hu
  split at had
  · have : s.2.1.drop (k + 1) = [] := List.drop_eq_nil_of_le (by omega)
    rw [this] at hu
    simp [recVals] at hu
  · cases had
    exact hq.cellsDrop (k + 1) hk1 j u hu
 have HAD := Hid.mk' had
 clear had
 have hki : (k : Int) < (s.2.1.length : Int) := by omega
 have hk0 : ¬ (k : Int) < 0 := by omega
 obtain ⟨pa, pc, hpe, hps, _⟩ := (hK.held.ops k hklt).sl
 have HQC : Hid (∀ wq : World, OwnR wq 0 (.slice (some ⟨gh, 0, none⟩) s.2.1.length ch) s.2.1 hs → wq.cell? ⟨gh, k * 3 + 2, none⟩ = some (.slice pa (opsAt s.2.1 k).length pc)) := fun wq hq => by
  rw [opsAt_eq hklt, (hq.at k hklt).2.2, hpe]
 have HQS : Hid (∀ wq : World, Below w.heap.size w wq → SlO wq pa (opsAt s.2.1 k).length (opsAt s.2.1 k)) := fun wq hb => by rw [opsAt_eq hklt]; exact hps.below hb
 clear hpe hps
 obtain ⟨sa, sc, hvs, hSz⟩ := hK.seen.sl
 subst hvs
 obtain ⟨V, hV⟩ : ∃ V, V = w.alloc (.cells #[.int .i64 2, .int .i64 tx, .slice a len cap] 133) := ⟨_, rfl⟩
 have hbV : Below w.heap.size w V := by rw [hV]; exact (Below.refl _ _).alloc (Nat.le_refl _) _
 have hbx : BoxR w.heap.size 2 tx (.slice a len cap) V := by rw [hV]; exact boxR_new _ _ _ _
 have hKV := hK.below hbV
 have hXl := hKV.box.lt
 have hRl := hbx.lt
 have y1 := last.On.cell (B := V.heap.size) hKV.box.cells.2.1 hXl
 have y2 := last.On.cell (B := V.heap.size) hbx.cells.2.1 hRl
 have hAt : ∀ x9 : last.On V.heap.size V, Calls Tryz.prog 123 #[.slice (some ⟨gh, 0, none⟩) s.2.1.length ch, .int .i64 tx] x9.w fun e w' => e = .returned (.int .i64 (atRet (placeTx tx s.2.1))) ∧ ∃ y9 : last.On V.heap.size V, w' = y9.w := fun x9 => last.Calls.on x9 (Nat.le_refl _) ((spec_l8At _ _ ch s.2.1 tx x9.w (hKV.held.below x9.2).sl).mono (fun e w' h => ⟨h.1, h.2 ▸ Below.refl _ _⟩))
 have hinh := last.On.inh V.heap.size V
 have HV := Hid.mk' hV.symm
 clear hV
 rw [hpl, show atRet (some k) = (k : Int) from rfl] at hAt
 go_enter Tryz.func85, Tryz.ntmps85
 go_wp2_with fail
 rw [HV.out]
 refine last.wp_region_on V.heap.size (by kernel_rfl) (by kernel_rfl) ?_
 repeat (go_big_quiet_step ((go_at_call 123; with_reducible exact hAt _)))
 refine wpQuiet_nil ?_
 intro w1 hw1
 obtain ⟨x1, hw1⟩ := hw1
 have hb1 : Below V.heap.size V w1 := by rw [hw1]; exact x1.2
 clear hw1 x1
 have hbx1 := hbx.below hb1
 have hK1 := hKV.below hb1
 have HOK := Hid.mk' (spec_recOk 2 tx a len cap ops w1 ((hSo.below hbV).below hb1) hks)
 obtain ⟨d0, d1, d2⟩ := hbx1.cells
 clear y1 y2 hAt hinh
 go_wp2_with fail
 refine HOK.out.mono ?_
 rintro e w2 ⟨rfl, hb2⟩
 rw [hok]
 have hK2 := hK1.below hb2
 have hbx2 := hbx1.below hb2
 have hSo2 := ((hSo.below hbV).below hb1).below hb2
 have hSz2 := ((hSz.below hbV).below hb1).below hb2
 clear d0 d1 d2 HOK HV hbx1 hbx hKV hXl hRl
 obtain ⟨d0, d1, d2⟩ := hbx2.cells
 have hd2 : Below w2.heap.size w2 w2.drew := (Below.refl _ _).drew
 have hKd := hK2.below hd2
 have hqd := HQC.out _ hKd.held
 have HAP := Hid.mk' (spec_applyV am nm cm s.1 pa (opsAt s.2.1 k).length pc (opsAt s.2.1 k) w2.drew hKd.m.sl hKd.m.spot (HQS.out _ (((hbV.trans (hb1.mono hbV.size)).trans (hb2.mono (Nat.le_trans hbV.size hb1.size))).trans (hd2.mono (Nat.le_trans hbV.size (Nat.le_trans hb1.size hb2.size))))) (by have := hKd.m.1; omega))
 go_wp2_with fail
 refine last.wp_region_later (S := fun w' => BoxS X (.slice am nm cm) (.slice (some ⟨gh, 0, none⟩) s.2.1.length ch) (.slice sa s.2.2.length sc) w' ∧ w'.cell? ⟨gh, k * 3 + 2, none⟩ = some (.slice pa (opsAt s.2.1 k).length pc)) 16 (by kernel_rfl) ⟨hKd.box, hqd⟩ (fun hHeld0 => ?_)
 refine last.wpAnyL_take (i := 0) (v := (.pointer (some ⟨X, 0, none⟩))) rfl rfl (by kernel_rfl) (by kernel_rfl) (by kernel_rfl) (by kernel_rfl) (fun _ _ _ h => h) (Or.inl ⟨by rfl, ?_⟩) (by assumption) ?_
 · intro wq hSq; go_simp
 try simp only [Act.put, List.setIfInBounds_toArray, List.set_cons_zero, List.set_cons_succ]
 refine last.wpAnyL_take (i := 1) (v := (.pointer (some ⟨X, 0, none⟩))) rfl rfl (by kernel_rfl) (by kernel_rfl) (by kernel_rfl) (by kernel_rfl) (fun _ _ _ h => h) (Or.inl ⟨by rfl, ?_⟩) (by assumption) ?_
 · intro wq hSq; go_simp
 try simp only [Act.put, List.setIfInBounds_toArray, List.set_cons_zero, List.set_cons_succ]
 refine last.wpAnyL_take (i := 2) (v := (.pointer (some ⟨X, 0, none⟩))) rfl rfl (by kernel_rfl) (by kernel_rfl) (by kernel_rfl) (by kernel_rfl) (fun _ _ _ h => h) (Or.inl ⟨by rfl, ?_⟩) (by assumption) ?_
 · intro wq hSq; go_simp
 try simp only [Act.put, List.setIfInBounds_toArray, List.set_cons_zero, List.set_cons_succ]
 refine last.wpAnyL_take (i := 3) (v := (.pointer (some ⟨X, 0, none⟩))) rfl rfl (by kernel_rfl) (by kernel_rfl) (by kernel_rfl) (by kernel_rfl) (fun _ _ _ h => h) (Or.inl ⟨by rfl, ?_⟩) (by assumption) ?_
 · intro wq hSq; go_simp
 try simp only [Act.put, List.setIfInBounds_toArray, List.set_cons_zero, List.set_cons_succ]
 refine last.wpAnyL_take (i := 4) (v := (.slice am nm cm)) rfl rfl (by kernel_rfl) (by kernel_rfl) (by kernel_rfl) (by kernel_rfl) (fun _ _ _ h => h) (Or.inl ⟨by rfl, ?_⟩) (by assumption) ?_
 · intro wq hSq; have q := hSq.1.cells.1; go_simp
 try simp only [Act.put, List.setIfInBounds_toArray, List.set_cons_zero, List.set_cons_succ]
 refine last.wpAnyL_take (i := 5) (v := (.pointer (some ⟨X, 0, none⟩))) rfl rfl (by kernel_rfl) (by kernel_rfl) (by kernel_rfl) (by kernel_rfl) (fun _ _ _ h => h) (Or.inl ⟨by rfl, ?_⟩) (by assumption) ?_
 · intro wq hSq; go_simp
 try simp only [Act.put, List.setIfInBounds_toArray, List.set_cons_zero, List.set_cons_succ]
 refine last.wpAnyL_take (i := 6) (v := (.pointer (some ⟨X, 0, none⟩))) rfl rfl (by kernel_rfl) (by kernel_rfl) (by kernel_rfl) (by kernel_rfl) (fun _ _ _ h => h) (Or.inl ⟨by rfl, ?_⟩) (by assumption) ?_
 · intro wq hSq; go_simp
 try simp only [Act.put, List.setIfInBounds_toArray, List.set_cons_zero, List.set_cons_succ]
 refine last.wpAnyL_take (i := 7) (v := (.pointer (some ⟨X, 1, none⟩))) rfl rfl (by kernel_rfl) (by kernel_rfl) (by kernel_rfl) (by kernel_rfl) (fun _ _ _ h => h) (Or.inl ⟨by rfl, ?_⟩) (by assumption) ?_
 · intro wq hSq; go_simp
 try simp only [Act.put, List.setIfInBounds_toArray, List.set_cons_zero, List.set_cons_succ]
 refine last.wpAnyL_take (i := 8) (v := (.slice (some ⟨gh, 0, none⟩) s.2.1.length ch)) rfl rfl (by kernel_rfl) (by kernel_rfl) (by kernel_rfl) (by kernel_rfl) (fun _ _ _ h => h) (Or.inl ⟨by rfl, ?_⟩) (by assumption) ?_
 · intro wq hSq; have q := hSq.1.cells.2.1; go_simp
 try simp only [Act.put, List.setIfInBounds_toArray, List.set_cons_zero, List.set_cons_succ]
 refine last.wpAnyL_take (i := 9) (v := (.int .i64 (k : Int))) rfl rfl (by kernel_rfl) (by kernel_rfl) (by kernel_rfl) (by kernel_rfl) (fun _ _ _ h => h) (Or.inl ⟨by rfl, ?_⟩) (by assumption) ?_
 · intro wq hSq; go_simp
 try simp only [Act.put, List.setIfInBounds_toArray, List.set_cons_zero, List.set_cons_succ]
 refine last.wpAnyL_take (i := 10) (v := (.pointer (some ⟨gh, k * 3, none⟩))) rfl rfl (by kernel_rfl) (by kernel_rfl) (by kernel_rfl) (by kernel_rfl) (fun _ _ _ h => h) (Or.inl ⟨by rfl, ?_⟩) (by assumption) ?_
 · intro wq hSq; go_simp
 try simp only [Act.put, List.setIfInBounds_toArray, List.set_cons_zero, List.set_cons_succ]
 refine last.wpAnyL_take (i := 11) (v := (.pointer (some ⟨gh, k * 3 + 2, none⟩))) rfl rfl (by kernel_rfl) (by kernel_rfl) (by kernel_rfl) (by kernel_rfl) (fun _ _ _ h => h) (Or.inl ⟨by rfl, ?_⟩) (by assumption) ?_
 · intro wq hSq; go_simp
 try simp only [Act.put, List.setIfInBounds_toArray, List.set_cons_zero, List.set_cons_succ]
 refine last.wpAnyL_take (i := 12) (v := (.slice pa (opsAt s.2.1 k).length pc)) rfl rfl (by kernel_rfl) (by kernel_rfl) (by kernel_rfl) (by kernel_rfl) (fun _ _ _ h => h) (Or.inl ⟨by rfl, ?_⟩) (by assumption) ?_
 · intro wq hSq; have q := hSq.2; go_simp
 try simp only [Act.put, List.setIfInBounds_toArray, List.set_cons_zero, List.set_cons_succ]
 refine last.wpAnyL_one (i := 13) (o := { dst := some 111, op := Op.call { callee := Callee.value (Operand.func 128), args := #[Operand.tmp 102, Operand.tmp 110], argTypes := #[53, 98] }, type := 53, pos := "l08_record.go:133", after := #[{ on := 4, ground := Ground.data }, { on := 12, ground := Ground.data }], guard := none }) (by kernel_rfl) rfl (fun K hK => ?_)
 refine stepc.step_call2 rfl 128 (.tmp 102) (.tmp 110) _ rfl (fun _ _ => rfl) (.slice am nm cm) (.slice pa (opsAt s.2.1 k).length pc) (by kernel_rfl) (by kernel_rfl) _ HAP.out ?_
 rintro e w6 ⟨g6, n6, c6, rfl, hO6, hb6⟩
 refine ⟨_, rfl, ?_⟩
 have hK6 := hKd.below hb6
 have hq6 := HQC.out _ hK6.held
 refine hK.out _ _ ?_ (fun hHeld => ?_)
 · exact ⟨hK6.box, hq6⟩
 clear hK K hHeld0
 have hHeld0 := hHeld
 clear hHeld
 try simp only [Act.put, List.setIfInBounds_toArray, List.set_cons_zero, List.set_cons_succ]
 refine last.wpAnyL_one (i := 14) (o := { dst := some 112, op := Op.nilCheck (Operand.tmp 98), type := 0, pos := "l08_record.go:133", after := #[{ on := 0, ground := Ground.data }, { on := 0, ground := Ground.phase }, { on := 1, ground := Ground.phase }, { on := 2, ground := Ground.phase }, { on := 3, ground := Ground.phase }, { on := 4, ground := Ground.phase }, { on := 5, ground := Ground.phase }, { on := 6, ground := Ground.phase }, { on := 7, ground := Ground.phase }, { on := 8, ground := Ground.phase }, { on := 9, ground := Ground.phase }, { on := 10, ground := Ground.phase }, { on := 11, ground := Ground.phase }, { on := 12, ground := Ground.phase }, { on := 13, ground := Ground.phase }], guard := none }) (by kernel_rfl) rfl (fun K hK => ?_)
 go_simp
 refine hK.out _ _ ?_ (fun hHeld => ?_)
 · exact hHeld0
 clear hK K hHeld0
 have hHeld0 := hHeld
 clear hHeld
 try simp only [Act.put, List.setIfInBounds_toArray, List.set_cons_zero, List.set_cons_succ]
 refine last.wpAnyL_take (i := 15) (v := (.pointer (some ⟨X, 0, none⟩))) rfl rfl (by kernel_rfl) (by kernel_rfl) (by kernel_rfl) (by kernel_rfl) (fun _ _ _ h => h) (Or.inl ⟨by rfl, ?_⟩) (by assumption) ?_
 · intro wq hSq; go_simp
 try simp only [Act.put, List.setIfInBounds_toArray, List.set_cons_zero, List.set_cons_succ]
 have e6 := hK6.box.cells.1
 have f6 := hK6.box.fz 0
 refine last.wpAnyL_last (o := { dst := none, op := Op.store 53 (Operand.tmp 113) (Operand.tmp 111), type := 0, pos := "l08_record.go:133", after := #[{ on := 15, ground := Ground.data }, { on := 13, ground := Ground.data }, { on := 13, ground := Ground.chain }, { on := 0, ground := Ground.phase }, { on := 1, ground := Ground.phase }, { on := 2, ground := Ground.phase }, { on := 3, ground := Ground.phase }, { on := 4, ground := Ground.phase }, { on := 5, ground := Ground.phase }, { on := 6, ground := Ground.phase }, { on := 7, ground := Ground.phase }, { on := 8, ground := Ground.phase }, { on := 9, ground := Ground.phase }, { on := 10, ground := Ground.phase }, { on := 11, ground := Ground.phase }, { on := 12, ground := Ground.phase }, { on := 13, ground := Ground.phase }], guard := none }) (by kernel_rfl) rfl (by kernel_rfl) (fun K hK => ?_)
 go_simp
 refine hK.out _ _ ?_
 clear hK K
 have hK9 := hK6.pairs (hO6.mono hKd.fr.size)
 generalize hW9 : w6.setCell ⟨X, 0, none⟩ (.slice (some ⟨g6, 0, none⟩) n6 c6) = w9 at *
 clear hW9 hq6 hqd e6 f6 hHeld0 hO6 hb6 HAP HQS HQC hd2 hKd hK6 d0 d1 d2
 have hdc : Below w9.heap.size w9 w9.drew := (Below.refl _ _).drew
 go_wp2_with fail
 refine last.wp_region_later (S := fun w' => BoxS X (.slice (some ⟨g6, 0, none⟩) n6 c6) (.slice (some ⟨gh, 0, none⟩) s.2.1.length ch) (.slice sa s.2.2.length sc) w') 19 (by kernel_rfl) (hK9.box.below hdc) (fun hHeld0 => ?_)
 refine last.wpAnyL_take (i := 0) (v := (.pointer (some ⟨X, 0, none⟩))) rfl rfl (by kernel_rfl) (by kernel_rfl) (by kernel_rfl) (by kernel_rfl) (fun _ _ _ h => h) (Or.inl ⟨by rfl, ?_⟩) (by assumption) ?_
 · intro wq hSq; go_simp
 try simp only [Act.put, List.setIfInBounds_toArray, List.set_cons_zero, List.set_cons_succ]
 refine last.wpAnyL_take (i := 2) (v := (.pointer (some ⟨X, 0, none⟩))) rfl rfl (by kernel_rfl) (by kernel_rfl) (by kernel_rfl) (by kernel_rfl) (fun _ _ _ h => h) (Or.inl ⟨by rfl, ?_⟩) (by assumption) ?_
 · intro wq hSq; go_simp
 try simp only [Act.put, List.setIfInBounds_toArray, List.set_cons_zero, List.set_cons_succ]
 refine last.wpAnyL_take (i := 3) (v := (.pointer (some ⟨X, 0, none⟩))) rfl rfl (by kernel_rfl) (by kernel_rfl) (by kernel_rfl) (by kernel_rfl) (fun _ _ _ h => h) (Or.inl ⟨by rfl, ?_⟩) (by assumption) ?_
 · intro wq hSq; go_simp
 try simp only [Act.put, List.setIfInBounds_toArray, List.set_cons_zero, List.set_cons_succ]
 refine last.wpAnyL_take (i := 4) (v := (.pointer (some ⟨X, 1, none⟩))) rfl rfl (by kernel_rfl) (by kernel_rfl) (by kernel_rfl) (by kernel_rfl) (fun _ _ _ h => h) (Or.inl ⟨by rfl, ?_⟩) (by assumption) ?_
 · intro wq hSq; go_simp
 try simp only [Act.put, List.setIfInBounds_toArray, List.set_cons_zero, List.set_cons_succ]
 refine last.wpAnyL_take (i := 5) (v := (.slice (some ⟨gh, 0, none⟩) s.2.1.length ch)) rfl rfl (by kernel_rfl) (by kernel_rfl) (by kernel_rfl) (by kernel_rfl) (fun _ _ _ h => h) (Or.inl ⟨by rfl, ?_⟩) (by assumption) ?_
 · intro wq hSq; have q := hSq.cells.2.1; go_simp
 try simp only [Act.put, List.setIfInBounds_toArray, List.set_cons_zero, List.set_cons_succ]
 refine last.wpAnyL_take (i := 6) (v := (.int .i64 (k : Int))) rfl rfl (by kernel_rfl) (by kernel_rfl) (by kernel_rfl) (by kernel_rfl) (fun _ _ _ h => h) (Or.inl ⟨by rfl, ?_⟩) (by assumption) ?_
 · intro wq hSq; go_simp
 try simp only [Act.put, List.setIfInBounds_toArray, List.set_cons_zero, List.set_cons_succ]
 refine last.wpAnyL_take (i := 7) (v := (.slice (some ⟨gh, 0, none⟩) k ch)) rfl rfl (by kernel_rfl) (by kernel_rfl) (by kernel_rfl) (by kernel_rfl) (fun _ _ _ h => h) (Or.inl ⟨by rfl, ?_⟩) (by assumption) ?_
 · intro wq hSq; go_simp; exact fun h => absurd h (by omega)
 try simp only [Act.put, List.setIfInBounds_toArray, List.set_cons_zero, List.set_cons_succ]
 refine last.wpAnyL_take (i := 9) (v := (.pointer (some ⟨X, 0, none⟩))) rfl rfl (by kernel_rfl) (by kernel_rfl) (by kernel_rfl) (by kernel_rfl) (fun _ _ _ h => h) (Or.inl ⟨by rfl, ?_⟩) (by assumption) ?_
 · intro wq hSq; go_simp
 try simp only [Act.put, List.setIfInBounds_toArray, List.set_cons_zero, List.set_cons_succ]
 refine last.wpAnyL_take (i := 10) (v := (.pointer (some ⟨X, 0, none⟩))) rfl rfl (by kernel_rfl) (by kernel_rfl) (by kernel_rfl) (by kernel_rfl) (fun _ _ _ h => h) (Or.inl ⟨by rfl, ?_⟩) (by assumption) ?_
 · intro wq hSq; go_simp
 try simp only [Act.put, List.setIfInBounds_toArray, List.set_cons_zero, List.set_cons_succ]
 refine last.wpAnyL_take (i := 11) (v := (.pointer (some ⟨X, 1, none⟩))) rfl rfl (by kernel_rfl) (by kernel_rfl) (by kernel_rfl) (by kernel_rfl) (fun _ _ _ h => h) (Or.inl ⟨by rfl, ?_⟩) (by assumption) ?_
 · intro wq hSq; go_simp
 try simp only [Act.put, List.setIfInBounds_toArray, List.set_cons_zero, List.set_cons_succ]
 refine last.wpAnyL_take (i := 12) (v := (.slice (some ⟨gh, 0, none⟩) s.2.1.length ch)) rfl rfl (by kernel_rfl) (by kernel_rfl) (by kernel_rfl) (by kernel_rfl) (fun _ _ _ h => h) (Or.inl ⟨by rfl, ?_⟩) (by assumption) ?_
 · intro wq hSq; have q := hSq.cells.2.1; go_simp
 try simp only [Act.put, List.setIfInBounds_toArray, List.set_cons_zero, List.set_cons_succ]
 refine last.wpAnyL_take (i := 13) (v := (.int .i64 (k : Int))) rfl rfl (by kernel_rfl) (by kernel_rfl) (by kernel_rfl) (by kernel_rfl) (fun _ _ _ h => h) (Or.inl ⟨by rfl, ?_⟩) (by assumption) ?_
 · intro wq hSq; go_simp
 try simp only [Act.put, List.setIfInBounds_toArray, List.set_cons_zero, List.set_cons_succ]
 refine last.wpAnyL_take (i := 14) (v := (.int .i64 ((k : Int) + 1))) rfl rfl (by kernel_rfl) (by kernel_rfl) (by kernel_rfl) (by kernel_rfl) (fun _ _ _ h => h) (Or.inl ⟨by rfl, ?_⟩) (by assumption) ?_
 · intro wq hSq; go_simp; rw [IntKind.wrap_i64]; omega
 try simp only [Act.put, List.setIfInBounds_toArray, List.set_cons_zero, List.set_cons_succ]
 refine last.wpAnyL_take (i := 15) (v := (.slice (some ad) (s.2.1.length - (k + 1)) (ch - (k + 1)))) rfl rfl (by kernel_rfl) (by kernel_rfl) (by kernel_rfl) (by kernel_rfl) (fun _ _ _ h => h) (Or.inl ⟨by rfl, ?_⟩) (by assumption) ?_
 · intro wq hSq; go_simp; rw [if_pos ⟨by omega, by omega⟩, HAD.out]
 try simp only [Act.put, List.setIfInBounds_toArray, List.set_cons_zero, List.set_cons_succ]
 refine last.wpAnyL_one (i := 1) (o := { dst := some 115, op := Op.buildSlice 52 0 #[], type := 52, pos := "l08_record.go:135", after := #[], guard := none }) (by kernel_rfl) rfl (fun K hK => ?_)
 go_simp
 have hbm : Below w9.heap.size w9 (w9.drew.alloc (.cells #[] 133)) := hdc.alloc hdc.size _
 have hKm := hK9.below hbm
 have hOm : (w9.drew.alloc (.cells #[] 133)).ownsRow w9.heap.size 133 3 (.slice (some ⟨w9.heap.size, 0, none⟩) 0 0) 0 [] := World.ownsRow_made w9.drew #[] 0 (Nat.le_refl _) (Nat.zero_le _) rfl
 refine hK.out _ _ ?_ (fun hHeld => ?_)
 · exact hKm.box
 clear hK K hHeld0
 have hHeld0 := hHeld
 clear hHeld
 try simp only [Act.put, List.setIfInBounds_toArray, List.set_cons_zero, List.set_cons_succ]
 refine last.wpAnyL_one (i := 8) (o := { dst := some 122, op := Op.call { callee := Callee.builtin Builtin.append, args := #[Operand.tmp 115, Operand.tmp 121], argTypes := #[52, 52] }, type := 52, pos := "l08_record.go:135", after := #[{ on := 1, ground := Ground.data }, { on := 7, ground := Ground.data }], guard := none }) (by kernel_rfl) rfl (fun K hK => ?_)
 refine step_append_own rfl (.tmp 115) (.tmp 121) 52 rfl w9.heap.size 133 i0 (.agg #[.int .i64 0, .int .i64 0, .slice none 0 0]) 3 40 Tryz.underlying52 hi hz0 hz1 hz2 rfl (by decide) _ _ _ rfl hOm ⟨gh, 0, none⟩ k ch (recVals (s.2.1.take k) (hs.take k)) rfl hn1 (hKm.held.cellsTake k) (recVals_oneCell _ _ hone1) hc3 hc4 hbm.size ?_
 intro vp wp hownp hgrowp hnnp
 simp only [Nat.zero_add, List.nil_append] at hownp
 obtain ⟨gp, cp, hvp⟩ := rowR_shape hownp (fun e => by have := (hnnp.1 e).1; cases this)
 subst hvp
 have hgp : (w9.drew.alloc (.cells #[] 133)).grownBy wp (some w9.heap.size) := hgrowp
 have hbp : Below w9.heap.size w9 wp := hbm.grown hgp hbm.size (fun j e => by cases e; exact Nat.le_refl _)
 have hKp := hK9.below hbp
 refine hK.out _ _ ?_ (fun hHeld => ?_)
 · exact hKp.box
 clear hK K hHeld0
 have hHeld0 := hHeld
 clear hHeld
 try simp only [Act.put, List.setIfInBounds_toArray, List.set_cons_zero, List.set_cons_succ]
 refine last.wpAnyL_one (i := 16) (o := { dst := some 130, op := Op.call { callee := Callee.builtin Builtin.append, args := #[Operand.tmp 122, Operand.tmp 129], argTypes := #[52, 52] }, type := 52, pos := "l08_record.go:135", after := #[{ on := 8, ground := Ground.data }, { on := 15, ground := Ground.data }, { on := 8, ground := Ground.chain }], guard := none }) (by kernel_rfl) rfl (fun K hK => ?_)
 refine step_append_own rfl (.tmp 122) (.tmp 129) 52 rfl w9.heap.size 133 i0 (.agg #[.int .i64 0, .int .i64 0, .slice none 0 0]) 3 40 Tryz.underlying52 hi hz0 hz1 hz2 rfl (by decide) _ _ _ rfl hownp ad (s.2.1.length - (k + 1)) (ch - (k + 1)) (recVals (s.2.1.drop (k + 1)) (hs.drop (k + 1))) rfl hn2 (HCD.out _ hKp.held) (recVals_oneCell _ _ hone2) hc5 hc6 hbp.size ?_
 intro vr wr hownr hgrowr hnnr
 obtain ⟨gr, cr, hvr⟩ := rowR_shape hownr (fun e => by have := (hnnr.1 e).1; cases this)
 subst hvr
 have hgr : wp.grownBy wr (some gp) := hgrowr
 have hbr : Below w9.heap.size w9 wr := hbp.grown hgr hbp.size (fun j e => by cases e; exact (hownp.lt gp rfl).1)
 have hKr := hK9.below hbr
 have hOR := OwnR.erase (l := s.2.1) (hs := hs) hK9.held hbr k hklt (g' := gr) (c' := cr) (n' := k + (s.2.1.length - (k + 1))) (by omega) (by
  have h9 := hownr
  rw [← recVals_append _ _ _ _ (by simp [hlh9])] at h9
  exact rowR_mono h9 (Nat.zero_le _))
 refine hK.out _ _ ?_ (fun hHeld => ?_)
 · exact hKr.box
 clear hK K hHeld0
 have hHeld0 := hHeld
 clear hHeld
 try simp only [Act.put, List.setIfInBounds_toArray, List.set_cons_zero, List.set_cons_succ]
 refine last.wpAnyL_one (i := 17) (o := { dst := some 131, op := Op.nilCheck (Operand.tmp 114), type := 0, pos := "l08_record.go:135", after := #[{ on := 0, ground := Ground.data }, { on := 0, ground := Ground.phase }, { on := 1, ground := Ground.phase }, { on := 2, ground := Ground.phase }, { on := 3, ground := Ground.phase }, { on := 4, ground := Ground.phase }, { on := 5, ground := Ground.phase }, { on := 6, ground := Ground.phase }, { on := 7, ground := Ground.phase }, { on := 8, ground := Ground.phase }, { on := 9, ground := Ground.phase }, { on := 10, ground := Ground.phase }, { on := 11, ground := Ground.phase }, { on := 12, ground := Ground.phase }, { on := 13, ground := Ground.phase }, { on := 14, ground := Ground.phase }, { on := 15, ground := Ground.phase }, { on := 16, ground := Ground.phase }], guard := none }) (by kernel_rfl) rfl (fun K hK => ?_)
 go_simp
 refine hK.out _ _ ?_ (fun hHeld => ?_)
 · exact hHeld0
 clear hK K hHeld0
 have hHeld0 := hHeld
 clear hHeld
 try simp only [Act.put, List.setIfInBounds_toArray, List.set_cons_zero, List.set_cons_succ]
 refine last.wpAnyL_take (i := 18) (v := (.pointer (some ⟨X, 1, none⟩))) rfl rfl (by kernel_rfl) (by kernel_rfl) (by kernel_rfl) (by kernel_rfl) (fun _ _ _ h => h) (Or.inl ⟨by rfl, ?_⟩) (by assumption) ?_
 · intro wq hSq; go_simp
 try simp only [Act.put, List.setIfInBounds_toArray, List.set_cons_zero, List.set_cons_succ]
 have er := hKr.box.cells.2.1
 have fr := hKr.box.fz 1
 refine last.wpAnyL_last (o := { dst := none, op := Op.store 52 (Operand.tmp 132) (Operand.tmp 130), type := 0, pos := "l08_record.go:135", after := #[{ on := 18, ground := Ground.data }, { on := 16, ground := Ground.data }, { on := 16, ground := Ground.chain }, { on := 0, ground := Ground.phase }, { on := 1, ground := Ground.phase }, { on := 2, ground := Ground.phase }, { on := 3, ground := Ground.phase }, { on := 4, ground := Ground.phase }, { on := 5, ground := Ground.phase }, { on := 6, ground := Ground.phase }, { on := 7, ground := Ground.phase }, { on := 8, ground := Ground.phase }, { on := 9, ground := Ground.phase }, { on := 10, ground := Ground.phase }, { on := 11, ground := Ground.phase }, { on := 12, ground := Ground.phase }, { on := 13, ground := Ground.phase }, { on := 14, ground := Ground.phase }, { on := 15, ground := Ground.phase }, { on := 16, ground := Ground.phase }], guard := none }) (by kernel_rfl) rfl (by kernel_rfl) (fun K hK => ?_)
 go_simp
 refine hK.out _ _ ?_
 clear hK K
 have hgrn : w0.heap.size ≤ gr := Nat.le_trans hK9.fr.size (hownr.lt gr rfl).1
 have hKc := hKr.cut hOR hgrn (fun y hy => by
  rcases List.mem_append.1 hy with e | e
  · exact List.mem_of_mem_take e
  · exact List.mem_of_mem_drop e)
 have hlc : (s.2.1.take k ++ s.2.1.drop (k + 1)).length = k + (s.2.1.length - (k + 1)) := by simp; omega
 rw [hlc] at hKc
 generalize hWc : wr.setCell ⟨X, 1, none⟩ (.slice (some ⟨gr, 0, none⟩) (k + (s.2.1.length - (k + 1))) cr) = wz at *
 clear hWc hOR hownr hownp hgr hgp hgrowp hgrowr hnnp hnnr er fr hHeld0 hOm
 have hKc' : Kept N w0 F0 wz X (some ⟨g6, 0, none⟩) n6 c6 (some ⟨gr, 0, none⟩) cr (.slice sa s.2.2.length sc) (applyAll s.1 (opsAt s.2.1 k), s.2.1.take k ++ s.2.1.drop (k + 1), s.2.2) (hs.take k ++ hs.drop (k + 1)) := hKc
 have hnm : (applyAll s.1 (opsAt s.2.1 k)).length = n6 := hKc.m.1
 obtain ⟨u0, _, _⟩ := hKc.box.cells
 have h60 : ¬ (n6 : Int) ≤ 60 := by omega
 go_wp2_with fail
 go_ret
 exact ⟨rfl, _, _, _, _, _, _, _, hKc'⟩
end recs
end Go.Proofs.YtijplooogplccaaGreat
