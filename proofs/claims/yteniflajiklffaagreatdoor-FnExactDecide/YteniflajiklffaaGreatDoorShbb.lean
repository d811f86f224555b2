/- The program's shard decides: what is answered. -/
import Derived.Test.YteniflajiklffaaGreatDoorShaw
import Derived.Test.YteniflajiklffaaGreatDoorShaz
import Derived.Test.YteniflajiklffaaGreatDoorShba
namespace Go.Proofs.YteniflajiklffaaGreatDoor.stepc
open Go
theorem step_call2g {P : Program} {ops : Array Oper} {o : Oper} {a : Act} {w : World} {K : Act → World → Prop} {Q : Exit → Act → World → Prop} {E : Prop} (hw : Region.wanted o (yielded ops a.tmps) = true) (f : FuncId) (x y : Operand) (ts : Array TypeId)
    (ho : o.op = .call { callee := .value (.func f), args := #[x, y], argTypes := ts }) (hent : ∀ args w, (callFunc f args).run P w = .ok (.enter f args) w)
    (v1 v2 : Value) (h1 : a.eval x = v1) (h2 : a.eval y = v2) (R : Ending → World → Prop) (hc : Calls P f #[v1, v2] w R)
    (h : ∀ e w', R e w' → ∃ v, e = .returned v ∧ K (a.put o.dst v) w') :
    if Region.wanted o (yielded ops a.tmps) = true then Oper.wp P o a w K Q else E := by
  rw [if_pos hw]
  unfold Oper.wp execOp
  have hf : a.eval (.func f) = .func (.func f) #[] #[] := rfl
  have hof : (Deferred.ofValue (Value.func (Fn.func f) #[] #[]) #[v1, v2]).run P w = .ok { target := .fn (.func f) #[], args := #[v1, v2] } w := rfl
  simp only [ho, resolve, invoke, Sem.run_bind, List.map_toArray, List.map_cons, List.map_nil, h1, h2, hf, hof, Result.andThen_ok, hent]
  show Calls P f #[v1, v2] w _
  exact hc.mono (fun e w' he => by obtain ⟨v, rfl, hr⟩ := h e w' he; exact hr)
end Go.Proofs.YteniflajiklffaaGreatDoor.stepc
namespace Go.Proofs.YteniflajiklffaaGreatDoor.recs
open Go Go.RowKit Go.Proofs.YteniflajiklffaaGreatDoor.base Go.Proofs.YteniflajiklffaaGreatDoor.pairs Go.Proofs.YteniflajiklffaaGreatDoor.ords Go.Proofs.YteniflajiklffaaGreatDoor.helps Go.Proofs.YteniflajiklffaaGreatDoor.help Go.Proofs.YteniflajiklffaaGreatDoor.lay Go.Proofs.YteniflajiklffaaGreatDoor.sent
set_option linter.unusedVariables false
set_option linter.unusedSimpArgs false
set_option maxRecDepth 100000 in
set_option maxHeartbeats 4000000 in
theorem dec_yes_no (G : List Nat) (A : Nat → Addr) (la : Option Addr) (ln lc : Nat) (ma : Option Addr) (mn mc : Nat) (ha : Option Addr) (hn hc : Nat) (s : Shd) (tx : Int) (w : World) (hK : KS G A w) (r : Shd) (g : Nat) (hg : g ∈ G)
    (htr : ∀ wx, Below w.heap.size w wx → Calls Tryz.prog 32 #[aggSh s.1 s.2.2.1 la ln lc ma mn mc ha hn hc, .agg #[.int .i64 2, .int .i64 tx, .slice none 0 0], .func (.func 46) #[aggSh s.1 s.2.2.1 la ln lc ma mn mc ha hn hc] #[]] wx (Ret2 wx r (errV A tx (some g)))) :
    Calls Tryz.prog 15 #[aggSh s.1 s.2.2.1 la ln lc ma mn mc ha hn hc, .int .i64 tx, .bool true] w (Ret2 w r (.bool (decide (g = 0)))) := by
  obtain ⟨W, hW⟩ : ∃ W, (w.alloc (boxSh s.1 s.2.2.1 la ln lc ma mn mc ha hn hc)).alloc (boxSh 0 0 none 0 0 none 0 0 none 0 0) = W := ⟨_, rfl⟩
  have hba : Below w.heap.size w (w.alloc (boxSh s.1 s.2.2.1 la ln lc ma mn mc ha hn hc)) := below_alloc
  have hB : Below w.heap.size w W := by rw [← hW]; exact hba.alloc hba.size _
  have hX : BoxIn w.heap.size 27 [] (shVals s.1 s.2.2.1 la ln lc ma mn mc ha hn hc) [] W := by rw [← hW]; exact (boxIn_new w _ _).below below_alloc
  have hRB : BoxIn (w.heap.size + 1) 27 [] (shVals 0 0 none 0 0 none 0 0 none 0 0) [] W := by
    rw [← hW]
    have := boxIn_new (w.alloc (boxSh s.1 s.2.2.1 la ln lc ma mn mc ha hn hc)) (shVals 0 0 none 0 0 none 0 0 none 0 0) 27
    rwa [show (w.alloc (boxSh s.1 s.2.2.1 la ln lc ma mn mc ha hn hc)).heap.size = w.heap.size + 1 by simp] at this
  have hsW : w.heap.size + 1 < W.heap.size := hRB.lt
  have HW := Hid.mk' hW
  obtain ⟨a0, a1, a2, a3, a4⟩ := boxcells hX
  rw [← hW] at a0 a1 a2 a3 a4
  have HTR : Hid (Calls Tryz.prog 32 #[aggSh s.1 s.2.2.1 la ln lc ma mn mc ha hn hc, .agg #[.int .i64 2, .int .i64 tx, .slice none 0 0], .func (.func 46) #[aggSh s.1 s.2.2.1 la ln lc ma mn mc ha hn hc] #[]] W (Ret2 W r (.iface 107 (.agg #[.int .i64 tx, .iface 180 (.pointer (some (A g)))])))) := htr W hB
  have HIS := Hid.mk' (fun wx (hx : Below w.heap.size w wx) => is_ref tx g 0 hg (hK.sub _ (by decide)) wx (hK.below hx))
  have HGC := Hid.mk' (fun wx (hx : Below w.heap.size w wx) => (hK.below hx).cell 0 (hK.sub _ (by decide)))
  clear hW htr hba
  go_enter Tryz.func15, Tryz.ntmps15
  go_wp2_with fail
  rw [HW.out]
  refine HTR.out.mono ?_
  rintro e w1 ⟨ta, tn, tc, sa, sn, sc, ra, rn, rc, FF, rfl, hO1, hF1, hb1⟩
  clear a0 a1 a2 a3 a4 HW HTR
  obtain ⟨u1, hu1⟩ : ∃ u1, w1.alloc (boxSh r.1 r.2.2.1 ta tn tc sa sn sc ra rn rc) = u1 := ⟨_, rfl⟩
  have hb2 : Below w1.heap.size w1 u1 := by rw [← hu1]; exact below_alloc
  have hT := inBox_new hO1
  rw [hu1] at hT
  have hb3 := hb1.trans (hb2.mono hb1.size)
  have hd : Below u1.heap.size u1 u1.drew := (Below.refl _ _).drew
  have hbd := hb3.trans (hd.mono hb3.size)
  have hTd := hT.below hd
  have hs1 := hb1.size
  have hne : w.heap.size + 1 ≠ w1.heap.size := by omega
  have HU1 := Hid.mk' hu1
  have hgd := HGC.out _ (hB.trans (hbd.mono hB.size))
  clear hu1 hO1 hT
  go_wp2_with fail
  rw [HU1.out]
  refine last.wp_region_later (S := fun w' => BoxIn w1.heap.size 27 [] (shVals r.1 r.2.2.1 ta tn tc sa sn sc ra rn rc) [] w' ∧ w'.cell? ⟨0, 0, none⟩ = some (.iface 180 (.pointer (some (A 0))))) 9 (by kernel_rfl) ⟨hTd.box, hgd⟩ (fun hHeld0 => ?_)
  generalize u1.drew = D5 at *
  refine last.wpAnyL_take (i := 0) (v := (aggSh r.1 r.2.2.1 ta tn tc sa sn sc ra rn rc)) rfl rfl (by kernel_rfl) (by kernel_rfl) (by kernel_rfl) (by kernel_rfl) (fun _ _ _ h => h) (Or.inl ⟨by rfl, ?_⟩) (by assumption) ?_
  · intro wq hSq; obtain ⟨q0, q1, q2, q3, q4⟩ := boxcells hSq.1; go_simp
  try simp only [Act.put, List.setIfInBounds_toArray, List.set_cons_zero, List.set_cons_succ]
  refine last.wpAnyL_take (i := 1) (v := (.iface 107 (.agg #[.int .i64 tx, .iface 180 (.pointer (some (A g)))]))) rfl rfl (by kernel_rfl) (by kernel_rfl) (by kernel_rfl) (by kernel_rfl) (fun _ _ _ h => h) (Or.inl ⟨by rfl, ?_⟩) (by assumption) ?_
  · intro wq hSq; go_simp
  try simp only [Act.put, List.setIfInBounds_toArray, List.set_cons_zero, List.set_cons_succ]
  refine last.wpAnyL_take (i := 2) (v := (.bool false)) rfl rfl (by kernel_rfl) (by kernel_rfl) (by kernel_rfl) (by kernel_rfl) (fun _ _ _ h => h) (Or.inl ⟨by rfl, ?_⟩) (by assumption) ?_
  · intro wq hSq; go_simp
  try simp only [Act.put, List.setIfInBounds_toArray, List.set_cons_zero, List.set_cons_succ]
  refine last.wpAnyL_take (i := 3) (v := (.bool false)) rfl rfl (by kernel_rfl) (by kernel_rfl) (by kernel_rfl) (by kernel_rfl) (fun _ _ _ h => h) (Or.inl ⟨by rfl, ?_⟩) (by assumption) ?_
  · intro wq hSq; go_simp
  try simp only [Act.put, List.setIfInBounds_toArray, List.set_cons_zero, List.set_cons_succ]
  refine last.wpAnyL_take (i := 4) (v := (.iface 107 (.agg #[.int .i64 tx, .iface 180 (.pointer (some (A g)))]))) rfl rfl (by kernel_rfl) (by kernel_rfl) (by kernel_rfl) (by kernel_rfl) (fun _ _ _ h => h) (Or.inl ⟨by rfl, ?_⟩) (by assumption) ?_
  · intro wq hSq; go_simp
  try simp only [Act.put, List.setIfInBounds_toArray, List.set_cons_zero, List.set_cons_succ]
  refine last.wpAnyL_take (i := 5) (v := (.iface 180 (.pointer (some (A 0))))) rfl rfl (by kernel_rfl) (by kernel_rfl) (by kernel_rfl) (by kernel_rfl) (fun _ _ _ h => h) (Or.inl ⟨by rfl, ?_⟩) (by assumption) ?_
  · intro wq hSq; have q := hSq.2; go_simp
  try simp only [Act.put, List.setIfInBounds_toArray, List.set_cons_zero, List.set_cons_succ]
  refine last.wpAnyL_one (i := 6) (o := { dst := some 28, op := Op.call { callee := Callee.value (Operand.func 47), args := #[Operand.tmp 26, Operand.tmp 27], argTypes := #[65, 65] }, type := 4, pos := "l09_shard.go:69", after := #[{ on := 4, ground := Ground.data }, { on := 5, ground := Ground.data }, { on := 3, ground := Ground.chain }, { on := 3, ground := Ground.guard }], guard := some (3, false) }) (by kernel_rfl) rfl (fun K hK => ?_)
  refine stepc.step_call2g (by rfl) 47 (.tmp 26) (.tmp 27) _ rfl (fun _ _ => rfl) (.iface 107 (.agg #[.int .i64 tx, .iface 180 (.pointer (some (A g)))])) (.iface 180 (.pointer (some (A 0)))) (by kernel_rfl) (by kernel_rfl) _ (HIS.out _ (hB.trans (hbd.mono hB.size))) ?_
  rintro e w6 ⟨rfl, hb6⟩
  refine ⟨_, rfl, ?_⟩
  have hb7 := hbd.trans (hb6.mono hbd.size)
  have hT6 := hTd.below hb6
  refine hK.out _ _ ?_ (fun hHeld => ?_)
  · exact ⟨hT6.box, HGC.out _ (hB.trans (hb7.mono hB.size))⟩
  clear hK K hHeld0
  have hHeld0 := hHeld
  clear hHeld
  try simp only [Act.put, List.setIfInBounds_toArray, List.set_cons_zero, List.set_cons_succ]
  refine last.wpAnyL_take (i := 7) (v := (.bool (decide (g = 0)))) rfl rfl (by kernel_rfl) (by kernel_rfl) (by kernel_rfl) (by kernel_rfl) (fun _ _ _ h => h) (Or.inl ⟨by rfl, ?_⟩) (by assumption) ?_
  · intro wq hSq; go_simp
  try simp only [Act.put, List.setIfInBounds_toArray, List.set_cons_zero, List.set_cons_succ]
  have hR6 := hRB.below hb7
  have z0 := hR6.cell 0 _ rfl
  have z1 := hR6.cell 1 _ rfl
  have z2 := hR6.cell 2 _ rfl
  have z3 := hR6.cell 3 _ rfl
  have z4 := hR6.cell 4 _ rfl
  have hS5 := hR6.set5 (.int .i64 r.1) (.slice ta tn tc) (.int .i64 r.2.2.1) (.slice sa sn sc) (.slice ra rn rc)
  simp only [List.length_nil, Nat.zero_add] at z0 z1 z2 z3 z4 hS5
  have f0 := hR6.fz 0
  have f1 := hR6.fz 1
  have f2 := hR6.fz 2
  have f3 := hR6.fz 3
  have f4 := hR6.fz 4
  have hBw := hB.trans (hb7.mono hB.size)
  have hBz := hBw.grown hS5.2 hBw.size (fun j e => by cases e; omega)
  have hOz := hT6.own.keep (fun j hj => hS5.2.block j (hT6.own.lt j hj) (fun e => by have h1 := hF1 j hj; have h2 := Option.some.inj e; omega))
  have hzc0 := hS5.1.cell 0 _ rfl
  have hzc1 := hS5.1.cell 1 _ rfl
  have hzc2 := hS5.1.cell 2 _ rfl
  have hzc3 := hS5.1.cell 3 _ rfl
  have hzc4 := hS5.1.cell 4 _ rfl
  simp only [List.length_nil, Nat.zero_add] at hzc0 hzc1 hzc2 hzc3 hzc4
  have hTz := hT6.box.grown hS5.2 (fun e => by have h2 := Option.some.inj e; omega)
  have hgz := HGC.out _ hBz
  have HP := Hid.mk' (ret2_mk (w := w) (v := .bool (decide (g = 0))) hOz (fun k hk => by have h1 := hF1 k hk; have := hB.size; omega) hBz)
  refine last.wpAnyL_one (i := 8) (o := { dst := none, op := Op.store 27 (Operand.tmp 6) (Operand.tmp 22), type := 0, pos := "l09_shard.go:69", after := #[{ on := 0, ground := Ground.data }, { on := 6, ground := Ground.chain }, { on := 0, ground := Ground.phase }, { on := 1, ground := Ground.textOnly Departure.lateStores }, { on := 2, ground := Ground.textOnly Departure.lateStores }, { on := 3, ground := Ground.textOnly Departure.lateStores }, { on := 4, ground := Ground.textOnly Departure.lateStores }, { on := 5, ground := Ground.textOnly Departure.lateStores }, { on := 6, ground := Ground.textOnly Departure.lateStoresUnsure }, { on := 7, ground := Ground.textOnly Departure.lateStores }], guard := none }) (by kernel_rfl) rfl (fun K hK => ?_)
  go_simp
  refine hK.out _ _ ?_ (fun hHeld => ?_)
  · exact ⟨hTz, hgz⟩
  clear hK K hHeld0
  have hHeld0 := hHeld
  clear hHeld
  try simp only [Act.put, List.setIfInBounds_toArray, List.set_cons_zero, List.set_cons_succ]
  refine last.wpAnyL_last (o := { dst := some 7, op := Op.assign (Operand.tmp 29), type := 4, pos := "l09_shard.go:69", after := #[{ on := 7, ground := Ground.data }, { on := 8, ground := Ground.chain }, { on := 0, ground := Ground.phase }, { on := 1, ground := Ground.phase }, { on := 2, ground := Ground.phase }, { on := 3, ground := Ground.phase }, { on := 4, ground := Ground.phase }, { on := 5, ground := Ground.phase }, { on := 6, ground := Ground.phase }, { on := 7, ground := Ground.phase }, { on := 8, ground := Ground.phase }], guard := none }) (by kernel_rfl) rfl (by kernel_rfl) (fun K hK => ?_)
  go_simp
  refine hK.out _ _ ?_
  clear hK K
  clear hHeld0 hTz hOz hBz hBw hS5 hR6 hTd
  go_wp2_with fail
  refine bodyPost_ret (v := .tuple #[aggSh r.1 r.2.2.1 ta tn tc sa sn sc ra rn rc, .bool (decide (g = 0))]) ?_ rfl HP.out
  simp [results, Tryz.results15, go_sem, hzc0, hzc1, hzc2, hzc3, hzc4]
set_option maxRecDepth 100000 in
set_option maxHeartbeats 4000000 in
theorem dec_yes_yes (G : List Nat) (A : Nat → Addr) (la : Option Addr) (ln lc : Nat) (ma : Option Addr) (mn mc : Nat) (ha : Option Addr) (hn hc : Nat) (s : Shd) (tx : Int) (w : World) (hK : KS G A w) (r : Shd) 
    (htr : ∀ wx, Below w.heap.size w wx → Calls Tryz.prog 32 #[aggSh s.1 s.2.2.1 la ln lc ma mn mc ha hn hc, .agg #[.int .i64 2, .int .i64 tx, .slice none 0 0], .func (.func 46) #[aggSh s.1 s.2.2.1 la ln lc ma mn mc ha hn hc] #[]] wx (Ret2 wx r (errV A tx none))) :
    Calls Tryz.prog 15 #[aggSh s.1 s.2.2.1 la ln lc ma mn mc ha hn hc, .int .i64 tx, .bool true] w (Ret2 w r (.bool true)) := by
  obtain ⟨W, hW⟩ : ∃ W, (w.alloc (boxSh s.1 s.2.2.1 la ln lc ma mn mc ha hn hc)).alloc (boxSh 0 0 none 0 0 none 0 0 none 0 0) = W := ⟨_, rfl⟩
  have hba : Below w.heap.size w (w.alloc (boxSh s.1 s.2.2.1 la ln lc ma mn mc ha hn hc)) := below_alloc
  have hB : Below w.heap.size w W := by rw [← hW]; exact hba.alloc hba.size _
  have hX : BoxIn w.heap.size 27 [] (shVals s.1 s.2.2.1 la ln lc ma mn mc ha hn hc) [] W := by rw [← hW]; exact (boxIn_new w _ _).below below_alloc
  have hRB : BoxIn (w.heap.size + 1) 27 [] (shVals 0 0 none 0 0 none 0 0 none 0 0) [] W := by
    rw [← hW]
    have := boxIn_new (w.alloc (boxSh s.1 s.2.2.1 la ln lc ma mn mc ha hn hc)) (shVals 0 0 none 0 0 none 0 0 none 0 0) 27
    rwa [show (w.alloc (boxSh s.1 s.2.2.1 la ln lc ma mn mc ha hn hc)).heap.size = w.heap.size + 1 by simp] at this
  have hsW : w.heap.size + 1 < W.heap.size := hRB.lt
  have HW := Hid.mk' hW
  obtain ⟨a0, a1, a2, a3, a4⟩ := boxcells hX
  rw [← hW] at a0 a1 a2 a3 a4
  have HTR : Hid (Calls Tryz.prog 32 #[aggSh s.1 s.2.2.1 la ln lc ma mn mc ha hn hc, .agg #[.int .i64 2, .int .i64 tx, .slice none 0 0], .func (.func 46) #[aggSh s.1 s.2.2.1 la ln lc ma mn mc ha hn hc] #[]] W (Ret2 W r .nilIface)) := htr W hB
  have HGC := Hid.mk' (fun wx (hx : Below w.heap.size w wx) => (hK.below hx).cell 0 (hK.sub _ (by decide)))
  clear hW htr hba
  go_enter Tryz.func15, Tryz.ntmps15
  go_wp2_with fail
  rw [HW.out]
  refine HTR.out.mono ?_
  rintro e w1 ⟨ta, tn, tc, sa, sn, sc, ra, rn, rc, FF, rfl, hO1, hF1, hb1⟩
  clear a0 a1 a2 a3 a4 HW HTR
  obtain ⟨u1, hu1⟩ : ∃ u1, w1.alloc (boxSh r.1 r.2.2.1 ta tn tc sa sn sc ra rn rc) = u1 := ⟨_, rfl⟩
  have hb2 : Below w1.heap.size w1 u1 := by rw [← hu1]; exact below_alloc
  have hT := inBox_new hO1
  rw [hu1] at hT
  have hb3 := hb1.trans (hb2.mono hb1.size)
  have hd : Below u1.heap.size u1 u1.drew := (Below.refl _ _).drew
  have hbd := hb3.trans (hd.mono hb3.size)
  have hTd := hT.below hd
  have hs1 := hb1.size
  have hne : w.heap.size + 1 ≠ w1.heap.size := by omega
  have HU1 := Hid.mk' hu1
  have hgd := HGC.out _ (hB.trans (hbd.mono hB.size))
  clear hu1 hO1 hT
  go_wp2_with fail
  rw [HU1.out]
  refine last.wp_region_later (S := fun w' => BoxIn w1.heap.size 27 [] (shVals r.1 r.2.2.1 ta tn tc sa sn sc ra rn rc) [] w' ∧ w'.cell? ⟨0, 0, none⟩ = some (.iface 180 (.pointer (some (A 0))))) 9 (by kernel_rfl) ⟨hTd.box, hgd⟩ (fun hHeld0 => ?_)
  generalize u1.drew = D5 at *
  refine last.wpAnyL_take (i := 0) (v := (aggSh r.1 r.2.2.1 ta tn tc sa sn sc ra rn rc)) rfl rfl (by kernel_rfl) (by kernel_rfl) (by kernel_rfl) (by kernel_rfl) (fun _ _ _ h => h) (Or.inl ⟨by rfl, ?_⟩) (by assumption) ?_
  · intro wq hSq; obtain ⟨q0, q1, q2, q3, q4⟩ := boxcells hSq.1; go_simp
  try simp only [Act.put, List.setIfInBounds_toArray, List.set_cons_zero, List.set_cons_succ]
  refine last.wpAnyL_take (i := 1) (v := .nilIface) rfl rfl (by kernel_rfl) (by kernel_rfl) (by kernel_rfl) (by kernel_rfl) (fun _ _ _ h => h) (Or.inl ⟨by rfl, ?_⟩) (by assumption) ?_
  · intro wq hSq; go_simp
  try simp only [Act.put, List.setIfInBounds_toArray, List.set_cons_zero, List.set_cons_succ]
  refine last.wpAnyL_take (i := 2) (v := (.bool true)) rfl rfl (by kernel_rfl) (by kernel_rfl) (by kernel_rfl) (by kernel_rfl) (fun _ _ _ h => h) (Or.inl ⟨by rfl, ?_⟩) (by assumption) ?_
  · intro wq hSq; go_simp
  try simp only [Act.put, List.setIfInBounds_toArray, List.set_cons_zero, List.set_cons_succ]
  refine last.wpAnyL_take (i := 3) (v := (.bool true)) rfl rfl (by kernel_rfl) (by kernel_rfl) (by kernel_rfl) (by kernel_rfl) (fun _ _ _ h => h) (Or.inl ⟨by rfl, ?_⟩) (by assumption) ?_
  · intro wq hSq; go_simp
  try simp only [Act.put, List.setIfInBounds_toArray, List.set_cons_zero, List.set_cons_succ]
  refine last.wpAnyL_take (i := 4) (v := undef) rfl rfl (by kernel_rfl) (by kernel_rfl) (by kernel_rfl) (by kernel_rfl) (fun _ _ _ h => h) (Or.inr ⟨by rfl, rfl⟩) (by assumption) ?_
  try simp only [Act.put, List.setIfInBounds_toArray, List.set_cons_zero, List.set_cons_succ]
  refine last.wpAnyL_take (i := 5) (v := undef) rfl rfl (by kernel_rfl) (by kernel_rfl) (by kernel_rfl) (by kernel_rfl) (fun _ _ _ h => h) (Or.inr ⟨by rfl, rfl⟩) (by assumption) ?_
  try simp only [Act.put, List.setIfInBounds_toArray, List.set_cons_zero, List.set_cons_succ]
  refine last.wpAnyL_take (i := 6) (v := undef) rfl rfl (by kernel_rfl) (by kernel_rfl) (by kernel_rfl) (by kernel_rfl) (fun _ _ _ h => h) (Or.inr ⟨by rfl, rfl⟩) (by assumption) ?_
  try simp only [Act.put, List.setIfInBounds_toArray, List.set_cons_zero, List.set_cons_succ]
  refine last.wpAnyL_take (i := 7) (v := (.bool true)) rfl rfl (by kernel_rfl) (by kernel_rfl) (by kernel_rfl) (by kernel_rfl) (fun _ _ _ h => h) (Or.inl ⟨by rfl, ?_⟩) (by assumption) ?_
  · intro wq hSq; go_simp
  try simp only [Act.put, List.setIfInBounds_toArray, List.set_cons_zero, List.set_cons_succ]
  have hR6 := hRB.below hbd
  have z0 := hR6.cell 0 _ rfl
  have z1 := hR6.cell 1 _ rfl
  have z2 := hR6.cell 2 _ rfl
  have z3 := hR6.cell 3 _ rfl
  have z4 := hR6.cell 4 _ rfl
  have hS5 := hR6.set5 (.int .i64 r.1) (.slice ta tn tc) (.int .i64 r.2.2.1) (.slice sa sn sc) (.slice ra rn rc)
  simp only [List.length_nil, Nat.zero_add] at z0 z1 z2 z3 z4 hS5
  have f0 := hR6.fz 0
  have f1 := hR6.fz 1
  have f2 := hR6.fz 2
  have f3 := hR6.fz 3
  have f4 := hR6.fz 4
  have hBw := hB.trans (hbd.mono hB.size)
  have hBz := hBw.grown hS5.2 hBw.size (fun j e => by cases e; omega)
  have hOz := hTd.own.keep (fun j hj => hS5.2.block j (hTd.own.lt j hj) (fun e => by have h1 := hF1 j hj; have h2 := Option.some.inj e; omega))
  have hzc0 := hS5.1.cell 0 _ rfl
  have hzc1 := hS5.1.cell 1 _ rfl
  have hzc2 := hS5.1.cell 2 _ rfl
  have hzc3 := hS5.1.cell 3 _ rfl
  have hzc4 := hS5.1.cell 4 _ rfl
  simp only [List.length_nil, Nat.zero_add] at hzc0 hzc1 hzc2 hzc3 hzc4
  have hTz := hTd.box.grown hS5.2 (fun e => by have h2 := Option.some.inj e; omega)
  have hgz := HGC.out _ hBz
  have HP := Hid.mk' (ret2_mk (w := w) (v := .bool true) hOz (fun k hk => by have h1 := hF1 k hk; have := hB.size; omega) hBz)
  refine last.wpAnyL_one (i := 8) (o := { dst := none, op := Op.store 27 (Operand.tmp 6) (Operand.tmp 22), type := 0, pos := "l09_shard.go:69", after := #[{ on := 0, ground := Ground.data }, { on := 6, ground := Ground.chain }, { on := 0, ground := Ground.phase }, { on := 1, ground := Ground.textOnly Departure.lateStores }, { on := 2, ground := Ground.textOnly Departure.lateStores }, { on := 3, ground := Ground.textOnly Departure.lateStores }, { on := 4, ground := Ground.textOnly Departure.lateStores }, { on := 5, ground := Ground.textOnly Departure.lateStores }, { on := 6, ground := Ground.textOnly Departure.lateStoresUnsure }, { on := 7, ground := Ground.textOnly Departure.lateStores }], guard := none }) (by kernel_rfl) rfl (fun K hK => ?_)
  go_simp
  refine hK.out _ _ ?_ (fun hHeld => ?_)
  · exact ⟨hTz, hgz⟩
  clear hK K hHeld0
  have hHeld0 := hHeld
  clear hHeld
  try simp only [Act.put, List.setIfInBounds_toArray, List.set_cons_zero, List.set_cons_succ]
  refine last.wpAnyL_last (o := { dst := some 7, op := Op.assign (Operand.tmp 29), type := 4, pos := "l09_shard.go:69", after := #[{ on := 7, ground := Ground.data }, { on := 8, ground := Ground.chain }, { on := 0, ground := Ground.phase }, { on := 1, ground := Ground.phase }, { on := 2, ground := Ground.phase }, { on := 3, ground := Ground.phase }, { on := 4, ground := Ground.phase }, { on := 5, ground := Ground.phase }, { on := 6, ground := Ground.phase }, { on := 7, ground := Ground.phase }, { on := 8, ground := Ground.phase }], guard := none }) (by kernel_rfl) rfl (by kernel_rfl) (fun K hK => ?_)
  go_simp
  refine hK.out _ _ ?_
  clear hK K
  clear hHeld0 hTz hOz hBz hBw hS5 hR6
  go_wp2_with fail
  refine bodyPost_ret (v := .tuple #[aggSh r.1 r.2.2.1 ta tn tc sa sn sc ra rn rc, .bool true]) ?_ rfl HP.out
  simp [results, Tryz.results15, go_sem, hzc0, hzc1, hzc2, hzc3, hzc4]
set_option maxRecDepth 100000 in
set_option maxHeartbeats 4000000 in
theorem dec_no_no (G : List Nat) (A : Nat → Addr) (la : Option Addr) (ln lc : Nat) (ma : Option Addr) (mn mc : Nat) (ha : Option Addr) (hn hc : Nat) (s : Shd) (tx : Int) (w : World) (hK : KS G A w) (r : Shd) (g : Nat) (hg : g ∈ G)
    (htr : ∀ wx, Below w.heap.size w wx → Calls Tryz.prog 32 #[aggSh s.1 s.2.2.1 la ln lc ma mn mc ha hn hc, .agg #[.int .i64 3, .int .i64 tx, .slice none 0 0], .func (.func 48) #[aggSh s.1 s.2.2.1 la ln lc ma mn mc ha hn hc] #[]] wx (Ret2 wx r (errV A tx (some g)))) :
    Calls Tryz.prog 15 #[aggSh s.1 s.2.2.1 la ln lc ma mn mc ha hn hc, .int .i64 tx, .bool false] w (Ret2 w r (.bool (decide (g = 1)))) := by
  obtain ⟨W, hW⟩ : ∃ W, (w.alloc (boxSh s.1 s.2.2.1 la ln lc ma mn mc ha hn hc)).alloc (boxSh 0 0 none 0 0 none 0 0 none 0 0) = W := ⟨_, rfl⟩
  have hba : Below w.heap.size w (w.alloc (boxSh s.1 s.2.2.1 la ln lc ma mn mc ha hn hc)) := below_alloc
  have hB : Below w.heap.size w W := by rw [← hW]; exact hba.alloc hba.size _
  have hX : BoxIn w.heap.size 27 [] (shVals s.1 s.2.2.1 la ln lc ma mn mc ha hn hc) [] W := by rw [← hW]; exact (boxIn_new w _ _).below below_alloc
  have hRB : BoxIn (w.heap.size + 1) 27 [] (shVals 0 0 none 0 0 none 0 0 none 0 0) [] W := by
    rw [← hW]
    have := boxIn_new (w.alloc (boxSh s.1 s.2.2.1 la ln lc ma mn mc ha hn hc)) (shVals 0 0 none 0 0 none 0 0 none 0 0) 27
    rwa [show (w.alloc (boxSh s.1 s.2.2.1 la ln lc ma mn mc ha hn hc)).heap.size = w.heap.size + 1 by simp] at this
  have hsW : w.heap.size + 1 < W.heap.size := hRB.lt
  have HW := Hid.mk' hW
  obtain ⟨a0, a1, a2, a3, a4⟩ := boxcells hX
  rw [← hW] at a0 a1 a2 a3 a4
  have HTR : Hid (Calls Tryz.prog 32 #[aggSh s.1 s.2.2.1 la ln lc ma mn mc ha hn hc, .agg #[.int .i64 3, .int .i64 tx, .slice none 0 0], .func (.func 48) #[aggSh s.1 s.2.2.1 la ln lc ma mn mc ha hn hc] #[]] W (Ret2 W r (.iface 107 (.agg #[.int .i64 tx, .iface 180 (.pointer (some (A g)))])))) := htr W hB
  have HIS := Hid.mk' (fun wx (hx : Below w.heap.size w wx) => is_ref tx g 1 hg (hK.sub _ (by decide)) wx (hK.below hx))
  have HGC := Hid.mk' (fun wx (hx : Below w.heap.size w wx) => (hK.below hx).cell 1 (hK.sub _ (by decide)))
  clear hW htr hba
  go_enter Tryz.func15, Tryz.ntmps15
  go_wp2_with fail
  rw [HW.out]
  refine HTR.out.mono ?_
  rintro e w1 ⟨ta, tn, tc, sa, sn, sc, ra, rn, rc, FF, rfl, hO1, hF1, hb1⟩
  clear a0 a1 a2 a3 a4 HW HTR
  obtain ⟨u1, hu1⟩ : ∃ u1, w1.alloc (boxSh r.1 r.2.2.1 ta tn tc sa sn sc ra rn rc) = u1 := ⟨_, rfl⟩
  have hb2 : Below w1.heap.size w1 u1 := by rw [← hu1]; exact below_alloc
  have hT := inBox_new hO1
  rw [hu1] at hT
  have hb3 := hb1.trans (hb2.mono hb1.size)
  have hd : Below u1.heap.size u1 u1.drew := (Below.refl _ _).drew
  have hbd := hb3.trans (hd.mono hb3.size)
  have hTd := hT.below hd
  have hs1 := hb1.size
  have hne : w.heap.size + 1 ≠ w1.heap.size := by omega
  have HU1 := Hid.mk' hu1
  have hgd := HGC.out _ (hB.trans (hbd.mono hB.size))
  clear hu1 hO1 hT
  go_wp2_with fail
  rw [HU1.out]
  refine last.wp_region_later (S := fun w' => BoxIn w1.heap.size 27 [] (shVals r.1 r.2.2.1 ta tn tc sa sn sc ra rn rc) [] w' ∧ w'.cell? ⟨1, 0, none⟩ = some (.iface 180 (.pointer (some (A 1))))) 9 (by kernel_rfl) ⟨hTd.box, hgd⟩ (fun hHeld0 => ?_)
  generalize u1.drew = D5 at *
  refine last.wpAnyL_take (i := 0) (v := (aggSh r.1 r.2.2.1 ta tn tc sa sn sc ra rn rc)) rfl rfl (by kernel_rfl) (by kernel_rfl) (by kernel_rfl) (by kernel_rfl) (fun _ _ _ h => h) (Or.inl ⟨by rfl, ?_⟩) (by assumption) ?_
  · intro wq hSq; obtain ⟨q0, q1, q2, q3, q4⟩ := boxcells hSq.1; go_simp
  try simp only [Act.put, List.setIfInBounds_toArray, List.set_cons_zero, List.set_cons_succ]
  refine last.wpAnyL_take (i := 1) (v := (.iface 107 (.agg #[.int .i64 tx, .iface 180 (.pointer (some (A g)))]))) rfl rfl (by kernel_rfl) (by kernel_rfl) (by kernel_rfl) (by kernel_rfl) (fun _ _ _ h => h) (Or.inl ⟨by rfl, ?_⟩) (by assumption) ?_
  · intro wq hSq; go_simp
  try simp only [Act.put, List.setIfInBounds_toArray, List.set_cons_zero, List.set_cons_succ]
  refine last.wpAnyL_take (i := 2) (v := (.bool false)) rfl rfl (by kernel_rfl) (by kernel_rfl) (by kernel_rfl) (by kernel_rfl) (fun _ _ _ h => h) (Or.inl ⟨by rfl, ?_⟩) (by assumption) ?_
  · intro wq hSq; go_simp
  try simp only [Act.put, List.setIfInBounds_toArray, List.set_cons_zero, List.set_cons_succ]
  refine last.wpAnyL_take (i := 3) (v := (.bool false)) rfl rfl (by kernel_rfl) (by kernel_rfl) (by kernel_rfl) (by kernel_rfl) (fun _ _ _ h => h) (Or.inl ⟨by rfl, ?_⟩) (by assumption) ?_
  · intro wq hSq; go_simp
  try simp only [Act.put, List.setIfInBounds_toArray, List.set_cons_zero, List.set_cons_succ]
  refine last.wpAnyL_take (i := 4) (v := (.iface 107 (.agg #[.int .i64 tx, .iface 180 (.pointer (some (A g)))]))) rfl rfl (by kernel_rfl) (by kernel_rfl) (by kernel_rfl) (by kernel_rfl) (fun _ _ _ h => h) (Or.inl ⟨by rfl, ?_⟩) (by assumption) ?_
  · intro wq hSq; go_simp
  try simp only [Act.put, List.setIfInBounds_toArray, List.set_cons_zero, List.set_cons_succ]
  refine last.wpAnyL_take (i := 5) (v := (.iface 180 (.pointer (some (A 1))))) rfl rfl (by kernel_rfl) (by kernel_rfl) (by kernel_rfl) (by kernel_rfl) (fun _ _ _ h => h) (Or.inl ⟨by rfl, ?_⟩) (by assumption) ?_
  · intro wq hSq; have q := hSq.2; go_simp
  try simp only [Act.put, List.setIfInBounds_toArray, List.set_cons_zero, List.set_cons_succ]
  refine last.wpAnyL_one (i := 6) (o := { dst := some 45, op := Op.call { callee := Callee.value (Operand.func 47), args := #[Operand.tmp 43, Operand.tmp 44], argTypes := #[65, 65] }, type := 4, pos := "l09_shard.go:72", after := #[{ on := 4, ground := Ground.data }, { on := 5, ground := Ground.data }, { on := 3, ground := Ground.chain }, { on := 3, ground := Ground.guard }], guard := some (3, false) }) (by kernel_rfl) rfl (fun K hK => ?_)
  refine stepc.step_call2g (by rfl) 47 (.tmp 43) (.tmp 44) _ rfl (fun _ _ => rfl) (.iface 107 (.agg #[.int .i64 tx, .iface 180 (.pointer (some (A g)))])) (.iface 180 (.pointer (some (A 1)))) (by kernel_rfl) (by kernel_rfl) _ (HIS.out _ (hB.trans (hbd.mono hB.size))) ?_
  rintro e w6 ⟨rfl, hb6⟩
  refine ⟨_, rfl, ?_⟩
  have hb7 := hbd.trans (hb6.mono hbd.size)
  have hT6 := hTd.below hb6
  refine hK.out _ _ ?_ (fun hHeld => ?_)
  · exact ⟨hT6.box, HGC.out _ (hB.trans (hb7.mono hB.size))⟩
  clear hK K hHeld0
  have hHeld0 := hHeld
  clear hHeld
  try simp only [Act.put, List.setIfInBounds_toArray, List.set_cons_zero, List.set_cons_succ]
  refine last.wpAnyL_take (i := 7) (v := (.bool (decide (g = 1)))) rfl rfl (by kernel_rfl) (by kernel_rfl) (by kernel_rfl) (by kernel_rfl) (fun _ _ _ h => h) (Or.inl ⟨by rfl, ?_⟩) (by assumption) ?_
  · intro wq hSq; go_simp
  try simp only [Act.put, List.setIfInBounds_toArray, List.set_cons_zero, List.set_cons_succ]
  have hR6 := hRB.below hb7
  have z0 := hR6.cell 0 _ rfl
  have z1 := hR6.cell 1 _ rfl
  have z2 := hR6.cell 2 _ rfl
  have z3 := hR6.cell 3 _ rfl
  have z4 := hR6.cell 4 _ rfl
  have hS5 := hR6.set5 (.int .i64 r.1) (.slice ta tn tc) (.int .i64 r.2.2.1) (.slice sa sn sc) (.slice ra rn rc)
  simp only [List.length_nil, Nat.zero_add] at z0 z1 z2 z3 z4 hS5
  have f0 := hR6.fz 0
  have f1 := hR6.fz 1
  have f2 := hR6.fz 2
  have f3 := hR6.fz 3
  have f4 := hR6.fz 4
  have hBw := hB.trans (hb7.mono hB.size)
  have hBz := hBw.grown hS5.2 hBw.size (fun j e => by cases e; omega)
  have hOz := hT6.own.keep (fun j hj => hS5.2.block j (hT6.own.lt j hj) (fun e => by have h1 := hF1 j hj; have h2 := Option.some.inj e; omega))
  have hzc0 := hS5.1.cell 0 _ rfl
  have hzc1 := hS5.1.cell 1 _ rfl
  have hzc2 := hS5.1.cell 2 _ rfl
  have hzc3 := hS5.1.cell 3 _ rfl
  have hzc4 := hS5.1.cell 4 _ rfl
  simp only [List.length_nil, Nat.zero_add] at hzc0 hzc1 hzc2 hzc3 hzc4
  have hTz := hT6.box.grown hS5.2 (fun e => by have h2 := Option.some.inj e; omega)
  have hgz := HGC.out _ hBz
  have HP := Hid.mk' (ret2_mk (w := w) (v := .bool (decide (g = 1))) hOz (fun k hk => by have h1 := hF1 k hk; have := hB.size; omega) hBz)
  refine last.wpAnyL_one (i := 8) (o := { dst := none, op := Op.store 27 (Operand.tmp 6) (Operand.tmp 39), type := 0, pos := "l09_shard.go:72", after := #[{ on := 0, ground := Ground.data }, { on := 6, ground := Ground.chain }, { on := 0, ground := Ground.phase }, { on := 1, ground := Ground.textOnly Departure.lateStores }, { on := 2, ground := Ground.textOnly Departure.lateStores }, { on := 3, ground := Ground.textOnly Departure.lateStores }, { on := 4, ground := Ground.textOnly Departure.lateStores }, { on := 5, ground := Ground.textOnly Departure.lateStores }, { on := 6, ground := Ground.textOnly Departure.lateStoresUnsure }, { on := 7, ground := Ground.textOnly Departure.lateStores }], guard := none }) (by kernel_rfl) rfl (fun K hK => ?_)
  go_simp
  refine hK.out _ _ ?_ (fun hHeld => ?_)
  · exact ⟨hTz, hgz⟩
  clear hK K hHeld0
  have hHeld0 := hHeld
  clear hHeld
  try simp only [Act.put, List.setIfInBounds_toArray, List.set_cons_zero, List.set_cons_succ]
  refine last.wpAnyL_last (o := { dst := some 7, op := Op.assign (Operand.tmp 46), type := 4, pos := "l09_shard.go:72", after := #[{ on := 7, ground := Ground.data }, { on := 8, ground := Ground.chain }, { on := 0, ground := Ground.phase }, { on := 1, ground := Ground.phase }, { on := 2, ground := Ground.phase }, { on := 3, ground := Ground.phase }, { on := 4, ground := Ground.phase }, { on := 5, ground := Ground.phase }, { on := 6, ground := Ground.phase }, { on := 7, ground := Ground.phase }, { on := 8, ground := Ground.phase }], guard := none }) (by kernel_rfl) rfl (by kernel_rfl) (fun K hK => ?_)
  go_simp
  refine hK.out _ _ ?_
  clear hK K
  clear hHeld0 hTz hOz hBz hBw hS5 hR6 hTd
  go_wp2_with fail
  refine bodyPost_ret (v := .tuple #[aggSh r.1 r.2.2.1 ta tn tc sa sn sc ra rn rc, .bool (decide (g = 1))]) ?_ rfl HP.out
  simp [results, Tryz.results15, go_sem, hzc0, hzc1, hzc2, hzc3, hzc4]
set_option maxRecDepth 100000 in
set_option maxHeartbeats 4000000 in
theorem dec_no_yes (G : List Nat) (A : Nat → Addr) (la : Option Addr) (ln lc : Nat) (ma : Option Addr) (mn mc : Nat) (ha : Option Addr) (hn hc : Nat) (s : Shd) (tx : Int) (w : World) (hK : KS G A w) (r : Shd) 
    (htr : ∀ wx, Below w.heap.size w wx → Calls Tryz.prog 32 #[aggSh s.1 s.2.2.1 la ln lc ma mn mc ha hn hc, .agg #[.int .i64 3, .int .i64 tx, .slice none 0 0], .func (.func 48) #[aggSh s.1 s.2.2.1 la ln lc ma mn mc ha hn hc] #[]] wx (Ret2 wx r (errV A tx none))) :
    Calls Tryz.prog 15 #[aggSh s.1 s.2.2.1 la ln lc ma mn mc ha hn hc, .int .i64 tx, .bool false] w (Ret2 w r (.bool true)) := by
  obtain ⟨W, hW⟩ : ∃ W, (w.alloc (boxSh s.1 s.2.2.1 la ln lc ma mn mc ha hn hc)).alloc (boxSh 0 0 none 0 0 none 0 0 none 0 0) = W := ⟨_, rfl⟩
  have hba : Below w.heap.size w (w.alloc (boxSh s.1 s.2.2.1 la ln lc ma mn mc ha hn hc)) := below_alloc
  have hB : Below w.heap.size w W := by rw [← hW]; exact hba.alloc hba.size _
  have hX : BoxIn w.heap.size 27 [] (shVals s.1 s.2.2.1 la ln lc ma mn mc ha hn hc) [] W := by rw [← hW]; exact (boxIn_new w _ _).below below_alloc
  have hRB : BoxIn (w.heap.size + 1) 27 [] (shVals 0 0 none 0 0 none 0 0 none 0 0) [] W := by
    rw [← hW]
    have := boxIn_new (w.alloc (boxSh s.1 s.2.2.1 la ln lc ma mn mc ha hn hc)) (shVals 0 0 none 0 0 none 0 0 none 0 0) 27
    rwa [show (w.alloc (boxSh s.1 s.2.2.1 la ln lc ma mn mc ha hn hc)).heap.size = w.heap.size + 1 by simp] at this
  have hsW : w.heap.size + 1 < W.heap.size := hRB.lt
  have HW := Hid.mk' hW
  obtain ⟨a0, a1, a2, a3, a4⟩ := boxcells hX
  rw [← hW] at a0 a1 a2 a3 a4
  have HTR : Hid (Calls Tryz.prog 32 #[aggSh s.1 s.2.2.1 la ln lc ma mn mc ha hn hc, .agg #[.int .i64 3, .int .i64 tx, .slice none 0 0], .func (.func 48) #[aggSh s.1 s.2.2.1 la ln lc ma mn mc ha hn hc] #[]] W (Ret2 W r .nilIface)) := htr W hB
  have HGC := Hid.mk' (fun wx (hx : Below w.heap.size w wx) => (hK.below hx).cell 1 (hK.sub _ (by decide)))
  clear hW htr hba
  go_enter Tryz.func15, Tryz.ntmps15
  go_wp2_with fail
  rw [HW.out]
  refine HTR.out.mono ?_
  rintro e w1 ⟨ta, tn, tc, sa, sn, sc, ra, rn, rc, FF, rfl, hO1, hF1, hb1⟩
  clear a0 a1 a2 a3 a4 HW HTR
  obtain ⟨u1, hu1⟩ : ∃ u1, w1.alloc (boxSh r.1 r.2.2.1 ta tn tc sa sn sc ra rn rc) = u1 := ⟨_, rfl⟩
  have hb2 : Below w1.heap.size w1 u1 := by rw [← hu1]; exact below_alloc
  have hT := inBox_new hO1
  rw [hu1] at hT
  have hb3 := hb1.trans (hb2.mono hb1.size)
  have hd : Below u1.heap.size u1 u1.drew := (Below.refl _ _).drew
  have hbd := hb3.trans (hd.mono hb3.size)
  have hTd := hT.below hd
  have hs1 := hb1.size
  have hne : w.heap.size + 1 ≠ w1.heap.size := by omega
  have HU1 := Hid.mk' hu1
  have hgd := HGC.out _ (hB.trans (hbd.mono hB.size))
  clear hu1 hO1 hT
  go_wp2_with fail
  rw [HU1.out]
  refine last.wp_region_later (S := fun w' => BoxIn w1.heap.size 27 [] (shVals r.1 r.2.2.1 ta tn tc sa sn sc ra rn rc) [] w' ∧ w'.cell? ⟨1, 0, none⟩ = some (.iface 180 (.pointer (some (A 1))))) 9 (by kernel_rfl) ⟨hTd.box, hgd⟩ (fun hHeld0 => ?_)
  generalize u1.drew = D5 at *
  refine last.wpAnyL_take (i := 0) (v := (aggSh r.1 r.2.2.1 ta tn tc sa sn sc ra rn rc)) rfl rfl (by kernel_rfl) (by kernel_rfl) (by kernel_rfl) (by kernel_rfl) (fun _ _ _ h => h) (Or.inl ⟨by rfl, ?_⟩) (by assumption) ?_
  · intro wq hSq; obtain ⟨q0, q1, q2, q3, q4⟩ := boxcells hSq.1; go_simp
  try simp only [Act.put, List.setIfInBounds_toArray, List.set_cons_zero, List.set_cons_succ]
  refine last.wpAnyL_take (i := 1) (v := .nilIface) rfl rfl (by kernel_rfl) (by kernel_rfl) (by kernel_rfl) (by kernel_rfl) (fun _ _ _ h => h) (Or.inl ⟨by rfl, ?_⟩) (by assumption) ?_
  · intro wq hSq; go_simp
  try simp only [Act.put, List.setIfInBounds_toArray, List.set_cons_zero, List.set_cons_succ]
  refine last.wpAnyL_take (i := 2) (v := (.bool true)) rfl rfl (by kernel_rfl) (by kernel_rfl) (by kernel_rfl) (by kernel_rfl) (fun _ _ _ h => h) (Or.inl ⟨by rfl, ?_⟩) (by assumption) ?_
  · intro wq hSq; go_simp
  try simp only [Act.put, List.setIfInBounds_toArray, List.set_cons_zero, List.set_cons_succ]
  refine last.wpAnyL_take (i := 3) (v := (.bool true)) rfl rfl (by kernel_rfl) (by kernel_rfl) (by kernel_rfl) (by kernel_rfl) (fun _ _ _ h => h) (Or.inl ⟨by rfl, ?_⟩) (by assumption) ?_
  · intro wq hSq; go_simp
  try simp only [Act.put, List.setIfInBounds_toArray, List.set_cons_zero, List.set_cons_succ]
  refine last.wpAnyL_take (i := 4) (v := undef) rfl rfl (by kernel_rfl) (by kernel_rfl) (by kernel_rfl) (by kernel_rfl) (fun _ _ _ h => h) (Or.inr ⟨by rfl, rfl⟩) (by assumption) ?_
  try simp only [Act.put, List.setIfInBounds_toArray, List.set_cons_zero, List.set_cons_succ]
  refine last.wpAnyL_take (i := 5) (v := undef) rfl rfl (by kernel_rfl) (by kernel_rfl) (by kernel_rfl) (by kernel_rfl) (fun _ _ _ h => h) (Or.inr ⟨by rfl, rfl⟩) (by assumption) ?_
  try simp only [Act.put, List.setIfInBounds_toArray, List.set_cons_zero, List.set_cons_succ]
  refine last.wpAnyL_take (i := 6) (v := undef) rfl rfl (by kernel_rfl) (by kernel_rfl) (by kernel_rfl) (by kernel_rfl) (fun _ _ _ h => h) (Or.inr ⟨by rfl, rfl⟩) (by assumption) ?_
  try simp only [Act.put, List.setIfInBounds_toArray, List.set_cons_zero, List.set_cons_succ]
  refine last.wpAnyL_take (i := 7) (v := (.bool true)) rfl rfl (by kernel_rfl) (by kernel_rfl) (by kernel_rfl) (by kernel_rfl) (fun _ _ _ h => h) (Or.inl ⟨by rfl, ?_⟩) (by assumption) ?_
  · intro wq hSq; go_simp
  try simp only [Act.put, List.setIfInBounds_toArray, List.set_cons_zero, List.set_cons_succ]
  have hR6 := hRB.below hbd
  have z0 := hR6.cell 0 _ rfl
  have z1 := hR6.cell 1 _ rfl
  have z2 := hR6.cell 2 _ rfl
  have z3 := hR6.cell 3 _ rfl
  have z4 := hR6.cell 4 _ rfl
  have hS5 := hR6.set5 (.int .i64 r.1) (.slice ta tn tc) (.int .i64 r.2.2.1) (.slice sa sn sc) (.slice ra rn rc)
  simp only [List.length_nil, Nat.zero_add] at z0 z1 z2 z3 z4 hS5
  have f0 := hR6.fz 0
  have f1 := hR6.fz 1
  have f2 := hR6.fz 2
  have f3 := hR6.fz 3
  have f4 := hR6.fz 4
  have hBw := hB.trans (hbd.mono hB.size)
  have hBz := hBw.grown hS5.2 hBw.size (fun j e => by cases e; omega)
  have hOz := hTd.own.keep (fun j hj => hS5.2.block j (hTd.own.lt j hj) (fun e => by have h1 := hF1 j hj; have h2 := Option.some.inj e; omega))
  have hzc0 := hS5.1.cell 0 _ rfl
  have hzc1 := hS5.1.cell 1 _ rfl
  have hzc2 := hS5.1.cell 2 _ rfl
  have hzc3 := hS5.1.cell 3 _ rfl
  have hzc4 := hS5.1.cell 4 _ rfl
  simp only [List.length_nil, Nat.zero_add] at hzc0 hzc1 hzc2 hzc3 hzc4
  have hTz := hTd.box.grown hS5.2 (fun e => by have h2 := Option.some.inj e; omega)
  have hgz := HGC.out _ hBz
  have HP := Hid.mk' (ret2_mk (w := w) (v := .bool true) hOz (fun k hk => by have h1 := hF1 k hk; have := hB.size; omega) hBz)
  refine last.wpAnyL_one (i := 8) (o := { dst := none, op := Op.store 27 (Operand.tmp 6) (Operand.tmp 39), type := 0, pos := "l09_shard.go:72", after := #[{ on := 0, ground := Ground.data }, { on := 6, ground := Ground.chain }, { on := 0, ground := Ground.phase }, { on := 1, ground := Ground.textOnly Departure.lateStores }, { on := 2, ground := Ground.textOnly Departure.lateStores }, { on := 3, ground := Ground.textOnly Departure.lateStores }, { on := 4, ground := Ground.textOnly Departure.lateStores }, { on := 5, ground := Ground.textOnly Departure.lateStores }, { on := 6, ground := Ground.textOnly Departure.lateStoresUnsure }, { on := 7, ground := Ground.textOnly Departure.lateStores }], guard := none }) (by kernel_rfl) rfl (fun K hK => ?_)
  go_simp
  refine hK.out _ _ ?_ (fun hHeld => ?_)
  · exact ⟨hTz, hgz⟩
  clear hK K hHeld0
  have hHeld0 := hHeld
  clear hHeld
  try simp only [Act.put, List.setIfInBounds_toArray, List.set_cons_zero, List.set_cons_succ]
  refine last.wpAnyL_last (o := { dst := some 7, op := Op.assign (Operand.tmp 46), type := 4, pos := "l09_shard.go:72", after := #[{ on := 7, ground := Ground.data }, { on := 8, ground := Ground.chain }, { on := 0, ground := Ground.phase }, { on := 1, ground := Ground.phase }, { on := 2, ground := Ground.phase }, { on := 3, ground := Ground.phase }, { on := 4, ground := Ground.phase }, { on := 5, ground := Ground.phase }, { on := 6, ground := Ground.phase }, { on := 7, ground := Ground.phase }, { on := 8, ground := Ground.phase }], guard := none }) (by kernel_rfl) rfl (by kernel_rfl) (fun K hK => ?_)
  go_simp
  refine hK.out _ _ ?_
  clear hK K
  clear hHeld0 hTz hOz hBz hBw hS5 hR6
  go_wp2_with fail
  refine bodyPost_ret (v := .tuple #[aggSh r.1 r.2.2.1 ta tn tc sa sn sc ra rn rc, .bool true]) ?_ rfl HP.out
  simp [results, Tryz.results15, go_sem, hzc0, hzc1, hzc2, hzc3, hzc4]
theorem recOk_two {tx kind : Int} (hk : kind = 2 ∨ kind = 3) : recOk (kind, tx, []) = txOk tx := by
  cases h : txOk tx with
  | true => exact recOk_end h kind hk
  | false =>
    cases h2 : recOk (kind, tx, []) with
    | false => rfl
    | true =>
      have := ((recOk_iff _).1 h2).1
      have h3 : txOk tx = true := by simpa [txOk] using this
      rw [h] at h3; cases h3
theorem decide_form {s : Shd} {tx : Int} {yes : Bool} {kind : Int} (hk : kind = 2 ∨ kind = 3) (h : (shardOk s && recOk (kind, tx, [])) = false) : decideR s tx yes = (s, false) := by
  unfold decideR
  split
  · next e =>
    rw [e, recOk_two hk] at h
    have h2 : txOk tx = false := by simpa using h
    unfold decideS
    rw [if_pos h2]
  · rfl
theorem decide_of {s : Shd} {tx : Int} (yes : Bool) (h : Right s) (ht : txOk tx = true) : decideR s tx yes = if lastKind tx s.2.1 = 1 then (written s (if yes = true then 2 else 3, tx, []), true) else if lastKind tx s.2.1 = 2 then (s, yes) else if lastKind tx s.2.1 = 3 then (s, !yes) else if yes = true ∨ 300 ≤ s.2.1.length + s.2.2.2.2.length then (s, false) else (written s (3, tx, []), true) := by
  unfold decideR decideS
  rw [if_pos ((shardOk_iff s).2 h), if_neg (by rw [ht]; simp), outc_stand h]
  rcases four h tx with e | e | e | e
  all_goals (rw [e]; simp [standCode])
theorem impl_decide (G : List Nat) (A : Nat → Addr) (la : Option Addr) (ln lc : Nat) (ma : Option Addr) (mn mc : Nat) (ha : Option Addr) (hn hc : Nat) (s : Shd) (tx : Int) (yes : Bool) (w : World) (h : SeeSh w la ln lc ma mn mc ha hn hc s) (hpl : PlainR w la ln) (hb : Bound s) (htx : (Lit.int .i64 tx).wf = true) (hma : (ma = none ∧ mc = 0) ∨ ∃ mb mo, ma = some ⟨mb, mo, none⟩) (hK : KS G A w) (hgr : 4 ∈ G) :
    Calls Tryz.prog 15 #[aggSh s.1 s.2.2.1 la ln lc ma mn mc ha hn hc, .int .i64 tx, .bool yes] w (Ret2 w (decideR s tx yes).1 (.bool (decideR s tx yes).2)) := by
  have hsr : ∀ kind : Int, kind = 2 ∨ kind = 3 → smallR (kind, tx, ([] : List Od)) := fun kind hk => ⟨ints_wf kind hk, htx, fun o ho => absurd ho List.not_mem_nil⟩
  have hks : ∀ p ∈ ([] : List Od), p.2.1.size ≤ 1099511627776 := fun p hp => absurd hp List.not_mem_nil
  cases yes with
  | true =>
    cases hok : (shardOk s && recOk (2, tx, [])) with
    | false =>
      rw [decide_form (.inl rfl) hok]
      exact dec_yes_no G A la ln lc ma mn mc ha hn hc s tx w hK s 2 (hK.sub _ (by decide)) (fun wx hx => tried_form G A la ln lc ma mn mc ha hn hc s 2 tx none 0 0 [] wx (h.below hx) (plain_below h.log hpl hx) hb (slo_nil _ _) hks (hsr 2 (.inl rfl)) (Nat.zero_le _) (hK.below hx) _ hok)
    | true =>
      have hok2 := hok
      rw [Bool.and_eq_true, recOk_two (.inl rfl)] at hok2
      have hR := (shardOk_iff s).1 hok2.1
      have ht : 1 ≤ tx ∧ tx ≤ 1000000 := by simpa [txOk] using hok2.2
      rw [decide_of true hR hok2.2]
      by_cases e1 : lastKind tx s.2.1 = 1
      · rw [if_pos e1]
        exact dec_yes_yes G A la ln lc ma mn mc ha hn hc s tx w hK (written s (2, tx, [])) (fun wx hx => tried_finish_yes G A la ln lc ma mn mc ha hn hc s 2 tx none 0 0 [] wx (h.below hx) (plain_below h.log hpl hx) hb (slo_nil _ _) hks (hsr 2 (.inl rfl)) (Nat.zero_le _) (hK.below hx) hok (written s (2, tx, [])) (fun wy hy => finish_yes G A la ln lc ma mn mc ha hn hc s tx wy ((h.below hx).below hy) hR ht ((hK.below hx).below hy) e1 hma))
      · rw [if_neg e1]
        have hno := dec_yes_no G A la ln lc ma mn mc ha hn hc s tx w hK s (senOf (lastKind tx s.2.1)) (hK.sub _ (senOf_mem _)) (fun wx hx => tried_finish_no G A la ln lc ma mn mc ha hn hc s 2 tx none 0 0 [] wx (h.below hx) (plain_below h.log hpl hx) hb (slo_nil _ _) hks (hsr 2 (.inl rfl)) (Nat.zero_le _) (hK.below hx) hok (senOf (lastKind tx s.2.1)) (fun wy hy => finish_no G A la ln lc ma mn mc ha hn hc s tx wy ((h.below hx).below hy) hR ht ((hK.below hx).below hy) e1))
        rcases four hR tx with e | e | e | e
        · rw [e] at hno ⊢; exact hno
        · exact absurd e e1
        · rw [e] at hno ⊢; exact hno
        · rw [e] at hno ⊢; exact hno
  | false =>
    cases hok : (shardOk s && recOk (3, tx, [])) with
    | false =>
      rw [decide_form (.inr rfl) hok]
      exact dec_no_no G A la ln lc ma mn mc ha hn hc s tx w hK s 2 (hK.sub _ (by decide)) (fun wx hx => tried_form G A la ln lc ma mn mc ha hn hc s 3 tx none 0 0 [] wx (h.below hx) (plain_below h.log hpl hx) hb (slo_nil _ _) hks (hsr 3 (.inr rfl)) (Nat.zero_le _) (hK.below hx) _ hok)
    | true =>
      have hok2 := hok
      rw [Bool.and_eq_true, recOk_two (.inr rfl)] at hok2
      have hR := (shardOk_iff s).1 hok2.1
      have ht : 1 ≤ tx ∧ tx ≤ 1000000 := by simpa [txOk] using hok2.2
      rw [decide_of false hR hok2.2]
      have hyes := fun (hdo : ∀ wy, Below w.heap.size w wy → Calls Tryz.prog 48 #[aggSh s.1 s.2.2.1 la ln lc ma mn mc ha hn hc, .agg #[.int .i64 3, .int .i64 tx, .slice none 0 0]] wy (DoPost A (written s (3, tx, [])) none wy)) => dec_no_yes G A la ln lc ma mn mc ha hn hc s tx w hK (written s (3, tx, [])) (fun wx hx => tried_letgo_yes G A la ln lc ma mn mc ha hn hc s 3 tx none 0 0 [] wx (h.below hx) (plain_below h.log hpl hx) hb (slo_nil _ _) hks (hsr 3 (.inr rfl)) (Nat.zero_le _) (hK.below hx) hok (written s (3, tx, [])) (fun wy hy => hdo wy (hx.trans (hy.mono hx.size))))
      have hno := fun (g : Nat) (hg : g ∈ G) (hdo : ∀ wy, Below w.heap.size w wy → Calls Tryz.prog 48 #[aggSh s.1 s.2.2.1 la ln lc ma mn mc ha hn hc, .agg #[.int .i64 3, .int .i64 tx, .slice none 0 0]] wy fun e w' => e = .returned (.tuple #[.agg #[.int .i64 0, .slice none 0 0, .int .i64 0, .slice none 0 0, .slice none 0 0], .iface 180 (.pointer (some (A g)))]) ∧ Below wy.heap.size wy w') => dec_no_no G A la ln lc ma mn mc ha hn hc s tx w hK s g hg (fun wx hx => tried_letgo_no G A la ln lc ma mn mc ha hn hc s 3 tx none 0 0 [] wx (h.below hx) (plain_below h.log hpl hx) hb (slo_nil _ _) hks (hsr 3 (.inr rfl)) (Nat.zero_le _) (hK.below hx) hok g (fun wy hy => hdo wy (hx.trans (hy.mono hx.size))))
      rcases four hR tx with e | e | e | e
      · rw [e]
        by_cases hf : 300 ≤ s.2.1.length + s.2.2.2.2.length
        · have q := hno 4 hgr (fun wy hy => letgo_full G A la ln lc ma mn mc ha hn hc s tx wy (h.below hy) hR ht (hK.below hy) e hgr hf)
          simpa [hf] using q
        · have q := hyes (fun wy hy => letgo_new G A la ln lc ma mn mc ha hn hc s tx wy (h.below hy) hR ht (hK.below hy) e (by omega))
          simpa [hf] using q
      · rw [e]
        have q := hyes (fun wy hy => letgo_held G A la ln lc ma mn mc ha hn hc s tx wy (h.below hy) hR ht (hK.below hy) e)
        simpa using q
      · rw [e]
        have q := hno 0 (hK.sub _ (by decide)) (fun wy hy => letgo_done G A la ln lc ma mn mc ha hn hc s tx wy (h.below hy) hR ht (hK.below hy) e)
        simpa using q
      · rw [e]
        have q := hno 1 (hK.sub _ (by decide)) (fun wy hy => letgo_gone G A la ln lc ma mn mc ha hn hc s tx wy (h.below hy) hR ht (hK.below hy) e)
        simpa using q
end Go.Proofs.YteniflajiklffaaGreatDoor.recs
