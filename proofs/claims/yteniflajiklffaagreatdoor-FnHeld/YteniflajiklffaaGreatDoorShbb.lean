/- The program's shard writes down what it holds. -/
import Derived.Test.YteniflajiklffaaGreatDoorShax
namespace Go.Proofs.YteniflajiklffaaGreatDoor.stepc
open Go
theorem step_call3 {P : Program} {ops : Array Oper} {o : Oper} {a : Act} {w : World} {K : Act → World → Prop} {Q : Exit → Act → World → Prop} {E : Prop} (hgd : o.guard = none) (f : FuncId) (x y z : Operand) (ts : Array TypeId)
    (ho : o.op = .call { callee := .value (.func f), args := #[x, y, z], argTypes := ts }) (hent : ∀ args w, (callFunc f args).run P w = .ok (.enter f args) w)
    (v1 v2 v3 : Value) (h1 : a.eval x = v1) (h2 : a.eval y = v2) (h3 : a.eval z = v3) (R : Ending → World → Prop) (hc : Calls P f #[v1, v2, v3] w R)
    (h : ∀ e w', R e w' → ∃ v, e = .returned v ∧ K (a.put o.dst v) w') :
    if Region.wanted o (yielded ops a.tmps) = true then Oper.wp P o a w K Q else E := by
  have hw : Region.wanted o (yielded ops a.tmps) = true := by simp [Region.wanted, hgd]
  rw [if_pos hw]
  unfold Oper.wp execOp
  have hf : a.eval (.func f) = .func (.func f) #[] #[] := rfl
  have hof : (Deferred.ofValue (Value.func (Fn.func f) #[] #[]) #[v1, v2, v3]).run P w = .ok { target := .fn (.func f) #[], args := #[v1, v2, v3] } w := rfl
  simp only [ho, resolve, invoke, Sem.run_bind, List.map_toArray, List.map_cons, List.map_nil, h1, h2, h3, hf, hof, Result.andThen_ok, hent]
  show Calls P f #[v1, v2, v3] w _
  exact hc.mono (fun e w' he => by obtain ⟨v, rfl, hr⟩ := h e w' he; exact hr)
end Go.Proofs.YteniflajiklffaaGreatDoor.stepc
namespace Go.Proofs.YteniflajiklffaaGreatDoor.recs
open Go Go.RowKit Go.Proofs.YteniflajiklffaaGreatDoor.base Go.Proofs.YteniflajiklffaaGreatDoor.pairs Go.Proofs.YteniflajiklffaaGreatDoor.ords Go.Proofs.YteniflajiklffaaGreatDoor.helps Go.Proofs.YteniflajiklffaaGreatDoor.help Go.Proofs.YteniflajiklffaaGreatDoor.lay Go.Proofs.YteniflajiklffaaGreatDoor.sent
set_option linter.unusedVariables false
set_option linter.unusedSimpArgs false

set_option maxRecDepth 100000 in
set_option maxHeartbeats 8000000 in
theorem hold_fit (G : List Nat) (A : Nat → Addr) (la : Option Addr) (ln lc : Nat) (ma : Option Addr) (mn mc : Nat) (ha : Option Addr) (hn hc : Nat) (s : Shd) (tx : Int) (a : Option Addr) (len cap : Nat) (ops : List Od) (w : World) (h : SeeSh w la ln lc ma mn mc ha hn hc s) (hR : Right s) (ho : SlO w a len ops) (hok : recOk (1, tx, ops) = true) (hK : KS G A w) (hst : lastKind tx s.2.1 = 0) (hgf : 5 ∈ G) (hcnd : ¬ (60 < s.2.2.2.1.length + sumOps s.2.2.2.2 + ops.length ∨ 300 - (s.2.1.length : Int) - (s.2.2.2.2.length : Int) < 2)) (u : St) (hfit : replay (s.2.1 ++ [(1, tx, ops)]) = some u) :
    Calls Tryz.prog 33 #[aggSh s.1 s.2.2.1 la ln lc ma mn mc ha hn hc, .agg #[.int .i64 1, .int .i64 tx, .slice a len cap]] w (DoPost A (s.1, s.2.1 ++ [(1, tx, ops)], s.2.2.1, u.1, u.2.1) none w) := by
  obtain ⟨i0, hi, hz0, hz1, hz2⟩ := info_parts infoRW
  obtain ⟨W, hW⟩ : ∃ W, ((w.alloc (boxSh s.1 s.2.2.1 la ln lc ma mn mc ha hn hc)).alloc (.cells #[.int .i64 1, .int .i64 tx, .slice a len cap] 41)).alloc (boxSh 0 0 none 0 0 none 0 0 none 0 0) = W := ⟨_, rfl⟩
  have hb0 : Below w.heap.size w (w.alloc (boxSh s.1 s.2.2.1 la ln lc ma mn mc ha hn hc)) := below_alloc
  have hb1 : Below w.heap.size w ((w.alloc (boxSh s.1 s.2.2.1 la ln lc ma mn mc ha hn hc)).alloc (.cells #[.int .i64 1, .int .i64 tx, .slice a len cap] 41)) := hb0.alloc hb0.size _
  have hB : Below w.heap.size w W := by rw [← hW]; exact hb1.alloc hb1.size _
  have hX : BoxIn w.heap.size 27 [] (shVals s.1 s.2.2.1 la ln lc ma mn mc ha hn hc) [] W := by rw [← hW]; exact ((boxIn_new w _ _).below below_alloc).below below_alloc
  have hC : BoxR (w.heap.size + 1) 1 tx (.slice a len cap) W := by
    rw [← hW]
    have := (boxR_new (w.alloc (boxSh s.1 s.2.2.1 la ln lc ma mn mc ha hn hc)) 1 tx (.slice a len cap)).below (below_alloc (o := boxSh 0 0 none 0 0 none 0 0 none 0 0))
    rwa [show (w.alloc (boxSh s.1 s.2.2.1 la ln lc ma mn mc ha hn hc)).heap.size = w.heap.size + 1 by simp] at this
  have hRB : BoxIn (w.heap.size + 1 + 1) 27 [] (shVals 0 0 none 0 0 none 0 0 none 0 0) [] W := by
    rw [← hW]
    have := boxIn_new ((w.alloc (boxSh s.1 s.2.2.1 la ln lc ma mn mc ha hn hc)).alloc (.cells #[.int .i64 1, .int .i64 tx, .slice a len cap] 41)) (shVals 0 0 none 0 0 none 0 0 none 0 0) 27
    rwa [show ((w.alloc (boxSh s.1 s.2.2.1 la ln lc ma mn mc ha hn hc)).alloc (.cells #[.int .i64 1, .int .i64 tx, .slice a len cap] 41)).heap.size = w.heap.size + 1 + 1 by simp] at this
  have hsW : w.heap.size + 1 + 1 < W.heap.size := hRB.lt
  have HXC := Hid.mk' (fun wx (hx : Below W.heap.size W wx) => (show _ ∧ _ ∧ _ ∧ _ ∧ _ from by
    have a0 := (hX.below hx).cell 0 _ rfl
    have a1 := (hX.below hx).cell 1 _ rfl
    have a2 := (hX.below hx).cell 2 _ rfl
    have a3 := (hX.below hx).cell 3 _ rfl
    have a4 := (hX.below hx).cell 4 _ rfl
    simp only [List.length_nil, Nat.zero_add] at a0 a1 a2 a3 a4
    exact ⟨a0, a1, a2, a3, a4⟩))
  have HCC := Hid.mk' (fun wx (hx : Below W.heap.size W wx) => (hC.below hx).cells)
  have hKW := hK.below hB
  have hroom := hR.room
  obtain ⟨l1, l2, l3⟩ := SeeSh.lens h
  have hmn : s.2.2.2.1.length ≤ 60 := by
    obtain ⟨seen, hm⟩ := hR.made
    exact ((pairsOk_iff _).1 (replay_ok hm).1).2
  have HST := Hid.mk' (i_standing G A la ln lc ma mn mc ha hn hc s tx W (h.below hB) hKW)
  have HIS := Hid.mk' (fun wx (hx : Below W.heap.size W wx) => (is_ (senOf (lastKind tx s.2.1)) 3 (hK.sub _ (senOf_mem _)) (hK.sub _ (by decide)) wx (hKW.below hx)).mono (fun e w' (hp : e = .returned (.bool (decide (senOf (lastKind tx s.2.1) = 3))) ∧ w' = wx) => (⟨hp.1, hp.2.symm⟩ : e = .returned (.bool (decide (senOf (lastKind tx s.2.1) = 3))) ∧ wx = w')))
  have HGN := Hid.mk' (fun wx (hx : Below W.heap.size W wx) => (hKW.below hx).cell 3 (hK.sub _ (by decide)))
  have HHK := Hid.mk' (fun wx (hx : Below W.heap.size W wx) => i_heldKeys la ln lc ma mn mc ha hn hc s wx ((h.below hB).below hx) (fun k => by
    obtain ⟨seen, hm, ht⟩ := hR.tame
    have h8 := sumOps_8 s.2.2.2.2 ht.eight
    have h9 : sumOps (s.2.2.2.2.take k) ≤ sumOps s.2.2.2.2 := by
      have e : sumOps s.2.2.2.2 = sumOps (s.2.2.2.2.take k) + sumOps (s.2.2.2.2.drop k) := by rw [← sumOps_append, List.take_append_drop]
      omega
    omega))
  have HRM := Hid.mk' (fun wx => i_room la ln lc ma mn mc ha hn hc s wx (by omega))
  have hsk : sumOps s.2.2.2.2 ≤ 100000 := by
    obtain ⟨seen, hm, ht⟩ := hR.tame
    have h8 := sumOps_8 s.2.2.2.2 ht.eight
    omega
  have hlen8 : len ≤ 8 := by
    have h1 : ops.length ≤ 8 := (ok_eight hok).1
    have h2 := ho.1
    omega
  have hsn : senOf (lastKind tx s.2.1) = 3 := by rw [hst]; rfl
  rw [decide_eq_true hsn] at HIS
  rw [hsn] at HST HIS
  have HGF := Hid.mk' (fun wx (hx : Below w.heap.size w wx) => (hK.below hx).cell 5 hgf)
  have hbd := right_bd hR
  have htxw : (Lit.int .i64 tx).wf = true := WalkArith.wf_i64 (by have q := ((recOk_iff _).1 hok).1; simp only [] at q; omega)
  have HOR := Hid.mk' (fun wx (hx : Below W.heap.size W wx) => i_ownRecs la ln lc s.2.1 wx ((h.below hB).below hx).log (by omega) (fun r hr => (hbd.few r hr).1))
  have HRC := Hid.mk' (fun wx (hx : Below W.heap.size W wx) => i_ownRec 1 tx a len cap ops wx ((ho.below hB).below hx) (by omega))
  have HSO := Hid.mk' (fun wx (g c : Nat) (hs : List Value) (hq : OwnR wx 0 (.slice (some ⟨g, 0, none⟩) (ln + 1) c) (s.2.1 ++ [((1 : Int), tx, ops)]) hs) => i_shardOf s.1 s.2.2.1 (some ⟨g, 0, none⟩) (ln + 1) c (s.2.1 ++ [((1 : Int), tx, ops)]) wx hq.sl hq.plain (few_ok (fun r hr => by
    rcases List.mem_append.1 hr with e | e
    · exact hR.recOk r e
    · rw [List.mem_singleton.1 e]; exact hok)) (by omega))
  rw [hfit] at HSO
  have hsmr : smallR ((1 : Int), tx, ops) := ⟨rfl, htxw, ho.2.2.1⟩
  have HL1 := Hid.mk' l1
  have hc3 : ln + 1 ≤ maxLen := by unfold maxLen; omega
  have hc4 : (ln + 1) * 40 ≤ 140737488355328 := by omega
  have hid := h.id
  have hsu := h.sure
  rw [ho.1] at hcnd
  generalize sumOps s.2.2.2.2 = sk at *
  rw [l1, l2, l3] at hcnd
  have hw1 : IntKind.i64.wrap ((mn : Int) + (sk : Int)) = (mn : Int) + (sk : Int) := wraps_i64 _ (by omega) (by omega)
  have hw2 : IntKind.i64.wrap ((mn : Int) + (sk : Int) + (len : Int)) = (mn : Int) + (sk : Int) + (len : Int) := wraps_i64 _ (by omega) (by omega)
  have k1 : decide ((60 : Int) < (mn : Int) + (sk : Int) + (len : Int)) = false := decide_eq_false (by omega)
  have k2 : decide (300 - (ln : Int) - (hn : Int) < 2) = false := decide_eq_false (by omega)
  have HW := Hid.mk' hW
  obtain ⟨a0, a1, a2, a3, a4⟩ := HXC.out W (Below.refl _ _)
  obtain ⟨c0, c1, c2⟩ := HCC.out W (Below.refl _ _)
  rw [← hW] at a0 a1 a2 a3 a4 c0 c1 c2
  clear hW hb0 hb1 hsn hst hroom l1 l2 l3 hmn hcnd hfit hbd
  go_enter Tryz.func33, Tryz.ntmps33
  go_wp2_with fail
  rw [HW.out]
  refine HST.out.mono ?_
  rintro e w1 ⟨rfl, hb2⟩
  clear a0 a1 a2 a3 a4 c0 c1 c2 HST HW
  have gN := HGN.out w1 hb2
  go_wp2_with fail
  refine (HIS.out w1 hb2).mono ?_
  rintro e w2 ⟨rfl, hw2⟩
  subst hw2
  clear gN
  have hX2 := hX.below hb2
  have hC2 := hC.below hb2
  have hXlt := hX2.lt
  obtain ⟨c0, c1, c2⟩ := hC2.cells
  have hClt : w.heap.size + 1 < w1.heap.size := by have := hb2.size; omega
  have o0 := last.On.cell (B := w1.heap.size) (HXC.out _ hb2).1 hXlt
  have o1 := last.On.cell (B := w1.heap.size) (HXC.out _ hb2).2.1 hXlt
  have o2 := last.On.cell (B := w1.heap.size) (HXC.out _ hb2).2.2.1 hXlt
  have o3 := last.On.cell (B := w1.heap.size) (HXC.out _ hb2).2.2.2.1 hXlt
  have o4 := last.On.cell (B := w1.heap.size) (HXC.out _ hb2).2.2.2.2 hXlt
  have p2 := last.On.cell (B := w1.heap.size) c2 hClt
  have hinh := last.On.inh w1.heap.size w1
  have cHK : ∀ x9 : last.On w1.heap.size w1, Calls Tryz.prog 73 #[aggSh s.1 s.2.2.1 la ln lc ma mn mc ha hn hc] x9.w fun e w' => e = .returned (.int .i64 (sk : Int)) ∧ ∃ y9 : last.On w1.heap.size w1, w' = y9.w := fun x9 => last.Calls.on x9 (Nat.le_refl _) (HHK.out _ (hb2.trans (x9.2.mono hb2.size)))
  have cRM : ∀ x9 : last.On w1.heap.size w1, Calls Tryz.prog 74 #[aggSh s.1 s.2.2.1 la ln lc ma mn mc ha hn hc] x9.w fun e w' => e = .returned (.int .i64 (300 - (ln : Int) - (hn : Int))) ∧ ∃ y9 : last.On w1.heap.size w1, w' = y9.w := fun x9 => last.Calls.on x9 (Nat.le_refl _) (HRM.out _)
  clear c0 c1 c2 hX2 hC2 HHK HRM
  go_wp2_with fail
  refine last.wp_region_on w1.heap.size (by kernel_rfl) (by kernel_rfl) ?_
  repeat (go_big_quiet_step (first | (go_at_call 73; with_reducible exact cHK _) | (go_at_call 74; with_reducible exact cRM _)))
  refine wpQuiet_nil ?_
  intro w5 hw5
  obtain ⟨x5, hw5⟩ := hw5
  have hb5 : Below W.heap.size W w5 := by rw [hw5]; exact hb2.trans (x5.2.mono hb2.size)
  clear hw5 x5 o0 o1 o2 o3 o4 p2 cHK cRM hinh
  have hd5 : Below w5.heap.size w5 w5.drew := (Below.refl _ _).drew
  have hb5d := hb5.trans (hd5.mono hb5.size)
  clear hw1 hw2 k1 k2 hb2 HIS HGN hsk hlen8
  go_wp2_with fail
  refine last.wp_region_later (S := fun w' => BoxIn w.heap.size 27 [] (shVals s.1 s.2.2.1 la ln lc ma mn mc ha hn hc) [] w' ∧ BoxR (w.heap.size + 1) 1 tx (.slice a len cap) w') 17 (by kernel_rfl) ⟨hX.below hb5d, hC.below hb5d⟩ (fun hHeld0 => ?_)
  generalize w5.drew = D5 at *
  refine last.wpAnyL_take (i := 0) (v := (.pointer (some ⟨w.heap.size, 0, none⟩))) rfl rfl (by kernel_rfl) (by kernel_rfl) (by kernel_rfl) (by kernel_rfl) (fun _ _ _ h => h) (Or.inl ⟨by rfl, ?_⟩) (by assumption) ?_
  · intro wq hSq; go_simp
  try simp only [Act.put, List.setIfInBounds_toArray, List.set_cons_zero, List.set_cons_succ]
  refine last.wpAnyL_take (i := 1) (v := (.int .i64 s.1)) rfl rfl (by kernel_rfl) (by kernel_rfl) (by kernel_rfl) (by kernel_rfl) (fun _ _ _ h => h) (Or.inl ⟨by rfl, ?_⟩) (by assumption) ?_
  · intro wq hSq; have q := hSq.1.cell 0 _ rfl; simp only [List.length_nil, Nat.zero_add] at q; go_simp
  try simp only [Act.put, List.setIfInBounds_toArray, List.set_cons_zero, List.set_cons_succ]
  refine last.wpAnyL_take (i := 2) (v := (.pointer (some ⟨w.heap.size, 1, none⟩))) rfl rfl (by kernel_rfl) (by kernel_rfl) (by kernel_rfl) (by kernel_rfl) (fun _ _ _ h => h) (Or.inl ⟨by rfl, ?_⟩) (by assumption) ?_
  · intro wq hSq; go_simp
  try simp only [Act.put, List.setIfInBounds_toArray, List.set_cons_zero, List.set_cons_succ]
  refine last.wpAnyL_take (i := 3) (v := (.slice la ln lc)) rfl rfl (by kernel_rfl) (by kernel_rfl) (by kernel_rfl) (by kernel_rfl) (fun _ _ _ h => h) (Or.inl ⟨by rfl, ?_⟩) (by assumption) ?_
  · intro wq hSq; have q := hSq.1.cell 1 _ rfl; simp only [List.length_nil, Nat.zero_add] at q; go_simp
  try simp only [Act.put, List.setIfInBounds_toArray, List.set_cons_zero, List.set_cons_succ]
  refine last.wpAnyL_take (i := 5) (v := (.agg #[.int .i64 1, .int .i64 tx, .slice a len cap])) rfl rfl (by kernel_rfl) (by kernel_rfl) (by kernel_rfl) (by kernel_rfl) (fun _ _ _ h => h) (Or.inl ⟨by rfl, ?_⟩) (by assumption) ?_
  · intro wq hSq; obtain ⟨q1, q2, q3⟩ := hSq.2.cells; go_simp
  try simp only [Act.put, List.setIfInBounds_toArray, List.set_cons_zero, List.set_cons_succ]
  refine last.wpAnyL_take (i := 9) (v := (.pointer (some ⟨w.heap.size, 2, none⟩))) rfl rfl (by kernel_rfl) (by kernel_rfl) (by kernel_rfl) (by kernel_rfl) (fun _ _ _ h => h) (Or.inl ⟨by rfl, ?_⟩) (by assumption) ?_
  · intro wq hSq; go_simp
  try simp only [Act.put, List.setIfInBounds_toArray, List.set_cons_zero, List.set_cons_succ]
  refine last.wpAnyL_take (i := 10) (v := (.int .i64 s.2.2.1)) rfl rfl (by kernel_rfl) (by kernel_rfl) (by kernel_rfl) (by kernel_rfl) (fun _ _ _ h => h) (Or.inl ⟨by rfl, ?_⟩) (by assumption) ?_
  · intro wq hSq; have q := hSq.1.cell 2 _ rfl; simp only [List.length_nil, Nat.zero_add] at q; go_simp
  try simp only [Act.put, List.setIfInBounds_toArray, List.set_cons_zero, List.set_cons_succ]
  refine last.wpAnyL_two (i := 4) (j := 15) (o := { dst := some 42, op := Op.call { callee := Callee.value (Operand.func 75), args := #[Operand.tmp 41], argTypes := #[24] }, type := 24, pos := "l09_shard.go:168", after := #[{ on := 3, ground := Ground.data }], guard := none }) (o' := { dst := some 7, op := Op.alloc 27, type := 0, pos := "l09_shard.go:168", after := #[], guard := none }) (by kernel_rfl) rfl rfl (fun K hK => ?_) (fun K hK => ?_)
  · refine stepc.step_call1 rfl 75 (.tmp 41) _ rfl (fun _ _ => rfl) (.slice la ln lc) (by kernel_rfl) _ (HOR.out _ hb5d) ?_
    rintro e u11 ⟨gl, cl, hl, rfl, hQ11, hb11⟩
    refine ⟨_, rfl, ?_⟩
    have hB11 := hb5d.trans (hb11.mono hb5d.size)
    have hL11 := hQ11.mono (base' := 0) (Nat.zero_le _)
    have dL : ∀ k, BlkR (.slice (some ⟨gl, 0, none⟩) ln cl) hl k → W.heap.size ≤ k := fun k hk => Nat.le_trans hb5d.size (hQ11.lt k hk).1
    refine hK.out _ _ ?_ (fun hHeld => ?_)
    · exact ⟨hX.below hB11, hC.below hB11⟩
    clear hK K hHeld0
    have hHeld0 := hHeld
    clear hHeld
    try simp only [Act.put, List.setIfInBounds_toArray, List.set_cons_zero, List.set_cons_succ]
    refine last.wpAnyL_two (i := 6) (j := 15) (o := { dst := some 44, op := Op.call { callee := Callee.value (Operand.func 76), args := #[Operand.tmp 43], argTypes := #[41] }, type := 41, pos := "l09_shard.go:168", after := #[{ on := 5, ground := Ground.data }, { on := 4, ground := Ground.chain }], guard := none }) (o' := { dst := some 7, op := Op.alloc 27, type := 0, pos := "l09_shard.go:168", after := #[], guard := none }) (by kernel_rfl) rfl rfl (fun K hK => ?_) (fun K hK => ?_)
    · refine stepc.step_call1 rfl 76 (.tmp 43) _ rfl (fun _ _ => rfl) (.agg #[.int .i64 1, .int .i64 tx, .slice a len cap]) (by kernel_rfl) _ (HRC.out _ hB11) ?_
      rintro e u12 ⟨g3, rfl, hQ12, hb12⟩
      refine ⟨_, rfl, ?_⟩
      have hB12 := hB11.trans (hb12.mono hB11.size)
      have hL12 := hL11.below hb12
      have hV12 := (ownV_of hQ12).mono (base' := 0) (Nat.zero_le _)
      have h3l := hQ12.lt
      have dV : W.heap.size ≤ g3 := Nat.le_trans hB11.size h3l.1
      have dVL : ¬ BlkR (.slice (some ⟨gl, 0, none⟩) ln cl) hl g3 := fun e => by have h1 := (hL11.lt g3 e).2; omega
      refine hK.out _ _ ?_ (fun hHeld => ?_)
      · exact ⟨hX.below hB12, hC.below hB12⟩
      clear hK K hHeld0
      have hHeld0 := hHeld
      clear hHeld
      try simp only [Act.put, List.setIfInBounds_toArray, List.set_cons_zero, List.set_cons_succ]
      refine last.wpAnyL_two (i := 7) (j := 15) (o := { dst := some 45, op := Op.buildSlice 24 1 #[(0, Operand.tmp 44)], type := 24, pos := "l09_shard.go:168", after := #[{ on := 6, ground := Ground.data }], guard := none }) (o' := { dst := some 7, op := Op.alloc 27, type := 0, pos := "l09_shard.go:168", after := #[], guard := none }) (by kernel_rfl) rfl rfl (fun K hK => ?_) (fun K hK => ?_)
      · go_simp
        have hb13 : Below u12.heap.size u12 (u12.alloc (.cells #[.int .i64 1, .int .i64 tx, .slice (some ⟨g3, 0, none⟩) len len] 41)) := below_alloc
        have hB13 := hB12.trans (hb13.mono hB12.size)
        have hL13 := hL12.below hb13
        have hV13 := hV12.below hb13
        have hN13 : (u12.alloc (.cells #[.int .i64 1, .int .i64 tx, .slice (some ⟨g3, 0, none⟩) len len] 41)).heap[u12.heap.size]? = some (.cells #[.int .i64 1, .int .i64 tx, .slice (some ⟨g3, 0, none⟩) len len] 41) := heap_alloc_new u12 _
        refine hK.out _ _ ?_ (fun hHeld => ?_)
        · exact ⟨hX.below hB13, hC.below hB13⟩
        clear hK K hHeld0
        have hHeld0 := hHeld
        clear hHeld
        try simp only [Act.put, List.setIfInBounds_toArray, List.set_cons_zero, List.set_cons_succ]
        generalize hgw13 : (u12.alloc (.cells #[.int .i64 1, .int .i64 tx, .slice (some ⟨g3, 0, none⟩) len len] 41)) = u13 at *
        clear hgw13
        refine last.wpAnyL_two (i := 8) (j := 15) (o := { dst := some 46, op := Op.call { callee := Callee.builtin Builtin.append, args := #[Operand.tmp 42, Operand.tmp 45], argTypes := #[24, 24] }, type := 24, pos := "l09_shard.go:168", after := #[{ on := 4, ground := Ground.data }, { on := 7, ground := Ground.data }, { on := 6, ground := Ground.chain }], guard := none }) (o' := { dst := some 7, op := Op.alloc 27, type := 0, pos := "l09_shard.go:168", after := #[], guard := none }) (by kernel_rfl) rfl rfl (fun K hK => ?_) (fun K hK => ?_)
        · refine step_append_lies _ rfl (.tmp 42) (.tmp 45) 24 rfl 0 41 i0 (.agg #[.int .i64 0, .int .i64 0, .slice none 0 0]) 3 40 Tryz.underlying24 hi hz0 hz1 hz2 rfl (by decide) (.slice (some ⟨gl, 0, none⟩) ln cl) ln (recVals s.2.1 hl) (by kernel_rfl) (by have q := hL13.row; rw [HL1.out] at q; exact q) ⟨u12.heap.size, 0, none⟩ 1 1 [.int .i64 1, .int .i64 tx, .slice (some ⟨g3, 0, none⟩) len len] (by kernel_rfl) rfl (fun j u hu => World.news_of_block hN13 j u hu) (rec_oneW 1 tx hV13.one) (by decide) hc3 hc4 (Nat.zero_le _) _ rfl ?_
          intro g8 c8 u14 hown8 hgrow8 hat8 hlt8
          have hE14 : OwnR u14 0 (.slice (some ⟨g8, 0, none⟩) (ln + 1) c8) (s.2.1 ++ [((1 : Int), tx, ops)]) (hl ++ [.slice (some ⟨g3, 0, none⟩) len len]) := hL13.snoc hV13 hsmr (fun k hk hb => by
            have e1 : g3 = k := by simpa [Value.ownBlock] using hk
            rw [← e1] at hb; exact dVL hb) (by rw [HL1.out]; exact hown8) hgrow8
          have hB14 : Below W.heap.size W u14 := hB13.grown hgrow8 hB13.size (fun k e => dL k (.inl e))
          have hwl14 := hB13.size
          have dE : ∀ k, BlkR (.slice (some ⟨g8, 0, none⟩) (ln + 1) c8) (hl ++ [.slice (some ⟨g3, 0, none⟩) len len]) k → W.heap.size ≤ k := fun k hk => by
            rcases hk with e | ⟨y, hy, e⟩
            · have e1 : g8 = k := by simpa [Value.ownBlock] using e
              rcases hat8 with e2 | e2
              · rw [← e1]; exact dL g8 (.inl e2)
              · omega
            · rcases List.mem_append.1 hy with e2 | e2
              · exact dL k (.inr ⟨y, e2, e⟩)
              · rw [List.mem_singleton.1 e2] at e
                have e1 : g3 = k := by simpa [Value.ownBlock] using e
                omega
          refine hK.out _ _ ?_ (fun hHeld => ?_)
          · exact ⟨hX.below hB14, hC.below hB14⟩
          clear hK K hHeld0
          have hHeld0 := hHeld
          clear hHeld
          try simp only [Act.put, List.setIfInBounds_toArray, List.set_cons_zero, List.set_cons_succ]
          refine last.wpAnyL_two (i := 11) (j := 15) (o := { dst := some 49, op := Op.call { callee := Callee.value (Operand.func 40), args := #[Operand.tmp 39, Operand.tmp 46, Operand.tmp 48], argTypes := #[3, 24, 3] }, type := 38, pos := "l09_shard.go:168", after := #[{ on := 1, ground := Ground.data }, { on := 8, ground := Ground.data }, { on := 10, ground := Ground.data }, { on := 8, ground := Ground.chain }], guard := none }) (o' := { dst := some 7, op := Op.alloc 27, type := 0, pos := "l09_shard.go:168", after := #[], guard := none }) (by kernel_rfl) rfl rfl (fun K hK => ?_) (fun K hK => ?_)
          · refine stepc.step_call3 rfl 40 (.tmp 39) (.tmp 46) (.tmp 48) _ rfl (fun _ _ => rfl) (.int .i64 s.1) (.slice (some ⟨g8, 0, none⟩) (ln + 1) c8) (.int .i64 s.2.2.1) (by kernel_rfl) (by kernel_rfl) (by kernel_rfl) _ (HSO.out _ _ _ _ hE14) ?_
            rintro e u15 ⟨gm, nm, cm, gh, ch, hh, rfl, hOm, hOh, hnb, hb15⟩
            refine ⟨_, rfl, ?_⟩
            have hB15 := hB14.trans (hb15.mono hB14.size)
            have hE15 := hE14.below hb15
            obtain ⟨FF, hOS, hFB, hFw⟩ := own_made (B := W.heap.size) hid hsu hE15 (fun k hk => ⟨dE k hk, (hE14.lt k hk).2⟩) hOm hOh hnb hB14.size
            refine hK.out _ _ ?_ (fun hHeld => ?_)
            · exact ⟨hX.below hB15, hC.below hB15⟩
            clear hK K hHeld0
            have hHeld0 := hHeld
            clear hHeld
            try simp only [Act.put, List.setIfInBounds_toArray, List.set_cons_zero, List.set_cons_succ]
            refine last.wpAnyL_take (i := 12) (v := (.tuple #[aggSh s.1 s.2.2.1 (some ⟨g8, 0, none⟩) (ln + 1) c8 (some ⟨gm, 0, none⟩) nm cm (some ⟨gh, 0, none⟩) (resH (some u)).length ch, .bool true])) rfl rfl (by kernel_rfl) (by kernel_rfl) (by kernel_rfl) (by kernel_rfl) (fun _ _ _ h => h) (Or.inl ⟨by rfl, ?_⟩) (by assumption) ?_
            · intro wq hSq; go_simp
            try simp only [Act.put, List.setIfInBounds_toArray, List.set_cons_zero, List.set_cons_succ]
            refine last.wpAnyL_take (i := 13) (v := (aggSh s.1 s.2.2.1 (some ⟨g8, 0, none⟩) (ln + 1) c8 (some ⟨gm, 0, none⟩) nm cm (some ⟨gh, 0, none⟩) (resH (some u)).length ch)) rfl rfl (by kernel_rfl) (by kernel_rfl) (by kernel_rfl) (by kernel_rfl) (fun _ _ _ h => h) (Or.inl ⟨by rfl, ?_⟩) (by assumption) ?_
            · intro wq hSq; go_simp
            try simp only [Act.put, List.setIfInBounds_toArray, List.set_cons_zero, List.set_cons_succ]
            refine last.wpAnyL_take (i := 14) (v := (.bool true)) rfl rfl (by kernel_rfl) (by kernel_rfl) (by kernel_rfl) (by kernel_rfl) (fun _ _ _ h => h) (Or.inl ⟨by rfl, ?_⟩) (by assumption) ?_
            · intro wq hSq; go_simp
            try simp only [Act.put, List.setIfInBounds_toArray, List.set_cons_zero, List.set_cons_succ]
            refine last.wpAnyL_one (i := 15) (o := { dst := some 7, op := Op.alloc 27, type := 0, pos := "l09_shard.go:168", after := #[], guard := none }) (by kernel_rfl) rfl (fun K hK => ?_)
            go_simp
            have hb16 : Below u15.heap.size u15 (u15.alloc (boxSh 0 0 none 0 0 none 0 0 none 0 0)) := below_alloc
            have hB16 := hB15.trans (hb16.mono hB15.size)
            have hA16 : BoxIn u15.heap.size 27 [] (shVals 0 0 none 0 0 none 0 0 none 0 0) [] (u15.alloc (boxSh 0 0 none 0 0 none 0 0 none 0 0)) := boxIn_new u15 _ _
            have dA : W.heap.size ≤ u15.heap.size := hB15.size
            have dFA : u15.heap.size ∉ FF := fun e => by have h1 := hOS.lt _ e; omega
            have hOS2 := hOS.below hb16
            refine hK.out _ _ ?_ (fun hHeld => ?_)
            · exact ⟨hX.below hB16, hC.below hB16⟩
            clear hK K hHeld0
            have hHeld0 := hHeld
            clear hHeld
            try simp only [Act.put, List.setIfInBounds_toArray, List.set_cons_zero, List.set_cons_succ]
            generalize hgw16 : (u15.alloc (boxSh 0 0 none 0 0 none 0 0 none 0 0)) = u16 at *
            clear hgw16
            obtain ⟨D9, hD9⟩ : ∃ D9, u16 = D9 := ⟨_, rfl⟩
            obtain ⟨bk, hbk⟩ : ∃ bk, u15.heap.size = bk := ⟨_, rfl⟩
            have hAz : BoxIn bk 27 [] (shVals 0 0 none 0 0 none 0 0 none 0 0) [] D9 := by rw [← hD9, ← hbk]; exact hA16
            have hOz := hOS2
            have dFz : bk ∉ FF := by rw [← hbk]; exact dFA
            have dAz : W.heap.size ≤ bk := by rw [← hbk]; exact dA
            have hBz9 : Below W.heap.size W D9 := by rw [← hD9]; exact hB16
            rw [hD9] at hOz
            rw [hD9, hbk]
            have y0 := hAz.cell 0 _ rfl
            have y1 := hAz.cell 1 _ rfl
            have y2 := hAz.cell 2 _ rfl
            have y3 := hAz.cell 3 _ rfl
            have y4 := hAz.cell 4 _ rfl
            have e5 := hAz.set5 (.int .i64 s.1) (.slice (some ⟨g8, 0, none⟩) (ln + 1) c8) (.int .i64 s.2.2.1) (.slice (some ⟨gm, 0, none⟩) nm cm) (.slice (some ⟨gh, 0, none⟩) (resH (some u)).length ch)
            simp only [List.length_nil, Nat.zero_add] at y0 y1 y2 y3 y4 e5
            have v0 := hAz.fz 0
            have v1 := hAz.fz 1
            have v2 := hAz.fz 2
            have v3 := hAz.fz 3
            have v4 := hAz.fz 4
            have hB9 := hBz9.grown e5.2 hBz9.size (fun j e => by cases e; exact dAz)
            have hO9 := hOz.keep (fun j hj => e5.2.block j (hOz.lt j hj) (fun e => dFz (by rw [← Option.some.inj e]; exact hj)))
            have hX9 := e5.1
            refine last.wpAnyL_one (i := 16) (o := { dst := none, op := Op.store 27 (Operand.tmp 7) (Operand.tmp 50), type := 0, pos := "l09_shard.go:168", after := #[{ on := 15, ground := Ground.data }, { on := 13, ground := Ground.data }, { on := 11, ground := Ground.chain }, { on := 0, ground := Ground.phase }, { on := 1, ground := Ground.phase }, { on := 2, ground := Ground.phase }, { on := 3, ground := Ground.phase }, { on := 4, ground := Ground.phase }, { on := 5, ground := Ground.phase }, { on := 6, ground := Ground.phase }, { on := 7, ground := Ground.phase }, { on := 8, ground := Ground.phase }, { on := 9, ground := Ground.phase }, { on := 10, ground := Ground.phase }, { on := 11, ground := Ground.phase }, { on := 12, ground := Ground.phase }, { on := 13, ground := Ground.phase }, { on := 14, ground := Ground.textOnly Departure.lateStores }, { on := 15, ground := Ground.phase }], guard := none }) (by kernel_rfl) rfl (fun K hK => ?_)
            go_simp
            refine hK.out _ _ ?_ (fun hHeld => ?_)
            · exact ⟨hX.below hB9, hC.below hB9⟩
            clear hK K hHeld0
            have hHeld0 := hHeld
            clear hHeld
            try simp only [Act.put, List.setIfInBounds_toArray, List.set_cons_zero, List.set_cons_succ]
            refine last.wpAnyL_last (o := { dst := some 8, op := Op.assign (Operand.tmp 51), type := 4, pos := "l09_shard.go:168", after := #[{ on := 14, ground := Ground.data }, { on := 16, ground := Ground.chain }, { on := 0, ground := Ground.phase }, { on := 1, ground := Ground.phase }, { on := 2, ground := Ground.phase }, { on := 3, ground := Ground.phase }, { on := 4, ground := Ground.phase }, { on := 5, ground := Ground.phase }, { on := 6, ground := Ground.phase }, { on := 7, ground := Ground.phase }, { on := 8, ground := Ground.phase }, { on := 9, ground := Ground.phase }, { on := 10, ground := Ground.phase }, { on := 11, ground := Ground.phase }, { on := 12, ground := Ground.phase }, { on := 13, ground := Ground.phase }, { on := 14, ground := Ground.phase }, { on := 15, ground := Ground.phase }, { on := 16, ground := Ground.phase }], guard := none }) (by kernel_rfl) rfl (by kernel_rfl) (fun K hK => ?_)
            go_simp
            refine hK.out _ _ ?_
            clear hK K
            have b0 := hX9.cell 0 _ rfl
            have b1 := hX9.cell 1 _ rfl
            have b2 := hX9.cell 2 _ rfl
            have b3 := hX9.cell 3 _ rfl
            have b4 := hX9.cell 4 _ rfl
            simp only [List.length_nil, Nat.zero_add] at b0 b1 b2 b3 b4
            have hRz : BoxIn (w.heap.size + 1 + 1) 27 [] (shVals 0 0 none 0 0 none 0 0 none 0 0) [] _ := hRB.below hB9
            have hne : w.heap.size + 1 + 1 ≠ bk := by omega
            have hne2 : bk ≠ w.heap.size + 1 + 1 := by omega
            have dRF : w.heap.size + 1 + 1 ∉ FF := fun e => by have := hFB _ e; omega
            have z0 := hRz.cell 0 _ rfl
            have z1 := hRz.cell 1 _ rfl
            have z2 := hRz.cell 2 _ rfl
            have z3 := hRz.cell 3 _ rfl
            have z4 := hRz.cell 4 _ rfl
            have hS5 := hRz.set5 (.int .i64 s.1) (.slice (some ⟨g8, 0, none⟩) (ln + 1) c8) (.int .i64 s.2.2.1) (.slice (some ⟨gm, 0, none⟩) nm cm) (.slice (some ⟨gh, 0, none⟩) (resH (some u)).length ch)
            simp only [List.length_nil, Nat.zero_add] at z0 z1 z2 z3 z4 hS5
            have f0 := hRz.fz 0
            have f1 := hRz.fz 1
            have f2 := hRz.fz 2
            have f3 := hRz.fz 3
            have f4 := hRz.fz 4
            have hBw := hB.trans (hB9.mono hB.size)
            have hBf := hBw.grown hS5.2 hBw.size (fun j e => by cases e; omega)
            have hOf := hO9.keep (fun j hj => hS5.2.block j (hO9.lt j hj) (fun e => dRF (by rw [← Option.some.inj e]; exact hj)))
            have hzc0 := hS5.1.cell 0 _ rfl
            have hzc1 := hS5.1.cell 1 _ rfl
            have hzc2 := hS5.1.cell 2 _ rfl
            have hzc3 := hS5.1.cell 3 _ rfl
            have hzc4 := hS5.1.cell 4 _ rfl
            simp only [List.length_nil, Nat.zero_add] at hzc0 hzc1 hzc2 hzc3 hzc4
            have HP : Hid (DoPost A (s.1, s.2.1 ++ [((1 : Int), tx, ops)], s.2.2.1, u.1, u.2.1) none w (.returned (.tuple #[aggSh s.1 s.2.2.1 (some ⟨g8, 0, none⟩) (ln + 1) c8 (some ⟨gm, 0, none⟩) nm cm (some ⟨gh, 0, none⟩) (resH (some u)).length ch, .nilIface])) _) := ⟨_, _, _, _, _, _, _, _, _, FF, rfl, hOf, fun k hk => Nat.le_trans hB.size (hFB k hk), hBf⟩
            clear hOf hBf hS5 hRz hBw hO9 hB9
            clear hHeld0 hX9 y0 y1 y2 y3 y4 e5 v0 v1 v2 v3 v4 hAz hOz hD9 hbk hBz9
            go_wp2_with fail
            refine bodyPost_ret (v := .tuple #[aggSh s.1 s.2.2.1 (some ⟨g8, 0, none⟩) (ln + 1) c8 (some ⟨gm, 0, none⟩) nm cm (some ⟨gh, 0, none⟩) (resH (some u)).length ch, .nilIface]) ?_ rfl HP.out
            simp [results, Tryz.results33, go_sem, hzc0, hzc1, hzc2, hzc3, hzc4]
          · go_simp
            have hb18 : Below u14.heap.size u14 (u14.alloc (boxSh 0 0 none 0 0 none 0 0 none 0 0)) := below_alloc
            have hB18 := hB14.trans (hb18.mono hB14.size)
            have hE18 := hE14.below hb18
            have hA18 : BoxIn u14.heap.size 27 [] (shVals 0 0 none 0 0 none 0 0 none 0 0) [] (u14.alloc (boxSh 0 0 none 0 0 none 0 0 none 0 0)) := boxIn_new u14 _ _
            have dA : W.heap.size ≤ u14.heap.size := hB14.size
            have dEA : ∀ k, BlkR (.slice (some ⟨g8, 0, none⟩) (ln + 1) c8) (hl ++ [.slice (some ⟨g3, 0, none⟩) len len]) k → k ≠ u14.heap.size := fun k hk e => by have h1 := (hE14.lt k hk).2; omega
            refine hK.out _ _ ?_ (fun hHeld => ?_)
            · exact ⟨hX.below hB18, hC.below hB18⟩
            clear hK K hHeld0
            have hHeld0 := hHeld
            clear hHeld
            try simp only [Act.put, List.setIfInBounds_toArray, List.set_cons_zero, List.set_cons_succ]
            generalize hgw18 : (u14.alloc (boxSh 0 0 none 0 0 none 0 0 none 0 0)) = u18 at *
            clear hgw18
            refine last.wpAnyL_one (i := 11) (o := { dst := some 49, op := Op.call { callee := Callee.value (Operand.func 40), args := #[Operand.tmp 39, Operand.tmp 46, Operand.tmp 48], argTypes := #[3, 24, 3] }, type := 38, pos := "l09_shard.go:168", after := #[{ on := 1, ground := Ground.data }, { on := 8, ground := Ground.data }, { on := 10, ground := Ground.data }, { on := 8, ground := Ground.chain }], guard := none }) (by kernel_rfl) rfl (fun K hK => ?_)
            refine stepc.step_call3 rfl 40 (.tmp 39) (.tmp 46) (.tmp 48) _ rfl (fun _ _ => rfl) (.int .i64 s.1) (.slice (some ⟨g8, 0, none⟩) (ln + 1) c8) (.int .i64 s.2.2.1) (by kernel_rfl) (by kernel_rfl) (by kernel_rfl) _ (HSO.out _ _ _ _ hE18) ?_
            rintro e u19 ⟨gm, nm, cm, gh, ch, hh, rfl, hOm, hOh, hnb, hb19⟩
            refine ⟨_, rfl, ?_⟩
            have hB19 := hB18.trans (hb19.mono hB18.size)
            have hE19 := hE18.below hb19
            have hA19 := hA18.below hb19
            obtain ⟨FF, hOS, hFB, hFw⟩ := own_made (B := W.heap.size) hid hsu hE19 (fun k hk => ⟨dE k hk, (hE18.lt k hk).2⟩) hOm hOh hnb hB18.size
            have hal19 := hA18.lt
            have dFA : u14.heap.size ∉ FF := fun e => by
              rcases hFw _ e with e2 | e2
              · exact dEA _ e2 rfl
              · omega
            refine hK.out _ _ ?_ (fun hHeld => ?_)
            · exact ⟨hX.below hB19, hC.below hB19⟩
            clear hK K hHeld0
            have hHeld0 := hHeld
            clear hHeld
            try simp only [Act.put, List.setIfInBounds_toArray, List.set_cons_zero, List.set_cons_succ]
            refine last.wpAnyL_take (i := 12) (v := (.tuple #[aggSh s.1 s.2.2.1 (some ⟨g8, 0, none⟩) (ln + 1) c8 (some ⟨gm, 0, none⟩) nm cm (some ⟨gh, 0, none⟩) (resH (some u)).length ch, .bool true])) rfl rfl (by kernel_rfl) (by kernel_rfl) (by kernel_rfl) (by kernel_rfl) (fun _ _ _ h => h) (Or.inl ⟨by rfl, ?_⟩) (by assumption) ?_
            · intro wq hSq; go_simp
            try simp only [Act.put, List.setIfInBounds_toArray, List.set_cons_zero, List.set_cons_succ]
            refine last.wpAnyL_take (i := 13) (v := (aggSh s.1 s.2.2.1 (some ⟨g8, 0, none⟩) (ln + 1) c8 (some ⟨gm, 0, none⟩) nm cm (some ⟨gh, 0, none⟩) (resH (some u)).length ch)) rfl rfl (by kernel_rfl) (by kernel_rfl) (by kernel_rfl) (by kernel_rfl) (fun _ _ _ h => h) (Or.inl ⟨by rfl, ?_⟩) (by assumption) ?_
            · intro wq hSq; go_simp
            try simp only [Act.put, List.setIfInBounds_toArray, List.set_cons_zero, List.set_cons_succ]
            refine last.wpAnyL_take (i := 14) (v := (.bool true)) rfl rfl (by kernel_rfl) (by kernel_rfl) (by kernel_rfl) (by kernel_rfl) (fun _ _ _ h => h) (Or.inl ⟨by rfl, ?_⟩) (by assumption) ?_
            · intro wq hSq; go_simp
            try simp only [Act.put, List.setIfInBounds_toArray, List.set_cons_zero, List.set_cons_succ]
            obtain ⟨D9, hD9⟩ : ∃ D9, u19 = D9 := ⟨_, rfl⟩
            obtain ⟨bk, hbk⟩ : ∃ bk, u14.heap.size = bk := ⟨_, rfl⟩
            have hAz : BoxIn bk 27 [] (shVals 0 0 none 0 0 none 0 0 none 0 0) [] D9 := by rw [← hD9, ← hbk]; exact hA19
            have hOz := hOS
            have dFz : bk ∉ FF := by rw [← hbk]; exact dFA
            have dAz : W.heap.size ≤ bk := by rw [← hbk]; exact dA
            have hBz9 : Below W.heap.size W D9 := by rw [← hD9]; exact hB19
            rw [hD9] at hOz
            rw [hD9, hbk]
            have y0 := hAz.cell 0 _ rfl
            have y1 := hAz.cell 1 _ rfl
            have y2 := hAz.cell 2 _ rfl
            have y3 := hAz.cell 3 _ rfl
            have y4 := hAz.cell 4 _ rfl
            have e5 := hAz.set5 (.int .i64 s.1) (.slice (some ⟨g8, 0, none⟩) (ln + 1) c8) (.int .i64 s.2.2.1) (.slice (some ⟨gm, 0, none⟩) nm cm) (.slice (some ⟨gh, 0, none⟩) (resH (some u)).length ch)
            simp only [List.length_nil, Nat.zero_add] at y0 y1 y2 y3 y4 e5
            have v0 := hAz.fz 0
            have v1 := hAz.fz 1
            have v2 := hAz.fz 2
            have v3 := hAz.fz 3
            have v4 := hAz.fz 4
            have hB9 := hBz9.grown e5.2 hBz9.size (fun j e => by cases e; exact dAz)
            have hO9 := hOz.keep (fun j hj => e5.2.block j (hOz.lt j hj) (fun e => dFz (by rw [← Option.some.inj e]; exact hj)))
            have hX9 := e5.1
            refine last.wpAnyL_one (i := 16) (o := { dst := none, op := Op.store 27 (Operand.tmp 7) (Operand.tmp 50), type := 0, pos := "l09_shard.go:168", after := #[{ on := 15, ground := Ground.data }, { on := 13, ground := Ground.data }, { on := 11, ground := Ground.chain }, { on := 0, ground := Ground.phase }, { on := 1, ground := Ground.phase }, { on := 2, ground := Ground.phase }, { on := 3, ground := Ground.phase }, { on := 4, ground := Ground.phase }, { on := 5, ground := Ground.phase }, { on := 6, ground := Ground.phase }, { on := 7, ground := Ground.phase }, { on := 8, ground := Ground.phase }, { on := 9, ground := Ground.phase }, { on := 10, ground := Ground.phase }, { on := 11, ground := Ground.phase }, { on := 12, ground := Ground.phase }, { on := 13, ground := Ground.phase }, { on := 14, ground := Ground.textOnly Departure.lateStores }, { on := 15, ground := Ground.phase }], guard := none }) (by kernel_rfl) rfl (fun K hK => ?_)
            go_simp
            refine hK.out _ _ ?_ (fun hHeld => ?_)
            · exact ⟨hX.below hB9, hC.below hB9⟩
            clear hK K hHeld0
            have hHeld0 := hHeld
            clear hHeld
            try simp only [Act.put, List.setIfInBounds_toArray, List.set_cons_zero, List.set_cons_succ]
            refine last.wpAnyL_last (o := { dst := some 8, op := Op.assign (Operand.tmp 51), type := 4, pos := "l09_shard.go:168", after := #[{ on := 14, ground := Ground.data }, { on := 16, ground := Ground.chain }, { on := 0, ground := Ground.phase }, { on := 1, ground := Ground.phase }, { on := 2, ground := Ground.phase }, { on := 3, ground := Ground.phase }, { on := 4, ground := Ground.phase }, { on := 5, ground := Ground.phase }, { on := 6, ground := Ground.phase }, { on := 7, ground := Ground.phase }, { on := 8, ground := Ground.phase }, { on := 9, ground := Ground.phase }, { on := 10, ground := Ground.phase }, { on := 11, ground := Ground.phase }, { on := 12, ground := Ground.phase }, { on := 13, ground := Ground.phase }, { on := 14, ground := Ground.phase }, { on := 15, ground := Ground.phase }, { on := 16, ground := Ground.phase }], guard := none }) (by kernel_rfl) rfl (by kernel_rfl) (fun K hK => ?_)
            go_simp
            refine hK.out _ _ ?_
            clear hK K
            have b0 := hX9.cell 0 _ rfl
            have b1 := hX9.cell 1 _ rfl
            have b2 := hX9.cell 2 _ rfl
            have b3 := hX9.cell 3 _ rfl
            have b4 := hX9.cell 4 _ rfl
            simp only [List.length_nil, Nat.zero_add] at b0 b1 b2 b3 b4
            have hRz : BoxIn (w.heap.size + 1 + 1) 27 [] (shVals 0 0 none 0 0 none 0 0 none 0 0) [] _ := hRB.below hB9
            have hne : w.heap.size + 1 + 1 ≠ bk := by omega
            have hne2 : bk ≠ w.heap.size + 1 + 1 := by omega
            have dRF : w.heap.size + 1 + 1 ∉ FF := fun e => by have := hFB _ e; omega
            have z0 := hRz.cell 0 _ rfl
            have z1 := hRz.cell 1 _ rfl
            have z2 := hRz.cell 2 _ rfl
            have z3 := hRz.cell 3 _ rfl
            have z4 := hRz.cell 4 _ rfl
            have hS5 := hRz.set5 (.int .i64 s.1) (.slice (some ⟨g8, 0, none⟩) (ln + 1) c8) (.int .i64 s.2.2.1) (.slice (some ⟨gm, 0, none⟩) nm cm) (.slice (some ⟨gh, 0, none⟩) (resH (some u)).length ch)
            simp only [List.length_nil, Nat.zero_add] at z0 z1 z2 z3 z4 hS5
            have f0 := hRz.fz 0
            have f1 := hRz.fz 1
            have f2 := hRz.fz 2
            have f3 := hRz.fz 3
            have f4 := hRz.fz 4
            have hBw := hB.trans (hB9.mono hB.size)
            have hBf := hBw.grown hS5.2 hBw.size (fun j e => by cases e; omega)
            have hOf := hO9.keep (fun j hj => hS5.2.block j (hO9.lt j hj) (fun e => dRF (by rw [← Option.some.inj e]; exact hj)))
            have hzc0 := hS5.1.cell 0 _ rfl
            have hzc1 := hS5.1.cell 1 _ rfl
            have hzc2 := hS5.1.cell 2 _ rfl
            have hzc3 := hS5.1.cell 3 _ rfl
            have hzc4 := hS5.1.cell 4 _ rfl
            simp only [List.length_nil, Nat.zero_add] at hzc0 hzc1 hzc2 hzc3 hzc4
            have HP : Hid (DoPost A (s.1, s.2.1 ++ [((1 : Int), tx, ops)], s.2.2.1, u.1, u.2.1) none w (.returned (.tuple #[aggSh s.1 s.2.2.1 (some ⟨g8, 0, none⟩) (ln + 1) c8 (some ⟨gm, 0, none⟩) nm cm (some ⟨gh, 0, none⟩) (resH (some u)).length ch, .nilIface])) _) := ⟨_, _, _, _, _, _, _, _, _, FF, rfl, hOf, fun k hk => Nat.le_trans hB.size (hFB k hk), hBf⟩
            clear hOf hBf hS5 hRz hBw hO9 hB9
            clear hHeld0 hX9 y0 y1 y2 y3 y4 e5 v0 v1 v2 v3 v4 hAz hOz hD9 hbk hBz9
            go_wp2_with fail
            refine bodyPost_ret (v := .tuple #[aggSh s.1 s.2.2.1 (some ⟨g8, 0, none⟩) (ln + 1) c8 (some ⟨gm, 0, none⟩) nm cm (some ⟨gh, 0, none⟩) (resH (some u)).length ch, .nilIface]) ?_ rfl HP.out
            simp [results, Tryz.results33, go_sem, hzc0, hzc1, hzc2, hzc3, hzc4]
        · go_simp
          have hb21 : Below u13.heap.size u13 (u13.alloc (boxSh 0 0 none 0 0 none 0 0 none 0 0)) := below_alloc
          have hB21 := hB13.trans (hb21.mono hB13.size)
          have hL21 := hL13.below hb21
          have hV21 := hV13.below hb21
          have hN21 := (hb21.block _ (Array.getElem?_eq_some_iff.1 hN13).1).trans hN13
          have hA21 : BoxIn u13.heap.size 27 [] (shVals 0 0 none 0 0 none 0 0 none 0 0) [] (u13.alloc (boxSh 0 0 none 0 0 none 0 0 none 0 0)) := boxIn_new u13 _ _
          have dA : W.heap.size ≤ u13.heap.size := hB13.size
          have dLA : ∀ k, BlkR (.slice (some ⟨gl, 0, none⟩) ln cl) hl k → k ≠ u13.heap.size := fun k hk e => by have h1 := (hL13.lt k hk).2; omega
          have dVA : g3 ≠ u13.heap.size := fun e => by have h1 := (hV13.lt g3 rfl).2; omega
          refine hK.out _ _ ?_ (fun hHeld => ?_)
          · exact ⟨hX.below hB21, hC.below hB21⟩
          clear hK K hHeld0
          have hHeld0 := hHeld
          clear hHeld
          try simp only [Act.put, List.setIfInBounds_toArray, List.set_cons_zero, List.set_cons_succ]
          generalize hgw21 : (u13.alloc (boxSh 0 0 none 0 0 none 0 0 none 0 0)) = u21 at *
          clear hgw21
          refine last.wpAnyL_one (i := 8) (o := { dst := some 46, op := Op.call { callee := Callee.builtin Builtin.append, args := #[Operand.tmp 42, Operand.tmp 45], argTypes := #[24, 24] }, type := 24, pos := "l09_shard.go:168", after := #[{ on := 4, ground := Ground.data }, { on := 7, ground := Ground.data }, { on := 6, ground := Ground.chain }], guard := none }) (by kernel_rfl) rfl (fun K hK => ?_)
          refine step_append_lies _ rfl (.tmp 42) (.tmp 45) 24 rfl 0 41 i0 (.agg #[.int .i64 0, .int .i64 0, .slice none 0 0]) 3 40 Tryz.underlying24 hi hz0 hz1 hz2 rfl (by decide) (.slice (some ⟨gl, 0, none⟩) ln cl) ln (recVals s.2.1 hl) (by kernel_rfl) (by have q := hL21.row; rw [HL1.out] at q; exact q) ⟨u12.heap.size, 0, none⟩ 1 1 [.int .i64 1, .int .i64 tx, .slice (some ⟨g3, 0, none⟩) len len] (by kernel_rfl) rfl (fun j u hu => World.news_of_block hN21 j u hu) (rec_oneW 1 tx hV21.one) (by decide) hc3 hc4 (Nat.zero_le _) _ rfl ?_
          intro g8 c8 u22 hown8 hgrow8 hat8 hlt8
          have hE22 : OwnR u22 0 (.slice (some ⟨g8, 0, none⟩) (ln + 1) c8) (s.2.1 ++ [((1 : Int), tx, ops)]) (hl ++ [.slice (some ⟨g3, 0, none⟩) len len]) := hL21.snoc hV21 hsmr (fun k hk hb => by
            have e1 : g3 = k := by simpa [Value.ownBlock] using hk
            rw [← e1] at hb; exact dVL hb) (by rw [HL1.out]; exact hown8) hgrow8
          have hB22 : Below W.heap.size W u22 := hB21.grown hgrow8 hB21.size (fun k e => dL k (.inl e))
          have hwl22 := hB21.size
          have dE : ∀ k, BlkR (.slice (some ⟨g8, 0, none⟩) (ln + 1) c8) (hl ++ [.slice (some ⟨g3, 0, none⟩) len len]) k → W.heap.size ≤ k := fun k hk => by
            rcases hk with e | ⟨y, hy, e⟩
            · have e1 : g8 = k := by simpa [Value.ownBlock] using e
              rcases hat8 with e2 | e2
              · rw [← e1]; exact dL g8 (.inl e2)
              · omega
            · rcases List.mem_append.1 hy with e2 | e2
              · exact dL k (.inr ⟨y, e2, e⟩)
              · rw [List.mem_singleton.1 e2] at e
                have e1 : g3 = k := by simpa [Value.ownBlock] using e
                omega
          have hA22 := hA21.grown hgrow8 (fun e => dLA _ (.inl e.symm) rfl)
          have hal22 := hA21.lt
          have dEA : ∀ k, BlkR (.slice (some ⟨g8, 0, none⟩) (ln + 1) c8) (hl ++ [.slice (some ⟨g3, 0, none⟩) len len]) k → k ≠ u13.heap.size := fun k hk => by
            rcases hk with e | ⟨y, hy, e⟩
            · have e1 : g8 = k := by simpa [Value.ownBlock] using e
              rcases hat8 with e2 | e2
              · rw [← e1]; exact dLA g8 (.inl e2)
              · omega
            · rcases List.mem_append.1 hy with e2 | e2
              · exact dLA k (.inr ⟨y, e2, e⟩)
              · rw [List.mem_singleton.1 e2] at e
                have e1 : g3 = k := by simpa [Value.ownBlock] using e
                rw [← e1]; exact dVA
          refine hK.out _ _ ?_ (fun hHeld => ?_)
          · exact ⟨hX.below hB22, hC.below hB22⟩
          clear hK K hHeld0
          have hHeld0 := hHeld
          clear hHeld
          try simp only [Act.put, List.setIfInBounds_toArray, List.set_cons_zero, List.set_cons_succ]
          refine last.wpAnyL_one (i := 11) (o := { dst := some 49, op := Op.call { callee := Callee.value (Operand.func 40), args := #[Operand.tmp 39, Operand.tmp 46, Operand.tmp 48], argTypes := #[3, 24, 3] }, type := 38, pos := "l09_shard.go:168", after := #[{ on := 1, ground := Ground.data }, { on := 8, ground := Ground.data }, { on := 10, ground := Ground.data }, { on := 8, ground := Ground.chain }], guard := none }) (by kernel_rfl) rfl (fun K hK => ?_)
          refine stepc.step_call3 rfl 40 (.tmp 39) (.tmp 46) (.tmp 48) _ rfl (fun _ _ => rfl) (.int .i64 s.1) (.slice (some ⟨g8, 0, none⟩) (ln + 1) c8) (.int .i64 s.2.2.1) (by kernel_rfl) (by kernel_rfl) (by kernel_rfl) _ (HSO.out _ _ _ _ hE22) ?_
          rintro e u23 ⟨gm, nm, cm, gh, ch, hh, rfl, hOm, hOh, hnb, hb23⟩
          refine ⟨_, rfl, ?_⟩
          have hB23 := hB22.trans (hb23.mono hB22.size)
          have hE23 := hE22.below hb23
          have hA23 := hA22.below hb23
          obtain ⟨FF, hOS, hFB, hFw⟩ := own_made (B := W.heap.size) hid hsu hE23 (fun k hk => ⟨dE k hk, (hE22.lt k hk).2⟩) hOm hOh hnb hB22.size
          have hal23 := hA22.lt
          have dFA : u13.heap.size ∉ FF := fun e => by
            rcases hFw _ e with e2 | e2
            · exact dEA _ e2 rfl
            · omega
          refine hK.out _ _ ?_ (fun hHeld => ?_)
          · exact ⟨hX.below hB23, hC.below hB23⟩
          clear hK K hHeld0
          have hHeld0 := hHeld
          clear hHeld
          try simp only [Act.put, List.setIfInBounds_toArray, List.set_cons_zero, List.set_cons_succ]
          refine last.wpAnyL_take (i := 12) (v := (.tuple #[aggSh s.1 s.2.2.1 (some ⟨g8, 0, none⟩) (ln + 1) c8 (some ⟨gm, 0, none⟩) nm cm (some ⟨gh, 0, none⟩) (resH (some u)).length ch, .bool true])) rfl rfl (by kernel_rfl) (by kernel_rfl) (by kernel_rfl) (by kernel_rfl) (fun _ _ _ h => h) (Or.inl ⟨by rfl, ?_⟩) (by assumption) ?_
          · intro wq hSq; go_simp
          try simp only [Act.put, List.setIfInBounds_toArray, List.set_cons_zero, List.set_cons_succ]
          refine last.wpAnyL_take (i := 13) (v := (aggSh s.1 s.2.2.1 (some ⟨g8, 0, none⟩) (ln + 1) c8 (some ⟨gm, 0, none⟩) nm cm (some ⟨gh, 0, none⟩) (resH (some u)).length ch)) rfl rfl (by kernel_rfl) (by kernel_rfl) (by kernel_rfl) (by kernel_rfl) (fun _ _ _ h => h) (Or.inl ⟨by rfl, ?_⟩) (by assumption) ?_
          · intro wq hSq; go_simp
          try simp only [Act.put, List.setIfInBounds_toArray, List.set_cons_zero, List.set_cons_succ]
          refine last.wpAnyL_take (i := 14) (v := (.bool true)) rfl rfl (by kernel_rfl) (by kernel_rfl) (by kernel_rfl) (by kernel_rfl) (fun _ _ _ h => h) (Or.inl ⟨by rfl, ?_⟩) (by assumption) ?_
          · intro wq hSq; go_simp
          try simp only [Act.put, List.setIfInBounds_toArray, List.set_cons_zero, List.set_cons_succ]
          obtain ⟨D9, hD9⟩ : ∃ D9, u23 = D9 := ⟨_, rfl⟩
          obtain ⟨bk, hbk⟩ : ∃ bk, u13.heap.size = bk := ⟨_, rfl⟩
          have hAz : BoxIn bk 27 [] (shVals 0 0 none 0 0 none 0 0 none 0 0) [] D9 := by rw [← hD9, ← hbk]; exact hA23
          have hOz := hOS
          have dFz : bk ∉ FF := by rw [← hbk]; exact dFA
          have dAz : W.heap.size ≤ bk := by rw [← hbk]; exact dA
          have hBz9 : Below W.heap.size W D9 := by rw [← hD9]; exact hB23
          rw [hD9] at hOz
          rw [hD9, hbk]
          have y0 := hAz.cell 0 _ rfl
          have y1 := hAz.cell 1 _ rfl
          have y2 := hAz.cell 2 _ rfl
          have y3 := hAz.cell 3 _ rfl
          have y4 := hAz.cell 4 _ rfl
          have e5 := hAz.set5 (.int .i64 s.1) (.slice (some ⟨g8, 0, none⟩) (ln + 1) c8) (.int .i64 s.2.2.1) (.slice (some ⟨gm, 0, none⟩) nm cm) (.slice (some ⟨gh, 0, none⟩) (resH (some u)).length ch)
          simp only [List.length_nil, Nat.zero_add] at y0 y1 y2 y3 y4 e5
          have v0 := hAz.fz 0
          have v1 := hAz.fz 1
          have v2 := hAz.fz 2
          have v3 := hAz.fz 3
          have v4 := hAz.fz 4
          have hB9 := hBz9.grown e5.2 hBz9.size (fun j e => by cases e; exact dAz)
          have hO9 := hOz.keep (fun j hj => e5.2.block j (hOz.lt j hj) (fun e => dFz (by rw [← Option.some.inj e]; exact hj)))
          have hX9 := e5.1
          refine last.wpAnyL_one (i := 16) (o := { dst := none, op := Op.store 27 (Operand.tmp 7) (Operand.tmp 50), type := 0, pos := "l09_shard.go:168", after := #[{ on := 15, ground := Ground.data }, { on := 13, ground := Ground.data }, { on := 11, ground := Ground.chain }, { on := 0, ground := Ground.phase }, { on := 1, ground := Ground.phase }, { on := 2, ground := Ground.phase }, { on := 3, ground := Ground.phase }, { on := 4, ground := Ground.phase }, { on := 5, ground := Ground.phase }, { on := 6, ground := Ground.phase }, { on := 7, ground := Ground.phase }, { on := 8, ground := Ground.phase }, { on := 9, ground := Ground.phase }, { on := 10, ground := Ground.phase }, { on := 11, ground := Ground.phase }, { on := 12, ground := Ground.phase }, { on := 13, ground := Ground.phase }, { on := 14, ground := Ground.textOnly Departure.lateStores }, { on := 15, ground := Ground.phase }], guard := none }) (by kernel_rfl) rfl (fun K hK => ?_)
          go_simp
          refine hK.out _ _ ?_ (fun hHeld => ?_)
          · exact ⟨hX.below hB9, hC.below hB9⟩
          clear hK K hHeld0
          have hHeld0 := hHeld
          clear hHeld
          try simp only [Act.put, List.setIfInBounds_toArray, List.set_cons_zero, List.set_cons_succ]
          refine last.wpAnyL_last (o := { dst := some 8, op := Op.assign (Operand.tmp 51), type := 4, pos := "l09_shard.go:168", after := #[{ on := 14, ground := Ground.data }, { on := 16, ground := Ground.chain }, { on := 0, ground := Ground.phase }, { on := 1, ground := Ground.phase }, { on := 2, ground := Ground.phase }, { on := 3, ground := Ground.phase }, { on := 4, ground := Ground.phase }, { on := 5, ground := Ground.phase }, { on := 6, ground := Ground.phase }, { on := 7, ground := Ground.phase }, { on := 8, ground := Ground.phase }, { on := 9, ground := Ground.phase }, { on := 10, ground := Ground.phase }, { on := 11, ground := Ground.phase }, { on := 12, ground := Ground.phase }, { on := 13, ground := Ground.phase }, { on := 14, ground := Ground.phase }, { on := 15, ground := Ground.phase }, { on := 16, ground := Ground.phase }], guard := none }) (by kernel_rfl) rfl (by kernel_rfl) (fun K hK => ?_)
          go_simp
          refine hK.out _ _ ?_
          clear hK K
          have b0 := hX9.cell 0 _ rfl
          have b1 := hX9.cell 1 _ rfl
          have b2 := hX9.cell 2 _ rfl
          have b3 := hX9.cell 3 _ rfl
          have b4 := hX9.cell 4 _ rfl
          simp only [List.length_nil, Nat.zero_add] at b0 b1 b2 b3 b4
          have hRz : BoxIn (w.heap.size + 1 + 1) 27 [] (shVals 0 0 none 0 0 none 0 0 none 0 0) [] _ := hRB.below hB9
          have hne : w.heap.size + 1 + 1 ≠ bk := by omega
          have hne2 : bk ≠ w.heap.size + 1 + 1 := by omega
          have dRF : w.heap.size + 1 + 1 ∉ FF := fun e => by have := hFB _ e; omega
          have z0 := hRz.cell 0 _ rfl
          have z1 := hRz.cell 1 _ rfl
          have z2 := hRz.cell 2 _ rfl
          have z3 := hRz.cell 3 _ rfl
          have z4 := hRz.cell 4 _ rfl
          have hS5 := hRz.set5 (.int .i64 s.1) (.slice (some ⟨g8, 0, none⟩) (ln + 1) c8) (.int .i64 s.2.2.1) (.slice (some ⟨gm, 0, none⟩) nm cm) (.slice (some ⟨gh, 0, none⟩) (resH (some u)).length ch)
          simp only [List.length_nil, Nat.zero_add] at z0 z1 z2 z3 z4 hS5
          have f0 := hRz.fz 0
          have f1 := hRz.fz 1
          have f2 := hRz.fz 2
          have f3 := hRz.fz 3
          have f4 := hRz.fz 4
          have hBw := hB.trans (hB9.mono hB.size)
          have hBf := hBw.grown hS5.2 hBw.size (fun j e => by cases e; omega)
          have hOf := hO9.keep (fun j hj => hS5.2.block j (hO9.lt j hj) (fun e => dRF (by rw [← Option.some.inj e]; exact hj)))
          have hzc0 := hS5.1.cell 0 _ rfl
          have hzc1 := hS5.1.cell 1 _ rfl
          have hzc2 := hS5.1.cell 2 _ rfl
          have hzc3 := hS5.1.cell 3 _ rfl
          have hzc4 := hS5.1.cell 4 _ rfl
          simp only [List.length_nil, Nat.zero_add] at hzc0 hzc1 hzc2 hzc3 hzc4
          have HP : Hid (DoPost A (s.1, s.2.1 ++ [((1 : Int), tx, ops)], s.2.2.1, u.1, u.2.1) none w (.returned (.tuple #[aggSh s.1 s.2.2.1 (some ⟨g8, 0, none⟩) (ln + 1) c8 (some ⟨gm, 0, none⟩) nm cm (some ⟨gh, 0, none⟩) (resH (some u)).length ch, .nilIface])) _) := ⟨_, _, _, _, _, _, _, _, _, FF, rfl, hOf, fun k hk => Nat.le_trans hB.size (hFB k hk), hBf⟩
          clear hOf hBf hS5 hRz hBw hO9 hB9
          clear hHeld0 hX9 y0 y1 y2 y3 y4 e5 v0 v1 v2 v3 v4 hAz hOz hD9 hbk hBz9
          go_wp2_with fail
          refine bodyPost_ret (v := .tuple #[aggSh s.1 s.2.2.1 (some ⟨g8, 0, none⟩) (ln + 1) c8 (some ⟨gm, 0, none⟩) nm cm (some ⟨gh, 0, none⟩) (resH (some u)).length ch, .nilIface]) ?_ rfl HP.out
          simp [results, Tryz.results33, go_sem, hzc0, hzc1, hzc2, hzc3, hzc4]
      · go_simp
        have hb25 : Below u12.heap.size u12 (u12.alloc (boxSh 0 0 none 0 0 none 0 0 none 0 0)) := below_alloc
        have hB25 := hB12.trans (hb25.mono hB12.size)
        have hL25 := hL12.below hb25
        have hV25 := hV12.below hb25
        have hA25 : BoxIn u12.heap.size 27 [] (shVals 0 0 none 0 0 none 0 0 none 0 0) [] (u12.alloc (boxSh 0 0 none 0 0 none 0 0 none 0 0)) := boxIn_new u12 _ _
        have dA : W.heap.size ≤ u12.heap.size := hB12.size
        have dLA : ∀ k, BlkR (.slice (some ⟨gl, 0, none⟩) ln cl) hl k → k ≠ u12.heap.size := fun k hk e => by have h1 := (hL12.lt k hk).2; omega
        have dVA : g3 ≠ u12.heap.size := fun e => by have h1 := (hV12.lt g3 rfl).2; omega
        refine hK.out _ _ ?_ (fun hHeld => ?_)
        · exact ⟨hX.below hB25, hC.below hB25⟩
        clear hK K hHeld0
        have hHeld0 := hHeld
        clear hHeld
        try simp only [Act.put, List.setIfInBounds_toArray, List.set_cons_zero, List.set_cons_succ]
        generalize hgw25 : (u12.alloc (boxSh 0 0 none 0 0 none 0 0 none 0 0)) = u25 at *
        clear hgw25
        refine last.wpAnyL_one (i := 7) (o := { dst := some 45, op := Op.buildSlice 24 1 #[(0, Operand.tmp 44)], type := 24, pos := "l09_shard.go:168", after := #[{ on := 6, ground := Ground.data }], guard := none }) (by kernel_rfl) rfl (fun K hK => ?_)
        go_simp
        have hb26 : Below u25.heap.size u25 (u25.alloc (.cells #[.int .i64 1, .int .i64 tx, .slice (some ⟨g3, 0, none⟩) len len] 41)) := below_alloc
        have hB26 := hB25.trans (hb26.mono hB25.size)
        have hL26 := hL25.below hb26
        have hV26 := hV25.below hb26
        have hA26 := hA25.below hb26
        have hN26 : (u25.alloc (.cells #[.int .i64 1, .int .i64 tx, .slice (some ⟨g3, 0, none⟩) len len] 41)).heap[u25.heap.size]? = some (.cells #[.int .i64 1, .int .i64 tx, .slice (some ⟨g3, 0, none⟩) len len] 41) := heap_alloc_new u25 _
        refine hK.out _ _ ?_ (fun hHeld => ?_)
        · exact ⟨hX.below hB26, hC.below hB26⟩
        clear hK K hHeld0
        have hHeld0 := hHeld
        clear hHeld
        try simp only [Act.put, List.setIfInBounds_toArray, List.set_cons_zero, List.set_cons_succ]
        generalize hgw26 : (u25.alloc (.cells #[.int .i64 1, .int .i64 tx, .slice (some ⟨g3, 0, none⟩) len len] 41)) = u26 at *
        clear hgw26
        refine last.wpAnyL_one (i := 8) (o := { dst := some 46, op := Op.call { callee := Callee.builtin Builtin.append, args := #[Operand.tmp 42, Operand.tmp 45], argTypes := #[24, 24] }, type := 24, pos := "l09_shard.go:168", after := #[{ on := 4, ground := Ground.data }, { on := 7, ground := Ground.data }, { on := 6, ground := Ground.chain }], guard := none }) (by kernel_rfl) rfl (fun K hK => ?_)
        refine step_append_lies _ rfl (.tmp 42) (.tmp 45) 24 rfl 0 41 i0 (.agg #[.int .i64 0, .int .i64 0, .slice none 0 0]) 3 40 Tryz.underlying24 hi hz0 hz1 hz2 rfl (by decide) (.slice (some ⟨gl, 0, none⟩) ln cl) ln (recVals s.2.1 hl) (by kernel_rfl) (by have q := hL26.row; rw [HL1.out] at q; exact q) ⟨u25.heap.size, 0, none⟩ 1 1 [.int .i64 1, .int .i64 tx, .slice (some ⟨g3, 0, none⟩) len len] (by kernel_rfl) rfl (fun j u hu => World.news_of_block hN26 j u hu) (rec_oneW 1 tx hV26.one) (by decide) hc3 hc4 (Nat.zero_le _) _ rfl ?_
        intro g8 c8 u27 hown8 hgrow8 hat8 hlt8
        have hE27 : OwnR u27 0 (.slice (some ⟨g8, 0, none⟩) (ln + 1) c8) (s.2.1 ++ [((1 : Int), tx, ops)]) (hl ++ [.slice (some ⟨g3, 0, none⟩) len len]) := hL26.snoc hV26 hsmr (fun k hk hb => by
          have e1 : g3 = k := by simpa [Value.ownBlock] using hk
          rw [← e1] at hb; exact dVL hb) (by rw [HL1.out]; exact hown8) hgrow8
        have hB27 : Below W.heap.size W u27 := hB26.grown hgrow8 hB26.size (fun k e => dL k (.inl e))
        have hwl27 := hB26.size
        have dE : ∀ k, BlkR (.slice (some ⟨g8, 0, none⟩) (ln + 1) c8) (hl ++ [.slice (some ⟨g3, 0, none⟩) len len]) k → W.heap.size ≤ k := fun k hk => by
          rcases hk with e | ⟨y, hy, e⟩
          · have e1 : g8 = k := by simpa [Value.ownBlock] using e
            rcases hat8 with e2 | e2
            · rw [← e1]; exact dL g8 (.inl e2)
            · omega
          · rcases List.mem_append.1 hy with e2 | e2
            · exact dL k (.inr ⟨y, e2, e⟩)
            · rw [List.mem_singleton.1 e2] at e
              have e1 : g3 = k := by simpa [Value.ownBlock] using e
              omega
        have hA27 := hA26.grown hgrow8 (fun e => dLA _ (.inl e.symm) rfl)
        have hal27 := hA26.lt
        have dEA : ∀ k, BlkR (.slice (some ⟨g8, 0, none⟩) (ln + 1) c8) (hl ++ [.slice (some ⟨g3, 0, none⟩) len len]) k → k ≠ u12.heap.size := fun k hk => by
          rcases hk with e | ⟨y, hy, e⟩
          · have e1 : g8 = k := by simpa [Value.ownBlock] using e
            rcases hat8 with e2 | e2
            · rw [← e1]; exact dLA g8 (.inl e2)
            · omega
          · rcases List.mem_append.1 hy with e2 | e2
            · exact dLA k (.inr ⟨y, e2, e⟩)
            · rw [List.mem_singleton.1 e2] at e
              have e1 : g3 = k := by simpa [Value.ownBlock] using e
              rw [← e1]; exact dVA
        refine hK.out _ _ ?_ (fun hHeld => ?_)
        · exact ⟨hX.below hB27, hC.below hB27⟩
        clear hK K hHeld0
        have hHeld0 := hHeld
        clear hHeld
        try simp only [Act.put, List.setIfInBounds_toArray, List.set_cons_zero, List.set_cons_succ]
        refine last.wpAnyL_one (i := 11) (o := { dst := some 49, op := Op.call { callee := Callee.value (Operand.func 40), args := #[Operand.tmp 39, Operand.tmp 46, Operand.tmp 48], argTypes := #[3, 24, 3] }, type := 38, pos := "l09_shard.go:168", after := #[{ on := 1, ground := Ground.data }, { on := 8, ground := Ground.data }, { on := 10, ground := Ground.data }, { on := 8, ground := Ground.chain }], guard := none }) (by kernel_rfl) rfl (fun K hK => ?_)
        refine stepc.step_call3 rfl 40 (.tmp 39) (.tmp 46) (.tmp 48) _ rfl (fun _ _ => rfl) (.int .i64 s.1) (.slice (some ⟨g8, 0, none⟩) (ln + 1) c8) (.int .i64 s.2.2.1) (by kernel_rfl) (by kernel_rfl) (by kernel_rfl) _ (HSO.out _ _ _ _ hE27) ?_
        rintro e u28 ⟨gm, nm, cm, gh, ch, hh, rfl, hOm, hOh, hnb, hb28⟩
        refine ⟨_, rfl, ?_⟩
        have hB28 := hB27.trans (hb28.mono hB27.size)
        have hE28 := hE27.below hb28
        have hA28 := hA27.below hb28
        obtain ⟨FF, hOS, hFB, hFw⟩ := own_made (B := W.heap.size) hid hsu hE28 (fun k hk => ⟨dE k hk, (hE27.lt k hk).2⟩) hOm hOh hnb hB27.size
        have hal28 := hA27.lt
        have dFA : u12.heap.size ∉ FF := fun e => by
          rcases hFw _ e with e2 | e2
          · exact dEA _ e2 rfl
          · omega
        refine hK.out _ _ ?_ (fun hHeld => ?_)
        · exact ⟨hX.below hB28, hC.below hB28⟩
        clear hK K hHeld0
        have hHeld0 := hHeld
        clear hHeld
        try simp only [Act.put, List.setIfInBounds_toArray, List.set_cons_zero, List.set_cons_succ]
        refine last.wpAnyL_take (i := 12) (v := (.tuple #[aggSh s.1 s.2.2.1 (some ⟨g8, 0, none⟩) (ln + 1) c8 (some ⟨gm, 0, none⟩) nm cm (some ⟨gh, 0, none⟩) (resH (some u)).length ch, .bool true])) rfl rfl (by kernel_rfl) (by kernel_rfl) (by kernel_rfl) (by kernel_rfl) (fun _ _ _ h => h) (Or.inl ⟨by rfl, ?_⟩) (by assumption) ?_
        · intro wq hSq; go_simp
        try simp only [Act.put, List.setIfInBounds_toArray, List.set_cons_zero, List.set_cons_succ]
        refine last.wpAnyL_take (i := 13) (v := (aggSh s.1 s.2.2.1 (some ⟨g8, 0, none⟩) (ln + 1) c8 (some ⟨gm, 0, none⟩) nm cm (some ⟨gh, 0, none⟩) (resH (some u)).length ch)) rfl rfl (by kernel_rfl) (by kernel_rfl) (by kernel_rfl) (by kernel_rfl) (fun _ _ _ h => h) (Or.inl ⟨by rfl, ?_⟩) (by assumption) ?_
        · intro wq hSq; go_simp
        try simp only [Act.put, List.setIfInBounds_toArray, List.set_cons_zero, List.set_cons_succ]
        refine last.wpAnyL_take (i := 14) (v := (.bool true)) rfl rfl (by kernel_rfl) (by kernel_rfl) (by kernel_rfl) (by kernel_rfl) (fun _ _ _ h => h) (Or.inl ⟨by rfl, ?_⟩) (by assumption) ?_
        · intro wq hSq; go_simp
        try simp only [Act.put, List.setIfInBounds_toArray, List.set_cons_zero, List.set_cons_succ]
        obtain ⟨D9, hD9⟩ : ∃ D9, u28 = D9 := ⟨_, rfl⟩
        obtain ⟨bk, hbk⟩ : ∃ bk, u12.heap.size = bk := ⟨_, rfl⟩
        have hAz : BoxIn bk 27 [] (shVals 0 0 none 0 0 none 0 0 none 0 0) [] D9 := by rw [← hD9, ← hbk]; exact hA28
        have hOz := hOS
        have dFz : bk ∉ FF := by rw [← hbk]; exact dFA
        have dAz : W.heap.size ≤ bk := by rw [← hbk]; exact dA
        have hBz9 : Below W.heap.size W D9 := by rw [← hD9]; exact hB28
        rw [hD9] at hOz
        rw [hD9, hbk]
        have y0 := hAz.cell 0 _ rfl
        have y1 := hAz.cell 1 _ rfl
        have y2 := hAz.cell 2 _ rfl
        have y3 := hAz.cell 3 _ rfl
        have y4 := hAz.cell 4 _ rfl
        have e5 := hAz.set5 (.int .i64 s.1) (.slice (some ⟨g8, 0, none⟩) (ln + 1) c8) (.int .i64 s.2.2.1) (.slice (some ⟨gm, 0, none⟩) nm cm) (.slice (some ⟨gh, 0, none⟩) (resH (some u)).length ch)
        simp only [List.length_nil, Nat.zero_add] at y0 y1 y2 y3 y4 e5
        have v0 := hAz.fz 0
        have v1 := hAz.fz 1
        have v2 := hAz.fz 2
        have v3 := hAz.fz 3
        have v4 := hAz.fz 4
        have hB9 := hBz9.grown e5.2 hBz9.size (fun j e => by cases e; exact dAz)
        have hO9 := hOz.keep (fun j hj => e5.2.block j (hOz.lt j hj) (fun e => dFz (by rw [← Option.some.inj e]; exact hj)))
        have hX9 := e5.1
        refine last.wpAnyL_one (i := 16) (o := { dst := none, op := Op.store 27 (Operand.tmp 7) (Operand.tmp 50), type := 0, pos := "l09_shard.go:168", after := #[{ on := 15, ground := Ground.data }, { on := 13, ground := Ground.data }, { on := 11, ground := Ground.chain }, { on := 0, ground := Ground.phase }, { on := 1, ground := Ground.phase }, { on := 2, ground := Ground.phase }, { on := 3, ground := Ground.phase }, { on := 4, ground := Ground.phase }, { on := 5, ground := Ground.phase }, { on := 6, ground := Ground.phase }, { on := 7, ground := Ground.phase }, { on := 8, ground := Ground.phase }, { on := 9, ground := Ground.phase }, { on := 10, ground := Ground.phase }, { on := 11, ground := Ground.phase }, { on := 12, ground := Ground.phase }, { on := 13, ground := Ground.phase }, { on := 14, ground := Ground.textOnly Departure.lateStores }, { on := 15, ground := Ground.phase }], guard := none }) (by kernel_rfl) rfl (fun K hK => ?_)
        go_simp
        refine hK.out _ _ ?_ (fun hHeld => ?_)
        · exact ⟨hX.below hB9, hC.below hB9⟩
        clear hK K hHeld0
        have hHeld0 := hHeld
        clear hHeld
        try simp only [Act.put, List.setIfInBounds_toArray, List.set_cons_zero, List.set_cons_succ]
        refine last.wpAnyL_last (o := { dst := some 8, op := Op.assign (Operand.tmp 51), type := 4, pos := "l09_shard.go:168", after := #[{ on := 14, ground := Ground.data }, { on := 16, ground := Ground.chain }, { on := 0, ground := Ground.phase }, { on := 1, ground := Ground.phase }, { on := 2, ground := Ground.phase }, { on := 3, ground := Ground.phase }, { on := 4, ground := Ground.phase }, { on := 5, ground := Ground.phase }, { on := 6, ground := Ground.phase }, { on := 7, ground := Ground.phase }, { on := 8, ground := Ground.phase }, { on := 9, ground := Ground.phase }, { on := 10, ground := Ground.phase }, { on := 11, ground := Ground.phase }, { on := 12, ground := Ground.phase }, { on := 13, ground := Ground.phase }, { on := 14, ground := Ground.phase }, { on := 15, ground := Ground.phase }, { on := 16, ground := Ground.phase }], guard := none }) (by kernel_rfl) rfl (by kernel_rfl) (fun K hK => ?_)
        go_simp
        refine hK.out _ _ ?_
        clear hK K
        have b0 := hX9.cell 0 _ rfl
        have b1 := hX9.cell 1 _ rfl
        have b2 := hX9.cell 2 _ rfl
        have b3 := hX9.cell 3 _ rfl
        have b4 := hX9.cell 4 _ rfl
        simp only [List.length_nil, Nat.zero_add] at b0 b1 b2 b3 b4
        have hRz : BoxIn (w.heap.size + 1 + 1) 27 [] (shVals 0 0 none 0 0 none 0 0 none 0 0) [] _ := hRB.below hB9
        have hne : w.heap.size + 1 + 1 ≠ bk := by omega
        have hne2 : bk ≠ w.heap.size + 1 + 1 := by omega
        have dRF : w.heap.size + 1 + 1 ∉ FF := fun e => by have := hFB _ e; omega
        have z0 := hRz.cell 0 _ rfl
        have z1 := hRz.cell 1 _ rfl
        have z2 := hRz.cell 2 _ rfl
        have z3 := hRz.cell 3 _ rfl
        have z4 := hRz.cell 4 _ rfl
        have hS5 := hRz.set5 (.int .i64 s.1) (.slice (some ⟨g8, 0, none⟩) (ln + 1) c8) (.int .i64 s.2.2.1) (.slice (some ⟨gm, 0, none⟩) nm cm) (.slice (some ⟨gh, 0, none⟩) (resH (some u)).length ch)
        simp only [List.length_nil, Nat.zero_add] at z0 z1 z2 z3 z4 hS5
        have f0 := hRz.fz 0
        have f1 := hRz.fz 1
        have f2 := hRz.fz 2
        have f3 := hRz.fz 3
        have f4 := hRz.fz 4
        have hBw := hB.trans (hB9.mono hB.size)
        have hBf := hBw.grown hS5.2 hBw.size (fun j e => by cases e; omega)
        have hOf := hO9.keep (fun j hj => hS5.2.block j (hO9.lt j hj) (fun e => dRF (by rw [← Option.some.inj e]; exact hj)))
        have hzc0 := hS5.1.cell 0 _ rfl
        have hzc1 := hS5.1.cell 1 _ rfl
        have hzc2 := hS5.1.cell 2 _ rfl
        have hzc3 := hS5.1.cell 3 _ rfl
        have hzc4 := hS5.1.cell 4 _ rfl
        simp only [List.length_nil, Nat.zero_add] at hzc0 hzc1 hzc2 hzc3 hzc4
        have HP : Hid (DoPost A (s.1, s.2.1 ++ [((1 : Int), tx, ops)], s.2.2.1, u.1, u.2.1) none w (.returned (.tuple #[aggSh s.1 s.2.2.1 (some ⟨g8, 0, none⟩) (ln + 1) c8 (some ⟨gm, 0, none⟩) nm cm (some ⟨gh, 0, none⟩) (resH (some u)).length ch, .nilIface])) _) := ⟨_, _, _, _, _, _, _, _, _, FF, rfl, hOf, fun k hk => Nat.le_trans hB.size (hFB k hk), hBf⟩
        clear hOf hBf hS5 hRz hBw hO9 hB9
        clear hHeld0 hX9 y0 y1 y2 y3 y4 e5 v0 v1 v2 v3 v4 hAz hOz hD9 hbk hBz9
        go_wp2_with fail
        refine bodyPost_ret (v := .tuple #[aggSh s.1 s.2.2.1 (some ⟨g8, 0, none⟩) (ln + 1) c8 (some ⟨gm, 0, none⟩) nm cm (some ⟨gh, 0, none⟩) (resH (some u)).length ch, .nilIface]) ?_ rfl HP.out
        simp [results, Tryz.results33, go_sem, hzc0, hzc1, hzc2, hzc3, hzc4]
    · go_simp
      have hb30 : Below u11.heap.size u11 (u11.alloc (boxSh 0 0 none 0 0 none 0 0 none 0 0)) := below_alloc
      have hB30 := hB11.trans (hb30.mono hB11.size)
      have hL30 := hL11.below hb30
      have hA30 : BoxIn u11.heap.size 27 [] (shVals 0 0 none 0 0 none 0 0 none 0 0) [] (u11.alloc (boxSh 0 0 none 0 0 none 0 0 none 0 0)) := boxIn_new u11 _ _
      have dA : W.heap.size ≤ u11.heap.size := hB11.size
      have dLA : ∀ k, BlkR (.slice (some ⟨gl, 0, none⟩) ln cl) hl k → k ≠ u11.heap.size := fun k hk e => by have h1 := (hL11.lt k hk).2; omega
      refine hK.out _ _ ?_ (fun hHeld => ?_)
      · exact ⟨hX.below hB30, hC.below hB30⟩
      clear hK K hHeld0
      have hHeld0 := hHeld
      clear hHeld
      try simp only [Act.put, List.setIfInBounds_toArray, List.set_cons_zero, List.set_cons_succ]
      generalize hgw30 : (u11.alloc (boxSh 0 0 none 0 0 none 0 0 none 0 0)) = u30 at *
      clear hgw30
      refine last.wpAnyL_one (i := 6) (o := { dst := some 44, op := Op.call { callee := Callee.value (Operand.func 76), args := #[Operand.tmp 43], argTypes := #[41] }, type := 41, pos := "l09_shard.go:168", after := #[{ on := 5, ground := Ground.data }, { on := 4, ground := Ground.chain }], guard := none }) (by kernel_rfl) rfl (fun K hK => ?_)
      refine stepc.step_call1 rfl 76 (.tmp 43) _ rfl (fun _ _ => rfl) (.agg #[.int .i64 1, .int .i64 tx, .slice a len cap]) (by kernel_rfl) _ (HRC.out _ hB30) ?_
      rintro e u31 ⟨g3, rfl, hQ31, hb31⟩
      refine ⟨_, rfl, ?_⟩
      have hB31 := hB30.trans (hb31.mono hB30.size)
      have hL31 := hL30.below hb31
      have hA31 := hA30.below hb31
      have hV31 := (ownV_of hQ31).mono (base' := 0) (Nat.zero_le _)
      have h3l := hQ31.lt
      have dV : W.heap.size ≤ g3 := Nat.le_trans hB30.size h3l.1
      have dVL : ¬ BlkR (.slice (some ⟨gl, 0, none⟩) ln cl) hl g3 := fun e => by have h1 := (hL30.lt g3 e).2; omega
      have dVA : g3 ≠ u11.heap.size := fun e => by have h2 := hA30.lt; omega
      refine hK.out _ _ ?_ (fun hHeld => ?_)
      · exact ⟨hX.below hB31, hC.below hB31⟩
      clear hK K hHeld0
      have hHeld0 := hHeld
      clear hHeld
      try simp only [Act.put, List.setIfInBounds_toArray, List.set_cons_zero, List.set_cons_succ]
      refine last.wpAnyL_one (i := 7) (o := { dst := some 45, op := Op.buildSlice 24 1 #[(0, Operand.tmp 44)], type := 24, pos := "l09_shard.go:168", after := #[{ on := 6, ground := Ground.data }], guard := none }) (by kernel_rfl) rfl (fun K hK => ?_)
      go_simp
      have hb32 : Below u31.heap.size u31 (u31.alloc (.cells #[.int .i64 1, .int .i64 tx, .slice (some ⟨g3, 0, none⟩) len len] 41)) := below_alloc
      have hB32 := hB31.trans (hb32.mono hB31.size)
      have hL32 := hL31.below hb32
      have hV32 := hV31.below hb32
      have hA32 := hA31.below hb32
      have hN32 : (u31.alloc (.cells #[.int .i64 1, .int .i64 tx, .slice (some ⟨g3, 0, none⟩) len len] 41)).heap[u31.heap.size]? = some (.cells #[.int .i64 1, .int .i64 tx, .slice (some ⟨g3, 0, none⟩) len len] 41) := heap_alloc_new u31 _
      refine hK.out _ _ ?_ (fun hHeld => ?_)
      · exact ⟨hX.below hB32, hC.below hB32⟩
      clear hK K hHeld0
      have hHeld0 := hHeld
      clear hHeld
      try simp only [Act.put, List.setIfInBounds_toArray, List.set_cons_zero, List.set_cons_succ]
      generalize hgw32 : (u31.alloc (.cells #[.int .i64 1, .int .i64 tx, .slice (some ⟨g3, 0, none⟩) len len] 41)) = u32 at *
      clear hgw32
      refine last.wpAnyL_one (i := 8) (o := { dst := some 46, op := Op.call { callee := Callee.builtin Builtin.append, args := #[Operand.tmp 42, Operand.tmp 45], argTypes := #[24, 24] }, type := 24, pos := "l09_shard.go:168", after := #[{ on := 4, ground := Ground.data }, { on := 7, ground := Ground.data }, { on := 6, ground := Ground.chain }], guard := none }) (by kernel_rfl) rfl (fun K hK => ?_)
      refine step_append_lies _ rfl (.tmp 42) (.tmp 45) 24 rfl 0 41 i0 (.agg #[.int .i64 0, .int .i64 0, .slice none 0 0]) 3 40 Tryz.underlying24 hi hz0 hz1 hz2 rfl (by decide) (.slice (some ⟨gl, 0, none⟩) ln cl) ln (recVals s.2.1 hl) (by kernel_rfl) (by have q := hL32.row; rw [HL1.out] at q; exact q) ⟨u31.heap.size, 0, none⟩ 1 1 [.int .i64 1, .int .i64 tx, .slice (some ⟨g3, 0, none⟩) len len] (by kernel_rfl) rfl (fun j u hu => World.news_of_block hN32 j u hu) (rec_oneW 1 tx hV32.one) (by decide) hc3 hc4 (Nat.zero_le _) _ rfl ?_
      intro g8 c8 u33 hown8 hgrow8 hat8 hlt8
      have hE33 : OwnR u33 0 (.slice (some ⟨g8, 0, none⟩) (ln + 1) c8) (s.2.1 ++ [((1 : Int), tx, ops)]) (hl ++ [.slice (some ⟨g3, 0, none⟩) len len]) := hL32.snoc hV32 hsmr (fun k hk hb => by
        have e1 : g3 = k := by simpa [Value.ownBlock] using hk
        rw [← e1] at hb; exact dVL hb) (by rw [HL1.out]; exact hown8) hgrow8
      have hB33 : Below W.heap.size W u33 := hB32.grown hgrow8 hB32.size (fun k e => dL k (.inl e))
      have hwl33 := hB32.size
      have dE : ∀ k, BlkR (.slice (some ⟨g8, 0, none⟩) (ln + 1) c8) (hl ++ [.slice (some ⟨g3, 0, none⟩) len len]) k → W.heap.size ≤ k := fun k hk => by
        rcases hk with e | ⟨y, hy, e⟩
        · have e1 : g8 = k := by simpa [Value.ownBlock] using e
          rcases hat8 with e2 | e2
          · rw [← e1]; exact dL g8 (.inl e2)
          · omega
        · rcases List.mem_append.1 hy with e2 | e2
          · exact dL k (.inr ⟨y, e2, e⟩)
          · rw [List.mem_singleton.1 e2] at e
            have e1 : g3 = k := by simpa [Value.ownBlock] using e
            omega
      have hA33 := hA32.grown hgrow8 (fun e => dLA _ (.inl e.symm) rfl)
      have hal33 := hA32.lt
      have dEA : ∀ k, BlkR (.slice (some ⟨g8, 0, none⟩) (ln + 1) c8) (hl ++ [.slice (some ⟨g3, 0, none⟩) len len]) k → k ≠ u11.heap.size := fun k hk => by
        rcases hk with e | ⟨y, hy, e⟩
        · have e1 : g8 = k := by simpa [Value.ownBlock] using e
          rcases hat8 with e2 | e2
          · rw [← e1]; exact dLA g8 (.inl e2)
          · omega
        · rcases List.mem_append.1 hy with e2 | e2
          · exact dLA k (.inr ⟨y, e2, e⟩)
          · rw [List.mem_singleton.1 e2] at e
            have e1 : g3 = k := by simpa [Value.ownBlock] using e
            rw [← e1]; exact dVA
      refine hK.out _ _ ?_ (fun hHeld => ?_)
      · exact ⟨hX.below hB33, hC.below hB33⟩
      clear hK K hHeld0
      have hHeld0 := hHeld
      clear hHeld
      try simp only [Act.put, List.setIfInBounds_toArray, List.set_cons_zero, List.set_cons_succ]
      refine last.wpAnyL_one (i := 11) (o := { dst := some 49, op := Op.call { callee := Callee.value (Operand.func 40), args := #[Operand.tmp 39, Operand.tmp 46, Operand.tmp 48], argTypes := #[3, 24, 3] }, type := 38, pos := "l09_shard.go:168", after := #[{ on := 1, ground := Ground.data }, { on := 8, ground := Ground.data }, { on := 10, ground := Ground.data }, { on := 8, ground := Ground.chain }], guard := none }) (by kernel_rfl) rfl (fun K hK => ?_)
      refine stepc.step_call3 rfl 40 (.tmp 39) (.tmp 46) (.tmp 48) _ rfl (fun _ _ => rfl) (.int .i64 s.1) (.slice (some ⟨g8, 0, none⟩) (ln + 1) c8) (.int .i64 s.2.2.1) (by kernel_rfl) (by kernel_rfl) (by kernel_rfl) _ (HSO.out _ _ _ _ hE33) ?_
      rintro e u34 ⟨gm, nm, cm, gh, ch, hh, rfl, hOm, hOh, hnb, hb34⟩
      refine ⟨_, rfl, ?_⟩
      have hB34 := hB33.trans (hb34.mono hB33.size)
      have hE34 := hE33.below hb34
      have hA34 := hA33.below hb34
      obtain ⟨FF, hOS, hFB, hFw⟩ := own_made (B := W.heap.size) hid hsu hE34 (fun k hk => ⟨dE k hk, (hE33.lt k hk).2⟩) hOm hOh hnb hB33.size
      have hal34 := hA33.lt
      have dFA : u11.heap.size ∉ FF := fun e => by
        rcases hFw _ e with e2 | e2
        · exact dEA _ e2 rfl
        · omega
      refine hK.out _ _ ?_ (fun hHeld => ?_)
      · exact ⟨hX.below hB34, hC.below hB34⟩
      clear hK K hHeld0
      have hHeld0 := hHeld
      clear hHeld
      try simp only [Act.put, List.setIfInBounds_toArray, List.set_cons_zero, List.set_cons_succ]
      refine last.wpAnyL_take (i := 12) (v := (.tuple #[aggSh s.1 s.2.2.1 (some ⟨g8, 0, none⟩) (ln + 1) c8 (some ⟨gm, 0, none⟩) nm cm (some ⟨gh, 0, none⟩) (resH (some u)).length ch, .bool true])) rfl rfl (by kernel_rfl) (by kernel_rfl) (by kernel_rfl) (by kernel_rfl) (fun _ _ _ h => h) (Or.inl ⟨by rfl, ?_⟩) (by assumption) ?_
      · intro wq hSq; go_simp
      try simp only [Act.put, List.setIfInBounds_toArray, List.set_cons_zero, List.set_cons_succ]
      refine last.wpAnyL_take (i := 13) (v := (aggSh s.1 s.2.2.1 (some ⟨g8, 0, none⟩) (ln + 1) c8 (some ⟨gm, 0, none⟩) nm cm (some ⟨gh, 0, none⟩) (resH (some u)).length ch)) rfl rfl (by kernel_rfl) (by kernel_rfl) (by kernel_rfl) (by kernel_rfl) (fun _ _ _ h => h) (Or.inl ⟨by rfl, ?_⟩) (by assumption) ?_
      · intro wq hSq; go_simp
      try simp only [Act.put, List.setIfInBounds_toArray, List.set_cons_zero, List.set_cons_succ]
      refine last.wpAnyL_take (i := 14) (v := (.bool true)) rfl rfl (by kernel_rfl) (by kernel_rfl) (by kernel_rfl) (by kernel_rfl) (fun _ _ _ h => h) (Or.inl ⟨by rfl, ?_⟩) (by assumption) ?_
      · intro wq hSq; go_simp
      try simp only [Act.put, List.setIfInBounds_toArray, List.set_cons_zero, List.set_cons_succ]
      obtain ⟨D9, hD9⟩ : ∃ D9, u34 = D9 := ⟨_, rfl⟩
      obtain ⟨bk, hbk⟩ : ∃ bk, u11.heap.size = bk := ⟨_, rfl⟩
      have hAz : BoxIn bk 27 [] (shVals 0 0 none 0 0 none 0 0 none 0 0) [] D9 := by rw [← hD9, ← hbk]; exact hA34
      have hOz := hOS
      have dFz : bk ∉ FF := by rw [← hbk]; exact dFA
      have dAz : W.heap.size ≤ bk := by rw [← hbk]; exact dA
      have hBz9 : Below W.heap.size W D9 := by rw [← hD9]; exact hB34
      rw [hD9] at hOz
      rw [hD9, hbk]
      have y0 := hAz.cell 0 _ rfl
      have y1 := hAz.cell 1 _ rfl
      have y2 := hAz.cell 2 _ rfl
      have y3 := hAz.cell 3 _ rfl
      have y4 := hAz.cell 4 _ rfl
      have e5 := hAz.set5 (.int .i64 s.1) (.slice (some ⟨g8, 0, none⟩) (ln + 1) c8) (.int .i64 s.2.2.1) (.slice (some ⟨gm, 0, none⟩) nm cm) (.slice (some ⟨gh, 0, none⟩) (resH (some u)).length ch)
      simp only [List.length_nil, Nat.zero_add] at y0 y1 y2 y3 y4 e5
      have v0 := hAz.fz 0
      have v1 := hAz.fz 1
      have v2 := hAz.fz 2
      have v3 := hAz.fz 3
      have v4 := hAz.fz 4
      have hB9 := hBz9.grown e5.2 hBz9.size (fun j e => by cases e; exact dAz)
      have hO9 := hOz.keep (fun j hj => e5.2.block j (hOz.lt j hj) (fun e => dFz (by rw [← Option.some.inj e]; exact hj)))
      have hX9 := e5.1
      refine last.wpAnyL_one (i := 16) (o := { dst := none, op := Op.store 27 (Operand.tmp 7) (Operand.tmp 50), type := 0, pos := "l09_shard.go:168", after := #[{ on := 15, ground := Ground.data }, { on := 13, ground := Ground.data }, { on := 11, ground := Ground.chain }, { on := 0, ground := Ground.phase }, { on := 1, ground := Ground.phase }, { on := 2, ground := Ground.phase }, { on := 3, ground := Ground.phase }, { on := 4, ground := Ground.phase }, { on := 5, ground := Ground.phase }, { on := 6, ground := Ground.phase }, { on := 7, ground := Ground.phase }, { on := 8, ground := Ground.phase }, { on := 9, ground := Ground.phase }, { on := 10, ground := Ground.phase }, { on := 11, ground := Ground.phase }, { on := 12, ground := Ground.phase }, { on := 13, ground := Ground.phase }, { on := 14, ground := Ground.textOnly Departure.lateStores }, { on := 15, ground := Ground.phase }], guard := none }) (by kernel_rfl) rfl (fun K hK => ?_)
      go_simp
      refine hK.out _ _ ?_ (fun hHeld => ?_)
      · exact ⟨hX.below hB9, hC.below hB9⟩
      clear hK K hHeld0
      have hHeld0 := hHeld
      clear hHeld
      try simp only [Act.put, List.setIfInBounds_toArray, List.set_cons_zero, List.set_cons_succ]
      refine last.wpAnyL_last (o := { dst := some 8, op := Op.assign (Operand.tmp 51), type := 4, pos := "l09_shard.go:168", after := #[{ on := 14, ground := Ground.data }, { on := 16, ground := Ground.chain }, { on := 0, ground := Ground.phase }, { on := 1, ground := Ground.phase }, { on := 2, ground := Ground.phase }, { on := 3, ground := Ground.phase }, { on := 4, ground := Ground.phase }, { on := 5, ground := Ground.phase }, { on := 6, ground := Ground.phase }, { on := 7, ground := Ground.phase }, { on := 8, ground := Ground.phase }, { on := 9, ground := Ground.phase }, { on := 10, ground := Ground.phase }, { on := 11, ground := Ground.phase }, { on := 12, ground := Ground.phase }, { on := 13, ground := Ground.phase }, { on := 14, ground := Ground.phase }, { on := 15, ground := Ground.phase }, { on := 16, ground := Ground.phase }], guard := none }) (by kernel_rfl) rfl (by kernel_rfl) (fun K hK => ?_)
      go_simp
      refine hK.out _ _ ?_
      clear hK K
      have b0 := hX9.cell 0 _ rfl
      have b1 := hX9.cell 1 _ rfl
      have b2 := hX9.cell 2 _ rfl
      have b3 := hX9.cell 3 _ rfl
      have b4 := hX9.cell 4 _ rfl
      simp only [List.length_nil, Nat.zero_add] at b0 b1 b2 b3 b4
      have hRz : BoxIn (w.heap.size + 1 + 1) 27 [] (shVals 0 0 none 0 0 none 0 0 none 0 0) [] _ := hRB.below hB9
      have hne : w.heap.size + 1 + 1 ≠ bk := by omega
      have hne2 : bk ≠ w.heap.size + 1 + 1 := by omega
      have dRF : w.heap.size + 1 + 1 ∉ FF := fun e => by have := hFB _ e; omega
      have z0 := hRz.cell 0 _ rfl
      have z1 := hRz.cell 1 _ rfl
      have z2 := hRz.cell 2 _ rfl
      have z3 := hRz.cell 3 _ rfl
      have z4 := hRz.cell 4 _ rfl
      have hS5 := hRz.set5 (.int .i64 s.1) (.slice (some ⟨g8, 0, none⟩) (ln + 1) c8) (.int .i64 s.2.2.1) (.slice (some ⟨gm, 0, none⟩) nm cm) (.slice (some ⟨gh, 0, none⟩) (resH (some u)).length ch)
      simp only [List.length_nil, Nat.zero_add] at z0 z1 z2 z3 z4 hS5
      have f0 := hRz.fz 0
      have f1 := hRz.fz 1
      have f2 := hRz.fz 2
      have f3 := hRz.fz 3
      have f4 := hRz.fz 4
      have hBw := hB.trans (hB9.mono hB.size)
      have hBf := hBw.grown hS5.2 hBw.size (fun j e => by cases e; omega)
      have hOf := hO9.keep (fun j hj => hS5.2.block j (hO9.lt j hj) (fun e => dRF (by rw [← Option.some.inj e]; exact hj)))
      have hzc0 := hS5.1.cell 0 _ rfl
      have hzc1 := hS5.1.cell 1 _ rfl
      have hzc2 := hS5.1.cell 2 _ rfl
      have hzc3 := hS5.1.cell 3 _ rfl
      have hzc4 := hS5.1.cell 4 _ rfl
      simp only [List.length_nil, Nat.zero_add] at hzc0 hzc1 hzc2 hzc3 hzc4
      have HP : Hid (DoPost A (s.1, s.2.1 ++ [((1 : Int), tx, ops)], s.2.2.1, u.1, u.2.1) none w (.returned (.tuple #[aggSh s.1 s.2.2.1 (some ⟨g8, 0, none⟩) (ln + 1) c8 (some ⟨gm, 0, none⟩) nm cm (some ⟨gh, 0, none⟩) (resH (some u)).length ch, .nilIface])) _) := ⟨_, _, _, _, _, _, _, _, _, FF, rfl, hOf, fun k hk => Nat.le_trans hB.size (hFB k hk), hBf⟩
      clear hOf hBf hS5 hRz hBw hO9 hB9
      clear hHeld0 hX9 y0 y1 y2 y3 y4 e5 v0 v1 v2 v3 v4 hAz hOz hD9 hbk hBz9
      go_wp2_with fail
      refine bodyPost_ret (v := .tuple #[aggSh s.1 s.2.2.1 (some ⟨g8, 0, none⟩) (ln + 1) c8 (some ⟨gm, 0, none⟩) nm cm (some ⟨gh, 0, none⟩) (resH (some u)).length ch, .nilIface]) ?_ rfl HP.out
      simp [results, Tryz.results33, go_sem, hzc0, hzc1, hzc2, hzc3, hzc4]
  · go_simp
    have hb36 : Below D5.heap.size D5 (D5.alloc (boxSh 0 0 none 0 0 none 0 0 none 0 0)) := below_alloc
    have hB36 := hb5d.trans (hb36.mono hb5d.size)
    have hA36 : BoxIn D5.heap.size 27 [] (shVals 0 0 none 0 0 none 0 0 none 0 0) [] (D5.alloc (boxSh 0 0 none 0 0 none 0 0 none 0 0)) := boxIn_new D5 _ _
    have dA : W.heap.size ≤ D5.heap.size := hb5d.size
    refine hK.out _ _ ?_ (fun hHeld => ?_)
    · exact ⟨hX.below hB36, hC.below hB36⟩
    clear hK K hHeld0
    have hHeld0 := hHeld
    clear hHeld
    try simp only [Act.put, List.setIfInBounds_toArray, List.set_cons_zero, List.set_cons_succ]
    generalize hgw36 : (D5.alloc (boxSh 0 0 none 0 0 none 0 0 none 0 0)) = u36 at *
    clear hgw36
    refine last.wpAnyL_one (i := 4) (o := { dst := some 42, op := Op.call { callee := Callee.value (Operand.func 75), args := #[Operand.tmp 41], argTypes := #[24] }, type := 24, pos := "l09_shard.go:168", after := #[{ on := 3, ground := Ground.data }], guard := none }) (by kernel_rfl) rfl (fun K hK => ?_)
    refine stepc.step_call1 rfl 75 (.tmp 41) _ rfl (fun _ _ => rfl) (.slice la ln lc) (by kernel_rfl) _ (HOR.out _ hB36) ?_
    rintro e u37 ⟨gl, cl, hl, rfl, hQ37, hb37⟩
    refine ⟨_, rfl, ?_⟩
    have hB37 := hB36.trans (hb37.mono hB36.size)
    have hA37 := hA36.below hb37
    have hL37 := hQ37.mono (base' := 0) (Nat.zero_le _)
    have dL : ∀ k, BlkR (.slice (some ⟨gl, 0, none⟩) ln cl) hl k → W.heap.size ≤ k := fun k hk => Nat.le_trans hB36.size (hQ37.lt k hk).1
    have dLA : ∀ k, BlkR (.slice (some ⟨gl, 0, none⟩) ln cl) hl k → k ≠ D5.heap.size := fun k hk e => by have h1 := (hQ37.lt k hk).1; have h2 := hA36.lt; omega
    refine hK.out _ _ ?_ (fun hHeld => ?_)
    · exact ⟨hX.below hB37, hC.below hB37⟩
    clear hK K hHeld0
    have hHeld0 := hHeld
    clear hHeld
    try simp only [Act.put, List.setIfInBounds_toArray, List.set_cons_zero, List.set_cons_succ]
    refine last.wpAnyL_one (i := 6) (o := { dst := some 44, op := Op.call { callee := Callee.value (Operand.func 76), args := #[Operand.tmp 43], argTypes := #[41] }, type := 41, pos := "l09_shard.go:168", after := #[{ on := 5, ground := Ground.data }, { on := 4, ground := Ground.chain }], guard := none }) (by kernel_rfl) rfl (fun K hK => ?_)
    refine stepc.step_call1 rfl 76 (.tmp 43) _ rfl (fun _ _ => rfl) (.agg #[.int .i64 1, .int .i64 tx, .slice a len cap]) (by kernel_rfl) _ (HRC.out _ hB37) ?_
    rintro e u38 ⟨g3, rfl, hQ38, hb38⟩
    refine ⟨_, rfl, ?_⟩
    have hB38 := hB37.trans (hb38.mono hB37.size)
    have hL38 := hL37.below hb38
    have hA38 := hA37.below hb38
    have hV38 := (ownV_of hQ38).mono (base' := 0) (Nat.zero_le _)
    have h3l := hQ38.lt
    have dV : W.heap.size ≤ g3 := Nat.le_trans hB37.size h3l.1
    have dVL : ¬ BlkR (.slice (some ⟨gl, 0, none⟩) ln cl) hl g3 := fun e => by have h1 := (hL37.lt g3 e).2; omega
    have dVA : g3 ≠ D5.heap.size := fun e => by have h2 := hA37.lt; omega
    refine hK.out _ _ ?_ (fun hHeld => ?_)
    · exact ⟨hX.below hB38, hC.below hB38⟩
    clear hK K hHeld0
    have hHeld0 := hHeld
    clear hHeld
    try simp only [Act.put, List.setIfInBounds_toArray, List.set_cons_zero, List.set_cons_succ]
    refine last.wpAnyL_one (i := 7) (o := { dst := some 45, op := Op.buildSlice 24 1 #[(0, Operand.tmp 44)], type := 24, pos := "l09_shard.go:168", after := #[{ on := 6, ground := Ground.data }], guard := none }) (by kernel_rfl) rfl (fun K hK => ?_)
    go_simp
    have hb39 : Below u38.heap.size u38 (u38.alloc (.cells #[.int .i64 1, .int .i64 tx, .slice (some ⟨g3, 0, none⟩) len len] 41)) := below_alloc
    have hB39 := hB38.trans (hb39.mono hB38.size)
    have hL39 := hL38.below hb39
    have hV39 := hV38.below hb39
    have hA39 := hA38.below hb39
    have hN39 : (u38.alloc (.cells #[.int .i64 1, .int .i64 tx, .slice (some ⟨g3, 0, none⟩) len len] 41)).heap[u38.heap.size]? = some (.cells #[.int .i64 1, .int .i64 tx, .slice (some ⟨g3, 0, none⟩) len len] 41) := heap_alloc_new u38 _
    refine hK.out _ _ ?_ (fun hHeld => ?_)
    · exact ⟨hX.below hB39, hC.below hB39⟩
    clear hK K hHeld0
    have hHeld0 := hHeld
    clear hHeld
    try simp only [Act.put, List.setIfInBounds_toArray, List.set_cons_zero, List.set_cons_succ]
    generalize hgw39 : (u38.alloc (.cells #[.int .i64 1, .int .i64 tx, .slice (some ⟨g3, 0, none⟩) len len] 41)) = u39 at *
    clear hgw39
    refine last.wpAnyL_one (i := 8) (o := { dst := some 46, op := Op.call { callee := Callee.builtin Builtin.append, args := #[Operand.tmp 42, Operand.tmp 45], argTypes := #[24, 24] }, type := 24, pos := "l09_shard.go:168", after := #[{ on := 4, ground := Ground.data }, { on := 7, ground := Ground.data }, { on := 6, ground := Ground.chain }], guard := none }) (by kernel_rfl) rfl (fun K hK => ?_)
    refine step_append_lies _ rfl (.tmp 42) (.tmp 45) 24 rfl 0 41 i0 (.agg #[.int .i64 0, .int .i64 0, .slice none 0 0]) 3 40 Tryz.underlying24 hi hz0 hz1 hz2 rfl (by decide) (.slice (some ⟨gl, 0, none⟩) ln cl) ln (recVals s.2.1 hl) (by kernel_rfl) (by have q := hL39.row; rw [HL1.out] at q; exact q) ⟨u38.heap.size, 0, none⟩ 1 1 [.int .i64 1, .int .i64 tx, .slice (some ⟨g3, 0, none⟩) len len] (by kernel_rfl) rfl (fun j u hu => World.news_of_block hN39 j u hu) (rec_oneW 1 tx hV39.one) (by decide) hc3 hc4 (Nat.zero_le _) _ rfl ?_
    intro g8 c8 u40 hown8 hgrow8 hat8 hlt8
    have hE40 : OwnR u40 0 (.slice (some ⟨g8, 0, none⟩) (ln + 1) c8) (s.2.1 ++ [((1 : Int), tx, ops)]) (hl ++ [.slice (some ⟨g3, 0, none⟩) len len]) := hL39.snoc hV39 hsmr (fun k hk hb => by
      have e1 : g3 = k := by simpa [Value.ownBlock] using hk
      rw [← e1] at hb; exact dVL hb) (by rw [HL1.out]; exact hown8) hgrow8
    have hB40 : Below W.heap.size W u40 := hB39.grown hgrow8 hB39.size (fun k e => dL k (.inl e))
    have hwl40 := hB39.size
    have dE : ∀ k, BlkR (.slice (some ⟨g8, 0, none⟩) (ln + 1) c8) (hl ++ [.slice (some ⟨g3, 0, none⟩) len len]) k → W.heap.size ≤ k := fun k hk => by
      rcases hk with e | ⟨y, hy, e⟩
      · have e1 : g8 = k := by simpa [Value.ownBlock] using e
        rcases hat8 with e2 | e2
        · rw [← e1]; exact dL g8 (.inl e2)
        · omega
      · rcases List.mem_append.1 hy with e2 | e2
        · exact dL k (.inr ⟨y, e2, e⟩)
        · rw [List.mem_singleton.1 e2] at e
          have e1 : g3 = k := by simpa [Value.ownBlock] using e
          omega
    have hA40 := hA39.grown hgrow8 (fun e => dLA _ (.inl e.symm) rfl)
    have hal40 := hA39.lt
    have dEA : ∀ k, BlkR (.slice (some ⟨g8, 0, none⟩) (ln + 1) c8) (hl ++ [.slice (some ⟨g3, 0, none⟩) len len]) k → k ≠ D5.heap.size := fun k hk => by
      rcases hk with e | ⟨y, hy, e⟩
      · have e1 : g8 = k := by simpa [Value.ownBlock] using e
        rcases hat8 with e2 | e2
        · rw [← e1]; exact dLA g8 (.inl e2)
        · omega
      · rcases List.mem_append.1 hy with e2 | e2
        · exact dLA k (.inr ⟨y, e2, e⟩)
        · rw [List.mem_singleton.1 e2] at e
          have e1 : g3 = k := by simpa [Value.ownBlock] using e
          rw [← e1]; exact dVA
    refine hK.out _ _ ?_ (fun hHeld => ?_)
    · exact ⟨hX.below hB40, hC.below hB40⟩
    clear hK K hHeld0
    have hHeld0 := hHeld
    clear hHeld
    try simp only [Act.put, List.setIfInBounds_toArray, List.set_cons_zero, List.set_cons_succ]
    refine last.wpAnyL_one (i := 11) (o := { dst := some 49, op := Op.call { callee := Callee.value (Operand.func 40), args := #[Operand.tmp 39, Operand.tmp 46, Operand.tmp 48], argTypes := #[3, 24, 3] }, type := 38, pos := "l09_shard.go:168", after := #[{ on := 1, ground := Ground.data }, { on := 8, ground := Ground.data }, { on := 10, ground := Ground.data }, { on := 8, ground := Ground.chain }], guard := none }) (by kernel_rfl) rfl (fun K hK => ?_)
    refine stepc.step_call3 rfl 40 (.tmp 39) (.tmp 46) (.tmp 48) _ rfl (fun _ _ => rfl) (.int .i64 s.1) (.slice (some ⟨g8, 0, none⟩) (ln + 1) c8) (.int .i64 s.2.2.1) (by kernel_rfl) (by kernel_rfl) (by kernel_rfl) _ (HSO.out _ _ _ _ hE40) ?_
    rintro e u41 ⟨gm, nm, cm, gh, ch, hh, rfl, hOm, hOh, hnb, hb41⟩
    refine ⟨_, rfl, ?_⟩
    have hB41 := hB40.trans (hb41.mono hB40.size)
    have hE41 := hE40.below hb41
    have hA41 := hA40.below hb41
    obtain ⟨FF, hOS, hFB, hFw⟩ := own_made (B := W.heap.size) hid hsu hE41 (fun k hk => ⟨dE k hk, (hE40.lt k hk).2⟩) hOm hOh hnb hB40.size
    have hal41 := hA40.lt
    have dFA : D5.heap.size ∉ FF := fun e => by
      rcases hFw _ e with e2 | e2
      · exact dEA _ e2 rfl
      · omega
    refine hK.out _ _ ?_ (fun hHeld => ?_)
    · exact ⟨hX.below hB41, hC.below hB41⟩
    clear hK K hHeld0
    have hHeld0 := hHeld
    clear hHeld
    try simp only [Act.put, List.setIfInBounds_toArray, List.set_cons_zero, List.set_cons_succ]
    refine last.wpAnyL_take (i := 12) (v := (.tuple #[aggSh s.1 s.2.2.1 (some ⟨g8, 0, none⟩) (ln + 1) c8 (some ⟨gm, 0, none⟩) nm cm (some ⟨gh, 0, none⟩) (resH (some u)).length ch, .bool true])) rfl rfl (by kernel_rfl) (by kernel_rfl) (by kernel_rfl) (by kernel_rfl) (fun _ _ _ h => h) (Or.inl ⟨by rfl, ?_⟩) (by assumption) ?_
    · intro wq hSq; go_simp
    try simp only [Act.put, List.setIfInBounds_toArray, List.set_cons_zero, List.set_cons_succ]
    refine last.wpAnyL_take (i := 13) (v := (aggSh s.1 s.2.2.1 (some ⟨g8, 0, none⟩) (ln + 1) c8 (some ⟨gm, 0, none⟩) nm cm (some ⟨gh, 0, none⟩) (resH (some u)).length ch)) rfl rfl (by kernel_rfl) (by kernel_rfl) (by kernel_rfl) (by kernel_rfl) (fun _ _ _ h => h) (Or.inl ⟨by rfl, ?_⟩) (by assumption) ?_
    · intro wq hSq; go_simp
    try simp only [Act.put, List.setIfInBounds_toArray, List.set_cons_zero, List.set_cons_succ]
    refine last.wpAnyL_take (i := 14) (v := (.bool true)) rfl rfl (by kernel_rfl) (by kernel_rfl) (by kernel_rfl) (by kernel_rfl) (fun _ _ _ h => h) (Or.inl ⟨by rfl, ?_⟩) (by assumption) ?_
    · intro wq hSq; go_simp
    try simp only [Act.put, List.setIfInBounds_toArray, List.set_cons_zero, List.set_cons_succ]
    obtain ⟨D9, hD9⟩ : ∃ D9, u41 = D9 := ⟨_, rfl⟩
    obtain ⟨bk, hbk⟩ : ∃ bk, D5.heap.size = bk := ⟨_, rfl⟩
    have hAz : BoxIn bk 27 [] (shVals 0 0 none 0 0 none 0 0 none 0 0) [] D9 := by rw [← hD9, ← hbk]; exact hA41
    have hOz := hOS
    have dFz : bk ∉ FF := by rw [← hbk]; exact dFA
    have dAz : W.heap.size ≤ bk := by rw [← hbk]; exact dA
    have hBz9 : Below W.heap.size W D9 := by rw [← hD9]; exact hB41
    rw [hD9] at hOz
    rw [hD9, hbk]
    have y0 := hAz.cell 0 _ rfl
    have y1 := hAz.cell 1 _ rfl
    have y2 := hAz.cell 2 _ rfl
    have y3 := hAz.cell 3 _ rfl
    have y4 := hAz.cell 4 _ rfl
    have e5 := hAz.set5 (.int .i64 s.1) (.slice (some ⟨g8, 0, none⟩) (ln + 1) c8) (.int .i64 s.2.2.1) (.slice (some ⟨gm, 0, none⟩) nm cm) (.slice (some ⟨gh, 0, none⟩) (resH (some u)).length ch)
    simp only [List.length_nil, Nat.zero_add] at y0 y1 y2 y3 y4 e5
    have v0 := hAz.fz 0
    have v1 := hAz.fz 1
    have v2 := hAz.fz 2
    have v3 := hAz.fz 3
    have v4 := hAz.fz 4
    have hB9 := hBz9.grown e5.2 hBz9.size (fun j e => by cases e; exact dAz)
    have hO9 := hOz.keep (fun j hj => e5.2.block j (hOz.lt j hj) (fun e => dFz (by rw [← Option.some.inj e]; exact hj)))
    have hX9 := e5.1
    refine last.wpAnyL_one (i := 16) (o := { dst := none, op := Op.store 27 (Operand.tmp 7) (Operand.tmp 50), type := 0, pos := "l09_shard.go:168", after := #[{ on := 15, ground := Ground.data }, { on := 13, ground := Ground.data }, { on := 11, ground := Ground.chain }, { on := 0, ground := Ground.phase }, { on := 1, ground := Ground.phase }, { on := 2, ground := Ground.phase }, { on := 3, ground := Ground.phase }, { on := 4, ground := Ground.phase }, { on := 5, ground := Ground.phase }, { on := 6, ground := Ground.phase }, { on := 7, ground := Ground.phase }, { on := 8, ground := Ground.phase }, { on := 9, ground := Ground.phase }, { on := 10, ground := Ground.phase }, { on := 11, ground := Ground.phase }, { on := 12, ground := Ground.phase }, { on := 13, ground := Ground.phase }, { on := 14, ground := Ground.textOnly Departure.lateStores }, { on := 15, ground := Ground.phase }], guard := none }) (by kernel_rfl) rfl (fun K hK => ?_)
    go_simp
    refine hK.out _ _ ?_ (fun hHeld => ?_)
    · exact ⟨hX.below hB9, hC.below hB9⟩
    clear hK K hHeld0
    have hHeld0 := hHeld
    clear hHeld
    try simp only [Act.put, List.setIfInBounds_toArray, List.set_cons_zero, List.set_cons_succ]
    refine last.wpAnyL_last (o := { dst := some 8, op := Op.assign (Operand.tmp 51), type := 4, pos := "l09_shard.go:168", after := #[{ on := 14, ground := Ground.data }, { on := 16, ground := Ground.chain }, { on := 0, ground := Ground.phase }, { on := 1, ground := Ground.phase }, { on := 2, ground := Ground.phase }, { on := 3, ground := Ground.phase }, { on := 4, ground := Ground.phase }, { on := 5, ground := Ground.phase }, { on := 6, ground := Ground.phase }, { on := 7, ground := Ground.phase }, { on := 8, ground := Ground.phase }, { on := 9, ground := Ground.phase }, { on := 10, ground := Ground.phase }, { on := 11, ground := Ground.phase }, { on := 12, ground := Ground.phase }, { on := 13, ground := Ground.phase }, { on := 14, ground := Ground.phase }, { on := 15, ground := Ground.phase }, { on := 16, ground := Ground.phase }], guard := none }) (by kernel_rfl) rfl (by kernel_rfl) (fun K hK => ?_)
    go_simp
    refine hK.out _ _ ?_
    clear hK K
    have b0 := hX9.cell 0 _ rfl
    have b1 := hX9.cell 1 _ rfl
    have b2 := hX9.cell 2 _ rfl
    have b3 := hX9.cell 3 _ rfl
    have b4 := hX9.cell 4 _ rfl
    simp only [List.length_nil, Nat.zero_add] at b0 b1 b2 b3 b4
    have hRz : BoxIn (w.heap.size + 1 + 1) 27 [] (shVals 0 0 none 0 0 none 0 0 none 0 0) [] _ := hRB.below hB9
    have hne : w.heap.size + 1 + 1 ≠ bk := by omega
    have hne2 : bk ≠ w.heap.size + 1 + 1 := by omega
    have dRF : w.heap.size + 1 + 1 ∉ FF := fun e => by have := hFB _ e; omega
    have z0 := hRz.cell 0 _ rfl
    have z1 := hRz.cell 1 _ rfl
    have z2 := hRz.cell 2 _ rfl
    have z3 := hRz.cell 3 _ rfl
    have z4 := hRz.cell 4 _ rfl
    have hS5 := hRz.set5 (.int .i64 s.1) (.slice (some ⟨g8, 0, none⟩) (ln + 1) c8) (.int .i64 s.2.2.1) (.slice (some ⟨gm, 0, none⟩) nm cm) (.slice (some ⟨gh, 0, none⟩) (resH (some u)).length ch)
    simp only [List.length_nil, Nat.zero_add] at z0 z1 z2 z3 z4 hS5
    have f0 := hRz.fz 0
    have f1 := hRz.fz 1
    have f2 := hRz.fz 2
    have f3 := hRz.fz 3
    have f4 := hRz.fz 4
    have hBw := hB.trans (hB9.mono hB.size)
    have hBf := hBw.grown hS5.2 hBw.size (fun j e => by cases e; omega)
    have hOf := hO9.keep (fun j hj => hS5.2.block j (hO9.lt j hj) (fun e => dRF (by rw [← Option.some.inj e]; exact hj)))
    have hzc0 := hS5.1.cell 0 _ rfl
    have hzc1 := hS5.1.cell 1 _ rfl
    have hzc2 := hS5.1.cell 2 _ rfl
    have hzc3 := hS5.1.cell 3 _ rfl
    have hzc4 := hS5.1.cell 4 _ rfl
    simp only [List.length_nil, Nat.zero_add] at hzc0 hzc1 hzc2 hzc3 hzc4
    have HP : Hid (DoPost A (s.1, s.2.1 ++ [((1 : Int), tx, ops)], s.2.2.1, u.1, u.2.1) none w (.returned (.tuple #[aggSh s.1 s.2.2.1 (some ⟨g8, 0, none⟩) (ln + 1) c8 (some ⟨gm, 0, none⟩) nm cm (some ⟨gh, 0, none⟩) (resH (some u)).length ch, .nilIface])) _) := ⟨_, _, _, _, _, _, _, _, _, FF, rfl, hOf, fun k hk => Nat.le_trans hB.size (hFB k hk), hBf⟩
    clear hOf hBf hS5 hRz hBw hO9 hB9
    clear hHeld0 hX9 y0 y1 y2 y3 y4 e5 v0 v1 v2 v3 v4 hAz hOz hD9 hbk hBz9
    go_wp2_with fail
    refine bodyPost_ret (v := .tuple #[aggSh s.1 s.2.2.1 (some ⟨g8, 0, none⟩) (ln + 1) c8 (some ⟨gm, 0, none⟩) nm cm (some ⟨gh, 0, none⟩) (resH (some u)).length ch, .nilIface]) ?_ rfl HP.out
    simp [results, Tryz.results33, go_sem, hzc0, hzc1, hzc2, hzc3, hzc4]
end Go.Proofs.YteniflajiklffaaGreatDoor.recs
