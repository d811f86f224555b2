/- The program's MakeBundle. What the exact law of MakeBundle keeps from step to step, and its walk. -/
import Derived.Test.YteammdkipnfmnaaDoorShah
import Derived.Test.YteammdkipnfmnaaDoorShas
import Derived.Test.YteammdkipnfmnaaDoorShak
import Derived.Deep.CutRange
import Derived.Deep.CutBlock
import Derived.Test.YteammdkipnfmnaaDoorShaq
import Derived.Test.YteammdkipnfmnaaDoorShar
import Derived.Deep.RegionHeld3
namespace Go.Proofs.YteammdkipnfmnaaDoor.bun
open Go Go.RowKit Go.Proofs.YteammdkipnfmnaaDoor.base Go.Proofs.YteammdkipnfmnaaDoor.pairs Go.Proofs.YteammdkipnfmnaaDoor.tree Go.Proofs.YteammdkipnfmnaaDoor.lay Go.Proofs.YteammdkipnfmnaaDoor.range Go.Proofs.YteammdkipnfmnaaDoor.seals Go.Proofs.YteammdkipnfmnaaDoor.tabs
set_option linter.unusedVariables false
set_option linter.unusedSimpArgs false

set_option maxRecDepth 100000 in
set_option maxHeartbeats 16000000 in
theorem impl_makeBundle (lo hi : ByteArray) (ra : Option Addr) (rn rc : Nat) (x : Seal) (ta : Option Addr) (tn tc : Nat) (ts : List (List Pr)) (w : World) (hno : (Lit.int .i64 x.1).wf = true) (hp : x.2.1.size ≤ maxLen) (hR : SlS w ra rn x.2.2.2) (hrc : rn ≤ rc) (hrl : rn ≤ 1048576) (hT : TN w ta tn ts) (hlim : ∀ t ∈ ts, ∀ p ∈ t, lim p) (hlo : lo.size ≤ 1048576) (hhi : hi.size ≤ 1048576) (hK : sha.KW w) :
    Calls Tryd.prog 9 #[.agg #[.int .i64 x.1, .string x.2.1, .string x.2.2.1, .slice ra rn rc], .slice ta tn tc, .string lo, .string hi] w (RetR bundleR w (makeB lo hi x ts)) := by
  obtain ⟨no, pv, su, rs⟩ := x
  simp only [] at *
  obtain rfl : rs.length = rn := hR.1
  obtain rfl : ts.length = tn := hT.1
  have htm := hT.2.1
  unfold maxLen at htm
  obtain ⟨W1, hW1⟩ : ∃ W, w.alloc (.cells #[.int .i64 no, .string pv, .string su, .slice ra rs.length rc] 32) = W := ⟨_, rfl⟩
  obtain ⟨W, hW2⟩ : ∃ W, W1.alloc (.cells #[.int .i64 0, .string ⟨#[]⟩, .slice none 0 0, .slice none 0 0] 30) = W := ⟨_, rfl⟩
  have hs1 : W1.heap.size = w.heap.size + 1 := by rw [← hW1]; simp
  have q1 : Below w.heap.size w W1 := by rw [← hW1]; exact below_make
  have q2 : Below W1.heap.size W1 W := by rw [← hW2]; exact below_make
  have hB := q1.trans (q2.mono q1.size)
  have hA1 : BoxIn w.heap.size 32 [] [.int .i64 no, .string pv, .string su, .slice ra rs.length rc] [] W1 := by rw [← hW1]; exact boxIn_new w _ _
  have hA := hA1.below q2
  have hRb : BoxIn W1.heap.size 30 [] [.int .i64 0, .string ⟨#[]⟩, .slice none 0 0, .slice none 0 0] [] W := by rw [← hW2]; exact boxIn_new W1 _ _
  rw [hs1] at hRb
  have HWW : Hid ((w.alloc (.cells #[.int .i64 no, .string pv, .string su, .slice ra rs.length rc] 32)).alloc (.cells #[.int .i64 0, .string ⟨#[]⟩, .slice none 0 0, .slice none 0 0] 30) = W) := by show _ = _; rw [hW1, hW2]
  obtain ⟨a0, a1, a2, a3⟩ := box4 hA
  rw [← HWW.out] at a0 a1 a2 a3
  by_cases hne : (ts.length : Int) = (rs.length : Int)
  rotate_left
  · have hq : ((ts.length : Int) != (rs.length : Int)) = true := by simp; omega
    have HM : Hid (makeB lo hi (no, pv, su, rs) ts = (0, ⟨#[]⟩, [], [])) := by show _ = _; unfold makeB; rw [if_neg (fun e => hne (by simp only [] at e; omega))]
    obtain ⟨r0, r1, r2, r3⟩ := box4 hRb
    have f0 := hRb.fz 0
    have f1 := hRb.fz 1
    have f2 := hRb.fz 2
    have f3 := hRb.fz 3
    have hS := hRb.whole [.int .i64 0, .string ⟨#[]⟩, .slice none 0 0, .slice none 0 0] rfl
    obtain ⟨u0, u1, u2, u3⟩ := box4 hS.1
    simp only [putAll, Nat.zero_add, Nat.reduceAdd] at u0 u1 u2 u3
    have HBz := Hid.mk' (hB.grown hS.2 hB.size (fun k e => by cases e; omega))
    simp only [putAll, Nat.zero_add, Nat.reduceAdd] at HBz
    clear hS hne hT hR hlim hW1 hW2
    go_enter Tryd.func9, Tryd.ntmps9
    go_upto_region 2 with fail
    rw [HWW.out]
    go_wp2_with fail
    refine bodyPost_ret (v := .agg #[.int .i64 0, .string ⟨#[]⟩, .slice none 0 0, .slice none 0 0]) ?_ rfl ?_
    · simp [results, Tryd.results9, go_sem, u0, u1, u2, u3]
    · rw [HM.out]
      exact ⟨[.int .i64 0, .string ⟨#[]⟩, .slice none 0 0, .slice none 0 0], [], rfl, bundle_own.2 ⟨_, _, [], [], rfl, rfl, by decide, by unfold maxLen; decide, own_nilB _ _ _, own_nilB _ _ _, List.nodup_nil⟩, fun k hk => absurd hk List.not_mem_nil, HBz.out⟩
  have hq : ((ts.length : Int) != (rs.length : Int)) = false := by simp; omega
  have HM : Hid (makeB lo hi (no, pv, su, rs) ts = (no, pv, rs, ts.map (pfOf lo hi))) := by show _ = _; unfold makeB; rw [if_pos (by simp only []; omega)]
  have htl : ts.length ≤ 1048576 := by omega
  have HK := Hid.mk' hK
  have HTN := Hid.mk' hT
  obtain ⟨ra', n', c', e, _, hG0⟩ := texts_see.2 ⟨hR.below hB, hrc⟩
  simp only [List.cons.injEq, Value.slice.injEq, and_true] at e
  obtain ⟨rfl, rfl, rfl⟩ := e
  have HG0 := Hid.mk' hG0
  have HLM := Hid.mk' hlim
  clear hne hT hR hG0 hlim hW1 hW2 q1 q2 hA1
  go_enter Tryd.func9, Tryd.ntmps9
  go_upto_region 3 with fail
  rw [HWW.out]
  clear a0 a1 a2 a3 HWW
  obtain ⟨a0, a1, a2, a3⟩ := box4 hA
  go_cut [9] from 19 to 27 (fun sx wx => ∃ X g c, sx = .pointer (some ⟨X, 0, none⟩) ∧ MSt w wx X (w.heap.size + 1) no pv g rs.length c rs (.slice none 0 0) [] [])
  case first =>
    have hdW : Below W.heap.size W W.drew := (Below.refl _ _).drew
    refine last.wp_region_later (S := fun w' => BoxIn w.heap.size 32 [] [.int .i64 no, .string pv, .string su, .slice ra rs.length rc] [] w') 10 (by kernel_rfl) (hA.below hdW) (fun hHeld0 => ?_)
    have hBD := hB.trans (hdW.mono hB.size)
    have hRD := hRb.below hdW
    have hAD := hA.below hdW
    have hGD := HG0.out.below hdW
    have hsD : w.heap.size + 2 ≤ W.drew.heap.size := by have := hRD.lt; omega
    generalize hD : W.drew = D at *
    clear hD
    refine last.wpAnyL_take (i := 0) (v := (.pointer (some ⟨w.heap.size, 0, none⟩))) rfl rfl (by kernel_rfl) (by kernel_rfl) (by kernel_rfl) (by kernel_rfl) (fun _ _ _ h => h) (Or.inl ⟨by rfl, ?_⟩) (by assumption) ?_
    · intro wq hSq; go_simp
    try simp only [Act.put, List.setIfInBounds_toArray, List.set_cons_zero, List.set_cons_succ]
    refine last.wpAnyL_take (i := 1) (v := (.int .i64 no)) rfl rfl (by kernel_rfl) (by kernel_rfl) (by kernel_rfl) (by kernel_rfl) (fun _ _ _ h => h) (Or.inl ⟨by rfl, ?_⟩) (by assumption) ?_
    · intro wq hSq; have q := (box4 hSq).1; go_simp
    try simp only [Act.put, List.setIfInBounds_toArray, List.set_cons_zero, List.set_cons_succ]
    refine last.wpAnyL_take (i := 2) (v := (.pointer (some ⟨w.heap.size, 1, none⟩))) rfl rfl (by kernel_rfl) (by kernel_rfl) (by kernel_rfl) (by kernel_rfl) (fun _ _ _ h => h) (Or.inl ⟨by rfl, ?_⟩) (by assumption) ?_
    · intro wq hSq; go_simp
    try simp only [Act.put, List.setIfInBounds_toArray, List.set_cons_zero, List.set_cons_succ]
    refine last.wpAnyL_take (i := 3) (v := (.string pv)) rfl rfl (by kernel_rfl) (by kernel_rfl) (by kernel_rfl) (by kernel_rfl) (fun _ _ _ h => h) (Or.inl ⟨by rfl, ?_⟩) (by assumption) ?_
    · intro wq hSq; have q := (box4 hSq).2.1; go_simp
    try simp only [Act.put, List.setIfInBounds_toArray, List.set_cons_zero, List.set_cons_succ]
    refine last.wpAnyL_take (i := 5) (v := (.pointer (some ⟨w.heap.size, 3, none⟩))) rfl rfl (by kernel_rfl) (by kernel_rfl) (by kernel_rfl) (by kernel_rfl) (fun _ _ _ h => h) (Or.inl ⟨by rfl, ?_⟩) (by assumption) ?_
    · intro wq hSq; go_simp
    try simp only [Act.put, List.setIfInBounds_toArray, List.set_cons_zero, List.set_cons_succ]
    refine last.wpAnyL_take (i := 6) (v := (.slice ra rs.length rc)) rfl rfl (by kernel_rfl) (by kernel_rfl) (by kernel_rfl) (by kernel_rfl) (fun _ _ _ h => h) (Or.inl ⟨by rfl, ?_⟩) (by assumption) ?_
    · intro wq hSq; have q := (box4 hSq).2.2.2; go_simp
    try simp only [Act.put, List.setIfInBounds_toArray, List.set_cons_zero, List.set_cons_succ]
    refine last.wpAnyL_two (i := 4) (j := 9) (o := { dst := some 23, op := Op.buildSlice 22 0 #[], type := 22, pos := "l16_bundle.go:21", after := #[], guard := none }) (o' := { dst := some 9, op := Op.alloc 30, type := 0, pos := "l16_bundle.go:21", after := #[], guard := none }) (by kernel_rfl) rfl rfl (fun K hK => ?_) (fun K hK => ?_)
    · go_simp
      obtain ⟨V1, hV1⟩ : ∃ V, D.alloc (.cells #[] 9) = V := ⟨_, rfl⟩
      have hbV1 : Below D.heap.size D V1 := by rw [← hV1]; exact below_make
      have hrow : V1.ownsRow 0 9 1 (.slice (some ⟨D.heap.size, 0, none⟩) 0 0) 0 [] := by rw [← hV1]; exact World.ownsRow_made D #[] 0 (Nat.zero_le _) (Nat.zero_le _) (by simp)
      rw [hV1]
      refine hK.out _ _ ?_ (fun hHeld => ?_)
      · exact hAD.below hbV1
      clear hK K hHeld0
      have hHeld0 := hHeld
      clear hHeld
      try simp only [Act.put, List.setIfInBounds_toArray, List.set_cons_zero, List.set_cons_succ]
      refine last.wpAnyL_two (i := 7) (j := 9) (o := { dst := some 26, op := Op.call { callee := Callee.builtin Builtin.append, args := #[Operand.tmp 23, Operand.tmp 25], argTypes := #[22, 22] }, type := 22, pos := "l16_bundle.go:21", after := #[{ on := 4, ground := Ground.data }, { on := 6, ground := Ground.data }], guard := none }) (o' := { dst := some 9, op := Op.alloc 30, type := 0, pos := "l16_bundle.go:21", after := #[], guard := none }) (by kernel_rfl) rfl rfl (fun K hK => ?_) (fun K hK => ?_)
      · obtain ⟨gR, cR, w2, hrun, hTx, hgr, hat⟩ := copy_strs (c := rc) hrow (hGD.below hbV1) (by omega) 22
        refine cos.step_append_run rfl (.tmp 23) (.tmp 25) 22 rfl (by kernel_rfl) (by kernel_rfl) hrun ?_
        clear hrun
        have hg2 : D.heap.size ≤ gR := by have := hbV1.size; rcases hat with e | e <;> omega
        have hA2 := (hAD.below hbV1).grown hgr (fun e => by simp only [Option.some.injEq] at e; omega)
        have hR2 := (hRD.below hbV1).grown hgr (fun e => by simp only [Option.some.injEq] at e; omega)
        have hB2 := (hBD.trans (hbV1.mono hBD.size)).grown hgr (Nat.le_trans hBD.size hbV1.size) (fun k e => by cases e; omega)
        have hs2 := hgr.size
        have hsV1 := hbV1.size
        refine hK.out _ _ ?_ (fun hHeld => ?_)
        · exact hA2
        clear hK K hHeld0
        have hHeld0 := hHeld
        clear hHeld
        try simp only [Act.put, List.setIfInBounds_toArray, List.set_cons_zero, List.set_cons_succ]
        refine last.wpAnyL_take (i := 8) (v := (.agg #[.int .i64 no, .string pv, .slice (some ⟨gR, 0, none⟩) rs.length cR, .slice none 0 0])) rfl rfl (by kernel_rfl) (by kernel_rfl) (by kernel_rfl) (by kernel_rfl) (fun _ _ _ h => h) (Or.inl ⟨by rfl, ?_⟩) (by assumption) ?_
        · intro wq hSq; go_simp
        try simp only [Act.put, List.setIfInBounds_toArray, List.set_cons_zero, List.set_cons_succ]
        refine last.wpAnyL_one (i := 9) (o := { dst := some 9, op := Op.alloc 30, type := 0, pos := "l16_bundle.go:21", after := #[], guard := none }) (by kernel_rfl) rfl (fun K hK => ?_)
        go_simp
        obtain ⟨V3, hV3⟩ : ∃ V, w2.alloc (.cells #[.int .i64 0, .string ⟨#[]⟩, .slice none 0 0, .slice none 0 0] 30) = V := ⟨_, rfl⟩
        have hbV3 : Below w2.heap.size w2 V3 := by rw [← hV3]; exact below_make
        have hX : BoxIn w2.heap.size 30 [] [.int .i64 0, .string ⟨#[]⟩, .slice none 0 0, .slice none 0 0] [] V3 := by rw [← hV3]; exact boxIn_new w2 _ _
        have hsV3 : w2.heap.size + 1 ≤ V3.heap.size ∧ V3.heap.size ≤ w2.heap.size + 1 := by rw [← hV3]; simp
        rw [hV3]
        refine hK.out _ _ ?_ (fun hHeld => ?_)
        · exact hA2.below hbV3
        clear hK K hHeld0
        have hHeld0 := hHeld
        clear hHeld
        try simp only [Act.put, List.setIfInBounds_toArray, List.set_cons_zero, List.set_cons_succ]
        have hBf := hB2.trans (hbV3.mono hB2.size)
        have hRf := hR2.below hbV3
        have hTf := textsR.ownBelow hTx hbV3
        have hXf := hX
        have hgl := textsR.ownLt hTx gR (by simp)
        have HM3 := Hid.mk' (MSt.start (no := no) (pv := pv) hBf hXf hRf hTf (by omega) (by omega) (by omega) (by omega) (by omega) (by omega))
        simp only [putAll, Nat.zero_add, Nat.reduceAdd] at HM3
        refine last.wpAnyL_last (o := { dst := none, op := Op.store 30 (Operand.tmp 9) (Operand.tmp 27), type := 0, pos := "l16_bundle.go:21", after := #[{ on := 9, ground := Ground.data }, { on := 8, ground := Ground.data }, { on := 7, ground := Ground.chain }, { on := 0, ground := Ground.phase }, { on := 1, ground := Ground.phase }, { on := 2, ground := Ground.phase }, { on := 3, ground := Ground.phase }, { on := 4, ground := Ground.phase }, { on := 5, ground := Ground.phase }, { on := 6, ground := Ground.phase }, { on := 7, ground := Ground.phase }, { on := 8, ground := Ground.phase }, { on := 9, ground := Ground.phase }], guard := none }) (by kernel_rfl) rfl (by kernel_rfl) (fun K hK => ?_)
        obtain ⟨z0, z1, z2, z3⟩ := box4 hXf
        have f0 := hXf.fz 0
        have f1 := hXf.fz 1
        have f2 := hXf.fz 2
        have f3 := hXf.fz 3
        go_simp
        refine hK.out _ _ ?_
        clear hK K
        go_wp2_with fail
        go_meet
        exact ⟨_, _, _, rfl, HM3.out⟩
      · go_simp
        obtain ⟨V2, hV2⟩ : ∃ V, V1.alloc (.cells #[.int .i64 0, .string ⟨#[]⟩, .slice none 0 0, .slice none 0 0] 30) = V := ⟨_, rfl⟩
        have hbV2 : Below V1.heap.size V1 V2 := by rw [← hV2]; exact below_make
        have hX : BoxIn V1.heap.size 30 [] [.int .i64 0, .string ⟨#[]⟩, .slice none 0 0, .slice none 0 0] [] V2 := by rw [← hV2]; exact boxIn_new V1 _ _
        have hsV2 : V1.heap.size + 1 ≤ V2.heap.size ∧ V2.heap.size ≤ V1.heap.size + 1 := by rw [← hV2]; simp
        rw [hV2]
        refine hK.out _ _ ?_ (fun hHeld => ?_)
        · exact (hAD.below hbV1).below hbV2
        clear hK K hHeld0
        have hHeld0 := hHeld
        clear hHeld
        try simp only [Act.put, List.setIfInBounds_toArray, List.set_cons_zero, List.set_cons_succ]
        refine last.wpAnyL_one (i := 7) (o := { dst := some 26, op := Op.call { callee := Callee.builtin Builtin.append, args := #[Operand.tmp 23, Operand.tmp 25], argTypes := #[22, 22] }, type := 22, pos := "l16_bundle.go:21", after := #[{ on := 4, ground := Ground.data }, { on := 6, ground := Ground.data }], guard := none }) (by kernel_rfl) rfl (fun K hK => ?_)
        obtain ⟨gR, cR, w3, hrun, hTx, hgr, hat⟩ := copy_strs (c := rc) (row_belowB hrow hbV2) ((hGD.below hbV1).below hbV2) (by omega) 22
        refine cos.step_append_run rfl (.tmp 23) (.tmp 25) 22 rfl (by kernel_rfl) (by kernel_rfl) hrun ?_
        clear hrun
        have hsV1 := hbV1.size
        have hl1 : D.heap.size < V1.heap.size := by rw [← hV1]; simp
        have hg2 : gR = D.heap.size ∨ V2.heap.size ≤ gR := hat
        have hA3 := ((hAD.below hbV1).below hbV2).grown hgr (fun e => by simp only [Option.some.injEq] at e; omega)
        have hRf := ((hRD.below hbV1).below hbV2).grown hgr (fun e => by simp only [Option.some.injEq] at e; omega)
        have hB12 := (hBD.trans (hbV1.mono hBD.size)).trans (hbV2.mono (Nat.le_trans hBD.size hbV1.size))
        have hBf := hB12.grown hgr hB12.size (fun k e => by cases e; omega)
        have hTf := hTx
        have hXf := hX.grown hgr (fun e => by simp only [Option.some.injEq] at e; omega)
        refine hK.out _ _ ?_ (fun hHeld => ?_)
        · exact hA3
        clear hK K hHeld0
        have hHeld0 := hHeld
        clear hHeld
        try simp only [Act.put, List.setIfInBounds_toArray, List.set_cons_zero, List.set_cons_succ]
        refine last.wpAnyL_take (i := 8) (v := (.agg #[.int .i64 no, .string pv, .slice (some ⟨gR, 0, none⟩) rs.length cR, .slice none 0 0])) rfl rfl (by kernel_rfl) (by kernel_rfl) (by kernel_rfl) (by kernel_rfl) (fun _ _ _ h => h) (Or.inl ⟨by rfl, ?_⟩) (by assumption) ?_
        · intro wq hSq; go_simp
        try simp only [Act.put, List.setIfInBounds_toArray, List.set_cons_zero, List.set_cons_succ]
        have HM3 := Hid.mk' (MSt.start (no := no) (pv := pv) hBf hXf hRf hTf (by omega) (by omega) (by omega) (by omega) (by omega) (by omega))
        simp only [putAll, Nat.zero_add, Nat.reduceAdd] at HM3
        refine last.wpAnyL_last (o := { dst := none, op := Op.store 30 (Operand.tmp 9) (Operand.tmp 27), type := 0, pos := "l16_bundle.go:21", after := #[{ on := 9, ground := Ground.data }, { on := 8, ground := Ground.data }, { on := 7, ground := Ground.chain }, { on := 0, ground := Ground.phase }, { on := 1, ground := Ground.phase }, { on := 2, ground := Ground.phase }, { on := 3, ground := Ground.phase }, { on := 4, ground := Ground.phase }, { on := 5, ground := Ground.phase }, { on := 6, ground := Ground.phase }, { on := 7, ground := Ground.phase }, { on := 8, ground := Ground.phase }, { on := 9, ground := Ground.phase }], guard := none }) (by kernel_rfl) rfl (by kernel_rfl) (fun K hK => ?_)
        obtain ⟨z0, z1, z2, z3⟩ := box4 hXf
        have f0 := hXf.fz 0
        have f1 := hXf.fz 1
        have f2 := hXf.fz 2
        have f3 := hXf.fz 3
        go_simp
        refine hK.out _ _ ?_
        clear hK K
        go_wp2_with fail
        go_meet
        exact ⟨_, _, _, rfl, HM3.out⟩
    · go_simp
      obtain ⟨V1, hV1⟩ : ∃ V, D.alloc (.cells #[.int .i64 0, .string ⟨#[]⟩, .slice none 0 0, .slice none 0 0] 30) = V := ⟨_, rfl⟩
      have hbV1 : Below D.heap.size D V1 := by rw [← hV1]; exact below_make
      have hX : BoxIn D.heap.size 30 [] [.int .i64 0, .string ⟨#[]⟩, .slice none 0 0, .slice none 0 0] [] V1 := by rw [← hV1]; exact boxIn_new D _ _
      have hsV1 : D.heap.size + 1 ≤ V1.heap.size ∧ V1.heap.size ≤ D.heap.size + 1 := by rw [← hV1]; simp
      rw [hV1]
      refine hK.out _ _ ?_ (fun hHeld => ?_)
      · exact hAD.below hbV1
      clear hK K hHeld0
      have hHeld0 := hHeld
      clear hHeld
      try simp only [Act.put, List.setIfInBounds_toArray, List.set_cons_zero, List.set_cons_succ]
      refine last.wpAnyL_one (i := 4) (o := { dst := some 23, op := Op.buildSlice 22 0 #[], type := 22, pos := "l16_bundle.go:21", after := #[], guard := none }) (by kernel_rfl) rfl (fun K hK => ?_)
      go_simp
      obtain ⟨V2, hV2⟩ : ∃ V, V1.alloc (.cells #[] 9) = V := ⟨_, rfl⟩
      have hbV2 : Below V1.heap.size V1 V2 := by rw [← hV2]; exact below_make
      have hrow : V2.ownsRow 0 9 1 (.slice (some ⟨V1.heap.size, 0, none⟩) 0 0) 0 [] := by rw [← hV2]; exact World.ownsRow_made V1 #[] 0 (Nat.zero_le _) (Nat.zero_le _) (by simp)
      rw [hV2]
      refine hK.out _ _ ?_ (fun hHeld => ?_)
      · exact (hAD.below hbV1).below hbV2
      clear hK K hHeld0
      have hHeld0 := hHeld
      clear hHeld
      try simp only [Act.put, List.setIfInBounds_toArray, List.set_cons_zero, List.set_cons_succ]
      refine last.wpAnyL_one (i := 7) (o := { dst := some 26, op := Op.call { callee := Callee.builtin Builtin.append, args := #[Operand.tmp 23, Operand.tmp 25], argTypes := #[22, 22] }, type := 22, pos := "l16_bundle.go:21", after := #[{ on := 4, ground := Ground.data }, { on := 6, ground := Ground.data }], guard := none }) (by kernel_rfl) rfl (fun K hK => ?_)
      obtain ⟨gR, cR, w3, hrun, hTx, hgr, hat⟩ := copy_strs (c := rc) hrow ((hGD.below hbV1).below hbV2) (by omega) 22
      refine cos.step_append_run rfl (.tmp 23) (.tmp 25) 22 rfl (by kernel_rfl) (by kernel_rfl) hrun ?_
      clear hrun
      have hg2 : gR = V1.heap.size ∨ V2.heap.size ≤ gR := hat
      have hl2 : V1.heap.size + 1 ≤ V2.heap.size := by rw [← hV2]; simp
      have hA3 := ((hAD.below hbV1).below hbV2).grown hgr (fun e => by simp only [Option.some.injEq] at e; omega)
      have hRf := ((hRD.below hbV1).below hbV2).grown hgr (fun e => by simp only [Option.some.injEq] at e; omega)
      have hB12 := (hBD.trans (hbV1.mono hBD.size)).trans (hbV2.mono (Nat.le_trans hBD.size hbV1.size))
      have hBf := hB12.grown hgr hB12.size (fun k e => by cases e; omega)
      have hTf := hTx
      have hXf := (hX.below hbV2).grown hgr (fun e => by simp only [Option.some.injEq] at e; omega)
      refine hK.out _ _ ?_ (fun hHeld => ?_)
      · exact hA3
      clear hK K hHeld0
      have hHeld0 := hHeld
      clear hHeld
      try simp only [Act.put, List.setIfInBounds_toArray, List.set_cons_zero, List.set_cons_succ]
      refine last.wpAnyL_take (i := 8) (v := (.agg #[.int .i64 no, .string pv, .slice (some ⟨gR, 0, none⟩) rs.length cR, .slice none 0 0])) rfl rfl (by kernel_rfl) (by kernel_rfl) (by kernel_rfl) (by kernel_rfl) (fun _ _ _ h => h) (Or.inl ⟨by rfl, ?_⟩) (by assumption) ?_
      · intro wq hSq; go_simp
      try simp only [Act.put, List.setIfInBounds_toArray, List.set_cons_zero, List.set_cons_succ]
      have HM3 := Hid.mk' (MSt.start (no := no) (pv := pv) hBf hXf hRf hTf (by omega) (by omega) (by omega) (by omega) (by omega) (by omega))
      simp only [putAll, Nat.zero_add, Nat.reduceAdd] at HM3
      refine last.wpAnyL_last (o := { dst := none, op := Op.store 30 (Operand.tmp 9) (Operand.tmp 27), type := 0, pos := "l16_bundle.go:21", after := #[{ on := 9, ground := Ground.data }, { on := 8, ground := Ground.data }, { on := 7, ground := Ground.chain }, { on := 0, ground := Ground.phase }, { on := 1, ground := Ground.phase }, { on := 2, ground := Ground.phase }, { on := 3, ground := Ground.phase }, { on := 4, ground := Ground.phase }, { on := 5, ground := Ground.phase }, { on := 6, ground := Ground.phase }, { on := 7, ground := Ground.phase }, { on := 8, ground := Ground.phase }, { on := 9, ground := Ground.phase }], guard := none }) (by kernel_rfl) rfl (by kernel_rfl) (fun K hK => ?_)
      obtain ⟨z0, z1, z2, z3⟩ := box4 hXf
      have f0 := hXf.fz 0
      have f1 := hXf.fz 1
      have f2 := hXf.fz 2
      have f3 := hXf.fz 3
      go_simp
      refine hK.out _ _ ?_
      clear hK K
      go_wp2_with fail
      go_meet
      exact ⟨_, _, _, rfl, HM3.out⟩
  obtain ⟨X, g, c, rfl, hM0⟩ := hcut
  clear a0 a1 a2 a3
  have HM0 := Hid.mk' hM0
  clear hM0 hA hRb
  go_wp2_with fail
  go_loopw [30] (fun i wr => ∃ (k : Nat) (v : Value) (q : Parts), k ≤ ts.length ∧ i = .int .i64 (k : Int) ∧ MSt w wr X (w.heap.size + 1) no pv g rs.length c rs v ((ts.take k).map (pfOf lo hi)) q) (fun i _ => ts.length - (intOf i).toNat)
  case atStart => exact ⟨0, _, _, Nat.zero_le _, rfl, HM0.out⟩
  case round =>
    obtain ⟨k, v, q, hk, rfl, hM⟩ := hrel
    by_cases hlt : k < ts.length
    · have hki : (k : Int) < (ts.length : Int) := by omega
      obtain ⟨tb, tf, e, hcl⟩ := HTN.out.2.2 (by omega)
      subst e
      obtain ⟨sg, so, sm, sc, t0, hSl, hsc⟩ := hcl k hlt
      have d0 := (hM.bel.cell (p := ⟨tb, tf + k, none⟩) (World.block_lt_of_cell? w _ t0)).trans t0
      have htbW := World.block_lt_of_cell? w _ t0
      dsimp only at htbW
      have HTK : Hid ((ts.take (k + 1)).map (pfOf lo hi) = (ts.take k).map (pfOf lo hi) ++ [pfOf lo hi ts[k]]) := by show _ = _; rw [List.take_succ_eq_append_getElem hlt, List.map_append]; rfl
      have HTL : Hid (((ts.take k).map (pfOf lo hi)).length = k) := by show _ = _; simp; omega
      have HLK := Hid.mk' (HLM.out ts[k] (List.getElem_mem hlt))
      have hpw := prove_wf ts[k] lo hi
      have HPX : Hid (pfOf lo hi ts[k] = ((prove ts[k] lo hi).n, (prove ts[k] lo hi).fr, (prove ts[k] lo hi).items)) := rfl
      have HPB := Hid.mk' (fun wx (hx : Below w.heap.size w wx) => impl_proveBetween sg so sm sc ts[k] lo hi wx (hSl.below hx) hsc HLK.out hlo hhi (HK.out.below hx))
      generalize (ts.take k).map (pfOf lo hi) = L at *
      generalize pfOf lo hi ts[k] = pf at *
      generalize prove ts[k] lo hi = pr at *
      generalize ts[k] = tk at *
      obtain ⟨fn, ff, its⟩ := pr
      simp only [] at *
      obtain ⟨pa, pn, pc, rfl⟩ := slice_shape (own_mk hM.prf)
      clear hcl t0 hSl
      obtain ⟨U, hU⟩ : ∃ U, wr.alloc (.cells #[.slice (some ⟨sg, so, none⟩) sm sc] 54) = U := ⟨_, rfl⟩
      have hbu : Below wr.heap.size wr U := by rw [← hU]; exact below_make
      have hsu : wr.heap.size + 1 ≤ U.heap.size := by rw [← hU]; simp
      have hT0 : U.cell? ⟨wr.heap.size, 0, none⟩ = some (.slice (some ⟨sg, so, none⟩) sm sc) := by rw [← hU]; simp
      have hM1 := hM.below hbu
      have hdW : Below U.heap.size U U.drew := (Below.refl _ _).drew
      have hXl := hM1.box.lt
      have hXr := hM.box.lt
      have hTl : wr.heap.size < U.heap.size := by omega
      have hPlt : ∀ k ∈ (Value.slice pa pn pc).ownBlock.toList ++ blocksOf q, k < wr.heap.size := fun k hk => hM.prf.at_ k hk
      have HU := Hid.mk' hU
      clear hU
      obtain ⟨y0, y1, y2, y3⟩ := box4 hM1.box
      go_wp2_with fail
      rw [HU.out]
      refine last.wp_region_later (S := fun w' => BoxIn X 30 [] [.int .i64 no, .string pv, .slice (some ⟨g, 0, none⟩) rs.length c, .slice pa pn pc] [] w' ∧ w'.cell? ⟨wr.heap.size, 0, none⟩ = some (.slice (some ⟨sg, so, none⟩) sm sc)) 10 (by kernel_rfl) ⟨hM1.box.below hdW, (hdW.cell (p := ⟨wr.heap.size, 0, none⟩) hTl).trans hT0⟩ (fun hHeld0 => ?_)
      have hMD := hM1.below hdW
      have hTD := (hdW.cell (p := ⟨wr.heap.size, 0, none⟩) hTl).trans hT0
      have hTl2 : wr.heap.size < U.drew.heap.size := Nat.lt_of_lt_of_le hTl hdW.size
      have HCB := Hid.mk' (HPB.out U.drew hMD.bel)
      generalize hD : U.drew = D at *
      clear hD
      refine last.wpAnyL_take (i := 0) (v := (.pointer (some ⟨X, 3, none⟩))) rfl rfl (by kernel_rfl) (by kernel_rfl) (by kernel_rfl) (by kernel_rfl) (fun _ _ _ h => h) (Or.inl ⟨by rfl, ?_⟩) (by assumption) ?_
      · intro wq hSq; go_simp
      try simp only [Act.put, List.setIfInBounds_toArray, List.set_cons_zero, List.set_cons_succ]
      refine last.wpAnyL_take (i := 1) (v := (.slice pa pn pc)) rfl rfl (by kernel_rfl) (by kernel_rfl) (by kernel_rfl) (by kernel_rfl) (fun _ _ _ h => h) (Or.inl ⟨by rfl, ?_⟩) (by assumption) ?_
      · intro wq hSq; have q := (box4 hSq.1).2.2.2; go_simp
      try simp only [Act.put, List.setIfInBounds_toArray, List.set_cons_zero, List.set_cons_succ]
      refine last.wpAnyL_take (i := 2) (v := (.pointer (some ⟨wr.heap.size, 0, none⟩))) rfl rfl (by kernel_rfl) (by kernel_rfl) (by kernel_rfl) (by kernel_rfl) (fun _ _ _ h => h) (Or.inl ⟨by rfl, ?_⟩) (by assumption) ?_
      · intro wq hSq; go_simp
      try simp only [Act.put, List.setIfInBounds_toArray, List.set_cons_zero, List.set_cons_succ]
      refine last.wpAnyL_take (i := 3) (v := (.slice (some ⟨sg, so, none⟩) sm sc)) rfl rfl (by kernel_rfl) (by kernel_rfl) (by kernel_rfl) (by kernel_rfl) (fun _ _ _ h => h) (Or.inl ⟨by rfl, ?_⟩) (by assumption) ?_
      · intro wq hSq; have q := hSq.2; go_simp
      try simp only [Act.put, List.setIfInBounds_toArray, List.set_cons_zero, List.set_cons_succ]
      refine last.wpAnyL_take (i := 4) (v := (.string lo)) rfl rfl (by kernel_rfl) (by kernel_rfl) (by kernel_rfl) (by kernel_rfl) (fun _ _ _ h => h) (Or.inl ⟨by rfl, ?_⟩) (by assumption) ?_
      · intro wq hSq; go_simp
      try simp only [Act.put, List.setIfInBounds_toArray, List.set_cons_zero, List.set_cons_succ]
      refine last.wpAnyL_take (i := 5) (v := (.string hi)) rfl rfl (by kernel_rfl) (by kernel_rfl) (by kernel_rfl) (by kernel_rfl) (fun _ _ _ h => h) (Or.inl ⟨by rfl, ?_⟩) (by assumption) ?_
      · intro wq hSq; go_simp
      try simp only [Act.put, List.setIfInBounds_toArray, List.set_cons_zero, List.set_cons_succ]
      refine last.wpAnyL_one (i := 6) (o := { dst := some 40, op := Op.call { callee := Callee.value (Operand.func 22), args := #[Operand.tmp 37, Operand.tmp 38, Operand.tmp 39], argTypes := #[52, 9, 9] }, type := 50, pos := "l16_bundle.go:23", after := #[{ on := 3, ground := Ground.data }, { on := 4, ground := Ground.data }, { on := 5, ground := Ground.data }], guard := none }) (by kernel_rfl) rfl (fun K hK => ?_)
      refine stepg.call3 rfl 22 (.tmp 37) (.tmp 38) (.tmp 39) _ rfl (fun _ _ => rfl) (.slice (some ⟨sg, so, none⟩) sm sc) (.string lo) (.string hi) (by kernel_rfl) (by kernel_rfl) (by kernel_rfl) _ HCB.out ?_
      rintro e w5 ⟨ia, im, ic, hs, rfl, hI5, hb5⟩
      refine ⟨_, rfl, ?_⟩
      have hM5 := hMD.below hb5
      have hT5 := (hb5.cell (p := ⟨wr.heap.size, 0, none⟩) hTl2).trans hTD
      refine hK.out _ _ ?_ (fun hHeld => ?_)
      · exact ⟨hM5.box, hT5⟩
      clear hK K hHeld0
      have hHeld0 := hHeld
      clear hHeld
      try simp only [Act.put, List.setIfInBounds_toArray, List.set_cons_zero, List.set_cons_succ]
      refine last.wpAnyL_one (i := 7) (o := { dst := some 41, op := Op.buildSlice 28 1 #[(0, Operand.tmp 40)], type := 28, pos := "l16_bundle.go:23", after := #[{ on := 6, ground := Ground.data }], guard := none }) (by kernel_rfl) rfl (fun K hK => ?_)
      go_simp
      obtain ⟨V, hV⟩ : ∃ V, w5.alloc (.cells #[.int .i64 fn, .int .i64 ff, .slice ia im ic] 50) = V := ⟨_, rfl⟩
      have hbv : Below w5.heap.size w5 V := by rw [← hV]; exact below_make
      have hXV : BoxIn w5.heap.size 50 [] [.int .i64 fn, .int .i64 ff, .slice ia im ic] [] V := by rw [← hV]; exact boxIn_new w5 _ _
      have hM6 := hM5.below hbv
      have hT6 := (hbv.cell (p := ⟨wr.heap.size, 0, none⟩) (World.block_lt_of_cell? w5 _ hT5)).trans hT5
      rw [hV]
      refine hK.out _ _ ?_ (fun hHeld => ?_)
      · exact ⟨hM6.box, hT6⟩
      clear hK K hHeld0
      have hHeld0 := hHeld
      clear hHeld
      try simp only [Act.put, List.setIfInBounds_toArray, List.set_cons_zero, List.set_cons_succ]
      refine last.wpAnyL_one (i := 8) (o := { dst := some 42, op := Op.call { callee := Callee.builtin Builtin.append, args := #[Operand.tmp 35, Operand.tmp 41], argTypes := #[28, 28] }, type := 28, pos := "l16_bundle.go:23", after := #[{ on := 1, ground := Ground.data }, { on := 7, ground := Ground.data }, { on := 6, ground := Ground.chain }], guard := none }) (by kernel_rfl) rfl (fun K hK => ?_)
      have hD0 := hMD.bel.size
      have hIl : ∀ k ∈ blkI (.slice ia im ic) hs, D.heap.size ≤ k ∧ k < w5.heap.size := fun k hk => hI5.lt k (mem_blkI.1 hk)
      have hDX : X < D.heap.size := hMD.box.lt
      have hDR : w.heap.size + 1 < D.heap.size := hMD.ret.lt
      have hDG : g < D.heap.size := textsR.ownLt hMD.txt g (by simp)
      have hPr : proofR.own V [.int .i64 fn, .int .i64 ff, .slice ia im ic] (fn, ff, its) (blkI (.slice ia im ic) hs) := proof_own.2 ⟨_, rfl, hpw.1, hpw.2, ⟨_, hs, rfl, rfl, (hI5.below hbv).mono (Nat.zero_le _)⟩⟩
      obtain ⟨gP, cP, w7, hrun, hO7, hgr, hat⟩ := cos.OwnG.appRun (P := Tryd.prog) (z := .agg #[.int .i64 0, .int .i64 0, .slice none 0 0]) Tryd.underlying28 infoPf rfl (by decide) hM6.prf hPr (fun b hb hc => by
        have h1 := (hIl b hb).1
        have h2 := hMD.prf.at_ b hc
        omega) hXV (by rw [HTL.out]; unfold maxLen; omega) (by rw [HTL.out]; omega) 28
      have hM8 := hM6.push hPr (fun b hb => by
        have h1 := (hIl b hb).1
        refine ⟨by omega, by omega, by omega, by omega⟩) hO7 hgr hat
      have hbx7 := hM6.box.grown hgr (fun e => hM6.out.1 (mem_own e.symm))
      have hT7 : w7.cell? ⟨wr.heap.size, 0, none⟩ = some (.slice (some ⟨sg, so, none⟩) sm sc) := hgr.cell hT6 (fun e => by have h7 := hPlt _ (mem_own e.symm); dsimp only at h7; omega)
      rw [HTL.out] at hrun hM8
      refine cos.step_append_run rfl (.tmp 35) (.tmp 41) 28 rfl (by kernel_rfl) (by kernel_rfl) hrun ?_
      clear hrun
      refine hK.out _ _ ?_ (fun hHeld => ?_)
      · exact ⟨hbx7, hT7⟩
      clear hK K hHeld0
      have hHeld0 := hHeld
      clear hHeld
      try simp only [Act.put, List.setIfInBounds_toArray, List.set_cons_zero, List.set_cons_succ]
      refine last.wpAnyL_take (i := 9) (v := (.pointer (some ⟨X, 3, none⟩))) rfl rfl (by kernel_rfl) (by kernel_rfl) (by kernel_rfl) (by kernel_rfl) (fun _ _ _ h => h) (Or.inl ⟨by rfl, ?_⟩) (by assumption) ?_
      · intro wq hSq; go_simp
      try simp only [Act.put, List.setIfInBounds_toArray, List.set_cons_zero, List.set_cons_succ]
      refine last.wpAnyL_last (o := { dst := none, op := Op.store 28 (Operand.tmp 43) (Operand.tmp 42), type := 0, pos := "l16_bundle.go:23", after := #[{ on := 9, ground := Ground.data }, { on := 8, ground := Ground.data }, { on := 8, ground := Ground.chain }, { on := 0, ground := Ground.phase }, { on := 1, ground := Ground.phase }, { on := 2, ground := Ground.phase }, { on := 3, ground := Ground.phase }, { on := 4, ground := Ground.phase }, { on := 5, ground := Ground.phase }, { on := 6, ground := Ground.phase }, { on := 7, ground := Ground.phase }, { on := 8, ground := Ground.phase }], guard := none }) (by kernel_rfl) rfl (by kernel_rfl) (fun K hK => ?_)
      obtain ⟨z0, z1, z2, z3⟩ := box4 hbx7
      have f3 := hbx7.fz 3
      go_simp
      refine hK.out _ _ ?_
      clear hK K
      have HM8 : Hid (MSt w (w7.setCell ⟨X, 3, none⟩ (.slice (some ⟨gP, 0, none⟩) (k + 1) cP)) X (w.heap.size + 1) no pv g rs.length c rs (.slice (some ⟨gP, 0, none⟩) (k + 1) cP) ((ts.take (k + 1)).map (pfOf lo hi)) (q ++ [([.int .i64 fn, .int .i64 ff, .slice ia im ic], blkI (.slice ia im ic) hs)])) := by
        show MSt _ _ _ _ _ _ _ _ _ _ _ _ _
        rw [HTK.out, HPX.out]
        exact hM8
      clear hM8 hO7 hgr hat hbx7 hT7 hM6 hM5 hMD hM1 hM hPr hXV hV hbv hb5 hI5 hIl z0 z1 z2 z3 f3
      go_wp2_with fail
      go_roundw
      case rel => exact ⟨k + 1, _, _, by omega, by go_num, HM8.out⟩
      case measure => simp [intOf]; omega
    · have hki : ¬ (k : Int) < (ts.length : Int) := by omega
      rw [List.take_of_length_le (by omega)] at hM
      obtain ⟨pa, pn, pc, rfl⟩ := slice_shape (own_mk hM.prf)
      obtain ⟨y0, y1, y2, y3⟩ := box4 hM.box
      obtain ⟨r0, r1, r2, r3⟩ := box4 hM.ret
      have f0 := hM.ret.fz 0
      have f1 := hM.ret.fz 1
      have f2 := hM.ret.fz 2
      have f3 := hM.ret.fz 3
      have hD := hM.done hno hp
      obtain ⟨u0, u1, u2, u3⟩ := box4 hD.1
      simp only [putAll, Nat.zero_add, Nat.reduceAdd] at u0 u1 u2 u3
      have HD := Hid.mk' hD.2
      simp only [putAll, Nat.zero_add, Nat.reduceAdd] at HD
      clear hD hM
      go_wp2_with fail
      refine bodyPost_ret (v := .agg #[.int .i64 no, .string pv, .slice (some ⟨g, 0, none⟩) rs.length c, .slice pa pn pc]) ?_ rfl ?_
      · simp [results, Tryd.results9, go_sem, u0, u1, u2, u3]
      · rw [HM.out]
        exact ⟨_, _, rfl, HD.out.1, HD.out.2.1, HD.out.2.2⟩
end Go.Proofs.YteammdkipnfmnaaDoor.bun

namespace Go.Proofs.YteammdkipnfmnaaDoor.bun
open Go Go.RowKit Go.Proofs.YteammdkipnfmnaaDoor.base Go.Proofs.YteammdkipnfmnaaDoor.pairs Go.Proofs.YteammdkipnfmnaaDoor.tree Go.Proofs.YteammdkipnfmnaaDoor.lay Go.Proofs.YteammdkipnfmnaaDoor.range Go.Proofs.YteammdkipnfmnaaDoor.seals Go.Proofs.YteammdkipnfmnaaDoor.tabs
set_option linter.unusedVariables false
set_option linter.unusedSimpArgs false

theorem tn_own {w : World} {a : Option Addr} {n c : Nat} {ts : List (List Pr)} {F : List Nat} (h : tablesN.own w [.slice a n c] ts F) : TN w a n ts := by
  obtain ⟨v, q, e, _, hO⟩ := h
  cases e
  have hs := hO.sl
  refine ⟨hs.1, hs.2.1, fun h0 => ?_⟩
  rcases hO.shape with ⟨e, rfl, _⟩ | ⟨g, cap, e, _, _⟩
  · have := hs.1; simp at this; omega
  · cases e
    refine ⟨g, 0, rfl, fun i hi => ?_⟩
    have hc := hO.cells i hi
    obtain ⟨g2, n2, c2, e2, ht⟩ := hO.each i hi
    rw [e2] at hc ht
    have c0 := hc 0 _ rfl
    rw [show i * tableN.size + 0 = 0 + i by show i * 1 + 0 = 0 + i; omega] at c0
    have h2 := table_see.1 (tableR.ownSee ht)
    exact ⟨g2, 0, n2, c2, c0, h2.1, h2.2⟩
theorem items_leB (l : List Pr) (lo hi : ByteArray) : (prove l lo hi).items.length ≤ 60 ∧ cnt (prove l lo hi).items ≤ 60 * 62 := by
  unfold prove
  by_cases h : pairsOk l = true
  · rw [if_pos h]
    have hl : l.length ≤ 60 := ((pairsOk_iff l).1 h).2
    have ht := toN_le lo hi l
    have h1 : (itemsTo l (fromN lo l) (toN lo hi l)).length ≤ 60 := by rw [itemsTo_length]; omega
    refine ⟨h1, ?_⟩
    have hx : ∀ x ∈ itemsTo l (fromN lo l) (toN lo hi l), x.2.length ≤ 60 := by
      intro x hx
      unfold itemsTo at hx
      obtain ⟨i, _, rfl⟩ := List.mem_map.1 hx
      have := path_length l i
      have := depth_le i l.length
      unfold itemAt
      show (path l i).length ≤ 60
      omega
    have key : ∀ (l : List It), (∀ x ∈ l, x.2.length ≤ 60) → cnt l ≤ l.length * 62 := by
      intro l
      induction l with
      | nil => intro _; simp [cnt]
      | cons x l ih =>
        intro hh
        rw [cnt_cons, List.length_cons]
        have := ih (fun y hy => hh y (List.mem_cons_of_mem _ hy))
        have := hh x List.mem_cons_self
        omega
    have := key _ hx
    show cnt (itemsTo l (fromN lo l) (toN lo hi l)) ≤ _
    omega
  · rw [if_neg h]; exact ⟨by simp [zeroPrf], by simp [zeroPrf, cnt]⟩
theorem make_small {lo hi : ByteArray} {x : Seal} {ts : List (List Pr)} (h1 : x.2.2.2.length ≤ 1048576) (h2 : ts.length ≤ 1048576) : cntB (makeB lo hi x ts) ≤ 274877906944 ∧ (∀ y ∈ (makeB lo hi x ts).2.2.2, y.2.2.length ≤ 1099511627776) := by
  have key : ∀ (l : List (List Pr)), cntAll cntF (l.map (pfOf lo hi)) ≤ l.length * 4096 := by
    intro l
    induction l with
    | nil => simp [cntAll]
    | cons t l ih =>
      have e1 : cntAll cntF ((t :: l).map (pfOf lo hi)) = cntF (pfOf lo hi t) + cntAll cntF (l.map (pfOf lo hi)) := by simp [cntAll]
      have e2 : cntF (pfOf lo hi t) = 2 + cnt (prove t lo hi).items := rfl
      have := (items_leB t lo hi).2
      rw [e1, List.length_cons]
      omega
  unfold makeB
  split
  · refine ⟨?_, fun y hy => ?_⟩
    · have := key ts
      unfold cntB
      simp only []
      omega
    · simp only [] at hy
      obtain ⟨t, _, rfl⟩ := List.mem_map.1 hy
      have := (items_leB t lo hi).1
      show (prove t lo hi).items.length ≤ _
      omega
  · refine ⟨?_, fun y hy => absurd hy List.not_mem_nil⟩
    unfold cntB
    simp [cntAll]
theorem seal_sls {w : World} {x : Seal} {a : Option Addr} {n c : Nat} {F : List Nat} (h : sealR.own w [.int .i64 x.1, .string x.2.1, .string x.2.2.1, .slice a n c] x F) : SlS w a n x.2.2.2 := by
  obtain ⟨a', n', c', e, _, _, _, q, _⟩ := seal_see.1 (sealR.ownSee h)
  simp only [List.cons.injEq, Value.slice.injEq, and_true, true_and] at e
  obtain ⟨rfl, rfl, rfl⟩ := e
  exact q
theorem eqTab {w : World} {a a2 : Option Addr} {n c n2 c2 : Nat} {ts : List (List Pr)} {F F2 : List Nat} (h : tablesN.own w [.slice a n c] ts F) (h2 : tablesN.own w [.slice a2 n2 c2] ts F2) :
    Calls Tryd.prog 12 #[.slice a n c, .slice a2 n2 c2] w fun e w' => e = .returned (.bool true) ∧ Below w.heap.size w w' := by
  obtain ⟨v, q, e, _, hO⟩ := h
  cases e
  obtain ⟨v, q2, e, _, hO2⟩ := h2
  cases e
  have hs : SlG tableR w a n ts := hO.sl
  have hs2 : SlG tableR w a2 n2 ts := hO2.sl
  obtain rfl : n = n2 := hs.1.symm.trans hs2.1
  exact eqTablesT a a2 n c c2 ts w hs hs2
set_option maxRecDepth 100000 in
set_option maxHeartbeats 1000000 in
theorem markSeal (us : List Value) (x : Seal) (F : List Nat) (k0 : Nat) (w : World) (h : sealR.own w us x F) (hk1 : 1 ≤ k0) (hk : k0 + x.2.2.2.length ≤ 1099511627776) :
    Calls Tryd.prog 13 #[.agg us.toArray, .int .i64 (k0 : Nat)] w fun e w' => e = .returned (.int .i64 ((k0 + x.2.2.2.length : Nat) : Int)) ∧ lay.Frame F w w' := by
  obtain ⟨v, rfl, k1, k2, k3, h1⟩ := seal_own.1 h
  obtain ⟨W, hW⟩ : ∃ W, w.alloc (.cells #[.int .i64 x.1, .string x.2.1, .string x.2.2.1, v] 32) = W := ⟨_, rfl⟩
  have hB : Below w.heap.size w W := by rw [← hW]; exact below_make
  have hbx : BoxIn w.heap.size 32 [] [.int .i64 x.1, .string x.2.1, .string x.2.2.1, v] [] W := by rw [← hW]; exact boxIn_new w _ _
  have HM := Hid.mk' (markTexts_R v x.2.2.2 F k0 W (textsR.ownBelow h1 hB) hk1 hk)
  obtain ⟨ra, rn, rc, rfl⟩ := slice_shape h1
  have HW := Hid.mk' hW
  have HFW : Hid (lay.Frame F w W) := lay.Frame.of_below hB
  obtain ⟨y0, y1, y2, y3⟩ := box4 hbx
  rw [← hW] at y0 y1 y2 y3
  clear hW h h1
  go_enter Tryd.func13, Tryd.ntmps13
  go_wp2_with fail
  rw [HW.out]
  refine HM.out.mono ?_
  rintro e w1 ⟨rfl, h1', hf1⟩
  have HF : Hid (lay.Frame F w w1) := HFW.out.trans hf1 (fun k hk => .inl hk)
  clear y0 y1 y2 y3 HM HW h1'
  go_wp2_with fail
  go_ret
  exact ⟨rfl, HF.out⟩
structure QB (w0 w : World) (A bW bX p bG : Nat) (av usW usX : List Value) (v1 : Value) (usG : List Value) (M : Bun) (x : Seal) (ts : List (List Pr)) (G : Bun) (FW FX FT FG : List Nat) : Prop where
  bel : Below w0.heap.size w0 w
  arg : BoxIn A 24 [] av [] w
  bw : BoxIn bW 30 [] usW [] w
  bx : BoxIn bX 32 [] usX [] w
  bg : BoxIn bG 30 [] usG [] w
  wn : bundleR.own w usW M FW
  gn : bundleR.own w usG G FG
  a0 : w0.heap.size ≤ A
  fw : ∀ k ∈ FW, A < k ∧ k < bW
  fx : ∀ k ∈ FX, bW < k ∧ k < bX
  ft : ∀ k ∈ FT, bX < k ∧ k < p
  fg : ∀ k ∈ FG, p ≤ k ∧ k < bG
  oa : A < bW
  ob : bW < bX
  oc : bX < p
  od : p ≤ bG
section
variable {w0 w w' : World} {A bW bX p bG : Nat} {av usW usX : List Value} {v1 : Value} {usG : List Value} {M : Bun} {x : Seal} {ts : List (List Pr)} {G : Bun} {FW FX FT FG : List Nat}
theorem QB.below (h : QB w0 w A bW bX p bG av usW usX v1 usG M x ts G FW FX FT FG) (hb : Below w.heap.size w w') : QB w0 w' A bW bX p bG av usW usX v1 usG M x ts G FW FX FT FG :=
  ⟨h.bel.trans (hb.mono h.bel.size), h.arg.below hb, h.bw.below hb, h.bx.below hb, h.bg.below hb, bundleR.ownBelow h.wn hb, bundleR.ownBelow h.gn hb, h.a0, h.fw, h.fx, h.ft, h.fg, h.oa, h.ob, h.oc, h.od⟩
theorem QB.markX (h : QB w0 w A bW bX p bG av usW usX v1 usG M x ts G FW FX FT FG) (hf : lay.Frame FX w w') : QB w0 w' A bW bX p bG av usW usX v1 usG M x ts G FW FX FT FG := by
  have h1 := h.oa; have h2 := h.ob; have h3 := h.oc; have h4 := h.od; have h5 := h.a0
  refine ⟨h.bel.trans (hf.bel h.bel.size (fun k hk => by have := h.fx k hk; omega)), h.arg.frame hf (fun hk => by have := h.fx _ hk; omega), h.bw.frame hf (fun hk => by have := h.fx _ hk; omega), h.bx.frame hf (fun hk => by have := h.fx _ hk; omega), h.bg.frame hf (fun hk => by have := h.fx _ hk; omega), bundleR.ownFrame h.wn hf (fun k hk hk2 => by have := h.fx _ hk2; have := h.fw _ hk; omega), bundleR.ownFrame h.gn hf (fun k hk hk2 => by have := h.fx _ hk2; have := h.fg _ hk; omega), h.a0, h.fw, h.fx, h.ft, h.fg, h.oa, h.ob, h.oc, h.od⟩
theorem QB.markT (h : QB w0 w A bW bX p bG av usW usX v1 usG M x ts G FW FX FT FG) (hf : lay.Frame FT w w') : QB w0 w' A bW bX p bG av usW usX v1 usG M x ts G FW FX FT FG := by
  have h1 := h.oa; have h2 := h.ob; have h3 := h.oc; have h4 := h.od; have h5 := h.a0
  refine ⟨h.bel.trans (hf.bel h.bel.size (fun k hk => by have := h.ft k hk; omega)), h.arg.frame hf (fun hk => by have := h.ft _ hk; omega), h.bw.frame hf (fun hk => by have := h.ft _ hk; omega), h.bx.frame hf (fun hk => by have := h.ft _ hk; omega), h.bg.frame hf (fun hk => by have := h.ft _ hk; omega), bundleR.ownFrame h.wn hf (fun k hk hk2 => by have := h.ft _ hk2; have := h.fw _ hk; omega), bundleR.ownFrame h.gn hf (fun k hk hk2 => by have := h.ft _ hk2; have := h.fg _ hk; omega), h.a0, h.fw, h.fx, h.ft, h.fg, h.oa, h.ob, h.oc, h.od⟩
theorem QB.markG {G' : Bun} (h : QB w0 w A bW bX p bG av usW usX v1 usG M x ts G FW FX FT FG) (ho : bundleR.own w' usG G' FG) (hf : lay.Frame FG w w') : QB w0 w' A bW bX p bG av usW usX v1 usG M x ts G' FW FX FT FG := by
  have h1 := h.oa; have h2 := h.ob; have h3 := h.oc; have h4 := h.od; have h5 := h.a0
  refine ⟨h.bel.trans (hf.bel h.bel.size (fun k hk => by have := h.fg k hk; omega)), h.arg.frame hf (fun hk => by have := h.fg _ hk; omega), h.bw.frame hf (fun hk => by have := h.fg _ hk; omega), h.bx.frame hf (fun hk => by have := h.fg _ hk; omega), h.bg.frame hf (fun hk => by have := h.fg _ hk; omega), bundleR.ownFrame h.wn hf (fun k hk hk2 => by have := h.fg _ hk2; have := h.fw _ hk; omega), ho, h.a0, h.fw, h.fx, h.ft, h.fg, h.oa, h.ob, h.oc, h.od⟩
end
end Go.Proofs.YteammdkipnfmnaaDoor.bun
