/- The draw of a shard with one thing changed. -/
import Derived.Test.YtggdgceglmbaiaaGreatDoorBund9bh
namespace Go.Proofs.YtggdgceglmbaiaaGreatDoor.recs
open Go Go.RowKit Go.Proofs.YtggdgceglmbaiaaGreatDoor.base Go.Proofs.YtggdgceglmbaiaaGreatDoor.pairs Go.Proofs.YtggdgceglmbaiaaGreatDoor.ords Go.Proofs.YtggdgceglmbaiaaGreatDoor.helps Go.Proofs.YtggdgceglmbaiaaGreatDoor.help Go.Proofs.YtggdgceglmbaiaaGreatDoor.lay Go.Proofs.YtggdgceglmbaiaaGreatDoor.draw
set_option linter.unusedVariables false
set_option linter.unusedSimpArgs false

set_option maxRecDepth 100000 in
set_option maxHeartbeats 12000000 in
theorem d_any (w0 w : World) (gc : Nat) (a : Option Addr) (len cap : Nat) (code : List UInt8) (most : Nat) (h : Cur w0 w gc a len cap code) (hm : 0 < most) (hm2 : most ≤ 1000) :
    Calls Tryz.prog 13 #[.pointer (some ⟨gc, 0, none⟩), .int .i64 (most : Int)] w fun e w' => GotAny w0 w gc a len cap code e w' := by
  have hcl := h.lt
  have hge := h.bel.size
  obtain ⟨i0, hi, hz0, hz1, hz2⟩ := info_parts infoRW
  obtain ⟨j0, hjf, hy0, hy1, hy2⟩ := info_parts infoP
  obtain ⟨wa, hwa⟩ : ∃ wa, w.alloc (boxSh 0 0 none 0 0 none 0 0 none 0 0) = wa := ⟨_, rfl⟩
  have hba : Below w.heap.size w wa := by rw [← hwa]; exact below_two
  have hsa : wa.heap.size = w.heap.size + 1 := by rw [← hwa]; simp
  have hRa : BoxIn w.heap.size TSh [] zeroSh [] wa := by rw [← hwa]; exact boxIn_new w _ _
  have HWA := Hid.mk' hwa
  have HDS := Hid.mk' (d_shard w0 wa gc a len cap code most (h.below hba) hm hm2)
  clear hwa
  go_enter Tryz.func13, Tryz.ntmps13
  go_wp2_with fail
  rw [HWA.out]
  refine HDS.out.mono ?_
  rintro e w1 ⟨la, ln, lc, ma, mn, mc, ha, hn, hc, s, F, hD, rfl, hOS, hFn, hc1, hg1⟩
  clear HDS HWA
  obtain ⟨v1, hv1⟩ : ∃ v1, w1.alloc (boxSh s.1 s.2.2.1 la ln lc ma mn mc ha hn hc) = v1 := ⟨_, rfl⟩
  have hb1 : Below w1.heap.size w1 v1 := by rw [← hv1]; exact below_two
  have hX1 := inBox_new hOS
  rw [hv1] at hX1
  have hs1 := hg1.size
  have hA1 : ASt w0 w v1 gc a len cap code w.heap.size w1.heap.size la ln lc ma mn mc ha hn hc s F :=
    ⟨hc1.below hb1, hX1, fun k hk => by
      rcases List.mem_cons.1 hk with e | e
      · omega
      · have := hFn k e; omega, hcl, hge, grown_below (grownBy_trans (grown_below (World.grownBy.refl _ _) hba) hg1) hb1, (hRa.grown hg1 (fun e => by have := Option.some.inj e; omega)).below hb1, by omega, fun e => by have := hFn _ e; omega, Nat.le_refl _⟩
  have HBL := Hid.mk' (below_ w0 v1 gc a len cap code 12 hA1.cur (by omega) (by omega))
  rw [← hv1] at HBL
  have HV1 := Hid.mk' hv1
  obtain ⟨l1, l2, l3⟩ := hX1.lens
  have hsm := hD.small
  have hln : ln ≤ 300 := by omega
  have hmn : mn ≤ 60 := by omega
  have HL1 := Hid.mk' l1
  clear l1 l2 l3 hsm hsa
  clear hv1 hX1 hOS hRa hc1 hg1 hb1 hba
  go_wp2_with fail
  refine HBL.out.mono ?_
  rw [HV1.out]
  rintro e w2 ⟨x, hx, rfl, hc2, hg2⟩
  have hA2 := hA1.step hc2 hg2
  clear HBL HV1 hA1 hc2 hg2
  have hXl2 := hA2.ins.box.lt
  have hnX := hA2.new w1.heap.size List.mem_cons_self
  by_cases x0 : x = 0
  · subst x0
    obtain ⟨w4, hw4⟩ : ∃ w4, w2.alloc (.cells #[.int .i64 (-1), .int .i64 7, .int .i64 8] 3) = w4 := ⟨_, rfl⟩
    have hb4 : Below w2.heap.size w2 w4 := by rw [← hw4]; exact below_two
    have hL4 : w4.heap[w2.heap.size]? = some (.cells #[.int .i64 (-1), .int .i64 7, .int .i64 8] 3) := by rw [← hw4]; exact heap_alloc_new w2 _
    have hA4 := hA2.below hb4
    have HIN := Hid.mk' (int_ w0 w4 gc a len cap code w2.heap.size 3 3 _ _ hA4.cur hL4 rfl (by omega) (by omega) (by omega) (fun z => decide (-1 ≤ z ∧ z ≤ 8) = true) (some_atI _ 3 (fun z => decide (-1 ≤ z ∧ z ≤ 8)) (by kernel_rfl)))
    rw [← hw4] at HIN
    have HW4 := Hid.mk' hw4
    clear hw4 hL4 hA2 hb4
    go_wp2_with fail
    refine HIN.out.mono ?_
    rw [HW4.out]
    rintro e w5 ⟨z, hz, rfl, hc5, hg5⟩
    have hz' := of_decide_eq_true hz
    have hA5 := hA4.step hc5 hg5
    have hAny := hD.any_id hz'
    have hP := hA5.ins.putId z hAny.id
    simp only [List.length_nil] at hP
    have hA6 := hA5.wrote hP.1 ((lay.Frame.refl _ _).grown hP.2 (fun k e => .inl (by rw [← Option.some.inj e]; exact List.mem_cons_self))) (fun k hk => .inl hk)
    have y0 := hA5.ins.box.cell 0 _ rfl
    simp only [List.length_nil, Nat.zero_add] at y0
    have y1 := hA5.ins.box.fz 0
    clear HIN HW4 hP hA4 hc5 hg5 hA5
    obtain ⟨q0, q1, q2, q3, q4, z0, z1, z2, z3, z4, f0, f1, f2, f3, f4, ⟨hzc0, hzc1, hzc2, hzc3, hzc4⟩, HP⟩ := hA6.set5 hAny
    have hXR : w.heap.size ≠ w1.heap.size := hA6.rX
    have hXR2 : w1.heap.size ≠ w.heap.size := fun e => hXR e.symm
    try dsimp only at q0 q1 q2 q3 q4 z0 z1 z2 z3 z4 hzc0 hzc1 hzc2 hzc3 hzc4 HP
    clear hA6 hAny
    go_wp2_with fail
    refine bodyPost_ret (v := aggSh z s.2.2.1 la ln lc ma mn mc ha hn hc) ?_ rfl HP.out
    simp [results, Tryz.results13, go_sem, hzc0, hzc1, hzc2, hzc3, hzc4]
  by_cases x1 : x = 1
  · subst x1
    have k1 := hA2.ins.box.cell 1 _ rfl
    simp only [List.length_nil, Nat.zero_add] at k1
    obtain ⟨w4, hw4⟩ : ∃ w4, w2.alloc (.cells #[.int .i64 (-1), .int .i64 (ln : Int), .int .i64 ((ln : Int) + 1)] 3) = w4 := ⟨_, rfl⟩
    have hb4 : Below w2.heap.size w2 w4 := by rw [← hw4]; exact below_two
    have hL4 : w4.heap[w2.heap.size]? = some (.cells #[.int .i64 (-1), .int .i64 (ln : Int), .int .i64 ((ln : Int) + 1)] 3) := by rw [← hw4]; exact heap_alloc_new w2 _
    have hA4 := hA2.below hb4
    have HIN := Hid.mk' (int_ w0 w4 gc a len cap code w2.heap.size 3 3 _ _ hA4.cur hL4 rfl (by omega) (by omega) (by omega) (fun z => -1 ≤ z ∧ z ≤ 301) (fun i hi => by
      match i, hi with
      | 0, _ => exact ⟨-1, rfl, by omega, by omega⟩
      | 1, _ => exact ⟨(ln : Int), rfl, by omega, by omega⟩
      | 2, _ => exact ⟨(ln : Int) + 1, rfl, by omega, by omega⟩))
    rw [← hw4] at HIN
    have HW4 := Hid.mk' hw4
    clear hw4 hL4 hb4 hA2
    have hwr : IntKind.i64.wrap ((ln : Int) + 1) = (ln : Int) + 1 := wraps_i64 _ (by omega) (by omega)
    go_wp2_with fail
    refine HIN.out.mono ?_
    rw [HW4.out]
    rintro e w5 ⟨z, hz', rfl, hc5, hg5⟩
    have hA5 := hA4.step hc5 hg5
    have hAny := hD.any_sure hz'
    have hP := hA5.ins.putSure z hAny.sure
    simp only [List.length_nil, Nat.zero_add] at hP
    have hA6 := hA5.wrote hP.1 ((lay.Frame.refl _ _).grown hP.2 (fun k e => .inl (by rw [← Option.some.inj e]; exact List.mem_cons_self))) (fun k hk => .inl hk)
    have y0 := hA5.ins.box.cell 2 _ rfl
    simp only [List.length_nil, Nat.zero_add] at y0
    have y1 := hA5.ins.box.fz 2
    clear HIN HW4 hP hA4 hc5 hg5 hA5 k1
    obtain ⟨q0, q1, q2, q3, q4, z0, z1, z2, z3, z4, f0, f1, f2, f3, f4, ⟨hzc0, hzc1, hzc2, hzc3, hzc4⟩, HP⟩ := hA6.set5 hAny
    have hXR : w.heap.size ≠ w1.heap.size := hA6.rX
    have hXR2 : w1.heap.size ≠ w.heap.size := fun e => hXR e.symm
    try dsimp only at q0 q1 q2 q3 q4 z0 z1 z2 z3 z4 hzc0 hzc1 hzc2 hzc3 hzc4 HP
    clear hA6 hAny
    go_wp2_with fail
    refine bodyPost_ret (v := aggSh s.1 z la ln lc ma mn mc ha hn hc) ?_ rfl HP.out
    simp [results, Tryz.results13, go_sem, hzc0, hzc1, hzc2, hzc3, hzc4]
  by_cases x2 : x = 2
  · subst x2
    have k3 := hA2.ins.box.cell 3 _ rfl
    simp only [List.length_nil, Nat.zero_add] at k3
    have hOM := hA2.ins.own.map
    have hm5 : mn + 1 ≤ maxLen := by unfold maxLen; omega
    have hm6 : (mn + 1) * 32 ≤ 140737488355328 := by omega
    obtain ⟨w4, hw4⟩ : ∃ w4, w2.alloc (.cells #[.string ⟨#[122, 122, 122]⟩, .string ⟨#[]⟩] 61) = w4 := ⟨_, rfl⟩
    have hb4 : Below w2.heap.size w2 w4 := by rw [← hw4]; exact below_two
    have HCE : Hid (∀ j u, (pairVals [((⟨#[122, 122, 122]⟩ : ByteArray), (⟨#[]⟩ : ByteArray))])[j]? = some u → w4.cell? ((⟨w2.heap.size, 0, none⟩ : Addr).add j) = some u) := by rw [← hw4]; exact one_pair_cells w2 (⟨#[122, 122, 122]⟩, ⟨#[]⟩) _
    have hA4 := hA2.below hb4
    have hOM4 := hA4.ins.own.map
    have HROW := Hid.mk' hOM4.2.2
    have HW4 := Hid.mk' hw4
    have hs24 := hb4.size
    clear hw4 hA2
    go_wp2_with (at_builtin; rw [HW4.out]; refine wpList_append_lies _ rfl (.tmp 33) (.tmp 35) 25 rfl 0 61 j0 (.agg #[.string ⟨#[]⟩, .string ⟨#[]⟩]) 2 32 Tryz.underlying25 hjf hy0 hy1 hy2 rfl (by decide) (.slice ma mn mc) _ _ (by kernel_rfl) HROW.out ⟨w2.heap.size, 0, none⟩ 1 1 (pairVals [((⟨#[122, 122, 122]⟩ : ByteArray), (⟨#[]⟩ : ByteArray))]) (by kernel_rfl) rfl HCE.out (pairVals_oneCell _) (by decide) hm5 hm6 (Nat.zero_le _) _ rfl ?_)
    intro g8 c8 w8 hown8 hgrow8 hat8 hlt8
    have hO8 : OwnPV w8 (some ⟨g8, 0, none⟩) (mn + 1) c8 (s.2.2.2.1 ++ [((⟨#[122, 122, 122]⟩ : ByteArray), (⟨#[]⟩ : ByteArray))]) := ⟨by simp [hOM.1], fun p hp => by
      rcases List.mem_append.1 hp with e | e
      · exact hOM.2.1 p e
      · rw [List.mem_singleton.1 e]; exact ⟨by decide, by decide⟩, by rw [pairVals_append]; exact hown8⟩
    have hP := hA4.ins.putMap hgrow8 hO8 (hat8.imp_right (fun e => ⟨fun e2 => by have := hA4.ins.own.lt g8 e2; omega, by omega⟩))
    simp only [List.length_nil, Nat.zero_add] at hP
    obtain ⟨F', hP1, hP2, hP3⟩ := hP
    have hRl := hA4.rb.lt
    have hfs := hA4.fr.size
    have hA9 := hA4.wrote hP1 hP2 (fun k hk => by
      rcases hP3 k hk with e | e
      · exact .inl e
      · rcases hat8 with e2 | e2
        · left
          rw [e]
          obtain ⟨hl, hOL, hh, hOH, hFe⟩ := hA4.ins.own.log
          rw [hFe]; exact List.mem_append.2 (.inr (List.mem_append.2 (.inl (by simp [e2]))))
        · exact .inr ⟨by omega, by omega⟩)
    have hAny := hD.any_map ((⟨#[122, 122, 122]⟩ : ByteArray), (⟨#[]⟩ : ByteArray))
    have hb8X : BoxIn w1.heap.size TSh [] (shVals s.1 s.2.2.1 la ln lc ma mn mc ha hn hc) [] w8 := hA4.ins.box.grown hgrow8 (fun e => hA4.ins.out (by
      obtain ⟨hl, hOL, hh, hOH, hFe⟩ := hA4.ins.own.log
      rw [hFe]; exact List.mem_append.2 (.inr (List.mem_append.2 (.inl (by simp [← e]))))))
    have e8 := hb8X.cell 3 _ rfl
    have f8 := hb8X.fz 3
    simp only [List.length_nil, Nat.zero_add] at e8
    clear hb8X hP1 hP2 hP3 hO8 hown8 hgrow8 hat8 hlt8 hOM4 hOM HROW HCE HW4 hA4 k3
    obtain ⟨q0, q1, q2, q3, q4, z0, z1, z2, z3, z4, f0, f1, f2, f3, f4, ⟨hzc0, hzc1, hzc2, hzc3, hzc4⟩, HP⟩ := hA9.set5 hAny
    have hXR : w.heap.size ≠ w1.heap.size := hA9.rX
    have hXR2 : w1.heap.size ≠ w.heap.size := fun e => hXR e.symm
    try dsimp only at q0 q1 q2 q3 q4 z0 z1 z2 z3 z4 hzc0 hzc1 hzc2 hzc3 hzc4 HP
    clear hA9 hAny
    go_wp2_with fail
    refine bodyPost_ret (v := aggSh s.1 s.2.2.1 la ln lc (some ⟨g8, 0, none⟩) (mn + 1) c8 ha hn hc) ?_ rfl HP.out
    simp [results, Tryz.results13, go_sem, hzc0, hzc1, hzc2, hzc3, hzc4]
  by_cases x3 : x = 3
  · subst x3
    obtain ⟨hl, hOL, hh, hOH, hFe⟩ := hA2.ins.own.log
    have hd2 : Below w2.heap.size w2 w2.drew := (Below.refl _ _).drew
    have hAd := hA2.below hd2
    have HAN := Hid.mk' (d_anyT w0 w2.drew gc a len cap code hAd.cur)
    have hc3 : ln + 1 ≤ maxLen := by unfold maxLen; omega
    have hc4 : (ln + 1) * 40 ≤ 140737488355328 := by omega
    go_wp2_with fail
    refine last.wp_region_later (S := fun w' => BoxIn w1.heap.size TSh [] (shVals s.1 s.2.2.1 la ln lc ma mn mc ha hn hc) [] w') 7 (by kernel_rfl) hAd.ins.box (fun hHeld0 => ?_)
    refine last.wpAnyL_take (i := 0) (v := (.pointer (some ⟨w1.heap.size, 1, none⟩))) rfl rfl (by kernel_rfl) (by kernel_rfl) (by kernel_rfl) (by kernel_rfl) (fun _ _ _ h => h) (Or.inl ⟨by rfl, ?_⟩) (by assumption) ?_
    · intro wq hSq; go_simp
    try simp only [Act.put, List.setIfInBounds_toArray, List.set_cons_zero, List.set_cons_succ]
    refine last.wpAnyL_take (i := 1) (v := (.slice la ln lc)) rfl rfl (by kernel_rfl) (by kernel_rfl) (by kernel_rfl) (by kernel_rfl) (fun _ _ _ h => h) (Or.inl ⟨by rfl, ?_⟩) (by assumption) ?_
    · intro wq hSq; have q := hSq.cell 1 _ rfl; simp only [List.length_nil, Nat.zero_add] at q; go_simp
    try simp only [Act.put, List.setIfInBounds_toArray, List.set_cons_zero, List.set_cons_succ]
    refine last.wpAnyL_take (i := 2) (v := (.pointer (some ⟨gc, 0, none⟩))) rfl rfl (by kernel_rfl) (by kernel_rfl) (by kernel_rfl) (by kernel_rfl) (fun _ _ _ h => h) (Or.inl ⟨by rfl, ?_⟩) (by assumption) ?_
    · intro wq hSq; go_simp
    try simp only [Act.put, List.setIfInBounds_toArray, List.set_cons_zero, List.set_cons_succ]
    refine last.wpAnyL_one (i := 3) (o := { dst := some 43, op := Op.call { callee := Callee.value (Operand.func 35), args := #[Operand.tmp 42], argTypes := #[39] }, type := 36, pos := "l09_shard.go:219", after := #[{ on := 2, ground := Ground.data }], guard := none }) (by kernel_rfl) rfl (fun K hK => ?_)
    refine stepc.step_call1 rfl 35 (.tmp 42) _ rfl (fun _ _ => rfl) (.pointer (some ⟨gc, 0, none⟩)) (by kernel_rfl) _ HAN.out ?_
    rintro e w6 ⟨r, v6, ⟨htr, hfr⟩, rfl, hV6, hc6, hg6⟩
    refine ⟨_, rfl, ?_⟩
    have hA6 := hAd.step hc6 hg6
    have hl6 := hV6.lt
    have hs6 := hg6.size
    have hsd : w2.drew.heap.size = w2.heap.size := rfl
    refine hK.out _ _ ?_ (fun hHeld => ?_)
    · exact hA6.ins.box
    clear hK K hHeld0
    have hHeld0 := hHeld
    clear hHeld
    try simp only [Act.put, List.setIfInBounds_toArray, List.set_cons_zero, List.set_cons_succ]
    refine last.wpAnyL_one (i := 4) (o := { dst := some 44, op := Op.buildSlice 24 1 #[(0, Operand.tmp 43)], type := 24, pos := "l09_shard.go:219", after := #[{ on := 3, ground := Ground.data }], guard := none }) (by kernel_rfl) rfl (fun K hK => ?_)
    go_simp
    have hb7 : Below w6.heap.size w6 (w6.alloc (.cells #[.int .i64 r.1, .int .i64 r.2.1, v6] 36)) := below_two
    have hA7 := hA6.below hb7
    refine hK.out _ _ ?_ (fun hHeld => ?_)
    · exact hA7.ins.box
    clear hK K hHeld0
    have hHeld0 := hHeld
    clear hHeld
    try simp only [Act.put, List.setIfInBounds_toArray, List.set_cons_zero, List.set_cons_succ]
    refine last.wpAnyL_one (i := 5) (o := { dst := some 45, op := Op.call { callee := Callee.builtin Builtin.append, args := #[Operand.tmp 41, Operand.tmp 44], argTypes := #[24, 24] }, type := 24, pos := "l09_shard.go:219", after := #[{ on := 1, ground := Ground.data }, { on := 4, ground := Ground.data }, { on := 3, ground := Ground.chain }], guard := none }) (by kernel_rfl) rfl (fun K hK => ?_)
    have hG67 := grown_below (grownBy_trans (grown_below (World.grownBy.refl w2 (some gc)) hd2) hg6) hb7
    obtain ⟨g1, g2, g3⟩ := hA2.gX
    have hOL7 : OwnR _ 0 (.slice la ln lc) s.2.1 hl := hOL.of_blocks fun k hk => hG67.block k (hOL.lt k hk).2 (fun e => g2 (by rw [← Option.some.inj e, hFe]; exact List.mem_append.2 (.inl (mem_blkR.2 hk))))
    have hOH7 : OwnR _ 0 (.slice ha hn hc) s.2.2.2.2 hh := hOH.of_blocks fun k hk => hG67.block k (hOH.lt k hk).2 (fun e => g2 (by rw [← Option.some.inj e, hFe]; exact List.mem_append.2 (.inr (List.mem_append.2 (.inr (mem_blkR.2 hk))))))
    have hV7 := (hV6.mono (base' := 0) (Nat.zero_le _)).below hb7
    refine step_append_lies _ rfl (.tmp 41) (.tmp 44) 24 rfl 0 36 i0 (.agg #[.int .i64 0, .int .i64 0, .slice none 0 0]) 3 40 Tryz.underlying24 hi hz0 hz1 hz2 rfl (by decide) (.slice la ln lc) ln (recVals s.2.1 hl) (by kernel_rfl) (by have q := hOL7.row; rw [← HL1.out] at q; exact q) ⟨w6.heap.size, 0, none⟩ 1 1 [.int .i64 r.1, .int .i64 r.2.1, v6] (by kernel_rfl) rfl (rec_cellsW w6 r.1 r.2.1 _ _) (rec_oneW r.1 r.2.1 hV6.one) (by decide) hc3 hc4 (Nat.zero_le _) _ rfl ?_
    intro g8 c8 w8 hown8 hgrow8 hat8 hlt8
    have hsmr : smallR r := ⟨WalkArith.wf_i64 (by have := htr.1; omega), WalkArith.wf_i64 (by have := htr.2.1; omega), fun o ho => tinyO_small (htr.2.2.2 o ho)⟩
    have hvF : ∀ j, v6.ownBlock = some j → j ∉ F ∧ j ≠ w1.heap.size := fun j hj => by
      have h6 := hl6 j hj
      refine ⟨fun e => ?_, fun e => ?_⟩
      · have := hA2.ins.own.lt j e; omega
      · omega
    have hO8 := hOL7.snoc hV7 hsmr (fun k hk hb => (hvF k hk).1 (by rw [hFe]; exact List.mem_append.2 (.inl (mem_blkR.2 hb)))) (by rw [← HL1.out]; exact hown8) hgrow8
    have hP := hA7.ins.putLog (v := v6) hOL7 hOH7 hFe hvF hgrow8 hO8 hat8
    simp only [List.length_nil, Nat.zero_add] at hP
    obtain ⟨F', hP1, hP2, hP3⟩ := hP
    have hXm : w1.heap.size ≠ w6.heap.size := by have := hA6.ins.box.lt; omega
    have hRl := hA2.rb.lt
    have hA9 := hA7.wrote hP1 hP2 (fun k hk => by
      rcases hP3 k hk with e | e | e
      · exact .inl e
      · have := hl6 k e
        exact .inr ⟨by have := hA2.fr.size; omega, by omega⟩
      · have h1 := hb7.size
        exact .inr ⟨by have := hA2.fr.size; omega, by omega⟩)
    have hAny := hD.any_log htr hfr
    have hb8X : BoxIn w1.heap.size TSh [] (shVals s.1 s.2.2.1 la ln lc ma mn mc ha hn hc) [] w8 := hA7.ins.box.grown hgrow8 (fun e => hA2.ins.out (by rw [hFe]; exact List.mem_append.2 (.inl (mem_blkR.2 (.inl e.symm)))))
    refine hK.out _ _ ?_ (fun hHeld => ?_)
    · exact hb8X
    clear hK K hHeld0
    have hHeld0 := hHeld
    clear hHeld
    try simp only [Act.put, List.setIfInBounds_toArray, List.set_cons_zero, List.set_cons_succ]
    refine last.wpAnyL_take (i := 6) (v := (.pointer (some ⟨w1.heap.size, 1, none⟩))) rfl rfl (by kernel_rfl) (by kernel_rfl) (by kernel_rfl) (by kernel_rfl) (fun _ _ _ h => h) (Or.inl ⟨by rfl, ?_⟩) (by assumption) ?_
    · intro wq hSq; go_simp
    try simp only [Act.put, List.setIfInBounds_toArray, List.set_cons_zero, List.set_cons_succ]
    have e8 := hb8X.cell 1 _ rfl
    have f8 := hb8X.fz 1
    simp only [List.length_nil, Nat.zero_add] at e8
    refine last.wpAnyL_last (o := { dst := none, op := Op.store 24 (Operand.tmp 46) (Operand.tmp 45), type := 0, pos := "l09_shard.go:219", after := #[{ on := 6, ground := Ground.data }, { on := 5, ground := Ground.data }, { on := 5, ground := Ground.chain }, { on := 0, ground := Ground.phase }, { on := 1, ground := Ground.phase }, { on := 2, ground := Ground.phase }, { on := 3, ground := Ground.phase }, { on := 4, ground := Ground.phase }, { on := 5, ground := Ground.phase }], guard := none }) (by kernel_rfl) rfl (by kernel_rfl) (fun K hK => ?_)
    go_simp
    refine hK.out _ _ ?_
    clear hK K
    clear hFe hvF hl6 hs6 hsd htr hfr hsmr hXm hRl hc3 hc4 hFn hs1 g1 g2 g3 hHeld0 e8 f8 hb8X hP1 hP2 hP3 hO8 hown8 hgrow8 hat8 hlt8 hOL7 hOH7 hV7 hG67 hA7 hb7 hA6 hV6 hc6 hg6 HAN hAd hd2 hA2 hOL hOH
    obtain ⟨q0, q1, q2, q3, q4, z0, z1, z2, z3, z4, f0, f1, f2, f3, f4, ⟨hzc0, hzc1, hzc2, hzc3, hzc4⟩, HP⟩ := hA9.set5 hAny
    have hXR : w.heap.size ≠ w1.heap.size := hA9.rX
    have hXR2 : w1.heap.size ≠ w.heap.size := fun e => hXR e.symm
    try dsimp only at q0 q1 q2 q3 q4 z0 z1 z2 z3 z4 hzc0 hzc1 hzc2 hzc3 hzc4 HP
    clear hA9 hAny
    go_wp2_with fail
    refine bodyPost_ret (v := aggSh s.1 s.2.2.1 (some ⟨g8, 0, none⟩) (ln + 1) c8 ma mn mc ha hn hc) ?_ rfl HP.out
    simp [results, Tryz.results13, go_sem, hzc0, hzc1, hzc2, hzc3, hzc4]
  · have y0 : ¬ (x : Int) = 0 := by omega
    have y1 : ¬ (x : Int) = 1 := by omega
    have y2 : ¬ (x : Int) = 2 := by omega
    have y3 : ¬ (x : Int) = 3 := by omega
    have z0' : ((x : Int) == 0) = false := beq_eq_false_iff_ne.2 y0
    have z1' : ((x : Int) == 1) = false := beq_eq_false_iff_ne.2 y1
    have z2' : ((x : Int) == 2) = false := beq_eq_false_iff_ne.2 y2
    have z3' : ((x : Int) == 3) = false := beq_eq_false_iff_ne.2 y3
    have hAny := hD.any
    obtain ⟨q0, q1, q2, q3, q4, z0, z1, z2, z3, z4, f0, f1, f2, f3, f4, ⟨hzc0, hzc1, hzc2, hzc3, hzc4⟩, HP⟩ := hA2.set5 hAny
    have hXR : w.heap.size ≠ w1.heap.size := hA2.rX
    have hXR2 : w1.heap.size ≠ w.heap.size := fun e => hXR e.symm
    try dsimp only at q0 q1 q2 q3 q4 z0 z1 z2 z3 z4 hzc0 hzc1 hzc2 hzc3 hzc4 HP
    clear hA2 hAny
    go_wp2_with fail
    refine bodyPost_ret (v := aggSh s.1 s.2.2.1 la ln lc ma mn mc ha hn hc) ?_ rfl HP.out
    simp [results, Tryz.results13, go_sem, hzc0, hzc1, hzc2, hzc3, hzc4]
end Go.Proofs.YtggdgceglmbaiaaGreatDoor.recs
