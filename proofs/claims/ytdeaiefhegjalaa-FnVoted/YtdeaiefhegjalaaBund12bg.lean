/- The program's copy of one who decides; all choices sure; a new life. The program's one who decides: all choices sure. -/
import Derived.Test.YtdeaiefhegjalaaBund12bf
import Derived.Test.YtdeaiefhegjalaaBund12bc
import Derived.Test.YtdeaiefhegjalaaBund12au
import Derived.Deep.RegionHeldLaw
namespace Go.Proofs.Ytdeaiefhegjalaa.cos
open Go Go.RowKit Go.Proofs.Ytdeaiefhegjalaa.base Go.Proofs.Ytdeaiefhegjalaa.pairs Go.Proofs.Ytdeaiefhegjalaa.ords Go.Proofs.Ytdeaiefhegjalaa.lay Go.Proofs.Ytdeaiefhegjalaa.wds
set_option linter.unusedVariables false
set_option linter.unusedSimpArgs false

theorem infoJb : (Try.prog.info? 37).map (fun i => (i.zero, i.size, i.bytes)) = some (some (.agg #[.int .i64 0, .slice none 0 0, .int .i64 0, .slice none 0 0]), 4, 64) := by kernel_rfl
theorem ownG_row {α : Type} {R : Rd α} {ty : TypeId} {w : World} {g n : Nat} {k : Nat} (h : w.ownsRow k ty R.size (.slice (some ⟨g, 0, none⟩) 0 n) 0 []) : OwnG ty R w (.slice (some ⟨g, 0, none⟩) 0 n) [] [] := by
  refine ⟨rfl, ?_, fun i hi => absurd hi (by simp), by simp [blocksOf, Value.ownBlock]⟩
  obtain ⟨h1, h2⟩ := h
  refine ⟨h1, ?_⟩
  rcases h2 with h2 | ⟨g', c', cur, h2, h3, h4⟩
  · exact .inl h2
  · exact .inr ⟨g', c', cur, h2, Nat.zero_le _, h4⟩
set_option maxRecDepth 100000 in
set_option maxHeartbeats 4000000 in
theorem i_ownCoord (ja : Option Addr) (jn jc : Nat) (la : Option Addr) (ln lc : Nat) (c : Co) (w : World) (h : SeeCo w ja jn jc la ln lc c) (hbd : BoundCo c) :
    Calls Try.prog 17 #[coV c.1 c.2.1 c.2.2.1 c.2.2.2.2.2 ja jn jc la ln lc] w (RetR coordR w c) := by
  obtain ⟨i0, hif, hz0, hz1, hz2⟩ := info_parts infoJb
  have hwf := h.wf
  have hjl := h.jobs.1
  have hll := h.log.1
  have hj8 := hbd.jobs
  have hl8 := hbd.log
  obtain ⟨W, hW⟩ : ∃ W, (w.alloc (.cells #[.int .i64 c.1, .int .i64 c.2.1, .int .i64 c.2.2.1, .slice ja jn jc, .slice la ln lc, .int .i64 c.2.2.2.2.2] 27)).alloc (.cells #[.int .i64 0, .int .i64 0, .int .i64 0, .slice none 0 0, .slice none 0 0, .int .i64 0] 27) = W := ⟨_, rfl⟩
  have hB : Below w.heap.size w W := by rw [← hW]; exact ((Below.refl _ _).alloc (Nat.le_refl _) _).alloc (by simp) _
  have hA : BoxIn w.heap.size 27 [] [.int .i64 c.1, .int .i64 c.2.1, .int .i64 c.2.2.1, .slice ja jn jc, .slice la ln lc, .int .i64 c.2.2.2.2.2] [] W := by rw [← hW]; exact (boxIn_new w _ _).below below_make
  have hR : BoxIn (w.heap.size + 1) 27 [] [.int .i64 0, .int .i64 0, .int .i64 0, .slice none 0 0, .slice none 0 0, .int .i64 0] [] W := by
    rw [← hW]
    have := boxIn_new (w.alloc (.cells #[.int .i64 c.1, .int .i64 c.2.1, .int .i64 c.2.2.1, .slice ja jn jc, .slice la ln lc, .int .i64 c.2.2.2.2.2] 27)) [.int .i64 0, .int .i64 0, .int .i64 0, .slice none 0 0, .slice none 0 0, .int .i64 0] 27
    rwa [show (w.alloc (.cells #[.int .i64 c.1, .int .i64 c.2.1, .int .i64 c.2.2.1, .slice ja jn jc, .slice la ln lc, .int .i64 c.2.2.2.2.2] 27)).heap.size = w.heap.size + 1 by simp] at this
  have hRl := hR.lt
  have HW := Hid.mk' hW
  have HJ := Hid.mk' (h.jobs.below hB)
  have HL := Hid.mk' (h.log.below hB)
  have HYS := Hid.mk' hbd.yes
  have HFT := Hid.mk' hbd.fits
  obtain ⟨a0, a1, a2, a3, a4, a5⟩ := cells6 hA
  rw [← hW] at a0 a1 a2 a3 a4 a5
  clear hW h
  go_enter Try.func17, Try.ntmps17
  go_wp2_with (at_make; rw [HW.out]; refine wpList_make_own _ rfl _ _ 24 rfl 0 37 i0 (.agg #[.int .i64 0, .slice none 0 0, .int .i64 0, .slice none 0 0]) 4 Try.underlying24 hif hz0 hz1 _ _ _ jn rfl rfl rfl ?b2 ?b3 ?b4 ?_)
  case b2 => rw [hz2]; omega
  case b3 => unfold maxLen; omega
  case b4 => exact Nat.zero_le _
  intro w1 hown hgrow
  have hb1 : Below W.heap.size W w1 := (Below.refl _ _).grown hgrow (Nat.le_refl _) (fun k e => by cases e)
  have hOw0 := ownG_row (R := jobR) hown
  have hAl := hA.lt
  clear hown hgrow a0 a1 a2 a3 a4 a5 hif hz0 hz1 hz2
  obtain ⟨a0, a1, a2, a3, a4, a5⟩ := cells6 (hA.below hb1)
  go_wp2_with fail
  go_loopw [12, 3] (fun i s wr => ∃ (k g cap : Nat) (q : Parts), k ≤ jn ∧ i = .int .i64 (k : Int) ∧ s = .slice (some ⟨g, 0, none⟩) k cap ∧ OwnG 37 jobR wr (.slice (some ⟨g, 0, none⟩) k cap) (c.2.2.2.1.take k) q ∧ (∀ b ∈ g :: blocksOf q, W.heap.size ≤ b) ∧ Below W.heap.size W wr) (fun i _ _ => jn - (intOf i).toNat)
  case atStart => exact ⟨0, _, _, [], Nat.zero_le _, rfl, rfl, hOw0, fun b hb => by simp [blocksOf] at hb; omega, hb1⟩
  case round =>
    obtain ⟨k, g, cap, q, hk, rfl, rfl, hO, hq, hBw⟩ := hrel
    clear a0 a1 a2 a3 a4 a5 hOw0
    have hAw := hA.below hBw
    obtain ⟨a0, a1, a2, a3, a4, a5⟩ := cells6 hAw
    by_cases hlt : k < jn
    · have hltl : k < c.2.2.2.1.length := by omega
      have hki : (k : Int) < (jn : Int) := by omega
      obtain ⟨jb, joff, e⟩ := slg_some HJ.out (by omega)
      subst e
      have hS := HJ.out.below hBw
      obtain ⟨y0, y2, ⟨oa, ol, oc, y1, hOo, hoc⟩, ya, yl, yc, y3, hY, hyc⟩ := job_at hS k hltl
      have hjw := job_wf hS k hltl
      have hyl := HYS.out _ (List.getElem_mem hltl)
      have hol := (HFT.out.2.2 _ (List.getElem_mem hltl)).1
      have HTK : Hid (c.2.2.2.1.take (k + 1) = c.2.2.2.1.take k ++ [c.2.2.2.1[k]]) := List.take_succ_eq_append_getElem hltl
      have HTL : Hid ((c.2.2.2.1.take k).length = k) := by show _ = _; simp; omega
      have HOJ := Hid.mk' (i_ownJob jb (joff + k * 4) c.2.2.2.1[k].1 c.2.2.2.1[k].2.2.1 oa ol oc ya yl yc c.2.2.2.1[k].2.1 c.2.2.2.1[k].2.2.2 wr y0 y1 y2 y3 hjw.1 hjw.2.1 hOo hoc hY hyc hjw.2.2.2 (by have := hOo.1; omega) (by have := hY.1; omega))
      have HO := Hid.mk' hO
      generalize c.2.2.2.1[k] = j at *
      clear hS hOo hY hjw hol hyl y0 y1 y2 y3 hO
      go_wp2_with fail
      refine HOJ.out.mono ?_
      rintro e w2 ⟨us, F, rfl, hOx, hF, hb2⟩
      obtain ⟨ra, rn, rc, sa, sn, sc, rfl⟩ := job_vals hOx
      have hOk := HO.out.below hb2
      have hlts := HO.out.lts
      have hB2 := hBw.trans (hb2.mono hBw.size)
      obtain ⟨V, hV⟩ : ∃ V, w2.alloc (.cells #[.int .i64 j.1, .slice ra rn rc, .int .i64 j.2.2.1, .slice sa sn sc] 37) = V := ⟨_, rfl⟩
      have hbv : Below w2.heap.size w2 V := by rw [← hV]; exact below_make
      have hX : BoxIn w2.heap.size 37 [] [.int .i64 j.1, .slice ra rn rc, .int .i64 j.2.2.1, .slice sa sn sc] [] V := by rw [← hV]; exact boxIn_new w2 _ _
      have hBV := hB2.trans (hbv.mono hB2.size)
      obtain ⟨g', cap', w3, hrun, hO3, hgr, hat⟩ := OwnG.appRun (P := Try.prog) (z := .agg #[.int .i64 0, .slice none 0 0, .int .i64 0, .slice none 0 0]) Try.underlying24 infoJb rfl (by decide) (hOk.below hbv) (jobR.ownBelow hOx hbv) (fun b hb hc => by
        have h1 := hF b hb
        have h2 := hlts b (by simpa [Value.ownBlock] using hc)
        omega) hX (by rw [HTL.out]; unfold maxLen; omega) (by rw [HTL.out]; omega) 24
      rw [HTL.out] at hrun hO3
      rw [← HTK.out] at hO3
      have hwr2 := hb2.size
      have hB3 := hBV.grown hgr hBV.size (fun b e => by have : g = b := by simpa [Value.ownBlock] using e
                                                        have := hq g (by simp); omega)
      have hq3 : ∀ b ∈ g' :: blocksOf (q ++ [([.int .i64 j.1, .slice ra rn rc, .int .i64 j.2.2.1, .slice sa sn sc], F)]), W.heap.size ≤ b := fun b hb => by
        have hs1 := hBw.size
        have hs2 := hBV.size
        rw [blocksOf_append] at hb
        rcases List.mem_cons.1 hb with e | e
        · rcases hat with e2 | e2
          · have : g = g' := by simpa [Value.ownBlock] using e2
            have := hq g (by simp); omega
          · omega
        · rcases List.mem_append.1 e with e | e
          · exact hq b (List.mem_cons_of_mem _ e)
          · have := hF b (by simpa [blocksOf] using e); omega
      have HV := Hid.mk' hV
      have HO3 := Hid.mk' hO3
      have HQ3 := Hid.mk' hq3
      clear hV hX hOk hO3 hq3 hOx hlts HOJ HO hgr
      clear a0 a1 a2 a3 a4 a5
      go_wp2_with (at_builtin; rw [HV.out]; refine wpList_append_run rfl _ _ 24 rfl (by kernel_rfl) (by kernel_rfl) hrun ?_)
      go_wp2_with fail
      go_roundw
      case rel => exact ⟨k + 1, g', cap', _, by omega, by go_num, rfl, HO3.out, HQ3.out, hB3⟩
      case measure => simp [intOf]; omega
    · have hke : k = jn := by omega
      subst hke
      have hki : ¬ (k : Int) < (k : Int) := by omega
      rw [List.take_of_length_le (by omega)] at hO
      go_wp2_with fail
      have hAlt := hAw.lt
      have hRw := hR.below hBw
      have HO := Hid.mk' hO
      have HLw := Hid.mk' (HL.out.below hBw)
      have hdW : Below wr.heap.size wr wr.drew := (Below.refl _ _).drew
      refine last.wp_region_later (S := fun w' => Below wr.heap.size wr w') 14 (by kernel_rfl) hdW (fun hHeld0 => ?_)
      generalize hD : wr.drew = D at *
      clear hD
      refine last.wpAnyL_take (i := 0) (v := (.pointer (some ⟨w.heap.size, 0, none⟩))) rfl rfl (by kernel_rfl) (by kernel_rfl) (by kernel_rfl) (by kernel_rfl) (fun _ _ _ h => h) (Or.inl ⟨by rfl, ?_⟩) (by assumption) ?_
      · intro wq hSq; go_simp
      try simp only [Act.put, List.setIfInBounds_toArray, List.set_cons_zero, List.set_cons_succ]
      refine last.wpAnyL_take (i := 1) (v := (.int .i64 c.1)) rfl rfl (by kernel_rfl) (by kernel_rfl) (by kernel_rfl) (by kernel_rfl) (fun _ _ _ h => h) (Or.inl ⟨by rfl, ?_⟩) (by assumption) ?_
      · intro wq hSq; have q := (hSq.cell (p := ⟨w.heap.size, 0, none⟩) hAlt).trans a0; go_simp
      try simp only [Act.put, List.setIfInBounds_toArray, List.set_cons_zero, List.set_cons_succ]
      refine last.wpAnyL_take (i := 2) (v := (.pointer (some ⟨w.heap.size, 1, none⟩))) rfl rfl (by kernel_rfl) (by kernel_rfl) (by kernel_rfl) (by kernel_rfl) (fun _ _ _ h => h) (Or.inl ⟨by rfl, ?_⟩) (by assumption) ?_
      · intro wq hSq; go_simp
      try simp only [Act.put, List.setIfInBounds_toArray, List.set_cons_zero, List.set_cons_succ]
      refine last.wpAnyL_take (i := 3) (v := (.int .i64 c.2.1)) rfl rfl (by kernel_rfl) (by kernel_rfl) (by kernel_rfl) (by kernel_rfl) (fun _ _ _ h => h) (Or.inl ⟨by rfl, ?_⟩) (by assumption) ?_
      · intro wq hSq; have q := (hSq.cell (p := ⟨w.heap.size, 1, none⟩) hAlt).trans a1; go_simp
      try simp only [Act.put, List.setIfInBounds_toArray, List.set_cons_zero, List.set_cons_succ]
      refine last.wpAnyL_take (i := 4) (v := (.pointer (some ⟨w.heap.size, 2, none⟩))) rfl rfl (by kernel_rfl) (by kernel_rfl) (by kernel_rfl) (by kernel_rfl) (fun _ _ _ h => h) (Or.inl ⟨by rfl, ?_⟩) (by assumption) ?_
      · intro wq hSq; go_simp
      try simp only [Act.put, List.setIfInBounds_toArray, List.set_cons_zero, List.set_cons_succ]
      refine last.wpAnyL_take (i := 5) (v := (.int .i64 c.2.2.1)) rfl rfl (by kernel_rfl) (by kernel_rfl) (by kernel_rfl) (by kernel_rfl) (fun _ _ _ h => h) (Or.inl ⟨by rfl, ?_⟩) (by assumption) ?_
      · intro wq hSq; have q := (hSq.cell (p := ⟨w.heap.size, 2, none⟩) hAlt).trans a2; go_simp
      try simp only [Act.put, List.setIfInBounds_toArray, List.set_cons_zero, List.set_cons_succ]
      refine last.wpAnyL_take (i := 6) (v := (.slice (some ⟨g, 0, none⟩) k cap)) rfl rfl (by kernel_rfl) (by kernel_rfl) (by kernel_rfl) (by kernel_rfl) (fun _ _ _ h => h) (Or.inl ⟨by rfl, ?_⟩) (by assumption) ?_
      · intro wq hSq; go_simp
      try simp only [Act.put, List.setIfInBounds_toArray, List.set_cons_zero, List.set_cons_succ]
      refine last.wpAnyL_take (i := 8) (v := (.pointer (some ⟨w.heap.size, 4, none⟩))) rfl rfl (by kernel_rfl) (by kernel_rfl) (by kernel_rfl) (by kernel_rfl) (fun _ _ _ h => h) (Or.inl ⟨by rfl, ?_⟩) (by assumption) ?_
      · intro wq hSq; go_simp
      try simp only [Act.put, List.setIfInBounds_toArray, List.set_cons_zero, List.set_cons_succ]
      refine last.wpAnyL_take (i := 9) (v := (.slice la ln lc)) rfl rfl (by kernel_rfl) (by kernel_rfl) (by kernel_rfl) (by kernel_rfl) (fun _ _ _ h => h) (Or.inl ⟨by rfl, ?_⟩) (by assumption) ?_
      · intro wq hSq; have q := (hSq.cell (p := ⟨w.heap.size, 4, none⟩) hAlt).trans a4; go_simp
      try simp only [Act.put, List.setIfInBounds_toArray, List.set_cons_zero, List.set_cons_succ]
      refine last.wpAnyL_take (i := 11) (v := (.pointer (some ⟨w.heap.size, 5, none⟩))) rfl rfl (by kernel_rfl) (by kernel_rfl) (by kernel_rfl) (by kernel_rfl) (fun _ _ _ h => h) (Or.inl ⟨by rfl, ?_⟩) (by assumption) ?_
      · intro wq hSq; go_simp
      try simp only [Act.put, List.setIfInBounds_toArray, List.set_cons_zero, List.set_cons_succ]
      refine last.wpAnyL_take (i := 12) (v := (.int .i64 c.2.2.2.2.2)) rfl rfl (by kernel_rfl) (by kernel_rfl) (by kernel_rfl) (by kernel_rfl) (fun _ _ _ h => h) (Or.inl ⟨by rfl, ?_⟩) (by assumption) ?_
      · intro wq hSq; have q := (hSq.cell (p := ⟨w.heap.size, 5, none⟩) hAlt).trans a5; go_simp
      try simp only [Act.put, List.setIfInBounds_toArray, List.set_cons_zero, List.set_cons_succ]
      refine last.wpAnyL_one (i := 7) (o := { dst := some 31, op := Op.buildSlice 25 0 #[], type := 25, pos := "l11_coord.go:167", after := #[], guard := none }) (by kernel_rfl) rfl (fun K hK => ?_)
      go_simp
      have hbB : Below wr.heap.size wr (D.alloc (.cells #[] 33)) := hdW.alloc hdW.size _
      have hr1 := row_new D 33 2
      have hDs := hdW.size
      refine hK.out _ _ ?_ (fun hHeld => ?_)
      · exact hbB
      clear hK K hHeld0
      have hHeld0 := hHeld
      clear hHeld
      try simp only [Act.put, List.setIfInBounds_toArray, List.set_cons_zero, List.set_cons_succ]
      generalize hwB : D.alloc (.cells #[] 33) = wB at *
      clear hwB
      refine last.wpAnyL_one (i := 10) (o := { dst := some 34, op := Op.call { callee := Callee.builtin Builtin.append, args := #[Operand.tmp 31, Operand.tmp 33], argTypes := #[25, 25] }, type := 25, pos := "l11_coord.go:167", after := #[{ on := 7, ground := Ground.data }, { on := 9, ground := Ground.data }], guard := none }) (by kernel_rfl) rfl (fun K hK => ?_)
      obtain ⟨gl, lcap, wC, hrun, hlo, hgr, hloc⟩ := copy_chs _ la ln lc 25 hr1 (HLw.out.below hbB) (by omega)
      refine step_append_run rfl (.tmp 31) (.tmp 33) 25 rfl (by kernel_rfl) (by kernel_rfl) hrun ?_
      have hbC : Below wr.heap.size wr wC := hbB.grown hgr hbB.size (fun k e => by cases e; omega)
      have hglb : wr.heap.size ≤ gl := by
        have := hbB.size
        rcases hloc with e | e <;> omega
      refine hK.out _ _ ?_ (fun hHeld => ?_)
      · exact hbC
      clear hK K hHeld0
      have hHeld0 := hHeld
      clear hHeld
      try simp only [Act.put, List.setIfInBounds_toArray, List.set_cons_zero, List.set_cons_succ]
      clear hrun hr1 hgr hloc
      refine last.wpAnyL_take (i := 13) (v := (.agg #[.int .i64 c.1, .int .i64 c.2.1, .int .i64 c.2.2.1, .slice (some ⟨g, 0, none⟩) k cap, .slice (some ⟨gl, 0, none⟩) ln lcap, .int .i64 c.2.2.2.2.2])) rfl rfl (by kernel_rfl) (by kernel_rfl) (by kernel_rfl) (by kernel_rfl) (fun _ _ _ h => h) (Or.inl ⟨by rfl, ?_⟩) (by assumption) ?_
      · intro wq hSq; go_simp
      try simp only [Act.put, List.setIfInBounds_toArray, List.set_cons_zero, List.set_cons_succ]
      have hRC := hRw.below hbC
      obtain ⟨z0, z1, z2, z3, z4, z5⟩ := cells6 hRC
      have f0 := hRC.fz 0
      have f1 := hRC.fz 1
      have f2 := hRC.fz 2
      have f3 := hRC.fz 3
      have f4 := hRC.fz 4
      have f5 := hRC.fz 5
      have hS := hRC.whole [.int .i64 c.1, .int .i64 c.2.1, .int .i64 c.2.2.1, .slice (some ⟨g, 0, none⟩) k cap, .slice (some ⟨gl, 0, none⟩) ln lcap, .int .i64 c.2.2.2.2.2] rfl
      obtain ⟨y0, y1, y2, y3, y4, y5⟩ := cells6 hS.1
      simp only [putAll, Nat.zero_add, Nat.reduceAdd] at y0 y1 y2 y3 y4 y5
      have hBW := hB.trans (hBw.mono hB.size)
      have hsw := hBw.size
      have hBC := hBW.trans (hbC.mono hBW.size)
      have hBz := hBC.grown hS.2 hBC.size (fun j e => by cases e; omega)
      have hltq := HO.out.lts
      have hjr : jobsR.own wr [.slice (some ⟨g, 0, none⟩) k cap] c.2.2.2.1 (g :: blocksOf q) := ⟨_, q, rfl, by simp [Value.ownBlock], HO.out⟩
      have hj2 := jobsR.ownGrown (jobsR.ownBelow hjr hbC) hS.2 (fun b hb e => by have := hq b hb; cases e; omega)
      have hl2 := logR.ownGrown hlo hS.2 (fun b hb e => by simp only [List.mem_singleton] at hb; subst hb; cases e; omega)
      have HOW := Hid.mk' (coord_own.2 ⟨_, _, _, _, rfl, hwf, hj2, hl2, rfl, nodup_new (jobsR.ownNodup hj2) (by simp) hltq (fun b hb => by simp only [List.mem_singleton] at hb; omega)⟩)
      have HBz := Hid.mk' hBz
      have HFN : Hid (∀ b ∈ (g :: blocksOf q) ++ [gl], w.heap.size ≤ b) := fun b hb => by
        have hs := hB.size
        have hs2 := hBW.size
        rcases List.mem_append.1 hb with e | e
        · have := hq b e; omega
        · simp only [List.mem_singleton] at e; omega
      clear hjr hj2 hl2 hlo hBz hS
      refine last.wpAnyL_last (o := { dst := none, op := Op.store 27 (Operand.tmp 2) (Operand.tmp 37), type := 0, pos := "l11_coord.go:167", after := #[{ on := 13, ground := Ground.data }, { on := 10, ground := Ground.chain }, { on := 0, ground := Ground.phase }, { on := 1, ground := Ground.phase }, { on := 2, ground := Ground.phase }, { on := 3, ground := Ground.phase }, { on := 4, ground := Ground.phase }, { on := 5, ground := Ground.phase }, { on := 6, ground := Ground.phase }, { on := 7, ground := Ground.phase }, { on := 8, ground := Ground.phase }, { on := 9, ground := Ground.phase }, { on := 10, ground := Ground.phase }, { on := 11, ground := Ground.phase }, { on := 12, ground := Ground.phase }, { on := 13, ground := Ground.phase }], guard := none }) (by kernel_rfl) rfl (by kernel_rfl) (fun K hK => ?_)
      go_simp
      refine hK.out _ _ ?_
      clear hK K
      go_wp2_with fail
      refine bodyPost_ret (v := .agg #[.int .i64 c.1, .int .i64 c.2.1, .int .i64 c.2.2.1, .slice (some ⟨g, 0, none⟩) k cap, .slice (some ⟨gl, 0, none⟩) ln lcap, .int .i64 c.2.2.2.2.2]) ?_ rfl ⟨_, _, rfl, HOW.out, HFN.out, HBz.out⟩
      simp [results, Try.results17, go_sem, y0, y1, y2, y3, y4, y5]
end Go.Proofs.Ytdeaiefhegjalaa.cos

namespace Go.Proofs.Ytdeaiefhegjalaa.cos
open Go Go.RowKit Go.Proofs.Ytdeaiefhegjalaa.base Go.Proofs.Ytdeaiefhegjalaa.pairs Go.Proofs.Ytdeaiefhegjalaa.ords Go.Proofs.Ytdeaiefhegjalaa.lay Go.Proofs.Ytdeaiefhegjalaa.wds
set_option linter.unusedVariables false
set_option linter.unusedSimpArgs false

theorem cnt_sure (c : Co) : cntC (sureR c) = cntC c := by unfold sureR; split <;> rfl
theorem sure_wf {c : Co} (h : WfCo c) (hl : c.2.2.2.2.1.length ≤ 1048576) : WfCo (sureR c) := by
  unfold sureR
  split
  · exact ⟨h.n, h.life, h.next, WalkArith.wf_i64 (by simp only []; omega)⟩
  · exact h
theorem sure_ret {w : World} {f : Nat} {ja : Option Addr} {jn jc : Nat} {la : Option Addr} {ln lc : Nat} {c : Co} {vs : Array Value} (h : SeeCo w ja jn jc la ln lc c) (hbd : BoundCo c) (hc : Calls Try.prog f vs w fun e w' => CopyPost w jn ln (sureR c) e w') : Calls Try.prog f vs w (RetR coordR w (sureR c)) := hc.mono fun e w' hp => copy_ret (sure_wf h.wf hbd.log) hp
end Go.Proofs.Ytdeaiefhegjalaa.cos
