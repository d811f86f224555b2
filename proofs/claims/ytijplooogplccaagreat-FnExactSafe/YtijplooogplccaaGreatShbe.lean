/- WoOr WoOt -/
import Derived.Test.YtijplooogplccaaGreatShbd
set_option linter.unusedVariables false
set_option linter.unusedSimpArgs false
namespace Go.Proofs.YtijplooogplccaaGreat
namespace wos
open Go Go.RowKit base pairs ords lay
theorem spec_sameB (a a2 : Option Addr) (len cap len2 cap2 : Nat) (l l2 : List Od) (w : World) (h : SlO w a len l) (h2 : SlO w a2 len2 l2) :
 Calls Tryz.prog 49 #[.slice a len cap, .slice a2 len2 cap2] w fun e w' => e = .returned (.bool (decide (l = l2))) ∧ Below w.heap.size w w' := by
 refine (recs.spec_sameOps a a2 len cap len2 cap2 l l2 w h h2).mono ?_
 rintro e w' ⟨rfl, n, rfl⟩
 exact ⟨rfl, below_drewN (Below.refl _ _) n⟩
set_option maxRecDepth 100000 in
set_option maxHeartbeats 8000000 in
theorem spec_l12Orders (ja : Option Addr) (jn jc : Nat) (la : Option Addr) (ln lc : Nat) (sa : Option Addr) (sn sc : Nat) (na : Option Addr) (nn nc : Nat) (oa : Option Addr) (on oc : Nat) (ba : Option Addr) (bn bc : Nat) (x : Wo) (w : World) (h : SeeWo w ja jn jc la ln lc sa sn sc na nn nc oa on oc ba bn bc x) (hl : 1 ≤ x.1.2.1 ∧ x.1.2.1 ≤ 900) (hn : 0 ≤ x.1.2.2.1 ∧ x.1.2.2.1 ≤ 999) (hsm : SmallB x) :
 Calls Tryz.prog 18 #[.agg #[.int .i64 x.1.1, .int .i64 x.1.2.1, .int .i64 x.1.2.2.1, .slice ja jn jc, .slice la ln lc, .int .i64 x.1.2.2.2.2.2, .slice sa sn sc, .slice na nn nc, .slice oa on oc, .slice ba bn bc]] w fun e w' => e = .returned (.bool (begO (x.1.2.1 * 1000 + x.1.2.2.1) x.2.2.2.2 && allO x)) ∧ Below w.heap.size w w' := by
 obtain ⟨W, hW⟩ : ∃ W, w.alloc (.cells #[.int .i64 x.1.1, .int .i64 x.1.2.1, .int .i64 x.1.2.2.1, .slice ja jn jc, .slice la ln lc, .int .i64 x.1.2.2.2.2.2, .slice sa sn sc, .slice na nn nc, .slice oa on oc, .slice ba bn bc] 41) = W := ⟨_, rfl⟩
 have hB : Below w.heap.size w W := by rw [← hW]; exact below_make
 have hX : BoxIn w.heap.size 41 [] [.int .i64 x.1.1, .int .i64 x.1.2.1, .int .i64 x.1.2.2.1, .slice ja jn jc, .slice la ln lc, .int .i64 x.1.2.2.2.2.2, .slice sa sn sc, .slice na nn nc, .slice oa on oc, .slice ba bn bc] [] W := by rw [← hW]; exact boxIn_new w _ _
 obtain ⟨hl1, hl2⟩ := hl
 obtain ⟨hn1, hn2⟩ := hn
 have hG := h.begun.below hB
 have hJ := h.co.jobs.below hB
 have hL := h.co.log.below hB
 have hgm := h.begun.2.1
 have hjm := h.co.jobs.2.1
 have hlm := h.co.log.2.1
 unfold maxLen at hgm hjm hlm
 have HGL := Hid.mk' h.begun.1
 have HJL := Hid.mk' h.co.jobs.1
 have HLL := Hid.mk' h.co.log.1
 have HBE := Hid.mk' (fun tx wx (hb : Below W.heap.size W wx) => spec_l12Begun ja jn jc la ln lc sa sn sc na nn nc oa on oc ba bn bc x tx wx ((h.below hB).below hb))
 have HSM := Hid.mk' hsm.ops
 have HR1 : Hid (∀ k, k < bn → begA (x.1.2.1 * 1000 + x.1.2.2.1) x.2.2.2.2 k = false → (begO (x.1.2.1 * 1000 + x.1.2.2.1) x.2.2.2.2 && allO x) = false) := fun k hk e => by unfold begO; rw [HGL.out, range_miss hk e]; simp
 have HR2 : Hid (∀ k, k < jn → holdsAt (jobA x.2.2.2.2) x.1.2.2.2.1 k = false → (begO (x.1.2.1 * 1000 + x.1.2.2.1) x.2.2.2.2 && allO x) = false) := fun k hk e => by unfold allO; rw [all_at (p := jobA x.2.2.2.2), HJL.out, range_miss hk e]; simp
 have HR3 : Hid (∀ k, k < ln → holdsAt (logA x.2.2.2.2) x.1.2.2.2.2.1 k = false → (begO (x.1.2.1 * 1000 + x.1.2.2.1) x.2.2.2.2 && allO x) = false) := fun k hk e => by unfold allO; rw [all_at (p := logA x.2.2.2.2), HLL.out, range_miss hk e]; simp
 have HR4 : Hid ((∀ k, k < bn → begA (x.1.2.1 * 1000 + x.1.2.2.1) x.2.2.2.2 k = true) → (∀ k, k < jn → holdsAt (jobA x.2.2.2.2) x.1.2.2.2.1 k = true) → (∀ k, k < ln → holdsAt (logA x.2.2.2.2) x.1.2.2.2.2.1 k = true) → (begO (x.1.2.1 * 1000 + x.1.2.2.1) x.2.2.2.2 && allO x) = decide (bn ≤ 1000)) := fun e1 e2 e3 => by unfold begO allO; rw [all_at (p := jobA x.2.2.2.2), all_at (p := logA x.2.2.2.2), HGL.out, HJL.out, HLL.out, range_every e1, range_every e2, range_every e3]; simp
 have HX2 : Hid (∀ k (hk : k < x.1.2.2.2.1.length), holdsAt (jobA x.2.2.2.2) x.1.2.2.2.1 k = jobA x.2.2.2.2 x.1.2.2.2.1[k]) := fun k hk => holdsAt_at hk
 have HX3 : Hid (∀ k (hk : k < x.1.2.2.2.2.1.length), holdsAt (logA x.2.2.2.2) x.1.2.2.2.2.1 k = logA x.2.2.2.2 x.1.2.2.2.2.1[k]) := fun k hk => holdsAt_at hk
 generalize (begO (x.1.2.1 * 1000 + x.1.2.2.1) x.2.2.2.2 && allO x) = R at *
 have HW := Hid.mk' hW
 clear hW h hsm
 go_enter Tryz.func18, Tryz.ntmps18
 go_wp2_with fail
 rw [HW.out]
 go_loopw [3] (fun i wr => ∃ k : Nat, k ≤ bn ∧ i = .int .i64 (k : Int) ∧ Below W.heap.size W wr ∧ ∀ j, j < k → begA (x.1.2.1 * 1000 + x.1.2.2.1) x.2.2.2.2 j = true) (fun i _ => bn - (intOf i).toNat)
 case atStart => exact ⟨0, Nat.zero_le _, rfl, Below.refl _ _, fun j hj => absurd hj (Nat.not_lt_zero _)⟩
 case round =>
  obtain ⟨k, hk, rfl, hb, hno⟩ := hrel
  have HNO := Hid.mk' hno
  have hBw := hB.trans (hb.mono hB.size)
  obtain ⟨a0, a1, a2, a3, a4, a5, a6, a7, a8, a9⟩ := cells10 (hX.below hb)
  clear hno
  by_cases hlt : k < bn
  · have hki : (k : Int) < (bn : Int) := by omega
    have hkl : k < x.2.2.2.2.length := by have := HGL.out; omega
    obtain ⟨b, off, hba⟩ := cos.slg_some hG (by omega)
    subst hba
    obtain ⟨c0, oa', ol', oc', c1, hSo, _⟩ := ord_at (hG.below hb) k hkl
    have HV : Hid (begA (x.1.2.1 * 1000 + x.1.2.2.1) x.2.2.2.2 k = (opsOk x.2.2.2.2[k].2 && decide (begZ x.2.2.2.2 x.2.2.2.2[k].1 = (k : Int)) && decide (1000 ≤ x.2.2.2.2[k].1 ∧ x.2.2.2.2[k].1 ≤ x.1.2.1 * 1000 + x.1.2.2.1 - 1))) := by
     show _ = _
     rw [begA_at hkl, beg_self hkl]
     congr 1
     exact decide_eq_decide.2 ⟨fun e => ⟨e.1, by omega⟩, fun e => ⟨e.1, by omega⟩⟩
    have HP : Hid ((begA (x.1.2.1 * 1000 + x.1.2.2.1) x.2.2.2.2 k = false → R = false) ∧ (begA (x.1.2.1 * 1000 + x.1.2.2.1) x.2.2.2.2 k = true → ∀ j, j < k + 1 → begA (x.1.2.1 * 1000 + x.1.2.2.1) x.2.2.2.2 j = true)) := ⟨HR1.out k hlt, upto_next HNO.out⟩
    have HC := Hid.mk' (fun wx (hx : Below wr.heap.size wr wx) => wds.spec_opsOkA oa' ol' oc' x.2.2.2.2[k].2 wx (hSo.below hx) (fun p hp => by have := (HSM.out _ (List.getElem_mem hkl)).2 p hp; omega))
    have HB2 := Hid.mk' (fun wx (hx : Below wr.heap.size wr wx) => HBE.out x.2.2.2.2[k].1 wx (hb.trans (hx.mono hb.size)))
    have HI2 := Hid.mk' (fun wx => recs.spec_in x.2.2.2.2[k].1 1000 (x.1.2.1 * 1000 + x.1.2.2.1 - 1) wx)
    generalize hvv : begA (x.1.2.1 * 1000 + x.1.2.2.1) x.2.2.2.2 k = hv at *
    generalize begZ x.2.2.2.2 x.2.2.2.2[k].1 = z at *
    generalize opsOk x.2.2.2.2[k].2 = r at *
    generalize x.2.2.2.2[k].1 = t at *
    generalize decide (1000 ≤ t ∧ t ≤ x.1.2.1 * 1000 + x.1.2.2.1 - 1) = q at *
    have pc0 := last.On.cell (B := wr.heap.size) c0 (World.block_lt_of_cell? _ _ c0)
    have pc1 := last.On.cell (B := wr.heap.size) c1 (World.block_lt_of_cell? _ _ c1)
    have pa0 := last.On.cell (B := wr.heap.size) a0 (World.block_lt_of_cell? _ _ a0)
    have pa1 := last.On.cell (B := wr.heap.size) a1 (World.block_lt_of_cell? _ _ a1)
    have pa2 := last.On.cell (B := wr.heap.size) a2 (World.block_lt_of_cell? _ _ a2)
    have pa3 := last.On.cell (B := wr.heap.size) a3 (World.block_lt_of_cell? _ _ a3)
    have pa4 := last.On.cell (B := wr.heap.size) a4 (World.block_lt_of_cell? _ _ a4)
    have pa5 := last.On.cell (B := wr.heap.size) a5 (World.block_lt_of_cell? _ _ a5)
    have pa6 := last.On.cell (B := wr.heap.size) a6 (World.block_lt_of_cell? _ _ a6)
    have pa7 := last.On.cell (B := wr.heap.size) a7 (World.block_lt_of_cell? _ _ a7)
    have pa8 := last.On.cell (B := wr.heap.size) a8 (World.block_lt_of_cell? _ _ a8)
    have pa9 := last.On.cell (B := wr.heap.size) a9 (World.block_lt_of_cell? _ _ a9)
    have hinh := last.On.inh wr.heap.size wr
    have hc0 : ∀ xx : last.On wr.heap.size wr, Calls Tryz.prog 47 #[.slice oa' ol' oc'] xx.w fun e w' => e = .returned (.bool r) ∧ ∃ yv : last.On wr.heap.size wr, w' = yv.w := fun xx => last.Calls.on xx (Nat.le_refl _) (HC.out xx.w xx.2)
    have hc1 : ∀ xx : last.On wr.heap.size wr, Calls Tryz.prog 48 #[.agg #[.int .i64 x.1.1, .int .i64 x.1.2.1, .int .i64 x.1.2.2.1, .slice ja jn jc, .slice la ln lc, .int .i64 x.1.2.2.2.2.2, .slice sa sn sc, .slice na nn nc, .slice oa on oc, .slice (some ⟨b, off, none⟩) bn bc], .int .i64 t] xx.w fun e w' => e = .returned (.int .i64 z) ∧ ∃ yv : last.On wr.heap.size wr, w' = yv.w := fun xx => last.Calls.on xx (Nat.le_refl _) (HB2.out xx.w xx.2)
    have hc2 : ∀ xx : last.On wr.heap.size wr, Calls Tryz.prog 43 #[.int .i64 t, .int .i64 1000, .int .i64 (x.1.2.1 * 1000 + x.1.2.2.1 - 1)] xx.w fun e w' => e = .returned (.bool q) ∧ ∃ yv : last.On wr.heap.size wr, w' = yv.w := fun xx => on_same xx (HI2.out xx.w)
    clear c0 c1 HC HB2 HI2 hvv hSo
    cases r
    · have HF := Hid.mk' (HP.out.1 (by rw [HV.out]; rfl))
      clear HP HV
      have hwrap := hBw
      go_wp2_with fail
      clear a0 a1 a2 a3 a4 a5 a6 a7 a8 a9
      refine last.wp_region_on wr.heap.size (by kernel_rfl) (by kernel_rfl) ?_
      repeat (go_big_quiet_step ((first | (go_at_call 47; with_reducible exact hc0 _) | (go_at_call 48; with_reducible exact hc1 _) | (go_at_call 43; with_reducible exact hc2 _))))
      refine wpQuiet_nil ?_
      intro wq hwq
      obtain ⟨xq, hwq⟩ := hwq
      subst hwq
      have hbq : Below wr.heap.size wr xq.w := xq.2
      go_wp2_with fail
      go_ret
      exact ⟨by rw [HF.out]; rfl, hBw.trans (hbq.mono hBw.size)⟩
    · by_cases e : z = (k : Int)
      · have d1 : (z != (k : Int)) = false := by simp [e]
        cases q
        · have HF := Hid.mk' (HP.out.1 (by rw [HV.out]; simp))
          clear HP HV e
          have hwrap := hBw
          go_wp2_with fail
          clear a0 a1 a2 a3 a4 a5 a6 a7 a8 a9
          refine last.wp_region_on wr.heap.size (by kernel_rfl) (by kernel_rfl) ?_
          repeat (go_big_quiet_step ((first | (go_at_call 47; with_reducible exact hc0 _) | (go_at_call 48; with_reducible exact hc1 _) | (go_at_call 43; with_reducible exact hc2 _))))
          refine wpQuiet_nil ?_
          intro wq hwq
          obtain ⟨xq, hwq⟩ := hwq
          subst hwq
          have hbq : Below wr.heap.size wr xq.w := xq.2
          go_wp2_with fail
          go_ret
          exact ⟨by rw [HF.out]; rfl, hBw.trans (hbq.mono hBw.size)⟩
        · have HF := Hid.mk' (HP.out.2 (by rw [HV.out]; simp [e]))
          clear HP HV e
          have hwrap := hBw
          go_wp2_with fail
          clear a0 a1 a2 a3 a4 a5 a6 a7 a8 a9
          refine last.wp_region_on wr.heap.size (by kernel_rfl) (by kernel_rfl) ?_
          repeat (go_big_quiet_step ((first | (go_at_call 47; with_reducible exact hc0 _) | (go_at_call 48; with_reducible exact hc1 _) | (go_at_call 43; with_reducible exact hc2 _))))
          refine wpQuiet_nil ?_
          intro wq hwq
          obtain ⟨xq, hwq⟩ := hwq
          subst hwq
          have hbq : Below wr.heap.size wr xq.w := xq.2
          go_wp2_with fail
          go_roundw
          case rel => exact ⟨k + 1, by omega, by go_num, hb.trans (hbq.mono hb.size), HF.out⟩
          case measure => simp [intOf]; omega
      · have d1 : (z != (k : Int)) = true := by simp [e]
        have HF := Hid.mk' (HP.out.1 (by rw [HV.out]; simp [e]))
        clear HP HV e
        have hwrap := hBw
        go_wp2_with fail
        clear a0 a1 a2 a3 a4 a5 a6 a7 a8 a9
        refine last.wp_region_on wr.heap.size (by kernel_rfl) (by kernel_rfl) ?_
        repeat (go_big_quiet_step ((first | (go_at_call 47; with_reducible exact hc0 _) | (go_at_call 48; with_reducible exact hc1 _) | (go_at_call 43; with_reducible exact hc2 _))))
        refine wpQuiet_nil ?_
        intro wq hwq
        obtain ⟨xq, hwq⟩ := hwq
        subst hwq
        have hbq : Below wr.heap.size wr xq.w := xq.2
        go_wp2_with fail
        go_ret
        exact ⟨by rw [HF.out]; rfl, hBw.trans (hbq.mono hBw.size)⟩
  · have hki : ¬ (k : Int) < (bn : Int) := by omega
    have HA : Hid (∀ j, j < bn → begA (x.1.2.1 * 1000 + x.1.2.2.1) x.2.2.2.2 j = true) := fun j hj => HNO.out j (by omega)
    go_wp2_with fail
    clear a0 a1 a2 a3 a4 a5 a6 a7 a8 a9
    obtain ⟨v0, hv0⟩ : ∃ v0, v0 = wr := ⟨_, rfl⟩
    subst hv0
    go_loopw [4] (fun i wr => ∃ k : Nat, k ≤ jn ∧ i = .int .i64 (k : Int) ∧ Below v0.heap.size v0 wr ∧ ∀ j, j < k → (holdsAt (jobA x.2.2.2.2) x.1.2.2.2.1) j = true) (fun i _ => jn - (intOf i).toNat)
    case atStart => exact ⟨0, Nat.zero_le _, rfl, Below.refl _ _, fun j hj => absurd hj (Nat.not_lt_zero _)⟩
    case round =>
     clear HNO hki hlt hk
     obtain ⟨k, hk, rfl, hb0, hno⟩ := hrel
     have HNO := Hid.mk' hno
     have hbw := hb.trans (hb0.mono hb.size)
     have hBv := hB.trans (hbw.mono hB.size)
     obtain ⟨a0, a1, a2, a3, a4, a5, a6, a7, a8, a9⟩ := cells10 (hX.below hbw)
     clear hno
     by_cases hlt : k < jn
     · have hki : (k : Int) < (jn : Int) := by omega
       have hkl : k < x.1.2.2.2.1.length := by have := HJL.out; omega
       obtain ⟨b, off, hba⟩ := cos.slg_some hJ (by omega)
       subst hba
       obtain ⟨c0, _, ⟨oa', ol', oc', c1, hSo, _⟩, _⟩ := cos.job_at (hJ.below hbw) k hkl
       have HV := Hid.mk' (HX2.out k hkl)
       have HP : Hid ((holdsAt (jobA x.2.2.2.2) x.1.2.2.2.1 k = false → R = false) ∧ (holdsAt (jobA x.2.2.2.2) x.1.2.2.2.1 k = true → ∀ j, j < k + 1 → holdsAt (jobA x.2.2.2.2) x.1.2.2.2.1 j = true)) := ⟨HR2.out k hlt, upto_next HNO.out⟩
       have HB2 := Hid.mk' (fun wx (hx : Below wr.heap.size wr wx) => HBE.out x.1.2.2.2.1[k].1 wx (hbw.trans (hx.mono hbw.size)))
       have HCS := beg_cases x.2.2.2.2 x.1.2.2.2.1[k].1
       have HVV : Hid (jobA x.2.2.2.2 x.1.2.2.2.1[k] = match firstO x.2.2.2.2 x.1.2.2.2.1[k].1 with | none => false | some o => decide (o.2 = x.1.2.2.2.1[k].2.1)) := rfl
       rw [HVV.out] at HV
       generalize holdsAt (jobA x.2.2.2.2) x.1.2.2.2.1 k = hv at *
       generalize x.1.2.2.2.1[k] = jb at *
       generalize begZ x.2.2.2.2 jb.1 = z at *
       have pc0 := last.On.cell (B := wr.heap.size) c0 (World.block_lt_of_cell? _ _ c0)
       have pa0 := last.On.cell (B := wr.heap.size) a0 (World.block_lt_of_cell? _ _ a0)
       have pa1 := last.On.cell (B := wr.heap.size) a1 (World.block_lt_of_cell? _ _ a1)
       have pa2 := last.On.cell (B := wr.heap.size) a2 (World.block_lt_of_cell? _ _ a2)
       have pa3 := last.On.cell (B := wr.heap.size) a3 (World.block_lt_of_cell? _ _ a3)
       have pa4 := last.On.cell (B := wr.heap.size) a4 (World.block_lt_of_cell? _ _ a4)
       have pa5 := last.On.cell (B := wr.heap.size) a5 (World.block_lt_of_cell? _ _ a5)
       have pa6 := last.On.cell (B := wr.heap.size) a6 (World.block_lt_of_cell? _ _ a6)
       have pa7 := last.On.cell (B := wr.heap.size) a7 (World.block_lt_of_cell? _ _ a7)
       have pa8 := last.On.cell (B := wr.heap.size) a8 (World.block_lt_of_cell? _ _ a8)
       have pa9 := last.On.cell (B := wr.heap.size) a9 (World.block_lt_of_cell? _ _ a9)
       have hinh := last.On.inh wr.heap.size wr
       have hc1 : ∀ xx : last.On wr.heap.size wr, Calls Tryz.prog 48 #[.agg #[.int .i64 x.1.1, .int .i64 x.1.2.1, .int .i64 x.1.2.2.1, .slice (some ⟨b, off, none⟩) jn jc, .slice la ln lc, .int .i64 x.1.2.2.2.2.2, .slice sa sn sc, .slice na nn nc, .slice oa on oc, .slice ba bn bc], .int .i64 jb.1] xx.w fun e w' => e = .returned (.int .i64 z) ∧ ∃ yv : last.On wr.heap.size wr, w' = yv.w := fun xx => last.Calls.on xx (Nat.le_refl _) (HB2.out xx.w xx.2)
       clear HB2 HVV
       rcases HCS with ⟨hz, hfo⟩ | ⟨q, hq, hz, hfo⟩
       · subst hz
         have HF := Hid.mk' (HP.out.1 (by rw [HV.out, hfo]))
         clear HP HV hfo c0 c1
         go_wp2_with fail
         clear a0 a1 a2 a3 a4 a5 a6 a7 a8 a9
         refine last.wp_region_on wr.heap.size (by kernel_rfl) (by kernel_rfl) ?_
         repeat (go_big_quiet_step ((first | (go_at_call 48; with_reducible exact hc1 _))))
         refine wpQuiet_nil ?_
         intro wq hwq
         obtain ⟨xq, hwq⟩ := hwq
         subst hwq
         have hbq : Below wr.heap.size wr xq.w := xq.2
         generalize xq.w = u at *
         clear pc0 pa0 pa1 pa2 pa3 pa4 pa5 pa6 pa7 pa8 pa9 hc1 hinh
         go_wp2_with fail
         have hinh := last.On.inh u.heap.size u
         refine last.wp_region_on u.heap.size (by kernel_rfl) (by kernel_rfl) ?_
         repeat (go_big_quiet_step (fail))
         refine wpQuiet_nil ?_
         intro wq hwq
         obtain ⟨yq, hwq⟩ := hwq
         subst hwq
         have hby : Below u.heap.size u yq.w := yq.2
         go_wp2_with fail
         go_ret
         exact ⟨by rw [HF.out]; rfl, (hBv.trans (hbq.mono hBv.size)).trans (hby.mono (hBv.trans (hbq.mono hBv.size)).size)⟩
       · subst hz
         have hqi : (q : Int) < (bn : Int) := by have := HGL.out; omega
         have hq0 : decide ((q : Int) < 0) = false := decide_eq_false (by omega)
         obtain ⟨b2, off2, hb2a⟩ := cos.slg_some hG (by have := HGL.out; omega)
         subst hb2a
         obtain ⟨_, sa', sl', sc', e1, hS2, _⟩ := ord_at (hG.below hbw) q hq
         have HSS := Hid.mk' (fun wx (hx : Below wr.heap.size wr wx) => spec_sameB sa' oa' sl' sc' ol' oc' x.2.2.2.2[q].2 jb.2.1 wx (hS2.below hx) (hSo.below hx))
         rw [hfo] at HV
         simp only [] at HV
         generalize x.2.2.2.2[q].2 = so at *
         clear hfo
         cases hd : decide (so = jb.2.1)
         · rw [hd] at HV HSS
           have HF := Hid.mk' (HP.out.1 HV.out)
           clear HP HV hd
           go_wp2_with fail
           clear a0 a1 a2 a3 a4 a5 a6 a7 a8 a9
           refine last.wp_region_on wr.heap.size (by kernel_rfl) (by kernel_rfl) ?_
           repeat (go_big_quiet_step ((first | (go_at_call 48; with_reducible exact hc1 _))))
           refine wpQuiet_nil ?_
           intro wq hwq
           obtain ⟨xq, hwq⟩ := hwq
           subst hwq
           have hbq : Below wr.heap.size wr xq.w := xq.2
           generalize xq.w = u at *
           clear pc0 pa0 pa1 pa2 pa3 pa4 pa5 pa6 pa7 pa8 pa9 hc1 hinh
           go_wp2_with fail
           obtain ⟨a0, a1, a2, a3, a4, a5, a6, a7, a8, a9⟩ := cells10 ((hX.below hbw).below hbq)
           have f1 := (hbq.cell (p := ⟨b2, off2 + q * 2 + 1, none⟩) (World.block_lt_of_cell? _ _ e1)).trans e1
           have f2 := (hbq.cell (p := ⟨b, off + k * 4 + 1, none⟩) (World.block_lt_of_cell? _ _ c1)).trans c1
           have pa3 := last.On.cell (B := u.heap.size) a3 (World.block_lt_of_cell? _ _ a3)
           have pa9 := last.On.cell (B := u.heap.size) a9 (World.block_lt_of_cell? _ _ a9)
           have pf1 := last.On.cell (B := u.heap.size) f1 (World.block_lt_of_cell? _ _ f1)
           have pf2 := last.On.cell (B := u.heap.size) f2 (World.block_lt_of_cell? _ _ f2)
           have hc2 : ∀ xx : last.On u.heap.size u, Calls Tryz.prog 49 #[.slice sa' sl' sc', .slice oa' ol' oc'] xx.w fun e w' => e = .returned (.bool false) ∧ ∃ yv : last.On u.heap.size u, w' = yv.w := fun xx => last.Calls.on xx (Nat.le_refl _) (HSS.out xx.w (hbq.trans (xx.2.mono hbq.size)))
           clear a0 a1 a2 a3 a4 a5 a6 a7 a8 a9 f1 f2 e1 c0 c1 HSS
           have hinh := last.On.inh u.heap.size u
           refine last.wp_region_on u.heap.size (by kernel_rfl) (by kernel_rfl) ?_
           repeat (go_big_quiet_step ((first | (go_at_call 49; with_reducible exact hc2 _))))
           refine wpQuiet_nil ?_
           intro wq hwq
           obtain ⟨yq, hwq⟩ := hwq
           subst hwq
           have hby : Below u.heap.size u yq.w := yq.2
           go_wp2_with fail
           go_ret
           exact ⟨by rw [HF.out]; rfl, (hBv.trans (hbq.mono hBv.size)).trans (hby.mono (hBv.trans (hbq.mono hBv.size)).size)⟩
         · rw [hd] at HV HSS
           have HF := Hid.mk' (HP.out.2 HV.out)
           clear HP HV hd
           go_wp2_with fail
           clear a0 a1 a2 a3 a4 a5 a6 a7 a8 a9
           refine last.wp_region_on wr.heap.size (by kernel_rfl) (by kernel_rfl) ?_
           repeat (go_big_quiet_step ((first | (go_at_call 48; with_reducible exact hc1 _))))
           refine wpQuiet_nil ?_
           intro wq hwq
           obtain ⟨xq, hwq⟩ := hwq
           subst hwq
           have hbq : Below wr.heap.size wr xq.w := xq.2
           generalize xq.w = u at *
           clear pc0 pa0 pa1 pa2 pa3 pa4 pa5 pa6 pa7 pa8 pa9 hc1 hinh
           go_wp2_with fail
           obtain ⟨a0, a1, a2, a3, a4, a5, a6, a7, a8, a9⟩ := cells10 ((hX.below hbw).below hbq)
           have f1 := (hbq.cell (p := ⟨b2, off2 + q * 2 + 1, none⟩) (World.block_lt_of_cell? _ _ e1)).trans e1
           have f2 := (hbq.cell (p := ⟨b, off + k * 4 + 1, none⟩) (World.block_lt_of_cell? _ _ c1)).trans c1
           have pa3 := last.On.cell (B := u.heap.size) a3 (World.block_lt_of_cell? _ _ a3)
           have pa9 := last.On.cell (B := u.heap.size) a9 (World.block_lt_of_cell? _ _ a9)
           have pf1 := last.On.cell (B := u.heap.size) f1 (World.block_lt_of_cell? _ _ f1)
           have pf2 := last.On.cell (B := u.heap.size) f2 (World.block_lt_of_cell? _ _ f2)
           have hc2 : ∀ xx : last.On u.heap.size u, Calls Tryz.prog 49 #[.slice sa' sl' sc', .slice oa' ol' oc'] xx.w fun e w' => e = .returned (.bool true) ∧ ∃ yv : last.On u.heap.size u, w' = yv.w := fun xx => last.Calls.on xx (Nat.le_refl _) (HSS.out xx.w (hbq.trans (xx.2.mono hbq.size)))
           clear a0 a1 a2 a3 a4 a5 a6 a7 a8 a9 f1 f2 e1 c0 c1 HSS
           have hinh := last.On.inh u.heap.size u
           refine last.wp_region_on u.heap.size (by kernel_rfl) (by kernel_rfl) ?_
           repeat (go_big_quiet_step ((first | (go_at_call 49; with_reducible exact hc2 _))))
           refine wpQuiet_nil ?_
           intro wq hwq
           obtain ⟨yq, hwq⟩ := hwq
           subst hwq
           have hby : Below u.heap.size u yq.w := yq.2
           go_wp2_with fail
           go_roundw
           case rel => exact ⟨k + 1, by omega, by go_num, (hb0.trans (hbq.mono hb0.size)).trans (hby.mono (hb0.trans (hbq.mono hb0.size)).size), HF.out⟩
           case measure => simp [intOf]; omega
     · have hki : ¬ (k : Int) < (jn : Int) := by omega
       have HJ2 : Hid (∀ j, j < jn → (holdsAt (jobA x.2.2.2.2) x.1.2.2.2.1) j = true) := fun j hj => HNO.out j (by omega)
       go_wp2_with fail
       clear a0 a1 a2 a3 a4 a5 a6 a7 a8 a9
       have hb := hbw
       obtain ⟨v0, hv0⟩ : ∃ v0, v0 = wr := ⟨_, rfl⟩
       subst hv0
       go_loopw [6] (fun i wr => ∃ k : Nat, k ≤ ln ∧ i = .int .i64 (k : Int) ∧ Below v0.heap.size v0 wr ∧ ∀ j, j < k → (holdsAt (logA x.2.2.2.2) x.1.2.2.2.2.1) j = true) (fun i _ => ln - (intOf i).toNat)
       case atStart => exact ⟨0, Nat.zero_le _, rfl, Below.refl _ _, fun j hj => absurd hj (Nat.not_lt_zero _)⟩
       case round =>
        clear HNO hki hlt hk
        obtain ⟨k, hk, rfl, hb0, hno⟩ := hrel
        have HNO := Hid.mk' hno
        have hbw := hb.trans (hb0.mono hb.size)
        have hBv := hB.trans (hbw.mono hB.size)
        obtain ⟨a0, a1, a2, a3, a4, a5, a6, a7, a8, a9⟩ := cells10 (hX.below hbw)
        clear hno
        by_cases hlt : k < ln
        · have hki : (k : Int) < (ln : Int) := by omega
          have hkl : k < x.1.2.2.2.2.1.length := by have := HLL.out; omega
          obtain ⟨b, off, hba⟩ := cos.slg_some hL (by omega)
          subst hba
          obtain ⟨c0, _⟩ := cos.ch_at (hL.below hbw) k hkl
          have HV := Hid.mk' (HX3.out k hkl)
          have HP : Hid ((holdsAt (logA x.2.2.2.2) x.1.2.2.2.2.1 k = false → R = false) ∧ (holdsAt (logA x.2.2.2.2) x.1.2.2.2.2.1 k = true → ∀ j, j < k + 1 → holdsAt (logA x.2.2.2.2) x.1.2.2.2.2.1 j = true)) := ⟨HR3.out k hlt, upto_next HNO.out⟩
          have HB2 := Hid.mk' (fun wx (hx : Below wr.heap.size wr wx) => HBE.out x.1.2.2.2.2.1[k].1 wx (hbw.trans (hx.mono hbw.size)))
          have HCS := beg_cases x.2.2.2.2 x.1.2.2.2.2.1[k].1
          have HVV : Hid (logA x.2.2.2.2 x.1.2.2.2.2.1[k] = (firstO x.2.2.2.2 x.1.2.2.2.2.1[k].1).isSome) := rfl
          rw [HVV.out] at HV
          generalize holdsAt (logA x.2.2.2.2) x.1.2.2.2.2.1 k = hv at *
          generalize x.1.2.2.2.2.1[k] = ch at *
          generalize begZ x.2.2.2.2 ch.1 = z at *
          have pc0 := last.On.cell (B := wr.heap.size) c0 (World.block_lt_of_cell? _ _ c0)
          have pa0 := last.On.cell (B := wr.heap.size) a0 (World.block_lt_of_cell? _ _ a0)
          have pa1 := last.On.cell (B := wr.heap.size) a1 (World.block_lt_of_cell? _ _ a1)
          have pa2 := last.On.cell (B := wr.heap.size) a2 (World.block_lt_of_cell? _ _ a2)
          have pa3 := last.On.cell (B := wr.heap.size) a3 (World.block_lt_of_cell? _ _ a3)
          have pa4 := last.On.cell (B := wr.heap.size) a4 (World.block_lt_of_cell? _ _ a4)
          have pa5 := last.On.cell (B := wr.heap.size) a5 (World.block_lt_of_cell? _ _ a5)
          have pa6 := last.On.cell (B := wr.heap.size) a6 (World.block_lt_of_cell? _ _ a6)
          have pa7 := last.On.cell (B := wr.heap.size) a7 (World.block_lt_of_cell? _ _ a7)
          have pa8 := last.On.cell (B := wr.heap.size) a8 (World.block_lt_of_cell? _ _ a8)
          have pa9 := last.On.cell (B := wr.heap.size) a9 (World.block_lt_of_cell? _ _ a9)
          have hinh := last.On.inh wr.heap.size wr
          have hc1 : ∀ xx : last.On wr.heap.size wr, Calls Tryz.prog 48 #[.agg #[.int .i64 x.1.1, .int .i64 x.1.2.1, .int .i64 x.1.2.2.1, .slice ja jn jc, .slice (some ⟨b, off, none⟩) ln lc, .int .i64 x.1.2.2.2.2.2, .slice sa sn sc, .slice na nn nc, .slice oa on oc, .slice ba bn bc], .int .i64 ch.1] xx.w fun e w' => e = .returned (.int .i64 z) ∧ ∃ yv : last.On wr.heap.size wr, w' = yv.w := fun xx => last.Calls.on xx (Nat.le_refl _) (HB2.out xx.w xx.2)
          clear HB2 HVV c0
          rcases HCS with ⟨hz, hfo⟩ | ⟨q, hq, hz, hfo⟩
          · subst hz
            have HF := Hid.mk' (HP.out.1 (by rw [HV.out, hfo]; rfl))
            clear HP HV hfo
            go_wp2_with fail
            clear a0 a1 a2 a3 a4 a5 a6 a7 a8 a9
            refine last.wp_region_on wr.heap.size (by kernel_rfl) (by kernel_rfl) ?_
            repeat (go_big_quiet_step ((first | (go_at_call 48; with_reducible exact hc1 _))))
            refine wpQuiet_nil ?_
            intro wq hwq
            obtain ⟨xq, hwq⟩ := hwq
            subst hwq
            have hbq : Below wr.heap.size wr xq.w := xq.2
            go_wp2_with fail
            go_ret
            exact ⟨by rw [HF.out]; rfl, hBv.trans (hbq.mono hBv.size)⟩
          · subst hz
            have HF := Hid.mk' (HP.out.2 (by rw [HV.out, hfo]; rfl))
            have hq0 : decide ((q : Int) < 0) = false := decide_eq_false (by omega)
            clear HP HV hfo
            go_wp2_with fail
            clear a0 a1 a2 a3 a4 a5 a6 a7 a8 a9
            refine last.wp_region_on wr.heap.size (by kernel_rfl) (by kernel_rfl) ?_
            repeat (go_big_quiet_step ((first | (go_at_call 48; with_reducible exact hc1 _))))
            refine wpQuiet_nil ?_
            intro wq hwq
            obtain ⟨xq, hwq⟩ := hwq
            subst hwq
            have hbq : Below wr.heap.size wr xq.w := xq.2
            go_wp2_with fail
            go_roundw
            case rel => exact ⟨k + 1, by omega, by go_num, hb0.trans (hbq.mono hb0.size), HF.out⟩
            case measure => simp [intOf]; omega
        · have hki : ¬ (k : Int) < (ln : Int) := by omega
          have HF := Hid.mk' (HR4.out HA.out HJ2.out (fun j hj => HNO.out j (by omega)))
          by_cases e : bn ≤ 1000
          · rw [decide_eq_true e] at HF
            have e1 : (bn : Int) ≤ 1000 := by omega
            clear e
            go_wp2_with fail
            go_ret
            exact ⟨by rw [HF.out]; first | rfl | simp [e1], hBv⟩
          · rw [decide_eq_false e] at HF
            have e1 : ¬ (bn : Int) ≤ 1000 := by omega
            clear e
            go_wp2_with fail
            go_ret
            exact ⟨by rw [HF.out]; first | rfl | simp [e1], hBv⟩
end wos
namespace wos
open Go Go.RowKit base pairs ords lay
structure FitW (x : Wo) : Prop where
 co : cos.FitsCo x.1
 sh : ∀ s ∈ x.2.1, recs.Few s.2.1 ∧ s.2.1.length ≤ 1048576 ∧ s.2.2.2.2.length ≤ 1048576
 net : ∀ y ∈ x.2.2.1, ∀ p ∈ y.2.2.2.1, p.2.1.size ≤ 1099511627776
 outs : ∀ y ∈ x.2.2.2.1, ∀ p ∈ y.2.2.2.1, p.2.1.size ≤ 1099511627776
 beg : SmallB x
theorem coord_bounds {c : cos.Co} (h : cos.coordOk c = true) : (1 ≤ c.2.1 ∧ c.2.1 ≤ 900) ∧ (0 ≤ c.2.2.1 ∧ c.2.2.1 ≤ 999) := by
 unfold cos.coordOk cos.headOk at h
 simp only [Bool.and_eq_true, decide_eq_true_eq] at h
 exact ⟨h.1.1.1.1.1.2, h.1.1.1.1.2⟩
set_option maxRecDepth 100000 in
set_option maxHeartbeats 8000000 in
theorem spec_worldOk (ja : Option Addr) (jn jc : Nat) (la : Option Addr) (ln lc : Nat) (sa : Option Addr) (sn sc : Nat) (na : Option Addr) (nn nc : Nat) (oa : Option Addr) (on oc : Nat) (ba : Option Addr) (bn bc : Nat) (x : Wo) (w : World) (h : SeeWo w ja jn jc la ln lc sa sn sc na nn nc oa on oc ba bn bc x) (hf : FitW x) :
 Calls Tryz.prog 6 #[.agg #[.int .i64 x.1.1, .int .i64 x.1.2.1, .int .i64 x.1.2.2.1, .slice ja jn jc, .slice la ln lc, .int .i64 x.1.2.2.2.2.2, .slice sa sn sc, .slice na nn nc, .slice oa on oc, .slice ba bn bc]] w fun e w' => e = .returned (.bool (worldOk x)) ∧ Below w.heap.size w w' := by
 obtain ⟨W, hW⟩ : ∃ W, w.alloc (.cells #[.int .i64 x.1.1, .int .i64 x.1.2.1, .int .i64 x.1.2.2.1, .slice ja jn jc, .slice la ln lc, .int .i64 x.1.2.2.2.2.2, .slice sa sn sc, .slice na nn nc, .slice oa on oc, .slice ba bn bc] 41) = W := ⟨_, rfl⟩
 have hB : Below w.heap.size w W := by rw [← hW]; exact below_make
 have hX : BoxIn w.heap.size 41 [] [.int .i64 x.1.1, .int .i64 x.1.2.1, .int .i64 x.1.2.2.1, .slice ja jn jc, .slice la ln lc, .int .i64 x.1.2.2.2.2.2, .slice sa sn sc, .slice na nn nc, .slice oa on oc, .slice ba bn bc] [] W := by rw [← hW]; exact boxIn_new w _ _
 have hS := h.sh.below hB
 have hsm := h.sh.2.1
 unfold maxLen at hsm
 have HSL := Hid.mk' h.sh.1
 have HR : Hid (worldOk x = (cos.coordOk x.1 && decide ((sn : Int) = x.1.1) && wordsO x.1.1 x.2.2.1 && wordsO x.1.1 x.2.2.2.1 && (begO (x.1.2.1 * 1000 + x.1.2.2.1) x.2.2.2.2 && allO x) && (List.range sn).all (shA x.2.1))) := by show _ = _; unfold worldOk shsO; rw [h.sh.1]
 have HC0 := Hid.mk' (cos.spec_coordOk ja jn jc la ln lc x.1 W (h.co.below hB) hf.co)
 have HC1 := Hid.mk' (fun wx (hx : Below W.heap.size W wx) => spec_l12Words ja jn jc la ln lc sa sn sc na nn nc oa on oc ba bn bc x na nn nc x.2.2.1 wx ((h.below hB).below hx) ((h.net.below hB).below hx) hf.net)
 have HC2 := Hid.mk' (fun wx (hx : Below W.heap.size W wx) => spec_l12Words ja jn jc la ln lc sa sn sc na nn nc oa on oc ba bn bc x oa on oc x.2.2.2.1 wx ((h.below hB).below hx) ((h.outs.below hB).below hx) hf.outs)
 have HC3 := Hid.mk' (fun (hl : cos.coordOk x.1 = true) wx (hx : Below W.heap.size W wx) => spec_l12Orders ja jn jc la ln lc sa sn sc na nn nc oa on oc ba bn bc x wx ((h.below hB).below hx) (coord_bounds hl).1 (coord_bounds hl).2 hf.beg)
 have HFW := Hid.mk' hf.sh
 have HW := Hid.mk' hW
 generalize worldOk x = R at *
 generalize (begO (x.1.2.1 * 1000 + x.1.2.2.1) x.2.2.2.2 && allO x) = r4 at *
 generalize cos.coordOk x.1 = r0 at *
 obtain ⟨a0, a1, a2, a3, a4, a5, a6, a7, a8, a9⟩ := cells10 hX
 rw [← hW] at a0 a1 a2 a3 a4 a5 a6 a7 a8 a9
 clear hW h hf
 go_enter Tryz.func6, Tryz.ntmps6
 go_wp2_with fail
 rw [HW.out]
 refine HC0.out.mono ?_
 rintro e w1 ⟨rfl, hb1⟩
 have hB1 := hB.trans (hb1.mono hB.size)
 clear a0 a1 a2 a3 a4 a5 a6 a7 a8 a9 HC0 HW
 obtain ⟨a0, a1, a2, a3, a4, a5, a6, a7, a8, a9⟩ := cells10 (hX.below hb1)
 cases r0
 · have HF : Hid (R = false) := by show _ = _; rw [HR.out]; simp
   clear HR
   go_wp2_with fail
   go_ret
   exact ⟨by rw [HF.out]; rfl, hB1⟩
 have HC4 := Hid.mk' (HC3.out rfl)
 by_cases eN : (sn : Int) = x.1.1
 · have dN : ((sn : Int) != x.1.1) = false := by simp [eN]
   have HR2 : Hid (R = (wordsO (sn : Int) x.2.2.1 && wordsO (sn : Int) x.2.2.2.1 && r4 && (List.range sn).all (shA x.2.1))) := by show _ = _; rw [HR.out, eN]; simp
   generalize wordsO (sn : Int) x.2.2.1 = r2 at *
   generalize wordsO (sn : Int) x.2.2.2.1 = r3 at *
   clear HR eN
   go_wp2_with fail
   refine (HC1.out _ hb1).mono ?_
   rintro e w2 ⟨rfl, hc2⟩
   have hb2 := hb1.trans (hc2.mono hb1.size)
   have hB2 := hB.trans (hb2.mono hB.size)
   clear a0 a1 a2 a3 a4 a5 a6 a7 a8 a9 HC1
   obtain ⟨a0, a1, a2, a3, a4, a5, a6, a7, a8, a9⟩ := cells10 (hX.below hb2)
   cases r2
   · have HF : Hid (R = false) := by show _ = _; rw [HR2.out]; simp
     clear HR2
     go_wp2_with fail
     go_ret
     exact ⟨by rw [HF.out]; rfl, hB2⟩
   go_wp2_with fail
   refine (HC2.out _ hb2).mono ?_
   rintro e w3 ⟨rfl, hc3⟩
   have hb3 := hb2.trans (hc3.mono hb2.size)
   have hB3 := hB.trans (hb3.mono hB.size)
   clear a0 a1 a2 a3 a4 a5 a6 a7 a8 a9 HC2
   obtain ⟨a0, a1, a2, a3, a4, a5, a6, a7, a8, a9⟩ := cells10 (hX.below hb3)
   cases r3
   · have HF : Hid (R = false) := by show _ = _; rw [HR2.out]; simp
     clear HR2
     go_wp2_with fail
     go_ret
     exact ⟨by rw [HF.out]; rfl, hB3⟩
   go_wp2_with fail
   refine (HC4.out _ hb3).mono ?_
   rintro e w4 ⟨rfl, hc4⟩
   have hb4 := hb3.trans (hc4.mono hb3.size)
   have hB4 := hB.trans (hb4.mono hB.size)
   clear a0 a1 a2 a3 a4 a5 a6 a7 a8 a9 HC3 HC4
   cases r4
   · have HF : Hid (R = false) := by show _ = _; rw [HR2.out]; simp
     clear HR2
     go_wp2_with fail
     go_ret
     exact ⟨by rw [HF.out]; rfl, hB4⟩
   have HR5 : Hid (R = (List.range sn).all (shA x.2.1)) := by show _ = _; rw [HR2.out]; simp
   clear HR2
   go_wp2_with fail
   go_loopw [3] (fun i wr => ∃ k : Nat, k ≤ sn ∧ i = .int .i64 (k : Int) ∧ Below w4.heap.size w4 wr ∧ ∀ j, j < k → shA x.2.1 j = true) (fun i _ => sn - (intOf i).toNat)
   case atStart => exact ⟨0, Nat.zero_le _, rfl, Below.refl _ _, fun j hj => absurd hj (Nat.not_lt_zero _)⟩
   case round =>
    obtain ⟨k, hk, rfl, hb5, hno⟩ := hrel
    have HNO := Hid.mk' hno
    have hb := hb4.trans (hb5.mono hb4.size)
    have hBw := hB.trans (hb.mono hB.size)
    obtain ⟨a0, a1, a2, a3, a4, a5, a6, a7, a8, a9⟩ := cells10 (hX.below hb)
    clear hno
    by_cases hlt : k < sn
    · have hki : (k : Int) < (sn : Int) := by omega
      have hkl : k < x.2.1.length := by have := HSL.out; omega
      obtain ⟨b, off, hsa⟩ := cos.slg_some hS (by omega)
      subst hsa
      obtain ⟨rla, rln, rlc, rma, rmn, rmc, rha, rhn, rhc, s0, s1, s2, s3, s4, hsee⟩ := shard_at (hS.below hb) k hkl
      have HV : Hid (shA x.2.1 k = (decide (x.2.1[k].1 = (k : Int)) && recs.shardOk x.2.1[k])) := shA_at hkl
      have HP : Hid ((shA x.2.1 k = false → R = false) ∧ (shA x.2.1 k = true → ∀ j, j < k + 1 → shA x.2.1 j = true)) := ⟨fun e => by rw [HR5.out, range_miss hlt e], upto_next HNO.out⟩
      have HSO := Hid.mk' (recs.spec_shardOk rla rln rlc rma rmn rmc rha rhn rhc x.2.1[k] wr hsee (HFW.out _ (List.getElem_mem hkl)).1)
      generalize shA x.2.1 k = hv at *
      generalize x.2.1[k] = s at *
      generalize recs.shardOk s = r at *
      clear hsee
      by_cases e : s.1 = (k : Int)
      · have d1 : (s.1 != (k : Int)) = false := by simp [e]
        cases r
        · have HF := Hid.mk' (HP.out.1 (by rw [HV.out]; simp))
          clear HP HV e
          go_wp2_with fail
          refine HSO.out.mono ?_
          rintro e w9 ⟨rfl, hb9⟩
          clear a0 a1 a2 a3 a4 a5 a6 a7 a8 a9 s0 s1 s2 s3 s4 HSO
          go_wp2_with fail
          go_ret
          exact ⟨by rw [HF.out]; rfl, hBw.trans (hb9.mono hBw.size)⟩
        · have HF := Hid.mk' (HP.out.2 (by rw [HV.out]; simp [e]))
          clear HP HV e
          go_wp2_with fail
          refine HSO.out.mono ?_
          rintro e w9 ⟨rfl, hb9⟩
          clear a0 a1 a2 a3 a4 a5 a6 a7 a8 a9 s0 s1 s2 s3 s4 HSO
          go_wp2_with fail
          go_roundw
          case rel => exact ⟨k + 1, by omega, by go_num, hb5.trans (hb9.mono hb5.size), HF.out⟩
          case measure => simp [intOf]; omega
      · have d1 : (s.1 != (k : Int)) = true := by simp [e]
        have HF := Hid.mk' (HP.out.1 (by rw [HV.out]; simp [e]))
        clear HP HV e
        go_wp2_with fail
        go_ret
        exact ⟨by rw [HF.out]; rfl, hBw⟩
    · have hki : ¬ (k : Int) < (sn : Int) := by omega
      have HF : Hid (R = true) := by show _ = _; rw [HR5.out, range_every (fun j hj => HNO.out j (by omega))]
      go_wp2_with fail
      go_ret
      exact ⟨by rw [HF.out]; rfl, hBw⟩
 · have dN : ((sn : Int) != x.1.1) = true := by simp [eN]
   have HF : Hid (R = false) := by show _ = _; rw [HR.out]; simp [eN]
   clear HR eN
   go_wp2_with fail
   go_ret
   exact ⟨by rw [HF.out]; rfl, hB1⟩
end wos
end Go.Proofs.YtijplooogplccaaGreat
