/- The program's turning of a block. -/
import Derived.Test.YtmdhkoiimffmlaaDoorShaC
import Derived.Test.YtmdhkoiimffmlaaDoorShaO
import Derived.Test.YtmdhkoiimffmlaaDoorLast
namespace Go.Proofs.YtmdhkoiimffmlaaDoor.sha
open Go.RowKit Go.Proofs.YtmdhkoiimffmlaaDoor.base Go.Proofs.YtmdhkoiimffmlaaDoor.padmath
set_option linter.unusedVariables false
set_option linter.unusedSimpArgs false

theorem Arr.drewN {w : World} {g : Nat} {t : TypeId} {l : List Nat} (h : Arr w g t l) (n : Nat) : Arr (w.drewN n) g t l := h
theorem addAll_comm (a b : List Nat) : addAll a b = addAll b a := by
  unfold addAll; apply List.map_congr_left; intro i _; rw [Nat.add_comm]
theorem chU (e f g : Nat) (he : e < 4294967296) (hf : f < 4294967296) (hg : g < 4294967296) :
    bits .xor .u32 (bits .and .u32 (e : Int) (f : Int)) (bits .and .u32 (bits .xor .u32 IntKind.u32.max (e : Int)) (g : Int)) = (ch e f g : Int) := by
  rw [show IntKind.u32.max = ((4294967295 : Nat) : Int) from rfl, u32_xor_nat 4294967295 e (by omega) he, u32_and_nat e f he hf,
    u32_and_nat _ g (xor32 (a := 4294967295) (b := e) (by omega) he) hg, u32_xor_nat _ _ (and32 he) (and32' hg)]
  rfl
theorem majU (a b c : Nat) (ha : a < 4294967296) (hb : b < 4294967296) (hc : c < 4294967296) :
    bits .xor .u32 (bits .xor .u32 (bits .and .u32 (a : Int) (b : Int)) (bits .and .u32 (a : Int) (c : Int))) (bits .and .u32 (b : Int) (c : Int)) = (maj a b c : Int) := by
  rw [u32_and_nat a b ha hb, u32_and_nat a c ha hc, u32_and_nat b c hb hc, u32_xor3 _ _ _ (and32 ha) (and32 ha) (and32 hb)]
  rfl

set_option maxRecDepth 100000 in
set_option maxHeartbeats 4000000 in
theorem impl_block (s0 s1 s2 s3 s4 s5 s6 s7 : Nat) (bs : List UInt8) (w : World) (hs : ∀ x ∈ [s0, s1, s2, s3, s4, s5, s6, s7], x < 4294967296) (hK : KW w) :
    Calls Tryd.prog 68 #[.agg #[.int .u32 (s0 : Int), .int .u32 (s1 : Int), .int .u32 (s2 : Int), .int .u32 (s3 : Int), .int .u32 (s4 : Int), .int .u32 (s5 : Int), .int .u32 (s6 : Int), .int .u32 (s7 : Int)], .agg #[.int .u32 (be32 bs 0 : Int), .int .u32 (be32 bs 1 : Int), .int .u32 (be32 bs 2 : Int), .int .u32 (be32 bs 3 : Int), .int .u32 (be32 bs 4 : Int), .int .u32 (be32 bs 5 : Int), .int .u32 (be32 bs 6 : Int), .int .u32 (be32 bs 7 : Int), .int .u32 (be32 bs 8 : Int), .int .u32 (be32 bs 9 : Int), .int .u32 (be32 bs 10 : Int), .int .u32 (be32 bs 11 : Int), .int .u32 (be32 bs 12 : Int), .int .u32 (be32 bs 13 : Int), .int .u32 (be32 bs 14 : Int), .int .u32 (be32 bs 15 : Int)]] w fun e w' =>
      ∃ y0 y1 y2 y3 y4 y5 y6 y7 : Nat, e = .returned (.agg #[.int .u32 (y0 : Int), .int .u32 (y1 : Int), .int .u32 (y2 : Int), .int .u32 (y3 : Int), .int .u32 (y4 : Int), .int .u32 (y5 : Int), .int .u32 (y6 : Int), .int .u32 (y7 : Int)]) ∧ [y0, y1, y2, y3, y4, y5, y6, y7] = block K64 [s0, s1, s2, s3, s4, s5, s6, s7] bs ∧ Below w.heap.size w w' := by
  have hA0 : Arr (w.alloc (.cells #[.int .u32 (s0 : Int), .int .u32 (s1 : Int), .int .u32 (s2 : Int), .int .u32 (s3 : Int), .int .u32 (s4 : Int), .int .u32 (s5 : Int), .int .u32 (s6 : Int), .int .u32 (s7 : Int)] 85)) w.heap.size 85 [s0, s1, s2, s3, s4, s5, s6, s7] := arr_new _ _ _ rfl rfl
  have hA1 : Arr ((w.alloc (.cells #[.int .u32 (s0 : Int), .int .u32 (s1 : Int), .int .u32 (s2 : Int), .int .u32 (s3 : Int), .int .u32 (s4 : Int), .int .u32 (s5 : Int), .int .u32 (s6 : Int), .int .u32 (s7 : Int)] 85)).alloc (.cells #[.int .u32 (be32 bs 0 : Int), .int .u32 (be32 bs 1 : Int), .int .u32 (be32 bs 2 : Int), .int .u32 (be32 bs 3 : Int), .int .u32 (be32 bs 4 : Int), .int .u32 (be32 bs 5 : Int), .int .u32 (be32 bs 6 : Int), .int .u32 (be32 bs 7 : Int), .int .u32 (be32 bs 8 : Int), .int .u32 (be32 bs 9 : Int), .int .u32 (be32 bs 10 : Int), .int .u32 (be32 bs 11 : Int), .int .u32 (be32 bs 12 : Int), .int .u32 (be32 bs 13 : Int), .int .u32 (be32 bs 14 : Int), .int .u32 (be32 bs 15 : Int)] 88)) (w.heap.size + 1) 88 ((List.range 16).map (be32 bs)) := arr_new _ _ _ (by simp) rfl
  have HA1 := Hid.mk' (hA1.below ((Below.refl _ _).alloc (Nat.le_refl _) (.cells #[.int .u32 0, .int .u32 0, .int .u32 0, .int .u32 0, .int .u32 0, .int .u32 0, .int .u32 0, .int .u32 0] 85)))
  have HA2 := Hid.mk' ((hA0.below ((Below.refl _ _).alloc (Nat.le_refl _) (.cells #[.int .u32 (be32 bs 0 : Int), .int .u32 (be32 bs 1 : Int), .int .u32 (be32 bs 2 : Int), .int .u32 (be32 bs 3 : Int), .int .u32 (be32 bs 4 : Int), .int .u32 (be32 bs 5 : Int), .int .u32 (be32 bs 6 : Int), .int .u32 (be32 bs 7 : Int), .int .u32 (be32 bs 8 : Int), .int .u32 (be32 bs 9 : Int), .int .u32 (be32 bs 10 : Int), .int .u32 (be32 bs 11 : Int), .int .u32 (be32 bs 12 : Int), .int .u32 (be32 bs 13 : Int), .int .u32 (be32 bs 14 : Int), .int .u32 (be32 bs 15 : Int)] 88))).below ((Below.refl _ _).alloc (Nat.le_refl _) (.cells #[.int .u32 0, .int .u32 0, .int .u32 0, .int .u32 0, .int .u32 0, .int .u32 0, .int .u32 0, .int .u32 0] 85)))
  have HA3 : Hid (Arr (((w.alloc (.cells #[.int .u32 (s0 : Int), .int .u32 (s1 : Int), .int .u32 (s2 : Int), .int .u32 (s3 : Int), .int .u32 (s4 : Int), .int .u32 (s5 : Int), .int .u32 (s6 : Int), .int .u32 (s7 : Int)] 85)).alloc (.cells #[.int .u32 (be32 bs 0 : Int), .int .u32 (be32 bs 1 : Int), .int .u32 (be32 bs 2 : Int), .int .u32 (be32 bs 3 : Int), .int .u32 (be32 bs 4 : Int), .int .u32 (be32 bs 5 : Int), .int .u32 (be32 bs 6 : Int), .int .u32 (be32 bs 7 : Int), .int .u32 (be32 bs 8 : Int), .int .u32 (be32 bs 9 : Int), .int .u32 (be32 bs 10 : Int), .int .u32 (be32 bs 11 : Int), .int .u32 (be32 bs 12 : Int), .int .u32 (be32 bs 13 : Int), .int .u32 (be32 bs 14 : Int), .int .u32 (be32 bs 15 : Int)] 88)).alloc (.cells #[.int .u32 0, .int .u32 0, .int .u32 0, .int .u32 0, .int .u32 0, .int .u32 0, .int .u32 0, .int .u32 0] 85)) (w.heap.size + 1 + 1) 85 [0, 0, 0, 0, 0, 0, 0, 0]) := arr_new _ _ _ (by simp) rfl
  clear hA0 hA1
  go_enter Tryd.func68, Tryd.ntmps68
  go_wp2_with fail
  go_quiet (fail)
  go_wp2_with fail
  go_quiet (fail)
  go_wp2_with fail
  go_loopw [5, 6, 7, 8, 9, 10, 11, 12, 35] (fun a0 a1 a2 a3 a4 a5 a6 a7 iv wr => ∃ (r x0 x1 x2 x3 x4 x5 x6 x7 : Nat), r ≤ 64 ∧ iv = .int .i64 (r : Int) ∧ a0 = .int .u32 (x0 : Int) ∧ a1 = .int .u32 (x1 : Int) ∧ a2 = .int .u32 (x2 : Int) ∧ a3 = .int .u32 (x3 : Int) ∧ a4 = .int .u32 (x4 : Int) ∧ a5 = .int .u32 (x5 : Int) ∧ a6 = .int .u32 (x6 : Int) ∧ a7 = .int .u32 (x7 : Int) ∧ [x0, x1, x2, x3, x4, x5, x6, x7] = rounds K64 (ws bs 64) [s0, s1, s2, s3, s4, s5, s6, s7] r ∧ Arr wr (w.heap.size + 1) 88 (cyc bs r) ∧ Arr wr w.heap.size 85 [s0, s1, s2, s3, s4, s5, s6, s7] ∧ Arr wr (w.heap.size + 1 + 1) 85 [0, 0, 0, 0, 0, 0, 0, 0] ∧ Below w.heap.size w wr) (fun _ _ _ _ _ _ _ _ iv _ => 64 - (intOf iv).toNat)
  case atStart =>
    refine ⟨0, s0, s1, s2, s3, s4, s5, s6, s7, Nat.zero_le _, rfl, rfl, rfl, rfl, rfl, rfl, rfl, rfl, rfl, rfl, ?_, ?_, ?_, ?_⟩
    · rw [cyc_zero]
      exact (HA1.out.drewN _).drewN _
    · exact (HA2.out.drewN _).drewN _
    · exact (HA3.out.drewN _).drewN _
    · exact below_drewN (below_drewN ((((Below.refl _ _).alloc (Nat.le_refl _) _).alloc (by simp) _).alloc (by simp; omega) _) _) _
  case round =>
    clear HA1 HA2 HA3
    obtain ⟨r, x0, x1, x2, x3, x4, x5, x6, x7, hr, rfl, rfl, rfl, rfl, rfl, rfl, rfl, rfl, rfl, hX, hW, hS, hZ, hB⟩ := hrel
    have hall : ∀ x ∈ [x0, x1, x2, x3, x4, x5, x6, x7], x < 4294967296 := by rw [hX]; exact rounds_lt _ _ _ _ hs
    have u0 := hall x0 (by simp)
    have u1 := hall x1 (by simp)
    have u2 := hall x2 (by simp)
    have u3 := hall x3 (by simp)
    have u4 := hall x4 (by simp)
    have u5 := hall x5 (by simp)
    have u6 := hall x6 (by simp)
    have u7 := hall x7 (by simp)
    clear hall
    by_cases hlt : r < 64
    · have HN : Hid (rounds K64 (ws bs 64) [s0, s1, s2, s3, s4, s5, s6, s7] (r + 1) = rnd [x0, x1, x2, x3, x4, x5, x6, x7] (K64.getD r 0 + (ws bs 64).getD r 0)) := by
        show _ = _; rw [rounds, hX]
      clear hX
      have bk : K64.getD r 0 < 4294967296 := getD_lt (by decide) r
      have bw := getD_lt (ws_lt bs 64) r
      have ck := hK.below hB r hlt
      obtain ⟨q, hq, hqi⟩ : ∃ q : Nat, r % 16 = q ∧ (r : Int) % 16 = (q : Int) := ⟨_, rfl, by omega⟩
      have hq16 : (q : Int) < 16 := by omega
      have hr64 : (r : Int) < 64 := by omega
      by_cases h16 : r < 16
      · have cw := hW.at q (by rw [cyc_length]; omega)
        rw [← hq, cyc_at bs r h16, hq] at cw
        have HL : Hid (cyc bs (r + 1) = cyc bs r) := cyc_low bs r h16
        generalize K64.getD r 0 = xk at *
        generalize (ws bs 64).getD r 0 = xw at *
        go_wp2_with fail
        go_quiet ((go_at_call 88; exact Calls.quiet_of_same (impl_bsig1 x4 _ u4)))
        go_wp2_with fail
        refine (impl_bsig0 x0 _ u0).mono ?_
        rintro e w4 ⟨rfl, hw4⟩
        subst hw4
        go_wp2_with fail
        go_roundw
        case rel =>
          rw [chU x4 x5 x6 u4 u5 u6, majU x0 x1 x2 u0 u1 u2]
          have l1 := bsig1_lt x4 u4
          have l0 := bsig0_lt x0 u0
          have lc := ch_lt x4 x5 x6 u4 u6
          have lm := maj_lt x0 x1 x2 u0 u1
          refine ⟨r + 1, (x7 + bsig1 x4 + ch x4 x5 x6 + (xk + xw) + (bsig0 x0 + maj x0 x1 x2)) % 4294967296, x0, x1, x2, (x3 + (x7 + bsig1 x4 + ch x4 x5 x6 + (xk + xw))) % 4294967296, x4, x5, x6, by omega, by go_num, val_int (by omega), rfl, rfl, rfl, val_int (by omega), rfl, rfl, rfl, ?_, ?_, ?_, ?_, ?_⟩
          · rw [HN.out]; rfl
          · rw [HL.out]; exact hW
          · exact hS
          · exact hZ
          · exact below_drewN hB _
        case measure => simp [intOf]; omega
      · have hk1 := cyc_16 bs r (by omega)
        have hk2 := cyc_7 bs r (by omega)
        have hk3 := cyc_15 bs r (by omega)
        have hk4 := cyc_2 bs r (by omega)
        have hst := cyc_set bs r (by omega)
        have hnw := ws_high bs r (by omega) hlt
        have b16 := getD_lt (ws_lt bs 64) (r - 16)
        have b15 := getD_lt (ws_lt bs 64) (r - 15)
        have b7 := getD_lt (ws_lt bs 64) (r - 7)
        have b2 := getD_lt (ws_lt bs 64) (r - 2)
        obtain ⟨q9, hq9, hq9i⟩ : ∃ q : Nat, (r + 9) % 16 = q ∧ ((r : Int) + 9).tmod 16 = (q : Int) := ⟨_, rfl, by rw [Int.tmod_eq_emod_of_nonneg (by omega)]; omega⟩
        obtain ⟨q1, hq1, hq1i⟩ : ∃ q : Nat, (r + 1) % 16 = q ∧ ((r : Int) + 1).tmod 16 = (q : Int) := ⟨_, rfl, by rw [Int.tmod_eq_emod_of_nonneg (by omega)]; omega⟩
        obtain ⟨q14, hq14, hq14i⟩ : ∃ q : Nat, (r + 14) % 16 = q ∧ ((r : Int) + 14).tmod 16 = (q : Int) := ⟨_, rfl, by rw [Int.tmod_eq_emod_of_nonneg (by omega)]; omega⟩
        have p9 : (q9 : Int) < 16 := by omega
        have p1 : (q1 : Int) < 16 := by omega
        have p14 : (q14 : Int) < 16 := by omega
        have e9 : IntKind.i64.wrap ((r : Int) + 9) = (r : Int) + 9 := by rw [IntKind.wrap_i64]; omega
        have e1 : IntKind.i64.wrap ((r : Int) + 1) = (r : Int) + 1 := by rw [IntKind.wrap_i64]; omega
        have e14 : IntKind.i64.wrap ((r : Int) + 14) = (r : Int) + 14 := by rw [IntKind.wrap_i64]; omega
        have d9 : ¬ q9 = q := by omega
        have d1 : ¬ q1 = q := by omega
        have d14 : ¬ q14 = q := by omega
        have d9' : ¬ q = q9 := by omega
        have d1' : ¬ q = q1 := by omega
        have d14' : ¬ q = q14 := by omega
        have c16 := hW.at q (by rw [cyc_length]; omega)
        have c7 := hW.at q9 (by rw [cyc_length]; omega)
        have c15 := hW.at q1 (by rw [cyc_length]; omega)
        have c2 := hW.at q14 (by rw [cyc_length]; omega)
        have cf := hW.frozen q
        rw [hq] at hk1 hst
        rw [hq9] at hk2
        rw [hq1] at hk3
        rw [hq14] at hk4
        rw [hk1] at c16
        rw [hk2] at c7
        rw [hk3] at c15
        rw [hk4] at c2
        have hWn := hW.set q ((ws bs 64).getD r 0)
        rw [hst] at hWn
        have HWN := Hid.mk' hWn
        have HNW := Hid.mk' hnw
        clear hk1 hk2 hk3 hk4 hst hnw hWn hq9 hq1 hq14 hq
        generalize K64.getD r 0 = xk at *
        generalize (ws bs 64).getD r 0 = xw at *
        generalize (ws bs 64).getD (r - 16) 0 = y16 at *
        generalize (ws bs 64).getD (r - 15) 0 = y15 at *
        generalize (ws bs 64).getD (r - 7) 0 = y7 at *
        generalize (ws bs 64).getD (r - 2) 0 = y2 at *
        go_wp2_with fail
        refine last.wp_region_last_lit 24 _ rfl (by kernel_rfl) (by kernel_rfl) (by kernel_rfl) ?_
        show wpQuiet _ _ _ _ [_, _, _, _, _, _, _, _, _, _, _, _, _, _, _, _, _, _, _, _, _, _, _, _] _
        repeat (go_big_quiet_step ((first | (go_at_call 86; exact Calls.quiet_of_same (impl_sig0 y15 _ b15)) | (go_at_call 87; exact Calls.quiet_of_same (impl_sig1 y2 _ b2)))))
        refine wpQuiet_nil ?_
        intro w5 hw5
        obtain ⟨nq, hw5⟩ := hw5
        subst hw5
        have hv : ((y16 : Int) + ((y7 : Int) + (ssig0 y15 : Int) + (ssig1 y2 : Int))) % 4294967296 = (xw : Int) := by rw [HNW.out]; omega
        have hW5 : Arr ((wr.drewN nq).setCell ⟨w.heap.size + 1, q, none⟩ (.int .u32 (xw : Int))) (w.heap.size + 1) 88 (cyc bs (r + 1)) := HWN.out.1
        have hg5 : wr.grownBy ((wr.drewN nq).setCell ⟨w.heap.size + 1, q, none⟩ (.int .u32 (xw : Int))) (some (w.heap.size + 1)) := ⟨HWN.out.2.os, HWN.out.2.tape, HWN.out.2.output, HWN.out.2.size, HWN.out.2.block⟩
        have hS5 := hS.grown hg5 (by simp)
        have hZ5 := hZ.grown hg5 (by simp)
        have hB5 := hB.trans (below_grown hg5 (by omega) hB.size)
        have hbz : ¬ (0 : Nat) = w.heap.size + 1 := by omega
        have ck5 := hg5.cell ck (by simp)
        have cw5 : ((wr.drewN nq).setCell ⟨w.heap.size + 1, q, none⟩ (.int .u32 (xw : Int))).cell? ⟨w.heap.size + 1, q, none⟩ = some (.int .u32 (xw : Int)) := World.cell?_setCell_same _ _ _ c16
        have HV := Hid.mk' hv
        clear hv
        go_wp2_with fail
        rw [HV.out]
        generalize (wr.drewN nq).setCell ⟨w.heap.size + 1, q, none⟩ (.int .u32 (xw : Int)) = w5 at *
        clear HV HWN HNW hg5 ck c16 c7 c15 c2 cf hW hS hZ hB e9 e1 e14 hq9i hq1i hq14i p9 p1 p14
        go_quiet ((go_at_call 88; exact Calls.quiet_of_same (impl_bsig1 x4 _ u4)))
        go_wp2_with fail
        refine (impl_bsig0 x0 _ u0).mono ?_
        rintro e w4 ⟨rfl, hw4⟩
        subst hw4
        go_wp2_with fail
        go_roundw
        case rel =>
          rw [chU x4 x5 x6 u4 u5 u6, majU x0 x1 x2 u0 u1 u2]
          have l1 := bsig1_lt x4 u4
          have l0 := bsig0_lt x0 u0
          have lc := ch_lt x4 x5 x6 u4 u6
          have lm := maj_lt x0 x1 x2 u0 u1
          refine ⟨r + 1, (x7 + bsig1 x4 + ch x4 x5 x6 + (xk + xw) + (bsig0 x0 + maj x0 x1 x2)) % 4294967296, x0, x1, x2, (x3 + (x7 + bsig1 x4 + ch x4 x5 x6 + (xk + xw))) % 4294967296, x4, x5, x6, by omega, by go_num, val_int (by omega), rfl, rfl, rfl, val_int (by omega), rfl, rfl, rfl, ?_, ?_, ?_, ?_, ?_⟩
          · rw [HN.out]; rfl
          · exact hW5
          · exact hS5
          · exact hZ5
          · exact below_drewN hB5 _
        case measure => simp [intOf]; omega
    · have HE : Hid (r = 64) := by show _ = _; omega
      have HX : Hid ([x0, x1, x2, x3, x4, x5, x6, x7] = rounds K64 (ws bs 64) [s0, s1, s2, s3, s4, s5, s6, s7] 64) := by show _ = _; rw [hX, HE.out]
      have hix := fun k hk wx => aggIndex x0 x1 x2 x3 x4 x5 x6 x7 k hk wx
      have hall : ∀ x ∈ [x0, x1, x2, x3, x4, x5, x6, x7], x < 4294967296 := by rw [hX]; exact rounds_lt _ _ _ _ hs
      clear hW hX hK
      rename World => wp
      go_wp2_with fail
      go_loopw [123] (fun iv wr => ∃ k : Nat, k ≤ 8 ∧ iv = .int .i64 (k : Int) ∧ Arr wr w.heap.size 85 (addTo [s0, s1, s2, s3, s4, s5, s6, s7] [x0, x1, x2, x3, x4, x5, x6, x7] k) ∧ Arr wr (w.heap.size + 1 + 1) 85 [0, 0, 0, 0, 0, 0, 0, 0] ∧ Below w.heap.size w wr) (fun iv _ => 8 - (intOf iv).toNat)
      case atStart => exact ⟨0, Nat.zero_le _, rfl, by rw [addTo_zero _ _ rfl]; exact hS, hZ, hB⟩
      case round =>
        clear hS hZ hB
        obtain ⟨k, hk, rfl, hS, hZ, hB⟩ := hrel
        by_cases hlt8 : k < 8
        · have hx := fun wx => hix k hlt8 wx
          have c0 := hS.at k (by rw [addTo_length]; exact hlt8)
          rw [addTo_getD _ _ _ hlt8] at c0
          have cf := hS.frozen k
          have hst := hS.set k (([s0, s1, s2, s3, s4, s5, s6, s7].getD k 0 + [x0, x1, x2, x3, x4, x5, x6, x7].getD k 0) % 4294967296)
          rw [addTo_succ _ _ _ hlt8] at hst
          have ha := getD_lt hs k
          have hb := getD_lt hall k
          generalize [s0, s1, s2, s3, s4, s5, s6, s7].getD k 0 = xa at *
          generalize [x0, x1, x2, x3, x4, x5, x6, x7].getD k 0 = xb at *
          have Hst := Hid.mk' hst
          have HE2 : Hid (((xa : Int) + (xb : Int)) % 4294967296 = (((xa + xb) % 4294967296 : Nat) : Int)) := by show _ = _; omega
          clear hst hix
          go_wp2_with fail
          go_roundw
          case rel =>
            rw [HE2.out]
            exact ⟨k + 1, by omega, by go_num, Hst.out.1, hZ.grown Hst.out.2 (fun e => by simp only [Option.some.injEq] at e; omega), hB.trans (below_grown Hst.out.2 (Nat.le_refl _) hB.size)⟩
          case measure => simp [intOf]; omega
        · have HE2 : Hid (k = 8) := by show _ = _; omega
          obtain ⟨y0, y1, y2, y3, y4, y5, y6, y7, hY⟩ : ∃ y0 y1 y2 y3 y4 y5 y6 y7 : Nat, addTo [s0, s1, s2, s3, s4, s5, s6, s7] [x0, x1, x2, x3, x4, x5, x6, x7] 8 = [y0, y1, y2, y3, y4, y5, y6, y7] := ⟨_, _, _, _, _, _, _, _, rfl⟩
          have hS' : Arr wr w.heap.size 85 [y0, y1, y2, y3, y4, y5, y6, y7] := by rw [← hY, ← HE2.out]; exact hS
          have HB : Hid ([y0, y1, y2, y3, y4, y5, y6, y7] = block K64 [s0, s1, s2, s3, s4, s5, s6, s7] bs) := by
            show _ = _
            rw [← hY, addTo_eight, HX.out, block, addAll_comm]
          obtain ⟨a0, a1, a2, a3, a4, a5, a6, a7⟩ := hS'.eight
          obtain ⟨r0, r1, r2, r3, r4, r5, r6, r7⟩ := hZ.eight
          have hfz := hZ.frozen
          have hBz := ((((((((hB.setCell (p := ⟨w.heap.size + 1 + 1, 0, none⟩) (by show w.heap.size ≤ w.heap.size + 1 + 1; omega) (.int .u32 (y0 : Int))).setCell (p := ⟨w.heap.size + 1 + 1, 1, none⟩) (by show w.heap.size ≤ w.heap.size + 1 + 1; omega) (.int .u32 (y1 : Int))).setCell (p := ⟨w.heap.size + 1 + 1, 2, none⟩) (by show w.heap.size ≤ w.heap.size + 1 + 1; omega) (.int .u32 (y2 : Int))).setCell (p := ⟨w.heap.size + 1 + 1, 3, none⟩) (by show w.heap.size ≤ w.heap.size + 1 + 1; omega) (.int .u32 (y3 : Int))).setCell (p := ⟨w.heap.size + 1 + 1, 4, none⟩) (by show w.heap.size ≤ w.heap.size + 1 + 1; omega) (.int .u32 (y4 : Int))).setCell (p := ⟨w.heap.size + 1 + 1, 5, none⟩) (by show w.heap.size ≤ w.heap.size + 1 + 1; omega) (.int .u32 (y5 : Int))).setCell (p := ⟨w.heap.size + 1 + 1, 6, none⟩) (by show w.heap.size ≤ w.heap.size + 1 + 1; omega) (.int .u32 (y6 : Int))).setCell (p := ⟨w.heap.size + 1 + 1, 7, none⟩) (by show w.heap.size ≤ w.heap.size + 1 + 1; omega) (.int .u32 (y7 : Int)))
          clear hS hS' hZ hY hix HX
          go_wp2_with fail
          refine bodyPost_ret (v := .agg #[.int .u32 (y0 : Int), .int .u32 (y1 : Int), .int .u32 (y2 : Int), .int .u32 (y3 : Int), .int .u32 (y4 : Int), .int .u32 (y5 : Int), .int .u32 (y6 : Int), .int .u32 (y7 : Int)]) ?h1 rfl ⟨y0, y1, y2, y3, y4, y5, y6, y7, rfl, HB.out, hBz⟩
          simp [results, Tryd.results68, go_sem, r0, r1, r2, r3, r4, r5, r6, r7]

end Go.Proofs.YtmdhkoiimffmlaaDoor.sha
