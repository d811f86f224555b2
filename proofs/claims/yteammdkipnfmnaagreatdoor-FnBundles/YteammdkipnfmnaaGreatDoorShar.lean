/- The program's turning of a block. The program's Padded. The program's digest. -/
import Derived.Test.YteammdkipnfmnaaGreatDoorShaq
import Derived.Test.YteammdkipnfmnaaGreatDoorShac
import Derived.Test.YteammdkipnfmnaaGreatDoorShaa
import Derived.Deep.RegionWith
namespace Go.Proofs.YteammdkipnfmnaaGreatDoor.sha
open Go.RowKit Go.Proofs.YteammdkipnfmnaaGreatDoor.base Go.Proofs.YteammdkipnfmnaaGreatDoor.padmath
set_option linter.unusedVariables false
set_option linter.unusedSimpArgs false

theorem Arr.drewN {w : World} {g : Nat} {t : TypeId} {l : List Nat} (h : Arr w g t l) (n : Nat) : Arr (w.drewN n) g t l := h
theorem addAll_comm (a b : List Nat) : addAll a b = addAll b a := by
  unfold addAll; apply List.map_congr_left; intro i _; rw [Nat.add_comm]
theorem chU (e f g : Nat) (he : e < 4294967296) (hf : f < 4294967296) (hg : g < 4294967296) :
    bits .xor .u32 (bits .and .u32 (e : Int) (f : Int)) (bits .and .u32 (bits .xor .u32 IntKind.u32.max (e : Int)) (g : Int)) = (ch e f g : Int) := by
  rw [show IntKind.u32.max = ((4294967295 : Nat) : Int) from rfl, u32_xor_nat 4294967295 e (by omega) he, u32_and_nat e f he hf,
    u32_and_nat _ g (xor32 (a := 4294967295) (b := e) (by omega) he) hg, u32_xor_nat _ _ (and32 he) (and32' hg)]
  rfl
theorem majU (a b c : Nat) (ha : a < 4294967296) (hb : b < 4294967296) (hc : c < 4294967296) :
    bits .xor .u32 (bits .xor .u32 (bits .and .u32 (a : Int) (b : Int)) (bits .and .u32 (a : Int) (c : Int))) (bits .and .u32 (b : Int) (c : Int)) = (maj a b c : Int) := by
  rw [u32_and_nat a b ha hb, u32_and_nat a c ha hc, u32_and_nat b c hb hc, u32_xor3 _ _ _ (and32 ha) (and32 ha) (and32 hb)]
  rfl

set_option maxRecDepth 100000 in
set_option maxHeartbeats 4000000 in
theorem impl_block (s0 s1 s2 s3 s4 s5 s6 s7 : Nat) (bs : List UInt8) (w : World) (hs : ∀ x ∈ [s0, s1, s2, s3, s4, s5, s6, s7], x < 4294967296) (hK : KW w) :
    Calls Tryz.prog 74 #[.agg #[.int .u32 (s0 : Int), .int .u32 (s1 : Int), .int .u32 (s2 : Int), .int .u32 (s3 : Int), .int .u32 (s4 : Int), .int .u32 (s5 : Int), .int .u32 (s6 : Int), .int .u32 (s7 : Int)], .agg #[.int .u32 (be32 bs 0 : Int), .int .u32 (be32 bs 1 : Int), .int .u32 (be32 bs 2 : Int), .int .u32 (be32 bs 3 : Int), .int .u32 (be32 bs 4 : Int), .int .u32 (be32 bs 5 : Int), .int .u32 (be32 bs 6 : Int), .int .u32 (be32 bs 7 : Int), .int .u32 (be32 bs 8 : Int), .int .u32 (be32 bs 9 : Int), .int .u32 (be32 bs 10 : Int), .int .u32 (be32 bs 11 : Int), .int .u32 (be32 bs 12 : Int), .int .u32 (be32 bs 13 : Int), .int .u32 (be32 bs 14 : Int), .int .u32 (be32 bs 15 : Int)]] w fun e w' =>
      ∃ y0 y1 y2 y3 y4 y5 y6 y7 : Nat, e = .returned (.agg #[.int .u32 (y0 : Int), .int .u32 (y1 : Int), .int .u32 (y2 : Int), .int .u32 (y3 : Int), .int .u32 (y4 : Int), .int .u32 (y5 : Int), .int .u32 (y6 : Int), .int .u32 (y7 : Int)]) ∧ [y0, y1, y2, y3, y4, y5, y6, y7] = block K64 [s0, s1, s2, s3, s4, s5, s6, s7] bs ∧ Below w.heap.size w w' := by
  have hA0 : Arr (w.alloc (.cells #[.int .u32 (s0 : Int), .int .u32 (s1 : Int), .int .u32 (s2 : Int), .int .u32 (s3 : Int), .int .u32 (s4 : Int), .int .u32 (s5 : Int), .int .u32 (s6 : Int), .int .u32 (s7 : Int)] 110)) w.heap.size 110 [s0, s1, s2, s3, s4, s5, s6, s7] := arr_new _ _ _ rfl rfl
  have hA1 : Arr ((w.alloc (.cells #[.int .u32 (s0 : Int), .int .u32 (s1 : Int), .int .u32 (s2 : Int), .int .u32 (s3 : Int), .int .u32 (s4 : Int), .int .u32 (s5 : Int), .int .u32 (s6 : Int), .int .u32 (s7 : Int)] 110)).alloc (.cells #[.int .u32 (be32 bs 0 : Int), .int .u32 (be32 bs 1 : Int), .int .u32 (be32 bs 2 : Int), .int .u32 (be32 bs 3 : Int), .int .u32 (be32 bs 4 : Int), .int .u32 (be32 bs 5 : Int), .int .u32 (be32 bs 6 : Int), .int .u32 (be32 bs 7 : Int), .int .u32 (be32 bs 8 : Int), .int .u32 (be32 bs 9 : Int), .int .u32 (be32 bs 10 : Int), .int .u32 (be32 bs 11 : Int), .int .u32 (be32 bs 12 : Int), .int .u32 (be32 bs 13 : Int), .int .u32 (be32 bs 14 : Int), .int .u32 (be32 bs 15 : Int)] 113)) (w.heap.size + 1) 113 ((List.range 16).map (be32 bs)) := arr_new _ _ _ (by simp) rfl
  have HA1 := Hid.mk' (hA1.below ((Below.refl _ _).alloc (Nat.le_refl _) (.cells #[.int .u32 0, .int .u32 0, .int .u32 0, .int .u32 0, .int .u32 0, .int .u32 0, .int .u32 0, .int .u32 0] 110)))
  have HA2 := Hid.mk' ((hA0.below ((Below.refl _ _).alloc (Nat.le_refl _) (.cells #[.int .u32 (be32 bs 0 : Int), .int .u32 (be32 bs 1 : Int), .int .u32 (be32 bs 2 : Int), .int .u32 (be32 bs 3 : Int), .int .u32 (be32 bs 4 : Int), .int .u32 (be32 bs 5 : Int), .int .u32 (be32 bs 6 : Int), .int .u32 (be32 bs 7 : Int), .int .u32 (be32 bs 8 : Int), .int .u32 (be32 bs 9 : Int), .int .u32 (be32 bs 10 : Int), .int .u32 (be32 bs 11 : Int), .int .u32 (be32 bs 12 : Int), .int .u32 (be32 bs 13 : Int), .int .u32 (be32 bs 14 : Int), .int .u32 (be32 bs 15 : Int)] 113))).below ((Below.refl _ _).alloc (Nat.le_refl _) (.cells #[.int .u32 0, .int .u32 0, .int .u32 0, .int .u32 0, .int .u32 0, .int .u32 0, .int .u32 0, .int .u32 0] 110)))
  have HA3 : Hid (Arr (((w.alloc (.cells #[.int .u32 (s0 : Int), .int .u32 (s1 : Int), .int .u32 (s2 : Int), .int .u32 (s3 : Int), .int .u32 (s4 : Int), .int .u32 (s5 : Int), .int .u32 (s6 : Int), .int .u32 (s7 : Int)] 110)).alloc (.cells #[.int .u32 (be32 bs 0 : Int), .int .u32 (be32 bs 1 : Int), .int .u32 (be32 bs 2 : Int), .int .u32 (be32 bs 3 : Int), .int .u32 (be32 bs 4 : Int), .int .u32 (be32 bs 5 : Int), .int .u32 (be32 bs 6 : Int), .int .u32 (be32 bs 7 : Int), .int .u32 (be32 bs 8 : Int), .int .u32 (be32 bs 9 : Int), .int .u32 (be32 bs 10 : Int), .int .u32 (be32 bs 11 : Int), .int .u32 (be32 bs 12 : Int), .int .u32 (be32 bs 13 : Int), .int .u32 (be32 bs 14 : Int), .int .u32 (be32 bs 15 : Int)] 113)).alloc (.cells #[.int .u32 0, .int .u32 0, .int .u32 0, .int .u32 0, .int .u32 0, .int .u32 0, .int .u32 0, .int .u32 0] 110)) (w.heap.size + 1 + 1) 110 [0, 0, 0, 0, 0, 0, 0, 0]) := arr_new _ _ _ (by simp) rfl
  clear hA0 hA1
  go_enter Tryz.func74, Tryz.ntmps74
  go_wp2_with fail
  go_quiet (fail)
  go_wp2_with fail
  go_quiet (fail)
  go_wp2_with fail
  go_loopw [5, 6, 7, 8, 9, 10, 11, 12, 35] (fun a0 a1 a2 a3 a4 a5 a6 a7 iv wr => ∃ (r x0 x1 x2 x3 x4 x5 x6 x7 : Nat), r ≤ 64 ∧ iv = .int .i64 (r : Int) ∧ a0 = .int .u32 (x0 : Int) ∧ a1 = .int .u32 (x1 : Int) ∧ a2 = .int .u32 (x2 : Int) ∧ a3 = .int .u32 (x3 : Int) ∧ a4 = .int .u32 (x4 : Int) ∧ a5 = .int .u32 (x5 : Int) ∧ a6 = .int .u32 (x6 : Int) ∧ a7 = .int .u32 (x7 : Int) ∧ [x0, x1, x2, x3, x4, x5, x6, x7] = rounds K64 (ws bs 64) [s0, s1, s2, s3, s4, s5, s6, s7] r ∧ Arr wr (w.heap.size + 1) 113 (cyc bs r) ∧ Arr wr w.heap.size 110 [s0, s1, s2, s3, s4, s5, s6, s7] ∧ Arr wr (w.heap.size + 1 + 1) 110 [0, 0, 0, 0, 0, 0, 0, 0] ∧ Below w.heap.size w wr) (fun _ _ _ _ _ _ _ _ iv _ => 64 - (intOf iv).toNat)
  case atStart =>
    refine ⟨0, s0, s1, s2, s3, s4, s5, s6, s7, Nat.zero_le _, rfl, rfl, rfl, rfl, rfl, rfl, rfl, rfl, rfl, rfl, ?_, ?_, ?_, ?_⟩
    · rw [cyc_zero]
      exact (HA1.out.drewN _).drewN _
    · exact (HA2.out.drewN _).drewN _
    · exact (HA3.out.drewN _).drewN _
    · exact below_drewN (below_drewN ((((Below.refl _ _).alloc (Nat.le_refl _) _).alloc (by simp) _).alloc (by simp; omega) _) _) _
  case round =>
    clear HA1 HA2 HA3
    obtain ⟨r, x0, x1, x2, x3, x4, x5, x6, x7, hr, rfl, rfl, rfl, rfl, rfl, rfl, rfl, rfl, rfl, hX, hW, hS, hZ, hB⟩ := hrel
    have hall : ∀ x ∈ [x0, x1, x2, x3, x4, x5, x6, x7], x < 4294967296 := by rw [hX]; exact rounds_lt _ _ _ _ hs
    have u0 := hall x0 (by simp)
    have u1 := hall x1 (by simp)
    have u2 := hall x2 (by simp)
    have u3 := hall x3 (by simp)
    have u4 := hall x4 (by simp)
    have u5 := hall x5 (by simp)
    have u6 := hall x6 (by simp)
    have u7 := hall x7 (by simp)
    clear hall
    by_cases hlt : r < 64
    · have HN : Hid (rounds K64 (ws bs 64) [s0, s1, s2, s3, s4, s5, s6, s7] (r + 1) = rnd [x0, x1, x2, x3, x4, x5, x6, x7] (K64.getD r 0 + (ws bs 64).getD r 0)) := by
        show _ = _; rw [rounds, hX]
      clear hX
      have bk : K64.getD r 0 < 4294967296 := getD_lt (by decide) r
      have bw := getD_lt (ws_lt bs 64) r
      have ck := hK.below hB r hlt
      obtain ⟨q, hq, hqi⟩ : ∃ q : Nat, r % 16 = q ∧ (r : Int) % 16 = (q : Int) := ⟨_, rfl, by omega⟩
      have hq16 : (q : Int) < 16 := by omega
      have hr64 : (r : Int) < 64 := by omega
      by_cases h16 : r < 16
      · have cw := hW.at q (by rw [cyc_length]; omega)
        rw [← hq, cyc_at bs r h16, hq] at cw
        have HL : Hid (cyc bs (r + 1) = cyc bs r) := cyc_low bs r h16
        generalize K64.getD r 0 = xk at *
        generalize (ws bs 64).getD r 0 = xw at *
        go_wp2_with fail
        go_quiet ((go_at_call 111; exact Calls.quiet_of_same (impl_bsig1 x4 _ u4)))
        go_wp2_with fail
        refine (impl_bsig0 x0 _ u0).mono ?_
        rintro e w4 ⟨rfl, hw4⟩
        subst hw4
        go_wp2_with fail
        go_roundw
        case rel =>
          rw [chU x4 x5 x6 u4 u5 u6, majU x0 x1 x2 u0 u1 u2]
          have l1 := bsig1_lt x4 u4
          have l0 := bsig0_lt x0 u0
          have lc := ch_lt x4 x5 x6 u4 u6
          have lm := maj_lt x0 x1 x2 u0 u1
          refine ⟨r + 1, (x7 + bsig1 x4 + ch x4 x5 x6 + (xk + xw) + (bsig0 x0 + maj x0 x1 x2)) % 4294967296, x0, x1, x2, (x3 + (x7 + bsig1 x4 + ch x4 x5 x6 + (xk + xw))) % 4294967296, x4, x5, x6, by omega, by go_num, val_int (by omega), rfl, rfl, rfl, val_int (by omega), rfl, rfl, rfl, ?_, ?_, ?_, ?_, ?_⟩
          · rw [HN.out]; rfl
          · rw [HL.out]; exact hW
          · exact hS
          · exact hZ
          · exact below_drewN hB _
        case measure => simp [intOf]; omega
      · have hk1 := cyc_16 bs r (by omega)
        have hk2 := cyc_7 bs r (by omega)
        have hk3 := cyc_15 bs r (by omega)
        have hk4 := cyc_2 bs r (by omega)
        have hst := cyc_set bs r (by omega)
        have hnw := ws_high bs r (by omega) hlt
        have b16 := getD_lt (ws_lt bs 64) (r - 16)
        have b15 := getD_lt (ws_lt bs 64) (r - 15)
        have b7 := getD_lt (ws_lt bs 64) (r - 7)
        have b2 := getD_lt (ws_lt bs 64) (r - 2)
        obtain ⟨q9, hq9, hq9i⟩ : ∃ q : Nat, (r + 9) % 16 = q ∧ ((r : Int) + 9).tmod 16 = (q : Int) := ⟨_, rfl, by rw [Int.tmod_eq_emod_of_nonneg (by omega)]; omega⟩
        obtain ⟨q1, hq1, hq1i⟩ : ∃ q : Nat, (r + 1) % 16 = q ∧ ((r : Int) + 1).tmod 16 = (q : Int) := ⟨_, rfl, by rw [Int.tmod_eq_emod_of_nonneg (by omega)]; omega⟩
        obtain ⟨q14, hq14, hq14i⟩ : ∃ q : Nat, (r + 14) % 16 = q ∧ ((r : Int) + 14).tmod 16 = (q : Int) := ⟨_, rfl, by rw [Int.tmod_eq_emod_of_nonneg (by omega)]; omega⟩
        have p9 : (q9 : Int) < 16 := by omega
        have p1 : (q1 : Int) < 16 := by omega
        have p14 : (q14 : Int) < 16 := by omega
        have e9 : IntKind.i64.wrap ((r : Int) + 9) = (r : Int) + 9 := by rw [IntKind.wrap_i64]; omega
        have e1 : IntKind.i64.wrap ((r : Int) + 1) = (r : Int) + 1 := by rw [IntKind.wrap_i64]; omega
        have e14 : IntKind.i64.wrap ((r : Int) + 14) = (r : Int) + 14 := by rw [IntKind.wrap_i64]; omega
        have d9 : ¬ q9 = q := by omega
        have d1 : ¬ q1 = q := by omega
        have d14 : ¬ q14 = q := by omega
        have d9' : ¬ q = q9 := by omega
        have d1' : ¬ q = q1 := by omega
        have d14' : ¬ q = q14 := by omega
        have c16 := hW.at q (by rw [cyc_length]; omega)
        have c7 := hW.at q9 (by rw [cyc_length]; omega)
        have c15 := hW.at q1 (by rw [cyc_length]; omega)
        have c2 := hW.at q14 (by rw [cyc_length]; omega)
        have cf := hW.frozen q
        rw [hq] at hk1 hst
        rw [hq9] at hk2
        rw [hq1] at hk3
        rw [hq14] at hk4
        rw [hk1] at c16
        rw [hk2] at c7
        rw [hk3] at c15
        rw [hk4] at c2
        have hWn := hW.set q ((ws bs 64).getD r 0)
        rw [hst] at hWn
        have HWN := Hid.mk' hWn
        have HNW := Hid.mk' hnw
        clear hk1 hk2 hk3 hk4 hst hnw hWn hq9 hq1 hq14 hq
        generalize K64.getD r 0 = xk at *
        generalize (ws bs 64).getD r 0 = xw at *
        generalize (ws bs 64).getD (r - 16) 0 = y16 at *
        generalize (ws bs 64).getD (r - 15) 0 = y15 at *
        generalize (ws bs 64).getD (r - 7) 0 = y7 at *
        generalize (ws bs 64).getD (r - 2) 0 = y2 at *
        go_wp2_with fail
        refine last.wp_region_last_lit 24 _ rfl (by kernel_rfl) (by kernel_rfl) (by kernel_rfl) ?_
        show wpQuiet _ _ _ _ [_, _, _, _, _, _, _, _, _, _, _, _, _, _, _, _, _, _, _, _, _, _, _, _] _
        repeat (go_big_quiet_step ((first | (go_at_call 109; exact Calls.quiet_of_same (impl_sig0 y15 _ b15)) | (go_at_call 110; exact Calls.quiet_of_same (impl_sig1 y2 _ b2)))))
        refine wpQuiet_nil ?_
        intro w5 hw5
        obtain ⟨nq, hw5⟩ := hw5
        subst hw5
        have hv : ((y16 : Int) + ((y7 : Int) + (ssig0 y15 : Int) + (ssig1 y2 : Int))) % 4294967296 = (xw : Int) := by rw [HNW.out]; omega
        have hW5 : Arr ((wr.drewN nq).setCell ⟨w.heap.size + 1, q, none⟩ (.int .u32 (xw : Int))) (w.heap.size + 1) 113 (cyc bs (r + 1)) := HWN.out.1
        have hg5 : wr.grownBy ((wr.drewN nq).setCell ⟨w.heap.size + 1, q, none⟩ (.int .u32 (xw : Int))) (some (w.heap.size + 1)) := ⟨HWN.out.2.os, HWN.out.2.tape, HWN.out.2.output, HWN.out.2.size, HWN.out.2.block⟩
        have hS5 := hS.grown hg5 (by simp)
        have hZ5 := hZ.grown hg5 (by simp)
        have hB5 := hB.trans (below_grown hg5 (by omega) hB.size)
        have hw0 : 0 < w.heap.size := World.block_lt_of_cell? w _ (hK 0 (by decide))
        have hbz : ¬ (0 : Nat) = w.heap.size + 1 := by omega
        have ck5 := hg5.cell ck (fun e => hbz (Option.some.inj e))
        have cw5 : ((wr.drewN nq).setCell ⟨w.heap.size + 1, q, none⟩ (.int .u32 (xw : Int))).cell? ⟨w.heap.size + 1, q, none⟩ = some (.int .u32 (xw : Int)) := World.cell?_setCell_same _ _ _ c16
        have HV := Hid.mk' hv
        clear hv
        go_wp2_with fail
        rw [HV.out]
        generalize (wr.drewN nq).setCell ⟨w.heap.size + 1, q, none⟩ (.int .u32 (xw : Int)) = w5 at *
        clear HV HWN HNW hg5 ck c16 c7 c15 c2 cf hW hS hZ hB e9 e1 e14 hq9i hq1i hq14i p9 p1 p14
        go_quiet ((go_at_call 111; exact Calls.quiet_of_same (impl_bsig1 x4 _ u4)))
        go_wp2_with fail
        refine (impl_bsig0 x0 _ u0).mono ?_
        rintro e w4 ⟨rfl, hw4⟩
        subst hw4
        go_wp2_with fail
        go_roundw
        case rel =>
          rw [chU x4 x5 x6 u4 u5 u6, majU x0 x1 x2 u0 u1 u2]
          have l1 := bsig1_lt x4 u4
          have l0 := bsig0_lt x0 u0
          have lc := ch_lt x4 x5 x6 u4 u6
          have lm := maj_lt x0 x1 x2 u0 u1
          refine ⟨r + 1, (x7 + bsig1 x4 + ch x4 x5 x6 + (xk + xw) + (bsig0 x0 + maj x0 x1 x2)) % 4294967296, x0, x1, x2, (x3 + (x7 + bsig1 x4 + ch x4 x5 x6 + (xk + xw))) % 4294967296, x4, x5, x6, by omega, by go_num, val_int (by omega), rfl, rfl, rfl, val_int (by omega), rfl, rfl, rfl, ?_, ?_, ?_, ?_, ?_⟩
          · rw [HN.out]; rfl
          · exact hW5
          · exact hS5
          · exact hZ5
          · exact below_drewN hB5 _
        case measure => simp [intOf]; omega
    · have HE : Hid (r = 64) := by show _ = _; omega
      have HX : Hid ([x0, x1, x2, x3, x4, x5, x6, x7] = rounds K64 (ws bs 64) [s0, s1, s2, s3, s4, s5, s6, s7] 64) := by show _ = _; rw [hX, HE.out]
      have hix := fun k hk wx => aggIndex x0 x1 x2 x3 x4 x5 x6 x7 k hk wx
      have hall : ∀ x ∈ [x0, x1, x2, x3, x4, x5, x6, x7], x < 4294967296 := by rw [hX]; exact rounds_lt _ _ _ _ hs
      clear hW hX hK
      rename World => wp
      go_wp2_with fail
      go_loopw [123] (fun iv wr => ∃ k : Nat, k ≤ 8 ∧ iv = .int .i64 (k : Int) ∧ Arr wr w.heap.size 110 (addTo [s0, s1, s2, s3, s4, s5, s6, s7] [x0, x1, x2, x3, x4, x5, x6, x7] k) ∧ Arr wr (w.heap.size + 1 + 1) 110 [0, 0, 0, 0, 0, 0, 0, 0] ∧ Below w.heap.size w wr) (fun iv _ => 8 - (intOf iv).toNat)
      case atStart => exact ⟨0, Nat.zero_le _, rfl, by rw [addTo_zero _ _ rfl]; exact hS, hZ, hB⟩
      case round =>
        clear hS hZ hB
        obtain ⟨k, hk, rfl, hS, hZ, hB⟩ := hrel
        by_cases hlt8 : k < 8
        · have hx := fun wx => hix k hlt8 wx
          have c0 := hS.at k (by rw [addTo_length]; exact hlt8)
          rw [addTo_getD _ _ _ hlt8] at c0
          have cf := hS.frozen k
          have hst := hS.set k (([s0, s1, s2, s3, s4, s5, s6, s7].getD k 0 + [x0, x1, x2, x3, x4, x5, x6, x7].getD k 0) % 4294967296)
          rw [addTo_succ _ _ _ hlt8] at hst
          have ha := getD_lt hs k
          have hb := getD_lt hall k
          generalize [s0, s1, s2, s3, s4, s5, s6, s7].getD k 0 = xa at *
          generalize [x0, x1, x2, x3, x4, x5, x6, x7].getD k 0 = xb at *
          have Hst := Hid.mk' hst
          have HE2 : Hid (((xa : Int) + (xb : Int)) % 4294967296 = (((xa + xb) % 4294967296 : Nat) : Int)) := by show _ = _; omega
          clear hst hix
          go_wp2_with fail
          go_roundw
          case rel =>
            rw [HE2.out]
            exact ⟨k + 1, by omega, by go_num, Hst.out.1, hZ.grown Hst.out.2 (fun e => by simp only [Option.some.injEq] at e; omega), hB.trans (below_grown Hst.out.2 (Nat.le_refl _) hB.size)⟩
          case measure => simp [intOf]; omega
        · have HE2 : Hid (k = 8) := by show _ = _; omega
          obtain ⟨y0, y1, y2, y3, y4, y5, y6, y7, hY⟩ : ∃ y0 y1 y2 y3 y4 y5 y6 y7 : Nat, addTo [s0, s1, s2, s3, s4, s5, s6, s7] [x0, x1, x2, x3, x4, x5, x6, x7] 8 = [y0, y1, y2, y3, y4, y5, y6, y7] := ⟨_, _, _, _, _, _, _, _, rfl⟩
          have hS' : Arr wr w.heap.size 110 [y0, y1, y2, y3, y4, y5, y6, y7] := by rw [← hY, ← HE2.out]; exact hS
          have HB : Hid ([y0, y1, y2, y3, y4, y5, y6, y7] = block K64 [s0, s1, s2, s3, s4, s5, s6, s7] bs) := by
            show _ = _
            rw [← hY, addTo_eight, HX.out, block, addAll_comm]
          obtain ⟨a0, a1, a2, a3, a4, a5, a6, a7⟩ := hS'.eight
          obtain ⟨r0, r1, r2, r3, r4, r5, r6, r7⟩ := hZ.eight
          have hfz := hZ.frozen
          have hBz := ((((((((hB.setCell (p := ⟨w.heap.size + 1 + 1, 0, none⟩) (by show w.heap.size ≤ w.heap.size + 1 + 1; omega) (.int .u32 (y0 : Int))).setCell (p := ⟨w.heap.size + 1 + 1, 1, none⟩) (by show w.heap.size ≤ w.heap.size + 1 + 1; omega) (.int .u32 (y1 : Int))).setCell (p := ⟨w.heap.size + 1 + 1, 2, none⟩) (by show w.heap.size ≤ w.heap.size + 1 + 1; omega) (.int .u32 (y2 : Int))).setCell (p := ⟨w.heap.size + 1 + 1, 3, none⟩) (by show w.heap.size ≤ w.heap.size + 1 + 1; omega) (.int .u32 (y3 : Int))).setCell (p := ⟨w.heap.size + 1 + 1, 4, none⟩) (by show w.heap.size ≤ w.heap.size + 1 + 1; omega) (.int .u32 (y4 : Int))).setCell (p := ⟨w.heap.size + 1 + 1, 5, none⟩) (by show w.heap.size ≤ w.heap.size + 1 + 1; omega) (.int .u32 (y5 : Int))).setCell (p := ⟨w.heap.size + 1 + 1, 6, none⟩) (by show w.heap.size ≤ w.heap.size + 1 + 1; omega) (.int .u32 (y6 : Int))).setCell (p := ⟨w.heap.size + 1 + 1, 7, none⟩) (by show w.heap.size ≤ w.heap.size + 1 + 1; omega) (.int .u32 (y7 : Int)))
          clear hS hS' hZ hY hix HX
          go_wp2_with fail
          refine bodyPost_ret (v := .agg #[.int .u32 (y0 : Int), .int .u32 (y1 : Int), .int .u32 (y2 : Int), .int .u32 (y3 : Int), .int .u32 (y4 : Int), .int .u32 (y5 : Int), .int .u32 (y6 : Int), .int .u32 (y7 : Int)]) ?h1 rfl ⟨y0, y1, y2, y3, y4, y5, y6, y7, rfl, HB.out, hBz⟩
          simp [results, Tryz.results74, go_sem, r0, r1, r2, r3, r4, r5, r6, r7]

end Go.Proofs.YteammdkipnfmnaaGreatDoor.sha

namespace Go.Proofs.YteammdkipnfmnaaGreatDoor.padmath
open Go.RowKit Go.Proofs.YteammdkipnfmnaaGreatDoor.base
set_option linter.unusedVariables false
set_option linter.unusedSimpArgs false

def padAt (bs : List UInt8) (i : Nat) : List UInt8 := padTo bs (zeros bs.length + (8 - i)) ++ (be8 (bs.length * 8)).drop (8 - i)
theorem padAt_zero (bs : List UInt8) : padAt bs 0 = padTo bs (zeros bs.length + 8) := by
  rw [padAt, List.drop_eq_nil_of_le (by rw [be8_length]; omega), List.append_nil]
theorem padAt_all (bs : List UInt8) : padAt bs 8 = padded bs := by
  rw [padAt, padded]; rfl
theorem padAt_set (bs : List UInt8) (i : Nat) (h : i < 8) (u : UInt8) (hu : u = (be8 (bs.length * 8))[7 - i]'(by rw [be8_length]; omega)) : (padAt bs i).set (bs.length + 9 + zeros bs.length - 1 - i) u = padAt bs (i + 1) := by
  have e1 : zeros bs.length + (8 - i) = zeros bs.length + (8 - (i + 1)) + 1 := by omega
  rw [padAt, e1, ← padTo_snoc, List.append_assoc, List.set_append_right _ _ (by rw [padTo_length]; omega), padTo_length, show bs.length + 9 + zeros bs.length - 1 - i - (bs.length + 1 + (zeros bs.length + (8 - (i + 1)))) = 0 by omega]
  rw [padAt, hu]
  have e2 : (be8 (bs.length * 8)).drop (8 - (i + 1)) = (be8 (bs.length * 8))[7 - i]'(by rw [be8_length]; omega) :: (be8 (bs.length * 8)).drop (8 - i) := by
    rw [show 8 - (i + 1) = 7 - i by omega, List.drop_eq_getElem_cons (by rw [be8_length]; omega), show 7 - i + 1 = 8 - i by omega]
  rw [e2]; rfl
theorem be8_up (len i : Nat) (h : i < 8) : (len : Int) * 8 / 2 ^ (8 * i) % 256 = (((be8 (len * 8))[7 - i]'(by rw [be8_length]; omega)).toNat : Int) := by
  have := be8_at len (7 - i) (by omega)
  rw [show 56 - 8 * (7 - i) = 8 * i by omega, getElem!_pos (be8 (len * 8)) (7 - i) (by rw [be8_length]; omega)] at this
  exact this

set_option maxRecDepth 100000 in
set_option maxHeartbeats 2000000 in
theorem impl_padded (a : Option Addr) (len cap : Nat) (bs : List UInt8) (w : World) (h : Sl w a len bs) (hsz : len ≤ 1099511627776) :
    Calls Tryz.prog 73 #[.slice a len cap] w fun e w' =>
      ∃ g' n' cap', e = .returned (.slice (some ⟨g', 0, none⟩) n' cap') ∧ Own w' w.heap.size g' n' cap' (padded bs) ∧ Below w.heap.size w w' := by
  obtain ⟨hl, hm, hc⟩ := h
  obtain ⟨i0, hi, hz0, hz1, hz2⟩ := info_parts info8
  have hzl := zeros_lt len
  obtain ⟨N, hN⟩ : ∃ N, N = len + 9 + zeros len := ⟨_, rfl⟩
  have hNb : N ≤ 1099511627900 := by omega
  have hNs : (len : Int) + 1 + 8 + -(((len : Int) + 1 + 8) % 64) % 64 = (N : Int) := by rw [hN]; unfold zeros; omega
  have hNl : len < N := by omega
  have HN := Hid.mk' hN
  clear hN hzl
  go_enter Tryz.func73, Tryz.ntmps73
  go_wp2_with (at_make; refine wpList_make_full _ rfl _ _ 22 rfl w.heap.size 5 i0 (.int .u8 0) 1 Tryz.underlying22 hi hz0 hz1 _ _ _ _ N rfl rfl (by omega) (by omega) ?b2 ?b3 ?b4 ?_)
  case b2 => rw [hz2]; omega
  case b3 => unfold maxLen; omega
  case b4 => exact Nat.le_refl _
  intro w1 hown hgrow
  have hOwn : Own w1 w.heap.size w.heap.size N N (List.replicate N 0) := by
    refine ⟨by simp, ?_⟩
    have e : byteVals (List.replicate N 0) = (madeCells #[.int .u8 0] N).toList := by
      simp [byteVals, toList_madeCells_one]
    rw [e]; simpa using hown
  have hbel : Below w.heap.size w w1 := (Below.refl _ _).grown hgrow (Nat.le_refl _) (fun k e => by cases e)
  have hrow := own_row hOwn
  have hpos : 0 < (byteVals bs).length → (some (⟨w.heap.size, 0, none⟩ : Addr)) = some ⟨w.heap.size, 0, none⟩ ∧ ∃ ad, a = some ad ∧ ∀ j v, (byteVals bs)[j]? = some v → w1.cell? (ad.add j) = some v := by
    intro h0
    rw [byteVals_length] at h0
    obtain ⟨b, off, ha, hcl⟩ := hc (by omega)
    refine ⟨rfl, ⟨b, off, none⟩, ha, fun j v hj => ?_⟩
    have hjl : j < bs.length := by have := (List.getElem?_eq_some_iff.1 hj).1; rwa [byteVals_length] at this
    rw [Addr.add_lit, hbel.cell (p := ⟨b, off + j, none⟩) (World.block_lt_of_cell? w _ (hcl j hjl)), hcl j hjl, ← hj]
    simp [byteVals, hjl]
  have HROW := Hid.mk' hrow
  have HPOS := Hid.mk' hpos
  clear hown hgrow hrow hpos hc hOwn
  have hsz1 : (Tryz.prog.info? 5).map (·.size) = some 1 := by rw [hi]; simp [hz1]
  go_wp2_with (refine wpList_copy_splice rfl (.tmp 19) (.tmp 20) 22 22 rfl 5 Tryz.underlying22 hsz1 _ _ _ _ _ _ rfl rfl w.heap.size 0 (byteVals (List.replicate N 0)) 5 HROW.out (byteVals bs) ?d1 HPOS.out ?d2 (byteVals_oneCell _) w.heap.size w hbel (Nat.le_refl _) ?_)
  case d1 => rw [byteVals_length, hl]; show len = min len N; omega
  case d2 => rw [byteVals_length, byteVals_length]; simp; omega
  intro w2 hrow2 hb2
  have e : splice (byteVals (List.replicate N 0)) 0 (byteVals bs) = byteVals (bs ++ List.replicate (N - len) 0) := by
    simp [splice, byteVals, hl]
  have hx := hrow2.out
  rw [e] at hx
  have hO2 : Own w2 w.heap.size w.heap.size N N (bs ++ List.replicate (N - len) 0) := own_of_row (by simp; omega) (by unfold maxLen; omega) (Nat.le_refl _) hx
  have c2 : w2.cell? ⟨w.heap.size, len, none⟩ = some (.int .u8 0) := by
    rw [hO2.at len (by simp; omega)]; simp [List.getElem_append, hl]
  have c3 : w2.frozen? ⟨w.heap.size, len, none⟩ = false := hO2.frozen len
  have R := own_set hO2 len 128
  have e3 : (bs ++ List.replicate (N - len) 0).set len 128 = padAt bs 0 := by
    rw [padAt_zero, List.set_append_right _ _ (by omega), hl, Nat.sub_self, padTo, show N - len = (zeros len + 8) + 1 by have := HN.out; omega]; rfl
  rw [e3] at R
  have HR := Hid.mk' R
  clear hrow2 hx hO2 R e e3 HROW HPOS
  go_wp2_with (at_builtin; fail)
  go_loopw [30] (fun iv wr => ∃ i : Nat, i ≤ 8 ∧ iv = .int .i64 (i : Int) ∧ Own wr w.heap.size w.heap.size N N (padAt bs i) ∧ Below w.heap.size w wr) (fun iv _ => 8 - (intOf iv).toNat)
  case atStart => exact ⟨0, by omega, rfl, HR.out.1, hb2.trans (below_grown HR.out.2 (Nat.le_refl _) hb2.size)⟩
  case round =>
    clear hb2 c2 c3 HR
    obtain ⟨i, hi8, rfl, hO, hB⟩ := hrel
    by_cases hlt : i < 8
    · clear hNs
      obtain ⟨p, hp, hp2⟩ : ∃ p : Nat, (N : Int) - 1 - (i : Int) = (p : Int) ∧ p = len + 9 + zeros len - 1 - i := ⟨N - 1 - i, by have := HN.out; omega, by rw [HN.out]⟩
      have hpN : p < N := by omega
      have hpl : p < (padAt bs i).length := by rw [hO.1]; exact hpN
      have c2 : wr.cell? ⟨w.heap.size, p, none⟩ = some (.int .u8 (padAt bs i)[p].toNat) := hO.at p hpl
      have c3 : wr.frozen? ⟨w.heap.size, p, none⟩ = false := hO.frozen p
      have hup := be8_up len i hlt
      have hst := fun u hu => padAt_set bs i hlt u hu
      rw [hl, ← hp2] at hst
      generalize hU : (be8 (len * 8))[7 - i]'(by rw [be8_length]; omega) = u at hup
      have R := own_set hO p u
      rw [hst u hU.symm] at R
      have HR := Hid.mk' R
      generalize (padAt bs i)[p].toNat = old at c2
      have hul := u.toNat_lt
      have HU := Hid.mk' hup
      clear R hst hU hp2 hpl hO hup
      go_wp2_with (at_builtin; fail)
      go_roundw
      case rel =>
        rw [HU.out]
        exact ⟨i + 1, by omega, by go_num, HR.out.1, hB.trans (below_grown HR.out.2 (Nat.le_refl _) hB.size)⟩
      case measure => simp [intOf]; omega
    · have HE : Hid (i = 8) := by show _ = _; omega
      go_wp2_with (at_builtin; fail)
      go_ret
      rw [HE.out, padAt_all] at hO
      exact ⟨_, _, _, rfl, hO, hB⟩

end Go.Proofs.YteammdkipnfmnaaGreatDoor.padmath

namespace Go.Proofs.YteammdkipnfmnaaGreatDoor.sha
open Go.RowKit Go.Proofs.YteammdkipnfmnaaGreatDoor.base Go.Proofs.YteammdkipnfmnaaGreatDoor.padmath
set_option linter.unusedVariables false
set_option linter.unusedSimpArgs false

theorem list8 {l : List Nat} (h : l.length = 8) : ∃ x0 x1 x2 x3 x4 x5 x6 x7 : Nat, l = [x0, x1, x2, x3, x4, x5, x6, x7] := by
  match l, h with
  | [x0, x1, x2, x3, x4, x5, x6, x7], _ => exact ⟨x0, x1, x2, x3, x4, x5, x6, x7, rfl⟩
theorem Arr.set8 {w : World} {g : Nat} {t : TypeId} {x0 x1 x2 x3 x4 x5 x6 x7 : Nat} (h : Arr w g t [x0, x1, x2, x3, x4, x5, x6, x7]) (y0 y1 y2 y3 y4 y5 y6 y7 : Nat) :
    Arr ((((((((w.setCell ⟨g, 0, none⟩ (.int .u32 (y0 : Int))).setCell ⟨g, 1, none⟩ (.int .u32 (y1 : Int))).setCell ⟨g, 2, none⟩ (.int .u32 (y2 : Int))).setCell ⟨g, 3, none⟩ (.int .u32 (y3 : Int))).setCell ⟨g, 4, none⟩ (.int .u32 (y4 : Int))).setCell ⟨g, 5, none⟩ (.int .u32 (y5 : Int))).setCell ⟨g, 6, none⟩ (.int .u32 (y6 : Int))).setCell ⟨g, 7, none⟩ (.int .u32 (y7 : Int))) g t [y0, y1, y2, y3, y4, y5, y6, y7] ∧ w.grownBy ((((((((w.setCell ⟨g, 0, none⟩ (.int .u32 (y0 : Int))).setCell ⟨g, 1, none⟩ (.int .u32 (y1 : Int))).setCell ⟨g, 2, none⟩ (.int .u32 (y2 : Int))).setCell ⟨g, 3, none⟩ (.int .u32 (y3 : Int))).setCell ⟨g, 4, none⟩ (.int .u32 (y4 : Int))).setCell ⟨g, 5, none⟩ (.int .u32 (y5 : Int))).setCell ⟨g, 6, none⟩ (.int .u32 (y6 : Int))).setCell ⟨g, 7, none⟩ (.int .u32 (y7 : Int))) (some g) := by
  have s0 := (h).set 0 y0
  have s1 := (s0.1).set 1 y1
  have s2 := (s1.1).set 2 y2
  have s3 := (s2.1).set 3 y3
  have s4 := (s3.1).set 4 y4
  have s5 := (s4.1).set 5 y5
  have s6 := (s5.1).set 6 y6
  have s7 := (s6.1).set 7 y7
  exact ⟨s7.1, (grownBy_trans (grownBy_trans (grownBy_trans (grownBy_trans (grownBy_trans (grownBy_trans (grownBy_trans s0.2 s1.2) s2.2) s3.2) s4.2) s5.2) s6.2) s7.2)⟩
theorem impl_blockD (x0 x1 x2 x3 x4 x5 x6 x7 : Nat) (bs : List UInt8) (w : World) (hs : ∀ x ∈ [x0, x1, x2, x3, x4, x5, x6, x7], x < 4294967296) (hK : KW w) (y0 y1 y2 y3 y4 y5 y6 y7 : Nat) (hY : [y0, y1, y2, y3, y4, y5, y6, y7] = block K64 [x0, x1, x2, x3, x4, x5, x6, x7] bs) :
    Calls Tryz.prog 74 #[.agg #[.int .u32 (x0 : Int), .int .u32 (x1 : Int), .int .u32 (x2 : Int), .int .u32 (x3 : Int), .int .u32 (x4 : Int), .int .u32 (x5 : Int), .int .u32 (x6 : Int), .int .u32 (x7 : Int)], .agg #[.int .u32 (be32 bs 0 : Int), .int .u32 (be32 bs 1 : Int), .int .u32 (be32 bs 2 : Int), .int .u32 (be32 bs 3 : Int), .int .u32 (be32 bs 4 : Int), .int .u32 (be32 bs 5 : Int), .int .u32 (be32 bs 6 : Int), .int .u32 (be32 bs 7 : Int), .int .u32 (be32 bs 8 : Int), .int .u32 (be32 bs 9 : Int), .int .u32 (be32 bs 10 : Int), .int .u32 (be32 bs 11 : Int), .int .u32 (be32 bs 12 : Int), .int .u32 (be32 bs 13 : Int), .int .u32 (be32 bs 14 : Int), .int .u32 (be32 bs 15 : Int)]] w fun e w' => e = .returned (.agg #[.int .u32 (y0 : Int), .int .u32 (y1 : Int), .int .u32 (y2 : Int), .int .u32 (y3 : Int), .int .u32 (y4 : Int), .int .u32 (y5 : Int), .int .u32 (y6 : Int), .int .u32 (y7 : Int)]) ∧ Below w.heap.size w w' := by
  refine (impl_block x0 x1 x2 x3 x4 x5 x6 x7 bs w hs hK).mono ?_
  rintro e w' ⟨z0, z1, z2, z3, z4, z5, z6, z7, rfl, hz, hb⟩
  rw [← hY] at hz
  injection hz with e0 hz; injection hz with e1 hz; injection hz with e2 hz; injection hz with e3 hz
  injection hz with e4 hz; injection hz with e5 hz; injection hz with e6 hz; injection hz with e7 hz
  subst e0; subst e1; subst e2; subst e3; subst e4; subst e5; subst e6; subst e7
  exact ⟨rfl, hb⟩

set_option maxRecDepth 100000 in
set_option maxHeartbeats 4000000 in
theorem impl_digestA (a0 : Option Addr) (len cap : Nat) (bs : List UInt8) (w : World) (h : Sl w a0 len bs) (hsz : len ≤ 1099511627776) (hK : KW w) :
    Calls Tryz.prog 34 #[.slice a0 len cap] w fun e w' => e = .returned (.string ⟨(digest bs).toArray⟩) ∧ Below w.heap.size w w' := by
  have hl := h.1
  have hba : Below w.heap.size w (w.alloc (.cells #[.int .u32 1779033703, .int .u32 3144134277, .int .u32 1013904242, .int .u32 2773480762, .int .u32 1359893119, .int .u32 2600822924, .int .u32 528734635, .int .u32 1541459225] 110)) := (Below.refl _ _).alloc (Nat.le_refl _) _
  have hA0 : Arr (w.alloc (.cells #[.int .u32 1779033703, .int .u32 3144134277, .int .u32 1013904242, .int .u32 2773480762, .int .u32 1359893119, .int .u32 2600822924, .int .u32 528734635, .int .u32 1541459225] 110)) w.heap.size 110 H8 := arr_new _ _ _ rfl rfl
  have hS0 := h.below hba
  go_enter Tryz.func34, Tryz.ntmps34
  go_wp2_with fail
  refine (impl_padded _ len cap bs _ hS0 hsz).mono ?_
  rintro e w1 ⟨gp, np, capp, rfl, hP, hB1⟩
  have HPL := Hid.mk' hP.1
  have hpb : np ≤ 1099511627776 + 100 := by rw [← hP.1, padded_length]; unfold zeros; omega
  have hmod : np % 64 = 0 := by rw [← hP.1]; exact padded_mod bs
  have hmx := hP.max
  have hA1 := hA0.below hB1
  have hBw : Below w.heap.size w w1 := hba.trans (hB1.mono (by simp))
  have hgp : w.heap.size + 1 ≤ gp := by have := hP.lt.1; simp at this; omega
  have hP1 := hP.sl
  clear hba hA0 hS0 hB1 hP
  go_wp2_with fail
  go_loopw [5] (fun iv wr => ∃ a : Nat, a ≤ np ∧ a % 64 = 0 ∧ iv = .int .i64 (a : Int) ∧ Arr wr w.heap.size 110 (hashTo (padded bs) (a / 64)) ∧ Sl wr (some ⟨gp, 0, none⟩) np (padded bs) ∧ Below w.heap.size w wr) (fun iv _ => np - (intOf iv).toNat)
  case atStart => exact ⟨0, Nat.zero_le _, rfl, rfl, hA1, hP1, hBw⟩
  case round =>
    clear hA1 hP1 hBw
    obtain ⟨a, ha, ham, rfl, hA, hP, hB⟩ := hrel
    obtain ⟨x0, x1, x2, x3, x4, x5, x6, x7, hX⟩ := list8 (hashTo_length (padded bs) (a / 64))
    have hxl : ∀ x ∈ [x0, x1, x2, x3, x4, x5, x6, x7], x < 4294967296 := by rw [← hX]; exact hashTo_lt _ _
    rw [hX] at hA
    by_cases hlt : a < np
    · have ha64 : a + 64 ≤ np := by omega
      obtain ⟨y0, y1, y2, y3, y4, y5, y6, y7, hY⟩ := list8 (hashTo_length (padded bs) ((a + 64) / 64))
      have HN : Hid ([y0, y1, y2, y3, y4, y5, y6, y7] = block K64 [x0, x1, x2, x3, x4, x5, x6, x7] (((padded bs).drop a).take 64)) := by
        show _ = _
        rw [← hY, ← hX, show (a + 64) / 64 = a / 64 + 1 by omega]
        show block _ _ (((padded bs).drop (64 * (a / 64))).take 64) = _
        rw [show 64 * (a / 64) = a by omega]
      have HY := Hid.mk' hY
      have hSb : Sl wr.drew (some ⟨gp, 0 + a, none⟩) 64 (((padded bs).drop a).take 64) := sl_sub hP a 64 ha64
      rw [Nat.zero_add] at hSb
      have hK1 : KW wr := hK.below hB
      obtain ⟨c0, c1, c2, c3, c4, c5, c6, c7⟩ := hA.eight
      have hfz := hA.frozen
      clear hX hY
      generalize ((padded bs).drop a).take 64 = blk at *
      have e64 : IntKind.i64.wrap ((a : Int) + 64) = (a : Int) + 64 := by rw [IntKind.wrap_i64]; omega
      have q1 : (0 : Int) ≤ (a : Int) := by omega
      have hAd : Arr wr.drew w.heap.size 110 [x0, x1, x2, x3, x4, x5, x6, x7] := hA
      have hK1d : KW wr.drew := hK1
      have q2 : (a : Int) ≤ (a : Int) + 64 := by omega
      have q3 : (a : Int) + 64 ≤ (capp : Int) := by omega
      have q4 : ¬ capp = a := by omega
      have q5 : ((a : Int) + 64).toNat - a = 64 := by omega
      go_wp2_with fail
      go_region_with (first | (go_at_call 75; refine (impl_words gp a (capp - a) blk wr.drew hSb).mono ?_; rintro e wx ⟨rfl, hbx⟩; obtain ⟨k0, k1, k2, k3, k4, k5, k6, k7⟩ := (show Arr wx w.heap.size 110 [x0, x1, x2, x3, x4, x5, x6, x7] from hAd.below hbx).eight) | (go_at_call 74; refine (impl_blockD x0 x1 x2 x3 x4 x5 x6 x7 blk _ hxl (hK1d.below hbx) y0 y1 y2 y3 y4 y5 y6 y7 HN.out).mono ?_; rintro e wy ⟨rfl, hby⟩; have hA2 : Arr wy w.heap.size 110 [x0, x1, x2, x3, x4, x5, x6, x7] := (show Arr wx w.heap.size 110 [x0, x1, x2, x3, x4, x5, x6, x7] from hAd.below hbx).below hby; obtain ⟨m0, m1, m2, m3, m4, m5, m6, m7⟩ := hA2.eight; have hfz2 := hA2.frozen))
      all_goals
        have hBd : Below w.heap.size w wr.drew := hB.drew
        have hBx : Below w.heap.size w wx := hBd.trans (hbx.mono hBd.size)
        have hBy : Below w.heap.size w wy := hBx.trans (hby.mono hBx.size)
        have h8 := hA2.set8 y0 y1 y2 y3 y4 y5 y6 y7
        have hPd : Sl wr.drew (some ⟨gp, 0, none⟩) np (padded bs) := hP
        have HP := Hid.mk' (((hPd.below hbx).below hby).grown h8.2 (fun e => by simp only [Option.some.injEq] at e; omega))
        have HB := Hid.mk' (hBy.trans (below_grown h8.2 (Nat.le_refl _) hBy.size))
        have HA := Hid.mk' h8.1
        clear hBd hBx hBy h8 hPd hP hbx hby hA2 hfz2 m0 m1 m2 m3 m4 m5 m6 m7 k0 k1 k2 k3 k4 k5 k6 k7 c0 c1 c2 c3 c4 c5 c6 c7 hfz hA hAd hK1 hK1d hSb e64 q1 q2 q3 q4 q5 hB
        go_wp2_with fail
        go_roundw
        case rel => exact ⟨a + 64, ha64, by omega, by go_num, by rw [HY.out]; exact HA.out, HP.out, HB.out⟩
        case measure => simp [intOf]; omega
    · have HE : Hid (a = np) := by show _ = _; omega
      have HD : Hid (digest bs = ([x0, x1, x2, x3, x4, x5, x6, x7].map word4).flatten) := by
        show _ = _; unfold digest; rw [HPL.out, ← HE.out, hX]
      obtain ⟨c0, c1, c2, c3, c4, c5, c6, c7⟩ := hA.eight
      clear hA hP hX hK
      go_wp2_with fail
      refine (impl_bytes x0 x1 x2 x3 x4 x5 x6 x7 _ hxl).mono ?_
      rintro e w9 ⟨rfl, hb9⟩
      go_wp2_with fail
      go_ret
      exact ⟨ret_str (by rw [HD.out]; simp), hB.trans (hb9.mono hB.size)⟩

theorem impl_digest (b off len cap : Nat) (bs : List UInt8) (w : World) (h : Sl w (some ⟨b, off, none⟩) len bs) (hsz : len ≤ 1099511627776) (hK : KW w) :
    Calls Tryz.prog 34 #[.slice (some ⟨b, off, none⟩) len cap] w fun e w' => e = .returned (.string ⟨(digest bs).toArray⟩) ∧ Below w.heap.size w w' :=
  impl_digestA (some ⟨b, off, none⟩) len cap bs w h hsz hK

end Go.Proofs.YteammdkipnfmnaaGreatDoor.sha
