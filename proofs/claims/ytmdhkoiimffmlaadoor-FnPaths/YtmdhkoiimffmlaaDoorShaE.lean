/- The program's digest. -/
import Derived.Test.YtmdhkoiimffmlaaDoorShaA
import Derived.Test.YtmdhkoiimffmlaaDoorPaddedI
import Derived.Deep.RegionWith
namespace Go.Proofs.YtmdhkoiimffmlaaDoor.sha
open Go.RowKit Go.Proofs.YtmdhkoiimffmlaaDoor.base Go.Proofs.YtmdhkoiimffmlaaDoor.padmath
set_option linter.unusedVariables false
set_option linter.unusedSimpArgs false

theorem list8 {l : List Nat} (h : l.length = 8) : ∃ x0 x1 x2 x3 x4 x5 x6 x7 : Nat, l = [x0, x1, x2, x3, x4, x5, x6, x7] := by
  match l, h with
  | [x0, x1, x2, x3, x4, x5, x6, x7], _ => exact ⟨x0, x1, x2, x3, x4, x5, x6, x7, rfl⟩
theorem Arr.set8 {w : World} {g : Nat} {t : TypeId} {x0 x1 x2 x3 x4 x5 x6 x7 : Nat} (h : Arr w g t [x0, x1, x2, x3, x4, x5, x6, x7]) (y0 y1 y2 y3 y4 y5 y6 y7 : Nat) :
    Arr ((((((((w.setCell ⟨g, 0, none⟩ (.int .u32 (y0 : Int))).setCell ⟨g, 1, none⟩ (.int .u32 (y1 : Int))).setCell ⟨g, 2, none⟩ (.int .u32 (y2 : Int))).setCell ⟨g, 3, none⟩ (.int .u32 (y3 : Int))).setCell ⟨g, 4, none⟩ (.int .u32 (y4 : Int))).setCell ⟨g, 5, none⟩ (.int .u32 (y5 : Int))).setCell ⟨g, 6, none⟩ (.int .u32 (y6 : Int))).setCell ⟨g, 7, none⟩ (.int .u32 (y7 : Int))) g t [y0, y1, y2, y3, y4, y5, y6, y7] ∧ w.grownBy ((((((((w.setCell ⟨g, 0, none⟩ (.int .u32 (y0 : Int))).setCell ⟨g, 1, none⟩ (.int .u32 (y1 : Int))).setCell ⟨g, 2, none⟩ (.int .u32 (y2 : Int))).setCell ⟨g, 3, none⟩ (.int .u32 (y3 : Int))).setCell ⟨g, 4, none⟩ (.int .u32 (y4 : Int))).setCell ⟨g, 5, none⟩ (.int .u32 (y5 : Int))).setCell ⟨g, 6, none⟩ (.int .u32 (y6 : Int))).setCell ⟨g, 7, none⟩ (.int .u32 (y7 : Int))) (some g) := by
  have s0 := (h).set 0 y0
  have s1 := (s0.1).set 1 y1
  have s2 := (s1.1).set 2 y2
  have s3 := (s2.1).set 3 y3
  have s4 := (s3.1).set 4 y4
  have s5 := (s4.1).set 5 y5
  have s6 := (s5.1).set 6 y6
  have s7 := (s6.1).set 7 y7
  exact ⟨s7.1, (grownBy_trans (grownBy_trans (grownBy_trans (grownBy_trans (grownBy_trans (grownBy_trans (grownBy_trans s0.2 s1.2) s2.2) s3.2) s4.2) s5.2) s6.2) s7.2)⟩
theorem impl_blockD (x0 x1 x2 x3 x4 x5 x6 x7 : Nat) (bs : List UInt8) (w : World) (hs : ∀ x ∈ [x0, x1, x2, x3, x4, x5, x6, x7], x < 4294967296) (hK : KW w) (y0 y1 y2 y3 y4 y5 y6 y7 : Nat) (hY : [y0, y1, y2, y3, y4, y5, y6, y7] = block K64 [x0, x1, x2, x3, x4, x5, x6, x7] bs) :
    Calls Tryd.prog 68 #[.agg #[.int .u32 (x0 : Int), .int .u32 (x1 : Int), .int .u32 (x2 : Int), .int .u32 (x3 : Int), .int .u32 (x4 : Int), .int .u32 (x5 : Int), .int .u32 (x6 : Int), .int .u32 (x7 : Int)], .agg #[.int .u32 (be32 bs 0 : Int), .int .u32 (be32 bs 1 : Int), .int .u32 (be32 bs 2 : Int), .int .u32 (be32 bs 3 : Int), .int .u32 (be32 bs 4 : Int), .int .u32 (be32 bs 5 : Int), .int .u32 (be32 bs 6 : Int), .int .u32 (be32 bs 7 : Int), .int .u32 (be32 bs 8 : Int), .int .u32 (be32 bs 9 : Int), .int .u32 (be32 bs 10 : Int), .int .u32 (be32 bs 11 : Int), .int .u32 (be32 bs 12 : Int), .int .u32 (be32 bs 13 : Int), .int .u32 (be32 bs 14 : Int), .int .u32 (be32 bs 15 : Int)]] w fun e w' => e = .returned (.agg #[.int .u32 (y0 : Int), .int .u32 (y1 : Int), .int .u32 (y2 : Int), .int .u32 (y3 : Int), .int .u32 (y4 : Int), .int .u32 (y5 : Int), .int .u32 (y6 : Int), .int .u32 (y7 : Int)]) ∧ Below w.heap.size w w' := by
  refine (impl_block x0 x1 x2 x3 x4 x5 x6 x7 bs w hs hK).mono ?_
  rintro e w' ⟨z0, z1, z2, z3, z4, z5, z6, z7, rfl, hz, hb⟩
  rw [← hY] at hz
  injection hz with e0 hz; injection hz with e1 hz; injection hz with e2 hz; injection hz with e3 hz
  injection hz with e4 hz; injection hz with e5 hz; injection hz with e6 hz; injection hz with e7 hz
  subst e0; subst e1; subst e2; subst e3; subst e4; subst e5; subst e6; subst e7
  exact ⟨rfl, hb⟩

set_option maxRecDepth 100000 in
set_option maxHeartbeats 4000000 in
theorem impl_digestA (a0 : Option Addr) (len cap : Nat) (bs : List UInt8) (w : World) (h : Sl w a0 len bs) (hsz : len ≤ 1099511627776) (hK : KW w) :
    Calls Tryd.prog 41 #[.slice a0 len cap] w fun e w' => e = .returned (.string ⟨(digest bs).toArray⟩) ∧ Below w.heap.size w w' := by
  have hl := h.1
  have hba : Below w.heap.size w (w.alloc (.cells #[.int .u32 1779033703, .int .u32 3144134277, .int .u32 1013904242, .int .u32 2773480762, .int .u32 1359893119, .int .u32 2600822924, .int .u32 528734635, .int .u32 1541459225] 85)) := (Below.refl _ _).alloc (Nat.le_refl _) _
  have hA0 : Arr (w.alloc (.cells #[.int .u32 1779033703, .int .u32 3144134277, .int .u32 1013904242, .int .u32 2773480762, .int .u32 1359893119, .int .u32 2600822924, .int .u32 528734635, .int .u32 1541459225] 85)) w.heap.size 85 H8 := arr_new _ _ _ rfl rfl
  have hS0 := h.below hba
  go_enter Tryd.func41, Tryd.ntmps41
  go_wp2_with fail
  refine (impl_padded _ len cap bs _ hS0 hsz).mono ?_
  rintro e w1 ⟨gp, np, capp, rfl, hP, hB1⟩
  have HPL := Hid.mk' hP.1
  have hpb : np ≤ 1099511627776 + 100 := by rw [← hP.1, padded_length]; unfold zeros; omega
  have hmod : np % 64 = 0 := by rw [← hP.1]; exact padded_mod bs
  have hmx := hP.max
  have hA1 := hA0.below hB1
  have hBw : Below w.heap.size w w1 := hba.trans (hB1.mono (by simp))
  have hgp : w.heap.size + 1 ≤ gp := by have := hP.lt.1; simp at this; omega
  have hP1 := hP.sl
  clear hba hA0 hS0 hB1 hP
  go_wp2_with fail
  go_loopw [5] (fun iv wr => ∃ a : Nat, a ≤ np ∧ a % 64 = 0 ∧ iv = .int .i64 (a : Int) ∧ Arr wr w.heap.size 85 (hashTo (padded bs) (a / 64)) ∧ Sl wr (some ⟨gp, 0, none⟩) np (padded bs) ∧ Below w.heap.size w wr) (fun iv _ => np - (intOf iv).toNat)
  case atStart => exact ⟨0, Nat.zero_le _, rfl, rfl, hA1, hP1, hBw⟩
  case round =>
    clear hA1 hP1 hBw
    obtain ⟨a, ha, ham, rfl, hA, hP, hB⟩ := hrel
    obtain ⟨x0, x1, x2, x3, x4, x5, x6, x7, hX⟩ := list8 (hashTo_length (padded bs) (a / 64))
    have hxl : ∀ x ∈ [x0, x1, x2, x3, x4, x5, x6, x7], x < 4294967296 := by rw [← hX]; exact hashTo_lt _ _
    rw [hX] at hA
    by_cases hlt : a < np
    · have ha64 : a + 64 ≤ np := by omega
      obtain ⟨y0, y1, y2, y3, y4, y5, y6, y7, hY⟩ := list8 (hashTo_length (padded bs) ((a + 64) / 64))
      have HN : Hid ([y0, y1, y2, y3, y4, y5, y6, y7] = block K64 [x0, x1, x2, x3, x4, x5, x6, x7] (((padded bs).drop a).take 64)) := by
        show _ = _
        rw [← hY, ← hX, show (a + 64) / 64 = a / 64 + 1 by omega]
        show block _ _ (((padded bs).drop (64 * (a / 64))).take 64) = _
        rw [show 64 * (a / 64) = a by omega]
      have HY := Hid.mk' hY
      have hSb : Sl wr.drew (some ⟨gp, 0 + a, none⟩) 64 (((padded bs).drop a).take 64) := sl_sub hP a 64 ha64
      rw [Nat.zero_add] at hSb
      have hK1 : KW wr := hK.below hB
      obtain ⟨c0, c1, c2, c3, c4, c5, c6, c7⟩ := hA.eight
      have hfz := hA.frozen
      clear hX hY
      generalize ((padded bs).drop a).take 64 = blk at *
      have e64 : IntKind.i64.wrap ((a : Int) + 64) = (a : Int) + 64 := by rw [IntKind.wrap_i64]; omega
      have q1 : (0 : Int) ≤ (a : Int) := by omega
      have hAd : Arr wr.drew w.heap.size 85 [x0, x1, x2, x3, x4, x5, x6, x7] := hA
      have hK1d : KW wr.drew := hK1
      have q2 : (a : Int) ≤ (a : Int) + 64 := by omega
      have q3 : (a : Int) + 64 ≤ (capp : Int) := by omega
      have q4 : ¬ capp = a := by omega
      have q5 : ((a : Int) + 64).toNat - a = 64 := by omega
      go_wp2_with fail
      go_region_with (first | (go_at_call 69; refine (impl_words gp a (capp - a) blk wr.drew hSb).mono ?_; rintro e wx ⟨rfl, hbx⟩; obtain ⟨k0, k1, k2, k3, k4, k5, k6, k7⟩ := (show Arr wx w.heap.size 85 [x0, x1, x2, x3, x4, x5, x6, x7] from hAd.below hbx).eight) | (go_at_call 68; refine (impl_blockD x0 x1 x2 x3 x4 x5 x6 x7 blk _ hxl (hK1d.below hbx) y0 y1 y2 y3 y4 y5 y6 y7 HN.out).mono ?_; rintro e wy ⟨rfl, hby⟩; have hA2 : Arr wy w.heap.size 85 [x0, x1, x2, x3, x4, x5, x6, x7] := (show Arr wx w.heap.size 85 [x0, x1, x2, x3, x4, x5, x6, x7] from hAd.below hbx).below hby; obtain ⟨m0, m1, m2, m3, m4, m5, m6, m7⟩ := hA2.eight; have hfz2 := hA2.frozen))
      all_goals
        have hBd : Below w.heap.size w wr.drew := hB.drew
        have hBx : Below w.heap.size w wx := hBd.trans (hbx.mono hBd.size)
        have hBy : Below w.heap.size w wy := hBx.trans (hby.mono hBx.size)
        have h8 := hA2.set8 y0 y1 y2 y3 y4 y5 y6 y7
        have hPd : Sl wr.drew (some ⟨gp, 0, none⟩) np (padded bs) := hP
        have HP := Hid.mk' (((hPd.below hbx).below hby).grown h8.2 (fun e => by simp only [Option.some.injEq] at e; omega))
        have HB := Hid.mk' (hBy.trans (below_grown h8.2 (Nat.le_refl _) hBy.size))
        have HA := Hid.mk' h8.1
        clear hBd hBx hBy h8 hPd hP hbx hby hA2 hfz2 m0 m1 m2 m3 m4 m5 m6 m7 k0 k1 k2 k3 k4 k5 k6 k7 c0 c1 c2 c3 c4 c5 c6 c7 hfz hA hAd hK1 hK1d hSb e64 q1 q2 q3 q4 q5 hB
        go_wp2_with fail
        go_roundw
        case rel => exact ⟨a + 64, ha64, by omega, by go_num, by rw [HY.out]; exact HA.out, HP.out, HB.out⟩
        case measure => simp [intOf]; omega
    · have HE : Hid (a = np) := by show _ = _; omega
      have HD : Hid (digest bs = ([x0, x1, x2, x3, x4, x5, x6, x7].map word4).flatten) := by
        show _ = _; unfold digest; rw [HPL.out, ← HE.out, hX]
      obtain ⟨c0, c1, c2, c3, c4, c5, c6, c7⟩ := hA.eight
      clear hA hP hX hK
      go_wp2_with fail
      refine (impl_bytes x0 x1 x2 x3 x4 x5 x6 x7 _ hxl).mono ?_
      rintro e w9 ⟨rfl, hb9⟩
      go_wp2_with fail
      go_ret
      exact ⟨ret_str (by rw [HD.out]; simp), hB.trans (hb9.mono hB.size)⟩

theorem impl_digest (b off len cap : Nat) (bs : List UInt8) (w : World) (h : Sl w (some ⟨b, off, none⟩) len bs) (hsz : len ≤ 1099511627776) (hK : KW w) :
    Calls Tryd.prog 41 #[.slice (some ⟨b, off, none⟩) len cap] w fun e w' => e = .returned (.string ⟨(digest bs).toArray⟩) ∧ Below w.heap.size w w' :=
  impl_digestA (some ⟨b, off, none⟩) len cap bs w h hsz hK

end Go.Proofs.YtmdhkoiimffmlaaDoor.sha
