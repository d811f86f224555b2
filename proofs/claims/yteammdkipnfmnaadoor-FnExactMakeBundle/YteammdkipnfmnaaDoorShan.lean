/- The program's Padded. The program's digest. The program's bytes of leaves, nodes and roots, and their digests. The program's inner digests and roots: a closure that calls itself. -/
import Derived.Test.YteammdkipnfmnaaDoorShaa
import Derived.Test.YteammdkipnfmnaaDoorSham
import Derived.Deep.RegionWith
import Derived.Test.YteammdkipnfmnaaDoorShal
import Derived.Laws.EntriesVeiled
namespace Go.Proofs.YteammdkipnfmnaaDoor.padmath
open Go.RowKit Go.Proofs.YteammdkipnfmnaaDoor.base
set_option linter.unusedVariables false
set_option linter.unusedSimpArgs false

def padAt (bs : List UInt8) (i : Nat) : List UInt8 := padTo bs (zeros bs.length + (8 - i)) ++ (be8 (bs.length * 8)).drop (8 - i)
theorem padAt_zero (bs : List UInt8) : padAt bs 0 = padTo bs (zeros bs.length + 8) := by
  rw [padAt, List.drop_eq_nil_of_le (by rw [be8_length]; omega), List.append_nil]
theorem padAt_all (bs : List UInt8) : padAt bs 8 = padded bs := by
  rw [padAt, padded]; rfl
theorem padAt_set (bs : List UInt8) (i : Nat) (h : i < 8) (u : UInt8) (hu : u = (be8 (bs.length * 8))[7 - i]'(by rw [be8_length]; omega)) : (padAt bs i).set (bs.length + 9 + zeros bs.length - 1 - i) u = padAt bs (i + 1) := by
  have e1 : zeros bs.length + (8 - i) = zeros bs.length + (8 - (i + 1)) + 1 := by omega
  rw [padAt, e1, ← padTo_snoc, List.append_assoc, List.set_append_right _ _ (by rw [padTo_length]; omega), padTo_length, show bs.length + 9 + zeros bs.length - 1 - i - (bs.length + 1 + (zeros bs.length + (8 - (i + 1)))) = 0 by omega]
  rw [padAt, hu]
  have e2 : (be8 (bs.length * 8)).drop (8 - (i + 1)) = (be8 (bs.length * 8))[7 - i]'(by rw [be8_length]; omega) :: (be8 (bs.length * 8)).drop (8 - i) := by
    rw [show 8 - (i + 1) = 7 - i by omega, List.drop_eq_getElem_cons (by rw [be8_length]; omega), show 7 - i + 1 = 8 - i by omega]
  rw [e2]; rfl
theorem be8_up (len i : Nat) (h : i < 8) : (len : Int) * 8 / 2 ^ (8 * i) % 256 = (((be8 (len * 8))[7 - i]'(by rw [be8_length]; omega)).toNat : Int) := by
  have := be8_at len (7 - i) (by omega)
  rw [show 56 - 8 * (7 - i) = 8 * i by omega, getElem!_pos (be8 (len * 8)) (7 - i) (by rw [be8_length]; omega)] at this
  exact this

set_option maxRecDepth 100000 in
set_option maxHeartbeats 2000000 in
theorem impl_padded (a : Option Addr) (len cap : Nat) (bs : List UInt8) (w : World) (h : Sl w a len bs) (hsz : len ≤ 1099511627776) :
    Calls Tryd.prog 83 #[.slice a len cap] w fun e w' =>
      ∃ g' n' cap', e = .returned (.slice (some ⟨g', 0, none⟩) n' cap') ∧ Own w' w.heap.size g' n' cap' (padded bs) ∧ Below w.heap.size w w' := by
  obtain ⟨hl, hm, hc⟩ := h
  obtain ⟨i0, hi, hz0, hz1, hz2⟩ := info_parts info8
  have hzl := zeros_lt len
  obtain ⟨N, hN⟩ : ∃ N, N = len + 9 + zeros len := ⟨_, rfl⟩
  have hNb : N ≤ 1099511627900 := by omega
  have hNs : (len : Int) + 1 + 8 + -(((len : Int) + 1 + 8) % 64) % 64 = (N : Int) := by rw [hN]; unfold zeros; omega
  have hNl : len < N := by omega
  have HN := Hid.mk' hN
  clear hN hzl
  go_enter Tryd.func83, Tryd.ntmps83
  go_wp2_with (at_make; refine wpList_make_full _ rfl _ _ 92 rfl w.heap.size 5 i0 (.int .u8 0) 1 Tryd.underlying92 hi hz0 hz1 _ _ _ _ N rfl rfl (by omega) (by omega) ?b2 ?b3 ?b4 ?_)
  case b2 => rw [hz2]; omega
  case b3 => unfold maxLen; omega
  case b4 => exact Nat.le_refl _
  intro w1 hown hgrow
  have hOwn : Own w1 w.heap.size w.heap.size N N (List.replicate N 0) := by
    refine ⟨by simp, ?_⟩
    have e : byteVals (List.replicate N 0) = (madeCells #[.int .u8 0] N).toList := by
      simp [byteVals, toList_madeCells_one]
    rw [e]; simpa using hown
  have hbel : Below w.heap.size w w1 := (Below.refl _ _).grown hgrow (Nat.le_refl _) (fun k e => by cases e)
  have hrow := own_row hOwn
  have hpos : 0 < (byteVals bs).length → (some (⟨w.heap.size, 0, none⟩ : Addr)) = some ⟨w.heap.size, 0, none⟩ ∧ ∃ ad, a = some ad ∧ ∀ j v, (byteVals bs)[j]? = some v → w1.cell? (ad.add j) = some v := by
    intro h0
    rw [byteVals_length] at h0
    obtain ⟨b, off, ha, hcl⟩ := hc (by omega)
    refine ⟨rfl, ⟨b, off, none⟩, ha, fun j v hj => ?_⟩
    have hjl : j < bs.length := by have := (List.getElem?_eq_some_iff.1 hj).1; rwa [byteVals_length] at this
    rw [Addr.add_lit, hbel.cell (p := ⟨b, off + j, none⟩) (World.block_lt_of_cell? w _ (hcl j hjl)), hcl j hjl, ← hj]
    simp [byteVals, hjl]
  have HROW := Hid.mk' hrow
  have HPOS := Hid.mk' hpos
  clear hown hgrow hrow hpos hc hOwn
  have hsz1 : (Tryd.prog.info? 5).map (·.size) = some 1 := by rw [hi]; simp [hz1]
  go_wp2_with (refine wpList_copy_splice rfl (.tmp 19) (.tmp 20) 92 92 rfl 5 Tryd.underlying92 hsz1 _ _ _ _ _ _ rfl rfl w.heap.size 0 (byteVals (List.replicate N 0)) 5 HROW.out (byteVals bs) ?d1 HPOS.out ?d2 (byteVals_oneCell _) w.heap.size w hbel (Nat.le_refl _) ?_)
  case d1 => rw [byteVals_length, hl]; show len = min len N; omega
  case d2 => rw [byteVals_length, byteVals_length]; simp; omega
  intro w2 hrow2 hb2
  have e : splice (byteVals (List.replicate N 0)) 0 (byteVals bs) = byteVals (bs ++ List.replicate (N - len) 0) := by
    simp [splice, byteVals, hl]
  have hx := hrow2.out
  rw [e] at hx
  have hO2 : Own w2 w.heap.size w.heap.size N N (bs ++ List.replicate (N - len) 0) := own_of_row (by simp; omega) (by unfold maxLen; omega) (Nat.le_refl _) hx
  have c2 : w2.cell? ⟨w.heap.size, len, none⟩ = some (.int .u8 0) := by
    rw [hO2.at len (by simp; omega)]; simp [List.getElem_append, hl]
  have c3 : w2.frozen? ⟨w.heap.size, len, none⟩ = false := hO2.frozen len
  have R := own_set hO2 len 128
  have e3 : (bs ++ List.replicate (N - len) 0).set len 128 = padAt bs 0 := by
    rw [padAt_zero, List.set_append_right _ _ (by omega), hl, Nat.sub_self, padTo, show N - len = (zeros len + 8) + 1 by have := HN.out; omega]; rfl
  rw [e3] at R
  have HR := Hid.mk' R
  clear hrow2 hx hO2 R e e3 HROW HPOS
  go_wp2_with (at_builtin; fail)
  go_loopw [30] (fun iv wr => ∃ i : Nat, i ≤ 8 ∧ iv = .int .i64 (i : Int) ∧ Own wr w.heap.size w.heap.size N N (padAt bs i) ∧ Below w.heap.size w wr) (fun iv _ => 8 - (intOf iv).toNat)
  case atStart => exact ⟨0, by omega, rfl, HR.out.1, hb2.trans (below_grown HR.out.2 (Nat.le_refl _) hb2.size)⟩
  case round =>
    clear hb2 c2 c3 HR
    obtain ⟨i, hi8, rfl, hO, hB⟩ := hrel
    by_cases hlt : i < 8
    · clear hNs
      obtain ⟨p, hp, hp2⟩ : ∃ p : Nat, (N : Int) - 1 - (i : Int) = (p : Int) ∧ p = len + 9 + zeros len - 1 - i := ⟨N - 1 - i, by have := HN.out; omega, by rw [HN.out]⟩
      have hpN : p < N := by omega
      have hpl : p < (padAt bs i).length := by rw [hO.1]; exact hpN
      have c2 : wr.cell? ⟨w.heap.size, p, none⟩ = some (.int .u8 (padAt bs i)[p].toNat) := hO.at p hpl
      have c3 : wr.frozen? ⟨w.heap.size, p, none⟩ = false := hO.frozen p
      have hup := be8_up len i hlt
      have hst := fun u hu => padAt_set bs i hlt u hu
      rw [hl, ← hp2] at hst
      generalize hU : (be8 (len * 8))[7 - i]'(by rw [be8_length]; omega) = u at hup
      have R := own_set hO p u
      rw [hst u hU.symm] at R
      have HR := Hid.mk' R
      generalize (padAt bs i)[p].toNat = old at c2
      have hul := u.toNat_lt
      have HU := Hid.mk' hup
      clear R hst hU hp2 hpl hO hup
      go_wp2_with (at_builtin; fail)
      go_roundw
      case rel =>
        rw [HU.out]
        exact ⟨i + 1, by omega, by go_num, HR.out.1, hB.trans (below_grown HR.out.2 (Nat.le_refl _) hB.size)⟩
      case measure => simp [intOf]; omega
    · have HE : Hid (i = 8) := by show _ = _; omega
      go_wp2_with (at_builtin; fail)
      go_ret
      rw [HE.out, padAt_all] at hO
      exact ⟨_, _, _, rfl, hO, hB⟩

end Go.Proofs.YteammdkipnfmnaaDoor.padmath

namespace Go.Proofs.YteammdkipnfmnaaDoor.sha
open Go.RowKit Go.Proofs.YteammdkipnfmnaaDoor.base Go.Proofs.YteammdkipnfmnaaDoor.padmath
set_option linter.unusedVariables false
set_option linter.unusedSimpArgs false

theorem list8 {l : List Nat} (h : l.length = 8) : ∃ x0 x1 x2 x3 x4 x5 x6 x7 : Nat, l = [x0, x1, x2, x3, x4, x5, x6, x7] := by
  match l, h with
  | [x0, x1, x2, x3, x4, x5, x6, x7], _ => exact ⟨x0, x1, x2, x3, x4, x5, x6, x7, rfl⟩
theorem Arr.set8 {w : World} {g : Nat} {t : TypeId} {x0 x1 x2 x3 x4 x5 x6 x7 : Nat} (h : Arr w g t [x0, x1, x2, x3, x4, x5, x6, x7]) (y0 y1 y2 y3 y4 y5 y6 y7 : Nat) :
    Arr ((((((((w.setCell ⟨g, 0, none⟩ (.int .u32 (y0 : Int))).setCell ⟨g, 1, none⟩ (.int .u32 (y1 : Int))).setCell ⟨g, 2, none⟩ (.int .u32 (y2 : Int))).setCell ⟨g, 3, none⟩ (.int .u32 (y3 : Int))).setCell ⟨g, 4, none⟩ (.int .u32 (y4 : Int))).setCell ⟨g, 5, none⟩ (.int .u32 (y5 : Int))).setCell ⟨g, 6, none⟩ (.int .u32 (y6 : Int))).setCell ⟨g, 7, none⟩ (.int .u32 (y7 : Int))) g t [y0, y1, y2, y3, y4, y5, y6, y7] ∧ w.grownBy ((((((((w.setCell ⟨g, 0, none⟩ (.int .u32 (y0 : Int))).setCell ⟨g, 1, none⟩ (.int .u32 (y1 : Int))).setCell ⟨g, 2, none⟩ (.int .u32 (y2 : Int))).setCell ⟨g, 3, none⟩ (.int .u32 (y3 : Int))).setCell ⟨g, 4, none⟩ (.int .u32 (y4 : Int))).setCell ⟨g, 5, none⟩ (.int .u32 (y5 : Int))).setCell ⟨g, 6, none⟩ (.int .u32 (y6 : Int))).setCell ⟨g, 7, none⟩ (.int .u32 (y7 : Int))) (some g) := by
  have s0 := (h).set 0 y0
  have s1 := (s0.1).set 1 y1
  have s2 := (s1.1).set 2 y2
  have s3 := (s2.1).set 3 y3
  have s4 := (s3.1).set 4 y4
  have s5 := (s4.1).set 5 y5
  have s6 := (s5.1).set 6 y6
  have s7 := (s6.1).set 7 y7
  exact ⟨s7.1, (grownBy_trans (grownBy_trans (grownBy_trans (grownBy_trans (grownBy_trans (grownBy_trans (grownBy_trans s0.2 s1.2) s2.2) s3.2) s4.2) s5.2) s6.2) s7.2)⟩
theorem impl_blockD (x0 x1 x2 x3 x4 x5 x6 x7 : Nat) (bs : List UInt8) (w : World) (hs : ∀ x ∈ [x0, x1, x2, x3, x4, x5, x6, x7], x < 4294967296) (hK : KW w) (y0 y1 y2 y3 y4 y5 y6 y7 : Nat) (hY : [y0, y1, y2, y3, y4, y5, y6, y7] = block K64 [x0, x1, x2, x3, x4, x5, x6, x7] bs) :
    Calls Tryd.prog 84 #[.agg #[.int .u32 (x0 : Int), .int .u32 (x1 : Int), .int .u32 (x2 : Int), .int .u32 (x3 : Int), .int .u32 (x4 : Int), .int .u32 (x5 : Int), .int .u32 (x6 : Int), .int .u32 (x7 : Int)], .agg #[.int .u32 (be32 bs 0 : Int), .int .u32 (be32 bs 1 : Int), .int .u32 (be32 bs 2 : Int), .int .u32 (be32 bs 3 : Int), .int .u32 (be32 bs 4 : Int), .int .u32 (be32 bs 5 : Int), .int .u32 (be32 bs 6 : Int), .int .u32 (be32 bs 7 : Int), .int .u32 (be32 bs 8 : Int), .int .u32 (be32 bs 9 : Int), .int .u32 (be32 bs 10 : Int), .int .u32 (be32 bs 11 : Int), .int .u32 (be32 bs 12 : Int), .int .u32 (be32 bs 13 : Int), .int .u32 (be32 bs 14 : Int), .int .u32 (be32 bs 15 : Int)]] w fun e w' => e = .returned (.agg #[.int .u32 (y0 : Int), .int .u32 (y1 : Int), .int .u32 (y2 : Int), .int .u32 (y3 : Int), .int .u32 (y4 : Int), .int .u32 (y5 : Int), .int .u32 (y6 : Int), .int .u32 (y7 : Int)]) ∧ Below w.heap.size w w' := by
  refine (impl_block x0 x1 x2 x3 x4 x5 x6 x7 bs w hs hK).mono ?_
  rintro e w' ⟨z0, z1, z2, z3, z4, z5, z6, z7, rfl, hz, hb⟩
  rw [← hY] at hz
  injection hz with e0 hz; injection hz with e1 hz; injection hz with e2 hz; injection hz with e3 hz
  injection hz with e4 hz; injection hz with e5 hz; injection hz with e6 hz; injection hz with e7 hz
  subst e0; subst e1; subst e2; subst e3; subst e4; subst e5; subst e6; subst e7
  exact ⟨rfl, hb⟩

set_option maxRecDepth 100000 in
set_option maxHeartbeats 4000000 in
theorem impl_digestA (a0 : Option Addr) (len cap : Nat) (bs : List UInt8) (w : World) (h : Sl w a0 len bs) (hsz : len ≤ 1099511627776) (hK : KW w) :
    Calls Tryd.prog 76 #[.slice a0 len cap] w fun e w' => e = .returned (.string ⟨(digest bs).toArray⟩) ∧ Below w.heap.size w w' := by
  have hl := h.1
  have hba : Below w.heap.size w (w.alloc (.cells #[.int .u32 1779033703, .int .u32 3144134277, .int .u32 1013904242, .int .u32 2773480762, .int .u32 1359893119, .int .u32 2600822924, .int .u32 528734635, .int .u32 1541459225] 117)) := (Below.refl _ _).alloc (Nat.le_refl _) _
  have hA0 : Arr (w.alloc (.cells #[.int .u32 1779033703, .int .u32 3144134277, .int .u32 1013904242, .int .u32 2773480762, .int .u32 1359893119, .int .u32 2600822924, .int .u32 528734635, .int .u32 1541459225] 117)) w.heap.size 117 H8 := arr_new _ _ _ rfl rfl
  have hS0 := h.below hba
  go_enter Tryd.func76, Tryd.ntmps76
  go_wp2_with fail
  refine (impl_padded _ len cap bs _ hS0 hsz).mono ?_
  rintro e w1 ⟨gp, np, capp, rfl, hP, hB1⟩
  have HPL := Hid.mk' hP.1
  have hpb : np ≤ 1099511627776 + 100 := by rw [← hP.1, padded_length]; unfold zeros; omega
  have hmod : np % 64 = 0 := by rw [← hP.1]; exact padded_mod bs
  have hmx := hP.max
  have hA1 := hA0.below hB1
  have hBw : Below w.heap.size w w1 := hba.trans (hB1.mono (by simp))
  have hgp : w.heap.size + 1 ≤ gp := by have := hP.lt.1; simp at this; omega
  have hP1 := hP.sl
  clear hba hA0 hS0 hB1 hP
  go_wp2_with fail
  go_loopw [5] (fun iv wr => ∃ a : Nat, a ≤ np ∧ a % 64 = 0 ∧ iv = .int .i64 (a : Int) ∧ Arr wr w.heap.size 117 (hashTo (padded bs) (a / 64)) ∧ Sl wr (some ⟨gp, 0, none⟩) np (padded bs) ∧ Below w.heap.size w wr) (fun iv _ => np - (intOf iv).toNat)
  case atStart => exact ⟨0, Nat.zero_le _, rfl, rfl, hA1, hP1, hBw⟩
  case round =>
    clear hA1 hP1 hBw
    obtain ⟨a, ha, ham, rfl, hA, hP, hB⟩ := hrel
    obtain ⟨x0, x1, x2, x3, x4, x5, x6, x7, hX⟩ := list8 (hashTo_length (padded bs) (a / 64))
    have hxl : ∀ x ∈ [x0, x1, x2, x3, x4, x5, x6, x7], x < 4294967296 := by rw [← hX]; exact hashTo_lt _ _
    rw [hX] at hA
    by_cases hlt : a < np
    · have ha64 : a + 64 ≤ np := by omega
      obtain ⟨y0, y1, y2, y3, y4, y5, y6, y7, hY⟩ := list8 (hashTo_length (padded bs) ((a + 64) / 64))
      have HN : Hid ([y0, y1, y2, y3, y4, y5, y6, y7] = block K64 [x0, x1, x2, x3, x4, x5, x6, x7] (((padded bs).drop a).take 64)) := by
        show _ = _
        rw [← hY, ← hX, show (a + 64) / 64 = a / 64 + 1 by omega]
        show block _ _ (((padded bs).drop (64 * (a / 64))).take 64) = _
        rw [show 64 * (a / 64) = a by omega]
      have HY := Hid.mk' hY
      have hSb : Sl wr.drew (some ⟨gp, 0 + a, none⟩) 64 (((padded bs).drop a).take 64) := sl_sub hP a 64 ha64
      rw [Nat.zero_add] at hSb
      have hK1 : KW wr := hK.below hB
      obtain ⟨c0, c1, c2, c3, c4, c5, c6, c7⟩ := hA.eight
      have hfz := hA.frozen
      clear hX hY
      generalize ((padded bs).drop a).take 64 = blk at *
      have e64 : IntKind.i64.wrap ((a : Int) + 64) = (a : Int) + 64 := by rw [IntKind.wrap_i64]; omega
      have q1 : (0 : Int) ≤ (a : Int) := by omega
      have hAd : Arr wr.drew w.heap.size 117 [x0, x1, x2, x3, x4, x5, x6, x7] := hA
      have hK1d : KW wr.drew := hK1
      have q2 : (a : Int) ≤ (a : Int) + 64 := by omega
      have q3 : (a : Int) + 64 ≤ (capp : Int) := by omega
      have q4 : ¬ capp = a := by omega
      have q5 : ((a : Int) + 64).toNat - a = 64 := by omega
      go_wp2_with fail
      go_region_with (first | (go_at_call 85; refine (impl_words gp a (capp - a) blk wr.drew hSb).mono ?_; rintro e wx ⟨rfl, hbx⟩; obtain ⟨k0, k1, k2, k3, k4, k5, k6, k7⟩ := (show Arr wx w.heap.size 117 [x0, x1, x2, x3, x4, x5, x6, x7] from hAd.below hbx).eight) | (go_at_call 84; refine (impl_blockD x0 x1 x2 x3 x4 x5 x6 x7 blk _ hxl (hK1d.below hbx) y0 y1 y2 y3 y4 y5 y6 y7 HN.out).mono ?_; rintro e wy ⟨rfl, hby⟩; have hA2 : Arr wy w.heap.size 117 [x0, x1, x2, x3, x4, x5, x6, x7] := (show Arr wx w.heap.size 117 [x0, x1, x2, x3, x4, x5, x6, x7] from hAd.below hbx).below hby; obtain ⟨m0, m1, m2, m3, m4, m5, m6, m7⟩ := hA2.eight; have hfz2 := hA2.frozen))
      all_goals
        have hBd : Below w.heap.size w wr.drew := hB.drew
        have hBx : Below w.heap.size w wx := hBd.trans (hbx.mono hBd.size)
        have hBy : Below w.heap.size w wy := hBx.trans (hby.mono hBx.size)
        have h8 := hA2.set8 y0 y1 y2 y3 y4 y5 y6 y7
        have hPd : Sl wr.drew (some ⟨gp, 0, none⟩) np (padded bs) := hP
        have HP := Hid.mk' (((hPd.below hbx).below hby).grown h8.2 (fun e => by simp only [Option.some.injEq] at e; omega))
        have HB := Hid.mk' (hBy.trans (below_grown h8.2 (Nat.le_refl _) hBy.size))
        have HA := Hid.mk' h8.1
        clear hBd hBx hBy h8 hPd hP hbx hby hA2 hfz2 m0 m1 m2 m3 m4 m5 m6 m7 k0 k1 k2 k3 k4 k5 k6 k7 c0 c1 c2 c3 c4 c5 c6 c7 hfz hA hAd hK1 hK1d hSb e64 q1 q2 q3 q4 q5 hB
        go_wp2_with fail
        go_roundw
        case rel => exact ⟨a + 64, ha64, by omega, by go_num, by rw [HY.out]; exact HA.out, HP.out, HB.out⟩
        case measure => simp [intOf]; omega
    · have HE : Hid (a = np) := by show _ = _; omega
      have HD : Hid (digest bs = ([x0, x1, x2, x3, x4, x5, x6, x7].map word4).flatten) := by
        show _ = _; unfold digest; rw [HPL.out, ← HE.out, hX]
      obtain ⟨c0, c1, c2, c3, c4, c5, c6, c7⟩ := hA.eight
      clear hA hP hX hK
      go_wp2_with fail
      refine (impl_bytes x0 x1 x2 x3 x4 x5 x6 x7 _ hxl).mono ?_
      rintro e w9 ⟨rfl, hb9⟩
      go_wp2_with fail
      go_ret
      exact ⟨ret_str (by rw [HD.out]; simp), hB.trans (hb9.mono hB.size)⟩

theorem impl_digest (b off len cap : Nat) (bs : List UInt8) (w : World) (h : Sl w (some ⟨b, off, none⟩) len bs) (hsz : len ≤ 1099511627776) (hK : KW w) :
    Calls Tryd.prog 76 #[.slice (some ⟨b, off, none⟩) len cap] w fun e w' => e = .returned (.string ⟨(digest bs).toArray⟩) ∧ Below w.heap.size w w' :=
  impl_digestA (some ⟨b, off, none⟩) len cap bs w h hsz hK

end Go.Proofs.YteammdkipnfmnaaDoor.sha

namespace Go.Proofs.YteammdkipnfmnaaDoor.tree
open Go Go.RowKit Go.Proofs.YteammdkipnfmnaaDoor.base Go.Proofs.YteammdkipnfmnaaDoor.pairs Go.Proofs.YteammdkipnfmnaaDoor.puttext Go.Proofs.YteammdkipnfmnaaDoor.putnum
set_option linter.unusedVariables false
set_option linter.unusedSimpArgs false

theorem texts_two (a b : ByteArray) : textsBytes [a, b] = textBytes a ++ textBytes b := by simp [textsBytes]
set_option maxRecDepth 100000 in
set_option maxHeartbeats 1000000 in
theorem impl_leafBytes (p : Pr) (w : World) (hp : lim p) :
    Calls Tryd.prog 87 #[.agg #[.string p.1, .string p.2]] w fun e w' =>
      ∃ g' n' cap', e = .returned (.slice (some ⟨g', 0, none⟩) n' cap') ∧ Own w' w.heap.size g' n' cap' (leafB p) ∧ Below w.heap.size w w' := by
  have hp1 := hp.1
  have hp2 := hp.2
  have ht1 := textBytes_length p.1
  have ht2 := textBytes_length p.2
  obtain ⟨W0, hW0⟩ : ∃ W, W = w.alloc (.cells #[.string p.1, .string p.2] 65) := ⟨_, rfl⟩
  obtain ⟨W1, hW1⟩ : ∃ W, W = W0.alloc (.cells #[.int .u8 0] 5) := ⟨_, rfl⟩
  have hs0 : W0.heap.size = w.heap.size + 1 := by rw [hW0]; simp
  have hs1 : W1.heap.size = w.heap.size + 1 + 1 := by rw [hW1]; simp [hs0]
  have hB0 : Below w.heap.size w W0 := by rw [hW0]; exact (Below.refl _ _).alloc (Nat.le_refl _) _
  have hB1 : Below w.heap.size w W1 := by rw [hW1]; exact hB0.alloc hB0.size _
  have hB2 : Below w.heap.size w (W1.alloc (.cells #[.string p.1, .string p.2] 9)) := hB1.alloc hB1.size _
  have hO1 : Own W1 w.heap.size W0.heap.size 1 1 [0] := by rw [hW1]; exact own_one W0 0 0 rfl w.heap.size hB0.size
  have hO2 : Own (W1.alloc (.cells #[.string p.1, .string p.2] 9)) w.heap.size (w.heap.size + 1) 1 1 [0] := by
    have := hO1.below ((Below.refl W1.heap.size W1).alloc (Nat.le_refl _) (.cells #[.string p.1, .string p.2] 9))
    rw [hs0] at this; exact this
  have hS : SlS (W1.alloc (.cells #[.string p.1, .string p.2] 9)) (some ⟨w.heap.size + 1 + 1, 0, none⟩) 2 [p.1, p.2] := by
    refine ⟨rfl, by unfold maxLen; omega, fun s hs => ?_, fun _ => ⟨_, _, rfl, fun i hi => ?_⟩⟩
    · simp at hs; unfold maxLen; rcases hs with rfl | rfl <;> omega
    · rw [← hs1]
      match i, hi with
      | 0, _ => simp
      | 1, _ => simp
  have hblk : ∀ b off, (some ⟨w.heap.size + 1 + 1, 0, none⟩ : Option Addr) = some ⟨b, off, none⟩ → ∃ cur mk, (W1.alloc (.cells #[.string p.1, .string p.2] 9)).heap[b]? = some (.cells cur 9 mk) := by
    intro b off e
    simp only [Option.some.injEq, Addr.mk.injEq, and_true] at e
    obtain ⟨rfl, rfl⟩ := e
    rw [← hs1]
    exact ⟨_, _, heap_alloc_new W1 _⟩
  have hA := addTexts (w.heap.size + 1) 1 1 w.heap.size [0] (some ⟨w.heap.size + 1 + 1, 0, none⟩) 2 2 [p.1, p.2] _ hO2 hB2.size hS hblk (by rw [texts_two, List.length_append]; omega) (fun s hs => by simp at hs; rcases hs with rfl | rfl <;> omega)
  rw [texts_two] at hA
  have HA := Hid.mk' hA
  have HB := Hid.mk' hB2
  have HW : Hid (W1 = (w.alloc (.cells #[.string p.1, .string p.2] 65)).alloc (.cells #[.int .u8 0] 5)) := by show _ = _; rw [hW1, hW0]
  clear hA hO1 hO2 hS hblk hB0 hB1 hB2 hW0 hW1 hs0 hs1 ht1 ht2
  have HA2 := HA
  rw [HW.out] at HA HB
  clear HA2
  go_enter Tryd.func87, Tryd.ntmps87
  go_wp2_with fail
  refine HA.out.mono ?_
  rintro e w1 ⟨g1, n1, cap1, rfl, hO, hb, _⟩
  have HO := Hid.mk' hO
  have hB : Below w.heap.size w w1 := HB.out.trans hb
  clear hO hb
  go_wp2_with fail
  go_ret
  exact ⟨g1, n1, cap1, rfl, by have := HO.out; rw [← List.append_assoc] at this; exact this, hB⟩

set_option maxHeartbeats 1000000 in
theorem impl_leafOf (p : Pr) (w : World) (hp : lim p) (hK : sha.KW w) :
    Calls Tryd.prog 77 #[.agg #[.string p.1, .string p.2]] w fun e w' => e = .returned (.string (leafOf p)) ∧ Below w.heap.size w w' := by
  have hba : Below w.heap.size w (w.alloc (.cells #[.string p.1, .string p.2] 65)) := (Below.refl _ _).alloc (Nat.le_refl _) _
  have hlen := leafB_length p
  have hp1 := hp.1
  have hp2 := hp.2
  have HL := Hid.mk' (impl_leafBytes p (w.alloc (.cells #[.string p.1, .string p.2] 65)) hp)
  go_enter Tryd.func77, Tryd.ntmps77
  go_wp2_with fail
  refine HL.out.mono ?_
  rintro e w1 ⟨g, n, cp, rfl, hO, hb1⟩
  have hB1 : Below w.heap.size w w1 := hba.trans (hb1.mono hba.size)
  have hn : n ≤ 1099511627776 := by have := hO.1; omega
  have HD := Hid.mk' (sha.impl_digest g 0 n cp (leafB p) w1 hO.sl hn (hK.below hB1))
  clear hO hb1 hba
  go_wp2_with fail
  refine HD.out.mono ?_
  rintro e w2 ⟨rfl, hb2⟩
  have hB2 : Below w.heap.size w w2 := hB1.trans (hb2.mono hB1.size)
  go_wp2_with fail
  go_ret
  exact ⟨rfl, hB2⟩

set_option maxRecDepth 100000 in
set_option maxHeartbeats 1000000 in
theorem impl_nodeBytes (a b : ByteArray) (w : World) (ha : a.size ≤ 137438953472) (hb : b.size ≤ 137438953472) :
    Calls Tryd.prog 88 #[.string a, .string b] w fun e w' =>
      ∃ g' n' cap', e = .returned (.slice (some ⟨g', 0, none⟩) n' cap') ∧ Own w' w.heap.size g' n' cap' (nodeB a b) ∧ Below w.heap.size w w' := by
  obtain ⟨i0, hi, hz0, hz1, hz2⟩ := info_parts info8
  have hO0 := own_one w 1 1 rfl w.heap.size (Nat.le_refl _)
  have hB0 : Below w.heap.size w (w.alloc (.cells #[.int .u8 1] 5)) := (Below.refl _ _).alloc (Nat.le_refl _) _
  have hc3 : 1 + a.size ≤ maxLen := by unfold maxLen; omega
  have hc4 : 1 + a.size ≤ 140737488355328 := by omega
  go_enter Tryd.func88, Tryd.ntmps88
  go_wp2_with (at_builtin; refine Lib.wpList_append_own_string _ rfl (.tmp 5) (.tmp 6) 92 9 rfl w.heap.size 5 i0 Tryd.underlying92 Tryd.underlying9 hi hz0 hz1 hz2 _ _ _ rfl hO0.2 a rfl hc3 hc4 hB0.size ?_)
  intro v1 w1 hown hgrow hnn
  have hnn' : ¬ v1 = .slice none 0 0 := by simpa using hnn
  rw [strCells_eq] at hown
  obtain ⟨g1, cap1, hv, hO1⟩ := own_app (m := a.size) (ns := a.data.toList) hO0.1 (size_toList a) rfl hnn' hown
  subst hv
  have hB1 : Below w.heap.size w w1 := hB0.grown hgrow hB0.size (fun k e => by simp [Value.ownBlock] at e; omega)
  have hc5 : 1 + a.size + b.size ≤ maxLen := by unfold maxLen; omega
  have hc6 : 1 + a.size + b.size ≤ 140737488355328 := by omega
  have hs1 := hB1.size
  clear hown hgrow hnn hnn' hO0 hB0 hc3 hc4
  go_wp2_with (at_builtin; refine Lib.wpList_append_own_string _ rfl (.tmp 7) (.tmp 8) 92 9 rfl w.heap.size 5 i0 Tryd.underlying92 Tryd.underlying9 hi hz0 hz1 hz2 _ _ _ rfl hO1.2 b rfl hc5 hc6 hs1 ?_)
  intro v2 w2 hown hgrow hnn
  have hnn' : ¬ v2 = .slice none 0 0 := by simpa using hnn
  rw [strCells_eq] at hown
  obtain ⟨g2, cap2, hv, hO2⟩ := own_app (m := b.size) (ns := b.data.toList) hO1.1 (size_toList b) rfl hnn' hown
  subst hv
  have hB2 : Below w.heap.size w w2 := hB1.grown hgrow hs1 (fun k e => by simp [Value.ownBlock] at e; have := hO1.lt; omega)
  have HO := Hid.mk' hO2
  clear hown hgrow hnn hnn' hO1 hB1 hO2
  go_wp2_with fail
  go_ret
  exact ⟨g2, _, cap2, rfl, HO.out, hB2⟩

set_option maxHeartbeats 1000000 in
theorem impl_nodeOf (a b : ByteArray) (w : World) (ha : a.size ≤ 137438953472) (hb : b.size ≤ 137438953472) (hK : sha.KW w) :
    Calls Tryd.prog 78 #[.string a, .string b] w fun e w' => e = .returned (.string (nodeOf a b)) ∧ Below w.heap.size w w' := by
  have hlen := nodeB_length a b
  have HL := Hid.mk' (impl_nodeBytes a b w ha hb)
  go_enter Tryd.func78, Tryd.ntmps78
  go_wp2_with fail
  refine HL.out.mono ?_
  rintro e w1 ⟨g, n, cp, rfl, hO, hB1⟩
  have hn : n ≤ 1099511627776 := by have := hO.1; omega
  have HD := Hid.mk' (sha.impl_digest g 0 n cp (nodeB a b) w1 hO.sl hn (hK.below hB1))
  clear hO
  go_wp2_with fail
  refine HD.out.mono ?_
  rintro e w2 ⟨rfl, hb2⟩
  have hB2 : Below w.heap.size w w2 := hB1.trans (hb2.mono hB1.size)
  go_wp2_with fail
  go_ret
  exact ⟨rfl, hB2⟩

end Go.Proofs.YteammdkipnfmnaaDoor.tree

namespace Go.Proofs.YteammdkipnfmnaaDoor.tree
open Go Go.RowKit Go.Proofs.YteammdkipnfmnaaDoor.base Go.Proofs.YteammdkipnfmnaaDoor.pairs Go.Proofs.YteammdkipnfmnaaDoor.puttext Go.Proofs.YteammdkipnfmnaaDoor.putnum
set_option linter.unusedVariables false
set_option linter.unusedSimpArgs false

theorem makeFunc_run (fn : Fn) (first cap : Array Value) (w : World) : (Instr.makeFunc fn first cap).run Tryd.prog w = .ok (.func fn first cap) w := rfl
def Self (w : World) (f t : Nat) : Prop := w.cell? ⟨t, 0, none⟩ = some (.func (.func f) #[] #[.pointer (some ⟨t, 0, none⟩)])
theorem Self.below {w w' : World} {f t : Nat} (h : Self w f t) (hb : Below w.heap.size w w') : Self w' f t :=
  (hb.cell (p := ⟨t, 0, none⟩) (World.block_lt_of_cell? w _ h)).trans h

set_option maxRecDepth 100000 in
set_option maxHeartbeats 2000000 in
theorem impl_tree (m : Nat) : ∀ (l : List Pr), l.length = m → m ≤ 60 → (∀ p ∈ l, lim p) → ∀ (b off cap t : Nat) (w : World), SlP w (some ⟨b, off, none⟩) l.length l → l.length ≤ cap → Self w 75 t → sha.KW w →
    Calls Tryd.prog 75 #[.slice (some ⟨b, off, none⟩) l.length cap, .pointer (some ⟨t, 0, none⟩)] w fun e w' => e = .returned (.string (inner l)) ∧ Below w.heap.size w w' := by
  induction m using Nat.strongRecOn with
  | _ m ih =>
    intro l hlm h60 hlim b off cap t w h hcap hT hK
    by_cases h0 : l.length = 0
    · obtain rfl : l = [] := List.eq_nil_of_length_eq_zero h0
      have HD := Hid.mk' (sha.impl_digestA none 0 0 [] w (sl_nil _ _) (by omega) hK)
      rw [inner_nil]
      clear ih hlim h hlm hT hK
      go_enter Tryd.func75, Tryd.ntmps75
      go_wp2_with fail
      refine HD.out.mono ?_
      rintro e w2 ⟨rfl, hb2⟩
      go_wp2_with fail
      go_ret
      exact ⟨rfl, hb2⟩
    by_cases h1 : l.length = 1
    · obtain ⟨p, rfl⟩ : ∃ p, l = [p] := List.length_eq_one_iff.1 h1
      obtain ⟨c1, c2⟩ := h.cells 0 (by simp)
      have HL := Hid.mk' (impl_leafOf p w (hlim p (by simp)) hK)
      rw [inner_one]
      simp only [List.getElem_cons_zero, Nat.zero_mul, Nat.add_zero] at c1 c2
      clear ih hlim h hlm hT hK
      go_enter Tryd.func75, Tryd.ntmps75
      go_wp2_with fail
      refine HL.out.mono ?_
      rintro e w2 ⟨rfl, hb2⟩
      go_wp2_with fail
      go_ret
      exact ⟨rfl, hb2⟩
    have h2 : 2 ≤ l.length := by omega
    have hbd := half_bd l.length h2
    have hst := inner_step l h2
    obtain ⟨k, hk⟩ : ∃ k, half l.length = k := ⟨_, rfl⟩
    have HH := Hid.mk' (impl_halves b off l.length cap w h2 (by omega) hcap k hk)
    rw [hk] at hbd hst
    have hltk : (l.take k).length = k := by simp; omega
    have hldk : (l.drop k).length = l.length - k := by simp
    have hs1 := inner_size (l.take k)
    have hs2 := inner_size (l.drop k)
    have HC1 : Hid (∀ wx, Below w.heap.size w wx → Calls Tryd.prog 75 #[.slice (some ⟨b, off, none⟩) k k, .pointer (some ⟨t, 0, none⟩)] wx fun e w' => e = .returned (.string (inner (l.take k))) ∧ Below wx.heap.size wx w') := fun wx hx => by
      have := ih k (by omega) (l.take k) hltk (by omega) (fun p hp => hlim p (List.mem_of_mem_take hp)) b off k t wx (slp_take (h.below hx) k (by omega)) (by omega) (hT.below hx) (hK.below hx)
      rw [hltk] at this; exact this
    have HC2 : Hid (∀ wx, Below w.heap.size w wx → Calls Tryd.prog 75 #[.slice (some ⟨b, off + k * 2, none⟩) (l.length - k) (l.length - k), .pointer (some ⟨t, 0, none⟩)] wx fun e w' => e = .returned (.string (inner (l.drop k))) ∧ Below wx.heap.size wx w') := fun wx hx => by
      have := ih (l.length - k) (by omega) (l.drop k) hldk (by omega) (fun p hp => hlim p (List.mem_of_mem_drop hp)) b (off + k * 2) (l.length - k) t wx (slp_drop (h.below hx) k) (by omega) (hT.below hx) (hK.below hx)
      rw [hldk] at this; exact this
    have HC3 : Hid (∀ wx, Below w.heap.size w wx → Calls Tryd.prog 78 #[.string (inner (l.take k)), .string (inner (l.drop k))] wx fun e w' => e = .returned (.string (inner l)) ∧ Below wx.heap.size wx w') := fun wx hx => by
      rw [hst]; exact impl_nodeOf _ _ wx (by omega) (by omega) (hK.below hx)
    have HT := Hid.mk' hT
    have q4 : ¬ (l.length : Int) = 0 := by omega
    have q5 : ¬ (l.length : Int) = 1 := by omega
    generalize inner (l.take k) = x1 at *
    generalize inner (l.drop k) = x2 at *
    generalize inner l = x0 at *
    clear ih hlim h hlm hst hltk hldk hs1 hs2 hk hT hK
    go_enter Tryd.func75, Tryd.ntmps75
    go_wp2_with fail
    refine HH.out.mono ?_
    rintro e w2 ⟨rfl, hB2⟩
    have hT2 := HT.out.below hB2
    have htl : t < w2.heap.size := World.block_lt_of_cell? w2 _ hT2
    have hcl := last.On.cell (B := w2.heap.size) (w := w2) hT2 htl
    have hc1 : ∀ x : last.On w2.heap.size w2, Calls Tryd.prog 75 #[.slice (some ⟨b, off, none⟩) k k, .pointer (some ⟨t, 0, none⟩)] x.w fun e w' => e = .returned (.string x1) ∧ ∃ y : last.On w2.heap.size w2, w' = y.w := fun x => last.Calls.on x (Nat.le_refl _) (HC1.out x.w (hB2.trans (x.2.mono hB2.size)))
    have hc2 : ∀ x : last.On w2.heap.size w2, Calls Tryd.prog 75 #[.slice (some ⟨b, off + k * 2, none⟩) (l.length - k) (l.length - k), .pointer (some ⟨t, 0, none⟩)] x.w fun e w' => e = .returned (.string x2) ∧ ∃ y : last.On w2.heap.size w2, w' = y.w := fun x => last.Calls.on x (Nat.le_refl _) (HC2.out x.w (hB2.trans (x.2.mono hB2.size)))
    have hc3 : ∀ x : last.On w2.heap.size w2, Calls Tryd.prog 78 #[.string x1, .string x2] x.w fun e w' => e = .returned (.string x0) ∧ ∃ y : last.On w2.heap.size w2, w' = y.w := fun x => last.Calls.on x (Nat.le_refl _) (HC3.out x.w (hB2.trans (x.2.mono hB2.size)))
    have hTl : w2.cell? ⟨t, 0, none⟩ = some (.func (.func 75) #[] #[.pointer (some ⟨t, 0, none⟩)]) := hT2
    clear hT2 HT HC1 HC2 HC3 HH
    go_wp2_with fail
    have hinh := last.On.inh w2.heap.size w2
    refine last.wp_region_on w2.heap.size (by kernel_rfl) (by kernel_rfl) ?_
    repeat (go_big_quiet_step ((first | (go_at_call 78; exact hc3 _) | (go_at_call 75; first | (with_reducible exact hc1 _) | (with_reducible exact hc2 _)))))
    refine wpQuiet_nil ?_
    intro w5 hw5
    obtain ⟨x5, hw5⟩ := hw5
    subst hw5
    have hB5 : Below w2.heap.size w2 x5.w := x5.2
    have hB6 : Below w.heap.size w x5.w := hB2.trans (hB5.mono hB2.size)
    go_wp2_with fail
    go_ret
    exact ⟨rfl, hB6⟩

theorem self_made (w : World) (t : TypeId) (f : Nat) : Self (w.alloc (.cells #[.func (.func f) #[] #[.pointer (some ⟨w.heap.size, 0, none⟩)]] t)) f w.heap.size := cell_of_one (heap_alloc_new w _)

set_option maxHeartbeats 1000000 in
theorem impl_innerOf (b off len cap : Nat) (l : List Pr) (w : World) (h : SlP w (some ⟨b, off, none⟩) len l) (hcap : len ≤ cap) (hlim : ∀ p ∈ l, lim p) (hK : sha.KW w) :
    Calls Tryd.prog 65 #[.slice (some ⟨b, off, none⟩) len cap] w fun e w' => e = .returned (.string (innerI l)) ∧ Below w.heap.size w w' := by
  have hl := h.1
  have hm := h.2.1
  subst hl
  unfold maxLen at hm
  unfold innerI
  by_cases h60 : 60 < l.length
  · rw [if_neg (by omega)]
    go_enter Tryd.func65, Tryd.ntmps65
    go_wp2_with fail
    go_ret
    exact ⟨rfl, Below.refl _ _⟩
  · rw [if_pos (by omega)]
    have hmf := makeFunc_run
    have HI : Hid (∀ wx, Below w.heap.size w wx → Self wx 75 w.heap.size → Calls Tryd.prog 75 #[.slice (some ⟨b, off, none⟩) l.length cap, .pointer (some ⟨w.heap.size, 0, none⟩)] wx fun e w' => e = .returned (.string (inner l)) ∧ Below wx.heap.size wx w') :=
      fun wx hx hT => impl_tree l.length l rfl (by omega) hlim b off cap w.heap.size wx (h.below hx) hcap hT (hK.below hx)
    clear h hK hlim
    go_enter Tryd.func65, Tryd.ntmps65
    go_wp2_with fail
    refine (HI.out _ ?hb ?ht).mono ?_
    case hb => exact (Below.refl _ _).alloc (Nat.le_refl _) _
    case ht => exact self_made w _ _
    rintro e w2 ⟨rfl, hb⟩
    have hB : Below w.heap.size w w2 := ((Below.refl _ _).alloc (Nat.le_refl _) _).trans (hb.mono (by simp))
    go_wp2_with fail
    go_ret
    exact ⟨rfl, hB⟩

end Go.Proofs.YteammdkipnfmnaaDoor.tree
