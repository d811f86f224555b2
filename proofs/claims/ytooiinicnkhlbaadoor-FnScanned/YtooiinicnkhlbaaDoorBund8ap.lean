/- The program's Padded. The program's digest. The program's records as bytes: what a record's body is, and the first bytes of its digest. The program's records as bytes: the length, the body and the first bytes of its digest, copied into one row. -/
import Derived.Test.YtooiinicnkhlbaaDoorBund8af
import Derived.Test.YtooiinicnkhlbaaDoorBund8ao
import Derived.Deep.RegionWith
import Derived.Test.YtooiinicnkhlbaaDoorBund8ak
import Derived.Test.YtooiinicnkhlbaaDoorBund8an
import Derived.Laws.CopyOwn
import Derived.Lib.BufferWrite
import Derived.Deep.RegionHeldLaw
namespace Go.Proofs.YtooiinicnkhlbaaDoor.padmath
open Go.RowKit Go.Proofs.YtooiinicnkhlbaaDoor.base
set_option linter.unusedVariables false
set_option linter.unusedSimpArgs false

/-- the row behind i rounds: the bytes, the mark, noughts, the last i of the count's bytes -/
def padAt (bs : List UInt8) (i : Nat) : List UInt8 := padTo bs (zeros bs.length + (8 - i)) ++ (be8 (bs.length * 8)).drop (8 - i)
theorem padAt_length (bs : List UInt8) (i : Nat) (h : i ≤ 8) : (padAt bs i).length = bs.length + 9 + zeros bs.length := by
  rw [padAt, List.length_append, padTo_length, List.length_drop, be8_length]; omega
theorem padAt_zero (bs : List UInt8) : padAt bs 0 = padTo bs (zeros bs.length + 8) := by
  rw [padAt, List.drop_eq_nil_of_le (by rw [be8_length]; omega), List.append_nil]
theorem padAt_all (bs : List UInt8) : padAt bs 8 = padded bs := by
  rw [padAt, padded]; rfl
theorem padAt_set (bs : List UInt8) (i : Nat) (h : i < 8) (u : UInt8) (hu : u = (be8 (bs.length * 8))[7 - i]'(by rw [be8_length]; omega)) : (padAt bs i).set (bs.length + 9 + zeros bs.length - 1 - i) u = padAt bs (i + 1) := by
  have e1 : zeros bs.length + (8 - i) = zeros bs.length + (8 - (i + 1)) + 1 := by omega
  rw [padAt, e1, ← padTo_snoc, List.append_assoc, List.set_append_right _ _ (by rw [padTo_length]; omega), padTo_length, show bs.length + 9 + zeros bs.length - 1 - i - (bs.length + 1 + (zeros bs.length + (8 - (i + 1)))) = 0 by omega]
  rw [padAt, hu]
  have e2 : (be8 (bs.length * 8)).drop (8 - (i + 1)) = (be8 (bs.length * 8))[7 - i]'(by rw [be8_length]; omega) :: (be8 (bs.length * 8)).drop (8 - i) := by
    rw [show 8 - (i + 1) = 7 - i by omega, List.drop_eq_getElem_cons (by rw [be8_length]; omega), show 7 - i + 1 = 8 - i by omega]
  rw [e2]; rfl
theorem be8_up (len i : Nat) (h : i < 8) : (len : Int) * 8 / 2 ^ (8 * i) % 256 = (((be8 (len * 8))[7 - i]'(by rw [be8_length]; omega)).toNat : Int) := by
  have := be8_at len (7 - i) (by omega)
  rw [show 56 - 8 * (7 - i) = 8 * i by omega, getElem!_pos (be8 (len * 8)) (7 - i) (by rw [be8_length]; omega)] at this
  exact this

set_option maxRecDepth 100000 in
set_option maxHeartbeats 2000000 in
theorem impl_padded (a : Option Addr) (len cap : Nat) (bs : List UInt8) (w : World) (h : Sl w a len bs) (hsz : len ≤ 1099511627776) :
    Calls Tryd.prog 90 #[.slice a len cap] w fun e w' =>
      ∃ g' n' cap', e = .returned (.slice (some ⟨g', 0, none⟩) n' cap') ∧ Own w' w.heap.size g' n' cap' (padded bs) ∧ Below w.heap.size w w' := by
  obtain ⟨hl, hm, hc⟩ := h
  obtain ⟨i0, hi, hz0, hz1, hz2⟩ := info_parts info8
  have hzl := zeros_lt len
  obtain ⟨N, hN⟩ : ∃ N, N = len + 9 + zeros len := ⟨_, rfl⟩
  have hNb : N ≤ 1099511627900 := by omega
  have hNs : (len : Int) + 1 + 8 + -(((len : Int) + 1 + 8) % 64) % 64 = (N : Int) := by rw [hN]; unfold zeros; omega
  have hNl : len < N := by omega
  have HN := Hid.mk' hN
  clear hN hzl
  go_enter Tryd.func90, Tryd.ntmps90
  go_wp2_with (at_make; refine wpList_make_full _ rfl _ _ 22 rfl w.heap.size 5 i0 (.int .u8 0) 1 Tryd.underlying22 hi hz0 hz1 _ _ _ _ N rfl rfl (by omega) (by omega) ?b2 ?b3 ?b4 ?_)
  case b2 => rw [hz2]; omega
  case b3 => unfold maxLen; omega
  case b4 => exact Nat.le_refl _
  intro w1 hown hgrow
  have hOwn : Own w1 w.heap.size w.heap.size N N (List.replicate N 0) := by
    refine ⟨by simp, ?_⟩
    have e : byteVals (List.replicate N 0) = (madeCells #[.int .u8 0] N).toList := by
      simp [byteVals, toList_madeCells_one]
    rw [e]; simpa using hown
  have hbel : Below w.heap.size w w1 := (Below.refl _ _).grown hgrow (Nat.le_refl _) (fun k e => by cases e)
  have hrow := own_row hOwn
  have hpos : 0 < (byteVals bs).length → (some (⟨w.heap.size, 0, none⟩ : Addr)) = some ⟨w.heap.size, 0, none⟩ ∧ ∃ ad, a = some ad ∧ ∀ j v, (byteVals bs)[j]? = some v → w1.cell? (ad.add j) = some v := by
    intro h0
    rw [byteVals_length] at h0
    obtain ⟨b, off, ha, hcl⟩ := hc (by omega)
    refine ⟨rfl, ⟨b, off, none⟩, ha, fun j v hj => ?_⟩
    have hjl : j < bs.length := by have := (List.getElem?_eq_some_iff.1 hj).1; rwa [byteVals_length] at this
    rw [Addr.add_lit, hbel.cell (p := ⟨b, off + j, none⟩) (World.block_lt_of_cell? w _ (hcl j hjl)), hcl j hjl, ← hj]
    simp [byteVals, hjl]
  have HROW := Hid.mk' hrow
  have HPOS := Hid.mk' hpos
  clear hown hgrow hrow hpos hc hOwn
  have hsz1 : (Tryd.prog.info? 5).map (·.size) = some 1 := by rw [hi]; simp [hz1]
  go_wp2_with (refine wpList_copy_splice rfl (.tmp 19) (.tmp 20) 22 22 rfl 5 Tryd.underlying22 hsz1 _ _ _ _ _ _ rfl rfl w.heap.size 0 (byteVals (List.replicate N 0)) 5 HROW.out (byteVals bs) ?d1 HPOS.out ?d2 (byteVals_oneCell _) w.heap.size w hbel (Nat.le_refl _) ?_)
  case d1 => rw [byteVals_length, hl]; show len = min len N; omega
  case d2 => rw [byteVals_length, byteVals_length]; simp; omega
  intro w2 hrow2 hb2
  have e : splice (byteVals (List.replicate N 0)) 0 (byteVals bs) = byteVals (bs ++ List.replicate (N - len) 0) := by
    simp [splice, byteVals, hl]
  have hx := hrow2.out
  rw [e] at hx
  have hO2 : Own w2 w.heap.size w.heap.size N N (bs ++ List.replicate (N - len) 0) := own_of_row (by simp; omega) (by unfold maxLen; omega) (Nat.le_refl _) hx
  have c2 : w2.cell? ⟨w.heap.size, len, none⟩ = some (.int .u8 0) := by
    rw [hO2.at len (by simp; omega)]; simp [List.getElem_append, hl]
  have c3 : w2.frozen? ⟨w.heap.size, len, none⟩ = false := hO2.frozen len
  have R := own_set hO2 len 128
  have e3 : (bs ++ List.replicate (N - len) 0).set len 128 = padAt bs 0 := by
    rw [padAt_zero, List.set_append_right _ _ (by omega), hl, Nat.sub_self, padTo, show N - len = (zeros len + 8) + 1 by have := HN.out; omega]; rfl
  rw [e3] at R
  have HR := Hid.mk' R
  clear hrow2 hx hO2 R e e3 HROW HPOS
  go_wp2_with (at_builtin; fail)
  go_loopw [30] (fun iv wr => ∃ i : Nat, i ≤ 8 ∧ iv = .int .i64 (i : Int) ∧ Own wr w.heap.size w.heap.size N N (padAt bs i) ∧ Below w.heap.size w wr) (fun iv _ => 8 - (intOf iv).toNat)
  case atStart => exact ⟨0, by omega, rfl, HR.out.1, hb2.trans (below_grown HR.out.2 (Nat.le_refl _) hb2.size)⟩
  case round =>
    clear hb2 c2 c3 HR
    obtain ⟨i, hi8, rfl, hO, hB⟩ := hrel
    by_cases hlt : i < 8
    · clear hNs
      obtain ⟨p, hp, hp2⟩ : ∃ p : Nat, (N : Int) - 1 - (i : Int) = (p : Int) ∧ p = len + 9 + zeros len - 1 - i := ⟨N - 1 - i, by have := HN.out; omega, by rw [HN.out]⟩
      have hpN : p < N := by omega
      have hpl : p < (padAt bs i).length := by rw [hO.1]; exact hpN
      have c2 : wr.cell? ⟨w.heap.size, p, none⟩ = some (.int .u8 (padAt bs i)[p].toNat) := hO.at p hpl
      have c3 : wr.frozen? ⟨w.heap.size, p, none⟩ = false := hO.frozen p
      have hup := be8_up len i hlt
      have hst := fun u hu => padAt_set bs i hlt u hu
      rw [hl, ← hp2] at hst
      generalize hU : (be8 (len * 8))[7 - i]'(by rw [be8_length]; omega) = u at hup
      have R := own_set hO p u
      rw [hst u hU.symm] at R
      have HR := Hid.mk' R
      generalize (padAt bs i)[p].toNat = old at c2
      have hul := u.toNat_lt
      have HU := Hid.mk' hup
      clear R hst hU hp2 hpl hO hup
      go_wp2_with (at_builtin; fail)
      go_roundw
      case rel =>
        rw [HU.out]
        exact ⟨i + 1, by omega, by go_num, HR.out.1, hB.trans (below_grown HR.out.2 (Nat.le_refl _) hB.size)⟩
      case measure => simp [intOf]; omega
    · have HE : Hid (i = 8) := by show _ = _; omega
      go_wp2_with (at_builtin; fail)
      go_ret
      rw [HE.out, padAt_all] at hO
      exact ⟨_, _, _, rfl, hO, hB⟩

end Go.Proofs.YtooiinicnkhlbaaDoor.padmath

namespace Go.Proofs.YtooiinicnkhlbaaDoor.sha
open Go.RowKit Go.Proofs.YtooiinicnkhlbaaDoor.base Go.Proofs.YtooiinicnkhlbaaDoor.padmath
set_option linter.unusedVariables false
set_option linter.unusedSimpArgs false

theorem list8 {l : List Nat} (h : l.length = 8) : ∃ x0 x1 x2 x3 x4 x5 x6 x7 : Nat, l = [x0, x1, x2, x3, x4, x5, x6, x7] := by
  match l, h with
  | [x0, x1, x2, x3, x4, x5, x6, x7], _ => exact ⟨x0, x1, x2, x3, x4, x5, x6, x7, rfl⟩
theorem Arr.set8 {w : World} {g : Nat} {t : TypeId} {x0 x1 x2 x3 x4 x5 x6 x7 : Nat} (h : Arr w g t [x0, x1, x2, x3, x4, x5, x6, x7]) (y0 y1 y2 y3 y4 y5 y6 y7 : Nat) :
    Arr ((((((((w.setCell ⟨g, 0, none⟩ (.int .u32 (y0 : Int))).setCell ⟨g, 1, none⟩ (.int .u32 (y1 : Int))).setCell ⟨g, 2, none⟩ (.int .u32 (y2 : Int))).setCell ⟨g, 3, none⟩ (.int .u32 (y3 : Int))).setCell ⟨g, 4, none⟩ (.int .u32 (y4 : Int))).setCell ⟨g, 5, none⟩ (.int .u32 (y5 : Int))).setCell ⟨g, 6, none⟩ (.int .u32 (y6 : Int))).setCell ⟨g, 7, none⟩ (.int .u32 (y7 : Int))) g t [y0, y1, y2, y3, y4, y5, y6, y7] ∧ w.grownBy ((((((((w.setCell ⟨g, 0, none⟩ (.int .u32 (y0 : Int))).setCell ⟨g, 1, none⟩ (.int .u32 (y1 : Int))).setCell ⟨g, 2, none⟩ (.int .u32 (y2 : Int))).setCell ⟨g, 3, none⟩ (.int .u32 (y3 : Int))).setCell ⟨g, 4, none⟩ (.int .u32 (y4 : Int))).setCell ⟨g, 5, none⟩ (.int .u32 (y5 : Int))).setCell ⟨g, 6, none⟩ (.int .u32 (y6 : Int))).setCell ⟨g, 7, none⟩ (.int .u32 (y7 : Int))) (some g) := by
  have s0 := (h).set 0 y0
  have s1 := (s0.1).set 1 y1
  have s2 := (s1.1).set 2 y2
  have s3 := (s2.1).set 3 y3
  have s4 := (s3.1).set 4 y4
  have s5 := (s4.1).set 5 y5
  have s6 := (s5.1).set 6 y6
  have s7 := (s6.1).set 7 y7
  exact ⟨s7.1, (grownBy_trans (grownBy_trans (grownBy_trans (grownBy_trans (grownBy_trans (grownBy_trans (grownBy_trans s0.2 s1.2) s2.2) s3.2) s4.2) s5.2) s6.2) s7.2)⟩
theorem impl_blockD (x0 x1 x2 x3 x4 x5 x6 x7 : Nat) (bs : List UInt8) (w : World) (hs : ∀ x ∈ [x0, x1, x2, x3, x4, x5, x6, x7], x < 4294967296) (hK : KW w) (y0 y1 y2 y3 y4 y5 y6 y7 : Nat) (hY : [y0, y1, y2, y3, y4, y5, y6, y7] = block K64 [x0, x1, x2, x3, x4, x5, x6, x7] bs) :
    Calls Tryd.prog 91 #[.agg #[.int .u32 (x0 : Int), .int .u32 (x1 : Int), .int .u32 (x2 : Int), .int .u32 (x3 : Int), .int .u32 (x4 : Int), .int .u32 (x5 : Int), .int .u32 (x6 : Int), .int .u32 (x7 : Int)], .agg #[.int .u32 (be32 bs 0 : Int), .int .u32 (be32 bs 1 : Int), .int .u32 (be32 bs 2 : Int), .int .u32 (be32 bs 3 : Int), .int .u32 (be32 bs 4 : Int), .int .u32 (be32 bs 5 : Int), .int .u32 (be32 bs 6 : Int), .int .u32 (be32 bs 7 : Int), .int .u32 (be32 bs 8 : Int), .int .u32 (be32 bs 9 : Int), .int .u32 (be32 bs 10 : Int), .int .u32 (be32 bs 11 : Int), .int .u32 (be32 bs 12 : Int), .int .u32 (be32 bs 13 : Int), .int .u32 (be32 bs 14 : Int), .int .u32 (be32 bs 15 : Int)]] w fun e w' => e = .returned (.agg #[.int .u32 (y0 : Int), .int .u32 (y1 : Int), .int .u32 (y2 : Int), .int .u32 (y3 : Int), .int .u32 (y4 : Int), .int .u32 (y5 : Int), .int .u32 (y6 : Int), .int .u32 (y7 : Int)]) ∧ Below w.heap.size w w' := by
  refine (impl_block x0 x1 x2 x3 x4 x5 x6 x7 bs w hs hK).mono ?_
  rintro e w' ⟨z0, z1, z2, z3, z4, z5, z6, z7, rfl, hz, hb⟩
  rw [← hY] at hz
  injection hz with e0 hz; injection hz with e1 hz; injection hz with e2 hz; injection hz with e3 hz
  injection hz with e4 hz; injection hz with e5 hz; injection hz with e6 hz; injection hz with e7 hz
  subst e0; subst e1; subst e2; subst e3; subst e4; subst e5; subst e6; subst e7
  exact ⟨rfl, hb⟩

set_option maxRecDepth 100000 in
set_option maxHeartbeats 4000000 in
theorem impl_digestA (a0 : Option Addr) (len cap : Nat) (bs : List UInt8) (w : World) (h : Sl w a0 len bs) (hsz : len ≤ 1099511627776) (hK : KW w) :
    Calls Tryd.prog 66 #[.slice a0 len cap] w fun e w' => e = .returned (.string ⟨(digest bs).toArray⟩) ∧ Below w.heap.size w w' := by
  have hl := h.1
  have hba : Below w.heap.size w (w.alloc (.cells #[.int .u32 1779033703, .int .u32 3144134277, .int .u32 1013904242, .int .u32 2773480762, .int .u32 1359893119, .int .u32 2600822924, .int .u32 528734635, .int .u32 1541459225] 119)) := (Below.refl _ _).alloc (Nat.le_refl _) _
  have hA0 : Arr (w.alloc (.cells #[.int .u32 1779033703, .int .u32 3144134277, .int .u32 1013904242, .int .u32 2773480762, .int .u32 1359893119, .int .u32 2600822924, .int .u32 528734635, .int .u32 1541459225] 119)) w.heap.size 119 H8 := arr_new _ _ _ rfl rfl
  have hS0 := h.below hba
  go_enter Tryd.func66, Tryd.ntmps66
  go_wp2_with fail
  refine (impl_padded _ len cap bs _ hS0 hsz).mono ?_
  rintro e w1 ⟨gp, np, capp, rfl, hP, hB1⟩
  have HPL := Hid.mk' hP.1
  have hpb : np ≤ 1099511627776 + 100 := by rw [← hP.1, padded_length]; unfold zeros; omega
  have hmod : np % 64 = 0 := by rw [← hP.1]; exact padded_mod bs
  have hmx := hP.max
  have hA1 := hA0.below hB1
  have hBw : Below w.heap.size w w1 := hba.trans (hB1.mono (by simp))
  have hgp : w.heap.size + 1 ≤ gp := by have := hP.lt.1; simp at this; omega
  have hP1 := hP.sl
  clear hba hA0 hS0 hB1 hP
  go_wp2_with fail
  go_loopw [5] (fun iv wr => ∃ a : Nat, a ≤ np ∧ a % 64 = 0 ∧ iv = .int .i64 (a : Int) ∧ Arr wr w.heap.size 119 (hashTo (padded bs) (a / 64)) ∧ Sl wr (some ⟨gp, 0, none⟩) np (padded bs) ∧ Below w.heap.size w wr) (fun iv _ => np - (intOf iv).toNat)
  case atStart => exact ⟨0, Nat.zero_le _, rfl, rfl, hA1, hP1, hBw⟩
  case round =>
    clear hA1 hP1 hBw
    obtain ⟨a, ha, ham, rfl, hA, hP, hB⟩ := hrel
    obtain ⟨x0, x1, x2, x3, x4, x5, x6, x7, hX⟩ := list8 (hashTo_length (padded bs) (a / 64))
    have hxl : ∀ x ∈ [x0, x1, x2, x3, x4, x5, x6, x7], x < 4294967296 := by rw [← hX]; exact hashTo_lt _ _
    rw [hX] at hA
    by_cases hlt : a < np
    · have ha64 : a + 64 ≤ np := by omega
      obtain ⟨y0, y1, y2, y3, y4, y5, y6, y7, hY⟩ := list8 (hashTo_length (padded bs) ((a + 64) / 64))
      have HN : Hid ([y0, y1, y2, y3, y4, y5, y6, y7] = block K64 [x0, x1, x2, x3, x4, x5, x6, x7] (((padded bs).drop a).take 64)) := by
        show _ = _
        rw [← hY, ← hX, show (a + 64) / 64 = a / 64 + 1 by omega]
        show block _ _ (((padded bs).drop (64 * (a / 64))).take 64) = _
        rw [show 64 * (a / 64) = a by omega]
      have HY := Hid.mk' hY
      have hSb : Sl wr.drew (some ⟨gp, 0 + a, none⟩) 64 (((padded bs).drop a).take 64) := sl_sub hP a 64 ha64
      rw [Nat.zero_add] at hSb
      have hK1 : KW wr := hK.below hB
      obtain ⟨c0, c1, c2, c3, c4, c5, c6, c7⟩ := hA.eight
      have hfz := hA.frozen
      clear hX hY
      generalize ((padded bs).drop a).take 64 = blk at *
      have e64 : IntKind.i64.wrap ((a : Int) + 64) = (a : Int) + 64 := by rw [IntKind.wrap_i64]; omega
      have q1 : (0 : Int) ≤ (a : Int) := by omega
      have hAd : Arr wr.drew w.heap.size 119 [x0, x1, x2, x3, x4, x5, x6, x7] := hA
      have hK1d : KW wr.drew := hK1
      have q2 : (a : Int) ≤ (a : Int) + 64 := by omega
      have q3 : (a : Int) + 64 ≤ (capp : Int) := by omega
      have q4 : ¬ capp = a := by omega
      have q5 : ((a : Int) + 64).toNat - a = 64 := by omega
      go_wp2_with fail
      go_region_with (first | (go_at_call 92; refine (impl_words gp a (capp - a) blk wr.drew hSb).mono ?_; rintro e wx ⟨rfl, hbx⟩; obtain ⟨k0, k1, k2, k3, k4, k5, k6, k7⟩ := (show Arr wx w.heap.size 119 [x0, x1, x2, x3, x4, x5, x6, x7] from hAd.below hbx).eight) | (go_at_call 91; refine (impl_blockD x0 x1 x2 x3 x4 x5 x6 x7 blk _ hxl (hK1d.below hbx) y0 y1 y2 y3 y4 y5 y6 y7 HN.out).mono ?_; rintro e wy ⟨rfl, hby⟩; have hA2 : Arr wy w.heap.size 119 [x0, x1, x2, x3, x4, x5, x6, x7] := (show Arr wx w.heap.size 119 [x0, x1, x2, x3, x4, x5, x6, x7] from hAd.below hbx).below hby; obtain ⟨m0, m1, m2, m3, m4, m5, m6, m7⟩ := hA2.eight; have hfz2 := hA2.frozen))
      all_goals
        have hBd : Below w.heap.size w wr.drew := hB.drew
        have hBx : Below w.heap.size w wx := hBd.trans (hbx.mono hBd.size)
        have hBy : Below w.heap.size w wy := hBx.trans (hby.mono hBx.size)
        have h8 := hA2.set8 y0 y1 y2 y3 y4 y5 y6 y7
        have hPd : Sl wr.drew (some ⟨gp, 0, none⟩) np (padded bs) := hP
        have HP := Hid.mk' (((hPd.below hbx).below hby).grown h8.2 (fun e => by simp only [Option.some.injEq] at e; omega))
        have HB := Hid.mk' (hBy.trans (below_grown h8.2 (Nat.le_refl _) hBy.size))
        have HA := Hid.mk' h8.1
        clear hBd hBx hBy h8 hPd hP hbx hby hA2 hfz2 m0 m1 m2 m3 m4 m5 m6 m7 k0 k1 k2 k3 k4 k5 k6 k7 c0 c1 c2 c3 c4 c5 c6 c7 hfz hA hAd hK1 hK1d hSb e64 q1 q2 q3 q4 q5 hB
        go_wp2_with fail
        go_roundw
        case rel => exact ⟨a + 64, ha64, by omega, by go_num, by rw [HY.out]; exact HA.out, HP.out, HB.out⟩
        case measure => simp [intOf]; omega
    · have HE : Hid (a = np) := by show _ = _; omega
      have HD : Hid (digest bs = ([x0, x1, x2, x3, x4, x5, x6, x7].map word4).flatten) := by
        show _ = _; unfold digest; rw [HPL.out, ← HE.out, hX]
      obtain ⟨c0, c1, c2, c3, c4, c5, c6, c7⟩ := hA.eight
      clear hA hP hX hK
      go_wp2_with fail
      refine (impl_bytes x0 x1 x2 x3 x4 x5 x6 x7 _ hxl).mono ?_
      rintro e w9 ⟨rfl, hb9⟩
      go_wp2_with fail
      go_ret
      exact ⟨ret_str (by rw [HD.out]; simp), hB.trans (hb9.mono hB.size)⟩

theorem impl_digest (b off len cap : Nat) (bs : List UInt8) (w : World) (h : Sl w (some ⟨b, off, none⟩) len bs) (hsz : len ≤ 1099511627776) (hK : KW w) :
    Calls Tryd.prog 66 #[.slice (some ⟨b, off, none⟩) len cap] w fun e w' => e = .returned (.string ⟨(digest bs).toArray⟩) ∧ Below w.heap.size w w' :=
  impl_digestA (some ⟨b, off, none⟩) len cap bs w h hsz hK

end Go.Proofs.YtooiinicnkhlbaaDoor.sha

namespace Go.Proofs.YtooiinicnkhlbaaDoor.recs
open Go Go.RowKit Go.Proofs.YtooiinicnkhlbaaDoor.base Go.Proofs.YtooiinicnkhlbaaDoor.pairs Go.Proofs.YtooiinicnkhlbaaDoor.ords Go.Proofs.YtooiinicnkhlbaaDoor.putnum Go.Proofs.YtooiinicnkhlbaaDoor.puttext Go.Proofs.YtooiinicnkhlbaaDoor.getnum Go.Proofs.YtooiinicnkhlbaaDoor.gettext
set_option linter.unusedVariables false
set_option linter.unusedSimpArgs false

theorem impl_putOpsA (a : Option Addr) (len cap : Nat) (l : List Od) (w : World) (h : SlO w a len l) (hks : ∀ p ∈ l, p.2.1.size ≤ 1099511627776) :
    Calls Tryd.prog 64 #[.slice a len cap] w fun e w' =>
      ∃ g' n' cap', e = .returned (.slice (some ⟨g', 0, none⟩) n' cap') ∧ Own w' w.heap.size g' n' cap' (putOps l) ∧ Below w.heap.size w w' := by
  by_cases h0 : len = 0
  · subst h0
    obtain rfl : l = [] := List.eq_nil_of_length_eq_zero h.1
    have HOK := Hid.mk' (impl_opsOkA a 0 cap [] w h hks)
    have HP : Hid (putOps [] = []) := opsOk_put [] (by decide)
    rw [show opsOk [] = false by decide] at HOK
    go_enter Tryd.func64, Tryd.ntmps64
    go_wp2_with fail
    refine HOK.out.mono ?_
    rintro e w1 ⟨rfl, hb1⟩
    have hO1 := own_made w1 w.heap.size hb1.size
    go_wp2_with fail
    go_ret
    exact ⟨_, _, _, rfl, by rw [HP.out]; exact hO1, hb1.alloc hb1.size _⟩
  · obtain ⟨b, off, ha, _⟩ := h.2.2.2 (by omega)
    subst ha
    exact impl_putOps b off len cap l w h hks

set_option maxRecDepth 100000 in
set_option maxHeartbeats 1000000 in
theorem i_markOf (a : Option Addr) (len cap : Nat) (bs : List UInt8) (w : World) (h : Sl w a len bs) (hsz : len ≤ 1099511627776) (hK : sha.KW w) :
    Calls Tryd.prog 42 #[.slice a len cap] w fun e w' => e = .returned (.string ((⟨(sha.digest bs).toArray⟩ : ByteArray).extract 0 4)) ∧ Below w.heap.size w w' := by
  have HD := Hid.mk' (sha.impl_digestA a len cap bs w h hsz hK)
  have hcs : 4 ≤ (⟨(sha.digest bs).toArray⟩ : ByteArray).size := by show 4 ≤ (sha.digest _).toArray.size; simp [sha.digest_length]
  generalize (⟨(sha.digest bs).toArray⟩ : ByteArray) = D at *
  have hDs : (4 : Int) ≤ (D.size : Int) := by omega
  go_enter Tryd.func42, Tryd.ntmps42
  go_wp2_with fail
  refine HD.out.mono ?_
  rintro e w1 ⟨rfl, hb1⟩
  go_wp2_with fail
  go_ret
  exact ⟨rfl, hb1⟩

theorem BoxR.cells3 {X : Nat} {kind tx : Int} {v : Value} {w : World} (h : BoxR X kind tx v w) : BoxR X kind tx v w ∧ w.cell? ⟨X, 0, none⟩ = some (.int .i64 kind) ∧ w.cell? ⟨X, 1, none⟩ = some (.int .i64 tx) ∧ w.cell? ⟨X, 2, none⟩ = some v := ⟨h, h.cells⟩
/-- what a world holds while a record's body is put together -/
def InB (w : World) (kind tx : Int) (v : Value) (w' : World) : Prop := BoxR w.heap.size kind tx v w' ∧ Below w.heap.size w w'
theorem InB.alloc {w w' : World} {kind tx : Int} {v : Value} (h : InB w kind tx v w') (o : Obj) : InB w kind tx v (w'.alloc o) := ⟨h.1.below ((Below.refl _ _).alloc (Nat.le_refl _) _), h.2.alloc h.2.size _⟩
theorem InB.below {w w' w'' : World} {kind tx : Int} {v : Value} (h : InB w kind tx v w') (hb : Below w'.heap.size w' w'') : InB w kind tx v w'' := ⟨h.1.below hb, h.2.trans (hb.mono h.2.size)⟩
theorem InB.grown {w w' w'' : World} {kind tx : Int} {v : Value} {g : Nat} (h : InB w kind tx v w') (hb : w'.grownBy w'' (some g)) (hg : w.heap.size < g) : InB w kind tx v w'' := ⟨h.1.grown hb (by simp; omega), h.2.grown hb h.2.size (fun k e => by cases e; omega)⟩
theorem InB.drew {w w' : World} {kind tx : Int} {v : Value} (h : InB w kind tx v w') : InB w kind tx v w'.drew := ⟨h.1, h.2.drew⟩
abbrev HeldB (w : World) (kind tx : Int) (v : Value) (w' : World) : Prop := InB w kind tx v w' ∧ w'.cell? ⟨w.heap.size, 0, none⟩ = some (.int .i64 kind) ∧ w'.cell? ⟨w.heap.size, 1, none⟩ = some (.int .i64 tx) ∧ w'.cell? ⟨w.heap.size, 2, none⟩ = some v
theorem InB.held {w w' : World} {kind tx : Int} {v : Value} (h : InB w kind tx v w') : InB w kind tx v w' ∧ w'.cell? ⟨w.heap.size, 0, none⟩ = some (.int .i64 kind) ∧ w'.cell? ⟨w.heap.size, 1, none⟩ = some (.int .i64 tx) ∧ w'.cell? ⟨w.heap.size, 2, none⟩ = some v := ⟨h, h.1.cells⟩

set_option maxRecDepth 100000 in
set_option maxHeartbeats 4000000 in
theorem i_bodyOf (kind tx : Int) (a : Option Addr) (len cap : Nat) (l : List Od) (w : World) (hok : recOk (kind, tx, l) = true) (h : SlO w a len l) (hks : ∀ p ∈ l, p.2.1.size ≤ 1099511627776) :
    Calls Tryd.prog 40 #[.agg #[.int .i64 kind, .int .i64 tx, .slice a len cap]] w fun e w' =>
      ∃ g' n' cap', e = .returned (.slice (some ⟨g', 0, none⟩) n' cap') ∧ Own w' w.heap.size g' n' cap' (bodyOf (kind, tx, l)) ∧ Below w.heap.size w w' := by
  obtain ⟨i0, hi, hz0, hz1, hz2⟩ := info_parts info8
  obtain ⟨⟨ht1, ht2⟩, hcase⟩ := (recOk_iff _).1 hok
  simp only [] at ht1 ht2 hcase
  have hkr : 1 ≤ kind ∧ kind ≤ 3 := by rcases hcase with ⟨h1, _⟩ | ⟨h1, _⟩ <;> omega
  have hkf : (Lit.int .i64 kind).wf = true := WalkArith.wf_i64 (by omega)
  have htf : (Lit.int .i64 tx).wf = true := WalkArith.wf_i64 (by omega)
  have hnk := numBytes_length kind
  have hnt := numBytes_length tx
  have hps := putOps_small l
  have HBO : Hid (bodyOf (kind, tx, l) = numBytes kind ++ numBytes tx ++ putOps l) := by
    show _ = _
    unfold bodyOf
    rcases hcase with ⟨h1, _⟩ | ⟨h1, h2⟩
    · rw [if_pos h1]
    · rw [if_neg (by simp only []; omega)]
      rw [h2, opsOk_put [] (by decide)]
  have hI0 : InB w kind tx (.slice a len cap) (w.alloc (.cells #[.int .i64 kind, .int .i64 tx, .slice a len cap] 26)) := ⟨boxR_new _ _ _ _, (Below.refl _ _).alloc (Nat.le_refl _) _⟩
  have HPO : Hid (∀ wx, InB w kind tx (.slice a len cap) wx → Calls Tryd.prog 64 #[.slice a len cap] wx fun e w' => ∃ g' n' cap', e = .returned (.slice (some ⟨g', 0, none⟩) n' cap') ∧ Own w' wx.heap.size g' n' cap' (putOps l) ∧ Below wx.heap.size wx w') := fun wx hx => impl_putOpsA a len cap l wx (h.below hx.2) hks
  clear hok hcase h
  have hw0 : w.heap.size < (w.alloc (.cells #[.int .i64 kind, .int .i64 tx, .slice a len cap] 26)).heap.size := by simp
  go_enter Tryd.func40, Tryd.ntmps40
  go_wp2_with (at_builtin; fail)
  generalize w.alloc (.cells #[.int .i64 kind, .int .i64 tx, .slice a len cap] 26) = W at *
  have hI0d : InB w kind tx (.slice a len cap) W.drew := ⟨hI0.1, hI0.2.drew⟩
  obtain ⟨_, d0, d1, d2⟩ := hI0.held
  have hW1 : w.heap.size + 1 ≤ W.heap.size := by omega
  have hOm : Own (W.alloc (.cells #[] 5)).drew (w.heap.size + 1) W.heap.size 0 0 [] := own_made W _ hW1
  have hsW : (W.alloc (.cells #[] 5)).drew.heap.size = W.heap.size + 1 := by simp
  have hsm : ∀ x, ([] ++ numBytes kind : List UInt8).length = x → x ≤ 1099511627776 := fun x hx => by simp at hx; omega
  go_region_held3 (fun w' => InB w kind tx (.slice a len cap) w' ∧ w'.cell? ⟨w.heap.size, 0, none⟩ = some (.int .i64 kind) ∧ w'.cell? ⟨w.heap.size, 1, none⟩ = some (.int .i64 tx) ∧ w'.cell? ⟨w.heap.size, 2, none⟩ = some (.slice a len cap))
    (first | (exact hI0d.held) | (with_reducible assumption) | (exact hI8.held) | (exact hI6.held) | (exact hI5.held) | (exact hI7.held) | (exact (hI0.alloc _).drew.held) | (exact (hI7.alloc _).held) | (go_keep))
    (first
      | (go_at_call 64; have hI : InB w kind tx (.slice a len cap) _ := And.left (by with_reducible assumption); refine (HPO.out _ hI).mono ?_; rintro e w7 ⟨g7, n7, cp7, rfl, hO7, hb7⟩; have hI7 := hI.below hb7; have hO6 := hO6.below hb7)
      | (go_at_call 64; have hI : InB w kind tx (.slice a len cap) _ := And.left (by with_reducible assumption); refine (HPO.out _ hI).mono ?_; rintro e w7 ⟨g7, n7, cp7, rfl, hO7, hb7⟩; have hI7 := hI.below hb7; have hne7 : g7 ≠ g5 := (by have x1 := hO7.lt; have x2 := hO5.lt; omega); have hO5 := hO5.below hb7)
      | (go_at_call 64; have hI : InB w kind tx (.slice a len cap) _ := And.left (by with_reducible assumption); refine (HPO.out _ hI).mono ?_; rintro e w7 ⟨g7, n7, cp7, rfl, hO7, hb7⟩; have hI7 := hI.below hb7)
      | (go_at_call 63; have hI : InB w kind tx (.slice a len cap) _ := And.left (by with_reducible assumption); refine (addNumG g5 n5 cp5 (w.heap.size + 1) _ tx _ hO5 (Nat.lt_of_lt_of_le hI.1.lt (Nat.le_refl _)) htf (hsm _ hO5.1)).mono ?_; rintro e w6 ⟨g6, n6, cp6, rfl, hO6, hb6, hg6, hl6⟩; have hI6 := hI.grown hg6 hO5.lt.1; have hO7 := hO7.grown hg6 (by intro e; exact hne7 (Option.some.inj e)))
      | (go_at_call 63; have hI : InB w kind tx (.slice a len cap) _ := And.left (by with_reducible assumption); refine (addNumG g5 n5 cp5 (w.heap.size + 1) _ tx _ hO5 (Nat.lt_of_lt_of_le hI.1.lt (Nat.le_refl _)) htf (hsm _ hO5.1)).mono ?_; rintro e w6 ⟨g6, n6, cp6, rfl, hO6, hb6, hg6, hl6⟩; have hI6 := hI.grown hg6 hO5.lt.1)
      | (go_at_call 63; have hI : InB w kind tx (.slice a len cap) _ := And.left (by with_reducible assumption); refine (addNumG W.heap.size 0 0 (w.heap.size + 1) [] kind _ hOm hI.1.lt hkf (by omega)).mono ?_; rintro e w5 ⟨g5, n5, cp5, rfl, hO5, hb5, hg5, hl5⟩; have hI5 := hI.grown hg5 hW1)
      | (go_at_call 63; have hI : InB w kind tx (.slice a len cap) _ := And.left (by with_reducible assumption); refine (addNumG W.heap.size 0 0 (w.heap.size + 1) [] kind _ (hOm.below hb7) hI.1.lt hkf (by omega)).mono ?_; rintro e w5 ⟨g5, n5, cp5, rfl, hO5, hb5, hg5, hl5⟩; have hI5 := hI.grown hg5 hW1; have x1 := hO7.lt; have hne7 : g7 ≠ g5 := by omega; have hO7 := hO7.grown hg5 (by intro e; have := Option.some.inj e; omega))
      | (go_at_call 63; have hI : InB w kind tx (.slice a len cap) _ := And.left (by with_reducible assumption); have x1 := hO7.lt; have x2 : w.heap.size + 1 ≤ w7.heap.size := hI7.1.lt; refine (addNumG w7.heap.size 0 0 (w.heap.size + 1) [] kind _ (own_made w7 _ x2) hI.1.lt hkf (by omega)).mono ?_; rintro e w5 ⟨g5, n5, cp5, rfl, hO5, hb5, hg5, hl5⟩; have hI5 := hI.grown hg5 x2; rw [World.size_alloc] at hl5; have hne7 : g7 ≠ g5 := by omega; have hO7 := (own_alloc hO7 _).grown hg5 (by intro e; have := Option.some.inj e; omega))
      | (have hI : InB w kind tx (.slice a len cap) _ := And.left (by with_reducible assumption); have hn6 := hO6.1; have hn7 := hO7.1; simp only [List.nil_append, List.length_append] at hn6; have hl2 : (byteVals (putOps l)).length = n7 * 1 := (by rw [byteVals_length]; omega); have hc3 : n6 + n7 ≤ maxLen := (by unfold maxLen; omega); have hc4 : (n6 + n7) * 1 ≤ 140737488355328 := (by omega); have hc5 := sl_cells hO7.sl; refine step_append_own rfl (.tmp 9) (.tmp 12) 22 rfl (w.heap.size + 1) 5 i0 (.int .u8 0) 1 1 Tryd.underlying22 hi hz0 hz1 hz2 rfl (by decide) _ _ _ rfl hO6.2 ⟨g7, 0, none⟩ n7 cp7 (byteVals (putOps l)) rfl hl2 hc5 (byteVals_oneCell _) hc3 hc4 hI.1.lt ?_; intro v8 w8 hown8 hgrow8 hnn8; have hI8 := hI.grown (g := g6) hgrow8 hO6.lt.1))
  all_goals
    have hnn' : ¬ v8 = .slice none 0 0 := fun e => by
      have e9 : Value.slice (some ⟨g6, 0, none⟩) n6 cp6 = .slice none 0 0 := (hnn8.1 e).1
      cases e9
    obtain ⟨g9, cp9, hv8, hO9⟩ := own_cat hO6.1 hO7.1 hnn' hown8
    subst hv8
    rw [List.nil_append, ← HBO.out] at hO9
    have HO9 := Hid.mk' (hO9.mono (base' := w.heap.size) (Nat.le_succ _))
    have hB9 := hI8.2
    clear hown8 hgrow8 hnn8 hnn' hO9 hO6 hO7 HPO
    go_wp2_with (at_builtin; fail)
    go_ret
    exact ⟨_, _, _, rfl, HO9.out, hB9⟩
end Go.Proofs.YtooiinicnkhlbaaDoor.recs

namespace Go.Proofs.YtooiinicnkhlbaaDoor.recs
open Go Go.RowKit Go.Proofs.YtooiinicnkhlbaaDoor.base Go.Proofs.YtooiinicnkhlbaaDoor.pairs Go.Proofs.YtooiinicnkhlbaaDoor.ords Go.Proofs.YtooiinicnkhlbaaDoor.putnum Go.Proofs.YtooiinicnkhlbaaDoor.puttext Go.Proofs.YtooiinicnkhlbaaDoor.getnum Go.Proofs.YtooiinicnkhlbaaDoor.gettext
set_option linter.unusedVariables false
set_option linter.unusedSimpArgs false

/-- a text's bytes copied into a row from a place on, as one step of a region that draws its order -/
theorem step_copy_at {ops : Array Oper} {o : Oper} {a : Act} {w : World} {K : Act → World → Prop} {Q : Exit → Act → World → Prop} {E : Prop} (hw : Region.wanted o (yielded ops a.tmps) = true) (d s : Operand) (dT sT elem : TypeId)
    (ho : o.op = .call { callee := .builtin .copy, args := #[d, s], argTypes := #[dT, sT] }) (hu : Tryd.prog.underlying dT = some (.slice elem)) (hsz : (Tryd.prog.info? elem).map (·.size) = some 1)
    (g off dLen dCap : Nat) (str : ByteArray) (cur : List Value) (t : TypeId) (hd : a.eval d = .slice (some ⟨g, off, none⟩) dLen dCap) (hs : a.eval s = .string str)
    (hg : w.heap[g]? = some (.cells cur.toArray t (0, 0))) (hle : str.size ≤ dLen) (hfit : off + str.size ≤ cur.length)
    (h : ∀ w', w'.heap[g]? = some (.cells (cur.take off ++ Lib.byteCells str.data.toList ++ cur.drop (off + str.size)).toArray t (0, 0)) → w.grownBy w' (some g) → K (a.put o.dst (goInt str.size)) w') :
    if Region.wanted o (yielded ops a.tmps) = true then Oper.wp Tryd.prog o a w K Q else E := by
  rw [if_pos hw]
  have hrun := Lib.run_copy_row_string (P := Tryd.prog) w dT sT o.type elem g off dLen dCap str cur.toArray t hu hsz hg hle (by simpa using hfit)
  unfold Oper.wp
  simp [execOp, ho, resolve, invoke, builtin, hd, hs, hrun, Result.andThen]
  refine h _ ?_ ⟨rfl, rfl, rfl, by simp [World.setRow], fun k hk hne => setRow_other w g k _ (by intro e; exact hne (by rw [e]))⟩
  rw [setRow_heap w g cur.toArray _ t (0, 0) hg]
  simp
theorem splice_head (N : Nat) (bs : List UInt8) (h : bs.length ≤ N) : splice (byteVals (List.replicate N 0)) 0 (byteVals bs) = byteVals (bs ++ List.replicate (N - bs.length) 0) := by
  simp [splice, byteVals_append, byteVals_length, byteVals]
theorem splice_next (N : Nat) (xs bs : List UInt8) (h : bs.length ≤ N) : splice (byteVals (xs ++ List.replicate N 0)) xs.length (byteVals bs) = byteVals (xs ++ bs ++ List.replicate (N - bs.length) 0) := by
  have e1 : (byteVals (xs ++ List.replicate N 0)).take xs.length = byteVals xs := by
    rw [byteVals_append, List.take_append_of_le_length (by rw [byteVals_length]; exact Nat.le_refl _), List.take_of_length_le (by rw [byteVals_length]; exact Nat.le_refl _)]
  have e2 : (byteVals (xs ++ List.replicate N 0)).drop (xs.length + (byteVals bs).length) = byteVals (List.replicate (N - bs.length) 0) := by
    rw [byteVals_append, byteVals_length, List.drop_append, byteVals_length]
    rw [List.drop_eq_nil_of_le (by rw [byteVals_length]; omega), List.nil_append]
    simp [byteVals]
  unfold splice
  rw [e1, e2, byteVals_append, byteVals_append, List.append_assoc]
theorem last_four (xs : List UInt8) (D : ByteArray) (bs : List UInt8) (hD : D.data.toList = bs) (hs : D.size = 4) :
    (byteVals (xs ++ List.replicate 4 0)).take xs.length ++ Lib.byteCells D.data.toList ++ (byteVals (xs ++ List.replicate 4 0)).drop (xs.length + D.size) = byteVals (xs ++ bs) := by
  have e1 : (byteVals (xs ++ List.replicate 4 0)).take xs.length = byteVals xs := by
    rw [byteVals_append, List.take_append_of_le_length (by rw [byteVals_length]; exact Nat.le_refl _), List.take_of_length_le (by rw [byteVals_length]; exact Nat.le_refl _)]
  have e2 : (byteVals (xs ++ List.replicate 4 0)).drop (xs.length + D.size) = [] := List.drop_eq_nil_of_le (by rw [byteVals_length]; simp; omega)
  rw [e1, e2, hD, List.append_nil, byteVals_append]
  rfl
theorem keepE {w3 wx wy : World} (hg : wx.grownBy wy (some w3.heap.size)) (h : Below w3.heap.size w3 wx) : Below w3.heap.size w3 wy := h.grown hg h.size (fun k e => by cases e; exact Nat.le_refl _)
theorem keepD {w3 wx wy : World} (hb : Below wx.heap.size wx wy) (h : Below w3.heap.size w3 wx) : Below w3.heap.size w3 wy := h.trans (hb.mono h.size)

set_option maxRecDepth 100000 in
set_option maxHeartbeats 4000000 in
theorem impl_putRec (kind tx : Int) (a : Option Addr) (len cap : Nat) (l : List Od) (w : World) (h : SlO w a len l) (hks : ∀ p ∈ l, p.2.1.size ≤ 1099511627776) (hK : sha.KW w) :
    Calls Tryd.prog 12 #[.agg #[.int .i64 kind, .int .i64 tx, .slice a len cap]] w fun e w' =>
      ∃ g' n' cap', e = .returned (.slice (some ⟨g', 0, none⟩) n' cap') ∧ Own w' w.heap.size g' n' cap' (putRec (kind, tx, l)) ∧ Below w.heap.size w w' := by
  obtain ⟨i0, hi, hz0, hz1, hz2⟩ := info_parts info8
  obtain ⟨W, hW⟩ : ∃ W, W = w.alloc (.cells #[.int .i64 kind, .int .i64 tx, .slice a len cap] 26) := ⟨_, rfl⟩
  have hba : Below w.heap.size w W := by rw [hW]; exact (Below.refl _ _).alloc (Nat.le_refl _) _
  have hbx : BoxR w.heap.size kind tx (.slice a len cap) W := by rw [hW]; exact boxR_new _ _ _ _
  have HOK := Hid.mk' (impl_recOk kind tx a len cap l W (h.below hba) hks)
  have HW := Hid.mk' hW.symm
  clear hW
  cases hok : recOk (kind, tx, l)
  · rw [hok] at HOK
    have HP : Hid (putRec (kind, tx, l) = []) := by show _ = _; unfold putRec; rw [hok]; rfl
    clear hok
    go_enter Tryd.func12, Tryd.ntmps12
    go_wp2_with (at_builtin; fail)
    rw [HW.out]
    refine HOK.out.mono ?_
    rintro e w1 ⟨rfl, hb1⟩
    have hB1 := hba.trans (hb1.mono hba.size)
    have hO1 := own_made w1 w.heap.size hB1.size
    clear HOK HW hbx
    go_wp2_with (at_builtin; fail)
    go_ret
    exact ⟨_, _, _, rfl, by rw [HP.out]; exact hO1, hB1.alloc hB1.size _⟩
  · rw [hok] at HOK
    have HP : Hid (putRec (kind, tx, l) = recBytes (kind, tx, l)) := by show _ = _; unfold putRec; rw [hok]; rfl
    have HBF : Hid (∀ wx, SlO wx a len l → Calls Tryd.prog 40 #[.agg #[.int .i64 kind, .int .i64 tx, .slice a len cap]] wx fun e w' => ∃ g' n' cap', e = .returned (.slice (some ⟨g', 0, none⟩) n' cap') ∧ Own w' wx.heap.size g' n' cap' (bodyOf (kind, tx, l)) ∧ Below wx.heap.size wx w') := fun wx hx => i_bodyOf kind tx a len cap l wx hok hx hks
    have hbs := body_small (kind, tx, l)
    clear hok
    go_enter Tryd.func12, Tryd.ntmps12
    go_wp2_with (at_builtin; fail)
    rw [HW.out]
    refine HOK.out.mono ?_
    rintro e w1 ⟨rfl, hb1⟩
    have hB1 := hba.trans (hb1.mono hba.size)
    have hbx1 := hbx.below hb1
    obtain ⟨d0, d1, d2⟩ := hbx1.cells
    have hh1 := h.below hB1
    clear HOK HW hbx hb1 hba
    go_wp2_with (at_builtin; fail)
    refine (HBF.out _ hh1).mono ?_
    rintro e w2 ⟨gb, nb, cpb, rfl, hOb, hb2⟩
    have hB2 := hB1.trans (hb2.mono hB1.size)
    have hnb := hOb.1
    have hnn := numBytes_length (nb : Int)
    have HPN := Hid.mk' (impl_put none 0 0 [] (nb : Int) w2 (sl_nil _ _) (WalkArith.wf_i64 (by omega)) (by omega))
    clear HBF d0 d1 d2 hbx1 hh1 hb2
    go_wp2_with (at_builtin; fail)
    refine HPN.out.mono ?_
    rintro e w3 ⟨gh, nh, cph, rfl, hOh, hb3⟩
    rw [List.nil_append] at hOh
    have hB3 := hB2.trans (hb3.mono hB2.size)
    have hOb3 := hOb.below hb3
    have hnh := hOh.1
    clear HPN hb3 hOb
    have hNm : nh + nb + 4 ≤ maxLen := by unfold maxLen; omega
    go_wp2_with (at_make; refine wpList_make_full _ rfl _ _ 22 rfl w.heap.size 5 i0 (.int .u8 0) 1 Tryd.underlying22 hi hz0 hz1 _ _ _ _ (nh + nb + 4) rfl (by go_num) rfl (by go_num) ?b2 ?b3 ?b4 ?_)
    case b2 => rw [hz2]; omega
    case b3 => exact hNm
    case b4 => exact hB3.size
    intro w4 hown4 hgrow4
    have hb4 : Below w3.heap.size w3 w4 := (Below.refl _ _).grown hgrow4 (Nat.le_refl _) (fun k e => by cases e)
    have hO4 : Own w4 w.heap.size w3.heap.size (nh + nb + 4) (nh + nb + 4) (List.replicate (nh + nb + 4) 0) := by
      refine ⟨by simp, ?_⟩
      have e : byteVals (List.replicate (nh + nb + 4) 0) = (madeCells #[.int .u8 0] (nh + nb + 4)).toList := by
        simp [byteVals, toList_madeCells_one]
      rw [e]; exact hown4
    have hOb4 := hOb3.below hb4
    have hOh4 := hOh.below hb4
    have hB4 := hB3.trans (hb4.mono hB3.size)
    have hgb3 := hOb3.lt
    have hgh3 := hOh.lt
    have HROW := Hid.mk' (own_row hO4)
    have hsz1 : (Tryd.prog.info? 5).map (·.size) = some 1 := by rw [hi]; simp [hz1]
    have HPOS : Hid (0 < (byteVals (numBytes (nb : Int))).length → (some (⟨w3.heap.size, 0, none⟩ : Addr)) = some ⟨w3.heap.size, 0, none⟩ ∧ ∃ ad, (some (⟨gh, 0, none⟩ : Addr)) = some ad ∧ ∀ j v, (byteVals (numBytes (nb : Int)))[j]? = some v → w4.cell? (ad.add j) = some v) := fun _ => ⟨rfl, _, rfl, sl_cells hOh4.sl⟩
    have hgz : w.heap.size ≤ w3.heap.size := hB3.size
    clear hown4 hgrow4 hO4
    go_wp2_with (refine wpList_copy_splice rfl (.tmp 23) (.tmp 24) 22 22 rfl 5 Tryd.underlying22 hsz1 _ _ _ _ _ _ rfl rfl w3.heap.size 0 (byteVals (List.replicate (nh + nb + 4) 0)) 5 HROW.out (byteVals (numBytes (nb : Int))) ?d1 HPOS.out ?d2 (byteVals_oneCell _) w3.heap.size w3 hb4 (Nat.le_refl _) ?_)
    case d1 => rw [byteVals_length, hnh]; exact (Nat.min_eq_left (by omega)).symm
    case d2 => rw [byteVals_length, byteVals_length]; simp; omega
    intro w5 hrow5 hb5
    rw [splice_head _ _ (by omega), show nh + nb + 4 - (numBytes (nb : Int)).length = nb + 4 by omega] at hrow5
    have hOb5 := hOb3.below hb5
    have HPOS2 : Hid (0 < (byteVals (bodyOf (kind, tx, l))).length → (some (⟨w3.heap.size, nh, none⟩ : Addr)) = some ⟨w3.heap.size, nh, none⟩ ∧ ∃ ad, (some (⟨gb, 0, none⟩ : Addr)) = some ad ∧ ∀ j v, (byteVals (bodyOf (kind, tx, l)))[j]? = some v → w5.cell? (ad.add j) = some v) := fun _ => ⟨rfl, _, rfl, sl_cells hOb5.sl⟩
    have hbv : (byteVals (numBytes (nb : Int))).length = nh := by rw [byteVals_length]; exact hnh
    have hbv2 : (byteVals (bodyOf (kind, tx, l))).length = nb := by rw [byteVals_length]; exact hnb
    clear HPOS HROW hb4 hOb4 hOh4
    go_wp2_with (refine wpList_copy_splice rfl (.tmp 29) (.tmp 30) 22 22 rfl 5 Tryd.underlying22 hsz1 _ _ _ _ _ _ rfl rfl w3.heap.size nh (byteVals (numBytes (nb : Int) ++ List.replicate (nb + 4) 0)) 5 hrow5.out (byteVals (bodyOf (kind, tx, l))) ?e1 HPOS2.out ?e2 (byteVals_oneCell _) w3.heap.size w3 hb5 (Nat.le_refl _) ?_)
    case e1 => first | exact (Nat.min_eq_left (by omega)).symm | (rw [byteVals_length, hnb]; exact (Nat.min_eq_left (by omega)).symm)
    case e2 => rw [byteVals_length (numBytes (nb : Int) ++ List.replicate (nb + 4) 0)]; simp; omega
    intro w6 hrow6 hb6
    have e6 := splice_next (nb + 4) (numBytes (nb : Int)) (bodyOf (kind, tx, l)) (by omega)
    rw [hnh, show nb + 4 - (bodyOf (kind, tx, l)).length = 4 by omega] at e6
    rw [e6] at hrow6
    have hOb6 := hOb3.below hb6
    have hB6 := hB3.trans (hb6.mono hB3.size)
    have HMK : Hid (∀ wx, Below w3.heap.size w3 wx → Calls Tryd.prog 42 #[.slice (some ⟨gb, 0, none⟩) nb cpb] wx fun e w' => e = .returned (.string ((⟨(sha.digest (bodyOf (kind, tx, l))).toArray⟩ : ByteArray).extract 0 4)) ∧ Below wx.heap.size wx w') := fun wx hx => i_markOf _ nb cpb _ wx (hOb3.sl.below hx) (by omega) ((hK.below hB3).below hx)
    have HDC : Hid (((⟨(sha.digest (bodyOf (kind, tx, l))).toArray⟩ : ByteArray).extract 0 4).data.toList = sum4 (bodyOf (kind, tx, l))) := digest_cut _
    have hDs : ((⟨(sha.digest (bodyOf (kind, tx, l))).toArray⟩ : ByteArray).extract 0 4).size = 4 := by
      rw [ByteArray.size_extract]; show min 4 (sha.digest _).toArray.size - 0 = 4; simp [sha.digest_length]
    generalize (⟨(sha.digest (bodyOf (kind, tx, l))).toArray⟩ : ByteArray).extract 0 4 = D at *
    have hrl : (numBytes (nb : Int) ++ bodyOf (kind, tx, l)).length = nh + nb := by rw [List.length_append]; omega
    have hw6 : w3.heap.size < w6.heap.size := (Array.getElem?_eq_some_iff.1 hrow6.out).1
    have HR : Hid (∀ wx, Below w6.heap.size w6 wx → wx.heap[w3.heap.size]? = some (.cells (byteVals (numBytes (nb : Int) ++ bodyOf (kind, tx, l) ++ List.replicate 4 0)).toArray 5 (0, 0))) := fun wx hx => (hx.block _ hw6).trans hrow6.out
    have hb7 : Below w3.heap.size w3 w6.drew := hb6.drew
    have hdr6 : Below w6.heap.size w6 w6.drew := (Below.refl _ _).drew
    clear HPOS2 hOb5 hb5 hrow5 e6 hOb6 hOh hOb3
    go_wp2_with (fail)
    go_region_held_law (fun w' => Below w3.heap.size w3 w') (first | with_reducible exact hb7 | with_reducible assumption | (refine keepD hbD ?_; with_reducible assumption) | (refine keepE hgr8 ?_; with_reducible assumption)) (first | (go_at_call 42; refine (HMK.out _ (by with_reducible assumption)).mono ?_; rintro e wD ⟨rfl, hbD⟩) | (have hbD' : Below w6.heap.size w6 wD := hdr6.trans (hbD.mono hdr6.size); refine step_copy_at rfl (.tmp 35) (.tmp 37) 22 9 5 rfl Tryd.underlying22 hsz1 w3.heap.size (nh + nb) _ _ D (byteVals (numBytes (nb : Int) ++ bodyOf (kind, tx, l) ++ List.replicate 4 0)) 5 rfl rfl (HR.out _ hbD') (by rw [hDs]; omega) (by rw [hDs, byteVals_length]; simp; omega) ?_; intro w8 hrow8 hgr8))
    all_goals
      have hB8 : Below w3.heap.size w3 w8 := by assumption
      have e8 := last_four (numBytes (nb : Int) ++ bodyOf (kind, tx, l)) D _ HDC.out hDs
      rw [hrl] at e8
      rw [e8] at hrow8
      have HO8 : Hid (Own w8 w.heap.size w3.heap.size (nh + nb + 4) (nh + nb + 4) (putRec (kind, tx, l))) := by
        show Own _ _ _ _ _ _
        rw [HP.out, recBytes, hnb]
        refine own_of_row ?_ hNm hgz hrow8
        rw [List.length_append, hrl, sum4_length]
      have hB9 := hB3.trans (hB8.mono hB3.size)
      clear hrow8 e8 hgr8 HR HMK
      go_wp2_with (fail)
      go_ret
      exact ⟨_, _, _, rfl, HO8.out, hB9⟩
end Go.Proofs.YtooiinicnkhlbaaDoor.recs
