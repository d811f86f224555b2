/- The program's digest. The program's seals: the digest of all roots. How values of a type lie in memory: what is read, what a call owns (with the blocks that it owns), and what a step leaves as it was. No function of the program is named here. A struct in a block, whole or in the midst of it. No function of the program is named here. -/
import Derived.Test.YtfaldffehpgaiaaDoorShae
import Derived.Deep.RegionWith
import Derived.Test.YtfaldffehpgaiaaDoorShad
import Derived.WalkKit
import Derived.WalkSpells
import Derived.WalkLawsBesides
import Derived.OwnWalk
import Derived.Deep.AppendLies
import Derived.Test.YtfaldffehpgaiaaDoorShaa
namespace Go.Proofs.YtfaldffehpgaiaaDoor.sha
open Go.RowKit Go.Proofs.YtfaldffehpgaiaaDoor.base Go.Proofs.YtfaldffehpgaiaaDoor.padmath
set_option linter.unusedVariables false
set_option linter.unusedSimpArgs false

theorem list8 {l : List Nat} (h : l.length = 8) : ∃ x0 x1 x2 x3 x4 x5 x6 x7 : Nat, l = [x0, x1, x2, x3, x4, x5, x6, x7] := by
  match l, h with
  | [x0, x1, x2, x3, x4, x5, x6, x7], _ => exact ⟨x0, x1, x2, x3, x4, x5, x6, x7, rfl⟩
theorem Arr.set8 {w : World} {g : Nat} {t : TypeId} {x0 x1 x2 x3 x4 x5 x6 x7 : Nat} (h : Arr w g t [x0, x1, x2, x3, x4, x5, x6, x7]) (y0 y1 y2 y3 y4 y5 y6 y7 : Nat) :
    Arr ((((((((w.setCell ⟨g, 0, none⟩ (.int .u32 (y0 : Int))).setCell ⟨g, 1, none⟩ (.int .u32 (y1 : Int))).setCell ⟨g, 2, none⟩ (.int .u32 (y2 : Int))).setCell ⟨g, 3, none⟩ (.int .u32 (y3 : Int))).setCell ⟨g, 4, none⟩ (.int .u32 (y4 : Int))).setCell ⟨g, 5, none⟩ (.int .u32 (y5 : Int))).setCell ⟨g, 6, none⟩ (.int .u32 (y6 : Int))).setCell ⟨g, 7, none⟩ (.int .u32 (y7 : Int))) g t [y0, y1, y2, y3, y4, y5, y6, y7] ∧ w.grownBy ((((((((w.setCell ⟨g, 0, none⟩ (.int .u32 (y0 : Int))).setCell ⟨g, 1, none⟩ (.int .u32 (y1 : Int))).setCell ⟨g, 2, none⟩ (.int .u32 (y2 : Int))).setCell ⟨g, 3, none⟩ (.int .u32 (y3 : Int))).setCell ⟨g, 4, none⟩ (.int .u32 (y4 : Int))).setCell ⟨g, 5, none⟩ (.int .u32 (y5 : Int))).setCell ⟨g, 6, none⟩ (.int .u32 (y6 : Int))).setCell ⟨g, 7, none⟩ (.int .u32 (y7 : Int))) (some g) := by
  have s0 := (h).set 0 y0
  have s1 := (s0.1).set 1 y1
  have s2 := (s1.1).set 2 y2
  have s3 := (s2.1).set 3 y3
  have s4 := (s3.1).set 4 y4
  have s5 := (s4.1).set 5 y5
  have s6 := (s5.1).set 6 y6
  have s7 := (s6.1).set 7 y7
  exact ⟨s7.1, (grownBy_trans (grownBy_trans (grownBy_trans (grownBy_trans (grownBy_trans (grownBy_trans (grownBy_trans s0.2 s1.2) s2.2) s3.2) s4.2) s5.2) s6.2) s7.2)⟩
theorem impl_blockD (x0 x1 x2 x3 x4 x5 x6 x7 : Nat) (bs : List UInt8) (w : World) (hs : ∀ x ∈ [x0, x1, x2, x3, x4, x5, x6, x7], x < 4294967296) (hK : KW w) (y0 y1 y2 y3 y4 y5 y6 y7 : Nat) (hY : [y0, y1, y2, y3, y4, y5, y6, y7] = block K64 [x0, x1, x2, x3, x4, x5, x6, x7] bs) :
    Calls Tryd.prog 47 #[.agg #[.int .u32 (x0 : Int), .int .u32 (x1 : Int), .int .u32 (x2 : Int), .int .u32 (x3 : Int), .int .u32 (x4 : Int), .int .u32 (x5 : Int), .int .u32 (x6 : Int), .int .u32 (x7 : Int)], .agg #[.int .u32 (be32 bs 0 : Int), .int .u32 (be32 bs 1 : Int), .int .u32 (be32 bs 2 : Int), .int .u32 (be32 bs 3 : Int), .int .u32 (be32 bs 4 : Int), .int .u32 (be32 bs 5 : Int), .int .u32 (be32 bs 6 : Int), .int .u32 (be32 bs 7 : Int), .int .u32 (be32 bs 8 : Int), .int .u32 (be32 bs 9 : Int), .int .u32 (be32 bs 10 : Int), .int .u32 (be32 bs 11 : Int), .int .u32 (be32 bs 12 : Int), .int .u32 (be32 bs 13 : Int), .int .u32 (be32 bs 14 : Int), .int .u32 (be32 bs 15 : Int)]] w fun e w' => e = .returned (.agg #[.int .u32 (y0 : Int), .int .u32 (y1 : Int), .int .u32 (y2 : Int), .int .u32 (y3 : Int), .int .u32 (y4 : Int), .int .u32 (y5 : Int), .int .u32 (y6 : Int), .int .u32 (y7 : Int)]) ∧ Below w.heap.size w w' := by
  refine (impl_block x0 x1 x2 x3 x4 x5 x6 x7 bs w hs hK).mono ?_
  rintro e w' ⟨z0, z1, z2, z3, z4, z5, z6, z7, rfl, hz, hb⟩
  rw [← hY] at hz
  injection hz with e0 hz; injection hz with e1 hz; injection hz with e2 hz; injection hz with e3 hz
  injection hz with e4 hz; injection hz with e5 hz; injection hz with e6 hz; injection hz with e7 hz
  subst e0; subst e1; subst e2; subst e3; subst e4; subst e5; subst e6; subst e7
  exact ⟨rfl, hb⟩

set_option maxRecDepth 100000 in
set_option maxHeartbeats 4000000 in
theorem impl_digestA (a0 : Option Addr) (len cap : Nat) (bs : List UInt8) (w : World) (h : Sl w a0 len bs) (hsz : len ≤ 1099511627776) (hK : KW w) :
    Calls Tryd.prog 31 #[.slice a0 len cap] w fun e w' => e = .returned (.string ⟨(digest bs).toArray⟩) ∧ Below w.heap.size w w' := by
  have hl := h.1
  have hba : Below w.heap.size w (w.alloc (.cells #[.int .u32 1779033703, .int .u32 3144134277, .int .u32 1013904242, .int .u32 2773480762, .int .u32 1359893119, .int .u32 2600822924, .int .u32 528734635, .int .u32 1541459225] 70)) := (Below.refl _ _).alloc (Nat.le_refl _) _
  have hA0 : Arr (w.alloc (.cells #[.int .u32 1779033703, .int .u32 3144134277, .int .u32 1013904242, .int .u32 2773480762, .int .u32 1359893119, .int .u32 2600822924, .int .u32 528734635, .int .u32 1541459225] 70)) w.heap.size 70 H8 := arr_new _ _ _ rfl rfl
  have hS0 := h.below hba
  go_enter Tryd.func31, Tryd.ntmps31
  go_wp2_with fail
  refine (impl_padded _ len cap bs _ hS0 hsz).mono ?_
  rintro e w1 ⟨gp, np, capp, rfl, hP, hB1⟩
  have HPL := Hid.mk' hP.1
  have hpb : np ≤ 1099511627776 + 100 := by rw [← hP.1, padded_length]; unfold zeros; omega
  have hmod : np % 64 = 0 := by rw [← hP.1]; exact padded_mod bs
  have hmx := hP.max
  have hA1 := hA0.below hB1
  have hBw : Below w.heap.size w w1 := hba.trans (hB1.mono (by simp))
  have hgp : w.heap.size + 1 ≤ gp := by have := hP.lt.1; simp at this; omega
  have hP1 := hP.sl
  clear hba hA0 hS0 hB1 hP
  go_wp2_with fail
  go_loopw [5] (fun iv wr => ∃ a : Nat, a ≤ np ∧ a % 64 = 0 ∧ iv = .int .i64 (a : Int) ∧ Arr wr w.heap.size 70 (hashTo (padded bs) (a / 64)) ∧ Sl wr (some ⟨gp, 0, none⟩) np (padded bs) ∧ Below w.heap.size w wr) (fun iv _ => np - (intOf iv).toNat)
  case atStart => exact ⟨0, Nat.zero_le _, rfl, rfl, hA1, hP1, hBw⟩
  case round =>
    clear hA1 hP1 hBw
    obtain ⟨a, ha, ham, rfl, hA, hP, hB⟩ := hrel
    obtain ⟨x0, x1, x2, x3, x4, x5, x6, x7, hX⟩ := list8 (hashTo_length (padded bs) (a / 64))
    have hxl : ∀ x ∈ [x0, x1, x2, x3, x4, x5, x6, x7], x < 4294967296 := by rw [← hX]; exact hashTo_lt _ _
    rw [hX] at hA
    by_cases hlt : a < np
    · have ha64 : a + 64 ≤ np := by omega
      obtain ⟨y0, y1, y2, y3, y4, y5, y6, y7, hY⟩ := list8 (hashTo_length (padded bs) ((a + 64) / 64))
      have HN : Hid ([y0, y1, y2, y3, y4, y5, y6, y7] = block K64 [x0, x1, x2, x3, x4, x5, x6, x7] (((padded bs).drop a).take 64)) := by
        show _ = _
        rw [← hY, ← hX, show (a + 64) / 64 = a / 64 + 1 by omega]
        show block _ _ (((padded bs).drop (64 * (a / 64))).take 64) = _
        rw [show 64 * (a / 64) = a by omega]
      have HY := Hid.mk' hY
      have hSb : Sl wr.drew (some ⟨gp, 0 + a, none⟩) 64 (((padded bs).drop a).take 64) := sl_sub hP a 64 ha64
      rw [Nat.zero_add] at hSb
      have hK1 : KW wr := hK.below hB
      obtain ⟨c0, c1, c2, c3, c4, c5, c6, c7⟩ := hA.eight
      have hfz := hA.frozen
      clear hX hY
      generalize ((padded bs).drop a).take 64 = blk at *
      have e64 : IntKind.i64.wrap ((a : Int) + 64) = (a : Int) + 64 := by rw [IntKind.wrap_i64]; omega
      have q1 : (0 : Int) ≤ (a : Int) := by omega
      have hAd : Arr wr.drew w.heap.size 70 [x0, x1, x2, x3, x4, x5, x6, x7] := hA
      have hK1d : KW wr.drew := hK1
      have q2 : (a : Int) ≤ (a : Int) + 64 := by omega
      have q3 : (a : Int) + 64 ≤ (capp : Int) := by omega
      have q4 : ¬ capp = a := by omega
      have q5 : ((a : Int) + 64).toNat - a = 64 := by omega
      go_wp2_with fail
      go_region_with (first | (go_at_call 48; refine (impl_words gp a (capp - a) blk wr.drew hSb).mono ?_; rintro e wx ⟨rfl, hbx⟩; obtain ⟨k0, k1, k2, k3, k4, k5, k6, k7⟩ := (show Arr wx w.heap.size 70 [x0, x1, x2, x3, x4, x5, x6, x7] from hAd.below hbx).eight) | (go_at_call 47; refine (impl_blockD x0 x1 x2 x3 x4 x5 x6 x7 blk _ hxl (hK1d.below hbx) y0 y1 y2 y3 y4 y5 y6 y7 HN.out).mono ?_; rintro e wy ⟨rfl, hby⟩; have hA2 : Arr wy w.heap.size 70 [x0, x1, x2, x3, x4, x5, x6, x7] := (show Arr wx w.heap.size 70 [x0, x1, x2, x3, x4, x5, x6, x7] from hAd.below hbx).below hby; obtain ⟨m0, m1, m2, m3, m4, m5, m6, m7⟩ := hA2.eight; have hfz2 := hA2.frozen))
      all_goals
        have hBd : Below w.heap.size w wr.drew := hB.drew
        have hBx : Below w.heap.size w wx := hBd.trans (hbx.mono hBd.size)
        have hBy : Below w.heap.size w wy := hBx.trans (hby.mono hBx.size)
        have h8 := hA2.set8 y0 y1 y2 y3 y4 y5 y6 y7
        have hPd : Sl wr.drew (some ⟨gp, 0, none⟩) np (padded bs) := hP
        have HP := Hid.mk' (((hPd.below hbx).below hby).grown h8.2 (fun e => by simp only [Option.some.injEq] at e; omega))
        have HB := Hid.mk' (hBy.trans (below_grown h8.2 (Nat.le_refl _) hBy.size))
        have HA := Hid.mk' h8.1
        clear hBd hBx hBy h8 hPd hP hbx hby hA2 hfz2 m0 m1 m2 m3 m4 m5 m6 m7 k0 k1 k2 k3 k4 k5 k6 k7 c0 c1 c2 c3 c4 c5 c6 c7 hfz hA hAd hK1 hK1d hSb e64 q1 q2 q3 q4 q5 hB
        go_wp2_with fail
        go_roundw
        case rel => exact ⟨a + 64, ha64, by omega, by go_num, by rw [HY.out]; exact HA.out, HP.out, HB.out⟩
        case measure => simp [intOf]; omega
    · have HE : Hid (a = np) := by show _ = _; omega
      have HD : Hid (digest bs = ([x0, x1, x2, x3, x4, x5, x6, x7].map word4).flatten) := by
        show _ = _; unfold digest; rw [HPL.out, ← HE.out, hX]
      obtain ⟨c0, c1, c2, c3, c4, c5, c6, c7⟩ := hA.eight
      clear hA hP hX hK
      go_wp2_with fail
      refine (impl_bytes x0 x1 x2 x3 x4 x5 x6 x7 _ hxl).mono ?_
      rintro e w9 ⟨rfl, hb9⟩
      go_wp2_with fail
      go_ret
      exact ⟨ret_str (by rw [HD.out]; simp), hB.trans (hb9.mono hB.size)⟩

theorem impl_digest (b off len cap : Nat) (bs : List UInt8) (w : World) (h : Sl w (some ⟨b, off, none⟩) len bs) (hsz : len ≤ 1099511627776) (hK : KW w) :
    Calls Tryd.prog 31 #[.slice (some ⟨b, off, none⟩) len cap] w fun e w' => e = .returned (.string ⟨(digest bs).toArray⟩) ∧ Below w.heap.size w w' :=
  impl_digestA (some ⟨b, off, none⟩) len cap bs w h hsz hK

end Go.Proofs.YtfaldffehpgaiaaDoor.sha

namespace Go.Proofs.YtfaldffehpgaiaaDoor.seals
open Go Go.RowKit Go.Proofs.YtfaldffehpgaiaaDoor.base Go.Proofs.YtfaldffehpgaiaaDoor.pairs Go.Proofs.YtfaldffehpgaiaaDoor.tree Go.Proofs.YtfaldffehpgaiaaDoor.putnum Go.Proofs.YtfaldffehpgaiaaDoor.puttext Go.Proofs.YtfaldffehpgaiaaDoor.puttexts
set_option linter.unusedVariables false
set_option linter.unusedSimpArgs false

set_option maxRecDepth 100000 in
set_option maxHeartbeats 1000000 in
theorem addTextsB (g n cap base : Nat) (bs : List UInt8) (a : Option Addr) (len cap2 : Nat) (ss : List ByteArray) (w : World) (h : Own w base g n cap bs) (hb : base ≤ w.heap.size)
    (hS : SlS w a len ss) (hblk : ∀ b off, a = some ⟨b, off, none⟩ → 0 < len → b < base) (hsz : n + (textsBytes ss).length ≤ 549755813888) (hss : ∀ s ∈ ss, s.size ≤ 549755813888) :
    Calls Tryd.prog 50 #[.slice (some ⟨g, 0, none⟩) n cap, .slice a len cap2] w fun e w' =>
      ∃ g' n' cap', e = .returned (.slice (some ⟨g', 0, none⟩) n' cap') ∧ Own w' base g' n' cap' (bs ++ textsBytes ss) ∧ Below base w w' ∧ Keeps w w' := by
  obtain ⟨hl, hm, _, hc⟩ := hS
  subst hl
  unfold maxLen at hm
  obtain ⟨i0, hi, hz0, hz1, hz2⟩ := info_parts info8
  have hn0 := h.1
  go_enter Tryd.func50, Tryd.ntmps50
  go_wp2
  go_loopw [0, 9] (fun v i wr => ∃ (k g' n' cap' : Nat), v = .slice (some ⟨g', 0, none⟩) n' cap' ∧ i = .int .i64 (k : Int) ∧ k ≤ ss.length ∧ Own wr base g' n' cap' (bs ++ textsBytes (ss.take k)) ∧ Below base w wr ∧ Keeps w wr) (fun _ i _ => ss.length - (intOf i).toNat)
  case atStart => exact ⟨0, g, n, cap, rfl, rfl, Nat.zero_le _, by simpa [textsBytes] using h, Below.refl _ _, Keeps.refl _⟩
  case round =>
    obtain ⟨k, g', n', cap', rfl, rfl, hk, hO, hB, hK⟩ := hrel
    by_cases hlt : k < ss.length
    · obtain ⟨b, off, ha, hcl⟩ := hc (by omega)
      have hbk := hblk b off ha (by omega)
      subst ha
      generalize hsk : ss[k] = s
      have c1 : wr.cell? ⟨b, off + k, none⟩ = some (.string s) := by
        rw [hB.cell (p := ⟨b, off + k, none⟩) hbk, hcl k hlt, hsk]
      have hs9 : s.size ≤ 549755813888 := by rw [← hsk]; exact hss _ (List.getElem_mem hlt)
      have hT := textsBytes_take ss k hlt
      rw [hsk] at hT
      have hle := textsBytes_le ss (k + 1)
      rw [hT, List.length_append] at hle
      have hs1 := size_le_textBytes s
      have hn' : n' + s.size ≤ 549755813888 := by have := hO.1; simp only [List.length_append] at this; omega
      have hwf : (Lit.int .i64 (s.size : Int)).wf = true := WalkArith.wf_i64 (by omega)
      have hnb := numBytes_length (s.size : Int)
      have hbw : base ≤ wr.heap.size := Nat.le_trans hb hB.size
      have HT := Hid.mk' hT
      clear hT hle hs1 hcl hc hblk hbk hsk hss
      go_wp2_with fail
      refine (addNum g' n' cap' base _ _ _ hO hbw hwf (by omega)).mono ?_
      rintro e w1 ⟨g1, n1, cap1, rfl, hO1, hB1, hK1⟩
      rw [List.append_assoc] at hO1
      have hn1 : n1 ≤ n' + 5 := by have := hO1.1; have := hO.1; simp only [List.length_append] at *; omega
      have hc3 : n1 + s.size ≤ maxLen := by unfold maxLen; omega
      have hc4 : n1 + s.size ≤ 140737488355328 := by omega
      have hbw1 : base ≤ w1.heap.size := Nat.le_trans hbw hB1.size
      go_wp2_with (at_builtin; refine Lib.wpList_append_own_string _ rfl _ _ 22 9 rfl base 5 i0 Tryd.underlying22 Tryd.underlying9 hi hz0 hz1 hz2 _ _ _ rfl hO1.2 s rfl hc3 hc4 hbw1 ?_)
      intro v2 w2 hown hgrow hnn
      have hnn' : ¬ v2 = .slice none 0 0 := by simpa using hnn
      rw [strCells_eq] at hown
      obtain ⟨g2, cap2', hv, hO2⟩ := own_app (m := s.size) (ns := s.data.toList) hO1.1 (size_toList s) rfl hnn' hown
      subst hv
      have hB2 : Below base w w2 := (hB.trans hB1).grown hgrow hbw1 (fun k e => by simp [Value.ownBlock] at e; have := hO1.lt; omega)
      have hK2 : Keeps w w2 := (hK.trans hK1).trans (hO1.keeps hgrow)
      have HO2 : Hid (Own w2 base g2 (n1 + s.size) cap2' (bs ++ textsBytes (ss.take (k + 1)))) := by
        show Own w2 base g2 (n1 + s.size) cap2' (bs ++ textsBytes (ss.take (k + 1)))
        rw [HT.out]
        simpa [textBytes, List.append_assoc] using hO2
      clear hown hgrow hnn hnn' hO1 hO2 hB1 hO hB hK hK1
      go_wp2
      go_roundw
      case rel => exact ⟨k + 1, g2, _, cap2', rfl, by go_num, by omega, HO2.out, hB2, hK2⟩
      case measure => simp [intOf]; omega
    · have e : k = ss.length := by omega
      go_wp2
      go_ret
      subst e
      rw [List.take_length] at hO
      exact ⟨g', n', cap', rfl, hO, hB, hK⟩
set_option maxRecDepth 100000 in
set_option maxHeartbeats 1000000 in
theorem impl_textsA (a0 : Option Addr) (len cap : Nat) (bs : List UInt8) (a : Option Addr) (len2 cap2 : Nat) (ss : List ByteArray) (w : World) (h : Sl w a0 len bs) (hS : SlS w a len2 ss) (hsz : len ≤ 134217728) (hs : ss.length + sum ss ≤ 134217728) :
    Calls Tryd.prog 32 #[.slice a0 len cap, .slice a len2 cap2] w fun e w' =>
      ∃ g' n' cap', e = .returned (.slice (some ⟨g', 0, none⟩) n' cap') ∧ Own w' w.heap.size g' n' cap' (bs ++ listBytes ss) ∧ Below w.heap.size w w' := by
  have hl := h.1
  have hl2 := hS.1
  have hwf : (Lit.int .i64 (len2 : Int)).wf = true := WalkArith.wf_i64 (by omega)
  have hnb := numBytes_length (len2 : Int)
  have hle2 := textsBytes_sum ss
  have HBL : Hid (∀ b off, a = some ⟨b, off, none⟩ → 0 < len2 → b < w.heap.size) := fun b off e h0 => by
    obtain ⟨b', off', e', hc⟩ := hS.2.2.2 h0
    rw [e] at e'
    simp only [Option.some.injEq, Addr.mk.injEq, and_true] at e'
    obtain ⟨rfl, rfl⟩ := e'
    exact World.block_lt_of_cell? w _ (hc 0 (by omega))
  go_enter Tryd.func32, Tryd.ntmps32
  go_wp2_with fail
  refine (impl_put a0 len cap bs _ _ h hwf (by omega)).mono ?_
  rintro e w1 ⟨g1, n1, cap1, rfl, hO1, hB1⟩
  have hS1 := hS.below hB1
  have hn1 : n1 ≤ 134217733 := by have := hO1.1; simp at this; omega
  go_wp2_with fail
  refine (addTextsB g1 n1 cap1 w.heap.size _ _ len2 cap2 ss _ hO1 hB1.size hS1 ?_ ?_ ?_).mono ?_
  · exact HBL.out
  · omega
  · intro x hx; have := size_le_sum ss x hx; omega
  rintro e w2 ⟨g3, n3, cap3, rfl, hO3, hB3, _⟩
  go_wp2_with fail
  go_ret
  refine ⟨g3, n3, cap3, rfl, ?_, hB1.trans hB3⟩
  rw [List.append_assoc, ← hl2] at hO3
  exact hO3
set_option maxRecDepth 100000 in
set_option maxHeartbeats 1000000 in
theorem impl_superOf (no : Int) (prev : ByteArray) (a : Option Addr) (n cap : Nat) (roots : List ByteArray) (w : World) (h : SlS w a n roots) (hno : (Lit.int .i64 no).wf = true) (hp : prev.size ≤ 1048576) (hr : roots.length + sum roots ≤ 1048576) (hK : sha.KW w) :
    Calls Tryd.prog 12 #[.int .i64 no, .string prev, .slice a n cap] w fun e w' => e = .returned (.string (superOf no prev roots)) ∧ Below w.heap.size w w' := by
  obtain ⟨w0, hw0⟩ : ∃ w0, w.alloc (.cells #[.int .u8 3] 5) = w0 := ⟨_, rfl⟩
  have hb0 : Below w.heap.size w w0 := by rw [← hw0]; exact (Below.refl _ _).alloc (Nat.le_refl _) _
  have hO : Own w0 w.heap.size w.heap.size 1 1 [3] := by rw [← hw0]; exact own_one w 3 3 rfl w.heap.size (Nat.le_refl _)
  have HN := Hid.mk' (impl_put (some ⟨w.heap.size, 0, none⟩) 1 1 [3] no w0 hO.sl hno (by omega))
  have HW := Hid.mk' hw0
  have hnl := numBytes_length no
  have htl := textBytes_length prev
  have hll := listBytes_length roots
  clear hw0 hO
  go_enter Tryd.func12, Tryd.ntmps12
  go_wp2_with fail
  rw [HW.out]
  refine HN.out.mono ?_
  rintro e w1 ⟨g1, n1, c1, rfl, hO1, hb1⟩
  have hB1 := hb0.trans (hb1.mono hb0.size)
  have HT := Hid.mk' (impl_text (some ⟨g1, 0, none⟩) n1 c1 ([3] ++ numBytes no) prev w1 hO1.sl (by have := hO1.1; simp at this; omega) (by omega))
  clear HN HW hO1
  go_wp2_with fail
  refine HT.out.mono ?_
  rintro e w2 ⟨g2, n2, c2, rfl, hO2, hb2⟩
  have hB2 := hB1.trans (hb2.mono hB1.size)
  have HS := Hid.mk' (impl_textsA (some ⟨g2, 0, none⟩) n2 c2 ([3] ++ numBytes no ++ textBytes prev) a n cap roots w2 hO2.sl (h.below hB2) (by have := hO2.1; simp at this; omega) (by omega))
  clear HT hO2
  go_wp2_with fail
  refine HS.out.mono ?_
  rintro e w3 ⟨g3, n3, c3, rfl, hO3, hb3⟩
  have hB3 := hB2.trans (hb3.mono hB2.size)
  have hn : n3 ≤ 1099511627776 := by have := hO3.1; simp at this; omega
  have HD := Hid.mk' (sha.impl_digest g3 0 n3 c3 (superB no prev roots) w3 hO3.sl hn (hK.below hB3))
  clear HS hO3
  go_wp2_with fail
  refine HD.out.mono ?_
  rintro e w4 ⟨rfl, hb4⟩
  go_wp2_with fail
  go_ret
  exact ⟨rfl, hB3.trans (hb4.mono hB3.size)⟩
end Go.Proofs.YtfaldffehpgaiaaDoor.seals

namespace Go.Proofs.YtfaldffehpgaiaaDoor.lay
open Go Go.RowKit
set_option linter.unusedVariables false

/-! ### what a step leaves as it was -/
structure Frame (G : List Nat) (w w' : World) : Prop where
  os : w'.os = w.os
  tape : w'.tape = w.tape
  output : w'.output = w.output
  size : w.heap.size ≤ w'.heap.size
  block : ∀ j, j < w.heap.size → j ∉ G → w'.heap[j]? = w.heap[j]?
def Fresh (w : World) (F F' : List Nat) : Prop := ∀ k ∈ F', k ∈ F ∨ w.heap.size ≤ k
section
variable {G G' F F' F'' : List Nat} {w w' w'' : World} {B : Nat}
theorem Frame.refl (G : List Nat) (w : World) : Frame G w w := ⟨rfl, rfl, rfl, Nat.le_refl _, fun _ _ _ => rfl⟩
theorem Frame.trans (h : Frame G w w') (k : Frame G' w' w'') (hf : Fresh w G G') : Frame G w w'' :=
  ⟨k.os.trans h.os, k.tape.trans h.tape, k.output.trans h.output, Nat.le_trans h.size k.size, fun j hj hn => (k.block j (Nat.lt_of_lt_of_le hj h.size) (fun e => by
    rcases hf j e with e | e
    · exact hn e
    · omega)).trans (h.block j hj hn)⟩
theorem Frame.mono (h : Frame G w w') (hg : ∀ k ∈ G, k ∈ G') : Frame G' w w' :=
  ⟨h.os, h.tape, h.output, h.size, fun j hj hn => h.block j hj (fun e => hn (hg j e))⟩
theorem Frame.of_below (h : Below w.heap.size w w') : Frame G w w' := ⟨h.os, h.tape, h.output, h.size, fun j hj _ => h.block j hj⟩
theorem Frame.below (h : Frame G w w') (k : Below w'.heap.size w' w'') : Frame G w w'' :=
  h.trans (G' := []) (Frame.of_below k) (fun _ e => absurd e List.not_mem_nil)
theorem Frame.grown {row : Option Nat} (h : Frame G w w') (k : w'.grownBy w'' row) (hr : ∀ k, row = some k → k ∈ G ∨ w.heap.size ≤ k) : Frame G w w'' :=
  ⟨k.os.trans h.os, k.tape.trans h.tape, k.output.trans h.output, Nat.le_trans h.size k.size, fun j hj hn => (k.block j (Nat.lt_of_lt_of_le hj h.size) (fun e => by
    rcases hr j e.symm with e2 | e2
    · exact hn e2
    · omega)).trans (h.block j hj hn)⟩
theorem Frame.bel (h : Frame G w w') (hB : B ≤ w.heap.size) (hG : ∀ k ∈ G, B ≤ k) : Below B w w' :=
  ⟨h.os, h.tape, h.output, h.size, fun j hj => h.block j (Nat.lt_of_lt_of_le hj hB) (fun e => by have := hG j e; omega)⟩
theorem Fresh.refl (w : World) (F : List Nat) : Fresh w F F := fun _ h => .inl h
theorem Fresh.trans (h : Fresh w F F') (k : Fresh w' F' F'') (hs : w.heap.size ≤ w'.heap.size) : Fresh w F F'' := fun j hj => by
  rcases k j hj with e | e
  · exact h j e
  · exact .inr (by omega)
theorem Fresh.new (h : ∀ k ∈ F', w.heap.size ≤ k) : Fresh w F F' := fun k hk => .inr (h k hk)
theorem Fresh.mono (h : Fresh w F F') (hF : ∀ k ∈ F, k ∈ G) : Fresh w G F' := fun k hk => (h k hk).imp_left (hF k)
theorem Fresh.append (h : Fresh w F F') (k : Fresh w F F'') : Fresh w F (F' ++ F'') := fun j hj => by
  rcases List.mem_append.1 hj with e | e
  · exact h j e
  · exact k j e
theorem nodup_parts (h : (F ++ F').Nodup) : F.Nodup ∧ F'.Nodup ∧ ∀ k ∈ F, k ∉ F' := by
  rw [List.nodup_append] at h
  exact ⟨h.1, h.2.1, fun k hk hk' => h.2.2 k hk k hk' rfl⟩
theorem nodup_mk (h1 : F.Nodup) (h2 : F'.Nodup) (h : ∀ k ∈ F, k ∉ F') : (F ++ F').Nodup := by
  rw [List.nodup_append]
  exact ⟨h1, h2, fun a ha b hb e => h a ha (e ▸ hb)⟩
end

/-! ### a type's way to lie -/
structure Rd (α : Type) where
  size : Nat
  see : World → List Value → α → Prop
  own : World → List Value → α → List Nat → Prop
  seeLen : ∀ {w vs x}, see w vs x → vs.length = size
  seeCells : ∀ {w w' vs x}, see w vs x → (∀ b o v, w.cell? ⟨b, o, none⟩ = some v → w'.cell? ⟨b, o, none⟩ = some v) → see w' vs x
  ownSee : ∀ {w vs x F}, own w vs x F → see w vs x
  ownAt : ∀ {w w' vs x F}, own w vs x F → (∀ k ∈ F, w'.heap[k]? = w.heap[k]?) → own w' vs x F
  ownLt : ∀ {w vs x F}, own w vs x F → ∀ k ∈ F, k < w.heap.size
  ownNodup : ∀ {w vs x F}, own w vs x F → F.Nodup
  ownOne : ∀ {w vs x F}, own w vs x F → ∀ v ∈ vs, v.oneCell' = true
section
variable {α β : Type} {R : Rd α} {S : Rd β} {w w' w'' : World} {vs us : List Value} {x : α} {F G : List Nat}
theorem Rd.ownLen (R : Rd α) (h : R.own w vs x F) : vs.length = R.size := R.seeLen (R.ownSee h)
theorem Rd.ownGrown (R : Rd α) (h : R.own w vs x F) {row : Option Nat} (hg : w.grownBy w' row) (hd : ∀ k ∈ F, some k ≠ row) : R.own w' vs x F :=
  R.ownAt h fun k hk => hg.block k (R.ownLt h k hk) (hd k hk)
end
def int : Rd Int where
  size := 1
  see _ vs x := vs = [.int .i64 x] ∧ (Lit.int .i64 x).wf = true
  own _ vs x F := (vs = [.int .i64 x] ∧ (Lit.int .i64 x).wf = true) ∧ F = []
  seeLen h := by rw [h.1]; rfl
  seeCells h _ := h
  ownSee h := h.1
  ownAt h _ := h
  ownLt h k hk := by rw [h.2] at hk; cases hk
  ownNodup h := by rw [h.2]; exact List.nodup_nil
  ownOne h v hv := by rw [h.1.1] at hv; rw [List.mem_singleton.1 hv]; rfl
def bool : Rd Bool where
  size := 1
  see _ vs x := vs = [.bool x]
  own _ vs x F := vs = [.bool x] ∧ F = []
  seeLen h := by rw [h]; rfl
  seeCells h _ := h
  ownSee h := h.1
  ownAt h _ := h
  ownLt h k hk := by rw [h.2] at hk; cases hk
  ownNodup h := by rw [h.2]; exact List.nodup_nil
  ownOne h v hv := by rw [h.1] at hv; rw [List.mem_singleton.1 hv]; rfl
def str : Rd ByteArray where
  size := 1
  see _ vs x := vs = [.string x] ∧ x.size ≤ maxLen
  own _ vs x F := (vs = [.string x] ∧ x.size ≤ maxLen) ∧ F = []
  seeLen h := by rw [h.1]; rfl
  seeCells h _ := h
  ownSee h := h.1
  ownAt h _ := h
  ownLt h k hk := by rw [h.2] at hk; cases hk
  ownNodup h := by rw [h.2]; exact List.nodup_nil
  ownOne h v hv := by rw [h.1.1] at hv; rw [List.mem_singleton.1 hv]; rfl
def both {α β : Type} (R : Rd α) (S : Rd β) : Rd (α × β) where
  size := R.size + S.size
  see w vs x := ∃ us ts, vs = us ++ ts ∧ R.see w us x.1 ∧ S.see w ts x.2
  own w vs x F := ∃ us ts F1 F2, vs = us ++ ts ∧ F = F1 ++ F2 ∧ R.own w us x.1 F1 ∧ S.own w ts x.2 F2 ∧ F.Nodup
  seeLen := by
    rintro w vs x ⟨us, ts, rfl, h1, h2⟩
    rw [List.length_append, R.seeLen h1, S.seeLen h2]
  seeCells := by
    rintro w w' vs x ⟨us, ts, rfl, h1, h2⟩ hc
    exact ⟨us, ts, rfl, R.seeCells h1 hc, S.seeCells h2 hc⟩
  ownSee := by
    rintro w vs x F ⟨us, ts, F1, F2, rfl, rfl, h1, h2, _⟩
    exact ⟨us, ts, rfl, R.ownSee h1, S.ownSee h2⟩
  ownAt := by
    rintro w w' vs x F ⟨us, ts, F1, F2, rfl, rfl, h1, h2, hn⟩ hk
    exact ⟨us, ts, F1, F2, rfl, rfl, R.ownAt h1 (fun k e => hk k (List.mem_append.2 (.inl e))), S.ownAt h2 (fun k e => hk k (List.mem_append.2 (.inr e))), hn⟩
  ownLt := by
    rintro w vs x F ⟨us, ts, F1, F2, rfl, rfl, h1, h2, _⟩ k hk
    rcases List.mem_append.1 hk with e | e
    · exact R.ownLt h1 k e
    · exact S.ownLt h2 k e
  ownNodup := by
    rintro w vs x F ⟨us, ts, F1, F2, _, _, _, _, hn⟩
    exact hn
  ownOne := by
    rintro w vs x F ⟨us, ts, F1, F2, rfl, rfl, h1, h2, _⟩ v hv
    rcases List.mem_append.1 hv with e | e
    · exact R.ownOne h1 v e
    · exact S.ownOne h2 v e

/-! ### slices -/
def CellsAt (w : World) (b o : Nat) (vs : List Value) : Prop := ∀ j u, vs[j]? = some u → w.cell? ⟨b, o + j, none⟩ = some u
def SlG {α : Type} (R : Rd α) (w : World) (a : Option Addr) (len : Nat) (l : List α) : Prop :=
  l.length = len ∧ len ≤ maxLen ∧ (∀ x ∈ l, ∃ vs, R.see w vs x) ∧ (0 < len → ∃ b off, a = some ⟨b, off, none⟩ ∧ ∀ i (h : i < l.length), ∃ vs, R.see w vs l[i] ∧ CellsAt w b (off + i * R.size) vs)
abbrev Parts := List (List Value × List Nat)
def cellsOf (q : Parts) : List Value := q.flatMap fun p => p.1
def blocksOf (q : Parts) : List Nat := q.flatMap fun p => p.2
theorem cellsOf_append (p q : Parts) : cellsOf (p ++ q) = cellsOf p ++ cellsOf q := by simp [cellsOf]
theorem blocksOf_append (p q : Parts) : blocksOf (p ++ q) = blocksOf p ++ blocksOf q := by simp [blocksOf]
theorem cellsOf_length {q : Parts} {n : Nat} (h : ∀ p ∈ q, p.1.length = n) : (cellsOf q).length = q.length * n := by
  induction q with
  | nil => simp [cellsOf]
  | cons p q ih =>
    have := ih fun x hx => h x (List.mem_cons_of_mem _ hx)
    have h1 := h p List.mem_cons_self
    unfold cellsOf at this ⊢
    rw [List.flatMap_cons, List.length_append, h1, this, List.length_cons, Nat.add_mul]; omega
theorem cellsOf_get {q : Parts} {n : Nat} (h : ∀ p ∈ q, p.1.length = n) (i : Nat) (hi : i < q.length) (j : Nat) (hj : j < n) : (cellsOf q)[i * n + j]? = (q[i].1)[j]? := by
  induction q generalizing i with
  | nil => simp at hi
  | cons p q ih =>
    have h1 := h p List.mem_cons_self
    unfold cellsOf at ih ⊢
    rw [List.flatMap_cons]
    cases i with
    | zero => rw [List.getElem?_append_left (by omega)]; simp
    | succ i =>
      rw [List.getElem?_append_right (by rw [h1, Nat.add_mul]; omega), h1, show (i + 1) * n + j - n = i * n + j by rw [Nat.add_mul]; omega]
      exact ih (fun x hx => h x (List.mem_cons_of_mem _ hx)) i (by simpa using hi)
structure OwnG {α : Type} (ty : TypeId) (R : Rd α) (w : World) (v : Value) (l : List α) (q : Parts) : Prop where
  len : q.length = l.length
  row : w.ownsRow 0 ty R.size v l.length (cellsOf q)
  each : ∀ i (h : i < l.length), R.own w (q[i]'(by omega)).1 l[i] (q[i]'(by omega)).2
  nodup : (v.ownBlock.toList ++ blocksOf q).Nodup
section
variable {α : Type} {ty : TypeId} {R : Rd α} {w w' : World} {v : Value} {l : List α} {q : Parts}
theorem OwnG.parts (h : OwnG ty R w v l q) : ∀ p ∈ q, p.1.length = R.size := fun p hp => by
  obtain ⟨i, hi, rfl⟩ := List.getElem_of_mem hp
  exact R.ownLen (h.each i (by have := h.len; omega))
theorem OwnG.shape (h : OwnG ty R w v l q) : (v = .slice none 0 0 ∧ l = [] ∧ q = []) ∨ ∃ g cap, v = .slice (some ⟨g, 0, none⟩) l.length cap ∧ l.length ≤ cap ∧ cap ≤ maxLen := by
  rcases h.row.2 with ⟨rfl, h0⟩ | ⟨g, cap, cur, rfl, _, _, h1, h2, _⟩
  · have : l = [] := List.eq_nil_of_length_eq_zero h0
    subst this
    exact .inl ⟨rfl, rfl, List.eq_nil_of_length_eq_zero (by simpa using h.len)⟩
  · exact .inr ⟨g, cap, rfl, h1, h2⟩
theorem OwnG.slice (h : OwnG ty R w v l q) : ∃ a cap, v = .slice a l.length cap ∧ l.length ≤ cap ∧ cap ≤ maxLen := by
  rcases h.shape with ⟨rfl, rfl, _⟩ | ⟨g, cap, rfl, h1, h2⟩
  · exact ⟨none, 0, rfl, Nat.le_refl _, Nat.zero_le _⟩
  · exact ⟨_, cap, rfl, h1, h2⟩
theorem OwnG.at_ (h : OwnG ty R w v l q) (k : Nat) (hk : k ∈ v.ownBlock.toList ++ blocksOf q) : k < w.heap.size := by
  rcases List.mem_append.1 hk with e | e
  · exact (h.row.lt k (by simpa using e)).2
  · obtain ⟨p, hp, e⟩ := List.mem_flatMap.1 e
    obtain ⟨i, hi, rfl⟩ := List.getElem_of_mem hp
    exact R.ownLt (h.each i (by have := h.len; omega)) k e
theorem row_of_block {base : Nat} {e : TypeId} {size n : Nat} {xs : List Value} (h : w.ownsRow base e size v n xs) (hk : ∀ k, v.ownBlock = some k → w'.heap[k]? = w.heap[k]?) : w'.ownsRow base e size v n xs := by
  refine ⟨h.1, ?_⟩
  rcases h.2 with h' | ⟨g, cap, cur, rfl, h0, hg, r⟩
  · exact .inl h'
  · exact .inr ⟨g, cap, cur, rfl, h0, (hk g rfl).trans hg, r⟩
theorem OwnG.keep (h : OwnG ty R w v l q) (hk : ∀ k ∈ v.ownBlock.toList ++ blocksOf q, w'.heap[k]? = w.heap[k]?) : OwnG ty R w' v l q :=
  ⟨h.len, row_of_block h.row (fun k e => hk k (List.mem_append.2 (.inl (by simp [e])))),
   fun i hi => R.ownAt (h.each i hi) (fun k e => hk k (List.mem_append.2 (.inr (List.mem_flatMap.2 ⟨_, List.getElem_mem _, e⟩)))), h.nodup⟩
theorem OwnG.cells {g n cap : Nat} (h : OwnG ty R w (.slice (some ⟨g, 0, none⟩) n cap) l q) (i : Nat) (hi : i < l.length) : CellsAt w g (i * R.size) (q[i]'(by have := h.len; omega)).1 := by
  intro j u hu
  have hj : j < R.size := by
    have h1 := (List.getElem?_eq_some_iff.1 hu).1
    rwa [h.parts _ (List.getElem_mem _)] at h1
  have hn : n = l.length := by
    rcases h.shape with ⟨e, _⟩ | ⟨g', c', e, _⟩
    · cases e
    · cases e; rfl
  subst hn
  have := h.row.cells (g := g) rfl (i * R.size + j) u (by rw [cellsOf_get h.parts i (by have := h.len; omega) j hj]; exact hu)
  rwa [Addr.add_lit, Nat.zero_add] at this
theorem OwnG.fz {g n cap : Nat} (h : OwnG ty R w (.slice (some ⟨g, 0, none⟩) n cap) l q) (j : Nat) : w.frozen? ⟨g, j, none⟩ = false := by
  have hn : n = l.length := by
    rcases h.shape with ⟨e, _⟩ | ⟨g', c', e, _⟩
    · cases e
    · cases e; rfl
  subst hn
  exact h.row.frozenAt j
theorem OwnG.sl {a : Option Addr} {n cap : Nat} (h : OwnG ty R w (.slice a n cap) l q) : SlG R w a n l := by
  have hsee : ∀ x ∈ l, ∃ vs, R.see w vs x := fun x hx => by
    obtain ⟨i, hi, rfl⟩ := List.getElem_of_mem hx
    exact ⟨_, R.ownSee (h.each i hi)⟩
  rcases h.shape with ⟨e, rfl, _⟩ | ⟨g, c, e, h1, h2⟩
  · cases e; exact ⟨rfl, Nat.zero_le _, hsee, fun h => absurd h (by omega)⟩
  · cases e
    refine ⟨rfl, by omega, hsee, fun _ => ⟨g, 0, rfl, fun i hi => ⟨_, R.ownSee (h.each i hi), ?_⟩⟩⟩
    rw [Nat.zero_add]
    exact h.cells i hi
end
theorem SlG.keep {α : Type} {R : Rd α} {w w' : World} {a : Option Addr} {len : Nat} {l : List α} (h : SlG R w a len l) (hc : ∀ b o v, w.cell? ⟨b, o, none⟩ = some v → w'.cell? ⟨b, o, none⟩ = some v) : SlG R w' a len l := by
  obtain ⟨h1, h2, h3, h4⟩ := h
  refine ⟨h1, h2, fun x hx => ?_, fun h0 => ?_⟩
  · obtain ⟨vs, hv⟩ := h3 x hx
    exact ⟨vs, R.seeCells hv hc⟩
  · obtain ⟨b, off, e, hi⟩ := h4 h0
    refine ⟨b, off, e, fun i h => ?_⟩
    obtain ⟨vs, hs, hcl⟩ := hi i h
    exact ⟨vs, R.seeCells hs hc, fun j u hu => hc _ _ _ (hcl j u hu)⟩
theorem SlG.below {α : Type} {R : Rd α} {w w' : World} {a : Option Addr} {len : Nat} {l : List α} (h : SlG R w a len l) (hb : Below w.heap.size w w') : SlG R w' a len l :=
  h.keep fun b o v hv => (hb.cell (p := ⟨b, o, none⟩) (World.block_lt_of_cell? w _ hv)).trans hv
def slice {α : Type} (ty : TypeId) (R : Rd α) : Rd (List α) where
  size := 1
  see w vs l := ∃ a len cap, vs = [.slice a len cap] ∧ len ≤ cap ∧ SlG R w a len l
  own w vs l F := ∃ v q, vs = [v] ∧ F = v.ownBlock.toList ++ blocksOf q ∧ OwnG ty R w v l q
  seeLen := by rintro w vs x ⟨a, len, cap, rfl, _⟩; rfl
  seeCells := by
    rintro w w' vs x ⟨a, len, cap, rfl, hc, h⟩ hk
    exact ⟨a, len, cap, rfl, hc, h.keep hk⟩
  ownSee := by
    rintro w vs x F ⟨v, q, rfl, rfl, h⟩
    obtain ⟨a, cap, rfl, hc, _⟩ := h.slice
    exact ⟨a, _, cap, rfl, hc, h.sl⟩
  ownAt := by
    rintro w w' vs x F ⟨v, q, rfl, rfl, h⟩ hk
    exact ⟨v, q, rfl, rfl, h.keep hk⟩
  ownLt := by
    rintro w vs x F ⟨v, q, rfl, rfl, h⟩ k hk
    exact h.at_ k hk
  ownNodup := by
    rintro w vs x F ⟨v, q, rfl, rfl, h⟩
    exact h.nodup
  ownOne := by
    rintro w vs x F ⟨v, q, rfl, rfl, h⟩ u hu
    rw [List.mem_singleton.1 hu]
    obtain ⟨a, cap, rfl, _⟩ := h.slice
    rfl
section
variable {α : Type} {ty : TypeId} {R : Rd α} {w w' w7 : World} {v v7 : Value} {l : List α} {q : Parts} {F : List Nat}
theorem own_mk (h : OwnG ty R w v l q) : (slice ty R).own w [v] l (v.ownBlock.toList ++ blocksOf q) := ⟨v, q, rfl, rfl, h⟩
theorem ownG_made (ty : TypeId) (R : Rd α) (w : World) : OwnG ty R (w.alloc (.cells #[] ty)) (.slice (some ⟨w.heap.size, 0, none⟩) 0 0) [] [] :=
  ⟨rfl, World.ownsRow_made w #[] 0 (Nat.zero_le _) (Nat.zero_le _) (by simp), fun i h => absurd h (by simp), by simp [blocksOf, Value.ownBlock]⟩
theorem OwnG.snoc {x : α} {vs : List Value} {G : List Nat} {g cap H : Nat} (h : OwnG ty R w v l q) (hx : R.own w vs x G) (hd : ∀ k ∈ G, k ∉ v.ownBlock.toList ++ blocksOf q)
    (hown : w7.ownsRow 0 ty R.size (.slice (some ⟨g, 0, none⟩) (l.length + 1) cap) (l.length + 1) (cellsOf q ++ vs)) (hgrow : w.grownBy w7 v.ownBlock) (hat : v.ownBlock = some g ∨ g = H) (hH : w.heap.size = H) :
    OwnG ty R w7 (.slice (some ⟨g, 0, none⟩) (l.length + 1) cap) (l ++ [x]) (q ++ [(vs, G)]) := by
  have hlen := h.len
  obtain ⟨n1, n2, n3⟩ := nodup_parts h.nodup
  have hg1 : ∀ k ∈ blocksOf q, some k ≠ v.ownBlock := fun k hk e => n3 k (by rw [← e]; simp) hk
  have hg2 : ∀ k ∈ G, some k ≠ v.ownBlock := fun k hk e => hd k hk (List.mem_append.2 (.inl (by rw [← e]; simp)))
  refine ⟨by simp [hlen], ?_, fun i hi => ?_, ?_⟩
  · rw [cellsOf_append, List.length_append]
    simpa [cellsOf] using hown
  · by_cases e : i < l.length
    · simp only [List.getElem_append_left e, List.getElem_append_left (show i < q.length by omega)]
      exact R.ownGrown (h.each i e) hgrow (fun k hk => hg1 k (List.mem_flatMap.2 ⟨_, List.getElem_mem _, hk⟩))
    · have : i = l.length := by simp at hi; omega
      subst this
      rw [List.getElem_append_right (Nat.le_refl _)]
      simp only [List.getElem_append_right (show q.length ≤ l.length by omega)]
      simp only [hlen, Nat.sub_self, List.getElem_cons_zero]
      exact R.ownGrown hx hgrow hg2
  · have hgq : g ∉ blocksOf q := by
      rcases hat with e | e
      · exact n3 g (by rw [e]; simp)
      · intro hk
        have := h.at_ g (List.mem_append.2 (.inr hk))
        omega
    have hgG : g ∉ G := by
      rcases hat with e | e
      · exact fun hk => hg2 g hk e.symm
      · intro hk
        have := R.ownLt hx g hk
        omega
    have e1 : (Value.slice (some ⟨g, 0, none⟩) (l.length + 1) cap).ownBlock.toList ++ blocksOf (q ++ [(vs, G)]) = g :: (blocksOf q ++ G) := by
      rw [blocksOf_append]; simp [Value.ownBlock, blocksOf]
    rw [e1, List.nodup_cons]
    refine ⟨fun hk => ?_, nodup_mk n2 (R.ownNodup hx) (fun k hk hk2 => hd k hk2 (List.mem_append.2 (.inr hk)))⟩
    rcases List.mem_append.1 hk with e | e
    · exact hgq e
    · exact hgG e
theorem OwnG.take {a : Option Addr} {n cap : Nat} (h : OwnG ty R w (.slice a n cap) l q) (k : Nat) (hk : k ≤ l.length) : OwnG ty R w (.slice a k cap) (l.take k) (q.take k) := by
  have hlen := h.len
  have hsub : ∀ j ∈ blocksOf (q.take k), j ∈ blocksOf q := fun j hj => by
    obtain ⟨p, hp, e⟩ := List.mem_flatMap.1 hj
    exact List.mem_flatMap.2 ⟨p, List.mem_of_mem_take hp, e⟩
  have hcells : cellsOf (q.take k) = (cellsOf q).take (k * R.size) := by
    have hp := h.parts
    clear h hsub
    induction q generalizing k l with
    | nil => simp [cellsOf]
    | cons p q ih =>
      cases k with
      | zero => simp [cellsOf]
      | succ k =>
        have h1 := hp p List.mem_cons_self
        cases l with
        | nil => simp at hk
        | cons y l =>
          have := ih (l := l) k (by simpa using hk) (by simpa using hlen) (fun x hx => hp x (List.mem_cons_of_mem _ hx))
          unfold cellsOf at this ⊢
          rw [List.take_succ_cons, List.flatMap_cons, List.flatMap_cons, this, List.take_append, h1, List.take_of_length_le (l := p.1) (by rw [h1, Nat.add_mul]; omega), show (k + 1) * R.size - R.size = k * R.size by rw [Nat.add_mul]; omega]
  refine ⟨by simp [hlen], ?_, fun i hi => ?_, ?_⟩
  · have hl2 : (l.take k).length = k := by simp; omega
    rw [hl2, hcells]
    have hcl := h.row.1
    refine ⟨by rw [List.length_take, hcl]; exact Nat.min_eq_left (Nat.mul_le_mul_right _ hk), ?_⟩
    rcases h.row.2 with ⟨e, h0⟩ | ⟨g, c, cur, e, hb, hg, h1, h2, h3, h4⟩
    · cases e; exact .inl ⟨by have : k = 0 := by omega
                              subst this; rfl, by omega⟩
    · cases e
      refine .inr ⟨g, _, cur, rfl, hb, hg, by omega, h2, h3, ?_⟩
      rw [← h4, List.take_take, Nat.min_eq_left (Nat.mul_le_mul_right _ hk)]
  · have hi' : i < l.length := by simp at hi; omega
    simp only [List.getElem_take]
    exact h.each i hi'
  · obtain ⟨n1, n2, n3⟩ := nodup_parts h.nodup
    refine nodup_mk (by cases a <;> simp [Value.ownBlock]) ?_ (fun j hj hj2 => ?_)
    · refine List.Nodup.sublist ?_ n2
      rw [← List.take_append_drop k q, blocksOf_append]
      rw [List.take_append_drop]
      exact List.sublist_append_left _ _
    · exact n3 j (by cases a with
        | none => simp [Value.ownBlock] at hj
        | some ad => simpa [Value.ownBlock] using hj) (hsub j hj2)
end
end Go.Proofs.YtfaldffehpgaiaaDoor.lay

namespace Go.Proofs.YtfaldffehpgaiaaDoor.lay
open Go Go.RowKit Go.Proofs.YtfaldffehpgaiaaDoor.base
set_option linter.unusedVariables false

def BoxIn (X : Nat) (T : TypeId) (pre vs post : List Value) (w : World) : Prop := w.heap[X]? = some (.cells (pre ++ vs ++ post).toArray T (0, 0))
section
variable {X : Nat} {T : TypeId} {pre vs post : List Value} {w w' : World} {G F : List Nat}
theorem BoxIn.lt (h : BoxIn X T pre vs post w) : X < w.heap.size := (Array.getElem?_eq_some_iff.1 h).1
theorem BoxIn.keep (h : BoxIn X T pre vs post w) (hk : w'.heap[X]? = w.heap[X]?) : BoxIn X T pre vs post w' := hk.trans h
theorem BoxIn.below (h : BoxIn X T pre vs post w) (hb : Below w.heap.size w w') : BoxIn X T pre vs post w' := h.keep (hb.block X h.lt)
theorem BoxIn.frame (h : BoxIn X T pre vs post w) (hf : Frame G w w') (hn : X ∉ G) : BoxIn X T pre vs post w' := h.keep (hf.block X h.lt hn)
theorem BoxIn.grown {row : Option Nat} (h : BoxIn X T pre vs post w) (hg : w.grownBy w' row) (hn : some X ≠ row) : BoxIn X T pre vs post w' := h.keep (hg.block X h.lt hn)
theorem BoxIn.cell (h : BoxIn X T pre vs post w) (j : Nat) (u : Value) (hj : vs[j]? = some u) : w.cell? ⟨X, pre.length + j, none⟩ = some u := by
  unfold BoxIn at h
  have hl := (List.getElem?_eq_some_iff.1 hj).1
  simp only [World.cell?, h]
  have hu := (List.getElem?_eq_some_iff.1 hj).2
  simp [List.getElem?_append, hl, hu]
theorem BoxIn.fz (h : BoxIn X T pre vs post w) (j : Nat) : w.frozen? ⟨X, j, none⟩ = false := by unfold BoxIn at h; simp [World.frozen?, h]
theorem BoxIn.set (h : BoxIn X T pre vs post w) (j : Nat) (hj : j < vs.length) (u : Value) : BoxIn X T pre (vs.set j u) post (w.setCell ⟨X, pre.length + j, none⟩ u) ∧ w.grownBy (w.setCell ⟨X, pre.length + j, none⟩ u) (some X) := by
  have h1 := set_cur h (pre.length + j) u
  refine ⟨?_, h1.2⟩
  unfold BoxIn
  rw [h1.1]
  congr 2
  rw [List.setIfInBounds_toArray]
  congr 1
  rw [List.append_assoc, List.set_append_right _ _ (by omega), Nat.add_sub_cancel_left, List.set_append_left _ _ hj, List.append_assoc]
theorem boxIn_new (w : World) (vs : List Value) (T : TypeId) : BoxIn w.heap.size T [] vs [] (w.alloc (.cells vs.toArray T)) := by
  unfold BoxIn
  rw [List.nil_append, List.append_nil]
  exact heap_alloc_new w _
end
end Go.Proofs.YtfaldffehpgaiaaDoor.lay
