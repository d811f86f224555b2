/- The statement FnExactTablesOfSaid: at every world FnExactTablesOf answers true, and the arguments read afterwards as before. No condition besides the row's own. -/
import Derived.Test.YteammdkipnfmnaaRows
import Derived.Test.YteammdkipnfmnaaShaq
import Derived.Test.YteammdkipnfmnaaShan
import Derived.Test.YteammdkipnfmnaaShap
import Derived.ProofKit
import Derived.OpenShut
import Derived.ShutString
import Derived.ChangeOld
import Derived.Below
import Derived.Deep.RegionHeld3
namespace Go.Proofs.Yteammdkipnfmnaa.fnExactTablesOf
open Go.ChangeShapes Go.WideShapes Go.ChangeAt Go.RowKit
open Go.ChangeMaps (open_string shut_string)
set_option linter.unusedVariables false
set_option linter.unusedSimpArgs false
open Go.Proofs.Yteammdkipnfmnaa.base Go.Proofs.Yteammdkipnfmnaa.pairs Go.Proofs.Yteammdkipnfmnaa.ords Go.Proofs.Yteammdkipnfmnaa.lay Go.Proofs.Yteammdkipnfmnaa.wos Go.Proofs.Yteammdkipnfmnaa.tabs

set_option maxRecDepth 100000 in
set_option maxHeartbeats 16000000 in
theorem walk (u0 u1 u2 u3 u4 u5 u6 u7 u8 u9 : Value) (x : Wo) (w : World) (h0 : worldR.see w [u0, u1, u2, u3, u4, u5, u6, u7, u8, u9] x) :
    Calls Try.prog 3 #[.agg #[u0, u1, u2, u3, u4, u5, u6, u7, u8, u9]] w fun e w' => e = .returned (.bool true) ∧ Below w.heap.size w w' := by
  obtain ⟨ja, jn, jc, la, ln, lc, sa, sn, sc, na, nn, nc, oa, on, oc, ba, bn, bc, rfl, rfl, rfl, rfl, rfl, rfl, rfl, rfl, rfl, rfl, h⟩ := world_see10 h0
  clear h0
  obtain ⟨W, hW⟩ : ∃ W, w.alloc (.cells #[.int .i64 x.1.1, .int .i64 x.1.2.1, .int .i64 x.1.2.2.1, .slice ja jn jc, .slice la ln lc, .int .i64 x.1.2.2.2.2.2, .slice sa sn sc, .slice na nn nc, .slice oa on oc, .slice ba bn bc] 30) = W := ⟨_, rfl⟩
  have hB : Below w.heap.size w W := by rw [← hW]; exact below_make
  have hA : BoxIn w.heap.size 30 [] [.int .i64 x.1.1, .int .i64 x.1.2.1, .int .i64 x.1.2.2.1, .slice ja jn jc, .slice la ln lc, .int .i64 x.1.2.2.2.2.2, .slice sa sn sc, .slice na nn nc, .slice oa on oc, .slice ba bn bc] [] W := by rw [← hW]; exact boxIn_new w _ _
  have hsz := szWorld ja jn jc la ln lc sa sn sc na nn nc oa on oc ba bn bc x 1048576 W (h.below hB) (by omega)
  have HW := Hid.mk' hW
  obtain ⟨a0, a1, a2, a3, a4, a5, a6, a7, a8, a9⟩ := cells10 hA
  rw [← hW] at a0 a1 a2 a3 a4 a5 a6 a7 a8 a9
  clear hW
  by_cases hover : 1048576 < wsz x
  · rw [pairs.szR_neg hover] at hsz
    have HZ := Hid.mk' hsz
    clear hsz
    go_enter Try.func3, Try.ntmps3
    go_wp2_with fail
    rw [HW.out]
    refine HZ.out.mono ?_
    rintro e wa ⟨rfl, hb⟩
    clear a0 a1 a2 a3 a4 a5 a6 a7 a8 a9
    go_wp2_with fail
    go_ret
    exact ⟨rfl, hB.trans (hb.mono hB.size)⟩
  rw [pairs.szR_pos (by omega)] at hsz
  obtain ⟨r, hrr⟩ : ∃ r : Nat, ((1048576 : Nat) : Int) - (wsz x : Int) = (r : Int) := ⟨1048576 - wsz x, by omega⟩
  rw [hrr] at hsz
  have hr2 : ¬ (r : Int) < 0 := by omega
  have HZ := Hid.mk' hsz
  have hbd := bound_wo (x := x) (by omega)
  have hcw := cntWo_le (x := x) (by omega)
  have hct := cntT_tabs (x := x) (by omega)
  have HTO := Hid.mk' (fun wx (hx : Below w.heap.size w wx) => toWorld ja jn jc la ln lc sa sn sc na nn nc oa on oc ba bn bc x wx (h.below hx) hbd)
  have hml : ∀ s ∈ x.2.1, (mapOf s).length ≤ 1099511627776 ∧ s.2.1.length ≤ 1099511627776 ∧ s.2.2.2.2.length ≤ 1099511627776 := fun s hs => by
    have h1 := sumS_mem hs
    unfold shz recs.szSh at h1
    unfold wsz at hover
    unfold mapOf
    exact ⟨by omega, by omega, by omega⟩
  have hsl := hbd.shs
  have HS := Hid.mk' (fun (ja jn jc la ln lc sa sn sc na nn nc oa on oc ba bn bc) wx (hs : SeeWo wx ja jn jc la ln lc sa sn sc na nn nc oa on oc ba bn bc x) => spec_tablesOf ja jn jc la ln lc sa sn sc na nn nc oa on oc ba bn bc x wx hs (by have := hs.sh.1; omega) (fun s hh => (hml s hh).1))
  have HI := Hid.mk' (fun (ja jn jc la ln lc sa sn sc na nn nc oa on oc ba bn bc) wx (hs : SeeWo wx ja jn jc la ln lc sa sn sc na nn nc oa on oc ba bn bc x) => impl_tablesOf ja jn jc la ln lc sa sn sc na nn nc oa on oc ba bn bc x wx hs (by have := hs.sh.1; omega) (fun s hh => (hml s hh).1))
  have HMW := Hid.mk' (fun (ja jn jc la ln lc sa sn sc na nn nc oa on oc ba bn bc) (F : List Nat) wx (ho : worldR.own wx [.int .i64 x.1.1, .int .i64 x.1.2.1, .int .i64 x.1.2.2.1, .slice ja jn jc, .slice la ln lc, .int .i64 x.1.2.2.2.2.2, .slice sa sn sc, .slice na nn nc, .slice oa on oc, .slice ba bn bc] x F) => markWorld ja jn jc la ln lc sa sn sc na nn nc oa on oc ba bn bc x F 1 wx ho (by omega) (by omega) (fun s hh => (hml s hh).2))
  generalize cntWo x = CW at *
  generalize tabsO x = M at *
  clear hsz hrr hover h hbd hml hsl
  go_enter Try.func3, Try.ntmps3
  go_wp2_with fail
  rw [HW.out]
  refine HZ.out.mono ?_
  rintro e w1 ⟨rfl, hb1⟩
  clear a0 a1 a2 a3 a4 a5 a6 a7 a8 a9 HZ HW
  have hA1 := hA.below hb1
  have hB1 := hB.trans (hb1.mono hB.size)
  obtain ⟨a0, a1, a2, a3, a4, a5, a6, a7, a8, a9⟩ := cells10 hA1
  go_wp2_with fail
  refine (HTO.out _ hB1).mono ?_
  rintro e w2 ⟨vs2, F1, rfl, hO2, hF1, hb2⟩
  obtain ⟨tja, tjn, tjc, tla, tln, tlc, tsa, tsn, tsc, tna, tnn, tnc, toa, ton, toc, tba, tbn, tbc, rfl⟩ := world_shape hO2
  have hB2 := hB1.trans (hb2.mono hB1.size)
  have hA2 := hA1.below hb2
  have HS2 := Hid.mk' (HS.out _ _ _ _ _ _ _ _ _ _ _ _ _ _ _ _ _ _ w2 (see_wo (worldR.ownSee hO2)))
  clear a0 a1 a2 a3 a4 a5 a6 a7 a8 a9 hO2 HS
  go_wp2_with fail
  refine HS2.out.mono ?_
  rintro e w3 ⟨vW, FW, rfl, hOW, hFW0, hb3⟩
  obtain ⟨pa, pn, pc, rfl⟩ := slice_shape hOW
  have hB3 := hB2.trans (hb3.mono hB2.size)
  have hA3 := hA2.below hb3
  have hAl := hA1.lt
  have hs12 := hb2.size
  have hs23 := hb3.size
  have hFW : ∀ k ∈ FW, w.heap.size < k ∧ k < w3.heap.size := fun k hk => ⟨by have := hFW0 k hk; omega, tablesR.ownLt hOW k hk⟩
  obtain ⟨a0, a1, a2, a3, a4, a5, a6, a7, a8, a9⟩ := cells10 hA3
  clear HS2 hF1 hFW0
  go_wp2_with fail
  refine (HTO.out _ hB3).mono ?_
  rintro e w5 ⟨vs5, FX, rfl, hO5, hFX0, hb5⟩
  obtain ⟨xja, xjn, xjc, xla, xln, xlc, xsa, xsn, xsc, xna, xnn, xnc, xoa, xon, xoc, xba, xbn, xbc, rfl⟩ := world_shape hO5
  have hB5 := hB3.trans (hb5.mono hB3.size)
  have hFX : ∀ k ∈ FX, w3.heap.size ≤ k ∧ k < w5.heap.size := fun k hk => ⟨hFX0 k hk, worldR.ownLt hO5 k hk⟩
  obtain ⟨v5, hv5⟩ : ∃ v5, w5.alloc (.cells #[.int .i64 x.1.1, .int .i64 x.1.2.1, .int .i64 x.1.2.2.1, .slice xja xjn xjc, .slice xla xln xlc, .int .i64 x.1.2.2.2.2.2, .slice xsa xsn xsc, .slice xna xnn xnc, .slice xoa xon xoc, .slice xba xbn xbc] 42) = v5 := ⟨_, rfl⟩
  have hc5 : Below w5.heap.size w5 v5 := by rw [← hv5]; exact below_make
  have hbx : BoxIn w5.heap.size 42 [] [.int .i64 x.1.1, .int .i64 x.1.2.1, .int .i64 x.1.2.2.1, .slice xja xjn xjc, .slice xla xln xlc, .int .i64 x.1.2.2.2.2.2, .slice xsa xsn xsc, .slice xna xnn xnc, .slice xoa xon xoc, .slice xba xbn xbc] [] v5 := by rw [← hv5]; exact boxIn_new w5 _ _
  have hs5 : w5.heap.size < v5.heap.size := hbx.lt
  have hB6 := hB5.trans (hc5.mono hB5.size)
  have HX6 := Hid.mk' (worldR.ownBelow hO5 hc5)
  have HW6 := Hid.mk' (tablesR.ownBelow (tablesR.ownBelow hOW hb5) hc5)
  have hA6 := (hA3.below hb5).below hc5
  have hs35 := hb5.size
  obtain ⟨x0, x1, x2, x3, x4, x5, x6, x7, x8, x9⟩ := cells10 hbx
  rw [← hv5] at x0 x1 x2 x3 x4 x5 x6 x7 x8 x9
  have HV5 := Hid.mk' hv5
  have HI5 := Hid.mk' (HI.out _ _ _ _ _ _ _ _ _ _ _ _ _ _ _ _ _ _ v5 (see_wo (worldR.ownSee HX6.out)))
  clear a0 a1 a2 a3 a4 a5 a6 a7 a8 a9 hO5 hv5 hFX0 hOW hA3 hA2 hA1 hA hb5 hc5
  go_wp2_with fail
  rw [HV5.out]
  refine HI5.out.mono ?_
  rintro e w7 ⟨vG, FG, rfl, hOG, hFG, hb7⟩
  obtain ⟨ga, gn, gc, rfl⟩ := slice_shape hOG
  have T7 : QT w w7 w.heap.size w3.heap.size w5.heap.size [.int .i64 x.1.1, .int .i64 x.1.2.1, .int .i64 x.1.2.2.1, .slice ja jn jc, .slice la ln lc, .int .i64 x.1.2.2.2.2.2, .slice sa sn sc, .slice na nn nc, .slice oa on oc, .slice ba bn bc] [.int .i64 x.1.1, .int .i64 x.1.2.1, .int .i64 x.1.2.2.1, .slice xja xjn xjc, .slice xla xln xlc, .int .i64 x.1.2.2.2.2.2, .slice xsa xsn xsc, .slice xna xnn xnc, .slice xoa xon xoc, .slice xba xbn xbc] (.slice pa pn pc) (.slice ga gn gc) M M FW FX FG :=
    ⟨hB6.trans (hb7.mono hB6.size), hA6.below hb7, hbx.below hb7, tablesR.ownBelow HW6.out hb7, hOG, Nat.le_refl _, hFW, hFX, fun k hk => by have := hFG k hk; omega, by omega, hs35⟩
  have HX7 := Hid.mk' (worldR.ownBelow HX6.out hb7)
  have HE7 := Hid.mk' (eqTabR T7.gn T7.wn)
  have HQ7 := Hid.mk' T7
  clear x0 x1 x2 x3 x4 x5 x6 x7 x8 x9 HV5 HI5 T7 hOG hFG hb7 HX6 HW6 hA6 hbx hFW hFX hB1 hB2 hB3 hB5 hB6 hAl hs12 hs23 hs5 hs35
  go_wp2_with fail
  refine HE7.out.mono ?_
  rintro e y1 ⟨rfl, hb⟩
  have T8 := HQ7.out.below hb
  have HX8 := Hid.mk' (worldR.ownBelow HX7.out hb)
  clear HQ7 HX7 HE7 hb
  have HQ8 := Hid.mk' T8
  clear T8
  obtain ⟨x0, x1, x2, x3, x4, x5, x6, x7, x8, x9⟩ := cells10 HQ8.out.bx
  obtain ⟨a0, a1, a2, a3, a4, a5, a6, a7, a8, a9⟩ := cells10 HQ8.out.arg
  have hbl := HQ8.out.bel
  have hdr : Below y1.heap.size y1 y1.drew := (Below.refl _ _).drew
  go_wp2_with fail
  go_region_held3 (fun w' => (w'.cell? ⟨w5.heap.size, 0, none⟩ = some (.int .i64 x.1.1) ∧ w'.cell? ⟨w5.heap.size, 1, none⟩ = some (.int .i64 x.1.2.1) ∧ w'.cell? ⟨w5.heap.size, 2, none⟩ = some (.int .i64 x.1.2.2.1) ∧ w'.cell? ⟨w5.heap.size, 3, none⟩ = some (.slice xja xjn xjc) ∧ w'.cell? ⟨w5.heap.size, 4, none⟩ = some (.slice xla xln xlc) ∧ w'.cell? ⟨w5.heap.size, 5, none⟩ = some (.int .i64 x.1.2.2.2.2.2) ∧ w'.cell? ⟨w5.heap.size, 6, none⟩ = some (.slice xsa xsn xsc) ∧ w'.cell? ⟨w5.heap.size, 7, none⟩ = some (.slice xna xnn xnc) ∧ w'.cell? ⟨w5.heap.size, 8, none⟩ = some (.slice xoa xon xoc) ∧ w'.cell? ⟨w5.heap.size, 9, none⟩ = some (.slice xba xbn xbc) ∧ w'.cell? ⟨w.heap.size, 0, none⟩ = some (.int .i64 x.1.1) ∧ w'.cell? ⟨w.heap.size, 1, none⟩ = some (.int .i64 x.1.2.1) ∧ w'.cell? ⟨w.heap.size, 2, none⟩ = some (.int .i64 x.1.2.2.1) ∧ w'.cell? ⟨w.heap.size, 3, none⟩ = some (.slice ja jn jc) ∧ w'.cell? ⟨w.heap.size, 4, none⟩ = some (.slice la ln lc) ∧ w'.cell? ⟨w.heap.size, 5, none⟩ = some (.int .i64 x.1.2.2.2.2.2) ∧ w'.cell? ⟨w.heap.size, 6, none⟩ = some (.slice sa sn sc) ∧ w'.cell? ⟨w.heap.size, 7, none⟩ = some (.slice na nn nc) ∧ w'.cell? ⟨w.heap.size, 8, none⟩ = some (.slice oa on oc) ∧ w'.cell? ⟨w.heap.size, 9, none⟩ = some (.slice ba bn bc))) (first | (exact keepBoth10 hb9 (by assumption)) | (exact keepBoth10 hb8 (by assumption)) | (go_keep)) (first | (go_at_call 9; have h9 := hb8; refine (eqWorldT _ _ _ _ _ _ _ _ _ _ _ _ _ _ _ _ _ _ _ _ _ _ _ _ _ _ _ _ _ _ _ _ _ _ _ _ x _ (see_wo (worldR.ownSee (worldR.ownBelow HX8.out (hdr.trans (hb8.mono hdr.size))))) HO8.out).mono ?_; rintro e w9 ⟨rfl, hb9⟩) | (go_at_call 6; refine (HTO.out _ (hbl.trans (hdr.mono hbl.size))).mono ?_; rintro e w8 ⟨vs8, F3, rfl, hO8, hF8, hb8⟩; obtain ⟨yja, yjn, yjc, yla, yln, ylc, ysa, ysn, ysc, yna, ynn, ync, yoa, yon, yoc, yba, ybn, ybc, rfl⟩ := world_shape hO8; have HO8 := Hid.mk' (see_wo (worldR.ownSee hO8))) | fail "no arm")
  have hb89 := (hdr.trans (hb8.mono hdr.size)).trans (hb9.mono (Nat.le_trans hdr.size hb8.size))
  have T9 := HQ8.out.below hb89
  have HX9 := Hid.mk' (worldR.ownBelow HX8.out hb89)
  clear HQ8 HX8 hb8 hb9 hO8 HO8 hF8 hdr hbl hb89
  clear x0 x1 x2 x3 x4 x5 x6 x7 x8 x9 a0 a1 a2 a3 a4 a5 a6 a7 a8 a9
  have HQ9 := Hid.mk' T9
  clear T9
  obtain ⟨x0, x1, x2, x3, x4, x5, x6, x7, x8, x9⟩ := cells10 HQ9.out.bx
  have HM9 := Hid.mk' (show Calls Try.prog 10 #[.agg #[.int .i64 x.1.1, .int .i64 x.1.2.1, .int .i64 x.1.2.2.1, .slice xja xjn xjc, .slice xla xln xlc, .int .i64 x.1.2.2.2.2.2, .slice xsa xsn xsc, .slice xna xnn xnc, .slice xoa xon xoc, .slice xba xbn xbc], .int .i64 1] w9 _ from HMW.out _ _ _ _ _ _ _ _ _ _ _ _ _ _ _ _ _ _ FX w9 HX9.out)
  go_wp2_with fail
  refine HM9.out.mono ?_
  rintro e y2 ⟨rfl, hf⟩
  have T10 := HQ9.out.markX hf
  clear HQ9 HX9 HM9 HMW hf
  clear x0 x1 x2 x3 x4 x5 x6 x7 x8 x9
  have HE10 := Hid.mk' (eqTabR T10.gn T10.wn)
  have HQ10 := Hid.mk' T10
  clear T10
  have hkp : ¬ ((1 + CW : Nat) : Int) < 0 := by omega
  generalize ((1 + CW : Nat) : Int) = KM at *
  go_wp2_with fail
  refine HE10.out.mono ?_
  rintro e y3 ⟨rfl, hb⟩
  have T11 := HQ10.out.below hb
  clear HQ10 HE10 hb
  have HQ11 := Hid.mk' T11
  clear T11
  have HM11 := Hid.mk' (show Calls Try.prog 11 #[.slice ga gn gc, .int .i64 1] y3 _ from markTables_R (.slice ga gn gc) M FG 1 y3 HQ11.out.gn (by omega) (by omega))
  go_wp2_with fail
  refine HM11.out.mono ?_
  rintro e y4 ⟨rfl, ho, hf⟩
  have T12 := HQ11.out.markG ho hf
  clear HQ11 HM11 ho hf
  have HQ12 := Hid.mk' T12
  clear T12
  have hkq : ¬ ((1 + cntAll cntT M : Nat) : Int) < 0 := by omega
  have HHT := Hid.mk' (fun wx (q : tablesR.own wx [.slice ga gn gc] (markRow mT cntT 1 M) FG) => (show Calls Try.prog 12 #[.slice ga gn gc, .int .i64 1] wx _ from heldTableS ga gn gc M 1 wx (tab_sl q) (by omega) (by omega)))
  generalize ((1 + cntAll cntT M : Nat) : Int) = KG at *
  go_wp2_with fail
  refine (HHT.out _ HQ12.out.gn).mono ?_
  rintro e y5 ⟨rfl, hb⟩
  have T13 := HQ12.out.below hb
  clear HQ12 hb
  have HQ13 := Hid.mk' T13
  clear T13
  obtain ⟨a0, a1, a2, a3, a4, a5, a6, a7, a8, a9⟩ := cells10 HQ13.out.arg
  go_wp2_with fail
  refine (HTO.out _ HQ13.out.bel).mono ?_
  rintro e y6 ⟨vs6, F6, rfl, hO6, hF6, hb6⟩
  obtain ⟨zja, zjn, zjc, zla, zln, zlc, zsa, zsn, zsc, zna, znn, znc, zoa, zon, zoc, zba, zbn, zbc, rfl⟩ := world_shape hO6
  have T14 := HQ13.out.below hb6
  have HI14 := Hid.mk' (HI.out _ _ _ _ _ _ _ _ _ _ _ _ _ _ _ _ _ _ y6 (see_wo (worldR.ownSee hO6)))
  clear a0 a1 a2 a3 a4 a5 a6 a7 a8 a9 HQ13 hO6 hF6 hb6
  have HQ14 := Hid.mk' T14
  clear T14
  go_wp2_with fail
  refine HI14.out.mono ?_
  rintro e y7 ⟨vH, FH, rfl, hOH, hFH, hb7⟩
  obtain ⟨ha, hn, hc, rfl⟩ := slice_shape hOH
  have T15 := HQ14.out.below hb7
  have HE15 := Hid.mk' (eqTabR hOH T15.wn)
  clear HQ14 HI14 hOH hFH hb7
  have HQ15 := Hid.mk' T15
  clear T15
  go_wp2_with fail
  refine HE15.out.mono ?_
  rintro e y8 ⟨rfl, hb⟩
  have T16 := HQ15.out.below hb
  clear HQ15 HE15 hb
  have HQ16 := Hid.mk' T16
  clear T16
  go_wp2_with fail
  refine (HHT.out _ HQ16.out.gn).mono ?_
  rintro e y9 ⟨rfl, hb⟩
  have T17 := HQ16.out.below hb
  clear HQ16 hb
  go_wp2_with fail
  go_ret
  exact ⟨rfl, T17.bel⟩

theorem own : ownKnob Try.prog.godebug = none := by kernel_rfl
theorem laidOut : laidOutB Try.prog = true := by kernel_rfl

set_option maxRecDepth 100000 in
theorem lifted (os : Os) (started : os.Started) (H : Type) (enc : TypeId × Value → H) :
    ReturnsInHanded {} Try.checked os 3 .any (Rows.fnExactTablesOfSpec.pre6 enc Try.prog Try.f3 Rows.fnExactTablesOfRow.domain false) (Rows.fnExactTablesOfSpec.post enc Try.prog Try.f3 false true false false) := by
  refine returnsInHanded_of_change (C := Try.checked) own started (by kernel_rfl) Try.func3
    (ChangeSpec.witness6 (enc := enc) (C := Try.checked) false ⟨#[], #[.agg #[.int .i64 0, .int .i64 0, .int .i64 0, .slice none 0 0, .slice none 0 0, .int .i64 0, .slice none 0 0, .slice none 0 0, .slice none 0 0, .slice none 0 0]], []⟩ 8 (by kernel_rfl) (by kernel_rfl) (by kernel_rfl) (by kernel_rfl)) ?_
  intro W base args ds gs before hval0 hW hcnd _
  have hval : ∀ (j : Nat) t v, Try.f3.params[j]? = some t → args[j]? = some v → Value.okWide Try.prog W .any base t v := hval0
  have hW' := hW
  obtain ⟨p, q, hA0, hV, rfl, hfz, hnd⟩ := hW
  have hA : DataW.TrodAll enc Try.prog W 0 (fun _ => true) true Try.f3.params.toList args.toList ds p := hA0
  rw [Try.params3] at hA hval
  obtain ⟨v0, vs0, d0, ds0, p0, q0, hargs, rfl, rfl, h0, r0⟩ := trodAll_cons hA
  obtain ⟨rfl, rfl, rfl⟩ := trodAll_nil r0
  obtain rfl : args = #[v0] := by cases args; simp_all
  obtain ⟨rfl, rfl⟩ := trodVars_none hV
  have k0 := h0
  have lt0 : ∀ x ∈ p0, x.block < W.heap.size := by obtain ⟨m, hm⟩ := k0; exact DataW.trod_lt m _ _ _ hm
  obtain ⟨cs0, b0, rfl, w0⟩ : ∃ cs b, v0 = .agg cs.toArray ∧ wos.worldR.see W cs b := by obtain ⟨fuel, hf⟩ := h0; exact lay.arg_struct Try.underlying30 (by kernel_rfl) wos.reads_world (hval 0 30 v0 rfl rfl) hf
  obtain ⟨c0_0, c0_1, c0_2, c0_3, c0_4, c0_5, c0_6, c0_7, c0_8, c0_9, rfl⟩ := lay.vals10 (wos.worldR.seeLen w0)
  clear hA0 hval0
  refine (walk c0_0 c0_1 c0_2 c0_3 c0_4 c0_5 c0_6 c0_7 c0_8 c0_9 b0 W w0).mono fun e W' ⟨he, bel⟩ => ?_
  subst he
  exact ⟨_, rfl, _, _, _, [], _, [], hW', trodAll_mk1 (shut_bool Try.underlying4 _), (trodAll_cons_mk (Below.trod laidOut (by kernel_rfl) (of_decide_eq_true (by kernel_rfl)) k0 bel lt0) trodAll_mk0), rfl, bel.frame _, fun h => by cases h⟩

theorem over : Rows.fnExactTablesOfRow.holds Try.pinned (OpenSpec.ofChange Rows.fnExactTablesOfSpec) :=
  OpenClaim.holds_of_wide 3 Try.f3 rfl rfl rfl rfl rfl rfl rfl ⟨rfl, rfl, rfl, rfl, rfl⟩ rfl rfl rfl rfl rfl (by kernel_rfl) Try.func3 (by kernel_rfl)
    (of_decide_eq_true (by kernel_rfl)) (by unfold Func.isWrapper; first | (rw [if_pos (by decide +kernel)]; kernel_rfl) | (rw [if_neg (by decide +kernel)]; exact ⟨rfl, rfl⟩))
    (fun os started H enc _ => lifted os started H enc)

theorem proved : Rows.FnExactTablesOfSaid := over
end Go.Proofs.Yteammdkipnfmnaa.fnExactTablesOf
