/- The statement FnExactOpenSaid: at every world FnExactOpen answers true, and the arguments read afterwards as before. No condition besides the row's own. -/
import Derived.Test.YtmibabclefgljaaRows
import Derived.Test.YtmibabclefgljaaShak
import Derived.Test.YtmibabclefgljaaShal
import Derived.ProofKit
import Derived.OpenShut
import Derived.ShutString
import Derived.ChangeOld
import Derived.Below
import Derived.Deep.RegionHeld3
namespace Go.Proofs.Ytmibabclefgljaa.fnExactOpen
open Go.ChangeShapes Go.WideShapes Go.ChangeAt Go.RowKit
open Go.ChangeMaps (open_string shut_string)
set_option linter.unusedVariables false
set_option linter.unusedSimpArgs false
open Go.Proofs.Ytmibabclefgljaa.base Go.Proofs.Ytmibabclefgljaa.pairs Go.Proofs.Ytmibabclefgljaa.ords Go.Proofs.Ytmibabclefgljaa.lay Go.Proofs.Ytmibabclefgljaa.wos

set_option maxRecDepth 100000 in
set_option maxHeartbeats 8000000 in
theorem walk (u0 u1 u2 u3 u4 u5 u6 u7 u8 u9 : Value) (x : Wo) (w : World) (h0 : worldR.see w [u0, u1, u2, u3, u4, u5, u6, u7, u8, u9] x) :
    Calls Try.prog 3 #[.agg #[u0, u1, u2, u3, u4, u5, u6, u7, u8, u9]] w fun e w' => e = .returned (.bool true) ∧ Below w.heap.size w w' := by
  obtain ⟨ja, jn, jc, la, ln, lc, sa, sn, sc, na, nn, nc, oa, on, oc, ba, bn, bc, rfl, rfl, rfl, rfl, rfl, rfl, rfl, rfl, rfl, rfl, h⟩ := world_see10 h0
  clear h0
  obtain ⟨W, hW⟩ : ∃ W, w.alloc (.cells #[.int .i64 x.1.1, .int .i64 x.1.2.1, .int .i64 x.1.2.2.1, .slice ja jn jc, .slice la ln lc, .int .i64 x.1.2.2.2.2.2, .slice sa sn sc, .slice na nn nc, .slice oa on oc, .slice ba bn bc] 30) = W := ⟨_, rfl⟩
  have hB : Below w.heap.size w W := by rw [← hW]; exact below_make
  have hA : BoxIn w.heap.size 30 [] [.int .i64 x.1.1, .int .i64 x.1.2.1, .int .i64 x.1.2.2.1, .slice ja jn jc, .slice la ln lc, .int .i64 x.1.2.2.2.2.2, .slice sa sn sc, .slice na nn nc, .slice oa on oc, .slice ba bn bc] [] W := by rw [← hW]; exact boxIn_new w _ _
  have hsz := szWorld ja jn jc la ln lc sa sn sc na nn nc oa on oc ba bn bc x 1048576 W (h.below hB) (by omega)
  have HW := Hid.mk' hW
  have ARG : Hid (∀ wx, Below W.heap.size W wx → wx.cell? ⟨w.heap.size, 0, none⟩ = some (.int .i64 x.1.1) ∧ wx.cell? ⟨w.heap.size, 1, none⟩ = some (.int .i64 x.1.2.1) ∧ wx.cell? ⟨w.heap.size, 2, none⟩ = some (.int .i64 x.1.2.2.1) ∧ wx.cell? ⟨w.heap.size, 3, none⟩ = some (.slice ja jn jc) ∧ wx.cell? ⟨w.heap.size, 4, none⟩ = some (.slice la ln lc) ∧ wx.cell? ⟨w.heap.size, 5, none⟩ = some (.int .i64 x.1.2.2.2.2.2) ∧ wx.cell? ⟨w.heap.size, 6, none⟩ = some (.slice sa sn sc) ∧ wx.cell? ⟨w.heap.size, 7, none⟩ = some (.slice na nn nc) ∧ wx.cell? ⟨w.heap.size, 8, none⟩ = some (.slice oa on oc) ∧ wx.cell? ⟨w.heap.size, 9, none⟩ = some (.slice ba bn bc)) := fun wx hx => cells10 (hA.below hx)
  obtain ⟨a0, a1, a2, a3, a4, a5, a6, a7, a8, a9⟩ := ARG.out W (Below.refl _ _)
  rw [← hW] at a0 a1 a2 a3 a4 a5 a6 a7 a8 a9
  clear hW
  by_cases hover : 1048576 < wsz x
  · rw [pairs.szR_neg hover] at hsz
    have HZ := Hid.mk' hsz
    clear hsz
    go_enter Try.func3, Try.ntmps3
    go_wp2_with fail
    rw [HW.out]
    refine HZ.out.mono ?_
    rintro e wa ⟨rfl, hb⟩
    clear a0 a1 a2 a3 a4 a5 a6 a7 a8 a9
    go_wp2_with fail
    go_ret
    exact ⟨rfl, hB.trans (hb.mono hB.size)⟩
  rw [pairs.szR_pos (by omega)] at hsz
  obtain ⟨r, hrr⟩ : ∃ r : Nat, ((1048576 : Nat) : Int) - (wsz x : Int) = (r : Int) := ⟨1048576 - wsz x, by omega⟩
  rw [hrr] at hsz
  have HZ := Hid.mk' hsz
  have hbd := bound_wo (x := x) (by omega)
  have hfo : FewO x := ⟨fun s hs => by have := hbd.sh s hs; unfold FitS at this; omega, hbd.shs, hbd.co.jobs⟩
  have HTO := Hid.mk' (fun wx (hx : Below W.heap.size W wx) => toWorld ja jn jc la ln lc sa sn sc na nn nc oa on oc ba bn bc x wx ((h.below hB).below hx) hbd)
  have HS := Hid.mk' (fun (ja jn jc la ln lc sa sn sc na nn nc oa on oc ba bn bc) wx (hs : SeeWo wx ja jn jc la ln lc sa sn sc na nn nc oa on oc ba bn bc x) => spec_open ja jn jc la ln lc sa sn sc na nn nc oa on oc ba bn bc x wx hs hfo)
  have HI := Hid.mk' (fun (ja jn jc la ln lc sa sn sc na nn nc oa on oc ba bn bc) wx (hs : SeeWo wx ja jn jc la ln lc sa sn sc na nn nc oa on oc ba bn bc x) => impl_open ja jn jc la ln lc sa sn sc na nn nc oa on oc ba bn bc x wx hs hfo)
  generalize openR x = R0 at HS HI
  clear hsz hrr hover h hA
  go_enter Try.func3, Try.ntmps3
  go_wp2_with fail
  rw [HW.out]
  refine HZ.out.mono ?_
  rintro e w1 ⟨rfl, hb1⟩
  clear a0 a1 a2 a3 a4 a5 a6 a7 a8 a9 HZ HW
  obtain ⟨a0, a1, a2, a3, a4, a5, a6, a7, a8, a9⟩ := ARG.out w1 hb1
  go_wp2_with fail
  refine (HTO.out _ hb1).mono ?_
  rintro e w2 ⟨vs2, F1, rfl, hO2, hF1, hb2⟩
  obtain ⟨tja, tjn, tjc, tla, tln, tlc, tsa, tsn, tsc, tna, tnn, tnc, toa, ton, toc, tba, tbn, tbc, rfl⟩ := world_shape hO2
  have hbW2 := hb1.trans (hb2.mono hb1.size)
  have HS2 := Hid.mk' (HS.out _ _ _ _ _ _ _ _ _ _ _ _ _ _ _ _ _ _ w2 (see_wo (worldR.ownSee hO2)))
  clear a0 a1 a2 a3 a4 a5 a6 a7 a8 a9 hO2 HS
  go_wp2_with fail
  refine HS2.out.mono ?_
  rintro e w3 ⟨rfl, hb3⟩
  have hbW3 := hbW2.trans (hb3.mono hbW2.size)
  obtain ⟨a0, a1, a2, a3, a4, a5, a6, a7, a8, a9⟩ := ARG.out w3 hbW3
  have HT3 := Hid.mk' (HTO.out w3 hbW3)
  clear HS2 hF1
  go_wp2_with fail
  refine HT3.out.mono ?_
  rintro e w5 ⟨vs5, FX, rfl, hO5, hFX, hb5⟩
  obtain ⟨xja, xjn, xjc, xla, xln, xlc, xsa, xsn, xsc, xna, xnn, xnc, xoa, xon, xoc, xba, xbn, xbc, rfl⟩ := world_shape hO5
  have hbW5 := hbW3.trans (hb5.mono hbW3.size)
  obtain ⟨v5, hv5⟩ : ∃ v5, w5.alloc (.cells #[.int .i64 x.1.1, .int .i64 x.1.2.1, .int .i64 x.1.2.2.1, .slice xja xjn xjc, .slice xla xln xlc, .int .i64 x.1.2.2.2.2.2, .slice xsa xsn xsc, .slice xna xnn xnc, .slice xoa xon xoc, .slice xba xbn xbc] 41) = v5 := ⟨_, rfl⟩
  have hc5 : Below w5.heap.size w5 v5 := by rw [← hv5]; exact below_make
  have hX5 := inR_new (T := 41) hO5
  rw [hv5] at hX5
  have hbW6 := hbW5.trans (hc5.mono hbW5.size)
  obtain ⟨x0, x1, x2, x3, x4, x5, x6, x7, x8, x9⟩ := cells10 hX5.box
  rw [← hv5] at x0 x1 x2 x3 x4 x5 x6 x7 x8 x9
  have HV5 := Hid.mk' hv5
  have HI5 := Hid.mk' (HI.out _ _ _ _ _ _ _ _ _ _ _ _ _ _ _ _ _ _ v5 (see_wo hX5.see))
  clear a0 a1 a2 a3 a4 a5 a6 a7 a8 a9 HT3 hO5 hv5 hFX
  go_wp2_with fail
  rw [HV5.out]
  refine HI5.out.mono ?_
  rintro e w7 ⟨rfl, hb7⟩
  have hX7 := hX5.below hb7
  have hbW7 := hbW6.trans (hb7.mono hbW6.size)
  clear x0 x1 x2 x3 x4 x5 x6 x7 x8 x9 HV5 HI5
  obtain ⟨x0, x1, x2, x3, x4, x5, x6, x7, x8, x9⟩ := cells10 hX7.box
  obtain ⟨a0, a1, a2, a3, a4, a5, a6, a7, a8, a9⟩ := ARG.out w7 hbW7
  have hdr : Below w7.heap.size w7 w7.drew := (Below.refl _ _).drew
  have hbWd := hbW7.trans (hdr.mono hbW7.size)
  have hcmp : (R0 != R0) = false := by simp
  go_wp2_with fail
  go_region_held3 (fun w' => (w'.cell? ⟨w5.heap.size, 0, none⟩ = some (.int .i64 x.1.1) ∧ w'.cell? ⟨w5.heap.size, 1, none⟩ = some (.int .i64 x.1.2.1) ∧ w'.cell? ⟨w5.heap.size, 2, none⟩ = some (.int .i64 x.1.2.2.1) ∧ w'.cell? ⟨w5.heap.size, 3, none⟩ = some (.slice xja xjn xjc) ∧ w'.cell? ⟨w5.heap.size, 4, none⟩ = some (.slice xla xln xlc) ∧ w'.cell? ⟨w5.heap.size, 5, none⟩ = some (.int .i64 x.1.2.2.2.2.2) ∧ w'.cell? ⟨w5.heap.size, 6, none⟩ = some (.slice xsa xsn xsc) ∧ w'.cell? ⟨w5.heap.size, 7, none⟩ = some (.slice xna xnn xnc) ∧ w'.cell? ⟨w5.heap.size, 8, none⟩ = some (.slice xoa xon xoc) ∧ w'.cell? ⟨w5.heap.size, 9, none⟩ = some (.slice xba xbn xbc) ∧ w'.cell? ⟨w.heap.size, 0, none⟩ = some (.int .i64 x.1.1) ∧ w'.cell? ⟨w.heap.size, 1, none⟩ = some (.int .i64 x.1.2.1) ∧ w'.cell? ⟨w.heap.size, 2, none⟩ = some (.int .i64 x.1.2.2.1) ∧ w'.cell? ⟨w.heap.size, 3, none⟩ = some (.slice ja jn jc) ∧ w'.cell? ⟨w.heap.size, 4, none⟩ = some (.slice la ln lc) ∧ w'.cell? ⟨w.heap.size, 5, none⟩ = some (.int .i64 x.1.2.2.2.2.2) ∧ w'.cell? ⟨w.heap.size, 6, none⟩ = some (.slice sa sn sc) ∧ w'.cell? ⟨w.heap.size, 7, none⟩ = some (.slice na nn nc) ∧ w'.cell? ⟨w.heap.size, 8, none⟩ = some (.slice oa on oc) ∧ w'.cell? ⟨w.heap.size, 9, none⟩ = some (.slice ba bn bc))) (first | (exact keepBoth10 hb9 (by assumption)) | (exact keepBoth10 hb8 (by assumption)) | (go_keep)) (first | (go_at_call 8; have h9 := hb8; refine (eqWorldT _ _ _ _ _ _ _ _ _ _ _ _ _ _ _ _ _ _ _ _ _ _ _ _ _ _ _ _ _ _ _ _ _ _ _ _ x _ (see_wo (hX7.below (hdr.trans (hb8.mono hdr.size))).see) HO8.out).mono ?_; rintro e w9 ⟨rfl, hb9⟩) | (go_at_call 6; refine (HTO.out _ hbWd).mono ?_; rintro e w8 ⟨vs8, F3, rfl, hO8, hF8, hb8⟩; obtain ⟨yja, yjn, yjc, yla, yln, ylc, ysa, ysn, ysc, yna, ynn, ync, yoa, yon, yoc, yba, ybn, ybc, rfl⟩ := world_shape hO8; have HO8 := Hid.mk' (see_wo (worldR.ownSee hO8))) | fail "no arm")
  have hb79 := (hdr.trans (hb8.mono hdr.size)).trans (hb9.mono (Nat.le_trans hdr.size hb8.size))
  have hbW9 := hbW7.trans (hb79.mono hbW7.size)
  clear x0 x1 x2 x3 x4 x5 x6 x7 x8 x9 a0 a1 a2 a3 a4 a5 a6 a7 a8 a9
  go_wp2_with fail
  go_ret
  exact ⟨rfl, hB.trans (hbW9.mono hB.size)⟩

theorem own : ownKnob Try.prog.godebug = none := by kernel_rfl
theorem laidOut : laidOutB Try.prog = true := by kernel_rfl

set_option maxRecDepth 100000 in
theorem lifted (os : Os) (started : os.Started) (H : Type) (enc : TypeId × Value → H) :
    ReturnsInHanded {} Try.checked os 3 .any (Rows.fnExactOpenSpec.pre6 enc Try.prog Try.f3 Rows.fnExactOpenRow.domain false) (Rows.fnExactOpenSpec.post enc Try.prog Try.f3 false true false false) := by
  refine returnsInHanded_of_change (C := Try.checked) own started (by kernel_rfl) Try.func3
    (ChangeSpec.witness6 (enc := enc) (C := Try.checked) false ⟨#[], #[.agg #[.int .i64 0, .int .i64 0, .int .i64 0, .slice none 0 0, .slice none 0 0, .int .i64 0, .slice none 0 0, .slice none 0 0, .slice none 0 0, .slice none 0 0]], []⟩ 8 (by kernel_rfl) (by kernel_rfl) (by kernel_rfl) (by kernel_rfl)) ?_
  intro W base args ds gs before hval0 hW hcnd _
  have hval : ∀ (j : Nat) t v, Try.f3.params[j]? = some t → args[j]? = some v → Value.okWide Try.prog W .any base t v := hval0
  have hW' := hW
  obtain ⟨p, q, hA0, hV, rfl, hfz, hnd⟩ := hW
  have hA : DataW.TrodAll enc Try.prog W 0 (fun _ => true) true Try.f3.params.toList args.toList ds p := hA0
  rw [Try.params3] at hA hval
  obtain ⟨v0, vs0, d0, ds0, p0, q0, hargs, rfl, rfl, h0, r0⟩ := trodAll_cons hA
  obtain ⟨rfl, rfl, rfl⟩ := trodAll_nil r0
  obtain rfl : args = #[v0] := by cases args; simp_all
  obtain ⟨rfl, rfl⟩ := trodVars_none hV
  have k0 := h0
  have lt0 : ∀ x ∈ p0, x.block < W.heap.size := by obtain ⟨m, hm⟩ := k0; exact DataW.trod_lt m _ _ _ hm
  obtain ⟨cs0, b0, rfl, w0⟩ : ∃ cs b, v0 = .agg cs.toArray ∧ wos.worldR.see W cs b := by obtain ⟨fuel, hf⟩ := h0; exact lay.arg_struct Try.underlying30 (by kernel_rfl) wos.reads_world (hval 0 30 v0 rfl rfl) hf
  obtain ⟨c0_0, c0_1, c0_2, c0_3, c0_4, c0_5, c0_6, c0_7, c0_8, c0_9, rfl⟩ := lay.vals10 (wos.worldR.seeLen w0)
  clear hA0 hval0
  refine (walk c0_0 c0_1 c0_2 c0_3 c0_4 c0_5 c0_6 c0_7 c0_8 c0_9 b0 W w0).mono fun e W' ⟨he, bel⟩ => ?_
  subst he
  exact ⟨_, rfl, _, _, _, [], _, [], hW', trodAll_mk1 (shut_bool Try.underlying4 _), (trodAll_cons_mk (Below.trod laidOut (by kernel_rfl) (of_decide_eq_true (by kernel_rfl)) k0 bel lt0) trodAll_mk0), rfl, bel.frame _, fun h => by cases h⟩

theorem over : Rows.fnExactOpenRow.holds Try.pinned (OpenSpec.ofChange Rows.fnExactOpenSpec) :=
  OpenClaim.holds_of_wide 3 Try.f3 rfl rfl rfl rfl rfl rfl rfl ⟨rfl, rfl, rfl, rfl, rfl⟩ rfl rfl rfl rfl rfl (by kernel_rfl) Try.func3 (by kernel_rfl)
    (of_decide_eq_true (by kernel_rfl)) (by unfold Func.isWrapper; first | (rw [if_pos (by decide +kernel)]; kernel_rfl) | (rw [if_neg (by decide +kernel)]; exact ⟨rfl, rfl⟩))
    (fun os started H enc _ => lifted os started H enc)

theorem proved : Rows.FnExactOpenSaid := over
end Go.Proofs.Ytmibabclefgljaa.fnExactOpen
