/- The statement FnExactAnswerSaid: at every one who decides and number FnExactAnswer answers true, and the arguments read afterwards as before. No condition besides the row's own. -/
import Derived.Test.YtehiekmifglapaaRows
import Derived.Test.YtehiekmifglapaaBund12au
import Derived.Test.YtehiekmifglapaaBund12bc
import Derived.ProofKit
import Derived.OpenShut
import Derived.ShutString
import Derived.ChangeOld
import Derived.Below
namespace Go.Proofs.Ytehiekmifglapaa.fnExactAnswer
open Go.ChangeShapes Go.WideShapes Go.ChangeAt Go.RowKit
open Go.ChangeMaps (open_string shut_string)
set_option linter.unusedVariables false
open Go.Proofs.Ytehiekmifglapaa.base Go.Proofs.Ytehiekmifglapaa.pairs Go.Proofs.Ytehiekmifglapaa.ords Go.Proofs.Ytehiekmifglapaa.help Go.Proofs.Ytehiekmifglapaa.helps Go.Proofs.Ytehiekmifglapaa.cos Go.Proofs.Ytehiekmifglapaa.lay

set_option maxRecDepth 100000 in
set_option maxHeartbeats 8000000 in
theorem walk (u0 u1 u2 u3 u4 u5 : Value) (c : Co) (x : Int) (w : World) (h0 : coordR.see w [u0, u1, u2, u3, u4, u5] c) (hx0 : (Lit.int .i64 x).wf = true) :
    Calls Try.prog 9 #[.agg #[u0, u1, u2, u3, u4, u5], .int .i64 x] w fun e w' => e = .returned (.bool true) ∧ Below w.heap.size w w' := by
  obtain ⟨ja, jn, jc, la, ln, lc, rfl, rfl, rfl, rfl, rfl, rfl, h⟩ := coord_see6 h0
  clear h0
  obtain ⟨W, hW⟩ : ∃ W, w.alloc (.cells #[.int .i64 c.1, .int .i64 c.2.1, .int .i64 c.2.2.1, .slice ja jn jc, .slice la ln lc, .int .i64 c.2.2.2.2.2] 60) = W := ⟨_, rfl⟩
  have hB : Below w.heap.size w W := by rw [← hW]; exact below_make
  have hA : BoxIn w.heap.size 60 [] [.int .i64 c.1, .int .i64 c.2.1, .int .i64 c.2.2.1, .slice ja jn jc, .slice la ln lc, .int .i64 c.2.2.2.2.2] [] W := by rw [← hW]; exact boxIn_new w _ _
  have hsz := szCoord ja jn jc la ln lc c 1048576 W (h.below hB) (by omega)
  have HW := Hid.mk' hW
  have ARG : Hid (∀ wx, Below W.heap.size W wx → wx.cell? ⟨w.heap.size, 0, none⟩ = some (.int .i64 c.1) ∧ wx.cell? ⟨w.heap.size, 1, none⟩ = some (.int .i64 c.2.1) ∧ wx.cell? ⟨w.heap.size, 2, none⟩ = some (.int .i64 c.2.2.1) ∧ wx.cell? ⟨w.heap.size, 3, none⟩ = some (.slice ja jn jc) ∧ wx.cell? ⟨w.heap.size, 4, none⟩ = some (.slice la ln lc) ∧ wx.cell? ⟨w.heap.size, 5, none⟩ = some (.int .i64 c.2.2.2.2.2)) := fun wx hx => cells6 (hA.below hx)
  obtain ⟨a0, a1, a2, a3, a4, a5⟩ := ARG.out W (Below.refl _ _)
  rw [← hW] at a0 a1 a2 a3 a4 a5
  clear hW
  by_cases hover : 1048576 < csz c
  · rw [pairs.szR_neg hover] at hsz
    have HZ := Hid.mk' hsz
    clear hsz
    go_enter Try.func9, Try.ntmps9
    go_wp2_with fail
    rw [HW.out]
    refine HZ.out.mono ?_
    rintro e wa ⟨rfl, hb⟩
    clear a0 a1 a2 a3 a4 a5
    go_wp2_with fail
    go_ret
    exact ⟨rfl, hB.trans (hb.mono hB.size)⟩
  rw [pairs.szR_pos (by omega)] at hsz
  obtain ⟨r, hrr⟩ : ∃ r : Nat, ((1048576 : Nat) : Int) - (csz c : Int) = (r : Int) := ⟨1048576 - csz c, by omega⟩
  rw [hrr] at hsz
  have HZ := Hid.mk' hsz
  have hbd := bound_co (c := c) (by omega)
  have HTO := Hid.mk' (fun wx (hx : Below W.heap.size W wx) => toCoord ja jn jc la ln lc c wx ((h.below hB).below hx) hbd)
  have hcs := hbd.cnt
  have HS := Hid.mk' (fun (ja jn jc la ln lc) wx (hs : SeeCo wx ja jn jc la ln lc c) => spec_answer ja jn jc la ln lc c x wx hs hbd.fits)
  have HI := Hid.mk' (fun (ja jn jc la ln lc) wx (hs : SeeCo wx ja jn jc la ln lc c) => impl_answer ja jn jc la ln lc c x wx hs hbd.fits hx0)
  generalize answerR c x = R0 at HS HI
  clear hsz hrr hover h hA
  go_enter Try.func9, Try.ntmps9
  go_wp2_with fail
  rw [HW.out]
  refine HZ.out.mono ?_
  rintro e w1 ⟨rfl, hb1⟩
  clear a0 a1 a2 a3 a4 a5 HZ HW
  obtain ⟨a0, a1, a2, a3, a4, a5⟩ := ARG.out w1 hb1
  go_wp2_with fail
  refine (HTO.out _ hb1).mono ?_
  rintro e w2 ⟨vs2, F1, rfl, hO2, hF1, hb2⟩
  obtain ⟨tja, tjn, tjc, tla, tln, tlc, rfl⟩ := coord_shape hO2
  have hbW2 := hb1.trans (hb2.mono hb1.size)
  have HS2 := Hid.mk' (HS.out _ _ _ _ _ _ w2 (see_co (coordR.ownSee hO2)))
  clear a0 a1 a2 a3 a4 a5 hO2 HS
  go_wp2_with fail
  refine HS2.out.mono ?_
  rintro e w3 ⟨rfl, hb3⟩
  have hbW3 := hbW2.trans (hb3.mono hbW2.size)
  obtain ⟨a0, a1, a2, a3, a4, a5⟩ := ARG.out w3 hbW3
  have HT3 := Hid.mk' (HTO.out w3 hbW3)
  clear HS2 hF1
  go_wp2_with fail
  refine HT3.out.mono ?_
  rintro e w5 ⟨vs5, FX, rfl, hO5, hFX, hb5⟩
  obtain ⟨xja, xjn, xjc, xla, xln, xlc, rfl⟩ := coord_shape hO5
  have hbW5 := hbW3.trans (hb5.mono hbW3.size)
  obtain ⟨v5, hv5⟩ : ∃ v5, w5.alloc (.cells #[.int .i64 c.1, .int .i64 c.2.1, .int .i64 c.2.2.1, .slice xja xjn xjc, .slice xla xln xlc, .int .i64 c.2.2.2.2.2] 27) = v5 := ⟨_, rfl⟩
  have hc5 : Below w5.heap.size w5 v5 := by rw [← hv5]; exact below_make
  have hX5 := inR_new (T := 27) hO5
  rw [hv5] at hX5
  have hbW6 := hbW5.trans (hc5.mono hbW5.size)
  obtain ⟨x0, x1, x2, x3, x4, x5⟩ := cells6 hX5.box
  rw [← hv5] at x0 x1 x2 x3 x4 x5
  have HV5 := Hid.mk' hv5
  have HI5 := Hid.mk' (HI.out _ _ _ _ _ _ v5 (see_co hX5.see))
  clear a0 a1 a2 a3 a4 a5 HT3 hO5 hv5 hFX
  go_wp2_with fail
  rw [HV5.out]
  refine HI5.out.mono ?_
  rintro e w7 ⟨rfl, hb7⟩
  have hX7 := hX5.below hb7
  have hbW7 := hbW6.trans (hb7.mono hbW6.size)
  clear x0 x1 x2 x3 x4 x5 HV5 HI5
  obtain ⟨x0, x1, x2, x3, x4, x5⟩ := cells6 hX7.box
  obtain ⟨a0, a1, a2, a3, a4, a5⟩ := ARG.out w7 hbW7
  have hdr : Below w7.heap.size w7 w7.drew := (Below.refl _ _).drew
  have hbWd := hbW7.trans (hdr.mono hbW7.size)
  have hcmp : (R0.1 != R0.1) = false := by cases R0.1 <;> rfl
  have hcmp2 : (R0.2 != R0.2) = false := by cases R0.2 <;> rfl
  go_wp2_with fail
  go_region_held3 (fun w' => (w'.cell? ⟨w5.heap.size, 0, none⟩ = some (.int .i64 c.1) ∧ w'.cell? ⟨w5.heap.size, 1, none⟩ = some (.int .i64 c.2.1) ∧ w'.cell? ⟨w5.heap.size, 2, none⟩ = some (.int .i64 c.2.2.1) ∧ w'.cell? ⟨w5.heap.size, 3, none⟩ = some (.slice xja xjn xjc) ∧ w'.cell? ⟨w5.heap.size, 4, none⟩ = some (.slice xla xln xlc) ∧ w'.cell? ⟨w5.heap.size, 5, none⟩ = some (.int .i64 c.2.2.2.2.2) ∧ w'.cell? ⟨w.heap.size, 0, none⟩ = some (.int .i64 c.1) ∧ w'.cell? ⟨w.heap.size, 1, none⟩ = some (.int .i64 c.2.1) ∧ w'.cell? ⟨w.heap.size, 2, none⟩ = some (.int .i64 c.2.2.1) ∧ w'.cell? ⟨w.heap.size, 3, none⟩ = some (.slice ja jn jc) ∧ w'.cell? ⟨w.heap.size, 4, none⟩ = some (.slice la ln lc) ∧ w'.cell? ⟨w.heap.size, 5, none⟩ = some (.int .i64 c.2.2.2.2.2))) (first | (exact keepBoth6 hb9 (by assumption)) | (exact keepBoth6 hb8 (by assumption)) | (go_keep)) (first | (go_at_call 36; have h9 := hb8; refine (eqCoordT _ _ _ _ _ _ _ _ _ _ _ _ c _ (see_co (hX7.below (hdr.trans (hb8.mono hdr.size))).see) HO8.out).mono ?_; rintro e w9 ⟨rfl, hb9⟩) | (go_at_call 35; refine (HTO.out _ hbWd).mono ?_; rintro e w8 ⟨vs8, F3, rfl, hO8, hF8, hb8⟩; obtain ⟨yja, yjn, yjc, yla, yln, ylc, rfl⟩ := coord_shape hO8; have HO8 := Hid.mk' (see_co (coordR.ownSee hO8))) | fail "no arm")
  have hb79 := (hdr.trans (hb8.mono hdr.size)).trans (hb9.mono (Nat.le_trans hdr.size hb8.size))
  have hbW9 := hbW7.trans (hb79.mono hbW7.size)
  clear x0 x1 x2 x3 x4 x5 a0 a1 a2 a3 a4 a5
  go_wp2_with fail
  go_ret
  exact ⟨rfl, hB.trans (hbW9.mono hB.size)⟩

theorem own : ownKnob Try.prog.godebug = none := by kernel_rfl
theorem laidOut : laidOutB Try.prog = true := by kernel_rfl

set_option maxRecDepth 100000 in
theorem lifted (os : Os) (started : os.Started) (H : Type) (enc : TypeId × Value → H) :
    ReturnsInHanded {} Try.checked os 9 .any (Rows.fnExactAnswerSpec.pre6 enc Try.prog Try.f9 Rows.fnExactAnswerRow.domain false) (Rows.fnExactAnswerSpec.post enc Try.prog Try.f9 false true false false) := by
  refine returnsInHanded_of_change (C := Try.checked) own started (by kernel_rfl) Try.func9
    (ChangeSpec.witness6 (enc := enc) (C := Try.checked) false ⟨#[], #[.agg #[.int .i64 0, .int .i64 0, .int .i64 0, .slice none 0 0, .slice none 0 0, .int .i64 0], .int .i64 0], []⟩ 8 (by kernel_rfl) (by kernel_rfl) (by kernel_rfl) (by kernel_rfl)) ?_
  intro W base args ds gs before hval0 hW hcnd _
  have hval : ∀ (j : Nat) t v, Try.f9.params[j]? = some t → args[j]? = some v → Value.okWide Try.prog W .any base t v := hval0
  have hW' := hW
  obtain ⟨p, q, hA0, hV, rfl, hfz, hnd⟩ := hW
  have hA : DataW.TrodAll enc Try.prog W 0 (fun _ => true) true Try.f9.params.toList args.toList ds p := hA0
  rw [Try.params9] at hA hval
  obtain ⟨v0, vs0, d0, ds0, p0, q0, hargs, rfl, rfl, h0, r0⟩ := trodAll_cons hA
  obtain ⟨v1, vs1, d1, ds1, p1, q1, rfl, rfl, rfl, h1, r1⟩ := trodAll_cons r0
  obtain ⟨rfl, rfl, rfl⟩ := trodAll_nil r1
  obtain rfl : args = #[v0, v1] := by cases args; simp_all
  obtain ⟨rfl, rfl⟩ := trodVars_none hV
  have k0 := h0
  have lt0 : ∀ x ∈ p0, x.block < W.heap.size := by obtain ⟨m, hm⟩ := k0; exact DataW.trod_lt m _ _ _ hm
  obtain ⟨cs0, b0, rfl, w0⟩ : ∃ cs b, v0 = .agg cs.toArray ∧ cos.coordR.see W cs b := by obtain ⟨fuel, hf⟩ := h0; exact lay.arg_struct Try.underlying60 (by kernel_rfl) cos.reads_coord (hval 0 60 v0 rfl rfl) hf
  obtain ⟨c0_0, c0_1, c0_2, c0_3, c0_4, c0_5, rfl⟩ := lay.vals6 (cos.coordR.seeLen w0)
  obtain ⟨a1, rfl, rfl, rfl, w1⟩ := open_int Try.underlying3 (hval 1 3 v1 rfl rfl) h1
  clear hA0 hval0
  refine (walk c0_0 c0_1 c0_2 c0_3 c0_4 c0_5 b0 a1 W w0 w1).mono fun e W' ⟨he, bel⟩ => ?_
  subst he
  exact ⟨_, rfl, _, _, _, [], _, [], hW', trodAll_mk1 (shut_bool Try.underlying4 _), (trodAll_cons_mk (Below.trod laidOut (by kernel_rfl) (of_decide_eq_true (by kernel_rfl)) k0 bel lt0) (trodAll_cons_mk (shut_int Try.underlying3 w1) trodAll_mk0)), rfl, bel.frame _, fun h => by cases h⟩

theorem over : Rows.fnExactAnswerRow.holds Try.pinned (OpenSpec.ofChange Rows.fnExactAnswerSpec) :=
  OpenClaim.holds_of_wide 9 Try.f9 rfl rfl rfl rfl rfl rfl rfl ⟨rfl, rfl, rfl, rfl, rfl⟩ rfl rfl rfl rfl rfl (by kernel_rfl) Try.func9 (by kernel_rfl)
    (of_decide_eq_true (by kernel_rfl)) (by unfold Func.isWrapper; first | (rw [if_pos (by decide +kernel)]; kernel_rfl) | (rw [if_neg (by decide +kernel)]; exact ⟨rfl, rfl⟩))
    (fun os started H enc _ => lifted os started H enc)

theorem proved : Rows.FnExactAnswerSaid := over
end Go.Proofs.Ytehiekmifglapaa.fnExactAnswer
