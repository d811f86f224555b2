/- The statement FnExactApplySaid: at every slice of pairs and every slice of orders FnExactApply answers true, and the arguments read afterwards as before. No condition besides the row's own. -/
import Derived.Test.YteiokccimlcmpaaRows
import Derived.Test.YteiokccimlcmpaaOrdTrio
import Derived.Test.YteiokccimlcmpaaOrdK
import Derived.Test.YteiokccimlcmpaaHelpN
import Derived.Test.YteiokccimlcmpaaOrdArg
import Derived.ProofKit
import Derived.OpenShut
import Derived.ShutString
import Derived.ChangeOld
import Derived.Below
namespace Go.Proofs.Yteiokccimlcmpaa.fnExactApply
open Go.ChangeShapes Go.WideShapes Go.ChangeAt Go.RowKit
open Go.ChangeMaps (open_string shut_string)
set_option linter.unusedVariables false
open Go.Proofs.Yteiokccimlcmpaa.base Go.Proofs.Yteiokccimlcmpaa.pairs Go.Proofs.Yteiokccimlcmpaa.ords

theorem applyAll_length (m : List Pr) (l : List Od) : (applyAll m l).length ≤ m.length + l.length := by
  induction l generalizing m with
  | nil => simp [applyAll]
  | cons o l ih =>
    have := ih (apply1 m o)
    have := apply1_length m o
    rw [apply_cons, List.length_cons]; omega

set_option maxRecDepth 100000 in
set_option maxHeartbeats 2000000 in
theorem walk (a0 : Option Addr) (len0 cap0 : Nat) (b0 : List Pr) (a1 : Option Addr) (len1 cap1 : Nat) (b1 : List Od) (w : World) (w0 : SlP w a0 len0 b0) (s1 : SlO w a1 len1 b1) :
    Calls Try.prog 9 #[.slice a0 len0 cap0, .slice a1 len1 cap1] w fun e w' => e = .returned (.bool true) ∧ Below w.heap.size w w' := by
  have hl0 := w0.1
  have hl1 := s1.1
  have hsz := szPairS a0 len0 cap0 b0 1048576 w w0 (by omega)
  by_cases hover : 1048576 < b0.length + sumP b0
  · rw [szR_neg hover] at hsz
    have HZ := Hid.mk' hsz
    clear hsz
    go_enter Try.func9, Try.ntmps9
    go_wp2_with fail
    refine HZ.out.mono ?_
    rintro e wa ⟨rfl, hB⟩
    go_wp2_with fail
    go_ret
    exact ⟨rfl, hB⟩
  · rw [szR_pos (by omega)] at hsz
    obtain ⟨r, hr⟩ : ∃ r : Nat, ((1048576 : Nat) : Int) - ((b0.length + sumP b0 : Nat) : Int) = (r : Int) := ⟨1048576 - (b0.length + sumP b0), by omega⟩
    have hrb : r ≤ 1048576 := by omega
    rw [hr] at hsz
    have HZ := Hid.mk' hsz
    clear hsz hr
    by_cases hover1 : r < b1.length + sumO b1
    · go_enter Try.func9, Try.ntmps9
      go_wp2_with fail
      refine HZ.out.mono ?_
      rintro e wa ⟨rfl, hB⟩
      go_wp2_with fail
      refine (szOpS a1 len1 cap1 b1 r wa (s1.below hB) (by omega)).mono ?_
      rintro e wb ⟨he, hB1⟩
      rw [szR_neg hover1] at he
      subst he
      go_wp2_with fail
      go_ret
      exact ⟨rfl, hB.trans (hB1.mono hB.size)⟩
    · obtain ⟨r1, hr1⟩ : ∃ r1 : Nat, szR r (b1.length + sumO b1) = (r1 : Int) := ⟨r - (b1.length + sumO b1), by rw [szR_pos (by omega)]; omega⟩
      have HR1 := Hid.mk' hr1
      clear hr1
      have hml : (applyAll b0 b1).length ≤ 2097152 := by have := applyAll_length b0 b1; omega
      go_enter Try.func9, Try.ntmps9
      go_wp2_with fail
      refine HZ.out.mono ?_
      rintro e wa ⟨rfl, hB⟩
      go_wp2_with fail
      refine (szOpS a1 len1 cap1 b1 r wa (s1.below hB) (by omega)).mono ?_
      rintro e wb ⟨he, hB1⟩
      rw [HR1.out] at he
      subst he
      have hBb := hB.trans (hB1.mono hB.size)
      clear hB hB1
      go_wp2_with fail
      refine (toPairS a0 len0 cap0 b0 _ (w0.below hBb) (by omega)).mono ?_
      rintro e wc ⟨g1, rfl, hO1, hB2⟩
      have hBc := hBb.trans (hB2.mono hBb.size)
      go_wp2_with fail
      refine (toOpS a1 len1 cap1 b1 _ (s1.below hBc) (by omega)).mono ?_
      rintro e wd ⟨g2, rfl, hO2, hB3⟩
      have hBd := hBc.trans (hB3.mono hBc.size)
      go_wp2_with fail
      refine (spec_apply _ _ _ _ b0 _ _ _ b1 _ (hO1.below hB3).sl hO2.sl (by omega)).mono ?_
      rintro e we ⟨gw, lw, cw, rfl, hOw, hBw⟩
      have hBe := hBd.trans (hBw.mono hBd.size)
      go_wp2_with fail
      refine (toPairS a0 len0 cap0 b0 _ (w0.below hBe) (by omega)).mono ?_
      rintro e wf ⟨gx, rfl, hOx, hBx⟩
      have hBf := hBe.trans (hBx.mono hBe.size)
      go_wp2_with fail
      refine (toOpS a1 len1 cap1 b1 _ (s1.below hBf) (by omega)).mono ?_
      rintro e wg ⟨gy, rfl, hOy, hBy⟩
      have hBg := hBf.trans (hBy.mono hBf.size)
      have hOx2 := hOx.below hBy
      go_wp2_with fail
      refine (impl_apply _ _ _ _ b0 _ _ _ _ b1 _ hOx2.sl hOy.sl (Nat.le_refl _) (by omega)).mono ?_
      rintro e wh ⟨gg, lg, cg, rfl, hOg, hBh⟩
      have T1 : QuadA w wh gx len0 len0 b0 gy len1 len1 b1 gg lg cg (applyAll b0 b1) gw lw cw (applyAll b0 b1) :=
        ⟨⟨hBg.trans (hBh.mono hBg.size), (hOx2.mono hBe.size).below hBh, hOg.mono hBg.size, (((hOw.mono hBd.size).below hBx).below hBy).below hBh,
          by have := hOx.lt; have := hOg.lt; have := hBy.size; omega, by have := hOx.lt; have := hOw.lt; omega, by have := hOg.lt; have := hOw.lt; have := hBx.size; have := hBy.size; omega⟩,
          (hOy.mono hBf.size).below hBh, by have := hOy.lt; have := hOx.lt; omega, by have := hOy.lt; have := hOg.lt; omega, by have := hOy.lt; have := hOw.lt; have := hBx.size; omega⟩
      have hlg : lg ≤ 2097152 := by have := T1.t.g.1; omega
      clear hBb hO1 hB2 hBc hO2 hB3 hBd hOw hBw hBe hOx hBx hBf hOy hBy hBg hOx2 hOg hBh
      go_wp2_with fail
      refine (eqP _ _ _ _ _ _ _ _ _ T1.t.g.sl T1.t.s.sl rfl).mono ?_
      rintro e w2 ⟨rfl, hB⟩
      have T2 := T1.below hB
      clear T1 hB
      go_wp2_with fail
      refine (toPairS a0 len0 cap0 b0 _ (w0.below T2.t.bel) (by omega)).mono ?_
      rintro e w3 ⟨gq, rfl, hOq, hBq⟩
      have T3 := T2.below hBq
      clear T2 hBq
      go_wp2_with fail
      refine (eqP _ _ _ _ _ _ _ _ _ T3.t.x.sl hOq.sl rfl).mono ?_
      rintro e w4 ⟨rfl, hB⟩
      have T4 := T3.below hB
      clear T3 hB hOq
      go_wp2_with fail
      refine (toOpS a1 len1 cap1 b1 _ (s1.below T4.t.bel) (by omega)).mono ?_
      rintro e w3 ⟨gq, rfl, hOq, hBq⟩
      have T5 := T4.below hBq
      clear T4 hBq
      go_wp2_with fail
      refine (eqO _ _ _ _ _ _ _ _ _ T5.y.sl hOq.sl rfl).mono ?_
      rintro e w4 ⟨rfl, hB⟩
      have T6 := T5.below hB
      clear T5 hB hOq
      go_wp2_with fail
      refine (markP _ _ _ _ 1 _ _ T6.t.x (by omega) (by omega) (by omega) _ (by show _ = _; rfl)).mono ?_
      rintro e w5 ⟨rfl, hx, hg⟩
      have T7 := T6.markX hx hg
      clear T6 hx hg
      go_wp2_with fail
      refine (markO _ _ _ _ (1 + 2 * len0) _ _ T7.y (by omega) (by omega) (by omega) _ (by show _ = _; omega)).mono ?_
      rintro e w5 ⟨rfl, hx, hg⟩
      have T8 := T7.markY hx hg
      clear T7 hx hg
      go_wp2_with fail
      refine (eqP _ _ _ _ _ _ _ _ _ T8.t.g.sl T8.t.s.sl rfl).mono ?_
      rintro e w6 ⟨rfl, hB⟩
      have T9 := T8.below hB
      clear T8 hB
      go_wp2_with fail
      refine (markP _ _ _ _ 1 _ _ T9.t.g (by omega) (by omega) (by omega) _ (by show _ = _; rfl)).mono ?_
      rintro e w7 ⟨rfl, hx, hg⟩
      have T10 := T9.markG hx hg
      clear T9 hx hg
      go_wp2_with fail
      refine (heldP _ _ _ _ T10.t.g.sl (by omega)).mono ?_
      rintro e w8 ⟨rfl, hB⟩
      have T11 := T10.below hB
      clear T10 hB
      go_wp2_with fail
      refine (toPairS a0 len0 cap0 b0 _ (w0.below T11.t.bel) (by omega)).mono ?_
      rintro e w9 ⟨gz, rfl, hOz, hBz⟩
      have T12 := T11.below hBz
      clear T11 hBz
      go_wp2_with fail
      refine (toOpS a1 len1 cap1 b1 _ (s1.below T12.t.bel) (by omega)).mono ?_
      rintro e w10 ⟨gz2, rfl, hOz2, hBz2⟩
      have T13 := T12.below hBz2
      have hOz3 := hOz.below hBz2
      clear T12 hBz2 hOz
      go_wp2_with fail
      refine (impl_apply _ _ _ _ b0 _ _ _ _ b1 _ hOz3.sl hOz2.sl (Nat.le_refl _) (by omega)).mono ?_
      rintro e w11 ⟨gh, lh, ch, rfl, hOh, hBh⟩
      have T14 := T13.below hBh
      clear T13 hBh hOz3 hOz2
      go_wp2_with fail
      refine (eqP _ _ _ _ _ _ _ _ _ hOh.sl T14.t.s.sl rfl).mono ?_
      rintro e w12 ⟨rfl, hB⟩
      have T15 := T14.below hB
      clear T14 hB hOh
      go_wp2_with fail
      refine (heldP _ _ _ _ T15.t.g.sl (by omega)).mono ?_
      rintro e w13 ⟨rfl, hB⟩
      have T16 := T15.below hB
      clear T15 hB
      go_wp2_with fail
      go_ret
      exact ⟨rfl, T16.t.bel⟩

theorem own : ownKnob Try.prog.godebug = none := by kernel_rfl
theorem laidOut : laidOutB Try.prog = true := by kernel_rfl

set_option maxRecDepth 100000 in
theorem lifted (os : Os) (started : os.Started) (H : Type) (enc : TypeId × Value → H) :
    ReturnsInHanded {} Try.checked os 9 .any (Rows.fnExactApplySpec.pre6 enc Try.prog Try.f9 Rows.fnExactApplyRow.domain false) (Rows.fnExactApplySpec.post enc Try.prog Try.f9 false true false false) := by
  refine returnsInHanded_of_change (C := Try.checked) own started (by kernel_rfl) Try.func9
    (ChangeSpec.witness6 (enc := enc) (C := Try.checked) false ⟨#[], #[.slice none 0 0, .slice none 0 0], []⟩ 8 (by kernel_rfl) (by kernel_rfl) (by kernel_rfl) (by kernel_rfl)) ?_
  intro W base args ds gs before hval0 hW hcnd _
  have hval : ∀ (j : Nat) t v, Try.f9.params[j]? = some t → args[j]? = some v → Value.okWide Try.prog W .any base t v := hval0
  have hW' := hW
  obtain ⟨p, q, hA0, hV, rfl, hfz, hnd⟩ := hW
  have hA : DataW.TrodAll enc Try.prog W 0 (fun _ => true) true Try.f9.params.toList args.toList ds p := hA0
  rw [Try.params9] at hA hval
  obtain ⟨v0, vs0, d0, ds0, p0, q0, hargs, rfl, rfl, h0, r0⟩ := trodAll_cons hA
  obtain ⟨v1, vs1, d1, ds1, p1, q1, rfl, rfl, rfl, h1, r1⟩ := trodAll_cons r0
  obtain ⟨rfl, rfl, rfl⟩ := trodAll_nil r1
  obtain rfl : args = #[v0, v1] := by cases args; simp_all
  obtain ⟨rfl, rfl⟩ := trodVars_none hV
  obtain ⟨a0, len0, cap0, rfl⟩ := okWide_slice Try.underlying56 (hval 0 56 v0 rfl rfl)
  have k0 := h0
  have lt0 : ∀ x ∈ p0, x.block < W.heap.size := by obtain ⟨m, hm⟩ := k0; exact DataW.trod_lt m _ _ _ hm
  obtain ⟨b0, w0⟩ : ∃ l, SlP W a0 len0 l := by obtain ⟨fuel, hf⟩ := h0; exact slp_arg 56 106 _ _ Try.underlying56 Try.underlying106 (by kernel_rfl) rfl rfl rfl rfl (by kernel_rfl) hf
  obtain ⟨a1, len1, cap1, rfl⟩ := okWide_slice Try.underlying52 (hval 1 52 v1 rfl rfl)
  have k1 := h1
  have lt1 : ∀ x ∈ p1, x.block < W.heap.size := by obtain ⟨m, hm⟩ := k1; exact DataW.trod_lt m _ _ _ hm
  obtain ⟨b1, w1⟩ : ∃ l, ords.SlO W a1 len1 l := by obtain ⟨fuel, hf⟩ := h1; exact ords.slo_arg 52 102 _ _ _ Try.underlying52 Try.underlying102 (by kernel_rfl) rfl rfl rfl rfl rfl rfl (by kernel_rfl) (by kernel_rfl) hf
  clear hA0 hval0
  refine (walk a0 len0 cap0 b0 a1 len1 cap1 b1 W w0 w1).mono fun e W' ⟨he, bel⟩ => ?_
  subst he
  exact ⟨_, rfl, _, _, _, [], _, [], hW', trodAll_mk1 (shut_bool Try.underlying4 _), (trodAll_cons_mk (Below.trod laidOut (by kernel_rfl) (of_decide_eq_true (by kernel_rfl)) k0 bel lt0) (trodAll_cons_mk (Below.trod laidOut (by kernel_rfl) (of_decide_eq_true (by kernel_rfl)) k1 bel lt1) trodAll_mk0)), rfl, bel.frame _, fun h => by cases h⟩

theorem over : Rows.fnExactApplyRow.holds Try.pinned (OpenSpec.ofChange Rows.fnExactApplySpec) :=
  OpenClaim.holds_of_wide 9 Try.f9 rfl rfl rfl rfl rfl rfl rfl ⟨rfl, rfl, rfl, rfl, rfl⟩ rfl rfl rfl rfl rfl (by kernel_rfl) Try.func9 (by kernel_rfl)
    (of_decide_eq_true (by kernel_rfl)) (by unfold Func.isWrapper; first | (rw [if_pos (by decide +kernel)]; kernel_rfl) | (rw [if_neg (by decide +kernel)]; exact ⟨rfl, rfl⟩))
    (fun os started H enc _ => lifted os started H enc)

theorem proved : Rows.FnExactApplySaid := over
end Go.Proofs.Yteiokccimlcmpaa.fnExactApply
