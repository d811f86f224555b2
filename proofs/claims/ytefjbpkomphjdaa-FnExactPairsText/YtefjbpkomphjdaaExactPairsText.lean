/- The statement FnExactPairsTextSaid: at every slice of pairs FnExactPairsText answers true, and the argument reads afterwards as before. No condition besides the row's own. -/
import Derived.Test.YtefjbpkomphjdaaRows
import Derived.Test.YtefjbpkomphjdaaShac
import Derived.Test.YtefjbpkomphjdaaShab
import Derived.ProofKit
import Derived.OpenShut
import Derived.ShutString
import Derived.ChangeOld
import Derived.Below
namespace Go.Proofs.Ytefjbpkomphjdaa.fnExactPairsText
open Go.ChangeShapes Go.WideShapes Go.ChangeAt Go.RowKit
open Go.ChangeMaps (open_string shut_string)
set_option linter.unusedVariables false
open Go.Proofs.Ytefjbpkomphjdaa.base Go.Proofs.Ytefjbpkomphjdaa.pairs Go.Proofs.Ytefjbpkomphjdaa.ords Go.Proofs.Ytefjbpkomphjdaa.txts

theorem od_named : ([] : List ords.Od) = [] := rfl
set_option maxRecDepth 100000 in
set_option maxHeartbeats 1000000 in
theorem walk (a0 : Option Addr) (len0 cap0 : Nat) (b0 : List Pr) (w : World) (w0 : SlP w a0 len0 b0) :
    Calls Try.prog 8 #[.slice a0 len0 cap0] w fun e w' => e = .returned (.bool true) ∧ Below w.heap.size w w' := by
  have hl0 := w0.1
  have hsz := szPairS a0 len0 cap0 b0 1048576 w w0 (by omega)
  by_cases hover : 1048576 < b0.length + sumP b0
  · rw [szR_neg hover] at hsz
    have HZ := Hid.mk' hsz
    clear hsz
    go_enter Try.func8, Try.ntmps8
    go_wp2_with fail
    refine HZ.out.mono ?_
    rintro e wa ⟨rfl, hB⟩
    go_wp2_with fail
    go_ret
    exact ⟨rfl, hB⟩
  · rw [szR_pos (by omega)] at hsz
    obtain ⟨r, hr⟩ : ∃ r : Nat, ((1048576 : Nat) : Int) - ((b0.length + sumP b0 : Nat) : Int) = (r : Int) := ⟨1048576 - (b0.length + sumP b0), by omega⟩
    rw [hr] at hsz
    have HZ := Hid.mk' hsz
    clear hsz hr
    have hks : ∀ p ∈ b0, p.1.size ≤ 1099511627776 := fun p hp => by have := psz_le b0 p hp; unfold psz at this; omega
    have hrm : room (b0.map prText) ≤ 1099511627776 := by have := prs_room b0; unfold sumP at hover; have e : (b0.map psz).sum = (b0.map fun p => p.1.size + p.2.size).sum := rfl; omega
    obtain ⟨T, hT⟩ : ∃ T : ByteArray, (⟨(pairsText b0).toArray⟩ : ByteArray) = T := ⟨_, rfl⟩
    have HK := Hid.mk' hT
    have hTT : (T.toList == T.toList) = true := by simp
    clear hT
    all_goals
      go_enter Try.func8, Try.ntmps8
      go_wp2_with fail
      refine HZ.out.mono ?_
      rintro e wa ⟨rfl, hB0⟩
      go_wp2_with fail
      refine (toPairS a0 len0 cap0 b0 _ (w0.below hB0) (by omega)).mono ?_
      rintro e wb ⟨g1, rfl, hO1, hB1⟩
      have hBb := hB0.trans (hB1.mono hB0.size)
      go_wp2_with fail
      refine (spec_pairsText _ _ _ b0 _ hO1.sl hrm).mono ?_
      rintro e wc ⟨he, hB2⟩
      rw [HK.out] at he
      subst he
      have hBc := hBb.trans (hB2.mono hBb.size)
      go_wp2_with fail
      refine (toPairS a0 len0 cap0 b0 _ (w0.below hBc) (by omega)).mono ?_
      rintro e wd ⟨gx, rfl, hOx, hBx⟩
      have hBd := hBc.trans (hBx.mono hBc.size)
      go_wp2_with fail
      refine (impl_pairsText _ _ _ b0 _ hOx.sl (by omega) hrm).mono ?_
      rintro e we ⟨he, hBg⟩
      rw [HK.out] at he
      subst he
      have hBe := hBd.trans (hBg.mono hBd.size)
      have hOx' := hOx.below hBg
      clear hO1 hOx hB0 hB1 hB2 hBx hBg
      go_wp2_with fail
      refine (toPairS a0 len0 cap0 b0 _ (w0.below hBe) (by omega)).mono ?_
      rintro e wf ⟨gy, rfl, hOy, hBy⟩
      have hBf := hBe.trans (hBy.mono hBe.size)
      go_wp2_with fail
      refine (eqP _ _ _ _ _ _ _ _ _ (hOx'.below hBy).sl hOy.sl rfl).mono ?_
      rintro e wg ⟨rfl, hBz⟩
      go_wp2_with fail
      go_ret
      exact ⟨rfl, hBf.trans (hBz.mono hBf.size)⟩

theorem own : ownKnob Try.prog.godebug = none := by kernel_rfl
theorem laidOut : laidOutB Try.prog = true := by kernel_rfl

set_option maxRecDepth 100000 in
theorem lifted (os : Os) (started : os.Started) (H : Type) (enc : TypeId × Value → H) :
    ReturnsInHanded {} Try.checked os 8 .any (Rows.fnExactPairsTextSpec.pre6 enc Try.prog Try.f8 Rows.fnExactPairsTextRow.domain false) (Rows.fnExactPairsTextSpec.post enc Try.prog Try.f8 false true false false) := by
  refine returnsInHanded_of_change (C := Try.checked) own started (by kernel_rfl) Try.func8
    (ChangeSpec.witness6 (enc := enc) (C := Try.checked) false ⟨#[], #[.slice none 0 0], []⟩ 8 (by kernel_rfl) (by kernel_rfl) (by kernel_rfl) (by kernel_rfl)) ?_
  intro W base args ds gs before hval0 hW hcnd _
  have hval : ∀ (j : Nat) t v, Try.f8.params[j]? = some t → args[j]? = some v → Value.okWide Try.prog W .any base t v := hval0
  have hW' := hW
  obtain ⟨p, q, hA0, hV, rfl, hfz, hnd⟩ := hW
  have hA : DataW.TrodAll enc Try.prog W 0 (fun _ => true) true Try.f8.params.toList args.toList ds p := hA0
  rw [Try.params8] at hA hval
  obtain ⟨v0, vs0, d0, ds0, p0, q0, hargs, rfl, rfl, h0, r0⟩ := trodAll_cons hA
  obtain ⟨rfl, rfl, rfl⟩ := trodAll_nil r0
  obtain rfl : args = #[v0] := by cases args; simp_all
  obtain ⟨rfl, rfl⟩ := trodVars_none hV
  obtain ⟨a0, len0, cap0, rfl⟩ := okWide_slice Try.underlying43 (hval 0 43 v0 rfl rfl)
  have k0 := h0
  have lt0 : ∀ x ∈ p0, x.block < W.heap.size := by obtain ⟨m, hm⟩ := k0; exact DataW.trod_lt m _ _ _ hm
  obtain ⟨b0, w0⟩ : ∃ l, SlP W a0 len0 l := by obtain ⟨fuel, hf⟩ := h0; exact slp_arg 43 80 _ _ Try.underlying43 Try.underlying80 (by kernel_rfl) rfl rfl rfl rfl (by kernel_rfl) hf
  clear hA0 hval0
  refine (walk a0 len0 cap0 b0 W w0).mono fun e W' ⟨he, bel⟩ => ?_
  subst he
  exact ⟨_, rfl, _, _, _, [], _, [], hW', trodAll_mk1 (shut_bool Try.underlying4 _), (trodAll_cons_mk (Below.trod laidOut (by kernel_rfl) (of_decide_eq_true (by kernel_rfl)) k0 bel lt0) trodAll_mk0), rfl, bel.frame _, fun h => by cases h⟩

theorem over : Rows.fnExactPairsTextRow.holds Try.pinned (OpenSpec.ofChange Rows.fnExactPairsTextSpec) :=
  OpenClaim.holds_of_wide 8 Try.f8 rfl rfl rfl rfl rfl rfl rfl ⟨rfl, rfl, rfl, rfl, rfl⟩ rfl rfl rfl rfl rfl (by kernel_rfl) Try.func8 (by kernel_rfl)
    (of_decide_eq_true (by kernel_rfl)) (by unfold Func.isWrapper; first | (rw [if_pos (by decide +kernel)]; kernel_rfl) | (rw [if_neg (by decide +kernel)]; exact ⟨rfl, rfl⟩))
    (fun os started H enc _ => lifted os started H enc)

theorem proved : Rows.FnExactPairsTextSaid := over
end Go.Proofs.Ytefjbpkomphjdaa.fnExactPairsText
