/- The statement FnExactGetKeySaid: at every slice of pairs and every string FnExactGetKey answers true, and the arguments read afterwards as before. No condition besides the row's own. -/
import Derived.Test.YtblgkcgmnmligaaRows
import Derived.Test.YtblgkcgmnmligaaPairI
import Derived.ProofKit
import Derived.OpenShut
import Derived.ShutString
import Derived.ChangeOld
import Derived.Below
namespace Go.Proofs.Ytblgkcgmnmligaa.fnExactGetKey
open Go.ChangeShapes Go.WideShapes Go.ChangeAt Go.RowKit
open Go.ChangeMaps (open_string shut_string)
set_option linter.unusedVariables false
open Go.Proofs.Ytblgkcgmnmligaa.base Go.Proofs.Ytblgkcgmnmligaa.pairs

set_option maxRecDepth 100000 in
set_option maxHeartbeats 1000000 in
theorem walk (a0 : Option Addr) (len0 cap0 : Nat) (b0 : List Pr) (a1 : ByteArray) (w : World) (w0 : SlP w a0 len0 b0) (w1 : a1.size ≤ maxLen) :
    Calls Try.prog 10 #[.slice a0 len0 cap0, .string a1] w fun e w' => e = .returned (.bool true) ∧ Below w.heap.size w w' := by
  have hl0 := w0.1
  have hm1 := w1
  unfold maxLen at hm1
  by_cases hbig : 1048576 < a1.size
  · go_enter Try.func10, Try.ntmps10
    go_wp2_with fail
    go_ret
    exact ⟨rfl, Below.refl _ _⟩
  · have hsz := szPairS a0 len0 cap0 b0 1048576 w w0 (by omega)
    by_cases hover : 1048576 < b0.length + sumP b0
    · rw [szR_neg hover] at hsz
      have HZ := Hid.mk' hsz
      clear hsz
      go_enter Try.func10, Try.ntmps10
      go_wp2_with fail
      refine HZ.out.mono ?_
      rintro e wa ⟨rfl, hB⟩
      go_wp2_with fail
      go_ret
      exact ⟨rfl, hB⟩
    · rw [szR_pos (by omega)] at hsz
      obtain ⟨r, hr⟩ : ∃ r : Nat, ((1048576 : Nat) : Int) - ((b0.length + sumP b0 : Nat) : Int) = (r : Int) := ⟨1048576 - (b0.length + sumP b0), by omega⟩
      rw [hr] at hsz
      have HZ := Hid.mk' hsz
      clear hsz hr
      obtain ⟨rs, rb, hrb⟩ : ∃ (rs : ByteArray) (rb : Bool), getRet (getKey a1 b0) = .tuple #[.string rs, .bool rb] := by
        rcases getKey a1 b0 with _ | v
        · exact ⟨_, _, rfl⟩
        · exact ⟨_, _, rfl⟩
      have HR := Hid.mk' hrb
      clear hrb
      cases rb
      all_goals
        go_enter Try.func10, Try.ntmps10
        go_wp2_with fail
        refine HZ.out.mono ?_
        rintro e wa ⟨rfl, hB0⟩
        go_wp2_with fail
        refine (toPairS a0 len0 cap0 b0 _ (w0.below hB0) (by omega)).mono ?_
        rintro e wb ⟨g1, rfl, hO1, hB1⟩
        have hBb := hB0.trans (hB1.mono hB0.size)
        go_wp2_with fail
        refine (spec_getKey _ _ _ b0 a1 _ hO1.sl).mono ?_
        rintro e wc ⟨he, rfl⟩
        rw [HR.out] at he
        subst he
        go_wp2_with fail
        refine (toPairS a0 len0 cap0 b0 _ (w0.below hBb) (by omega)).mono ?_
        rintro e wd ⟨gx, rfl, hOx, hBx⟩
        have hBd := hBb.trans (hBx.mono hBb.size)
        go_wp2_with fail
        refine (impl_getKey _ _ _ _ b0 a1 _ hOx.sl).mono ?_
        rintro e we ⟨he, hBg⟩
        rw [HR.out] at he
        subst he
        have hBe := hBd.trans (hBg.mono hBd.size)
        have hOx' := hOx.below hBg
        clear hO1 hOx hB0 hB1 hBx hBg
        go_wp2_with fail
        refine (toPairS a0 len0 cap0 b0 _ (w0.below hBe) (by omega)).mono ?_
        rintro e wf ⟨gy, rfl, hOy, hBy⟩
        have hBf := hBe.trans (hBy.mono hBe.size)
        go_wp2_with fail
        refine (eqP _ _ _ _ _ _ _ _ _ (hOx'.below hBy).sl hOy.sl rfl).mono ?_
        rintro e wg ⟨rfl, hBz⟩
        go_wp2_with fail
        go_ret
        exact ⟨rfl, hBf.trans (hBz.mono hBf.size)⟩

theorem own : ownKnob Try.prog.godebug = none := by kernel_rfl
theorem laidOut : laidOutB Try.prog = true := by kernel_rfl

set_option maxRecDepth 100000 in
theorem lifted (os : Os) (started : os.Started) (H : Type) (enc : TypeId × Value → H) :
    ReturnsInHanded {} Try.checked os 10 .any (Rows.fnExactGetKeySpec.pre6 enc Try.prog Try.f10 Rows.fnExactGetKeyRow.domain false) (Rows.fnExactGetKeySpec.post enc Try.prog Try.f10 false true false false) := by
  refine returnsInHanded_of_change (C := Try.checked) own started (by kernel_rfl) Try.func10
    (ChangeSpec.witness6 (enc := enc) (C := Try.checked) false ⟨#[], #[.slice none 0 0, .string ByteArray.empty], []⟩ 8 (by kernel_rfl) (by kernel_rfl) (by kernel_rfl) (by kernel_rfl)) ?_
  intro W base args ds gs before hval0 hW hcnd _
  have hval : ∀ (j : Nat) t v, Try.f10.params[j]? = some t → args[j]? = some v → Value.okWide Try.prog W .any base t v := hval0
  have hW' := hW
  obtain ⟨p, q, hA0, hV, rfl, hfz, hnd⟩ := hW
  have hA : DataW.TrodAll enc Try.prog W 0 (fun _ => true) true Try.f10.params.toList args.toList ds p := hA0
  rw [Try.params10] at hA hval
  obtain ⟨v0, vs0, d0, ds0, p0, q0, hargs, rfl, rfl, h0, r0⟩ := trodAll_cons hA
  obtain ⟨v1, vs1, d1, ds1, p1, q1, rfl, rfl, rfl, h1, r1⟩ := trodAll_cons r0
  obtain ⟨rfl, rfl, rfl⟩ := trodAll_nil r1
  obtain rfl : args = #[v0, v1] := by cases args; simp_all
  obtain ⟨rfl, rfl⟩ := trodVars_none hV
  obtain ⟨a0, len0, cap0, rfl⟩ := okWide_slice Try.underlying45 (hval 0 45 v0 rfl rfl)
  have k0 := h0
  have lt0 : ∀ x ∈ p0, x.block < W.heap.size := by obtain ⟨m, hm⟩ := k0; exact DataW.trod_lt m _ _ _ hm
  obtain ⟨b0, w0⟩ : ∃ l, SlP W a0 len0 l := by obtain ⟨fuel, hf⟩ := h0; exact slp_arg 45 41 _ _ Try.underlying45 Try.underlying41 (by kernel_rfl) rfl rfl rfl rfl (by kernel_rfl) hf
  obtain ⟨a1, rfl, rfl, rfl, w1⟩ := open_string Try.underlying9 (hval 1 9 v1 rfl rfl) h1
  clear hA0 hval0
  refine (walk a0 len0 cap0 b0 a1 W w0 w1).mono fun e W' ⟨he, bel⟩ => ?_
  subst he
  exact ⟨_, rfl, _, _, _, [], _, [], hW', trodAll_mk1 (shut_bool Try.underlying4 _), (trodAll_cons_mk (Below.trod laidOut (by kernel_rfl) (of_decide_eq_true (by kernel_rfl)) k0 bel lt0) (trodAll_cons_mk (shut_string Try.underlying9 w1) trodAll_mk0)), rfl, bel.frame _, fun h => by cases h⟩

theorem over : Rows.fnExactGetKeyRow.holds Try.pinned (OpenSpec.ofChange Rows.fnExactGetKeySpec) :=
  OpenClaim.holds_of_wide 10 Try.f10 rfl rfl rfl rfl rfl rfl rfl ⟨rfl, rfl, rfl, rfl, rfl⟩ rfl rfl rfl rfl rfl (by kernel_rfl) Try.func10 (by kernel_rfl)
    (of_decide_eq_true (by kernel_rfl)) (by unfold Func.isWrapper; first | (rw [if_pos (by decide +kernel)]; kernel_rfl) | (rw [if_neg (by decide +kernel)]; exact ⟨rfl, rfl⟩))
    (fun os started H enc _ => lifted os started H enc)

theorem proved : Rows.FnExactGetKeySaid := over
end Go.Proofs.Ytblgkcgmnmligaa.fnExactGetKey
