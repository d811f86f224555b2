/- The statement FnExactGetTextSaid: at every slice of bytes and every number FnExactGetText answers true, and the arguments read afterwards as before. No condition besides the row's own. -/
import Derived.Test.YtdiiabfkckbajaaRows
import Derived.Test.YtdiiabfkckbajaaBase
import Derived.Test.YtdiiabfkckbajaaHelp
import Derived.Test.YtdiiabfkckbajaaGetNum
import Derived.Test.YtdiiabfkckbajaaGetNumS
import Derived.Test.YtdiiabfkckbajaaGetText
import Derived.ProofKit
import Derived.OpenShut
import Derived.ShutString
import Derived.ChangeOld
import Derived.Below
namespace Go.Proofs.Ytdiiabfkckbajaa.fnExactGetText
open Go.ChangeShapes Go.WideShapes Go.ChangeAt Go.RowKit
open Go.ChangeMaps (open_string shut_string)
set_option linter.unusedVariables false
open Go.Proofs.Ytdiiabfkckbajaa.base Go.Proofs.Ytdiiabfkckbajaa.help Go.Proofs.Ytdiiabfkckbajaa.getnum Go.Proofs.Ytdiiabfkckbajaa.gettext

set_option maxHeartbeats 400000 in
theorem walk (a0 : Option Addr) (len0 cap0 : Nat) (b0 : List UInt8) (a1 : Int) (w : World) (w0 : Sl w a0 len0 b0) (w1 : (Lit.int .i64 a1).wf = true) :
    Calls Try.prog 8 #[.slice a0 len0 cap0, .int .i64 a1] w fun e w' => e = .returned (.bool true) ∧ Below w.heap.size w w' := by
  have hm := w0.2.1
  unfold maxLen at hm
  by_cases hbig : 1048576 < len0
  · go_enter Try.func8, Try.ntmps8
    go_wp2_with fail
    go_ret
    exact ⟨rfl, Below.refl _ _⟩
  · rcases hG : getText b0 a1 with _ | ⟨n, k⟩
    · have HG := Hid.mk' hG
      clear hG
      go_enter Try.func8, Try.ntmps8
      go_wp2_with fail
      refine (toByteS a0 len0 cap0 b0 _ w0 (by omega)).mono ?_
      rintro e wa ⟨g1, rfl, hO1, hB1⟩
      go_wp2_with fail
      refine (spec_text _ _ _ a1 b0 _ hO1.sl (Nat.le_refl _) w1).mono ?_
      rintro e w2 ⟨he, rfl⟩
      rw [HG.out, textRet] at he
      subst he
      go_wp2_with fail
      refine (toByteS a0 len0 cap0 b0 _ (w0.below hB1) (by omega)).mono ?_
      rintro e wb ⟨g2, rfl, hO2, hB2⟩
      go_wp2_with fail
      refine (impl_text _ _ _ a1 b0 _ hO2.sl (Nat.le_refl _) w1).mono ?_
      rintro e w3 ⟨he, rfl⟩
      rw [HG.out, textRet] at he
      subst he
      go_wp2_with fail
      refine (toByteS a0 len0 cap0 b0 _ ((w0.below hB1).below hB2) (by omega)).mono ?_
      rintro e wc ⟨g3, rfl, hO3, hB3⟩
      go_wp2_with fail
      refine (eqByteS _ _ _ _ _ _ b0 b0 _ (hO2.below hB3).sl hO3.sl).mono ?_
      rintro e wd ⟨he, nd, rfl⟩
      rw [decide_eq_true rfl] at he
      subst he
      go_wp2_with fail
      go_ret
      exact ⟨rfl, below_drewN ((hB1.trans (hB2.mono hB1.size)).trans (hB3.mono (Nat.le_trans hB1.size hB2.size))) _⟩
    · have HG := Hid.mk' hG
      clear hG
      go_enter Try.func8, Try.ntmps8
      go_wp2_with fail
      refine (toByteS a0 len0 cap0 b0 _ w0 (by omega)).mono ?_
      rintro e wa ⟨g1, rfl, hO1, hB1⟩
      go_wp2_with fail
      refine (spec_text _ _ _ a1 b0 _ hO1.sl (Nat.le_refl _) w1).mono ?_
      rintro e w2 ⟨he, rfl⟩
      rw [HG.out, textRet] at he
      subst he
      go_wp2_with fail
      refine (toByteS a0 len0 cap0 b0 _ (w0.below hB1) (by omega)).mono ?_
      rintro e wb ⟨g2, rfl, hO2, hB2⟩
      go_wp2_with fail
      refine (impl_text _ _ _ a1 b0 _ hO2.sl (Nat.le_refl _) w1).mono ?_
      rintro e w3 ⟨he, rfl⟩
      rw [HG.out, textRet] at he
      subst he
      go_wp2_with fail
      refine (toByteS a0 len0 cap0 b0 _ ((w0.below hB1).below hB2) (by omega)).mono ?_
      rintro e wc ⟨g3, rfl, hO3, hB3⟩
      go_wp2_with fail
      refine (eqByteS _ _ _ _ _ _ b0 b0 _ (hO2.below hB3).sl hO3.sl).mono ?_
      rintro e wd ⟨he, nd, rfl⟩
      rw [decide_eq_true rfl] at he
      subst he
      go_wp2_with fail
      go_ret
      exact ⟨rfl, below_drewN ((hB1.trans (hB2.mono hB1.size)).trans (hB3.mono (Nat.le_trans hB1.size hB2.size))) _⟩

theorem own : ownKnob Try.prog.godebug = none := by kernel_rfl
theorem laidOut : laidOutB Try.prog = true := by kernel_rfl

set_option maxRecDepth 100000 in
theorem lifted (os : Os) (started : os.Started) (H : Type) (enc : TypeId × Value → H) :
    ReturnsInHanded {} Try.checked os 8 .any (Rows.fnExactGetTextSpec.pre6 enc Try.prog Try.f8 Rows.fnExactGetTextRow.domain false) (Rows.fnExactGetTextSpec.post enc Try.prog Try.f8 false true false false) := by
  refine returnsInHanded_of_change (C := Try.checked) own started (by kernel_rfl) Try.func8
    (ChangeSpec.witness6 (enc := enc) (C := Try.checked) false ⟨#[], #[.slice none 0 0, .int .i64 0], []⟩ 8 (by kernel_rfl) (by kernel_rfl) (by kernel_rfl) (by kernel_rfl)) ?_
  intro W base args ds gs before hval0 hW hcnd _
  have hval : ∀ (j : Nat) t v, Try.f8.params[j]? = some t → args[j]? = some v → Value.okWide Try.prog W .any base t v := hval0
  have hW' := hW
  obtain ⟨p, q, hA0, hV, rfl, hfz, hnd⟩ := hW
  have hA : DataW.TrodAll enc Try.prog W 0 (fun _ => true) true Try.f8.params.toList args.toList ds p := hA0
  rw [Try.params8] at hA hval
  obtain ⟨v0, vs0, d0, ds0, p0, q0, hargs, rfl, rfl, h0, r0⟩ := trodAll_cons hA
  obtain ⟨v1, vs1, d1, ds1, p1, q1, rfl, rfl, rfl, h1, r1⟩ := trodAll_cons r0
  obtain ⟨rfl, rfl, rfl⟩ := trodAll_nil r1
  obtain rfl : args = #[v0, v1] := by cases args; simp_all
  obtain ⟨rfl, rfl⟩ := trodVars_none hV
  obtain ⟨a0, len0, cap0, rfl⟩ := okWide_slice Try.underlying22 (hval 0 22 v0 rfl rfl)
  have k0 := h0
  have lt0 : ∀ x ∈ p0, x.block < W.heap.size := by obtain ⟨m, hm⟩ := k0; exact DataW.trod_lt m _ _ _ hm
  obtain ⟨b0, w0⟩ : ∃ bs, Sl W a0 len0 bs := by
    obtain ⟨fuel, hf⟩ := h0
    rcases open_ints Try.underlying22 Try.underlying5 (by kernel_rfl) hf with ⟨hcs, _⟩ | ⟨x, l, c, zs, hcs, _, hl, hm, hz, _, hcell, hwz⟩
    · simp [Value.cells] at hcs
      obtain ⟨rfl, rfl, rfl⟩ := hcs
      exact ⟨[], sl_nil _ _⟩
    · simp [Value.cells] at hcs
      obtain ⟨rfl, rfl, rfl⟩ := hcs
      exact ⟨_, sl_of_ints hl hm (by simpa using hz) hcell hwz⟩
  obtain ⟨a1, rfl, rfl, rfl, w1⟩ := open_int Try.underlying3 (hval 1 3 v1 rfl rfl) h1
  clear hA0 hval0
  refine (walk a0 len0 cap0 b0 a1 W w0 w1).mono fun e W' ⟨he, bel⟩ => ?_
  subst he
  exact ⟨_, rfl, _, _, _, [], _, [], hW', trodAll_mk1 (shut_bool Try.underlying4 _), (trodAll_cons_mk (Below.trod laidOut (by kernel_rfl) (of_decide_eq_true (by kernel_rfl)) k0 bel lt0) (trodAll_cons_mk (shut_int Try.underlying3 w1) trodAll_mk0)), rfl, bel.frame _, fun h => by cases h⟩

theorem over : Rows.fnExactGetTextRow.holds Try.pinned (OpenSpec.ofChange Rows.fnExactGetTextSpec) :=
  OpenClaim.holds_of_wide 8 Try.f8 rfl rfl rfl rfl rfl rfl rfl ⟨rfl, rfl, rfl, rfl, rfl⟩ rfl rfl rfl rfl rfl (by kernel_rfl) Try.func8 (by kernel_rfl)
    (of_decide_eq_true (by kernel_rfl)) (by unfold Func.isWrapper; first | (rw [if_pos (by decide +kernel)]; kernel_rfl) | (rw [if_neg (by decide +kernel)]; exact ⟨rfl, rfl⟩))
    (fun os started H enc _ => lifted os started H enc)

theorem proved : Rows.FnExactGetTextSaid := over
end Go.Proofs.Ytdiiabfkckbajaa.fnExactGetText
