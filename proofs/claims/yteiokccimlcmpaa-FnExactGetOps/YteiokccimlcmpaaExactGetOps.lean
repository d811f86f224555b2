/- The statement FnExactGetOpsSaid: at every slice of bytes FnExactGetOps answers true, and the slice reads afterwards as before. No condition besides the row's own. -/
import Derived.Test.YteiokccimlcmpaaRows
import Derived.Test.YteiokccimlcmpaaOrdTrio
import Derived.Test.YteiokccimlcmpaaOrdM
import Derived.Test.YteiokccimlcmpaaHelpN
import Derived.Test.YteiokccimlcmpaaOrdArg
import Derived.ProofKit
import Derived.OpenShut
import Derived.ShutString
import Derived.ChangeOld
import Derived.Below
namespace Go.Proofs.Yteiokccimlcmpaa.fnExactGetOps
open Go.ChangeShapes Go.WideShapes Go.ChangeAt Go.RowKit
open Go.ChangeMaps (open_string shut_string)
set_option linter.unusedVariables false
open Go.Proofs.Yteiokccimlcmpaa.base Go.Proofs.Yteiokccimlcmpaa.pairs Go.Proofs.Yteiokccimlcmpaa.ords Go.Proofs.Yteiokccimlcmpaa.help

set_option maxRecDepth 100000 in
set_option maxHeartbeats 2000000 in
theorem walk (a0 : Option Addr) (len0 cap0 : Nat) (b0 : List UInt8) (w : World) (w0 : Sl w a0 len0 b0) :
    Calls Try.prog 14 #[.slice a0 len0 cap0] w fun e w' => e = .returned (.bool true) ∧ Below w.heap.size w w' := by
  have hl0 := w0.1
  have hm0 := w0.2.1
  unfold maxLen at hm0
  by_cases hbig : 1048576 < len0
  · go_enter Try.func14, Try.ntmps14
    go_wp2_with fail
    go_ret
    exact ⟨rfl, Below.refl _ _⟩
  · obtain ⟨L, hL, hll⟩ : ∃ L, (getOps b0).getD [] = L ∧ L.length ≤ 8 := by
      cases hg : getOps b0 with
      | none => exact ⟨[], rfl, by simp⟩
      | some l => exact ⟨l, rfl, ((opsOk_iff l).1 (getOps_some hg).1).2.2⟩
    have HK := Hid.mk' hL
    clear hL
    cases hs : (getOps b0).isSome
    all_goals
      have HK2 := Hid.mk' hs
      clear hs
      go_enter Try.func14, Try.ntmps14
      go_wp2_with fail
      refine (toByteS a0 len0 cap0 b0 _ w0 (by omega)).mono ?_
      rintro e wa ⟨g1, rfl, hO1, hB1⟩
      go_wp2_with fail
      refine (spec_getOps _ _ _ b0 _ hO1.sl (Nat.le_refl _) (by omega)).mono ?_
      rintro e wb ⟨gw, lw, cw, rfl, hOw, hBw⟩
      rw [HK.out] at hOw
      have hBw' := hB1.trans (hBw.mono hB1.size)
      go_wp2_with fail
      refine (toByteS a0 len0 cap0 b0 _ (w0.below hBw') (by omega)).mono ?_
      rintro e wc ⟨gx, rfl, hOx, hBx⟩
      go_wp2_with fail
      refine (impl_getOps _ _ _ b0 _ hOx.sl (Nat.le_refl _) (by omega)).mono ?_
      rintro e wd ⟨gg, lg, cg, rfl, hOg, hBg⟩
      rw [HK.out] at hOg
      have hBx' := hBw'.trans (hBx.mono hBw'.size)
      have T1 : TrioG w wd gx len0 len0 b0 gg lg cg L gw lw cw L :=
        ⟨hBx'.trans (hBg.mono hBx'.size), (hOx.mono hBw'.size).below hBg, hOg.mono hBx'.size, ((hOw.mono hB1.size).below hBx).below hBg,
          by have := hOx.lt; have := hOg.lt; omega, by have := hOx.lt; have := hOw.lt; omega, by have := hOg.lt; have := hOw.lt; have := hBx.size; omega⟩
      have hlg : lg ≤ 8 := by have := T1.g.1; omega
      rw [HK2.out]
      clear hB1 hO1 hOw hBw hBw' hOx hBx hBx' hOg hBg
      go_wp2_with fail
      refine (eqO _ _ _ _ _ _ _ _ _ T1.g.sl T1.s.sl rfl).mono ?_
      rintro e w2 ⟨rfl, hB⟩
      have T2 := T1.below hB
      clear T1 hB
      go_wp2_with fail
      refine (toByteS a0 len0 cap0 b0 _ (w0.below T2.bel) (by omega)).mono ?_
      rintro e w3 ⟨gy, rfl, hOy, hBy⟩
      have T3 := T2.below hBy
      clear T2 hBy
      go_wp2_with fail
      refine (eqB _ _ _ _ _ _ _ _ _ T3.x.sl hOy.sl rfl).mono ?_
      rintro e w4 ⟨rfl, hB⟩
      have T4 := T3.below hB
      clear T3 hB hOy
      go_wp2_with fail
      refine (mark1 _ _ _ _ _ _ T4.x (by omega)).mono ?_
      rintro e w5 ⟨rfl, hx5, hg5⟩
      have T5 := T4.markX hx5 hg5
      clear T4 hx5 hg5
      go_wp2_with fail
      refine (eqO _ _ _ _ _ _ _ _ _ T5.g.sl T5.s.sl rfl).mono ?_
      rintro e w6 ⟨rfl, hB⟩
      have T6 := T5.below hB
      clear T5 hB
      go_wp2_with fail
      refine (markO _ _ _ _ 1 _ _ T6.g (by omega) (by omega) (by omega) _ (by show _ = _; rfl)).mono ?_
      rintro e w7 ⟨rfl, hx7, hg7⟩
      have T7 := T6.markG hx7 hg7
      clear T6 hx7 hg7
      go_wp2_with fail
      refine (heldO _ _ _ _ T7.g.sl (by omega)).mono ?_
      rintro e w8 ⟨rfl, hB⟩
      have T8 := T7.below hB
      clear T7 hB
      go_wp2_with fail
      refine (toByteS a0 len0 cap0 b0 _ (w0.below T8.bel) (by omega)).mono ?_
      rintro e w9 ⟨gz, rfl, hOz, hBz⟩
      have T9 := T8.below hBz
      clear T8 hBz
      go_wp2_with fail
      refine (impl_getOps _ _ _ b0 _ hOz.sl (Nat.le_refl _) (by omega)).mono ?_
      rintro e w10 ⟨gh, lh, ch, rfl, hOh, hBh⟩
      rw [HK.out] at hOh
      rw [HK2.out]
      have T10 := T9.below hBh
      clear T9 hBh hOz
      go_wp2_with fail
      refine (eqO _ _ _ _ _ _ _ _ _ hOh.sl T10.s.sl rfl).mono ?_
      rintro e w11 ⟨rfl, hB⟩
      have T11 := T10.below hB
      clear T10 hB hOh
      go_wp2_with fail
      refine (heldO _ _ _ _ T11.g.sl (by omega)).mono ?_
      rintro e w12 ⟨rfl, hB⟩
      have T12 := T11.below hB
      clear T11 hB
      go_wp2_with fail
      go_ret
      exact ⟨rfl, T12.bel⟩

theorem own : ownKnob Try.prog.godebug = none := by kernel_rfl
theorem laidOut : laidOutB Try.prog = true := by kernel_rfl

set_option maxRecDepth 100000 in
theorem lifted (os : Os) (started : os.Started) (H : Type) (enc : TypeId × Value → H) :
    ReturnsInHanded {} Try.checked os 14 .any (Rows.fnExactGetOpsSpec.pre6 enc Try.prog Try.f14 Rows.fnExactGetOpsRow.domain false) (Rows.fnExactGetOpsSpec.post enc Try.prog Try.f14 false true false false) := by
  refine returnsInHanded_of_change (C := Try.checked) own started (by kernel_rfl) Try.func14
    (ChangeSpec.witness6 (enc := enc) (C := Try.checked) false ⟨#[], #[.slice none 0 0], []⟩ 8 (by kernel_rfl) (by kernel_rfl) (by kernel_rfl) (by kernel_rfl)) ?_
  intro W base args ds gs before hval0 hW hcnd _
  have hval : ∀ (j : Nat) t v, Try.f14.params[j]? = some t → args[j]? = some v → Value.okWide Try.prog W .any base t v := hval0
  have hW' := hW
  obtain ⟨p, q, hA0, hV, rfl, hfz, hnd⟩ := hW
  have hA : DataW.TrodAll enc Try.prog W 0 (fun _ => true) true Try.f14.params.toList args.toList ds p := hA0
  rw [Try.params14] at hA hval
  obtain ⟨v0, vs0, d0, ds0, p0, q0, hargs, rfl, rfl, h0, r0⟩ := trodAll_cons hA
  obtain ⟨rfl, rfl, rfl⟩ := trodAll_nil r0
  obtain rfl : args = #[v0] := by cases args; simp_all
  obtain ⟨rfl, rfl⟩ := trodVars_none hV
  obtain ⟨a0, len0, cap0, rfl⟩ := okWide_slice Try.underlying22 (hval 0 22 v0 rfl rfl)
  have k0 := h0
  have lt0 : ∀ x ∈ p0, x.block < W.heap.size := by obtain ⟨m, hm⟩ := k0; exact DataW.trod_lt m _ _ _ hm
  obtain ⟨b0, w0⟩ : ∃ bs, Sl W a0 len0 bs := by
    obtain ⟨fuel, hf⟩ := h0
    rcases open_ints Try.underlying22 Try.underlying5 (by kernel_rfl) hf with ⟨hcs, _⟩ | ⟨x, l, c, zs, hcs, _, hl, hm, hz, _, hcell, hwz⟩
    · simp [Value.cells] at hcs
      obtain ⟨rfl, rfl, rfl⟩ := hcs
      exact ⟨[], sl_nil _ _⟩
    · simp [Value.cells] at hcs
      obtain ⟨rfl, rfl, rfl⟩ := hcs
      exact ⟨_, sl_of_ints hl hm (by simpa using hz) hcell hwz⟩
  clear hA0 hval0
  refine (walk a0 len0 cap0 b0 W w0).mono fun e W' ⟨he, bel⟩ => ?_
  subst he
  exact ⟨_, rfl, _, _, _, [], _, [], hW', trodAll_mk1 (shut_bool Try.underlying4 _), (trodAll_cons_mk (Below.trod laidOut (by kernel_rfl) (of_decide_eq_true (by kernel_rfl)) k0 bel lt0) trodAll_mk0), rfl, bel.frame _, fun h => by cases h⟩

theorem over : Rows.fnExactGetOpsRow.holds Try.pinned (OpenSpec.ofChange Rows.fnExactGetOpsSpec) :=
  OpenClaim.holds_of_wide 14 Try.f14 rfl rfl rfl rfl rfl rfl rfl ⟨rfl, rfl, rfl, rfl, rfl⟩ rfl rfl rfl rfl rfl (by kernel_rfl) Try.func14 (by kernel_rfl)
    (of_decide_eq_true (by kernel_rfl)) (by unfold Func.isWrapper; first | (rw [if_pos (by decide +kernel)]; kernel_rfl) | (rw [if_neg (by decide +kernel)]; exact ⟨rfl, rfl⟩))
    (fun os started H enc _ => lifted os started H enc)

theorem proved : Rows.FnExactGetOpsSaid := over
end Go.Proofs.Yteiokccimlcmpaa.fnExactGetOps
