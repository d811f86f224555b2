/- The statement FnExactShardsOfSaid: at every slice of orders and every number FnExactShardsOf answers true, and the arguments read afterwards as before. No condition besides the row's own. -/
import Derived.Test.YteiokccimlcmpaaRows
import Derived.Test.YteiokccimlcmpaaOrdTrio
import Derived.Test.YteiokccimlcmpaaOrdL
import Derived.Test.YteiokccimlcmpaaOrdW
import Derived.Test.YteiokccimlcmpaaHelpN
import Derived.Test.YteiokccimlcmpaaOrdArg
import Derived.ProofKit
import Derived.OpenShut
import Derived.ShutString
import Derived.ChangeOld
import Derived.Below
namespace Go.Proofs.Yteiokccimlcmpaa.fnExactShardsOf
open Go.ChangeShapes Go.WideShapes Go.ChangeAt Go.RowKit
open Go.ChangeMaps (open_string shut_string)
set_option linter.unusedVariables false
open Go.Proofs.Yteiokccimlcmpaa.base Go.Proofs.Yteiokccimlcmpaa.pairs Go.Proofs.Yteiokccimlcmpaa.ords Go.Proofs.Yteiokccimlcmpaa.help

set_option maxRecDepth 100000 in
set_option maxHeartbeats 2000000 in
theorem walk (a0 : Option Addr) (len0 cap0 : Nat) (b0 : List Od) (a1 : Int) (w : World) (w0 : SlO w a0 len0 b0) (s1 : (Lit.int .i64 a1).wf = true) :
    Calls Try.prog 12 #[.slice a0 len0 cap0, .int .i64 a1] w fun e w' => e = .returned (.bool true) ∧ Below w.heap.size w w' := by
  have hl0 := w0.1
  have hsz := szOpS a0 len0 cap0 b0 1048576 w w0 (by omega)
  by_cases hover : 1048576 < b0.length + sumO b0
  · rw [szR_neg hover] at hsz
    have HZ := Hid.mk' hsz
    clear hsz
    go_enter Try.func12, Try.ntmps12
    go_wp2_with fail
    refine HZ.out.mono ?_
    rintro e wa ⟨rfl, hB⟩
    go_wp2_with fail
    go_ret
    exact ⟨rfl, hB⟩
  · rw [szR_pos (by omega)] at hsz
    obtain ⟨r, hr⟩ : ∃ r : Nat, ((1048576 : Nat) : Int) - ((b0.length + sumO b0 : Nat) : Int) = (r : Int) := ⟨1048576 - (b0.length + sumO b0), by omega⟩
    rw [hr] at hsz
    have HZ := Hid.mk' hsz
    clear hsz hr
    have hks : ∀ p ∈ b0, p.2.1.size ≤ 1099511627776 := fun p hp => by have := osz_le b0 p hp; unfold osz at this; omega
    have hml : (shardsOf a1 b0).length ≤ 1048577 := by have := shards_length a1 b0; omega
    go_enter Try.func12, Try.ntmps12
    go_wp2_with fail
    refine HZ.out.mono ?_
    rintro e w9 ⟨rfl, hB0⟩
    go_wp2_with fail
    refine (toOpS a0 len0 cap0 b0 _ (w0.below hB0) (by omega)).mono ?_
    rintro e wa ⟨g1, rfl, hO1, hB1'⟩
    have hB1 := hB0.trans (hB1'.mono hB0.size)
    go_wp2_with fail
    refine (spec_shardsOf _ _ _ b0 a1 _ hO1.sl (by omega) s1).mono ?_
    rintro e wb ⟨gw, lw, cw, rfl, hOw, hBw⟩
    have hBw' := hB1.trans (hBw.mono hB1.size)
    go_wp2_with fail
    refine (toOpS a0 len0 cap0 b0 _ (w0.below hBw') (by omega)).mono ?_
    rintro e wc ⟨gx, rfl, hOx, hBx⟩
    go_wp2_with fail
    refine (impl_shardsOf _ _ _ _ b0 a1 _ hOx.sl hks (by omega) s1).mono ?_
    rintro e wd ⟨gg, lg, cg, rfl, hOg, hBg⟩
    have hBx' := hBw'.trans (hBx.mono hBw'.size)
    have T1 : TrioZ w wd gx len0 len0 b0 gg lg cg (shardsOf a1 b0) gw lw cw (shardsOf a1 b0) :=
      ⟨hBx'.trans (hBg.mono hBx'.size), (hOx.mono hBw'.size).below hBg, hOg.mono hBx'.size, ((hOw.mono hB1.size).below hBx).below hBg,
        by have := hOx.lt; have := hOg.lt; omega, by have := hOx.lt; have := hOw.lt; omega, by have := hOg.lt; have := hOw.lt; have := hBx.size; omega⟩
    have hlg : lg ≤ 1048577 := by have := T1.g.1; omega
    clear hB0 hB1' hO1 hB1 hOw hBw hBw' hOx hBx hBx' hOg hBg
    go_wp2_with fail
    refine (eqZ _ _ _ _ _ _ _ _ _ T1.g.sl T1.s.sl rfl).mono ?_
    rintro e w2 ⟨rfl, hB⟩
    have T2 := T1.below hB
    clear T1 hB
    go_wp2_with fail
    refine (toOpS a0 len0 cap0 b0 _ (w0.below T2.bel) (by omega)).mono ?_
    rintro e w3 ⟨gy, rfl, hOy, hBy⟩
    have T3 := T2.below hBy
    clear T2 hBy
    go_wp2_with fail
    refine (eqO _ _ _ _ _ _ _ _ _ T3.x.sl hOy.sl rfl).mono ?_
    rintro e w4 ⟨rfl, hB⟩
    have T4 := T3.below hB
    clear T3 hB hOy
    go_wp2_with fail
    refine (markO _ _ _ _ 1 _ _ T4.x (by omega) (by omega) (by omega) _ (by show _ = _; rfl)).mono ?_
    rintro e w5 ⟨rfl, hx5, hg5⟩
    have T5 := T4.markX hx5 hg5
    clear T4 hx5 hg5
    go_wp2_with fail
    refine (eqZ _ _ _ _ _ _ _ _ _ T5.g.sl T5.s.sl rfl).mono ?_
    rintro e w6 ⟨rfl, hB⟩
    have T6 := T5.below hB
    clear T5 hB
    go_wp2_with fail
    refine (markZ _ _ _ _ 1 _ _ T6.g (by omega) (by omega) _ (by show _ = _; rfl)).mono ?_
    rintro e w7 ⟨rfl, hx7, hg7⟩
    have T7 := T6.markG hx7 hg7
    clear T6 hx7 hg7
    go_wp2_with fail
    refine (heldZ _ _ _ _ T7.g.sl (by omega)).mono ?_
    rintro e w8 ⟨rfl, hB⟩
    have T8 := T7.below (by first | exact hB | (rw [hB]; exact Below.refl _ _))
    clear T7 hB
    go_wp2_with fail
    refine (toOpS a0 len0 cap0 b0 _ (w0.below T8.bel) (by omega)).mono ?_
    rintro e w9 ⟨gz, rfl, hOz, hBz⟩
    have T9 := T8.below hBz
    clear T8 hBz
    go_wp2_with fail
    refine (impl_shardsOf _ _ _ _ b0 a1 _ hOz.sl hks (by omega) s1).mono ?_
    rintro e w10 ⟨gh, lh, ch, rfl, hOh, hBh⟩
    have T10 := T9.below hBh
    clear T9 hBh hOz
    go_wp2_with fail
    refine (eqZ _ _ _ _ _ _ _ _ _ hOh.sl T10.s.sl rfl).mono ?_
    rintro e w11 ⟨rfl, hB⟩
    have T11 := T10.below hB
    clear T10 hB hOh
    go_wp2_with fail
    refine (heldZ _ _ _ _ T11.g.sl (by omega)).mono ?_
    rintro e w12 ⟨rfl, hB⟩
    have T12 := T11.below (by first | exact hB | (rw [hB]; exact Below.refl _ _))
    clear T11 hB
    go_wp2_with fail
    go_ret
    exact ⟨rfl, T12.bel⟩

theorem own : ownKnob Try.prog.godebug = none := by kernel_rfl
theorem laidOut : laidOutB Try.prog = true := by kernel_rfl

set_option maxRecDepth 100000 in
theorem lifted (os : Os) (started : os.Started) (H : Type) (enc : TypeId × Value → H) :
    ReturnsInHanded {} Try.checked os 12 .any (Rows.fnExactShardsOfSpec.pre6 enc Try.prog Try.f12 Rows.fnExactShardsOfRow.domain false) (Rows.fnExactShardsOfSpec.post enc Try.prog Try.f12 false true false false) := by
  refine returnsInHanded_of_change (C := Try.checked) own started (by kernel_rfl) Try.func12
    (ChangeSpec.witness6 (enc := enc) (C := Try.checked) false ⟨#[], #[.slice none 0 0, .int .i64 0], []⟩ 8 (by kernel_rfl) (by kernel_rfl) (by kernel_rfl) (by kernel_rfl)) ?_
  intro W base args ds gs before hval0 hW hcnd _
  have hval : ∀ (j : Nat) t v, Try.f12.params[j]? = some t → args[j]? = some v → Value.okWide Try.prog W .any base t v := hval0
  have hW' := hW
  obtain ⟨p, q, hA0, hV, rfl, hfz, hnd⟩ := hW
  have hA : DataW.TrodAll enc Try.prog W 0 (fun _ => true) true Try.f12.params.toList args.toList ds p := hA0
  rw [Try.params12] at hA hval
  obtain ⟨v0, vs0, d0, ds0, p0, q0, hargs, rfl, rfl, h0, r0⟩ := trodAll_cons hA
  obtain ⟨v1, vs1, d1, ds1, p1, q1, rfl, rfl, rfl, h1, r1⟩ := trodAll_cons r0
  obtain ⟨rfl, rfl, rfl⟩ := trodAll_nil r1
  obtain rfl : args = #[v0, v1] := by cases args; simp_all
  obtain ⟨rfl, rfl⟩ := trodVars_none hV
  obtain ⟨a0, len0, cap0, rfl⟩ := okWide_slice Try.underlying52 (hval 0 52 v0 rfl rfl)
  have k0 := h0
  have lt0 : ∀ x ∈ p0, x.block < W.heap.size := by obtain ⟨m, hm⟩ := k0; exact DataW.trod_lt m _ _ _ hm
  obtain ⟨b0, w0⟩ : ∃ l, ords.SlO W a0 len0 l := by obtain ⟨fuel, hf⟩ := h0; exact ords.slo_arg 52 102 _ _ _ Try.underlying52 Try.underlying102 (by kernel_rfl) rfl rfl rfl rfl rfl rfl (by kernel_rfl) (by kernel_rfl) hf
  obtain ⟨a1, rfl, rfl, rfl, w1⟩ := open_int Try.underlying3 (hval 1 3 v1 rfl rfl) h1
  clear hA0 hval0
  refine (walk a0 len0 cap0 b0 a1 W w0 w1).mono fun e W' ⟨he, bel⟩ => ?_
  subst he
  exact ⟨_, rfl, _, _, _, [], _, [], hW', trodAll_mk1 (shut_bool Try.underlying4 _), (trodAll_cons_mk (Below.trod laidOut (by kernel_rfl) (of_decide_eq_true (by kernel_rfl)) k0 bel lt0) (trodAll_cons_mk (shut_int Try.underlying3 w1) trodAll_mk0)), rfl, bel.frame _, fun h => by cases h⟩

theorem over : Rows.fnExactShardsOfRow.holds Try.pinned (OpenSpec.ofChange Rows.fnExactShardsOfSpec) :=
  OpenClaim.holds_of_wide 12 Try.f12 rfl rfl rfl rfl rfl rfl rfl ⟨rfl, rfl, rfl, rfl, rfl⟩ rfl rfl rfl rfl rfl (by kernel_rfl) Try.func12 (by kernel_rfl)
    (of_decide_eq_true (by kernel_rfl)) (by unfold Func.isWrapper; first | (rw [if_pos (by decide +kernel)]; kernel_rfl) | (rw [if_neg (by decide +kernel)]; exact ⟨rfl, rfl⟩))
    (fun os started H enc _ => lifted os started H enc)

theorem proved : Rows.FnExactShardsOfSaid := over
end Go.Proofs.Yteiokccimlcmpaa.fnExactShardsOf
