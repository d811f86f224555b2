/- The statement FnExactPathOfCardSaid: at every slice of pairs and every number FnExactPathOf answers true, and the arguments read afterwards as before, where the table of the rounds' words is as the program's text lays it (the card ties it). No condition besides the row's own. -/
import Derived.Test.YtmdhkoiimffmlaaDoorRows
import Derived.Test.YtmdhkoiimffmlaaDoorCards
import Derived.Test.YtmdhkoiimffmlaaDoorTie
import Derived.Test.YtmdhkoiimffmlaaDoorTreeC
import Derived.Test.YtmdhkoiimffmlaaDoorTreeX
import Derived.Test.YtmdhkoiimffmlaaDoorTreeTrio
import Derived.Test.YtmdhkoiimffmlaaDoorDoor
import Derived.ProofKit
import Derived.OpenShut
import Derived.ShutString
import Derived.ChangeOld
import Derived.Below
namespace Go.Proofs.YtmdhkoiimffmlaaDoor.fnExactPathOf
open Go.ChangeShapes Go.WideShapes Go.ChangeAt Go.RowKit
open Go.ChangeMaps (open_string shut_string)
set_option linter.unusedVariables false
open Go.Proofs.YtmdhkoiimffmlaaDoor.base Go.Proofs.YtmdhkoiimffmlaaDoor.pairs Go.Proofs.YtmdhkoiimffmlaaDoor.tree

set_option maxRecDepth 100000 in
set_option maxHeartbeats 2000000 in
theorem walk (a0 : Option Addr) (len0 cap0 : Nat) (b0 : List Pr) (a1 : Int) (w : World) (w0 : SlP w a0 len0 b0) (s1 : (Lit.int .i64 a1).wf = true) (hK : sha.KW w) :
    Calls Tryd.prog 9 #[.slice a0 len0 cap0, .int .i64 a1] w fun e w' => e = .returned (.bool true) ∧ Below w.heap.size w w' := by
  have hl0 := w0.1
  have hsz := szPairS a0 len0 cap0 b0 1048576 w w0 (by omega)
  by_cases hover : 1048576 < b0.length + sumP b0
  · rw [szR_neg hover] at hsz
    have HZ := Hid.mk' hsz
    clear hsz
    go_enter Tryd.func9, Tryd.ntmps9
    go_wp2_with fail
    refine HZ.out.mono ?_
    rintro e wa ⟨rfl, hB⟩
    go_wp2_with fail
    go_ret
    exact ⟨rfl, hB⟩
  · rw [szR_pos (by omega)] at hsz
    obtain ⟨r, hr⟩ : ∃ r : Nat, ((1048576 : Nat) : Int) - ((b0.length + sumP b0 : Nat) : Int) = (r : Int) := ⟨1048576 - (b0.length + sumP b0), by omega⟩
    rw [hr] at hsz
    have HZ := Hid.mk' hsz
    clear hsz hr
    have hks : ∀ p ∈ b0, lim p := fun p hp => by have := psz_le b0 p hp; unfold psz at this; exact ⟨by omega, by omega⟩
    have HS := Hid.mk' s1
    have hml : (pathI b0 a1).length ≤ 60 := by
      unfold pathI; split
      · rename_i hh
        have := path_length b0 a1.toNat
        have := depth_le a1.toNat b0.length
        omega
      · simp
    clear s1
    go_enter Tryd.func9, Tryd.ntmps9
    go_wp2_with fail
    refine HZ.out.mono ?_
    rintro e w9 ⟨rfl, hB0⟩
    go_wp2_with fail
    refine (toPairS a0 len0 cap0 b0 _ (w0.below hB0) (by omega)).mono ?_
    rintro e wa ⟨g1, rfl, hO1, hB1'⟩
    have hB1 := hB0.trans (hB1'.mono hB0.size)
    go_wp2_with fail
    refine (spec_pathOf _ _ _ _ b0 a1 _ hO1.sl (Nat.le_refl _) hks).mono ?_
    rintro e wb ⟨gw, lw, cw, rfl, hOw, hBw⟩
    have hBw' := hB1.trans (hBw.mono hB1.size)
    go_wp2_with fail
    refine (toPairS a0 len0 cap0 b0 _ (w0.below hBw') (by omega)).mono ?_
    rintro e wc ⟨gx, rfl, hOx, hBx⟩
    have hBx' := hBw'.trans (hBx.mono hBw'.size)
    go_wp2_with fail
    refine (impl_pathOf _ _ _ _ b0 a1 _ hOx.sl (Nat.le_refl _) hks HS.out (hK.below hBx')).mono ?_
    rintro e wd ⟨gg, lg, cg, rfl, hOg, hBg⟩
    have T1 : TrioM w wd gx len0 len0 b0 gg lg cg (pathI b0 a1) gw lw cw (pathI b0 a1) :=
      ⟨hBx'.trans (hBg.mono hBx'.size), (hOx.mono hBw'.size).below hBg, hOg.mono hBx'.size, ((hOw.mono hB1.size).below hBx).below hBg,
        by have := hOx.lt; have := hOg.lt; omega, by have := hOx.lt; have := hOw.lt; omega, by have := hOg.lt; have := hOw.lt; have := hBx.size; omega⟩
    have hlg : lg ≤ 60 := by have := T1.g.1; omega
    clear hB0 hB1' hO1 hB1 hOw hBw hBw' hOx hBx hBx' hOg hBg
    go_wp2_with fail
    refine (eqT _ _ _ _ _ _ _ _ _ T1.g.sl T1.s.sl rfl).mono ?_
    rintro e w2 ⟨rfl, hB⟩
    have T2 := T1.below hB
    clear T1 hB
    go_wp2_with fail
    refine (toPairS a0 len0 cap0 b0 _ (w0.below T2.bel) (by omega)).mono ?_
    rintro e w3 ⟨gy, rfl, hOy, hBy⟩
    have T3 := T2.below hBy
    clear T2 hBy
    go_wp2_with fail
    refine (eqP _ _ _ _ _ _ _ _ _ T3.x.sl hOy.sl rfl).mono ?_
    rintro e w4 ⟨rfl, hB⟩
    have T4 := T3.below hB
    clear T3 hB hOy
    go_wp2_with fail
    refine (markP _ _ _ _ 1 _ _ T4.x (by omega) (by omega) (by omega) _ (by show _ = _; rfl)).mono ?_
    rintro e w5 ⟨rfl, hx5, hg5⟩
    have T5 := T4.markX hx5 hg5
    clear T4 hx5 hg5
    go_wp2_with fail
    refine (eqT _ _ _ _ _ _ _ _ _ T5.g.sl T5.s.sl rfl).mono ?_
    rintro e w6 ⟨rfl, hB⟩
    have T6 := T5.below hB
    clear T5 hB
    go_wp2_with fail
    refine (markT1 _ _ _ _ _ _ T6.g (by omega)).mono ?_
    rintro e w7 ⟨rfl, hx7, hg7⟩
    have T7 := T6.markG hx7 hg7
    clear T6 hx7 hg7
    go_wp2_with fail
    refine (heldT1 _ _ _ _ T7.g.sl (by omega)).mono ?_
    rintro e w8 ⟨rfl, hB⟩
    have T8 := T7.below hB
    clear T7 hB
    go_wp2_with fail
    refine (toPairS a0 len0 cap0 b0 _ (w0.below T8.bel) (by omega)).mono ?_
    rintro e w9 ⟨gz, rfl, hOz, hBz⟩
    have T9 := T8.below hBz
    clear T8 hBz
    go_wp2_with fail
    refine (impl_pathOf _ _ _ _ b0 a1 _ hOz.sl (Nat.le_refl _) hks HS.out (hK.below T9.bel)).mono ?_
    rintro e w10 ⟨gh, lh, ch, rfl, hOh, hBh⟩
    have T10 := T9.below hBh
    clear T9 hBh hOz
    go_wp2_with fail
    refine (eqT _ _ _ _ _ _ _ _ _ hOh.sl T10.s.sl rfl).mono ?_
    rintro e w11 ⟨rfl, hB⟩
    have T11 := T10.below hB
    clear T10 hB hOh
    go_wp2_with fail
    refine (heldT1 _ _ _ _ T11.g.sl (by omega)).mono ?_
    rintro e w12 ⟨rfl, hB⟩
    have T12 := T11.below hB
    clear T11 hB
    go_wp2_with fail
    go_ret
    exact ⟨rfl, T12.bel⟩

set_option maxRecDepth 100000 in
theorem lifted (os : Os) (started : os.Started) (H : Type) (enc : TypeId × Value → H) :
    ReturnsInHanded {} Tryd.checked os 9 .any (fun w args => (Rows.fnExactPathOfSpec.pre enc Tryd.prog Tryd.f9 [] false w args ∧ laidMetH Tryd.prog door.laidD w) ∧ sizedMet enc Tryd.prog Tryd.f9 (OpenSpec.ofChange Rows.fnExactPathOfSpec) false w args)
      (Rows.fnExactPathOfSpec.post enc Tryd.prog Tryd.f9 false true false false) := by
  refine returnsInHanded_of_change_and (C := Tryd.checked) (X := fun w _ => laidMetH Tryd.prog door.laidD w) (fun _ _ _ hh h => h.of_heap hh) door.own started (by kernel_rfl) Tryd.func9
    (ChangeSpec.witness_shaped (enc := enc) (C := Tryd.checked) (os := os) (X := fun w _ => laidMetH Tryd.prog door.laidD w) false (World.laidAll Tryd.prog os door.laidD) #[.slice none 0 0, .int .i64 0] 70 (World.laidAll_os _ _ _) (World.shaped_of_ZipB (by kernel_rfl) (by kernel_rfl)) (by kernel_rfl) (by kernel_rfl) (by kernel_rfl)
      (by rw [MakeChecks.laidMetH_plain _ _ _ (by kernel_rfl)]; exact laidMet_laidAll _ (by kernel_rfl) (by kernel_rfl))) ?_
  intro W base args ds gs before hval0 hW _ _ hL _
  have hval : ∀ (j : Nat) t v, Tryd.f9.params[j]? = some t → args[j]? = some v → Value.okWide Tryd.prog W .any base t v := hval0
  have hW' := hW
  obtain ⟨p, q, hA0, hV, rfl, hfz, hnd⟩ := hW
  have hA : DataW.TrodAll enc Tryd.prog W 0 (fun _ => true) true Tryd.f9.params.toList args.toList ds p := hA0
  rw [Tryd.params9] at hA hval
  obtain ⟨v0, vs0, d0, ds0, p0, q0, hargs, rfl, rfl, h0, r0⟩ := trodAll_cons hA
  obtain ⟨v1, vs1, d1, ds1, p1, q1, rfl, rfl, rfl, h1, r1⟩ := trodAll_cons r0
  obtain ⟨rfl, rfl, rfl⟩ := trodAll_nil r1
  obtain rfl : args = #[v0, v1] := by cases args; simp_all
  obtain ⟨gv, tv, csv, fv, dv, pv, rfl, _, _, _, _, _⟩ := trodVars_one (show DataW.TrodVars enc Tryd.prog W (fun _ => true) ["loop.example/g00244/impl.roundWords"] gs q from hV)
  obtain ⟨a0, len0, cap0, rfl⟩ := okWide_slice Tryd.underlying45 (hval 0 45 v0 rfl rfl)
  have k0 := h0
  have lt0 : ∀ x ∈ p0, x.block < W.heap.size := by obtain ⟨m, hm⟩ := k0; exact DataW.trod_lt m _ _ _ hm
  obtain ⟨b0, w0⟩ : ∃ l, SlP W a0 len0 l := by obtain ⟨fuel, hf⟩ := h0; exact slp_arg 45 39 _ _ Tryd.underlying45 Tryd.underlying39 (by kernel_rfl) rfl rfl rfl rfl (by kernel_rfl) hf
  obtain ⟨a1, rfl, rfl, rfl, w1⟩ := open_int Tryd.underlying3 (hval 1 3 v1 rfl rfl) h1
  clear hA0 hval0
  refine (walk a0 len0 cap0 b0 a1 W w0 w1 (door.words_of_laid hL)).mono fun e W' ⟨he, bel⟩ => ?_
  subst he
  exact ⟨_, rfl, _, _, _, [], _, _, hW', trodAll_mk1 (shut_bool Tryd.underlying4 _), (trodAll_cons_mk (Below.trod door.laidOut (by kernel_rfl) (of_decide_eq_true (by kernel_rfl)) k0 bel lt0) (trodAll_cons_mk (shut_int Tryd.underlying3 w1) trodAll_mk0)), bel.trodVars door.laidOut (by kernel_rfl) hV, bel.frame _, fun h => by cases h⟩

theorem over : Rows.fnExactPathOfRow.holds Tryd.pinned (OpenSpec.ofChange Rows.fnExactPathOfSpec) :=
  OpenClaim.holds_of_wide 9 Tryd.f9 rfl rfl rfl rfl rfl rfl rfl ⟨rfl, rfl, rfl, rfl, rfl⟩ rfl rfl rfl rfl rfl (by kernel_rfl) Tryd.func9 (by kernel_rfl)
    (of_decide_eq_true (by kernel_rfl)) (by unfold Func.isWrapper; first | (rw [if_pos (by decide +kernel)]; kernel_rfl) | (rw [if_neg (by decide +kernel)]; exact ⟨rfl, rfl⟩))
    (fun os started H enc _ => lifted os started H enc)

theorem proved : Rows.FnExactPathOfCardSaid :=
  Claim7.holds_tied_plain_at .later [] [.data] true (true, "dfb7ab1afdd0456eb5052fbcc97e9b7e967708949465dbf1114ff3a655c124d1") false
    over (fun _ h => by cases h) (by kernel_rfl) (fun _ h => by cases h) fnExactPathOf_row_tie rfl ⟨rfl, rfl⟩ (by kernel_rfl) rfl
    (fun f fn hf hfn => by
      obtain rfl : f = 9 := Option.some.inj ((show Tryd.prog.funcNamed "loop.example/g00244/laws.FnExactPathOf" = some 9 by kernel_rfl).symm.trans hf) |>.symm
      obtain rfl : fn = Tryd.f9 := (Option.some.inj (Tryd.func9.symm.trans hfn)).symm
      exact ⟨by kernel_rfl, fun j t ht => by
        rw [Tryd.params9] at ht
        have hm : t ∈ [45, 3] := by simpa using Array.mem_of_getElem? ht
        have hall : ([45, 3].all fun u => !Tryd.prog.wantsStandIn u) = true := by kernel_rfl
        exact (show Tryd.prog.wantsStandIn t = false by simpa using List.all_eq_true.1 hall t hm)⟩)
    (by kernel_rfl)
end Go.Proofs.YtmdhkoiimffmlaaDoor.fnExactPathOf
