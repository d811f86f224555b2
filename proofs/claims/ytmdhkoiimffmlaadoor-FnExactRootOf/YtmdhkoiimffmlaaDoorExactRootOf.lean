/- The statement FnExactRootOfCardSaid: at every slice of pairs FnExactRootOf answers true, and the argument reads afterwards as before, where the table of the rounds' words is as the program's text lays it (the card ties it). No condition besides the row's own. -/
import Derived.Test.YtmdhkoiimffmlaaDoorRows
import Derived.Test.YtmdhkoiimffmlaaDoorCards
import Derived.Test.YtmdhkoiimffmlaaDoorTie
import Derived.Test.YtmdhkoiimffmlaaDoorTreeC
import Derived.Test.YtmdhkoiimffmlaaDoorTreeX
import Derived.Test.YtmdhkoiimffmlaaDoorPairTrio
import Derived.Test.YtmdhkoiimffmlaaDoorDoor
import Derived.ProofKit
import Derived.OpenShut
import Derived.ShutString
import Derived.ChangeOld
import Derived.Below
namespace Go.Proofs.YtmdhkoiimffmlaaDoor.fnExactRootOf
open Go.ChangeShapes Go.WideShapes Go.ChangeAt Go.RowKit
open Go.ChangeMaps (open_string shut_string)
set_option linter.unusedVariables false
open Go.Proofs.YtmdhkoiimffmlaaDoor.base Go.Proofs.YtmdhkoiimffmlaaDoor.pairs Go.Proofs.YtmdhkoiimffmlaaDoor.tree

set_option maxRecDepth 100000 in
set_option maxHeartbeats 1000000 in
theorem walk (a0 : Option Addr) (len0 cap0 : Nat) (b0 : List Pr) (w : World) (w0 : SlP w a0 len0 b0) (hK : sha.KW w) :
    Calls Tryd.prog 8 #[.slice a0 len0 cap0] w fun e w' => e = .returned (.bool true) ∧ Below w.heap.size w w' := by
  have hl0 := w0.1
  have hsz := szPairS a0 len0 cap0 b0 1048576 w w0 (by omega)
  by_cases hover : 1048576 < b0.length + sumP b0
  · rw [szR_neg hover] at hsz
    have HZ := Hid.mk' hsz
    clear hsz
    go_enter Tryd.func8, Tryd.ntmps8
    go_wp2_with fail
    refine HZ.out.mono ?_
    rintro e wa ⟨rfl, hB⟩
    go_wp2_with fail
    go_ret
    exact ⟨rfl, hB⟩
  · rw [szR_pos (by omega)] at hsz
    obtain ⟨r, hr⟩ : ∃ r : Nat, ((1048576 : Nat) : Int) - ((b0.length + sumP b0 : Nat) : Int) = (r : Int) := ⟨1048576 - (b0.length + sumP b0), by omega⟩
    rw [hr] at hsz
    have HZ := Hid.mk' hsz
    clear hsz hr
    have hks : ∀ p ∈ b0, lim p := fun p hp => by have := psz_le b0 p hp; unfold psz at this; exact ⟨by omega, by omega⟩
    obtain ⟨d, hd⟩ : ∃ d, rootI b0 = d := ⟨_, rfl⟩
    have HDD := Hid.mk' hd
    clear hd
    all_goals
      go_enter Tryd.func8, Tryd.ntmps8
      go_wp2_with fail
      refine HZ.out.mono ?_
      rintro e wa ⟨rfl, hB0⟩
      go_wp2_with fail
      refine (toPairS a0 len0 cap0 b0 _ (w0.below hB0) (by omega)).mono ?_
      rintro e wb ⟨g1, rfl, hO1, hB1⟩
      have hBb := hB0.trans (hB1.mono hB0.size)
      go_wp2_with fail
      refine (spec_rootOf _ _ _ _ b0 _ hO1.sl (Nat.le_refl _) hks).mono ?_
      rintro e wc ⟨he, hB2⟩
      rw [HDD.out] at he
      subst he
      have hBc := hBb.trans (hB2.mono hBb.size)
      go_wp2_with fail
      refine (toPairS a0 len0 cap0 b0 _ (w0.below hBc) (by omega)).mono ?_
      rintro e wd ⟨gx, rfl, hOx, hBx⟩
      have hBd := hBc.trans (hBx.mono hBc.size)
      go_wp2_with fail
      refine (impl_rootOf _ _ _ _ b0 _ hOx.sl (Nat.le_refl _) hks (hK.below hBd)).mono ?_
      rintro e we ⟨he, hBg⟩
      rw [HDD.out] at he
      subst he
      have hBe := hBd.trans (hBg.mono hBd.size)
      have hOx' := hOx.below hBg
      clear hO1 hOx hB0 hB1 hB2 hBx hBg
      go_wp2_with fail
      refine (toPairS a0 len0 cap0 b0 _ (w0.below hBe) (by omega)).mono ?_
      rintro e wf ⟨gy, rfl, hOy, hBy⟩
      have hBf := hBe.trans (hBy.mono hBe.size)
      go_wp2_with fail
      refine (eqP _ _ _ _ _ _ _ _ _ (hOx'.below hBy).sl hOy.sl rfl).mono ?_
      rintro e wg ⟨rfl, hBz⟩
      go_wp2_with fail
      go_ret
      exact ⟨rfl, hBf.trans (hBz.mono hBf.size)⟩

set_option maxRecDepth 100000 in
theorem lifted (os : Os) (started : os.Started) (H : Type) (enc : TypeId × Value → H) :
    ReturnsInHanded {} Tryd.checked os 8 .any (fun w args => (Rows.fnExactRootOfSpec.pre enc Tryd.prog Tryd.f8 [] false w args ∧ laidMetH Tryd.prog door.laidD w) ∧ sizedMet enc Tryd.prog Tryd.f8 (OpenSpec.ofChange Rows.fnExactRootOfSpec) false w args)
      (Rows.fnExactRootOfSpec.post enc Tryd.prog Tryd.f8 false true false false) := by
  refine returnsInHanded_of_change_and (C := Tryd.checked) (X := fun w _ => laidMetH Tryd.prog door.laidD w) (fun _ _ _ hh h => h.of_heap hh) door.own started (by kernel_rfl) Tryd.func8
    (ChangeSpec.witness_shaped (enc := enc) (C := Tryd.checked) (os := os) (X := fun w _ => laidMetH Tryd.prog door.laidD w) false (World.laidAll Tryd.prog os door.laidD) #[.slice none 0 0] 70 (World.laidAll_os _ _ _) (World.shaped_of_ZipB (by kernel_rfl) (by kernel_rfl)) (by kernel_rfl) (by kernel_rfl) (by kernel_rfl)
      (by rw [MakeChecks.laidMetH_plain _ _ _ (by kernel_rfl)]; exact laidMet_laidAll _ (by kernel_rfl) (by kernel_rfl))) ?_
  intro W base args ds gs before hval0 hW _ _ hL _
  have hval : ∀ (j : Nat) t v, Tryd.f8.params[j]? = some t → args[j]? = some v → Value.okWide Tryd.prog W .any base t v := hval0
  have hW' := hW
  obtain ⟨p, q, hA0, hV, rfl, hfz, hnd⟩ := hW
  have hA : DataW.TrodAll enc Tryd.prog W 0 (fun _ => true) true Tryd.f8.params.toList args.toList ds p := hA0
  rw [Tryd.params8] at hA hval
  obtain ⟨v0, vs0, d0, ds0, p0, q0, hargs, rfl, rfl, h0, r0⟩ := trodAll_cons hA
  obtain ⟨rfl, rfl, rfl⟩ := trodAll_nil r0
  obtain rfl : args = #[v0] := by cases args; simp_all
  obtain ⟨gv, tv, csv, fv, dv, pv, rfl, _, _, _, _, _⟩ := trodVars_one (show DataW.TrodVars enc Tryd.prog W (fun _ => true) ["loop.example/g00244/impl.roundWords"] gs q from hV)
  obtain ⟨a0, len0, cap0, rfl⟩ := okWide_slice Tryd.underlying45 (hval 0 45 v0 rfl rfl)
  have k0 := h0
  have lt0 : ∀ x ∈ p0, x.block < W.heap.size := by obtain ⟨m, hm⟩ := k0; exact DataW.trod_lt m _ _ _ hm
  obtain ⟨b0, w0⟩ : ∃ l, SlP W a0 len0 l := by obtain ⟨fuel, hf⟩ := h0; exact slp_arg 45 39 _ _ Tryd.underlying45 Tryd.underlying39 (by kernel_rfl) rfl rfl rfl rfl (by kernel_rfl) hf
  clear hA0 hval0
  refine (walk a0 len0 cap0 b0 W w0 (door.words_of_laid hL)).mono fun e W' ⟨he, bel⟩ => ?_
  subst he
  exact ⟨_, rfl, _, _, _, [], _, _, hW', trodAll_mk1 (shut_bool Tryd.underlying4 _), (trodAll_cons_mk (Below.trod door.laidOut (by kernel_rfl) (of_decide_eq_true (by kernel_rfl)) k0 bel lt0) trodAll_mk0), bel.trodVars door.laidOut (by kernel_rfl) hV, bel.frame _, fun h => by cases h⟩

theorem over : Rows.fnExactRootOfRow.holds Tryd.pinned (OpenSpec.ofChange Rows.fnExactRootOfSpec) :=
  OpenClaim.holds_of_wide 8 Tryd.f8 rfl rfl rfl rfl rfl rfl rfl ⟨rfl, rfl, rfl, rfl, rfl⟩ rfl rfl rfl rfl rfl (by kernel_rfl) Tryd.func8 (by kernel_rfl)
    (of_decide_eq_true (by kernel_rfl)) (by unfold Func.isWrapper; first | (rw [if_pos (by decide +kernel)]; kernel_rfl) | (rw [if_neg (by decide +kernel)]; exact ⟨rfl, rfl⟩))
    (fun os started H enc _ => lifted os started H enc)

theorem proved : Rows.FnExactRootOfCardSaid :=
  Claim7.holds_tied_plain_at .later [] [.data] true (true, "dfb7ab1afdd0456eb5052fbcc97e9b7e967708949465dbf1114ff3a655c124d1") false
    over (fun _ h => by cases h) (by kernel_rfl) (fun _ h => by cases h) fnExactRootOf_row_tie rfl ⟨rfl, rfl⟩ (by kernel_rfl) rfl
    (fun f fn hf hfn => by
      obtain rfl : f = 8 := Option.some.inj ((show Tryd.prog.funcNamed "loop.example/g00244/laws.FnExactRootOf" = some 8 by kernel_rfl).symm.trans hf) |>.symm
      obtain rfl : fn = Tryd.f8 := (Option.some.inj (Tryd.func8.symm.trans hfn)).symm
      exact ⟨by kernel_rfl, fun j t ht => by
        rw [Tryd.params8] at ht
        have hm : t ∈ [45] := by simpa using Array.mem_of_getElem? ht
        have hall : ([45].all fun u => !Tryd.prog.wantsStandIn u) = true := by kernel_rfl
        exact (show Tryd.prog.wantsStandIn t = false by simpa using List.all_eq_true.1 hall t hm)⟩)
    (by kernel_rfl)
end Go.Proofs.YtmdhkoiimffmlaaDoor.fnExactRootOf
