/- The statement FnExactLeafOfCardSaid: at every pair FnExactLeafOf answers true, and the pair reads afterwards as before, where the table of the rounds' words is as the program's text lays it (the card ties it). No condition besides the row's own. -/
import Derived.Test.YtmdhkoiimffmlaaDoorRows
import Derived.Test.YtmdhkoiimffmlaaDoorCards
import Derived.Test.YtmdhkoiimffmlaaDoorTie
import Derived.Test.YtmdhkoiimffmlaaDoorTreeC
import Derived.Test.YtmdhkoiimffmlaaDoorTreeX
import Derived.Test.YtmdhkoiimffmlaaDoorPairTrio
import Derived.Test.YtmdhkoiimffmlaaDoorDoor
import Derived.ProofKit
import Derived.OpenShut
import Derived.ShutString
import Derived.ChangeOld
import Derived.Below
namespace Go.Proofs.YtmdhkoiimffmlaaDoor.fnExactLeafOf
open Go.ChangeShapes Go.WideShapes Go.ChangeAt Go.RowKit
open Go.ChangeMaps (open_string shut_string)
set_option linter.unusedVariables false
open Go.Proofs.YtmdhkoiimffmlaaDoor.base Go.Proofs.YtmdhkoiimffmlaaDoor.pairs Go.Proofs.YtmdhkoiimffmlaaDoor.tree

set_option maxHeartbeats 400000 in
theorem walk (a0 : Pr) (w : World) (w0 : small a0) (hK : sha.KW w) :
    Calls Tryd.prog 5 #[.agg #[.string a0.1, .string a0.2]] w fun e w' => e = .returned (.bool true) ∧ Below w.heap.size w w' := by
  have hba : Below w.heap.size w (w.alloc (.cells #[.string a0.1, .string a0.2] 39)) := (Below.refl _ _).alloc (Nat.le_refl _) _
  have hsz := fun wx => szPair a0 1048576 wx w0 (by omega)
  by_cases hover : 1048576 < psz a0
  · rw [szR_neg hover] at hsz
    have HZ := Hid.mk' hsz
    clear hsz
    go_enter Tryd.func5, Tryd.ntmps5
    go_wp2_with fail
    refine (HZ.out _).mono ?_
    rintro e wa ⟨rfl, hB⟩
    go_wp2_with fail
    go_ret
    exact ⟨rfl, hba.trans (hB.mono hba.size)⟩
  · rw [szR_pos (by omega)] at hsz
    obtain ⟨r, hr⟩ : ∃ r : Nat, ((1048576 : Nat) : Int) - (psz a0 : Int) = (r : Int) := ⟨1048576 - psz a0, by omega⟩
    rw [hr] at hsz
    have HZ := Hid.mk' hsz
    have hlim : lim a0 := by unfold psz at hover; exact ⟨by omega, by omega⟩
    clear hsz hr
    have h1 := fun wx => spec_leafOf a0 wx hlim
    have h2 := fun wx hx => impl_leafOf a0 wx hlim hx
    all_goals
      generalize leafOf a0 = d at *
      have H1 := Hid.mk' h1
      have H2 := Hid.mk' h2
      clear h1 h2
      go_enter Tryd.func5, Tryd.ntmps5
      go_wp2_with fail
      refine (HZ.out _).mono ?_
      rintro e wa ⟨rfl, hB⟩
      have hBa := hba.trans (hB.mono hba.size)
      have o1 : wa.cell? ⟨w.heap.size, 0, none⟩ = some (.string a0.1) := (hB.cell (p := ⟨w.heap.size, 0, none⟩) (by simp)).trans (by simp)
      have o2 : wa.cell? ⟨w.heap.size, 1, none⟩ = some (.string a0.2) := (hB.cell (p := ⟨w.heap.size, 1, none⟩) (by simp)).trans (by simp)
      have hlt : w.heap.size < wa.heap.size := by have := hB.size; simp at this; omega
      clear hba hB
      go_wp2_with fail
      refine (toPair a0.1 a0.2 _).mono ?_
      rintro e wb ⟨rfl, hB1⟩
      have hBb := hBa.trans (hB1.mono hBa.size)
      have p1 : wb.cell? ⟨w.heap.size, 0, none⟩ = some (.string a0.1) := (hB1.cell (p := ⟨w.heap.size, 0, none⟩) hlt).trans o1
      have p2 : wb.cell? ⟨w.heap.size, 1, none⟩ = some (.string a0.2) := (hB1.cell (p := ⟨w.heap.size, 1, none⟩) hlt).trans o2
      have hltb : w.heap.size < wb.heap.size := Nat.lt_of_lt_of_le hlt hB1.size
      clear o1 o2 hB1
      go_wp2_with fail
      refine (H1.out _).mono ?_
      rintro e wc ⟨rfl, hB2⟩
      have hBc := hBb.trans (hB2.mono hBb.size)
      have r1 : wc.cell? ⟨w.heap.size, 0, none⟩ = some (.string a0.1) := (hB2.cell (p := ⟨w.heap.size, 0, none⟩) hltb).trans p1
      have r2 : wc.cell? ⟨w.heap.size, 1, none⟩ = some (.string a0.2) := (hB2.cell (p := ⟨w.heap.size, 1, none⟩) hltb).trans p2
      clear p1 p2 hB2
      go_wp2_with fail
      refine (toPair a0.1 a0.2 _).mono ?_
      rintro e wd ⟨rfl, hB3⟩
      have hBd := hBc.trans (hB3.mono hBc.size)
      clear r1 r2 hB3
      go_wp2_with fail
      refine (H2.out _ (hK.below hBd)).mono ?_
      rintro e we ⟨rfl, hB4⟩
      go_wp2_with fail
      go_ret
      exact ⟨rfl, hBd.trans (hB4.mono hBd.size)⟩

set_option maxRecDepth 100000 in
theorem lifted (os : Os) (started : os.Started) (H : Type) (enc : TypeId × Value → H) :
    ReturnsInHanded {} Tryd.checked os 5 .any (fun w args => (Rows.fnExactLeafOfSpec.pre enc Tryd.prog Tryd.f5 [] false w args ∧ laidMetH Tryd.prog door.laidD w) ∧ sizedMet enc Tryd.prog Tryd.f5 (OpenSpec.ofChange Rows.fnExactLeafOfSpec) false w args)
      (Rows.fnExactLeafOfSpec.post enc Tryd.prog Tryd.f5 false true false false) := by
  refine returnsInHanded_of_change_and (C := Tryd.checked) (X := fun w _ => laidMetH Tryd.prog door.laidD w) (fun _ _ _ hh h => h.of_heap hh) door.own started (by kernel_rfl) Tryd.func5
    (ChangeSpec.witness_shaped (enc := enc) (C := Tryd.checked) (os := os) (X := fun w _ => laidMetH Tryd.prog door.laidD w) false (World.laidAll Tryd.prog os door.laidD) #[.agg #[.string ByteArray.empty, .string ByteArray.empty]] 70 (World.laidAll_os _ _ _) (World.shaped_of_ZipB (by kernel_rfl) (by kernel_rfl)) (by kernel_rfl) (by kernel_rfl) (by kernel_rfl)
      (by rw [MakeChecks.laidMetH_plain _ _ _ (by kernel_rfl)]; exact laidMet_laidAll _ (by kernel_rfl) (by kernel_rfl))) ?_
  intro W base args ds gs before hval0 hW _ _ hL _
  have hval : ∀ (j : Nat) t v, Tryd.f5.params[j]? = some t → args[j]? = some v → Value.okWide Tryd.prog W .any base t v := hval0
  have hW' := hW
  obtain ⟨p, q, hA0, hV, rfl, hfz, hnd⟩ := hW
  have hA : DataW.TrodAll enc Tryd.prog W 0 (fun _ => true) true Tryd.f5.params.toList args.toList ds p := hA0
  rw [Tryd.params5] at hA hval
  obtain ⟨v0, vs0, d0, ds0, p0, q0, hargs, rfl, rfl, h0, r0⟩ := trodAll_cons hA
  obtain ⟨rfl, rfl, rfl⟩ := trodAll_nil r0
  obtain rfl : args = #[v0] := by cases args; simp_all
  obtain ⟨gv, tv, csv, fv, dv, pv, rfl, _, _, _, _, _⟩ := trodVars_one (show DataW.TrodVars enc Tryd.prog W (fun _ => true) ["loop.example/g00244/impl.roundWords"] gs q from hV)
  have k0 := h0
  have lt0 : ∀ x ∈ p0, x.block < W.heap.size := by obtain ⟨m, hm⟩ := k0; exact DataW.trod_lt m _ _ _ hm
  obtain ⟨a0, rfl, w0⟩ : ∃ p : Pr, v0 = .agg #[.string p.1, .string p.2] ∧ small p := by obtain ⟨fuel, hf⟩ := h0; exact pair_arg 39 _ _ Tryd.underlying39 (by kernel_rfl) rfl rfl rfl rfl (by kernel_rfl) (hval 0 39 v0 rfl rfl) hf
  clear hA0 hval0
  refine (walk a0 W w0 (door.words_of_laid hL)).mono fun e W' ⟨he, bel⟩ => ?_
  subst he
  exact ⟨_, rfl, _, _, _, [], _, _, hW', trodAll_mk1 (shut_bool Tryd.underlying4 _), (trodAll_cons_mk (Below.trod door.laidOut (by kernel_rfl) (of_decide_eq_true (by kernel_rfl)) k0 bel lt0) trodAll_mk0), bel.trodVars door.laidOut (by kernel_rfl) hV, bel.frame _, fun h => by cases h⟩

theorem over : Rows.fnExactLeafOfRow.holds Tryd.pinned (OpenSpec.ofChange Rows.fnExactLeafOfSpec) :=
  OpenClaim.holds_of_wide 5 Tryd.f5 rfl rfl rfl rfl rfl rfl rfl ⟨rfl, rfl, rfl, rfl, rfl⟩ rfl rfl rfl rfl rfl (by kernel_rfl) Tryd.func5 (by kernel_rfl)
    (of_decide_eq_true (by kernel_rfl)) (by unfold Func.isWrapper; first | (rw [if_pos (by decide +kernel)]; kernel_rfl) | (rw [if_neg (by decide +kernel)]; exact ⟨rfl, rfl⟩))
    (fun os started H enc _ => lifted os started H enc)

theorem proved : Rows.FnExactLeafOfCardSaid :=
  Claim7.holds_tied_plain_at .later [] [.data] true (true, "dfb7ab1afdd0456eb5052fbcc97e9b7e967708949465dbf1114ff3a655c124d1") false
    over (fun _ h => by cases h) (by kernel_rfl) (fun _ h => by cases h) fnExactLeafOf_row_tie rfl ⟨rfl, rfl⟩ (by kernel_rfl) rfl
    (fun f fn hf hfn => by
      obtain rfl : f = 5 := Option.some.inj ((show Tryd.prog.funcNamed "loop.example/g00244/laws.FnExactLeafOf" = some 5 by kernel_rfl).symm.trans hf) |>.symm
      obtain rfl : fn = Tryd.f5 := (Option.some.inj (Tryd.func5.symm.trans hfn)).symm
      exact ⟨by kernel_rfl, fun j t ht => by
        rw [Tryd.params5] at ht
        have hm : t ∈ [39] := by simpa using Array.mem_of_getElem? ht
        have hall : ([39].all fun u => !Tryd.prog.wantsStandIn u) = true := by kernel_rfl
        exact (show Tryd.prog.wantsStandIn t = false by simpa using List.all_eq_true.1 hall t hm)⟩)
    (by kernel_rfl)
end Go.Proofs.YtmdhkoiimffmlaaDoor.fnExactLeafOf
