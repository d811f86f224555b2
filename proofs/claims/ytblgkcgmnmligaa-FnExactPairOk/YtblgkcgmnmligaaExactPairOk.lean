/- The statement FnExactPairOkSaid: at every pair FnExactPairOk answers true, and the pair reads afterwards as before. No condition besides the row's own. -/
import Derived.Test.YtblgkcgmnmligaaRows
import Derived.Test.YtblgkcgmnmligaaPairI
import Derived.ProofKit
import Derived.OpenShut
import Derived.ShutString
import Derived.ChangeOld
import Derived.Below
namespace Go.Proofs.Ytblgkcgmnmligaa.fnExactPairOk
open Go.ChangeShapes Go.WideShapes Go.ChangeAt Go.RowKit
open Go.ChangeMaps (open_string shut_string)
set_option linter.unusedVariables false
open Go.Proofs.Ytblgkcgmnmligaa.base Go.Proofs.Ytblgkcgmnmligaa.pairs

set_option maxHeartbeats 400000 in
theorem walk (a0 : Pr) (w : World) (w0 : small a0) :
    Calls Try.prog 8 #[.agg #[.string a0.1, .string a0.2]] w fun e w' => e = .returned (.bool true) ∧ Below w.heap.size w w' := by
  have hba : Below w.heap.size w (w.alloc (.cells #[.string a0.1, .string a0.2] 41)) := (Below.refl _ _).alloc (Nat.le_refl _) _
  have hsz := fun wx => szPair a0 1048576 wx w0 (by omega)
  by_cases hover : 1048576 < psz a0
  · rw [szR_neg hover] at hsz
    have HZ := Hid.mk' hsz
    clear hsz
    go_enter Try.func8, Try.ntmps8
    go_wp2_with fail
    refine (HZ.out _).mono ?_
    rintro e wa ⟨rfl, hB⟩
    go_wp2_with fail
    go_ret
    exact ⟨rfl, hba.trans (hB.mono hba.size)⟩
  · rw [szR_pos (by omega)] at hsz
    obtain ⟨r, hr⟩ : ∃ r : Nat, ((1048576 : Nat) : Int) - (psz a0 : Int) = (r : Int) := ⟨1048576 - psz a0, by omega⟩
    rw [hr] at hsz
    have HZ := Hid.mk' hsz
    have hks : a0.1.size ≤ 1099511627776 := by unfold psz at hover; omega
    clear hsz hr
    have h1 := fun wx => spec_pairOk a0 wx w0 hks
    have h2 := fun wx => impl_pairOk a0 wx w0 hks
    cases hk : pairOk a0
    all_goals
      rw [hk] at h1 h2
      have H1 := Hid.mk' h1
      have H2 := Hid.mk' h2
      clear h1 h2
      go_enter Try.func8, Try.ntmps8
      go_wp2_with fail
      refine (HZ.out _).mono ?_
      rintro e wa ⟨rfl, hB⟩
      have hBa := hba.trans (hB.mono hba.size)
      have o1 : wa.cell? ⟨w.heap.size, 0, none⟩ = some (.string a0.1) := (hB.cell (p := ⟨w.heap.size, 0, none⟩) (by simp)).trans (by simp)
      have o2 : wa.cell? ⟨w.heap.size, 1, none⟩ = some (.string a0.2) := (hB.cell (p := ⟨w.heap.size, 1, none⟩) (by simp)).trans (by simp)
      have hlt : w.heap.size < wa.heap.size := by have := hB.size; simp at this; omega
      clear hba hB
      go_wp2_with fail
      refine (toPair a0.1 a0.2 _).mono ?_
      rintro e wb ⟨rfl, hB1⟩
      have hBb := hBa.trans (hB1.mono hBa.size)
      have p1 : wb.cell? ⟨w.heap.size, 0, none⟩ = some (.string a0.1) := (hB1.cell (p := ⟨w.heap.size, 0, none⟩) hlt).trans o1
      have p2 : wb.cell? ⟨w.heap.size, 1, none⟩ = some (.string a0.2) := (hB1.cell (p := ⟨w.heap.size, 1, none⟩) hlt).trans o2
      have hltb : w.heap.size < wb.heap.size := Nat.lt_of_lt_of_le hlt hB1.size
      clear o1 o2 hB1
      go_wp2_with fail
      refine (H1.out _).mono ?_
      rintro e wc ⟨rfl, hB2⟩
      have hBc := hBb.trans (hB2.mono hBb.size)
      have r1 : wc.cell? ⟨w.heap.size, 0, none⟩ = some (.string a0.1) := (hB2.cell (p := ⟨w.heap.size, 0, none⟩) hltb).trans p1
      have r2 : wc.cell? ⟨w.heap.size, 1, none⟩ = some (.string a0.2) := (hB2.cell (p := ⟨w.heap.size, 1, none⟩) hltb).trans p2
      clear p1 p2 hB2
      go_wp2_with fail
      refine (toPair a0.1 a0.2 _).mono ?_
      rintro e wd ⟨rfl, hB3⟩
      have hBd := hBc.trans (hB3.mono hBc.size)
      clear r1 r2 hB3
      go_wp2_with fail
      refine (H2.out _).mono ?_
      rintro e we ⟨rfl, hB4⟩
      go_wp2_with fail
      go_ret
      exact ⟨rfl, hBd.trans (hB4.mono hBd.size)⟩

theorem own : ownKnob Try.prog.godebug = none := by kernel_rfl
theorem laidOut : laidOutB Try.prog = true := by kernel_rfl

set_option maxRecDepth 100000 in
theorem lifted (os : Os) (started : os.Started) (H : Type) (enc : TypeId × Value → H) :
    ReturnsInHanded {} Try.checked os 8 .any (Rows.fnExactPairOkSpec.pre6 enc Try.prog Try.f8 Rows.fnExactPairOkRow.domain false) (Rows.fnExactPairOkSpec.post enc Try.prog Try.f8 false true false false) := by
  refine returnsInHanded_of_change (C := Try.checked) own started (by kernel_rfl) Try.func8
    (ChangeSpec.witness6 (enc := enc) (C := Try.checked) false ⟨#[], #[.agg #[.string ByteArray.empty, .string ByteArray.empty]], []⟩ 8 (by kernel_rfl) (by kernel_rfl) (by kernel_rfl) (by kernel_rfl)) ?_
  intro W base args ds gs before hval0 hW hcnd _
  have hval : ∀ (j : Nat) t v, Try.f8.params[j]? = some t → args[j]? = some v → Value.okWide Try.prog W .any base t v := hval0
  have hW' := hW
  obtain ⟨p, q, hA0, hV, rfl, hfz, hnd⟩ := hW
  have hA : DataW.TrodAll enc Try.prog W 0 (fun _ => true) true Try.f8.params.toList args.toList ds p := hA0
  rw [Try.params8] at hA hval
  obtain ⟨v0, vs0, d0, ds0, p0, q0, hargs, rfl, rfl, h0, r0⟩ := trodAll_cons hA
  obtain ⟨rfl, rfl, rfl⟩ := trodAll_nil r0
  obtain rfl : args = #[v0] := by cases args; simp_all
  obtain ⟨rfl, rfl⟩ := trodVars_none hV
  have k0 := h0
  have lt0 : ∀ x ∈ p0, x.block < W.heap.size := by obtain ⟨m, hm⟩ := k0; exact DataW.trod_lt m _ _ _ hm
  obtain ⟨a0, rfl, w0⟩ : ∃ p : Pr, v0 = .agg #[.string p.1, .string p.2] ∧ small p := by obtain ⟨fuel, hf⟩ := h0; exact pair_arg 41 _ _ Try.underlying41 (by kernel_rfl) rfl rfl rfl rfl (by kernel_rfl) (hval 0 41 v0 rfl rfl) hf
  clear hA0 hval0
  refine (walk a0 W w0).mono fun e W' ⟨he, bel⟩ => ?_
  subst he
  exact ⟨_, rfl, _, _, _, [], _, [], hW', trodAll_mk1 (shut_bool Try.underlying4 _), (trodAll_cons_mk (Below.trod laidOut (by kernel_rfl) (of_decide_eq_true (by kernel_rfl)) k0 bel lt0) trodAll_mk0), rfl, bel.frame _, fun h => by cases h⟩

theorem over : Rows.fnExactPairOkRow.holds Try.pinned (OpenSpec.ofChange Rows.fnExactPairOkSpec) :=
  OpenClaim.holds_of_wide 8 Try.f8 rfl rfl rfl rfl rfl rfl rfl ⟨rfl, rfl, rfl, rfl, rfl⟩ rfl rfl rfl rfl rfl (by kernel_rfl) Try.func8 (by kernel_rfl)
    (of_decide_eq_true (by kernel_rfl)) (by unfold Func.isWrapper; first | (rw [if_pos (by decide +kernel)]; kernel_rfl) | (rw [if_neg (by decide +kernel)]; exact ⟨rfl, rfl⟩))
    (fun os started H enc _ => lifted os started H enc)

theorem proved : Rows.FnExactPairOkSaid := over
end Go.Proofs.Ytblgkcgmnmligaa.fnExactPairOk
