/- The statement FnExactCoordNewSaid: at every number FnExactCoordNew answers true, and the arguments read afterwards as before. No condition besides the row's own. -/
import Derived.Test.YtmpggohilmngpaaRows
import Derived.Test.YtmpggohilmngpaaCoN
import Derived.Test.YtmpggohilmngpaaCoA
import Derived.ProofKit
import Derived.OpenShut
import Derived.ShutString
import Derived.ChangeOld
import Derived.Below
namespace Go.Proofs.Ytmpggohilmngpaa.fnExactCoordNew
open Go.ChangeShapes Go.WideShapes Go.ChangeAt Go.RowKit
open Go.ChangeMaps (open_string shut_string)
set_option linter.unusedVariables false
set_option linter.unusedSimpArgs false
open Go.Proofs.Ytmpggohilmngpaa.base Go.Proofs.Ytmpggohilmngpaa.pairs Go.Proofs.Ytmpggohilmngpaa.ords Go.Proofs.Ytmpggohilmngpaa.help Go.Proofs.Ytmpggohilmngpaa.helps Go.Proofs.Ytmpggohilmngpaa.cos Go.Proofs.Ytmpggohilmngpaa.lay

theorem i_countOk (n : Int) (w : World) : Calls Try.prog 10 #[.int .i64 n] w fun e w' => e = .returned (.bool (decide (1 ≤ n ∧ n ≤ 8))) ∧ w' = w := by
  by_cases h1 : 1 ≤ n
  · by_cases h2 : n ≤ 8
    · rw [decide_eq_true ⟨h1, h2⟩]
      go_enter Try.func10, Try.ntmps10
      go_wp2
      go_ret
      exact ⟨by simp [h2], rfl⟩
    · rw [decide_eq_false (fun h => h2 h.2)]
      go_enter Try.func10, Try.ntmps10
      go_wp2
      go_ret
      exact ⟨by simp [h2], rfl⟩
  · rw [decide_eq_false (fun h => h1 h.1)]
    go_enter Try.func10, Try.ntmps10
    go_wp2
    go_ret
    exact ⟨rfl, rfl⟩
theorem new_own (n : Int) (hn : (Lit.int .i64 n).wf = true) (w : World) : coordR.own w [.int .i64 (newR n).1, .int .i64 (newR n).2.1, .int .i64 (newR n).2.2.1, .slice none 0 0, .slice none 0 0, .int .i64 (newR n).2.2.2.2.2] (newR n) [] := by
  have h1 : (newR n).2.2.2.1 = [] := by unfold newR; split <;> rfl
  have h2 : (newR n).2.2.2.2.1 = [] := by unfold newR; split <;> rfl
  refine coord_own.2 ⟨_, _, [], [], rfl, ?_, by rw [h1]; exact own_nil _ _ _, by rw [h2]; exact own_nil _ _ _, rfl, by simp⟩
  unfold newR
  split
  · exact ⟨hn, by show (Lit.int .i64 1).wf = true; decide, by show (Lit.int .i64 0).wf = true; decide, by show (Lit.int .i64 0).wf = true; decide⟩
  · exact ⟨by show (Lit.int .i64 0).wf = true; decide, by show (Lit.int .i64 0).wf = true; decide, by show (Lit.int .i64 0).wf = true; decide, by show (Lit.int .i64 0).wf = true; decide⟩
set_option maxRecDepth 100000 in
theorem impl_coordNew (n : Int) (w : World) :
    Calls Try.prog 5 #[.int .i64 n] w fun e w' => e = .returned (coV (newR n).1 (newR n).2.1 (newR n).2.2.1 (newR n).2.2.2.2.2 none 0 0 none 0 0) ∧ Below w.heap.size w w' := by
  have hin := i_countOk n (w.alloc (coO 0 0 0 0 none 0 0 none 0 0))
  by_cases hn : 1 ≤ n ∧ n ≤ 8
  · have HR : Hid (newR n = (n, 1, 0, [], [], 0)) := if_pos hn
    rw [decide_eq_true hn] at hin
    have HI := Hid.mk' hin
    clear hin
    go_enter Try.func5, Try.ntmps5
    go_wp2_with fail
    refine HI.out.mono ?_
    rintro e w1 ⟨rfl, hw1⟩
    subst hw1
    go_wp2_with fail
    go_returns
    exact ⟨by rw [HR.out], below_new _ _⟩
  · have HR : Hid (newR n = (0, 0, 0, [], [], 0)) := if_neg hn
    rw [decide_eq_false hn] at hin
    have HI := Hid.mk' hin
    clear hin
    go_enter Try.func5, Try.ntmps5
    go_wp2_with fail
    refine HI.out.mono ?_
    rintro e w1 ⟨rfl, hw1⟩
    subst hw1
    go_wp2_with fail
    go_returns
    exact ⟨by rw [HR.out], below_new _ _⟩
set_option maxRecDepth 100000 in
set_option maxHeartbeats 4000000 in
theorem walk (x : Int) (w : World) (hx0 : (Lit.int .i64 x).wf = true) :
    Calls Try.prog 3 #[.int .i64 x] w fun e w' => e = .returned (.bool true) ∧ Below w.heap.size w w' := by
  have HS := Hid.mk' (spec_coordNew x w)
  have HI := Hid.mk' (fun wx => impl_coordNew x wx)
  have HN := Hid.mk' (fun wx => new_own x hx0 wx)
  have hcR : cntC (newR x) = 0 := by unfold newR; split <;> rfl
  generalize newR x = R at *
  have HMR := Hid.mk' (fun wx (hw : coordR.own wx [.int .i64 R.1, .int .i64 R.2.1, .int .i64 R.2.2.1, .slice none 0 0, .slice none 0 0, .int .i64 R.2.2.2.2.2] R []) => markCoord none 0 0 none 0 0 R [] 1 wx hw (by omega) (by omega))
  have HHR := Hid.mk' (fun wx (hw : SeeCo wx none 0 0 none 0 0 (mCo 1 R)) => heldCoord none 0 0 none 0 0 R 1 wx hw (by omega) (by omega))
  rw [hcR] at HMR HHR
  go_enter Try.func3, Try.ntmps3
  go_wp2_with fail
  refine HS.out.mono ?_
  rintro e w1 ⟨rfl, hb1⟩
  obtain ⟨V1, hV1⟩ : ∃ V, w1.alloc (.cells #[.int .i64 R.1, .int .i64 R.2.1, .int .i64 R.2.2.1, .slice none 0 0, .slice none 0 0, .int .i64 R.2.2.2.2.2] 25) = V := ⟨_, rfl⟩
  have hv1 : Below w1.heap.size w1 V1 := by rw [← hV1]; exact below_make
  have hW1 : BoxIn w1.heap.size 25 [] [.int .i64 R.1, .int .i64 R.2.1, .int .i64 R.2.2.1, .slice none 0 0, .slice none 0 0, .int .i64 R.2.2.2.2.2] [] V1 := by rw [← hV1]; exact boxIn_new w1 _ _
  have hB1 := hb1.trans (hv1.mono hb1.size)
  have HV1 := Hid.mk' hV1
  clear hV1 HS
  go_wp2_with fail
  rw [HV1.out]
  refine (HI.out V1).mono ?_
  rintro e w2 ⟨rfl, hb2⟩
  obtain ⟨V2, hV2⟩ : ∃ V, w2.alloc (.cells #[.int .i64 R.1, .int .i64 R.2.1, .int .i64 R.2.2.1, .slice none 0 0, .slice none 0 0, .int .i64 R.2.2.2.2.2] 25) = V := ⟨_, rfl⟩
  have hv2 : Below w2.heap.size w2 V2 := by rw [← hV2]; exact below_make
  have hG2 : BoxIn w2.heap.size 25 [] [.int .i64 R.1, .int .i64 R.2.1, .int .i64 R.2.2.1, .slice none 0 0, .slice none 0 0, .int .i64 R.2.2.2.2.2] [] V2 := by rw [← hV2]; exact boxIn_new w2 _ _
  have hW2 := (hW1.below hb2).below hv2
  have hB2 := (hB1.trans (hb2.mono hB1.size)).trans (hv2.mono (hB1.trans (hb2.mono hB1.size)).size)
  obtain ⟨g0, g1, g2, g3, g4, g5⟩ := cells6 hG2
  obtain ⟨c0, c1, c2, c3, c4, c5⟩ := cells6 hW2
  rw [← hV2] at g0 g1 g2 g3 g4 g5 c0 c1 c2 c3 c4 c5
  have HE2 := Hid.mk' (eqCoordT none none 0 0 0 0 none none 0 0 0 0 R V2 (see_co (coordR.ownSee (HN.out V2))) (see_co (coordR.ownSee (HN.out V2))))
  have HV2 := Hid.mk' hV2
  clear hV2
  go_wp2_with fail
  rw [HV2.out]
  refine HE2.out.mono ?_
  rintro e w3 ⟨rfl, hb3⟩
  have hG3 := hG2.below hb3
  have hW3 := hW2.below hb3
  have hB3 := hB2.trans (hb3.mono hB2.size)
  clear g0 g1 g2 g3 g4 g5 c0 c1 c2 c3 c4 c5 HV2 HE2
  obtain ⟨g0, g1, g2, g3, g4, g5⟩ := cells6 hG3
  have HM3 := Hid.mk' (HMR.out w3 (HN.out w3))
  go_wp2_with fail
  refine HM3.out.mono ?_
  rintro e w4 ⟨rfl, ho4, hf4⟩
  have hb4 : Below w3.heap.size w3 w4 := hf4.bel (Nat.le_refl _) (fun k hk => absurd hk List.not_mem_nil)
  have hG4 := hG3.below hb4
  have hW4 := hW3.below hb4
  have hB4 := hB3.trans (hb4.mono hB3.size)
  have hs4 := see_mco (coordR.ownSee ho4)
  have HH4 := Hid.mk' (HHR.out w4 hs4)
  clear g0 g1 g2 g3 g4 g5 HM3 ho4 hf4
  obtain ⟨g0, g1, g2, g3, g4, g5⟩ := cells6 hG4
  have hmm : (((1 + 0 : Nat) : Int) != ((1 + 0 : Nat) : Int)) = false := by simp
  go_wp2_with fail
  refine HH4.out.mono ?_
  rintro e w5 ⟨rfl, hb5⟩
  have hG5 := hG4.below hb5
  have hW5 := hW4.below hb5
  have hB5 := hB4.trans (hb5.mono hB4.size)
  have hs5 := hs4.below hb5
  clear g0 g1 g2 g3 g4 g5 HH4
  go_wp2_with fail
  refine (HI.out w5).mono ?_
  rintro e w6 ⟨rfl, hb6⟩
  obtain ⟨V6, hV6⟩ : ∃ V, w6.alloc (.cells #[.int .i64 R.1, .int .i64 R.2.1, .int .i64 R.2.2.1, .slice none 0 0, .slice none 0 0, .int .i64 R.2.2.2.2.2] 25) = V := ⟨_, rfl⟩
  have hv6 : Below w6.heap.size w6 V6 := by rw [← hV6]; exact below_make
  have hH6 : BoxIn w6.heap.size 25 [] [.int .i64 R.1, .int .i64 R.2.1, .int .i64 R.2.2.1, .slice none 0 0, .slice none 0 0, .int .i64 R.2.2.2.2.2] [] V6 := by rw [← hV6]; exact boxIn_new w6 _ _
  have hG6 := (hG5.below hb6).below hv6
  have hW6 := (hW5.below hb6).below hv6
  have hB6 := (hB5.trans (hb6.mono hB5.size)).trans (hv6.mono (hB5.trans (hb6.mono hB5.size)).size)
  have hs6 := (hs5.below hb6).below hv6
  obtain ⟨g0, g1, g2, g3, g4, g5⟩ := cells6 hH6
  obtain ⟨c0, c1, c2, c3, c4, c5⟩ := cells6 hW6
  rw [← hV6] at g0 g1 g2 g3 g4 g5 c0 c1 c2 c3 c4 c5
  have HE6 := Hid.mk' (eqCoordT none none 0 0 0 0 none none 0 0 0 0 R V6 (see_co (coordR.ownSee (HN.out V6))) (see_co (coordR.ownSee (HN.out V6))))
  have HV6 := Hid.mk' hV6
  clear hV6
  go_wp2_with fail
  rw [HV6.out]
  refine HE6.out.mono ?_
  rintro e w7 ⟨rfl, hb7⟩
  have hB7 := hB6.trans (hb7.mono hB6.size)
  have HH7 := Hid.mk' (HHR.out w7 (hs6.below hb7))
  clear g0 g1 g2 g3 g4 g5 c0 c1 c2 c3 c4 c5 HV6 HE6
  obtain ⟨g0, g1, g2, g3, g4, g5⟩ := cells6 (hG6.below hb7)
  go_wp2_with fail
  refine HH7.out.mono ?_
  rintro e w8 ⟨rfl, hb8⟩
  have hB8 := hB7.trans (hb8.mono hB7.size)
  clear g0 g1 g2 g3 g4 g5 HH7
  go_wp2_with fail
  go_ret
  exact ⟨rfl, hB8⟩

theorem own : ownKnob Try.prog.godebug = none := by kernel_rfl
theorem laidOut : laidOutB Try.prog = true := by kernel_rfl

set_option maxRecDepth 100000 in
theorem lifted (os : Os) (started : os.Started) (H : Type) (enc : TypeId × Value → H) :
    ReturnsInHanded {} Try.checked os 3 .any (Rows.fnExactCoordNewSpec.pre6 enc Try.prog Try.f3 Rows.fnExactCoordNewRow.domain false) (Rows.fnExactCoordNewSpec.post enc Try.prog Try.f3 false true false false) := by
  refine returnsInHanded_of_change (C := Try.checked) own started (by kernel_rfl) Try.func3
    (ChangeSpec.witness6 (enc := enc) (C := Try.checked) false ⟨#[], #[.int .i64 0], []⟩ 8 (by kernel_rfl) (by kernel_rfl) (by kernel_rfl) (by kernel_rfl)) ?_
  intro W base args ds gs before hval0 hW hcnd _
  have hval : ∀ (j : Nat) t v, Try.f3.params[j]? = some t → args[j]? = some v → Value.okWide Try.prog W .any base t v := hval0
  have hW' := hW
  obtain ⟨p, q, hA0, hV, rfl, hfz, hnd⟩ := hW
  have hA : DataW.TrodAll enc Try.prog W 0 (fun _ => true) true Try.f3.params.toList args.toList ds p := hA0
  rw [Try.params3] at hA hval
  obtain ⟨v0, vs0, d0, ds0, p0, q0, hargs, rfl, rfl, h0, r0⟩ := trodAll_cons hA
  obtain ⟨rfl, rfl, rfl⟩ := trodAll_nil r0
  obtain rfl : args = #[v0] := by cases args; simp_all
  obtain ⟨rfl, rfl⟩ := trodVars_none hV
  obtain ⟨a0, rfl, rfl, rfl, w0⟩ := open_int Try.underlying3 (hval 0 3 v0 rfl rfl) h0
  clear hA0 hval0
  refine (walk a0 W w0).mono fun e W' ⟨he, bel⟩ => ?_
  subst he
  exact ⟨_, rfl, _, _, _, [], _, [], hW', trodAll_mk1 (shut_bool Try.underlying4 _), (trodAll_cons_mk (shut_int Try.underlying3 w0) trodAll_mk0), rfl, bel.frame _, fun h => by cases h⟩

theorem over : Rows.fnExactCoordNewRow.holds Try.pinned (OpenSpec.ofChange Rows.fnExactCoordNewSpec) :=
  OpenClaim.holds_of_wide 3 Try.f3 rfl rfl rfl rfl rfl rfl rfl ⟨rfl, rfl, rfl, rfl, rfl⟩ rfl rfl rfl rfl rfl (by kernel_rfl) Try.func3 (by kernel_rfl)
    (of_decide_eq_true (by kernel_rfl)) (by unfold Func.isWrapper; first | (rw [if_pos (by decide +kernel)]; kernel_rfl) | (rw [if_neg (by decide +kernel)]; exact ⟨rfl, rfl⟩))
    (fun os started H enc _ => lifted os started H enc)

theorem proved : Rows.FnExactCoordNewSaid := over
end Go.Proofs.Ytmpggohilmngpaa.fnExactCoordNew
