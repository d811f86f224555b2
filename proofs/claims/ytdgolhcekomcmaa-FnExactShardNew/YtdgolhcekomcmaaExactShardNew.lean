/- The statement FnExactShardNewSaid: at every whole number FnExactShardNew answers true, and the argument reads afterwards as before. No condition besides the row's own. -/
import Derived.Test.YtdgolhcekomcmaaRows
import Derived.Test.YtdgolhcekomcmaaBund9aw
import Derived.ProofKit
import Derived.OpenShut
import Derived.ShutString
import Derived.ChangeOld
import Derived.Below
namespace Go.Proofs.Ytdgolhcekomcmaa.fnExactShardNew
open Go.ChangeShapes Go.WideShapes Go.ChangeAt Go.RowKit
open Go.ChangeMaps (open_string shut_string)
set_option linter.unusedVariables false
open Go.Proofs.Ytdgolhcekomcmaa.base Go.Proofs.Ytdgolhcekomcmaa.pairs Go.Proofs.Ytdgolhcekomcmaa.ords Go.Proofs.Ytdgolhcekomcmaa.help Go.Proofs.Ytdgolhcekomcmaa.helps Go.Proofs.Ytdgolhcekomcmaa.recs Go.Proofs.Ytdgolhcekomcmaa.lay

theorem below_one {w : World} {o : Obj} : Below w.heap.size w (w.alloc o) := (Below.refl _ _).alloc (Nat.le_refl _) _
set_option maxRecDepth 100000 in
set_option maxHeartbeats 4000000 in
theorem walk (a : Int) (w : World) (h : (Lit.int .i64 a).wf = true) :
    Calls Try.prog 7 #[.int .i64 a] w fun e w' => e = .returned (.bool true) ∧ Below w.heap.size w w' := by
  obtain ⟨z, hz⟩ : ∃ z, (newShd a).1 = z := ⟨_, rfl⟩
  have hzw : (Lit.int .i64 z).wf = true := by
    rw [← hz]; unfold newShd; split
    · exact h
    · rfl
  have HS := Hid.mk' (fun wx => spec_shardNew a wx)
  have HI := Hid.mk' (fun wx => impl_shardNew a wx)
  rw [hz] at HS HI
  unfold nilShd at HS HI
  have hOn : ∀ wx, OwnSh wx none 0 0 none 0 0 none 0 0 (z, [], 0, [], []) [] := fun wx => ownSh_new wx z hzw
  have HEQ := Hid.mk' (fun wx => eqShardT none 0 0 none 0 0 none 0 0 none 0 0 none 0 0 none 0 0 (z, [], 0, [], []) wx (hOn wx).see (hOn wx).see)
  have HMK := Hid.mk' (fun wx => markShard none 0 0 none 0 0 none 0 0 (z, [], 0, [], []) [] 1 wx (hOn wx) (by omega) (by simp [cntS, cntR]) (by omega) (by omega) 1 (by show _ = _; rfl))
  have HHD := Hid.mk' (fun wx => heldShard none 0 0 none 0 0 none 0 0 (z, [], 0, [], []) 1 wx (hOn wx).see (by omega) (by simp [cntS, cntR]) (by omega) (by omega) 1 (by show _ = _; rfl))
  have hc : 1 + cntS (z, [], 0, [], []) = 1 := by simp [cntS, cntR]
  rw [hc] at HMK HHD
  clear hz hOn hc
  go_enter Try.func7, Try.ntmps7
  go_wp2_with fail
  refine (HS.out _).mono ?_
  rintro e w1 ⟨rfl, hb1⟩
  obtain ⟨v1, hv1⟩ : ∃ v1, w1.alloc (boxSh z 0 none 0 0 none 0 0 none 0 0) = v1 := ⟨_, rfl⟩
  have hc1 : Below w1.heap.size w1 v1 := by rw [← hv1]; exact below_one
  have hW1 : BoxIn w1.heap.size 35 [] (shVals z 0 none 0 0 none 0 0 none 0 0) [] v1 := by rw [← hv1]; exact boxIn_new w1 _ _
  have hB1 := hb1.trans (hc1.mono hb1.size)
  have HV1 := Hid.mk' hv1
  have HI1 := Hid.mk' (HI.out v1)
  clear hv1 HS hb1 hc1
  go_wp2_with fail
  rw [HV1.out]
  refine HI1.out.mono ?_
  rintro e w2 ⟨rfl, hb2⟩
  obtain ⟨v2, hv2⟩ : ∃ v2, w2.alloc (boxSh z 0 none 0 0 none 0 0 none 0 0) = v2 := ⟨_, rfl⟩
  have hc2 : Below w2.heap.size w2 v2 := by rw [← hv2]; exact below_one
  have hG2 : BoxIn w2.heap.size 35 [] (shVals z 0 none 0 0 none 0 0 none 0 0) [] v2 := by rw [← hv2]; exact boxIn_new w2 _ _
  have hW2 := (hW1.below hb2).below hc2
  have hB2 := (hB1.trans (hb2.mono hB1.size)).trans (hc2.mono (Nat.le_trans hB1.size hb2.size))
  have HV2 := Hid.mk' hv2
  have a0 := hG2.cell 0 _ rfl
  have a1 := hG2.cell 1 _ rfl
  have a2 := hG2.cell 2 _ rfl
  have a3 := hG2.cell 3 _ rfl
  have a4 := hG2.cell 4 _ rfl
  simp only [List.length_nil, Nat.zero_add] at a0 a1 a2 a3 a4
  have c0 := hW2.cell 0 _ rfl
  have c1 := hW2.cell 1 _ rfl
  have c2 := hW2.cell 2 _ rfl
  have c3 := hW2.cell 3 _ rfl
  have c4 := hW2.cell 4 _ rfl
  simp only [List.length_nil, Nat.zero_add] at c0 c1 c2 c3 c4
  rw [← hv2] at a0 a1 a2 a3 a4 c0 c1 c2 c3 c4
  have HE2 := Hid.mk' (HEQ.out v2)
  clear hv2 hb2 hc2 HI1 HV1 hW1
  go_wp2_with fail
  rw [HV2.out]
  refine HE2.out.mono ?_
  rintro e w3 ⟨rfl, hb3⟩
  have hG3 := hG2.below hb3
  have hW3 := hW2.below hb3
  have hB3 := hB2.trans (hb3.mono hB2.size)
  clear a0 a1 a2 a3 a4 c0 c1 c2 c3 c4 HE2 HV2 hb3 hG2 hW2
  have a0 := hG3.cell 0 _ rfl
  have a1 := hG3.cell 1 _ rfl
  have a2 := hG3.cell 2 _ rfl
  have a3 := hG3.cell 3 _ rfl
  have a4 := hG3.cell 4 _ rfl
  simp only [List.length_nil, Nat.zero_add] at a0 a1 a2 a3 a4
  go_wp2_with fail
  refine (HMK.out _).mono ?_
  rintro e w4 ⟨rfl, _, hf4⟩
  have hb4 : Below w3.heap.size w3 w4 := hf4.bel (Nat.le_refl _) (fun k hk => absurd hk List.not_mem_nil)
  have hG4 := hG3.below hb4
  have hW4 := hW3.below hb4
  have hB4 := hB3.trans (hb4.mono hB3.size)
  clear a0 a1 a2 a3 a4 hb4 hf4 hG3 hW3 HMK
  have a0 := hG4.cell 0 _ rfl
  have a1 := hG4.cell 1 _ rfl
  have a2 := hG4.cell 2 _ rfl
  have a3 := hG4.cell 3 _ rfl
  have a4 := hG4.cell 4 _ rfl
  simp only [List.length_nil, Nat.zero_add] at a0 a1 a2 a3 a4
  go_wp2_with fail
  refine (HHD.out _).mono ?_
  rintro e w5 ⟨rfl, hb5⟩
  have hG5 := hG4.below hb5
  have hW5 := hW4.below hb5
  have hB5 := hB4.trans (hb5.mono hB4.size)
  clear a0 a1 a2 a3 a4 hb5 hG4 hW4
  go_wp2_with fail
  refine (HI.out _).mono ?_
  rintro e w6 ⟨rfl, hb6⟩
  obtain ⟨v6, hv6⟩ : ∃ v6, w6.alloc (boxSh z 0 none 0 0 none 0 0 none 0 0) = v6 := ⟨_, rfl⟩
  have hc6 : Below w6.heap.size w6 v6 := by rw [← hv6]; exact below_one
  have hH6 : BoxIn w6.heap.size 35 [] (shVals z 0 none 0 0 none 0 0 none 0 0) [] v6 := by rw [← hv6]; exact boxIn_new w6 _ _
  have hW6 := (hW5.below hb6).below hc6
  have hG6 := (hG5.below hb6).below hc6
  have hB6 := (hB5.trans (hb6.mono hB5.size)).trans (hc6.mono (Nat.le_trans hB5.size hb6.size))
  have HV6 := Hid.mk' hv6
  have a0 := hH6.cell 0 _ rfl
  have a1 := hH6.cell 1 _ rfl
  have a2 := hH6.cell 2 _ rfl
  have a3 := hH6.cell 3 _ rfl
  have a4 := hH6.cell 4 _ rfl
  simp only [List.length_nil, Nat.zero_add] at a0 a1 a2 a3 a4
  have c0 := hW6.cell 0 _ rfl
  have c1 := hW6.cell 1 _ rfl
  have c2 := hW6.cell 2 _ rfl
  have c3 := hW6.cell 3 _ rfl
  have c4 := hW6.cell 4 _ rfl
  simp only [List.length_nil, Nat.zero_add] at c0 c1 c2 c3 c4
  rw [← hv6] at a0 a1 a2 a3 a4 c0 c1 c2 c3 c4
  have HE6 := Hid.mk' (HEQ.out v6)
  clear hv6 hb6 hc6 HI hG5 hW5
  go_wp2_with fail
  rw [HV6.out]
  refine HE6.out.mono ?_
  rintro e w7 ⟨rfl, hb7⟩
  have hG7 := hG6.below hb7
  have hB7 := hB6.trans (hb7.mono hB6.size)
  clear a0 a1 a2 a3 a4 c0 c1 c2 c3 c4 HE6 HV6 hb7 hG6 hW6 hH6
  have a0 := hG7.cell 0 _ rfl
  have a1 := hG7.cell 1 _ rfl
  have a2 := hG7.cell 2 _ rfl
  have a3 := hG7.cell 3 _ rfl
  have a4 := hG7.cell 4 _ rfl
  simp only [List.length_nil, Nat.zero_add] at a0 a1 a2 a3 a4
  go_wp2_with fail
  refine (HHD.out _).mono ?_
  rintro e w8 ⟨rfl, hb8⟩
  have hB8 := hB7.trans (hb8.mono hB7.size)
  clear a0 a1 a2 a3 a4 hb8 hG7 HHD
  go_wp2_with fail
  go_ret
  exact ⟨rfl, hB8⟩

theorem own : ownKnob Try.prog.godebug = none := by kernel_rfl
theorem laidOut : laidOutB Try.prog = true := by kernel_rfl

set_option maxRecDepth 100000 in
theorem lifted (os : Os) (started : os.Started) (H : Type) (enc : TypeId × Value → H) :
    ReturnsInHanded {} Try.checked os 7 .any (Rows.fnExactShardNewSpec.pre6 enc Try.prog Try.f7 Rows.fnExactShardNewRow.domain false) (Rows.fnExactShardNewSpec.post enc Try.prog Try.f7 false true false false) := by
  refine returnsInHanded_of_change (C := Try.checked) own started (by kernel_rfl) Try.func7
    (ChangeSpec.witness6 (enc := enc) (C := Try.checked) false ⟨#[], #[.int .i64 0], []⟩ 8 (by kernel_rfl) (by kernel_rfl) (by kernel_rfl) (by kernel_rfl)) ?_
  intro W base args ds gs before hval0 hW hcnd _
  have hval : ∀ (j : Nat) t v, Try.f7.params[j]? = some t → args[j]? = some v → Value.okWide Try.prog W .any base t v := hval0
  have hW' := hW
  obtain ⟨p, q, hA0, hV, rfl, hfz, hnd⟩ := hW
  have hA : DataW.TrodAll enc Try.prog W 0 (fun _ => true) true Try.f7.params.toList args.toList ds p := hA0
  rw [Try.params7] at hA hval
  obtain ⟨v0, vs0, d0, ds0, p0, q0, hargs, rfl, rfl, h0, r0⟩ := trodAll_cons hA
  obtain ⟨rfl, rfl, rfl⟩ := trodAll_nil r0
  obtain rfl : args = #[v0] := by cases args; simp_all
  obtain ⟨rfl, rfl⟩ := trodVars_none hV
  obtain ⟨a0, rfl, rfl, rfl, w0⟩ := open_int Try.underlying3 (hval 0 3 v0 rfl rfl) h0
  clear hA0 hval0
  refine (walk a0 W w0).mono fun e W' ⟨he, bel⟩ => ?_
  subst he
  exact ⟨_, rfl, _, _, _, [], _, [], hW', trodAll_mk1 (shut_bool Try.underlying4 _), (trodAll_cons_mk (shut_int Try.underlying3 w0) trodAll_mk0), rfl, bel.frame _, fun h => by cases h⟩

theorem over : Rows.fnExactShardNewRow.holds Try.pinned (OpenSpec.ofChange Rows.fnExactShardNewSpec) :=
  OpenClaim.holds_of_wide 7 Try.f7 rfl rfl rfl rfl rfl rfl rfl ⟨rfl, rfl, rfl, rfl, rfl⟩ rfl rfl rfl rfl rfl (by kernel_rfl) Try.func7 (by kernel_rfl)
    (of_decide_eq_true (by kernel_rfl)) (by unfold Func.isWrapper; first | (rw [if_pos (by decide +kernel)]; kernel_rfl) | (rw [if_neg (by decide +kernel)]; exact ⟨rfl, rfl⟩))
    (fun os started H enc _ => lifted os started H enc)

theorem proved : Rows.FnExactShardNewSaid := over
end Go.Proofs.Ytdgolhcekomcmaa.fnExactShardNew
