/- The statement FnExactWorldNewSaid: at every number FnExactWorldNew answers true, and the argument reads afterwards as before. No condition besides the row's own. -/
import Derived.Test.YtijplooogplccaaRows
import Derived.Test.YtijplooogplccaaShah
import Derived.Test.YtijplooogplccaaShai
import Derived.ProofKit
import Derived.OpenShut
import Derived.ShutString
import Derived.ChangeOld
import Derived.Below
namespace Go.Proofs.Ytijplooogplccaa.fnExactWorldNew
open Go.ChangeShapes Go.WideShapes Go.ChangeAt Go.RowKit
open Go.ChangeMaps (open_string shut_string)
set_option linter.unusedVariables false
set_option linter.unusedSimpArgs false
open Go.Proofs.Ytijplooogplccaa.base Go.Proofs.Ytijplooogplccaa.pairs Go.Proofs.Ytijplooogplccaa.ords Go.Proofs.Ytijplooogplccaa.lay Go.Proofs.Ytijplooogplccaa.wos

theorem new_see (n : Int) (hn : (Lit.int .i64 n).wf = true) (w : World) : cos.SeeCo w none 0 0 none 0 0 (cos.newR n) := by
  have h1 : (cos.newR n).2.2.2.1 = [] := by unfold cos.newR; split <;> rfl
  have h2 : (cos.newR n).2.2.2.2.1 = [] := by unfold cos.newR; split <;> rfl
  refine cos.see_co (cos.coordR.ownSee (F := []) (cos.coord_own.2 ⟨_, _, [], [], rfl, ?_, by rw [h1]; exact own_nil _ _ _, by rw [h2]; exact own_nil _ _ _, rfl, by simp⟩))
  unfold cos.newR
  split
  · exact ⟨hn, by show (Lit.int .i64 1).wf = true; decide, by show (Lit.int .i64 0).wf = true; decide, by show (Lit.int .i64 0).wf = true; decide⟩
  · exact ⟨by show (Lit.int .i64 0).wf = true; decide, by show (Lit.int .i64 0).wf = true; decide, by show (Lit.int .i64 0).wf = true; decide, by show (Lit.int .i64 0).wf = true; decide⟩
theorem world_new {w : World} {R : cos.Co} {sa : Option Addr} {n sc : Nat} (hc : cos.SeeCo w none 0 0 none 0 0 R) (h : OwnG 56 shardR w (.slice sa n sc) (shsN n) (partsN n)) : SeeWo w none 0 0 none 0 0 sa n sc none 0 0 none 0 0 none 0 0 (R, shsN n, ([] : List wds.Wd), [], []) := by
  obtain ⟨a, cap, e, h1, _⟩ := h.slice
  rw [shsN_len] at e h1
  cases e
  exact ⟨hc, h.sl, (ownG_nil 92 cos.wordR w).sl, (ownG_nil 92 cos.wordR w).sl, (ownG_nil 95 ordR w).sl, h1, Nat.le_refl _, Nat.le_refl _, Nat.le_refl _⟩
theorem cntN_le (x : Int) : cntN x ≤ 8 := by unfold cntN; split <;> omega
set_option maxRecDepth 100000 in
set_option maxHeartbeats 4000000 in
theorem walk (x : Int) (w : World) (hx0 : (Lit.int .i64 x).wf = true) :
    Calls Try.prog 3 #[.int .i64 x] w fun e w' => e = .returned (.bool true) ∧ Below w.heap.size w w' := by
  have HS := Hid.mk' (spec_worldNew x w hx0)
  have HI := Hid.mk' (fun wx => impl_worldNew x wx hx0)
  unfold RetNw at HS HI
  have HN := Hid.mk' (fun wx => new_see x hx0 wx)
  have hn8 := cntN_le x
  generalize cos.newR x = R at *
  generalize cntN x = n at *
  have HE : Hid (∀ (wx : World) (sa1 sa2 : Option Addr) (sc1 sc2 : Nat), OwnG 56 shardR wx (.slice sa1 n sc1) (shsN n) (partsN n) → OwnG 56 shardR wx (.slice sa2 n sc2) (shsN n) (partsN n) → Calls Try.prog 8 #[.agg #[.int .i64 R.1, .int .i64 R.2.1, .int .i64 R.2.2.1, .slice none 0 0, .slice none 0 0, .int .i64 R.2.2.2.2.2, .slice sa1 n sc1, .slice none 0 0, .slice none 0 0, .slice none 0 0], .agg #[.int .i64 R.1, .int .i64 R.2.1, .int .i64 R.2.2.1, .slice none 0 0, .slice none 0 0, .int .i64 R.2.2.2.2.2, .slice sa2 n sc2, .slice none 0 0, .slice none 0 0, .slice none 0 0]] wx fun e w' => e = .returned (.bool true) ∧ Below wx.heap.size wx w') := fun wx sa1 sa2 sc1 sc2 h1 h2 => eqWorldT none 0 0 none 0 0 sa1 n sc1 none 0 0 none 0 0 none 0 0 none 0 0 none 0 0 sa2 n sc2 none 0 0 none 0 0 none 0 0 (R, shsN n, [], [], []) wx (world_new (HN.out wx) h1) (world_new (HN.out wx) h2)
  go_enter Try.func3, Try.ntmps3
  go_wp2_with fail
  refine HS.out.mono ?_
  rintro e w1 ⟨sa1, sc1, rfl, hO1, _, hb1⟩
  obtain ⟨V1, hV1⟩ : ∃ V, w1.alloc (.cells #[.int .i64 R.1, .int .i64 R.2.1, .int .i64 R.2.2.1, .slice none 0 0, .slice none 0 0, .int .i64 R.2.2.2.2.2, .slice sa1 n sc1, .slice none 0 0, .slice none 0 0, .slice none 0 0] 30) = V := ⟨_, rfl⟩
  have hv1 : Below w1.heap.size w1 V1 := by rw [← hV1]; exact below_make
  have hW1 : BoxIn w1.heap.size 30 [] [.int .i64 R.1, .int .i64 R.2.1, .int .i64 R.2.2.1, .slice none 0 0, .slice none 0 0, .int .i64 R.2.2.2.2.2, .slice sa1 n sc1, .slice none 0 0, .slice none 0 0, .slice none 0 0] [] V1 := by rw [← hV1]; exact boxIn_new w1 _ _
  have hB1 := hb1.trans (hv1.mono hb1.size)
  have hP1 := hO1.below hv1
  have HV1 := Hid.mk' hV1
  clear hV1 HS hO1 hb1 hv1
  go_wp2_with fail
  rw [HV1.out]
  refine (HI.out V1).mono ?_
  rintro e w2 ⟨sa2, sc2, rfl, hO2, hF2, hb2⟩
  obtain ⟨V2, hV2⟩ : ∃ V, w2.alloc (.cells #[.int .i64 R.1, .int .i64 R.2.1, .int .i64 R.2.2.1, .slice none 0 0, .slice none 0 0, .int .i64 R.2.2.2.2.2, .slice sa2 n sc2, .slice none 0 0, .slice none 0 0, .slice none 0 0] 30) = V := ⟨_, rfl⟩
  have hv2 : Below w2.heap.size w2 V2 := by rw [← hV2]; exact below_make
  have hG2 : BoxIn w2.heap.size 30 [] [.int .i64 R.1, .int .i64 R.2.1, .int .i64 R.2.2.1, .slice none 0 0, .slice none 0 0, .int .i64 R.2.2.2.2.2, .slice sa2 n sc2, .slice none 0 0, .slice none 0 0, .slice none 0 0] [] V2 := by rw [← hV2]; exact boxIn_new w2 _ _
  have hbV := hb2.trans (hv2.mono hb2.size)
  have hW2 := hW1.below hbV
  have hB2 := hB1.trans (hbV.mono hB1.size)
  have hQ2 := hO2.below hv2
  have hlt2 : ∀ k ∈ (Value.slice sa2 n sc2).ownBlock.toList, k < w2.heap.size := fun k hk => hO2.at_ k (List.mem_append.2 (.inl hk))
  obtain ⟨g0, g1, g2, g3, g4, g5, g6, g7, g8, g9⟩ := cells10 hG2
  obtain ⟨c0, c1, c2, c3, c4, c5, c6, c7, c8, c9⟩ := cells10 hW2
  rw [← hV2] at g0 g1 g2 g3 g4 g5 g6 g7 g8 g9 c0 c1 c2 c3 c4 c5 c6 c7 c8 c9
  have HE2 := Hid.mk' (HE.out V2 sa2 sa1 sc2 sc1 hQ2 (hP1.below hbV))
  have HV2 := Hid.mk' hV2
  clear hV2 hO2
  go_wp2_with fail
  rw [HV2.out]
  refine HE2.out.mono ?_
  rintro e w3 ⟨rfl, hb3⟩
  have hG3 := hG2.below hb3
  have hbV3 := hbV.trans (hb3.mono hbV.size)
  have hR3 := rowE_own (hQ2.below hb3)
  have hs23 : w2.heap.size ≤ w3.heap.size := Nat.le_trans hv2.size hb3.size
  clear g0 g1 g2 g3 g4 g5 g6 g7 g8 g9 c0 c1 c2 c3 c4 c5 c6 c7 c8 c9 HV2 HE2
  obtain ⟨g0, g1, g2, g3, g4, g5, g6, g7, g8, g9⟩ := cells10 hG3
  have HM3 := Hid.mk' (new_markWorld R.1 R.2.1 R.2.2.1 R.2.2.2.2.2 sa2 n sc2 _ w3 hR3 hn8 (fun k hk => by have := hlt2 k hk; omega))
  clear hG2 hQ2 hv2 hb2
  go_wp2_with fail
  refine HM3.out.mono ?_
  rintro e w4 ⟨rfl, hR4, hf4⟩
  have hG4 := hG3.frame hf4 (fun e => by have := hlt2 _ e; omega)
  have hbV4 : Below V1.heap.size V1 w4 := hbV3.trans (hf4.bel (Nat.le_trans hbV3.size (Nat.le_refl _)) hF2)
  have HH4 := Hid.mk' (new_heldWorld R.1 R.2.1 R.2.2.1 R.2.2.2.2.2 sa2 n sc2 w4 hR4 hn8)
  clear g0 g1 g2 g3 g4 g5 g6 g7 g8 g9 HM3 hf4 hG3 hR3
  obtain ⟨g0, g1, g2, g3, g4, g5, g6, g7, g8, g9⟩ := cells10 hG4
  have hmm : (((1 + 2 * n : Nat) : Int) != ((1 + 2 * n : Nat) : Int)) = false := by simp
  have hm0 : ¬ ((1 + 2 * n : Nat) : Int) < 0 := by omega
  go_wp2_with fail
  refine HH4.out.mono ?_
  rintro e w5 ⟨rfl, hb5⟩
  have hG5 := hG4.below hb5
  have hbV5 := hbV4.trans (hb5.mono hbV4.size)
  have hR5 := hR4.below hb5
  clear g0 g1 g2 g3 g4 g5 g6 g7 g8 g9 HH4
  go_wp2_with fail
  refine (HI.out w5).mono ?_
  rintro e w6 ⟨sa6, sc6, rfl, hO6, _, hb6⟩
  obtain ⟨V6, hV6⟩ : ∃ V, w6.alloc (.cells #[.int .i64 R.1, .int .i64 R.2.1, .int .i64 R.2.2.1, .slice none 0 0, .slice none 0 0, .int .i64 R.2.2.2.2.2, .slice sa6 n sc6, .slice none 0 0, .slice none 0 0, .slice none 0 0] 30) = V := ⟨_, rfl⟩
  have hv6 : Below w6.heap.size w6 V6 := by rw [← hV6]; exact below_make
  have hH6 : BoxIn w6.heap.size 30 [] [.int .i64 R.1, .int .i64 R.2.1, .int .i64 R.2.2.1, .slice none 0 0, .slice none 0 0, .int .i64 R.2.2.2.2.2, .slice sa6 n sc6, .slice none 0 0, .slice none 0 0, .slice none 0 0] [] V6 := by rw [← hV6]; exact boxIn_new w6 _ _
  have hb56 := hb6.trans (hv6.mono hb6.size)
  have hbV6 := hbV5.trans (hb56.mono hbV5.size)
  have hG6 := hG5.below hb56
  have hR6 := hR5.below hb56
  have hW6 := hW1.below hbV6
  obtain ⟨g0, g1, g2, g3, g4, g5, g6, g7, g8, g9⟩ := cells10 hH6
  obtain ⟨c0, c1, c2, c3, c4, c5, c6, c7, c8, c9⟩ := cells10 hW6
  rw [← hV6] at g0 g1 g2 g3 g4 g5 g6 g7 g8 g9 c0 c1 c2 c3 c4 c5 c6 c7 c8 c9
  have HE6 := Hid.mk' (HE.out V6 sa6 sa1 sc6 sc1 (hO6.below hv6) (hP1.below hbV6))
  have HV6 := Hid.mk' hV6
  clear hV6 hO6
  go_wp2_with fail
  rw [HV6.out]
  refine HE6.out.mono ?_
  rintro e w7 ⟨rfl, hb7⟩
  have hB7 := hB1.trans ((hbV6.trans (hb7.mono hbV6.size)).mono hB1.size)
  have HH7 := Hid.mk' (new_heldWorld R.1 R.2.1 R.2.2.1 R.2.2.2.2.2 sa2 n sc2 w7 (hR6.below hb7) hn8)
  clear g0 g1 g2 g3 g4 g5 g6 g7 g8 g9 c0 c1 c2 c3 c4 c5 c6 c7 c8 c9 HV6 HE6
  obtain ⟨g0, g1, g2, g3, g4, g5, g6, g7, g8, g9⟩ := cells10 (hG6.below hb7)
  go_wp2_with fail
  refine HH7.out.mono ?_
  rintro e w8 ⟨rfl, hb8⟩
  have hB8 := hB7.trans (hb8.mono hB7.size)
  clear g0 g1 g2 g3 g4 g5 g6 g7 g8 g9 HH7
  go_wp2_with fail
  go_ret
  exact ⟨rfl, hB8⟩

theorem own : ownKnob Try.prog.godebug = none := by kernel_rfl
theorem laidOut : laidOutB Try.prog = true := by kernel_rfl

set_option maxRecDepth 100000 in
theorem lifted (os : Os) (started : os.Started) (H : Type) (enc : TypeId × Value → H) :
    ReturnsInHanded {} Try.checked os 3 .any (Rows.fnExactWorldNewSpec.pre6 enc Try.prog Try.f3 Rows.fnExactWorldNewRow.domain false) (Rows.fnExactWorldNewSpec.post enc Try.prog Try.f3 false true false false) := by
  refine returnsInHanded_of_change (C := Try.checked) own started (by kernel_rfl) Try.func3
    (ChangeSpec.witness6 (enc := enc) (C := Try.checked) false ⟨#[], #[.int .i64 0], []⟩ 8 (by kernel_rfl) (by kernel_rfl) (by kernel_rfl) (by kernel_rfl)) ?_
  intro W base args ds gs before hval0 hW hcnd _
  have hval : ∀ (j : Nat) t v, Try.f3.params[j]? = some t → args[j]? = some v → Value.okWide Try.prog W .any base t v := hval0
  have hW' := hW
  obtain ⟨p, q, hA0, hV, rfl, hfz, hnd⟩ := hW
  have hA : DataW.TrodAll enc Try.prog W 0 (fun _ => true) true Try.f3.params.toList args.toList ds p := hA0
  rw [Try.params3] at hA hval
  obtain ⟨v0, vs0, d0, ds0, p0, q0, hargs, rfl, rfl, h0, r0⟩ := trodAll_cons hA
  obtain ⟨rfl, rfl, rfl⟩ := trodAll_nil r0
  obtain rfl : args = #[v0] := by cases args; simp_all
  obtain ⟨rfl, rfl⟩ := trodVars_none hV
  obtain ⟨a0, rfl, rfl, rfl, w0⟩ := open_int Try.underlying3 (hval 0 3 v0 rfl rfl) h0
  clear hA0 hval0
  refine (walk a0 W w0).mono fun e W' ⟨he, bel⟩ => ?_
  subst he
  exact ⟨_, rfl, _, _, _, [], _, [], hW', trodAll_mk1 (shut_bool Try.underlying4 _), (trodAll_cons_mk (shut_int Try.underlying3 w0) trodAll_mk0), rfl, bel.frame _, fun h => by cases h⟩

theorem over : Rows.fnExactWorldNewRow.holds Try.pinned (OpenSpec.ofChange Rows.fnExactWorldNewSpec) :=
  OpenClaim.holds_of_wide 3 Try.f3 rfl rfl rfl rfl rfl rfl rfl ⟨rfl, rfl, rfl, rfl, rfl⟩ rfl rfl rfl rfl rfl (by kernel_rfl) Try.func3 (by kernel_rfl)
    (of_decide_eq_true (by kernel_rfl)) (by unfold Func.isWrapper; first | (rw [if_pos (by decide +kernel)]; kernel_rfl) | (rw [if_neg (by decide +kernel)]; exact ⟨rfl, rfl⟩))
    (fun os started H enc _ => lifted os started H enc)

theorem proved : Rows.FnExactWorldNewSaid := over
end Go.Proofs.Ytijplooogplccaa.fnExactWorldNew
