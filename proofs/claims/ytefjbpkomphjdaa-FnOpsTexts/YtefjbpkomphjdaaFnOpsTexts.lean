/- The statement FnOpsTextsSaid: at every slice of bytes FnOpsTexts answers true, and the slice reads afterwards as before. No condition besides the row's own. -/
import Derived.Test.YtefjbpkomphjdaaRows
import Derived.Test.YtefjbpkomphjdaaShaa
import Derived.Test.YtefjbpkomphjdaaShae
import Derived.Test.YtefjbpkomphjdaaShah
import Derived.Test.YtefjbpkomphjdaaShaf
import Derived.ProofKit
import Derived.OpenShut
import Derived.ShutString
import Derived.ChangeOld
import Derived.Below
namespace Go.Proofs.Ytefjbpkomphjdaa.fnOpsTexts
open Go.ChangeShapes Go.WideShapes Go.ChangeAt Go.RowKit
open Go.ChangeMaps (open_string shut_string)
set_option linter.unusedVariables false
open Go.Proofs.Ytefjbpkomphjdaa.base Go.Proofs.Ytefjbpkomphjdaa.pairs Go.Proofs.Ytefjbpkomphjdaa.ords Go.Proofs.Ytefjbpkomphjdaa.txts

theorem tpost_some {w w' : World} {r : Option (List Od)} {l : List Od} {e : Ending} (h : TPost w r e w') (hr : r = some l) : ∃ g n cp, e = .returned (.tuple #[.slice (some ⟨g, 0, none⟩) n cp, .bool true]) ∧ OwnO w' w.heap.size g n cp l ∧ Below w.heap.size w w' := by subst hr; exact h
theorem drewn_below (w : World) (n : Nat) : Below w.heap.size w (w.drewN n) := ⟨rfl, rfl, rfl, Nat.le_refl _, fun _ _ => rfl⟩
theorem toList_ne {T : ByteArray} (h : T.data.toList ≠ []) : ¬ T.toList = [] ∧ T.toList.isEmpty = false := by
  rw [ByteArray.toList_eq]
  exact ⟨h, by rw [Bool.eq_false_iff]; intro e; exact h (List.isEmpty_iff.1 e)⟩

set_option maxRecDepth 100000 in
set_option maxHeartbeats 4000000 in
theorem walk (a0 : Option Addr) (len0 cap0 : Nat) (b0 : List UInt8) (w : World) (w0 : Sl w a0 len0 b0) :
    Calls Try.prog 3 #[.slice a0 len0 cap0] w fun e w' => e = .returned (.bool true) ∧ Below w.heap.size w w' := by
  have hm := w0.2.1
  by_cases hbig : 1048576 < len0
  · have hb := big_ a0 len0 cap0 w hm
    rw [decide_eq_true (by omega)] at hb
    have HB := Hid.mk' hb
    clear hb
    go_enter Try.func3, Try.ntmps3
    go_wp2_with fail
    refine HB.out.mono ?_
    rintro e wa ⟨rfl, rfl⟩
    go_wp2_with fail
    go_ret
    exact ⟨rfl, Below.refl _ _⟩
  · have hb := big_ a0 len0 cap0 w hm
    rw [decide_eq_false (by omega)] at hb
    have HB := Hid.mk' hb
    clear hb
    go_enter Try.func3, Try.ntmps3
    go_wp2_with fail
    refine HB.out.mono ?_
    rintro e wa ⟨rfl, hwa⟩
    subst hwa
    clear HB
    go_wp2_with fail
    refine (drawOpsText a0 len0 cap0 b0 _ w0 (by omega)).mono ?_
    rintro e w1 ⟨g, n, cp, l, hn, htl, rfl, hL1, hB1⟩
    have hks : Hid (∀ p ∈ l, p.2.1.size ≤ 1099511627776) := fun p hp => by have := (htl p hp).2.2.1; omega
    have HI := Hid.mk' (impl_opsText g n cp l w1 hL1.sl hks.out)
    have hSL := hL1.sl
    clear htl hL1
    obtain ⟨T, hT⟩ : ∃ T : ByteArray, (⟨(opsText l).toArray⟩ : ByteArray) = T := ⟨_, rfl⟩
    rw [hT] at HI
    have HS : Hid (∀ wx, Below w1.heap.size w1 wx → Calls Try.prog 12 #[.slice (some ⟨g, 0, none⟩) n cp] wx fun e w' => e = .returned (.string T) ∧ Below wx.heap.size wx w') := fun wx hx => by
      have := spec_opsText g n cp l wx (hSL.below hx) hks.out
      rw [hT] at this
      exact this
    have hTT : (T.toList == T.toList) = true := by simp
    have hTT2 : (T.toList != T.toList) = false := by simp
    by_cases he : opsText l = []
    · have hTe : T = ⟨#[]⟩ := by rw [← hT, he]
      subst hTe
      clear hT he hSL
      go_wp2_with fail
      refine HI.out.mono ?_
      rintro e w2 ⟨rfl, hb2⟩
      have HS2 := Hid.mk' (HS.out _ hb2)
      go_wp2_with fail
      refine HS2.out.mono ?_
      rintro e w3 ⟨rfl, hb3⟩
      have hb4 := hb2.trans (hb3.mono hb2.size)
      have HS3 := Hid.mk' (HS.out _ hb4)
      go_wp2_with fail
      refine HS3.out.mono ?_
      rintro e w4 ⟨rfl, hb5⟩
      go_wp2_with fail
      go_ret
      have hb6 := hb4.trans (hb5.mono hb4.size)
      exact ⟨rfl, hB1.trans (hb6.mono hB1.size)⟩
    · obtain ⟨hok, hpl⟩ := text_some he
      have hps := text_parse hok hpl
      have hTl : T.data.toList = opsText l := by rw [← hT]
      have hts : T.size ≤ 1099511627776 := by
        have h1 := texts_room hok
        have h2 := join_room (l.map odText)
        rw [← size_len, hTl]
        unfold opsText
        rw [if_pos ⟨hok, hpl⟩]
        omega
      obtain ⟨hne, hne2⟩ := toList_ne (T := T) (by rw [hTl]; exact he)
      have HP := Hid.mk' (fun wx => impl_parse T wx hts)
      rw [hTl] at HP
      have HPS := Hid.mk' hps
      have hne3 : (T.toList == []) = false := by rw [beq_eq_false_iff_ne]; exact hne
      have HSM : Hid (∀ wx gx nx cx, SlO wx (some ⟨gx, 0, none⟩) nx l → Below w1.heap.size w1 wx → Calls Try.prog 14 #[.slice (some ⟨gx, 0, none⟩) nx cx, .slice (some ⟨g, 0, none⟩) n cp] wx fun e w' => e = .returned (.bool true) ∧ Below wx.heap.size wx w') := fun wx gx nx cx hs hx => (sameOps (some ⟨gx, 0, none⟩) (some ⟨g, 0, none⟩) nx cx n cp l l wx hs (hSL.below hx)).mono fun e w' ⟨he, k, hw⟩ => ⟨by rw [he]; exact ret_bool (decide_eq_true rfl), by rw [hw]; exact drewn_below _ _⟩
      clear hT he hSL hok hpl hps hTl
      go_wp2_with fail
      refine HI.out.mono ?_
      rintro e w2 ⟨rfl, hb2⟩
      have HS2 := Hid.mk' (HS.out _ hb2)
      go_wp2_with fail
      refine HS2.out.mono ?_
      rintro e w3 ⟨rfl, hb3⟩
      have hb4 := hb2.trans (hb3.mono hb2.size)
      go_wp2_with fail
      refine (HP.out _).mono ?_
      intro e w4 hpo
      obtain ⟨gp, np, cpp, rfl, hOp, hb5⟩ := tpost_some hpo HPS.out
      have hb6 := hb4.trans (hb5.mono hb4.size)
      have HM := Hid.mk' (HSM.out _ gp np cpp hOp.sl hb6)
      clear hOp hpo
      go_wp2_with fail
      refine HM.out.mono ?_
      rintro e w5 ⟨rfl, hb7⟩
      go_wp2_with fail
      go_ret
      have hb8 := hb6.trans (hb7.mono hb6.size)
      exact ⟨rfl, hB1.trans (hb8.mono hB1.size)⟩

theorem own : ownKnob Try.prog.godebug = none := by kernel_rfl
theorem laidOut : laidOutB Try.prog = true := by kernel_rfl

set_option maxRecDepth 100000 in
theorem lifted (os : Os) (started : os.Started) (H : Type) (enc : TypeId × Value → H) :
    ReturnsInHanded {} Try.checked os 3 .any (Rows.fnOpsTextsSpec.pre6 enc Try.prog Try.f3 Rows.fnOpsTextsRow.domain false) (Rows.fnOpsTextsSpec.post enc Try.prog Try.f3 false true false false) := by
  refine returnsInHanded_of_change (C := Try.checked) own started (by kernel_rfl) Try.func3
    (ChangeSpec.witness6 (enc := enc) (C := Try.checked) false ⟨#[], #[.slice none 0 0], []⟩ 8 (by kernel_rfl) (by kernel_rfl) (by kernel_rfl) (by kernel_rfl)) ?_
  intro W base args ds gs before hval0 hW hcnd _
  have hval : ∀ (j : Nat) t v, Try.f3.params[j]? = some t → args[j]? = some v → Value.okWide Try.prog W .any base t v := hval0
  have hW' := hW
  obtain ⟨p, q, hA0, hV, rfl, hfz, hnd⟩ := hW
  have hA : DataW.TrodAll enc Try.prog W 0 (fun _ => true) true Try.f3.params.toList args.toList ds p := hA0
  rw [Try.params3] at hA hval
  obtain ⟨v0, vs0, d0, ds0, p0, q0, hargs, rfl, rfl, h0, r0⟩ := trodAll_cons hA
  obtain ⟨rfl, rfl, rfl⟩ := trodAll_nil r0
  obtain rfl : args = #[v0] := by cases args; simp_all
  obtain ⟨rfl, rfl⟩ := trodVars_none hV
  obtain ⟨a0, len0, cap0, rfl⟩ := okWide_slice Try.underlying22 (hval 0 22 v0 rfl rfl)
  have k0 := h0
  have lt0 : ∀ x ∈ p0, x.block < W.heap.size := by obtain ⟨m, hm⟩ := k0; exact DataW.trod_lt m _ _ _ hm
  obtain ⟨b0, w0⟩ : ∃ bs, Sl W a0 len0 bs := by
    obtain ⟨fuel, hf⟩ := h0
    rcases open_ints Try.underlying22 Try.underlying5 (by kernel_rfl) hf with ⟨hcs, _⟩ | ⟨x, l, c, zs, hcs, _, hl, hm, hz, _, hcell, hwz⟩
    · simp [Value.cells] at hcs
      obtain ⟨rfl, rfl, rfl⟩ := hcs
      exact ⟨[], sl_nil _ _⟩
    · simp [Value.cells] at hcs
      obtain ⟨rfl, rfl, rfl⟩ := hcs
      exact ⟨_, sl_of_ints hl hm (by simpa using hz) hcell hwz⟩
  clear hA0 hval0
  refine (walk a0 len0 cap0 b0 W w0).mono fun e W' ⟨he, bel⟩ => ?_
  subst he
  exact ⟨_, rfl, _, _, _, [], _, [], hW', trodAll_mk1 (shut_bool Try.underlying4 _), (trodAll_cons_mk (Below.trod laidOut (by kernel_rfl) (of_decide_eq_true (by kernel_rfl)) k0 bel lt0) trodAll_mk0), rfl, bel.frame _, fun h => by cases h⟩

theorem over : Rows.fnOpsTextsRow.holds Try.pinned (OpenSpec.ofChange Rows.fnOpsTextsSpec) :=
  OpenClaim.holds_of_wide 3 Try.f3 rfl rfl rfl rfl rfl rfl rfl ⟨rfl, rfl, rfl, rfl, rfl⟩ rfl rfl rfl rfl rfl (by kernel_rfl) Try.func3 (by kernel_rfl)
    (of_decide_eq_true (by kernel_rfl)) (by unfold Func.isWrapper; first | (rw [if_pos (by decide +kernel)]; kernel_rfl) | (rw [if_neg (by decide +kernel)]; exact ⟨rfl, rfl⟩))
    (fun os started H enc _ => lifted os started H enc)

theorem proved : Rows.FnOpsTextsSaid := over
end Go.Proofs.Ytefjbpkomphjdaa.fnOpsTexts
