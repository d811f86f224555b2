/- The statement FnExactParseOpsSaid: at every string FnExactParseOps answers true, and the string reads afterwards as before. No condition besides the row's own. -/
import Derived.Test.YtefjbpkomphjdaaRows
import Derived.Test.YtefjbpkomphjdaaShaf
import Derived.ProofKit
import Derived.OpenShut
import Derived.ShutString
import Derived.ChangeOld
import Derived.Below
namespace Go.Proofs.Ytefjbpkomphjdaa.fnExactParseOps
open Go.ChangeShapes Go.WideShapes Go.ChangeAt Go.RowKit
open Go.ChangeMaps (open_string shut_string)
set_option linter.unusedVariables false
open Go.Proofs.Ytefjbpkomphjdaa.base Go.Proofs.Ytefjbpkomphjdaa.pairs Go.Proofs.Ytefjbpkomphjdaa.ords Go.Proofs.Ytefjbpkomphjdaa.txts

structure Duo (w0 w : World) (gg lg cg : Nat) (G : List Od) (gw lw cw : Nat) (W : List Od) : Prop where
  bel : Below w0.heap.size w0 w
  g : OwnO w w0.heap.size gg lg cg G
  s : OwnO w w0.heap.size gw lw cw W
  gs : gg ≠ gw
theorem Duo.below {w0 w w' : World} {gg lg cg gw lw cw : Nat} {G W : List Od} (h : Duo w0 w gg lg cg G gw lw cw W) (hb : Below w.heap.size w w') : Duo w0 w' gg lg cg G gw lw cw W :=
  ⟨h.bel.trans (hb.mono h.bel.size), h.g.below hb, h.s.below hb, h.gs⟩
theorem Duo.markG {w0 w w' : World} {gg lg cg gw lw cw : Nat} {G W G' : List Od} (h : Duo w0 w gg lg cg G gw lw cw W) (ho : OwnO w' w0.heap.size gg lg cg G') (hg : w.grownBy w' (some gg)) : Duo w0 w' gg lg cg G' gw lw cw W :=
  ⟨h.bel.grown hg h.bel.size (fun k e => by cases e; exact h.g.lt.1), ho, h.s.grown hg (by simpa using h.gs.symm), h.gs⟩
set_option maxRecDepth 100000 in
set_option maxHeartbeats 2000000 in
theorem walk (a0 : ByteArray) (w : World) (w0 : a0.size ≤ maxLen) :
    Calls Try.prog 6 #[.string a0] w fun e w' => e = .returned (.bool true) ∧ Below w.heap.size w w' := by
  have hm := w0
  unfold maxLen at hm
  by_cases hbig : 1048576 < a0.size
  · go_enter Try.func6, Try.ntmps6
    go_wp2_with fail
    go_ret
    exact ⟨rfl, Below.refl _ _⟩
  · obtain ⟨L, hL, hll⟩ : ∃ L, (parseOps a0.data.toList).getD [] = L ∧ L.length ≤ 8 := by
      cases hg : parseOps a0.data.toList with
      | none => exact ⟨[], rfl, by simp⟩
      | some l => exact ⟨l, rfl, ((opsOk_iff l).1 (parse_text hg).1).2.2⟩
    have HK := Hid.mk' hL
    clear hL
    cases hs : (parseOps a0.data.toList).isSome
    all_goals
      have HK2 := Hid.mk' hs
      clear hs
      go_enter Try.func6, Try.ntmps6
      go_wp2_with fail
      refine (spec_parse a0 _ (by omega)).mono ?_
      rintro e wb ⟨gw, lw, cw, rfl, hOw, hBw⟩
      rw [HK.out] at hOw
      rw [HK2.out]
      go_wp2_with fail
      refine (impl_parse a0 _ (by omega)).mono ?_
      rintro e wd ⟨gg, lg, cg, rfl, hOg, hBg⟩
      rw [HK.out] at hOg
      have T1 : Duo w wd gg lg cg L gw lw cw L :=
        ⟨hBw.trans (hBg.mono hBw.size), hOg.mono hBw.size, hOw.below hBg, by have := hOg.lt; have := hOw.lt; omega⟩
      have hlg : lg ≤ 8 := by have := T1.g.1; omega
      rw [HK2.out]
      clear hOw hBw hOg hBg
      go_wp2_with fail
      refine (eqO _ _ _ _ _ _ _ _ _ T1.g.sl T1.s.sl rfl).mono ?_
      rintro e w6 ⟨rfl, hB⟩
      have T6 := T1.below hB
      clear T1 hB
      go_wp2_with fail
      refine (markO _ _ _ _ 1 _ _ T6.g (by omega) (by omega) (by omega) _ (by show _ = _; rfl)).mono ?_
      rintro e w7 ⟨rfl, hx7, hg7⟩
      have T7 := T6.markG hx7 hg7
      clear T6 hx7 hg7
      go_wp2_with fail
      refine (heldO _ _ _ _ T7.g.sl (by omega)).mono ?_
      rintro e w8 ⟨rfl, hB⟩
      have T8 := T7.below hB
      clear T7 hB
      go_wp2_with fail
      refine (impl_parse a0 _ (by omega)).mono ?_
      rintro e w10 ⟨gh, lh, ch, rfl, hOh, hBh⟩
      rw [HK.out] at hOh
      rw [HK2.out]
      have T10 := T8.below hBh
      clear T8 hBh
      go_wp2_with fail
      refine (eqO _ _ _ _ _ _ _ _ _ hOh.sl T10.s.sl rfl).mono ?_
      rintro e w11 ⟨rfl, hB⟩
      have T11 := T10.below hB
      clear T10 hB hOh
      go_wp2_with fail
      refine (heldO _ _ _ _ T11.g.sl (by omega)).mono ?_
      rintro e w12 ⟨rfl, hB⟩
      have T12 := T11.below hB
      clear T11 hB
      go_wp2_with fail
      go_ret
      exact ⟨rfl, T12.bel⟩

theorem own : ownKnob Try.prog.godebug = none := by kernel_rfl
theorem laidOut : laidOutB Try.prog = true := by kernel_rfl

set_option maxRecDepth 100000 in
theorem lifted (os : Os) (started : os.Started) (H : Type) (enc : TypeId × Value → H) :
    ReturnsInHanded {} Try.checked os 6 .any (Rows.fnExactParseOpsSpec.pre6 enc Try.prog Try.f6 Rows.fnExactParseOpsRow.domain false) (Rows.fnExactParseOpsSpec.post enc Try.prog Try.f6 false true false false) := by
  refine returnsInHanded_of_change (C := Try.checked) own started (by kernel_rfl) Try.func6
    (ChangeSpec.witness6 (enc := enc) (C := Try.checked) false ⟨#[], #[.string ByteArray.empty], []⟩ 8 (by kernel_rfl) (by kernel_rfl) (by kernel_rfl) (by kernel_rfl)) ?_
  intro W base args ds gs before hval0 hW hcnd _
  have hval : ∀ (j : Nat) t v, Try.f6.params[j]? = some t → args[j]? = some v → Value.okWide Try.prog W .any base t v := hval0
  have hW' := hW
  obtain ⟨p, q, hA0, hV, rfl, hfz, hnd⟩ := hW
  have hA : DataW.TrodAll enc Try.prog W 0 (fun _ => true) true Try.f6.params.toList args.toList ds p := hA0
  rw [Try.params6] at hA hval
  obtain ⟨v0, vs0, d0, ds0, p0, q0, hargs, rfl, rfl, h0, r0⟩ := trodAll_cons hA
  obtain ⟨rfl, rfl, rfl⟩ := trodAll_nil r0
  obtain rfl : args = #[v0] := by cases args; simp_all
  obtain ⟨rfl, rfl⟩ := trodVars_none hV
  obtain ⟨a0, rfl, rfl, rfl, w0⟩ := open_string Try.underlying9 (hval 0 9 v0 rfl rfl) h0
  clear hA0 hval0
  refine (walk a0 W w0).mono fun e W' ⟨he, bel⟩ => ?_
  subst he
  exact ⟨_, rfl, _, _, _, [], _, [], hW', trodAll_mk1 (shut_bool Try.underlying4 _), (trodAll_cons_mk (shut_string Try.underlying9 w0) trodAll_mk0), rfl, bel.frame _, fun h => by cases h⟩

theorem over : Rows.fnExactParseOpsRow.holds Try.pinned (OpenSpec.ofChange Rows.fnExactParseOpsSpec) :=
  OpenClaim.holds_of_wide 6 Try.f6 rfl rfl rfl rfl rfl rfl rfl ⟨rfl, rfl, rfl, rfl, rfl⟩ rfl rfl rfl rfl rfl (by kernel_rfl) Try.func6 (by kernel_rfl)
    (of_decide_eq_true (by kernel_rfl)) (by unfold Func.isWrapper; first | (rw [if_pos (by decide +kernel)]; kernel_rfl) | (rw [if_neg (by decide +kernel)]; exact ⟨rfl, rfl⟩))
    (fun os started H enc _ => lifted os started H enc)

theorem proved : Rows.FnExactParseOpsSaid := over
end Go.Proofs.Ytefjbpkomphjdaa.fnExactParseOps
