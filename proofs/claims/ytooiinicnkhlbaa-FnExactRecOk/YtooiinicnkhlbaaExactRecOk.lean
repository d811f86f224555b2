/- The statement FnExactRecOkSaid: at every record FnExactRecOk answers true, and the arguments read afterwards as before. No condition besides the row's own. -/
import Derived.Test.YtooiinicnkhlbaaRows
import Derived.Test.YtooiinicnkhlbaaRecJ
import Derived.Test.YtooiinicnkhlbaaRecTrio
import Derived.ProofKit
import Derived.OpenShut
import Derived.ShutString
import Derived.ChangeOld
import Derived.Below
namespace Go.Proofs.Ytooiinicnkhlbaa.fnExactRecOk
open Go.ChangeShapes Go.WideShapes Go.ChangeAt Go.RowKit
open Go.ChangeMaps (open_string shut_string)
set_option linter.unusedVariables false
open Go.Proofs.Ytooiinicnkhlbaa.base Go.Proofs.Ytooiinicnkhlbaa.pairs Go.Proofs.Ytooiinicnkhlbaa.ords Go.Proofs.Ytooiinicnkhlbaa.help Go.Proofs.Ytooiinicnkhlbaa.helps Go.Proofs.Ytooiinicnkhlbaa.recs

set_option maxRecDepth 100000 in
set_option maxHeartbeats 4000000 in
theorem walk (kind tx : Int) (a : Option Addr) (len cap : Nat) (l : List Od) (w : World) (_ : (Lit.int .i64 kind).wf = true) (_ : (Lit.int .i64 tx).wf = true) (h : SlO w a len l) :
    Calls Try.prog 4 #[.agg #[.int .i64 kind, .int .i64 tx, .slice a len cap]] w fun e w' => e = .returned (.bool true) ∧ Below w.heap.size w w' := by
  have hlen := h.1
  obtain ⟨W, hW⟩ : ∃ W, w.alloc (.cells #[.int .i64 kind, .int .i64 tx, .slice a len cap] 36) = W := ⟨_, rfl⟩
  have hBW : Below w.heap.size w W := by rw [← hW]; exact (Below.refl _ _).alloc (Nat.le_refl _) _
  have hV : V3 W w.heap.size 36 (.int .i64 kind) (.int .i64 tx) (.slice a len cap) := by rw [← hW]; exact v3n w _ _ _ _
  have HW := Hid.mk' hW
  have hsz := szRec kind tx a len cap l 1048576 W (h.below hBW) (by omega)
  clear hW
  by_cases hover : 1048576 < l.length + sumO l
  · rw [szR_neg hover] at hsz
    have HZ := Hid.mk' hsz
    clear hsz
    go_enter Try.func4, Try.ntmps4
    go_wp2_with fail
    rw [HW.out]
    refine HZ.out.mono ?_
    rintro e wa ⟨rfl, hB⟩
    have hB1 := hBW.trans (hB.mono hBW.size)
    go_wp2_with fail
    go_ret
    exact ⟨rfl, hB1⟩
  rw [szR_pos (by omega)] at hsz
  obtain ⟨r, hrr⟩ : ∃ r : Nat, ((1048576 : Nat) : Int) - ((l.length + sumO l : Nat) : Int) = (r : Int) := ⟨1048576 - (l.length + sumO l), by omega⟩
  rw [hrr] at hsz
  have HZ := Hid.mk' hsz
  clear hsz hrr
  have hks : ∀ p ∈ l, p.2.1.size ≤ 1099511627776 := fun p hp => by have := osz_le l p hp; unfold osz at this; omega
  have HTP := Hid.mk' (fun wx (hx : Below w.heap.size w wx) => toRec kind tx a len cap l wx (h.below hx) (by omega))
  have HSC := Hid.mk' (fun g c base wx (ho : OwnO wx base g len c l) => spec_recOk kind tx (some ⟨g, 0, none⟩) len c l wx ho.sl hks)
  have HIC := Hid.mk' (fun g c base wx (ho : OwnO wx base g len c l) => impl_recOk kind tx (some ⟨g, 0, none⟩) len c l wx ho.sl hks)
  generalize recOk (kind, tx, l) = R at *
  have c0 := hV.c0
  have c1 := hV.c1
  have c2 := hV.c2
  clear h hks
  go_enter Try.func4, Try.ntmps4
  go_wp2_with fail
  rw [HW.out]
  refine HZ.out.mono ?_
  rintro e wa ⟨rfl, hba⟩
  have hBa := hBW.trans (hba.mono hBW.size)
  have hVa := hV.below hba
  have d0 := hVa.c0
  have d1 := hVa.c1
  have d2 := hVa.c2
  have HVa := Hid.mk' hVa
  clear hba hVa c0 c1 c2 hBW hV HZ HW
  go_wp2_with fail
  refine (HTP.out _ hBa).mono ?_
  rintro e wb ⟨g1, rfl, hO1, hb1⟩
  have hBb := hBa.trans (hb1.mono hBa.size)
  have HVb := Hid.mk' (HVa.out.below hb1)
  have HO1 := Hid.mk' hO1
  clear hO1 hb1 HVa d0 d1 d2
  go_wp2_with fail
  refine (HSC.out _ _ _ _ HO1.out).mono ?_
  rintro e wc ⟨rfl, hbc⟩
  have hBc := hBb.trans (hbc.mono hBb.size)
  have hVc := HVb.out.below hbc
  have d0 := hVc.c0
  have d1 := hVc.c1
  have d2 := hVc.c2
  have HVc := Hid.mk' hVc
  clear hbc hVc HVb HO1 hBb
  go_wp2_with fail
  refine (HTP.out _ hBc).mono ?_
  rintro e wd ⟨g2, rfl, hO2, hb2⟩
  have hBd := hBc.trans (hb2.mono hBc.size)
  have hba : Below wd.heap.size wd (wd.alloc (.cells #[.int .i64 kind, .int .i64 tx, .slice (some ⟨g2, 0, none⟩) len len] 32)) := (Below.refl _ _).alloc (Nat.le_refl _) _
  have hvx : V3 (wd.alloc (.cells #[.int .i64 kind, .int .i64 tx, .slice (some ⟨g2, 0, none⟩) len len] 32)) wd.heap.size 32 (.int .i64 kind) (.int .i64 tx) (.slice (some ⟨g2, 0, none⟩) len len) := v3n wd _ _ _ _
  have hBe := hBd.trans (hba.mono hBd.size)
  have D := Hid.mk' (DuoR.mk (w0 := w) hBe ((HVc.out.below hb2).below hba) hvx ((hO2.mono hBc.size).below hba) hO2.lt.2 (by have := hO2.lt.1; have := HVc.out.lt; omega))
  clear hO2 hb2 hBd hba hvx HVc d0 d1 d2 hBc
  go_wp2_with fail
  refine (HIC.out _ _ _ _ D.out.x).mono ?_
  rintro e y2 ⟨rfl, hbg⟩
  have HT2 := Hid.mk' (D.out.below hbg)
  clear hbg D hBe
  obtain ⟨p0, p1, p2, q0, q1, q2⟩ := HT2.out.cells
  have hbl := HT2.out.bel
  have hdr : Below y2.heap.size y2 y2.drew := (Below.refl _ _).drew
  go_wp2_with fail
  go_region_held3 (fun w' => (w'.cell? ⟨wd.heap.size, 0, none⟩ = some (.int .i64 kind) ∧ w'.cell? ⟨wd.heap.size, 1, none⟩ = some (.int .i64 tx) ∧ w'.cell? ⟨wd.heap.size, 2, none⟩ = some (.slice (some ⟨g2, 0, none⟩) len len) ∧ w'.cell? ⟨w.heap.size, 0, none⟩ = some (.int .i64 kind) ∧ w'.cell? ⟨w.heap.size, 1, none⟩ = some (.int .i64 tx) ∧ w'.cell? ⟨w.heap.size, 2, none⟩ = some (.slice a len cap))) (first | (exact keep6 hb4 (by assumption)) | (exact keep6 hb3 (by assumption)) | (go_keep)) (first | (go_at_call 16; have h9 := hb3; refine (eqRecT kind tx _ _ len _ _ _ l _ ((HT2.out.below (hdr.trans (hb3.mono hdr.size))).x.sl) HO3.out.sl).mono ?_; rintro e y4 ⟨rfl, hb4⟩) | (go_at_call 14; refine (HTP.out _ (hbl.trans (hdr.mono hbl.size))).mono ?_; rintro e y3 ⟨g3, rfl, hO3, hb3⟩; have HO3 := Hid.mk' hO3))
  have HT4 := Hid.mk' ((HT2.out.below (hdr.trans (hb3.mono hdr.size))).below hb4)
  clear HT2 hb3 hb4 HO3 hO3 hdr hbl
  clear p0 p1 p2 q0 q1 q2
  go_wp2_with fail
  go_ret
  exact ⟨rfl, HT4.out.bel⟩

theorem own : ownKnob Try.prog.godebug = none := by kernel_rfl
theorem laidOut : laidOutB Try.prog = true := by kernel_rfl

set_option maxRecDepth 100000 in
theorem lifted (os : Os) (started : os.Started) (H : Type) (enc : TypeId × Value → H) :
    ReturnsInHanded {} Try.checked os 4 .any (Rows.fnExactRecOkSpec.pre6 enc Try.prog Try.f4 Rows.fnExactRecOkRow.domain false) (Rows.fnExactRecOkSpec.post enc Try.prog Try.f4 false true false false) := by
  refine returnsInHanded_of_change (C := Try.checked) own started (by kernel_rfl) Try.func4
    (ChangeSpec.witness6 (enc := enc) (C := Try.checked) false ⟨#[], #[.agg #[.int .i64 0, .int .i64 0, .slice none 0 0]], []⟩ 8 (by kernel_rfl) (by kernel_rfl) (by kernel_rfl) (by kernel_rfl)) ?_
  intro W base args ds gs before hval0 hW hcnd _
  have hval : ∀ (j : Nat) t v, Try.f4.params[j]? = some t → args[j]? = some v → Value.okWide Try.prog W .any base t v := hval0
  have hW' := hW
  obtain ⟨p, q, hA0, hV, rfl, hfz, hnd⟩ := hW
  have hA : DataW.TrodAll enc Try.prog W 0 (fun _ => true) true Try.f4.params.toList args.toList ds p := hA0
  rw [Try.params4] at hA hval
  obtain ⟨v0, vs0, d0, ds0, p0, q0, hargs, rfl, rfl, h0, r0⟩ := trodAll_cons hA
  obtain ⟨rfl, rfl, rfl⟩ := trodAll_nil r0
  obtain rfl : args = #[v0] := by cases args; simp_all
  obtain ⟨rfl, rfl⟩ := trodVars_none hV
  have k0 := h0
  have lt0 : ∀ x ∈ p0, x.block < W.heap.size := by obtain ⟨m, hm⟩ := k0; exact DataW.trod_lt m _ _ _ hm
  obtain ⟨n0, f0, a0, len0, cap0, b0, rfl, s0, t0, w0⟩ : ∃ (kind tx : Int) (a : Option Addr) (len cap : Nat) (l : List ords.Od), v0 = .agg #[.int .i64 kind, .int .i64 tx, .slice a len cap] ∧ (Lit.int .i64 kind).wf = true ∧ (Lit.int .i64 tx).wf = true ∧ ords.SlO W a len l := by obtain ⟨fuel, hf⟩ := h0; exact recs.rec_arg 36 _ _ _ Try.underlying36 (by kernel_rfl) rfl rfl rfl rfl rfl rfl (by kernel_rfl) (by kernel_rfl) _ _ _ Try.underlying102 (by kernel_rfl) rfl rfl rfl rfl rfl rfl (by kernel_rfl) (hval 0 36 v0 rfl rfl) hf
  clear hA0 hval0
  refine (walk n0 f0 a0 len0 cap0 b0 W s0 t0 w0).mono fun e W' ⟨he, bel⟩ => ?_
  subst he
  exact ⟨_, rfl, _, _, _, [], _, [], hW', trodAll_mk1 (shut_bool Try.underlying4 _), (trodAll_cons_mk (Below.trod laidOut (by kernel_rfl) (of_decide_eq_true (by kernel_rfl)) k0 bel lt0) trodAll_mk0), rfl, bel.frame _, fun h => by cases h⟩

theorem over : Rows.fnExactRecOkRow.holds Try.pinned (OpenSpec.ofChange Rows.fnExactRecOkSpec) :=
  OpenClaim.holds_of_wide 4 Try.f4 rfl rfl rfl rfl rfl rfl rfl ⟨rfl, rfl, rfl, rfl, rfl⟩ rfl rfl rfl rfl rfl (by kernel_rfl) Try.func4 (by kernel_rfl)
    (of_decide_eq_true (by kernel_rfl)) (by unfold Func.isWrapper; first | (rw [if_pos (by decide +kernel)]; kernel_rfl) | (rw [if_neg (by decide +kernel)]; exact ⟨rfl, rfl⟩))
    (fun os started H enc _ => lifted os started H enc)

theorem proved : Rows.FnExactRecOkSaid := over
end Go.Proofs.Ytooiinicnkhlbaa.fnExactRecOk
