/- The statement FnExactPutWordSaid: at every word FnExactPutWord answers true, and the arguments read afterwards as before. No condition besides the row's own. -/
import Derived.Test.YtjodbijcgcjndaaRows
import Derived.Test.YtjodbijcgcjndaaWdB
import Derived.Test.YtjodbijcgcjndaaWdTrio
import Derived.Test.YtjodbijcgcjndaaTrio
import Derived.ProofKit
import Derived.OpenShut
import Derived.ShutString
import Derived.ChangeOld
import Derived.Below
namespace Go.Proofs.Ytjodbijcgcjndaa.fnExactPutWord
open Go.ChangeShapes Go.WideShapes Go.ChangeAt Go.RowKit
open Go.ChangeMaps (open_string shut_string)
set_option linter.unusedVariables false
open Go.Proofs.Ytjodbijcgcjndaa.base Go.Proofs.Ytjodbijcgcjndaa.pairs Go.Proofs.Ytjodbijcgcjndaa.ords Go.Proofs.Ytjodbijcgcjndaa.help Go.Proofs.Ytjodbijcgcjndaa.helps Go.Proofs.Ytjodbijcgcjndaa.wds

set_option maxRecDepth 100000 in
set_option maxHeartbeats 4000000 in
theorem walk (k s t : Int) (y : Bool) (a : Option Addr) (len cap : Nat) (l : List Od) (w : World) (_ : (Lit.int .i64 k).wf = true) (_ : (Lit.int .i64 s).wf = true) (_ : (Lit.int .i64 t).wf = true) (h : SlO w a len l) :
    Calls Try.prog 5 #[.agg #[.int .i64 k, .int .i64 s, .int .i64 t, .slice a len cap, .bool y]] w fun e w' => e = .returned (.bool true) ∧ Below w.heap.size w w' := by
  have hlen := h.1
  obtain ⟨W, hW⟩ : ∃ W, w.alloc (.cells #[.int .i64 k, .int .i64 s, .int .i64 t, .slice a len cap, .bool y] 37) = W := ⟨_, rfl⟩
  have hBW : Below w.heap.size w W := by rw [← hW]; exact (Below.refl _ _).alloc (Nat.le_refl _) _
  have hV : V5 W w.heap.size 37 (.int .i64 k) (.int .i64 s) (.int .i64 t) (.slice a len cap) (.bool y) := by rw [← hW]; exact v5n w _ _ _ _ _ _
  have HW := Hid.mk' hW
  have hsz := szWord k s t y a len cap l 1048576 W (h.below hBW) (by omega)
  clear hW
  by_cases hover : 1048576 < l.length + sumO l
  · rw [szR_neg hover] at hsz
    have HZ := Hid.mk' hsz
    clear hsz
    go_enter Try.func5, Try.ntmps5
    go_wp2_with fail
    rw [HW.out]
    refine HZ.out.mono ?_
    rintro e wa ⟨rfl, hB⟩
    have hB1 := hBW.trans (hB.mono hBW.size)
    go_wp2_with fail
    go_ret
    exact ⟨rfl, hB1⟩
  rw [szR_pos (by omega)] at hsz
  obtain ⟨r, hrr⟩ : ∃ r : Nat, ((1048576 : Nat) : Int) - ((l.length + sumO l : Nat) : Int) = (r : Int) := ⟨1048576 - (l.length + sumO l), by omega⟩
  rw [hrr] at hsz
  have HZ := Hid.mk' hsz
  clear hsz hrr
  have hks : ∀ p ∈ l, p.2.1.size ≤ 1099511627776 := fun p hp => by have := osz_le l p hp; unfold osz at this; omega
  have HTP := Hid.mk' (fun wx (hx : Below w.heap.size w wx) => toWord k s t y a len cap l wx (h.below hx) (by omega))
  have HSC := Hid.mk' (fun g c base wx (ho : OwnO wx base g len c l) => spec_putWord k s t (some ⟨g, 0, none⟩) len c l y wx ho.sl hks)
  have HIC := Hid.mk' (fun g c base wx (ho : OwnO wx base g len c l) => impl_putWord k s t (some ⟨g, 0, none⟩) len c l y wx ho.sl hks)
  have hml : (putWord (k, s, t, l, y)).length ≤ 1099511627 := by have := wordBytes_small (k, s, t, l, y); unfold putWord; split <;> simp; omega
  generalize putWord (k, s, t, l, y) = R at *
  have c0 := hV.c0
  have c1 := hV.c1
  have c2 := hV.c2
  have c3 := hV.c3
  have c4 := hV.c4
  clear h hks
  go_enter Try.func5, Try.ntmps5
  go_wp2_with fail
  rw [HW.out]
  refine HZ.out.mono ?_
  rintro e wa ⟨rfl, hba⟩
  have hBa := hBW.trans (hba.mono hBW.size)
  have hVa := hV.below hba
  have d0 := hVa.c0
  have d1 := hVa.c1
  have d2 := hVa.c2
  have d3 := hVa.c3
  have d4 := hVa.c4
  have HVa := Hid.mk' hVa
  clear hba hVa c0 c1 c2 c3 c4 hBW hV HZ HW
  go_wp2_with fail
  refine (HTP.out _ hBa).mono ?_
  rintro e wb ⟨g1, rfl, hO1, hb1⟩
  have hBb := hBa.trans (hb1.mono hBa.size)
  have HVb := Hid.mk' (HVa.out.below hb1)
  have HO1 := Hid.mk' hO1
  clear hO1 hb1 HVa d0 d1 d2 d3 d4
  go_wp2_with fail
  refine (HSC.out _ _ _ _ HO1.out).mono ?_
  rintro e wc ⟨gw, lw, cw, rfl, hOw, hbc⟩
  have hBc := hBb.trans (hbc.mono hBb.size)
  have hVc := HVb.out.below hbc
  have d0 := hVc.c0
  have d1 := hVc.c1
  have d2 := hVc.c2
  have d3 := hVc.c3
  have d4 := hVc.c4
  have HVc := Hid.mk' hVc
  have HOW := Hid.mk' (hOw.mono (base' := w.heap.size) hBb.size)
  clear hOw hbc hVc HVb HO1 hBb
  go_wp2_with fail
  refine (HTP.out _ hBc).mono ?_
  rintro e wd ⟨g2, rfl, hO2, hb2⟩
  have hBd := hBc.trans (hb2.mono hBc.size)
  have hba : Below wd.heap.size wd (wd.alloc (.cells #[.int .i64 k, .int .i64 s, .int .i64 t, .slice (some ⟨g2, 0, none⟩) len len, .bool y] 26)) := (Below.refl _ _).alloc (Nat.le_refl _) _
  have hvx : V5 (wd.alloc (.cells #[.int .i64 k, .int .i64 s, .int .i64 t, .slice (some ⟨g2, 0, none⟩) len len, .bool y] 26)) wd.heap.size 26 (.int .i64 k) (.int .i64 s) (.int .i64 t) (.slice (some ⟨g2, 0, none⟩) len len) (.bool y) := v5n wd _ _ _ _ _ _
  have hBe := hBd.trans (hba.mono hBd.size)
  have D := Hid.mk' (DuoW.mk (w0 := w) hBe ((HVc.out.below hb2).below hba) hvx ((hO2.mono hBc.size).below hba) hO2.lt.2 (by have := hO2.lt.1; have := HVc.out.lt; omega))
  have HOW2 := Hid.mk' ((HOW.out.below hb2).below hba)
  have hgx : gw < g2 := by have := HOW.out.lt.2; have := hO2.lt.1; omega
  clear hO2 hb2 hBd hba hvx HOW HVc d0 d1 d2 d3 d4 hBc
  go_wp2_with fail
  refine (HIC.out _ _ _ _ D.out.x).mono ?_
  rintro e we ⟨gg, lg, cg, rfl, hOg, hbg⟩
  have HT1 := Hid.mk' (QuadP.mk (D.out.below hbg) (hOg.mono hBe.size) (HOW2.out.below hbg) hgx (by have := hOg.lt.1; simp at this; omega))
  have hlg : lg ≤ 1099511627 := by have := hOg.1; omega
  clear hbg hOg HOW2 D hgx hBe
  go_wp2_with fail
  refine (eqB _ _ _ _ _ _ _ _ _ HT1.out.g.sl HT1.out.s.sl rfl).mono ?_
  rintro e y2 ⟨rfl, hB⟩
  have HT2 := Hid.mk' (HT1.out.below hB)
  clear HT1 hB
  obtain ⟨p0, p1, p2, p3, p4, q0, q1, q2, q3, q4⟩ := HT2.out.d.cells
  have hbl := HT2.out.d.bel
  have hdr : Below y2.heap.size y2 y2.drew := (Below.refl _ _).drew
  go_wp2_with fail
  go_region_held3 (fun w' => (w'.cell? ⟨wd.heap.size, 0, none⟩ = some (.int .i64 k) ∧ w'.cell? ⟨wd.heap.size, 1, none⟩ = some (.int .i64 s) ∧ w'.cell? ⟨wd.heap.size, 2, none⟩ = some (.int .i64 t) ∧ w'.cell? ⟨wd.heap.size, 3, none⟩ = some (.slice (some ⟨g2, 0, none⟩) len len) ∧ w'.cell? ⟨wd.heap.size, 4, none⟩ = some (.bool y) ∧ w'.cell? ⟨w.heap.size, 0, none⟩ = some (.int .i64 k) ∧ w'.cell? ⟨w.heap.size, 1, none⟩ = some (.int .i64 s) ∧ w'.cell? ⟨w.heap.size, 2, none⟩ = some (.int .i64 t) ∧ w'.cell? ⟨w.heap.size, 3, none⟩ = some (.slice a len cap) ∧ w'.cell? ⟨w.heap.size, 4, none⟩ = some (.bool y))) (first | (exact keepT hb4 (by assumption)) | (exact keepT hb3 (by assumption)) | (go_keep)) (first | (go_at_call 19; have h9 := hb3; refine (eqWordT k s t y _ _ len _ _ _ l _ ((HT2.out.below (hdr.trans (hb3.mono hdr.size))).d.x.sl) HO3.out.sl).mono ?_; rintro e y4 ⟨rfl, hb4⟩) | (go_at_call 18; refine (HTP.out _ (hbl.trans (hdr.mono hbl.size))).mono ?_; rintro e y3 ⟨g3, rfl, hO3, hb3⟩; have HO3 := Hid.mk' hO3))
  have HT4 := Hid.mk' ((HT2.out.below (hdr.trans (hb3.mono hdr.size))).below hb4)
  clear HT2 hb3 hb4 HO3 hO3 hdr hbl
  clear p0 p1 p2 p3 p4 q0 q1 q2 q3 q4
  obtain ⟨p0, p1, p2, p3, p4, q0, q1, q2, q3, q4⟩ := HT4.out.d.cells
  go_wp2_with fail
  refine (markWord1 k s t y _ _ l _ (ownV_of HT4.out.d.x) (by have := HT4.out.d.bel.size; omega) (by omega)).mono ?_
  rintro e y5 ⟨rfl, ho5, hk5⟩
  have T5 := HT4.out.markX (show OwnO _ _ g2 len len _ from ⟨by simp [marksO, hlen], ho5.1, by have := ho5.2; simpa [marksO, hlen] using this⟩) hk5
  have HT5 := Hid.mk' T5
  clear T5 HT4 ho5 hk5
  clear p0 p1 p2 p3 p4 q0 q1 q2 q3 q4
  go_wp2_with fail
  refine (eqB _ _ _ _ _ _ _ _ _ HT5.out.g.sl HT5.out.s.sl rfl).mono ?_
  rintro e y6 ⟨rfl, hB⟩
  have HT6 := Hid.mk' (HT5.out.below hB)
  clear HT5 hB
  go_wp2_with fail
  refine (mark1 _ _ _ _ _ _ HT6.out.g (by omega)).mono ?_
  rintro e y7 ⟨rfl, hx7, hg7⟩
  have HT7 := Hid.mk' (HT6.out.markG hx7 hg7)
  clear HT6 hx7 hg7
  go_wp2_with fail
  refine (held1 _ _ _ _ HT7.out.g.sl (by omega)).mono ?_
  rintro e y8 ⟨rfl, hB⟩
  have HT8 := Hid.mk' (HT7.out.below (by first | exact hB | (rw [hB]; exact Below.refl _ _)))
  clear HT7 hB
  obtain ⟨p0, p1, p2, p3, p4, q0, q1, q2, q3, q4⟩ := HT8.out.d.cells
  go_wp2_with fail
  refine (HTP.out _ HT8.out.d.bel).mono ?_
  rintro e y9 ⟨g9, rfl, hO9, hb9⟩
  have HT9 := Hid.mk' (HT8.out.below hb9)
  have HO9 := Hid.mk' hO9
  clear HT8 hb9 hO9
  clear p0 p1 p2 p3 p4 q0 q1 q2 q3 q4
  go_wp2_with fail
  refine (HIC.out _ _ _ _ HO9.out).mono ?_
  rintro e y10 ⟨gh, lh, ch, rfl, hOh, hb10⟩
  have HT10 := Hid.mk' (HT9.out.below hb10)
  have HOH := Hid.mk' hOh
  clear HT9 hb10 hOh HO9
  go_wp2_with fail
  refine (eqB _ _ _ _ _ _ _ _ _ HOH.out.sl HT10.out.s.sl rfl).mono ?_
  rintro e y11 ⟨rfl, hB⟩
  have HT11 := Hid.mk' (HT10.out.below hB)
  clear HT10 hB HOH
  go_wp2_with fail
  refine (held1 _ _ _ _ HT11.out.g.sl (by omega)).mono ?_
  rintro e y12 ⟨rfl, hB⟩
  have T12 := HT11.out.below (by first | exact hB | (rw [hB]; exact Below.refl _ _))
  clear HT11 hB
  go_wp2_with fail
  go_ret
  exact ⟨rfl, T12.d.bel⟩

theorem own : ownKnob Try.prog.godebug = none := by kernel_rfl
theorem laidOut : laidOutB Try.prog = true := by kernel_rfl

set_option maxRecDepth 100000 in
theorem lifted (os : Os) (started : os.Started) (H : Type) (enc : TypeId × Value → H) :
    ReturnsInHanded {} Try.checked os 5 .any (Rows.fnExactPutWordSpec.pre6 enc Try.prog Try.f5 Rows.fnExactPutWordRow.domain false) (Rows.fnExactPutWordSpec.post enc Try.prog Try.f5 false true false false) := by
  refine returnsInHanded_of_change (C := Try.checked) own started (by kernel_rfl) Try.func5
    (ChangeSpec.witness6 (enc := enc) (C := Try.checked) false ⟨#[], #[.agg #[.int .i64 0, .int .i64 0, .int .i64 0, .slice none 0 0, .bool false]], []⟩ 8 (by kernel_rfl) (by kernel_rfl) (by kernel_rfl) (by kernel_rfl)) ?_
  intro W base args ds gs before hval0 hW hcnd _
  have hval : ∀ (j : Nat) t v, Try.f5.params[j]? = some t → args[j]? = some v → Value.okWide Try.prog W .any base t v := hval0
  have hW' := hW
  obtain ⟨p, q, hA0, hV, rfl, hfz, hnd⟩ := hW
  have hA : DataW.TrodAll enc Try.prog W 0 (fun _ => true) true Try.f5.params.toList args.toList ds p := hA0
  rw [Try.params5] at hA hval
  obtain ⟨v0, vs0, d0, ds0, p0, q0, hargs, rfl, rfl, h0, r0⟩ := trodAll_cons hA
  obtain ⟨rfl, rfl, rfl⟩ := trodAll_nil r0
  obtain rfl : args = #[v0] := by cases args; simp_all
  obtain ⟨rfl, rfl⟩ := trodVars_none hV
  have k0 := h0
  have lt0 : ∀ x ∈ p0, x.block < W.heap.size := by obtain ⟨m, hm⟩ := k0; exact DataW.trod_lt m _ _ _ hm
  obtain ⟨n0, e0, f0, y0, a0, len0, cap0, b0, rfl, s0, t0, u0, w0⟩ : ∃ (k s t : Int) (y : Bool) (a : Option Addr) (len cap : Nat) (l : List ords.Od), v0 = .agg #[.int .i64 k, .int .i64 s, .int .i64 t, .slice a len cap, .bool y] ∧ (Lit.int .i64 k).wf = true ∧ (Lit.int .i64 s).wf = true ∧ (Lit.int .i64 t).wf = true ∧ ords.SlO W a len l := by obtain ⟨fuel, hf⟩ := h0; exact wds.word_arg 37 _ _ _ _ _ Try.underlying37 (by kernel_rfl) rfl rfl rfl rfl rfl rfl rfl rfl rfl rfl (by kernel_rfl) (by kernel_rfl) (by kernel_rfl) _ _ _ Try.underlying98 (by kernel_rfl) rfl rfl rfl rfl rfl rfl (by kernel_rfl) (hval 0 37 v0 rfl rfl) hf
  clear hA0 hval0
  refine (walk n0 e0 f0 y0 a0 len0 cap0 b0 W s0 t0 u0 w0).mono fun e W' ⟨he, bel⟩ => ?_
  subst he
  exact ⟨_, rfl, _, _, _, [], _, [], hW', trodAll_mk1 (shut_bool Try.underlying4 _), (trodAll_cons_mk (Below.trod laidOut (by kernel_rfl) (of_decide_eq_true (by kernel_rfl)) k0 bel lt0) trodAll_mk0), rfl, bel.frame _, fun h => by cases h⟩

theorem over : Rows.fnExactPutWordRow.holds Try.pinned (OpenSpec.ofChange Rows.fnExactPutWordSpec) :=
  OpenClaim.holds_of_wide 5 Try.f5 rfl rfl rfl rfl rfl rfl rfl ⟨rfl, rfl, rfl, rfl, rfl⟩ rfl rfl rfl rfl rfl (by kernel_rfl) Try.func5 (by kernel_rfl)
    (of_decide_eq_true (by kernel_rfl)) (by unfold Func.isWrapper; first | (rw [if_pos (by decide +kernel)]; kernel_rfl) | (rw [if_neg (by decide +kernel)]; exact ⟨rfl, rfl⟩))
    (fun os started H enc _ => lifted os started H enc)

theorem proved : Rows.FnExactPutWordSaid := over
end Go.Proofs.Ytjodbijcgcjndaa.fnExactPutWord
