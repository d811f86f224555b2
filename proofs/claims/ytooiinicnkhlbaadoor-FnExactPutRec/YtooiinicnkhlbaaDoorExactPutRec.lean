/- The statement FnExactPutRecCardSaid: at every record FnExactPutRec answers true, and the arguments read afterwards as before, where the table of the rounds' words is as the program's text lays it (the card ties it). No condition besides the row's own. -/
import Derived.Test.YtooiinicnkhlbaaDoorRows
import Derived.Test.YtooiinicnkhlbaaDoorCards
import Derived.Test.YtooiinicnkhlbaaDoorTie
import Derived.Test.YtooiinicnkhlbaaDoorBund8ap
import Derived.Test.YtooiinicnkhlbaaDoorBund8an
import Derived.Test.YtooiinicnkhlbaaDoorBund8at
import Derived.ProofKit
import Derived.OpenShut
import Derived.ShutString
import Derived.ChangeOld
import Derived.Below
namespace Go.Proofs.YtooiinicnkhlbaaDoor.fnExactPutRec
open Go.ChangeShapes Go.WideShapes Go.ChangeAt Go.RowKit
open Go.ChangeMaps (open_string shut_string)
set_option linter.unusedVariables false
open Go.Proofs.YtooiinicnkhlbaaDoor.base Go.Proofs.YtooiinicnkhlbaaDoor.pairs Go.Proofs.YtooiinicnkhlbaaDoor.ords Go.Proofs.YtooiinicnkhlbaaDoor.help Go.Proofs.YtooiinicnkhlbaaDoor.helps Go.Proofs.YtooiinicnkhlbaaDoor.recs

set_option maxRecDepth 100000 in
set_option maxHeartbeats 4000000 in
theorem walk (kind tx : Int) (a : Option Addr) (len cap : Nat) (l : List Od) (w : World) (_ : (Lit.int .i64 kind).wf = true) (_ : (Lit.int .i64 tx).wf = true) (h : SlO w a len l) (hK : sha.KW w) :
    Calls Tryd.prog 7 #[.agg #[.int .i64 kind, .int .i64 tx, .slice a len cap]] w fun e w' => e = .returned (.bool true) ∧ Below w.heap.size w w' := by
  have hlen := h.1
  obtain ⟨W, hW⟩ : ∃ W, w.alloc (.cells #[.int .i64 kind, .int .i64 tx, .slice a len cap] 46) = W := ⟨_, rfl⟩
  have hBW : Below w.heap.size w W := by rw [← hW]; exact (Below.refl _ _).alloc (Nat.le_refl _) _
  have hV : V3 W w.heap.size 46 (.int .i64 kind) (.int .i64 tx) (.slice a len cap) := by rw [← hW]; exact v3n w _ _ _ _
  have HW := Hid.mk' hW
  have hsz := szRec kind tx a len cap l 1048576 W (h.below hBW) (by omega)
  clear hW
  by_cases hover : 1048576 < l.length + sumO l
  · rw [szR_neg hover] at hsz
    have HZ := Hid.mk' hsz
    clear hsz
    go_enter Tryd.func7, Tryd.ntmps7
    go_wp2_with fail
    rw [HW.out]
    refine HZ.out.mono ?_
    rintro e wa ⟨rfl, hB⟩
    have hB1 := hBW.trans (hB.mono hBW.size)
    go_wp2_with fail
    go_ret
    exact ⟨rfl, hB1⟩
  rw [szR_pos (by omega)] at hsz
  obtain ⟨r, hrr⟩ : ∃ r : Nat, ((1048576 : Nat) : Int) - ((l.length + sumO l : Nat) : Int) = (r : Int) := ⟨1048576 - (l.length + sumO l), by omega⟩
  rw [hrr] at hsz
  have HZ := Hid.mk' hsz
  clear hsz hrr
  have hks : ∀ p ∈ l, p.2.1.size ≤ 1099511627776 := fun p hp => by have := osz_le l p hp; unfold osz at this; omega
  have HTP := Hid.mk' (fun wx (hx : Below w.heap.size w wx) => toRec kind tx a len cap l wx (h.below hx) (by omega))
  have HSC := Hid.mk' (fun g c base wx (ho : OwnO wx base g len c l) => spec_putRec kind tx (some ⟨g, 0, none⟩) len c l wx ho.sl hks)
  have HIC := Hid.mk' (fun g c base wx (ho : OwnO wx base g len c l) (hk : sha.KW wx) => impl_putRec kind tx (some ⟨g, 0, none⟩) len c l wx ho.sl hks hk)
  have HKW : Hid (∀ wx, Below w.heap.size w wx → sha.KW wx) := fun wx hx => hK.below hx
  have hml : (putRec (kind, tx, l)).length ≤ 1099511627 := by have := rec_small (kind, tx, l); unfold putRec; split <;> simp; omega
  generalize putRec (kind, tx, l) = R at *
  have c0 := hV.c0
  have c1 := hV.c1
  have c2 := hV.c2
  clear h hks
  go_enter Tryd.func7, Tryd.ntmps7
  go_wp2_with fail
  rw [HW.out]
  refine HZ.out.mono ?_
  rintro e wa ⟨rfl, hba⟩
  have hBa := hBW.trans (hba.mono hBW.size)
  have hVa := hV.below hba
  have d0 := hVa.c0
  have d1 := hVa.c1
  have d2 := hVa.c2
  have HVa := Hid.mk' hVa
  clear hba hVa c0 c1 c2 hBW hV HZ HW
  go_wp2_with fail
  refine (HTP.out _ hBa).mono ?_
  rintro e wb ⟨g1, rfl, hO1, hb1⟩
  have hBb := hBa.trans (hb1.mono hBa.size)
  have HVb := Hid.mk' (HVa.out.below hb1)
  have HO1 := Hid.mk' hO1
  clear hO1 hb1 HVa d0 d1 d2
  go_wp2_with fail
  refine (HSC.out _ _ _ _ HO1.out).mono ?_
  rintro e wc ⟨gw, lw, cw, rfl, hOw, hbc⟩
  have hBc := hBb.trans (hbc.mono hBb.size)
  have hVc := HVb.out.below hbc
  have d0 := hVc.c0
  have d1 := hVc.c1
  have d2 := hVc.c2
  have HVc := Hid.mk' hVc
  have HOW := Hid.mk' (hOw.mono (base' := w.heap.size) hBb.size)
  clear hOw hbc hVc HVb HO1 hBb
  go_wp2_with fail
  refine (HTP.out _ hBc).mono ?_
  rintro e wd ⟨g2, rfl, hO2, hb2⟩
  have hBd := hBc.trans (hb2.mono hBc.size)
  have hba : Below wd.heap.size wd (wd.alloc (.cells #[.int .i64 kind, .int .i64 tx, .slice (some ⟨g2, 0, none⟩) len len] 26)) := (Below.refl _ _).alloc (Nat.le_refl _) _
  have hvx : V3 (wd.alloc (.cells #[.int .i64 kind, .int .i64 tx, .slice (some ⟨g2, 0, none⟩) len len] 26)) wd.heap.size 26 (.int .i64 kind) (.int .i64 tx) (.slice (some ⟨g2, 0, none⟩) len len) := v3n wd _ _ _ _
  have hBe := hBd.trans (hba.mono hBd.size)
  have D := Hid.mk' (DuoR.mk (w0 := w) hBe ((HVc.out.below hb2).below hba) hvx ((hO2.mono hBc.size).below hba) hO2.lt.2 (by have := hO2.lt.1; have := HVc.out.lt; omega))
  have HOW2 := Hid.mk' ((HOW.out.below hb2).below hba)
  have hgx : gw < g2 := by have := HOW.out.lt.2; have := hO2.lt.1; omega
  clear hO2 hb2 hBd hba hvx HOW HVc d0 d1 d2 hBc
  go_wp2_with fail
  refine (HIC.out _ _ _ _ D.out.x (HKW.out _ hBe)).mono ?_
  rintro e we ⟨gg, lg, cg, rfl, hOg, hbg⟩
  have HT1 := Hid.mk' (QuadP.mk (D.out.below hbg) (hOg.mono hBe.size) (HOW2.out.below hbg) hgx (by have := hOg.lt.1; simp at this; omega))
  have hlg : lg ≤ 1099511627 := by have := hOg.1; omega
  clear hbg hOg HOW2 D hgx hBe
  go_wp2_with fail
  refine (eqB _ _ _ _ _ _ _ _ _ HT1.out.g.sl HT1.out.s.sl rfl).mono ?_
  rintro e y2 ⟨rfl, hB⟩
  have HT2 := Hid.mk' (HT1.out.below hB)
  clear HT1 hB
  obtain ⟨p0, p1, p2, q0, q1, q2⟩ := HT2.out.d.cells
  have hbl := HT2.out.d.bel
  have hdr : Below y2.heap.size y2 y2.drew := (Below.refl _ _).drew
  go_wp2_with fail
  go_region_held3 (fun w' => (w'.cell? ⟨wd.heap.size, 0, none⟩ = some (.int .i64 kind) ∧ w'.cell? ⟨wd.heap.size, 1, none⟩ = some (.int .i64 tx) ∧ w'.cell? ⟨wd.heap.size, 2, none⟩ = some (.slice (some ⟨g2, 0, none⟩) len len) ∧ w'.cell? ⟨w.heap.size, 0, none⟩ = some (.int .i64 kind) ∧ w'.cell? ⟨w.heap.size, 1, none⟩ = some (.int .i64 tx) ∧ w'.cell? ⟨w.heap.size, 2, none⟩ = some (.slice a len cap))) (first | (exact keep6 hb4 (by assumption)) | (exact keep6 hb3 (by assumption)) | (go_keep)) (first | (go_at_call 28; have h9 := hb3; refine (eqRecT kind tx _ _ len _ _ _ l _ ((HT2.out.below (hdr.trans (hb3.mono hdr.size))).d.x.sl) HO3.out.sl).mono ?_; rintro e y4 ⟨rfl, hb4⟩) | (go_at_call 26; refine (HTP.out _ (hbl.trans (hdr.mono hbl.size))).mono ?_; rintro e y3 ⟨g3, rfl, hO3, hb3⟩; have HO3 := Hid.mk' hO3))
  have HT4 := Hid.mk' ((HT2.out.below (hdr.trans (hb3.mono hdr.size))).below hb4)
  clear HT2 hb3 hb4 HO3 hO3 hdr hbl
  clear p0 p1 p2 q0 q1 q2
  obtain ⟨p0, p1, p2, q0, q1, q2⟩ := HT4.out.d.cells
  go_wp2_with fail
  refine (markRec1 kind tx _ _ l _ (ownV_of HT4.out.d.x) (by have := HT4.out.d.bel.size; omega) (by omega)).mono ?_
  rintro e y5 ⟨rfl, ho5, hk5⟩
  have T5 := HT4.out.markX (show OwnO _ _ g2 len len _ from ⟨by simp [marksO, hlen], ho5.1, by have := ho5.2; simpa [marksO, hlen] using this⟩) hk5
  have HT5 := Hid.mk' T5
  clear T5 HT4 ho5 hk5
  clear p0 p1 p2 q0 q1 q2
  go_wp2_with fail
  refine (eqB _ _ _ _ _ _ _ _ _ HT5.out.g.sl HT5.out.s.sl rfl).mono ?_
  rintro e y6 ⟨rfl, hB⟩
  have HT6 := Hid.mk' (HT5.out.below hB)
  clear HT5 hB
  go_wp2_with fail
  refine (mark1 _ _ _ _ _ _ HT6.out.g (by omega)).mono ?_
  rintro e y7 ⟨rfl, hx7, hg7⟩
  have HT7 := Hid.mk' (HT6.out.markG hx7 hg7)
  clear HT6 hx7 hg7
  go_wp2_with fail
  refine (held1 _ _ _ _ HT7.out.g.sl (by omega)).mono ?_
  rintro e y8 ⟨rfl, hB⟩
  have HT8 := Hid.mk' (HT7.out.below (by first | exact hB | (rw [hB]; exact Below.refl _ _)))
  clear HT7 hB
  obtain ⟨p0, p1, p2, q0, q1, q2⟩ := HT8.out.d.cells
  go_wp2_with fail
  refine (HTP.out _ HT8.out.d.bel).mono ?_
  rintro e y9 ⟨g9, rfl, hO9, hb9⟩
  have HT9 := Hid.mk' (HT8.out.below hb9)
  have HO9 := Hid.mk' hO9
  clear HT8 hb9 hO9
  clear p0 p1 p2 q0 q1 q2
  go_wp2_with fail
  refine (HIC.out _ _ _ _ HO9.out (HKW.out _ HT9.out.d.bel)).mono ?_
  rintro e y10 ⟨gh, lh, ch, rfl, hOh, hb10⟩
  have HT10 := Hid.mk' (HT9.out.below hb10)
  have HOH := Hid.mk' hOh
  clear HT9 hb10 hOh HO9
  go_wp2_with fail
  refine (eqB _ _ _ _ _ _ _ _ _ HOH.out.sl HT10.out.s.sl rfl).mono ?_
  rintro e y11 ⟨rfl, hB⟩
  have HT11 := Hid.mk' (HT10.out.below hB)
  clear HT10 hB HOH
  go_wp2_with fail
  refine (held1 _ _ _ _ HT11.out.g.sl (by omega)).mono ?_
  rintro e y12 ⟨rfl, hB⟩
  have T12 := HT11.out.below (by first | exact hB | (rw [hB]; exact Below.refl _ _))
  clear HT11 hB
  go_wp2_with fail
  go_ret
  exact ⟨rfl, T12.d.bel⟩

set_option maxRecDepth 100000 in
theorem lifted (os : Os) (started : os.Started) (H : Type) (enc : TypeId × Value → H) :
    ReturnsInHanded {} Tryd.checked os 7 .any (fun w args => (Rows.fnExactPutRecSpec.pre enc Tryd.prog Tryd.f7 [] false w args ∧ laidMetH Tryd.prog door.laidD w) ∧ sizedMet enc Tryd.prog Tryd.f7 (OpenSpec.ofChange Rows.fnExactPutRecSpec) false w args)
      (Rows.fnExactPutRecSpec.post enc Tryd.prog Tryd.f7 false true false false) := by
  refine returnsInHanded_of_change_and (C := Tryd.checked) (X := fun w _ => laidMetH Tryd.prog door.laidD w) (fun _ _ _ hh h => h.of_heap hh) door.own started (by kernel_rfl) Tryd.func7
    (ChangeSpec.witness_shaped (enc := enc) (C := Tryd.checked) (os := os) (X := fun w _ => laidMetH Tryd.prog door.laidD w) false (World.laidAll Tryd.prog os door.laidD) #[.agg #[.int .i64 0, .int .i64 0, .slice none 0 0]] 70 (World.laidAll_os _ _ _) (World.shaped_of_ZipB (by kernel_rfl) (by kernel_rfl)) (by kernel_rfl) (by kernel_rfl) (by kernel_rfl)
      (by rw [MakeChecks.laidMetH_plain _ _ _ (by kernel_rfl)]; exact laidMet_laidAll _ (by kernel_rfl) (by kernel_rfl))) ?_
  intro W base args ds gs before hval0 hW _ _ hL _
  have hval : ∀ (j : Nat) t v, Tryd.f7.params[j]? = some t → args[j]? = some v → Value.okWide Tryd.prog W .any base t v := hval0
  have hW' := hW
  obtain ⟨p, q, hA0, hV, rfl, hfz, hnd⟩ := hW
  have hA : DataW.TrodAll enc Tryd.prog W 0 (fun _ => true) true Tryd.f7.params.toList args.toList ds p := hA0
  rw [Tryd.params7] at hA hval
  obtain ⟨v0, vs0, d0, ds0, p0, q0, hargs, rfl, rfl, h0, r0⟩ := trodAll_cons hA
  obtain ⟨rfl, rfl, rfl⟩ := trodAll_nil r0
  obtain rfl : args = #[v0] := by cases args; simp_all
  obtain ⟨gv, tv, csv, fv, dv, pv, rfl, _, _, _, _, _⟩ := trodVars_one (show DataW.TrodVars enc Tryd.prog W (fun _ => true) ["loop.example/g00244/impl.roundWords"] gs q from hV)
  have k0 := h0
  have lt0 : ∀ x ∈ p0, x.block < W.heap.size := by obtain ⟨m, hm⟩ := k0; exact DataW.trod_lt m _ _ _ hm
  obtain ⟨n0, f0, a0, len0, cap0, b0, rfl, s0, t0, w0⟩ : ∃ (kind tx : Int) (a : Option Addr) (len cap : Nat) (l : List ords.Od), v0 = .agg #[.int .i64 kind, .int .i64 tx, .slice a len cap] ∧ (Lit.int .i64 kind).wf = true ∧ (Lit.int .i64 tx).wf = true ∧ ords.SlO W a len l := by obtain ⟨fuel, hf⟩ := h0; exact recs.rec_arg 46 _ _ _ Tryd.underlying46 (by kernel_rfl) rfl rfl rfl rfl rfl rfl (by kernel_rfl) (by kernel_rfl) _ _ _ Tryd.underlying110 (by kernel_rfl) rfl rfl rfl rfl rfl rfl (by kernel_rfl) (hval 0 46 v0 rfl rfl) hf
  clear hA0 hval0
  refine (walk n0 f0 a0 len0 cap0 b0 W s0 t0 w0 (door.words_of_laid hL)).mono fun e W' ⟨he, bel⟩ => ?_
  subst he
  exact ⟨_, rfl, _, _, _, [], _, _, hW', trodAll_mk1 (shut_bool Tryd.underlying4 _), (trodAll_cons_mk (Below.trod door.laidOut (by kernel_rfl) (of_decide_eq_true (by kernel_rfl)) k0 bel lt0) trodAll_mk0), bel.trodVars door.laidOut (by kernel_rfl) hV, bel.frame _, fun h => by cases h⟩

theorem over : Rows.fnExactPutRecRow.holds Tryd.pinned (OpenSpec.ofChange Rows.fnExactPutRecSpec) :=
  OpenClaim.holds_of_wide 7 Tryd.f7 rfl rfl rfl rfl rfl rfl rfl ⟨rfl, rfl, rfl, rfl, rfl⟩ rfl rfl rfl rfl rfl (by kernel_rfl) Tryd.func7 (by kernel_rfl)
    (of_decide_eq_true (by kernel_rfl)) (by unfold Func.isWrapper; first | (rw [if_pos (by decide +kernel)]; kernel_rfl) | (rw [if_neg (by decide +kernel)]; exact ⟨rfl, rfl⟩))
    (fun os started H enc _ => lifted os started H enc)

theorem proved : Rows.FnExactPutRecCardSaid :=
  Claim7.holds_tied_plain_at .later [] [.data] true (true, "676bdcf6d508b3309f940b283a0f0a096954b855a10cf9cb5f22109115c04267") true
    over (fun _ h => by cases h) (by kernel_rfl) (fun _ h => by cases h) fnExactPutRec_row_tie rfl ⟨rfl, rfl⟩ (by kernel_rfl) rfl
    (fun f fn hf hfn => by
      obtain rfl : f = 7 := Option.some.inj ((show Tryd.prog.funcNamed "loop.example/g00244/laws.FnExactPutRec" = some 7 by kernel_rfl).symm.trans hf) |>.symm
      obtain rfl : fn = Tryd.f7 := (Option.some.inj (Tryd.func7.symm.trans hfn)).symm
      exact ⟨by kernel_rfl, fun j t ht => by
        rw [Tryd.params7] at ht
        have hm : t ∈ [46] := by simpa using Array.mem_of_getElem? ht
        have hall : ([46].all fun u => !Tryd.prog.wantsStandIn u) = true := by kernel_rfl
        exact (show Tryd.prog.wantsStandIn t = false by simpa using List.all_eq_true.1 hall t hm)⟩)
    (by kernel_rfl)
end Go.Proofs.YtooiinicnkhlbaaDoor.fnExactPutRec
