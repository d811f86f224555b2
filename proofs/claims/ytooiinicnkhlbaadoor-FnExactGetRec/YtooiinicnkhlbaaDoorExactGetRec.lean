/- The statement FnExactGetRecCardSaid: at every slice of bytes and every place FnExactGetRec answers true, and the arguments read afterwards as before, where the table of the rounds' words is as the program's text lays it (the card ties it). No condition besides the row's own. -/
import Derived.Test.YtooiinicnkhlbaaDoorRows
import Derived.Test.YtooiinicnkhlbaaDoorCards
import Derived.Test.YtooiinicnkhlbaaDoorTie
import Derived.Test.YtooiinicnkhlbaaDoorBund8ax
import Derived.ProofKit
import Derived.OpenShut
import Derived.ShutString
import Derived.ChangeOld
import Derived.Below
namespace Go.Proofs.YtooiinicnkhlbaaDoor.fnExactGetRec
open Go.ChangeShapes Go.WideShapes Go.ChangeAt Go.RowKit
open Go.ChangeMaps (open_string shut_string)
set_option linter.unusedVariables false
open Go.Proofs.YtooiinicnkhlbaaDoor.base Go.Proofs.YtooiinicnkhlbaaDoor.pairs Go.Proofs.YtooiinicnkhlbaaDoor.ords Go.Proofs.YtooiinicnkhlbaaDoor.help Go.Proofs.YtooiinicnkhlbaaDoor.helps Go.Proofs.YtooiinicnkhlbaaDoor.recs

set_option maxRecDepth 100000 in
set_option maxHeartbeats 4000000 in
theorem walk (a : Option Addr) (len cap : Nat) (bs : List UInt8) (at_ : Int) (w : World) (h : Sl w a len bs) (hat : (Lit.int .i64 at_).wf = true) (hK : KR w) :
    Calls Tryd.prog 8 #[.slice a len cap, .int .i64 at_] w fun e w' => e = .returned (.bool true) ∧ Below w.heap.size w w' := by
  have hlen := h.1
  have hm0 := h.2.1
  unfold maxLen at hm0
  by_cases hbig : 1048576 < len
  · go_enter Tryd.func8, Tryd.ntmps8
    go_wp2_with fail
    go_ret
    exact ⟨rfl, Below.refl _ _⟩
  have hRl := resR_len bs at_
  obtain ⟨k, t, L, hR⟩ : ∃ k t L, resR (getRec bs at_) = (k, t, L) := ⟨_, _, _, rfl⟩
  obtain ⟨q, hq⟩ : ∃ q, resQ at_ (getRec bs at_) = q := ⟨_, rfl⟩
  rw [hR] at hRl
  have hLl : L.length ≤ 8 := hRl
  have HTP := Hid.mk' (fun wx (hx : Below w.heap.size w wx) => toByteS a len cap bs wx (h.below hx) (by omega))
  have HKW : Hid (∀ wx, Below w.heap.size w wx → KR wx) := fun wx hx => hK.below hx
  cases hok : (getRec bs at_).isSome
  all_goals
    have HSC := Hid.mk' (fun g base wx (ho : Own wx base g len len bs) => (spec_getRec (some ⟨g, 0, none⟩) len len at_ bs wx ho.sl (Nat.le_refl _) (by omega) hat).mono fun e w' hp => recPost_open hR hq hok hp)
    have HIC := Hid.mk' (fun g base wx (ho : Own wx base g len len bs) (hk : KR wx) => (impl_getRec (some ⟨g, 0, none⟩) len len at_ bs wx ho.sl (Nat.le_refl _) (by omega) hat hk).mono fun e w' hp => recPost_open hR hq hok hp)
    have HL := Hid.mk' hLl
    clear hR hq hok hRl hLl h hlen hm0
    go_enter Tryd.func8, Tryd.ntmps8
    go_wp2_with fail
    refine (HTP.out _ (Below.refl _ _)).mono ?_
    rintro e wa ⟨g1, rfl, hO1, hB1⟩
    go_wp2_with fail
    refine (HSC.out _ _ _ hO1).mono ?_
    rintro e wb ⟨aw, ns, cs, rfl, hOs, hBs⟩
    have hBb := hB1.trans (hBs.mono hB1.size)
    have hb2 : Below wb.heap.size wb (wb.alloc (.cells #[.int .i64 k, .int .i64 t, .slice aw ns cs] 26)) := (Below.refl _ _).alloc (Nat.le_refl _) _
    have HV1 := Hid.mk' (v3n wb 26 (.int .i64 k) (.int .i64 t) (.slice aw ns cs))
    have hBc := hBb.trans (hb2.mono hBb.size)
    have HS := Hid.mk' ((hOs.mono (base' := w.heap.size) hB1.size).below hb2)
    have HSL := Hid.mk' (fun k e => (hOs.lt k e).2)
    clear hO1 hB1 hOs hBs hBb hb2
    go_wp2_with fail
    refine (HTP.out _ hBc).mono ?_
    rintro e wc ⟨gx, rfl, hOx, hBx⟩
    have hBd := hBc.trans (hBx.mono hBc.size)
    have HX := Hid.mk' hOx
    clear hOx
    go_wp2_with fail
    refine (HIC.out _ _ _ HX.out (HKW.out _ hBd)).mono ?_
    rintro e wd ⟨ag, ng, cg, rfl, hOg, hBg⟩
    have hBe := hBd.trans (hBg.mono hBd.size)
    have hb3 : Below wd.heap.size wd (wd.alloc (.cells #[.int .i64 k, .int .i64 t, .slice ag ng cg] 26)) := (Below.refl _ _).alloc (Nat.le_refl _) _
    have HT1 : Hid (PentG w (wd.alloc (.cells #[.int .i64 k, .int .i64 t, .slice ag ng cg] 26)) k t (.slice aw ns cs) (.slice ag ng cg) wb.heap.size gx len wd.heap.size bs L L) :=
      ⟨hBe.trans (hb3.mono hBe.size), ((HX.out.mono hBc.size).below hBg).below hb3, ((HS.out.below hBx).below hBg).below hb3, (hOg.mono hBd.size).below hb3, ((HV1.out.below hBx).below hBg).below hb3, v3n wd _ _ _ _, HSL.out,
        by have := HX.out.lt.1; simp at this; omega, fun k e => by have := hOg.lt k e; have := HX.out.lt; omega, by have := HX.out.lt; have := hBg.size; omega⟩
    have hng : ng ≤ 8 := by have := (ownV_slo hOg).1; have := HL.out; omega
    have HNG := Hid.mk' (show L.length = ng from (ownV_slo hOg).1)
    clear HV1 HS HSL HX hBx hBc hBd hBg hBe hb3 hOg
    obtain ⟨p0, p1, p2, q0, q1, q2⟩ := HT1.out.cells
    go_wp2_with fail
    refine (eqRecT k t _ _ _ _ _ _ L _ (ownV_slo HT1.out.g) (ownV_slo HT1.out.s)).mono ?_
    rintro e y2 ⟨rfl, hB⟩
    have HT2 := Hid.mk' (HT1.out.below hB)
    clear HT1 hB p0 p1 p2 q0 q1 q2
    go_wp2_with fail
    refine (HTP.out _ HT2.out.bel).mono ?_
    rintro e y3 ⟨gy, rfl, hOy, hBy⟩
    have HT3 := Hid.mk' (HT2.out.below hBy)
    clear HT2 hBy
    go_wp2_with fail
    refine (eqB _ _ _ _ _ _ _ _ _ HT3.out.x.sl hOy.sl rfl).mono ?_
    rintro e y4 ⟨rfl, hB⟩
    have HT4 := Hid.mk' (HT3.out.below hB)
    clear HT3 hB hOy
    go_wp2_with fail
    refine (mark1 _ _ _ _ _ _ HT4.out.x (by omega)).mono ?_
    rintro e y5 ⟨rfl, hx5, hg5⟩
    have HT5 := Hid.mk' (HT4.out.markX hx5 hg5)
    clear HT4 hx5 hg5
    obtain ⟨p0, p1, p2, q0, q1, q2⟩ := HT5.out.cells
    go_wp2_with fail
    refine (eqRecT k t _ _ _ _ _ _ L _ (ownV_slo HT5.out.g) (ownV_slo HT5.out.s)).mono ?_
    rintro e y6 ⟨rfl, hB⟩
    have HT6 := Hid.mk' (HT5.out.below hB)
    clear HT5 hB p0 p1 p2 q0 q1 q2
    obtain ⟨p0, p1, p2, q0, q1, q2⟩ := HT6.out.cells
    go_wp2_with fail
    refine (markRec1 k t _ _ L _ HT6.out.g (by have := HT6.out.bel.size; omega) (by have := HL.out; omega)).mono ?_
    rintro e y7 ⟨rfl, hx7, hg7⟩
    rw [HNG.out] at hx7 ⊢
    have HT7 := Hid.mk' (HT6.out.markG hx7 hg7)
    clear HT6 hx7 hg7 p0 p1 p2 q0 q1 q2
    obtain ⟨p0, p1, p2, q0, q1, q2⟩ := HT7.out.cells
    go_wp2_with fail
    refine (heldRec1 k t _ _ _ _ (ownV_slo HT7.out.g) (by omega)).mono ?_
    rintro e y8 ⟨rfl, hB⟩
    have HT8 := Hid.mk' (HT7.out.below hB)
    clear HT7 hB p0 p1 p2 q0 q1 q2
    go_wp2_with fail
    refine (HTP.out _ HT8.out.bel).mono ?_
    rintro e y9 ⟨gz, rfl, hOz, hBz⟩
    have HT9 := Hid.mk' (HT8.out.below hBz)
    have HOZ := Hid.mk' hOz
    clear HT8 hBz hOz
    go_wp2_with fail
    refine (HIC.out _ _ _ HOZ.out (HKW.out _ HT9.out.bel)).mono ?_
    rintro e y10 ⟨ah, nh, ch, rfl, hOh, hBh⟩
    have hb4 : Below y10.heap.size y10 (y10.alloc (.cells #[.int .i64 k, .int .i64 t, .slice ah nh ch] 26)) := (Below.refl _ _).alloc (Nat.le_refl _) _
    have HT10 := Hid.mk' ((HT9.out.below hBh).below hb4)
    have hvh := v3n y10 26 (.int .i64 k) (.int .i64 t) (.slice ah nh ch)
    have HOH := Hid.mk' (hOh.below hb4)
    have r0 := hvh.c0
    have r1 := hvh.c1
    have r2 := hvh.c2
    clear HT9 hBh hb4 hOh HOZ hvh
    obtain ⟨p0, p1, p2, q0, q1, q2⟩ := HT10.out.cells
    go_wp2_with fail
    refine (eqRecT k t _ _ _ _ _ _ L _ (ownV_slo HOH.out) (ownV_slo HT10.out.s)).mono ?_
    rintro e y11 ⟨rfl, hB⟩
    have HT11 := Hid.mk' (HT10.out.below hB)
    clear HT10 hB HOH r0 r1 r2 p0 p1 p2 q0 q1 q2
    obtain ⟨p0, p1, p2, q0, q1, q2⟩ := HT11.out.cells
    go_wp2_with fail
    refine (heldRec1 k t _ _ _ _ (ownV_slo HT11.out.g) (by omega)).mono ?_
    rintro e y12 ⟨rfl, hB⟩
    have T12 := HT11.out.below hB
    clear HT11 hB
    go_wp2_with fail
    go_ret
    exact ⟨rfl, T12.bel⟩

set_option maxRecDepth 100000 in
theorem lifted (os : Os) (started : os.Started) (H : Type) (enc : TypeId × Value → H) :
    ReturnsInHanded {} Tryd.checked os 8 .any (fun w args => (Rows.fnExactGetRecSpec.pre enc Tryd.prog Tryd.f8 [] false w args ∧ laidMetH Tryd.prog doorE.laidE w) ∧ sizedMet enc Tryd.prog Tryd.f8 (OpenSpec.ofChange Rows.fnExactGetRecSpec) false w args)
      (Rows.fnExactGetRecSpec.post enc Tryd.prog Tryd.f8 false true false false) := by
  refine returnsInHanded_of_change_and (C := Tryd.checked) (X := fun w _ => laidMetH Tryd.prog doorE.laidE w) (fun _ _ _ hh h => h.of_heap hh) door.own started (by kernel_rfl) Tryd.func8
    (ChangeSpec.witness_shaped (enc := enc) (C := Tryd.checked) (os := os) (X := fun w _ => laidMetH Tryd.prog doorE.laidE w) false (({ World.holding Tryd.prog os ⟨#[], #[], []⟩ with heap := (World.holding Tryd.prog os ⟨#[], #[], []⟩).heap.setIfInBounds 0 (.cells #[.iface 130 (.agg #[.pointer (some ⟨2, 62, none⟩)])] 98 (0, 0)) } : World).layVars Tryd.prog door.laidD) #[.slice none 0 0, .int .i64 0] 70 (doorE.laidW_os os) (World.shaped_of_ZipB (by kernel_rfl) (by kernel_rfl)) (by kernel_rfl) (by kernel_rfl) (by kernel_rfl)
      (doorE.laidW_met os _)) ?_
  intro W base args ds gs before hval0 hW _ _ hL _
  have hval : ∀ (j : Nat) t v, Tryd.f8.params[j]? = some t → args[j]? = some v → Value.okWide Tryd.prog W .any base t v := hval0
  have hW' := hW
  obtain ⟨p, q, hA0, hV, rfl, hfz, hnd⟩ := hW
  have hA : DataW.TrodAll enc Tryd.prog W 0 (fun _ => true) true Tryd.f8.params.toList args.toList ds p := hA0
  rw [Tryd.params8] at hA hval
  obtain ⟨v0, vs0, d0, ds0, p0, q0, hargs, rfl, rfl, h0, r0⟩ := trodAll_cons hA
  obtain ⟨v1, vs1, d1, ds1, p1, q1, rfl, rfl, rfl, h1, r1⟩ := trodAll_cons r0
  obtain ⟨rfl, rfl, rfl⟩ := trodAll_nil r1
  obtain rfl : args = #[v0, v1] := by cases args; simp_all
  obtain ⟨gv, tv, csv, fv, dv, pv, rfl, _, _, _, _, _⟩ := trodVars_one (show DataW.TrodVars enc Tryd.prog W (fun _ => true) ["loop.example/g00244/impl.roundWords"] gs q from hV)
  obtain ⟨a0, len0, cap0, rfl⟩ := okWide_slice Tryd.underlying22 (hval 0 22 v0 rfl rfl)
  have k0 := h0
  have lt0 : ∀ x ∈ p0, x.block < W.heap.size := by obtain ⟨m, hm⟩ := k0; exact DataW.trod_lt m _ _ _ hm
  obtain ⟨b0, w0⟩ : ∃ bs, Sl W a0 len0 bs := by
    obtain ⟨fuel, hf⟩ := h0
    rcases open_ints Tryd.underlying22 Tryd.underlying5 (by kernel_rfl) hf with ⟨hcs, _⟩ | ⟨x, l, c, zs, hcs, _, hl, hm, hz, _, hcell, hwz⟩
    · simp [Value.cells] at hcs
      obtain ⟨rfl, rfl, rfl⟩ := hcs
      exact ⟨[], sl_nil _ _⟩
    · simp [Value.cells] at hcs
      obtain ⟨rfl, rfl, rfl⟩ := hcs
      exact ⟨_, sl_of_ints hl hm (by simpa using hz) hcell hwz⟩
  obtain ⟨a1, rfl, rfl, rfl, w1⟩ := open_int Tryd.underlying3 (hval 1 3 v1 rfl rfl) h1
  clear hA0 hval0
  refine (walk a0 len0 cap0 b0 a1 W w0 w1 (doorE.known_of_laid hL)).mono fun e W' ⟨he, bel⟩ => ?_
  subst he
  exact ⟨_, rfl, _, _, _, [], _, _, hW', trodAll_mk1 (shut_bool Tryd.underlying4 _), (trodAll_cons_mk (Below.trod door.laidOut (by kernel_rfl) (of_decide_eq_true (by kernel_rfl)) k0 bel lt0) (trodAll_cons_mk (shut_int Tryd.underlying3 w1) trodAll_mk0)), bel.trodVars door.laidOut (by kernel_rfl) hV, bel.frame _, fun h => by cases h⟩

theorem over : Rows.fnExactGetRecRow.holds Tryd.pinned (OpenSpec.ofChange Rows.fnExactGetRecSpec) :=
  OpenClaim.holds_of_wide 8 Tryd.f8 rfl rfl rfl rfl rfl rfl rfl ⟨rfl, rfl, rfl, rfl, rfl⟩ rfl rfl rfl rfl rfl (by kernel_rfl) Tryd.func8 (by kernel_rfl)
    (of_decide_eq_true (by kernel_rfl)) (by unfold Func.isWrapper; first | (rw [if_pos (by decide +kernel)]; kernel_rfl) | (rw [if_neg (by decide +kernel)]; exact ⟨rfl, rfl⟩))
    (fun os started H enc _ => lifted os started H enc)

theorem proved : Rows.FnExactGetRecCardSaid :=
  Claim7.holds_tied_plain_at .later [] [.handle, .data] true (true, "676bdcf6d508b3309f940b283a0f0a096954b855a10cf9cb5f22109115c04267") true
    over (fun _ h => by cases h) (by kernel_rfl) (fun _ h => by cases h) fnExactGetRec_row_tie rfl ⟨rfl, rfl⟩ (by kernel_rfl) rfl
    (fun f fn hf hfn => by
      obtain rfl : f = 8 := Option.some.inj ((show Tryd.prog.funcNamed "loop.example/g00244/laws.FnExactGetRec" = some 8 by kernel_rfl).symm.trans hf) |>.symm
      obtain rfl : fn = Tryd.f8 := (Option.some.inj (Tryd.func8.symm.trans hfn)).symm
      exact ⟨by kernel_rfl, fun j t ht => by
        rw [Tryd.params8] at ht
        have hm : t ∈ [22, 3] := by simpa using Array.mem_of_getElem? ht
        have hall : ([22, 3].all fun u => !Tryd.prog.wantsStandIn u) = true := by kernel_rfl
        exact (show Tryd.prog.wantsStandIn t = false by simpa using List.all_eq_true.1 hall t hm)⟩)
    (by kernel_rfl)
end Go.Proofs.YtooiinicnkhlbaaDoor.fnExactGetRec
