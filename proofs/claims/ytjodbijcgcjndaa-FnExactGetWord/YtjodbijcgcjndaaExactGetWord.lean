/- The statement FnExactGetWordSaid: at every slice of bytes FnExactGetWord answers true, and the arguments read afterwards as before. No condition besides the row's own. -/
import Derived.Test.YtjodbijcgcjndaaRows
import Derived.Test.YtjodbijcgcjndaaWdK
import Derived.Test.YtjodbijcgcjndaaWdG
import Derived.Test.YtjodbijcgcjndaaWdPent
import Derived.ProofKit
import Derived.OpenShut
import Derived.ShutString
import Derived.ChangeOld
import Derived.Below
namespace Go.Proofs.Ytjodbijcgcjndaa.fnExactGetWord
open Go.ChangeShapes Go.WideShapes Go.ChangeAt Go.RowKit
open Go.ChangeMaps (open_string shut_string)
set_option linter.unusedVariables false
open Go.Proofs.Ytjodbijcgcjndaa.base Go.Proofs.Ytjodbijcgcjndaa.pairs Go.Proofs.Ytjodbijcgcjndaa.ords Go.Proofs.Ytjodbijcgcjndaa.help Go.Proofs.Ytjodbijcgcjndaa.helps Go.Proofs.Ytjodbijcgcjndaa.wds

set_option maxRecDepth 100000 in
set_option maxHeartbeats 4000000 in
theorem walk (a : Option Addr) (len cap : Nat) (bs : List UInt8) (w : World) (h : Sl w a len bs) :
    Calls Try.prog 6 #[.slice a len cap] w fun e w' => e = .returned (.bool true) ∧ Below w.heap.size w w' := by
  have hlen := h.1
  have hm0 := h.2.1
  unfold maxLen at hm0
  by_cases hbig : 1048576 < len
  · go_enter Try.func6, Try.ntmps6
    go_wp2_with fail
    go_ret
    exact ⟨rfl, Below.refl _ _⟩
  have hRl := resW_len bs
  obtain ⟨k, s, t, L, y, hR⟩ : ∃ k s t L y, resW (getWord bs) = (k, s, t, L, y) := ⟨_, _, _, _, _, rfl⟩
  rw [hR] at hRl
  have hLl : L.length ≤ 8 := hRl
  have HTP := Hid.mk' (fun wx (hx : Below w.heap.size w wx) => toByteS a len cap bs wx (h.below hx) (by omega))
  cases hok : (getWord bs).isSome
  all_goals
    have HSC := Hid.mk' (fun g base wx (ho : Own wx base g len len bs) => (spec_getWord (some ⟨g, 0, none⟩) len len bs wx ho.sl (Nat.le_refl _) (by omega)).mono fun e w' hp => wordPost_open hR hok hp)
    have HIC := Hid.mk' (fun g base wx (ho : Own wx base g len len bs) => (impl_getWord (some ⟨g, 0, none⟩) len len bs wx ho.sl (Nat.le_refl _) (by omega)).mono fun e w' hp => wordPost_open hR hok hp)
    have HL := Hid.mk' hLl
    clear hR hok hRl hLl h hlen hm0
    go_enter Try.func6, Try.ntmps6
    go_wp2_with fail
    refine (HTP.out _ (Below.refl _ _)).mono ?_
    rintro e wa ⟨g1, rfl, hO1, hB1⟩
    go_wp2_with fail
    refine (HSC.out _ _ _ hO1).mono ?_
    rintro e wb ⟨aw, ns, cs, rfl, hOs, hBs⟩
    have hBb := hB1.trans (hBs.mono hB1.size)
    have hb2 : Below wb.heap.size wb (wb.alloc (.cells #[.int .i64 k, .int .i64 s, .int .i64 t, .slice aw ns cs, .bool y] 26)) := (Below.refl _ _).alloc (Nat.le_refl _) _
    have HV1 := Hid.mk' (v5n wb 26 (.int .i64 k) (.int .i64 s) (.int .i64 t) (.slice aw ns cs) (.bool y))
    have hBc := hBb.trans (hb2.mono hBb.size)
    have HS := Hid.mk' ((hOs.mono (base' := w.heap.size) hB1.size).below hb2)
    have HSL := Hid.mk' (fun k e => (hOs.lt k e).2)
    clear hO1 hB1 hOs hBs hBb hb2
    go_wp2_with fail
    refine (HTP.out _ hBc).mono ?_
    rintro e wc ⟨gx, rfl, hOx, hBx⟩
    have hBd := hBc.trans (hBx.mono hBc.size)
    have HX := Hid.mk' hOx
    clear hOx
    go_wp2_with fail
    refine (HIC.out _ _ _ HX.out).mono ?_
    rintro e wd ⟨ag, ng, cg, rfl, hOg, hBg⟩
    have hBe := hBd.trans (hBg.mono hBd.size)
    have hb3 : Below wd.heap.size wd (wd.alloc (.cells #[.int .i64 k, .int .i64 s, .int .i64 t, .slice ag ng cg, .bool y] 26)) := (Below.refl _ _).alloc (Nat.le_refl _) _
    have HT1 : Hid (PentG w (wd.alloc (.cells #[.int .i64 k, .int .i64 s, .int .i64 t, .slice ag ng cg, .bool y] 26)) k s t y (.slice aw ns cs) (.slice ag ng cg) wb.heap.size gx len wd.heap.size bs L L) :=
      ⟨hBe.trans (hb3.mono hBe.size), ((HX.out.mono hBc.size).below hBg).below hb3, ((HS.out.below hBx).below hBg).below hb3, (hOg.mono hBd.size).below hb3, ((HV1.out.below hBx).below hBg).below hb3, v5n wd _ _ _ _ _ _, HSL.out,
        by have := HX.out.lt.1; simp at this; omega, fun k e => by have := hOg.lt k e; have := HX.out.lt; omega, by have := HX.out.lt; have := hBg.size; omega⟩
    have hng : ng ≤ 8 := by have := (ownV_slo hOg).1; have := HL.out; omega
    have HNG := Hid.mk' (show L.length = ng from (ownV_slo hOg).1)
    clear HV1 HS HSL HX hBx hBc hBd hBg hBe hb3 hOg
    obtain ⟨p0, p1, p2, p3, p4, q0, q1, q2, q3, q4⟩ := HT1.out.cells
    go_wp2_with fail
    refine (eqWordT k s t y _ _ _ _ _ _ L _ (ownV_slo HT1.out.g) (ownV_slo HT1.out.sp)).mono ?_
    rintro e y2 ⟨rfl, hB⟩
    have HT2 := Hid.mk' (HT1.out.below hB)
    clear HT1 hB p0 p1 p2 p3 p4 q0 q1 q2 q3 q4
    go_wp2_with fail
    refine (HTP.out _ HT2.out.bel).mono ?_
    rintro e y3 ⟨gy, rfl, hOy, hBy⟩
    have HT3 := Hid.mk' (HT2.out.below hBy)
    clear HT2 hBy
    go_wp2_with fail
    refine (eqB _ _ _ _ _ _ _ _ _ HT3.out.x.sl hOy.sl rfl).mono ?_
    rintro e y4 ⟨rfl, hB⟩
    have HT4 := Hid.mk' (HT3.out.below hB)
    clear HT3 hB hOy
    go_wp2_with fail
    refine (mark1 _ _ _ _ _ _ HT4.out.x (by omega)).mono ?_
    rintro e y5 ⟨rfl, hx5, hg5⟩
    have HT5 := Hid.mk' (HT4.out.markX hx5 hg5)
    clear HT4 hx5 hg5
    obtain ⟨p0, p1, p2, p3, p4, q0, q1, q2, q3, q4⟩ := HT5.out.cells
    go_wp2_with fail
    refine (eqWordT k s t y _ _ _ _ _ _ L _ (ownV_slo HT5.out.g) (ownV_slo HT5.out.sp)).mono ?_
    rintro e y6 ⟨rfl, hB⟩
    have HT6 := Hid.mk' (HT5.out.below hB)
    clear HT5 hB p0 p1 p2 p3 p4 q0 q1 q2 q3 q4
    obtain ⟨p0, p1, p2, p3, p4, q0, q1, q2, q3, q4⟩ := HT6.out.cells
    go_wp2_with fail
    refine (markWord1 k s t y _ _ L _ HT6.out.g (by have := HT6.out.bel.size; omega) (by have := HL.out; omega)).mono ?_
    rintro e y7 ⟨rfl, hx7, hg7⟩
    rw [HNG.out] at hx7 ⊢
    have HT7 := Hid.mk' (HT6.out.markG hx7 hg7)
    clear HT6 hx7 hg7 p0 p1 p2 p3 p4 q0 q1 q2 q3 q4
    obtain ⟨p0, p1, p2, p3, p4, q0, q1, q2, q3, q4⟩ := HT7.out.cells
    go_wp2_with fail
    refine (heldWord1 k s t y _ _ _ _ (ownV_slo HT7.out.g) (by omega)).mono ?_
    rintro e y8 ⟨rfl, hB⟩
    have HT8 := Hid.mk' (HT7.out.below hB)
    clear HT7 hB p0 p1 p2 p3 p4 q0 q1 q2 q3 q4
    go_wp2_with fail
    refine (HTP.out _ HT8.out.bel).mono ?_
    rintro e y9 ⟨gz, rfl, hOz, hBz⟩
    have HT9 := Hid.mk' (HT8.out.below hBz)
    have HOZ := Hid.mk' hOz
    clear HT8 hBz hOz
    go_wp2_with fail
    refine (HIC.out _ _ _ HOZ.out).mono ?_
    rintro e y10 ⟨ah, nh, ch, rfl, hOh, hBh⟩
    have hb4 : Below y10.heap.size y10 (y10.alloc (.cells #[.int .i64 k, .int .i64 s, .int .i64 t, .slice ah nh ch, .bool y] 26)) := (Below.refl _ _).alloc (Nat.le_refl _) _
    have HT10 := Hid.mk' ((HT9.out.below hBh).below hb4)
    have hvh := v5n y10 26 (.int .i64 k) (.int .i64 s) (.int .i64 t) (.slice ah nh ch) (.bool y)
    have HOH := Hid.mk' (hOh.below hb4)
    have r0 := hvh.c0
    have r1 := hvh.c1
    have r2 := hvh.c2
    have r3 := hvh.c3
    have r4 := hvh.c4
    clear HT9 hBh hb4 hOh HOZ hvh
    obtain ⟨p0, p1, p2, p3, p4, q0, q1, q2, q3, q4⟩ := HT10.out.cells
    go_wp2_with fail
    refine (eqWordT k s t y _ _ _ _ _ _ L _ (ownV_slo HOH.out) (ownV_slo HT10.out.sp)).mono ?_
    rintro e y11 ⟨rfl, hB⟩
    have HT11 := Hid.mk' (HT10.out.below hB)
    clear HT10 hB HOH r0 r1 r2 r3 r4 p0 p1 p2 p3 p4 q0 q1 q2 q3 q4
    obtain ⟨p0, p1, p2, p3, p4, q0, q1, q2, q3, q4⟩ := HT11.out.cells
    go_wp2_with fail
    refine (heldWord1 k s t y _ _ _ _ (ownV_slo HT11.out.g) (by omega)).mono ?_
    rintro e y12 ⟨rfl, hB⟩
    have T12 := HT11.out.below hB
    clear HT11 hB
    go_wp2_with fail
    go_ret
    exact ⟨rfl, T12.bel⟩

theorem own : ownKnob Try.prog.godebug = none := by kernel_rfl
theorem laidOut : laidOutB Try.prog = true := by kernel_rfl

set_option maxRecDepth 100000 in
theorem lifted (os : Os) (started : os.Started) (H : Type) (enc : TypeId × Value → H) :
    ReturnsInHanded {} Try.checked os 6 .any (Rows.fnExactGetWordSpec.pre6 enc Try.prog Try.f6 Rows.fnExactGetWordRow.domain false) (Rows.fnExactGetWordSpec.post enc Try.prog Try.f6 false true false false) := by
  refine returnsInHanded_of_change (C := Try.checked) own started (by kernel_rfl) Try.func6
    (ChangeSpec.witness6 (enc := enc) (C := Try.checked) false ⟨#[], #[.slice none 0 0], []⟩ 8 (by kernel_rfl) (by kernel_rfl) (by kernel_rfl) (by kernel_rfl)) ?_
  intro W base args ds gs before hval0 hW hcnd _
  have hval : ∀ (j : Nat) t v, Try.f6.params[j]? = some t → args[j]? = some v → Value.okWide Try.prog W .any base t v := hval0
  have hW' := hW
  obtain ⟨p, q, hA0, hV, rfl, hfz, hnd⟩ := hW
  have hA : DataW.TrodAll enc Try.prog W 0 (fun _ => true) true Try.f6.params.toList args.toList ds p := hA0
  rw [Try.params6] at hA hval
  obtain ⟨v0, vs0, d0, ds0, p0, q0, hargs, rfl, rfl, h0, r0⟩ := trodAll_cons hA
  obtain ⟨rfl, rfl, rfl⟩ := trodAll_nil r0
  obtain rfl : args = #[v0] := by cases args; simp_all
  obtain ⟨rfl, rfl⟩ := trodVars_none hV
  obtain ⟨a0, len0, cap0, rfl⟩ := okWide_slice Try.underlying22 (hval 0 22 v0 rfl rfl)
  have k0 := h0
  have lt0 : ∀ x ∈ p0, x.block < W.heap.size := by obtain ⟨m, hm⟩ := k0; exact DataW.trod_lt m _ _ _ hm
  obtain ⟨b0, w0⟩ : ∃ bs, Sl W a0 len0 bs := by
    obtain ⟨fuel, hf⟩ := h0
    rcases open_ints Try.underlying22 Try.underlying5 (by kernel_rfl) hf with ⟨hcs, _⟩ | ⟨x, l, c, zs, hcs, _, hl, hm, hz, _, hcell, hwz⟩
    · simp [Value.cells] at hcs
      obtain ⟨rfl, rfl, rfl⟩ := hcs
      exact ⟨[], sl_nil _ _⟩
    · simp [Value.cells] at hcs
      obtain ⟨rfl, rfl, rfl⟩ := hcs
      exact ⟨_, sl_of_ints hl hm (by simpa using hz) hcell hwz⟩
  clear hA0 hval0
  refine (walk a0 len0 cap0 b0 W w0).mono fun e W' ⟨he, bel⟩ => ?_
  subst he
  exact ⟨_, rfl, _, _, _, [], _, [], hW', trodAll_mk1 (shut_bool Try.underlying4 _), (trodAll_cons_mk (Below.trod laidOut (by kernel_rfl) (of_decide_eq_true (by kernel_rfl)) k0 bel lt0) trodAll_mk0), rfl, bel.frame _, fun h => by cases h⟩

theorem over : Rows.fnExactGetWordRow.holds Try.pinned (OpenSpec.ofChange Rows.fnExactGetWordSpec) :=
  OpenClaim.holds_of_wide 6 Try.f6 rfl rfl rfl rfl rfl rfl rfl ⟨rfl, rfl, rfl, rfl, rfl⟩ rfl rfl rfl rfl rfl (by kernel_rfl) Try.func6 (by kernel_rfl)
    (of_decide_eq_true (by kernel_rfl)) (by unfold Func.isWrapper; first | (rw [if_pos (by decide +kernel)]; kernel_rfl) | (rw [if_neg (by decide +kernel)]; exact ⟨rfl, rfl⟩))
    (fun os started H enc _ => lifted os started H enc)

theorem proved : Rows.FnExactGetWordSaid := over
end Go.Proofs.Ytjodbijcgcjndaa.fnExactGetWord
