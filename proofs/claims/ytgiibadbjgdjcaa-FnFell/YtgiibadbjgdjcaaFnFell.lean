/- The statement FnFellSaid: at every code FnFell answers true, and the code reads afterwards as before. No condition besides the row's own. -/
import Derived.Test.YtgiibadbjgdjcaaRows
import Derived.Test.YtgiibadbjgdjcaaBund13x
import Derived.Test.YtgiibadbjgdjcaaBund12bh
import Derived.Test.YtgiibadbjgdjcaaBund12bj
import Derived.BigQuiet
import Derived.ProofKit
import Derived.OpenShut
import Derived.ShutString
import Derived.ChangeOld
import Derived.Below
namespace Go.Proofs.Ytgiibadbjgdjcaa.fnFell
open Go.ChangeShapes Go.WideShapes Go.ChangeAt Go.RowKit
open Go.ChangeMaps (open_string shut_string)
set_option linter.unusedVariables false
open Go.Proofs.Ytgiibadbjgdjcaa.base Go.Proofs.Ytgiibadbjgdjcaa.pairs Go.Proofs.Ytgiibadbjgdjcaa.ords Go.Proofs.Ytgiibadbjgdjcaa.cos Go.Proofs.Ytgiibadbjgdjcaa.lay Go.Proofs.Ytgiibadbjgdjcaa.wds Go.Proofs.Ytgiibadbjgdjcaa.draw

theorem crash_facts {c : Co} {z : Int} (h : RightCo c) : (crashR c z).2.2.2.2.1.length ≤ c.2.2.2.2.1.length ∧ (∀ i (h1 : i < (crashR c z).2.2.2.2.1.length) (h2 : i < c.2.2.2.2.1.length), (crashR c z).2.2.2.2.1[i] = c.2.2.2.2.1[i]) ∧ c.2.2.2.2.2 ≤ ((crashR c z).2.2.2.2.1.length : Int) ∧ coordOk (crashR c z) = true ∧ ((crashR c z).2.2.2.2.2 = ((crashR c z).2.2.2.2.1.length : Int) ∨ (crashR c z).2.1 = c.2.1) := by
  have e : crashR c z = crashS c z := by rw [crashR_eq, if_pos (coordOk_iff.2 h)]
  have hr := right_crash h z
  rw [e]
  refine ⟨?_, ?_, ?_, coordOk_iff.2 hr, ?_⟩
  all_goals unfold crashS
  all_goals split
  · exact Nat.le_refl _
  · simp only [List.length_take]; omega
  · intro i h1 h2; rfl
  · intro i h1 h2; exact List.getElem_take
  · exact h.sure.2
  · have hk := leftC_le (ln := c.2.2.2.2.1.length) (sure := c.2.2.2.2.2) (keep := z) h.sure
    have := h.sure
    simp only [List.length_take]; omega
  · exact .inr rfl
  · have hk := leftC_le (ln := c.2.2.2.2.1.length) (sure := c.2.2.2.2.2) (keep := z) h.sure
    refine .inl ?_
    simp only [List.length_take]; omega
set_option maxRecDepth 100000 in
set_option maxHeartbeats 8000000 in
theorem walk (a0 : Option Addr) (len0 cap0 : Nat) (code : List UInt8) (w : World) (h : Sl w a0 len0 code) :
    Calls Try.prog 6 #[.slice a0 len0 cap0] w fun e w' => e = .returned (.bool true) ∧ Below w.heap.size w w' := by
  have HBG := Hid.mk' (big_ a0 len0 cap0 w h.2.1)
  by_cases hbig : 1048576 < (len0 : Int)
  · rw [decide_eq_true hbig] at HBG
    clear h
    go_enter Try.func6, Try.ntmps6
    go_wp2_with fail
    refine HBG.out.mono ?_
    rintro e w1 ⟨rfl, rfl⟩
    go_wp2_with fail
    go_ret
    exact ⟨rfl, Below.refl _ _⟩
  rw [decide_eq_false hbig] at HBG
  have HDR := Hid.mk' (drawCrashCoord a0 len0 cap0 code w h (by omega))
  clear h hbig
  go_enter Try.func6, Try.ntmps6
  go_wp2_with fail
  refine HBG.out.mono ?_
  rintro e w0 ⟨rfl, hw0⟩
  replace hw0 := hw0.symm
  subst hw0
  clear HBG
  go_wp2_with fail
  refine HDR.out.mono ?_
  rintro e w1 ⟨z, hzw, ja, jn, jc, la, ln, lc, c, F, hcz, rfl, hO1, hF1, hB1⟩
  clear HDR
  have hbd := bound_co (c := c) (by omega)
  obtain ⟨v1, hv1⟩ : ∃ V, w1.alloc (.cells #[.int .i64 c.1, .int .i64 c.2.1, .int .i64 c.2.2.1, .slice ja jn jc, .slice la ln lc, .int .i64 c.2.2.2.2.2] 27) = V := ⟨_, rfl⟩
  have hb1 : Below w1.heap.size w1 v1 := by rw [← hv1]; exact below_make
  have hC1 := inR_new (T := 27) hO1
  rw [hv1] at hC1
  have HVv1 := Hid.mk' hv1
  have hBv1 := hB1.trans (hb1.mono hB1.size)
  have HI1 := Hid.mk' (impl_crashCoord ja jn jc la ln lc c z v1 (see_co hC1.see) hbd hzw)
  have HS := Hid.mk' (fun wx (hx : SeeCo wx ja jn jc la ln lc c) => spec_crashCoord ja jn jc la ln lc c z wx hx hbd hzw)
  have HK := Hid.mk' (fun wx (hx : SeeCo wx ja jn jc la ln lc c) => spec_coordOk ja jn jc la ln lc c wx hx hbd.fits)
  have HKI := Hid.mk' (fun wx (hx : SeeCo wx ja jn jc la ln lc c) => impl_coordOk ja jn jc la ln lc c wx hx hbd.fits)
  have HFA : Hid (coordOk c = true → _) := fun hok => crash_facts (z := z) (coordOk_iff.1 hok)
  have hRb : BoundCo (crashR c z) := by
    rw [crashR_eq]
    split
    · rename_i hok; exact (right_crash (coordOk_iff.1 hok) z).bound
    · exact hbd
  generalize crashR c z = R at *
  obtain ⟨a0, a1, a2, a3, a4, a5⟩ := cells6 hC1.box
  rw [← hv1] at a0 a1 a2 a3 a4 a5
  clear hv1 hO1 hF1
  go_wp2_with fail
  rw [HVv1.out]
  refine HI1.out.mono ?_
  rintro e w2 ⟨vs2, F2, rfl, hO2, hF2, hb2⟩
  obtain ⟨xja, xjn, xjc, xla, xln, xlc, rfl⟩ := coord_shape hO2
  clear a0 a1 a2 a3 a4 a5 HI1 HVv1
  obtain ⟨v2, hv2⟩ : ∃ V, w2.alloc (.cells #[.int .i64 R.1, .int .i64 R.2.1, .int .i64 R.2.2.1, .slice xja xjn xjc, .slice xla xln xlc, .int .i64 R.2.2.2.2.2] 27) = V := ⟨_, rfl⟩
  have hb2b : Below w2.heap.size w2 v2 := by rw [← hv2]; exact below_make
  have hX2 := inR_new (T := 27) hO2
  rw [hv2] at hX2
  have HVv2 := Hid.mk' hv2
  have hb22 := hb2.trans (hb2b.mono hb2.size)
  have hC2 := hC1.below hb22
  have hBv2 := hBv1.trans (hb22.mono hBv1.size)
  have HS2 := Hid.mk' (HS.out v2 (see_co hC2.see))
  obtain ⟨a0, a1, a2, a3, a4, a5⟩ := cells6 hC2.box
  rw [← hv2] at a0 a1 a2 a3 a4 a5
  clear hv2 hO2 hF2 HS
  go_wp2_with fail
  rw [HVv2.out]
  refine HS2.out.mono ?_
  rintro e w3 ⟨vs3, F3, rfl, hO3, hF3, hb3⟩
  obtain ⟨yja, yjn, yjc, yla, yln, ylc, rfl⟩ := coord_shape hO3
  clear a0 a1 a2 a3 a4 a5 HS2 HVv2
  obtain ⟨v3, hv3⟩ : ∃ V, w3.alloc (.cells #[.int .i64 R.1, .int .i64 R.2.1, .int .i64 R.2.2.1, .slice yja yjn yjc, .slice yla yln ylc, .int .i64 R.2.2.2.2.2] 27) = V := ⟨_, rfl⟩
  have hb3b : Below w3.heap.size w3 v3 := by rw [← hv3]; exact below_make
  have hY3 := inR_new (T := 27) hO3
  rw [hv3] at hY3
  have HVv3 := Hid.mk' hv3
  have hb33 := hb3.trans (hb3b.mono hb3.size)
  have hC3 := hC2.below hb33
  have hX3 := hX2.below hb33
  have hBv3 := hBv2.trans (hb33.mono hBv2.size)
  have sx := see_co hX3.see
  have sy := see_co hY3.see
  have sc := see_co hC3.see
  obtain rfl : yln = xln := sy.log.1.symm.trans sx.log.1
  obtain rfl : yjn = xjn := sy.jobs.1.symm.trans sx.jobs.1
  have e1 : ((yln : Int) != (yln : Int)) = false := by simp
  have e2 : (R.2.1 != R.2.1) = false := by simp
  have e3 : (R.2.2.1 != R.2.2.1) = false := by simp
  have e4 : ((yjn : Int) != (yjn : Int)) = false := by simp
  have HK3 := Hid.mk' (HK.out v3 sc)
  obtain ⟨x0, x1, x2, x3, x4, x5⟩ := cells6 hX3.box
  obtain ⟨y0, y1, y2, y3, y4, y5⟩ := cells6 hY3.box
  obtain ⟨a0, a1, a2, a3, a4, a5⟩ := cells6 hC3.box
  rw [← hv3] at x0 x1 x2 x3 x4 x5 y0 y1 y2 y3 y4 y5 a0 a1 a2 a3 a4 a5
  have HSX := Hid.mk' sx
  have HSC := Hid.mk' sc
  clear hv3 hO3 hF3 HK sy sx sc hC1 hC2 hX2 hb2 hb22 hb3 hb33 hb2b hb3b
  cases hok : coordOk c
  · rw [hok] at HK3 HKI
    clear hok HFA
    go_wp2_with fail
    rw [HVv3.out]
    refine HK3.out.mono ?_
    rintro e w4 ⟨rfl, hb4⟩
    have HK4 := Hid.mk' (HKI.out w4 (HSC.out.below hb4))
    have hB4 := hBv3.trans (hb4.mono hBv3.size)
    clear a0 a1 a2 a3 a4 a5 x0 x1 x2 x3 x4 x5 y0 y1 y2 y3 y4 y5 HK3 HKI HVv3 e1 e2 e3 e4
    obtain ⟨a0, a1, a2, a3, a4, a5⟩ := cells6 (hC3.below hb4).box
    go_wp2_with fail
    refine HK4.out.mono ?_
    rintro e w5 ⟨rfl, hb5⟩
    clear a0 a1 a2 a3 a4 a5 HK4
    go_wp2_with fail
    go_ret
    exact ⟨rfl, hB4.trans (hb5.mono hB4.size)⟩
  · rw [hok] at HK3
    obtain ⟨hlen, hsam, hsu, hRok, hlast⟩ := HFA.out hok
    have HKR := Hid.mk' (fun wx (hx : SeeCo wx xja yjn xjc xla yln xlc R) => impl_coordOk xja yjn xjc xla yln xlc R wx hx hRb.fits)
    rw [hRok] at HKR
    have hxl := HSX.out.log.1
    have hcl := HSC.out.log.1
    have HSAM := Hid.mk' hsam
    clear hok HFA HKI hsam hRok
    go_wp2_with fail
    rw [HVv3.out]
    refine HK3.out.mono ?_
    rintro e w4 ⟨rfl, hb4⟩
    have hX4 := hX3.below hb4
    have hC4 := hC3.below hb4
    have hB4 := hBv3.trans (hb4.mono hBv3.size)
    have HSX4 := Hid.mk' (HSX.out.below hb4)
    have HSC4 := Hid.mk' (HSC.out.below hb4)
    have hyl9 : yln ≤ 1048576 := by rw [← hxl]; exact hRb.log
    have HLN : Hid (yln ≤ ln) := by show _ ≤ _; omega
    have HXL := Hid.mk' hxl
    have HCL := Hid.mk' hcl
    have HSU : Hid (c.2.2.2.2.2 ≤ (yln : Int)) := by show _ ≤ _; omega
    have HLA : Hid (R.2.2.2.2.2 = (yln : Int) ∨ R.2.1 = c.2.1) := by show _ ∨ _; rw [← hxl]; exact hlast
    clear a0 a1 a2 a3 a4 a5 x0 x1 x2 x3 x4 x5 y0 y1 y2 y3 y4 y5 HK3 HVv3 e1 e2 e3 e4 hX3 hC3 hY3 hBv3 hb4 HSX HSC hlen hsu hxl hcl hlast
    go_wp2_with fail
    go_loopw [7] (fun i wr => ∃ k : Nat, k ≤ yln ∧ i = .int .i64 (k : Int) ∧ Below w4.heap.size w4 wr) (fun i _ => yln - (intOf i).toNat)
    case atStart => exact ⟨0, Nat.zero_le _, rfl, Below.refl _ _⟩
    case round =>
      obtain ⟨k, hk, rfl, hbr⟩ := hrel
      have hXr := hX4.below hbr
      have hCr := hC4.below hbr
      have x4 := hXr.box.cell 4 _ rfl
      simp only [List.length_nil, Nat.zero_add] at x4
      by_cases hlt : k < yln
      · have hki : (k : Int) < (yln : Int) := by omega
        have hki2 : (k : Int) < (ln : Int) := by have := HLN.out; omega
        have h1 : k < R.2.2.2.2.1.length := by rw [HXL.out]; exact hlt
        have h2 : k < c.2.2.2.2.1.length := by rw [HCL.out]; have := HLN.out; omega
        obtain ⟨bx, ox, hxa, _⟩ := HSX4.out.log.2.2.2 (by omega)
        obtain ⟨bc, oc, hca, _⟩ := HSC4.out.log.2.2.2 (by have := HLN.out; omega)
        subst hxa
        subst hca
        obtain ⟨c1, c2⟩ := ch_at (HSX4.out.log.below hbr) k h1
        obtain ⟨c3, c4⟩ := ch_at (HSC4.out.log.below hbr) k h2
        rw [HSAM.out k h1 h2] at c1 c2
        generalize c.2.2.2.2.1[k] = ch at *
        obtain ⟨t, y⟩ := ch
        simp only [] at c1 c2 c3 c4
        have a4 := hCr.box.cell 4 _ rfl
        simp only [List.length_nil, Nat.zero_add] at a4
        have hne1 : (t != t) = false := by simp
        have hne2 : (y != y) = false := by simp
        go_wp2_with fail
        go_quiet (fail)
        have hbq := below_drewN (Below.refl w4.heap.size wr) nq
        generalize hwn : wr.drewN nq = wq at *
        clear hwn c1 c2 c3 c4 x4 a4
        go_wp2_with fail
        go_roundw
        case rel => exact ⟨k + 1, by omega, by go_num, hbr.trans (hbq.mono (Nat.le_refl _))⟩
        case measure => simp [intOf]; omega
      · have hki : ¬ (k : Int) < (yln : Int) := by omega
        have hBr := hB4.trans (hbr.mono hB4.size)
        have HKR4 := Hid.mk' (HKR.out wr (HSX4.out.below hbr))
        clear x4
        obtain ⟨x0, x1, x2, x3, x4, x5⟩ := cells6 hXr.box
        obtain ⟨a0, a1, a2, a3, a4, a5⟩ := cells6 hCr.box
        have hge : c.2.2.2.2.2 ≤ (yln : Int) := HSU.out
        have hge2 : ¬ (yln : Int) < c.2.2.2.2.2 := by omega
        go_wp2_with fail
        refine HKR4.out.mono ?_
        rintro e w5 ⟨rfl, hb5⟩
        have hB5 := hBr.trans (hb5.mono hBr.size)
        have hX5 := hXr.below hb5
        have hC5 := hCr.below hb5
        clear a0 a1 a2 a3 a4 a5 x0 x1 x2 x3 x4 x5 HKR4 hge hge2
        obtain ⟨x0, x1, x2, x3, x4, x5⟩ := cells6 hX5.box
        obtain ⟨a0, a1, a2, a3, a4, a5⟩ := cells6 hC5.box
        by_cases hq : R.2.2.2.2.2 = (yln : Int)
        · have hq1 : (R.2.2.2.2.2 == (yln : Int)) = true := beq_iff_eq.2 hq
          clear hq
          generalize R.2.2.2.2.2 = su at *
          go_wp2_with fail
          go_ret
          exact ⟨rfl, hB5⟩
        · have hq1 : (R.2.2.2.2.2 == (yln : Int)) = false := beq_eq_false_iff_ne.2 hq
          have hq2 : (R.2.1 == c.2.1) = true := beq_iff_eq.2 (HLA.out.resolve_left hq)
          clear hq
          generalize R.2.2.2.2.2 = su at *
          generalize R.2.1 = lr at *
          generalize c.2.1 = lcc at *
          go_wp2_with fail
          go_ret
          exact ⟨rfl, hB5⟩

theorem own : ownKnob Try.prog.godebug = none := by kernel_rfl
theorem laidOut : laidOutB Try.prog = true := by kernel_rfl

set_option maxRecDepth 100000 in
theorem lifted (os : Os) (started : os.Started) (H : Type) (enc : TypeId × Value → H) :
    ReturnsInHanded {} Try.checked os 6 .any (Rows.fnFellSpec.pre6 enc Try.prog Try.f6 Rows.fnFellRow.domain false) (Rows.fnFellSpec.post enc Try.prog Try.f6 false true false false) := by
  refine returnsInHanded_of_change (C := Try.checked) own started (by kernel_rfl) Try.func6
    (ChangeSpec.witness6 (enc := enc) (C := Try.checked) false ⟨#[], #[.slice none 0 0], []⟩ 8 (by kernel_rfl) (by kernel_rfl) (by kernel_rfl) (by kernel_rfl)) ?_
  intro W base args ds gs before hval0 hW hcnd _
  have hval : ∀ (j : Nat) t v, Try.f6.params[j]? = some t → args[j]? = some v → Value.okWide Try.prog W .any base t v := hval0
  have hW' := hW
  obtain ⟨p, q, hA0, hV, rfl, hfz, hnd⟩ := hW
  have hA : DataW.TrodAll enc Try.prog W 0 (fun _ => true) true Try.f6.params.toList args.toList ds p := hA0
  rw [Try.params6] at hA hval
  obtain ⟨v0, vs0, d0, ds0, p0, q0, hargs, rfl, rfl, h0, r0⟩ := trodAll_cons hA
  obtain ⟨rfl, rfl, rfl⟩ := trodAll_nil r0
  obtain rfl : args = #[v0] := by cases args; simp_all
  obtain ⟨rfl, rfl⟩ := trodVars_none hV
  obtain ⟨a0, len0, cap0, rfl⟩ := okWide_slice Try.underlying22 (hval 0 22 v0 rfl rfl)
  have k0 := h0
  have lt0 : ∀ x ∈ p0, x.block < W.heap.size := by obtain ⟨m, hm⟩ := k0; exact DataW.trod_lt m _ _ _ hm
  obtain ⟨b0, w0⟩ : ∃ bs, Sl W a0 len0 bs := by
    obtain ⟨fuel, hf⟩ := h0
    rcases open_ints Try.underlying22 Try.underlying5 (by kernel_rfl) hf with ⟨hcs, _⟩ | ⟨x, l, c, zs, hcs, _, hl, hm, hz, _, hcell, hwz⟩
    · simp [Value.cells] at hcs
      obtain ⟨rfl, rfl, rfl⟩ := hcs
      exact ⟨[], sl_nil _ _⟩
    · simp [Value.cells] at hcs
      obtain ⟨rfl, rfl, rfl⟩ := hcs
      exact ⟨_, sl_of_ints hl hm (by simpa using hz) hcell hwz⟩
  clear hA0 hval0
  refine (walk a0 len0 cap0 b0 W w0).mono fun e W' ⟨he, bel⟩ => ?_
  subst he
  exact ⟨_, rfl, _, _, _, [], _, [], hW', trodAll_mk1 (shut_bool Try.underlying4 _), (trodAll_cons_mk (Below.trod laidOut (by kernel_rfl) (of_decide_eq_true (by kernel_rfl)) k0 bel lt0) trodAll_mk0), rfl, bel.frame _, fun h => by cases h⟩

theorem over : Rows.fnFellRow.holds Try.pinned (OpenSpec.ofChange Rows.fnFellSpec) :=
  OpenClaim.holds_of_wide 6 Try.f6 rfl rfl rfl rfl rfl rfl rfl ⟨rfl, rfl, rfl, rfl, rfl⟩ rfl rfl rfl rfl rfl (by kernel_rfl) Try.func6 (by kernel_rfl)
    (of_decide_eq_true (by kernel_rfl)) (by unfold Func.isWrapper; first | (rw [if_pos (by decide +kernel)]; kernel_rfl) | (rw [if_neg (by decide +kernel)]; exact ⟨rfl, rfl⟩))
    (fun os started H enc _ => lifted os started H enc)

theorem proved : Rows.FnFellSaid := over
end Go.Proofs.Ytgiibadbjgdjcaa.fnFell
