/- The statement FnUnionSaid: at every slice of bytes FnUnion answers true, and the slice reads afterwards as before. No condition besides the row's own. -/
import Derived.Test.YtblgkcgmnmligaaRows
import Derived.Test.YtblgkcgmnmligaaBig
import Derived.Test.YtblgkcgmnmligaaPairLaw
import Derived.Test.YtblgkcgmnmligaaPairW
import Derived.Test.YtblgkcgmnmligaaDrawQ
import Derived.Test.YtblgkcgmnmligaaHelpQ
import Derived.Test.YtblgkcgmnmligaaPairI
import Derived.ProofKit
import Derived.OpenShut
import Derived.ShutString
import Derived.ChangeOld
import Derived.Below
namespace Go.Proofs.Ytblgkcgmnmligaa.fnUnion
open Go.ChangeShapes Go.WideShapes Go.ChangeAt Go.RowKit
open Go.ChangeMaps (open_string shut_string)
set_option linter.unusedVariables false
open Go.Proofs.Ytblgkcgmnmligaa.base Go.Proofs.Ytblgkcgmnmligaa.pairs

set_option maxRecDepth 100000 in
set_option maxHeartbeats 4000000 in
theorem walk (a0 : Option Addr) (len0 cap0 : Nat) (b0 : List UInt8) (w : World) (w0 : Sl w a0 len0 b0) :
    Calls Try.prog 6 #[.slice a0 len0 cap0] w fun e w' => e = .returned (.bool true) ∧ Below w.heap.size w w' := by
  have hm := w0.2.1
  by_cases hbig : 1048576 < len0
  · have hb := big_ a0 len0 cap0 w hm
    rw [decide_eq_true (by omega)] at hb
    have HB := Hid.mk' hb
    clear hb
    go_enter Try.func6, Try.ntmps6
    go_wp2_with fail
    refine HB.out.mono ?_
    rintro e wa ⟨rfl, rfl⟩
    go_wp2_with fail
    go_ret
    exact ⟨rfl, Below.refl _ _⟩
  · have hb := big_ a0 len0 cap0 w hm
    rw [decide_eq_false (by omega)] at hb
    have HB := Hid.mk' hb
    clear hb
    go_enter Try.func6, Try.ntmps6
    go_wp2_with fail
    refine HB.out.mono ?_
    rintro e wa ⟨rfl, hwa⟩
    subst hwa
    go_wp2_with fail
    refine (drawUnionOf a0 len0 cap0 b0 _ w0 (by omega)).mono ?_
    rintro e w1 ⟨g, n, cp, l, g2, n2, cp2, l2, hn, hn2, ht, ht2, hgg, rfl, hO1, hP1, hB1⟩
    have hks : ∀ p ∈ l, p.1.size ≤ 1099511627776 := fun p hp => Nat.le_trans (ht p hp).1 (by omega)
    have hks2 : ∀ p ∈ l2, p.1.size ≤ 1099511627776 := fun p hp => Nat.le_trans (ht2 p hp).1 (by omega)
    have hln := hO1.1
    have hln2 := hP1.1
    have hcs := hO1.cases
    have hcs2 := hP1.cases
    have hul := union_len l l2
    go_wp2_with fail
    refine (impl_unionOf _ _ _ _ l _ _ _ _ l2 _ hO1.sl hP1.sl hcs.1 hcs2.1 (by omega)).mono ?_
    rintro e w2 ⟨gu, nu, cpu, rfl, hU2, hB2⟩
    have hO2 := hO1.below hB2
    have hP2 := hP1.below hB2
    have hB2' := hB1.trans (hB2.mono hB1.size)
    have hnu := hU2.1
    have hcu := hU2.cases
    clear hO1 hP1 hB1 hB2
    go_wp2_with fail
    refine (spec_unionOf _ _ _ _ l _ _ _ _ l2 _ hO2.sl hP2.sl (by omega)).mono ?_
    rintro e w3 ⟨gs, ns, cps, rfl, hS3, hB3⟩
    have hO3 := hO2.below hB3
    have hP3 := hP2.below hB3
    have hU3 := hU2.below hB3
    have hB3' := hB2'.trans (hB3.mono hB2'.size)
    clear hO2 hP2 hU2 hB3 hB2'
    go_wp2_with fail
    refine (samePairs _ _ _ _ _ _ _ _ _ hU3.sl hS3.sl).mono ?_
    rintro e w4 ⟨he, nq, hw4⟩
    rw [decide_eq_true rfl] at he
    subst he hw4
    have hb4 : Below w3.heap.size w3 (w3.drewN nq) := below_drewN (Below.refl _ _) _
    have hO4 := hO3.below hb4
    have hP4 := hP3.below hb4
    have hU4 := hU3.below hb4
    have hB4 := below_drewN hB3' nq
    clear hO3 hP3 hU3 hS3 hb4 hB3'
    generalize w3.drewN nq = w5 at *
    cases hR : pairsOk l
    · have HR := Hid.mk' hR
      clear hR
      go_wp2_with fail
      refine (spec_pairsOk _ _ _ _ l _ hO4.sl hks).mono ?_
      rintro e w6 ⟨he, hB6⟩
      rw [HR.out] at he
      subst he
      have hO6 := hO4.below hB6
      have hP6 := hP4.below hB6
      have hU6 := hU4.below hB6
      have hB6' := hB4.trans (hB6.mono hB4.size)
      go_wp2_with fail
      refine (spec_unionOf _ _ _ _ l _ _ _ _ l2 _ hO6.sl hP6.sl (by omega)).mono ?_
      rintro e wx ⟨gx, nx, cpx, rfl, hXx, hBx⟩
      have hUx := hU6.below hBx
      have hBx' := hB6'.trans (hBx.mono hB6'.size)
      go_wp2_with fail
      refine (samePairs _ _ _ _ _ _ _ _ _ hUx.sl hXx.sl).mono ?_
      rintro e wy ⟨he, nz, hwy⟩
      rw [decide_eq_true rfl] at he
      subst he hwy
      go_wp2_with fail
      go_ret
      exact ⟨rfl, below_drewN hBx' _⟩
    · have HR := Hid.mk' hR
      cases hR2 : pairsOk l2
      · have HR2 := Hid.mk' hR2
        clear hR hR2
        go_wp2_with fail
        refine (spec_pairsOk _ _ _ _ l _ hO4.sl hks).mono ?_
        rintro e w6 ⟨he, hB6⟩
        rw [HR.out] at he
        subst he
        have hO6 := hO4.below hB6
        have hP6 := hP4.below hB6
        have hU6 := hU4.below hB6
        have hB6' := hB4.trans (hB6.mono hB4.size)
        go_wp2_with fail
        refine (spec_pairsOk _ _ _ _ l2 _ hP6.sl hks2).mono ?_
        rintro e w7 ⟨he, hB7⟩
        rw [HR2.out] at he
        subst he
        have hO7 := hO6.below hB7
        have hP7 := hP6.below hB7
        have hU7 := hU6.below hB7
        have hB7' := hB6'.trans (hB7.mono hB6'.size)
        go_wp2_with fail
        refine (spec_unionOf _ _ _ _ l _ _ _ _ l2 _ hO7.sl hP7.sl (by omega)).mono ?_
        rintro e wx ⟨gx, nx, cpx, rfl, hXx, hBx⟩
        have hUx := hU7.below hBx
        have hBx' := hB7'.trans (hBx.mono hB7'.size)
        go_wp2_with fail
        refine (samePairs _ _ _ _ _ _ _ _ _ hUx.sl hXx.sl).mono ?_
        rintro e wy ⟨he, nz, hwy⟩
        rw [decide_eq_true rfl] at he
        subst he hwy
        go_wp2_with fail
        go_ret
        exact ⟨rfl, below_drewN hBx' _⟩
      · have HR2 := Hid.mk' hR2
        obtain ⟨⟨_, hrise⟩, _⟩ := (pairsOk_iff l2).1 hR2
        have hget := getKey_union l l2 hrise
        clear hR hR2
        go_wp2_with fail
        refine (spec_pairsOk _ _ _ _ l _ hO4.sl hks).mono ?_
        rintro e w6 ⟨he, hB6⟩
        rw [HR.out] at he
        subst he
        have hO6 := hO4.below hB6
        have hP6 := hP4.below hB6
        have hU6 := hU4.below hB6
        have hB6' := hB4.trans (hB6.mono hB4.size)
        go_wp2_with fail
        refine (spec_pairsOk _ _ _ _ l2 _ hP6.sl hks2).mono ?_
        rintro e w7 ⟨he, hB7⟩
        rw [HR2.out] at he
        subst he
        have hO7 := hO6.below hB7
        have hP7 := hP6.below hB7
        have hU7 := hU6.below hB7
        have hB7' := hB6'.trans (hB7.mono hB6'.size)
        clear hO4 hP4 hU4 hB4 hO6 hP6 hU6 hB6 hB6' hB7
        go_wp2_with fail
        go_loopw [6] (fun i wr => ∃ k : Nat, k ≤ n2 ∧ i = .int .i64 (k : Int) ∧ Below w7.heap.size w7 wr) (fun i _ => n2 - (intOf i).toNat)
        case atStart => exact ⟨0, Nat.zero_le _, rfl, Below.refl _ _⟩
        case round =>
          obtain ⟨k, hk, rfl, hB⟩ := hrel
          have hUr := hU7.below hB
          have hPr := hP7.below hB
          by_cases hlt : k < n2
          · have hkl : k < l2.length := by omega
            have c1 := hPr.key k hkl
            have c2 := hPr.val k hkl
            have hki : (k : Int) < (n2 : Int) := by omega
            have HG := Hid.mk' (hget _ (List.getElem_mem hkl))
            generalize l2[k] = p at *
            go_wp2_with fail
            refine (impl_getKey _ _ _ _ _ p.1 _ hUr.sl).mono ?_
            rintro e wa ⟨h1, hBa⟩
            rw [HG.out] at h1
            simp only [getRet] at h1
            subst h1
            have d2 := (hBa.cell (p := ⟨g2, k * 2 + 1, none⟩) hPr.lt.2).trans c2
            have hBa' := hB.trans (hBa.mono hB.size)
            clear c1 c2 hBa
            go_wp2_with fail
            go_roundw
            case rel => exact ⟨k + 1, by omega, by go_num, hBa'⟩
            case measure => simp [intOf]; omega
          · have hOr := hO7.below hB
            have hBt := hB7'.trans (hB.mono hB7'.size)
            have HID := Hid.mk' (union_id (unionOf l l2) l2 hget)
            clear hO7 hP7 hU7 hB hB7' hget
            go_wp2_with (at_builtin; fail)
            refine (impl_unionOf _ _ _ _ _ _ _ _ _ l2 _ hUr.sl hPr.sl hcu.1 hcs2.1 (by omega)).mono ?_
            rintro e wa ⟨ga, na, cpa, rfl, hAa, hBa⟩
            rw [HID.out] at hAa
            have hOa := hOr.below hBa
            have hPa := hPr.below hBa
            have hUa := hUr.below hBa
            have hBa' := hBt.trans (hBa.mono hBt.size)
            clear hOr hPr hUr hBa hBt
            go_wp2_with (at_builtin; fail)
            refine (samePairs _ _ _ _ _ _ _ _ _ hAa.sl hUa.sl).mono ?_
            rintro e wb ⟨he, nz, hwb⟩
            rw [decide_eq_true rfl] at he
            subst he hwb
            have hbb : Below wa.heap.size wa (wa.drewN nz) := below_drewN (Below.refl _ _) _
            have hOb := hOa.below hbb
            have hPb := hPa.below hbb
            have hUb := hUa.below hbb
            have hBb := below_drewN hBa' nz
            clear hOa hPa hUa hAa hbb hBa'
            generalize wa.drewN nz = wc at *
            have e1 : (n : Int) ≤ (nu : Int) := by omega
            have e2 : (nu : Int) ≤ (n : Int) + (n2 : Int) := by omega
            have hbc : Below wc.heap.size wc (wc.alloc (.cells #[] 33)) := (Below.refl _ _).alloc (Nat.le_refl _) _
            have hOc := hOb.below hbc
            have hPc := hPb.below hbc
            have hUc := hUb.below hbc
            have hBc := hBb.trans (hbc.mono hBb.size)
            have hEc := ownP_made wc 0 (Nat.zero_le _)
            clear hOb hPb hUb hBb hbc
            go_wp2_with (at_builtin; fail)
            refine (impl_unionOf _ _ _ _ l _ _ _ _ [] _ hOc.sl hEc.sl hcs.1 (Nat.le_refl _) (by omega)).mono ?_
            rintro e wd ⟨gd, nd, cpd, rfl, hDd, hBd⟩
            have hPd := hPc.below hBd
            have hUd := hUc.below hBd
            have hBd' := hBc.trans (hBd.mono hBc.size)
            have hcd := hDd.cases
            have hnd : l.length = nd := hDd.1
            clear hOc hPc hUc hEc hBd hBc
            go_wp2_with (at_builtin; fail)
            refine (impl_unionOf _ _ _ _ l _ _ _ _ l2 _ hDd.sl hPd.sl hcd.1 hcs2.1 (by omega)).mono ?_
            rintro e we ⟨ge, ne, cpe, rfl, hEe, hBe⟩
            have hUe := hUd.below hBe
            have hBe' := hBd'.trans (hBe.mono hBd'.size)
            clear hPd hUd hDd hBe hBd'
            go_wp2_with (at_builtin; fail)
            refine (samePairs _ _ _ _ _ _ _ _ _ hEe.sl hUe.sl).mono ?_
            rintro e wf ⟨he, ny, hwf⟩
            rw [decide_eq_true rfl] at he
            subst he hwf
            go_wp2_with (at_builtin; fail)
            go_ret
            exact ⟨rfl, below_drewN hBe' _⟩

theorem own : ownKnob Try.prog.godebug = none := by kernel_rfl
theorem laidOut : laidOutB Try.prog = true := by kernel_rfl

set_option maxRecDepth 100000 in
theorem lifted (os : Os) (started : os.Started) (H : Type) (enc : TypeId × Value → H) :
    ReturnsInHanded {} Try.checked os 6 .any (Rows.fnUnionSpec.pre6 enc Try.prog Try.f6 Rows.fnUnionRow.domain false) (Rows.fnUnionSpec.post enc Try.prog Try.f6 false true false false) := by
  refine returnsInHanded_of_change (C := Try.checked) own started (by kernel_rfl) Try.func6
    (ChangeSpec.witness6 (enc := enc) (C := Try.checked) false ⟨#[], #[.slice none 0 0], []⟩ 8 (by kernel_rfl) (by kernel_rfl) (by kernel_rfl) (by kernel_rfl)) ?_
  intro W base args ds gs before hval0 hW hcnd _
  have hval : ∀ (j : Nat) t v, Try.f6.params[j]? = some t → args[j]? = some v → Value.okWide Try.prog W .any base t v := hval0
  have hW' := hW
  obtain ⟨p, q, hA0, hV, rfl, hfz, hnd⟩ := hW
  have hA : DataW.TrodAll enc Try.prog W 0 (fun _ => true) true Try.f6.params.toList args.toList ds p := hA0
  rw [Try.params6] at hA hval
  obtain ⟨v0, vs0, d0, ds0, p0, q0, hargs, rfl, rfl, h0, r0⟩ := trodAll_cons hA
  obtain ⟨rfl, rfl, rfl⟩ := trodAll_nil r0
  obtain rfl : args = #[v0] := by cases args; simp_all
  obtain ⟨rfl, rfl⟩ := trodVars_none hV
  obtain ⟨a0, len0, cap0, rfl⟩ := okWide_slice Try.underlying22 (hval 0 22 v0 rfl rfl)
  have k0 := h0
  have lt0 : ∀ x ∈ p0, x.block < W.heap.size := by obtain ⟨m, hm⟩ := k0; exact DataW.trod_lt m _ _ _ hm
  obtain ⟨b0, w0⟩ : ∃ bs, Sl W a0 len0 bs := by
    obtain ⟨fuel, hf⟩ := h0
    rcases open_ints Try.underlying22 Try.underlying5 (by kernel_rfl) hf with ⟨hcs, _⟩ | ⟨x, l, c, zs, hcs, _, hl, hm, hz, _, hcell, hwz⟩
    · simp [Value.cells] at hcs
      obtain ⟨rfl, rfl, rfl⟩ := hcs
      exact ⟨[], sl_nil _ _⟩
    · simp [Value.cells] at hcs
      obtain ⟨rfl, rfl, rfl⟩ := hcs
      exact ⟨_, sl_of_ints hl hm (by simpa using hz) hcell hwz⟩
  clear hA0 hval0
  refine (walk a0 len0 cap0 b0 W w0).mono fun e W' ⟨he, bel⟩ => ?_
  subst he
  exact ⟨_, rfl, _, _, _, [], _, [], hW', trodAll_mk1 (shut_bool Try.underlying4 _), (trodAll_cons_mk (Below.trod laidOut (by kernel_rfl) (of_decide_eq_true (by kernel_rfl)) k0 bel lt0) trodAll_mk0), rfl, bel.frame _, fun h => by cases h⟩

theorem over : Rows.fnUnionRow.holds Try.pinned (OpenSpec.ofChange Rows.fnUnionSpec) :=
  OpenClaim.holds_of_wide 6 Try.f6 rfl rfl rfl rfl rfl rfl rfl ⟨rfl, rfl, rfl, rfl, rfl⟩ rfl rfl rfl rfl rfl (by kernel_rfl) Try.func6 (by kernel_rfl)
    (of_decide_eq_true (by kernel_rfl)) (by unfold Func.isWrapper; first | (rw [if_pos (by decide +kernel)]; kernel_rfl) | (rw [if_neg (by decide +kernel)]; exact ⟨rfl, rfl⟩))
    (fun os started H enc _ => lifted os started H enc)

theorem proved : Rows.FnUnionSaid := over
end Go.Proofs.Ytblgkcgmnmligaa.fnUnion
