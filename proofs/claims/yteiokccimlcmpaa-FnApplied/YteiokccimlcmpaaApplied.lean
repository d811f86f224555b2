/- The statement FnAppliedSaid: at every slice of bytes FnApplied answers true, and the slice reads afterwards as before. No condition besides the row's own. -/
import Derived.Test.YteiokccimlcmpaaRows
import Derived.Test.YteiokccimlcmpaaBig
import Derived.Test.YteiokccimlcmpaaDrawY
import Derived.Test.YteiokccimlcmpaaHelpQ
import Derived.Test.YteiokccimlcmpaaPairI
import Derived.Test.YteiokccimlcmpaaOrdK
import Derived.ProofKit
import Derived.OpenShut
import Derived.ShutString
import Derived.ChangeOld
import Derived.Below
namespace Go.Proofs.Yteiokccimlcmpaa.fnApplied
open Go.ChangeShapes Go.WideShapes Go.ChangeAt Go.RowKit
open Go.ChangeMaps (open_string shut_string)
set_option linter.unusedVariables false
open Go.Proofs.Yteiokccimlcmpaa.base Go.Proofs.Yteiokccimlcmpaa.pairs Go.Proofs.Yteiokccimlcmpaa.ords

theorem same_yes {a a2 : Option Addr} {len cap len2 cap2 : Nat} {l l2 : List Pr} {w : World} (h : SlP w a len l) (h2 : SlP w a2 len2 l2) (he : l = l2) :
    Calls Try.prog 28 #[.slice a len cap, .slice a2 len2 cap2] w fun e w' => e = .returned (.bool true) ∧ Below w.heap.size w w' := by
  refine (samePairs a a2 len cap len2 cap2 l l2 w h h2).mono ?_
  rintro e w' ⟨rfl, n, rfl⟩
  exact ⟨ret_bool (decide_eq_true he), below_drewN (Below.refl _ _) _⟩

set_option maxRecDepth 100000 in
set_option maxHeartbeats 4000000 in
theorem walk (a0 : Option Addr) (len0 cap0 : Nat) (b0 : List UInt8) (w : World) (w0 : Sl w a0 len0 b0) :
    Calls Try.prog 4 #[.slice a0 len0 cap0] w fun e w' => e = .returned (.bool true) ∧ Below w.heap.size w w' := by
  have hm := w0.2.1
  by_cases hbig : 1048576 < len0
  · have hb := big_ a0 len0 cap0 w hm
    rw [decide_eq_true (by omega)] at hb
    have HB := Hid.mk' hb
    clear hb
    go_enter Try.func4, Try.ntmps4
    go_wp2_with fail
    refine HB.out.mono ?_
    rintro e wa ⟨rfl, rfl⟩
    go_wp2_with fail
    go_ret
    exact ⟨rfl, Below.refl _ _⟩
  · have hb := big_ a0 len0 cap0 w hm
    rw [decide_eq_false (by omega)] at hb
    have HB := Hid.mk' hb
    clear hb
    go_enter Try.func4, Try.ntmps4
    go_wp2_with fail
    refine HB.out.mono ?_
    rintro e wa ⟨rfl, hwa⟩
    subst hwa
    clear HB
    go_wp2_with fail
    refine (drawOps a0 len0 cap0 b0 _ w0 (by omega)).mono ?_
    rintro e w1 ⟨g, n, cp, m, g2, n2, cp2, l, hn, hn2, hmo, hlo, rfl, hM1, hL1, hB1⟩
    obtain ⟨⟨hall, hri⟩, hl1, hl8⟩ := (opsOk_iff l).1 hlo
    have hlm := hM1.1
    have hll := hL1.1
    subst hlm hll
    have hcm := hM1.cases
    have har := apply_right (l := l) hmo hall (by omega)
    have htw := apply_twice m l hri
    have hsaid := get_said (m := m) hri
    have HAP := Hid.mk' (impl_apply g 0 _ cp m g2 0 _ cp2 l w1 hM1.sl hL1.sl hcm.1 (by omega))
    have HSA : Hid (∀ wx, SlP wx (some ⟨g, 0, none⟩) m.length m → SlO wx (some ⟨g2, 0, none⟩) l.length l → Calls Try.prog 29 #[.slice (some ⟨g, 0, none⟩) m.length cp, .slice (some ⟨g2, 0, none⟩) l.length cp2] wx fun e w' => ∃ g' n' cap', e = .returned (.slice (some ⟨g', 0, none⟩) n' cap') ∧ OwnP w' wx.heap.size g' n' cap' (applyAll m l) ∧ Below wx.heap.size wx w') := fun wx h1 h2 => spec_apply g 0 _ cp m _ _ cp2 l wx h1 h2 (by omega)
    have HTW := Hid.mk' htw
    have HSD := Hid.mk' hsaid
    clear htw hsaid hmo hlo hri
    generalize hX : applyAll m l = X at *
    have HX := Hid.mk' hX
    clear hX
    go_wp2_with fail
    refine HAP.out.mono ?_
    rintro e w2 ⟨gx, nx, cx, rfl, hX2, hb2⟩
    have hB2 := hB1.trans (hb2.mono hB1.size)
    have hM2 := hM1.below hb2
    have hL2 := hL1.below hb2
    have hX2' := hX2.mono (base' := wa.heap.size) hB1.size
    have hnx := hX2.1
    subst hnx
    have hcx := hX2.cases
    clear HAP hM1 hL1 hX2 hB1 hb2
    go_wp2_with fail
    go_loopw [6] (fun i wr => ∃ k : Nat, k ≤ l.length ∧ i = .int .i64 (k : Int) ∧ OwnP wr wa.heap.size gx X.length cx X ∧ OwnP wr wa.heap.size g m.length cp m ∧ OwnO wr wa.heap.size g2 l.length cp2 l ∧ Below wa.heap.size wa wr) (fun i _ => l.length - (intOf i).toNat)
    case atStart => exact ⟨0, Nat.zero_le _, rfl, hX2', hM2, hL2, hB2⟩
    case round =>
      clear hX2' hM2 hL2 hB2
      obtain ⟨k, hk, rfl, hX, hM, hL, hB⟩ := hrel
      by_cases hlt : k < l.length
      · have c0 := hL.kind k hlt
        have c1 := hL.key k hlt
        have c2 := hL.val k hlt
        have hki : (k : Int) < (l.length : Int) := by omega
        have hok := (odOk_iff _).1 (hall _ (List.getElem_mem hlt))
        have hsd := HSD.out _ (List.getElem_mem hlt)
        have HG1 := Hid.mk' (impl_getKey gx 0 _ cx X l[k].2.1 wr hX.sl)
        have HG2 : Hid (∀ wx, SlP wx (some ⟨g, 0, none⟩) m.length m → Calls Try.prog 27 #[.slice (some ⟨g, 0, none⟩) m.length cp, .string l[k].2.1] wx fun e w' => e = .returned (getRet (getKey l[k].2.1 m)) ∧ Below wx.heap.size wx w') := fun wx hx => impl_getKey g 0 _ cp m l[k].2.1 wx hx
        rw [hsd] at HG1
        generalize l[k] = p at *
        obtain ⟨z, key, val⟩ := p
        simp only [saidBy] at c0 c1 c2 hok HG1 HG2
        generalize getKey key m = U at *
        obtain ⟨hz, _, _, _⟩ := hok
        have hz3 : z = 1 ∨ z = 2 ∨ z = 3 := by omega
        rcases hz3 with rfl | rfl | rfl
        · simp only [if_true, getRet] at HG1
          have hv : (val.toList == val.toList) = true := beq_self_eq_true _
          cases U
          all_goals
            simp only [getRet] at HG2
            go_wp2_with fail
            refine HG1.out.mono ?_
            rintro e w3 ⟨rfl, hb3⟩
            have hB3 := hB.trans (hb3.mono hB.size)
            have hc3 := keepB3 hb3 ⟨c0, c1, c2⟩
            obtain ⟨d0, d1, d2⟩ := hc3
            have hX3 := hX.below hb3
            have hM3 := hM.below hb3
            have hL3 := hL.below hb3
            clear c0 c1 c2 hX hM hL hB HG1
            go_wp2_with fail
            refine (HG2.out _ hM3.sl).mono ?_
            rintro e w4 ⟨rfl, hb4⟩
            have hB4 := hB3.trans (hb4.mono hB3.size)
            obtain ⟨f0, f1, f2⟩ := keepB3 hb4 ⟨d0, d1, d2⟩
            have hX4 := hX3.below hb4
            have hM4 := hM3.below hb4
            have hL4 := hL3.below hb4
            clear d0 d1 d2 hX3 hM3 hL3 hB3 hb3 hb4 HG2
            go_wp2_with fail
            go_roundw
            case rel => exact ⟨k + 1, by omega, by go_num, hX4, hM4, hL4, hB4⟩
            case measure => simp [intOf]; omega
        · simp only [show ¬ (2 : Int) = 1 by decide, if_false, if_true, getRet] at HG1
          cases U
          all_goals
            simp only [getRet] at HG2
            go_wp2_with fail
            refine HG1.out.mono ?_
            rintro e w3 ⟨rfl, hb3⟩
            have hB3 := hB.trans (hb3.mono hB.size)
            have hc3 := keepB3 hb3 ⟨c0, c1, c2⟩
            obtain ⟨d0, d1, d2⟩ := hc3
            have hX3 := hX.below hb3
            have hM3 := hM.below hb3
            have hL3 := hL.below hb3
            clear c0 c1 c2 hX hM hL hB HG1
            go_wp2_with fail
            refine (HG2.out _ hM3.sl).mono ?_
            rintro e w4 ⟨rfl, hb4⟩
            have hB4 := hB3.trans (hb4.mono hB3.size)
            obtain ⟨f0, f1, f2⟩ := keepB3 hb4 ⟨d0, d1, d2⟩
            have hX4 := hX3.below hb4
            have hM4 := hM3.below hb4
            have hL4 := hL3.below hb4
            clear d0 d1 d2 hX3 hM3 hL3 hB3 hb3 hb4 HG2
            go_wp2_with fail
            go_roundw
            case rel => exact ⟨k + 1, by omega, by go_num, hX4, hM4, hL4, hB4⟩
            case measure => simp [intOf]; omega
        · simp only [show ¬ (3 : Int) = 1 by decide, show ¬ (3 : Int) = 2 by decide, if_false] at HG1
          cases U with
          | none =>
            simp only [getRet] at HG1 HG2
            go_wp2_with fail
            refine HG1.out.mono ?_
            rintro e w3 ⟨rfl, hb3⟩
            have hB3 := hB.trans (hb3.mono hB.size)
            have hc3 := keepB3 hb3 ⟨c0, c1, c2⟩
            obtain ⟨d0, d1, d2⟩ := hc3
            have hX3 := hX.below hb3
            have hM3 := hM.below hb3
            have hL3 := hL.below hb3
            clear c0 c1 c2 hX hM hL hB HG1
            go_wp2_with fail
            refine (HG2.out _ hM3.sl).mono ?_
            rintro e w4 ⟨rfl, hb4⟩
            have hB4 := hB3.trans (hb4.mono hB3.size)
            obtain ⟨f0, f1, f2⟩ := keepB3 hb4 ⟨d0, d1, d2⟩
            have hX4 := hX3.below hb4
            have hM4 := hM3.below hb4
            have hL4 := hL3.below hb4
            clear d0 d1 d2 hX3 hM3 hL3 hB3 hb3 hb4 HG2
            go_wp2_with fail
            go_roundw
            case rel => exact ⟨k + 1, by omega, by go_num, hX4, hM4, hL4, hB4⟩
            case measure => simp [intOf]; omega
          | some u =>
            simp only [getRet] at HG1 HG2
            have hv : (u.toList == u.toList) = true := beq_self_eq_true _
            go_wp2_with fail
            refine HG1.out.mono ?_
            rintro e w3 ⟨rfl, hb3⟩
            have hB3 := hB.trans (hb3.mono hB.size)
            have hc3 := keepB3 hb3 ⟨c0, c1, c2⟩
            obtain ⟨d0, d1, d2⟩ := hc3
            have hX3 := hX.below hb3
            have hM3 := hM.below hb3
            have hL3 := hL.below hb3
            clear c0 c1 c2 hX hM hL hB HG1
            go_wp2_with fail
            refine (HG2.out _ hM3.sl).mono ?_
            rintro e w4 ⟨rfl, hb4⟩
            have hB4 := hB3.trans (hb4.mono hB3.size)
            obtain ⟨f0, f1, f2⟩ := keepB3 hb4 ⟨d0, d1, d2⟩
            have hX4 := hX3.below hb4
            have hM4 := hM3.below hb4
            have hL4 := hL3.below hb4
            clear d0 d1 d2 hX3 hM3 hL3 hB3 hb3 hb4 HG2
            go_wp2_with fail
            go_roundw
            case rel => exact ⟨k + 1, by omega, by go_num, hX4, hM4, hL4, hB4⟩
            case measure => simp [intOf]; omega
      · go_wp2_with fail
        refine (impl_apply gx 0 _ cx X g2 0 _ cp2 l wr hX.sl hL.sl hcx.1 (by omega)).mono ?_
        rintro e w3 ⟨gy, ny, cy, rfl, hY3, hb3⟩
        rw [HTW.out] at hY3
        have hB3 := hB.trans (hb3.mono hB.size)
        have hX3 := hX.below hb3
        have hM3 := hM.below hb3
        have hL3 := hL.below hb3
        clear hB hX hM hL hb3
        go_wp2_with fail
        refine (same_yes hY3.sl hX3.sl rfl).mono ?_
        rintro e w4 ⟨rfl, hb4⟩
        have hB4 := hB3.trans (hb4.mono hB3.size)
        have hX4 := hX3.below hb4
        have hM4 := hM3.below hb4
        have hL4 := hL3.below hb4
        clear hB3 hX3 hM3 hL3 hb4 hY3
        go_wp2_with fail
        refine (HSA.out _ hM4.sl hL4.sl).mono ?_
        rintro e w5 ⟨gs, ns, cs, rfl, hS5, hb5⟩
        have hB5 := hB4.trans (hb5.mono hB4.size)
        have hX5 := hX4.below hb5
        clear hB4 hX4 hM4 hL4 hb5
        go_wp2_with fail
        refine (same_yes hX5.sl hS5.sl rfl).mono ?_
        rintro e w6 ⟨rfl, hb6⟩
        have hB6 := hB5.trans (hb6.mono hB5.size)
        have hX6 := hX5.below hb6
        have HPO := Hid.mk' (impl_pairsOk gx 0 _ cx X w6 hX6.sl (fun p hp => by have := good1_tiny har.1 p hp; exact Nat.le_trans this.1 (by omega)))
        rw [har.1] at HPO
        clear hB5 hX5 hb6 hS5
        go_wp2_with fail
        refine HPO.out.mono ?_
        rintro e w7 ⟨rfl, hb7⟩
        have hB7 := hB6.trans (hb7.mono hB6.size)
        go_wp2_with fail
        go_ret
        exact ⟨rfl, hB7⟩

theorem own : ownKnob Try.prog.godebug = none := by kernel_rfl
theorem laidOut : laidOutB Try.prog = true := by kernel_rfl

set_option maxRecDepth 100000 in
theorem lifted (os : Os) (started : os.Started) (H : Type) (enc : TypeId × Value → H) :
    ReturnsInHanded {} Try.checked os 4 .any (Rows.fnAppliedSpec.pre6 enc Try.prog Try.f4 Rows.fnAppliedRow.domain false) (Rows.fnAppliedSpec.post enc Try.prog Try.f4 false true false false) := by
  refine returnsInHanded_of_change (C := Try.checked) own started (by kernel_rfl) Try.func4
    (ChangeSpec.witness6 (enc := enc) (C := Try.checked) false ⟨#[], #[.slice none 0 0], []⟩ 8 (by kernel_rfl) (by kernel_rfl) (by kernel_rfl) (by kernel_rfl)) ?_
  intro W base args ds gs before hval0 hW hcnd _
  have hval : ∀ (j : Nat) t v, Try.f4.params[j]? = some t → args[j]? = some v → Value.okWide Try.prog W .any base t v := hval0
  have hW' := hW
  obtain ⟨p, q, hA0, hV, rfl, hfz, hnd⟩ := hW
  have hA : DataW.TrodAll enc Try.prog W 0 (fun _ => true) true Try.f4.params.toList args.toList ds p := hA0
  rw [Try.params4] at hA hval
  obtain ⟨v0, vs0, d0, ds0, p0, q0, hargs, rfl, rfl, h0, r0⟩ := trodAll_cons hA
  obtain ⟨rfl, rfl, rfl⟩ := trodAll_nil r0
  obtain rfl : args = #[v0] := by cases args; simp_all
  obtain ⟨rfl, rfl⟩ := trodVars_none hV
  obtain ⟨a0, len0, cap0, rfl⟩ := okWide_slice Try.underlying22 (hval 0 22 v0 rfl rfl)
  have k0 := h0
  have lt0 : ∀ x ∈ p0, x.block < W.heap.size := by obtain ⟨m, hm⟩ := k0; exact DataW.trod_lt m _ _ _ hm
  obtain ⟨b0, w0⟩ : ∃ bs, Sl W a0 len0 bs := by
    obtain ⟨fuel, hf⟩ := h0
    rcases open_ints Try.underlying22 Try.underlying5 (by kernel_rfl) hf with ⟨hcs, _⟩ | ⟨x, l, c, zs, hcs, _, hl, hm, hz, _, hcell, hwz⟩
    · simp [Value.cells] at hcs
      obtain ⟨rfl, rfl, rfl⟩ := hcs
      exact ⟨[], sl_nil _ _⟩
    · simp [Value.cells] at hcs
      obtain ⟨rfl, rfl, rfl⟩ := hcs
      exact ⟨_, sl_of_ints hl hm (by simpa using hz) hcell hwz⟩
  clear hA0 hval0
  refine (walk a0 len0 cap0 b0 W w0).mono fun e W' ⟨he, bel⟩ => ?_
  subst he
  exact ⟨_, rfl, _, _, _, [], _, [], hW', trodAll_mk1 (shut_bool Try.underlying4 _), (trodAll_cons_mk (Below.trod laidOut (by kernel_rfl) (of_decide_eq_true (by kernel_rfl)) k0 bel lt0) trodAll_mk0), rfl, bel.frame _, fun h => by cases h⟩

theorem over : Rows.fnAppliedRow.holds Try.pinned (OpenSpec.ofChange Rows.fnAppliedSpec) :=
  OpenClaim.holds_of_wide 4 Try.f4 rfl rfl rfl rfl rfl rfl rfl ⟨rfl, rfl, rfl, rfl, rfl⟩ rfl rfl rfl rfl rfl (by kernel_rfl) Try.func4 (by kernel_rfl)
    (of_decide_eq_true (by kernel_rfl)) (by unfold Func.isWrapper; first | (rw [if_pos (by decide +kernel)]; kernel_rfl) | (rw [if_neg (by decide +kernel)]; exact ⟨rfl, rfl⟩))
    (fun os started H enc _ => lifted os started H enc)

theorem proved : Rows.FnAppliedSaid := over
end Go.Proofs.Yteiokccimlcmpaa.fnApplied
