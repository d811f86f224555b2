/- The statement FnMeetsSaid: at every slice of bytes FnMeets answers true, and the slice reads afterwards as before. No condition besides the row's own. -/
import Derived.Test.YteiokccimlcmpaaRows
import Derived.Test.YteiokccimlcmpaaBig
import Derived.Test.YteiokccimlcmpaaDrawU
import Derived.Test.YteiokccimlcmpaaOrdK
import Derived.ProofKit
import Derived.OpenShut
import Derived.ShutString
import Derived.ChangeOld
import Derived.Below
namespace Go.Proofs.Yteiokccimlcmpaa.fnMeets
open Go.ChangeShapes Go.WideShapes Go.ChangeAt Go.RowKit
open Go.ChangeMaps (open_string shut_string)
set_option linter.unusedVariables false
open Go.Proofs.Yteiokccimlcmpaa.base Go.Proofs.Yteiokccimlcmpaa.pairs Go.Proofs.Yteiokccimlcmpaa.ords

theorem meets_take (m : List Pr) (l : List Od) (k : Nat) (h : k < l.length) : meets m (l.take (k + 1)) = (meets m (l.take k) && meet1 m l[k]) := by
  unfold meets
  rw [List.take_succ_eq_append_getElem h, List.all_append]
  simp

set_option maxRecDepth 100000 in
set_option maxHeartbeats 4000000 in
theorem walk (a0 : Option Addr) (len0 cap0 : Nat) (b0 : List UInt8) (w : World) (w0 : Sl w a0 len0 b0) :
    Calls Try.prog 5 #[.slice a0 len0 cap0] w fun e w' => e = .returned (.bool true) ∧ Below w.heap.size w w' := by
  have hm := w0.2.1
  by_cases hbig : 1048576 < len0
  · have hb := big_ a0 len0 cap0 w hm
    rw [decide_eq_true (by omega)] at hb
    have HB := Hid.mk' hb
    clear hb
    go_enter Try.func5, Try.ntmps5
    go_wp2_with fail
    refine HB.out.mono ?_
    rintro e wa ⟨rfl, rfl⟩
    go_wp2_with fail
    go_ret
    exact ⟨rfl, Below.refl _ _⟩
  · have hb := big_ a0 len0 cap0 w hm
    rw [decide_eq_false (by omega)] at hb
    have HB := Hid.mk' hb
    clear hb
    go_enter Try.func5, Try.ntmps5
    go_wp2_with fail
    refine HB.out.mono ?_
    rintro e wa ⟨rfl, hwa⟩
    subst hwa
    clear HB
    go_wp2_with fail
    refine (drawMeets a0 len0 cap0 b0 _ w0 (by omega)).mono ?_
    rintro e w1 ⟨g, n, cp, m, g2, n2, cp2, l, hn, hn2, htm, htl, rfl, hM1, hL1, hB1⟩
    have hlm := hM1.1
    have hll := hL1.1
    subst hlm hll
    have hSM := hM1.sl
    have hSL := hL1.sl
    clear htm htl hM1 hL1
    go_wp2_with fail
    go_loopw [5, 6] (fun t i wr => ∃ k : Nat, k ≤ l.length ∧ i = .int .i64 (k : Int) ∧ t = .bool (meets m (l.take k)) ∧ Below w1.heap.size w1 wr) (fun _ i _ => l.length - (intOf i).toNat)
    case atStart => exact ⟨0, Nat.zero_le _, rfl, rfl, Below.refl _ _⟩
    case round =>
      obtain ⟨k, hk, rfl, rfl, hB⟩ := hrel
      by_cases hlt : k < l.length
      · obtain ⟨c0, c1, c2⟩ := (hSL.below hB).cells k hlt
        have hki : (k : Int) < (l.length : Int) := by omega
        have hst := meets_take m l k hlt
        have hG := impl_getKey g 0 m.length cp m l[k].2.1 wr (hSM.below hB)
        have hbl : g2 < wr.heap.size := (hSL.below hB).lt (by omega)
        generalize l[k] = o at *
        obtain ⟨z, key, val⟩ := o
        simp only [Nat.zero_add] at c0 c1 c2 hG
        rw [meet1_need, need1] at hst
        generalize meets m (l.take k) = T at *
        cases hg : getKey key m with
        | none =>
          rw [hg] at hG hst
          simp only [getRet] at hG
          have HG := Hid.mk' hG
          by_cases hz : z = 3
          · subst hz
            by_cases hv : val.size = 0
            · have HF : Hid (meets m (l.take (k + 1)) = T) := by show _ = _; rw [hst]; simp [hv]
              obtain rfl := size_empty hv
              clear hst hg hG hv
              go_wp2_with fail
              refine HG.out.mono ?_
              rintro e w3 ⟨rfl, hb3⟩
              have hc := bcell hb3
              have hB3 := hB.trans (hb3.mono hB.size)
              go_wp2_with fail
              go_roundw
              case rel => exact ⟨k + 1, by omega, by go_num, by rw [HF.out], hB3⟩
              case measure => simp [intOf]; omega
            · have HF : Hid (meets m (l.take (k + 1)) = false) := by show _ = _; rw [hst]; simp [hv]
              obtain ⟨hq, hq2⟩ := not_empty hv
              clear hst hg hG hv
              go_wp2_with fail
              refine HG.out.mono ?_
              rintro e w3 ⟨rfl, hb3⟩
              have hc := bcell hb3
              have hB3 := hB.trans (hb3.mono hB.size)
              go_wp2_with fail
              all_goals
                go_roundw
                case rel => exact ⟨k + 1, by omega, by go_num, by rw [HF.out], hB3⟩
                case measure => simp [intOf]; omega
          · have HF : Hid (meets m (l.take (k + 1)) = T) := by show _ = _; rw [hst]; simp [hz]
            have hzz : (z == 3) = false := beq_eq_false_iff_ne.2 hz
            clear hst hg hG hz
            go_wp2_with fail
            refine HG.out.mono ?_
            rintro e w3 ⟨rfl, hb3⟩
            have hc := bcell hb3
            have hB3 := hB.trans (hb3.mono hB.size)
            go_wp2_with fail
            go_roundw
            case rel => exact ⟨k + 1, by omega, by go_num, by rw [HF.out], hB3⟩
            case measure => simp [intOf]; omega
        | some v =>
          rw [hg] at hG hst
          simp only [getRet] at hG
          have HG := Hid.mk' hG
          by_cases hz : z = 3
          · subst hz
            by_cases hvv : v = val
            · subst hvv
              by_cases hv : v.size = 0
              · have HF : Hid (meets m (l.take (k + 1)) = false) := by show _ = _; rw [hst]; simp [hv]
                obtain rfl := size_empty hv
                clear hst hg hG hv
                go_wp2_with fail
                refine HG.out.mono ?_
                rintro e w3 ⟨rfl, hb3⟩
                have hc := bcell hb3
                have hB3 := hB.trans (hb3.mono hB.size)
                go_wp2_with fail
                go_roundw
                case rel => exact ⟨k + 1, by omega, by go_num, by rw [HF.out], hB3⟩
                case measure => simp [intOf]; omega
              · have HF : Hid (meets m (l.take (k + 1)) = T) := by show _ = _; rw [hst]; simp [hv]
                obtain ⟨hq, hq2⟩ := not_empty hv
                clear hst hg hG hv
                go_wp2_with fail
                refine HG.out.mono ?_
                rintro e w3 ⟨rfl, hb3⟩
                have hc := bcell hb3
                have hB3 := hB.trans (hb3.mono hB.size)
                go_wp2_with fail
                go_roundw
                case rel => exact ⟨k + 1, by omega, by go_num, by rw [HF.out], hB3⟩
                case measure => simp [intOf]; omega
            · have HF : Hid (meets m (l.take (k + 1)) = false) := by show _ = _; rw [hst]; simp [hvv]
              have hne := str_ne hvv
              clear hst hg hG hvv
              go_wp2_with fail
              refine HG.out.mono ?_
              rintro e w3 ⟨rfl, hb3⟩
              have hc := bcell hb3
              have hB3 := hB.trans (hb3.mono hB.size)
              go_wp2_with fail
              go_roundw
              case rel => exact ⟨k + 1, by omega, by go_num, by rw [HF.out], hB3⟩
              case measure => simp [intOf]; omega
          · have HF : Hid (meets m (l.take (k + 1)) = T) := by show _ = _; rw [hst]; simp [hz]
            have hzz : (z == 3) = false := beq_eq_false_iff_ne.2 hz
            clear hst hg hG hz
            go_wp2_with fail
            refine HG.out.mono ?_
            rintro e w3 ⟨rfl, hb3⟩
            have hc := bcell hb3
            have hB3 := hB.trans (hb3.mono hB.size)
            go_wp2_with fail
            go_roundw
            case rel => exact ⟨k + 1, by omega, by go_num, by rw [HF.out], hB3⟩
            case measure => simp [intOf]; omega
      · have HE : Hid (l.take k = l) := List.take_of_length_le (by omega)
        rw [HE.out]
        have HI := Hid.mk' (impl_meets g 0 m.length cp m g2 0 l.length cp2 l wr (hSM.below hB) (hSL.below hB) (by omega))
        have HS : Hid (∀ wx, Below wr.heap.size wr wx → Calls Try.prog 33 #[.slice (some ⟨g, 0, none⟩) m.length cp, .slice (some ⟨g2, 0, none⟩) l.length cp2] wx fun e w' => e = .returned (.bool (meets m l)) ∧ Below wx.heap.size wx w') := fun wx hx => spec_meets (some ⟨g, 0, none⟩) m.length cp m (some ⟨g2, 0, none⟩) l.length cp2 l wx ((hSM.below hB).below hx) ((hSL.below hB).below hx)
        generalize meets m l = T at *
        go_wp2_with fail
        refine HI.out.mono ?_
        rintro e w3 ⟨rfl, hb3⟩
        cases T
        all_goals
          go_wp2_with fail
          refine (HS.out _ hb3).mono ?_
          rintro e w4 ⟨rfl, hb4⟩
          go_wp2_with fail
          go_ret
          exact ⟨rfl, hB1.trans ((hB.trans ((hb3.trans (hb4.mono hb3.size)).mono hB.size)).mono hB1.size)⟩

theorem own : ownKnob Try.prog.godebug = none := by kernel_rfl
theorem laidOut : laidOutB Try.prog = true := by kernel_rfl

set_option maxRecDepth 100000 in
theorem lifted (os : Os) (started : os.Started) (H : Type) (enc : TypeId × Value → H) :
    ReturnsInHanded {} Try.checked os 5 .any (Rows.fnMeetsSpec.pre6 enc Try.prog Try.f5 Rows.fnMeetsRow.domain false) (Rows.fnMeetsSpec.post enc Try.prog Try.f5 false true false false) := by
  refine returnsInHanded_of_change (C := Try.checked) own started (by kernel_rfl) Try.func5
    (ChangeSpec.witness6 (enc := enc) (C := Try.checked) false ⟨#[], #[.slice none 0 0], []⟩ 8 (by kernel_rfl) (by kernel_rfl) (by kernel_rfl) (by kernel_rfl)) ?_
  intro W base args ds gs before hval0 hW hcnd _
  have hval : ∀ (j : Nat) t v, Try.f5.params[j]? = some t → args[j]? = some v → Value.okWide Try.prog W .any base t v := hval0
  have hW' := hW
  obtain ⟨p, q, hA0, hV, rfl, hfz, hnd⟩ := hW
  have hA : DataW.TrodAll enc Try.prog W 0 (fun _ => true) true Try.f5.params.toList args.toList ds p := hA0
  rw [Try.params5] at hA hval
  obtain ⟨v0, vs0, d0, ds0, p0, q0, hargs, rfl, rfl, h0, r0⟩ := trodAll_cons hA
  obtain ⟨rfl, rfl, rfl⟩ := trodAll_nil r0
  obtain rfl : args = #[v0] := by cases args; simp_all
  obtain ⟨rfl, rfl⟩ := trodVars_none hV
  obtain ⟨a0, len0, cap0, rfl⟩ := okWide_slice Try.underlying22 (hval 0 22 v0 rfl rfl)
  have k0 := h0
  have lt0 : ∀ x ∈ p0, x.block < W.heap.size := by obtain ⟨m, hm⟩ := k0; exact DataW.trod_lt m _ _ _ hm
  obtain ⟨b0, w0⟩ : ∃ bs, Sl W a0 len0 bs := by
    obtain ⟨fuel, hf⟩ := h0
    rcases open_ints Try.underlying22 Try.underlying5 (by kernel_rfl) hf with ⟨hcs, _⟩ | ⟨x, l, c, zs, hcs, _, hl, hm, hz, _, hcell, hwz⟩
    · simp [Value.cells] at hcs
      obtain ⟨rfl, rfl, rfl⟩ := hcs
      exact ⟨[], sl_nil _ _⟩
    · simp [Value.cells] at hcs
      obtain ⟨rfl, rfl, rfl⟩ := hcs
      exact ⟨_, sl_of_ints hl hm (by simpa using hz) hcell hwz⟩
  clear hA0 hval0
  refine (walk a0 len0 cap0 b0 W w0).mono fun e W' ⟨he, bel⟩ => ?_
  subst he
  exact ⟨_, rfl, _, _, _, [], _, [], hW', trodAll_mk1 (shut_bool Try.underlying4 _), (trodAll_cons_mk (Below.trod laidOut (by kernel_rfl) (of_decide_eq_true (by kernel_rfl)) k0 bel lt0) trodAll_mk0), rfl, bel.frame _, fun h => by cases h⟩

theorem over : Rows.fnMeetsRow.holds Try.pinned (OpenSpec.ofChange Rows.fnMeetsSpec) :=
  OpenClaim.holds_of_wide 5 Try.f5 rfl rfl rfl rfl rfl rfl rfl ⟨rfl, rfl, rfl, rfl, rfl⟩ rfl rfl rfl rfl rfl (by kernel_rfl) Try.func5 (by kernel_rfl)
    (of_decide_eq_true (by kernel_rfl)) (by unfold Func.isWrapper; first | (rw [if_pos (by decide +kernel)]; kernel_rfl) | (rw [if_neg (by decide +kernel)]; exact ⟨rfl, rfl⟩))
    (fun os started H enc _ => lifted os started H enc)

theorem proved : Rows.FnMeetsSaid := over
end Go.Proofs.Yteiokccimlcmpaa.fnMeets
