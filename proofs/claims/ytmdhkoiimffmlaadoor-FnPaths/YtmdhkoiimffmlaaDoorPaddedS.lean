/- The specification's Padded. -/
import Derived.Test.YtmdhkoiimffmlaaDoorPadMath
namespace Go.Proofs.YtmdhkoiimffmlaaDoor.padmath
open Go.RowKit Go.Proofs.YtmdhkoiimffmlaaDoor.base
set_option linter.unusedVariables false
set_option linter.unusedSimpArgs false

set_option maxRecDepth 100000 in
set_option maxHeartbeats 2000000 in
theorem spec_padded (b off len cap : Nat) (bs : List UInt8) (w : World) (h : Sl w (some ⟨b, off, none⟩) len bs) (hsz : len ≤ 1099511627776) :
    Calls Tryd.prog 71 #[.slice (some ⟨b, off, none⟩) len cap] w fun e w' =>
      ∃ g' n' cap', e = .returned (.slice (some ⟨g', 0, none⟩) n' cap') ∧ Own w' w.heap.size g' n' cap' (padded bs) ∧ Below w.heap.size w w' := by
  obtain ⟨i0, hi, hz0, hz1, hz2⟩ := info_parts info8
  have hl := h.1
  have hba : Below w.heap.size w (w.alloc (.cells #[] 5)) := (Below.refl _ _).alloc (Nat.le_refl _) _
  have hsl := sl_cells (h.below hba)
  have hn0 : (byteVals bs).length = len * 1 := by rw [byteVals_length]; omega
  have hm1 : 0 + len ≤ maxLen := by unfold maxLen; omega
  have hm2 : (0 + len) * 1 ≤ 140737488355328 := by omega
  have hown0 : (w.alloc (.cells #[] 5)).ownsRow w.heap.size 5 1 (.slice (some ⟨w.heap.size, 0, none⟩) 0 0) 0 [] := World.ownsRow_made w #[] 0 (Nat.le_refl _) (Nat.zero_le _) rfl
  have HSL := Hid.mk' hsl
  clear hsl
  go_enter Tryd.func71, Tryd.ntmps71
  go_wp2_with (at_builtin; refine wpList_append_own _ rfl (.tmp 6) (.tmp 7) 22 rfl w.heap.size 5 i0 (.int .u8 0) 1 1 Tryd.underlying22 hi hz0 hz1 hz2 rfl (by decide) _ _ _ rfl hown0 ⟨b, off, none⟩ len cap (byteVals bs) rfl hn0 HSL.out (byteVals_oneCell _) hm1 hm2 (le_alloc _ _ (Nat.le_refl _)) ?_)
  intro v1 w1 hown hgrow hnn
  have hnn' : ¬ v1 = .slice none 0 0 := by simpa using hnn
  obtain ⟨g1, cap1, hv, hO1⟩ := own_val hl hnn' hown
  subst hv
  have hB1 : Below w.heap.size w w1 := hba.grown hgrow (le_alloc _ _ (Nat.le_refl _)) (fun k e => by simp [Value.ownBlock] at e; omega)
  have hbw1 := hB1.size
  have hc3 : len + 1 ≤ maxLen := by unfold maxLen; omega
  have hc4 : (len + 1) * 1 ≤ 140737488355328 := by omega
  clear hown hgrow hnn hnn' hown0 HSL hn0
  go_wp2_with (at_builtin; refine wpList_append_own _ rfl (.tmp 8) (.tmp 9) 22 rfl w.heap.size 5 i0 (.int .u8 0) 1 1 Tryd.underlying22 hi hz0 hz1 hz2 rfl (by decide) _ _ _ rfl (hO1.2.alloc _) ⟨w1.heap.size, 0, none⟩ 1 1 [_] rfl rfl (cell_one_new _ _ _) (one_oneCell _ _) hc3 hc4 (le_alloc _ _ hbw1) ?_)
  intro v2 w2 hown hgrow hnn
  obtain ⟨g2, cap2, hv, hO2⟩ := own_app (m := 1) (ns := [128]) hO1.1 rfl (one_val (by decide)) hnn hown
  subst hv
  have hB2 : Below w.heap.size w w2 := (hB1.alloc hbw1 _).grown hgrow (le_alloc _ _ hbw1) (fun k e => by simp [Value.ownBlock] at e; have := hO1.lt; omega)
  have HO2 := Hid.mk' hO2
  have hzl := zeros_lt len
  generalize hZ : zeros len = Z at *
  have HZ := Hid.mk' hZ
  clear hown hgrow hnn hO1 hO2 hB1 hZ hc3 hc4
  go_wp2_with (at_builtin; fail)
  go_loopw [3] (fun v wr => ∃ (j g' cp : Nat), j ≤ Z ∧ v = .slice (some ⟨g', 0, none⟩) (len + 1 + j) cp ∧ Own wr w.heap.size g' (len + 1 + j) cp (padTo bs j) ∧ Below w.heap.size w wr) (fun v _ => len + 1 + Z - lenV v)
  case atStart => exact ⟨0, g2, cap2, Nat.zero_le _, rfl, by rw [padTo_zero]; exact HO2.out, hB2⟩
  case round =>
    obtain ⟨j, g', cp, hj, rfl, hO, hB⟩ := hrel
    clear HO2 hB2
    have hbw : w.heap.size ≤ wr.heap.size := hB.size
    have hc3 : len + 1 + j + 1 ≤ maxLen := by unfold maxLen; omega
    have hc4 : (len + 1 + j + 1) * 1 ≤ 140737488355328 := by omega
    by_cases hjz : j = Z
    · have hq : (((len : Int) + 1 + (j : Int)) % 64 == 56) = true := by
        have := (zeros_hit len j (by rw [HZ.out]; omega)).2 (by rw [HZ.out]; exact hjz)
        rw [beq_iff_eq]; omega
      have HJ := Hid.mk' hjz
      clear hjz
      have hpre : (padTo bs j).length = len + 1 + j := by rw [padTo_length, hl]
      generalize hP : padTo bs j = pre at *
      generalize hM : len + 1 + j = M at *
      have hMb : M ≤ 1099511627900 := by omega
      have hqM : ((M : Int) % 64 != 56) = false := by rw [← hM]; simpa using hq
      clear hq
      have HP := Hid.mk' hP
      have HM := Hid.mk' hM
      clear hP hM hc3 hc4
      go_wp2_with (at_builtin; fail)
      go_loopw [3, 5] (fun v kv wq => ∃ (i g5 cp5 : Nat), i ≤ 8 ∧ kv = .int .i64 (56 - 8 * (i : Int)) ∧ v = .slice (some ⟨g5, 0, none⟩) (M + i) cp5 ∧ Own wq w.heap.size g5 (M + i) cp5 (pre ++ (be8 (len * 8)).take i) ∧ Below w.heap.size w wq) (fun _ kv _ => (intOf kv + 8).toNat)
      case atStart => exact ⟨0, g', cp, by omega, rfl, rfl, by simpa using hO, hB⟩
      case round =>
        obtain ⟨i, g5, cp5, hi8, rfl, rfl, hO5, hB5⟩ := hrel
        clear hO hB
        have hbw5 : w.heap.size ≤ wr.heap.size := hB5.size
        have hc5 : M + i + 1 ≤ maxLen := by unfold maxLen; omega
        have hc6 : (M + i + 1) * 1 ≤ 140737488355328 := by omega
        by_cases hi7 : i < 8
        · obtain ⟨u, hu⟩ : ∃ u, u = (be8 (len * 8))[i]! := ⟨_, rfl⟩
          have htk : (be8 (len * 8)).take (i + 1) = (be8 (len * 8)).take i ++ [u] := by
            rw [hu, List.take_succ_eq_append_getElem (by rw [be8_length]; exact hi7), getElem!_pos (be8 (len * 8)) i (by rw [be8_length]; exact hi7)]
          have HTK := Hid.mk' htk
          have HU := Hid.mk' hu
          clear htk hu
          go_wp2_with (at_builtin; refine wpList_append_own _ rfl (.tmp 25) (.tmp 31) 22 rfl w.heap.size 5 i0 (.int .u8 0) 1 1 Tryd.underlying22 hi hz0 hz1 hz2 rfl (by decide) _ _ _ rfl (hO5.2.alloc _) ⟨wr.heap.size, 0, none⟩ 1 1 [_] rfl rfl (cell_one_new _ _ _) (one_oneCell _ _) hc5 hc6 (le_alloc _ _ hbw5) ?_)
          intro v6 w6 hown hgrow hnn
          obtain ⟨g6, cap6, hv, hO6⟩ := own_app (m := 1) (ns := [u]) hO5.1 rfl (one_val (by rw [HU.out]; exact be8_at len i hi7)) hnn hown
          subst hv
          have hB6 : Below w.heap.size w w6 := (hB5.alloc hbw5 _).grown hgrow (le_alloc _ _ hbw5) (fun k e => by simp [Value.ownBlock] at e; have := hO5.lt; omega)
          rw [List.append_assoc, ← HTK.out] at hO6
          have HO6 := Hid.mk' hO6
          clear hown hgrow hnn hO5 hO6 hB5 HU HTK
          go_wp2_with (at_builtin; fail)
          go_roundw
          case rel => exact ⟨i + 1, g6, cap6, by omega, by go_num, rfl, HO6.out, hB6⟩
          case measure => simp [intOf]; omega
        · have hi8' : i = 8 := by omega
          have hk8 : 56 - 8 * (i : Int) < 0 := by omega
          go_wp2_with (at_builtin; fail)
          go_ret
          refine ⟨g5, _, cp5, rfl, ?_, hB5⟩
          have e : padded bs = pre ++ (be8 (len * 8)).take i := by
            rw [← HP.out, HJ.out, ← HZ.out, ← hl, hi8', List.take_of_length_le (by rw [be8_length]; exact Nat.le_refl _)]; rfl
          rw [e]
          exact hO5
    · have hq : (((len : Int) + 1 + (j : Int)) % 64 == 56) = false := by
        have := (zeros_hit len j (by rw [HZ.out]; omega)).1
        rw [beq_eq_false_iff_ne]; intro e; rw [HZ.out] at this; exact hjz (this (by omega))
      go_wp2_with (at_builtin; refine wpList_append_own _ rfl (.tmp 15) (.tmp 16) 22 rfl w.heap.size 5 i0 (.int .u8 0) 1 1 Tryd.underlying22 hi hz0 hz1 hz2 rfl (by decide) _ _ _ rfl (hO.2.alloc _) ⟨wr.heap.size, 0, none⟩ 1 1 [_] rfl rfl (cell_one_new _ _ _) (one_oneCell _ _) hc3 hc4 (le_alloc _ _ hbw) ?_)
      intro v3 w3 hown hgrow hnn
      obtain ⟨g3, cap3, hv, hO3⟩ := own_app (m := 1) (ns := [0]) hO.1 rfl (one_val (x := 0) (u := 0) (by decide)) hnn hown
      subst hv
      have hB3 : Below w.heap.size w w3 := (hB.alloc hbw _).grown hgrow (le_alloc _ _ hbw) (fun k e => by simp [Value.ownBlock] at e; have := hO.lt; omega)
      rw [padTo_snoc] at hO3
      have HO3 := Hid.mk' hO3
      clear hown hgrow hnn hO hO3 hB
      go_wp2_with (at_builtin; fail)
      go_roundw
      case rel => exact ⟨j + 1, g3, cap3, by omega, rfl, HO3.out, hB3⟩
      case measure => simp [lenV]; omega

end Go.Proofs.YtmdhkoiimffmlaaDoor.padmath
