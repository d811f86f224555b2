/- The program's bytes of a sum. -/
import Derived.Test.YtmdhkoiimffmlaaDoorShaW
import Derived.Test.YtmdhkoiimffmlaaDoorShaD
namespace Go.Proofs.YtmdhkoiimffmlaaDoor.sha
open Go.RowKit Go.Proofs.YtmdhkoiimffmlaaDoor.base Go.Proofs.YtmdhkoiimffmlaaDoor.padmath
set_option linter.unusedVariables false
set_option linter.unusedSimpArgs false

theorem aggIndex (x0 x1 x2 x3 x4 x5 x6 x7 : Nat) (k : Nat) (hk : k < 8) (w : World) :
    (Instr.index 85 (.agg #[.int .u32 (x0 : Int), .int .u32 (x1 : Int), .int .u32 (x2 : Int), .int .u32 (x3 : Int), .int .u32 (x4 : Int), .int .u32 (x5 : Int), .int .u32 (x6 : Int), .int .u32 (x7 : Int)]) (.int .i64 (k : Int))).run Tryd.prog w = .ok (.int .u32 ([x0, x1, x2, x3, x4, x5, x6, x7].getD k 0 : Nat)) w := by
  have hcs : k = 0 ∨ k = 1 ∨ k = 2 ∨ k = 3 ∨ k = 4 ∨ k = 5 ∨ k = 6 ∨ k = 7 := by omega
  rcases hcs with rfl | rfl | rfl | rfl | rfl | rfl | rfl | rfl
  all_goals (show _ = _; kernel_rfl)

theorem four_val8 (x : Nat) (h : x < 4294967296) : [Value.int .u8 ((x : Int) / 16777216), Value.int .u8 ((x : Int) / 65536 % 256), Value.int .u8 ((x : Int) / 256 % 256), Value.int .u8 ((x : Int) % 256)] = byteVals (word4 x) := by
  have e : ∀ n : Nat, ((UInt8.ofNat n).toNat : Int) = (n : Int) % 256 := byte_of
  simp only [byteVals, word4, List.map_cons, List.map_nil, e]
  rw [show ((x / 16777216 : Nat) : Int) % 256 = (x : Int) / 16777216 by omega, show ((x / 65536 : Nat) : Int) % 256 = (x : Int) / 65536 % 256 by omega, show ((x / 256 : Nat) : Int) % 256 = (x : Int) / 256 % 256 by omega]

set_option maxRecDepth 100000 in
set_option maxHeartbeats 2000000 in
theorem impl_bytes (x0 x1 x2 x3 x4 x5 x6 x7 : Nat) (w : World) (hx : ∀ x ∈ [x0, x1, x2, x3, x4, x5, x6, x7], x < 4294967296) :
    Calls Tryd.prog 70 #[.agg #[.int .u32 (x0 : Int), .int .u32 (x1 : Int), .int .u32 (x2 : Int), .int .u32 (x3 : Int), .int .u32 (x4 : Int), .int .u32 (x5 : Int), .int .u32 (x6 : Int), .int .u32 (x7 : Int)]] w fun e w' =>
      e = .returned (.string ⟨(([x0, x1, x2, x3, x4, x5, x6, x7].map word4).flatten).toArray⟩) ∧ Below w.heap.size w w' := by
  obtain ⟨i0, hi, hz0, hz1, hz2⟩ := info_parts info8
  have HIX := fun k hk wx => aggIndex x0 x1 x2 x3 x4 x5 x6 x7 k hk wx
  obtain ⟨H, hH⟩ : ∃ H, H = [x0, x1, x2, x3, x4, x5, x6, x7] := ⟨_, rfl⟩
  rw [← hH] at hx HIX ⊢
  have HH := Hid.mk' hH
  have HL : Hid (H.length = 8) := by show _ = _; rw [hH]; rfl
  clear hH
  have hba : Below w.heap.size w (w.alloc (.cells #[.int .u32 (x0 : Int), .int .u32 (x1 : Int), .int .u32 (x2 : Int), .int .u32 (x3 : Int), .int .u32 (x4 : Int), .int .u32 (x5 : Int), .int .u32 (x6 : Int), .int .u32 (x7 : Int)] 85)) := (Below.refl _ _).alloc (Nat.le_refl _) _
  have hA0 : Arr (w.alloc (.cells #[.int .u32 (x0 : Int), .int .u32 (x1 : Int), .int .u32 (x2 : Int), .int .u32 (x3 : Int), .int .u32 (x4 : Int), .int .u32 (x5 : Int), .int .u32 (x6 : Int), .int .u32 (x7 : Int)] 85)) w.heap.size 85 [x0, x1, x2, x3, x4, x5, x6, x7] := arr_new _ _ _ rfl rfl
  go_enter Tryd.func70, Tryd.ntmps70
  go_wp2_with (at_make; refine wpList_make_own _ rfl _ _ 22 rfl w.heap.size 5 i0 (.int .u8 0) 1 Tryd.underlying22 hi hz0 hz1 _ _ _ 32 rfl rfl rfl ?b2 ?b3 ?b4 ?_)
  case b2 => rw [hz2]; omega
  case b3 => unfold maxLen; omega
  case b4 => simp
  intro w1 hown hgrow
  have hA1 := hA0.grown hgrow (by simp)
  obtain ⟨c0, c1, c2, c3, c4, c5, c6, c7⟩ := hA1.eight
  have hB1 : Below w.heap.size w w1 := hba.grown hgrow (by simp) (fun k e => by cases e)
  have hO1 : Own w1 w.heap.size (w.heap.size + 1) 0 32 [] := ⟨rfl, hown⟩
  clear hown hgrow hA0 hA1 hba
  go_wp2_with (at_builtin; fail)
  go_loopw [3, 8] (fun v iv wr => ∃ (k g cp : Nat), k ≤ 8 ∧ iv = .int .i64 (k : Int) ∧ v = .slice (some ⟨g, 0, none⟩) (4 * k) cp ∧ Own wr w.heap.size g (4 * k) cp ((H.take k).map word4).flatten ∧ Below w.heap.size w wr) (fun _ iv _ => 8 - (intOf iv).toNat)
  case atStart => exact ⟨0, w.heap.size + 1, 32, Nat.zero_le _, rfl, rfl, hO1, hB1⟩
  case round =>
    clear c0 c1 c2 c3 c4 c5 c6 c7 hO1 hB1
    obtain ⟨k, g, cp, hk, rfl, rfl, hO, hB⟩ := hrel
    have hbw : w.heap.size ≤ wr.heap.size := hB.size
    by_cases hlt : k < 8
    · have hix := fun wx => HIX k hlt wx
      have hxk := getD_lt hx k
      have HF : Hid (((H.take k).map word4).flatten ++ word4 (H.getD k 0) = ((H.take (k + 1)).map word4).flatten) := take_word H k (by rw [HL.out]; exact hlt)
      have hc3 : 4 * k + 4 ≤ maxLen := by unfold maxLen; omega
      have hc4 : (4 * k + 4) * 1 ≤ 140737488355328 := by omega
      generalize H.getD k 0 = x at *
      clear HIX
      go_wp2_with (at_builtin; refine wpList_append_own _ rfl (.tmp 11) (.tmp 23) 22 rfl w.heap.size 5 i0 (.int .u8 0) 1 1 Tryd.underlying22 hi hz0 hz1 hz2 rfl (by decide) _ _ _ rfl (hO.2.alloc _) ⟨wr.heap.size, 0, none⟩ 4 4 [_, _, _, _] rfl rfl (cells_four _ _ _ _ _ _) (four_oneCell _ _ _ _ _) hc3 hc4 (le_alloc _ _ hbw) ?_)
      intro v2 w2 hown hgrow hnn
      rw [← List.map_take] at hown
      obtain ⟨g3, cp3, hv, hO3⟩ := own_app (m := 4) (ns := word4 x) hO.1 rfl (four_val8 x hxk) hnn hown
      subst hv
      rw [HF.out] at hO3
      have hB3 : Below w.heap.size w w2 := (hB.alloc hbw _).grown hgrow (le_alloc _ _ hbw) (fun k e => by simp [Value.ownBlock] at e; have := hO.lt; omega)
      have HO3 := Hid.mk' hO3
      clear hown hgrow hnn hO3 hO hB hix
      go_wp2_with (at_builtin; fail)
      go_roundw
      case rel => exact ⟨k + 1, g3, cp3, by omega, by go_num, rfl, HO3.out, hB3⟩
      case measure => simp [intOf]; omega
    · have HE : Hid (k = 8) := by show _ = _; omega
      have hcv := conv_own hO
      go_wp2_with (at_builtin; fail)
      go_ret
      refine ⟨ret_str ?_, hB⟩
      have hle : H.length ≤ k := by rw [HL.out, HE.out]; exact Nat.le_refl _
      rw [List.take_of_length_le (by simpa using hle)]

end Go.Proofs.YtmdhkoiimffmlaaDoor.sha
