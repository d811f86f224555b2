/- The specification's HexOf and UnHex. -/
import Derived.Test.YtkmcipabipbekaaHexMath
namespace Go.Proofs.Ytkmcipabipbekaa.hexmath
open Go.RowKit Go.Proofs.Ytkmcipabipbekaa.base
set_option linter.unusedVariables false
set_option linter.unusedSimpArgs false

theorem hexIndex (q : Nat) (h : q < 16) (w : World) : (Instr.index 9 (.string ⟨#[48, 49, 50, 51, 52, 53, 54, 55, 56, 57, 97, 98, 99, 100, 101, 102]⟩) (.int .u8 (q : Int))).run Try.prog w = .ok (.int .u8 (hexd q : Int)) w := by
  have hcs : q = 0 ∨ q = 1 ∨ q = 2 ∨ q = 3 ∨ q = 4 ∨ q = 5 ∨ q = 6 ∨ q = 7 ∨ q = 8 ∨ q = 9 ∨ q = 10 ∨ q = 11 ∨ q = 12 ∨ q = 13 ∨ q = 14 ∨ q = 15 := by omega
  rcases hcs with rfl | rfl | rfl | rfl | rfl | rfl | rfl | rfl | rfl | rfl | rfl | rfl | rfl | rfl | rfl | rfl
  all_goals (show _ = _; kernel_rfl)
theorem hexParts (c : Nat) (h : c < 256) : ∃ q r : Nat, q < 16 ∧ r < 16 ∧ (c : Int) / 16 = (q : Int) ∧ bits .and .u8 (c : Int) 15 = (r : Int) ∧ q = c / 16 ∧ r = c % 16 :=
  ⟨c / 16, c % 16, by omega, by omega, by omega, (u8_and15 (x := (c : Int)) (by omega) (by omega)).trans (by omega), rfl, rfl⟩
theorem two_val {x y : Int} {u v : UInt8} (h : x = (u.toNat : Int)) (h2 : y = (v.toNat : Int)) : [Value.int .u8 x, Value.int .u8 y] = byteVals [u, v] := by rw [h, h2]; rfl

set_option maxRecDepth 100000 in
set_option maxHeartbeats 2000000 in
theorem spec_hexOf (s : ByteArray) (w : World) (hs : s.size ≤ 1099511627776) :
    Calls Try.prog 12 #[.string s] w fun e w' => e = .returned (.string ⟨(hexOf s.data.toList).toArray⟩) ∧ Below w.heap.size w w' := by
  obtain ⟨i0, hi, hz0, hz1, hz2⟩ := info_parts info8
  go_enter Try.func12, Try.ntmps12
  go_wp2_with (at_builtin; fail)
  go_loopw [3, 4] (fun v i wr => ∃ (k g cp : Nat), k ≤ s.size ∧ i = .int .i64 (k : Int) ∧ v = .slice (some ⟨g, 0, none⟩) (2 * k) cp ∧ Own wr w.heap.size g (2 * k) cp (hexOf (s.data.toList.take k)) ∧ Below w.heap.size w wr) (fun _ i _ => s.size - (intOf i).toNat)
  case atStart => exact ⟨0, w.heap.size, 0, Nat.zero_le _, rfl, rfl, own_made w _ (Nat.le_refl _), (Below.refl _ _).alloc (Nat.le_refl _) _⟩
  case round =>
    obtain ⟨k, g, cp, hk, rfl, rfl, hO, hB⟩ := hrel
    by_cases hlt : k < s.size
    · have htk := take_snoc s k hlt
      obtain ⟨q, r, hq16, hr16, hq, hr, hqe, hre⟩ := hexParts s[k].toNat (UInt8.toNat_lt _)
      have hiq := fun wx => hexIndex q hq16 wx
      have hir := fun wx => hexIndex r hr16 wx
      have hki : (k : Int) < (s.size : Int) := by omega
      have hc3 : 2 * k + 2 ≤ maxLen := by unfold maxLen; omega
      have hc4 : (2 * k + 2) * 1 ≤ 140737488355328 := by omega
      have hbw : w.heap.size ≤ wr.heap.size := hB.size
      have HN : Hid (hexOf (s.data.toList.take k) ++ [UInt8.ofNat (hexd q), UInt8.ofNat (hexd r)] = hexOf (s.data.toList.take (k + 1))) := by
        show _ = _
        rw [htk, hexOf_snoc, hqe, hre]; rfl
      have hx1 := hexd_lt q hq16
      have hx2 := hexd_lt r hr16
      clear htk hqe hre
      go_wp2_with (at_builtin; fail)
      go_region_law (refine step_append_own rfl (.tmp 12) (.tmp 23) 22 rfl w.heap.size 5 i0 (.int .u8 0) 1 1 Try.underlying22 hi hz0 hz1 hz2 rfl (by decide) _ _ _ rfl (hO.2.alloc _) ⟨wr.heap.size, 0, none⟩ 2 2 [_, _] rfl rfl (cells_two _ _ _ _) (two_oneCell _ _ _) hc3 hc4 (le_alloc _ _ hbw) ?_; intro v2 w2 hown hgrow hnn)
      all_goals
        obtain ⟨g2, cp2, hv, hO2⟩ := own_app (m := 2) (ns := [UInt8.ofNat (hexd q), UInt8.ofNat (hexd r)]) hO.1 rfl (two_val (by rw [byte_of]; omega) (by rw [byte_of]; omega)) (by simpa using hnn) hown
        subst hv
        rw [HN.out] at hO2
        have hgr2 : (wr.alloc (.cells #[.int .u8 (hexd q : Int), .int .u8 (hexd r : Int)] 5)).drew.grownBy w2 (some g) := hgrow
        have hB2 : Below w.heap.size w w2 := (hB.alloc hbw _).drew.grown hgr2 (le_alloc _ _ hbw) (fun k e => by cases e; exact hO.lt.1)
        have HO2 := Hid.mk' hO2
        clear hown hgrow hgr2 hnn hO2
        go_wp2_with (at_builtin; fail)
        go_roundw
        case rel => exact ⟨k + 1, g2, cp2, by omega, by go_num, rfl, HO2.out, hB2⟩
        case measure => simp [intOf]; omega
    · have HE : Hid (k = s.size) := by show _ = _; omega
      have hcv := conv_own hO
      go_wp2_with (at_builtin; fail)
      go_ret
      refine ⟨ret_str ?_, hB⟩
      rw [List.take_of_length_le (by have := HE.out; simp; omega)]

set_option maxHeartbeats 400000 in
theorem l1In_ (x a b : Int) (w : World) (hx : -1000 ≤ x ∧ x ≤ 1000) (ha : 0 ≤ a ∧ a ≤ 1000) (hb : 0 ≤ b ∧ b ≤ 1000) :
    Calls Try.prog 18 #[.int .i64 x, .int .i64 a, .int .i64 b] w fun e w' => e = .returned (.bool (decide (a ≤ x ∧ x ≤ b))) ∧ w' = w := by
  by_cases h1 : a ≤ x
  · by_cases h2 : x ≤ b
    · go_enter Try.func18, Try.ntmps18
      go_wp2
      go_ret
      exact ⟨ret_bool (by simp [h1, h2]), rfl⟩
    · go_enter Try.func18, Try.ntmps18
      go_wp2
      go_ret
      exact ⟨ret_bool (by simp [h1, h2]), rfl⟩
  · go_enter Try.func18, Try.ntmps18
    go_wp2
    go_ret
    exact ⟨ret_bool (by have h3 : ¬ a ≤ x := by omega
                        simp [h3]), rfl⟩

set_option maxHeartbeats 400000 in
theorem spec_digit (c : Nat) (hc : c < 256) (w : World) :
    Calls Try.prog 16 #[.int .u8 (c : Int)] w fun e w' => e = .returned (.int .i64 (digit c)) ∧ w' = w := by
  by_cases h1 : 48 ≤ c ∧ c ≤ 57
  · have hd : digit c = (c : Int) - 48 := by unfold digit; rw [if_pos h1]
    rw [hd]
    have hl := l1In_ (c : Int) 48 57 w (by omega) (by omega) (by omega)
    rw [decide_eq_true (by omega)] at hl
    have HL := Hid.mk' hl
    clear hl hd
    go_enter Try.func16, Try.ntmps16
    go_wp2_with fail
    refine HL.out.mono ?_
    rintro e w1 ⟨rfl, rfl⟩
    go_wp2_with fail
    go_ret
    exact ⟨rfl, rfl⟩
  · have hl := l1In_ (c : Int) 48 57 w (by omega) (by omega) (by omega)
    rw [decide_eq_false (by omega)] at hl
    have HL := Hid.mk' hl
    clear hl
    by_cases h2 : 97 ≤ c ∧ c ≤ 102
    · have hd : digit c = (c : Int) - 87 := by unfold digit; rw [if_neg h1, if_pos h2]
      rw [hd]
      have hl := l1In_ (c : Int) 97 102 w (by omega) (by omega) (by omega)
      rw [decide_eq_true (by omega)] at hl
      have HL2 := Hid.mk' hl
      clear hl hd
      go_enter Try.func16, Try.ntmps16
      go_wp2_with fail
      refine HL.out.mono ?_
      rintro e w1 ⟨rfl, rfl⟩
      go_wp2_with fail
      refine HL2.out.mono ?_
      rintro e w1 ⟨rfl, rfl⟩
      go_wp2_with fail
      go_ret
      exact ⟨ret_int (by omega), rfl⟩
    · have hd : digit c = -1 := by unfold digit; rw [if_neg h1, if_neg h2]
      rw [hd]
      have hl := l1In_ (c : Int) 97 102 w (by omega) (by omega) (by omega)
      rw [decide_eq_false (by omega)] at hl
      have HL2 := Hid.mk' hl
      clear hl hd
      go_enter Try.func16, Try.ntmps16
      go_wp2_with fail
      refine HL.out.mono ?_
      rintro e w1 ⟨rfl, rfl⟩
      go_wp2_with fail
      refine HL2.out.mono ?_
      rintro e w1 ⟨rfl, rfl⟩
      go_wp2_with fail
      go_ret
      exact ⟨rfl, rfl⟩

def unRet : Option (List UInt8) → Value
  | none => .tuple #[.string ⟨#[]⟩, .bool false]
  | some l => .tuple #[.string ⟨l.toArray⟩, .bool true]
theorem unHex_step (l : List UInt8) (p : Nat) (acc : List UInt8) (h : p + 1 < l.length) : unHex (l.drop p) acc =
    if digit l[p].toNat < 0 ∨ digit l[p + 1].toNat < 0 then none else unHex (l.drop (p + 2)) (acc ++ [UInt8.ofNat (digit l[p].toNat * 16 + digit l[p + 1].toNat).toNat]) := by
  rw [List.drop_eq_getElem_cons (by omega : p < l.length), List.drop_eq_getElem_cons h, unHex]
theorem unHex_end (l : List UInt8) (p : Nat) (acc : List UInt8) (h : p = l.length) : unHex (l.drop p) acc = some acc := by
  rw [List.drop_eq_nil_of_le (by omega), unHex]
theorem unHex_one (l : List UInt8) (p : Nat) (acc : List UInt8) (h : p + 1 = l.length) : unHex (l.drop p) acc = none := by
  rw [List.drop_eq_getElem_cons (by omega : p < l.length), List.drop_eq_nil_of_le (by omega), unHex]
theorem ret_two {a b : ByteArray} {c d : Bool} (h : a = b) (h2 : c = d) : Ending.returned (.tuple #[.string a, .bool c]) = .returned (.tuple #[.string b, .bool d]) := by rw [h, h2]

set_option maxRecDepth 100000 in
set_option maxHeartbeats 2000000 in
theorem spec_unHex (s : ByteArray) (w : World) (hs : s.size ≤ 1099511627776) :
    Calls Try.prog 14 #[.string s] w fun e w' => e = .returned (unRet (unHex s.data.toList [])) ∧ Below w.heap.size w w' := by
  obtain ⟨i0, hi, hz0, hz1, hz2⟩ := info_parts info8
  have hlen : s.data.toList.length = s.size := by simp
  generalize hR : unHex s.data.toList [] = R
  have HR := Hid.mk' hR
  have HL := Hid.mk' hlen
  clear hR hlen
  go_enter Try.func14, Try.ntmps14
  go_wp2_with (at_builtin; fail)
  go_loopw [4, 5] (fun v i wr => ∃ (k g cp : Nat) (acc : List UInt8), 2 * k ≤ s.size ∧ i = .int .i64 (2 * (k : Int)) ∧ v = .slice (some ⟨g, 0, none⟩) k cp ∧ Own wr w.heap.size g k cp acc ∧ Below w.heap.size w wr ∧ unHex (s.data.toList.drop (2 * k)) acc = R) (fun _ i _ => s.size - (intOf i).toNat)
  case atStart => exact ⟨0, w.heap.size, 0, [], Nat.zero_le _, rfl, rfl, own_made w _ (Nat.le_refl _), (Below.refl _ _).alloc (Nat.le_refl _) _, HR.out⟩
  case round =>
    obtain ⟨k, g, cp, acc, hk, rfl, rfl, hO, hB, hr⟩ := hrel
    by_cases hlt : 2 * k + 1 < s.size
    · have hst := unHex_step s.data.toList (2 * k) acc (by rw [HL.out]; exact hlt)
      rw [hr] at hst
      obtain ⟨x, hx, hxe, hxb⟩ : ∃ x : Nat, x < 256 ∧ (s[2 * k]'(by omega)).toNat = x ∧ (s.data.toList[2 * k]'(by rw [HL.out]; omega)).toNat = x := ⟨_, UInt8.toNat_lt _, rfl, rfl⟩
      obtain ⟨y, hy, hye, hyb⟩ : ∃ y : Nat, y < 256 ∧ (s[2 * k + 1]'(by omega)).toNat = y ∧ (s.data.toList[2 * k + 1]'(by rw [HL.out]; omega)).toNat = y := ⟨_, UInt8.toNat_lt _, rfl, rfl⟩
      rw [hxb, hyb] at hst
      have hbx := digit_bound x
      have hby := digit_bound y
      have hki : 2 * (k : Int) < (s.size : Int) := by omega
      have hki2 : 2 * (k : Int) + 1 < (s.size : Int) := by omega
      clear hr hxb hyb
      have HST := Hid.mk' hst
      clear hst
      have hbw : w.heap.size ≤ wr.heap.size := hB.size
      have hc3 : k + 1 ≤ maxLen := by unfold maxLen; omega
      have hc4 : (k + 1) * 1 ≤ 140737488355328 := by omega
      by_cases hneg : digit x < 0 ∨ digit y < 0
      · have HF : Hid (R = none) := by have := HST.out; rw [if_pos hneg] at this; exact this
        by_cases hnx : digit x < 0
        · go_wp2_with fail
          refine (spec_digit x hx _).mono ?_
          rintro e w1 ⟨rfl, rfl⟩
          go_wp2_with fail
          refine (spec_digit y hy _).mono ?_
          rintro e w1 ⟨rfl, rfl⟩
          go_wp2_with fail
          go_ret2
          exact ⟨by rw [HF.out]; rfl, hB⟩
        · have hny : digit y < 0 := by omega
          go_wp2_with fail
          refine (spec_digit x hx _).mono ?_
          rintro e w1 ⟨rfl, rfl⟩
          go_wp2_with fail
          refine (spec_digit y hy _).mono ?_
          rintro e w1 ⟨rfl, rfl⟩
          go_wp2_with fail
          go_ret2
          exact ⟨by rw [HF.out]; rfl, hB⟩
      · have HF : Hid (unHex (s.data.toList.drop (2 * (k + 1))) (acc ++ [UInt8.ofNat (digit x * 16 + digit y).toNat]) = R) := by
          have := HST.out; rw [if_neg hneg] at this; exact this.symm
        have hpx : 0 ≤ digit x := by omega
        have hpy : 0 ≤ digit y := by omega
        clear hneg
        go_wp2_with fail
        refine (spec_digit x hx _).mono ?_
        rintro e w1 ⟨rfl, hw1⟩
        subst hw1
        go_wp2_with fail
        refine (spec_digit y hy _).mono ?_
        rintro e w2 ⟨rfl, hw2⟩
        subst hw2
        go_wp2_with (at_builtin; refine wpList_append_own _ rfl (.tmp 31) (.tmp 37) 22 rfl w.heap.size 5 i0 (.int .u8 0) 1 1 Try.underlying22 hi hz0 hz1 hz2 rfl (by decide) _ _ _ rfl (hO.2.alloc _) ⟨w2.heap.size, 0, none⟩ 1 1 [_] rfl rfl (cell_one_new _ _ _) (one_oneCell _ _) hc3 hc4 (le_alloc _ _ hbw) ?_)
        intro v3 w3 hown hgrow hnn
        obtain ⟨g3, cp3, hv, hO3⟩ := own_app (m := 1) (ns := [UInt8.ofNat (digit x * 16 + digit y).toNat]) hO.1 rfl (one_val (by rw [byte_of]; omega)) hnn hown
        subst hv
        have hB3 : Below w.heap.size w w3 := (hB.alloc hbw _).grown hgrow (le_alloc _ _ hbw) (fun k e => by simp [Value.ownBlock] at e; have := hO.lt; omega)
        have HO3 := Hid.mk' hO3
        clear hown hgrow hnn hO hO3 hB
        go_wp2_with (at_builtin; fail)
        go_roundw
        case rel => exact ⟨k + 1, g3, cp3, _, by omega, by go_num, rfl, HO3.out, hB3, HF.out⟩
        case measure => simp [intOf]; omega
    · have hcv := conv_own hO
      by_cases hodd : 2 * k + 1 = s.size
      · have HF : Hid (R = none) := by rw [← hr]; exact unHex_one _ _ _ (by rw [HL.out]; exact hodd)
        have hq : ((s.size : Int) % 2 == 1) = true := by rw [beq_iff_eq]; omega
        have hn2 : ¬ 2 * (k : Int) + 1 < (s.size : Int) := by omega
        clear hr hodd
        go_wp2_with (at_builtin; fail)
        go_ret2
        exact ⟨by rw [HF.out]; rfl, hB⟩
      · have HF : Hid (R = some acc) := by rw [← hr]; exact unHex_end _ _ _ (by rw [HL.out]; omega)
        have hq : ((s.size : Int) % 2 == 1) = false := by rw [beq_eq_false_iff_ne]; omega
        have hn2 : ¬ 2 * (k : Int) + 1 < (s.size : Int) := by omega
        clear hr hodd
        go_wp2_with (at_builtin; fail)
        go_ret2
        exact ⟨by rw [HF.out]; rfl, hB⟩

end Go.Proofs.Ytkmcipabipbekaa.hexmath
