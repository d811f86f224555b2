/- The program's HexOf and UnHex. -/
import Derived.Test.YtmdhkoiimffmlaaDoorHexS
import Derived.Test.YtmdhkoiimffmlaaDoorFits
namespace Go.Proofs.YtmdhkoiimffmlaaDoor.hexmath
open Go.RowKit Go.Proofs.YtmdhkoiimffmlaaDoor.base
set_option linter.unusedVariables false
set_option linter.unusedSimpArgs false

set_option maxRecDepth 100000 in
set_option maxHeartbeats 2000000 in
theorem impl_hexOf (s : ByteArray) (w : World) (hs : s.size ≤ 1099511627776) :
    Calls Tryd.prog 15 #[.string s] w fun e w' => e = .returned (.string ⟨(hexOf s.data.toList).toArray⟩) ∧ Below w.heap.size w w' := by
  obtain ⟨i0, hi, hz0, hz1, hz2⟩ := info_parts info8
  go_enter Tryd.func15, Tryd.ntmps15
  go_wp2_with (at_make; refine wpList_make_own _ rfl _ _ 22 rfl w.heap.size 5 i0 (.int .u8 0) 1 Tryd.underlying22 hi hz0 hz1 _ _ _ (2 * s.size) rfl rfl (by omega) ?b2 ?b3 ?b4 ?_)
  case b2 => rw [hz2]; omega
  case b3 => unfold maxLen; omega
  case b4 => exact Nat.le_refl _
  intro w1 hown hgrow
  have hO1 : Own w1 w.heap.size w.heap.size 0 (2 * s.size) [] := ⟨rfl, hown⟩
  have hB1 : Below w.heap.size w w1 := (Below.refl _ _).grown hgrow (Nat.le_refl _) (fun k e => by cases e)
  have hlt1 : w.heap.size < w1.heap.size := hO1.lt.2
  have hconv := Lib.run_convert_string_bytes (P := Tryd.prog) w1 9 22 5 s Tryd.underlying9 Tryd.underlying22 Tryd.underlying5
  clear hown hgrow
  go_wp2_with (at_builtin; fail)
  go_loopw [3, 13] (fun v i wr => ∃ (k : Nat), k ≤ s.size ∧ i = .int .i64 (k : Int) ∧ v = .slice (some ⟨w.heap.size, 0, none⟩) (2 * k) (2 * s.size) ∧ Own wr w.heap.size w.heap.size (2 * k) (2 * s.size) (hexOf (s.data.toList.take k)) ∧ Below w.heap.size w wr ∧ Bts wr w1.heap.size s) (fun _ i _ => s.size - (intOf i).toNat)
  case atStart => exact ⟨0, Nat.zero_le _, rfl, rfl, hO1.below (below_bytesWorld _ _ _), hB1.trans ((below_bytesWorld w1 5 s).mono hB1.size), bts_new w1 s⟩
  case round =>
    obtain ⟨k, hk, rfl, rfl, hO, hB, hS⟩ := hrel
    clear hO1 hB1 hconv
    by_cases hlt : k < s.size
    · have htk := take_snoc s k hlt
      have hcl := hS.2 k hlt
      obtain ⟨q, r, hq16, hr16, hq, hr, hqe, hre⟩ := hexParts s[k].toNat (UInt8.toNat_lt _)
      have hr' : (s[k].toNat : Int) % 16 = (r : Int) := by omega
      have hwq : IntKind.u8.wrap (q : Int) = (q : Int) := by rw [IntKind.wrap_u8]; omega
      have hrm : ((s[k].toNat : Nat) : Int).tmod 16 = (r : Int) := by rw [Int.tmod_eq_emod_of_nonneg (by omega)]; exact hr'
      have hiq := fun wx => hexIndex q hq16 wx
      have hir := fun wx => hexIndex r hr16 wx
      have hki : (k : Int) < (s.size : Int) := by omega
      have hc3 : 2 * k + 2 ≤ 2 * s.size := by omega
      have hbw : w.heap.size ≤ wr.heap.size := hB.size
      have HN : Hid (hexOf (s.data.toList.take k) ++ [UInt8.ofNat (hexd q), UInt8.ofNat (hexd r)] = hexOf (s.data.toList.take (k + 1))) := by
        show _ = _
        rw [htk, hexOf_snoc, hqe, hre]; rfl
      have hx1 := hexd_lt q hq16
      have hx2 := hexd_lt r hr16
      clear htk hqe hre hr
      go_wp2_with (at_builtin; fail)
      go_region_law (refine step_append_fits rfl (.tmp 17) (.tmp 24) 22 rfl w.heap.size 5 i0 1 Tryd.underlying22 hi hz1 w.heap.size (2 * k) (2 * s.size) _ rfl (hO.2.alloc _) ⟨wr.heap.size, 0, none⟩ 2 2 [_, _] rfl rfl (cells_two _ _ _ _) (two_oneCell _ _ _) hc3 ?_; intro w2 hown hgrow)
      all_goals
        have hO2 := own_fits (m := 2) (ns := [UInt8.ofNat (hexd q), UInt8.ofNat (hexd r)]) hO.1 rfl (two_val (by rw [byte_of]; omega) (by rw [byte_of]; omega)) hown
        rw [HN.out] at hO2
        have hgr2 : (wr.alloc (.cells #[.int .u8 (hexd q : Int), .int .u8 (hexd r : Int)] 5)).drew.grownBy w2 (some w.heap.size) := hgrow
        have hB2 : Below w.heap.size w w2 := (hB.alloc hbw _).drew.grown hgr2 (le_alloc _ _ hbw) (fun k e => by cases e; exact hO.lt.1)
        have hba : Below wr.heap.size wr (wr.alloc (.cells #[.int .u8 (hexd q : Int), .int .u8 (hexd r : Int)] 5)).drew := ((Below.refl _ _).alloc (Nat.le_refl _) _).drew
        have hS2 : Bts w2 w1.heap.size s := (hS.below hba).grown hgr2 (by omega)
        have HO2 := Hid.mk' hO2
        clear hown hgrow hgr2 hO2 hba hcl
        go_wp2_with (at_builtin; fail)
        go_roundw
        case rel => exact ⟨k + 1, by omega, by go_num, rfl, HO2.out, hB2, hS2⟩
        case measure => simp [intOf]; omega
    · have HE : Hid (k = s.size) := by show _ = _; omega
      have hcv := conv_own hO
      go_wp2_with (at_builtin; fail)
      go_ret
      refine ⟨ret_str ?_, hB⟩
      rw [List.take_of_length_le (by have := HE.out; simp; omega)]

/-- a digit's number and whether it is one -/
def digRet (c : Nat) : Value := if 0 ≤ digit c then .tuple #[.int .u8 (digit c), .bool true] else .tuple #[.int .u8 0, .bool false]
theorem ret_dig {a b : Int} {c : Bool} (h : a = b) : Ending.returned (.tuple #[.int .u8 a, .bool c]) = .returned (.tuple #[.int .u8 b, .bool c]) := by rw [h]
set_option maxHeartbeats 400000 in
theorem impl_digit (c : Nat) (hc : c < 256) (w : World) :
    Calls Tryd.prog 43 #[.int .u8 (c : Int)] w fun e w' => e = .returned (digRet c) ∧ w' = w := by
  by_cases h1 : 48 ≤ c ∧ c ≤ 57
  · have hd : digit c = (c : Int) - 48 := by unfold digit; rw [if_pos h1]
    have HR : Hid (digRet c = .tuple #[.int .u8 ((c : Int) - 48), .bool true]) := by show _ = _; unfold digRet; rw [hd, if_pos (by omega)]
    rw [HR.out]
    have h3 : 48 ≤ (c : Int) := by omega
    have h4 : (c : Int) ≤ 57 := by omega
    clear hd h1
    go_enter Tryd.func43, Tryd.ntmps43
    go_wp2
    go_ret2
    exact ⟨ret_dig (by omega), rfl⟩
  · by_cases h2 : 97 ≤ c ∧ c ≤ 102
    · have hd : digit c = (c : Int) - 87 := by unfold digit; rw [if_neg h1, if_pos h2]
      have HR : Hid (digRet c = .tuple #[.int .u8 ((c : Int) - 87), .bool true]) := by show _ = _; unfold digRet; rw [hd, if_pos (by omega)]
      rw [HR.out]
      have h3 : ¬ (c : Int) ≤ 57 := by omega
      have h5 : 48 ≤ (c : Int) := by omega
      have h6 : 97 ≤ (c : Int) := by omega
      have h7 : (c : Int) ≤ 102 := by omega
      clear hd h1
      go_enter Tryd.func43, Tryd.ntmps43
      go_wp2
      go_ret2
      exact ⟨ret_dig (by omega), rfl⟩
    · have hd : digit c = -1 := by unfold digit; rw [if_neg h1, if_neg h2]
      have HR : Hid (digRet c = .tuple #[.int .u8 0, .bool false]) := by show _ = _; unfold digRet; rw [hd, if_neg (by omega)]
      rw [HR.out]
      have h3 : c < 48 ∨ (58 ≤ c ∧ c < 97) ∨ 103 ≤ c := by omega
      clear hd h1 h2
      rcases h3 with h3 | ⟨h3, h4⟩ | h3
      · have h5 : ¬ 48 ≤ (c : Int) := by omega
        have h6 : ¬ 97 ≤ (c : Int) := by omega
        go_enter Tryd.func43, Tryd.ntmps43
        go_wp2
        go_ret2
        exact ⟨rfl, rfl⟩
      · have h5 : 48 ≤ (c : Int) := by omega
        have h7 : ¬ (c : Int) ≤ 57 := by omega
        have h6 : ¬ 97 ≤ (c : Int) := by omega
        go_enter Tryd.func43, Tryd.ntmps43
        go_wp2
        go_ret2
        exact ⟨rfl, rfl⟩
      · have h5 : 48 ≤ (c : Int) := by omega
        have h7 : ¬ (c : Int) ≤ 57 := by omega
        have h6 : 97 ≤ (c : Int) := by omega
        have h8 : ¬ (c : Int) ≤ 102 := by omega
        go_enter Tryd.func43, Tryd.ntmps43
        go_wp2
        go_ret2
        exact ⟨rfl, rfl⟩

theorem digRet_yes {c : Nat} (h : 0 ≤ digit c) : digRet c = .tuple #[.int .u8 (digit c), .bool true] := by unfold digRet; rw [if_pos h]
theorem digRet_no {c : Nat} (h : digit c < 0) : digRet c = .tuple #[.int .u8 0, .bool false] := by unfold digRet; rw [if_neg (by omega)]
/-- an odd count of digits is none -/
theorem unHex_odd : ∀ (l acc : List UInt8), l.length % 2 = 1 → unHex l acc = none
  | [], _, h => by simp at h
  | [_], _, _ => rfl
  | a :: b :: l, acc, h => by
    rw [unHex]
    split
    · rfl
    · exact unHex_odd l _ (by simp only [List.length_cons] at h; omega)

set_option maxRecDepth 100000 in
set_option maxHeartbeats 2000000 in
theorem impl_unHex (s : ByteArray) (w : World) (hs : s.size ≤ 1099511627776) :
    Calls Tryd.prog 14 #[.string s] w fun e w' => e = .returned (unRet (unHex s.data.toList [])) ∧ Below w.heap.size w w' := by
  obtain ⟨i0, hi, hz0, hz1, hz2⟩ := info_parts info8
  have hlen : s.data.toList.length = s.size := by simp
  by_cases hodd : s.size % 2 = 1
  · have HF : Hid (unHex s.data.toList [] = none) := unHex_odd _ _ (by rw [hlen]; exact hodd)
    have hq : ((s.size : Int) % 2 == 0) = false := by rw [beq_eq_false_iff_ne]; omega
    clear hlen hodd
    go_enter Tryd.func14, Tryd.ntmps14
    go_wp2_with (at_builtin; fail)
    go_ret2
    exact ⟨by rw [HF.out]; rfl, Below.refl _ _⟩
  · have hq : ((s.size : Int) % 2 == 0) = true := by rw [beq_iff_eq]; omega
    obtain ⟨m, hm⟩ : ∃ m, s.size = 2 * m := ⟨s.size / 2, by omega⟩
    have hmd : (s.size : Int) / 2 = (m : Int) := by omega
    have HM := Hid.mk' hm
    generalize hR : unHex s.data.toList [] = R
    have HR := Hid.mk' hR
    have HL := Hid.mk' hlen
    clear hR hlen hodd hm
    have hm2 : m ≤ 1099511627776 := by have := HM.out; omega
    go_enter Tryd.func14, Tryd.ntmps14
    go_wp2_with (at_make; refine wpList_make_own _ rfl _ _ 22 rfl w.heap.size 5 i0 (.int .u8 0) 1 Tryd.underlying22 hi hz0 hz1 _ _ _ m rfl rfl (by omega) ?b2 ?b3 ?b4 ?_)
    case b2 => rw [hz2]; omega
    case b3 => unfold maxLen; omega
    case b4 => exact Nat.le_refl _
    intro w1 hown hgrow
    have hO1 : Own w1 w.heap.size w.heap.size 0 m [] := ⟨rfl, hown⟩
    have hB1 : Below w.heap.size w w1 := (Below.refl _ _).grown hgrow (Nat.le_refl _) (fun k e => by cases e)
    clear hown hgrow hmd hq
    go_wp2_with (at_builtin; fail)
    go_loopw [4, 5] (fun v i wr => ∃ (k g cp : Nat) (acc : List UInt8), k ≤ m ∧ i = .int .i64 (2 * (k : Int)) ∧ v = .slice (some ⟨g, 0, none⟩) k cp ∧ Own wr w.heap.size g k cp acc ∧ Below w.heap.size w wr ∧ unHex (s.data.toList.drop (2 * k)) acc = R) (fun _ i _ => s.size - (intOf i).toNat)
    case atStart => exact ⟨0, w.heap.size, m, [], Nat.zero_le _, rfl, rfl, hO1, hB1, HR.out⟩
    case round =>
      obtain ⟨k, g, cp, acc, hk, rfl, rfl, hO, hB, hr⟩ := hrel
      clear hO1 hB1
      by_cases hkm : k < m
      · have hlt : 2 * k + 1 < s.size := by have := HM.out; omega
        have hst := unHex_step s.data.toList (2 * k) acc (by rw [HL.out]; exact hlt)
        rw [hr] at hst
        obtain ⟨x, hx, hxe, hxb⟩ : ∃ x : Nat, x < 256 ∧ (s[2 * k]'(by omega)).toNat = x ∧ (s.data.toList[2 * k]'(by rw [HL.out]; omega)).toNat = x := ⟨_, UInt8.toNat_lt _, rfl, rfl⟩
        obtain ⟨y, hy, hye, hyb⟩ : ∃ y : Nat, y < 256 ∧ (s[2 * k + 1]'(by omega)).toNat = y ∧ (s.data.toList[2 * k + 1]'(by rw [HL.out]; omega)).toNat = y := ⟨_, UInt8.toNat_lt _, rfl, rfl⟩
        rw [hxb, hyb] at hst
        have hbx := digit_bound x
        have hby := digit_bound y
        have hki : 2 * (k : Int) < (s.size : Int) := by omega
        have hki2 : 2 * (k : Int) + 1 < (s.size : Int) := by omega
        clear hr hxb hyb
        have HST := Hid.mk' hst
        clear hst
        have hbw : w.heap.size ≤ wr.heap.size := hB.size
        have hc3 : k + 1 ≤ maxLen := by unfold maxLen; omega
        have hc4 : (k + 1) * 1 ≤ 140737488355328 := by omega
        by_cases hnx : digit x < 0
        · have HF : Hid (R = none) := by have := HST.out; rw [if_pos (.inl hnx)] at this; exact this
          have H1 := Hid.mk' (digRet_no hnx)
          go_wp2_with fail
          refine (impl_digit x hx _).mono ?_
          rintro e w1 ⟨he, rfl⟩
          rw [H1.out] at he
          subst he
          go_wp2_with fail
          refine (impl_digit y hy _).mono ?_
          rintro e w1 ⟨he, rfl⟩
          by_cases hny : digit y < 0
          · rw [digRet_no hny] at he
            subst he
            go_wp2_with fail
            go_ret2
            exact ⟨by rw [HF.out]; rfl, hB⟩
          · rw [digRet_yes (by omega)] at he
            subst he
            go_wp2_with fail
            go_ret2
            exact ⟨by rw [HF.out]; rfl, hB⟩
        · have H1 := Hid.mk' (digRet_yes (c := x) (by omega))
          by_cases hny : digit y < 0
          · have HF : Hid (R = none) := by have := HST.out; rw [if_pos (.inr hny)] at this; exact this
            have H2 := Hid.mk' (digRet_no hny)
            go_wp2_with fail
            refine (impl_digit x hx _).mono ?_
            rintro e w1 ⟨he, rfl⟩
            rw [H1.out] at he
            subst he
            go_wp2_with fail
            refine (impl_digit y hy _).mono ?_
            rintro e w1 ⟨he, rfl⟩
            rw [H2.out] at he
            subst he
            go_wp2_with fail
            go_ret2
            exact ⟨by rw [HF.out]; rfl, hB⟩
          · have H2 := Hid.mk' (digRet_yes (c := y) (by omega))
            have HF : Hid (unHex (s.data.toList.drop (2 * (k + 1))) (acc ++ [UInt8.ofNat (digit x * 16 + digit y).toNat]) = R) := by
              have := HST.out; rw [if_neg (by omega)] at this; exact this.symm
            have hpx : 0 ≤ digit x := by omega
            have hpy : 0 ≤ digit y := by omega
            clear hnx hny
            go_wp2_with fail
            refine (impl_digit x hx _).mono ?_
            rintro e w1 ⟨he, hw1⟩
            subst hw1
            rw [H1.out] at he
            subst he
            go_wp2_with fail
            refine (impl_digit y hy _).mono ?_
            rintro e w2 ⟨he, hw2⟩
            subst hw2
            rw [H2.out] at he
            subst he
            go_wp2_with (at_builtin; refine wpList_append_own _ rfl (.tmp 45) (.tmp 50) 22 rfl w.heap.size 5 i0 (.int .u8 0) 1 1 Tryd.underlying22 hi hz0 hz1 hz2 rfl (by decide) _ _ _ rfl (hO.2.alloc _) ⟨w2.heap.size, 0, none⟩ 1 1 [_] rfl rfl (cell_one_new _ _ _) (one_oneCell _ _) hc3 hc4 (le_alloc _ _ hbw) ?_)
            intro v3 w3 hown hgrow hnn
            obtain ⟨g3, cp3, hv, hO3⟩ := own_app (m := 1) (ns := [UInt8.ofNat (digit x * 16 + digit y).toNat]) hO.1 rfl (one_val (by rw [byte_of]; omega)) hnn hown
            subst hv
            have hB3 : Below w.heap.size w w3 := (hB.alloc hbw _).grown hgrow (le_alloc _ _ hbw) (fun k e => by simp [Value.ownBlock] at e; have := hO.lt; omega)
            have HO3 := Hid.mk' hO3
            clear hown hgrow hnn hO hO3 hB
            go_wp2_with (at_builtin; fail)
            go_roundw
            case rel => exact ⟨k + 1, g3, cp3, _, by omega, by go_num, rfl, HO3.out, hB3, HF.out⟩
            case measure => simp [intOf]; omega
      · have hcv := conv_own hO
        have HF : Hid (R = some acc) := by rw [← hr]; exact unHex_end _ _ _ (by rw [HL.out]; have := HM.out; omega)
        have hn2 : ¬ 2 * (k : Int) < (s.size : Int) := by have := HM.out; omega
        clear hr
        go_wp2_with (at_builtin; fail)
        go_ret2
        exact ⟨by rw [HF.out]; rfl, hB⟩

end Go.Proofs.YtmdhkoiimffmlaaDoor.hexmath
