/- The specification's keys and pairs: what is right, what is got. -/
import Derived.Test.YtjodbijcgcjndaaPairRow
import Derived.Deep.RegionHeld3
namespace Go.Proofs.Ytjodbijcgcjndaa.pairs
open Go Go.RowKit Go.Proofs.Ytjodbijcgcjndaa.base
set_option linter.unusedVariables false
set_option linter.unusedSimpArgs false

theorem bcell {W w1 : World} (hb : Below W.heap.size W w1) : (∀ b o, b < W.heap.size → w1.cell? ⟨b, o, none⟩ = W.cell? ⟨b, o, none⟩) :=
  fun b o h => hb.cell (p := ⟨b, o, none⟩) h
set_option maxHeartbeats 400000 in
theorem s_in (x a b : Int) (w : World) (hx : -1000 ≤ x ∧ x ≤ 1099511627776) (ha : 0 ≤ a ∧ a ≤ 1000) (hb : 0 ≤ b ∧ b ≤ 1000) :
    Calls Try.prog 39 #[.int .i64 x, .int .i64 a, .int .i64 b] w fun e w' => e = .returned (.bool (decide (a ≤ x ∧ x ≤ b))) ∧ w' = w := by
  by_cases h1 : a ≤ x
  · by_cases h2 : x ≤ b
    · go_enter Try.func39, Try.ntmps39
      go_wp2
      go_ret
      exact ⟨ret_bool (by simp [h1, h2]), rfl⟩
    · go_enter Try.func39, Try.ntmps39
      go_wp2
      go_ret
      exact ⟨ret_bool (by simp [h1, h2]), rfl⟩
  · go_enter Try.func39, Try.ntmps39
    go_wp2
    go_ret
    exact ⟨ret_bool (by have h3 : ¬ a ≤ x := by omega
                        simp [h3]), rfl⟩

theorem keyAll_drop (s : ByteArray) (k : Nat) (h : k < s.size) : keyAll (s.data.toList.drop k) = (keyCh s[k].toNat && keyAll (s.data.toList.drop (k + 1))) := by
  rw [List.drop_eq_getElem_cons (by simpa using h)]; rfl

set_option maxRecDepth 100000 in
set_option maxHeartbeats 1000000 in
theorem spec_keyOk (s : ByteArray) (w : World) (hs : s.size ≤ 1099511627776) :
    Calls Try.prog 75 #[.string s] w fun e w' => e = .returned (.bool (keyOk s)) ∧ w' = w := by
  generalize hR : keyAll s.data.toList = R
  have HR := Hid.mk' hR
  clear hR
  go_enter Try.func75, Try.ntmps75
  go_wp2
  go_loop [3] (fun i => ∃ k : Nat, k ≤ s.size ∧ i = .int .i64 (k : Int) ∧ keyAll (s.data.toList.drop k) = R) (fun i => s.size - (intOf i).toNat)
  case atStart => exact ⟨0, Nat.zero_le _, rfl, HR.out⟩
  case round =>
    obtain ⟨k, hk, rfl, hr⟩ := hrel
    by_cases hlt : k < s.size
    · have hst := keyAll_drop s k hlt
      rw [hr] at hst
      have hc := s[k].toNat_lt
      generalize hC : s[k].toNat = c at *
      have HST := Hid.mk' hst
      have HC := Hid.mk' hC
      clear hst hr
      have hki : (k : Int) < (s.size : Int) := by omega
      by_cases h1 : 97 ≤ c ∧ c ≤ 122
      · have HF : Hid (keyAll (s.data.toList.drop (k + 1)) = R) := by
          show _ = _
          have := HST.out; rw [show keyCh c = true by simp [keyCh, h1]] at this; simpa using this.symm
        have hl := s_in (c : Int) 97 122 w (by omega) (by omega) (by omega)
        rw [decide_eq_true (by omega)] at hl
        have HL := Hid.mk' hl
        clear hl HST
        go_wp2_with fail
        refine HL.out.mono ?_
        rintro e w1 ⟨rfl, rfl⟩
        go_wp2_with fail
        go_round
        case rel => exact ⟨k + 1, by omega, by go_num, HF.out⟩
        case measure => simp [intOf]; omega
      · have hl := s_in (c : Int) 97 122 w (by omega) (by omega) (by omega)
        rw [decide_eq_false (by omega)] at hl
        have HL := Hid.mk' hl
        clear hl
        by_cases h2 : 48 ≤ c ∧ c ≤ 57
        · have HF : Hid (keyAll (s.data.toList.drop (k + 1)) = R) := by
            show _ = _
            have := HST.out; rw [show keyCh c = true by simp [keyCh, h2]] at this; simpa using this.symm
          have hl := s_in (c : Int) 48 57 w (by omega) (by omega) (by omega)
          rw [decide_eq_true (by omega)] at hl
          have HL2 := Hid.mk' hl
          clear hl HST
          go_wp2_with fail
          refine HL.out.mono ?_
          rintro e w1 ⟨rfl, rfl⟩
          go_wp2_with fail
          refine HL2.out.mono ?_
          rintro e w1 ⟨rfl, rfl⟩
          go_wp2_with fail
          go_round
          case rel => exact ⟨k + 1, by omega, by go_num, HF.out⟩
          case measure => simp [intOf]; omega
        · have HF : Hid (R = false) := by
            show _ = _
            have := HST.out; rw [show keyCh c = false by simp only [keyCh, h1, h2]; rfl] at this; simpa using this
          have hl := s_in (c : Int) 48 57 w (by omega) (by omega) (by omega)
          rw [decide_eq_false (by omega)] at hl
          have HL2 := Hid.mk' hl
          clear hl HST
          go_wp2_with fail
          refine HL.out.mono ?_
          rintro e w1 ⟨rfl, rfl⟩
          go_wp2_with fail
          refine HL2.out.mono ?_
          rintro e w1 ⟨rfl, rfl⟩
          go_wp2_with fail
          go_ret
          exact ⟨ret_bool (by unfold keyOk; rw [HR.out, HF.out]; rfl), rfl⟩
    · have HF : Hid (R = true) := by show _ = _; rw [← hr, List.drop_eq_nil_of_le (by simp; omega)]; rfl
      have hl := s_in (s.size : Int) 1 12 w (by omega) (by omega) (by omega)
      rw [show decide ((1 : Int) ≤ (s.size : Int) ∧ (s.size : Int) ≤ 12) = decide (1 ≤ s.size ∧ s.size ≤ 12) by rw [decide_eq_decide]; omega] at hl
      have HL := Hid.mk' hl
      clear hl hr
      go_wp2_with fail
      refine HL.out.mono ?_
      rintro e w1 ⟨rfl, rfl⟩
      go_wp2_with fail
      go_ret
      exact ⟨ret_bool (by unfold keyOk; rw [HR.out, HF.out]; simp), rfl⟩


def getRet : Option ByteArray → Value
  | none => .tuple #[.string ⟨#[]⟩, .bool false]
  | some v => .tuple #[.string v, .bool true]
theorem str_ne {a b : ByteArray} (h : a ≠ b) : (a.toList == b.toList) = false := by
  rw [beq_eq_false_iff_ne]; intro e; rw [ByteArray.toList_eq, ByteArray.toList_eq] at e; exact h (bytes_ext e)



end Go.Proofs.Ytjodbijcgcjndaa.pairs
