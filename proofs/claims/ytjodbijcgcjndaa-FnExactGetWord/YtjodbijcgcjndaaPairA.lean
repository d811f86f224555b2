/- The program's keys and pairs: what is right. -/
import Derived.Test.YtjodbijcgcjndaaPairV
import Derived.Test.YtjodbijcgcjndaaFits
namespace Go.Proofs.Ytjodbijcgcjndaa.pairs
open Go Go.RowKit Go.Proofs.Ytjodbijcgcjndaa.base
set_option linter.unusedVariables false
set_option linter.unusedSimpArgs false

set_option maxHeartbeats 400000 in
theorem i_key (p : Pr) (w : World) :
    Calls Try.prog 98 #[.agg #[.string p.1, .string p.2]] w fun e w' => e = .returned (.string p.1) ∧ w' = w.alloc (.cells #[.string p.1, .string p.2] 114) := by
  go_enter Try.func98, Try.ntmps98
  go_wp2
  go_ret
  exact ⟨rfl, rfl⟩

set_option maxHeartbeats 400000 in
theorem i_keySign (c : Nat) (w : World) (hc : c < 256) :
    Calls Try.prog 80 #[.int .u8 (c : Int)] w fun e w' => e = .returned (.bool (keyCh c)) ∧ w' = w := by
  by_cases h1 : 97 ≤ c
  · by_cases h2 : c ≤ 122
    · go_enter Try.func80, Try.ntmps80
      go_wp2
      go_ret
      exact ⟨ret_bool (by simp [keyCh, h1, h2]), rfl⟩
    · have h3 : ¬ c ≤ 57 := by omega
      have h4 : 48 ≤ c := by omega
      go_enter Try.func80, Try.ntmps80
      go_wp2
      go_ret
      exact ⟨ret_bool (by simp [keyCh, h2, h3]; omega), rfl⟩
  · by_cases h2 : 48 ≤ c
    · by_cases h3 : c ≤ 57
      · go_enter Try.func80, Try.ntmps80
        go_wp2
        go_ret
        exact ⟨ret_bool (by simp [keyCh, h2, h3]; omega), rfl⟩
      · go_enter Try.func80, Try.ntmps80
        go_wp2
        go_ret
        exact ⟨ret_bool (by simp [keyCh, h1, h3]; omega), rfl⟩
    · go_enter Try.func80, Try.ntmps80
      go_wp2
      go_ret
      exact ⟨ret_bool (by simp [keyCh, h1, h2]), rfl⟩

set_option maxRecDepth 100000 in
set_option maxHeartbeats 1000000 in
theorem impl_keyOk (s : ByteArray) (w : World) (hs : s.size ≤ 1099511627776) :
    Calls Try.prog 79 #[.string s] w fun e w' => e = .returned (.bool (keyOk s)) ∧ Below w.heap.size w w' := by
  by_cases h0 : s.size < 1
  · go_enter Try.func79, Try.ntmps79
    go_wp2_with fail
    go_ret
    exact ⟨ret_bool (by simp [keyOk]; omega), Below.refl _ _⟩
  by_cases h12 : 12 < s.size
  · go_enter Try.func79, Try.ntmps79
    go_wp2_with fail
    go_ret
    exact ⟨ret_bool (by simp [keyOk]; omega), Below.refl _ _⟩
  have HZ : Hid (decide (1 ≤ s.size ∧ s.size ≤ 12) = true) := by show _ = _; simp; omega
  generalize hR : keyAll s.data.toList = R
  have HR := Hid.mk' hR
  clear hR
  have hconv := Lib.run_convert_string_bytes (P := Try.prog) w 9 22 5 s Try.underlying9 Try.underlying22 Try.underlying5
  have hbts := bts_new w s
  have hBB := below_bytesWorld w 5 s
  go_enter Try.func79, Try.ntmps79
  go_wp2_with fail
  generalize Lib.bytesWorld w 5 s = w1 at *
  go_loop [16] (fun i => ∃ k : Nat, k ≤ s.size ∧ i = .int .i64 (k : Int) ∧ keyAll (s.data.toList.drop k) = R) (fun i => s.size - (intOf i).toNat)
  case atStart => exact ⟨0, Nat.zero_le _, rfl, HR.out⟩
  case round =>
    obtain ⟨k, hk, rfl, hr⟩ := hrel
    clear hconv
    by_cases hlt : k < s.size
    · have hst := keyAll_drop s k hlt
      rw [hr] at hst
      have hc := s[k].toNat_lt
      have hcl := hbts.2 k hlt
      generalize hC : s[k].toNat = c at *
      have hki : (k : Int) < (s.size : Int) := by omega
      have hl := i_keySign c w1 (by omega)
      cases hq : keyCh c
      · rw [hq] at hl hst
        have HF : Hid (R = false) := by show _ = _; simpa using hst
        have HL := Hid.mk' hl
        clear hl hst hr hC
        go_wp2_with fail
        refine HL.out.mono ?_
        rintro e w2 ⟨rfl, rfl⟩
        go_wp2_with fail
        go_ret
        exact ⟨ret_bool (by unfold keyOk; rw [HR.out, HF.out]; rfl), hBB⟩
      · rw [hq] at hl hst
        have HF : Hid (keyAll (s.data.toList.drop (k + 1)) = R) := by show _ = _; simpa using hst.symm
        have HL := Hid.mk' hl
        clear hl hst hr hC
        go_wp2_with fail
        refine HL.out.mono ?_
        rintro e w2 ⟨rfl, rfl⟩
        go_wp2_with fail
        go_round
        case rel => exact ⟨k + 1, by omega, by go_num, HF.out⟩
        case measure => simp [intOf]; omega
    · have HF : Hid (R = true) := by show _ = _; rw [← hr, List.drop_eq_nil_of_le (by simp; omega)]; rfl
      clear hr
      go_wp2_with fail
      go_ret
      exact ⟨ret_bool (by unfold keyOk; rw [HR.out, HF.out, HZ.out]; rfl), hBB⟩

set_option maxHeartbeats 400000 in
theorem impl_pairOk (p : Pr) (w : World) (hp : small p) (hs : p.1.size ≤ 1099511627776) :
    Calls Try.prog 78 #[.agg #[.string p.1, .string p.2]] w fun e w' => e = .returned (.bool (pairOk p)) ∧ Below w.heap.size w w' := by
  have h2 := hp.2
  unfold maxLen at h2
  have hba : Below w.heap.size w (w.alloc (.cells #[.string p.1, .string p.2] 114)) := (Below.refl _ _).alloc (Nat.le_refl _) _
  have hk := impl_keyOk p.1 (w.alloc (.cells #[.string p.1, .string p.2] 114)) hs
  cases hK : keyOk p.1
  · rw [hK] at hk
    have HK := Hid.mk' hk
    have H1 := Hid.mk' hK
    clear hk hK
    go_enter Try.func78, Try.ntmps78
    go_wp2_with fail
    refine HK.out.mono ?_
    rintro e w1 ⟨rfl, hb1⟩
    go_wp2_with fail
    go_ret
    exact ⟨ret_bool (by unfold pairOk; rw [H1.out]; rfl), hba.trans (hb1.mono hba.size)⟩
  · rw [hK] at hk
    have HK := Hid.mk' hk
    have H1 := Hid.mk' hK
    clear hk hK
    go_enter Try.func78, Try.ntmps78
    go_wp2_with fail
    refine HK.out.mono ?_
    rintro e w1 ⟨rfl, hb1⟩
    have hc := bcell hb1
    go_wp2_with fail
    go_ret
    exact ⟨ret_bool (by unfold pairOk; rw [H1.out]; simp; omega), hba.trans (hb1.mono hba.size)⟩

end Go.Proofs.Ytjodbijcgcjndaa.pairs
