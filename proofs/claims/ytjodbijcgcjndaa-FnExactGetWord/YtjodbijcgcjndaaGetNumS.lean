/- The specification's GetNum answers as the same function. -/
import Derived.Test.YtjodbijcgcjndaaGetNum
namespace Go.Proofs.Ytjodbijcgcjndaa.getnum
open Go.RowKit Go.Proofs.Ytjodbijcgcjndaa.base Go.Proofs.Ytjodbijcgcjndaa.help
set_option linter.unusedVariables false
set_option linter.unusedSimpArgs false

theorem pow_seven (k : Nat) : 2 ^ (7 * k) = 128 ^ k := by rw [Nat.pow_mul]
theorem or_step (m c k : Nat) (hm : m < 128 ^ k) (hc : c < 256) (hk : k < 5) :
    bits .or .i64 (m : Int) (wrap64 (bits .and .i64 (c : Int) 127 * 2 ^ (7 * k))) = ((m + c % 128 * 128 ^ k : Nat) : Int) := by
  have h1 : 128 ^ k ≤ 268435456 := Nat.le_trans (Nat.pow_le_pow_right (n := 128) (by omega) (show k ≤ 4 by omega)) (by decide)
  have h2 : c % 128 * 128 ^ k ≤ 127 * 268435456 := Nat.mul_le_mul (by omega) h1
  have hand : bits .and .i64 (c : Int) 127 = ((c % 128 : Nat) : Int) := by
    rw [show (127 : Int) = 2 ^ 7 - 1 from rfl, bits_mask .i64 63 (by decide) wraps_i64 7 (by decide) (c : Int) (by omega) (by omega)]
    omega
  have hpw : ((c % 128 : Nat) : Int) * 2 ^ (7 * k) = ((c % 128 * 128 ^ k : Nat) : Int) := by
    rw [← pow_seven k, Int.natCast_mul, Int.natCast_pow]; rfl
  rw [hand, hpw, IntWalk.wrap64_in _ (by omega), (bits_nat .i64 63 (by decide) wraps_i64 m (c % 128 * 128 ^ k) (by omega) (by omega)).2, Nat.or_comm,
    nat_join (7 * k) _ m (by rw [pow_seven]; exact Nat.mul_mod_left _ _) (by rw [pow_seven]; exact hm), Nat.add_comm]

set_option maxRecDepth 100000 in
set_option maxHeartbeats 1000000 in
theorem spec_get (a : Option Addr) (len cap : Nat) (at_ : Int) (bs : List UInt8) (w : World) (h : Sl w a len bs) (hat : (Lit.int .i64 at_).wf = true) :
    Calls Try.prog 37 #[.slice a len cap, .int .i64 at_] w fun e w' => e = .returned (numRet at_ (getNum bs at_)) ∧ w' = w := by
  obtain ⟨hl, hm, hc⟩ := h
  unfold maxLen at hm
  subst hl
  have hb : -9223372036854775808 ≤ at_ ∧ at_ ≤ 9223372036854775807 := by simpa [Lit.wf, IntKind.min, IntKind.max, IntKind.signed, IntKind.bits] using hat
  by_cases hneg : at_ < 0
  · have hres : getNum bs at_ = none := by simp [getNum, hneg]
    rw [hres]
    have hn2 : ¬ 0 ≤ at_ := by omega
    go_enter Try.func37, Try.ntmps37
    go_wp2
    refine wp_loop_rounds 1 ?_
    rw [rounds_succ]
    go_wp2
    go_ret3
    exact ⟨rfl, rfl⟩
  · obtain ⟨A, rfl⟩ := Int.eq_ofNat_of_zero_le (by omega : 0 ≤ at_)
    have hres : getNum bs (A : Int) = getGo (bs.drop A) 0 0 := by unfold getNum; rw [if_neg hneg, Int.toNat_natCast]
    rw [hres]
    clear hres hat hneg
    generalize hR : getGo (bs.drop A) 0 0 = R
    have HR := Hid.mk' hR
    clear hR
    go_enter Try.func37, Try.ntmps37
    go_wp2
    go_loop [7, 8] (fun n i => ∃ k m : Nat, k ≤ 5 ∧ (k = 0 ∨ A + k ≤ bs.length) ∧ m < 128 ^ k ∧ n = .int .i64 m ∧ i = .int .i64 (k : Int) ∧ getGo (bs.drop (A + k)) k m = R) (fun _ i => 5 - (intOf i).toNat)
    case atStart => exact ⟨0, 0, by omega, .inl rfl, by omega, rfl, rfl, HR.out⟩
    case round =>
      obtain ⟨k, m, hk, hAk, hmk, rfl, rfl, hgo⟩ := hrel
      have HG := Hid.mk' hgo
      clear hgo HR
      by_cases hk5 : k < 5
      · by_cases hlt : A + k < bs.length
        · obtain ⟨b, off, ha, hcl⟩ := hc (by omega)
          subst ha
          generalize hcc : bs[A + k].toNat = c
          have hc256 : c < 256 := by rw [← hcc]; exact UInt8.toNat_lt _
          have c1 : w.cell? ⟨b, off + (A + k), none⟩ = some (.int .u8 (c : Int)) := by rw [hcl (A + k) hlt, hcc]
          have HS := Hid.mk' (HG.out.symm.trans (getGo_step bs (A + k) k m hlt hk5))
          rw [hcc] at HS
          clear hcl hc hcc
          have hv := or_step m c k hmk hc256 hk5
          generalize hx : m + c % 128 * 128 ^ k = x at *
          have hxm : x < 128 ^ (k + 1) := by
            have h5 : c % 128 * 128 ^ k ≤ 127 * 128 ^ k := Nat.mul_le_mul_right _ (by omega)
            rw [Nat.pow_succ]; omega
          have HX := Hid.mk' hxm
          clear hx hmk hxm
          have hi1 : (A : Int) + k < (bs.length : Int) := by omega
          by_cases hge : 128 ≤ c
          · have HN : Hid (getGo (bs.drop (A + (k + 1))) (k + 1) x = R) := by
              have := HS.out; rw [if_pos hge] at this; exact this.symm
            go_wp2
            go_round
            case rel => exact ⟨k + 1, x, by omega, .inr (by omega), HX.out, rfl, by go_num, HN.out⟩
            case measure => simp [intOf]; omega
          · have hS2 := HS.out
            rw [if_neg hge] at hS2
            by_cases hbig : 1000000000 < x
            · have HF : Hid (R = none) := by rw [if_pos (.inl hbig)] at hS2; exact hS2
              have hbig' : 1000000000 < (x : Int) := by omega
              clear hS2 HS
              by_cases hk0 : 0 < k
              · by_cases hc0 : c = 0
                · have hz : ((c : Int) == 0) = true := by rw [hc0]; rfl
                  clear hc0
                  go_wp2
                  go_ret3
                  exact ⟨by rw [HF.out]; rfl, rfl⟩
                · have hz : ((c : Int) == 0) = false := by rw [beq_eq_false_iff_ne]; omega
                  clear hc0
                  go_wp2
                  go_ret3
                  exact ⟨by rw [HF.out]; rfl, rfl⟩
              · go_wp2
                go_ret3
                exact ⟨by rw [HF.out]; rfl, rfl⟩
            · have hbig' : ¬ 1000000000 < (x : Int) := by omega
              by_cases hk0 : 0 < k
              · by_cases hc0 : c = 0
                · have HF : Hid (R = none) := by rw [if_pos (.inr ⟨hc0, hk0⟩)] at hS2; exact hS2
                  have hz : ((c : Int) == 0) = true := by rw [hc0]; rfl
                  clear hS2 HS hc0
                  go_wp2
                  go_ret3
                  exact ⟨by rw [HF.out]; rfl, rfl⟩
                · have HF : Hid (R = some (x, k + 1)) := by rw [if_neg (by omega)] at hS2; exact hS2
                  have hz : ((c : Int) == 0) = false := by rw [beq_eq_false_iff_ne]; omega
                  clear hS2 HS hc0
                  go_wp2
                  go_ret3
                  exact ⟨by rw [HF.out]; simp only [numRet]; exact tup3 rfl (by omega), rfl⟩
              · have HF : Hid (R = some (x, k + 1)) := by rw [if_neg (by omega)] at hS2; exact hS2
                clear hS2 HS
                go_wp2
                go_ret3
                exact ⟨by rw [HF.out]; simp only [numRet]; exact tup3 rfl (by omega), rfl⟩
        · have HF : Hid (R = none) := by rw [← HG.out]; exact getGo_end _ _ _ _ (by omega)
          by_cases hA : A < bs.length
          · go_wp2
            go_ret3
            exact ⟨by rw [HF.out]; rfl, rfl⟩
          · go_wp2
            go_ret3
            exact ⟨by rw [HF.out]; rfl, rfl⟩
      · have HF : Hid (R = none) := by rw [← HG.out]; exact getGo_five _ _ _ (by omega)
        go_wp2
        go_ret3
        exact ⟨by rw [HF.out]; rfl, rfl⟩
end Go.Proofs.Ytjodbijcgcjndaa.getnum
