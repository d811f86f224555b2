/- Reading a number: the program's and the specification's GetNum answer as one and the same function. -/
import Derived.Test.YtjodbijcgcjndaaRows
import Derived.Test.YtjodbijcgcjndaaBase
import Derived.Test.YtjodbijcgcjndaaApp
import Derived.Test.YtjodbijcgcjndaaHelp
namespace Go.Proofs.Ytjodbijcgcjndaa.getnum
open Go.RowKit Go.Proofs.Ytjodbijcgcjndaa.base Go.Proofs.Ytjodbijcgcjndaa.help
set_option linter.unusedVariables false
set_option linter.unusedSimpArgs false

/-- k groups are read, n of them so far -/
def getGo : List UInt8 → Nat → Nat → Option (Nat × Nat)
  | [], _, _ => none
  | c :: l, k, n =>
    if 5 ≤ k then none
    else if 128 ≤ c.toNat then getGo l (k + 1) (n + c.toNat % 128 * 128 ^ k)
    else if 1000000000 < n + c.toNat % 128 * 128 ^ k ∨ (c.toNat = 0 ∧ 0 < k) then none
    else some (n + c.toNat % 128 * 128 ^ k, k + 1)
def getNum (bs : List UInt8) (at_ : Int) : Option (Nat × Nat) := if at_ < 0 then none else getGo (bs.drop at_.toNat) 0 0
def numRet (at_ : Int) : Option (Nat × Nat) → Value
  | none => .tuple #[.int .i64 0, .int .i64 0, .bool false]
  | some (n, k) => .tuple #[.int .i64 (n : Nat), .int .i64 (at_ + (k : Nat)), .bool true]

theorem tup3 {a b c d : Int} {t : Bool} (h : a = b) (h2 : c = d) : Ending.returned (.tuple #[.int .i64 a, .int .i64 c, .bool t]) = .returned (.tuple #[.int .i64 b, .int .i64 d, .bool t]) := by rw [h, h2]

theorem getGo_step (bs : List UInt8) (p k n : Nat) (h : p < bs.length) (hk : k < 5) : getGo (bs.drop p) k n =
    if 128 ≤ bs[p].toNat then getGo (bs.drop (p + 1)) (k + 1) (n + bs[p].toNat % 128 * 128 ^ k)
    else if 1000000000 < n + bs[p].toNat % 128 * 128 ^ k ∨ (bs[p].toNat = 0 ∧ 0 < k) then none
    else some (n + bs[p].toNat % 128 * 128 ^ k, k + 1) := by
  rw [List.drop_eq_getElem_cons h, getGo, if_neg (by omega)]
theorem getGo_end (bs : List UInt8) (p k n : Nat) (h : bs.length ≤ p) : getGo (bs.drop p) k n = none := by
  rw [List.drop_eq_nil_of_le h, getGo]
theorem getGo_five (l : List UInt8) (k n : Nat) (h : 5 ≤ k) : getGo l k n = none := by
  cases l with
  | nil => rw [getGo]
  | cons c l => rw [getGo, if_pos h]

set_option maxRecDepth 100000 in
set_option maxHeartbeats 1000000 in
theorem impl_get (a : Option Addr) (len cap : Nat) (at_ : Int) (bs : List UInt8) (w : World) (h : Sl w a len bs) (hat : (Lit.int .i64 at_).wf = true) :
    Calls Try.prog 58 #[.slice a len cap, .int .i64 at_] w fun e w' => e = .returned (numRet at_ (getNum bs at_)) ∧ w' = w := by
  obtain ⟨hl, hm, hc⟩ := h
  unfold maxLen at hm
  subst hl
  have hb : -9223372036854775808 ≤ at_ ∧ at_ ≤ 9223372036854775807 := by simpa [Lit.wf, IntKind.min, IntKind.max, IntKind.signed, IntKind.bits] using hat
  by_cases hneg : at_ < 0
  · have hres : getNum bs at_ = none := by simp [getNum, hneg]
    rw [hres]
    go_enter Try.func58, Try.ntmps58
    go_wp2
    go_ret3
    exact ⟨rfl, rfl⟩
  · obtain ⟨A, rfl⟩ := Int.eq_ofNat_of_zero_le (by omega : 0 ≤ at_)
    have hres : getNum bs (A : Int) = getGo (bs.drop A) 0 0 := by unfold getNum; rw [if_neg hneg, Int.toNat_natCast]
    rw [hres]
    clear hres hat hneg
    generalize hR : getGo (bs.drop A) 0 0 = R
    have HR := Hid.mk' hR
    clear hR
    go_enter Try.func58, Try.ntmps58
    go_wp2
    go_loop [7, 8, 9] (fun n s i => ∃ k m : Nat, k ≤ 5 ∧ (k = 0 ∨ A + k ≤ bs.length) ∧ m < 128 ^ k ∧ n = .int .i64 m ∧ s = .int .i64 ((128 ^ k : Nat) : Int) ∧ i = .int .i64 ((A + k : Nat) : Int) ∧ getGo (bs.drop (A + k)) k m = R) (fun _ _ i => A + 5 - (intOf i).toNat)
    case atStart => exact ⟨0, 0, by omega, .inl rfl, by omega, rfl, rfl, rfl, HR.out⟩
    case round =>
      obtain ⟨k, m, hk, hAk, hmk, rfl, rfl, rfl, hgo⟩ := hrel
      have HG := Hid.mk' hgo
      clear hgo HR
      by_cases hk5 : k < 5
      · by_cases hlt : A + k < bs.length
        · obtain ⟨b, off, ha, hcl⟩ := hc (by omega)
          subst ha
          generalize hcc : bs[A + k].toNat = c
          have hc256 : c < 256 := by rw [← hcc]; exact UInt8.toNat_lt _
          have c1 : w.cell? ⟨b, off + (A + k), none⟩ = some (.int .u8 (c : Int)) := by rw [hcl (A + k) hlt, hcc]
          have HS := Hid.mk' (HG.out.symm.trans (getGo_step bs (A + k) k m hlt hk5))
          rw [hcc] at HS
          clear hcl hc hcc
          have h1 : 128 ^ k ≤ 268435456 := Nat.le_trans (Nat.pow_le_pow_right (n := 128) (by omega) (show k ≤ 4 by omega)) (by decide)
          have h2 : c % 128 * 128 ^ k ≤ 127 * 268435456 := Nat.mul_le_mul (by omega) h1
          have h3 : ((c % 128 * 128 ^ k : Nat) : Int) = (c : Int) % 128 * ((128 ^ k : Nat) : Int) := by rw [Int.natCast_mul, Int.natCast_emod]; rfl
          generalize hsd : 128 ^ k = sc at *
          have hpi : 0 ≤ (c : Int) % 128 * (sc : Int) ∧ (c : Int) % 128 * (sc : Int) ≤ 34091302912 := by omega
          have HP := Hid.mk' hsd
          clear hsd h2 h3
          have HE : Hid (∀ (x : Nat), x = m + c % 128 * sc → (x : Int) = (m : Int) + (c : Int) % 128 * (sc : Int)) := by
            intro x hx; rw [hx, Int.natCast_add, Int.natCast_mul, Int.natCast_emod]; rfl
          by_cases hge : 128 ≤ c
          · have HN : Hid (getGo (bs.drop (A + (k + 1))) (k + 1) (m + c % 128 * sc) = R) := by
              have := HS.out; rw [if_pos hge] at this; exact this.symm
            go_wp2
            go_round
            case rel =>
              refine ⟨k + 1, m + c % 128 * sc, by omega, .inr (by omega), ?_, val_int (HE.out _ rfl).symm, val_int ?_, by go_num, HN.out⟩
              · have h5 : c % 128 * sc ≤ 127 * sc := Nat.mul_le_mul_right _ (by omega)
                rw [Nat.pow_succ, HP.out]; omega
              · rw [Nat.pow_succ, HP.out]; omega
            case measure => simp [intOf]; omega
          · have hS2 := HS.out
            rw [if_neg hge] at hS2
            generalize hx : m + c % 128 * sc = x at *
            have hxe := HE.out x rfl
            by_cases hbig : 1000000000 < x
            · have HF : Hid (R = none) := by rw [if_pos (.inl hbig)] at hS2; exact hS2
              have hbig' : 1000000000 < (m : Int) + (c : Int) % 128 * (sc : Int) := by omega
              clear hxe hS2 HS HE hx
              go_wp2
              go_ret3
              exact ⟨by rw [HF.out]; rfl, rfl⟩
            · have hbig' : ¬ 1000000000 < (m : Int) + (c : Int) % 128 * (sc : Int) := by omega
              by_cases hc0 : c = 0
              · have hz : ((c : Int) % 128 == 0) = true := by rw [hc0]; rfl
                by_cases hk0 : 0 < k
                · have HF : Hid (R = none) := by rw [if_pos (.inr ⟨hc0, hk0⟩)] at hS2; exact hS2
                  clear hxe hS2 HS HE hx hc0
                  go_wp2
                  go_ret3
                  exact ⟨by rw [HF.out]; rfl, rfl⟩
                · have HF : Hid (R = some (x, k + 1)) := by rw [if_neg (by omega)] at hS2; exact hS2
                  have HX := Hid.mk' hxe
                  clear hxe hS2 HS HE hx hc0
                  go_wp2
                  go_ret3
                  exact ⟨by rw [HF.out]; simp only [numRet]; rw [HX.out]; exact tup3 rfl (by omega), rfl⟩
              · have hz : ((c : Int) % 128 == 0) = false := by rw [beq_eq_false_iff_ne]; omega
                have HF : Hid (R = some (x, k + 1)) := by rw [if_neg (by omega)] at hS2; exact hS2
                have HX := Hid.mk' hxe
                clear hxe hS2 HS HE hx hc0
                go_wp2
                go_ret3
                exact ⟨by rw [HF.out]; simp only [numRet]; rw [HX.out]; exact tup3 rfl (by omega), rfl⟩
        · have HF : Hid (R = none) := by rw [← HG.out]; exact getGo_end _ _ _ _ (by omega)
          go_wp2
          go_ret3
          exact ⟨by rw [HF.out]; rfl, rfl⟩
      · have HF : Hid (R = none) := by rw [← HG.out]; exact getGo_five _ _ _ (by omega)
        by_cases hlt : A + k < bs.length
        · go_wp2
          go_ret3
          exact ⟨by rw [HF.out]; rfl, rfl⟩
        · go_wp2
          go_ret3
          exact ⟨by rw [HF.out]; rfl, rfl⟩
end Go.Proofs.Ytjodbijcgcjndaa.getnum
