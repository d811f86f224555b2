/- The specification's GetNum answers as the same function. -/
import Derived.Test.YtmpggohilmngpaaGetNum
namespace Go.Proofs.Ytmpggohilmngpaa.getnum
open Go.RowKit Go.Proofs.Ytmpggohilmngpaa.base Go.Proofs.Ytmpggohilmngpaa.help
set_option linter.unusedVariables false
set_option linter.unusedSimpArgs false

theorem pow_seven (k : Nat) : 2 ^ (7 * k) = 128 ^ k := by rw [Nat.pow_mul]
theorem or_step (m c k : Nat) (hm : m < 128 ^ k) (hc : c < 256) (hk : k < 5) :
    bits .or .i64 (m : Int) (wrap64 (bits .and .i64 (c : Int) 127 * 2 ^ (7 * k))) = ((m + c % 128 * 128 ^ k : Nat) : Int) := by
  have h1 : 128 ^ k ≤ 268435456 := Nat.le_trans (Nat.pow_le_pow_right (n := 128) (by omega) (show k ≤ 4 by omega)) (by decide)
  have h2 : c % 128 * 128 ^ k ≤ 127 * 268435456 := Nat.mul_le_mul (by omega) h1
  have hand : bits .and .i64 (c : Int) 127 = ((c % 128 : Nat) : Int) := by
    rw [show (127 : Int) = 2 ^ 7 - 1 from rfl, bits_mask .i64 63 (by decide) wraps_i64 7 (by decide) (c : Int) (by omega) (by omega)]
    omega
  have hpw : ((c % 128 : Nat) : Int) * 2 ^ (7 * k) = ((c % 128 * 128 ^ k : Nat) : Int) := by
    rw [← pow_seven k, Int.natCast_mul, Int.natCast_pow]; rfl
  rw [hand, hpw, IntWalk.wrap64_in _ (by omega), (bits_nat .i64 63 (by decide) wraps_i64 m (c % 128 * 128 ^ k) (by omega) (by omega)).2, Nat.or_comm,
    nat_join (7 * k) _ m (by rw [pow_seven]; exact Nat.mul_mod_left _ _) (by rw [pow_seven]; exact hm), Nat.add_comm]

end Go.Proofs.Ytmpggohilmngpaa.getnum
