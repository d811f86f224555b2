/- Plain mathematics: numbers and texts come back of their bytes. -/
import Derived.Test.YtmpggohilmngpaaGetTexts
import Derived.Test.YtmpggohilmngpaaPutTexts
namespace Go.Proofs.Ytmpggohilmngpaa.nummath
open Go.RowKit Go.Proofs.Ytmpggohilmngpaa.base Go.Proofs.Ytmpggohilmngpaa.help Go.Proofs.Ytmpggohilmngpaa.getnum Go.Proofs.Ytmpggohilmngpaa.putnum Go.Proofs.Ytmpggohilmngpaa.gettext Go.Proofs.Ytmpggohilmngpaa.puttext Go.Proofs.Ytmpggohilmngpaa.gettexts Go.Proofs.Ytmpggohilmngpaa.puttexts
set_option linter.unusedVariables false
set_option linter.unusedSimpArgs false

theorem byteN (n : Nat) (h : n < 256) : (UInt8.ofNat n).toNat = n := by
  have := byte_of n; omega

theorem get_groups (f n k m : Nat) (rest : List UInt8) (hn : n < 128 ^ (f + 1)) (hk : k + f ≤ 4) (hz : k = 0 ∨ 0 < n) (hm : m + n * 128 ^ k ≤ 1000000000) :
    getGo (groups f n ++ rest) k m = some (m + n * 128 ^ k, k + (groups f n).length) := by
  induction f generalizing n k m with
  | zero =>
    have hn' : n < 128 := by simpa using hn
    simp only [groups, List.singleton_append, getGo, List.length_singleton]
    rw [if_neg (by omega), byteN n (by omega), if_neg (by omega), Nat.mod_eq_of_lt hn', if_neg (by omega)]
  | succ f ih =>
    by_cases hlt : n < 128
    · rw [groups_low _ _ hlt]
      simp only [List.singleton_append, getGo, List.length_singleton]
      rw [if_neg (by omega), byteN n (by omega), if_neg (by omega), Nat.mod_eq_of_lt hlt, if_neg (by omega)]
    · rw [groups_high f n (by omega)]
      simp only [List.cons_append, getGo, List.length_cons]
      have e1 : (128 + n % 128) % 128 = n % 128 := by omega
      have e2 : m + n % 128 * 128 ^ k + n / 128 * 128 ^ (k + 1) = m + n * 128 ^ k := by
        have h1 : n / 128 * 128 ^ (k + 1) = (n / 128 * 128) * 128 ^ k := by rw [Nat.pow_succ]; ac_rfl
        have h2 : n % 128 * 128 ^ k + (n / 128 * 128) * 128 ^ k = n * 128 ^ k := by
          rw [← Nat.add_mul]; congr 1; omega
        omega
      rw [if_neg (by omega), byteN (128 + n % 128) (by omega), if_pos (by omega), e1,
        ih (n / 128) (k + 1) (m + n % 128 * 128 ^ k) (by rw [Nat.pow_succ] at hn; exact Nat.div_lt_of_lt_mul (by omega)) (by omega) (by omega) (by omega), e2]
      congr 2
      omega
theorem get_cut (f n k m : Nat) : getGo (groups f n).dropLast k m = none := by
  induction f generalizing n k m with
  | zero => simp [groups, getGo]
  | succ f ih =>
    by_cases hlt : n < 128
    · rw [groups_low _ _ hlt]; simp [getGo]
    · rw [groups_high f n (by omega)]
      have hne : groups f (n / 128) ≠ [] := by
        intro e
        have := (groups_length f (n / 128)).1
        rw [e] at this; simp at this
      rw [List.dropLast_cons_of_ne_nil hne]
      simp only [getGo]
      split
      · rfl
      · rw [byteN (128 + n % 128) (by omega), if_pos (by omega)]
        exact ih _ _ _

theorem getNum_put (bs rest : List UInt8) (z : Int) : getNum (bs ++ numBytes z ++ rest) (bs.length : Int) = some (clamp z, (numBytes z).length) := by
  unfold getNum numBytes
  have hc := clamp_le z
  rw [if_neg (by omega), Int.toNat_natCast, List.append_assoc, List.drop_left]
  have := get_groups 4 (clamp z) 0 0 rest (by omega) (by omega) (.inl rfl) (by omega)
  simpa using this
theorem getNum_cut (bs : List UInt8) (z : Int) (n : Nat) (hn : n + 1 = (bs ++ numBytes z).length) : getNum ((bs ++ numBytes z).take n) (bs.length : Int) = none := by
  unfold getNum
  rw [if_neg (by omega), Int.toNat_natCast]
  have hl := numBytes_length z
  simp only [List.length_append] at hn
  have e : (bs ++ numBytes z).take n = bs ++ (numBytes z).dropLast := by
    rw [List.dropLast_eq_take, List.take_append]
    congr 1
    · exact List.take_of_length_le (by omega)
    · congr 1; omega
  rw [e, List.drop_left]
  exact get_cut _ _ _ _
theorem clamp_nat (n : Nat) (h : n ≤ 1000000000) : clamp (n : Int) = n := by
  unfold clamp; rw [if_neg (by omega), if_neg (by omega), Int.toNat_natCast]
theorem getText_put (bs rest : List UInt8) (s : ByteArray) (h : s.size ≤ 1000000000) : getText (bs ++ textBytes s ++ rest) (bs.length : Int) = some (s, (textBytes s).length) := by
  unfold getText
  have e : bs ++ textBytes s ++ rest = bs ++ numBytes (s.size : Int) ++ (s.data.toList ++ rest) := by simp [textBytes]
  have h1 := getNum_put bs (s.data.toList ++ rest) (s.size : Int)
  rw [← e, clamp_nat s.size h] at h1
  rw [h1]
  simp only [Int.toNat_natCast]
  have hlen : (textBytes s).length = (numBytes (s.size : Int)).length + s.size := by simp [textBytes]
  rw [if_neg (by simp only [List.length_append]; omega), hlen]
  congr 2
  unfold cut
  apply WideShapes.bytes_inj
  rw [e]
  simp only []
  rw [show bs.length + (numBytes (s.size : Int)).length = (bs ++ numBytes (s.size : Int)).length by simp, List.drop_left]
  simp

end Go.Proofs.Ytmpggohilmngpaa.nummath
