/- Plain mathematics of hex digits. -/
import Derived.Test.YtmdhkoiimffmlaaDoorApp
namespace Go.Proofs.YtmdhkoiimffmlaaDoor.hexmath
open Go.RowKit Go.Proofs.YtmdhkoiimffmlaaDoor.base
set_option linter.unusedVariables false

/-- the sign of a digit 0 .. 15 -/
def hexd (n : Nat) : Nat := if n < 10 then 48 + n else 87 + n
def hexTwo (c : UInt8) : List UInt8 := [UInt8.ofNat (hexd (c.toNat / 16)), UInt8.ofNat (hexd (c.toNat % 16))]
def hexOf (l : List UInt8) : List UInt8 := (l.map hexTwo).flatten
/-- a digit's number -/
def digit (c : Nat) : Int := if 48 ≤ c ∧ c ≤ 57 then (c : Int) - 48 else if 97 ≤ c ∧ c ≤ 102 then (c : Int) - 87 else -1
def unHex : List UInt8 → List UInt8 → Option (List UInt8)
  | [], acc => some acc
  | [_], _ => none
  | a :: b :: l, acc => if digit a.toNat < 0 ∨ digit b.toNat < 0 then none else unHex l (acc ++ [UInt8.ofNat (digit a.toNat * 16 + digit b.toNat).toNat])
theorem hexOf_snoc (l : List UInt8) (c : UInt8) : hexOf (l ++ [c]) = hexOf l ++ hexTwo c := by simp [hexOf]
theorem hexOf_length (l : List UInt8) : (hexOf l).length = 2 * l.length := by
  induction l with
  | nil => rfl
  | cons c l ih => simp only [hexOf, List.map_cons, List.flatten_cons, List.length_append, List.length_cons] at *; rw [ih]; simp [hexTwo]; omega
theorem digit_bound (c : Nat) : -1 ≤ digit c ∧ digit c ≤ 15 := by unfold digit; split <;> (try split) <;> omega
theorem hexd_lt (n : Nat) (h : n < 16) : hexd n < 256 := by unfold hexd; split <;> omega
theorem digit_hexd (n : Nat) (h : n < 16) : digit (hexd n) = n := by
  unfold digit hexd
  by_cases h1 : n < 10
  · rw [if_pos h1, if_pos (by omega)]; omega
  · rw [if_neg h1, if_neg (by omega), if_pos (by omega)]; omega
theorem byteN' (n : Nat) (h : n < 256) : (UInt8.ofNat n).toNat = n := by have := byte_of n; omega
theorem unHex_hexOf (l acc : List UInt8) : unHex (hexOf l) acc = some (acc ++ l) := by
  induction l generalizing acc with
  | nil => simp [hexOf, unHex]
  | cons c l ih =>
    have hc := c.toNat_lt
    have e : hexOf (c :: l) = UInt8.ofNat (hexd (c.toNat / 16)) :: UInt8.ofNat (hexd (c.toNat % 16)) :: hexOf l := by simp [hexOf, hexTwo]
    rw [e, unHex, byteN' _ (hexd_lt _ (by omega)), byteN' _ (hexd_lt _ (by omega)), digit_hexd _ (by omega), digit_hexd _ (by omega), if_neg (by omega), ih]
    have e2 : UInt8.ofNat (((c.toNat / 16 : Nat) : Int) * 16 + ((c.toNat % 16 : Nat) : Int)).toNat = c := by
      apply UInt8.toNat_inj.1
      rw [byteN' _ (by omega)]; omega
    rw [e2]; simp

end Go.Proofs.YtmdhkoiimffmlaaDoor.hexmath
