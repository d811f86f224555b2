/- Plain mathematics of padding. -/
import Derived.Test.YtooiinicnkhlbaaApp
namespace Go.Proofs.Ytooiinicnkhlbaa.padmath
open Go.RowKit Go.Proofs.Ytooiinicnkhlbaa.base

def zeros (n : Nat) : Nat := (119 - n % 64) % 64
def be8 (n : Nat) : List UInt8 := [UInt8.ofNat (n / 72057594037927936), UInt8.ofNat (n / 281474976710656), UInt8.ofNat (n / 1099511627776), UInt8.ofNat (n / 4294967296), UInt8.ofNat (n / 16777216), UInt8.ofNat (n / 65536), UInt8.ofNat (n / 256), UInt8.ofNat n]
def padTo (bs : List UInt8) (j : Nat) : List UInt8 := bs ++ 128 :: List.replicate j 0
def padded (bs : List UInt8) : List UInt8 := padTo bs (zeros bs.length) ++ be8 (bs.length * 8)
theorem padTo_length (bs : List UInt8) (j : Nat) : (padTo bs j).length = bs.length + 1 + j := by simp [padTo]; omega
theorem padTo_zero (bs : List UInt8) : padTo bs 0 = bs ++ [128] := rfl
theorem padTo_snoc (bs : List UInt8) (j : Nat) : padTo bs j ++ [0] = padTo bs (j + 1) := by
  unfold padTo; rw [List.replicate_succ', List.append_assoc, List.cons_append]
theorem zeros_lt (n : Nat) : zeros n < 64 := by unfold zeros; omega
theorem zeros_hit (n j : Nat) (h : j ≤ zeros n) : (n + 1 + j) % 64 = 56 ↔ j = zeros n := by unfold zeros at *; omega
theorem padded_length (bs : List UInt8) : (padded bs).length = bs.length + 9 + zeros bs.length := by rw [padded, List.length_append, padTo_length]; simp [be8]; omega
theorem padded_mod (bs : List UInt8) : (padded bs).length % 64 = 0 := by rw [padded_length]; unfold zeros; omega
theorem be8_length (n : Nat) : (be8 n).length = 8 := rfl
theorem be8_at (len i : Nat) (h : i < 8) : (len : Int) * 8 / 2 ^ (56 - 8 * i) % 256 = (((be8 (len * 8))[i]!).toNat : Int) := by
  have hcs : i = 0 ∨ i = 1 ∨ i = 2 ∨ i = 3 ∨ i = 4 ∨ i = 5 ∨ i = 6 ∨ i = 7 := by omega
  rcases hcs with rfl | rfl | rfl | rfl | rfl | rfl | rfl | rfl
  · show _ = ((UInt8.ofNat (len * 8 / 72057594037927936)).toNat : Int); rw [byte_of]; omega
  · show _ = ((UInt8.ofNat (len * 8 / 281474976710656)).toNat : Int); rw [byte_of]; omega
  · show _ = ((UInt8.ofNat (len * 8 / 1099511627776)).toNat : Int); rw [byte_of]; omega
  · show _ = ((UInt8.ofNat (len * 8 / 4294967296)).toNat : Int); rw [byte_of]; omega
  · show _ = ((UInt8.ofNat (len * 8 / 16777216)).toNat : Int); rw [byte_of]; omega
  · show _ = ((UInt8.ofNat (len * 8 / 65536)).toNat : Int); rw [byte_of]; omega
  · show _ = ((UInt8.ofNat (len * 8 / 256)).toNat : Int); rw [byte_of]; omega
  · show _ = ((UInt8.ofNat (len * 8)).toNat : Int); rw [byte_of]; omega
def lenV : Value → Nat
  | .slice _ n _ => n
  | _ => 0

end Go.Proofs.Ytooiinicnkhlbaa.padmath
