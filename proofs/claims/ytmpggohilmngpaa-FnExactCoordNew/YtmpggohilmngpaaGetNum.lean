/- Reading a number: the program's and the specification's GetNum answer as one and the same function. -/
import Derived.Test.YtmpggohilmngpaaRows
import Derived.Test.YtmpggohilmngpaaBase
import Derived.Test.YtmpggohilmngpaaApp
import Derived.Test.YtmpggohilmngpaaHelp
namespace Go.Proofs.Ytmpggohilmngpaa.getnum
open Go.RowKit Go.Proofs.Ytmpggohilmngpaa.base Go.Proofs.Ytmpggohilmngpaa.help
set_option linter.unusedVariables false
set_option linter.unusedSimpArgs false

/-- k groups are read, n of them so far -/
def getGo : List UInt8 → Nat → Nat → Option (Nat × Nat)
  | [], _, _ => none
  | c :: l, k, n =>
    if 5 ≤ k then none
    else if 128 ≤ c.toNat then getGo l (k + 1) (n + c.toNat % 128 * 128 ^ k)
    else if 1000000000 < n + c.toNat % 128 * 128 ^ k ∨ (c.toNat = 0 ∧ 0 < k) then none
    else some (n + c.toNat % 128 * 128 ^ k, k + 1)
def getNum (bs : List UInt8) (at_ : Int) : Option (Nat × Nat) := if at_ < 0 then none else getGo (bs.drop at_.toNat) 0 0
def numRet (at_ : Int) : Option (Nat × Nat) → Value
  | none => .tuple #[.int .i64 0, .int .i64 0, .bool false]
  | some (n, k) => .tuple #[.int .i64 (n : Nat), .int .i64 (at_ + (k : Nat)), .bool true]

theorem tup3 {a b c d : Int} {t : Bool} (h : a = b) (h2 : c = d) : Ending.returned (.tuple #[.int .i64 a, .int .i64 c, .bool t]) = .returned (.tuple #[.int .i64 b, .int .i64 d, .bool t]) := by rw [h, h2]

theorem getGo_step (bs : List UInt8) (p k n : Nat) (h : p < bs.length) (hk : k < 5) : getGo (bs.drop p) k n =
    if 128 ≤ bs[p].toNat then getGo (bs.drop (p + 1)) (k + 1) (n + bs[p].toNat % 128 * 128 ^ k)
    else if 1000000000 < n + bs[p].toNat % 128 * 128 ^ k ∨ (bs[p].toNat = 0 ∧ 0 < k) then none
    else some (n + bs[p].toNat % 128 * 128 ^ k, k + 1) := by
  rw [List.drop_eq_getElem_cons h, getGo, if_neg (by omega)]
theorem getGo_end (bs : List UInt8) (p k n : Nat) (h : bs.length ≤ p) : getGo (bs.drop p) k n = none := by
  rw [List.drop_eq_nil_of_le h, getGo]
theorem getGo_five (l : List UInt8) (k n : Nat) (h : 5 ≤ k) : getGo l k n = none := by
  cases l with
  | nil => rw [getGo]
  | cons c l => rw [getGo, if_pos h]

end Go.Proofs.Ytmpggohilmngpaa.getnum
