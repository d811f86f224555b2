/- The laws' own helpers on slices of bytes: what each call does. Reading a number: the program's and the specification's GetNum answer as one and the same function. The specification's GetNum answers as the same function. Reading a text: the program's and the specification's GetText answer as one and the same function. -/
import Derived.Test.YtdeaiefhegjalaaRows
import Derived.Test.YtdeaiefhegjalaaBund12aa
import Derived.Test.YtdeaiefhegjalaaBund12ab
import Derived.Deep.QuietTactic
import Derived.BigQuiet
import Derived.Laws.BytesArg
namespace Go.Proofs.Ytdeaiefhegjalaa.help
open Go.RowKit Go.Proofs.Ytdeaiefhegjalaa.base
set_option linter.unusedVariables false
set_option linter.unusedSimpArgs false

/-- copying: behind k rounds the first k cells are the argument's, the others nought -/
def copyTo (bs : List UInt8) (k : Nat) : List UInt8 := bs.take k ++ List.replicate (bs.length - k) 0
theorem copyTo_length (bs : List UInt8) (k : Nat) (h : k ≤ bs.length) : (copyTo bs k).length = bs.length := by simp [copyTo]; omega
theorem copyTo_zero (bs : List UInt8) : copyTo bs 0 = List.replicate bs.length 0 := by simp [copyTo]
theorem copyTo_all (bs : List UInt8) : copyTo bs bs.length = bs := by simp [copyTo]
theorem copyTo_set (bs : List UInt8) (k : Nat) (h : k < bs.length) : (copyTo bs k).set k bs[k] = copyTo bs (k + 1) := by
  apply List.ext_getElem?
  intro j
  simp only [copyTo, List.getElem?_set, List.getElem?_append, List.length_append, List.length_take, List.length_replicate, List.getElem?_take, List.getElem?_replicate]
  have e : min k bs.length = k := by omega
  have e1 : min (k + 1) bs.length = k + 1 := by omega
  rw [e, e1]
  by_cases hj : j = k
  · subst hj; simp [h]; omega
  · by_cases h1 : j < k
    · simp [h1, show ¬ k = j by omega, show j < k + 1 by omega]
    · simp [h1, show ¬ k = j by omega, show ¬ j < k + 1 by omega, show (j - k < bs.length - k ↔ j - (k + 1) < bs.length - (k + 1)) by omega]
theorem take_eq {bs bs2 : List UInt8} {k : Nat} (h : bs.take k = bs2.take k) (h1 : k < bs.length) (h2 : k < bs2.length) (e : bs[k] = bs2[k]) : bs.take (k + 1) = bs2.take (k + 1) := by
  rw [List.take_succ_eq_append_getElem h1, List.take_succ_eq_append_getElem h2, h, e]

def markTo (bs : List UInt8) (k0 : Nat) (i : Nat) : List UInt8 := (List.range i).map (fun j => UInt8.ofNat (k0 + j)) ++ bs.drop i
theorem markTo_length (bs : List UInt8) (k0 i : Nat) (h : i ≤ bs.length) : (markTo bs k0 i).length = bs.length := by simp [markTo]; omega
theorem markTo_zero (bs : List UInt8) (k0 : Nat) : markTo bs k0 0 = bs := by simp [markTo]
theorem markTo_set (bs : List UInt8) (k0 i : Nat) (h : i < bs.length) : (markTo bs k0 i).set i (UInt8.ofNat (k0 + i)) = markTo bs k0 (i + 1) := by
  unfold markTo
  rw [List.set_append_right _ _ (by simp)]
  simp only [List.length_map, List.length_range, Nat.sub_self, List.range_succ, List.map_append, List.map_cons, List.map_nil, List.append_assoc]
  congr 1
  rw [List.drop_eq_getElem_cons h]
  rfl
/-- what markByteS leaves in n bytes, from k0 on -/
def marks (k0 n : Nat) : List UInt8 := (List.range n).map (fun j => UInt8.ofNat (k0 + j))
theorem markTo_all (bs : List UInt8) (k0 : Nat) : markTo bs k0 bs.length = marks k0 bs.length := by simp [markTo, marks]
end Go.Proofs.Ytdeaiefhegjalaa.help

namespace Go.Proofs.Ytdeaiefhegjalaa.getnum
open Go.RowKit Go.Proofs.Ytdeaiefhegjalaa.base Go.Proofs.Ytdeaiefhegjalaa.help
set_option linter.unusedVariables false
set_option linter.unusedSimpArgs false

/-- k groups are read, n of them so far -/
def getGo : List UInt8 → Nat → Nat → Option (Nat × Nat)
  | [], _, _ => none
  | c :: l, k, n =>
    if 5 ≤ k then none
    else if 128 ≤ c.toNat then getGo l (k + 1) (n + c.toNat % 128 * 128 ^ k)
    else if 1000000000 < n + c.toNat % 128 * 128 ^ k ∨ (c.toNat = 0 ∧ 0 < k) then none
    else some (n + c.toNat % 128 * 128 ^ k, k + 1)
def getNum (bs : List UInt8) (at_ : Int) : Option (Nat × Nat) := if at_ < 0 then none else getGo (bs.drop at_.toNat) 0 0
def numRet (at_ : Int) : Option (Nat × Nat) → Value
  | none => .tuple #[.int .i64 0, .int .i64 0, .bool false]
  | some (n, k) => .tuple #[.int .i64 (n : Nat), .int .i64 (at_ + (k : Nat)), .bool true]

theorem tup3 {a b c d : Int} {t : Bool} (h : a = b) (h2 : c = d) : Ending.returned (.tuple #[.int .i64 a, .int .i64 c, .bool t]) = .returned (.tuple #[.int .i64 b, .int .i64 d, .bool t]) := by rw [h, h2]

theorem getGo_step (bs : List UInt8) (p k n : Nat) (h : p < bs.length) (hk : k < 5) : getGo (bs.drop p) k n =
    if 128 ≤ bs[p].toNat then getGo (bs.drop (p + 1)) (k + 1) (n + bs[p].toNat % 128 * 128 ^ k)
    else if 1000000000 < n + bs[p].toNat % 128 * 128 ^ k ∨ (bs[p].toNat = 0 ∧ 0 < k) then none
    else some (n + bs[p].toNat % 128 * 128 ^ k, k + 1) := by
  rw [List.drop_eq_getElem_cons h, getGo, if_neg (by omega)]
theorem getGo_end (bs : List UInt8) (p k n : Nat) (h : bs.length ≤ p) : getGo (bs.drop p) k n = none := by
  rw [List.drop_eq_nil_of_le h, getGo]
theorem getGo_five (l : List UInt8) (k n : Nat) (h : 5 ≤ k) : getGo l k n = none := by
  cases l with
  | nil => rw [getGo]
  | cons c l => rw [getGo, if_pos h]

end Go.Proofs.Ytdeaiefhegjalaa.getnum

namespace Go.Proofs.Ytdeaiefhegjalaa.getnum
open Go.RowKit Go.Proofs.Ytdeaiefhegjalaa.base Go.Proofs.Ytdeaiefhegjalaa.help
set_option linter.unusedVariables false
set_option linter.unusedSimpArgs false

theorem pow_seven (k : Nat) : 2 ^ (7 * k) = 128 ^ k := by rw [Nat.pow_mul]
theorem or_step (m c k : Nat) (hm : m < 128 ^ k) (hc : c < 256) (hk : k < 5) :
    bits .or .i64 (m : Int) (wrap64 (bits .and .i64 (c : Int) 127 * 2 ^ (7 * k))) = ((m + c % 128 * 128 ^ k : Nat) : Int) := by
  have h1 : 128 ^ k ≤ 268435456 := Nat.le_trans (Nat.pow_le_pow_right (n := 128) (by omega) (show k ≤ 4 by omega)) (by decide)
  have h2 : c % 128 * 128 ^ k ≤ 127 * 268435456 := Nat.mul_le_mul (by omega) h1
  have hand : bits .and .i64 (c : Int) 127 = ((c % 128 : Nat) : Int) := by
    rw [show (127 : Int) = 2 ^ 7 - 1 from rfl, bits_mask .i64 63 (by decide) wraps_i64 7 (by decide) (c : Int) (by omega) (by omega)]
    omega
  have hpw : ((c % 128 : Nat) : Int) * 2 ^ (7 * k) = ((c % 128 * 128 ^ k : Nat) : Int) := by
    rw [← pow_seven k, Int.natCast_mul, Int.natCast_pow]; rfl
  rw [hand, hpw, IntWalk.wrap64_in _ (by omega), (bits_nat .i64 63 (by decide) wraps_i64 m (c % 128 * 128 ^ k) (by omega) (by omega)).2, Nat.or_comm,
    nat_join (7 * k) _ m (by rw [pow_seven]; exact Nat.mul_mod_left _ _) (by rw [pow_seven]; exact hm), Nat.add_comm]

end Go.Proofs.Ytdeaiefhegjalaa.getnum

namespace Go.Proofs.Ytdeaiefhegjalaa.gettext
open Go.RowKit Go.Proofs.Ytdeaiefhegjalaa.base Go.Proofs.Ytdeaiefhegjalaa.help Go.Proofs.Ytdeaiefhegjalaa.getnum
set_option linter.unusedVariables false
set_option linter.unusedSimpArgs false

def getText (bs : List UInt8) (at_ : Int) : Option (ByteArray × Nat) :=
  match getNum bs at_ with
  | none => none
  | some (n, k) => if bs.length < at_.toNat + k + n then none else some (cut bs (at_.toNat + k) n, k + n)
def textRet (at_ : Int) : Option (ByteArray × Nat) → Value
  | none => .tuple #[.string ⟨#[]⟩, .int .i64 0, .bool false]
  | some (s, k) => .tuple #[.string s, .int .i64 (at_ + (k : Nat)), .bool true]

theorem getGo_some (l : List UInt8) (k n m j : Nat) (h : getGo l k n = some (m, j)) : k < j ∧ j ≤ 5 ∧ j - k ≤ l.length ∧ m ≤ 1000000000 := by
  induction l generalizing k n with
  | nil => simp [getGo] at h
  | cons c l ih =>
    rw [getGo] at h
    split at h
    · simp at h
    · split at h
      · have := ih _ _ h; simp only [List.length_cons]; omega
      · split at h
        · simp at h
        · simp only [Option.some.injEq, Prod.mk.injEq] at h
          simp only [List.length_cons]
          omega
theorem getNum_some {bs : List UInt8} {at_ : Int} {n k : Nat} (h : getNum bs at_ = some (n, k)) : 0 ≤ at_ ∧ 1 ≤ k ∧ k ≤ 5 ∧ at_.toNat + k ≤ bs.length ∧ n ≤ 1000000000 := by
  unfold getNum at h
  split at h
  · simp at h
  · have := getGo_some _ _ _ _ _ h
    simp only [List.length_drop] at this
    omega
theorem tupS {s t : ByteArray} {c d : Int} {b : Bool} (h : s = t) (h2 : c = d) : Ending.returned (.tuple #[.string s, .int .i64 c, .bool b]) = .returned (.tuple #[.string t, .int .i64 d, .bool b]) := by rw [h, h2]


end Go.Proofs.Ytdeaiefhegjalaa.gettext
