/- The laws' own helpers on slices of bytes: what each call does. -/
import Derived.Test.YtmpggohilmngpaaRows
import Derived.Test.YtmpggohilmngpaaBase
import Derived.Test.YtmpggohilmngpaaApp
import Derived.Deep.QuietTactic
import Derived.BigQuiet
namespace Go.Proofs.Ytmpggohilmngpaa.help
open Go.RowKit Go.Proofs.Ytmpggohilmngpaa.base
set_option linter.unusedVariables false
set_option linter.unusedSimpArgs false

/-- copying: behind k rounds the first k cells are the argument's, the others nought -/
def copyTo (bs : List UInt8) (k : Nat) : List UInt8 := bs.take k ++ List.replicate (bs.length - k) 0
theorem copyTo_length (bs : List UInt8) (k : Nat) (h : k ≤ bs.length) : (copyTo bs k).length = bs.length := by simp [copyTo]; omega
theorem copyTo_zero (bs : List UInt8) : copyTo bs 0 = List.replicate bs.length 0 := by simp [copyTo]
theorem copyTo_all (bs : List UInt8) : copyTo bs bs.length = bs := by simp [copyTo]
theorem copyTo_set (bs : List UInt8) (k : Nat) (h : k < bs.length) : (copyTo bs k).set k bs[k] = copyTo bs (k + 1) := by
  apply List.ext_getElem?
  intro j
  simp only [copyTo, List.getElem?_set, List.getElem?_append, List.length_append, List.length_take, List.length_replicate, List.getElem?_take, List.getElem?_replicate]
  have e : min k bs.length = k := by omega
  have e1 : min (k + 1) bs.length = k + 1 := by omega
  rw [e, e1]
  by_cases hj : j = k
  · subst hj; simp [h]; omega
  · by_cases h1 : j < k
    · simp [h1, show ¬ k = j by omega, show j < k + 1 by omega]
    · simp [h1, show ¬ k = j by omega, show ¬ j < k + 1 by omega, show (j - k < bs.length - k ↔ j - (k + 1) < bs.length - (k + 1)) by omega]
theorem take_eq {bs bs2 : List UInt8} {k : Nat} (h : bs.take k = bs2.take k) (h1 : k < bs.length) (h2 : k < bs2.length) (e : bs[k] = bs2[k]) : bs.take (k + 1) = bs2.take (k + 1) := by
  rw [List.take_succ_eq_append_getElem h1, List.take_succ_eq_append_getElem h2, h, e]

def markTo (bs : List UInt8) (k0 : Nat) (i : Nat) : List UInt8 := (List.range i).map (fun j => UInt8.ofNat (k0 + j)) ++ bs.drop i
theorem markTo_length (bs : List UInt8) (k0 i : Nat) (h : i ≤ bs.length) : (markTo bs k0 i).length = bs.length := by simp [markTo]; omega
theorem markTo_zero (bs : List UInt8) (k0 : Nat) : markTo bs k0 0 = bs := by simp [markTo]
theorem markTo_set (bs : List UInt8) (k0 i : Nat) (h : i < bs.length) : (markTo bs k0 i).set i (UInt8.ofNat (k0 + i)) = markTo bs k0 (i + 1) := by
  unfold markTo
  rw [List.set_append_right _ _ (by simp)]
  simp only [List.length_map, List.length_range, Nat.sub_self, List.range_succ, List.map_append, List.map_cons, List.map_nil, List.append_assoc]
  congr 1
  rw [List.drop_eq_getElem_cons h]
  rfl
/-- what markByteS leaves in n bytes, from k0 on -/
def marks (k0 n : Nat) : List UInt8 := (List.range n).map (fun j => UInt8.ofNat (k0 + j))
theorem markTo_all (bs : List UInt8) (k0 : Nat) : markTo bs k0 bs.length = marks k0 bs.length := by simp [markTo, marks]
end Go.Proofs.Ytmpggohilmngpaa.help
