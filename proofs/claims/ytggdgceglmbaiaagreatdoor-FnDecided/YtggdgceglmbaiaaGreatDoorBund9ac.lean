/- The laws' own helpers on slices of strings: what each call does. Reading a list of texts: the program's and the specification's GetTexts answer as one and the same function. Writing a number: the program's and the specification's PutNum answer as one and the same function. Writing texts: the program's and the specification's PutText answer as one and the same function. -/
import Derived.Test.YtggdgceglmbaiaaGreatDoorRows
import Derived.Test.YtggdgceglmbaiaaGreatDoorBund9aa
import Derived.Test.YtggdgceglmbaiaaGreatDoorBund9ab
import Derived.Laws.BytesArg
import Derived.Deep.RegionWith
import Derived.Laws.CopyOwn
import Derived.Lib.AppendStr
namespace Go.Proofs.YtggdgceglmbaiaaGreatDoor.helps
open Go.RowKit Go.Proofs.YtggdgceglmbaiaaGreatDoor.base Go.Proofs.YtggdgceglmbaiaaGreatDoor.help
set_option linter.unusedVariables false
set_option linter.unusedSimpArgs false

def copyS (ss : List ByteArray) (k : Nat) : List ByteArray := ss.take k ++ List.replicate (ss.length - k) ⟨#[]⟩
theorem copyS_length (ss : List ByteArray) (k : Nat) (h : k ≤ ss.length) : (copyS ss k).length = ss.length := by simp [copyS]; omega
theorem copyS_zero (ss : List ByteArray) : copyS ss 0 = List.replicate ss.length ⟨#[]⟩ := by simp [copyS]
theorem copyS_all (ss : List ByteArray) : copyS ss ss.length = ss := by simp [copyS]
theorem copyS_small (ss : List ByteArray) (k : Nat) (h : ∀ s ∈ ss, s.size ≤ maxLen) : ∀ s ∈ copyS ss k, s.size ≤ maxLen := by
  intro s hs
  rcases List.mem_append.1 hs with hs | hs
  · exact h s (List.mem_of_mem_take hs)
  · obtain rfl := (List.mem_replicate.1 hs).2; exact Nat.zero_le _
theorem copyS_set (ss : List ByteArray) (k : Nat) (h : k < ss.length) : (copyS ss k).set k ss[k] = copyS ss (k + 1) := by
  apply List.ext_getElem?
  intro j
  simp only [copyS, List.getElem?_set, List.getElem?_append, List.length_append, List.length_take, List.length_replicate, List.getElem?_take, List.getElem?_replicate]
  have e : min k ss.length = k := by omega
  have e1 : min (k + 1) ss.length = k + 1 := by omega
  rw [e, e1]
  by_cases hj : j = k
  · subst hj; simp [h]; omega
  · by_cases h1 : j < k
    · simp [h1, show ¬ k = j by omega, show j < k + 1 by omega]
    · simp [h1, show ¬ k = j by omega, show ¬ j < k + 1 by omega, show (j - k < ss.length - k ↔ j - (k + 1) < ss.length - (k + 1)) by omega]
/-- the decimal digits -/
def dch (k : Nat) : UInt8 := UInt8.ofNat (48 + k % 10)
theorem dch_val (k : Nat) : 48 + (k : Int) % 10 = ((dch k).toNat : Int) := by unfold dch; rw [byte_of]; omega
theorem ba_cons (c : UInt8) (l : List UInt8) : (⟨#[c]⟩ : ByteArray) ++ ⟨l.toArray⟩ = ⟨(c :: l).toArray⟩ := by
  apply WideShapes.bytes_inj
  rw [ByteArray.data_append]
  simp
def dig : Nat → Nat → List UInt8
  | 0, _ => []
  | f + 1, k => if k = 0 then [] else dig f (k / 10) ++ [dch k]
def markBytes (k : Nat) : ByteArray := ⟨(109 :: dig 20 k).toArray⟩
theorem dig_zero (f : Nat) : dig f 0 = [] := by cases f <;> simp [dig]
theorem dig_length (f k : Nat) : (dig f k).length ≤ f := by
  induction f generalizing k with
  | zero => simp [dig]
  | succ f ih =>
    rw [dig]
    split
    · simp
    · have := ih (k / 10); simp; omega
theorem markBytes_size (k : Nat) : (markBytes k).size ≤ 21 := by
  have := dig_length 20 k
  show (109 :: dig 20 k).toArray.size ≤ 21
  simp; omega

def markS (k0 n : Nat) : List ByteArray := (List.range n).map (fun j => markBytes (k0 + j))
def markSTo (ss : List ByteArray) (k0 i : Nat) : List ByteArray := markS k0 i ++ ss.drop i
theorem markS_length (k0 n : Nat) : (markS k0 n).length = n := by simp [markS]
theorem markSTo_length (ss : List ByteArray) (k0 i : Nat) (h : i ≤ ss.length) : (markSTo ss k0 i).length = ss.length := by simp [markSTo, markS]; omega
theorem markSTo_zero (ss : List ByteArray) (k0 : Nat) : markSTo ss k0 0 = ss := by simp [markSTo, markS]
theorem markSTo_all (ss : List ByteArray) (k0 : Nat) : markSTo ss k0 ss.length = markS k0 ss.length := by simp [markSTo]
theorem markSTo_set (ss : List ByteArray) (k0 i : Nat) (h : i < ss.length) : (markSTo ss k0 i).set i (markBytes (k0 + i)) = markSTo ss k0 (i + 1) := by
  unfold markSTo markS
  rw [List.set_append_right _ _ (by simp)]
  simp only [List.length_map, List.length_range, Nat.sub_self, List.range_succ, List.map_append, List.map_cons, List.map_nil, List.append_assoc]
  congr 1
  rw [List.drop_eq_getElem_cons h]
  rfl
theorem mark_max (k : Nat) : (markBytes k).size ≤ maxLen := Nat.le_trans (markBytes_size k) (by decide)

end Go.Proofs.YtggdgceglmbaiaaGreatDoor.helps

namespace Go.Proofs.YtggdgceglmbaiaaGreatDoor.gettexts
open Go.RowKit Go.Proofs.YtggdgceglmbaiaaGreatDoor.base Go.Proofs.YtggdgceglmbaiaaGreatDoor.help Go.Proofs.YtggdgceglmbaiaaGreatDoor.helps Go.Proofs.YtggdgceglmbaiaaGreatDoor.getnum Go.Proofs.YtggdgceglmbaiaaGreatDoor.gettext
set_option linter.unusedVariables false
set_option linter.unusedSimpArgs false

def readTexts (bs : List UInt8) : Nat → Nat → List ByteArray → Option (List ByteArray × Nat)
  | 0, p, acc => some (acc, p)
  | c + 1, p, acc =>
    match getText bs (p : Int) with
    | none => none
    | some (s, k) => readTexts bs c (p + k) (acc ++ [s])
def getTexts (bs : List UInt8) (at_ : Int) : Option (List ByteArray × Nat) :=
  match getNum bs at_ with
  | none => none
  | some (n, k) => if 200 < n then none else readTexts bs n (at_.toNat + k) []
def resT : Option (List ByteArray × Nat) → List ByteArray
  | none => []
  | some (ss, _) => ss
def resP : Option (List ByteArray × Nat) → Int
  | none => 0
  | some (_, p) => (p : Int)
def resB : Option (List ByteArray × Nat) → Bool
  | none => false
  | some _ => true

theorem getText_some {bs : List UInt8} {p : Nat} {s : ByteArray} {k : Nat} (h : getText bs (p : Int) = some (s, k)) : p + k ≤ bs.length ∧ s.size ≤ bs.length := by
  unfold getText at h
  split at h
  · simp at h
  · rename_i n k' hG
    have hg := getNum_some hG
    simp only [Int.toNat_natCast] at h hg
    split at h
    · simp at h
    · simp only [Option.some.injEq, Prod.mk.injEq] at h
      obtain ⟨rfl, rfl⟩ := h
      refine ⟨by omega, ?_⟩
      rw [cut_size bs _ _ (by omega)]
      omega


end Go.Proofs.YtggdgceglmbaiaaGreatDoor.gettexts

namespace Go.Proofs.YtggdgceglmbaiaaGreatDoor.putnum
open Go.RowKit Go.Proofs.YtggdgceglmbaiaaGreatDoor.base Go.Proofs.YtggdgceglmbaiaaGreatDoor.help
set_option linter.unusedVariables false
set_option linter.unusedSimpArgs false

/-- the bytes of a number below 128^(f+1) -/
def groups : Nat → Nat → List UInt8
  | 0, n => [UInt8.ofNat n]
  | f + 1, n => if n < 128 then [UInt8.ofNat n] else UInt8.ofNat (128 + n % 128) :: groups f (n / 128)
def clamp (n : Int) : Nat := if n < 0 then 0 else if 1000000000 < n then 1000000000 else n.toNat
def numBytes (n : Int) : List UInt8 := groups 4 (clamp n)
theorem clamp_le (n : Int) : clamp n ≤ 1000000000 := by unfold clamp; split <;> (try split) <;> omega
theorem groups_length (f n : Nat) : 1 ≤ (groups f n).length ∧ (groups f n).length ≤ f + 1 := by
  induction f generalizing n with
  | zero => simp [groups]
  | succ f ih =>
    rw [groups]
    split
    · simp
    · have := ih (n / 128); simp only [List.length_cons]; omega
theorem numBytes_length (n : Int) : 1 ≤ (numBytes n).length ∧ (numBytes n).length ≤ 5 := groups_length 4 _
theorem groups_low (f n : Nat) (h : n < 128) : groups f n = [UInt8.ofNat n] := by
  cases f with
  | zero => rfl
  | succ f => rw [groups, if_pos h]
theorem groups_high (f n : Nat) (h : 128 ≤ n) : groups (f + 1) n = UInt8.ofNat (128 + n % 128) :: groups f (n / 128) := by
  rw [groups, if_neg (by omega)]

theorem byte_hi (m : Nat) : 128 + (m : Int) % 128 = ((UInt8.ofNat (128 + m % 128)).toNat : Int) := by rw [byte_of]; omega
theorem byte_lo (m : Nat) (h : m < 128) : ((UInt8.ofNat m).toNat : Int) = (m : Int) := by rw [byte_of]; omega



theorem or_hi (m : Nat) (h : m ≤ 1000000000) : bits .or .i64 (bits .and .i64 (m : Int) 127) 128 = 128 + (m : Int) % 128 := by
  have hand : bits .and .i64 (m : Int) 127 = ((m % 128 : Nat) : Int) := by
    rw [show (127 : Int) = 2 ^ 7 - 1 from rfl, bits_mask .i64 63 (by decide) wraps_i64 7 (by decide) (m : Int) (by omega) (by omega)]
    omega
  rw [hand, show (128 : Int) = ((128 : Nat) : Int) from rfl, (bits_nat .i64 63 (by decide) wraps_i64 (m % 128) 128 (by omega) (by omega)).2, Nat.or_comm,
    nat_join 7 128 (m % 128) (by decide) (by omega)]
  omega


end Go.Proofs.YtggdgceglmbaiaaGreatDoor.putnum

namespace Go.Proofs.YtggdgceglmbaiaaGreatDoor.puttext
open Go.RowKit Go.Proofs.YtggdgceglmbaiaaGreatDoor.base Go.Proofs.YtggdgceglmbaiaaGreatDoor.help Go.Proofs.YtggdgceglmbaiaaGreatDoor.putnum
set_option linter.unusedVariables false
set_option linter.unusedSimpArgs false

def textBytes (s : ByteArray) : List UInt8 := numBytes (s.size : Int) ++ s.data.toList
def textsBytes (ss : List ByteArray) : List UInt8 := (ss.map textBytes).flatten
theorem textBytes_length (s : ByteArray) : (textBytes s).length ≤ s.size + 5 := by
  have := numBytes_length (s.size : Int); simp [textBytes]; omega
theorem size_toList (s : ByteArray) : s.data.toList.length = s.size := by simp
theorem strCells_eq (s : ByteArray) : Lib.strCells s = byteVals s.data.toList := rfl
theorem wf_len (s : ByteArray) (h : s.size ≤ maxLen) : (Lit.int .i64 (s.size : Int)).wf = true := by
  unfold maxLen at h
  exact WalkArith.wf_i64 (by omega)


theorem textsBytes_snoc (ss : List ByteArray) (s : ByteArray) : textsBytes (ss ++ [s]) = textsBytes ss ++ textBytes s := by simp [textsBytes]
theorem textsBytes_take (ss : List ByteArray) (k : Nat) (h : k < ss.length) : textsBytes (ss.take (k + 1)) = textsBytes (ss.take k) ++ textBytes ss[k] := by
  rw [List.take_succ_eq_append_getElem h, textsBytes_snoc]
theorem textsBytes_le (ss : List ByteArray) (k : Nat) : (textsBytes (ss.take k)).length ≤ (textsBytes ss).length := by
  have e : textsBytes ss = textsBytes (ss.take k) ++ textsBytes (ss.drop k) := by
    simp only [textsBytes, ← List.flatten_append, ← List.map_append, List.take_append_drop]
  rw [e, List.length_append]; omega
theorem size_le_textBytes (s : ByteArray) : s.size ≤ (textBytes s).length := by simp [textBytes]



end Go.Proofs.YtggdgceglmbaiaaGreatDoor.puttext
