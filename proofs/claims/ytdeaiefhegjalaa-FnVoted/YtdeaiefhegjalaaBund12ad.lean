/- The laws' own helpers on slices of strings: what each call does. Reading a list of texts: the program's and the specification's GetTexts answer as one and the same function. -/
import Derived.Test.YtdeaiefhegjalaaRows
import Derived.Test.YtdeaiefhegjalaaBund12aa
import Derived.Test.YtdeaiefhegjalaaBund12ab
import Derived.Test.YtdeaiefhegjalaaBund12ac
import Derived.Laws.BytesArg
import Derived.Deep.RegionWith
namespace Go.Proofs.Ytdeaiefhegjalaa.helps
open Go.RowKit Go.Proofs.Ytdeaiefhegjalaa.base Go.Proofs.Ytdeaiefhegjalaa.help
set_option linter.unusedVariables false
set_option linter.unusedSimpArgs false

def copyS (ss : List ByteArray) (k : Nat) : List ByteArray := ss.take k ++ List.replicate (ss.length - k) ⟨#[]⟩
theorem copyS_length (ss : List ByteArray) (k : Nat) (h : k ≤ ss.length) : (copyS ss k).length = ss.length := by simp [copyS]; omega
theorem copyS_zero (ss : List ByteArray) : copyS ss 0 = List.replicate ss.length ⟨#[]⟩ := by simp [copyS]
theorem copyS_all (ss : List ByteArray) : copyS ss ss.length = ss := by simp [copyS]
theorem copyS_small (ss : List ByteArray) (k : Nat) (h : ∀ s ∈ ss, s.size ≤ maxLen) : ∀ s ∈ copyS ss k, s.size ≤ maxLen := by
  intro s hs
  rcases List.mem_append.1 hs with hs | hs
  · exact h s (List.mem_of_mem_take hs)
  · obtain rfl := (List.mem_replicate.1 hs).2; exact Nat.zero_le _
theorem copyS_set (ss : List ByteArray) (k : Nat) (h : k < ss.length) : (copyS ss k).set k ss[k] = copyS ss (k + 1) := by
  apply List.ext_getElem?
  intro j
  simp only [copyS, List.getElem?_set, List.getElem?_append, List.length_append, List.length_take, List.length_replicate, List.getElem?_take, List.getElem?_replicate]
  have e : min k ss.length = k := by omega
  have e1 : min (k + 1) ss.length = k + 1 := by omega
  rw [e, e1]
  by_cases hj : j = k
  · subst hj; simp [h]; omega
  · by_cases h1 : j < k
    · simp [h1, show ¬ k = j by omega, show j < k + 1 by omega]
    · simp [h1, show ¬ k = j by omega, show ¬ j < k + 1 by omega, show (j - k < ss.length - k ↔ j - (k + 1) < ss.length - (k + 1)) by omega]
/-- the decimal digits -/
def dch (k : Nat) : UInt8 := UInt8.ofNat (48 + k % 10)
theorem dch_val (k : Nat) : 48 + (k : Int) % 10 = ((dch k).toNat : Int) := by unfold dch; rw [byte_of]; omega
theorem ba_cons (c : UInt8) (l : List UInt8) : (⟨#[c]⟩ : ByteArray) ++ ⟨l.toArray⟩ = ⟨(c :: l).toArray⟩ := by
  apply WideShapes.bytes_inj
  rw [ByteArray.data_append]
  simp
def dig : Nat → Nat → List UInt8
  | 0, _ => []
  | f + 1, k => if k = 0 then [] else dig f (k / 10) ++ [dch k]
def markBytes (k : Nat) : ByteArray := ⟨(109 :: dig 20 k).toArray⟩
theorem dig_zero (f : Nat) : dig f 0 = [] := by cases f <;> simp [dig]
theorem dig_length (f k : Nat) : (dig f k).length ≤ f := by
  induction f generalizing k with
  | zero => simp [dig]
  | succ f ih =>
    rw [dig]
    split
    · simp
    · have := ih (k / 10); simp; omega
theorem markBytes_size (k : Nat) : (markBytes k).size ≤ 21 := by
  have := dig_length 20 k
  show (109 :: dig 20 k).toArray.size ≤ 21
  simp; omega

def markS (k0 n : Nat) : List ByteArray := (List.range n).map (fun j => markBytes (k0 + j))
def markSTo (ss : List ByteArray) (k0 i : Nat) : List ByteArray := markS k0 i ++ ss.drop i
theorem markS_length (k0 n : Nat) : (markS k0 n).length = n := by simp [markS]
theorem markSTo_length (ss : List ByteArray) (k0 i : Nat) (h : i ≤ ss.length) : (markSTo ss k0 i).length = ss.length := by simp [markSTo, markS]; omega
theorem markSTo_zero (ss : List ByteArray) (k0 : Nat) : markSTo ss k0 0 = ss := by simp [markSTo, markS]
theorem markSTo_all (ss : List ByteArray) (k0 : Nat) : markSTo ss k0 ss.length = markS k0 ss.length := by simp [markSTo]
theorem markSTo_set (ss : List ByteArray) (k0 i : Nat) (h : i < ss.length) : (markSTo ss k0 i).set i (markBytes (k0 + i)) = markSTo ss k0 (i + 1) := by
  unfold markSTo markS
  rw [List.set_append_right _ _ (by simp)]
  simp only [List.length_map, List.length_range, Nat.sub_self, List.range_succ, List.map_append, List.map_cons, List.map_nil, List.append_assoc]
  congr 1
  rw [List.drop_eq_getElem_cons h]
  rfl
theorem mark_max (k : Nat) : (markBytes k).size ≤ maxLen := Nat.le_trans (markBytes_size k) (by decide)

end Go.Proofs.Ytdeaiefhegjalaa.helps

namespace Go.Proofs.Ytdeaiefhegjalaa.gettexts
open Go.RowKit Go.Proofs.Ytdeaiefhegjalaa.base Go.Proofs.Ytdeaiefhegjalaa.help Go.Proofs.Ytdeaiefhegjalaa.helps Go.Proofs.Ytdeaiefhegjalaa.getnum Go.Proofs.Ytdeaiefhegjalaa.gettext
set_option linter.unusedVariables false
set_option linter.unusedSimpArgs false

def readTexts (bs : List UInt8) : Nat → Nat → List ByteArray → Option (List ByteArray × Nat)
  | 0, p, acc => some (acc, p)
  | c + 1, p, acc =>
    match getText bs (p : Int) with
    | none => none
    | some (s, k) => readTexts bs c (p + k) (acc ++ [s])
def getTexts (bs : List UInt8) (at_ : Int) : Option (List ByteArray × Nat) :=
  match getNum bs at_ with
  | none => none
  | some (n, k) => if 200 < n then none else readTexts bs n (at_.toNat + k) []
def resT : Option (List ByteArray × Nat) → List ByteArray
  | none => []
  | some (ss, _) => ss
def resP : Option (List ByteArray × Nat) → Int
  | none => 0
  | some (_, p) => (p : Int)
def resB : Option (List ByteArray × Nat) → Bool
  | none => false
  | some _ => true

theorem getText_some {bs : List UInt8} {p : Nat} {s : ByteArray} {k : Nat} (h : getText bs (p : Int) = some (s, k)) : p + k ≤ bs.length ∧ s.size ≤ bs.length := by
  unfold getText at h
  split at h
  · simp at h
  · rename_i n k' hG
    have hg := getNum_some hG
    simp only [Int.toNat_natCast] at h hg
    split at h
    · simp at h
    · simp only [Option.some.injEq, Prod.mk.injEq] at h
      obtain ⟨rfl, rfl⟩ := h
      refine ⟨by omega, ?_⟩
      rw [cut_size bs _ _ (by omega)]
      omega


end Go.Proofs.Ytdeaiefhegjalaa.gettexts
