/- The laws' own helpers on slices of strings: what each call does. Reading a list of texts: the program's and the specification's GetTexts answer as one and the same function. -/
import Derived.Test.YtdeaiefhegjalaaGreatRows
import Derived.Test.YtdeaiefhegjalaaGreatBund12aa
import Derived.Test.YtdeaiefhegjalaaGreatBund12ab
import Derived.Test.YtdeaiefhegjalaaGreatBund12ac
import Derived.Laws.BytesArg
import Derived.Deep.RegionWith
namespace Go.Proofs.YtdeaiefhegjalaaGreat.helps
open Go.RowKit Go.Proofs.YtdeaiefhegjalaaGreat.base Go.Proofs.YtdeaiefhegjalaaGreat.help
set_option linter.unusedVariables false
set_option linter.unusedSimpArgs false

def copyS (ss : List ByteArray) (k : Nat) : List ByteArray := ss.take k ++ List.replicate (ss.length - k) ⟨#[]⟩
theorem copyS_length (ss : List ByteArray) (k : Nat) (h : k ≤ ss.length) : (copyS ss k).length = ss.length := by simp [copyS]; omega
theorem copyS_zero (ss : List ByteArray) : copyS ss 0 = List.replicate ss.length ⟨#[]⟩ := by simp [copyS]
theorem copyS_all (ss : List ByteArray) : copyS ss ss.length = ss := by simp [copyS]
theorem copyS_small (ss : List ByteArray) (k : Nat) (h : ∀ s ∈ ss, s.size ≤ maxLen) : ∀ s ∈ copyS ss k, s.size ≤ maxLen := by
  intro s hs
  rcases List.mem_append.1 hs with hs | hs
  · exact h s (List.mem_of_mem_take hs)
  · obtain rfl := (List.mem_replicate.1 hs).2; exact Nat.zero_le _
theorem copyS_set (ss : List ByteArray) (k : Nat) (h : k < ss.length) : (copyS ss k).set k ss[k] = copyS ss (k + 1) := by
  apply List.ext_getElem?
  intro j
  simp only [copyS, List.getElem?_set, List.getElem?_append, List.length_append, List.length_take, List.length_replicate, List.getElem?_take, List.getElem?_replicate]
  have e : min k ss.length = k := by omega
  have e1 : min (k + 1) ss.length = k + 1 := by omega
  rw [e, e1]
  by_cases hj : j = k
  · subst hj; simp [h]; omega
  · by_cases h1 : j < k
    · simp [h1, show ¬ k = j by omega, show j < k + 1 by omega]
    · simp [h1, show ¬ k = j by omega, show ¬ j < k + 1 by omega, show (j - k < ss.length - k ↔ j - (k + 1) < ss.length - (k + 1)) by omega]
/-- the decimal digits -/
def dch (k : Nat) : UInt8 := UInt8.ofNat (48 + k % 10)
theorem dch_val (k : Nat) : 48 + (k : Int) % 10 = ((dch k).toNat : Int) := by unfold dch; rw [byte_of]; omega
theorem ba_cons (c : UInt8) (l : List UInt8) : (⟨#[c]⟩ : ByteArray) ++ ⟨l.toArray⟩ = ⟨(c :: l).toArray⟩ := by
  apply WideShapes.bytes_inj
  rw [ByteArray.data_append]
  simp
def dig : Nat → Nat → List UInt8
  | 0, _ => []
  | f + 1, k => if k = 0 then [] else dig f (k / 10) ++ [dch k]
def markBytes (k : Nat) : ByteArray := ⟨(109 :: dig 20 k).toArray⟩
theorem dig_zero (f : Nat) : dig f 0 = [] := by cases f <;> simp [dig]
theorem dig_length (f k : Nat) : (dig f k).length ≤ f := by
  induction f generalizing k with
  | zero => simp [dig]
  | succ f ih =>
    rw [dig]
    split
    · simp
    · have := ih (k / 10); simp; omega
theorem markBytes_size (k : Nat) : (markBytes k).size ≤ 21 := by
  have := dig_length 20 k
  show (109 :: dig 20 k).toArray.size ≤ 21
  simp; omega
set_option maxHeartbeats 400000 in
theorem markText (k0 : Nat) (w : World) (hk : 1 ≤ k0) (hk2 : k0 ≤ 1099511627776) :
    Calls Tryz.prog 135 #[.int .i64 (k0 : Int)] w fun e w' => e = .returned (.string (markBytes k0)) ∧ Below w.heap.size w w' := by
  have hne : ¬ k0 = 0 := by omega
  go_enter Tryz.func135, Tryz.ntmps135
  go_wp2
  go_loopw [0, 3] (fun kv out wr => ∃ (f m : Nat) (acc : List UInt8), kv = .int .i64 (m : Int) ∧ m ≤ 1099511627776 ∧ m < 10 ^ f ∧ out = .string ⟨acc.toArray⟩ ∧ dig f m ++ acc = dig 20 k0 ∧ acc.length + f = 20 ∧ Below w.heap.size w wr) (fun kv _ _ => (intOf kv).toNat)
  case atStart => exact ⟨20, k0, [], rfl, hk2, by omega, rfl, by simp, rfl, Below.refl _ _⟩
  case round =>
    obtain ⟨f, m, acc, rfl, hm, hmf, rfl, hd, hf, hB⟩ := hrel
    have HD := Hid.mk' hd
    have HM := Hid.mk' hmf
    have HF := Hid.mk' hf
    have hal : acc.length ≤ 20 := by omega
    clear hd hmf hf
    by_cases hp : 0 < m
    · obtain ⟨f', rfl⟩ : ∃ f', f = f' + 1 := by
        cases f with
        | zero => exact absurd HM.out (by omega)
        | succ f' => exact ⟨f', rfl⟩
      have hcv := fun c => conv_one wr (48 + (m : Int) % 10) (dch m) (dch_val m) c
      go_wp2
      go_roundw
      case rel =>
        refine ⟨f', m / 10, dch m :: acc, by go_num, by omega, ?_, by rw [ba_cons], ?_, ?_, hB.alloc hB.size _⟩
        · have := HM.out; rw [Nat.pow_succ] at this; exact Nat.div_lt_of_lt_mul (by omega)
        · have := HD.out; rw [dig, if_neg (by omega)] at this; simpa using this
        · have := HF.out; simp; omega
      case measure => simp [intOf]; omega
    · have hm0 : m = 0 := by omega
      have HR : Hid (acc = dig 20 k0) := by
        have := HD.out; rw [hm0, dig_zero, List.nil_append] at this; exact this
      clear hm0
      go_wp2
      go_ret
      refine ⟨?_, hB⟩
      unfold markBytes
      rw [← HR.out]
      exact ret_str (by apply WideShapes.bytes_inj; simp [ByteArray.data_append])

theorem markTextI (n : Int) (k0 : Nat) (w : World) (hn : Hid (n = (k0 : Int))) (hk : 1 ≤ k0) (hk2 : k0 ≤ 1099511627776) :
    Calls Tryz.prog 135 #[.int .i64 n] w fun e w' => e = .returned (.string (markBytes k0)) ∧ Below w.heap.size w w' := by
  have e := hn.out
  subst e
  exact markText k0 w hk hk2
def markS (k0 n : Nat) : List ByteArray := (List.range n).map (fun j => markBytes (k0 + j))
def markSTo (ss : List ByteArray) (k0 i : Nat) : List ByteArray := markS k0 i ++ ss.drop i
theorem markS_length (k0 n : Nat) : (markS k0 n).length = n := by simp [markS]
theorem markSTo_length (ss : List ByteArray) (k0 i : Nat) (h : i ≤ ss.length) : (markSTo ss k0 i).length = ss.length := by simp [markSTo, markS]; omega
theorem markSTo_zero (ss : List ByteArray) (k0 : Nat) : markSTo ss k0 0 = ss := by simp [markSTo, markS]
theorem markSTo_all (ss : List ByteArray) (k0 : Nat) : markSTo ss k0 ss.length = markS k0 ss.length := by simp [markSTo]
theorem markSTo_set (ss : List ByteArray) (k0 i : Nat) (h : i < ss.length) : (markSTo ss k0 i).set i (markBytes (k0 + i)) = markSTo ss k0 (i + 1) := by
  unfold markSTo markS
  rw [List.set_append_right _ _ (by simp)]
  simp only [List.length_map, List.length_range, Nat.sub_self, List.range_succ, List.map_append, List.map_cons, List.map_nil, List.append_assoc]
  congr 1
  rw [List.drop_eq_getElem_cons h]
  rfl
theorem mark_max (k : Nat) : (markBytes k).size ≤ maxLen := Nat.le_trans (markBytes_size k) (by decide)

end Go.Proofs.YtdeaiefhegjalaaGreat.helps

namespace Go.Proofs.YtdeaiefhegjalaaGreat.gettexts
open Go.RowKit Go.Proofs.YtdeaiefhegjalaaGreat.base Go.Proofs.YtdeaiefhegjalaaGreat.help Go.Proofs.YtdeaiefhegjalaaGreat.helps Go.Proofs.YtdeaiefhegjalaaGreat.getnum Go.Proofs.YtdeaiefhegjalaaGreat.gettext
set_option linter.unusedVariables false
set_option linter.unusedSimpArgs false

def readTexts (bs : List UInt8) : Nat → Nat → List ByteArray → Option (List ByteArray × Nat)
  | 0, p, acc => some (acc, p)
  | c + 1, p, acc =>
    match getText bs (p : Int) with
    | none => none
    | some (s, k) => readTexts bs c (p + k) (acc ++ [s])
def getTexts (bs : List UInt8) (at_ : Int) : Option (List ByteArray × Nat) :=
  match getNum bs at_ with
  | none => none
  | some (n, k) => if 200 < n then none else readTexts bs n (at_.toNat + k) []
def resT : Option (List ByteArray × Nat) → List ByteArray
  | none => []
  | some (ss, _) => ss
def resP : Option (List ByteArray × Nat) → Int
  | none => 0
  | some (_, p) => (p : Int)
def resB : Option (List ByteArray × Nat) → Bool
  | none => false
  | some _ => true

theorem getText_some {bs : List UInt8} {p : Nat} {s : ByteArray} {k : Nat} (h : getText bs (p : Int) = some (s, k)) : p + k ≤ bs.length ∧ s.size ≤ bs.length := by
  unfold getText at h
  split at h
  · simp at h
  · rename_i n k' hG
    have hg := getNum_some hG
    simp only [Int.toNat_natCast] at h hg
    split at h
    · simp at h
    · simp only [Option.some.injEq, Prod.mk.injEq] at h
      obtain ⟨rfl, rfl⟩ := h
      refine ⟨by omega, ?_⟩
      rw [cut_size bs _ _ (by omega)]
      omega


end Go.Proofs.YtdeaiefhegjalaaGreat.gettexts
