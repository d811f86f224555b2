/- Reading a text: the program's and the specification's GetText answer as one and the same function. The laws' own helpers on slices of strings: what each call does. -/
import Derived.Test.YtjodbijcgcjndaaBund10aj
import Derived.Laws.BytesArg
import Derived.Test.YtjodbijcgcjndaaRows
import Derived.Test.YtjodbijcgcjndaaBund10aa
import Derived.Test.YtjodbijcgcjndaaBund10ab
import Derived.Deep.RegionWith
namespace Go.Proofs.Ytjodbijcgcjndaa.gettext
open Go.RowKit Go.Proofs.Ytjodbijcgcjndaa.base Go.Proofs.Ytjodbijcgcjndaa.help Go.Proofs.Ytjodbijcgcjndaa.getnum
set_option linter.unusedVariables false
set_option linter.unusedSimpArgs false

def getText (bs : List UInt8) (at_ : Int) : Option (ByteArray × Nat) :=
  match getNum bs at_ with
  | none => none
  | some (n, k) => if bs.length < at_.toNat + k + n then none else some (cut bs (at_.toNat + k) n, k + n)
def textRet (at_ : Int) : Option (ByteArray × Nat) → Value
  | none => .tuple #[.string ⟨#[]⟩, .int .i64 0, .bool false]
  | some (s, k) => .tuple #[.string s, .int .i64 (at_ + (k : Nat)), .bool true]

theorem getGo_some (l : List UInt8) (k n m j : Nat) (h : getGo l k n = some (m, j)) : k < j ∧ j ≤ 5 ∧ j - k ≤ l.length ∧ m ≤ 1000000000 := by
  induction l generalizing k n with
  | nil => simp [getGo] at h
  | cons c l ih =>
    rw [getGo] at h
    split at h
    · simp at h
    · split at h
      · have := ih _ _ h; simp only [List.length_cons]; omega
      · split at h
        · simp at h
        · simp only [Option.some.injEq, Prod.mk.injEq] at h
          simp only [List.length_cons]
          omega
theorem getNum_some {bs : List UInt8} {at_ : Int} {n k : Nat} (h : getNum bs at_ = some (n, k)) : 0 ≤ at_ ∧ 1 ≤ k ∧ k ≤ 5 ∧ at_.toNat + k ≤ bs.length ∧ n ≤ 1000000000 := by
  unfold getNum at h
  split at h
  · simp at h
  · have := getGo_some _ _ _ _ _ h
    simp only [List.length_drop] at this
    omega
theorem tupS {s t : ByteArray} {c d : Int} {b : Bool} (h : s = t) (h2 : c = d) : Ending.returned (.tuple #[.string s, .int .i64 c, .bool b]) = .returned (.tuple #[.string t, .int .i64 d, .bool b]) := by rw [h, h2]
set_option maxRecDepth 100000 in
set_option maxHeartbeats 1000000 in
theorem impl_text (a : Option Addr) (len cap : Nat) (at_ : Int) (bs : List UInt8) (w : World) (h : Sl w a len bs) (hcap : len ≤ cap) (hat : (Lit.int .i64 at_).wf = true) :
    Calls Try.prog 74 #[.slice a len cap, .int .i64 at_] w fun e w' => e = .returned (textRet at_ (getText bs at_)) ∧ w' = w := by
  have hl := h.1
  have hm := h.2.1
  unfold maxLen at hm
  rcases hG : getNum bs at_ with _ | ⟨n, k⟩
  · have HF : Hid (getText bs at_ = none) := by show _ = _; unfold getText; rw [hG]
    have HG := Hid.mk' hG
    clear hG
    go_enter Try.func74, Try.ntmps74
    go_wp2_with fail
    refine (impl_get a len cap at_ bs _ h hat).mono ?_
    rintro e w1 ⟨he, rfl⟩
    rw [HG.out, numRet] at he
    subst he
    go_wp2_with fail
    go_ret3
    exact ⟨by rw [HF.out]; rfl, rfl⟩
  · obtain ⟨h0, hk1, hk5, hle, hn9⟩ := getNum_some hG
    obtain ⟨A, rfl⟩ := Int.eq_ofNat_of_zero_le h0
    simp only [Int.toNat_natCast] at hle
    have HG := Hid.mk' hG
    by_cases hbig : bs.length < A + k + n
    · have HF : Hid (getText bs (A : Int) = none) := by show _ = _; unfold getText; rw [hG]; simp only [Int.toNat_natCast]; rw [if_pos hbig]
      clear hG
      go_enter Try.func74, Try.ntmps74
      go_wp2_with fail
      refine (impl_get a len cap _ bs _ h hat).mono ?_
      rintro e w1 ⟨he, rfl⟩
      rw [HG.out, numRet] at he
      subst he
      go_wp2_with fail
      go_ret3
      exact ⟨by rw [HF.out]; rfl, rfl⟩
    · have HF : Hid (getText bs (A : Int) = some (cut bs (A + k) n, k + n)) := by show _ = _; unfold getText; rw [hG]; simp only [Int.toNat_natCast]; rw [if_neg hbig]
      clear hG
      obtain ⟨b, off, ha, hc⟩ := h.2.2 (by omega)
      subst ha
      clear hc
      by_cases hcp : cap = A + k
      · have hn0 : n = 0 := by omega
        subst hn0 hcp
        have hcv := fun c => conv_none (w := w) (b := b) (off := off) (bs := bs) (A + k) c
        have HH := Hid.mk' h
        clear h
        go_enter Try.func74, Try.ntmps74
        go_wp2_with fail
        refine (impl_get _ len _ _ bs _ HH.out hat).mono ?_
        rintro e w1 ⟨he, rfl⟩
        rw [HG.out, numRet] at he
        subst he
        go_wp2_with fail
        go_ret3
        exact ⟨by rw [HF.out]; simp only [textRet]; exact tupS rfl (by omega), rfl⟩
      · have hcv := fun c => conv_cut (w := w) h (p := A + k) (n := n) (by omega) c
        have HH := Hid.mk' h
        clear h
        go_enter Try.func74, Try.ntmps74
        go_wp2_with fail
        refine (impl_get _ len _ _ bs _ HH.out hat).mono ?_
        rintro e w1 ⟨he, rfl⟩
        rw [HG.out, numRet] at he
        subst he
        go_wp2_with fail
        go_ret3
        exact ⟨by rw [HF.out]; simp only [textRet]; exact tupS rfl (by omega), rfl⟩

set_option maxRecDepth 100000 in
set_option maxHeartbeats 1000000 in
theorem spec_text (a : Option Addr) (len cap : Nat) (at_ : Int) (bs : List UInt8) (w : World) (h : Sl w a len bs) (hcap : len ≤ cap) (hat : (Lit.int .i64 at_).wf = true) :
    Calls Try.prog 60 #[.slice a len cap, .int .i64 at_] w fun e w' => e = .returned (textRet at_ (getText bs at_)) ∧ w' = w := by
  have hl := h.1
  have hm := h.2.1
  unfold maxLen at hm
  rcases hG : getNum bs at_ with _ | ⟨n, k⟩
  · have HF : Hid (getText bs at_ = none) := by show _ = _; unfold getText; rw [hG]
    have HG := Hid.mk' hG
    clear hG
    go_enter Try.func60, Try.ntmps60
    go_wp2_with fail
    refine (spec_get a len cap at_ bs _ h hat).mono ?_
    rintro e w1 ⟨he, rfl⟩
    rw [HG.out, numRet] at he
    subst he
    go_wp2_with fail
    go_ret3
    exact ⟨by rw [HF.out]; rfl, rfl⟩
  · obtain ⟨h0, hk1, hk5, hle, hn9⟩ := getNum_some hG
    obtain ⟨A, rfl⟩ := Int.eq_ofNat_of_zero_le h0
    simp only [Int.toNat_natCast] at hle
    have HG := Hid.mk' hG
    by_cases hbig : bs.length < A + k + n
    · have HF : Hid (getText bs (A : Int) = none) := by show _ = _; unfold getText; rw [hG]; simp only [Int.toNat_natCast]; rw [if_pos hbig]
      clear hG
      go_enter Try.func60, Try.ntmps60
      go_wp2_with fail
      refine (spec_get a len cap _ bs _ h hat).mono ?_
      rintro e w1 ⟨he, rfl⟩
      rw [HG.out, numRet] at he
      subst he
      go_wp2_with fail
      go_ret3
      exact ⟨by rw [HF.out]; rfl, rfl⟩
    · have HF : Hid (getText bs (A : Int) = some (cut bs (A + k) n, k + n)) := by show _ = _; unfold getText; rw [hG]; simp only [Int.toNat_natCast]; rw [if_neg hbig]
      clear hG
      obtain ⟨b, off, ha, hc⟩ := h.2.2 (by omega)
      subst ha
      clear hc
      by_cases hcp : cap = A + k
      · have hn0 : n = 0 := by omega
        subst hn0 hcp
        have hcv := fun c => conv_none (w := w) (b := b) (off := off) (bs := bs) (A + k) c
        have HH := Hid.mk' h
        clear h
        go_enter Try.func60, Try.ntmps60
        go_wp2_with fail
        refine (spec_get _ len _ _ bs _ HH.out hat).mono ?_
        rintro e w1 ⟨he, rfl⟩
        rw [HG.out, numRet] at he
        subst he
        go_wp2_with fail
        go_ret3
        exact ⟨by rw [HF.out]; simp only [textRet]; exact tupS rfl (by omega), rfl⟩
      · have hcv := fun c => conv_cut (w := w) h (p := A + k) (n := n) (by omega) c
        have HH := Hid.mk' h
        clear h
        go_enter Try.func60, Try.ntmps60
        go_wp2_with fail
        refine (spec_get _ len _ _ bs _ HH.out hat).mono ?_
        rintro e w1 ⟨he, rfl⟩
        rw [HG.out, numRet] at he
        subst he
        go_wp2_with fail
        go_ret3
        exact ⟨by rw [HF.out]; simp only [textRet]; exact tupS rfl (by omega), rfl⟩

end Go.Proofs.Ytjodbijcgcjndaa.gettext

namespace Go.Proofs.Ytjodbijcgcjndaa.helps
open Go.RowKit Go.Proofs.Ytjodbijcgcjndaa.base Go.Proofs.Ytjodbijcgcjndaa.help
set_option linter.unusedVariables false
set_option linter.unusedSimpArgs false

def copyS (ss : List ByteArray) (k : Nat) : List ByteArray := ss.take k ++ List.replicate (ss.length - k) ⟨#[]⟩
theorem copyS_length (ss : List ByteArray) (k : Nat) (h : k ≤ ss.length) : (copyS ss k).length = ss.length := by simp [copyS]; omega
theorem copyS_zero (ss : List ByteArray) : copyS ss 0 = List.replicate ss.length ⟨#[]⟩ := by simp [copyS]
theorem copyS_all (ss : List ByteArray) : copyS ss ss.length = ss := by simp [copyS]
theorem copyS_small (ss : List ByteArray) (k : Nat) (h : ∀ s ∈ ss, s.size ≤ maxLen) : ∀ s ∈ copyS ss k, s.size ≤ maxLen := by
  intro s hs
  rcases List.mem_append.1 hs with hs | hs
  · exact h s (List.mem_of_mem_take hs)
  · obtain rfl := (List.mem_replicate.1 hs).2; exact Nat.zero_le _
theorem copyS_set (ss : List ByteArray) (k : Nat) (h : k < ss.length) : (copyS ss k).set k ss[k] = copyS ss (k + 1) := by
  apply List.ext_getElem?
  intro j
  simp only [copyS, List.getElem?_set, List.getElem?_append, List.length_append, List.length_take, List.length_replicate, List.getElem?_take, List.getElem?_replicate]
  have e : min k ss.length = k := by omega
  have e1 : min (k + 1) ss.length = k + 1 := by omega
  rw [e, e1]
  by_cases hj : j = k
  · subst hj; simp [h]; omega
  · by_cases h1 : j < k
    · simp [h1, show ¬ k = j by omega, show j < k + 1 by omega]
    · simp [h1, show ¬ k = j by omega, show ¬ j < k + 1 by omega, show (j - k < ss.length - k ↔ j - (k + 1) < ss.length - (k + 1)) by omega]
/-- the decimal digits -/
def dch (k : Nat) : UInt8 := UInt8.ofNat (48 + k % 10)
theorem dch_val (k : Nat) : 48 + (k : Int) % 10 = ((dch k).toNat : Int) := by unfold dch; rw [byte_of]; omega
theorem ba_cons (c : UInt8) (l : List UInt8) : (⟨#[c]⟩ : ByteArray) ++ ⟨l.toArray⟩ = ⟨(c :: l).toArray⟩ := by
  apply WideShapes.bytes_inj
  rw [ByteArray.data_append]
  simp
def dig : Nat → Nat → List UInt8
  | 0, _ => []
  | f + 1, k => if k = 0 then [] else dig f (k / 10) ++ [dch k]
def markBytes (k : Nat) : ByteArray := ⟨(109 :: dig 20 k).toArray⟩
theorem dig_zero (f : Nat) : dig f 0 = [] := by cases f <;> simp [dig]
theorem dig_length (f k : Nat) : (dig f k).length ≤ f := by
  induction f generalizing k with
  | zero => simp [dig]
  | succ f ih =>
    rw [dig]
    split
    · simp
    · have := ih (k / 10); simp; omega
theorem markBytes_size (k : Nat) : (markBytes k).size ≤ 21 := by
  have := dig_length 20 k
  show (109 :: dig 20 k).toArray.size ≤ 21
  simp; omega
set_option maxHeartbeats 400000 in
theorem markText (k0 : Nat) (w : World) (hk : 1 ≤ k0) (hk2 : k0 ≤ 1099511627776) :
    Calls Try.prog 66 #[.int .i64 (k0 : Int)] w fun e w' => e = .returned (.string (markBytes k0)) ∧ Below w.heap.size w w' := by
  have hne : ¬ k0 = 0 := by omega
  go_enter Try.func66, Try.ntmps66
  go_wp2
  go_loopw [0, 3] (fun kv out wr => ∃ (f m : Nat) (acc : List UInt8), kv = .int .i64 (m : Int) ∧ m ≤ 1099511627776 ∧ m < 10 ^ f ∧ out = .string ⟨acc.toArray⟩ ∧ dig f m ++ acc = dig 20 k0 ∧ acc.length + f = 20 ∧ Below w.heap.size w wr) (fun kv _ _ => (intOf kv).toNat)
  case atStart => exact ⟨20, k0, [], rfl, hk2, by omega, rfl, by simp, rfl, Below.refl _ _⟩
  case round =>
    obtain ⟨f, m, acc, rfl, hm, hmf, rfl, hd, hf, hB⟩ := hrel
    have HD := Hid.mk' hd
    have HM := Hid.mk' hmf
    have HF := Hid.mk' hf
    have hal : acc.length ≤ 20 := by omega
    clear hd hmf hf
    by_cases hp : 0 < m
    · obtain ⟨f', rfl⟩ : ∃ f', f = f' + 1 := by
        cases f with
        | zero => exact absurd HM.out (by omega)
        | succ f' => exact ⟨f', rfl⟩
      have hcv := fun c => conv_one wr (48 + (m : Int) % 10) (dch m) (dch_val m) c
      go_wp2
      go_roundw
      case rel =>
        refine ⟨f', m / 10, dch m :: acc, by go_num, by omega, ?_, by rw [ba_cons], ?_, ?_, hB.alloc hB.size _⟩
        · have := HM.out; rw [Nat.pow_succ] at this; exact Nat.div_lt_of_lt_mul (by omega)
        · have := HD.out; rw [dig, if_neg (by omega)] at this; simpa using this
        · have := HF.out; simp; omega
      case measure => simp [intOf]; omega
    · have hm0 : m = 0 := by omega
      have HR : Hid (acc = dig 20 k0) := by
        have := HD.out; rw [hm0, dig_zero, List.nil_append] at this; exact this
      clear hm0
      go_wp2
      go_ret
      refine ⟨?_, hB⟩
      unfold markBytes
      rw [← HR.out]
      exact ret_str (by apply WideShapes.bytes_inj; simp [ByteArray.data_append])

theorem markTextI (n : Int) (k0 : Nat) (w : World) (hn : Hid (n = (k0 : Int))) (hk : 1 ≤ k0) (hk2 : k0 ≤ 1099511627776) :
    Calls Try.prog 66 #[.int .i64 n] w fun e w' => e = .returned (.string (markBytes k0)) ∧ Below w.heap.size w w' := by
  have e := hn.out
  subst e
  exact markText k0 w hk hk2
def markS (k0 n : Nat) : List ByteArray := (List.range n).map (fun j => markBytes (k0 + j))
def markSTo (ss : List ByteArray) (k0 i : Nat) : List ByteArray := markS k0 i ++ ss.drop i
theorem markS_length (k0 n : Nat) : (markS k0 n).length = n := by simp [markS]
theorem markSTo_length (ss : List ByteArray) (k0 i : Nat) (h : i ≤ ss.length) : (markSTo ss k0 i).length = ss.length := by simp [markSTo, markS]; omega
theorem markSTo_zero (ss : List ByteArray) (k0 : Nat) : markSTo ss k0 0 = ss := by simp [markSTo, markS]
theorem markSTo_all (ss : List ByteArray) (k0 : Nat) : markSTo ss k0 ss.length = markS k0 ss.length := by simp [markSTo]
theorem markSTo_set (ss : List ByteArray) (k0 i : Nat) (h : i < ss.length) : (markSTo ss k0 i).set i (markBytes (k0 + i)) = markSTo ss k0 (i + 1) := by
  unfold markSTo markS
  rw [List.set_append_right _ _ (by simp)]
  simp only [List.length_map, List.length_range, Nat.sub_self, List.range_succ, List.map_append, List.map_cons, List.map_nil, List.append_assoc]
  congr 1
  rw [List.drop_eq_getElem_cons h]
  rfl
theorem mark_max (k : Nat) : (markBytes k).size ≤ maxLen := Nat.le_trans (markBytes_size k) (by decide)

end Go.Proofs.Ytjodbijcgcjndaa.helps
