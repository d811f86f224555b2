/- Plain mathematics and small facts on worlds, used by the proofs of this seat: no program is named here. Rows that a call makes, appends and conversions: small facts on worlds; no function of the program is named here. Plain mathematics of pairs of texts. Plain mathematics of the laws on pairs. The laws' own helpers on slices of bytes: what each call does. Reading a number: the program's and the specification's GetNum answer as one and the same function. The specification's GetNum answers as the same function. Reading a text: the program's and the specification's GetText answer as one and the same function. The laws' own helpers on slices of strings: what each call does. Reading a list of texts: the program's and the specification's GetTexts answer as one and the same function. Writing a number: the program's and the specification's PutNum answer as one and the same function. Writing texts: the program's and the specification's PutText answer as one and the same function. Writing a list of texts: the program's and the specification's PutTexts answer as one and the same function. Plain mathematics: numbers and texts come back of their bytes. Plain mathematics of orders: what is told of them, their bytes, and that these come back. Rows of pairs of texts: small facts on worlds; no function of the program is named here. Rows of orders (three cells each): small facts on worlds; no function of the program is named here. Plain mathematics of padding. Plain mathematics of SHA-256, on natural numbers below 2 to the power of 32. Plain mathematics of records: their bytes, that these come back, what they make. -/
import Derived.WalkKit
import Derived.WalkSpells
import Derived.WalkLawsBesides
import Derived.Lib.ConvBytes
import Derived.Test.YteniflajiklffaaRows
import Derived.Deep.QuietTactic
import Derived.BigQuiet
import Derived.Deep.RegionWith
import Derived.Laws.CopyOwn
import Derived.Laws.BytesArg
import Derived.Lib.AppendStr
import Derived.ArgAppend
import Derived.Deep.RegionLaw
import Derived.Sort.Walk0
import Derived.WideShapes
import Derived.OwnWalk
namespace Go.Proofs.Yteniflajiklffaa.base
open Go.RowKit

/-! ### the hash -/
theorem ret_bool {a b : Bool} (h : a = b) : Ending.returned (.bool a) = .returned (.bool b) := by rw [h]
theorem ret_int {k : IntKind} {a b : Int} (h : a = b) : Ending.returned (.int k a) = .returned (.int k b) := by rw [h]


/-! ### worlds -/
theorem below_bytesWorld (w : World) (e : TypeId) (s : ByteArray) : Below w.heap.size w (Lib.bytesWorld w e s) :=
  ⟨rfl, rfl, rfl, by rw [Lib.bytesWorld_size]; omega, fun k hk => Lib.bytesWorld_at_old w e s k hk⟩

/-! ### slices of bytes that are read -/
/-! ### slices of bytes that the call itself made -/
theorem below_grown {w w' : World} {B g : Nat} (hg : w.grownBy w' (some g)) (h : B ≤ g) (hB : B ≤ w.heap.size) : Below B w w' :=
  (Below.refl B w).grown hg hB (fun k e => by cases e; exact h)

/-! ### slices of strings -/
section
variable {w w' : World} {base base' g n cap : Nat} {ss : List ByteArray} {row : Option Nat}
end

end Go.Proofs.Yteniflajiklffaa.base

namespace Go.Proofs.Yteniflajiklffaa.base
open Go.RowKit
set_option linter.unusedVariables false
set_option linter.unusedSimpArgs false

theorem grownBy_trans {a b c : World} {row : Option Nat} (h : a.grownBy b row) (k : b.grownBy c row) : a.grownBy c row :=
  ⟨k.os.trans h.os, k.tape.trans h.tape, k.output.trans h.output, Nat.le_trans h.size k.size, fun i hi hr => (k.block i (Nat.lt_of_lt_of_le hi h.size) hr).trans (h.block i hi hr)⟩
theorem Hid.mk' {p : Prop} (h : p) : Hid p := h
theorem byte_of (n : Nat) : ((UInt8.ofNat n).toNat : Int) = (n : Int) % 256 := by simp [UInt8.toNat_ofNat']
theorem le_alloc {base : Nat} (w : World) (o : Obj) (h : base ≤ w.heap.size) : base ≤ (w.alloc o).heap.size := by simp; omega
def cut (bs : List UInt8) (p n : Nat) : ByteArray := ⟨((bs.drop p).take n).toArray⟩
theorem ret_str {a b : ByteArray} (h : a = b) : Ending.returned (.string a) = .returned (.string b) := by rw [h]
theorem conv_one (w : World) (x : Int) (u : UInt8) (hx : x = (u.toNat : Int)) (c : Nat) :
    (convert 22 9 (.slice (some ⟨w.heap.size, 0, none⟩) 1 c)).run Try.prog (w.alloc (.cells #[.int .u8 x] 5)) = .ok (.string ⟨#[u]⟩) (w.alloc (.cells #[.int .u8 x] 5)) := by
  rw [run_convert_bytes_arg (P := Try.prog) _ 22 5 Try.underlying22 Try.underlying5 w.heap.size 0 1 c [x] rfl ?_ 9 Try.underlying9]
  · subst hx; simp [strOfNums]
  · intro i hi
    have : i = 0 := by omega
    subst this
    simp
theorem grown_below {w w1 w2 : World} {g : Nat} (h : w.grownBy w1 (some g)) (hb : Below w1.heap.size w1 w2) : w.grownBy w2 (some g) :=
  ⟨hb.os.trans h.os, hb.tape.trans h.tape, hb.output.trans h.output, Nat.le_trans h.size hb.size, fun k hk hr => (hb.block k (Nat.lt_of_lt_of_le hk h.size)).trans (h.block k hk hr)⟩
theorem cell_cur {w : World} {gc : Nat} {cur : Array Value} {t : TypeId} {mk : Nat × Nat} (h : w.heap[gc]? = some (.cells cur t mk)) (j : Nat) (v : Value) (hj : cur[j]? = some v) : w.cell? ⟨gc, j, none⟩ = some v := by
  rw [cell_of_row w gc j cur t mk h]; exact hj
theorem set_cur {w : World} {gc : Nat} {cur : Array Value} {t : TypeId} (h : w.heap[gc]? = some (.cells cur t (0, 0))) (j : Nat) (v : Value) :
    (w.setCell ⟨gc, j, none⟩ v).heap[gc]? = some (.cells (cur.setIfInBounds j v) t (0, 0)) ∧ w.grownBy (w.setCell ⟨gc, j, none⟩ v) (some gc) :=
  ⟨heap_setCell_same w gc j cur t v h, ⟨rfl, rfl, rfl, by simp, fun k _ hk => heap_setCell_other w ⟨gc, j, none⟩ k v (fun e => hk (by simp [e]))⟩⟩
theorem step_append_own {P : Program} {ops : Array Oper} {o : Oper} {a : Act} {w : World} {K : Act → World → Prop} {Q : Exit → Act → World → Prop} {E : Prop} (hgd : o.guard = none) (s x : Operand) (t : TypeId)
    (ho : o.op = .call { callee := .builtin .append, args := #[s, x], argTypes := #[t, t] })
    (base : Nat) (e : TypeId) (i : TypeInfo) (z : Value) (size bytes : Nat) (ht : P.underlying t = some (.slice e)) (hi : P.info? e = some i) (hz : i.zero = some z)
    (hsize : i.size = size) (hby : i.bytes = bytes) (hzs : z.cells.size = size) (hsz : 0 < size)
    (v : Value) (n : Nat) (xs : List Value) (hs : a.eval s = v) (hown : w.ownsRow base e size v n xs)
    (ad : Addr) (m c : Nat) (news : List Value) (hx : a.eval x = .slice (some ad) m c) (hl : news.length = m * size) (hnews : ∀ j u, news[j]? = some u → w.cell? (ad.add j) = some u) (h1 : ∀ u ∈ news, u.oneCell' = true)
    (h63 : n + m ≤ maxLen) (hbytes : (n + m) * bytes ≤ 140737488355328) (hbase : base ≤ w.heap.size)
    (h : ∀ v' w', w'.ownsRow base e size v' (n + m) (xs ++ news) → w.grownBy w' v.ownBlock → (v' = .slice none 0 0 ↔ v = .slice none 0 0 ∧ m = 0) → K (a.put o.dst v') w') :
    if Region.wanted o (yielded ops a.tmps) = true then Oper.wp P o a w K Q else E := by
  have hw : Region.wanted o (yielded ops a.tmps) = true := by simp [Region.wanted, hgd]
  rw [if_pos hw]
  exact wp_append_own w s x t ho base e i z size bytes ht hi hz hsize hby hzs hsz v n xs hs hown ad m c news hx hl hnews h1 h63 hbytes hbase h
theorem cells_two (w : World) (x y : Value) (t : TypeId) : ∀ j u, [x, y][j]? = some u → (w.alloc (.cells #[x, y] t)).cell? ((⟨w.heap.size, 0, none⟩ : Addr).add j) = some u := by
  intro j u hj
  match j, hj with
  | 0, hj => simp at hj; subst hj; simp [Addr.add]
  | 1, hj => simp at hj; subst hj; simp [Addr.add]
end Go.Proofs.Yteniflajiklffaa.base

namespace Go.Proofs.Yteniflajiklffaa.pairs
open Go
set_option linter.unusedVariables false

abbrev Pr := ByteArray × ByteArray
theorem bytes_ext {a b : ByteArray} (h : a.data.toList = b.data.toList) : a = b := WideShapes.bytes_inj h

/-! ### the order of texts -/
def ltB (a b : ByteArray) : Bool := Op.bytesLess a.toList b.toList
theorem ltB_iff (a b : ByteArray) : ltB a b = true ↔ a.data.toList < b.data.toList := by
  unfold ltB; rw [Proofs.bytesLess_eq, ByteArray.toList_eq, ByteArray.toList_eq]; simp
theorem ltB_irrefl (a : ByteArray) : ltB a a = false := by
  rw [Bool.eq_false_iff]; intro h; exact List.lt_irrefl _ ((ltB_iff a a).1 h)
theorem ltB_trans {a b c : ByteArray} (h : ltB a b = true) (k : ltB b c = true) : ltB a c = true :=
  (ltB_iff a c).2 (List.lt_trans ((ltB_iff a b).1 h) ((ltB_iff b c).1 k))
theorem ltB_asymm {a b : ByteArray} (h : ltB a b = true) : ltB b a = false := by
  rw [Bool.eq_false_iff]; intro k; have := ltB_trans h k; rw [ltB_irrefl] at this; cases this
theorem ltB_total {a b : ByteArray} (h : ltB a b = false) (k : ltB b a = false) : a = b := by
  apply bytes_ext
  have h' : ¬ a.data.toList < b.data.toList := fun e => by rw [(ltB_iff a b).2 e] at h; cases h
  have k' : ¬ b.data.toList < a.data.toList := fun e => by rw [(ltB_iff b a).2 e] at k; cases k
  exact List.le_antisymm (List.not_lt.1 k') (List.not_lt.1 h')
/-! ### the functions -/
def keyCh (c : Nat) : Bool := decide (97 ≤ c ∧ c ≤ 122) || decide (48 ≤ c ∧ c ≤ 57)
def keyAll (l : List UInt8) : Bool := l.all fun c => keyCh c.toNat
def keyOk (s : ByteArray) : Bool := keyAll s.data.toList && decide (1 ≤ s.size ∧ s.size ≤ 12)
def pairOk (p : Pr) : Bool := keyOk p.1 && decide (p.2.size ≤ 20)
def getKey (key : ByteArray) : List Pr → Option ByteArray
  | [] => none
  | p :: l => if p.1 = key then some p.2 else getKey key l
def setFirst (key val : ByteArray) : List Pr → List Pr
  | [] => []
  | p :: l => if p.1 = key then (p.1, val) :: l else p :: setFirst key val l
def below (key : ByteArray) : List Pr → Nat
  | [] => 0
  | p :: l => if ltB key p.1 = true then 0 else below key l + 1
def putKey (key val : ByteArray) (l : List Pr) : List Pr :=
  if (getKey key l).isSome then setFirst key val l else l.take (below key l) ++ (key, val) :: l.drop (below key l)
def delKey (key : ByteArray) (l : List Pr) : List Pr := l.filter fun p => decide (p.1 ≠ key)
/-! ### first facts -/
theorem setFirst_length (key val : ByteArray) (l : List Pr) : (setFirst key val l).length = l.length := by
  induction l with
  | nil => rfl
  | cons p l ih => unfold setFirst; split <;> simp [ih]
theorem below_le (key : ByteArray) (l : List Pr) : below key l ≤ l.length := by
  induction l with
  | nil => exact Nat.le_refl _
  | cons p l ih => unfold below; split <;> simp; omega
theorem putKey_length (key val : ByteArray) (l : List Pr) : (putKey key val l).length ≤ l.length + 1 ∧ l.length ≤ (putKey key val l).length := by
  have := below_le key l
  unfold putKey
  split
  · rw [setFirst_length]; omega
  · simp; omega
theorem getKey_drop (key : ByteArray) (l : List Pr) (k : Nat) (h : k < l.length) : getKey key (l.drop k) = if l[k].1 = key then some l[k].2 else getKey key (l.drop (k + 1)) := by
  rw [List.drop_eq_getElem_cons h, getKey]
theorem below_drop (key : ByteArray) (l : List Pr) (k : Nat) (h : k < l.length) : below key (l.drop k) = if ltB key l[k].1 = true then 0 else below key (l.drop (k + 1)) + 1 := by
  rw [List.drop_eq_getElem_cons h, below]
theorem setFirst_at (key val : ByteArray) (l : List Pr) (k : Nat) (h : k < l.length) (he : l[k].1 = key) (hn : getKey key (l.take k) = none) : setFirst key val l = l.set k (key, val) := by
  induction l generalizing k with
  | nil => simp at h
  | cons p l ih =>
    cases k with
    | zero => simp at he; unfold setFirst; rw [if_pos he, he]; rfl
    | succ k =>
      rw [List.take_succ_cons, getKey] at hn
      by_cases hp : p.1 = key
      · rw [if_pos hp] at hn; cases hn
      · rw [if_neg hp] at hn
        unfold setFirst
        rw [if_neg hp, List.set_cons_succ, ih k (by simpa using h) (by simpa using he) hn]
theorem getKey_snoc_none (key : ByteArray) (l : List Pr) (p : Pr) (h : getKey key l = none) (hp : p.1 ≠ key) : getKey key (l ++ [p]) = none := by
  induction l with
  | nil => simp [getKey, hp]
  | cons q l ih =>
    rw [getKey] at h
    by_cases hq : q.1 = key
    · rw [if_pos hq] at h; cases h
    · rw [if_neg hq] at h
      rw [List.cons_append, getKey, if_neg hq]
      exact ih h
theorem getKey_append (key : ByteArray) (a b : List Pr) : getKey key (a ++ b) = (getKey key a).or (getKey key b) := by
  induction a with
  | nil => rfl
  | cons q l ih =>
    rw [List.cons_append, getKey, getKey]
    by_cases hq : q.1 = key
    · rw [if_pos hq, if_pos hq]; rfl
    · rw [if_neg hq, if_neg hq, ih]
end Go.Proofs.Yteniflajiklffaa.pairs

namespace Go.Proofs.Yteniflajiklffaa.pairs
open Go
set_option linter.unusedVariables false
set_option linter.unusedSimpArgs false

/-! ### rising lists -/
/-! ### what is got -/
/-! ### pairs that stay right -/
/-! ### between -/
/-! ### union -/
end Go.Proofs.Yteniflajiklffaa.pairs

namespace Go.Proofs.Yteniflajiklffaa.help
open Go.RowKit Go.Proofs.Yteniflajiklffaa.base
set_option linter.unusedVariables false
set_option linter.unusedSimpArgs false

end Go.Proofs.Yteniflajiklffaa.help

namespace Go.Proofs.Yteniflajiklffaa.getnum
open Go.RowKit Go.Proofs.Yteniflajiklffaa.base Go.Proofs.Yteniflajiklffaa.help
set_option linter.unusedVariables false
set_option linter.unusedSimpArgs false

end Go.Proofs.Yteniflajiklffaa.getnum

namespace Go.Proofs.Yteniflajiklffaa.getnum
open Go.RowKit Go.Proofs.Yteniflajiklffaa.base Go.Proofs.Yteniflajiklffaa.help
set_option linter.unusedVariables false
set_option linter.unusedSimpArgs false

end Go.Proofs.Yteniflajiklffaa.getnum

namespace Go.Proofs.Yteniflajiklffaa.gettext
open Go.RowKit Go.Proofs.Yteniflajiklffaa.base Go.Proofs.Yteniflajiklffaa.help Go.Proofs.Yteniflajiklffaa.getnum
set_option linter.unusedVariables false
set_option linter.unusedSimpArgs false

end Go.Proofs.Yteniflajiklffaa.gettext

namespace Go.Proofs.Yteniflajiklffaa.helps
open Go.RowKit Go.Proofs.Yteniflajiklffaa.base Go.Proofs.Yteniflajiklffaa.help
set_option linter.unusedVariables false
set_option linter.unusedSimpArgs false

def dch (k : Nat) : UInt8 := UInt8.ofNat (48 + k % 10)
theorem dch_val (k : Nat) : 48 + (k : Int) % 10 = ((dch k).toNat : Int) := by unfold dch; rw [byte_of]; omega
theorem ba_cons (c : UInt8) (l : List UInt8) : (⟨#[c]⟩ : ByteArray) ++ ⟨l.toArray⟩ = ⟨(c :: l).toArray⟩ := by
  apply WideShapes.bytes_inj
  rw [ByteArray.data_append]
  simp
def dig : Nat → Nat → List UInt8
  | 0, _ => []
  | f + 1, k => if k = 0 then [] else dig f (k / 10) ++ [dch k]
def markBytes (k : Nat) : ByteArray := ⟨(109 :: dig 20 k).toArray⟩
theorem dig_zero (f : Nat) : dig f 0 = [] := by cases f <;> simp [dig]
theorem dig_length (f k : Nat) : (dig f k).length ≤ f := by
  induction f generalizing k with
  | zero => simp [dig]
  | succ f ih =>
    rw [dig]
    split
    · simp
    · have := ih (k / 10); simp; omega
theorem markBytes_size (k : Nat) : (markBytes k).size ≤ 21 := by
  have := dig_length 20 k
  show (109 :: dig 20 k).toArray.size ≤ 21
  simp; omega
set_option maxHeartbeats 400000 in
theorem markText (k0 : Nat) (w : World) (hk : 1 ≤ k0) (hk2 : k0 ≤ 1099511627776) :
    Calls Try.prog 50 #[.int .i64 (k0 : Int)] w fun e w' => e = .returned (.string (markBytes k0)) ∧ Below w.heap.size w w' := by
  have hne : ¬ k0 = 0 := by omega
  go_enter Try.func50, Try.ntmps50
  go_wp2
  go_loopw [0, 3] (fun kv out wr => ∃ (f m : Nat) (acc : List UInt8), kv = .int .i64 (m : Int) ∧ m ≤ 1099511627776 ∧ m < 10 ^ f ∧ out = .string ⟨acc.toArray⟩ ∧ dig f m ++ acc = dig 20 k0 ∧ acc.length + f = 20 ∧ Below w.heap.size w wr) (fun kv _ _ => (intOf kv).toNat)
  case atStart => exact ⟨20, k0, [], rfl, hk2, by omega, rfl, by simp, rfl, Below.refl _ _⟩
  case round =>
    obtain ⟨f, m, acc, rfl, hm, hmf, rfl, hd, hf, hB⟩ := hrel
    have HD := Hid.mk' hd
    have HM := Hid.mk' hmf
    have HF := Hid.mk' hf
    have hal : acc.length ≤ 20 := by omega
    clear hd hmf hf
    by_cases hp : 0 < m
    · obtain ⟨f', rfl⟩ : ∃ f', f = f' + 1 := by
        cases f with
        | zero => exact absurd HM.out (by omega)
        | succ f' => exact ⟨f', rfl⟩
      have hcv := fun c => conv_one wr (48 + (m : Int) % 10) (dch m) (dch_val m) c
      go_wp2
      go_roundw
      case rel =>
        refine ⟨f', m / 10, dch m :: acc, by go_num, by omega, ?_, by rw [ba_cons], ?_, ?_, hB.alloc hB.size _⟩
        · have := HM.out; rw [Nat.pow_succ] at this; exact Nat.div_lt_of_lt_mul (by omega)
        · have := HD.out; rw [dig, if_neg (by omega)] at this; simpa using this
        · have := HF.out; simp; omega
      case measure => simp [intOf]; omega
    · have hm0 : m = 0 := by omega
      have HR : Hid (acc = dig 20 k0) := by
        have := HD.out; rw [hm0, dig_zero, List.nil_append] at this; exact this
      clear hm0
      go_wp2
      go_ret
      refine ⟨?_, hB⟩
      unfold markBytes
      rw [← HR.out]
      exact ret_str (by apply WideShapes.bytes_inj; simp [ByteArray.data_append])

theorem markTextI (n : Int) (k0 : Nat) (w : World) (hn : Hid (n = (k0 : Int))) (hk : 1 ≤ k0) (hk2 : k0 ≤ 1099511627776) :
    Calls Try.prog 50 #[.int .i64 n] w fun e w' => e = .returned (.string (markBytes k0)) ∧ Below w.heap.size w w' := by
  have e := hn.out
  subst e
  exact markText k0 w hk hk2
theorem mark_max (k : Nat) : (markBytes k).size ≤ maxLen := Nat.le_trans (markBytes_size k) (by decide)

end Go.Proofs.Yteniflajiklffaa.helps

namespace Go.Proofs.Yteniflajiklffaa.gettexts
open Go.RowKit Go.Proofs.Yteniflajiklffaa.base Go.Proofs.Yteniflajiklffaa.help Go.Proofs.Yteniflajiklffaa.helps Go.Proofs.Yteniflajiklffaa.getnum Go.Proofs.Yteniflajiklffaa.gettext
set_option linter.unusedVariables false
set_option linter.unusedSimpArgs false

end Go.Proofs.Yteniflajiklffaa.gettexts

namespace Go.Proofs.Yteniflajiklffaa.putnum
open Go.RowKit Go.Proofs.Yteniflajiklffaa.base Go.Proofs.Yteniflajiklffaa.help
set_option linter.unusedVariables false
set_option linter.unusedSimpArgs false

end Go.Proofs.Yteniflajiklffaa.putnum

namespace Go.Proofs.Yteniflajiklffaa.puttext
open Go.RowKit Go.Proofs.Yteniflajiklffaa.base Go.Proofs.Yteniflajiklffaa.help Go.Proofs.Yteniflajiklffaa.putnum
set_option linter.unusedVariables false
set_option linter.unusedSimpArgs false

end Go.Proofs.Yteniflajiklffaa.puttext

namespace Go.Proofs.Yteniflajiklffaa.puttexts
open Go.RowKit Go.Proofs.Yteniflajiklffaa.base Go.Proofs.Yteniflajiklffaa.help Go.Proofs.Yteniflajiklffaa.helps Go.Proofs.Yteniflajiklffaa.putnum Go.Proofs.Yteniflajiklffaa.puttext
set_option linter.unusedVariables false
set_option linter.unusedSimpArgs false

def sum (ss : List ByteArray) : Nat := (ss.map ByteArray.size).sum
def szR (L t : Nat) : Int := if t ≤ L then (L : Int) - (t : Int) else -1
theorem szR_neg {L t : Nat} (h : L < t) : szR L t = -1 := by unfold szR; rw [if_neg (by omega)]
theorem szR_pos {L t : Nat} (h : t ≤ L) : szR L t = (L : Int) - (t : Int) := by unfold szR; rw [if_pos h]




end Go.Proofs.Yteniflajiklffaa.puttexts

namespace Go.Proofs.Yteniflajiklffaa.nummath
open Go.RowKit Go.Proofs.Yteniflajiklffaa.base Go.Proofs.Yteniflajiklffaa.help Go.Proofs.Yteniflajiklffaa.getnum Go.Proofs.Yteniflajiklffaa.putnum Go.Proofs.Yteniflajiklffaa.gettext Go.Proofs.Yteniflajiklffaa.puttext Go.Proofs.Yteniflajiklffaa.gettexts Go.Proofs.Yteniflajiklffaa.puttexts
set_option linter.unusedVariables false
set_option linter.unusedSimpArgs false

end Go.Proofs.Yteniflajiklffaa.nummath

namespace Go.Proofs.Yteniflajiklffaa.ords
open Go Go.RowKit Go.Proofs.Yteniflajiklffaa.base Go.Proofs.Yteniflajiklffaa.pairs Go.Proofs.Yteniflajiklffaa.putnum Go.Proofs.Yteniflajiklffaa.puttext Go.Proofs.Yteniflajiklffaa.getnum Go.Proofs.Yteniflajiklffaa.gettext Go.Proofs.Yteniflajiklffaa.gettexts Go.Proofs.Yteniflajiklffaa.nummath
set_option linter.unusedVariables false

abbrev Od := Int × ByteArray × ByteArray
def odOk (o : Od) : Bool := decide (1 ≤ o.1 ∧ o.1 ≤ 3) && (decide (o.1 ≠ 2) || decide (o.2.2.size = 0)) && keyOk o.2.1 && decide (o.2.2.size ≤ 20)
def opsFrom : Option ByteArray → List Od → Bool
  | _, [] => true
  | none, o :: l => odOk o && opsFrom (some o.2.1) l
  | some k, o :: l => odOk o && ltB k o.2.1 && opsFrom (some o.2.1) l
def opsOk (l : List Od) : Bool := opsFrom none l && decide (1 ≤ l.length ∧ l.length ≤ 8)
def meet1 (m : List Pr) (o : Od) : Bool := decide (o.1 ≠ 3) || match getKey o.2.1 m with | none => decide (o.2.2.size = 0) | some v => decide (o.2.2.size ≠ 0) && decide (v = o.2.2)
def meets (m : List Pr) (l : List Od) : Bool := l.all (meet1 m)
def apply1 (m : List Pr) (o : Od) : List Pr := if o.1 = 1 then putKey o.2.1 o.2.2 m else if o.1 = 2 then delKey o.2.1 m else m
def applyAll (m : List Pr) (l : List Od) : List Pr := l.foldl apply1 m
/-! ### orders that are right -/
def RiseO (l : List Od) : Prop := l.Pairwise fun p q => ltB p.2.1 q.2.1 = true
theorem opsFrom_iff (o : Option ByteArray) (l : List Od) : opsFrom o l = true ↔ (∀ p ∈ l, odOk p = true) ∧ RiseO l ∧ ∀ k, o = some k → ∀ p ∈ l, ltB k p.2.1 = true := by
  induction l generalizing o with
  | nil => simp [opsFrom, RiseO]
  | cons p l ih =>
    have hi := ih (some p.2.1)
    unfold RiseO at hi ⊢
    rw [List.pairwise_cons]
    cases o with
    | none =>
      simp only [opsFrom, Bool.and_eq_true, hi, List.mem_cons, forall_eq_or_imp]
      constructor
      · rintro ⟨h1, h2, h3, h4⟩
        exact ⟨⟨h1, h2⟩, ⟨h4 _ rfl, h3⟩, fun k e => by cases e⟩
      · rintro ⟨⟨h1, h2⟩, ⟨h3, h4⟩, _⟩
        exact ⟨h1, h2, h4, fun k e q hq => by cases e; exact h3 q hq⟩
    | some k0 =>
      simp only [opsFrom, Bool.and_eq_true, hi, List.mem_cons, forall_eq_or_imp]
      constructor
      · rintro ⟨⟨h1, h0⟩, h2, h3, h4⟩
        refine ⟨⟨h1, h2⟩, ⟨h4 _ rfl, h3⟩, fun k e => ?_⟩
        cases e
        exact ⟨h0, fun q hq => ltB_trans h0 (h4 _ rfl q hq)⟩
      · rintro ⟨⟨h1, h2⟩, ⟨h3, h4⟩, h5⟩
        exact ⟨⟨h1, (h5 k0 rfl).1⟩, h2, h4, fun k e q hq => by cases e; exact h3 q hq⟩
theorem opsOk_iff (l : List Od) : opsOk l = true ↔ ((∀ p ∈ l, odOk p = true) ∧ RiseO l) ∧ 1 ≤ l.length ∧ l.length ≤ 8 := by
  unfold opsOk
  rw [Bool.and_eq_true, opsFrom_iff, decide_eq_true_iff]
  constructor
  · rintro ⟨⟨h1, h2, _⟩, h3⟩; exact ⟨⟨h1, h2⟩, h3⟩
  · rintro ⟨⟨h1, h2⟩, h3⟩; exact ⟨⟨h1, h2, fun k e => by cases e⟩, h3⟩
/-! ### bytes of numbers and texts, read -/
/-! ### orders come back of their bytes -/
/-! ### behind orders -/
theorem apply_take (m : List Pr) (l : List Od) (k : Nat) (h : k < l.length) : applyAll m (l.take (k + 1)) = apply1 (applyAll m (l.take k)) l[k] := by
  unfold applyAll
  rw [List.take_succ_eq_append_getElem h, List.foldl_append]
  rfl
/-! ### shards -/
end Go.Proofs.Yteniflajiklffaa.ords

namespace Go.Proofs.Yteniflajiklffaa.pairs
open Go Go.RowKit Go.Proofs.Yteniflajiklffaa.base
set_option linter.unusedVariables false
set_option linter.unusedSimpArgs false

def small (p : Pr) : Prop := p.1.size ≤ maxLen ∧ p.2.size ≤ maxLen
def pairVals (l : List Pr) : List Value := l.flatMap fun p => [.string p.1, .string p.2]
theorem pairVals_cons (p : Pr) (l : List Pr) : pairVals (p :: l) = .string p.1 :: .string p.2 :: pairVals l := rfl
theorem pairVals_append (a b : List Pr) : pairVals (a ++ b) = pairVals a ++ pairVals b := by simp [pairVals]
theorem pairVals_length (l : List Pr) : (pairVals l).length = l.length * 2 := by
  induction l with
  | nil => rfl
  | cons p l ih => rw [pairVals_cons]; simp [ih]; omega
theorem pairVals_key (l : List Pr) (i : Nat) (h : i < l.length) : (pairVals l)[i * 2]? = some (.string l[i].1) := by
  induction l generalizing i with
  | nil => simp at h
  | cons p l ih =>
    cases i with
    | zero => rfl
    | succ i => rw [pairVals_cons, show (i + 1) * 2 = i * 2 + 1 + 1 by omega]; simpa using ih i (by simpa using h)
theorem pairVals_val (l : List Pr) (i : Nat) (h : i < l.length) : (pairVals l)[i * 2 + 1]? = some (.string l[i].2) := by
  induction l generalizing i with
  | nil => simp at h
  | cons p l ih =>
    cases i with
    | zero => rfl
    | succ i => rw [pairVals_cons, show (i + 1) * 2 + 1 = i * 2 + 1 + 1 + 1 by omega]; simpa using ih i (by simpa using h)
theorem pairVals_oneCell (l : List Pr) : ∀ v ∈ pairVals l, v.oneCell' = true := by
  intro v hv
  obtain ⟨p, _, hp⟩ := List.mem_flatMap.1 hv
  simp at hp
  rcases hp with rfl | rfl <;> rfl
theorem pairVals_setKey (l : List Pr) (i : Nat) (h : i < l.length) (k : ByteArray) : (pairVals l).set (i * 2) (.string k) = pairVals (l.set i (k, l[i].2)) := by
  induction l generalizing i with
  | nil => simp at h
  | cons p l ih =>
    cases i with
    | zero => rfl
    | succ i => rw [pairVals_cons, show (i + 1) * 2 = i * 2 + 1 + 1 by omega]; simp only [List.set_cons_succ, pairVals_cons, List.getElem_cons_succ]; rw [ih i (by simpa using h)]
theorem pairVals_setVal (l : List Pr) (i : Nat) (h : i < l.length) (v : ByteArray) : (pairVals l).set (i * 2 + 1) (.string v) = pairVals (l.set i (l[i].1, v)) := by
  induction l generalizing i with
  | nil => simp at h
  | cons p l ih =>
    cases i with
    | zero => rfl
    | succ i => rw [pairVals_cons, show (i + 1) * 2 + 1 = i * 2 + 1 + 1 + 1 by omega]; simp only [List.set_cons_succ, pairVals_cons, List.getElem_cons_succ]; rw [ih i (by simpa using h)]

/-! ### slices of pairs that are read -/
def CellsP (w : World) (b off : Nat) (l : List Pr) : Prop := ∀ i (h : i < l.length), w.cell? ⟨b, off + i * 2, none⟩ = some (.string l[i].1) ∧ w.cell? ⟨b, off + i * 2 + 1, none⟩ = some (.string l[i].2)
def SlP (w : World) (a : Option Addr) (len : Nat) (l : List Pr) : Prop :=
  l.length = len ∧ len ≤ maxLen ∧ (∀ p ∈ l, small p) ∧ (0 < len → ∃ b off, a = some ⟨b, off, none⟩ ∧ CellsP w b off l)
theorem slp_nil (w : World) (a : Option Addr) : SlP w a 0 [] := ⟨rfl, Nat.zero_le _, (fun _ h => absurd h List.not_mem_nil), fun h => absurd h (by omega)⟩
section
variable {w w' : World} {a : Option Addr} {b off len base base' g n cap : Nat} {l : List Pr} {row : Option Nat}
theorem SlP.cells (h : SlP w (some ⟨b, off, none⟩) len l) : CellsP w b off l := by
  intro i hi
  obtain ⟨b', off', e, hc⟩ := h.2.2.2 (by have := h.1; omega)
  simp only [Option.some.injEq, Addr.mk.injEq, and_true] at e
  obtain ⟨rfl, rfl⟩ := e
  exact hc i hi
theorem SlP.lt (h : SlP w (some ⟨b, off, none⟩) len l) (h0 : 0 < len) : b < w.heap.size :=
  World.block_lt_of_cell? w _ (h.cells 0 (by have := h.1; omega)).1
theorem CellsP.keep (h : CellsP w b off l) (hk : ∀ o v, w.cell? ⟨b, o, none⟩ = some v → w'.cell? ⟨b, o, none⟩ = some v) : CellsP w' b off l :=
  fun i hi => ⟨hk _ _ (h i hi).1, hk _ _ (h i hi).2⟩
theorem SlP.below (h : SlP w a len l) (hb : Below w.heap.size w w') : SlP w' a len l := by
  obtain ⟨h1, h2, h4, h3⟩ := h
  refine ⟨h1, h2, h4, fun h0 => ?_⟩
  obtain ⟨b, off, rfl, hc⟩ := h3 h0
  exact ⟨b, off, rfl, hc.keep fun o v hv => (hb.cell (p := ⟨b, o, none⟩) (World.block_lt_of_cell? w _ hv)).trans hv⟩
theorem SlP.grown (h : SlP w (some ⟨b, off, none⟩) len l) (hg : w.grownBy w' row) (hne : some b ≠ row) : SlP w' (some ⟨b, off, none⟩) len l :=
  ⟨h.1, h.2.1, h.2.2.1, fun _ => ⟨b, off, rfl, h.cells.keep fun o v hv => hg.cell hv hne⟩⟩

/-! ### rows of pairs that a call made -/
def OwnP (w : World) (base g n cap : Nat) (l : List Pr) : Prop := l.length = n ∧ (∀ p ∈ l, small p) ∧ w.ownsRow base 102 2 (.slice (some ⟨g, 0, none⟩) n cap) n (pairVals l)
theorem OwnP.lt (h : OwnP w base g n cap l) : base ≤ g ∧ g < w.heap.size := h.2.2.lt g rfl
theorem OwnP.cases (h : OwnP w base g n cap l) : n ≤ cap ∧ cap ≤ maxLen := by
  rcases h.2.2.2 with ⟨h', _⟩ | ⟨g', cap', cur, h', _, hg, h1, h2, _⟩
  · simp at h'
  · simp only [Value.slice.injEq, Option.some.injEq, Addr.mk.injEq, and_true, true_and] at h'
    obtain ⟨rfl, rfl⟩ := h'
    exact ⟨h1, h2⟩
theorem OwnP.mono (h : OwnP w base g n cap l) (hb : base' ≤ base) : OwnP w base' g n cap l := by
  refine ⟨h.1, h.2.1, h.2.2.1, ?_⟩
  rcases h.2.2.2 with h' | ⟨g', cap', cur, h', h0, r⟩
  · exact .inl h'
  · exact .inr ⟨g', cap', cur, h', by omega, r⟩
theorem OwnP.cell (h : OwnP w base g n cap l) : CellsP w g 0 l := by
  intro i hi
  have hl := h.1
  have k1 := h.2.2.cellAt (i * 2) (by omega)
  have k2 := h.2.2.cellAt (i * 2 + 1) (by omega)
  rw [pairVals_key l i hi] at k1
  rw [pairVals_val l i hi] at k2
  rw [Nat.zero_add]
  exact ⟨k1, k2⟩
theorem OwnP.key (h : OwnP w base g n cap l) (i : Nat) (hi : i < l.length) : w.cell? ⟨g, i * 2, none⟩ = some (.string l[i].1) := by
  have := (h.cell i hi).1; rwa [Nat.zero_add] at this
theorem OwnP.val (h : OwnP w base g n cap l) (i : Nat) (hi : i < l.length) : w.cell? ⟨g, i * 2 + 1, none⟩ = some (.string l[i].2) := by
  have := (h.cell i hi).2; rwa [Nat.zero_add] at this
theorem OwnP.frozen (h : OwnP w base g n cap l) (i : Nat) : w.frozen? ⟨g, i, none⟩ = false := h.2.2.frozenAt i
theorem OwnP.sl (h : OwnP w base g n cap l) : SlP w (some ⟨g, 0, none⟩) n l :=
  ⟨h.1, by have := h.cases; omega, h.2.1, fun _ => ⟨g, 0, rfl, h.cell⟩⟩
theorem OwnP.grown (h : OwnP w base g n cap l) (hg : w.grownBy w' row) (hne : some g ≠ row) : OwnP w' base g n cap l :=
  ⟨h.1, h.2.1, h.2.2.kept hg (.inr hne)⟩
theorem OwnP.below (h : OwnP w base g n cap l) (hb : Below w.heap.size w w') : OwnP w' base g n cap l :=
  ⟨h.1, h.2.1, h.2.2.kept (row := none) ⟨hb.os, hb.tape, hb.output, hb.size, fun k hk _ => hb.block k hk⟩ (.inr (by simp [Value.ownBlock]))⟩
theorem mem_set_small {i : Nat} {p : Pr} (h : ∀ q ∈ l, small q) (hp : small p) : ∀ q ∈ l.set i p, small q := by
  intro q hq
  rcases List.mem_or_eq_of_mem_set hq with h1 | h1
  · exact h q h1
  · subst h1; exact hp
theorem OwnP.setKey (h : OwnP w base g n cap l) (i : Nat) (hi : i < l.length) (k : ByteArray) (hk : k.size ≤ maxLen) :
    OwnP (w.setCell ⟨g, i * 2, none⟩ (.string k)) base g n cap (l.set i (k, l[i].2)) ∧ w.grownBy (w.setCell ⟨g, i * 2, none⟩ (.string k)) (some g) := by
  have hs := h.2.2.stored (i * 2) (.string k)
  rw [pairVals_setKey l i hi] at hs
  exact ⟨⟨by simpa using h.1, mem_set_small h.2.1 ⟨hk, (h.2.1 _ (List.getElem_mem hi)).2⟩, hs.1⟩, hs.2⟩
theorem OwnP.setVal (h : OwnP w base g n cap l) (i : Nat) (hi : i < l.length) (v : ByteArray) (hv : v.size ≤ maxLen) :
    OwnP (w.setCell ⟨g, i * 2 + 1, none⟩ (.string v)) base g n cap (l.set i (l[i].1, v)) ∧ w.grownBy (w.setCell ⟨g, i * 2 + 1, none⟩ (.string v)) (some g) := by
  have hs := h.2.2.stored (i * 2 + 1) (.string v)
  rw [pairVals_setVal l i hi] at hs
  exact ⟨⟨by simpa using h.1, mem_set_small h.2.1 ⟨(h.2.1 _ (List.getElem_mem hi)).1, hv⟩, hs.1⟩, hs.2⟩
theorem ownP_val {v' : Value} (hl : l.length = n) (hs : ∀ p ∈ l, small p) (h0 : ¬ v' = .slice none 0 0)
    (h : w'.ownsRow base 102 2 v' n (pairVals l)) : ∃ g' cap', v' = .slice (some ⟨g', 0, none⟩) n cap' ∧ OwnP w' base g' n cap' l := by
  rcases h.2 with ⟨h2, _⟩ | ⟨g', cap', cur, hv, _⟩
  · exact absurd h2 h0
  · subst hv
    exact ⟨g', cap', rfl, hl, hs, h⟩
theorem ownP_made (w : World) (base : Nat) (hb : base ≤ w.heap.size) : OwnP (w.alloc (.cells #[] 102)) base w.heap.size 0 0 [] :=
  ⟨rfl, fun s h => absurd h List.not_mem_nil, World.ownsRow_made w #[] 0 hb (Nat.zero_le _) rfl⟩
theorem cells_pairs (h : CellsP w b off l) : ∀ j v, (pairVals l)[j]? = some v → w.cell? ((⟨b, off, none⟩ : Addr).add j) = some v := by
  intro j v hj
  have hjl : j < l.length * 2 := by have := (List.getElem?_eq_some_iff.1 hj).1; rwa [pairVals_length] at this
  rw [Addr.add_lit]
  have hm : j = (j / 2) * 2 ∨ j = (j / 2) * 2 + 1 := by omega
  rcases hm with e | e
  · rw [e, pairVals_key l (j / 2) (by omega)] at hj
    rw [e, ← hj]; exact (h (j / 2) (by omega)).1
  · rw [e, pairVals_val l (j / 2) (by omega)] at hj
    rw [e, ← hj]; exact (h (j / 2) (by omega)).2
end
theorem infoP : (Try.prog.info? 102).map (fun i => (i.zero, i.size, i.bytes)) = some (some (.agg #[.string ⟨#[]⟩, .string ⟨#[]⟩]), 2, 32) := by kernel_rfl

end Go.Proofs.Yteniflajiklffaa.pairs

namespace Go.Proofs.Yteniflajiklffaa.ords
open Go Go.RowKit Go.Proofs.Yteniflajiklffaa.base Go.Proofs.Yteniflajiklffaa.pairs
set_option linter.unusedVariables false
set_option linter.unusedSimpArgs false

def smallO (o : Od) : Prop := (Lit.int .i64 o.1).wf = true ∧ o.2.1.size ≤ maxLen ∧ o.2.2.size ≤ maxLen
def ordVals (l : List Od) : List Value := l.flatMap fun o => [.int .i64 o.1, .string o.2.1, .string o.2.2]
theorem ordVals_cons (o : Od) (l : List Od) : ordVals (o :: l) = .int .i64 o.1 :: .string o.2.1 :: .string o.2.2 :: ordVals l := rfl
theorem ordVals_length (l : List Od) : (ordVals l).length = l.length * 3 := by
  induction l with
  | nil => rfl
  | cons o l ih => rw [ordVals_cons]; simp [ih]; omega
theorem ordVals_at (l : List Od) (i : Nat) (h : i < l.length) : (ordVals l)[i * 3]? = some (.int .i64 l[i].1) ∧ (ordVals l)[i * 3 + 1]? = some (.string l[i].2.1) ∧ (ordVals l)[i * 3 + 2]? = some (.string l[i].2.2) := by
  induction l generalizing i with
  | nil => simp at h
  | cons p l ih =>
    cases i with
    | zero => exact ⟨rfl, rfl, rfl⟩
    | succ i =>
      rw [ordVals_cons, show (i + 1) * 3 = i * 3 + 1 + 1 + 1 by omega, show i * 3 + 1 + 1 + 1 + 1 = (i * 3 + 1) + 1 + 1 + 1 by omega, show i * 3 + 1 + 1 + 1 + 2 = (i * 3 + 2) + 1 + 1 + 1 by omega]
      simpa using ih i (by simpa using h)
theorem ordVals_oneCell (l : List Od) : ∀ v ∈ ordVals l, v.oneCell' = true := by
  intro v hv
  obtain ⟨p, _, hp⟩ := List.mem_flatMap.1 hv
  simp at hp
  rcases hp with rfl | rfl | rfl <;> rfl
theorem ordVals_setKind (l : List Od) (i : Nat) (h : i < l.length) (z : Int) : (ordVals l).set (i * 3) (.int .i64 z) = ordVals (l.set i (z, l[i].2)) := by
  induction l generalizing i with
  | nil => simp at h
  | cons p l ih =>
    cases i with
    | zero => rfl
    | succ i => rw [ordVals_cons, show (i + 1) * 3 = i * 3 + 1 + 1 + 1 by omega]; simp only [List.set_cons_succ, ordVals_cons, List.getElem_cons_succ]; rw [ih i (by simpa using h)]
theorem ordVals_setKey (l : List Od) (i : Nat) (h : i < l.length) (k : ByteArray) : (ordVals l).set (i * 3 + 1) (.string k) = ordVals (l.set i (l[i].1, k, l[i].2.2)) := by
  induction l generalizing i with
  | nil => simp at h
  | cons p l ih =>
    cases i with
    | zero => rfl
    | succ i => rw [ordVals_cons, show (i + 1) * 3 + 1 = i * 3 + 1 + 1 + 1 + 1 by omega]; simp only [List.set_cons_succ, ordVals_cons, List.getElem_cons_succ]; rw [ih i (by simpa using h)]
theorem ordVals_setVal (l : List Od) (i : Nat) (h : i < l.length) (v : ByteArray) : (ordVals l).set (i * 3 + 2) (.string v) = ordVals (l.set i (l[i].1, l[i].2.1, v)) := by
  induction l generalizing i with
  | nil => simp at h
  | cons p l ih =>
    cases i with
    | zero => rfl
    | succ i => rw [ordVals_cons, show (i + 1) * 3 + 2 = i * 3 + 2 + 1 + 1 + 1 by omega]; simp only [List.set_cons_succ, ordVals_cons, List.getElem_cons_succ]; rw [ih i (by simpa using h)]

/-! ### slices of orders that are read -/
def CellsO (w : World) (b off : Nat) (l : List Od) : Prop := ∀ i (h : i < l.length), w.cell? ⟨b, off + i * 3, none⟩ = some (.int .i64 l[i].1) ∧ w.cell? ⟨b, off + i * 3 + 1, none⟩ = some (.string l[i].2.1) ∧ w.cell? ⟨b, off + i * 3 + 2, none⟩ = some (.string l[i].2.2)
def SlO (w : World) (a : Option Addr) (len : Nat) (l : List Od) : Prop :=
  l.length = len ∧ len ≤ maxLen ∧ (∀ p ∈ l, smallO p) ∧ (0 < len → ∃ b off, a = some ⟨b, off, none⟩ ∧ CellsO w b off l)
theorem slo_nil (w : World) (a : Option Addr) : SlO w a 0 [] := ⟨rfl, Nat.zero_le _, (fun _ h => absurd h List.not_mem_nil), fun h => absurd h (by omega)⟩
section
variable {w w' : World} {a : Option Addr} {b off len base base' g n cap : Nat} {l : List Od} {row : Option Nat}
theorem SlO.cells (h : SlO w (some ⟨b, off, none⟩) len l) : CellsO w b off l := by
  intro i hi
  obtain ⟨b', off', e, hc⟩ := h.2.2.2 (by have := h.1; omega)
  simp only [Option.some.injEq, Addr.mk.injEq, and_true] at e
  obtain ⟨rfl, rfl⟩ := e
  exact hc i hi
theorem SlO.lt (h : SlO w (some ⟨b, off, none⟩) len l) (h0 : 0 < len) : b < w.heap.size :=
  World.block_lt_of_cell? w _ (h.cells 0 (by have := h.1; omega)).1
theorem CellsO.keep (h : CellsO w b off l) (hk : ∀ o v, w.cell? ⟨b, o, none⟩ = some v → w'.cell? ⟨b, o, none⟩ = some v) : CellsO w' b off l :=
  fun i hi => ⟨hk _ _ (h i hi).1, hk _ _ (h i hi).2.1, hk _ _ (h i hi).2.2⟩
theorem SlO.below (h : SlO w a len l) (hb : Below w.heap.size w w') : SlO w' a len l := by
  obtain ⟨h1, h2, h4, h3⟩ := h
  refine ⟨h1, h2, h4, fun h0 => ?_⟩
  obtain ⟨b, off, rfl, hc⟩ := h3 h0
  exact ⟨b, off, rfl, hc.keep fun o v hv => (hb.cell (p := ⟨b, o, none⟩) (World.block_lt_of_cell? w _ hv)).trans hv⟩
theorem SlO.grown (h : SlO w (some ⟨b, off, none⟩) len l) (hg : w.grownBy w' row) (hne : some b ≠ row) : SlO w' (some ⟨b, off, none⟩) len l :=
  ⟨h.1, h.2.1, h.2.2.1, fun _ => ⟨b, off, rfl, h.cells.keep fun o v hv => hg.cell hv hne⟩⟩

/-! ### rows of orders that a call made -/
def OwnO (w : World) (base g n cap : Nat) (l : List Od) : Prop := l.length = n ∧ (∀ p ∈ l, smallO p) ∧ w.ownsRow base 111 3 (.slice (some ⟨g, 0, none⟩) n cap) n (ordVals l)
theorem OwnO.lt (h : OwnO w base g n cap l) : base ≤ g ∧ g < w.heap.size := h.2.2.lt g rfl
theorem OwnO.cases (h : OwnO w base g n cap l) : n ≤ cap ∧ cap ≤ maxLen := by
  rcases h.2.2.2 with ⟨h', _⟩ | ⟨g', cap', cur, h', _, hg, h1, h2, _⟩
  · simp at h'
  · simp only [Value.slice.injEq, Option.some.injEq, Addr.mk.injEq, and_true, true_and] at h'
    obtain ⟨rfl, rfl⟩ := h'
    exact ⟨h1, h2⟩
theorem OwnO.mono (h : OwnO w base g n cap l) (hb : base' ≤ base) : OwnO w base' g n cap l := by
  refine ⟨h.1, h.2.1, h.2.2.1, ?_⟩
  rcases h.2.2.2 with h' | ⟨g', cap', cur, h', h0, r⟩
  · exact .inl h'
  · exact .inr ⟨g', cap', cur, h', by omega, r⟩
theorem OwnO.cell (h : OwnO w base g n cap l) : CellsO w g 0 l := by
  intro i hi
  have hl := h.1
  have k0 := h.2.2.cellAt (i * 3) (by omega)
  have k1 := h.2.2.cellAt (i * 3 + 1) (by omega)
  have k2 := h.2.2.cellAt (i * 3 + 2) (by omega)
  obtain ⟨e0, e1, e2⟩ := ordVals_at l i hi
  rw [e0] at k0
  rw [e1] at k1
  rw [e2] at k2
  rw [Nat.zero_add]
  exact ⟨k0, k1, k2⟩
theorem OwnO.kind (h : OwnO w base g n cap l) (i : Nat) (hi : i < l.length) : w.cell? ⟨g, i * 3, none⟩ = some (.int .i64 l[i].1) := by
  have := (h.cell i hi).1; rwa [Nat.zero_add] at this
theorem OwnO.key (h : OwnO w base g n cap l) (i : Nat) (hi : i < l.length) : w.cell? ⟨g, i * 3 + 1, none⟩ = some (.string l[i].2.1) := by
  have := (h.cell i hi).2.1; rwa [Nat.zero_add] at this
theorem OwnO.val (h : OwnO w base g n cap l) (i : Nat) (hi : i < l.length) : w.cell? ⟨g, i * 3 + 2, none⟩ = some (.string l[i].2.2) := by
  have := (h.cell i hi).2.2; rwa [Nat.zero_add] at this
theorem OwnO.frozen (h : OwnO w base g n cap l) (i : Nat) : w.frozen? ⟨g, i, none⟩ = false := h.2.2.frozenAt i
theorem OwnO.sl (h : OwnO w base g n cap l) : SlO w (some ⟨g, 0, none⟩) n l :=
  ⟨h.1, by have := h.cases; omega, h.2.1, fun _ => ⟨g, 0, rfl, h.cell⟩⟩
theorem OwnO.grown (h : OwnO w base g n cap l) (hg : w.grownBy w' row) (hne : some g ≠ row) : OwnO w' base g n cap l :=
  ⟨h.1, h.2.1, h.2.2.kept hg (.inr hne)⟩
theorem OwnO.below (h : OwnO w base g n cap l) (hb : Below w.heap.size w w') : OwnO w' base g n cap l :=
  ⟨h.1, h.2.1, h.2.2.kept (row := none) ⟨hb.os, hb.tape, hb.output, hb.size, fun k hk _ => hb.block k hk⟩ (.inr (by simp [Value.ownBlock]))⟩
theorem mem_set_smallO {i : Nat} {p : Od} (h : ∀ q ∈ l, smallO q) (hp : smallO p) : ∀ q ∈ l.set i p, smallO q := by
  intro q hq
  rcases List.mem_or_eq_of_mem_set hq with h1 | h1
  · exact h q h1
  · subst h1; exact hp
theorem OwnO.setKind (h : OwnO w base g n cap l) (i : Nat) (hi : i < l.length) (z : Int) (hz : (Lit.int .i64 z).wf = true) :
    OwnO (w.setCell ⟨g, i * 3, none⟩ (.int .i64 z)) base g n cap (l.set i (z, l[i].2)) ∧ w.grownBy (w.setCell ⟨g, i * 3, none⟩ (.int .i64 z)) (some g) := by
  have hs := h.2.2.stored (i * 3) (.int .i64 z)
  rw [ordVals_setKind l i hi] at hs
  exact ⟨⟨by simpa using h.1, mem_set_smallO h.2.1 ⟨hz, (h.2.1 _ (List.getElem_mem hi)).2⟩, hs.1⟩, hs.2⟩
theorem OwnO.setKey (h : OwnO w base g n cap l) (i : Nat) (hi : i < l.length) (k : ByteArray) (hk : k.size ≤ maxLen) :
    OwnO (w.setCell ⟨g, i * 3 + 1, none⟩ (.string k)) base g n cap (l.set i (l[i].1, k, l[i].2.2)) ∧ w.grownBy (w.setCell ⟨g, i * 3 + 1, none⟩ (.string k)) (some g) := by
  have hs := h.2.2.stored (i * 3 + 1) (.string k)
  rw [ordVals_setKey l i hi] at hs
  exact ⟨⟨by simpa using h.1, mem_set_smallO h.2.1 ⟨(h.2.1 _ (List.getElem_mem hi)).1, hk, (h.2.1 _ (List.getElem_mem hi)).2.2⟩, hs.1⟩, hs.2⟩
theorem OwnO.setVal (h : OwnO w base g n cap l) (i : Nat) (hi : i < l.length) (v : ByteArray) (hv : v.size ≤ maxLen) :
    OwnO (w.setCell ⟨g, i * 3 + 2, none⟩ (.string v)) base g n cap (l.set i (l[i].1, l[i].2.1, v)) ∧ w.grownBy (w.setCell ⟨g, i * 3 + 2, none⟩ (.string v)) (some g) := by
  have hs := h.2.2.stored (i * 3 + 2) (.string v)
  rw [ordVals_setVal l i hi] at hs
  exact ⟨⟨by simpa using h.1, mem_set_smallO h.2.1 ⟨(h.2.1 _ (List.getElem_mem hi)).1, (h.2.1 _ (List.getElem_mem hi)).2.1, hv⟩, hs.1⟩, hs.2⟩
theorem OwnO.setAll (h : OwnO w base g n cap l) (i : Nat) (hi : i < l.length) (z : Int) (k v : ByteArray) (hz : (Lit.int .i64 z).wf = true) (hk : k.size ≤ maxLen) (hv : v.size ≤ maxLen) :
    OwnO (((w.setCell ⟨g, i * 3, none⟩ (.int .i64 z)).setCell ⟨g, i * 3 + 1, none⟩ (.string k)).setCell ⟨g, i * 3 + 2, none⟩ (.string v)) base g n cap (l.set i (z, k, v)) ∧ w.grownBy (((w.setCell ⟨g, i * 3, none⟩ (.int .i64 z)).setCell ⟨g, i * 3 + 1, none⟩ (.string k)).setCell ⟨g, i * 3 + 2, none⟩ (.string v)) (some g) := by
  have h0 := h.setKind i hi z hz
  have h1 := h0.1.setKey i (by simpa using hi) k hk
  have h2 := h1.1.setVal i (by simpa using hi) v hv
  simp only [List.getElem_set_self, List.set_set] at h2
  simp only [List.getElem_set_self, List.set_set] at h1
  exact ⟨h2.1, grownBy_trans (grownBy_trans h0.2 h1.2) h2.2⟩
theorem ownO_val {v' : Value} (hl : l.length = n) (hs : ∀ p ∈ l, smallO p) (h0 : ¬ v' = .slice none 0 0)
    (h : w'.ownsRow base 111 3 v' n (ordVals l)) : ∃ g' cap', v' = .slice (some ⟨g', 0, none⟩) n cap' ∧ OwnO w' base g' n cap' l := by
  rcases h.2 with ⟨h2, _⟩ | ⟨g', cap', cur, hv, _⟩
  · exact absurd h2 h0
  · subst hv
    exact ⟨g', cap', rfl, hl, hs, h⟩
theorem ownO_made (w : World) (base : Nat) (hb : base ≤ w.heap.size) : OwnO (w.alloc (.cells #[] 111)) base w.heap.size 0 0 [] :=
  ⟨rfl, fun s h => absurd h List.not_mem_nil, World.ownsRow_made w #[] 0 hb (Nat.zero_le _) rfl⟩
theorem cells_ords (h : CellsO w b off l) : ∀ j v, (ordVals l)[j]? = some v → w.cell? ((⟨b, off, none⟩ : Addr).add j) = some v := by
  intro j v hj
  have hjl : j < l.length * 3 := by have := (List.getElem?_eq_some_iff.1 hj).1; rwa [ordVals_length] at this
  rw [Addr.add_lit]
  obtain ⟨e0, e1, e2⟩ := ordVals_at l (j / 3) (by omega)
  have hc := h (j / 3) (by omega)
  have hm : j = (j / 3) * 3 ∨ j = (j / 3) * 3 + 1 ∨ j = (j / 3) * 3 + 2 := by omega
  rcases hm with e | e | e
  · rw [e, e0] at hj
    rw [e, ← hj]; exact hc.1
  · rw [e, e1] at hj
    rw [e, ← hj]; exact hc.2.1
  · rw [e, e2] at hj
    rw [e, ← hj]; exact hc.2.2
end
theorem infoO : (Try.prog.info? 111).map (fun i => (i.zero, i.size, i.bytes)) = some (some (.agg #[.int .i64 0, .string ⟨#[]⟩, .string ⟨#[]⟩]), 3, 40) := by kernel_rfl

end Go.Proofs.Yteniflajiklffaa.ords

namespace Go.Proofs.Yteniflajiklffaa.padmath
open Go.RowKit Go.Proofs.Yteniflajiklffaa.base

end Go.Proofs.Yteniflajiklffaa.padmath

namespace Go.Proofs.Yteniflajiklffaa.sha
open Go.RowKit Go.Proofs.Yteniflajiklffaa.base Go.Proofs.Yteniflajiklffaa.padmath
set_option linter.unusedVariables false

def rotr (n x : Nat) : Nat := (x / 2 ^ n) ||| (x * 2 ^ (32 - n) % 4294967296)
def ssig0 (x : Nat) : Nat := rotr 7 x ^^^ rotr 18 x ^^^ x / 8
def ssig1 (x : Nat) : Nat := rotr 17 x ^^^ rotr 19 x ^^^ x / 1024
def bsig0 (x : Nat) : Nat := rotr 2 x ^^^ rotr 13 x ^^^ rotr 22 x
def bsig1 (x : Nat) : Nat := rotr 6 x ^^^ rotr 11 x ^^^ rotr 25 x
def ch (e f g : Nat) : Nat := (e &&& f) ^^^ ((4294967295 ^^^ e) &&& g)
def maj (a b c : Nat) : Nat := (a &&& b) ^^^ (a &&& c) ^^^ (b &&& c)
def be32 (bs : List UInt8) (i : Nat) : Nat := (bs.getD (4 * i) 0).toNat * 16777216 + (bs.getD (4 * i + 1) 0).toNat * 65536 + (bs.getD (4 * i + 2) 0).toNat * 256 + (bs.getD (4 * i + 3) 0).toNat
def nextWord (bs : List UInt8) (w : List Nat) (k : Nat) : Nat :=
  if k < 16 then be32 bs k else (w.getD (k - 16) 0 + ssig0 (w.getD (k - 15) 0) + w.getD (k - 7) 0 + ssig1 (w.getD (k - 2) 0)) % 4294967296
def ws (bs : List UInt8) : Nat → List Nat
  | 0 => []
  | k + 1 => ws bs k ++ [nextWord bs (ws bs k) k]
def rnd (s : List Nat) (kw : Nat) : List Nat :=
  let t1 := s.getD 7 0 + bsig1 (s.getD 4 0) + ch (s.getD 4 0) (s.getD 5 0) (s.getD 6 0) + kw
  let t2 := bsig0 (s.getD 0 0) + maj (s.getD 0 0) (s.getD 1 0) (s.getD 2 0)
  [(t1 + t2) % 4294967296, s.getD 0 0, s.getD 1 0, s.getD 2 0, (s.getD 3 0 + t1) % 4294967296, s.getD 4 0, s.getD 5 0, s.getD 6 0]
def rounds (ks w s : List Nat) : Nat → List Nat
  | 0 => s
  | i + 1 => rnd (rounds ks w s i) (ks.getD i 0 + w.getD i 0)
def addAll (a b : List Nat) : List Nat := (List.range 8).map fun i => (a.getD i 0 + b.getD i 0) % 4294967296
def block (ks h : List Nat) (bs : List UInt8) : List Nat := addAll (rounds ks (ws bs 64) h 64) h
end Go.Proofs.Yteniflajiklffaa.sha

namespace Go.Proofs.Yteniflajiklffaa.recs
open Go Go.RowKit Go.Proofs.Yteniflajiklffaa.base Go.Proofs.Yteniflajiklffaa.pairs Go.Proofs.Yteniflajiklffaa.ords Go.Proofs.Yteniflajiklffaa.putnum Go.Proofs.Yteniflajiklffaa.puttext Go.Proofs.Yteniflajiklffaa.getnum Go.Proofs.Yteniflajiklffaa.gettext Go.Proofs.Yteniflajiklffaa.gettexts Go.Proofs.Yteniflajiklffaa.nummath
set_option linter.unusedVariables false

abbrev Rc := Int × Int × List Od
def recOk (r : Rc) : Bool := decide (1 ≤ r.2.1 ∧ r.2.1 ≤ 1000000) && (if r.1 = 1 then opsOk r.2.2 else decide (r.1 = 2 ∨ r.1 = 3) && r.2.2.isEmpty)
/-! ### bytes and back -/
theorem recOk_iff (r : Rc) : recOk r = true ↔ (1 ≤ r.2.1 ∧ r.2.1 ≤ 1000000) ∧ ((r.1 = 1 ∧ opsOk r.2.2 = true) ∨ ((r.1 = 2 ∨ r.1 = 3) ∧ r.2.2 = [])) := by
  unfold recOk
  rw [Bool.and_eq_true, decide_eq_true_iff]
  by_cases h : r.1 = 1
  · rw [if_pos h]
    constructor
    · rintro ⟨h1, h2⟩; exact ⟨h1, .inl ⟨h, h2⟩⟩
    · rintro ⟨h1, ⟨_, h2⟩ | ⟨h2, _⟩⟩
      · exact ⟨h1, h2⟩
      · omega
  · rw [if_neg h, Bool.and_eq_true, decide_eq_true_iff, List.isEmpty_iff]
    constructor
    · rintro ⟨h1, h2, h3⟩; exact ⟨h1, .inr ⟨h2, h3⟩⟩
    · rintro ⟨h1, ⟨h2, _⟩ | h2⟩
      · omega
      · exact ⟨h1, h2.1, h2.2⟩
/-! ### records one behind the other -/
/-! ### what records make -/
abbrev St := List Pr × List Rc × List Int
def locked (held : List Rc) (ops : List Od) : Bool := held.any fun h => h.2.2.any fun o => ops.any fun p => decide (o.2.1 = p.2.1)
def placeTx (tx : Int) : List Rc → Option Nat
  | [] => none
  | r :: l => if r.2.1 = tx then some 0 else (placeTx tx l).map (· + 1)
def opsAt (held : List Rc) (k : Nat) : List Od := match held[k]? with | none => [] | some r => r.2.2
def nextM (s : St) (r : Rc) (k : Nat) : List Pr := if r.1 = 2 then applyAll s.1 (opsAt s.2.1 k) else s.1
def one (s : St) (r : Rc) : Option St :=
  if recOk r = true then
    if r.1 = 1 then
      if decide (r.2.1 ∈ s.2.2) = true ∨ locked s.2.1 r.2.2 = true ∨ meets s.1 r.2.2 = false then none else some (s.1, s.2.1 ++ [r], s.2.2 ++ [r.2.1])
    else match placeTx r.2.1 s.2.1 with
      | none => if r.1 = 3 ∧ r.2.1 ∉ s.2.2 then some (s.1, s.2.1, s.2.2 ++ [r.2.1]) else none
      | some k => if (nextM s r k).length ≤ 60 then some (nextM s r k, s.2.1.take k ++ s.2.1.drop (k + 1), s.2.2) else none
  else none
def replayGo : St → List Rc → Option St
  | s, [] => some s
  | s, r :: l => match one s r with
    | none => none
    | some t => replayGo t l
def replay (l : List Rc) : Option St := replayGo ([], [], []) l
theorem placeTx_some {tx : Int} {l : List Rc} {k : Nat} (h : placeTx tx l = some k) : ∃ hk : k < l.length, l[k].2.1 = tx := by
  induction l generalizing k with
  | nil => cases h
  | cons r l ih =>
    rw [placeTx] at h
    split at h
    · next h1 => cases h; exact ⟨by simp, h1⟩
    · cases hp : placeTx tx l with
      | none => rw [hp] at h; cases h
      | some j =>
        rw [hp] at h
        simp only [Option.map_some, Option.some.injEq] at h
        subst h
        obtain ⟨hj, e⟩ := ih hp
        exact ⟨by simp; omega, by simpa using e⟩
theorem placeTx_none {tx : Int} {l : List Rc} (h : placeTx tx l = none) : ∀ r ∈ l, r.2.1 ≠ tx := by
  induction l with
  | nil => intro r hr; exact absurd hr List.not_mem_nil
  | cons x l ih =>
    rw [placeTx] at h
    split at h
    · cases h
    · next hne =>
      intro r hr
      rcases List.mem_cons.1 hr with e | e
      · subst e; exact hne
      · exact ih (by cases hp : placeTx tx l with | none => rfl | some j => rw [hp] at h; cases h) r e
end Go.Proofs.Yteniflajiklffaa.recs
