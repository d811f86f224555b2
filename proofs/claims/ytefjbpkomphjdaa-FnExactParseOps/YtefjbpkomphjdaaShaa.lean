/- Plain mathematics of pairs of texts. Plain mathematics of the laws on pairs. Plain mathematics and small facts on worlds, used by the proofs of this seat: no program is named here. Rows that a call makes, appends and conversions: small facts on worlds; no function of the program is named here. The laws' own helpers on slices of bytes: what each call does. Reading a number: the program's and the specification's GetNum answer as one and the same function. The specification's GetNum answers as the same function. Reading a text: the program's and the specification's GetText answer as one and the same function. The laws' own helpers on slices of strings: what each call does. Reading a list of texts: the program's and the specification's GetTexts answer as one and the same function. Writing a number: the program's and the specification's PutNum answer as one and the same function. Writing texts: the program's and the specification's PutText answer as one and the same function. Writing a list of texts: the program's and the specification's PutTexts answer as one and the same function. Plain mathematics: numbers and texts come back of their bytes. Plain mathematics of orders: what is told of them, their bytes, and that these come back. Plain mathematics of statements: orders and pairs as texts, the words of a text, and that they come back. Rows of pairs of texts: small facts on worlds; no function of the program is named here. -/
import Derived.Test.YtefjbpkomphjdaaRows
import Derived.Sort.Walk0
import Derived.WideShapes
import Derived.WalkKit
import Derived.WalkSpells
import Derived.WalkLawsBesides
import Derived.Lib.ConvBytes
import Derived.Deep.QuietTactic
import Derived.BigQuiet
import Derived.Deep.RegionWith
import Derived.Laws.CopyOwn
import Derived.Laws.BytesArg
import Derived.Lib.AppendStr
import Derived.ArgAppend
import Derived.Deep.RegionLaw
import Derived.Lib.Join
import Derived.OwnWalk
namespace Go.Proofs.Ytefjbpkomphjdaa.pairs
open Go
set_option linter.unusedVariables false

abbrev Pr := ByteArray × ByteArray
theorem bytes_ext {a b : ByteArray} (h : a.data.toList = b.data.toList) : a = b := WideShapes.bytes_inj h

/-! ### the order of texts -/
def ltB (a b : ByteArray) : Bool := Op.bytesLess a.toList b.toList
theorem ltB_iff (a b : ByteArray) : ltB a b = true ↔ a.data.toList < b.data.toList := by
  unfold ltB; rw [Proofs.bytesLess_eq, ByteArray.toList_eq, ByteArray.toList_eq]; simp
theorem ltB_trans {a b c : ByteArray} (h : ltB a b = true) (k : ltB b c = true) : ltB a c = true :=
  (ltB_iff a c).2 (List.lt_trans ((ltB_iff a b).1 h) ((ltB_iff b c).1 k))
/-! ### the functions -/
def keyCh (c : Nat) : Bool := decide (97 ≤ c ∧ c ≤ 122) || decide (48 ≤ c ∧ c ≤ 57)
def keyAll (l : List UInt8) : Bool := l.all fun c => keyCh c.toNat
def keyOk (s : ByteArray) : Bool := keyAll s.data.toList && decide (1 ≤ s.size ∧ s.size ≤ 12)
def pairOk (p : Pr) : Bool := keyOk p.1 && decide (p.2.size ≤ 20)
def below (key : ByteArray) : List Pr → Nat
  | [] => 0
  | p :: l => if ltB key p.1 = true then 0 else below key l + 1
/-! ### first facts -/
end Go.Proofs.Ytefjbpkomphjdaa.pairs

namespace Go.Proofs.Ytefjbpkomphjdaa.pairs
open Go
set_option linter.unusedVariables false
set_option linter.unusedSimpArgs false

/-! ### rising lists -/
/-! ### what is got -/
/-! ### pairs that stay right -/
/-! ### between -/
/-! ### union -/
end Go.Proofs.Ytefjbpkomphjdaa.pairs

namespace Go.Proofs.Ytefjbpkomphjdaa.base
open Go.RowKit

/-! ### the hash -/
theorem ret_bool {a b : Bool} (h : a = b) : Ending.returned (.bool a) = .returned (.bool b) := by rw [h]
theorem ret_int {k : IntKind} {a b : Int} (h : a = b) : Ending.returned (.int k a) = .returned (.int k b) := by rw [h]


/-! ### worlds -/
theorem below_bytesWorld (w : World) (e : TypeId) (s : ByteArray) : Below w.heap.size w (Lib.bytesWorld w e s) :=
  ⟨rfl, rfl, rfl, by rw [Lib.bytesWorld_size]; omega, fun k hk => Lib.bytesWorld_at_old w e s k hk⟩

/-! ### slices of bytes that are read -/
/-! ### slices of bytes that the call itself made -/
/-! ### slices of strings -/
def SlS (w : World) (a : Option Addr) (len : Nat) (ss : List ByteArray) : Prop :=
  ss.length = len ∧ len ≤ maxLen ∧ (∀ s ∈ ss, s.size ≤ maxLen) ∧ (0 < len → ∃ b off, a = some ⟨b, off, none⟩ ∧ ∀ i (h : i < ss.length), w.cell? ⟨b, off + i, none⟩ = some (.string ss[i]))
theorem SlS.below {w w' : World} {a : Option Addr} {len : Nat} {ss : List ByteArray} (h : SlS w a len ss) (hb : Below w.heap.size w w') : SlS w' a len ss := by
  obtain ⟨h1, h2, h4, h3⟩ := h
  refine ⟨h1, h2, h4, fun h0 => ?_⟩
  obtain ⟨b, off, rfl, hc⟩ := h3 h0
  exact ⟨b, off, rfl, fun i hi => (hb.cell (p := ⟨b, off + i, none⟩) (World.block_lt_of_cell? w _ (hc i hi))).trans (hc i hi)⟩
def strVals (ss : List ByteArray) : List Value := ss.map fun s => .string s
def OwnS (w : World) (base g n cap : Nat) (ss : List ByteArray) : Prop := ss.length = n ∧ (∀ s ∈ ss, s.size ≤ maxLen) ∧ w.ownsRow base 9 1 (.slice (some ⟨g, 0, none⟩) n cap) n (strVals ss)
section
variable {w w' : World} {base base' g n cap : Nat} {ss : List ByteArray} {row : Option Nat}
theorem OwnS.lt (h : OwnS w base g n cap ss) : base ≤ g ∧ g < w.heap.size := h.2.2.lt g rfl
theorem OwnS.cases (h : OwnS w base g n cap ss) : n ≤ cap ∧ cap ≤ maxLen ∧ ∃ cur, w.heap[g]? = some (.cells cur 9 (0, 0)) := by
  rcases h.2.2.2 with ⟨h', _⟩ | ⟨g', cap', cur, h', _, hg, h1, h2, _⟩
  · simp at h'
  · simp only [Value.slice.injEq, Option.some.injEq, Addr.mk.injEq, and_true, true_and] at h'
    obtain ⟨rfl, rfl⟩ := h'
    exact ⟨h1, h2, cur, hg⟩
theorem OwnS.mono (h : OwnS w base g n cap ss) (hb : base' ≤ base) : OwnS w base' g n cap ss := by
  refine ⟨h.1, h.2.1, h.2.2.1, ?_⟩
  rcases h.2.2.2 with h' | ⟨g', cap', cur, h', h0, r⟩
  · exact .inl h'
  · exact .inr ⟨g', cap', cur, h', by omega, r⟩
theorem OwnS.at (h : OwnS w base g n cap ss) (i : Nat) (hi : i < ss.length) : w.cell? ⟨g, i, none⟩ = some (.string ss[i]) := by
  rw [h.2.2.cellAt i (by have := h.1; omega)]; simp [strVals, hi]
theorem OwnS.frozen (h : OwnS w base g n cap ss) (i : Nat) : w.frozen? ⟨g, i, none⟩ = false := h.2.2.frozenAt i
theorem OwnS.sl (h : OwnS w base g n cap ss) : SlS w (some ⟨g, 0, none⟩) n ss :=
  ⟨h.1, by have := h.cases; omega, h.2.1, fun _ => ⟨g, 0, rfl, fun i hi => by rw [Nat.zero_add]; exact h.at i hi⟩⟩
theorem OwnS.grown (h : OwnS w base g n cap ss) (hg : w.grownBy w' row) (hne : some g ≠ row) : OwnS w' base g n cap ss :=
  ⟨h.1, h.2.1, h.2.2.kept hg (.inr hne)⟩
theorem OwnS.below (h : OwnS w base g n cap ss) (hb : Below w.heap.size w w') : OwnS w' base g n cap ss :=
  ⟨h.1, h.2.1, h.2.2.kept (row := none) ⟨hb.os, hb.tape, hb.output, hb.size, fun k hk _ => hb.block k hk⟩ (.inr (by simp [Value.ownBlock]))⟩
end

end Go.Proofs.Ytefjbpkomphjdaa.base

namespace Go.Proofs.Ytefjbpkomphjdaa.base
open Go.RowKit
set_option linter.unusedVariables false
set_option linter.unusedSimpArgs false

theorem grownBy_trans {a b c : World} {row : Option Nat} (h : a.grownBy b row) (k : b.grownBy c row) : a.grownBy c row :=
  ⟨k.os.trans h.os, k.tape.trans h.tape, k.output.trans h.output, Nat.le_trans h.size k.size, fun i hi hr => (k.block i (Nat.lt_of_lt_of_le hi h.size) hr).trans (h.block i hi hr)⟩
theorem Hid.mk' {p : Prop} (h : p) : Hid p := h
theorem byte_of (n : Nat) : ((UInt8.ofNat n).toNat : Int) = (n : Int) % 256 := by simp [UInt8.toNat_ofNat']
theorem le_alloc {base : Nat} (w : World) (o : Obj) (h : base ≤ w.heap.size) : base ≤ (w.alloc o).heap.size := by simp; omega
theorem info9 : (Try.prog.info? 9).map (fun i => (i.zero, i.size, i.bytes)) = some (some (.string ⟨#[]⟩), 1, 16) := by kernel_rfl
theorem ret_str {a b : ByteArray} (h : a = b) : Ending.returned (.string a) = .returned (.string b) := by rw [h]
theorem conv_one (w : World) (x : Int) (u : UInt8) (hx : x = (u.toNat : Int)) (c : Nat) :
    (convert 22 9 (.slice (some ⟨w.heap.size, 0, none⟩) 1 c)).run Try.prog (w.alloc (.cells #[.int .u8 x] 5)) = .ok (.string ⟨#[u]⟩) (w.alloc (.cells #[.int .u8 x] 5)) := by
  rw [run_convert_bytes_arg (P := Try.prog) _ 22 5 Try.underlying22 Try.underlying5 w.heap.size 0 1 c [x] rfl ?_ 9 Try.underlying9]
  · subst hx; simp [strOfNums]
  · intro i hi
    have : i = 0 := by omega
    subst this
    simp
theorem grown_below {w w1 w2 : World} {g : Nat} (h : w.grownBy w1 (some g)) (hb : Below w1.heap.size w1 w2) : w.grownBy w2 (some g) :=
  ⟨hb.os.trans h.os, hb.tape.trans h.tape, hb.output.trans h.output, Nat.le_trans h.size hb.size, fun k hk hr => (hb.block k (Nat.lt_of_lt_of_le hk h.size)).trans (h.block k hk hr)⟩
theorem ownS_val {w' : World} {base n : Nat} {v' : Value} {ss : List ByteArray} (hl : ss.length = n) (hs : ∀ s ∈ ss, s.size ≤ maxLen) (h0 : ¬ v' = .slice none 0 0)
    (h : w'.ownsRow base 9 1 v' n (strVals ss)) : ∃ g' cap', v' = .slice (some ⟨g', 0, none⟩) n cap' ∧ OwnS w' base g' n cap' ss := by
  rcases h.2 with ⟨h2, _⟩ | ⟨g', cap', cur, hv, _⟩
  · exact absurd h2 h0
  · subst hv
    exact ⟨g', cap', rfl, hl, hs, h⟩
theorem ownS_made (w : World) (base : Nat) (hb : base ≤ w.heap.size) : OwnS (w.alloc (.cells #[] 9)) base w.heap.size 0 0 [] :=
  ⟨rfl, fun s h => absurd h List.not_mem_nil, World.ownsRow_made w #[] 0 hb (Nat.zero_le _) rfl⟩
theorem str_oneCell (x : ByteArray) : ∀ u ∈ [Value.string x], u.oneCell' = true := by
  intro u hu; simp at hu; subst hu; rfl
theorem leAlloc {base : Nat} (w : World) (o : Obj) (h : base ≤ w.heap.size) : base ≤ (w.alloc o).heap.size := by simp; omega
theorem strVals_snoc (ss : List ByteArray) (s : ByteArray) : strVals (ss ++ [s]) = strVals ss ++ [.string s] := by simp [strVals]
theorem set_cur {w : World} {gc : Nat} {cur : Array Value} {t : TypeId} (h : w.heap[gc]? = some (.cells cur t (0, 0))) (j : Nat) (v : Value) :
    (w.setCell ⟨gc, j, none⟩ v).heap[gc]? = some (.cells (cur.setIfInBounds j v) t (0, 0)) ∧ w.grownBy (w.setCell ⟨gc, j, none⟩ v) (some gc) :=
  ⟨heap_setCell_same w gc j cur t v h, ⟨rfl, rfl, rfl, by simp, fun k _ hk => heap_setCell_other w ⟨gc, j, none⟩ k v (fun e => hk (by simp [e]))⟩⟩
end Go.Proofs.Ytefjbpkomphjdaa.base

namespace Go.Proofs.Ytefjbpkomphjdaa.help
open Go.RowKit Go.Proofs.Ytefjbpkomphjdaa.base
set_option linter.unusedVariables false
set_option linter.unusedSimpArgs false

end Go.Proofs.Ytefjbpkomphjdaa.help

namespace Go.Proofs.Ytefjbpkomphjdaa.getnum
open Go.RowKit Go.Proofs.Ytefjbpkomphjdaa.base Go.Proofs.Ytefjbpkomphjdaa.help
set_option linter.unusedVariables false
set_option linter.unusedSimpArgs false

end Go.Proofs.Ytefjbpkomphjdaa.getnum

namespace Go.Proofs.Ytefjbpkomphjdaa.getnum
open Go.RowKit Go.Proofs.Ytefjbpkomphjdaa.base Go.Proofs.Ytefjbpkomphjdaa.help
set_option linter.unusedVariables false
set_option linter.unusedSimpArgs false

end Go.Proofs.Ytefjbpkomphjdaa.getnum

namespace Go.Proofs.Ytefjbpkomphjdaa.gettext
open Go.RowKit Go.Proofs.Ytefjbpkomphjdaa.base Go.Proofs.Ytefjbpkomphjdaa.help Go.Proofs.Ytefjbpkomphjdaa.getnum
set_option linter.unusedVariables false
set_option linter.unusedSimpArgs false

end Go.Proofs.Ytefjbpkomphjdaa.gettext

namespace Go.Proofs.Ytefjbpkomphjdaa.helps
open Go.RowKit Go.Proofs.Ytefjbpkomphjdaa.base Go.Proofs.Ytefjbpkomphjdaa.help
set_option linter.unusedVariables false
set_option linter.unusedSimpArgs false

def dch (k : Nat) : UInt8 := UInt8.ofNat (48 + k % 10)
theorem dch_val (k : Nat) : 48 + (k : Int) % 10 = ((dch k).toNat : Int) := by unfold dch; rw [byte_of]; omega
theorem ba_cons (c : UInt8) (l : List UInt8) : (⟨#[c]⟩ : ByteArray) ++ ⟨l.toArray⟩ = ⟨(c :: l).toArray⟩ := by
  apply WideShapes.bytes_inj
  rw [ByteArray.data_append]
  simp
def dig : Nat → Nat → List UInt8
  | 0, _ => []
  | f + 1, k => if k = 0 then [] else dig f (k / 10) ++ [dch k]
def markBytes (k : Nat) : ByteArray := ⟨(109 :: dig 20 k).toArray⟩
theorem dig_zero (f : Nat) : dig f 0 = [] := by cases f <;> simp [dig]
theorem dig_length (f k : Nat) : (dig f k).length ≤ f := by
  induction f generalizing k with
  | zero => simp [dig]
  | succ f ih =>
    rw [dig]
    split
    · simp
    · have := ih (k / 10); simp; omega
theorem markBytes_size (k : Nat) : (markBytes k).size ≤ 21 := by
  have := dig_length 20 k
  show (109 :: dig 20 k).toArray.size ≤ 21
  simp; omega
set_option maxHeartbeats 400000 in
theorem markText (k0 : Nat) (w : World) (hk : 1 ≤ k0) (hk2 : k0 ≤ 1099511627776) :
    Calls Try.prog 48 #[.int .i64 (k0 : Int)] w fun e w' => e = .returned (.string (markBytes k0)) ∧ Below w.heap.size w w' := by
  have hne : ¬ k0 = 0 := by omega
  go_enter Try.func48, Try.ntmps48
  go_wp2
  go_loopw [0, 3] (fun kv out wr => ∃ (f m : Nat) (acc : List UInt8), kv = .int .i64 (m : Int) ∧ m ≤ 1099511627776 ∧ m < 10 ^ f ∧ out = .string ⟨acc.toArray⟩ ∧ dig f m ++ acc = dig 20 k0 ∧ acc.length + f = 20 ∧ Below w.heap.size w wr) (fun kv _ _ => (intOf kv).toNat)
  case atStart => exact ⟨20, k0, [], rfl, hk2, by omega, rfl, by simp, rfl, Below.refl _ _⟩
  case round =>
    obtain ⟨f, m, acc, rfl, hm, hmf, rfl, hd, hf, hB⟩ := hrel
    have HD := Hid.mk' hd
    have HM := Hid.mk' hmf
    have HF := Hid.mk' hf
    have hal : acc.length ≤ 20 := by omega
    clear hd hmf hf
    by_cases hp : 0 < m
    · obtain ⟨f', rfl⟩ : ∃ f', f = f' + 1 := by
        cases f with
        | zero => exact absurd HM.out (by omega)
        | succ f' => exact ⟨f', rfl⟩
      have hcv := fun c => conv_one wr (48 + (m : Int) % 10) (dch m) (dch_val m) c
      go_wp2
      go_roundw
      case rel =>
        refine ⟨f', m / 10, dch m :: acc, by go_num, by omega, ?_, by rw [ba_cons], ?_, ?_, hB.alloc hB.size _⟩
        · have := HM.out; rw [Nat.pow_succ] at this; exact Nat.div_lt_of_lt_mul (by omega)
        · have := HD.out; rw [dig, if_neg (by omega)] at this; simpa using this
        · have := HF.out; simp; omega
      case measure => simp [intOf]; omega
    · have hm0 : m = 0 := by omega
      have HR : Hid (acc = dig 20 k0) := by
        have := HD.out; rw [hm0, dig_zero, List.nil_append] at this; exact this
      clear hm0
      go_wp2
      go_ret
      refine ⟨?_, hB⟩
      unfold markBytes
      rw [← HR.out]
      exact ret_str (by apply WideShapes.bytes_inj; simp [ByteArray.data_append])

theorem markTextI (n : Int) (k0 : Nat) (w : World) (hn : Hid (n = (k0 : Int))) (hk : 1 ≤ k0) (hk2 : k0 ≤ 1099511627776) :
    Calls Try.prog 48 #[.int .i64 n] w fun e w' => e = .returned (.string (markBytes k0)) ∧ Below w.heap.size w w' := by
  have e := hn.out
  subst e
  exact markText k0 w hk hk2
theorem mark_max (k : Nat) : (markBytes k).size ≤ maxLen := Nat.le_trans (markBytes_size k) (by decide)

end Go.Proofs.Ytefjbpkomphjdaa.helps

namespace Go.Proofs.Ytefjbpkomphjdaa.gettexts
open Go.RowKit Go.Proofs.Ytefjbpkomphjdaa.base Go.Proofs.Ytefjbpkomphjdaa.help Go.Proofs.Ytefjbpkomphjdaa.helps Go.Proofs.Ytefjbpkomphjdaa.getnum Go.Proofs.Ytefjbpkomphjdaa.gettext
set_option linter.unusedVariables false
set_option linter.unusedSimpArgs false

end Go.Proofs.Ytefjbpkomphjdaa.gettexts

namespace Go.Proofs.Ytefjbpkomphjdaa.putnum
open Go.RowKit Go.Proofs.Ytefjbpkomphjdaa.base Go.Proofs.Ytefjbpkomphjdaa.help
set_option linter.unusedVariables false
set_option linter.unusedSimpArgs false

end Go.Proofs.Ytefjbpkomphjdaa.putnum

namespace Go.Proofs.Ytefjbpkomphjdaa.puttext
open Go.RowKit Go.Proofs.Ytefjbpkomphjdaa.base Go.Proofs.Ytefjbpkomphjdaa.help Go.Proofs.Ytefjbpkomphjdaa.putnum
set_option linter.unusedVariables false
set_option linter.unusedSimpArgs false

end Go.Proofs.Ytefjbpkomphjdaa.puttext

namespace Go.Proofs.Ytefjbpkomphjdaa.puttexts
open Go.RowKit Go.Proofs.Ytefjbpkomphjdaa.base Go.Proofs.Ytefjbpkomphjdaa.help Go.Proofs.Ytefjbpkomphjdaa.helps Go.Proofs.Ytefjbpkomphjdaa.putnum Go.Proofs.Ytefjbpkomphjdaa.puttext
set_option linter.unusedVariables false
set_option linter.unusedSimpArgs false

end Go.Proofs.Ytefjbpkomphjdaa.puttexts

namespace Go.Proofs.Ytefjbpkomphjdaa.nummath
open Go.RowKit Go.Proofs.Ytefjbpkomphjdaa.base Go.Proofs.Ytefjbpkomphjdaa.help Go.Proofs.Ytefjbpkomphjdaa.getnum Go.Proofs.Ytefjbpkomphjdaa.putnum Go.Proofs.Ytefjbpkomphjdaa.gettext Go.Proofs.Ytefjbpkomphjdaa.puttext Go.Proofs.Ytefjbpkomphjdaa.gettexts Go.Proofs.Ytefjbpkomphjdaa.puttexts
set_option linter.unusedVariables false
set_option linter.unusedSimpArgs false

end Go.Proofs.Ytefjbpkomphjdaa.nummath

namespace Go.Proofs.Ytefjbpkomphjdaa.ords
open Go Go.RowKit Go.Proofs.Ytefjbpkomphjdaa.base Go.Proofs.Ytefjbpkomphjdaa.pairs Go.Proofs.Ytefjbpkomphjdaa.putnum Go.Proofs.Ytefjbpkomphjdaa.puttext Go.Proofs.Ytefjbpkomphjdaa.getnum Go.Proofs.Ytefjbpkomphjdaa.gettext Go.Proofs.Ytefjbpkomphjdaa.gettexts Go.Proofs.Ytefjbpkomphjdaa.nummath
set_option linter.unusedVariables false

abbrev Od := Int × ByteArray × ByteArray
def odOk (o : Od) : Bool := decide (1 ≤ o.1 ∧ o.1 ≤ 3) && (decide (o.1 ≠ 2) || decide (o.2.2.size = 0)) && keyOk o.2.1 && decide (o.2.2.size ≤ 20)
def opsFrom : Option ByteArray → List Od → Bool
  | _, [] => true
  | none, o :: l => odOk o && opsFrom (some o.2.1) l
  | some k, o :: l => odOk o && ltB k o.2.1 && opsFrom (some o.2.1) l
def opsOk (l : List Od) : Bool := opsFrom none l && decide (1 ≤ l.length ∧ l.length ≤ 8)
/-! ### orders that are right -/
def RiseO (l : List Od) : Prop := l.Pairwise fun p q => ltB p.2.1 q.2.1 = true
theorem opsFrom_iff (o : Option ByteArray) (l : List Od) : opsFrom o l = true ↔ (∀ p ∈ l, odOk p = true) ∧ RiseO l ∧ ∀ k, o = some k → ∀ p ∈ l, ltB k p.2.1 = true := by
  induction l generalizing o with
  | nil => simp [opsFrom, RiseO]
  | cons p l ih =>
    have hi := ih (some p.2.1)
    unfold RiseO at hi ⊢
    rw [List.pairwise_cons]
    cases o with
    | none =>
      simp only [opsFrom, Bool.and_eq_true, hi, List.mem_cons, forall_eq_or_imp]
      constructor
      · rintro ⟨h1, h2, h3, h4⟩
        exact ⟨⟨h1, h2⟩, ⟨h4 _ rfl, h3⟩, fun k e => by cases e⟩
      · rintro ⟨⟨h1, h2⟩, ⟨h3, h4⟩, _⟩
        exact ⟨h1, h2, h4, fun k e q hq => by cases e; exact h3 q hq⟩
    | some k0 =>
      simp only [opsFrom, Bool.and_eq_true, hi, List.mem_cons, forall_eq_or_imp]
      constructor
      · rintro ⟨⟨h1, h0⟩, h2, h3, h4⟩
        refine ⟨⟨h1, h2⟩, ⟨h4 _ rfl, h3⟩, fun k e => ?_⟩
        cases e
        exact ⟨h0, fun q hq => ltB_trans h0 (h4 _ rfl q hq)⟩
      · rintro ⟨⟨h1, h2⟩, ⟨h3, h4⟩, h5⟩
        exact ⟨⟨h1, (h5 k0 rfl).1⟩, h2, h4, fun k e q hq => by cases e; exact h3 q hq⟩
theorem opsOk_iff (l : List Od) : opsOk l = true ↔ ((∀ p ∈ l, odOk p = true) ∧ RiseO l) ∧ 1 ≤ l.length ∧ l.length ≤ 8 := by
  unfold opsOk
  rw [Bool.and_eq_true, opsFrom_iff, decide_eq_true_iff]
  constructor
  · rintro ⟨⟨h1, h2, _⟩, h3⟩; exact ⟨⟨h1, h2⟩, h3⟩
  · rintro ⟨⟨h1, h2⟩, h3⟩; exact ⟨⟨h1, h2, fun k e => by cases e⟩, h3⟩
theorem odOk_iff (o : Od) : odOk o = true ↔ (1 ≤ o.1 ∧ o.1 ≤ 3) ∧ (o.1 = 2 → o.2.2.size = 0) ∧ keyOk o.2.1 = true ∧ o.2.2.size ≤ 20 := by
  unfold odOk
  simp only [Bool.and_eq_true, Bool.or_eq_true, decide_eq_true_iff]
  constructor
  · rintro ⟨⟨⟨h1, h2⟩, h3⟩, h4⟩
    exact ⟨h1, fun e => by rcases h2 with h | h; exact absurd e h; exact h, h3, h4⟩
  · rintro ⟨h1, h2, h3, h4⟩
    exact ⟨⟨⟨h1, by by_cases e : o.1 = 2; exact .inr (h2 e); exact .inl e⟩, h3⟩, h4⟩
/-! ### bytes of numbers and texts, read -/
/-! ### orders come back of their bytes -/
/-! ### behind orders -/
/-! ### shards -/
end Go.Proofs.Ytefjbpkomphjdaa.ords

namespace Go.Proofs.Ytefjbpkomphjdaa.txts
open Go Go.Proofs.Ytefjbpkomphjdaa.pairs Go.Proofs.Ytefjbpkomphjdaa.ords
set_option linter.unusedVariables false

def splitGo (by_ : UInt8) : List UInt8 → List UInt8 → List (List UInt8)
  | cur, [] => [cur]
  | cur, c :: l => if c = by_ then cur :: splitGo by_ [] l else splitGo by_ (cur ++ [c]) l
def plainS (s : ByteArray) : Bool := keyAll s.data.toList && decide (s.size ≤ 20)
def opGo : List UInt8 → List UInt8 → Option Od
  | _, [] => none
  | pre, c :: l => if c = 61 ∨ c = 63 then (if plainS ⟨l.toArray⟩ = true then some (if c = 61 then 1 else 3, ⟨pre.toArray⟩, ⟨l.toArray⟩) else none) else opGo (pre ++ [c]) l
def wordOp : List UInt8 → Option Od
  | [] => none
  | c :: l => if c = 45 then some (2, ⟨l.toArray⟩, ⟨#[]⟩) else opGo [] (c :: l)
def allOf {α β : Type} (f : α → Option β) : List α → Option (List β)
  | [] => some []
  | a :: l => match f a with | none => none | some b => match allOf f l with | none => none | some m => some (b :: m)
def onlyOk (l : List Od) : Option (List Od) := if opsOk l = true then some l else none
def parseOps (s : List UInt8) : Option (List Od) := (allOf wordOp (splitGo 32 [] s)).bind onlyOk
def odText (o : Od) : List UInt8 :=
  if o.1 = 1 then o.2.1.data.toList ++ 61 :: o.2.2.data.toList else if o.1 = 2 then 45 :: o.2.1.data.toList else o.2.1.data.toList ++ 63 :: o.2.2.data.toList
def opsText (l : List Od) : List UInt8 := if opsOk l = true ∧ (l.all fun o => plainS o.2.2) = true then Lib.join (l.map odText) [32] else []
/-! ### what the signs of a word tell, one by one -/
abbrev init : Od := (0, ⟨#[]⟩, ⟨#[]⟩)
def step (t : Option Od) (c : UInt8) : Option Od :=
  match t with
  | none => none
  | some o =>
    if c = 45 ∧ o = init then some (2, ⟨#[]⟩, ⟨#[]⟩)
    else if c = 61 ∧ o.1 = 0 then some (1, o.2.1, ⟨#[]⟩)
    else if c = 63 ∧ o.1 = 0 then some (3, o.2.1, ⟨#[]⟩)
    else if keyCh c.toNat = true then
      if o.1 = 1 ∨ o.1 = 3 then (if o.2.2.size = 20 then none else some (o.1, o.2.1, ⟨(o.2.2.data.toList ++ [c]).toArray⟩))
      else (if o.2.1.size = 12 then none else some (o.1, ⟨(o.2.1.data.toList ++ [c]).toArray⟩, o.2.2))
    else none
def tell (w : List UInt8) : Option Od := w.foldl step (some init)
def go : List Od → Option Od → List UInt8 → Option (List Od)
  | acc, t, [] => (match t with | none => none | some o => some (acc ++ [o]))
  | acc, t, c :: l => if c = 32 then (match t with | none => none | some o => go (acc ++ [o]) (some init) l) else go acc (step t c) l

theorem go_nil (acc : List Od) (t : Option Od) : go acc t [] = match t with | none => none | some o => some (acc ++ [o]) := by cases t <;> rfl
theorem go_cons (acc : List Od) (t : Option Od) (c : UInt8) (l : List UInt8) : go acc t (c :: l) = if c = 32 then (match t with | none => none | some o => go (acc ++ [o]) (some init) l) else go acc (step t c) l := by cases t <;> rfl
theorem fold_none (l : List UInt8) : l.foldl step none = none := by
  induction l with
  | nil => rfl
  | cons c l ih => exact ih
def okW : Option Od → Option Od
  | none => none
  | some o => if odOk o = true then some o else none
theorem ba_size (l : List UInt8) : (⟨l.toArray⟩ : ByteArray).size = l.length := by simp [ByteArray.size]
theorem size_len (s : ByteArray) : s.data.toList.length = s.size := by rw [Array.length_toList]; rfl
theorem keyOk_mk (l : List UInt8) : keyOk ⟨l.toArray⟩ = (keyAll l && decide (1 ≤ l.length ∧ l.length ≤ 12)) := by
  unfold keyOk; rw [ba_size]
theorem keyAll_app (a b : List UInt8) : keyAll (a ++ b) = (keyAll a && keyAll b) := by unfold keyAll; rw [List.all_append]
theorem keyAll_cons (c : UInt8) (l : List UInt8) : keyAll (c :: l) = (keyCh c.toNat && keyAll l) := rfl

theorem fold_key (l : List UInt8) (key : List UInt8) (h : key.length ≤ 12) :
    okW (l.foldl step (some (2, ⟨key.toArray⟩, ⟨#[]⟩))) = if keyAll l = true ∧ key.length + l.length ≤ 12 then okW (some (2, ⟨(key ++ l).toArray⟩, ⟨#[]⟩)) else none := by
  induction l generalizing key with
  | nil => rw [if_pos ⟨rfl, by simpa using h⟩, List.append_nil]; rfl
  | cons c l ih =>
    rw [List.foldl_cons, keyAll_cons]
    have hs : step (some (2, ⟨key.toArray⟩, ⟨#[]⟩)) c = if keyCh c.toNat = true then (if key.length = 12 then none else some (2, ⟨(key ++ [c]).toArray⟩, ⟨#[]⟩)) else none := by
      simp only [step]
      rw [if_neg (by rintro ⟨_, e⟩; simp [init] at e), if_neg (by rintro ⟨_, e⟩; simp at e), if_neg (by rintro ⟨_, e⟩; simp at e), if_neg (by decide : ¬ ((2 : Int) = 1 ∨ (2 : Int) = 3)), ba_size]
    rw [hs]
    cases hk : keyCh c.toNat
    · simp [fold_none, okW]
    · simp only [if_true, Bool.true_and, List.length_cons]
      by_cases h12 : key.length = 12
      · rw [if_pos h12, fold_none, if_neg (by omega)]; rfl
      · rw [if_neg h12, ih (key ++ [c]) (by simp; omega)]
        simp only [List.length_append, List.length_cons, List.length_nil, List.append_assoc, List.singleton_append]
        by_cases hx : keyAll l = true ∧ key.length + (0 + 1) + l.length ≤ 12
        · rw [if_pos hx, if_pos ⟨hx.1, by omega⟩]
        · rw [if_neg hx, if_neg (fun e => hx ⟨e.1, by omega⟩)]
theorem fold_val (k : Int) (hk : k = 1 ∨ k = 3) (key : ByteArray) (l : List UInt8) (val : List UInt8) (h : val.length ≤ 20) :
    l.foldl step (some (k, key, ⟨val.toArray⟩)) = if keyAll l = true ∧ val.length + l.length ≤ 20 then some (k, key, ⟨(val ++ l).toArray⟩) else none := by
  induction l generalizing val with
  | nil => rw [if_pos ⟨rfl, by simpa using h⟩, List.append_nil]; rfl
  | cons c l ih =>
    rw [List.foldl_cons, keyAll_cons]
    have hs : step (some (k, key, ⟨val.toArray⟩)) c = if keyCh c.toNat = true then (if val.length = 20 then none else some (k, key, ⟨(val ++ [c]).toArray⟩)) else none := by
      simp only [step]
      rw [if_neg (by rintro ⟨_, e⟩; simp [init] at e; omega), if_neg (by rintro ⟨_, e⟩; omega), if_neg (by rintro ⟨_, e⟩; omega), if_pos hk, ba_size]
    rw [hs]
    cases hc : keyCh c.toNat
    · simp [fold_none]
    · simp only [if_true, Bool.true_and, List.length_cons]
      by_cases h12 : val.length = 20
      · rw [if_pos h12, fold_none, if_neg (by omega)]
      · rw [if_neg h12, ih (val ++ [c]) (by simp; omega)]
        simp only [List.length_append, List.length_cons, List.length_nil, List.append_assoc, List.singleton_append]
        by_cases hx : keyAll l = true ∧ val.length + (0 + 1) + l.length ≤ 20
        · rw [if_pos hx, if_pos ⟨hx.1, by omega⟩]
        · rw [if_neg hx, if_neg (fun e => hx ⟨e.1, by omega⟩)]
theorem opGo_pre (l pre : List UInt8) (o : Od) (h : opGo pre l = some o) : (1 ≤ o.1 ∧ o.1 ≤ 3 ∧ o.1 ≠ 2) ∧ plainS o.2.2 = true ∧ (∃ m, o.2.1.data.toList = pre ++ m) ∧ odText o = pre ++ l := by
  induction l generalizing pre with
  | nil => simp [opGo] at h
  | cons c l ih =>
    rw [opGo] at h
    split at h
    · next hc =>
      split at h
      · next hp =>
        simp only [Option.some.injEq] at h
        subst h
        rcases hc with rfl | rfl
        · exact ⟨by simp, hp, ⟨[], by simp⟩, by simp [odText]⟩
        · exact ⟨by simp, hp, ⟨[], by simp⟩, by simp [odText]⟩
      · cases h
    · obtain ⟨h1, h2, ⟨m, h3⟩, h4⟩ := ih (pre ++ [c]) h
      exact ⟨h1, h2, ⟨c :: m, by rw [h3]; simp⟩, by rw [h4]; simp⟩
theorem okW_pre (l pre : List UInt8) (h : ¬ (keyAll pre = true ∧ pre.length ≤ 12)) : okW (opGo pre l) = none := by
  cases e : opGo pre l with
  | none => rfl
  | some o =>
    obtain ⟨_, _, ⟨m, h3⟩, _⟩ := opGo_pre l pre o e
    simp only [okW]
    rw [if_neg]
    intro ho
    have hk := ((odOk_iff o).1 ho).2.2.1
    unfold keyOk at hk
    rw [← size_len, h3, keyAll_app] at hk
    simp only [Bool.and_eq_true, decide_eq_true_iff, List.length_append] at hk
    exact h ⟨hk.1.1, by omega⟩
theorem fold_word (l : List UInt8) (pre : List UInt8) (h : pre.length ≤ 12) (hk : keyAll pre = true) (hd : pre = [] → ∀ c m, l = c :: m → c ≠ 45) :
    okW (l.foldl step (some (0, ⟨pre.toArray⟩, ⟨#[]⟩))) = okW (opGo pre l) := by
  induction l generalizing pre with
  | nil => simp [opGo, okW, odOk]
  | cons c l ih =>
    rw [List.foldl_cons, opGo]
    have h45 : ¬ (c = 45 ∧ ((0, ⟨pre.toArray⟩, ⟨#[]⟩) : Od) = init) := by
      rintro ⟨e, e2⟩
      simp [init] at e2
      exact hd e2 c l rfl e
    by_cases h1 : c = 61
    · subst h1
      have hs : step (some (0, ⟨pre.toArray⟩, ⟨#[]⟩)) 61 = some (1, ⟨pre.toArray⟩, ⟨#[]⟩) := by simp only [step]; rw [if_neg h45, if_pos ⟨trivial, trivial⟩]
      rw [hs, if_pos (Or.inl rfl), show (⟨#[]⟩ : ByteArray) = ⟨([] : List UInt8).toArray⟩ from rfl, fold_val 1 (.inl rfl) _ l [] (by decide)]
      simp only [List.nil_append, List.length_nil, Nat.zero_add, plainS, ba_size, Bool.and_eq_true, decide_eq_true_iff, if_true]
    · by_cases h3 : c = 63
      · subst h3
        have hs : step (some (0, ⟨pre.toArray⟩, ⟨#[]⟩)) 63 = some (3, ⟨pre.toArray⟩, ⟨#[]⟩) := by simp only [step]; rw [if_neg h45, if_neg (by simp), if_pos ⟨trivial, trivial⟩]
        rw [hs, if_pos (Or.inr rfl), show (⟨#[]⟩ : ByteArray) = ⟨([] : List UInt8).toArray⟩ from rfl, fold_val 3 (.inr rfl) _ l [] (by decide)]
        simp only [List.nil_append, List.length_nil, Nat.zero_add, plainS, ba_size, Bool.and_eq_true, decide_eq_true_iff, h1, if_false]
      · rw [if_neg (by rintro (e | e); exact h1 e; exact h3 e)]
        have hs : step (some (0, ⟨pre.toArray⟩, ⟨#[]⟩)) c = if keyCh c.toNat = true then (if pre.length = 12 then none else some (0, ⟨(pre ++ [c]).toArray⟩, ⟨#[]⟩)) else none := by
          simp only [step]
          rw [if_neg h45, if_neg (fun e => h1 e.1), if_neg (fun e => h3 e.1), if_neg (by decide : ¬ ((0 : Int) = 1 ∨ (0 : Int) = 3)), ba_size]
        rw [hs]
        cases hc : keyCh c.toNat
        · rw [if_neg (by decide), fold_none, okW_pre l (pre ++ [c]) (by rw [keyAll_app, keyAll_cons, hc]; simp)]
          rfl
        · rw [if_pos rfl]
          by_cases h12 : pre.length = 12
          · rw [if_pos h12, fold_none, okW_pre l (pre ++ [c]) (by rintro ⟨_, e⟩; simp at e; omega)]
            rfl
          · rw [if_neg h12]
            exact ih (pre ++ [c]) (by simp; omega) (by rw [keyAll_app, hk, keyAll_cons, hc]; rfl) (fun e => by simp at e)
theorem tell_word (w : List UInt8) : okW (tell w) = okW (wordOp w) := by
  unfold tell
  cases w with
  | nil => simp [wordOp, okW, odOk, init]
  | cons c l =>
    by_cases hc : c = 45
    · subst hc
      rw [List.foldl_cons]
      have hs : step (some init) 45 = some (2, ⟨([] : List UInt8).toArray⟩, ⟨#[]⟩) := rfl
      rw [hs, fold_key l [] (by decide), wordOp, if_pos rfl]
      simp only [List.nil_append, List.length_nil, Nat.zero_add]
      by_cases hx : keyAll l = true ∧ l.length ≤ 12
      · rw [if_pos hx]
      · rw [if_neg hx]
        simp only [okW]
        rw [if_neg]
        intro ho
        have hk := ((odOk_iff _).1 ho).2.2.1
        rw [keyOk_mk] at hk
        simp only [Bool.and_eq_true, decide_eq_true_iff] at hk
        exact hx ⟨hk.1, hk.2.2⟩
    · rw [wordOp, if_neg hc]
      exact fold_word (c :: l) [] (by decide) rfl (fun _ c' m e => by cases e; exact hc)

/-! ### all words -/
theorem allOf_cons {α β : Type} (f : α → Option β) (a : α) (l : List α) : allOf f (a :: l) = match f a with | none => none | some b => match allOf f l with | none => none | some m => some (b :: m) := rfl
theorem okW_some {t : Option Od} {o : Od} (e : t = some o) (h : odOk o = true) : okW t = some o := by rw [e]; simp only [okW, if_pos h]
theorem okW_none {t : Option Od} {o : Od} (e : t = some o) (h : ¬ odOk o = true) : okW t = none := by rw [e]; simp only [okW, if_neg h]
theorem allOf_okW (f : List UInt8 → Option Od) (ws : List (List UInt8)) : (allOf f ws).bind onlyOk = (allOf (fun w => okW (f w)) ws).bind onlyOk := by
  have h : ∀ l, allOf f ws = some l → (∀ p ∈ l, odOk p = true) → allOf (fun w => okW (f w)) ws = some l := by
    induction ws with
    | nil => intro l h _; exact h
    | cons w ws ih =>
      intro l h hl
      rw [allOf_cons] at h ⊢
      cases e : f w with
      | none => rw [e] at h; cases h
      | some o =>
        rw [e] at h
        cases e2 : allOf f ws with
        | none => rw [e2] at h; cases h
        | some m =>
          rw [e2] at h
          simp only [Option.some.injEq] at h
          subst h
          rw [okW_some (t := some o) rfl (hl o (List.mem_cons_self)), ih m e2 (fun p hp => hl p (List.mem_cons_of_mem _ hp))]
  have h2 : ∀ l, allOf (fun w => okW (f w)) ws = some l → allOf f ws = some l ∧ ∀ p ∈ l, odOk p = true := by
    clear h
    induction ws with
    | nil => intro l h; cases h; exact ⟨rfl, fun p hp => absurd hp List.not_mem_nil⟩
    | cons w ws ih =>
      intro l h
      rw [allOf_cons] at h ⊢
      cases e : f w with
      | none => rw [e] at h; cases h
      | some o =>
        by_cases ho : odOk o = true
        · rw [okW_some e ho] at h
          cases e2 : allOf (fun w => okW (f w)) ws with
          | none => rw [e2] at h; cases h
          | some m =>
            rw [e2] at h
            simp only [Option.some.injEq] at h
            subst h
            obtain ⟨h4, h5⟩ := ih m e2
            rw [h4]
            refine ⟨rfl, fun p hp => ?_⟩
            rcases List.mem_cons.1 hp with rfl | hp
            · exact ho
            · exact h5 p hp
        · rw [okW_none e ho] at h; cases h
  cases e : allOf f ws with
  | none =>
    cases e2 : allOf (fun w => okW (f w)) ws with
    | none => rfl
    | some l => rw [(h2 l e2).1] at e; cases e
  | some l =>
    cases e2 : allOf (fun w => okW (f w)) ws with
    | some m =>
      have := (h2 m e2).1
      rw [e] at this
      cases this
      rfl
    | none =>
      show onlyOk l = none
      unfold onlyOk
      rw [if_neg]
      intro ho
      have := h l e ((opsOk_iff l).1 ho).1.1
      rw [e2] at this
      cases this
theorem go_split (l cur : List UInt8) (acc : List Od) : go acc (tell cur) l = (allOf tell (splitGo 32 cur l)).map (acc ++ ·) := by
  induction l generalizing cur acc with
  | nil =>
    rw [go_nil]
    simp only [splitGo, allOf]
    cases tell cur <;> rfl
  | cons c l ih =>
    rw [go_cons, splitGo]
    by_cases hc : c = 32
    · rw [if_pos hc, if_pos hc]
      simp only [allOf]
      cases e : tell cur with
      | none => rfl
      | some o =>
        have := ih [] (acc ++ [o])
        rw [show tell [] = some init from rfl] at this
        simp only [this]
        cases allOf tell (splitGo 32 [] l) with
        | none => rfl
        | some m => simp
    · rw [if_neg hc, if_neg hc, ← ih (cur ++ [c]) acc]
      congr 1
      unfold tell
      rw [List.foldl_append]
      rfl
theorem parse_go (s : List UInt8) : (go [] (some init) s).bind onlyOk = parseOps s := by
  have h := go_split s [] []
  rw [show tell [] = some init from rfl] at h
  rw [h]
  have e : (allOf tell (splitGo 32 [] s)).map (([] : List Od) ++ ·) = allOf tell (splitGo 32 [] s) := by
    cases allOf tell (splitGo 32 [] s) <;> rfl
  rw [e, allOf_okW tell, parseOps, allOf_okW wordOp]
  congr 2
  funext w
  exact tell_word w
/-! ### they come back -/
theorem split_ne (l cur : List UInt8) : splitGo 32 cur l ≠ [] := by
  induction l generalizing cur with
  | nil => simp [splitGo]
  | cons c l ih => rw [splitGo]; split; simp; exact ih _
theorem join_split (l cur : List UInt8) : Lib.join (splitGo 32 cur l) [32] = cur ++ l := by
  induction l generalizing cur with
  | nil => rw [splitGo, Lib.join_one, List.append_nil]
  | cons c l ih =>
    rw [splitGo]
    by_cases hc : c = 32
    · subst hc
      rw [if_pos rfl]
      have hn := split_ne l []
      obtain ⟨x, r, e⟩ : ∃ x r, splitGo 32 [] l = x :: r := by
        cases h : splitGo 32 [] l with
        | nil => exact absurd h hn
        | cons x r => exact ⟨x, r, rfl⟩
      have hi := ih []
      rw [e, Lib.join_cons] at hi
      rw [e, Lib.join_cons]
      simp only [Lib.joinTail, List.map_cons, List.flatten_cons] at hi ⊢
      simp only [List.nil_append] at hi
      rw [List.append_assoc, hi]
      simp
    · rw [if_neg hc, ih]; simp
theorem allOf_some {α β : Type} (f : α → Option β) (g : β → α) (ws : List α) (l : List β) (h : allOf f ws = some l) (hg : ∀ a b, f a = some b → g b = a) : l.map g = ws := by
  induction ws generalizing l with
  | nil => cases h; rfl
  | cons a ws ih =>
    simp only [allOf] at h
    cases e : f a with
    | none => rw [e] at h; cases h
    | some b =>
      rw [e] at h
      cases e2 : allOf f ws with
      | none => rw [e2] at h; cases h
      | some m =>
        rw [e2] at h
        simp only [Option.some.injEq] at h
        subst h
        rw [List.map_cons, hg a b e, ih m e2]
theorem allOf_all {α β : Type} (f : α → Option β) (q : β → Prop) (ws : List α) (l : List β) (h : allOf f ws = some l) (hg : ∀ a b, f a = some b → q b) : ∀ b ∈ l, q b := by
  induction ws generalizing l with
  | nil => cases h; intro b hb; cases hb
  | cons a ws ih =>
    simp only [allOf] at h
    cases e : f a with
    | none => rw [e] at h; cases h
    | some b =>
      rw [e] at h
      cases e2 : allOf f ws with
      | none => rw [e2] at h; cases h
      | some m =>
        rw [e2] at h
        simp only [Option.some.injEq] at h
        subst h
        intro x hx
        rcases List.mem_cons.1 hx with rfl | hx
        · exact hg a x e
        · exact ih m e2 x hx
theorem word_text (w : List UInt8) (o : Od) (h : wordOp w = some o) : odText o = w ∧ plainS o.2.2 = true := by
  cases w with
  | nil => simp [wordOp] at h
  | cons c l =>
    rw [wordOp] at h
    split at h
    · next hc =>
      simp only [Option.some.injEq] at h
      subst h hc
      exact ⟨by simp [odText], rfl⟩
    · obtain ⟨_, h2, _, h4⟩ := opGo_pre _ _ _ h
      exact ⟨h4, h2⟩
theorem parse_text {s : List UInt8} {l : List Od} (h : parseOps s = some l) : opsOk l = true ∧ opsText l = s := by
  unfold parseOps at h
  cases e : allOf wordOp (splitGo 32 [] s) with
  | none => rw [e] at h; cases h
  | some m =>
    rw [e] at h
    have h' : onlyOk m = some l := h
    unfold onlyOk at h'
    split at h'
    · next ho =>
      cases h'
      refine ⟨ho, ?_⟩
      unfold opsText
      rw [if_pos ⟨ho, List.all_eq_true.2 (allOf_all wordOp (fun o => plainS o.2.2 = true) _ _ e (fun a b hb => (word_text a b hb).2))⟩]
      rw [allOf_some wordOp odText _ _ e (fun a b hb => (word_text a b hb).1), join_split]
      rfl
    · cases h'
end Go.Proofs.Ytefjbpkomphjdaa.txts

namespace Go.Proofs.Ytefjbpkomphjdaa.pairs
open Go Go.RowKit Go.Proofs.Ytefjbpkomphjdaa.base
set_option linter.unusedVariables false
set_option linter.unusedSimpArgs false

def small (p : Pr) : Prop := p.1.size ≤ maxLen ∧ p.2.size ≤ maxLen
/-! ### slices of pairs that are read -/
section
variable {w w' : World} {a : Option Addr} {b off len base base' g n cap : Nat} {l : List Pr} {row : Option Nat}
/-! ### rows of pairs that a call made -/
end
end Go.Proofs.Ytefjbpkomphjdaa.pairs
