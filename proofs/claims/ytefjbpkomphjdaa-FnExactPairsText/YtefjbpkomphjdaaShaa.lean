/- Plain mathematics of pairs of texts. Plain mathematics of the laws on pairs. Plain mathematics and small facts on worlds, used by the proofs of this seat: no program is named here. Rows that a call makes, appends and conversions: small facts on worlds; no function of the program is named here. The laws' own helpers on slices of bytes: what each call does. Reading a number: the program's and the specification's GetNum answer as one and the same function. The specification's GetNum answers as the same function. Reading a text: the program's and the specification's GetText answer as one and the same function. The laws' own helpers on slices of strings: what each call does. Reading a list of texts: the program's and the specification's GetTexts answer as one and the same function. Writing a number: the program's and the specification's PutNum answer as one and the same function. Writing texts: the program's and the specification's PutText answer as one and the same function. Writing a list of texts: the program's and the specification's PutTexts answer as one and the same function. Plain mathematics: numbers and texts come back of their bytes. Plain mathematics of orders: what is told of them, their bytes, and that these come back. Plain mathematics of statements: orders and pairs as texts, the words of a text, and that they come back. Rows of pairs of texts: small facts on worlds; no function of the program is named here. Rows of orders (three cells each): small facts on worlds; no function of the program is named here. The specification's keys and pairs: what is right, what is got. The specification's lists of pairs. The specification's putting of keys. A region that draws its order, whose operations only read, but for its last, which waits for all the others: one walk of the text's order serves every order. No function of the program is named here. The specification's right pairs, and pairs put into others. The specification's orders: what is right, what is met. The specification's statements: what is plain, the words of a text. The specification's statements: a word's order. append within the room that a make laid: small facts on worlds; no function of the program is named here. The program's keys and pairs: what is right. The program's statements: what a sign tells. The specification's orders: all of them are right. hash walks The specification's orders: what is met, what is done, at which shard. The specification's orders: what is done, and those of a shard. The specification's statements: orders of a text. The specification's statements: the texts of orders and of pairs. The program's orders: what is right. -/
import Derived.Test.YtefjbpkomphjdaaRows
import Derived.Sort.Walk0
import Derived.WideShapes
import Derived.WalkKit
import Derived.WalkSpells
import Derived.WalkLawsBesides
import Derived.Lib.ConvBytes
import Derived.Deep.QuietTactic
import Derived.BigQuiet
import Derived.Deep.RegionWith
import Derived.Laws.CopyOwn
import Derived.Laws.BytesArg
import Derived.Lib.AppendStr
import Derived.ArgAppend
import Derived.Deep.RegionLaw
import Derived.Lib.Join
import Derived.OwnWalk
import Derived.Deep.RegionHeld3
import Derived.Lib.Strings
import Derived.Laws.Runes
import Derived.Laws.StructEq
import Derived.Laws.Concat
namespace Go.Proofs.Ytefjbpkomphjdaa.pairs
open Go
set_option linter.unusedVariables false

abbrev Pr := ByteArray × ByteArray
theorem bytes_ext {a b : ByteArray} (h : a.data.toList = b.data.toList) : a = b := WideShapes.bytes_inj h

/-! ### the order of texts -/
def ltB (a b : ByteArray) : Bool := Op.bytesLess a.toList b.toList
/-! ### the functions -/
def below (key : ByteArray) : List Pr → Nat
  | [] => 0
  | p :: l => if ltB key p.1 = true then 0 else below key l + 1
/-! ### first facts -/
end Go.Proofs.Ytefjbpkomphjdaa.pairs

namespace Go.Proofs.Ytefjbpkomphjdaa.pairs
open Go
set_option linter.unusedVariables false
set_option linter.unusedSimpArgs false

/-! ### rising lists -/
/-! ### what is got -/
/-! ### pairs that stay right -/
/-! ### between -/
/-! ### union -/
end Go.Proofs.Ytefjbpkomphjdaa.pairs

namespace Go.Proofs.Ytefjbpkomphjdaa.base
open Go.RowKit

/-! ### the hash -/
theorem ret_bool {a b : Bool} (h : a = b) : Ending.returned (.bool a) = .returned (.bool b) := by rw [h]
theorem ret_int {k : IntKind} {a b : Int} (h : a = b) : Ending.returned (.int k a) = .returned (.int k b) := by rw [h]


/-! ### worlds -/
/-! ### slices of bytes that are read -/
/-! ### slices of bytes that the call itself made -/
theorem below_grown {w w' : World} {B g : Nat} (hg : w.grownBy w' (some g)) (h : B ≤ g) (hB : B ≤ w.heap.size) : Below B w w' :=
  (Below.refl B w).grown hg hB (fun k e => by cases e; exact h)

/-! ### slices of strings -/
def SlS (w : World) (a : Option Addr) (len : Nat) (ss : List ByteArray) : Prop :=
  ss.length = len ∧ len ≤ maxLen ∧ (∀ s ∈ ss, s.size ≤ maxLen) ∧ (0 < len → ∃ b off, a = some ⟨b, off, none⟩ ∧ ∀ i (h : i < ss.length), w.cell? ⟨b, off + i, none⟩ = some (.string ss[i]))
theorem SlS.below {w w' : World} {a : Option Addr} {len : Nat} {ss : List ByteArray} (h : SlS w a len ss) (hb : Below w.heap.size w w') : SlS w' a len ss := by
  obtain ⟨h1, h2, h4, h3⟩ := h
  refine ⟨h1, h2, h4, fun h0 => ?_⟩
  obtain ⟨b, off, rfl, hc⟩ := h3 h0
  exact ⟨b, off, rfl, fun i hi => (hb.cell (p := ⟨b, off + i, none⟩) (World.block_lt_of_cell? w _ (hc i hi))).trans (hc i hi)⟩
def strVals (ss : List ByteArray) : List Value := ss.map fun s => .string s
def OwnS (w : World) (base g n cap : Nat) (ss : List ByteArray) : Prop := ss.length = n ∧ (∀ s ∈ ss, s.size ≤ maxLen) ∧ w.ownsRow base 9 1 (.slice (some ⟨g, 0, none⟩) n cap) n (strVals ss)
section
variable {w w' : World} {base base' g n cap : Nat} {ss : List ByteArray} {row : Option Nat}
theorem OwnS.lt (h : OwnS w base g n cap ss) : base ≤ g ∧ g < w.heap.size := h.2.2.lt g rfl
theorem OwnS.cases (h : OwnS w base g n cap ss) : n ≤ cap ∧ cap ≤ maxLen ∧ ∃ cur, w.heap[g]? = some (.cells cur 9 (0, 0)) := by
  rcases h.2.2.2 with ⟨h', _⟩ | ⟨g', cap', cur, h', _, hg, h1, h2, _⟩
  · simp at h'
  · simp only [Value.slice.injEq, Option.some.injEq, Addr.mk.injEq, and_true, true_and] at h'
    obtain ⟨rfl, rfl⟩ := h'
    exact ⟨h1, h2, cur, hg⟩
theorem OwnS.mono (h : OwnS w base g n cap ss) (hb : base' ≤ base) : OwnS w base' g n cap ss := by
  refine ⟨h.1, h.2.1, h.2.2.1, ?_⟩
  rcases h.2.2.2 with h' | ⟨g', cap', cur, h', h0, r⟩
  · exact .inl h'
  · exact .inr ⟨g', cap', cur, h', by omega, r⟩
theorem OwnS.at (h : OwnS w base g n cap ss) (i : Nat) (hi : i < ss.length) : w.cell? ⟨g, i, none⟩ = some (.string ss[i]) := by
  rw [h.2.2.cellAt i (by have := h.1; omega)]; simp [strVals, hi]
theorem OwnS.frozen (h : OwnS w base g n cap ss) (i : Nat) : w.frozen? ⟨g, i, none⟩ = false := h.2.2.frozenAt i
theorem OwnS.sl (h : OwnS w base g n cap ss) : SlS w (some ⟨g, 0, none⟩) n ss :=
  ⟨h.1, by have := h.cases; omega, h.2.1, fun _ => ⟨g, 0, rfl, fun i hi => by rw [Nat.zero_add]; exact h.at i hi⟩⟩
theorem OwnS.grown (h : OwnS w base g n cap ss) (hg : w.grownBy w' row) (hne : some g ≠ row) : OwnS w' base g n cap ss :=
  ⟨h.1, h.2.1, h.2.2.kept hg (.inr hne)⟩
theorem OwnS.below (h : OwnS w base g n cap ss) (hb : Below w.heap.size w w') : OwnS w' base g n cap ss :=
  ⟨h.1, h.2.1, h.2.2.kept (row := none) ⟨hb.os, hb.tape, hb.output, hb.size, fun k hk _ => hb.block k hk⟩ (.inr (by simp [Value.ownBlock]))⟩
end

end Go.Proofs.Ytefjbpkomphjdaa.base

namespace Go.Proofs.Ytefjbpkomphjdaa.base
open Go.RowKit
set_option linter.unusedVariables false
set_option linter.unusedSimpArgs false

theorem grownBy_trans {a b c : World} {row : Option Nat} (h : a.grownBy b row) (k : b.grownBy c row) : a.grownBy c row :=
  ⟨k.os.trans h.os, k.tape.trans h.tape, k.output.trans h.output, Nat.le_trans h.size k.size, fun i hi hr => (k.block i (Nat.lt_of_lt_of_le hi h.size) hr).trans (h.block i hi hr)⟩
theorem Hid.mk' {p : Prop} (h : p) : Hid p := h
theorem info9 : (Try.prog.info? 9).map (fun i => (i.zero, i.size, i.bytes)) = some (some (.string ⟨#[]⟩), 1, 16) := by kernel_rfl
theorem ret_str {a b : ByteArray} (h : a = b) : Ending.returned (.string a) = .returned (.string b) := by rw [h]
theorem ownS_val {w' : World} {base n : Nat} {v' : Value} {ss : List ByteArray} (hl : ss.length = n) (hs : ∀ s ∈ ss, s.size ≤ maxLen) (h0 : ¬ v' = .slice none 0 0)
    (h : w'.ownsRow base 9 1 v' n (strVals ss)) : ∃ g' cap', v' = .slice (some ⟨g', 0, none⟩) n cap' ∧ OwnS w' base g' n cap' ss := by
  rcases h.2 with ⟨h2, _⟩ | ⟨g', cap', cur, hv, _⟩
  · exact absurd h2 h0
  · subst hv
    exact ⟨g', cap', rfl, hl, hs, h⟩
theorem str_oneCell (x : ByteArray) : ∀ u ∈ [Value.string x], u.oneCell' = true := by
  intro u hu; simp at hu; subst hu; rfl
theorem leAlloc {base : Nat} (w : World) (o : Obj) (h : base ≤ w.heap.size) : base ≤ (w.alloc o).heap.size := by simp; omega
theorem strVals_snoc (ss : List ByteArray) (s : ByteArray) : strVals (ss ++ [s]) = strVals ss ++ [.string s] := by simp [strVals]
end Go.Proofs.Ytefjbpkomphjdaa.base

namespace Go.Proofs.Ytefjbpkomphjdaa.help
open Go.RowKit Go.Proofs.Ytefjbpkomphjdaa.base
set_option linter.unusedVariables false
set_option linter.unusedSimpArgs false

end Go.Proofs.Ytefjbpkomphjdaa.help

namespace Go.Proofs.Ytefjbpkomphjdaa.getnum
open Go.RowKit Go.Proofs.Ytefjbpkomphjdaa.base Go.Proofs.Ytefjbpkomphjdaa.help
set_option linter.unusedVariables false
set_option linter.unusedSimpArgs false

end Go.Proofs.Ytefjbpkomphjdaa.getnum

namespace Go.Proofs.Ytefjbpkomphjdaa.getnum
open Go.RowKit Go.Proofs.Ytefjbpkomphjdaa.base Go.Proofs.Ytefjbpkomphjdaa.help
set_option linter.unusedVariables false
set_option linter.unusedSimpArgs false

end Go.Proofs.Ytefjbpkomphjdaa.getnum

namespace Go.Proofs.Ytefjbpkomphjdaa.gettext
open Go.RowKit Go.Proofs.Ytefjbpkomphjdaa.base Go.Proofs.Ytefjbpkomphjdaa.help Go.Proofs.Ytefjbpkomphjdaa.getnum
set_option linter.unusedVariables false
set_option linter.unusedSimpArgs false

end Go.Proofs.Ytefjbpkomphjdaa.gettext

namespace Go.Proofs.Ytefjbpkomphjdaa.helps
open Go.RowKit Go.Proofs.Ytefjbpkomphjdaa.base Go.Proofs.Ytefjbpkomphjdaa.help
set_option linter.unusedVariables false
set_option linter.unusedSimpArgs false

end Go.Proofs.Ytefjbpkomphjdaa.helps

namespace Go.Proofs.Ytefjbpkomphjdaa.gettexts
open Go.RowKit Go.Proofs.Ytefjbpkomphjdaa.base Go.Proofs.Ytefjbpkomphjdaa.help Go.Proofs.Ytefjbpkomphjdaa.helps Go.Proofs.Ytefjbpkomphjdaa.getnum Go.Proofs.Ytefjbpkomphjdaa.gettext
set_option linter.unusedVariables false
set_option linter.unusedSimpArgs false

end Go.Proofs.Ytefjbpkomphjdaa.gettexts

namespace Go.Proofs.Ytefjbpkomphjdaa.putnum
open Go.RowKit Go.Proofs.Ytefjbpkomphjdaa.base Go.Proofs.Ytefjbpkomphjdaa.help
set_option linter.unusedVariables false
set_option linter.unusedSimpArgs false

end Go.Proofs.Ytefjbpkomphjdaa.putnum

namespace Go.Proofs.Ytefjbpkomphjdaa.puttext
open Go.RowKit Go.Proofs.Ytefjbpkomphjdaa.base Go.Proofs.Ytefjbpkomphjdaa.help Go.Proofs.Ytefjbpkomphjdaa.putnum
set_option linter.unusedVariables false
set_option linter.unusedSimpArgs false

end Go.Proofs.Ytefjbpkomphjdaa.puttext

namespace Go.Proofs.Ytefjbpkomphjdaa.puttexts
open Go.RowKit Go.Proofs.Ytefjbpkomphjdaa.base Go.Proofs.Ytefjbpkomphjdaa.help Go.Proofs.Ytefjbpkomphjdaa.helps Go.Proofs.Ytefjbpkomphjdaa.putnum Go.Proofs.Ytefjbpkomphjdaa.puttext
set_option linter.unusedVariables false
set_option linter.unusedSimpArgs false

def sum (ss : List ByteArray) : Nat := (ss.map ByteArray.size).sum
def szR (L t : Nat) : Int := if t ≤ L then (L : Int) - (t : Int) else -1
theorem szR_neg {L t : Nat} (h : L < t) : szR L t = -1 := by unfold szR; rw [if_neg (by omega)]
theorem szR_pos {L t : Nat} (h : t ≤ L) : szR L t = (L : Int) - (t : Int) := by unfold szR; rw [if_pos h]




end Go.Proofs.Ytefjbpkomphjdaa.puttexts

namespace Go.Proofs.Ytefjbpkomphjdaa.nummath
open Go.RowKit Go.Proofs.Ytefjbpkomphjdaa.base Go.Proofs.Ytefjbpkomphjdaa.help Go.Proofs.Ytefjbpkomphjdaa.getnum Go.Proofs.Ytefjbpkomphjdaa.putnum Go.Proofs.Ytefjbpkomphjdaa.gettext Go.Proofs.Ytefjbpkomphjdaa.puttext Go.Proofs.Ytefjbpkomphjdaa.gettexts Go.Proofs.Ytefjbpkomphjdaa.puttexts
set_option linter.unusedVariables false
set_option linter.unusedSimpArgs false

end Go.Proofs.Ytefjbpkomphjdaa.nummath

namespace Go.Proofs.Ytefjbpkomphjdaa.ords
open Go Go.RowKit Go.Proofs.Ytefjbpkomphjdaa.base Go.Proofs.Ytefjbpkomphjdaa.pairs Go.Proofs.Ytefjbpkomphjdaa.putnum Go.Proofs.Ytefjbpkomphjdaa.puttext Go.Proofs.Ytefjbpkomphjdaa.getnum Go.Proofs.Ytefjbpkomphjdaa.gettext Go.Proofs.Ytefjbpkomphjdaa.gettexts Go.Proofs.Ytefjbpkomphjdaa.nummath
set_option linter.unusedVariables false

abbrev Od := Int × ByteArray × ByteArray
/-! ### orders that are right -/
/-! ### bytes of numbers and texts, read -/
/-! ### orders come back of their bytes -/
/-! ### behind orders -/
/-! ### shards -/
end Go.Proofs.Ytefjbpkomphjdaa.ords

namespace Go.Proofs.Ytefjbpkomphjdaa.txts
open Go Go.Proofs.Ytefjbpkomphjdaa.pairs Go.Proofs.Ytefjbpkomphjdaa.ords
set_option linter.unusedVariables false

def prText (p : Pr) : List UInt8 := p.1.data.toList ++ 61 :: p.2.data.toList
def pairsText (l : List Pr) : List UInt8 := if l = [] then [101, 109, 112, 116, 121] else Lib.join (l.map prText) [32]

/-! ### what the signs of a word tell, one by one -/
theorem ba_size (l : List UInt8) : (⟨l.toArray⟩ : ByteArray).size = l.length := by simp [ByteArray.size]
theorem size_len (s : ByteArray) : s.data.toList.length = s.size := by rw [Array.length_toList]; rfl
/-! ### all words -/
/-! ### they come back -/
end Go.Proofs.Ytefjbpkomphjdaa.txts

namespace Go.Proofs.Ytefjbpkomphjdaa.pairs
open Go Go.RowKit Go.Proofs.Ytefjbpkomphjdaa.base
set_option linter.unusedVariables false
set_option linter.unusedSimpArgs false

def small (p : Pr) : Prop := p.1.size ≤ maxLen ∧ p.2.size ≤ maxLen
def pairVals (l : List Pr) : List Value := l.flatMap fun p => [.string p.1, .string p.2]
theorem pairVals_cons (p : Pr) (l : List Pr) : pairVals (p :: l) = .string p.1 :: .string p.2 :: pairVals l := rfl
theorem pairVals_key (l : List Pr) (i : Nat) (h : i < l.length) : (pairVals l)[i * 2]? = some (.string l[i].1) := by
  induction l generalizing i with
  | nil => simp at h
  | cons p l ih =>
    cases i with
    | zero => rfl
    | succ i => rw [pairVals_cons, show (i + 1) * 2 = i * 2 + 1 + 1 by omega]; simpa using ih i (by simpa using h)
theorem pairVals_val (l : List Pr) (i : Nat) (h : i < l.length) : (pairVals l)[i * 2 + 1]? = some (.string l[i].2) := by
  induction l generalizing i with
  | nil => simp at h
  | cons p l ih =>
    cases i with
    | zero => rfl
    | succ i => rw [pairVals_cons, show (i + 1) * 2 + 1 = i * 2 + 1 + 1 + 1 by omega]; simpa using ih i (by simpa using h)
theorem pairVals_setKey (l : List Pr) (i : Nat) (h : i < l.length) (k : ByteArray) : (pairVals l).set (i * 2) (.string k) = pairVals (l.set i (k, l[i].2)) := by
  induction l generalizing i with
  | nil => simp at h
  | cons p l ih =>
    cases i with
    | zero => rfl
    | succ i => rw [pairVals_cons, show (i + 1) * 2 = i * 2 + 1 + 1 by omega]; simp only [List.set_cons_succ, pairVals_cons, List.getElem_cons_succ]; rw [ih i (by simpa using h)]
theorem pairVals_setVal (l : List Pr) (i : Nat) (h : i < l.length) (v : ByteArray) : (pairVals l).set (i * 2 + 1) (.string v) = pairVals (l.set i (l[i].1, v)) := by
  induction l generalizing i with
  | nil => simp at h
  | cons p l ih =>
    cases i with
    | zero => rfl
    | succ i => rw [pairVals_cons, show (i + 1) * 2 + 1 = i * 2 + 1 + 1 + 1 by omega]; simp only [List.set_cons_succ, pairVals_cons, List.getElem_cons_succ]; rw [ih i (by simpa using h)]

/-! ### slices of pairs that are read -/
def CellsP (w : World) (b off : Nat) (l : List Pr) : Prop := ∀ i (h : i < l.length), w.cell? ⟨b, off + i * 2, none⟩ = some (.string l[i].1) ∧ w.cell? ⟨b, off + i * 2 + 1, none⟩ = some (.string l[i].2)
def SlP (w : World) (a : Option Addr) (len : Nat) (l : List Pr) : Prop :=
  l.length = len ∧ len ≤ maxLen ∧ (∀ p ∈ l, small p) ∧ (0 < len → ∃ b off, a = some ⟨b, off, none⟩ ∧ CellsP w b off l)
theorem slp_nil (w : World) (a : Option Addr) : SlP w a 0 [] := ⟨rfl, Nat.zero_le _, (fun _ h => absurd h List.not_mem_nil), fun h => absurd h (by omega)⟩
section
variable {w w' : World} {a : Option Addr} {b off len base base' g n cap : Nat} {l : List Pr} {row : Option Nat}
theorem SlP.cells (h : SlP w (some ⟨b, off, none⟩) len l) : CellsP w b off l := by
  intro i hi
  obtain ⟨b', off', e, hc⟩ := h.2.2.2 (by have := h.1; omega)
  simp only [Option.some.injEq, Addr.mk.injEq, and_true] at e
  obtain ⟨rfl, rfl⟩ := e
  exact hc i hi
theorem SlP.lt (h : SlP w (some ⟨b, off, none⟩) len l) (h0 : 0 < len) : b < w.heap.size :=
  World.block_lt_of_cell? w _ (h.cells 0 (by have := h.1; omega)).1
theorem CellsP.keep (h : CellsP w b off l) (hk : ∀ o v, w.cell? ⟨b, o, none⟩ = some v → w'.cell? ⟨b, o, none⟩ = some v) : CellsP w' b off l :=
  fun i hi => ⟨hk _ _ (h i hi).1, hk _ _ (h i hi).2⟩
theorem SlP.below (h : SlP w a len l) (hb : Below w.heap.size w w') : SlP w' a len l := by
  obtain ⟨h1, h2, h4, h3⟩ := h
  refine ⟨h1, h2, h4, fun h0 => ?_⟩
  obtain ⟨b, off, rfl, hc⟩ := h3 h0
  exact ⟨b, off, rfl, hc.keep fun o v hv => (hb.cell (p := ⟨b, o, none⟩) (World.block_lt_of_cell? w _ hv)).trans hv⟩
theorem SlP.grown (h : SlP w (some ⟨b, off, none⟩) len l) (hg : w.grownBy w' row) (hne : some b ≠ row) : SlP w' (some ⟨b, off, none⟩) len l :=
  ⟨h.1, h.2.1, h.2.2.1, fun _ => ⟨b, off, rfl, h.cells.keep fun o v hv => hg.cell hv hne⟩⟩

/-! ### rows of pairs that a call made -/
def OwnP (w : World) (base g n cap : Nat) (l : List Pr) : Prop := l.length = n ∧ (∀ p ∈ l, small p) ∧ w.ownsRow base 36 2 (.slice (some ⟨g, 0, none⟩) n cap) n (pairVals l)
theorem OwnP.lt (h : OwnP w base g n cap l) : base ≤ g ∧ g < w.heap.size := h.2.2.lt g rfl
theorem OwnP.cases (h : OwnP w base g n cap l) : n ≤ cap ∧ cap ≤ maxLen := by
  rcases h.2.2.2 with ⟨h', _⟩ | ⟨g', cap', cur, h', _, hg, h1, h2, _⟩
  · simp at h'
  · simp only [Value.slice.injEq, Option.some.injEq, Addr.mk.injEq, and_true, true_and] at h'
    obtain ⟨rfl, rfl⟩ := h'
    exact ⟨h1, h2⟩
theorem OwnP.mono (h : OwnP w base g n cap l) (hb : base' ≤ base) : OwnP w base' g n cap l := by
  refine ⟨h.1, h.2.1, h.2.2.1, ?_⟩
  rcases h.2.2.2 with h' | ⟨g', cap', cur, h', h0, r⟩
  · exact .inl h'
  · exact .inr ⟨g', cap', cur, h', by omega, r⟩
theorem OwnP.cell (h : OwnP w base g n cap l) : CellsP w g 0 l := by
  intro i hi
  have hl := h.1
  have k1 := h.2.2.cellAt (i * 2) (by omega)
  have k2 := h.2.2.cellAt (i * 2 + 1) (by omega)
  rw [pairVals_key l i hi] at k1
  rw [pairVals_val l i hi] at k2
  rw [Nat.zero_add]
  exact ⟨k1, k2⟩
theorem OwnP.key (h : OwnP w base g n cap l) (i : Nat) (hi : i < l.length) : w.cell? ⟨g, i * 2, none⟩ = some (.string l[i].1) := by
  have := (h.cell i hi).1; rwa [Nat.zero_add] at this
theorem OwnP.val (h : OwnP w base g n cap l) (i : Nat) (hi : i < l.length) : w.cell? ⟨g, i * 2 + 1, none⟩ = some (.string l[i].2) := by
  have := (h.cell i hi).2; rwa [Nat.zero_add] at this
theorem OwnP.frozen (h : OwnP w base g n cap l) (i : Nat) : w.frozen? ⟨g, i, none⟩ = false := h.2.2.frozenAt i
theorem OwnP.sl (h : OwnP w base g n cap l) : SlP w (some ⟨g, 0, none⟩) n l :=
  ⟨h.1, by have := h.cases; omega, h.2.1, fun _ => ⟨g, 0, rfl, h.cell⟩⟩
theorem OwnP.grown (h : OwnP w base g n cap l) (hg : w.grownBy w' row) (hne : some g ≠ row) : OwnP w' base g n cap l :=
  ⟨h.1, h.2.1, h.2.2.kept hg (.inr hne)⟩
theorem OwnP.below (h : OwnP w base g n cap l) (hb : Below w.heap.size w w') : OwnP w' base g n cap l :=
  ⟨h.1, h.2.1, h.2.2.kept (row := none) ⟨hb.os, hb.tape, hb.output, hb.size, fun k hk _ => hb.block k hk⟩ (.inr (by simp [Value.ownBlock]))⟩
theorem mem_set_small {i : Nat} {p : Pr} (h : ∀ q ∈ l, small q) (hp : small p) : ∀ q ∈ l.set i p, small q := by
  intro q hq
  rcases List.mem_or_eq_of_mem_set hq with h1 | h1
  · exact h q h1
  · subst h1; exact hp
theorem OwnP.setKey (h : OwnP w base g n cap l) (i : Nat) (hi : i < l.length) (k : ByteArray) (hk : k.size ≤ maxLen) :
    OwnP (w.setCell ⟨g, i * 2, none⟩ (.string k)) base g n cap (l.set i (k, l[i].2)) ∧ w.grownBy (w.setCell ⟨g, i * 2, none⟩ (.string k)) (some g) := by
  have hs := h.2.2.stored (i * 2) (.string k)
  rw [pairVals_setKey l i hi] at hs
  exact ⟨⟨by simpa using h.1, mem_set_small h.2.1 ⟨hk, (h.2.1 _ (List.getElem_mem hi)).2⟩, hs.1⟩, hs.2⟩
theorem OwnP.setVal (h : OwnP w base g n cap l) (i : Nat) (hi : i < l.length) (v : ByteArray) (hv : v.size ≤ maxLen) :
    OwnP (w.setCell ⟨g, i * 2 + 1, none⟩ (.string v)) base g n cap (l.set i (l[i].1, v)) ∧ w.grownBy (w.setCell ⟨g, i * 2 + 1, none⟩ (.string v)) (some g) := by
  have hs := h.2.2.stored (i * 2 + 1) (.string v)
  rw [pairVals_setVal l i hi] at hs
  exact ⟨⟨by simpa using h.1, mem_set_small h.2.1 ⟨(h.2.1 _ (List.getElem_mem hi)).1, hv⟩, hs.1⟩, hs.2⟩
theorem OwnP.setBoth (h : OwnP w base g n cap l) (i : Nat) (hi : i < l.length) (k v : ByteArray) (hk : k.size ≤ maxLen) (hv : v.size ≤ maxLen) :
    OwnP ((w.setCell ⟨g, i * 2, none⟩ (.string k)).setCell ⟨g, i * 2 + 1, none⟩ (.string v)) base g n cap (l.set i (k, v)) ∧ w.grownBy ((w.setCell ⟨g, i * 2, none⟩ (.string k)).setCell ⟨g, i * 2 + 1, none⟩ (.string v)) (some g) := by
  have h1 := h.setKey i hi k hk
  have h2 := h1.1.setVal i (by simpa using hi) v hv
  simp only [List.getElem_set_self, List.set_set] at h2
  exact ⟨h2.1, grownBy_trans h1.2 h2.2⟩
end
theorem infoP : (Try.prog.info? 36).map (fun i => (i.zero, i.size, i.bytes)) = some (some (.agg #[.string ⟨#[]⟩, .string ⟨#[]⟩]), 2, 32) := by kernel_rfl

end Go.Proofs.Ytefjbpkomphjdaa.pairs

namespace Go.Proofs.Ytefjbpkomphjdaa.ords
open Go Go.RowKit Go.Proofs.Ytefjbpkomphjdaa.base Go.Proofs.Ytefjbpkomphjdaa.pairs
set_option linter.unusedVariables false
set_option linter.unusedSimpArgs false

/-! ### slices of orders that are read -/
section
variable {w w' : World} {a : Option Addr} {b off len base base' g n cap : Nat} {l : List Od} {row : Option Nat}
/-! ### rows of orders that a call made -/
end
end Go.Proofs.Ytefjbpkomphjdaa.ords

namespace Go.Proofs.Ytefjbpkomphjdaa.pairs
open Go Go.RowKit Go.Proofs.Ytefjbpkomphjdaa.base
set_option linter.unusedVariables false
set_option linter.unusedSimpArgs false

theorem str_ne {a b : ByteArray} (h : a ≠ b) : (a.toList == b.toList) = false := by
  rw [beq_eq_false_iff_ne]; intro e; rw [ByteArray.toList_eq, ByteArray.toList_eq] at e; exact h (bytes_ext e)



end Go.Proofs.Ytefjbpkomphjdaa.pairs

namespace Go.Proofs.Ytefjbpkomphjdaa.pairs
open Go Go.RowKit Go.Proofs.Ytefjbpkomphjdaa.base
set_option linter.unusedVariables false
set_option linter.unusedSimpArgs false

theorem take_snocP (l : List Pr) (k : Nat) (h : k < l.length) : l.take (k + 1) = l.take k ++ [l[k]] := List.take_succ_eq_append_getElem h
end Go.Proofs.Ytefjbpkomphjdaa.pairs

namespace Go.Proofs.Ytefjbpkomphjdaa.pairs
open Go Go.RowKit Go.Proofs.Ytefjbpkomphjdaa.base
set_option linter.unusedVariables false
set_option linter.unusedSimpArgs false

end Go.Proofs.Ytefjbpkomphjdaa.pairs

namespace Go.Proofs.Ytefjbpkomphjdaa.last
open Go Go.RowKit
section
variable {P : Program} {ops : Array Oper} {md : Region.Mode} {C : World → Prop}

/-! ### calls that make memory: the class of the worlds that go on from w -/
def On (B : Nat) (w : World) : Type := { w' : World // Below B w w' }
def On.w {B : Nat} {w : World} (x : On B w) : World := x.1
theorem On.inh (B : Nat) (w : World) : Nonempty (On B w) := ⟨⟨w, Below.refl _ _⟩⟩
theorem wp_region_on {id : Nat} {Q : Exit → Act → World → Prop} {a : Act} {w : World} {l : List Oper} (B : Nat) (hm : P.follows .mixedOrders = true) (hB : Region.lexB .any l.toArray = true)
    (h : wpQuiet P l.toArray (fun w' => ∃ x : On B w, w' = x.w) (fun a' => ∀ w', (∃ x : On B w, w' = x.w) → Q .normal a' w') l a) : (Code.region id l.toArray true).wp P Q a w :=
  wp_region_quiet (C := fun w' => ∃ x : On B w, w' = x.w) hm hB ⟨⟨w.drew, (Below.refl _ _).drew⟩, rfl⟩ (by simpa using h)
theorem Calls.on {f : FuncId} {args : Array Value} {B : Nat} {w : World} {v : Value} (x : On B w) (hBw : B ≤ w.heap.size) (h : Calls P f args x.w fun e w' => e = .returned v ∧ Below x.w.heap.size x.w w') :
    Calls P f args x.w fun e w'' => e = .returned v ∧ ∃ y : On B w, w'' = y.w :=
  h.mono fun _ w'' ⟨he, hb⟩ => ⟨he, ⟨w'', x.2.trans (hb.mono (Nat.le_trans hBw x.2.size))⟩, rfl⟩
theorem On.cell {B : Nat} {w : World} {b o : Nat} {v : Value} (h : w.cell? ⟨b, o, none⟩ = some v) (hb : b < B) : ∀ x : On B w, x.w.cell? ⟨b, o, none⟩ = some v :=
  fun x => (x.2.cell (p := ⟨b, o, none⟩) hb).trans h

end
end Go.Proofs.Ytefjbpkomphjdaa.last

namespace Go.Proofs.Ytefjbpkomphjdaa.pairs
open Go Go.RowKit Go.Proofs.Ytefjbpkomphjdaa.base
set_option linter.unusedVariables false
set_option linter.unusedSimpArgs false

end Go.Proofs.Ytefjbpkomphjdaa.pairs

namespace Go.Proofs.Ytefjbpkomphjdaa.ords
open Go Go.RowKit Go.Proofs.Ytefjbpkomphjdaa.base Go.Proofs.Ytefjbpkomphjdaa.pairs
set_option linter.unusedVariables false
set_option linter.unusedSimpArgs false

end Go.Proofs.Ytefjbpkomphjdaa.ords

namespace Go.Proofs.Ytefjbpkomphjdaa.txts
open Go Go.RowKit Go.Proofs.Ytefjbpkomphjdaa.base Go.Proofs.Ytefjbpkomphjdaa.pairs Go.Proofs.Ytefjbpkomphjdaa.ords
set_option linter.unusedVariables false
set_option linter.unusedSimpArgs false

end Go.Proofs.Ytefjbpkomphjdaa.txts

namespace Go.Proofs.Ytefjbpkomphjdaa.txts
open Go Go.RowKit Go.Proofs.Ytefjbpkomphjdaa.base Go.Proofs.Ytefjbpkomphjdaa.pairs Go.Proofs.Ytefjbpkomphjdaa.ords
set_option linter.unusedVariables false
set_option linter.unusedSimpArgs false

section
variable {X : Nat} {p q : Od} {w w' : World}
end
end Go.Proofs.Ytefjbpkomphjdaa.txts

namespace Go.Proofs.Ytefjbpkomphjdaa.base
open Go.RowKit
set_option linter.unusedVariables false
set_option linter.unusedSimpArgs false

end Go.Proofs.Ytefjbpkomphjdaa.base

namespace Go.Proofs.Ytefjbpkomphjdaa.pairs
open Go Go.RowKit Go.Proofs.Ytefjbpkomphjdaa.base
set_option linter.unusedVariables false
set_option linter.unusedSimpArgs false

end Go.Proofs.Ytefjbpkomphjdaa.pairs

namespace Go.Proofs.Ytefjbpkomphjdaa.txts
open Go Go.RowKit Go.Proofs.Ytefjbpkomphjdaa.base Go.Proofs.Ytefjbpkomphjdaa.pairs Go.Proofs.Ytefjbpkomphjdaa.ords
set_option linter.unusedVariables false
set_option linter.unusedSimpArgs false

/-! ### a sign -/
end Go.Proofs.Ytefjbpkomphjdaa.txts

namespace Go.Proofs.Ytefjbpkomphjdaa.ords
open Go Go.RowKit Go.Proofs.Ytefjbpkomphjdaa.base Go.Proofs.Ytefjbpkomphjdaa.pairs
set_option linter.unusedVariables false
set_option linter.unusedSimpArgs false

end Go.Proofs.Ytefjbpkomphjdaa.ords

namespace Go.Proofs.Ytefjbpkomphjdaa.hash
open Go.RowKit Go.Proofs.Ytefjbpkomphjdaa.base
set_option linter.unusedVariables false
set_option linter.unusedSimpArgs false


end Go.Proofs.Ytefjbpkomphjdaa.hash

namespace Go.Proofs.Ytefjbpkomphjdaa.ords
open Go Go.RowKit Go.Proofs.Ytefjbpkomphjdaa.base Go.Proofs.Ytefjbpkomphjdaa.pairs
set_option linter.unusedVariables false
set_option linter.unusedSimpArgs false

end Go.Proofs.Ytefjbpkomphjdaa.ords

namespace Go.Proofs.Ytefjbpkomphjdaa.ords
open Go Go.RowKit Go.Proofs.Ytefjbpkomphjdaa.base Go.Proofs.Ytefjbpkomphjdaa.pairs
set_option linter.unusedVariables false
set_option linter.unusedSimpArgs false

end Go.Proofs.Ytefjbpkomphjdaa.ords

namespace Go.Proofs.Ytefjbpkomphjdaa.txts
open Go Go.RowKit Go.Proofs.Ytefjbpkomphjdaa.base Go.Proofs.Ytefjbpkomphjdaa.pairs Go.Proofs.Ytefjbpkomphjdaa.ords
set_option linter.unusedVariables false
set_option linter.unusedSimpArgs false

end Go.Proofs.Ytefjbpkomphjdaa.txts

namespace Go.Proofs.Ytefjbpkomphjdaa.txts
open Go Go.RowKit Go.Proofs.Ytefjbpkomphjdaa.base Go.Proofs.Ytefjbpkomphjdaa.pairs Go.Proofs.Ytefjbpkomphjdaa.ords
set_option linter.unusedVariables false
set_option linter.unusedSimpArgs false

/-! ### texts joined by a blank, as far as k -/
def jn (ts : List (List UInt8)) (k : Nat) : ByteArray := ⟨(Lib.join (ts.take k) [32]).toArray⟩
def room (ts : List (List UInt8)) : Nat := Lib.lens ts + ts.length
theorem jn_zero (ts : List (List UInt8)) : jn ts 0 = ⟨#[]⟩ := rfl
theorem jn_all (ts : List (List UInt8)) : jn ts ts.length = ⟨(Lib.join ts [32]).toArray⟩ := by unfold jn; rw [List.take_length]
theorem jn_first (ts : List (List UInt8)) (h : 0 < ts.length) : jn ts 1 = ⟨ts[0].toArray⟩ := by
  cases ts with
  | nil => simp at h
  | cons a r => unfold jn; simp [Lib.join_one]
theorem jn_more (ts : List (List UInt8)) (k : Nat) (h : k < ts.length) (h0 : 0 < k) : (jn ts (k + 1)).data.toList = (jn ts k).data.toList ++ 32 :: ts[k] := by
  cases ts with
  | nil => simp at h
  | cons a r =>
    obtain ⟨j, rfl⟩ : ∃ j, k = j + 1 := ⟨k - 1, by omega⟩
    have hj : j < r.length := by simpa using h
    unfold jn
    simp only [List.take_succ_cons, List.getElem_cons_succ]
    rw [Lib.join_cons, Lib.join_cons, Lib.joinTail_take_succ [32] r j r[j] (List.getElem?_eq_getElem hj)]
    simp
theorem lens_take (ts : List (List UInt8)) (k : Nat) : Lib.lens (ts.take k) ≤ Lib.lens ts := by
  unfold Lib.lens
  induction ts generalizing k with
  | nil => simp
  | cons a r ih =>
    cases k with
    | zero => simp
    | succ k => simp only [List.take_succ_cons, List.map_cons, List.sum_cons]; have := ih k; omega
theorem join_room (ts : List (List UInt8)) : (Lib.join ts [32]).length ≤ room ts := by
  unfold room
  cases ts with
  | nil => simp [Lib.join_nil]
  | cons a r => rw [Lib.join_length]; simp only [List.length_cons, List.length_nil, Nat.zero_add, Nat.one_mul]; omega
theorem jn_size (ts : List (List UInt8)) (k : Nat) : (jn ts k).size ≤ room ts := by
  unfold jn
  rw [ba_size]
  have h1 := join_room (ts.take k)
  have h2 := lens_take ts k
  unfold room at h1 ⊢
  rw [List.length_take] at h1
  omega
theorem lens_mem (ts : List (List UInt8)) (t : List UInt8) (h : t ∈ ts) : t.length ≤ Lib.lens ts := by
  unfold Lib.lens
  induction ts with
  | nil => cases h
  | cons a r ih =>
    simp only [List.map_cons, List.sum_cons]
    rcases List.mem_cons.1 h with rfl | h
    · omega
    · have := ih h; omega
theorem add_str (a b c : ByteArray) (hc : c = a ++ b) (h : a.size + b.size ≤ 9223372036854775807) (W : World) : (Op.stringOp .add a b).run Try.prog W = .ok (.string c) W := by
  rw [hc]; exact run_string_add_sum W a b h
theorem app_size {a b c : ByteArray} (hc : c = a ++ b) : c.size = a.size + b.size := by rw [hc, ByteArray.size_append]
theorem app_list {a b c : ByteArray} (hc : c = a ++ b) : c.data.toList = a.data.toList ++ b.data.toList := by rw [hc, ByteArray.data_append, Array.toList_append]
theorem prs_room (l : List Pr) : room (l.map prText) ≤ (l.map fun p => p.1.size + p.2.size).sum + 2 * l.length := by
  unfold room Lib.lens
  induction l with
  | nil => simp
  | cons p l ih =>
    have h1 := size_len p.1
    have h2 := size_len p.2
    simp only [List.map_cons, List.sum_cons, List.length_cons] at ih ⊢
    have : (prText p).length = p.1.size + p.2.size + 1 := by unfold prText; simp only [List.length_append, List.length_cons]; omega
    omega
set_option maxRecDepth 100000 in
set_option maxHeartbeats 4000000 in
theorem spec_pairsText (b len cap : Nat) (l : List Pr) (w : World) (h : SlP w (some ⟨b, 0, none⟩) len l) (hrm : room (l.map prText) ≤ 1099511627776) :
    Calls Try.prog 20 #[.slice (some ⟨b, 0, none⟩) len cap] w fun e w' => e = .returned (.string ⟨(pairsText l).toArray⟩) ∧ Below w.heap.size w w' := by
  have hl := h.1
  subst hl
  by_cases hn : l = []
  · subst hn
    go_enter Try.func20, Try.ntmps20
    go_wp2_with fail
    go_ret
    exact ⟨rfl, Below.refl _ _⟩
  · have hl0 : 0 < l.length := List.length_pos_iff.2 hn
    have HJJ : Hid ((⟨(pairsText l).toArray⟩ : ByteArray) = jn (l.map prText) l.length) := by
      show _ = _; unfold pairsText; rw [if_neg hn, ← jn_all, List.length_map]
    have hmx := h.2.1
    unfold maxLen at hmx
    have hli : ¬ (l.length : Int) = 0 := by omega
    have hli2 : ((l.length : Int) == 0) = false := by rw [beq_eq_false_iff_ne]; omega
    clear hn
    go_enter Try.func20, Try.ntmps20
    go_wp2_with fail
    go_loopw [3, 4] (fun t i wr => ∃ k : Nat, i = .int .i64 (k : Int) ∧ k ≤ l.length ∧ t = .string (jn (l.map prText) k) ∧ Below w.heap.size w wr) (fun t i _ => l.length - (intOf i).toNat)
    case atStart => exact ⟨0, rfl, Nat.zero_le _, rfl, Below.refl _ _⟩
    case round =>
      obtain ⟨k, rfl, hk, rfl, hB⟩ := hrel
      by_cases hlt : k < l.length
      · have hki : (k : Int) < (l.length : Int) := by omega
        have hS := h.below hB
        obtain ⟨c0, c1⟩ := hS.cells k hlt
        simp only [Nat.zero_add] at c0 c1
        have hsz := jn_size (l.map prText) k
        have hlm : k < (l.map prText).length := by simpa using hlt
        have hmem := lens_mem (l.map prText) _ (List.getElem_mem hlm)
        obtain ⟨o, hko⟩ : ∃ o, l[k] = o := ⟨_, rfl⟩
        have hgm : (l.map prText)[k] = prText o := by rw [List.getElem_map, hko]
        rw [hgm] at hmem
        have hpl : (prText o).length = o.1.size + o.2.size + 1 := by
          have h1 := size_len o.1
          have h2 := size_len o.2
          unfold prText; simp only [List.length_append, List.length_cons]; omega
        have hrm2 := hrm
        unfold room at hrm2
        rw [hko] at c0 c1
        clear hS
        by_cases h0 : k = 0
        · have HNX : Hid ((jn (l.map prText) (k + 1)).data.toList = (jn (l.map prText) k).data.toList ++ prText o) := by
            show _ = _
            subst h0
            rw [jn_first _ hlm, hgm, jn_zero]; simp
          have hkg : ¬ (0 : Int) < (k : Int) := by omega
          have hkg2 : decide ((0 : Int) < (k : Int)) = false := by simp; omega
          have hk0n : decide (0 < k) = false := by simp; omega
          obtain ⟨u, hu⟩ : ∃ u, jn (l.map prText) k = u := ⟨_, rfl⟩
          rw [hu] at HNX hsz ⊢
          have hszu : u.size ≤ 2199023255552 := by omega
          clear hu h0 hgm
          obtain ⟨u1, hu1⟩ : ∃ u1, u1 = u ++ o.1 := ⟨_, rfl⟩
          obtain ⟨u2, hu2⟩ : ∃ u2, u2 = u1 ++ (⟨#[61]⟩ : ByteArray) := ⟨_, rfl⟩
          obtain ⟨u3, hu3⟩ : ∃ u3, u3 = u2 ++ o.2 := ⟨_, rfl⟩
          have s1 := app_size hu1
          have s2 : u2.size = u1.size + 1 := app_size hu2
          have a1 := add_str u o.1 u1 hu1 (by omega)
          have a2 := add_str u1 ⟨#[61]⟩ u2 hu2 (by show u1.size + 1 ≤ _; omega)
          have a3 := add_str u2 o.2 u3 hu3 (by omega)
          have HJ : Hid (u3 = jn (l.map prText) (k + 1)) := by
            show _ = _
            apply bytes_ext
            rw [HNX.out, app_list hu3, app_list hu2, app_list hu1]
            simp [prText]
          clear hu1 hu2 hu3 s1 s2 hszu hsz hpl hmem hrm2
          go_wp2_with fail
          go_quiet (fail)
          go_wp2_with fail
          go_roundw
          case rel => exact ⟨k + 1, by go_num, by omega, by rw [HJ.out], below_drewN hB _⟩
          case measure => simp [intOf]; omega
        · have hjm := jn_more (l.map prText) k hlm (by omega)
          rw [hgm] at hjm
          have hkg : (0 : Int) < (k : Int) := by omega
          have hkg2 : decide ((0 : Int) < (k : Int)) = true := by simp; omega
          have hk0n : decide (0 < k) = true := by simp; omega
          obtain ⟨t, ht⟩ : ∃ t, jn (l.map prText) k = t := ⟨_, rfl⟩
          rw [ht] at hjm hsz ⊢
          obtain ⟨u, hu⟩ : ∃ u, u = t ++ (⟨#[32]⟩ : ByteArray) := ⟨_, rfl⟩
          have s0 : u.size = t.size + 1 := app_size hu
          have a0 := add_str t ⟨#[32]⟩ u hu (by show t.size + 1 ≤ _; omega)
          have HNX : Hid ((jn (l.map prText) (k + 1)).data.toList = u.data.toList ++ prText o) := by
            show _ = _
            rw [hjm, app_list hu]; simp
          have hszu : u.size ≤ 2199023255552 := by omega
          clear hu ht s0 hjm h0 hgm
          obtain ⟨u1, hu1⟩ : ∃ u1, u1 = u ++ o.1 := ⟨_, rfl⟩
          obtain ⟨u2, hu2⟩ : ∃ u2, u2 = u1 ++ (⟨#[61]⟩ : ByteArray) := ⟨_, rfl⟩
          obtain ⟨u3, hu3⟩ : ∃ u3, u3 = u2 ++ o.2 := ⟨_, rfl⟩
          have s1 := app_size hu1
          have s2 : u2.size = u1.size + 1 := app_size hu2
          have a1 := add_str u o.1 u1 hu1 (by omega)
          have a2 := add_str u1 ⟨#[61]⟩ u2 hu2 (by show u1.size + 1 ≤ _; omega)
          have a3 := add_str u2 o.2 u3 hu3 (by omega)
          have HJ : Hid (u3 = jn (l.map prText) (k + 1)) := by
            show _ = _
            apply bytes_ext
            rw [HNX.out, app_list hu3, app_list hu2, app_list hu1]
            simp [prText]
          clear hu1 hu2 hu3 s1 s2 hszu hsz hpl hmem hrm2
          go_wp2_with fail
          go_quiet (fail)
          go_wp2_with fail
          go_roundw
          case rel => exact ⟨k + 1, by go_num, by omega, by rw [HJ.out], below_drewN hB _⟩
          case measure => simp [intOf]; omega
      · have hki : ¬ (k : Int) < (l.length : Int) := by omega
        obtain rfl : k = l.length := by omega
        go_wp2_with fail
        go_ret
        exact ⟨ret_str HJJ.out.symm, hB⟩

end Go.Proofs.Ytefjbpkomphjdaa.txts

namespace Go.Proofs.Ytefjbpkomphjdaa.ords
open Go Go.RowKit Go.Proofs.Ytefjbpkomphjdaa.base Go.Proofs.Ytefjbpkomphjdaa.pairs
set_option linter.unusedVariables false
set_option linter.unusedSimpArgs false

/-! ### orders that rise -/
end Go.Proofs.Ytefjbpkomphjdaa.ords
