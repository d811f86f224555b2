/- Plain mathematics and small facts on worlds, used by the proofs of this seat: no program is named here. Rows that a call makes, appends and conversions: small facts on worlds; no function of the program is named here. Codes that are too long. Plain mathematics of pairs of texts. Plain mathematics of the laws on pairs. The laws' own helpers on slices of bytes: what each call does. Reading a number: the program's and the specification's GetNum answer as one and the same function. The specification's GetNum answers as the same function. Reading a text: the program's and the specification's GetText answer as one and the same function. The laws' own helpers on slices of strings: what each call does. Reading a list of texts: the program's and the specification's GetTexts answer as one and the same function. Writing a number: the program's and the specification's PutNum answer as one and the same function. Writing texts: the program's and the specification's PutText answer as one and the same function. Writing a list of texts: the program's and the specification's PutTexts answer as one and the same function. Plain mathematics: numbers and texts come back of their bytes. Plain mathematics of orders: what is told of them, their bytes, and that these come back. Plain mathematics of statements: orders and pairs as texts, the words of a text, and that they come back. Rows of pairs of texts: small facts on worlds; no function of the program is named here. Rows of orders (three cells each): small facts on worlds; no function of the program is named here. The specification's keys and pairs: what is right, what is got. The specification's lists of pairs. -/
import Derived.WalkKit
import Derived.WalkSpells
import Derived.WalkLawsBesides
import Derived.Lib.ConvBytes
import Derived.Test.YtefjbpkomphjdaaRows
import Derived.Deep.QuietTactic
import Derived.BigQuiet
import Derived.Deep.RegionWith
import Derived.Laws.CopyOwn
import Derived.Laws.BytesArg
import Derived.Lib.AppendStr
import Derived.ArgAppend
import Derived.Deep.RegionLaw
import Derived.Sort.Walk0
import Derived.WideShapes
import Derived.Lib.Join
import Derived.OwnWalk
import Derived.Deep.RegionHeld3
namespace Go.Proofs.Ytefjbpkomphjdaa.base
open Go.RowKit

/-! ### the hash -/
theorem wraps_i64 (n : Int) (h₀ : 0 ≤ n) (h₁ : n < 2 ^ 63) : IntKind.i64.wrap n = n := by rw [IntKind.wrap_i64]; omega
theorem val_int {k : IntKind} {a b : Int} (h : a = b) : Value.int k a = .int k b := by rw [h]
theorem ret_int {k : IntKind} {a b : Int} (h : a = b) : Ending.returned (.int k a) = .returned (.int k b) := by rw [h]


/-! ### worlds -/
/-! ### slices of bytes that are read -/
def Sl (w : World) (a : Option Addr) (len : Nat) (bs : List UInt8) : Prop :=
  bs.length = len ∧ len ≤ maxLen ∧ (0 < len → ∃ b off, a = some ⟨b, off, none⟩ ∧ ∀ i (h : i < bs.length), w.cell? ⟨b, off + i, none⟩ = some (.int .u8 bs[i].toNat))
theorem sl_nil (w : World) (a : Option Addr) : Sl w a 0 [] := ⟨rfl, Nat.zero_le _, fun h => absurd h (by omega)⟩
theorem bounds8 {n : Int} (h : (Lit.int .u8 n).wf = true) : 0 ≤ n ∧ n ≤ 255 := by
  simpa [Lit.wf, IntKind.min, IntKind.max, IntKind.signed, IntKind.bits] using h
theorem sl_of_ints {w : World} {x : Addr} {len cap : Nat} {zs : List Int} (hl : len ≤ cap) (hm : cap ≤ maxLen) (hz : zs.length = cap)
    (hcell : ∀ i, i < zs.length → w.cell? (x.add i) = some (.int .u8 (zs.getD i 0))) (hwz : ∀ n ∈ zs, (Lit.int .u8 n).wf = true) :
    Sl w (some x) len ((zs.take len).map fun n => UInt8.ofNat n.toNat) := by
  refine ⟨by simp; omega, by omega, fun h0 => ?_⟩
  obtain ⟨b, off, spot⟩ := x
  have hspot : spot = none := by simpa [Addr.add] using World.cell?_spot (hcell 0 (by omega))
  subst hspot
  refine ⟨b, off, rfl, fun i h => ?_⟩
  have hi : i < zs.length := by simp at h; omega
  have hc := hcell i hi
  rw [Addr.add_lit] at hc
  rw [hc]
  have hb := bounds8 (hwz zs[i] (List.getElem_mem hi))
  simp only [List.getElem_map, List.getElem_take, List.getD, List.getElem?_eq_getElem hi, Option.getD_some, Option.some.injEq]
  refine val_int ?_
  simp
  omega
theorem Sl.lt {w : World} {b off len : Nat} {bs : List UInt8} (h : Sl w (some ⟨b, off, none⟩) len bs) (h0 : 0 < len) : b < w.heap.size := by
  obtain ⟨h1, _, h3⟩ := h
  obtain ⟨b', off', e, hc⟩ := h3 h0
  simp only [Option.some.injEq, Addr.mk.injEq, and_true] at e
  obtain ⟨rfl, rfl⟩ := e
  exact World.block_lt_of_cell? w _ (hc 0 (by omega))
theorem Sl.at {w : World} {b off len : Nat} {bs : List UInt8} (h : Sl w (some ⟨b, off, none⟩) len bs) (i : Nat) (hi : i < bs.length) : w.cell? ⟨b, off + i, none⟩ = some (.int .u8 bs[i].toNat) := by
  obtain ⟨h1, _, h3⟩ := h
  obtain ⟨b', off', e, hc⟩ := h3 (by omega)
  simp only [Option.some.injEq, Addr.mk.injEq, and_true] at e
  obtain ⟨rfl, rfl⟩ := e
  exact hc i hi
theorem Sl.below {w w' : World} {a : Option Addr} {len : Nat} {bs : List UInt8} (h : Sl w a len bs) (hb : Below w.heap.size w w') : Sl w' a len bs := by
  obtain ⟨h1, h2, h3⟩ := h
  refine ⟨h1, h2, fun h0 => ?_⟩
  obtain ⟨b, off, rfl, hc⟩ := h3 h0
  exact ⟨b, off, rfl, fun i hi => (hb.cell (p := ⟨b, off + i, none⟩) (World.block_lt_of_cell? w _ (hc i hi))).trans (hc i hi)⟩
theorem Sl.grown {w w' : World} {b off len : Nat} {bs : List UInt8} {row : Option Nat} (h : Sl w (some ⟨b, off, none⟩) len bs) (hg : w.grownBy w' row) (hne : some b ≠ row) : Sl w' (some ⟨b, off, none⟩) len bs := by
  have hat := h.at
  exact ⟨h.1, h.2.1, fun h0 => ⟨b, off, rfl, fun i hi => hg.cell (hat i hi) hne⟩⟩

/-! ### slices of bytes that the call itself made -/
def byteVals (bs : List UInt8) : List Value := bs.map fun u => .int .u8 u.toNat
def Own (w : World) (base g n cap : Nat) (bs : List UInt8) : Prop := bs.length = n ∧ w.ownsRow base 5 1 (.slice (some ⟨g, 0, none⟩) n cap) n (byteVals bs)
theorem Own.lt {w : World} {base g n cap : Nat} {bs : List UInt8} (h : Own w base g n cap bs) : base ≤ g ∧ g < w.heap.size := h.2.lt g rfl
theorem Own.max {w : World} {base g n cap : Nat} {bs : List UInt8} (h : Own w base g n cap bs) : n ≤ cap ∧ cap ≤ maxLen := by
  rcases h.2.2 with ⟨h', _⟩ | ⟨g', cap', cur, h', _, hg, h1, h2, _⟩
  · simp at h'
  · simp only [Value.slice.injEq, Option.some.injEq, Addr.mk.injEq, and_true, true_and] at h'
    obtain ⟨rfl, rfl⟩ := h'
    exact ⟨h1, h2⟩
theorem Own.mono {w : World} {base base' g n cap : Nat} {bs : List UInt8} (h : Own w base g n cap bs) (hb : base' ≤ base) : Own w base' g n cap bs := by
  refine ⟨h.1, h.2.1, ?_⟩
  rcases h.2.2 with h' | ⟨g', cap', cur, h', h0, r⟩
  · exact .inl h'
  · exact .inr ⟨g', cap', cur, h', by omega, r⟩
theorem Own.at {w : World} {base g n cap : Nat} {bs : List UInt8} (h : Own w base g n cap bs) (i : Nat) (hi : i < bs.length) : w.cell? ⟨g, i, none⟩ = some (.int .u8 bs[i].toNat) := by
  rw [h.2.cellAt i (by have := h.1; omega)]; simp [byteVals, hi]
theorem Own.frozen {w : World} {base g n cap : Nat} {bs : List UInt8} (h : Own w base g n cap bs) (i : Nat) : w.frozen? ⟨g, i, none⟩ = false := h.2.frozenAt i
theorem Own.sl {w : World} {base g n cap : Nat} {bs : List UInt8} (h : Own w base g n cap bs) : Sl w (some ⟨g, 0, none⟩) n bs :=
  ⟨h.1, by have := h.max; omega, fun _ => ⟨g, 0, rfl, fun i hi => by rw [Nat.zero_add]; exact h.at i hi⟩⟩
theorem Own.grown {w w' : World} {base g n cap : Nat} {bs : List UInt8} {row : Option Nat} (h : Own w base g n cap bs) (hg : w.grownBy w' row) (hne : some g ≠ row) : Own w' base g n cap bs :=
  ⟨h.1, h.2.kept hg (.inr hne)⟩
theorem Own.below {w w' : World} {base g n cap : Nat} {bs : List UInt8} (h : Own w base g n cap bs) (hb : Below w.heap.size w w') : Own w' base g n cap bs :=
  ⟨h.1, h.2.kept (row := none) ⟨hb.os, hb.tape, hb.output, hb.size, fun k hk _ => hb.block k hk⟩ (.inr (by simp [Value.ownBlock]))⟩
theorem below_grown {w w' : World} {B g : Nat} (hg : w.grownBy w' (some g)) (h : B ≤ g) (hB : B ≤ w.heap.size) : Below B w w' :=
  (Below.refl B w).grown hg hB (fun k e => by cases e; exact h)

/-! ### slices of strings -/
def SlS (w : World) (a : Option Addr) (len : Nat) (ss : List ByteArray) : Prop :=
  ss.length = len ∧ len ≤ maxLen ∧ (∀ s ∈ ss, s.size ≤ maxLen) ∧ (0 < len → ∃ b off, a = some ⟨b, off, none⟩ ∧ ∀ i (h : i < ss.length), w.cell? ⟨b, off + i, none⟩ = some (.string ss[i]))
theorem SlS.below {w w' : World} {a : Option Addr} {len : Nat} {ss : List ByteArray} (h : SlS w a len ss) (hb : Below w.heap.size w w') : SlS w' a len ss := by
  obtain ⟨h1, h2, h4, h3⟩ := h
  refine ⟨h1, h2, h4, fun h0 => ?_⟩
  obtain ⟨b, off, rfl, hc⟩ := h3 h0
  exact ⟨b, off, rfl, fun i hi => (hb.cell (p := ⟨b, off + i, none⟩) (World.block_lt_of_cell? w _ (hc i hi))).trans (hc i hi)⟩
def strVals (ss : List ByteArray) : List Value := ss.map fun s => .string s
def OwnS (w : World) (base g n cap : Nat) (ss : List ByteArray) : Prop := ss.length = n ∧ (∀ s ∈ ss, s.size ≤ maxLen) ∧ w.ownsRow base 9 1 (.slice (some ⟨g, 0, none⟩) n cap) n (strVals ss)
section
variable {w w' : World} {base base' g n cap : Nat} {ss : List ByteArray} {row : Option Nat}
theorem OwnS.lt (h : OwnS w base g n cap ss) : base ≤ g ∧ g < w.heap.size := h.2.2.lt g rfl
theorem OwnS.cases (h : OwnS w base g n cap ss) : n ≤ cap ∧ cap ≤ maxLen ∧ ∃ cur, w.heap[g]? = some (.cells cur 9 (0, 0)) := by
  rcases h.2.2.2 with ⟨h', _⟩ | ⟨g', cap', cur, h', _, hg, h1, h2, _⟩
  · simp at h'
  · simp only [Value.slice.injEq, Option.some.injEq, Addr.mk.injEq, and_true, true_and] at h'
    obtain ⟨rfl, rfl⟩ := h'
    exact ⟨h1, h2, cur, hg⟩
theorem OwnS.mono (h : OwnS w base g n cap ss) (hb : base' ≤ base) : OwnS w base' g n cap ss := by
  refine ⟨h.1, h.2.1, h.2.2.1, ?_⟩
  rcases h.2.2.2 with h' | ⟨g', cap', cur, h', h0, r⟩
  · exact .inl h'
  · exact .inr ⟨g', cap', cur, h', by omega, r⟩
theorem OwnS.at (h : OwnS w base g n cap ss) (i : Nat) (hi : i < ss.length) : w.cell? ⟨g, i, none⟩ = some (.string ss[i]) := by
  rw [h.2.2.cellAt i (by have := h.1; omega)]; simp [strVals, hi]
theorem OwnS.frozen (h : OwnS w base g n cap ss) (i : Nat) : w.frozen? ⟨g, i, none⟩ = false := h.2.2.frozenAt i
theorem OwnS.sl (h : OwnS w base g n cap ss) : SlS w (some ⟨g, 0, none⟩) n ss :=
  ⟨h.1, by have := h.cases; omega, h.2.1, fun _ => ⟨g, 0, rfl, fun i hi => by rw [Nat.zero_add]; exact h.at i hi⟩⟩
theorem OwnS.grown (h : OwnS w base g n cap ss) (hg : w.grownBy w' row) (hne : some g ≠ row) : OwnS w' base g n cap ss :=
  ⟨h.1, h.2.1, h.2.2.kept hg (.inr hne)⟩
theorem OwnS.below (h : OwnS w base g n cap ss) (hb : Below w.heap.size w w') : OwnS w' base g n cap ss :=
  ⟨h.1, h.2.1, h.2.2.kept (row := none) ⟨hb.os, hb.tape, hb.output, hb.size, fun k hk _ => hb.block k hk⟩ (.inr (by simp [Value.ownBlock]))⟩
end

end Go.Proofs.Ytefjbpkomphjdaa.base

namespace Go.Proofs.Ytefjbpkomphjdaa.base
open Go.RowKit
set_option linter.unusedVariables false
set_option linter.unusedSimpArgs false

theorem grownBy_trans {a b c : World} {row : Option Nat} (h : a.grownBy b row) (k : b.grownBy c row) : a.grownBy c row :=
  ⟨k.os.trans h.os, k.tape.trans h.tape, k.output.trans h.output, Nat.le_trans h.size k.size, fun i hi hr => (k.block i (Nat.lt_of_lt_of_le hi h.size) hr).trans (h.block i hi hr)⟩
theorem Hid.mk' {p : Prop} (h : p) : Hid p := h
theorem info8 : (Try.prog.info? 5).map (fun i => (i.zero, i.size, i.bytes)) = some (some (.int .u8 0), 1, 1) := by kernel_rfl
theorem le_alloc {base : Nat} (w : World) (o : Obj) (h : base ≤ w.heap.size) : base ≤ (w.alloc o).heap.size := by simp; omega
def cut (bs : List UInt8) (p n : Nat) : ByteArray := ⟨((bs.drop p).take n).toArray⟩
theorem conv_cut {w : World} {b off p n : Nat} {bs : List UInt8} {len : Nat} (h : Sl w (some ⟨b, off, none⟩) len bs) (hp : p + n ≤ bs.length) (c : Nat) :
    (convert 22 9 (.slice (some ⟨b, off + p, none⟩) n c)).run Try.prog w = .ok (.string (cut bs p n)) w := by
  have hr := run_convert_bytes_arg (P := Try.prog) w 22 5 Try.underlying22 Try.underlying5 b (off + p) n c (((bs.drop p).take n).map fun u => (u.toNat : Int)) (by simp; omega) ?_ 9 Try.underlying9
  · rw [hr]
    have e : strOfNums (((bs.drop p).take n).map fun u => (u.toNat : Int)) = cut bs p n := by
      simp [strOfNums, cut, Function.comp_def]
    rw [e]
  · intro i hi
    have hpi : p + i < bs.length := by omega
    rw [show off + p + i = off + (p + i) by omega, h.at (p + i) hpi]
    simp [List.getD, hpi, hi]
theorem info9 : (Try.prog.info? 9).map (fun i => (i.zero, i.size, i.bytes)) = some (some (.string ⟨#[]⟩), 1, 16) := by kernel_rfl
theorem ret_str {a b : ByteArray} (h : a = b) : Ending.returned (.string a) = .returned (.string b) := by rw [h]
theorem grown_below {w w1 w2 : World} {g : Nat} (h : w.grownBy w1 (some g)) (hb : Below w1.heap.size w1 w2) : w.grownBy w2 (some g) :=
  ⟨hb.os.trans h.os, hb.tape.trans h.tape, hb.output.trans h.output, Nat.le_trans h.size hb.size, fun k hk hr => (hb.block k (Nat.lt_of_lt_of_le hk h.size)).trans (h.block k hk hr)⟩
theorem ownS_val {w' : World} {base n : Nat} {v' : Value} {ss : List ByteArray} (hl : ss.length = n) (hs : ∀ s ∈ ss, s.size ≤ maxLen) (h0 : ¬ v' = .slice none 0 0)
    (h : w'.ownsRow base 9 1 v' n (strVals ss)) : ∃ g' cap', v' = .slice (some ⟨g', 0, none⟩) n cap' ∧ OwnS w' base g' n cap' ss := by
  rcases h.2 with ⟨h2, _⟩ | ⟨g', cap', cur, hv, _⟩
  · exact absurd h2 h0
  · subst hv
    exact ⟨g', cap', rfl, hl, hs, h⟩
theorem str_oneCell (x : ByteArray) : ∀ u ∈ [Value.string x], u.oneCell' = true := by
  intro u hu; simp at hu; subst hu; rfl
theorem leAlloc {base : Nat} (w : World) (o : Obj) (h : base ≤ w.heap.size) : base ≤ (w.alloc o).heap.size := by simp; omega
theorem strVals_snoc (ss : List ByteArray) (s : ByteArray) : strVals (ss ++ [s]) = strVals ss ++ [.string s] := by simp [strVals]
theorem cell_cur {w : World} {gc : Nat} {cur : Array Value} {t : TypeId} {mk : Nat × Nat} (h : w.heap[gc]? = some (.cells cur t mk)) (j : Nat) (v : Value) (hj : cur[j]? = some v) : w.cell? ⟨gc, j, none⟩ = some v := by
  rw [cell_of_row w gc j cur t mk h]; exact hj
theorem set_cur {w : World} {gc : Nat} {cur : Array Value} {t : TypeId} (h : w.heap[gc]? = some (.cells cur t (0, 0))) (j : Nat) (v : Value) :
    (w.setCell ⟨gc, j, none⟩ v).heap[gc]? = some (.cells (cur.setIfInBounds j v) t (0, 0)) ∧ w.grownBy (w.setCell ⟨gc, j, none⟩ v) (some gc) :=
  ⟨heap_setCell_same w gc j cur t v h, ⟨rfl, rfl, rfl, by simp, fun k _ hk => heap_setCell_other w ⟨gc, j, none⟩ k v (fun e => hk (by simp [e]))⟩⟩
theorem grown_drewN {w w1 : World} {row : Option Nat} (h : w.grownBy w1 row) (n : Nat) : w.grownBy (w1.drewN n) row := ⟨h.os, h.tape, h.output, h.size, h.block⟩
theorem grown_own {w wr w2 : World} {gc g : Nat} (h : w.grownBy wr (some gc)) (h2 : wr.grownBy w2 (some g)) (hg : w.heap.size ≤ g) : w.grownBy w2 (some gc) :=
  ⟨h2.os.trans h.os, h2.tape.trans h.tape, h2.output.trans h.output, Nat.le_trans h.size h2.size, fun k hk hne => (h2.block k (Nat.lt_of_lt_of_le hk h.size) (by intro e; simp only [Option.some.injEq] at e; omega)).trans (h.block k hk hne)⟩
theorem grown_alloc {w wr : World} {row : Option Nat} (h : w.grownBy wr row) (o : Obj) : w.grownBy (wr.alloc o) row :=
  ⟨h.os, h.tape, h.output, by have := h.size; simp; omega, fun k hk hne => (Below.heap_alloc wr o k (Nat.lt_of_lt_of_le hk h.size)).trans (h.block k hk hne)⟩
theorem grown_alloc0 (w : World) (o : Obj) (row : Option Nat) : w.grownBy (w.alloc o) row := World.grownBy_alloc w o row
theorem conv_own {w : World} {base g m cp : Nat} {bs : List UInt8} (h : Own w base g m cp bs) :
    (convert 22 9 (.slice (some ⟨g, 0, none⟩) m cp)).run Try.prog w = .ok (.string ⟨bs.toArray⟩) w := by
  have h1 := conv_cut (w := w) (b := g) (off := 0) (p := 0) (n := m) h.sl (by have := h.1; omega) cp
  have e : cut bs 0 m = ⟨bs.toArray⟩ := by unfold cut; rw [List.drop_zero, List.take_of_length_le (by have := h.1; omega)]
  rw [e] at h1
  exact h1
def Wr (w : World) (g n : Nat) (bs : List UInt8) : Prop :=
  bs.length = n ∧ n ≤ maxLen ∧ g < w.heap.size ∧ ∀ i (h : i < bs.length), w.cell? ⟨g, i, none⟩ = some (.int .u8 bs[i].toNat) ∧ w.frozen? ⟨g, i, none⟩ = false
theorem Wr.sl {w : World} {g n : Nat} {bs : List UInt8} (h : Wr w g n bs) : Sl w (some ⟨g, 0, none⟩) n bs :=
  ⟨h.1, h.2.1, fun _ => ⟨g, 0, rfl, fun i hi => by rw [Nat.zero_add]; exact (h.2.2.2 i hi).1⟩⟩
theorem Wr.below {w w' : World} {g n : Nat} {bs : List UInt8} (h : Wr w g n bs) (hb : Below w.heap.size w w') : Wr w' g n bs :=
  ⟨h.1, h.2.1, Nat.lt_of_lt_of_le h.2.2.1 hb.size, fun i hi => ⟨(hb.cell (p := ⟨g, i, none⟩) h.2.2.1).trans (h.2.2.2 i hi).1, (hb.frozen (p := ⟨g, i, none⟩) h.2.2.1).trans (h.2.2.2 i hi).2⟩⟩
theorem Own.wr {w : World} {base g n cap : Nat} {bs : List UInt8} (h : Own w base g n cap bs) : Wr w g n bs :=
  ⟨h.1, by have := h.max; omega, h.lt.2, fun i hi => ⟨h.at i hi, h.frozen i⟩⟩
theorem cells_two (w : World) (x y : Value) (t : TypeId) : ∀ j u, [x, y][j]? = some u → (w.alloc (.cells #[x, y] t)).cell? ((⟨w.heap.size, 0, none⟩ : Addr).add j) = some u := by
  intro j u hj
  match j, hj with
  | 0, hj => simp at hj; subst hj; simp [Addr.add]
  | 1, hj => simp at hj; subst hj; simp [Addr.add]
end Go.Proofs.Ytefjbpkomphjdaa.base

namespace Go.Proofs.Ytefjbpkomphjdaa.base
open Go.RowKit
set_option linter.unusedVariables false
theorem big_ (a0 : Option Addr) (len0 cap0 : Nat) (w : World) (h : len0 ≤ maxLen) :
    Calls Try.prog 9 #[.slice a0 len0 cap0] w fun e w' => e = .returned (.bool (decide (1048576 < (len0 : Int)))) ∧ w' = w := by
  unfold maxLen at h
  go_enter Try.func9, Try.ntmps9
  go_wp2
  go_ret
  exact ⟨rfl, rfl⟩
end Go.Proofs.Ytefjbpkomphjdaa.base

namespace Go.Proofs.Ytefjbpkomphjdaa.pairs
open Go
set_option linter.unusedVariables false

abbrev Pr := ByteArray × ByteArray
theorem bytes_ext {a b : ByteArray} (h : a.data.toList = b.data.toList) : a = b := WideShapes.bytes_inj h

/-! ### the order of texts -/
def ltB (a b : ByteArray) : Bool := Op.bytesLess a.toList b.toList
theorem ltB_iff (a b : ByteArray) : ltB a b = true ↔ a.data.toList < b.data.toList := by
  unfold ltB; rw [Proofs.bytesLess_eq, ByteArray.toList_eq, ByteArray.toList_eq]; simp
theorem ltB_irrefl (a : ByteArray) : ltB a a = false := by
  rw [Bool.eq_false_iff]; intro h; exact List.lt_irrefl _ ((ltB_iff a a).1 h)
theorem ltB_trans {a b c : ByteArray} (h : ltB a b = true) (k : ltB b c = true) : ltB a c = true :=
  (ltB_iff a c).2 (List.lt_trans ((ltB_iff a b).1 h) ((ltB_iff b c).1 k))
theorem ltB_asymm {a b : ByteArray} (h : ltB a b = true) : ltB b a = false := by
  rw [Bool.eq_false_iff]; intro k; have := ltB_trans h k; rw [ltB_irrefl] at this; cases this
theorem ltB_total {a b : ByteArray} (h : ltB a b = false) (k : ltB b a = false) : a = b := by
  apply bytes_ext
  have h' : ¬ a.data.toList < b.data.toList := fun e => by rw [(ltB_iff a b).2 e] at h; cases h
  have k' : ¬ b.data.toList < a.data.toList := fun e => by rw [(ltB_iff b a).2 e] at k; cases k
  exact List.le_antisymm (List.not_lt.1 k') (List.not_lt.1 h')
/-! ### the functions -/
def keyCh (c : Nat) : Bool := decide (97 ≤ c ∧ c ≤ 122) || decide (48 ≤ c ∧ c ≤ 57)
def getKey (key : ByteArray) : List Pr → Option ByteArray
  | [] => none
  | p :: l => if p.1 = key then some p.2 else getKey key l
def setFirst (key val : ByteArray) : List Pr → List Pr
  | [] => []
  | p :: l => if p.1 = key then (p.1, val) :: l else p :: setFirst key val l
def below (key : ByteArray) : List Pr → Nat
  | [] => 0
  | p :: l => if ltB key p.1 = true then 0 else below key l + 1
def putKey (key val : ByteArray) (l : List Pr) : List Pr :=
  if (getKey key l).isSome then setFirst key val l else l.take (below key l) ++ (key, val) :: l.drop (below key l)
/-! ### first facts -/
theorem setFirst_length (key val : ByteArray) (l : List Pr) : (setFirst key val l).length = l.length := by
  induction l with
  | nil => rfl
  | cons p l ih => unfold setFirst; split <;> simp [ih]
theorem below_le (key : ByteArray) (l : List Pr) : below key l ≤ l.length := by
  induction l with
  | nil => exact Nat.le_refl _
  | cons p l ih => unfold below; split <;> simp; omega
theorem putKey_length (key val : ByteArray) (l : List Pr) : (putKey key val l).length ≤ l.length + 1 ∧ l.length ≤ (putKey key val l).length := by
  have := below_le key l
  unfold putKey
  split
  · rw [setFirst_length]; omega
  · simp; omega
theorem getKey_drop (key : ByteArray) (l : List Pr) (k : Nat) (h : k < l.length) : getKey key (l.drop k) = if l[k].1 = key then some l[k].2 else getKey key (l.drop (k + 1)) := by
  rw [List.drop_eq_getElem_cons h, getKey]
theorem below_drop (key : ByteArray) (l : List Pr) (k : Nat) (h : k < l.length) : below key (l.drop k) = if ltB key l[k].1 = true then 0 else below key (l.drop (k + 1)) + 1 := by
  rw [List.drop_eq_getElem_cons h, below]
theorem setFirst_at (key val : ByteArray) (l : List Pr) (k : Nat) (h : k < l.length) (he : l[k].1 = key) (hn : getKey key (l.take k) = none) : setFirst key val l = l.set k (key, val) := by
  induction l generalizing k with
  | nil => simp at h
  | cons p l ih =>
    cases k with
    | zero => simp at he; unfold setFirst; rw [if_pos he, he]; rfl
    | succ k =>
      rw [List.take_succ_cons, getKey] at hn
      by_cases hp : p.1 = key
      · rw [if_pos hp] at hn; cases hn
      · rw [if_neg hp] at hn
        unfold setFirst
        rw [if_neg hp, List.set_cons_succ, ih k (by simpa using h) (by simpa using he) hn]
theorem getKey_snoc_none (key : ByteArray) (l : List Pr) (p : Pr) (h : getKey key l = none) (hp : p.1 ≠ key) : getKey key (l ++ [p]) = none := by
  induction l with
  | nil => simp [getKey, hp]
  | cons q l ih =>
    rw [getKey] at h
    by_cases hq : q.1 = key
    · rw [if_pos hq] at h; cases h
    · rw [if_neg hq] at h
      rw [List.cons_append, getKey, if_neg hq]
      exact ih h
theorem getKey_append (key : ByteArray) (a b : List Pr) : getKey key (a ++ b) = (getKey key a).or (getKey key b) := by
  induction a with
  | nil => rfl
  | cons q l ih =>
    rw [List.cons_append, getKey, getKey]
    by_cases hq : q.1 = key
    · rw [if_pos hq, if_pos hq]; rfl
    · rw [if_neg hq, if_neg hq, ih]
end Go.Proofs.Ytefjbpkomphjdaa.pairs

namespace Go.Proofs.Ytefjbpkomphjdaa.pairs
open Go
set_option linter.unusedVariables false
set_option linter.unusedSimpArgs false

/-! ### rising lists -/
/-! ### what is got -/
/-! ### pairs that stay right -/
/-! ### between -/
/-! ### union -/
end Go.Proofs.Ytefjbpkomphjdaa.pairs

namespace Go.Proofs.Ytefjbpkomphjdaa.help
open Go.RowKit Go.Proofs.Ytefjbpkomphjdaa.base
set_option linter.unusedVariables false
set_option linter.unusedSimpArgs false

end Go.Proofs.Ytefjbpkomphjdaa.help

namespace Go.Proofs.Ytefjbpkomphjdaa.getnum
open Go.RowKit Go.Proofs.Ytefjbpkomphjdaa.base Go.Proofs.Ytefjbpkomphjdaa.help
set_option linter.unusedVariables false
set_option linter.unusedSimpArgs false

end Go.Proofs.Ytefjbpkomphjdaa.getnum

namespace Go.Proofs.Ytefjbpkomphjdaa.getnum
open Go.RowKit Go.Proofs.Ytefjbpkomphjdaa.base Go.Proofs.Ytefjbpkomphjdaa.help
set_option linter.unusedVariables false
set_option linter.unusedSimpArgs false

end Go.Proofs.Ytefjbpkomphjdaa.getnum

namespace Go.Proofs.Ytefjbpkomphjdaa.gettext
open Go.RowKit Go.Proofs.Ytefjbpkomphjdaa.base Go.Proofs.Ytefjbpkomphjdaa.help Go.Proofs.Ytefjbpkomphjdaa.getnum
set_option linter.unusedVariables false
set_option linter.unusedSimpArgs false

end Go.Proofs.Ytefjbpkomphjdaa.gettext

namespace Go.Proofs.Ytefjbpkomphjdaa.helps
open Go.RowKit Go.Proofs.Ytefjbpkomphjdaa.base Go.Proofs.Ytefjbpkomphjdaa.help
set_option linter.unusedVariables false
set_option linter.unusedSimpArgs false

end Go.Proofs.Ytefjbpkomphjdaa.helps

namespace Go.Proofs.Ytefjbpkomphjdaa.gettexts
open Go.RowKit Go.Proofs.Ytefjbpkomphjdaa.base Go.Proofs.Ytefjbpkomphjdaa.help Go.Proofs.Ytefjbpkomphjdaa.helps Go.Proofs.Ytefjbpkomphjdaa.getnum Go.Proofs.Ytefjbpkomphjdaa.gettext
set_option linter.unusedVariables false
set_option linter.unusedSimpArgs false

end Go.Proofs.Ytefjbpkomphjdaa.gettexts

namespace Go.Proofs.Ytefjbpkomphjdaa.putnum
open Go.RowKit Go.Proofs.Ytefjbpkomphjdaa.base Go.Proofs.Ytefjbpkomphjdaa.help
set_option linter.unusedVariables false
set_option linter.unusedSimpArgs false

end Go.Proofs.Ytefjbpkomphjdaa.putnum

namespace Go.Proofs.Ytefjbpkomphjdaa.puttext
open Go.RowKit Go.Proofs.Ytefjbpkomphjdaa.base Go.Proofs.Ytefjbpkomphjdaa.help Go.Proofs.Ytefjbpkomphjdaa.putnum
set_option linter.unusedVariables false
set_option linter.unusedSimpArgs false

end Go.Proofs.Ytefjbpkomphjdaa.puttext

namespace Go.Proofs.Ytefjbpkomphjdaa.puttexts
open Go.RowKit Go.Proofs.Ytefjbpkomphjdaa.base Go.Proofs.Ytefjbpkomphjdaa.help Go.Proofs.Ytefjbpkomphjdaa.helps Go.Proofs.Ytefjbpkomphjdaa.putnum Go.Proofs.Ytefjbpkomphjdaa.puttext
set_option linter.unusedVariables false
set_option linter.unusedSimpArgs false

def sum (ss : List ByteArray) : Nat := (ss.map ByteArray.size).sum
end Go.Proofs.Ytefjbpkomphjdaa.puttexts

namespace Go.Proofs.Ytefjbpkomphjdaa.nummath
open Go.RowKit Go.Proofs.Ytefjbpkomphjdaa.base Go.Proofs.Ytefjbpkomphjdaa.help Go.Proofs.Ytefjbpkomphjdaa.getnum Go.Proofs.Ytefjbpkomphjdaa.putnum Go.Proofs.Ytefjbpkomphjdaa.gettext Go.Proofs.Ytefjbpkomphjdaa.puttext Go.Proofs.Ytefjbpkomphjdaa.gettexts Go.Proofs.Ytefjbpkomphjdaa.puttexts
set_option linter.unusedVariables false
set_option linter.unusedSimpArgs false

end Go.Proofs.Ytefjbpkomphjdaa.nummath

namespace Go.Proofs.Ytefjbpkomphjdaa.ords
open Go Go.RowKit Go.Proofs.Ytefjbpkomphjdaa.base Go.Proofs.Ytefjbpkomphjdaa.pairs Go.Proofs.Ytefjbpkomphjdaa.putnum Go.Proofs.Ytefjbpkomphjdaa.puttext Go.Proofs.Ytefjbpkomphjdaa.getnum Go.Proofs.Ytefjbpkomphjdaa.gettext Go.Proofs.Ytefjbpkomphjdaa.gettexts Go.Proofs.Ytefjbpkomphjdaa.nummath
set_option linter.unusedVariables false

abbrev Od := Int × ByteArray × ByteArray
/-! ### orders that are right -/
/-! ### bytes of numbers and texts, read -/
/-! ### orders come back of their bytes -/
/-! ### behind orders -/
/-! ### shards -/
end Go.Proofs.Ytefjbpkomphjdaa.ords

namespace Go.Proofs.Ytefjbpkomphjdaa.txts
open Go Go.Proofs.Ytefjbpkomphjdaa.pairs Go.Proofs.Ytefjbpkomphjdaa.ords
set_option linter.unusedVariables false

def prText (p : Pr) : List UInt8 := p.1.data.toList ++ 61 :: p.2.data.toList
def pairsText (l : List Pr) : List UInt8 := if l = [] then [101, 109, 112, 116, 121] else Lib.join (l.map prText) [32]

/-! ### what the signs of a word tell, one by one -/
abbrev init : Od := (0, ⟨#[]⟩, ⟨#[]⟩)
def step (t : Option Od) (c : UInt8) : Option Od :=
  match t with
  | none => none
  | some o =>
    if c = 45 ∧ o = init then some (2, ⟨#[]⟩, ⟨#[]⟩)
    else if c = 61 ∧ o.1 = 0 then some (1, o.2.1, ⟨#[]⟩)
    else if c = 63 ∧ o.1 = 0 then some (3, o.2.1, ⟨#[]⟩)
    else if keyCh c.toNat = true then
      if o.1 = 1 ∨ o.1 = 3 then (if o.2.2.size = 20 then none else some (o.1, o.2.1, ⟨(o.2.2.data.toList ++ [c]).toArray⟩))
      else (if o.2.1.size = 12 then none else some (o.1, ⟨(o.2.1.data.toList ++ [c]).toArray⟩, o.2.2))
    else none
theorem ba_size (l : List UInt8) : (⟨l.toArray⟩ : ByteArray).size = l.length := by simp [ByteArray.size]
theorem size_len (s : ByteArray) : s.data.toList.length = s.size := by rw [Array.length_toList]; rfl
/-! ### all words -/
/-! ### they come back -/
end Go.Proofs.Ytefjbpkomphjdaa.txts

namespace Go.Proofs.Ytefjbpkomphjdaa.pairs
open Go Go.RowKit Go.Proofs.Ytefjbpkomphjdaa.base
set_option linter.unusedVariables false
set_option linter.unusedSimpArgs false

def small (p : Pr) : Prop := p.1.size ≤ maxLen ∧ p.2.size ≤ maxLen
def pairVals (l : List Pr) : List Value := l.flatMap fun p => [.string p.1, .string p.2]
theorem pairVals_cons (p : Pr) (l : List Pr) : pairVals (p :: l) = .string p.1 :: .string p.2 :: pairVals l := rfl
theorem pairVals_append (a b : List Pr) : pairVals (a ++ b) = pairVals a ++ pairVals b := by simp [pairVals]
theorem pairVals_length (l : List Pr) : (pairVals l).length = l.length * 2 := by
  induction l with
  | nil => rfl
  | cons p l ih => rw [pairVals_cons]; simp [ih]; omega
theorem pairVals_key (l : List Pr) (i : Nat) (h : i < l.length) : (pairVals l)[i * 2]? = some (.string l[i].1) := by
  induction l generalizing i with
  | nil => simp at h
  | cons p l ih =>
    cases i with
    | zero => rfl
    | succ i => rw [pairVals_cons, show (i + 1) * 2 = i * 2 + 1 + 1 by omega]; simpa using ih i (by simpa using h)
theorem pairVals_val (l : List Pr) (i : Nat) (h : i < l.length) : (pairVals l)[i * 2 + 1]? = some (.string l[i].2) := by
  induction l generalizing i with
  | nil => simp at h
  | cons p l ih =>
    cases i with
    | zero => rfl
    | succ i => rw [pairVals_cons, show (i + 1) * 2 + 1 = i * 2 + 1 + 1 + 1 by omega]; simpa using ih i (by simpa using h)
theorem pairVals_oneCell (l : List Pr) : ∀ v ∈ pairVals l, v.oneCell' = true := by
  intro v hv
  obtain ⟨p, _, hp⟩ := List.mem_flatMap.1 hv
  simp at hp
  rcases hp with rfl | rfl <;> rfl
theorem pairVals_setVal (l : List Pr) (i : Nat) (h : i < l.length) (v : ByteArray) : (pairVals l).set (i * 2 + 1) (.string v) = pairVals (l.set i (l[i].1, v)) := by
  induction l generalizing i with
  | nil => simp at h
  | cons p l ih =>
    cases i with
    | zero => rfl
    | succ i => rw [pairVals_cons, show (i + 1) * 2 + 1 = i * 2 + 1 + 1 + 1 by omega]; simp only [List.set_cons_succ, pairVals_cons, List.getElem_cons_succ]; rw [ih i (by simpa using h)]

/-! ### slices of pairs that are read -/
def CellsP (w : World) (b off : Nat) (l : List Pr) : Prop := ∀ i (h : i < l.length), w.cell? ⟨b, off + i * 2, none⟩ = some (.string l[i].1) ∧ w.cell? ⟨b, off + i * 2 + 1, none⟩ = some (.string l[i].2)
def SlP (w : World) (a : Option Addr) (len : Nat) (l : List Pr) : Prop :=
  l.length = len ∧ len ≤ maxLen ∧ (∀ p ∈ l, small p) ∧ (0 < len → ∃ b off, a = some ⟨b, off, none⟩ ∧ CellsP w b off l)
section
variable {w w' : World} {a : Option Addr} {b off len base base' g n cap : Nat} {l : List Pr} {row : Option Nat}
theorem SlP.cells (h : SlP w (some ⟨b, off, none⟩) len l) : CellsP w b off l := by
  intro i hi
  obtain ⟨b', off', e, hc⟩ := h.2.2.2 (by have := h.1; omega)
  simp only [Option.some.injEq, Addr.mk.injEq, and_true] at e
  obtain ⟨rfl, rfl⟩ := e
  exact hc i hi
theorem SlP.lt (h : SlP w (some ⟨b, off, none⟩) len l) (h0 : 0 < len) : b < w.heap.size :=
  World.block_lt_of_cell? w _ (h.cells 0 (by have := h.1; omega)).1
theorem CellsP.keep (h : CellsP w b off l) (hk : ∀ o v, w.cell? ⟨b, o, none⟩ = some v → w'.cell? ⟨b, o, none⟩ = some v) : CellsP w' b off l :=
  fun i hi => ⟨hk _ _ (h i hi).1, hk _ _ (h i hi).2⟩
theorem SlP.below (h : SlP w a len l) (hb : Below w.heap.size w w') : SlP w' a len l := by
  obtain ⟨h1, h2, h4, h3⟩ := h
  refine ⟨h1, h2, h4, fun h0 => ?_⟩
  obtain ⟨b, off, rfl, hc⟩ := h3 h0
  exact ⟨b, off, rfl, hc.keep fun o v hv => (hb.cell (p := ⟨b, o, none⟩) (World.block_lt_of_cell? w _ hv)).trans hv⟩
theorem SlP.grown (h : SlP w (some ⟨b, off, none⟩) len l) (hg : w.grownBy w' row) (hne : some b ≠ row) : SlP w' (some ⟨b, off, none⟩) len l :=
  ⟨h.1, h.2.1, h.2.2.1, fun _ => ⟨b, off, rfl, h.cells.keep fun o v hv => hg.cell hv hne⟩⟩

/-! ### rows of pairs that a call made -/
def OwnP (w : World) (base g n cap : Nat) (l : List Pr) : Prop := l.length = n ∧ (∀ p ∈ l, small p) ∧ w.ownsRow base 36 2 (.slice (some ⟨g, 0, none⟩) n cap) n (pairVals l)
theorem OwnP.lt (h : OwnP w base g n cap l) : base ≤ g ∧ g < w.heap.size := h.2.2.lt g rfl
theorem OwnP.cases (h : OwnP w base g n cap l) : n ≤ cap ∧ cap ≤ maxLen := by
  rcases h.2.2.2 with ⟨h', _⟩ | ⟨g', cap', cur, h', _, hg, h1, h2, _⟩
  · simp at h'
  · simp only [Value.slice.injEq, Option.some.injEq, Addr.mk.injEq, and_true, true_and] at h'
    obtain ⟨rfl, rfl⟩ := h'
    exact ⟨h1, h2⟩
theorem OwnP.mono (h : OwnP w base g n cap l) (hb : base' ≤ base) : OwnP w base' g n cap l := by
  refine ⟨h.1, h.2.1, h.2.2.1, ?_⟩
  rcases h.2.2.2 with h' | ⟨g', cap', cur, h', h0, r⟩
  · exact .inl h'
  · exact .inr ⟨g', cap', cur, h', by omega, r⟩
theorem OwnP.cell (h : OwnP w base g n cap l) : CellsP w g 0 l := by
  intro i hi
  have hl := h.1
  have k1 := h.2.2.cellAt (i * 2) (by omega)
  have k2 := h.2.2.cellAt (i * 2 + 1) (by omega)
  rw [pairVals_key l i hi] at k1
  rw [pairVals_val l i hi] at k2
  rw [Nat.zero_add]
  exact ⟨k1, k2⟩
theorem OwnP.key (h : OwnP w base g n cap l) (i : Nat) (hi : i < l.length) : w.cell? ⟨g, i * 2, none⟩ = some (.string l[i].1) := by
  have := (h.cell i hi).1; rwa [Nat.zero_add] at this
theorem OwnP.val (h : OwnP w base g n cap l) (i : Nat) (hi : i < l.length) : w.cell? ⟨g, i * 2 + 1, none⟩ = some (.string l[i].2) := by
  have := (h.cell i hi).2; rwa [Nat.zero_add] at this
theorem OwnP.frozen (h : OwnP w base g n cap l) (i : Nat) : w.frozen? ⟨g, i, none⟩ = false := h.2.2.frozenAt i
theorem OwnP.sl (h : OwnP w base g n cap l) : SlP w (some ⟨g, 0, none⟩) n l :=
  ⟨h.1, by have := h.cases; omega, h.2.1, fun _ => ⟨g, 0, rfl, h.cell⟩⟩
theorem OwnP.grown (h : OwnP w base g n cap l) (hg : w.grownBy w' row) (hne : some g ≠ row) : OwnP w' base g n cap l :=
  ⟨h.1, h.2.1, h.2.2.kept hg (.inr hne)⟩
theorem OwnP.below (h : OwnP w base g n cap l) (hb : Below w.heap.size w w') : OwnP w' base g n cap l :=
  ⟨h.1, h.2.1, h.2.2.kept (row := none) ⟨hb.os, hb.tape, hb.output, hb.size, fun k hk _ => hb.block k hk⟩ (.inr (by simp [Value.ownBlock]))⟩
theorem mem_set_small {i : Nat} {p : Pr} (h : ∀ q ∈ l, small q) (hp : small p) : ∀ q ∈ l.set i p, small q := by
  intro q hq
  rcases List.mem_or_eq_of_mem_set hq with h1 | h1
  · exact h q h1
  · subst h1; exact hp
theorem OwnP.setVal (h : OwnP w base g n cap l) (i : Nat) (hi : i < l.length) (v : ByteArray) (hv : v.size ≤ maxLen) :
    OwnP (w.setCell ⟨g, i * 2 + 1, none⟩ (.string v)) base g n cap (l.set i (l[i].1, v)) ∧ w.grownBy (w.setCell ⟨g, i * 2 + 1, none⟩ (.string v)) (some g) := by
  have hs := h.2.2.stored (i * 2 + 1) (.string v)
  rw [pairVals_setVal l i hi] at hs
  exact ⟨⟨by simpa using h.1, mem_set_small h.2.1 ⟨(h.2.1 _ (List.getElem_mem hi)).1, hv⟩, hs.1⟩, hs.2⟩
theorem ownP_val {v' : Value} (hl : l.length = n) (hs : ∀ p ∈ l, small p) (h0 : ¬ v' = .slice none 0 0)
    (h : w'.ownsRow base 36 2 v' n (pairVals l)) : ∃ g' cap', v' = .slice (some ⟨g', 0, none⟩) n cap' ∧ OwnP w' base g' n cap' l := by
  rcases h.2 with ⟨h2, _⟩ | ⟨g', cap', cur, hv, _⟩
  · exact absurd h2 h0
  · subst hv
    exact ⟨g', cap', rfl, hl, hs, h⟩
theorem ownP_made (w : World) (base : Nat) (hb : base ≤ w.heap.size) : OwnP (w.alloc (.cells #[] 36)) base w.heap.size 0 0 [] :=
  ⟨rfl, fun s h => absurd h List.not_mem_nil, World.ownsRow_made w #[] 0 hb (Nat.zero_le _) rfl⟩
theorem cells_pairs (h : CellsP w b off l) : ∀ j v, (pairVals l)[j]? = some v → w.cell? ((⟨b, off, none⟩ : Addr).add j) = some v := by
  intro j v hj
  have hjl : j < l.length * 2 := by have := (List.getElem?_eq_some_iff.1 hj).1; rwa [pairVals_length] at this
  rw [Addr.add_lit]
  have hm : j = (j / 2) * 2 ∨ j = (j / 2) * 2 + 1 := by omega
  rcases hm with e | e
  · rw [e, pairVals_key l (j / 2) (by omega)] at hj
    rw [e, ← hj]; exact (h (j / 2) (by omega)).1
  · rw [e, pairVals_val l (j / 2) (by omega)] at hj
    rw [e, ← hj]; exact (h (j / 2) (by omega)).2
end
theorem infoP : (Try.prog.info? 36).map (fun i => (i.zero, i.size, i.bytes)) = some (some (.agg #[.string ⟨#[]⟩, .string ⟨#[]⟩]), 2, 32) := by kernel_rfl

end Go.Proofs.Ytefjbpkomphjdaa.pairs

namespace Go.Proofs.Ytefjbpkomphjdaa.ords
open Go Go.RowKit Go.Proofs.Ytefjbpkomphjdaa.base Go.Proofs.Ytefjbpkomphjdaa.pairs
set_option linter.unusedVariables false
set_option linter.unusedSimpArgs false

/-! ### slices of orders that are read -/
section
variable {w w' : World} {a : Option Addr} {b off len base base' g n cap : Nat} {l : List Od} {row : Option Nat}
/-! ### rows of orders that a call made -/
end
end Go.Proofs.Ytefjbpkomphjdaa.ords

namespace Go.Proofs.Ytefjbpkomphjdaa.pairs
open Go Go.RowKit Go.Proofs.Ytefjbpkomphjdaa.base
set_option linter.unusedVariables false
set_option linter.unusedSimpArgs false

theorem str_ne {a b : ByteArray} (h : a ≠ b) : (a.toList == b.toList) = false := by
  rw [beq_eq_false_iff_ne]; intro e; rw [ByteArray.toList_eq, ByteArray.toList_eq] at e; exact h (bytes_ext e)



end Go.Proofs.Ytefjbpkomphjdaa.pairs

namespace Go.Proofs.Ytefjbpkomphjdaa.pairs
open Go Go.RowKit Go.Proofs.Ytefjbpkomphjdaa.base
set_option linter.unusedVariables false
set_option linter.unusedSimpArgs false

theorem take_snocP (l : List Pr) (k : Nat) (h : k < l.length) : l.take (k + 1) = l.take k ++ [l[k]] := List.take_succ_eq_append_getElem h
theorem take_small {l : List Pr} (h : ∀ p ∈ l, small p) (k : Nat) : ∀ p ∈ l.take k, small p := fun p hp => h p (List.mem_of_mem_take hp)
theorem one_pair_cells (w : World) (p : Pr) (t : TypeId) : ∀ j u, (pairVals [p])[j]? = some u → (w.alloc (.cells #[.string p.1, .string p.2] t)).cell? ((⟨w.heap.size, 0, none⟩ : Addr).add j) = some u :=
  cells_two w (.string p.1) (.string p.2) t
theorem ownP_app {w' : World} {base n : Nat} {v' : Value} {l : List Pr} {p : Pr} (hl : l.length = n) (hs : ∀ q ∈ l, small q) (hp : small p) (h0 : ¬ v' = .slice none 0 0)
    (h : w'.ownsRow base 36 2 v' (n + 1) (pairVals l ++ pairVals [p])) : ∃ g' cap', v' = .slice (some ⟨g', 0, none⟩) (n + 1) cap' ∧ OwnP w' base g' (n + 1) cap' (l ++ [p]) := by
  rw [← pairVals_append] at h
  refine ownP_val (by simp; omega) ?_ h0 h
  intro q hq
  rcases List.mem_append.1 hq with h1 | h1
  · exact hs q h1
  · simp at h1; subst h1; exact hp



end Go.Proofs.Ytefjbpkomphjdaa.pairs
