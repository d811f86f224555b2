/- Plain mathematics and small facts on worlds, used by the proofs of this seat: no program is named here. Rows that a call makes, appends and conversions: small facts on worlds; no function of the program is named here. Codes that are too long. The cursor from which the laws draw: what each call does to it. Plain mathematics of pairs of texts. Rows of pairs of texts: small facts on worlds; no function of the program is named here. The specification's keys and pairs: what is right, what is got. The specification's lists of pairs. The specification's putting of keys. A region that draws its order, whose operations only read, but for its last, which waits for all the others: one walk of the text's order serves every order. No function of the program is named here. The specification's right pairs, and pairs put into others. The specification's union. What the laws on pairs draw. What the laws on pairs draw: whole draws. Plain mathematics of the laws on pairs. Draws of pairs that are right, and a place of one. The laws' own helpers on slices of bytes: what each call does. Reading a number: the program's and the specification's GetNum answer as one and the same function. The specification's GetNum answers as the same function. Reading a text: the program's and the specification's GetText answer as one and the same function. The laws' own helpers on slices of strings: what each call does. Reading a list of texts: the program's and the specification's GetTexts answer as one and the same function. Writing a number: the program's and the specification's PutNum answer as one and the same function. Writing texts: the program's and the specification's PutText answer as one and the same function. Writing a list of texts: the program's and the specification's PutTexts answer as one and the same function. Plain mathematics: numbers and texts come back of their bytes. -/
import Derived.WalkKit
import Derived.WalkSpells
import Derived.WalkLawsBesides
import Derived.Lib.ConvBytes
import Derived.Test.YtefjbpkomphjdaaRows
import Derived.Deep.QuietTactic
import Derived.BigQuiet
import Derived.Deep.RegionWith
import Derived.Laws.CopyOwn
import Derived.Laws.BytesArg
import Derived.Lib.AppendStr
import Derived.ArgAppend
import Derived.Deep.RegionLaw
import Derived.Sort.Walk0
import Derived.WideShapes
import Derived.OwnWalk
import Derived.Deep.RegionHeld3
namespace Go.Proofs.Ytefjbpkomphjdaa.base
open Go.RowKit

/-! ### the hash -/
theorem wraps_i64 (n : Int) (h₀ : 0 ≤ n) (h₁ : n < 2 ^ 63) : IntKind.i64.wrap n = n := by rw [IntKind.wrap_i64]; omega
theorem val_int {k : IntKind} {a b : Int} (h : a = b) : Value.int k a = .int k b := by rw [h]
theorem ret_bool {a b : Bool} (h : a = b) : Ending.returned (.bool a) = .returned (.bool b) := by rw [h]
theorem ret_int {k : IntKind} {a b : Int} (h : a = b) : Ending.returned (.int k a) = .returned (.int k b) := by rw [h]


/-! ### worlds -/
theorem below_bytesWorld (w : World) (e : TypeId) (s : ByteArray) : Below w.heap.size w (Lib.bytesWorld w e s) :=
  ⟨rfl, rfl, rfl, by rw [Lib.bytesWorld_size]; omega, fun k hk => Lib.bytesWorld_at_old w e s k hk⟩

/-! ### slices of bytes that are read -/
def Sl (w : World) (a : Option Addr) (len : Nat) (bs : List UInt8) : Prop :=
  bs.length = len ∧ len ≤ maxLen ∧ (0 < len → ∃ b off, a = some ⟨b, off, none⟩ ∧ ∀ i (h : i < bs.length), w.cell? ⟨b, off + i, none⟩ = some (.int .u8 bs[i].toNat))
theorem sl_nil (w : World) (a : Option Addr) : Sl w a 0 [] := ⟨rfl, Nat.zero_le _, fun h => absurd h (by omega)⟩
theorem bounds8 {n : Int} (h : (Lit.int .u8 n).wf = true) : 0 ≤ n ∧ n ≤ 255 := by
  simpa [Lit.wf, IntKind.min, IntKind.max, IntKind.signed, IntKind.bits] using h
theorem sl_of_ints {w : World} {x : Addr} {len cap : Nat} {zs : List Int} (hl : len ≤ cap) (hm : cap ≤ maxLen) (hz : zs.length = cap)
    (hcell : ∀ i, i < zs.length → w.cell? (x.add i) = some (.int .u8 (zs.getD i 0))) (hwz : ∀ n ∈ zs, (Lit.int .u8 n).wf = true) :
    Sl w (some x) len ((zs.take len).map fun n => UInt8.ofNat n.toNat) := by
  refine ⟨by simp; omega, by omega, fun h0 => ?_⟩
  obtain ⟨b, off, spot⟩ := x
  have hspot : spot = none := by simpa [Addr.add] using World.cell?_spot (hcell 0 (by omega))
  subst hspot
  refine ⟨b, off, rfl, fun i h => ?_⟩
  have hi : i < zs.length := by simp at h; omega
  have hc := hcell i hi
  rw [Addr.add_lit] at hc
  rw [hc]
  have hb := bounds8 (hwz zs[i] (List.getElem_mem hi))
  simp only [List.getElem_map, List.getElem_take, List.getD, List.getElem?_eq_getElem hi, Option.getD_some, Option.some.injEq]
  refine val_int ?_
  simp
  omega
theorem Sl.lt {w : World} {b off len : Nat} {bs : List UInt8} (h : Sl w (some ⟨b, off, none⟩) len bs) (h0 : 0 < len) : b < w.heap.size := by
  obtain ⟨h1, _, h3⟩ := h
  obtain ⟨b', off', e, hc⟩ := h3 h0
  simp only [Option.some.injEq, Addr.mk.injEq, and_true] at e
  obtain ⟨rfl, rfl⟩ := e
  exact World.block_lt_of_cell? w _ (hc 0 (by omega))
theorem Sl.at {w : World} {b off len : Nat} {bs : List UInt8} (h : Sl w (some ⟨b, off, none⟩) len bs) (i : Nat) (hi : i < bs.length) : w.cell? ⟨b, off + i, none⟩ = some (.int .u8 bs[i].toNat) := by
  obtain ⟨h1, _, h3⟩ := h
  obtain ⟨b', off', e, hc⟩ := h3 (by omega)
  simp only [Option.some.injEq, Addr.mk.injEq, and_true] at e
  obtain ⟨rfl, rfl⟩ := e
  exact hc i hi
theorem Sl.below {w w' : World} {a : Option Addr} {len : Nat} {bs : List UInt8} (h : Sl w a len bs) (hb : Below w.heap.size w w') : Sl w' a len bs := by
  obtain ⟨h1, h2, h3⟩ := h
  refine ⟨h1, h2, fun h0 => ?_⟩
  obtain ⟨b, off, rfl, hc⟩ := h3 h0
  exact ⟨b, off, rfl, fun i hi => (hb.cell (p := ⟨b, off + i, none⟩) (World.block_lt_of_cell? w _ (hc i hi))).trans (hc i hi)⟩
theorem Sl.grown {w w' : World} {b off len : Nat} {bs : List UInt8} {row : Option Nat} (h : Sl w (some ⟨b, off, none⟩) len bs) (hg : w.grownBy w' row) (hne : some b ≠ row) : Sl w' (some ⟨b, off, none⟩) len bs := by
  have hat := h.at
  exact ⟨h.1, h.2.1, fun h0 => ⟨b, off, rfl, fun i hi => hg.cell (hat i hi) hne⟩⟩

/-! ### slices of bytes that the call itself made -/
/-! ### slices of strings -/
def SlS (w : World) (a : Option Addr) (len : Nat) (ss : List ByteArray) : Prop :=
  ss.length = len ∧ len ≤ maxLen ∧ (∀ s ∈ ss, s.size ≤ maxLen) ∧ (0 < len → ∃ b off, a = some ⟨b, off, none⟩ ∧ ∀ i (h : i < ss.length), w.cell? ⟨b, off + i, none⟩ = some (.string ss[i]))
theorem SlS.below {w w' : World} {a : Option Addr} {len : Nat} {ss : List ByteArray} (h : SlS w a len ss) (hb : Below w.heap.size w w') : SlS w' a len ss := by
  obtain ⟨h1, h2, h4, h3⟩ := h
  refine ⟨h1, h2, h4, fun h0 => ?_⟩
  obtain ⟨b, off, rfl, hc⟩ := h3 h0
  exact ⟨b, off, rfl, fun i hi => (hb.cell (p := ⟨b, off + i, none⟩) (World.block_lt_of_cell? w _ (hc i hi))).trans (hc i hi)⟩
def strVals (ss : List ByteArray) : List Value := ss.map fun s => .string s
def OwnS (w : World) (base g n cap : Nat) (ss : List ByteArray) : Prop := ss.length = n ∧ (∀ s ∈ ss, s.size ≤ maxLen) ∧ w.ownsRow base 9 1 (.slice (some ⟨g, 0, none⟩) n cap) n (strVals ss)
section
variable {w w' : World} {base base' g n cap : Nat} {ss : List ByteArray} {row : Option Nat}
theorem OwnS.lt (h : OwnS w base g n cap ss) : base ≤ g ∧ g < w.heap.size := h.2.2.lt g rfl
theorem OwnS.cases (h : OwnS w base g n cap ss) : n ≤ cap ∧ cap ≤ maxLen ∧ ∃ cur, w.heap[g]? = some (.cells cur 9 (0, 0)) := by
  rcases h.2.2.2 with ⟨h', _⟩ | ⟨g', cap', cur, h', _, hg, h1, h2, _⟩
  · simp at h'
  · simp only [Value.slice.injEq, Option.some.injEq, Addr.mk.injEq, and_true, true_and] at h'
    obtain ⟨rfl, rfl⟩ := h'
    exact ⟨h1, h2, cur, hg⟩
theorem OwnS.mono (h : OwnS w base g n cap ss) (hb : base' ≤ base) : OwnS w base' g n cap ss := by
  refine ⟨h.1, h.2.1, h.2.2.1, ?_⟩
  rcases h.2.2.2 with h' | ⟨g', cap', cur, h', h0, r⟩
  · exact .inl h'
  · exact .inr ⟨g', cap', cur, h', by omega, r⟩
theorem OwnS.at (h : OwnS w base g n cap ss) (i : Nat) (hi : i < ss.length) : w.cell? ⟨g, i, none⟩ = some (.string ss[i]) := by
  rw [h.2.2.cellAt i (by have := h.1; omega)]; simp [strVals, hi]
theorem OwnS.sl (h : OwnS w base g n cap ss) : SlS w (some ⟨g, 0, none⟩) n ss :=
  ⟨h.1, by have := h.cases; omega, h.2.1, fun _ => ⟨g, 0, rfl, fun i hi => by rw [Nat.zero_add]; exact h.at i hi⟩⟩
theorem OwnS.grown (h : OwnS w base g n cap ss) (hg : w.grownBy w' row) (hne : some g ≠ row) : OwnS w' base g n cap ss :=
  ⟨h.1, h.2.1, h.2.2.kept hg (.inr hne)⟩
theorem OwnS.below (h : OwnS w base g n cap ss) (hb : Below w.heap.size w w') : OwnS w' base g n cap ss :=
  ⟨h.1, h.2.1, h.2.2.kept (row := none) ⟨hb.os, hb.tape, hb.output, hb.size, fun k hk _ => hb.block k hk⟩ (.inr (by simp [Value.ownBlock]))⟩
end

end Go.Proofs.Ytefjbpkomphjdaa.base

namespace Go.Proofs.Ytefjbpkomphjdaa.base
open Go.RowKit
set_option linter.unusedVariables false
set_option linter.unusedSimpArgs false

theorem grownBy_trans {a b c : World} {row : Option Nat} (h : a.grownBy b row) (k : b.grownBy c row) : a.grownBy c row :=
  ⟨k.os.trans h.os, k.tape.trans h.tape, k.output.trans h.output, Nat.le_trans h.size k.size, fun i hi hr => (k.block i (Nat.lt_of_lt_of_le hi h.size) hr).trans (h.block i hi hr)⟩
theorem Hid.mk' {p : Prop} (h : p) : Hid p := h
theorem le_alloc {base : Nat} (w : World) (o : Obj) (h : base ≤ w.heap.size) : base ≤ (w.alloc o).heap.size := by simp; omega
theorem info9 : (Try.prog.info? 9).map (fun i => (i.zero, i.size, i.bytes)) = some (some (.string ⟨#[]⟩), 1, 16) := by kernel_rfl
theorem ret_str {a b : ByteArray} (h : a = b) : Ending.returned (.string a) = .returned (.string b) := by rw [h]
theorem grown_below {w w1 w2 : World} {g : Nat} (h : w.grownBy w1 (some g)) (hb : Below w1.heap.size w1 w2) : w.grownBy w2 (some g) :=
  ⟨hb.os.trans h.os, hb.tape.trans h.tape, hb.output.trans h.output, Nat.le_trans h.size hb.size, fun k hk hr => (hb.block k (Nat.lt_of_lt_of_le hk h.size)).trans (h.block k hk hr)⟩
theorem ownS_val {w' : World} {base n : Nat} {v' : Value} {ss : List ByteArray} (hl : ss.length = n) (hs : ∀ s ∈ ss, s.size ≤ maxLen) (h0 : ¬ v' = .slice none 0 0)
    (h : w'.ownsRow base 9 1 v' n (strVals ss)) : ∃ g' cap', v' = .slice (some ⟨g', 0, none⟩) n cap' ∧ OwnS w' base g' n cap' ss := by
  rcases h.2 with ⟨h2, _⟩ | ⟨g', cap', cur, hv, _⟩
  · exact absurd h2 h0
  · subst hv
    exact ⟨g', cap', rfl, hl, hs, h⟩
theorem ownS_made (w : World) (base : Nat) (hb : base ≤ w.heap.size) : OwnS (w.alloc (.cells #[] 9)) base w.heap.size 0 0 [] :=
  ⟨rfl, fun s h => absurd h List.not_mem_nil, World.ownsRow_made w #[] 0 hb (Nat.zero_le _) rfl⟩
theorem str_oneCell (x : ByteArray) : ∀ u ∈ [Value.string x], u.oneCell' = true := by
  intro u hu; simp at hu; subst hu; rfl
theorem leAlloc {base : Nat} (w : World) (o : Obj) (h : base ≤ w.heap.size) : base ≤ (w.alloc o).heap.size := by simp; omega
theorem strVals_snoc (ss : List ByteArray) (s : ByteArray) : strVals (ss ++ [s]) = strVals ss ++ [.string s] := by simp [strVals]
theorem cell_cur {w : World} {gc : Nat} {cur : Array Value} {t : TypeId} {mk : Nat × Nat} (h : w.heap[gc]? = some (.cells cur t mk)) (j : Nat) (v : Value) (hj : cur[j]? = some v) : w.cell? ⟨gc, j, none⟩ = some v := by
  rw [cell_of_row w gc j cur t mk h]; exact hj
theorem set_cur {w : World} {gc : Nat} {cur : Array Value} {t : TypeId} (h : w.heap[gc]? = some (.cells cur t (0, 0))) (j : Nat) (v : Value) :
    (w.setCell ⟨gc, j, none⟩ v).heap[gc]? = some (.cells (cur.setIfInBounds j v) t (0, 0)) ∧ w.grownBy (w.setCell ⟨gc, j, none⟩ v) (some gc) :=
  ⟨heap_setCell_same w gc j cur t v h, ⟨rfl, rfl, rfl, by simp, fun k _ hk => heap_setCell_other w ⟨gc, j, none⟩ k v (fun e => hk (by simp [e]))⟩⟩
theorem grown_drewN {w w1 : World} {row : Option Nat} (h : w.grownBy w1 row) (n : Nat) : w.grownBy (w1.drewN n) row := ⟨h.os, h.tape, h.output, h.size, h.block⟩
theorem grown_own {w wr w2 : World} {gc g : Nat} (h : w.grownBy wr (some gc)) (h2 : wr.grownBy w2 (some g)) (hg : w.heap.size ≤ g) : w.grownBy w2 (some gc) :=
  ⟨h2.os.trans h.os, h2.tape.trans h.tape, h2.output.trans h.output, Nat.le_trans h.size h2.size, fun k hk hne => (h2.block k (Nat.lt_of_lt_of_le hk h.size) (by intro e; simp only [Option.some.injEq] at e; omega)).trans (h.block k hk hne)⟩
theorem grown_alloc0 (w : World) (o : Obj) (row : Option Nat) : w.grownBy (w.alloc o) row := World.grownBy_alloc w o row
end Go.Proofs.Ytefjbpkomphjdaa.base

namespace Go.Proofs.Ytefjbpkomphjdaa.base
open Go.RowKit
set_option linter.unusedVariables false
theorem big_ (a0 : Option Addr) (len0 cap0 : Nat) (w : World) (h : len0 ≤ maxLen) :
    Calls Try.prog 9 #[.slice a0 len0 cap0] w fun e w' => e = .returned (.bool (decide (1048576 < (len0 : Int)))) ∧ w' = w := by
  unfold maxLen at h
  go_enter Try.func9, Try.ntmps9
  go_wp2
  go_ret
  exact ⟨rfl, rfl⟩
end Go.Proofs.Ytefjbpkomphjdaa.base

namespace Go.Proofs.Ytefjbpkomphjdaa.draw
open Go.RowKit Go.Proofs.Ytefjbpkomphjdaa.base
set_option linter.unusedVariables false
set_option linter.unusedSimpArgs false

def Cur (w0 w : World) (gc : Nat) (a : Option Addr) (len cap : Nat) (code : List UInt8) : Prop :=
  Sl w0 a len code ∧ Below w0.heap.size w0 w ∧ w0.heap.size ≤ gc ∧ len ≤ 1099511627776 ∧
  ∃ i h : Int, 0 ≤ i ∧ i ≤ len ∧ w.heap[gc]? = some (.cells #[.slice a len cap, .int .i64 i, .int .i64 h] 84 (0, 0))

theorem and_byte (z : Int) : 0 ≤ bits .and .i64 z 255 ∧ bits .and .i64 z 255 ≤ 255 := by
  have e : bits .and .i64 z 255 = IntKind.i64.wrap (((BitVec.ofInt 64 z) &&& (BitVec.ofInt 64 255)).toNat : Int) := rfl
  have h : ((BitVec.ofInt 64 z) &&& (BitVec.ofInt 64 255)).toNat ≤ 255 := by
    rw [BitVec.toNat_and]
    exact Nat.le_trans Nat.and_le_right (by decide)
  rw [e, wraps_i64 _ (by omega) (by omega)]
  omega

theorem cur_of {w0 w w1 : World} {gc : Nat} {a : Option Addr} {len cap : Nat} {code : List UInt8} {i h : Int} (hS : Sl w0 a len code) (hB : Below w0.heap.size w0 w) (hgc : w0.heap.size ≤ gc) (hln : len ≤ 1099511627776)
    (hi0 : 0 ≤ i) (hi1 : i ≤ len) (hg : w.grownBy w1 (some gc)) (hr : w1.heap[gc]? = some (.cells #[.slice a len cap, .int .i64 i, .int .i64 h] 84 (0, 0))) : Cur w0 w1 gc a len cap code :=
  ⟨hS, hB.grown hg hB.size (fun k e => by cases e; exact hgc), hgc, hln, i, h, hi0, hi1, hr⟩

set_option maxRecDepth 100000 in
set_option maxHeartbeats 1000000 in
theorem byte_ (w0 w : World) (gc : Nat) (a : Option Addr) (len cap : Nat) (code : List UInt8) (h : Cur w0 w gc a len cap code) :
    Calls Try.prog 64 #[.pointer (some ⟨gc, 0, none⟩)] w fun e w' => ∃ x : Int, 0 ≤ x ∧ x ≤ 255 ∧ e = .returned (.int .i64 x) ∧ Cur w0 w' gc a len cap code ∧ w.grownBy w' (some gc) := by
  obtain ⟨hS, hB, hgc, hln, i, hh, hi0, hi1, hrow⟩ := h
  have c0 : w.cell? ⟨gc, 0, none⟩ = some (.slice a len cap) := cell_cur hrow 0 _ rfl
  have c1 : w.cell? ⟨gc, 1, none⟩ = some (.int .i64 i) := cell_cur hrow 1 _ rfl
  have c2 : w.cell? ⟨gc, 2, none⟩ = some (.int .i64 hh) := cell_cur hrow 2 _ rfl
  have f1 : w.frozen? ⟨gc, 1, none⟩ = false := frozen_of_row w gc 1 _ _ hrow
  have f2 : w.frozen? ⟨gc, 2, none⟩ = false := frozen_of_row w gc 2 _ _ hrow
  have HROW := Hid.mk' hrow
  clear hrow
  by_cases hlt : i < len
  · obtain ⟨I, rfl⟩ := Int.eq_ofNat_of_zero_le hi0
    have hS' := hS.below hB
    have hIl : I < code.length := by have := hS.1; omega
    obtain ⟨b, off, ha, hcl⟩ := hS.2.2 (by omega)
    subst ha
    have hbb : b < w0.heap.size := World.block_lt_of_cell? w0 _ (hcl I hIl)
    have hne : ¬ b = gc := by omega
    have hne2 : ¬ gc = b := by omega
    generalize hcc : code[I].toNat = c
    have hc256 : c < 256 := by rw [← hcc]; exact UInt8.toNat_lt _
    have c3 : w.cell? ⟨b, off + I, none⟩ = some (.int .u8 (c : Int)) := by rw [hS'.at I hIl, hcc]
    have hi3 : (I : Int) < (len : Int) := hlt
    clear hcl hcc hIl hS'
    go_enter Try.func64, Try.ntmps64
    go_wp2
    go_quiet (fail)
    go_wp2
    go_quiet (fail)
    go_wp2
    go_quiet (fail)
    go_wp2
    go_ret
    have hs := set_cur HROW.out 2 (.int .i64 (wrap64 (wrap64 (hh * 6364136223846793005) + 1442695040888963407)))
    have hs2 := fun n => set_cur (w := (w.setCell ⟨gc, 2, none⟩ (.int .i64 (wrap64 (wrap64 (hh * 6364136223846793005) + 1442695040888963407)))).drewN n) hs.1 1 (.int .i64 ((I : Int) + 1))
    have hg := fun n => grownBy_trans (grown_drewN hs.2 n) (hs2 n).2
    exact ⟨_, (and_byte _).1, (and_byte _).2, rfl, cur_of hS hB hgc hln (by omega) (by omega) (hg _) (hs2 _).1, hg _⟩
  · go_enter Try.func64, Try.ntmps64
    go_wp2
    go_quiet (fail)
    go_wp2
    go_quiet (fail)
    go_wp2
    go_ret
    have hs := set_cur HROW.out 2 (.int .i64 (wrap64 (wrap64 (hh * 6364136223846793005) + 1442695040888963407)))
    exact ⟨_, (and_byte _).1, (and_byte _).2, rfl, cur_of hS hB hgc hln hi0 hi1 (grown_drewN (grown_drewN hs.2 _) _) hs.1, grown_drewN (grown_drewN hs.2 _) _⟩

theorem Cur.lt {w0 w : World} {gc : Nat} {a : Option Addr} {len cap : Nat} {code : List UInt8} (h : Cur w0 w gc a len cap code) : gc < w.heap.size := by
  obtain ⟨_, _, _, _, i, hh, _, _, hr⟩ := h
  exact (Array.getElem?_eq_some_iff.1 hr).1
theorem Cur.bel {w0 w : World} {gc : Nat} {a : Option Addr} {len cap : Nat} {code : List UInt8} (h : Cur w0 w gc a len cap code) : Below w0.heap.size w0 w := h.2.1
theorem Cur.ge {w0 w : World} {gc : Nat} {a : Option Addr} {len cap : Nat} {code : List UInt8} (h : Cur w0 w gc a len cap code) : w0.heap.size ≤ gc := h.2.2.1
theorem Cur.grown {w0 w w1 : World} {gc : Nat} {a : Option Addr} {len cap : Nat} {code : List UInt8} {row : Option Nat} (h : Cur w0 w gc a len cap code) (hg : w.grownBy w1 row) (hne : some gc ≠ row) (hr : ∀ k, row = some k → w0.heap.size ≤ k) : Cur w0 w1 gc a len cap code := by
  have hlt := h.lt
  obtain ⟨hS, hB, hgc, hln, i, hh, hi0, hi1, hrow⟩ := h
  exact ⟨hS, hB.grown hg hB.size hr, hgc, hln, i, hh, hi0, hi1, by rw [hg.block gc hlt hne]; exact hrow⟩
theorem Cur.below {w0 w w1 : World} {gc : Nat} {a : Option Addr} {len cap : Nat} {code : List UInt8} (h : Cur w0 w gc a len cap code) (hb : Below w.heap.size w w1) : Cur w0 w1 gc a len cap code :=
  h.grown (row := none) ⟨hb.os, hb.tape, hb.output, hb.size, fun k hk _ => hb.block k hk⟩ (by simp) (fun k e => by cases e)

set_option maxRecDepth 100000 in
set_option maxHeartbeats 1000000 in
theorem below_ (w0 w : World) (gc : Nat) (a : Option Addr) (len cap : Nat) (code : List UInt8) (n : Int) (h : Cur w0 w gc a len cap code) (hn : 0 < n) (hn2 : n ≤ 1000000000) :
    Calls Try.prog 38 #[.pointer (some ⟨gc, 0, none⟩), .int .i64 n] w fun e w' => ∃ x : Nat, (x : Int) < n ∧ e = .returned (.int .i64 (x : Int)) ∧ Cur w0 w' gc a len cap code ∧ w.grownBy w' (some gc) := by
  by_cases hs : n ≤ 256
  · go_enter Try.func38, Try.ntmps38
    go_wp2_with fail
    refine (byte_ w0 _ gc a len cap code h).mono ?_
    rintro e w1 ⟨x, hx0, hx1, rfl, hc1, hg1⟩
    go_wp2_with fail
    go_ret
    have e1 : 0 ≤ x % n := Int.emod_nonneg _ (by omega)
    have e2 : x % n < n := Int.emod_lt_of_pos _ hn
    exact ⟨(x % n).toNat, by omega, ret_int (by omega), hc1, hg1⟩
  · go_enter Try.func38, Try.ntmps38
    go_wp2_with fail
    refine (byte_ w0 _ gc a len cap code h).mono ?_
    rintro e w1 ⟨x, hx0, hx1, rfl, hc1, hg1⟩
    go_wp2_with fail
    refine (byte_ w0 _ gc a len cap code hc1).mono ?_
    rintro e w2 ⟨y, hy0, hy1, rfl, hc2, hg2⟩
    go_wp2_with fail
    refine (byte_ w0 _ gc a len cap code hc2).mono ?_
    rintro e w3 ⟨z, hz0, hz1, rfl, hc3, hg3⟩
    go_wp2_with fail
    go_ret
    have e1 : 0 ≤ (x * 65536 + y * 256 + z) % n := Int.emod_nonneg _ (by omega)
    have e2 : (x * 65536 + y * 256 + z) % n < n := Int.emod_lt_of_pos _ hn
    exact ⟨((x * 65536 + y * 256 + z) % n).toNat, by omega, ret_int (by omega), hc3, grownBy_trans (grownBy_trans hg1 hg2) hg3⟩

theorem int_ (w0 w : World) (gc : Nat) (a : Option Addr) (len cap : Nat) (code : List UInt8) (gl n cp : Nat) (zs : Array Value) (mk : Nat × Nat) (h : Cur w0 w gc a len cap code) (hr : w.heap[gl]? = some (.cells zs 3 mk)) (hz : zs.size = n) (hn : 0 < n) (hn2 : n ≤ 1000) (hne : gl ≠ gc)
    (P : Int → Prop) (hP : ∀ i, i < n → ∃ z, zs[i]? = some (.int .i64 z) ∧ P z) :
    Calls Try.prog 69 #[.pointer (some ⟨gc, 0, none⟩), .slice (some ⟨gl, 0, none⟩) n cp] w fun e w' => ∃ z : Int, P z ∧ e = .returned (.int .i64 z) ∧ Cur w0 w' gc a len cap code ∧ w.grownBy w' (some gc) := by
  go_enter Try.func69, Try.ntmps69
  go_wp2_with fail
  refine (below_ w0 _ gc a len cap code _ h (by omega) (by omega)).mono ?_
  rintro e w1 ⟨x, hx, rfl, hc1, hg1⟩
  have hgl : gl < w.heap.size := (Array.getElem?_eq_some_iff.1 hr).1
  obtain ⟨z, hz1, hz2⟩ := hP x (by omega)
  have c1 : w1.cell? ⟨gl, x, none⟩ = some (.int .i64 z) := by
    have e1 := hg1.block gl hgl (by simpa using hne)
    rw [hr] at e1
    exact cell_cur e1 x _ hz1
  go_wp2_with fail
  go_ret
  exact ⟨z, hz2, rfl, hc1, hg1⟩

theorem str_ (w0 w : World) (gc : Nat) (a : Option Addr) (len cap : Nat) (code : List UInt8) (gl n cp : Nat) (zs : Array Value) (mk : Nat × Nat) (h : Cur w0 w gc a len cap code) (hr : w.heap[gl]? = some (.cells zs 9 mk)) (hz : zs.size = n) (hn : 0 < n) (hn2 : n ≤ 1000) (hne : gl ≠ gc)
    (P : ByteArray → Prop) (hP : ∀ i, i < n → ∃ z, zs[i]? = some (.string z) ∧ P z) :
    Calls Try.prog 39 #[.pointer (some ⟨gc, 0, none⟩), .slice (some ⟨gl, 0, none⟩) n cp] w fun e w' => ∃ z : ByteArray, P z ∧ e = .returned (.string z) ∧ Cur w0 w' gc a len cap code ∧ w.grownBy w' (some gc) := by
  go_enter Try.func39, Try.ntmps39
  go_wp2_with fail
  refine (below_ w0 _ gc a len cap code _ h (by omega) (by omega)).mono ?_
  rintro e w1 ⟨x, hx, rfl, hc1, hg1⟩
  have hgl : gl < w.heap.size := (Array.getElem?_eq_some_iff.1 hr).1
  obtain ⟨z, hz1, hz2⟩ := hP x (by omega)
  have c1 : w1.cell? ⟨gl, x, none⟩ = some (.string z) := by
    have e1 := hg1.block gl hgl (by simpa using hne)
    rw [hr] at e1
    exact cell_cur e1 x _ hz1
  go_wp2_with fail
  go_ret
  exact ⟨z, hz2, rfl, hc1, hg1⟩

set_option maxRecDepth 100000 in
set_option maxHeartbeats 1000000 in
theorem new_ (w0 w : World) (a : Option Addr) (len cap : Nat) (code : List UInt8) (h0 : Sl w0 a len code) (hB : Below w0.heap.size w0 w) (hln : len ≤ 1099511627776) :
    Calls Try.prog 29 #[.slice a len cap] w fun e w' => e = .returned (.pointer (some ⟨w.heap.size, 0, none⟩)) ∧ Cur w0 w' w.heap.size a len cap code ∧ Below w.heap.size w w' := by
  have hS := h0.below hB
  obtain ⟨hl, hm, hc⟩ := id hS
  subst hl
  go_enter Try.func29, Try.ntmps29
  go_wp2
  go_loop [3, 4] (fun hv i => ∃ (k : Nat) (hh : Int), k ≤ code.length ∧ i = .int .i64 (k : Int) ∧ hv = .int .i64 hh) (fun _ i => code.length - (intOf i).toNat)
  case atStart => exact ⟨0, _, Nat.zero_le _, rfl, rfl⟩
  case round =>
    obtain ⟨k, hh, hk, rfl, rfl⟩ := hrel
    by_cases hlt : k < code.length
    · by_cases h4 : k < 4000
      · obtain ⟨b, off, ha, hcl⟩ := hc (by omega)
        subst ha
        have c1 : w.cell? ⟨b, off + k, none⟩ = some (.int .u8 code[k].toNat) := hcl k hlt
        have hi1 : (k : Int) < (code.length : Int) := by omega
        clear hcl hc
        go_wp2
        go_round
        case rel => exact ⟨k + 1, _, by omega, by go_num, rfl⟩
        case measure => simp [intOf]; omega
      · go_wp2
        go_ret
        exact ⟨rfl, ⟨h0, hB.alloc hB.size _, hB.size, hln, 0, hh, by omega, by omega, heap_alloc_new w _⟩, (Below.refl _ _).alloc (Nat.le_refl _) _⟩
    · go_wp2
      go_ret
      exact ⟨rfl, ⟨h0, hB.alloc hB.size _, hB.size, hln, 0, hh, by omega, by omega, heap_alloc_new w _⟩, (Below.refl _ _).alloc (Nat.le_refl _) _⟩

end Go.Proofs.Ytefjbpkomphjdaa.draw

namespace Go.Proofs.Ytefjbpkomphjdaa.pairs
open Go
set_option linter.unusedVariables false

abbrev Pr := ByteArray × ByteArray
theorem bytes_ext {a b : ByteArray} (h : a.data.toList = b.data.toList) : a = b := WideShapes.bytes_inj h

/-! ### the order of texts -/
def ltB (a b : ByteArray) : Bool := Op.bytesLess a.toList b.toList
theorem ltB_iff (a b : ByteArray) : ltB a b = true ↔ a.data.toList < b.data.toList := by
  unfold ltB; rw [Proofs.bytesLess_eq, ByteArray.toList_eq, ByteArray.toList_eq]; simp
theorem ltB_irrefl (a : ByteArray) : ltB a a = false := by
  rw [Bool.eq_false_iff]; intro h; exact List.lt_irrefl _ ((ltB_iff a a).1 h)
theorem ltB_trans {a b c : ByteArray} (h : ltB a b = true) (k : ltB b c = true) : ltB a c = true :=
  (ltB_iff a c).2 (List.lt_trans ((ltB_iff a b).1 h) ((ltB_iff b c).1 k))
theorem ltB_total {a b : ByteArray} (h : ltB a b = false) (k : ltB b a = false) : a = b := by
  apply bytes_ext
  have h' : ¬ a.data.toList < b.data.toList := fun e => by rw [(ltB_iff a b).2 e] at h; cases h
  have k' : ¬ b.data.toList < a.data.toList := fun e => by rw [(ltB_iff b a).2 e] at k; cases k
  exact List.le_antisymm (List.not_lt.1 k') (List.not_lt.1 h')
theorem ltB_ne {a b : ByteArray} (h : ltB a b = true) : a ≠ b := by
  rintro rfl; rw [ltB_irrefl] at h; cases h

/-! ### the functions -/
def keyCh (c : Nat) : Bool := decide (97 ≤ c ∧ c ≤ 122) || decide (48 ≤ c ∧ c ≤ 57)
def keyAll (l : List UInt8) : Bool := l.all fun c => keyCh c.toNat
def keyOk (s : ByteArray) : Bool := keyAll s.data.toList && decide (1 ≤ s.size ∧ s.size ≤ 12)
def pairOk (p : Pr) : Bool := keyOk p.1 && decide (p.2.size ≤ 20)
def below (key : ByteArray) : List Pr → Nat
  | [] => 0
  | p :: l => if ltB key p.1 = true then 0 else below key l + 1
/-! ### first facts -/
end Go.Proofs.Ytefjbpkomphjdaa.pairs

namespace Go.Proofs.Ytefjbpkomphjdaa.pairs
open Go Go.RowKit Go.Proofs.Ytefjbpkomphjdaa.base
set_option linter.unusedVariables false
set_option linter.unusedSimpArgs false

def small (p : Pr) : Prop := p.1.size ≤ maxLen ∧ p.2.size ≤ maxLen
/-! ### slices of pairs that are read -/
section
variable {w w' : World} {a : Option Addr} {b off len base base' g n cap : Nat} {l : List Pr} {row : Option Nat}
/-! ### rows of pairs that a call made -/
end
end Go.Proofs.Ytefjbpkomphjdaa.pairs

namespace Go.Proofs.Ytefjbpkomphjdaa.pairs
open Go Go.RowKit Go.Proofs.Ytefjbpkomphjdaa.base
set_option linter.unusedVariables false
set_option linter.unusedSimpArgs false

theorem bcell {W w1 : World} (hb : Below W.heap.size W w1) : (∀ b o, b < W.heap.size → w1.cell? ⟨b, o, none⟩ = W.cell? ⟨b, o, none⟩) :=
  fun b o h => hb.cell (p := ⟨b, o, none⟩) h
set_option maxHeartbeats 400000 in
theorem s_in (x a b : Int) (w : World) (hx : -1000 ≤ x ∧ x ≤ 1099511627776) (ha : 0 ≤ a ∧ a ≤ 1000) (hb : 0 ≤ b ∧ b ≤ 1000) :
    Calls Try.prog 62 #[.int .i64 x, .int .i64 a, .int .i64 b] w fun e w' => e = .returned (.bool (decide (a ≤ x ∧ x ≤ b))) ∧ w' = w := by
  by_cases h1 : a ≤ x
  · by_cases h2 : x ≤ b
    · go_enter Try.func62, Try.ntmps62
      go_wp2
      go_ret
      exact ⟨ret_bool (by simp [h1, h2]), rfl⟩
    · go_enter Try.func62, Try.ntmps62
      go_wp2
      go_ret
      exact ⟨ret_bool (by simp [h1, h2]), rfl⟩
  · go_enter Try.func62, Try.ntmps62
    go_wp2
    go_ret
    exact ⟨ret_bool (by have h3 : ¬ a ≤ x := by omega
                        simp [h3]), rfl⟩

theorem keyAll_drop (s : ByteArray) (k : Nat) (h : k < s.size) : keyAll (s.data.toList.drop k) = (keyCh s[k].toNat && keyAll (s.data.toList.drop (k + 1))) := by
  rw [List.drop_eq_getElem_cons (by simpa using h)]; rfl

set_option maxRecDepth 100000 in
set_option maxHeartbeats 1000000 in
theorem spec_keyOk (s : ByteArray) (w : World) (hs : s.size ≤ 1099511627776) :
    Calls Try.prog 77 #[.string s] w fun e w' => e = .returned (.bool (keyOk s)) ∧ w' = w := by
  generalize hR : keyAll s.data.toList = R
  have HR := Hid.mk' hR
  clear hR
  go_enter Try.func77, Try.ntmps77
  go_wp2
  go_loop [3] (fun i => ∃ k : Nat, k ≤ s.size ∧ i = .int .i64 (k : Int) ∧ keyAll (s.data.toList.drop k) = R) (fun i => s.size - (intOf i).toNat)
  case atStart => exact ⟨0, Nat.zero_le _, rfl, HR.out⟩
  case round =>
    obtain ⟨k, hk, rfl, hr⟩ := hrel
    by_cases hlt : k < s.size
    · have hst := keyAll_drop s k hlt
      rw [hr] at hst
      have hc := s[k].toNat_lt
      generalize hC : s[k].toNat = c at *
      have HST := Hid.mk' hst
      have HC := Hid.mk' hC
      clear hst hr
      have hki : (k : Int) < (s.size : Int) := by omega
      by_cases h1 : 97 ≤ c ∧ c ≤ 122
      · have HF : Hid (keyAll (s.data.toList.drop (k + 1)) = R) := by
          show _ = _
          have := HST.out; rw [show keyCh c = true by simp [keyCh, h1]] at this; simpa using this.symm
        have hl := s_in (c : Int) 97 122 w (by omega) (by omega) (by omega)
        rw [decide_eq_true (by omega)] at hl
        have HL := Hid.mk' hl
        clear hl HST
        go_wp2_with fail
        refine HL.out.mono ?_
        rintro e w1 ⟨rfl, rfl⟩
        go_wp2_with fail
        go_round
        case rel => exact ⟨k + 1, by omega, by go_num, HF.out⟩
        case measure => simp [intOf]; omega
      · have hl := s_in (c : Int) 97 122 w (by omega) (by omega) (by omega)
        rw [decide_eq_false (by omega)] at hl
        have HL := Hid.mk' hl
        clear hl
        by_cases h2 : 48 ≤ c ∧ c ≤ 57
        · have HF : Hid (keyAll (s.data.toList.drop (k + 1)) = R) := by
            show _ = _
            have := HST.out; rw [show keyCh c = true by simp [keyCh, h2]] at this; simpa using this.symm
          have hl := s_in (c : Int) 48 57 w (by omega) (by omega) (by omega)
          rw [decide_eq_true (by omega)] at hl
          have HL2 := Hid.mk' hl
          clear hl HST
          go_wp2_with fail
          refine HL.out.mono ?_
          rintro e w1 ⟨rfl, rfl⟩
          go_wp2_with fail
          refine HL2.out.mono ?_
          rintro e w1 ⟨rfl, rfl⟩
          go_wp2_with fail
          go_round
          case rel => exact ⟨k + 1, by omega, by go_num, HF.out⟩
          case measure => simp [intOf]; omega
        · have HF : Hid (R = false) := by
            show _ = _
            have := HST.out; rw [show keyCh c = false by simp only [keyCh, h1, h2]; rfl] at this; simpa using this
          have hl := s_in (c : Int) 48 57 w (by omega) (by omega) (by omega)
          rw [decide_eq_false (by omega)] at hl
          have HL2 := Hid.mk' hl
          clear hl HST
          go_wp2_with fail
          refine HL.out.mono ?_
          rintro e w1 ⟨rfl, rfl⟩
          go_wp2_with fail
          refine HL2.out.mono ?_
          rintro e w1 ⟨rfl, rfl⟩
          go_wp2_with fail
          go_ret
          exact ⟨ret_bool (by unfold keyOk; rw [HR.out, HF.out]; rfl), rfl⟩
    · have HF : Hid (R = true) := by show _ = _; rw [← hr, List.drop_eq_nil_of_le (by simp; omega)]; rfl
      have hl := s_in (s.size : Int) 1 12 w (by omega) (by omega) (by omega)
      rw [show decide ((1 : Int) ≤ (s.size : Int) ∧ (s.size : Int) ≤ 12) = decide (1 ≤ s.size ∧ s.size ≤ 12) by rw [decide_eq_decide]; omega] at hl
      have HL := Hid.mk' hl
      clear hl hr
      go_wp2_with fail
      refine HL.out.mono ?_
      rintro e w1 ⟨rfl, rfl⟩
      go_wp2_with fail
      go_ret
      exact ⟨ret_bool (by unfold keyOk; rw [HR.out, HF.out]; simp), rfl⟩


theorem str_ne {a b : ByteArray} (h : a ≠ b) : (a.toList == b.toList) = false := by
  rw [beq_eq_false_iff_ne]; intro e; rw [ByteArray.toList_eq, ByteArray.toList_eq] at e; exact h (bytes_ext e)



end Go.Proofs.Ytefjbpkomphjdaa.pairs

namespace Go.Proofs.Ytefjbpkomphjdaa.pairs
open Go Go.RowKit Go.Proofs.Ytefjbpkomphjdaa.base
set_option linter.unusedVariables false
set_option linter.unusedSimpArgs false

end Go.Proofs.Ytefjbpkomphjdaa.pairs

namespace Go.Proofs.Ytefjbpkomphjdaa.pairs
open Go Go.RowKit Go.Proofs.Ytefjbpkomphjdaa.base
set_option linter.unusedVariables false
set_option linter.unusedSimpArgs false

end Go.Proofs.Ytefjbpkomphjdaa.pairs

namespace Go.Proofs.Ytefjbpkomphjdaa.last
open Go Go.RowKit
section
variable {P : Program} {ops : Array Oper} {md : Region.Mode} {C : World → Prop}

/-! ### calls that make memory: the class of the worlds that go on from w -/
def On (B : Nat) (w : World) : Type := { w' : World // Below B w w' }
def On.w {B : Nat} {w : World} (x : On B w) : World := x.1
theorem On.inh (B : Nat) (w : World) : Nonempty (On B w) := ⟨⟨w, Below.refl _ _⟩⟩
theorem wp_region_on {id : Nat} {Q : Exit → Act → World → Prop} {a : Act} {w : World} {l : List Oper} (B : Nat) (hm : P.follows .mixedOrders = true) (hB : Region.lexB .any l.toArray = true)
    (h : wpQuiet P l.toArray (fun w' => ∃ x : On B w, w' = x.w) (fun a' => ∀ w', (∃ x : On B w, w' = x.w) → Q .normal a' w') l a) : (Code.region id l.toArray true).wp P Q a w :=
  wp_region_quiet (C := fun w' => ∃ x : On B w, w' = x.w) hm hB ⟨⟨w.drew, (Below.refl _ _).drew⟩, rfl⟩ (by simpa using h)
theorem Calls.on {f : FuncId} {args : Array Value} {B : Nat} {w : World} {v : Value} (x : On B w) (hBw : B ≤ w.heap.size) (h : Calls P f args x.w fun e w' => e = .returned v ∧ Below x.w.heap.size x.w w') :
    Calls P f args x.w fun e w'' => e = .returned v ∧ ∃ y : On B w, w'' = y.w :=
  h.mono fun _ w'' ⟨he, hb⟩ => ⟨he, ⟨w'', x.2.trans (hb.mono (Nat.le_trans hBw x.2.size))⟩, rfl⟩
theorem On.cell {B : Nat} {w : World} {b o : Nat} {v : Value} (h : w.cell? ⟨b, o, none⟩ = some v) (hb : b < B) : ∀ x : On B w, x.w.cell? ⟨b, o, none⟩ = some v :=
  fun x => (x.2.cell (p := ⟨b, o, none⟩) hb).trans h

end
end Go.Proofs.Ytefjbpkomphjdaa.last

namespace Go.Proofs.Ytefjbpkomphjdaa.pairs
open Go Go.RowKit Go.Proofs.Ytefjbpkomphjdaa.base
set_option linter.unusedVariables false
set_option linter.unusedSimpArgs false

theorem keepC {W w' : World} {b o : Nat} {v : Value} (hb : Below W.heap.size W w') (h : W.cell? ⟨b, o, none⟩ = some v) : w'.cell? ⟨b, o, none⟩ = some v :=
  (hb.cell (p := ⟨b, o, none⟩) (World.block_lt_of_cell? W _ h)).trans h
theorem keepB2 {W w' : World} {b o1 o2 : Nat} {v1 v2 : Value} (hb : Below W.heap.size W w') (h : W.cell? ⟨b, o1, none⟩ = some v1 ∧ W.cell? ⟨b, o2, none⟩ = some v2) :
    w'.cell? ⟨b, o1, none⟩ = some v1 ∧ w'.cell? ⟨b, o2, none⟩ = some v2 := ⟨keepC hb h.1, keepC hb h.2⟩
theorem keepB3 {W w' : World} {b o1 o2 o3 : Nat} {v1 v2 v3 : Value} (hb : Below W.heap.size W w') (h : W.cell? ⟨b, o1, none⟩ = some v1 ∧ W.cell? ⟨b, o2, none⟩ = some v2 ∧ W.cell? ⟨b, o3, none⟩ = some v3) :
    w'.cell? ⟨b, o1, none⟩ = some v1 ∧ w'.cell? ⟨b, o2, none⟩ = some v2 ∧ w'.cell? ⟨b, o3, none⟩ = some v3 := ⟨keepC hb h.1, keepB2 hb h.2⟩


end Go.Proofs.Ytefjbpkomphjdaa.pairs

namespace Go.Proofs.Ytefjbpkomphjdaa.pairs
open Go Go.RowKit Go.Proofs.Ytefjbpkomphjdaa.base
set_option linter.unusedVariables false
set_option linter.unusedSimpArgs false

end Go.Proofs.Ytefjbpkomphjdaa.pairs

namespace Go.Proofs.Ytefjbpkomphjdaa.pairs
open Go Go.RowKit Go.Proofs.Ytefjbpkomphjdaa.base Go.Proofs.Ytefjbpkomphjdaa.draw
set_option linter.unusedVariables false
set_option linter.unusedSimpArgs false

theorem grown_of_alloc {w w' : World} {o : Obj} {row : Option Nat} (h : (w.alloc o).grownBy w' row) : w.grownBy w' row := grownBy_trans (grown_alloc0 w o row) h

theorem curNe {w0 w : World} {gc : Nat} {a : Option Addr} {len cap : Nat} {code : List UInt8} (h : Cur w0 w gc a len cap code) : w.heap.size ≠ gc := by have := h.lt; omega
end Go.Proofs.Ytefjbpkomphjdaa.pairs

namespace Go.Proofs.Ytefjbpkomphjdaa.pairs
open Go Go.RowKit Go.Proofs.Ytefjbpkomphjdaa.base Go.Proofs.Ytefjbpkomphjdaa.draw
set_option linter.unusedVariables false
set_option linter.unusedSimpArgs false

end Go.Proofs.Ytefjbpkomphjdaa.pairs

namespace Go.Proofs.Ytefjbpkomphjdaa.pairs
open Go
set_option linter.unusedVariables false
set_option linter.unusedSimpArgs false

/-! ### rising lists -/
/-! ### what is got -/
/-! ### pairs that stay right -/
/-! ### between -/
/-! ### union -/
end Go.Proofs.Ytefjbpkomphjdaa.pairs

namespace Go.Proofs.Ytefjbpkomphjdaa.pairs
open Go Go.RowKit Go.Proofs.Ytefjbpkomphjdaa.base Go.Proofs.Ytefjbpkomphjdaa.draw
set_option linter.unusedVariables false
set_option linter.unusedSimpArgs false

def goodK (z : ByteArray) : Bool := keyOk z && Op.bytesLess z.data.toList [122, 122]
theorem goodK_ok {z : ByteArray} (h : goodK z = true) : keyOk z = true := (Bool.and_eq_true_iff.1 h).1
theorem some_atB (zs : Array Value) (n : Nat) (f : ByteArray → Bool) (h : (List.range n).all (fun i => match zs[i]? with | some (.string z) => f z | _ => false) = true) : ∀ i, i < n → ∃ z, zs[i]? = some (.string z) ∧ f z = true := by
  intro i hi
  have := List.all_eq_true.1 h i (List.mem_range.2 hi)
  split at this
  · rename_i z hz; exact ⟨z, hz, this⟩
  · cases this
set_option maxHeartbeats 1000000 in
theorem d_keyG (w0 w : World) (gc : Nat) (a : Option Addr) (len cap : Nat) (code : List UInt8) (h : Cur w0 w gc a len cap code) :
    Calls Try.prog 70 #[.pointer (some ⟨gc, 0, none⟩)] w fun e w' => ∃ z : ByteArray, goodK z = true ∧ e = .returned (.string z) ∧ Cur w0 w' gc a len cap code ∧ w.grownBy w' (some gc) := by
  go_enter Try.func70, Try.ntmps70
  go_wp2_with fail
  have hne := curNe h
  refine (str_ w0 _ gc a len cap code w.heap.size 7 _ _ _ (h.below ((Below.refl _ _).alloc (Nat.le_refl _) _)) (heap_alloc_new w _) rfl (by omega) (by omega) hne (fun z => goodK z = true) (some_atB _ 7 goodK (by kernel_rfl))).mono ?_
  rintro e w1 ⟨z, hz, rfl, hc1, hg1⟩
  go_wp2_with fail
  go_ret
  exact ⟨z, hz, rfl, hc1, grown_of_alloc hg1⟩
end Go.Proofs.Ytefjbpkomphjdaa.pairs

namespace Go.Proofs.Ytefjbpkomphjdaa.help
open Go.RowKit Go.Proofs.Ytefjbpkomphjdaa.base
set_option linter.unusedVariables false
set_option linter.unusedSimpArgs false

end Go.Proofs.Ytefjbpkomphjdaa.help

namespace Go.Proofs.Ytefjbpkomphjdaa.getnum
open Go.RowKit Go.Proofs.Ytefjbpkomphjdaa.base Go.Proofs.Ytefjbpkomphjdaa.help
set_option linter.unusedVariables false
set_option linter.unusedSimpArgs false

end Go.Proofs.Ytefjbpkomphjdaa.getnum

namespace Go.Proofs.Ytefjbpkomphjdaa.getnum
open Go.RowKit Go.Proofs.Ytefjbpkomphjdaa.base Go.Proofs.Ytefjbpkomphjdaa.help
set_option linter.unusedVariables false
set_option linter.unusedSimpArgs false

end Go.Proofs.Ytefjbpkomphjdaa.getnum

namespace Go.Proofs.Ytefjbpkomphjdaa.gettext
open Go.RowKit Go.Proofs.Ytefjbpkomphjdaa.base Go.Proofs.Ytefjbpkomphjdaa.help Go.Proofs.Ytefjbpkomphjdaa.getnum
set_option linter.unusedVariables false
set_option linter.unusedSimpArgs false

end Go.Proofs.Ytefjbpkomphjdaa.gettext

namespace Go.Proofs.Ytefjbpkomphjdaa.helps
open Go.RowKit Go.Proofs.Ytefjbpkomphjdaa.base Go.Proofs.Ytefjbpkomphjdaa.help
set_option linter.unusedVariables false
set_option linter.unusedSimpArgs false

end Go.Proofs.Ytefjbpkomphjdaa.helps

namespace Go.Proofs.Ytefjbpkomphjdaa.gettexts
open Go.RowKit Go.Proofs.Ytefjbpkomphjdaa.base Go.Proofs.Ytefjbpkomphjdaa.help Go.Proofs.Ytefjbpkomphjdaa.helps Go.Proofs.Ytefjbpkomphjdaa.getnum Go.Proofs.Ytefjbpkomphjdaa.gettext
set_option linter.unusedVariables false
set_option linter.unusedSimpArgs false

end Go.Proofs.Ytefjbpkomphjdaa.gettexts

namespace Go.Proofs.Ytefjbpkomphjdaa.putnum
open Go.RowKit Go.Proofs.Ytefjbpkomphjdaa.base Go.Proofs.Ytefjbpkomphjdaa.help
set_option linter.unusedVariables false
set_option linter.unusedSimpArgs false

end Go.Proofs.Ytefjbpkomphjdaa.putnum

namespace Go.Proofs.Ytefjbpkomphjdaa.puttext
open Go.RowKit Go.Proofs.Ytefjbpkomphjdaa.base Go.Proofs.Ytefjbpkomphjdaa.help Go.Proofs.Ytefjbpkomphjdaa.putnum
set_option linter.unusedVariables false
set_option linter.unusedSimpArgs false

end Go.Proofs.Ytefjbpkomphjdaa.puttext

namespace Go.Proofs.Ytefjbpkomphjdaa.puttexts
open Go.RowKit Go.Proofs.Ytefjbpkomphjdaa.base Go.Proofs.Ytefjbpkomphjdaa.help Go.Proofs.Ytefjbpkomphjdaa.helps Go.Proofs.Ytefjbpkomphjdaa.putnum Go.Proofs.Ytefjbpkomphjdaa.puttext
set_option linter.unusedVariables false
set_option linter.unusedSimpArgs false

end Go.Proofs.Ytefjbpkomphjdaa.puttexts

namespace Go.Proofs.Ytefjbpkomphjdaa.nummath
open Go.RowKit Go.Proofs.Ytefjbpkomphjdaa.base Go.Proofs.Ytefjbpkomphjdaa.help Go.Proofs.Ytefjbpkomphjdaa.getnum Go.Proofs.Ytefjbpkomphjdaa.putnum Go.Proofs.Ytefjbpkomphjdaa.gettext Go.Proofs.Ytefjbpkomphjdaa.puttext Go.Proofs.Ytefjbpkomphjdaa.gettexts Go.Proofs.Ytefjbpkomphjdaa.puttexts
set_option linter.unusedVariables false
set_option linter.unusedSimpArgs false

end Go.Proofs.Ytefjbpkomphjdaa.nummath
