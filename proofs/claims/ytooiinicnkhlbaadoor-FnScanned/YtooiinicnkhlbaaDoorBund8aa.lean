/- Plain mathematics and small facts on worlds, used by the proofs of this seat: no program is named here. Rows that a call makes, appends and conversions: small facts on worlds; no function of the program is named here. Plain mathematics of pairs of texts. -/
import Derived.WalkKit
import Derived.WalkSpells
import Derived.WalkLawsBesides
import Derived.Lib.ConvBytes
import Derived.Test.YtooiinicnkhlbaaDoorRows
import Derived.Deep.QuietTactic
import Derived.BigQuiet
import Derived.Deep.RegionWith
import Derived.Laws.CopyOwn
import Derived.Laws.BytesArg
import Derived.Lib.AppendStr
import Derived.ArgAppend
import Derived.Deep.RegionLaw
import Derived.Sort.Walk0
import Derived.WideShapes
namespace Go.Proofs.YtooiinicnkhlbaaDoor.base
open Go.RowKit

/-! ### the hash -/
def hstep (h c : Nat) : Nat := (h ^^^ c) * 16777619 % 4294967296
def hashOf (l : List UInt8) : Nat := l.foldl (fun h c => hstep h c.toNat) 2166136261
theorem hstep_lt (h c : Nat) : hstep h c < 4294967296 := by unfold hstep; omega
theorem foldl_lt (l : List UInt8) (h : Nat) (hh : h < 4294967296) : l.foldl (fun h c => hstep h c.toNat) h < 4294967296 := by
  induction l generalizing h with
  | nil => simpa using hh
  | cons c l ih => simp only [List.foldl_cons]; exact ih _ (hstep_lt _ _)
theorem hashOf_lt (l : List UInt8) : hashOf l < 4294967296 := by
  unfold hashOf; exact foldl_lt l 2166136261 (by omega)
theorem foldl_snoc {α β : Type} (f : β → α → β) (b : β) (l : List α) (c : α) : (l ++ [c]).foldl f b = f (l.foldl f b) c := by simp
theorem hashOf_snoc (l : List UInt8) (c : UInt8) : hashOf (l ++ [c]) = hstep (hashOf l) c.toNat := by
  unfold hashOf; exact foldl_snoc (fun h (c : UInt8) => hstep h c.toNat) 2166136261 l c
theorem xor_lt (h c : Nat) (hh : h < 4294967296) (hc : c < 256) : h ^^^ c < 4294967296 :=
  Nat.xor_lt_two_pow (n := 32) (by omega) (by omega)
theorem i64_xor_nat (a b : Nat) (ha : a < 4294967296) (hb : b < 4294967296) : bits .xor .i64 (a : Int) (b : Int) = ((a ^^^ b : Nat) : Int) := by
  have hx : a ^^^ b < 4294967296 := Nat.xor_lt_two_pow (n := 32) (by omega) (by omega)
  show IntKind.i64.wrap ((BitVec.ofInt 64 (a : Int) ^^^ BitVec.ofInt 64 (b : Int)).toNat : Int) = _
  rw [BitVec.toNat_xor, ofInt_u64 a (by omega), ofInt_u64 b (by omega), IntKind.wrap_i64]
  omega
theorem wraps_i64 (n : Int) (h₀ : 0 ≤ n) (h₁ : n < 2 ^ 63) : IntKind.i64.wrap n = n := by rw [IntKind.wrap_i64]; omega
theorem i64_mask32 (x : Int) (h₀ : 0 ≤ x) (h₁ : x < 9223372036854775808) : bits .and .i64 x 4294967295 = x % 4294967296 :=
  bits_mask .i64 63 (by decide) wraps_i64 32 (by decide) x h₀ (by omega)
theorem u32_step (h c : Nat) (hh : h < 4294967296) (hc : c < 256) : IntKind.u32.wrap (bits .xor .u32 (h : Int) (c : Int) * 16777619) = (hstep h c : Int) := by
  rw [u32_xor_nat h c hh (by omega), IntKind.wrap_u32]; unfold hstep; omega
theorem i64_step (h c : Nat) (hh : h < 4294967296) (hc : c < 256) : bits .and .i64 (bits .xor .i64 (h : Int) (c : Int) * 16777619) 4294967295 = (hstep h c : Int) := by
  have := xor_lt h c hh hc
  rw [i64_xor_nat h c hh (by omega), i64_mask32 _ (by omega) (by omega)]; unfold hstep; omega

theorem i64_step' (h c : Nat) (hh : h < 4294967296) (hc : c < 256) : bits .and .i64 (wrap64 (bits .xor .i64 (h : Int) (c : Int) * 16777619)) 4294967295 = (hstep h c : Int) := by
  have := xor_lt h c hh hc
  rw [IntWalk.wrap64_in _ (by rw [i64_xor_nat h c hh (by omega)]; omega)]
  exact i64_step h c hh hc

theorem take_snoc (s : ByteArray) (k : Nat) (h : k < s.size) : s.data.toList.take (k + 1) = s.data.toList.take k ++ [s[k]] := by
  rw [List.take_succ_eq_append_getElem (by simpa using h)]; rfl
theorem val_int {k : IntKind} {a b : Int} (h : a = b) : Value.int k a = .int k b := by rw [h]
theorem ret_bool {a b : Bool} (h : a = b) : Ending.returned (.bool a) = .returned (.bool b) := by rw [h]
theorem ret_int {k : IntKind} {a b : Int} (h : a = b) : Ending.returned (.int k a) = .returned (.int k b) := by rw [h]


/-! ### worlds -/
theorem below_bytesWorld (w : World) (e : TypeId) (s : ByteArray) : Below w.heap.size w (Lib.bytesWorld w e s) :=
  ⟨rfl, rfl, rfl, by rw [Lib.bytesWorld_size]; omega, fun k hk => Lib.bytesWorld_at_old w e s k hk⟩

/-! ### slices of bytes that are read -/
/-- the slice at 'a', of 'len' elements, holds the bytes 'bs' -/
def Sl (w : World) (a : Option Addr) (len : Nat) (bs : List UInt8) : Prop :=
  bs.length = len ∧ len ≤ maxLen ∧ (0 < len → ∃ b off, a = some ⟨b, off, none⟩ ∧ ∀ i (h : i < bs.length), w.cell? ⟨b, off + i, none⟩ = some (.int .u8 bs[i].toNat))
theorem sl_nil (w : World) (a : Option Addr) : Sl w a 0 [] := ⟨rfl, Nat.zero_le _, fun h => absurd h (by omega)⟩
theorem bounds8 {n : Int} (h : (Lit.int .u8 n).wf = true) : 0 ≤ n ∧ n ≤ 255 := by
  simpa [Lit.wf, IntKind.min, IntKind.max, IntKind.signed, IntKind.bits] using h
theorem sl_of_ints {w : World} {x : Addr} {len cap : Nat} {zs : List Int} (hl : len ≤ cap) (hm : cap ≤ maxLen) (hz : zs.length = cap)
    (hcell : ∀ i, i < zs.length → w.cell? (x.add i) = some (.int .u8 (zs.getD i 0))) (hwz : ∀ n ∈ zs, (Lit.int .u8 n).wf = true) :
    Sl w (some x) len ((zs.take len).map fun n => UInt8.ofNat n.toNat) := by
  refine ⟨by simp; omega, by omega, fun h0 => ?_⟩
  obtain ⟨b, off, spot⟩ := x
  have hspot : spot = none := by simpa [Addr.add] using World.cell?_spot (hcell 0 (by omega))
  subst hspot
  refine ⟨b, off, rfl, fun i h => ?_⟩
  have hi : i < zs.length := by simp at h; omega
  have hc := hcell i hi
  rw [Addr.add_lit] at hc
  rw [hc]
  have hb := bounds8 (hwz zs[i] (List.getElem_mem hi))
  simp only [List.getElem_map, List.getElem_take, List.getD, List.getElem?_eq_getElem hi, Option.getD_some, Option.some.injEq]
  refine val_int ?_
  simp
  omega
theorem Sl.lt {w : World} {b off len : Nat} {bs : List UInt8} (h : Sl w (some ⟨b, off, none⟩) len bs) (h0 : 0 < len) : b < w.heap.size := by
  obtain ⟨h1, _, h3⟩ := h
  obtain ⟨b', off', e, hc⟩ := h3 h0
  simp only [Option.some.injEq, Addr.mk.injEq, and_true] at e
  obtain ⟨rfl, rfl⟩ := e
  exact World.block_lt_of_cell? w _ (hc 0 (by omega))
theorem Sl.at {w : World} {b off len : Nat} {bs : List UInt8} (h : Sl w (some ⟨b, off, none⟩) len bs) (i : Nat) (hi : i < bs.length) : w.cell? ⟨b, off + i, none⟩ = some (.int .u8 bs[i].toNat) := by
  obtain ⟨h1, _, h3⟩ := h
  obtain ⟨b', off', e, hc⟩ := h3 (by omega)
  simp only [Option.some.injEq, Addr.mk.injEq, and_true] at e
  obtain ⟨rfl, rfl⟩ := e
  exact hc i hi
theorem Sl.below {w w' : World} {a : Option Addr} {len : Nat} {bs : List UInt8} (h : Sl w a len bs) (hb : Below w.heap.size w w') : Sl w' a len bs := by
  obtain ⟨h1, h2, h3⟩ := h
  refine ⟨h1, h2, fun h0 => ?_⟩
  obtain ⟨b, off, rfl, hc⟩ := h3 h0
  exact ⟨b, off, rfl, fun i hi => (hb.cell (p := ⟨b, off + i, none⟩) (World.block_lt_of_cell? w _ (hc i hi))).trans (hc i hi)⟩
theorem Sl.grown {w w' : World} {b off len : Nat} {bs : List UInt8} {row : Option Nat} (h : Sl w (some ⟨b, off, none⟩) len bs) (hg : w.grownBy w' row) (hne : some b ≠ row) : Sl w' (some ⟨b, off, none⟩) len bs := by
  have hat := h.at
  exact ⟨h.1, h.2.1, fun h0 => ⟨b, off, rfl, fun i hi => hg.cell (hat i hi) hne⟩⟩

/-! ### slices of bytes that the call itself made -/
def byteVals (bs : List UInt8) : List Value := bs.map fun u => .int .u8 u.toNat
theorem byteVals_length (bs : List UInt8) : (byteVals bs).length = bs.length := by simp [byteVals]
/-- block g is a row of the call's own (from 'base' on): the slice at its head has n elements, the bytes 'bs' -/
def Own (w : World) (base g n cap : Nat) (bs : List UInt8) : Prop := bs.length = n ∧ w.ownsRow base 5 1 (.slice (some ⟨g, 0, none⟩) n cap) n (byteVals bs)
theorem Own.lt {w : World} {base g n cap : Nat} {bs : List UInt8} (h : Own w base g n cap bs) : base ≤ g ∧ g < w.heap.size := h.2.lt g rfl
theorem Own.max {w : World} {base g n cap : Nat} {bs : List UInt8} (h : Own w base g n cap bs) : n ≤ cap ∧ cap ≤ maxLen := by
  rcases h.2.2 with ⟨h', _⟩ | ⟨g', cap', cur, h', _, hg, h1, h2, _⟩
  · simp at h'
  · simp only [Value.slice.injEq, Option.some.injEq, Addr.mk.injEq, and_true, true_and] at h'
    obtain ⟨rfl, rfl⟩ := h'
    exact ⟨h1, h2⟩
theorem Own.mono {w : World} {base base' g n cap : Nat} {bs : List UInt8} (h : Own w base g n cap bs) (hb : base' ≤ base) : Own w base' g n cap bs := by
  refine ⟨h.1, h.2.1, ?_⟩
  rcases h.2.2 with h' | ⟨g', cap', cur, h', h0, r⟩
  · exact .inl h'
  · exact .inr ⟨g', cap', cur, h', by omega, r⟩
theorem Own.at {w : World} {base g n cap : Nat} {bs : List UInt8} (h : Own w base g n cap bs) (i : Nat) (hi : i < bs.length) : w.cell? ⟨g, i, none⟩ = some (.int .u8 bs[i].toNat) := by
  rw [h.2.cellAt i (by have := h.1; omega)]; simp [byteVals, hi]
theorem Own.frozen {w : World} {base g n cap : Nat} {bs : List UInt8} (h : Own w base g n cap bs) (i : Nat) : w.frozen? ⟨g, i, none⟩ = false := h.2.frozenAt i
theorem Own.sl {w : World} {base g n cap : Nat} {bs : List UInt8} (h : Own w base g n cap bs) : Sl w (some ⟨g, 0, none⟩) n bs :=
  ⟨h.1, by have := h.max; omega, fun _ => ⟨g, 0, rfl, fun i hi => by rw [Nat.zero_add]; exact h.at i hi⟩⟩
theorem Own.grown {w w' : World} {base g n cap : Nat} {bs : List UInt8} {row : Option Nat} (h : Own w base g n cap bs) (hg : w.grownBy w' row) (hne : some g ≠ row) : Own w' base g n cap bs :=
  ⟨h.1, h.2.kept hg (.inr hne)⟩
theorem Own.below {w w' : World} {base g n cap : Nat} {bs : List UInt8} (h : Own w base g n cap bs) (hb : Below w.heap.size w w') : Own w' base g n cap bs :=
  ⟨h.1, h.2.kept (row := none) ⟨hb.os, hb.tape, hb.output, hb.size, fun k hk _ => hb.block k hk⟩ (.inr (by simp [Value.ownBlock]))⟩
theorem below_grown {w w' : World} {B g : Nat} (hg : w.grownBy w' (some g)) (h : B ≤ g) (hB : B ≤ w.heap.size) : Below B w w' :=
  (Below.refl B w).grown hg hB (fun k e => by cases e; exact h)

/-- every old block that is no plain row of bytes is as it was -/
def Keeps (w w' : World) : Prop := w.heap.size ≤ w'.heap.size ∧ ∀ b, b < w.heap.size → (∀ cur, w.heap[b]? ≠ some (.cells cur 5 (0, 0))) → w'.heap[b]? = w.heap[b]?
theorem Keeps.refl (w : World) : Keeps w w := ⟨Nat.le_refl _, fun _ _ _ => rfl⟩
theorem Keeps.trans {a b c : World} (h : Keeps a b) (k : Keeps b c) : Keeps a c :=
  ⟨Nat.le_trans h.1 k.1, fun i hi hn => by
    have e := h.2 i hi hn
    rw [k.2 i (Nat.lt_of_lt_of_le hi h.1) (by rw [e]; exact hn), e]⟩
theorem Keeps.of_below {w w' : World} (h : Below w.heap.size w w') : Keeps w w' := ⟨h.size, fun b hb _ => h.block b hb⟩
theorem Own.keeps {w w' : World} {base g n cap : Nat} {bs : List UInt8} (h : Own w base g n cap bs) (hg : w.grownBy w' (some g)) : Keeps w w' := by
  refine ⟨hg.size, fun b hb hn => hg.block b hb ?_⟩
  intro e
  simp only [Option.some.injEq] at e
  subst e
  rcases h.2.2 with ⟨h', _⟩ | ⟨g', cap', cur, h', _, hgg, _⟩
  · simp at h'
  · simp only [Value.slice.injEq, Option.some.injEq, Addr.mk.injEq, and_true, true_and] at h'
    obtain ⟨rfl, rfl⟩ := h'
    exact hn cur hgg
theorem Keeps.alloc {a w : World} (h : Keeps a w) (o : Obj) : Keeps a (w.alloc o) :=
  h.trans (.of_below ((Below.refl _ _).alloc (Nat.le_refl _) o))

/-! ### slices of strings -/
def SlS (w : World) (a : Option Addr) (len : Nat) (ss : List ByteArray) : Prop :=
  ss.length = len ∧ len ≤ maxLen ∧ (∀ s ∈ ss, s.size ≤ maxLen) ∧ (0 < len → ∃ b off, a = some ⟨b, off, none⟩ ∧ ∀ i (h : i < ss.length), w.cell? ⟨b, off + i, none⟩ = some (.string ss[i]))
theorem sls_nil (w : World) (a : Option Addr) : SlS w a 0 [] := ⟨rfl, Nat.zero_le _, (fun _ h => absurd h List.not_mem_nil), fun h => absurd h (by omega)⟩
theorem sls_of_strings {w : World} {x : Addr} {len cap : Nat} {zs : List ByteArray} (hl : len ≤ cap) (hm : cap ≤ maxLen) (hz : zs.length = cap)
    (hcell : ∀ i, i < zs.length → w.cell? (x.add i) = some (.string (zs.getD i ByteArray.empty))) (hwz : ∀ s ∈ zs, s.size ≤ maxLen) :
    SlS w (some x) len (zs.take len) := by
  refine ⟨by simp; omega, by omega, fun s hs => hwz s (List.mem_of_mem_take hs), fun h0 => ?_⟩
  obtain ⟨b, off, spot⟩ := x
  have hspot : spot = none := by simpa [Addr.add] using World.cell?_spot (hcell 0 (by omega))
  subst hspot
  refine ⟨b, off, rfl, fun i h => ?_⟩
  have hi : i < zs.length := by simp at h; omega
  have hc := hcell i hi
  rw [Addr.add_lit] at hc
  rw [hc]
  simp [List.getD, hi]
theorem SlS.below {w w' : World} {a : Option Addr} {len : Nat} {ss : List ByteArray} (h : SlS w a len ss) (hb : Below w.heap.size w w') : SlS w' a len ss := by
  obtain ⟨h1, h2, h4, h3⟩ := h
  refine ⟨h1, h2, h4, fun h0 => ?_⟩
  obtain ⟨b, off, rfl, hc⟩ := h3 h0
  exact ⟨b, off, rfl, fun i hi => (hb.cell (p := ⟨b, off + i, none⟩) (World.block_lt_of_cell? w _ (hc i hi))).trans (hc i hi)⟩
def strVals (ss : List ByteArray) : List Value := ss.map fun s => .string s
theorem strVals_length (ss : List ByteArray) : (strVals ss).length = ss.length := by simp [strVals]
/-- block g is a row of strings of the call's own -/
def OwnS (w : World) (base g n cap : Nat) (ss : List ByteArray) : Prop := ss.length = n ∧ (∀ s ∈ ss, s.size ≤ maxLen) ∧ w.ownsRow base 9 1 (.slice (some ⟨g, 0, none⟩) n cap) n (strVals ss)
section
variable {w w' : World} {base base' g n cap : Nat} {ss : List ByteArray} {row : Option Nat}
theorem OwnS.lt (h : OwnS w base g n cap ss) : base ≤ g ∧ g < w.heap.size := h.2.2.lt g rfl
theorem OwnS.cases (h : OwnS w base g n cap ss) : n ≤ cap ∧ cap ≤ maxLen ∧ ∃ cur, w.heap[g]? = some (.cells cur 9 (0, 0)) := by
  rcases h.2.2.2 with ⟨h', _⟩ | ⟨g', cap', cur, h', _, hg, h1, h2, _⟩
  · simp at h'
  · simp only [Value.slice.injEq, Option.some.injEq, Addr.mk.injEq, and_true, true_and] at h'
    obtain ⟨rfl, rfl⟩ := h'
    exact ⟨h1, h2, cur, hg⟩
theorem OwnS.mono (h : OwnS w base g n cap ss) (hb : base' ≤ base) : OwnS w base' g n cap ss := by
  refine ⟨h.1, h.2.1, h.2.2.1, ?_⟩
  rcases h.2.2.2 with h' | ⟨g', cap', cur, h', h0, r⟩
  · exact .inl h'
  · exact .inr ⟨g', cap', cur, h', by omega, r⟩
theorem OwnS.at (h : OwnS w base g n cap ss) (i : Nat) (hi : i < ss.length) : w.cell? ⟨g, i, none⟩ = some (.string ss[i]) := by
  rw [h.2.2.cellAt i (by have := h.1; omega)]; simp [strVals, hi]
theorem OwnS.frozen (h : OwnS w base g n cap ss) (i : Nat) : w.frozen? ⟨g, i, none⟩ = false := h.2.2.frozenAt i
theorem OwnS.sl (h : OwnS w base g n cap ss) : SlS w (some ⟨g, 0, none⟩) n ss :=
  ⟨h.1, by have := h.cases; omega, h.2.1, fun _ => ⟨g, 0, rfl, fun i hi => by rw [Nat.zero_add]; exact h.at i hi⟩⟩
theorem OwnS.grown (h : OwnS w base g n cap ss) (hg : w.grownBy w' row) (hne : some g ≠ row) : OwnS w' base g n cap ss :=
  ⟨h.1, h.2.1, h.2.2.kept hg (.inr hne)⟩
theorem OwnS.below (h : OwnS w base g n cap ss) (hb : Below w.heap.size w w') : OwnS w' base g n cap ss :=
  ⟨h.1, h.2.1, h.2.2.kept (row := none) ⟨hb.os, hb.tape, hb.output, hb.size, fun k hk _ => hb.block k hk⟩ (.inr (by simp [Value.ownBlock]))⟩
end

end Go.Proofs.YtooiinicnkhlbaaDoor.base

namespace Go.Proofs.YtooiinicnkhlbaaDoor.base
open Go.RowKit
set_option linter.unusedVariables false
set_option linter.unusedSimpArgs false

theorem grownBy_trans {a b c : World} {row : Option Nat} (h : a.grownBy b row) (k : b.grownBy c row) : a.grownBy c row :=
  ⟨k.os.trans h.os, k.tape.trans h.tape, k.output.trans h.output, Nat.le_trans h.size k.size, fun i hi hr => (k.block i (Nat.lt_of_lt_of_le hi h.size) hr).trans (h.block i hi hr)⟩
theorem Hid.mk' {p : Prop} (h : p) : Hid p := h
theorem info8 : (Tryd.prog.info? 5).map (fun i => (i.zero, i.size, i.bytes)) = some (some (.int .u8 0), 1, 1) := by kernel_rfl
theorem byteVals_set (bs : List UInt8) (k : Nat) (u : UInt8) : (byteVals bs).set k (.int .u8 u.toNat) = byteVals (bs.set k u) := by simp [byteVals]
theorem own_set {w : World} {base g n cap : Nat} {bs : List UInt8} (h : Own w base g n cap bs) (k : Nat) (u : UInt8) :
    Own (w.setCell ⟨g, k, none⟩ (.int .u8 u.toNat)) base g n cap (bs.set k u) ∧ w.grownBy (w.setCell ⟨g, k, none⟩ (.int .u8 u.toNat)) (some g) := by
  have hs := h.2.stored k (.int .u8 u.toNat)
  rw [byteVals_set] at hs
  exact ⟨⟨by simpa using h.1, hs.1⟩, hs.2⟩
theorem drewN_cell (w : World) (n : Nat) (a : Addr) : (w.drewN n).cell? a = w.cell? a := rfl
theorem byte_of (n : Nat) : ((UInt8.ofNat n).toNat : Int) = (n : Int) % 256 := by simp [UInt8.toNat_ofNat']
theorem one_oneCell (k : IntKind) (x : Int) : ∀ u ∈ [Value.int k x], u.oneCell' = true := by
  intro u hu; simp at hu; subst hu; rfl
theorem le_alloc {base : Nat} (w : World) (o : Obj) (h : base ≤ w.heap.size) : base ≤ (w.alloc o).heap.size := by simp; omega
theorem one_val {x : Int} {u : UInt8} (h : x = (u.toNat : Int)) : [Value.int .u8 x] = byteVals [u] := by rw [h]; rfl
theorem byteVals_append (a b : List UInt8) : byteVals (a ++ b) = byteVals a ++ byteVals b := by simp [byteVals]
theorem own_app {w' : World} {base n m : Nat} {v' : Value} {bs ns : List UInt8} {news : List Value} (hl : bs.length = n) (hln : ns.length = m) (he : news = byteVals ns) (h0 : ¬ v' = .slice none 0 0)
    (h : w'.ownsRow base 5 1 v' (n + m) (byteVals bs ++ news)) : ∃ g' cap', v' = .slice (some ⟨g', 0, none⟩) (n + m) cap' ∧ Own w' base g' (n + m) cap' (bs ++ ns) := by
  subst he
  rw [← byteVals_append] at h
  rcases h.2 with ⟨h2, _⟩ | ⟨g', cap', cur, hv, _⟩
  · exact absurd h2 h0
  · subst hv
    exact ⟨g', cap', rfl, by simp; omega, h⟩
/-- the row itself, where a slice of n bytes fills it -/
theorem own_row {w : World} {base g n : Nat} {bs : List UInt8} (h : Own w base g n n bs) : w.heap[g]? = some (.cells (byteVals bs).toArray 5 (0, 0)) := by
  rcases h.2.2 with ⟨h', _⟩ | ⟨g', cap', cur, h', _, hg, _, _, hs, ht⟩
  · simp at h'
  · simp only [Value.slice.injEq, Option.some.injEq, Addr.mk.injEq, and_true, true_and] at h'
    obtain ⟨rfl, rfl⟩ := h'
    rw [hg, ← ht, List.take_of_length_le (by simp [hs])]
theorem own_of_row {w : World} {base g n : Nat} {bs : List UInt8} (hn : bs.length = n) (hm : n ≤ maxLen) (hb : base ≤ g) (h : w.heap[g]? = some (.cells (byteVals bs).toArray 5 (0, 0))) : Own w base g n n bs :=
  ⟨hn, by rw [byteVals_length]; omega, .inr ⟨g, n, _, rfl, hb, h, Nat.le_refl _, hm, by simp [byteVals_length, hn], by rw [List.take_of_length_le (by simp [byteVals_length]; omega)]⟩⟩
theorem byteVals_oneCell (bs : List UInt8) : ∀ v ∈ byteVals bs, v.oneCell' = true := by
  intro v hv; obtain ⟨_, _, rfl⟩ := List.mem_map.1 hv; rfl
theorem own_val {w' : World} {base n : Nat} {v' : Value} {bs : List UInt8} (hl : bs.length = n) (h0 : ¬ v' = .slice none 0 0)
    (h : w'.ownsRow base 5 1 v' n (byteVals bs)) : ∃ g' cap', v' = .slice (some ⟨g', 0, none⟩) n cap' ∧ Own w' base g' n cap' bs := by
  rcases h.2 with ⟨h2, _⟩ | ⟨g', cap', cur, hv, _⟩
  · exact absurd h2 h0
  · subst hv
    exact ⟨g', cap', rfl, hl, h⟩
theorem sl_cells {w : World} {b off len : Nat} {bs : List UInt8} (h : Sl w (some ⟨b, off, none⟩) len bs) : ∀ j v, (byteVals bs)[j]? = some v → w.cell? ((⟨b, off, none⟩ : Addr).add j) = some v := by
  intro j v hj
  have hjl : j < bs.length := by have := (List.getElem?_eq_some_iff.1 hj).1; rwa [byteVals_length] at this
  rw [Addr.add_lit, h.at j hjl, ← hj]
  simp [byteVals, hjl]
theorem byteVals_nil : ([] : List Value) = byteVals [] := rfl
def cut (bs : List UInt8) (p n : Nat) : ByteArray := ⟨((bs.drop p).take n).toArray⟩
theorem cut_data (bs : List UInt8) (p n : Nat) : (cut bs p n).data.toList = (bs.drop p).take n := by simp [cut]
theorem cut_size (bs : List UInt8) (p n : Nat) (h : p + n ≤ bs.length) : (cut bs p n).size = n := by
  show ((bs.drop p).take n).toArray.size = n
  simp; omega
theorem conv_cut {w : World} {b off p n : Nat} {bs : List UInt8} {len : Nat} (h : Sl w (some ⟨b, off, none⟩) len bs) (hp : p + n ≤ bs.length) (c : Nat) :
    (convert 22 9 (.slice (some ⟨b, off + p, none⟩) n c)).run Tryd.prog w = .ok (.string (cut bs p n)) w := by
  have hr := run_convert_bytes_arg (P := Tryd.prog) w 22 5 Tryd.underlying22 Tryd.underlying5 b (off + p) n c (((bs.drop p).take n).map fun u => (u.toNat : Int)) (by simp; omega) ?_ 9 Tryd.underlying9
  · rw [hr]
    have e : strOfNums (((bs.drop p).take n).map fun u => (u.toNat : Int)) = cut bs p n := by
      simp [strOfNums, cut, Function.comp_def]
    rw [e]
  · intro i hi
    have hpi : p + i < bs.length := by omega
    rw [show off + p + i = off + (p + i) by omega, h.at (p + i) hpi]
    simp [List.getD, hpi, hi]
theorem conv_none {w : World} {b off : Nat} {bs : List UInt8} (p : Nat) (c : Nat) :
    (convert 22 9 (.slice (some ⟨b, off, none⟩) 0 c)).run Tryd.prog w = .ok (.string (cut bs p 0)) w := by
  rw [run_convert_bytes_arg (P := Tryd.prog) w 22 5 Tryd.underlying22 Tryd.underlying5 b off 0 c [] rfl (fun i hi => absurd hi (by omega)) 9 Tryd.underlying9]
  simp [strOfNums, cut]
theorem info9 : (Tryd.prog.info? 9).map (fun i => (i.zero, i.size, i.bytes)) = some (some (.string ⟨#[]⟩), 1, 16) := by kernel_rfl
theorem strVals_set (ss : List ByteArray) (k : Nat) (u : ByteArray) : (strVals ss).set k (.string u) = strVals (ss.set k u) := by simp [strVals]
theorem ownS_set {w : World} {base g n cap : Nat} {ss : List ByteArray} (h : OwnS w base g n cap ss) (k : Nat) (u : ByteArray) (hu : u.size ≤ maxLen) :
    OwnS (w.setCell ⟨g, k, none⟩ (.string u)) base g n cap (ss.set k u) ∧ w.grownBy (w.setCell ⟨g, k, none⟩ (.string u)) (some g) := by
  have hs := h.2.2.stored k (.string u)
  rw [strVals_set] at hs
  refine ⟨⟨by simpa using h.1, ?_, hs.1⟩, hs.2⟩
  intro s hx
  rcases List.mem_or_eq_of_mem_set hx with hx | hx
  · exact h.2.1 s hx
  · subst hx; exact hu
theorem ret_str {a b : ByteArray} (h : a = b) : Ending.returned (.string a) = .returned (.string b) := by rw [h]
theorem conv_one (w : World) (x : Int) (u : UInt8) (hx : x = (u.toNat : Int)) (c : Nat) :
    (convert 22 9 (.slice (some ⟨w.heap.size, 0, none⟩) 1 c)).run Tryd.prog (w.alloc (.cells #[.int .u8 x] 5)) = .ok (.string ⟨#[u]⟩) (w.alloc (.cells #[.int .u8 x] 5)) := by
  rw [run_convert_bytes_arg (P := Tryd.prog) _ 22 5 Tryd.underlying22 Tryd.underlying5 w.heap.size 0 1 c [x] rfl ?_ 9 Tryd.underlying9]
  · subst hx; simp [strOfNums]
  · intro i hi
    have : i = 0 := by omega
    subst this
    simp
/-- steps of one row: nothing but block g, and new blocks -/
theorem grown_below {w w1 w2 : World} {g : Nat} (h : w.grownBy w1 (some g)) (hb : Below w1.heap.size w1 w2) : w.grownBy w2 (some g) :=
  ⟨hb.os.trans h.os, hb.tape.trans h.tape, hb.output.trans h.output, Nat.le_trans h.size hb.size, fun k hk hr => (hb.block k (Nat.lt_of_lt_of_le hk h.size)).trans (h.block k hk hr)⟩
theorem ownS_val {w' : World} {base n : Nat} {v' : Value} {ss : List ByteArray} (hl : ss.length = n) (hs : ∀ s ∈ ss, s.size ≤ maxLen) (h0 : ¬ v' = .slice none 0 0)
    (h : w'.ownsRow base 9 1 v' n (strVals ss)) : ∃ g' cap', v' = .slice (some ⟨g', 0, none⟩) n cap' ∧ OwnS w' base g' n cap' ss := by
  rcases h.2 with ⟨h2, _⟩ | ⟨g', cap', cur, hv, _⟩
  · exact absurd h2 h0
  · subst hv
    exact ⟨g', cap', rfl, hl, hs, h⟩
theorem ownS_made (w : World) (base : Nat) (hb : base ≤ w.heap.size) : OwnS (w.alloc (.cells #[] 9)) base w.heap.size 0 0 [] :=
  ⟨rfl, fun s h => absurd h List.not_mem_nil, World.ownsRow_made w #[] 0 hb (Nat.zero_le _) rfl⟩
theorem str_oneCell (x : ByteArray) : ∀ u ∈ [Value.string x], u.oneCell' = true := by
  intro u hu; simp at hu; subst hu; rfl
theorem leAlloc {base : Nat} (w : World) (o : Obj) (h : base ≤ w.heap.size) : base ≤ (w.alloc o).heap.size := by simp; omega
theorem strVals_snoc (ss : List ByteArray) (s : ByteArray) : strVals (ss ++ [s]) = strVals ss ++ [.string s] := by simp [strVals]
theorem cell_cur {w : World} {gc : Nat} {cur : Array Value} {t : TypeId} {mk : Nat × Nat} (h : w.heap[gc]? = some (.cells cur t mk)) (j : Nat) (v : Value) (hj : cur[j]? = some v) : w.cell? ⟨gc, j, none⟩ = some v := by
  rw [cell_of_row w gc j cur t mk h]; exact hj
theorem set_cur {w : World} {gc : Nat} {cur : Array Value} {t : TypeId} (h : w.heap[gc]? = some (.cells cur t (0, 0))) (j : Nat) (v : Value) :
    (w.setCell ⟨gc, j, none⟩ v).heap[gc]? = some (.cells (cur.setIfInBounds j v) t (0, 0)) ∧ w.grownBy (w.setCell ⟨gc, j, none⟩ v) (some gc) :=
  ⟨heap_setCell_same w gc j cur t v h, ⟨rfl, rfl, rfl, by simp, fun k _ hk => heap_setCell_other w ⟨gc, j, none⟩ k v (fun e => hk (by simp [e]))⟩⟩
theorem grown_drewN {w w1 : World} {row : Option Nat} (h : w.grownBy w1 row) (n : Nat) : w.grownBy (w1.drewN n) row := ⟨h.os, h.tape, h.output, h.size, h.block⟩
theorem grown_own {w wr w2 : World} {gc g : Nat} (h : w.grownBy wr (some gc)) (h2 : wr.grownBy w2 (some g)) (hg : w.heap.size ≤ g) : w.grownBy w2 (some gc) :=
  ⟨h2.os.trans h.os, h2.tape.trans h.tape, h2.output.trans h.output, Nat.le_trans h.size h2.size, fun k hk hne => (h2.block k (Nat.lt_of_lt_of_le hk h.size) (by intro e; simp only [Option.some.injEq] at e; omega)).trans (h.block k hk hne)⟩
theorem grown_alloc {w wr : World} {row : Option Nat} (h : w.grownBy wr row) (o : Obj) : w.grownBy (wr.alloc o) row :=
  ⟨h.os, h.tape, h.output, by have := h.size; simp; omega, fun k hk hne => (Below.heap_alloc wr o k (Nat.lt_of_lt_of_le hk h.size)).trans (h.block k hk hne)⟩
theorem own_made (w : World) (base : Nat) (hb : base ≤ w.heap.size) : Own (w.alloc (.cells #[] 5)) base w.heap.size 0 0 [] :=
  ⟨rfl, World.ownsRow_made w #[] 0 hb (Nat.zero_le _) rfl⟩
theorem byte_x (x : Int) (h0 : 0 ≤ x) (h1 : x ≤ 255) : x = ((UInt8.ofNat x.toNat).toNat : Int) := by rw [byte_of]; omega
theorem grown_alloc0 (w : World) (o : Obj) (row : Option Nat) : w.grownBy (w.alloc o) row := World.grownBy_alloc w o row
theorem conv_own {w : World} {base g m cp : Nat} {bs : List UInt8} (h : Own w base g m cp bs) :
    (convert 22 9 (.slice (some ⟨g, 0, none⟩) m cp)).run Tryd.prog w = .ok (.string ⟨bs.toArray⟩) w := by
  have h1 := conv_cut (w := w) (b := g) (off := 0) (p := 0) (n := m) h.sl (by have := h.1; omega) cp
  have e : cut bs 0 m = ⟨bs.toArray⟩ := by unfold cut; rw [List.drop_zero, List.take_of_length_le (by have := h.1; omega)]
  rw [e] at h1
  exact h1
/-- block g holds the bytes bs from its head on; they may be written -/
def Wr (w : World) (g n : Nat) (bs : List UInt8) : Prop :=
  bs.length = n ∧ n ≤ maxLen ∧ g < w.heap.size ∧ ∀ i (h : i < bs.length), w.cell? ⟨g, i, none⟩ = some (.int .u8 bs[i].toNat) ∧ w.frozen? ⟨g, i, none⟩ = false
theorem Wr.sl {w : World} {g n : Nat} {bs : List UInt8} (h : Wr w g n bs) : Sl w (some ⟨g, 0, none⟩) n bs :=
  ⟨h.1, h.2.1, fun _ => ⟨g, 0, rfl, fun i hi => by rw [Nat.zero_add]; exact (h.2.2.2 i hi).1⟩⟩
theorem Wr.below {w w' : World} {g n : Nat} {bs : List UInt8} (h : Wr w g n bs) (hb : Below w.heap.size w w') : Wr w' g n bs :=
  ⟨h.1, h.2.1, Nat.lt_of_lt_of_le h.2.2.1 hb.size, fun i hi => ⟨(hb.cell (p := ⟨g, i, none⟩) h.2.2.1).trans (h.2.2.2 i hi).1, (hb.frozen (p := ⟨g, i, none⟩) h.2.2.1).trans (h.2.2.2 i hi).2⟩⟩
theorem Own.wr {w : World} {base g n cap : Nat} {bs : List UInt8} (h : Own w base g n cap bs) : Wr w g n bs :=
  ⟨h.1, by have := h.max; omega, h.lt.2, fun i hi => ⟨h.at i hi, h.frozen i⟩⟩
theorem byteVals_get (bs : List UInt8) (j : Nat) (u : Value) (h : (byteVals bs)[j]? = some u) : ∃ hj : j < bs.length, u = .int .u8 bs[j].toNat := by
  have hjl : j < bs.length := by have := (List.getElem?_eq_some_iff.1 h).1; rwa [byteVals_length] at this
  refine ⟨hjl, ?_⟩
  have : (byteVals bs)[j]? = some (.int .u8 bs[j].toNat) := by simp [byteVals, hjl]
  rw [this] at h
  exact (Option.some.inj h).symm

/-- append onto a row of the call's own, as one step of a region that draws its order -/
theorem step_append_own {P : Program} {ops : Array Oper} {o : Oper} {a : Act} {w : World} {K : Act → World → Prop} {Q : Exit → Act → World → Prop} {E : Prop} (hgd : o.guard = none) (s x : Operand) (t : TypeId)
    (ho : o.op = .call { callee := .builtin .append, args := #[s, x], argTypes := #[t, t] })
    (base : Nat) (e : TypeId) (i : TypeInfo) (z : Value) (size bytes : Nat) (ht : P.underlying t = some (.slice e)) (hi : P.info? e = some i) (hz : i.zero = some z)
    (hsize : i.size = size) (hby : i.bytes = bytes) (hzs : z.cells.size = size) (hsz : 0 < size)
    (v : Value) (n : Nat) (xs : List Value) (hs : a.eval s = v) (hown : w.ownsRow base e size v n xs)
    (ad : Addr) (m c : Nat) (news : List Value) (hx : a.eval x = .slice (some ad) m c) (hl : news.length = m * size) (hnews : ∀ j u, news[j]? = some u → w.cell? (ad.add j) = some u) (h1 : ∀ u ∈ news, u.oneCell' = true)
    (h63 : n + m ≤ maxLen) (hbytes : (n + m) * bytes ≤ 140737488355328) (hbase : base ≤ w.heap.size)
    (h : ∀ v' w', w'.ownsRow base e size v' (n + m) (xs ++ news) → w.grownBy w' v.ownBlock → (v' = .slice none 0 0 ↔ v = .slice none 0 0 ∧ m = 0) → K (a.put o.dst v') w') :
    if Region.wanted o (yielded ops a.tmps) = true then Oper.wp P o a w K Q else E := by
  have hw : Region.wanted o (yielded ops a.tmps) = true := by simp [Region.wanted, hgd]
  rw [if_pos hw]
  exact wp_append_own w s x t ho base e i z size bytes ht hi hz hsize hby hzs hsz v n xs hs hown ad m c news hx hl hnews h1 h63 hbytes hbase h
theorem cells_two (w : World) (x y : Value) (t : TypeId) : ∀ j u, [x, y][j]? = some u → (w.alloc (.cells #[x, y] t)).cell? ((⟨w.heap.size, 0, none⟩ : Addr).add j) = some u := by
  intro j u hj
  match j, hj with
  | 0, hj => simp at hj; subst hj; simp [Addr.add]
  | 1, hj => simp at hj; subst hj; simp [Addr.add]
theorem two_oneCell (k : IntKind) (x y : Int) : ∀ u ∈ [Value.int k x, Value.int k y], u.oneCell' = true := by
  intro u hu; simp at hu; rcases hu with rfl | rfl <;> rfl

end Go.Proofs.YtooiinicnkhlbaaDoor.base

namespace Go.Proofs.YtooiinicnkhlbaaDoor.pairs
open Go
set_option linter.unusedVariables false

abbrev Pr := ByteArray × ByteArray
theorem bytes_ext {a b : ByteArray} (h : a.data.toList = b.data.toList) : a = b := WideShapes.bytes_inj h

/-! ### the order of texts -/
def ltB (a b : ByteArray) : Bool := Op.bytesLess a.toList b.toList
theorem ltB_iff (a b : ByteArray) : ltB a b = true ↔ a.data.toList < b.data.toList := by
  unfold ltB; rw [Proofs.bytesLess_eq, ByteArray.toList_eq, ByteArray.toList_eq]; simp
theorem ltB_irrefl (a : ByteArray) : ltB a a = false := by
  rw [Bool.eq_false_iff]; intro h; exact List.lt_irrefl _ ((ltB_iff a a).1 h)
theorem ltB_trans {a b c : ByteArray} (h : ltB a b = true) (k : ltB b c = true) : ltB a c = true :=
  (ltB_iff a c).2 (List.lt_trans ((ltB_iff a b).1 h) ((ltB_iff b c).1 k))
theorem ltB_asymm {a b : ByteArray} (h : ltB a b = true) : ltB b a = false := by
  rw [Bool.eq_false_iff]; intro k; have := ltB_trans h k; rw [ltB_irrefl] at this; cases this
theorem ltB_total {a b : ByteArray} (h : ltB a b = false) (k : ltB b a = false) : a = b := by
  apply bytes_ext
  have h' : ¬ a.data.toList < b.data.toList := fun e => by rw [(ltB_iff a b).2 e] at h; cases h
  have k' : ¬ b.data.toList < a.data.toList := fun e => by rw [(ltB_iff b a).2 e] at k; cases k
  exact List.le_antisymm (List.not_lt.1 k') (List.not_lt.1 h')
theorem ltB_ne {a b : ByteArray} (h : ltB a b = true) : a ≠ b := by
  rintro rfl; rw [ltB_irrefl] at h; cases h

/-! ### the functions -/
def keyCh (c : Nat) : Bool := decide (97 ≤ c ∧ c ≤ 122) || decide (48 ≤ c ∧ c ≤ 57)
def keyAll (l : List UInt8) : Bool := l.all fun c => keyCh c.toNat
def keyOk (s : ByteArray) : Bool := keyAll s.data.toList && decide (1 ≤ s.size ∧ s.size ≤ 12)
def pairOk (p : Pr) : Bool := keyOk p.1 && decide (p.2.size ≤ 20)
/-- each is right and above the one ahead -/
def okFrom : Option ByteArray → List Pr → Bool
  | _, [] => true
  | none, p :: l => pairOk p && okFrom (some p.1) l
  | some k, p :: l => pairOk p && ltB k p.1 && okFrom (some p.1) l
def pairsOk (l : List Pr) : Bool := okFrom none l && decide (l.length ≤ 60)
def getKey (key : ByteArray) : List Pr → Option ByteArray
  | [] => none
  | p :: l => if p.1 = key then some p.2 else getKey key l
def setFirst (key val : ByteArray) : List Pr → List Pr
  | [] => []
  | p :: l => if p.1 = key then (p.1, val) :: l else p :: setFirst key val l
/-- how many stand ahead of the first that is above -/
def below (key : ByteArray) : List Pr → Nat
  | [] => 0
  | p :: l => if ltB key p.1 = true then 0 else below key l + 1
def putKey (key val : ByteArray) (l : List Pr) : List Pr :=
  if (getKey key l).isSome then setFirst key val l else l.take (below key l) ++ (key, val) :: l.drop (below key l)
def delKey (key : ByteArray) (l : List Pr) : List Pr := l.filter fun p => decide (p.1 ≠ key)
def inB (lo hi key : ByteArray) : Bool := !ltB key lo && (decide (hi.size = 0) || ltB key hi)
def between (lo hi : ByteArray) (l : List Pr) : List Pr := l.filter fun p => inB lo hi p.1
def unionOf (a b : List Pr) : List Pr := b.foldl (fun u p => putKey p.1 p.2 u) a

/-! ### first facts -/
theorem setFirst_length (key val : ByteArray) (l : List Pr) : (setFirst key val l).length = l.length := by
  induction l with
  | nil => rfl
  | cons p l ih => unfold setFirst; split <;> simp [ih]
theorem below_le (key : ByteArray) (l : List Pr) : below key l ≤ l.length := by
  induction l with
  | nil => exact Nat.le_refl _
  | cons p l ih => unfold below; split <;> simp; omega
theorem putKey_length (key val : ByteArray) (l : List Pr) : (putKey key val l).length ≤ l.length + 1 ∧ l.length ≤ (putKey key val l).length := by
  have := below_le key l
  unfold putKey
  split
  · rw [setFirst_length]; omega
  · simp; omega
theorem getKey_drop (key : ByteArray) (l : List Pr) (k : Nat) (h : k < l.length) : getKey key (l.drop k) = if l[k].1 = key then some l[k].2 else getKey key (l.drop (k + 1)) := by
  rw [List.drop_eq_getElem_cons h, getKey]
theorem below_drop (key : ByteArray) (l : List Pr) (k : Nat) (h : k < l.length) : below key (l.drop k) = if ltB key l[k].1 = true then 0 else below key (l.drop (k + 1)) + 1 := by
  rw [List.drop_eq_getElem_cons h, below]
/-- the first of a key is at place k: what lies ahead has others -/
theorem setFirst_at (key val : ByteArray) (l : List Pr) (k : Nat) (h : k < l.length) (he : l[k].1 = key) (hn : getKey key (l.take k) = none) : setFirst key val l = l.set k (key, val) := by
  induction l generalizing k with
  | nil => simp at h
  | cons p l ih =>
    cases k with
    | zero => simp at he; unfold setFirst; rw [if_pos he, he]; rfl
    | succ k =>
      rw [List.take_succ_cons, getKey] at hn
      by_cases hp : p.1 = key
      · rw [if_pos hp] at hn; cases hn
      · rw [if_neg hp] at hn
        unfold setFirst
        rw [if_neg hp, List.set_cons_succ, ih k (by simpa using h) (by simpa using he) hn]
theorem getKey_snoc_none (key : ByteArray) (l : List Pr) (p : Pr) (h : getKey key l = none) (hp : p.1 ≠ key) : getKey key (l ++ [p]) = none := by
  induction l with
  | nil => simp [getKey, hp]
  | cons q l ih =>
    rw [getKey] at h
    by_cases hq : q.1 = key
    · rw [if_pos hq] at h; cases h
    · rw [if_neg hq] at h
      rw [List.cons_append, getKey, if_neg hq]
      exact ih h
theorem getKey_append (key : ByteArray) (a b : List Pr) : getKey key (a ++ b) = (getKey key a).or (getKey key b) := by
  induction a with
  | nil => rfl
  | cons q l ih =>
    rw [List.cons_append, getKey, getKey]
    by_cases hq : q.1 = key
    · rw [if_pos hq, if_pos hq]; rfl
    · rw [if_neg hq, if_neg hq, ih]
theorem okFrom_snoc (o : Option ByteArray) (l : List Pr) (p : Pr) : okFrom o (l ++ [p]) = (okFrom o l && pairOk p && match (l.getLast?.map (·.1)).or o with | none => true | some k => ltB k p.1) := by
  induction l generalizing o with
  | nil => cases o <;> simp [okFrom]
  | cons q l ih =>
    have e : ((q :: l).getLast?.map (·.1)).or o = (l.getLast?.map (·.1)).or (some q.1) := by
      cases l with
      | nil => rfl
      | cons r l =>
        rw [List.getLast?_cons_cons]
        cases h : (r :: l).getLast? with
        | none => simp at h
        | some v => rfl
    cases o <;> simp only [List.cons_append, okFrom, ih, e, Bool.and_assoc]

end Go.Proofs.YtooiinicnkhlbaaDoor.pairs
