/-
  Plain mathematics and small facts on worlds, used by the proofs of this seat: no program is named here.
-/
import Derived.WalkKit
import Derived.WalkSpells
import Derived.WalkLawsBesides
import Derived.Lib.ConvBytes
namespace Go.Proofs.Ytmpggohilmngpaa.base
open Go.RowKit

/-! ### the hash -/
def hstep (h c : Nat) : Nat := (h ^^^ c) * 16777619 % 4294967296
def hashOf (l : List UInt8) : Nat := l.foldl (fun h c => hstep h c.toNat) 2166136261
theorem hstep_lt (h c : Nat) : hstep h c < 4294967296 := by unfold hstep; omega
theorem foldl_lt (l : List UInt8) (h : Nat) (hh : h < 4294967296) : l.foldl (fun h c => hstep h c.toNat) h < 4294967296 := by
  induction l generalizing h with
  | nil => simpa using hh
  | cons c l ih => simp only [List.foldl_cons]; exact ih _ (hstep_lt _ _)
theorem hashOf_lt (l : List UInt8) : hashOf l < 4294967296 := by
  unfold hashOf; exact foldl_lt l 2166136261 (by omega)
theorem foldl_snoc {α β : Type} (f : β → α → β) (b : β) (l : List α) (c : α) : (l ++ [c]).foldl f b = f (l.foldl f b) c := by simp
theorem hashOf_snoc (l : List UInt8) (c : UInt8) : hashOf (l ++ [c]) = hstep (hashOf l) c.toNat := by
  unfold hashOf; exact foldl_snoc (fun h (c : UInt8) => hstep h c.toNat) 2166136261 l c
theorem xor_lt (h c : Nat) (hh : h < 4294967296) (hc : c < 256) : h ^^^ c < 4294967296 :=
  Nat.xor_lt_two_pow (n := 32) (by omega) (by omega)
theorem i64_xor_nat (a b : Nat) (ha : a < 4294967296) (hb : b < 4294967296) : bits .xor .i64 (a : Int) (b : Int) = ((a ^^^ b : Nat) : Int) := by
  have hx : a ^^^ b < 4294967296 := Nat.xor_lt_two_pow (n := 32) (by omega) (by omega)
  show IntKind.i64.wrap ((BitVec.ofInt 64 (a : Int) ^^^ BitVec.ofInt 64 (b : Int)).toNat : Int) = _
  rw [BitVec.toNat_xor, ofInt_u64 a (by omega), ofInt_u64 b (by omega), IntKind.wrap_i64]
  omega
theorem wraps_i64 (n : Int) (h₀ : 0 ≤ n) (h₁ : n < 2 ^ 63) : IntKind.i64.wrap n = n := by rw [IntKind.wrap_i64]; omega
theorem i64_mask32 (x : Int) (h₀ : 0 ≤ x) (h₁ : x < 9223372036854775808) : bits .and .i64 x 4294967295 = x % 4294967296 :=
  bits_mask .i64 63 (by decide) wraps_i64 32 (by decide) x h₀ (by omega)
theorem u32_step (h c : Nat) (hh : h < 4294967296) (hc : c < 256) : IntKind.u32.wrap (bits .xor .u32 (h : Int) (c : Int) * 16777619) = (hstep h c : Int) := by
  rw [u32_xor_nat h c hh (by omega), IntKind.wrap_u32]; unfold hstep; omega
theorem i64_step (h c : Nat) (hh : h < 4294967296) (hc : c < 256) : bits .and .i64 (bits .xor .i64 (h : Int) (c : Int) * 16777619) 4294967295 = (hstep h c : Int) := by
  have := xor_lt h c hh hc
  rw [i64_xor_nat h c hh (by omega), i64_mask32 _ (by omega) (by omega)]; unfold hstep; omega

theorem i64_step' (h c : Nat) (hh : h < 4294967296) (hc : c < 256) : bits .and .i64 (wrap64 (bits .xor .i64 (h : Int) (c : Int) * 16777619)) 4294967295 = (hstep h c : Int) := by
  have := xor_lt h c hh hc
  rw [IntWalk.wrap64_in _ (by rw [i64_xor_nat h c hh (by omega)]; omega)]
  exact i64_step h c hh hc

theorem take_snoc (s : ByteArray) (k : Nat) (h : k < s.size) : s.data.toList.take (k + 1) = s.data.toList.take k ++ [s[k]] := by
  rw [List.take_succ_eq_append_getElem (by simpa using h)]; rfl
theorem val_int {k : IntKind} {a b : Int} (h : a = b) : Value.int k a = .int k b := by rw [h]
theorem ret_bool {a b : Bool} (h : a = b) : Ending.returned (.bool a) = .returned (.bool b) := by rw [h]
theorem ret_int {k : IntKind} {a b : Int} (h : a = b) : Ending.returned (.int k a) = .returned (.int k b) := by rw [h]


/-! ### worlds -/
theorem below_bytesWorld (w : World) (e : TypeId) (s : ByteArray) : Below w.heap.size w (Lib.bytesWorld w e s) :=
  ⟨rfl, rfl, rfl, by rw [Lib.bytesWorld_size]; omega, fun k hk => Lib.bytesWorld_at_old w e s k hk⟩

/-! ### slices of bytes that are read -/
/-- the slice at 'a', of 'len' elements, holds the bytes 'bs' -/
def Sl (w : World) (a : Option Addr) (len : Nat) (bs : List UInt8) : Prop :=
  bs.length = len ∧ len ≤ maxLen ∧ (0 < len → ∃ b off, a = some ⟨b, off, none⟩ ∧ ∀ i (h : i < bs.length), w.cell? ⟨b, off + i, none⟩ = some (.int .u8 bs[i].toNat))
theorem sl_nil (w : World) (a : Option Addr) : Sl w a 0 [] := ⟨rfl, Nat.zero_le _, fun h => absurd h (by omega)⟩
theorem bounds8 {n : Int} (h : (Lit.int .u8 n).wf = true) : 0 ≤ n ∧ n ≤ 255 := by
  simpa [Lit.wf, IntKind.min, IntKind.max, IntKind.signed, IntKind.bits] using h
theorem sl_of_ints {w : World} {x : Addr} {len cap : Nat} {zs : List Int} (hl : len ≤ cap) (hm : cap ≤ maxLen) (hz : zs.length = cap)
    (hcell : ∀ i, i < zs.length → w.cell? (x.add i) = some (.int .u8 (zs.getD i 0))) (hwz : ∀ n ∈ zs, (Lit.int .u8 n).wf = true) :
    Sl w (some x) len ((zs.take len).map fun n => UInt8.ofNat n.toNat) := by
  refine ⟨by simp; omega, by omega, fun h0 => ?_⟩
  obtain ⟨b, off, spot⟩ := x
  have hspot : spot = none := by simpa [Addr.add] using World.cell?_spot (hcell 0 (by omega))
  subst hspot
  refine ⟨b, off, rfl, fun i h => ?_⟩
  have hi : i < zs.length := by simp at h; omega
  have hc := hcell i hi
  rw [Addr.add_lit] at hc
  rw [hc]
  have hb := bounds8 (hwz zs[i] (List.getElem_mem hi))
  simp only [List.getElem_map, List.getElem_take, List.getD, List.getElem?_eq_getElem hi, Option.getD_some, Option.some.injEq]
  refine val_int ?_
  simp
  omega
theorem Sl.lt {w : World} {b off len : Nat} {bs : List UInt8} (h : Sl w (some ⟨b, off, none⟩) len bs) (h0 : 0 < len) : b < w.heap.size := by
  obtain ⟨h1, _, h3⟩ := h
  obtain ⟨b', off', e, hc⟩ := h3 h0
  simp only [Option.some.injEq, Addr.mk.injEq, and_true] at e
  obtain ⟨rfl, rfl⟩ := e
  exact World.block_lt_of_cell? w _ (hc 0 (by omega))
theorem Sl.at {w : World} {b off len : Nat} {bs : List UInt8} (h : Sl w (some ⟨b, off, none⟩) len bs) (i : Nat) (hi : i < bs.length) : w.cell? ⟨b, off + i, none⟩ = some (.int .u8 bs[i].toNat) := by
  obtain ⟨h1, _, h3⟩ := h
  obtain ⟨b', off', e, hc⟩ := h3 (by omega)
  simp only [Option.some.injEq, Addr.mk.injEq, and_true] at e
  obtain ⟨rfl, rfl⟩ := e
  exact hc i hi
theorem Sl.below {w w' : World} {a : Option Addr} {len : Nat} {bs : List UInt8} (h : Sl w a len bs) (hb : Below w.heap.size w w') : Sl w' a len bs := by
  obtain ⟨h1, h2, h3⟩ := h
  refine ⟨h1, h2, fun h0 => ?_⟩
  obtain ⟨b, off, rfl, hc⟩ := h3 h0
  exact ⟨b, off, rfl, fun i hi => (hb.cell (p := ⟨b, off + i, none⟩) (World.block_lt_of_cell? w _ (hc i hi))).trans (hc i hi)⟩
theorem Sl.grown {w w' : World} {b off len : Nat} {bs : List UInt8} {row : Option Nat} (h : Sl w (some ⟨b, off, none⟩) len bs) (hg : w.grownBy w' row) (hne : some b ≠ row) : Sl w' (some ⟨b, off, none⟩) len bs := by
  have hat := h.at
  exact ⟨h.1, h.2.1, fun h0 => ⟨b, off, rfl, fun i hi => hg.cell (hat i hi) hne⟩⟩

/-! ### slices of bytes that the call itself made -/
def byteVals (bs : List UInt8) : List Value := bs.map fun u => .int .u8 u.toNat
theorem byteVals_length (bs : List UInt8) : (byteVals bs).length = bs.length := by simp [byteVals]
/-- block g is a row of the call's own (from 'base' on): the slice at its head has n elements, the bytes 'bs' -/
def Own (w : World) (base g n cap : Nat) (bs : List UInt8) : Prop := bs.length = n ∧ w.ownsRow base 5 1 (.slice (some ⟨g, 0, none⟩) n cap) n (byteVals bs)
theorem Own.lt {w : World} {base g n cap : Nat} {bs : List UInt8} (h : Own w base g n cap bs) : base ≤ g ∧ g < w.heap.size := h.2.lt g rfl
theorem Own.max {w : World} {base g n cap : Nat} {bs : List UInt8} (h : Own w base g n cap bs) : n ≤ cap ∧ cap ≤ maxLen := by
  rcases h.2.2 with ⟨h', _⟩ | ⟨g', cap', cur, h', _, hg, h1, h2, _⟩
  · simp at h'
  · simp only [Value.slice.injEq, Option.some.injEq, Addr.mk.injEq, and_true, true_and] at h'
    obtain ⟨rfl, rfl⟩ := h'
    exact ⟨h1, h2⟩
theorem Own.mono {w : World} {base base' g n cap : Nat} {bs : List UInt8} (h : Own w base g n cap bs) (hb : base' ≤ base) : Own w base' g n cap bs := by
  refine ⟨h.1, h.2.1, ?_⟩
  rcases h.2.2 with h' | ⟨g', cap', cur, h', h0, r⟩
  · exact .inl h'
  · exact .inr ⟨g', cap', cur, h', by omega, r⟩
theorem Own.at {w : World} {base g n cap : Nat} {bs : List UInt8} (h : Own w base g n cap bs) (i : Nat) (hi : i < bs.length) : w.cell? ⟨g, i, none⟩ = some (.int .u8 bs[i].toNat) := by
  rw [h.2.cellAt i (by have := h.1; omega)]; simp [byteVals, hi]
theorem Own.frozen {w : World} {base g n cap : Nat} {bs : List UInt8} (h : Own w base g n cap bs) (i : Nat) : w.frozen? ⟨g, i, none⟩ = false := h.2.frozenAt i
theorem Own.sl {w : World} {base g n cap : Nat} {bs : List UInt8} (h : Own w base g n cap bs) : Sl w (some ⟨g, 0, none⟩) n bs :=
  ⟨h.1, by have := h.max; omega, fun _ => ⟨g, 0, rfl, fun i hi => by rw [Nat.zero_add]; exact h.at i hi⟩⟩
theorem Own.grown {w w' : World} {base g n cap : Nat} {bs : List UInt8} {row : Option Nat} (h : Own w base g n cap bs) (hg : w.grownBy w' row) (hne : some g ≠ row) : Own w' base g n cap bs :=
  ⟨h.1, h.2.kept hg (.inr hne)⟩
theorem Own.below {w w' : World} {base g n cap : Nat} {bs : List UInt8} (h : Own w base g n cap bs) (hb : Below w.heap.size w w') : Own w' base g n cap bs :=
  ⟨h.1, h.2.kept (row := none) ⟨hb.os, hb.tape, hb.output, hb.size, fun k hk _ => hb.block k hk⟩ (.inr (by simp [Value.ownBlock]))⟩
theorem below_grown {w w' : World} {B g : Nat} (hg : w.grownBy w' (some g)) (h : B ≤ g) (hB : B ≤ w.heap.size) : Below B w w' :=
  (Below.refl B w).grown hg hB (fun k e => by cases e; exact h)

/-- every old block that is no plain row of bytes is as it was -/
def Keeps (w w' : World) : Prop := w.heap.size ≤ w'.heap.size ∧ ∀ b, b < w.heap.size → (∀ cur, w.heap[b]? ≠ some (.cells cur 5 (0, 0))) → w'.heap[b]? = w.heap[b]?
theorem Keeps.refl (w : World) : Keeps w w := ⟨Nat.le_refl _, fun _ _ _ => rfl⟩
theorem Keeps.trans {a b c : World} (h : Keeps a b) (k : Keeps b c) : Keeps a c :=
  ⟨Nat.le_trans h.1 k.1, fun i hi hn => by
    have e := h.2 i hi hn
    rw [k.2 i (Nat.lt_of_lt_of_le hi h.1) (by rw [e]; exact hn), e]⟩
theorem Keeps.of_below {w w' : World} (h : Below w.heap.size w w') : Keeps w w' := ⟨h.size, fun b hb _ => h.block b hb⟩
theorem Own.keeps {w w' : World} {base g n cap : Nat} {bs : List UInt8} (h : Own w base g n cap bs) (hg : w.grownBy w' (some g)) : Keeps w w' := by
  refine ⟨hg.size, fun b hb hn => hg.block b hb ?_⟩
  intro e
  simp only [Option.some.injEq] at e
  subst e
  rcases h.2.2 with ⟨h', _⟩ | ⟨g', cap', cur, h', _, hgg, _⟩
  · simp at h'
  · simp only [Value.slice.injEq, Option.some.injEq, Addr.mk.injEq, and_true, true_and] at h'
    obtain ⟨rfl, rfl⟩ := h'
    exact hn cur hgg
theorem Keeps.alloc {a w : World} (h : Keeps a w) (o : Obj) : Keeps a (w.alloc o) :=
  h.trans (.of_below ((Below.refl _ _).alloc (Nat.le_refl _) o))

/-! ### slices of strings -/
def SlS (w : World) (a : Option Addr) (len : Nat) (ss : List ByteArray) : Prop :=
  ss.length = len ∧ len ≤ maxLen ∧ (∀ s ∈ ss, s.size ≤ maxLen) ∧ (0 < len → ∃ b off, a = some ⟨b, off, none⟩ ∧ ∀ i (h : i < ss.length), w.cell? ⟨b, off + i, none⟩ = some (.string ss[i]))
theorem sls_nil (w : World) (a : Option Addr) : SlS w a 0 [] := ⟨rfl, Nat.zero_le _, (fun _ h => absurd h List.not_mem_nil), fun h => absurd h (by omega)⟩
theorem sls_of_strings {w : World} {x : Addr} {len cap : Nat} {zs : List ByteArray} (hl : len ≤ cap) (hm : cap ≤ maxLen) (hz : zs.length = cap)
    (hcell : ∀ i, i < zs.length → w.cell? (x.add i) = some (.string (zs.getD i ByteArray.empty))) (hwz : ∀ s ∈ zs, s.size ≤ maxLen) :
    SlS w (some x) len (zs.take len) := by
  refine ⟨by simp; omega, by omega, fun s hs => hwz s (List.mem_of_mem_take hs), fun h0 => ?_⟩
  obtain ⟨b, off, spot⟩ := x
  have hspot : spot = none := by simpa [Addr.add] using World.cell?_spot (hcell 0 (by omega))
  subst hspot
  refine ⟨b, off, rfl, fun i h => ?_⟩
  have hi : i < zs.length := by simp at h; omega
  have hc := hcell i hi
  rw [Addr.add_lit] at hc
  rw [hc]
  simp [List.getD, hi]
theorem SlS.below {w w' : World} {a : Option Addr} {len : Nat} {ss : List ByteArray} (h : SlS w a len ss) (hb : Below w.heap.size w w') : SlS w' a len ss := by
  obtain ⟨h1, h2, h4, h3⟩ := h
  refine ⟨h1, h2, h4, fun h0 => ?_⟩
  obtain ⟨b, off, rfl, hc⟩ := h3 h0
  exact ⟨b, off, rfl, fun i hi => (hb.cell (p := ⟨b, off + i, none⟩) (World.block_lt_of_cell? w _ (hc i hi))).trans (hc i hi)⟩
def strVals (ss : List ByteArray) : List Value := ss.map fun s => .string s
theorem strVals_length (ss : List ByteArray) : (strVals ss).length = ss.length := by simp [strVals]
/-- block g is a row of strings of the call's own -/
def OwnS (w : World) (base g n cap : Nat) (ss : List ByteArray) : Prop := ss.length = n ∧ (∀ s ∈ ss, s.size ≤ maxLen) ∧ w.ownsRow base 9 1 (.slice (some ⟨g, 0, none⟩) n cap) n (strVals ss)
section
variable {w w' : World} {base base' g n cap : Nat} {ss : List ByteArray} {row : Option Nat}
theorem OwnS.lt (h : OwnS w base g n cap ss) : base ≤ g ∧ g < w.heap.size := h.2.2.lt g rfl
theorem OwnS.cases (h : OwnS w base g n cap ss) : n ≤ cap ∧ cap ≤ maxLen ∧ ∃ cur, w.heap[g]? = some (.cells cur 9 (0, 0)) := by
  rcases h.2.2.2 with ⟨h', _⟩ | ⟨g', cap', cur, h', _, hg, h1, h2, _⟩
  · simp at h'
  · simp only [Value.slice.injEq, Option.some.injEq, Addr.mk.injEq, and_true, true_and] at h'
    obtain ⟨rfl, rfl⟩ := h'
    exact ⟨h1, h2, cur, hg⟩
theorem OwnS.mono (h : OwnS w base g n cap ss) (hb : base' ≤ base) : OwnS w base' g n cap ss := by
  refine ⟨h.1, h.2.1, h.2.2.1, ?_⟩
  rcases h.2.2.2 with h' | ⟨g', cap', cur, h', h0, r⟩
  · exact .inl h'
  · exact .inr ⟨g', cap', cur, h', by omega, r⟩
theorem OwnS.at (h : OwnS w base g n cap ss) (i : Nat) (hi : i < ss.length) : w.cell? ⟨g, i, none⟩ = some (.string ss[i]) := by
  rw [h.2.2.cellAt i (by have := h.1; omega)]; simp [strVals, hi]
theorem OwnS.frozen (h : OwnS w base g n cap ss) (i : Nat) : w.frozen? ⟨g, i, none⟩ = false := h.2.2.frozenAt i
theorem OwnS.sl (h : OwnS w base g n cap ss) : SlS w (some ⟨g, 0, none⟩) n ss :=
  ⟨h.1, by have := h.cases; omega, h.2.1, fun _ => ⟨g, 0, rfl, fun i hi => by rw [Nat.zero_add]; exact h.at i hi⟩⟩
theorem OwnS.grown (h : OwnS w base g n cap ss) (hg : w.grownBy w' row) (hne : some g ≠ row) : OwnS w' base g n cap ss :=
  ⟨h.1, h.2.1, h.2.2.kept hg (.inr hne)⟩
theorem OwnS.below (h : OwnS w base g n cap ss) (hb : Below w.heap.size w w') : OwnS w' base g n cap ss :=
  ⟨h.1, h.2.1, h.2.2.kept (row := none) ⟨hb.os, hb.tape, hb.output, hb.size, fun k hk _ => hb.block k hk⟩ (.inr (by simp [Value.ownBlock]))⟩
end

end Go.Proofs.Ytmpggohilmngpaa.base
