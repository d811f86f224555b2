/- Rows of orders (three cells each): small facts on worlds; no function of the program is named here. Plain mathematics of padding. Plain mathematics of SHA-256, on natural numbers below 2 to the power of 32. Plain mathematics of records: their bytes, that these come back, what they make. -/
import Derived.Test.YtggdgceglmbaiaaGreatDoorBund9aa
import Derived.Test.YtggdgceglmbaiaaGreatDoorBund9ad
import Derived.OwnWalk
namespace Go.Proofs.YtggdgceglmbaiaaGreatDoor.ords
open Go Go.RowKit Go.Proofs.YtggdgceglmbaiaaGreatDoor.base Go.Proofs.YtggdgceglmbaiaaGreatDoor.pairs
set_option linter.unusedVariables false
set_option linter.unusedSimpArgs false

def smallO (o : Od) : Prop := (Lit.int .i64 o.1).wf = true ∧ o.2.1.size ≤ maxLen ∧ o.2.2.size ≤ maxLen
def ordVals (l : List Od) : List Value := l.flatMap fun o => [.int .i64 o.1, .string o.2.1, .string o.2.2]
theorem ordVals_cons (o : Od) (l : List Od) : ordVals (o :: l) = .int .i64 o.1 :: .string o.2.1 :: .string o.2.2 :: ordVals l := rfl
theorem ordVals_append (a b : List Od) : ordVals (a ++ b) = ordVals a ++ ordVals b := by simp [ordVals]
theorem ordVals_length (l : List Od) : (ordVals l).length = l.length * 3 := by
  induction l with
  | nil => rfl
  | cons o l ih => rw [ordVals_cons]; simp [ih]; omega
theorem ordVals_at (l : List Od) (i : Nat) (h : i < l.length) : (ordVals l)[i * 3]? = some (.int .i64 l[i].1) ∧ (ordVals l)[i * 3 + 1]? = some (.string l[i].2.1) ∧ (ordVals l)[i * 3 + 2]? = some (.string l[i].2.2) := by
  induction l generalizing i with
  | nil => simp at h
  | cons p l ih =>
    cases i with
    | zero => exact ⟨rfl, rfl, rfl⟩
    | succ i =>
      rw [ordVals_cons, show (i + 1) * 3 = i * 3 + 1 + 1 + 1 by omega, show i * 3 + 1 + 1 + 1 + 1 = (i * 3 + 1) + 1 + 1 + 1 by omega, show i * 3 + 1 + 1 + 1 + 2 = (i * 3 + 2) + 1 + 1 + 1 by omega]
      simpa using ih i (by simpa using h)
theorem ordVals_oneCell (l : List Od) : ∀ v ∈ ordVals l, v.oneCell' = true := by
  intro v hv
  obtain ⟨p, _, hp⟩ := List.mem_flatMap.1 hv
  simp at hp
  rcases hp with rfl | rfl | rfl <;> rfl
theorem ordVals_setKind (l : List Od) (i : Nat) (h : i < l.length) (z : Int) : (ordVals l).set (i * 3) (.int .i64 z) = ordVals (l.set i (z, l[i].2)) := by
  induction l generalizing i with
  | nil => simp at h
  | cons p l ih =>
    cases i with
    | zero => rfl
    | succ i => rw [ordVals_cons, show (i + 1) * 3 = i * 3 + 1 + 1 + 1 by omega]; simp only [List.set_cons_succ, ordVals_cons, List.getElem_cons_succ]; rw [ih i (by simpa using h)]
theorem ordVals_setKey (l : List Od) (i : Nat) (h : i < l.length) (k : ByteArray) : (ordVals l).set (i * 3 + 1) (.string k) = ordVals (l.set i (l[i].1, k, l[i].2.2)) := by
  induction l generalizing i with
  | nil => simp at h
  | cons p l ih =>
    cases i with
    | zero => rfl
    | succ i => rw [ordVals_cons, show (i + 1) * 3 + 1 = i * 3 + 1 + 1 + 1 + 1 by omega]; simp only [List.set_cons_succ, ordVals_cons, List.getElem_cons_succ]; rw [ih i (by simpa using h)]
theorem ordVals_setVal (l : List Od) (i : Nat) (h : i < l.length) (v : ByteArray) : (ordVals l).set (i * 3 + 2) (.string v) = ordVals (l.set i (l[i].1, l[i].2.1, v)) := by
  induction l generalizing i with
  | nil => simp at h
  | cons p l ih =>
    cases i with
    | zero => rfl
    | succ i => rw [ordVals_cons, show (i + 1) * 3 + 2 = i * 3 + 2 + 1 + 1 + 1 by omega]; simp only [List.set_cons_succ, ordVals_cons, List.getElem_cons_succ]; rw [ih i (by simpa using h)]

/-! ### slices of orders that are read -/
def CellsO (w : World) (b off : Nat) (l : List Od) : Prop := ∀ i (h : i < l.length), w.cell? ⟨b, off + i * 3, none⟩ = some (.int .i64 l[i].1) ∧ w.cell? ⟨b, off + i * 3 + 1, none⟩ = some (.string l[i].2.1) ∧ w.cell? ⟨b, off + i * 3 + 2, none⟩ = some (.string l[i].2.2)
def SlO (w : World) (a : Option Addr) (len : Nat) (l : List Od) : Prop :=
  l.length = len ∧ len ≤ maxLen ∧ (∀ p ∈ l, smallO p) ∧ (0 < len → ∃ b off, a = some ⟨b, off, none⟩ ∧ CellsO w b off l)
theorem slo_nil (w : World) (a : Option Addr) : SlO w a 0 [] := ⟨rfl, Nat.zero_le _, (fun _ h => absurd h List.not_mem_nil), fun h => absurd h (by omega)⟩
section
variable {w w' : World} {a : Option Addr} {b off len base base' g n cap : Nat} {l : List Od} {row : Option Nat}
theorem SlO.cells (h : SlO w (some ⟨b, off, none⟩) len l) : CellsO w b off l := by
  intro i hi
  obtain ⟨b', off', e, hc⟩ := h.2.2.2 (by have := h.1; omega)
  simp only [Option.some.injEq, Addr.mk.injEq, and_true] at e
  obtain ⟨rfl, rfl⟩ := e
  exact hc i hi
theorem SlO.lt (h : SlO w (some ⟨b, off, none⟩) len l) (h0 : 0 < len) : b < w.heap.size :=
  World.block_lt_of_cell? w _ (h.cells 0 (by have := h.1; omega)).1
theorem CellsO.keep (h : CellsO w b off l) (hk : ∀ o v, w.cell? ⟨b, o, none⟩ = some v → w'.cell? ⟨b, o, none⟩ = some v) : CellsO w' b off l :=
  fun i hi => ⟨hk _ _ (h i hi).1, hk _ _ (h i hi).2.1, hk _ _ (h i hi).2.2⟩
theorem SlO.below (h : SlO w a len l) (hb : Below w.heap.size w w') : SlO w' a len l := by
  obtain ⟨h1, h2, h4, h3⟩ := h
  refine ⟨h1, h2, h4, fun h0 => ?_⟩
  obtain ⟨b, off, rfl, hc⟩ := h3 h0
  exact ⟨b, off, rfl, hc.keep fun o v hv => (hb.cell (p := ⟨b, o, none⟩) (World.block_lt_of_cell? w _ hv)).trans hv⟩
theorem SlO.grown (h : SlO w (some ⟨b, off, none⟩) len l) (hg : w.grownBy w' row) (hne : some b ≠ row) : SlO w' (some ⟨b, off, none⟩) len l :=
  ⟨h.1, h.2.1, h.2.2.1, fun _ => ⟨b, off, rfl, h.cells.keep fun o v hv => hg.cell hv hne⟩⟩

/-! ### rows of orders that a call made -/
def OwnO (w : World) (base g n cap : Nat) (l : List Od) : Prop := l.length = n ∧ (∀ p ∈ l, smallO p) ∧ w.ownsRow base 65 3 (.slice (some ⟨g, 0, none⟩) n cap) n (ordVals l)
theorem OwnO.lt (h : OwnO w base g n cap l) : base ≤ g ∧ g < w.heap.size := h.2.2.lt g rfl
theorem OwnO.cases (h : OwnO w base g n cap l) : n ≤ cap ∧ cap ≤ maxLen := by
  rcases h.2.2.2 with ⟨h', _⟩ | ⟨g', cap', cur, h', _, hg, h1, h2, _⟩
  · simp at h'
  · simp only [Value.slice.injEq, Option.some.injEq, Addr.mk.injEq, and_true, true_and] at h'
    obtain ⟨rfl, rfl⟩ := h'
    exact ⟨h1, h2⟩
theorem OwnO.mono (h : OwnO w base g n cap l) (hb : base' ≤ base) : OwnO w base' g n cap l := by
  refine ⟨h.1, h.2.1, h.2.2.1, ?_⟩
  rcases h.2.2.2 with h' | ⟨g', cap', cur, h', h0, r⟩
  · exact .inl h'
  · exact .inr ⟨g', cap', cur, h', by omega, r⟩
theorem OwnO.cell (h : OwnO w base g n cap l) : CellsO w g 0 l := by
  intro i hi
  have hl := h.1
  have k0 := h.2.2.cellAt (i * 3) (by omega)
  have k1 := h.2.2.cellAt (i * 3 + 1) (by omega)
  have k2 := h.2.2.cellAt (i * 3 + 2) (by omega)
  obtain ⟨e0, e1, e2⟩ := ordVals_at l i hi
  rw [e0] at k0
  rw [e1] at k1
  rw [e2] at k2
  rw [Nat.zero_add]
  exact ⟨k0, k1, k2⟩
theorem OwnO.kind (h : OwnO w base g n cap l) (i : Nat) (hi : i < l.length) : w.cell? ⟨g, i * 3, none⟩ = some (.int .i64 l[i].1) := by
  have := (h.cell i hi).1; rwa [Nat.zero_add] at this
theorem OwnO.key (h : OwnO w base g n cap l) (i : Nat) (hi : i < l.length) : w.cell? ⟨g, i * 3 + 1, none⟩ = some (.string l[i].2.1) := by
  have := (h.cell i hi).2.1; rwa [Nat.zero_add] at this
theorem OwnO.val (h : OwnO w base g n cap l) (i : Nat) (hi : i < l.length) : w.cell? ⟨g, i * 3 + 2, none⟩ = some (.string l[i].2.2) := by
  have := (h.cell i hi).2.2; rwa [Nat.zero_add] at this
theorem OwnO.frozen (h : OwnO w base g n cap l) (i : Nat) : w.frozen? ⟨g, i, none⟩ = false := h.2.2.frozenAt i
theorem OwnO.sl (h : OwnO w base g n cap l) : SlO w (some ⟨g, 0, none⟩) n l :=
  ⟨h.1, by have := h.cases; omega, h.2.1, fun _ => ⟨g, 0, rfl, h.cell⟩⟩
theorem OwnO.grown (h : OwnO w base g n cap l) (hg : w.grownBy w' row) (hne : some g ≠ row) : OwnO w' base g n cap l :=
  ⟨h.1, h.2.1, h.2.2.kept hg (.inr hne)⟩
theorem OwnO.below (h : OwnO w base g n cap l) (hb : Below w.heap.size w w') : OwnO w' base g n cap l :=
  ⟨h.1, h.2.1, h.2.2.kept (row := none) ⟨hb.os, hb.tape, hb.output, hb.size, fun k hk _ => hb.block k hk⟩ (.inr (by simp [Value.ownBlock]))⟩
theorem mem_set_smallO {i : Nat} {p : Od} (h : ∀ q ∈ l, smallO q) (hp : smallO p) : ∀ q ∈ l.set i p, smallO q := by
  intro q hq
  rcases List.mem_or_eq_of_mem_set hq with h1 | h1
  · exact h q h1
  · subst h1; exact hp
theorem OwnO.setKind (h : OwnO w base g n cap l) (i : Nat) (hi : i < l.length) (z : Int) (hz : (Lit.int .i64 z).wf = true) :
    OwnO (w.setCell ⟨g, i * 3, none⟩ (.int .i64 z)) base g n cap (l.set i (z, l[i].2)) ∧ w.grownBy (w.setCell ⟨g, i * 3, none⟩ (.int .i64 z)) (some g) := by
  have hs := h.2.2.stored (i * 3) (.int .i64 z)
  rw [ordVals_setKind l i hi] at hs
  exact ⟨⟨by simpa using h.1, mem_set_smallO h.2.1 ⟨hz, (h.2.1 _ (List.getElem_mem hi)).2⟩, hs.1⟩, hs.2⟩
theorem OwnO.setKey (h : OwnO w base g n cap l) (i : Nat) (hi : i < l.length) (k : ByteArray) (hk : k.size ≤ maxLen) :
    OwnO (w.setCell ⟨g, i * 3 + 1, none⟩ (.string k)) base g n cap (l.set i (l[i].1, k, l[i].2.2)) ∧ w.grownBy (w.setCell ⟨g, i * 3 + 1, none⟩ (.string k)) (some g) := by
  have hs := h.2.2.stored (i * 3 + 1) (.string k)
  rw [ordVals_setKey l i hi] at hs
  exact ⟨⟨by simpa using h.1, mem_set_smallO h.2.1 ⟨(h.2.1 _ (List.getElem_mem hi)).1, hk, (h.2.1 _ (List.getElem_mem hi)).2.2⟩, hs.1⟩, hs.2⟩
theorem OwnO.setVal (h : OwnO w base g n cap l) (i : Nat) (hi : i < l.length) (v : ByteArray) (hv : v.size ≤ maxLen) :
    OwnO (w.setCell ⟨g, i * 3 + 2, none⟩ (.string v)) base g n cap (l.set i (l[i].1, l[i].2.1, v)) ∧ w.grownBy (w.setCell ⟨g, i * 3 + 2, none⟩ (.string v)) (some g) := by
  have hs := h.2.2.stored (i * 3 + 2) (.string v)
  rw [ordVals_setVal l i hi] at hs
  exact ⟨⟨by simpa using h.1, mem_set_smallO h.2.1 ⟨(h.2.1 _ (List.getElem_mem hi)).1, (h.2.1 _ (List.getElem_mem hi)).2.1, hv⟩, hs.1⟩, hs.2⟩
theorem OwnO.setAll (h : OwnO w base g n cap l) (i : Nat) (hi : i < l.length) (z : Int) (k v : ByteArray) (hz : (Lit.int .i64 z).wf = true) (hk : k.size ≤ maxLen) (hv : v.size ≤ maxLen) :
    OwnO (((w.setCell ⟨g, i * 3, none⟩ (.int .i64 z)).setCell ⟨g, i * 3 + 1, none⟩ (.string k)).setCell ⟨g, i * 3 + 2, none⟩ (.string v)) base g n cap (l.set i (z, k, v)) ∧ w.grownBy (((w.setCell ⟨g, i * 3, none⟩ (.int .i64 z)).setCell ⟨g, i * 3 + 1, none⟩ (.string k)).setCell ⟨g, i * 3 + 2, none⟩ (.string v)) (some g) := by
  have h0 := h.setKind i hi z hz
  have h1 := h0.1.setKey i (by simpa using hi) k hk
  have h2 := h1.1.setVal i (by simpa using hi) v hv
  simp only [List.getElem_set_self, List.set_set] at h2
  simp only [List.getElem_set_self, List.set_set] at h1
  exact ⟨h2.1, grownBy_trans (grownBy_trans h0.2 h1.2) h2.2⟩
theorem ownO_val {v' : Value} (hl : l.length = n) (hs : ∀ p ∈ l, smallO p) (h0 : ¬ v' = .slice none 0 0)
    (h : w'.ownsRow base 65 3 v' n (ordVals l)) : ∃ g' cap', v' = .slice (some ⟨g', 0, none⟩) n cap' ∧ OwnO w' base g' n cap' l := by
  rcases h.2 with ⟨h2, _⟩ | ⟨g', cap', cur, hv, _⟩
  · exact absurd h2 h0
  · subst hv
    exact ⟨g', cap', rfl, hl, hs, h⟩
theorem ownO_made (w : World) (base : Nat) (hb : base ≤ w.heap.size) : OwnO (w.alloc (.cells #[] 65)) base w.heap.size 0 0 [] :=
  ⟨rfl, fun s h => absurd h List.not_mem_nil, World.ownsRow_made w #[] 0 hb (Nat.zero_le _) rfl⟩
theorem cells_ords (h : CellsO w b off l) : ∀ j v, (ordVals l)[j]? = some v → w.cell? ((⟨b, off, none⟩ : Addr).add j) = some v := by
  intro j v hj
  have hjl : j < l.length * 3 := by have := (List.getElem?_eq_some_iff.1 hj).1; rwa [ordVals_length] at this
  rw [Addr.add_lit]
  obtain ⟨e0, e1, e2⟩ := ordVals_at l (j / 3) (by omega)
  have hc := h (j / 3) (by omega)
  have hm : j = (j / 3) * 3 ∨ j = (j / 3) * 3 + 1 ∨ j = (j / 3) * 3 + 2 := by omega
  rcases hm with e | e | e
  · rw [e, e0] at hj
    rw [e, ← hj]; exact hc.1
  · rw [e, e1] at hj
    rw [e, ← hj]; exact hc.2.1
  · rw [e, e2] at hj
    rw [e, ← hj]; exact hc.2.2
end
theorem infoO : (Tryz.prog.info? 65).map (fun i => (i.zero, i.size, i.bytes)) = some (some (.agg #[.int .i64 0, .string ⟨#[]⟩, .string ⟨#[]⟩]), 3, 40) := by kernel_rfl

end Go.Proofs.YtggdgceglmbaiaaGreatDoor.ords

namespace Go.Proofs.YtggdgceglmbaiaaGreatDoor.padmath
open Go.RowKit Go.Proofs.YtggdgceglmbaiaaGreatDoor.base

def zeros (n : Nat) : Nat := (119 - n % 64) % 64
def be8 (n : Nat) : List UInt8 := [UInt8.ofNat (n / 72057594037927936), UInt8.ofNat (n / 281474976710656), UInt8.ofNat (n / 1099511627776), UInt8.ofNat (n / 4294967296), UInt8.ofNat (n / 16777216), UInt8.ofNat (n / 65536), UInt8.ofNat (n / 256), UInt8.ofNat n]
def padTo (bs : List UInt8) (j : Nat) : List UInt8 := bs ++ 128 :: List.replicate j 0
def padded (bs : List UInt8) : List UInt8 := padTo bs (zeros bs.length) ++ be8 (bs.length * 8)
theorem padTo_length (bs : List UInt8) (j : Nat) : (padTo bs j).length = bs.length + 1 + j := by simp [padTo]; omega
theorem padTo_zero (bs : List UInt8) : padTo bs 0 = bs ++ [128] := rfl
theorem padTo_snoc (bs : List UInt8) (j : Nat) : padTo bs j ++ [0] = padTo bs (j + 1) := by
  unfold padTo; rw [List.replicate_succ', List.append_assoc, List.cons_append]
theorem zeros_lt (n : Nat) : zeros n < 64 := by unfold zeros; omega
theorem zeros_hit (n j : Nat) (h : j ≤ zeros n) : (n + 1 + j) % 64 = 56 ↔ j = zeros n := by unfold zeros at *; omega
theorem padded_length (bs : List UInt8) : (padded bs).length = bs.length + 9 + zeros bs.length := by rw [padded, List.length_append, padTo_length]; simp [be8]; omega
theorem padded_mod (bs : List UInt8) : (padded bs).length % 64 = 0 := by rw [padded_length]; unfold zeros; omega
theorem be8_length (n : Nat) : (be8 n).length = 8 := rfl
theorem be8_at (len i : Nat) (h : i < 8) : (len : Int) * 8 / 2 ^ (56 - 8 * i) % 256 = (((be8 (len * 8))[i]!).toNat : Int) := by
  have hcs : i = 0 ∨ i = 1 ∨ i = 2 ∨ i = 3 ∨ i = 4 ∨ i = 5 ∨ i = 6 ∨ i = 7 := by omega
  rcases hcs with rfl | rfl | rfl | rfl | rfl | rfl | rfl | rfl
  · show _ = ((UInt8.ofNat (len * 8 / 72057594037927936)).toNat : Int); rw [byte_of]; omega
  · show _ = ((UInt8.ofNat (len * 8 / 281474976710656)).toNat : Int); rw [byte_of]; omega
  · show _ = ((UInt8.ofNat (len * 8 / 1099511627776)).toNat : Int); rw [byte_of]; omega
  · show _ = ((UInt8.ofNat (len * 8 / 4294967296)).toNat : Int); rw [byte_of]; omega
  · show _ = ((UInt8.ofNat (len * 8 / 16777216)).toNat : Int); rw [byte_of]; omega
  · show _ = ((UInt8.ofNat (len * 8 / 65536)).toNat : Int); rw [byte_of]; omega
  · show _ = ((UInt8.ofNat (len * 8 / 256)).toNat : Int); rw [byte_of]; omega
  · show _ = ((UInt8.ofNat (len * 8)).toNat : Int); rw [byte_of]; omega
def lenV : Value → Nat
  | .slice _ n _ => n
  | _ => 0

end Go.Proofs.YtggdgceglmbaiaaGreatDoor.padmath

namespace Go.Proofs.YtggdgceglmbaiaaGreatDoor.sha
open Go.RowKit Go.Proofs.YtggdgceglmbaiaaGreatDoor.base Go.Proofs.YtggdgceglmbaiaaGreatDoor.padmath
set_option linter.unusedVariables false

def rotr (n x : Nat) : Nat := (x / 2 ^ n) ||| (x * 2 ^ (32 - n) % 4294967296)
def ssig0 (x : Nat) : Nat := rotr 7 x ^^^ rotr 18 x ^^^ x / 8
def ssig1 (x : Nat) : Nat := rotr 17 x ^^^ rotr 19 x ^^^ x / 1024
def bsig0 (x : Nat) : Nat := rotr 2 x ^^^ rotr 13 x ^^^ rotr 22 x
def bsig1 (x : Nat) : Nat := rotr 6 x ^^^ rotr 11 x ^^^ rotr 25 x
def ch (e f g : Nat) : Nat := (e &&& f) ^^^ ((4294967295 ^^^ e) &&& g)
def maj (a b c : Nat) : Nat := (a &&& b) ^^^ (a &&& c) ^^^ (b &&& c)
theorem or32 {a b : Nat} (ha : a < 4294967296) (hb : b < 4294967296) : a ||| b < 4294967296 := Nat.or_lt_two_pow (n := 32) ha hb
theorem xor32 {a b : Nat} (ha : a < 4294967296) (hb : b < 4294967296) : a ^^^ b < 4294967296 := Nat.xor_lt_two_pow (n := 32) ha hb
theorem and32 {a b : Nat} (ha : a < 4294967296) : a &&& b < 4294967296 := Nat.lt_of_le_of_lt Nat.and_le_left ha
theorem and32' {a b : Nat} (hb : b < 4294967296) : a &&& b < 4294967296 := Nat.lt_of_le_of_lt Nat.and_le_right hb
theorem div32 {x : Nat} (n : Nat) (h : x < 4294967296) : x / n < 4294967296 := Nat.lt_of_le_of_lt (Nat.div_le_self _ _) h
theorem rotr_lt (n x : Nat) (h : x < 4294967296) : rotr n x < 4294967296 := or32 (div32 _ h) (Nat.mod_lt _ (by omega))
theorem ssig0_lt (x : Nat) (h : x < 4294967296) : ssig0 x < 4294967296 := xor32 (xor32 (rotr_lt _ _ h) (rotr_lt _ _ h)) (div32 _ h)
theorem ssig1_lt (x : Nat) (h : x < 4294967296) : ssig1 x < 4294967296 := xor32 (xor32 (rotr_lt _ _ h) (rotr_lt _ _ h)) (div32 _ h)
theorem bsig0_lt (x : Nat) (h : x < 4294967296) : bsig0 x < 4294967296 := xor32 (xor32 (rotr_lt _ _ h) (rotr_lt _ _ h)) (rotr_lt _ _ h)
theorem bsig1_lt (x : Nat) (h : x < 4294967296) : bsig1 x < 4294967296 := xor32 (xor32 (rotr_lt _ _ h) (rotr_lt _ _ h)) (rotr_lt _ _ h)
theorem ch_lt (e f g : Nat) (h : e < 4294967296) (hg : g < 4294967296) : ch e f g < 4294967296 := xor32 (and32 h) (and32' hg)
theorem maj_lt (a b c : Nat) (h : a < 4294967296) (hb : b < 4294967296) : maj a b c < 4294967296 := xor32 (xor32 (and32 h) (and32 h)) (and32 hb)

def be32 (bs : List UInt8) (i : Nat) : Nat := (bs.getD (4 * i) 0).toNat * 16777216 + (bs.getD (4 * i + 1) 0).toNat * 65536 + (bs.getD (4 * i + 2) 0).toNat * 256 + (bs.getD (4 * i + 3) 0).toNat
theorem be32_lt (bs : List UInt8) (i : Nat) : be32 bs i < 4294967296 := by
  have h1 := (bs.getD (4 * i) 0).toNat_lt
  have h2 := (bs.getD (4 * i + 1) 0).toNat_lt
  have h3 := (bs.getD (4 * i + 2) 0).toNat_lt
  have h4 := (bs.getD (4 * i + 3) 0).toNat_lt
  unfold be32; omega
/-- the word behind k words -/
def nextWord (bs : List UInt8) (w : List Nat) (k : Nat) : Nat :=
  if k < 16 then be32 bs k else (w.getD (k - 16) 0 + ssig0 (w.getD (k - 15) 0) + w.getD (k - 7) 0 + ssig1 (w.getD (k - 2) 0)) % 4294967296
def ws (bs : List UInt8) : Nat → List Nat
  | 0 => []
  | k + 1 => ws bs k ++ [nextWord bs (ws bs k) k]
theorem ws_length (bs : List UInt8) (k : Nat) : (ws bs k).length = k := by
  induction k with
  | zero => rfl
  | succ k ih => simp [ws, ih]
theorem nextWord_lt (bs : List UInt8) (w : List Nat) (k : Nat) : nextWord bs w k < 4294967296 := by
  unfold nextWord
  split
  · exact be32_lt _ _
  · exact Nat.mod_lt _ (by omega)
theorem ws_lt (bs : List UInt8) (k : Nat) : ∀ x ∈ ws bs k, x < 4294967296 := by
  induction k with
  | zero => intro x h; exact absurd h List.not_mem_nil
  | succ k ih =>
    intro x h
    rcases List.mem_append.1 h with h | h
    · exact ih x h
    · simp at h; subst h; exact nextWord_lt _ _ _
theorem getD_lt {l : List Nat} (h : ∀ x ∈ l, x < 4294967296) (i : Nat) : l.getD i 0 < 4294967296 := by
  rw [List.getD_eq_getElem?_getD]
  cases e : l[i]? with
  | none => simp
  | some x => exact h x (List.mem_of_getElem? e)

/-- one round over the state a .. h -/
def rnd (s : List Nat) (kw : Nat) : List Nat :=
  let t1 := s.getD 7 0 + bsig1 (s.getD 4 0) + ch (s.getD 4 0) (s.getD 5 0) (s.getD 6 0) + kw
  let t2 := bsig0 (s.getD 0 0) + maj (s.getD 0 0) (s.getD 1 0) (s.getD 2 0)
  [(t1 + t2) % 4294967296, s.getD 0 0, s.getD 1 0, s.getD 2 0, (s.getD 3 0 + t1) % 4294967296, s.getD 4 0, s.getD 5 0, s.getD 6 0]
def rounds (ks w s : List Nat) : Nat → List Nat
  | 0 => s
  | i + 1 => rnd (rounds ks w s i) (ks.getD i 0 + w.getD i 0)
def addAll (a b : List Nat) : List Nat := (List.range 8).map fun i => (a.getD i 0 + b.getD i 0) % 4294967296
def block (ks h : List Nat) (bs : List UInt8) : List Nat := addAll (rounds ks (ws bs 64) h 64) h
def K64 : List Nat := [0x428a2f98, 0x71374491, 0xb5c0fbcf, 0xe9b5dba5, 0x3956c25b, 0x59f111f1, 0x923f82a4, 0xab1c5ed5,
  0xd807aa98, 0x12835b01, 0x243185be, 0x550c7dc3, 0x72be5d74, 0x80deb1fe, 0x9bdc06a7, 0xc19bf174,
  0xe49b69c1, 0xefbe4786, 0x0fc19dc6, 0x240ca1cc, 0x2de92c6f, 0x4a7484aa, 0x5cb0a9dc, 0x76f988da,
  0x983e5152, 0xa831c66d, 0xb00327c8, 0xbf597fc7, 0xc6e00bf3, 0xd5a79147, 0x06ca6351, 0x14292967,
  0x27b70a85, 0x2e1b2138, 0x4d2c6dfc, 0x53380d13, 0x650a7354, 0x766a0abb, 0x81c2c92e, 0x92722c85,
  0xa2bfe8a1, 0xa81a664b, 0xc24b8b70, 0xc76c51a3, 0xd192e819, 0xd6990624, 0xf40e3585, 0x106aa070,
  0x19a4c116, 0x1e376c08, 0x2748774c, 0x34b0bcb5, 0x391c0cb3, 0x4ed8aa4a, 0x5b9cca4f, 0x682e6ff3,
  0x748f82ee, 0x78a5636f, 0x84c87814, 0x8cc70208, 0x90befffa, 0xa4506ceb, 0xbef9a3f7, 0xc67178f2]
def H8 : List Nat := [0x6a09e667, 0xbb67ae85, 0x3c6ef372, 0xa54ff53a, 0x510e527f, 0x9b05688c, 0x1f83d9ab, 0x5be0cd19]
def hashTo (p : List UInt8) : Nat → List Nat
  | 0 => H8
  | i + 1 => block K64 (hashTo p i) ((p.drop (64 * i)).take 64)
def word4 (x : Nat) : List UInt8 := [UInt8.ofNat (x / 16777216), UInt8.ofNat (x / 65536), UInt8.ofNat (x / 256), UInt8.ofNat x]
def digest (bs : List UInt8) : List UInt8 := ((hashTo (padded bs) ((padded bs).length / 64)).map word4).flatten

theorem addAll_length (a b : List Nat) : (addAll a b).length = 8 := by simp [addAll]
theorem addAll_lt (a b : List Nat) : ∀ x ∈ addAll a b, x < 4294967296 := by
  intro x hx
  obtain ⟨i, _, rfl⟩ := List.mem_map.1 hx
  exact Nat.mod_lt _ (by omega)
theorem hashTo_length (p : List UInt8) (i : Nat) : (hashTo p i).length = 8 := by
  cases i with
  | zero => rfl
  | succ i => exact addAll_length _ _
theorem hashTo_lt (p : List UInt8) (i : Nat) : ∀ x ∈ hashTo p i, x < 4294967296 := by
  cases i with
  | zero => intro x hx; simp only [hashTo, H8, List.mem_cons, List.not_mem_nil, or_false] at hx; omega
  | succ i => exact addAll_lt _ _
theorem rnd_length (s : List Nat) (kw : Nat) : (rnd s kw).length = 8 := rfl
theorem rnd_lt (s : List Nat) (kw : Nat) (h : ∀ x ∈ s, x < 4294967296) : ∀ x ∈ rnd s kw, x < 4294967296 := by
  intro x hx
  have g := fun i => getD_lt h i
  simp only [rnd, List.mem_cons, List.not_mem_nil, or_false] at hx
  rcases hx with rfl | rfl | rfl | rfl | rfl | rfl | rfl | rfl
  · exact Nat.mod_lt _ (by omega)
  · exact g 0
  · exact g 1
  · exact g 2
  · exact Nat.mod_lt _ (by omega)
  · exact g 4
  · exact g 5
  · exact g 6
theorem rounds_length (ks w s : List Nat) (i : Nat) (h : s.length = 8) : (rounds ks w s i).length = 8 := by
  cases i with
  | zero => exact h
  | succ i => rfl
theorem rounds_lt (ks w s : List Nat) (i : Nat) (h : ∀ x ∈ s, x < 4294967296) : ∀ x ∈ rounds ks w s i, x < 4294967296 := by
  induction i with
  | zero => exact h
  | succ i ih => exact rnd_lt _ _ ih
theorem digest_length (bs : List UInt8) : (digest bs).length = 32 := by
  unfold digest
  have h := hashTo_length (padded bs) ((padded bs).length / 64)
  generalize hashTo (padded bs) ((padded bs).length / 64) = l at *
  match l, h with
  | [a, b, c, d, e, f, g, h], _ => rfl

end Go.Proofs.YtggdgceglmbaiaaGreatDoor.sha

namespace Go.Proofs.YtggdgceglmbaiaaGreatDoor.recs
open Go Go.RowKit Go.Proofs.YtggdgceglmbaiaaGreatDoor.base Go.Proofs.YtggdgceglmbaiaaGreatDoor.pairs Go.Proofs.YtggdgceglmbaiaaGreatDoor.ords Go.Proofs.YtggdgceglmbaiaaGreatDoor.putnum Go.Proofs.YtggdgceglmbaiaaGreatDoor.puttext Go.Proofs.YtggdgceglmbaiaaGreatDoor.getnum Go.Proofs.YtggdgceglmbaiaaGreatDoor.gettext Go.Proofs.YtggdgceglmbaiaaGreatDoor.gettexts Go.Proofs.YtggdgceglmbaiaaGreatDoor.nummath
set_option linter.unusedVariables false

/-- kind, transaction, orders -/
abbrev Rc := Int × Int × List Od
def recOk (r : Rc) : Bool := decide (1 ≤ r.2.1 ∧ r.2.1 ≤ 1000000) && (if r.1 = 1 then opsOk r.2.2 else decide (r.1 = 2 ∨ r.1 = 3) && r.2.2.isEmpty)
def bodyOf (r : Rc) : List UInt8 := numBytes r.1 ++ numBytes r.2.1 ++ if r.1 = 1 then putOps r.2.2 else []
def sum4 (bs : List UInt8) : List UInt8 := (sha.digest bs).take 4
def recBytes (r : Rc) : List UInt8 := numBytes ((bodyOf r).length : Int) ++ bodyOf r ++ sum4 (bodyOf r)
def putRec (r : Rc) : List UInt8 := if recOk r = true then recBytes r else []
/-- a record that is right, or none -/
def okRec (r : Rc) : Option Rc := if recOk r = true then some r else none
def readBody (body : List UInt8) : Option Rc :=
  match getNum body 0 with
  | none => none
  | some (kind, a) => match getNum body (a : Int) with
    | none => none
    | some (tx, b) =>
      if body.length ≤ a + b then okRec ((kind : Int), (tx : Int), [])
      else match getOps (body.drop (a + b)) with
        | none => none
        | some l => okRec ((kind : Int), (tx : Int), l)
def getRec (bs : List UInt8) (at_ : Int) : Option (Rc × Nat) :=
  match getNum bs at_ with
  | none => none
  | some (n, k) =>
    if bs.length < at_.toNat + k + n + 4 then none
    else if (bs.drop (at_.toNat + k + n)).take 4 = sum4 ((bs.drop (at_.toNat + k)).take n) then
      match readBody ((bs.drop (at_.toNat + k)).take n) with
      | none => none
      | some r => some (r, at_.toNat + k + n + 4)
    else none
def readGo (bs : List UInt8) : Nat → Nat → List Rc → List Rc × Nat
  | 0, p, acc => (acc, p)
  | f + 1, p, acc => if bs.length ≤ p then (acc, p) else
    match getRec bs (p : Int) with
    | none => (acc, p)
    | some (r, q) => readGo bs f q (acc ++ [r])
def readRecs (bs : List UInt8) : List Rc × Nat := readGo bs (bs.length + 1) 0 []

/-! ### bytes and back -/
theorem sum4_length (bs : List UInt8) : (sum4 bs).length = 4 := by simp [sum4, sha.digest_length]
theorem recOk_iff (r : Rc) : recOk r = true ↔ (1 ≤ r.2.1 ∧ r.2.1 ≤ 1000000) ∧ ((r.1 = 1 ∧ opsOk r.2.2 = true) ∨ ((r.1 = 2 ∨ r.1 = 3) ∧ r.2.2 = [])) := by
  unfold recOk
  rw [Bool.and_eq_true, decide_eq_true_iff]
  by_cases h : r.1 = 1
  · rw [if_pos h]
    constructor
    · rintro ⟨h1, h2⟩; exact ⟨h1, .inl ⟨h, h2⟩⟩
    · rintro ⟨h1, ⟨_, h2⟩ | ⟨h2, _⟩⟩
      · exact ⟨h1, h2⟩
      · omega
  · rw [if_neg h, Bool.and_eq_true, decide_eq_true_iff, List.isEmpty_iff]
    constructor
    · rintro ⟨h1, h2, h3⟩; exact ⟨h1, .inr ⟨h2, h3⟩⟩
    · rintro ⟨h1, ⟨h2, _⟩ | h2⟩
      · omega
      · exact ⟨h1, h2.1, h2.2⟩
theorem okRec_some {r x : Rc} (h : okRec r = some x) : x = r ∧ recOk r = true := by
  unfold okRec at h
  split at h
  · next h1 => cases h; exact ⟨rfl, h1⟩
  · cases h
theorem okRec_ok {r : Rc} (h : recOk r = true) : okRec r = some r := if_pos h
theorem okRec_no {r : Rc} (h : recOk r = false) : okRec r = none := if_neg (by rw [h]; decide)
theorem putOps_len (l : List Od) (h : opsOk l = true) : 1 ≤ (putOps l).length := by
  unfold putOps
  rw [if_pos h, List.length_append]
  have := numBytes_length (l.length : Int)
  omega
theorem readBody_put (r : Rc) (h : recOk r = true) : readBody (bodyOf r) = some r := by
  obtain ⟨⟨h1, h2⟩, h3⟩ := (recOk_iff r).1 h
  obtain ⟨kind, tx, ops⟩ := r
  simp only [] at h1 h2 h3
  have hk : 0 ≤ kind ∧ kind ≤ 1000000000 := by rcases h3 with ⟨h3, _⟩ | ⟨h3, _⟩ <;> omega
  have e1 := getNum_put [] (numBytes tx ++ if kind = 1 then putOps ops else []) kind
  have e2 := getNum_put (numBytes kind) (if kind = 1 then putOps ops else []) tx
  have ea : [] ++ numBytes kind ++ (numBytes tx ++ if kind = 1 then putOps ops else []) = bodyOf (kind, tx, ops) := by simp [bodyOf]
  have eb : numBytes kind ++ numBytes tx ++ (if kind = 1 then putOps ops else []) = bodyOf (kind, tx, ops) := rfl
  rw [ea] at e1
  rw [eb] at e2
  simp only [List.length_nil] at e1
  rw [show ((0 : Nat) : Int) = 0 from rfl] at e1
  unfold readBody
  rw [e1]
  simp only []
  rw [e2]
  simp only []
  have ck : ((clamp kind : Nat) : Int) = kind := clamp_int hk.1 hk.2
  have ct : ((clamp tx : Nat) : Int) = tx := clamp_int (by omega) (by omega)
  have hlen : (bodyOf (kind, tx, ops)).length = (numBytes kind).length + (numBytes tx).length + (if kind = 1 then putOps ops else []).length := by rw [← eb]; simp only [List.length_append]
  rw [ck, ct]
  rcases h3 with ⟨h3, h4⟩ | ⟨h3, h4⟩
  · have hp := putOps_len ops h4
    rw [if_pos h3] at hlen
    rw [if_neg (by omega)]
    have ed : (bodyOf (kind, tx, ops)).drop ((numBytes kind).length + (numBytes tx).length) = putOps ops := by
      rw [← eb, if_pos h3, ← List.length_append, List.drop_left]
    rw [ed, getOps_put ops h4]
    exact okRec_ok h
  · have hk1 : ¬ kind = 1 := by omega
    rw [if_neg hk1] at hlen
    simp only [List.length_nil] at hlen
    rw [if_pos (by omega)]
    subst h4
    exact okRec_ok h
theorem readBody_some {body : List UInt8} {r : Rc} (h : readBody body = some r) : recOk r = true ∧ bodyOf r = body := by
  unfold readBody at h
  split at h
  · cases h
  · next kind a ha =>
    split at h
    · cases h
    · next tx b hb =>
      have s1 := getNum_some ha
      have s2 := getNum_some hb
      have b1 := getNum_bytes (p := 0) ha
      have b2 := getNum_bytes hb
      simp only [Int.toNat_zero, Nat.zero_add, List.drop_zero, Int.toNat_natCast] at s1 s2 b1
      split at h
      · next hlen =>
        obtain ⟨rfl, hok⟩ := okRec_some h
        refine ⟨hok, ?_⟩
        obtain ⟨_, ⟨_, h5⟩ | ⟨h4, _⟩⟩ := (recOk_iff _).1 hok
        · exact absurd (show opsOk [] = true from h5) (by decide)
        · unfold bodyOf
          simp only [] at h4
          rw [if_neg (by omega), List.append_nil, ← b1, ← b2]
          have := take_split body 0 a b
          simp only [List.drop_zero, Nat.zero_add] at this
          rw [← this, List.take_of_length_le hlen]
      · next hlen =>
        split at h
        · cases h
        · next l hl =>
          obtain ⟨rfl, hok⟩ := okRec_some h
          obtain ⟨ho, hb2⟩ := getOps_some hl
          refine ⟨hok, ?_⟩
          obtain ⟨_, ⟨h4, _⟩ | ⟨_, h4⟩⟩ := (recOk_iff _).1 hok
          · unfold bodyOf
            simp only [] at h4
            rw [if_pos h4]
            simp only []
            rw [hb2, ← b1, ← b2]
            have := take_split body 0 a b
            simp only [List.drop_zero, Nat.zero_add] at this
            rw [← this, List.take_append_drop]
          · simp only [] at h4
            subst h4
            exact absurd ho (by decide)
theorem bodyOf_length (r : Rc) : (bodyOf r).length ≤ 10 + (putOps r.2.2).length := by
  unfold bodyOf
  have h1 := numBytes_length r.1
  have h2 := numBytes_length r.2.1
  split <;> simp <;> omega
theorem getNum_shift (bs : List UInt8) (p : Nat) : getNum bs (p : Int) = getNum (bs.drop p) 0 := by
  unfold getNum
  rw [if_neg (by omega), if_neg (by omega)]
  simp
/-- what is read at a place is read of what begins there -/
theorem getRec_shift (bs : List UInt8) (p : Nat) (hp : p ≤ bs.length) : getRec bs (p : Int) = (getRec (bs.drop p) 0).map fun x => (x.1, p + x.2) := by
  unfold getRec
  rw [getNum_shift bs p]
  cases getNum (bs.drop p) 0 with
  | none => rfl
  | some x =>
    obtain ⟨n, k⟩ := x
    simp only [Int.toNat_natCast, Int.toNat_zero, Nat.zero_add, List.drop_drop, List.length_drop]
    by_cases h1 : bs.length < p + k + n + 4
    · have h2 : bs.length - p < k + n + 4 := by omega
      rw [if_pos h1, if_pos h2]; rfl
    · have h2 : ¬ bs.length - p < k + n + 4 := by omega
      rw [if_neg h1, if_neg h2, show p + (k + n) = p + k + n by omega]
      split
      · split
        · rfl
        · simp; omega
      · rfl
theorem getRec_put (r : Rc) (rest : List UInt8) (h : recOk r = true) (hl : (bodyOf r).length ≤ 1000000000) : getRec (recBytes r ++ rest) 0 = some (r, (recBytes r).length) := by
  have e1 := getNum_put [] (bodyOf r ++ sum4 (bodyOf r) ++ rest) ((bodyOf r).length : Int)
  have ea : [] ++ numBytes ((bodyOf r).length : Int) ++ (bodyOf r ++ sum4 (bodyOf r) ++ rest) = recBytes r ++ rest := by simp [recBytes]
  rw [ea, clamp_nat _ hl] at e1
  simp only [List.length_nil] at e1
  rw [show ((0 : Nat) : Int) = 0 from rfl] at e1
  have hs := sum4_length (bodyOf r)
  have hrl : (recBytes r).length = (numBytes ((bodyOf r).length : Int)).length + (bodyOf r).length + 4 := by simp only [recBytes, List.length_append, hs]
  unfold getRec
  rw [e1]
  simp only [Int.toNat_zero, Nat.zero_add]
  generalize hK : numBytes ((bodyOf r).length : Int) = N at *
  have d1 : ((recBytes r ++ rest).drop N.length).take (bodyOf r).length = bodyOf r := by
    rw [← ea, List.nil_append, List.drop_left, List.append_assoc, List.take_left]
  have d2 : ((recBytes r ++ rest).drop (N.length + (bodyOf r).length)).take 4 = sum4 (bodyOf r) := by
    rw [← ea, List.nil_append, ← List.drop_drop, List.drop_left, List.append_assoc, List.drop_left, ← hs, List.take_left]
  rw [if_neg (by simp [hrl]), d1, d2, if_pos rfl, readBody_put r h]
  simp [hrl]
theorem getRec_some {bs : List UInt8} {r : Rc} {q : Nat} (h : getRec bs 0 = some (r, q)) : recOk r = true ∧ q ≤ bs.length ∧ bs.take q = recBytes r ∧ (bodyOf r).length ≤ 1000000000 := by
  unfold getRec at h
  split at h
  · cases h
  · next n k hn =>
    have s1 := getNum_some hn
    have b1 := getNum_bytes (p := 0) hn
    simp only [Int.toNat_zero, Nat.zero_add, List.drop_zero] at h s1 b1
    split at h
    · cases h
    · next hlen =>
      split at h
      · next hsum =>
        split at h
        · cases h
        · next x hx =>
          cases h
          obtain ⟨hok, hb⟩ := readBody_some hx
          have hbl : (bodyOf r).length = n := by rw [hb]; simp; omega
          refine ⟨hok, by omega, ?_, by omega⟩
          unfold recBytes
          rw [hbl, ← b1, hb, ← hsum]
          have t1 := take_split bs 0 k (n + 4)
          have t2 := take_split bs k n 4
          simp only [List.drop_zero, Nat.zero_add] at t1
          rw [show k + n + 4 = k + (n + 4) by omega, t1, t2, List.append_assoc]
      · cases h
theorem getRec_cut {r : Rc} (h : recOk r = true) (hl : (bodyOf r).length ≤ 1000000000) (n : Nat) (hn : n < (recBytes r).length) : getRec ((recBytes r).take n) 0 = none := by
  cases hg : getRec ((recBytes r).take n) 0 with
  | none => rfl
  | some x =>
    obtain ⟨y, q⟩ := x
    obtain ⟨h1, h2, h3, h4⟩ := getRec_some hg
    have hq : q ≤ n := by simp at h2; omega
    rw [List.take_take, Nat.min_eq_left hq] at h3
    have e1 := getRec_put y ((recBytes r).drop q) h1 h4
    rw [← h3, List.take_append_drop] at e1
    have e2 := getRec_put r [] h hl
    rw [List.append_nil] at e2
    rw [e2] at e1
    simp only [Option.some.injEq, Prod.mk.injEq] at e1
    have : (List.take q (recBytes r)).length = q := by simp; omega
    omega
theorem recBytes_pos (r : Rc) : 5 ≤ (recBytes r).length := by
  have h1 := numBytes_length ((bodyOf r).length : Int)
  have h2 := sum4_length (bodyOf r)
  simp only [recBytes, List.length_append]
  omega
theorem putOps_small (l : List Od) : (putOps l).length ≤ 400 := by
  unfold putOps
  split
  · next h =>
    obtain ⟨⟨h1, _⟩, _, h3⟩ := (opsOk_iff l).1 h
    have hb : ∀ l : List Od, (∀ o ∈ l, odOk o = true) → (odsBytes l).length ≤ 47 * l.length := by
      intro l
      induction l with
      | nil => intro _; simp [odsBytes]
      | cons o l ih =>
        intro hh
        have i1 := ih (fun x hx => hh x (List.mem_cons_of_mem _ hx))
        obtain ⟨_, _, k3, k4⟩ := (odOk_iff o).1 (hh o List.mem_cons_self)
        have h5 := keyOk_size k3
        have h6 := textBytes_length o.2.1
        have h7 := textBytes_length o.2.2
        have h8 := numBytes_length o.1
        have h9 : (odBytes o).length ≤ 47 := by simp [odBytes]; omega
        rw [odsBytes_cons, List.length_append, List.length_cons]
        omega
    have := hb l h1
    have := numBytes_length (l.length : Int)
    rw [List.length_append]; omega
  · simp
theorem body_small (r : Rc) : (bodyOf r).length ≤ 410 := by
  have := bodyOf_length r
  have := putOps_small r.2.2
  omega
theorem rec_small (r : Rc) : (recBytes r).length ≤ 419 := by
  have h1 := numBytes_length ((bodyOf r).length : Int)
  have h2 := sum4_length (bodyOf r)
  have h3 := body_small r
  simp only [recBytes, List.length_append]
  omega
/-- what is read at any place -/
theorem getRec_at {bs : List UInt8} {p : Int} {r : Rc} {q : Nat} (h : getRec bs p = some (r, q)) : 0 ≤ p ∧ recOk r = true ∧ p.toNat < q ∧ q ≤ bs.length ∧ (bs.drop p.toNat).take (q - p.toNat) = recBytes r := by
  have hp : 0 ≤ p ∧ p.toNat ≤ bs.length := by
    unfold getRec at h
    split at h
    · cases h
    · next n k hn =>
      have := getNum_some hn
      exact ⟨this.1, by omega⟩
  obtain ⟨P, rfl⟩ := Int.eq_ofNat_of_zero_le hp.1
  simp only [Int.toNat_natCast] at hp ⊢
  rw [getRec_shift bs P hp.2] at h
  cases hg : getRec (bs.drop P) 0 with
  | none => rw [hg] at h; cases h
  | some x =>
    rw [hg] at h
    obtain ⟨y, k⟩ := x
    simp only [Option.map_some, Option.some.injEq, Prod.mk.injEq] at h
    obtain ⟨rfl, rfl⟩ := h
    obtain ⟨h1, h2, h3, _⟩ := getRec_some hg
    have h4 := recBytes_pos y
    have h5 : (List.take k (bs.drop P)).length = k := by simp at h2 ⊢; omega
    rw [h3] at h5
    refine ⟨by omega, h1, by omega, by simp at h2; omega, ?_⟩
    rw [show P + k - P = k by omega]; exact h3

/-! ### records one behind the other -/
def allBytes (l : List Rc) : List UInt8 := (l.map recBytes).flatten
theorem allBytes_cons (r : Rc) (l : List Rc) : allBytes (r :: l) = recBytes r ++ allBytes l := by simp [allBytes]
theorem allBytes_append (a b : List Rc) : allBytes (a ++ b) = allBytes a ++ allBytes b := by simp [allBytes]
theorem allBytes_snoc (l : List Rc) (r : Rc) : allBytes (l ++ [r]) = allBytes l ++ recBytes r := by simp [allBytes]
theorem readGo_fuel (bs : List UInt8) (f g p : Nat) (acc : List Rc) (hf : bs.length < p + f) (hg : bs.length < p + g) : readGo bs f p acc = readGo bs g p acc := by
  induction f generalizing g p acc with
  | zero =>
    cases g with
    | zero => rfl
    | succ g => rw [readGo, readGo, if_pos (by omega)]
  | succ f ih =>
    cases g with
    | zero => rw [readGo, readGo, if_pos (by omega)]
    | succ g =>
      rw [readGo, readGo]
      split
      · rfl
      · next hlt =>
        cases hr : getRec bs (p : Int) with
        | none => rfl
        | some x =>
          obtain ⟨r, q⟩ := x
          have := getRec_at hr
          simp only [Int.toNat_natCast] at this
          exact ih g q _ (by omega) (by omega)
/-- the step of reading -/
theorem readGo_step (bs : List UInt8) (p : Nat) (acc : List Rc) (hp : p < bs.length) : readGo bs (bs.length + 1 - p) p acc = match getRec bs (p : Int) with | none => (acc, p) | some (r, q) => readGo bs (bs.length + 1 - q) q (acc ++ [r]) := by
  obtain ⟨f, hf⟩ : ∃ f, bs.length + 1 - p = f + 1 := ⟨bs.length - p, by omega⟩
  rw [hf, readGo, if_neg (by omega)]
  cases hr : getRec bs (p : Int) with
  | none => rfl
  | some x =>
    obtain ⟨r, q⟩ := x
    have := getRec_at hr
    simp only [Int.toNat_natCast] at this
    exact readGo_fuel bs _ _ q _ (by omega) (by omega)
theorem readGo_end (bs : List UInt8) (p : Nat) (acc : List Rc) (hp : bs.length ≤ p) : readGo bs (bs.length + 1 - p) p acc = (acc, p) := by
  cases hf : bs.length + 1 - p with
  | zero => rfl
  | succ f => rw [readGo, if_pos hp]
/-- bytes of records, cut anywhere: as many as are whole -/
theorem scan_cut (pre : List UInt8) (l acc : List Rc) (hok : ∀ r ∈ l, recOk r = true) (c : Nat) (hc : c ≤ (allBytes l).length) :
    ∃ j, j ≤ l.length ∧ readGo (pre ++ (allBytes l).take c) ((pre ++ (allBytes l).take c).length + 1 - pre.length) pre.length acc = (acc ++ l.take j, pre.length + (allBytes (l.take j)).length) ∧ (allBytes (l.take j)).length ≤ c ∧ (j = l.length ∨ c < (allBytes (l.take (j + 1))).length) := by
  induction l generalizing pre acc c with
  | nil =>
    have : c = 0 := by simpa [allBytes] using hc
    subst this
    refine ⟨0, Nat.le_refl _, ?_, by simp [allBytes], .inl rfl⟩
    rw [readGo_end _ _ _ (by simp)]
    simp [allBytes]
  | cons r l ih =>
    have hr := hok r List.mem_cons_self
    rw [allBytes_cons] at hc ⊢
    have hpos := recBytes_pos r
    by_cases h1 : c < (recBytes r).length
    · refine ⟨0, Nat.zero_le _, ?_, by simp [allBytes], .inr (by simpa [allBytes] using h1)⟩
      have e0 : (recBytes r ++ allBytes l).take c = (recBytes r).take c := List.take_append_of_le_length (by omega)
      rw [e0]
      by_cases h2 : c = 0
      · subst h2
        rw [readGo_end _ _ _ (by simp)]
        simp [allBytes]
      · rw [readGo_step _ _ _ (by simp; omega), getRec_shift _ _ (by simp), List.drop_left, getRec_cut hr (Nat.le_trans (body_small r) (by omega)) c h1]
        simp [allBytes]
    · have e0 : (recBytes r ++ allBytes l).take c = recBytes r ++ (allBytes l).take (c - (recBytes r).length) := by rw [List.take_append, List.take_of_length_le (by omega)]
      rw [e0]
      simp only [List.length_append] at hc
      obtain ⟨j, j1, j2, j3, j4⟩ := ih (pre ++ recBytes r) (acc ++ [r]) (fun x hx => hok x (List.mem_cons_of_mem _ hx)) (c - (recBytes r).length) (by omega)
      refine ⟨j + 1, by simp; omega, ?_, ?_, ?_⟩
      · rw [readGo_step _ _ _ (by simp; omega), getRec_shift _ _ (by simp), List.drop_left, getRec_put r _ hr (Nat.le_trans (body_small r) (by omega))]
        simp only [Option.map_some]
        rw [List.append_assoc] at j2
        rw [← List.length_append, j2]
        simp [allBytes_cons]
        omega
      · rw [List.take_succ_cons, allBytes_cons, List.length_append]; omega
      · rcases j4 with j4 | j4
        · exact .inl (by simp [j4])
        · refine .inr ?_
          rw [List.take_succ_cons, allBytes_cons, List.length_append]; omega
theorem read_cut (l : List Rc) (hok : ∀ r ∈ l, recOk r = true) (c : Nat) (hc : c ≤ (allBytes l).length) :
    ∃ j, j ≤ l.length ∧ readRecs ((allBytes l).take c) = (l.take j, (allBytes (l.take j)).length) ∧ (allBytes (l.take j)).length ≤ c ∧ (j = l.length ∨ c < (allBytes (l.take (j + 1))).length) := by
  obtain ⟨j, h1, h2, h3, h4⟩ := scan_cut [] l [] hok c hc
  refine ⟨j, h1, ?_, h3, h4⟩
  simpa [readRecs] using h2
theorem read_all (l : List Rc) (hok : ∀ r ∈ l, recOk r = true) : readRecs (allBytes l) = (l, (allBytes l).length) := by
  obtain ⟨j, h1, h2, h3, h4⟩ := read_cut l hok (allBytes l).length (Nat.le_refl _)
  rw [List.take_length] at h2
  rcases h4 with h4 | h4
  · subst h4; rw [List.take_length] at h2; exact h2
  · have e : allBytes l = allBytes (l.take (j + 1)) ++ allBytes (l.drop (j + 1)) := by rw [← allBytes_append, List.take_append_drop]
    have := congrArg List.length e
    simp only [List.length_append] at this
    omega

/-! ### what records make -/
/-- pairs, what is held, all transactions that were met -/
abbrev St := List Pr × List Rc × List Int
def locked (held : List Rc) (ops : List Od) : Bool := held.any fun h => h.2.2.any fun o => ops.any fun p => decide (o.2.1 = p.2.1)
def placeTx (tx : Int) : List Rc → Option Nat
  | [] => none
  | r :: l => if r.2.1 = tx then some 0 else (placeTx tx l).map (· + 1)
def opsAt (held : List Rc) (k : Nat) : List Od := match held[k]? with | none => [] | some r => r.2.2
/-- the pairs behind a record of a transaction that is held -/
def nextM (s : St) (r : Rc) (k : Nat) : List Pr := if r.1 = 2 then applyAll s.1 (opsAt s.2.1 k) else s.1
def one (s : St) (r : Rc) : Option St :=
  if recOk r = true then
    if r.1 = 1 then
      if decide (r.2.1 ∈ s.2.2) = true ∨ locked s.2.1 r.2.2 = true ∨ meets s.1 r.2.2 = false then none else some (s.1, s.2.1 ++ [r], s.2.2 ++ [r.2.1])
    else match placeTx r.2.1 s.2.1 with
      | none => if r.1 = 3 ∧ r.2.1 ∉ s.2.2 then some (s.1, s.2.1, s.2.2 ++ [r.2.1]) else none
      | some k => if (nextM s r k).length ≤ 60 then some (nextM s r k, s.2.1.take k ++ s.2.1.drop (k + 1), s.2.2) else none
  else none
def replayGo : St → List Rc → Option St
  | s, [] => some s
  | s, r :: l => match one s r with
    | none => none
    | some t => replayGo t l
def replay (l : List Rc) : Option St := replayGo ([], [], []) l
theorem replayGo_append (s : St) (a b : List Rc) : replayGo s (a ++ b) = match replayGo s a with | none => none | some t => replayGo t b := by
  induction a generalizing s with
  | nil => rfl
  | cons r a ih =>
    simp only [List.cons_append, replayGo]
    cases one s r with
    | none => rfl
    | some t => exact ih t
/-- what all make, all but the last make, too -/
theorem replay_first (l : List Rc) (h : (replay l).isSome = true) (k : Nat) : (replay (l.take k)).isSome = true := by
  unfold replay at h ⊢
  rw [← List.take_append_drop k l, replayGo_append] at h
  cases hr : replayGo ([], [], []) (l.take k) with
  | none => rw [hr] at h; cases h
  | some t => rfl
/-- what is kept from record to record -/
def Fine (l : List Rc) (s : St) : Prop := pairsOk s.1 = true ∧ (∀ r ∈ s.2.1, r ∈ l ∧ r.1 = 1 ∧ recOk r = true) ∧ ∀ r ∈ s.2.1, r.2.1 ∈ s.2.2
theorem placeTx_some {tx : Int} {l : List Rc} {k : Nat} (h : placeTx tx l = some k) : ∃ hk : k < l.length, l[k].2.1 = tx := by
  induction l generalizing k with
  | nil => cases h
  | cons r l ih =>
    rw [placeTx] at h
    split at h
    · next h1 => cases h; exact ⟨by simp, h1⟩
    · cases hp : placeTx tx l with
      | none => rw [hp] at h; cases h
      | some j =>
        rw [hp] at h
        simp only [Option.map_some, Option.some.injEq] at h
        subst h
        obtain ⟨hj, e⟩ := ih hp
        exact ⟨by simp; omega, by simpa using e⟩
theorem placeTx_none {tx : Int} {l : List Rc} (h : placeTx tx l = none) : ∀ r ∈ l, r.2.1 ≠ tx := by
  induction l with
  | nil => intro r hr; exact absurd hr List.not_mem_nil
  | cons x l ih =>
    rw [placeTx] at h
    split at h
    · cases h
    · next hne =>
      intro r hr
      rcases List.mem_cons.1 hr with e | e
      · subst e; exact hne
      · exact ih (by cases hp : placeTx tx l with | none => rfl | some j => rw [hp] at h; cases h) r e
theorem apply_fine {m : List Pr} {l : List Od} (h1 : ∀ p ∈ m, pairOk p = true) (h2 : Rise m) (hl : ∀ o ∈ l, odOk o = true) : (∀ p ∈ applyAll m l, pairOk p = true) ∧ Rise (applyAll m l) := by
  induction l generalizing m with
  | nil => exact ⟨h1, h2⟩
  | cons o l ih =>
    rw [apply_cons]
    have ho := (odOk_iff o).1 (hl o List.mem_cons_self)
    refine ih ?_ ?_ (fun x hx => hl x (List.mem_cons_of_mem _ hx))
    · intro p hp
      unfold apply1 at hp
      split at hp
      · rcases putKey_mem hp with e | e
        · exact h1 p e
        · subst e; unfold pairOk; rw [ho.2.2.1]; simpa using ho.2.2.2
      · split at hp
        · exact h1 p (List.mem_filter.1 hp).1
        · exact h1 p hp
    · unfold apply1
      split
      · exact rise_put h2
      · split
        · exact List.Pairwise.filter _ h2
        · exact h2
theorem opsAt_ok {held : List Rc} (h : ∀ r ∈ held, recOk r = true ∧ r.1 = 1) (k : Nat) : ∀ o ∈ opsAt held k, odOk o = true := by
  unfold opsAt
  cases hk : held[k]? with
  | none => intro o ho; exact absurd ho List.not_mem_nil
  | some r =>
    have hr := h r (List.mem_of_getElem? hk)
    obtain ⟨_, ⟨_, h2⟩ | ⟨h2, _⟩⟩ := (recOk_iff r).1 hr.1
    · exact ((opsOk_iff _).1 h2).1.1
    · omega
theorem mem_cut {l : List Rc} {k : Nat} {r : Rc} (h : r ∈ l.take k ++ l.drop (k + 1)) : r ∈ l := by
  rcases List.mem_append.1 h with h1 | h1
  · exact List.mem_of_mem_take h1
  · exact List.mem_of_mem_drop h1
theorem one_fine {l : List Rc} {s t : St} {r : Rc} (hs : Fine l s) (hr : r ∈ l) (h : one s r = some t) : Fine l t := by
  obtain ⟨h1, h2, h3⟩ := hs
  unfold one at h
  split at h
  · next hok =>
    split at h
    · next hk =>
      split at h
      · cases h
      · cases h
        refine ⟨h1, fun x hx => ?_, fun x hx => ?_⟩
        · rcases List.mem_append.1 hx with e | e
          · exact h2 x e
          · rw [List.mem_singleton.1 e]; exact ⟨hr, hk, hok⟩
        · rcases List.mem_append.1 hx with e | e
          · exact List.mem_append.2 (.inl (h3 x e))
          · rw [List.mem_singleton.1 e]; exact List.mem_append.2 (.inr (by simp))
    · split at h
      · split at h
        · cases h
          exact ⟨h1, h2, fun x hx => List.mem_append.2 (.inl (h3 x hx))⟩
        · cases h
      · next k hp =>
        split at h
        · next hlen =>
          cases h
          refine ⟨?_, fun x hx => h2 x (mem_cut hx), fun x hx => h3 x (mem_cut hx)⟩
          have h4 := (pairsOk_iff s.1).1 h1
          show pairsOk (nextM s r k) = true
          unfold nextM at hlen ⊢
          split
          · next h5 =>
            rw [if_pos h5] at hlen
            exact (pairsOk_iff _).2 ⟨apply_fine h4.1.1 h4.1.2 (opsAt_ok (fun x hx => ⟨(h2 x hx).2.2, (h2 x hx).2.1⟩) k), hlen⟩
          · exact h1
        · cases h
  · cases h
theorem replay_fine {l l' : List Rc} {s t : St} (hs : Fine l s) (hr : ∀ r ∈ l', r ∈ l) (h : replayGo s l' = some t) : Fine l t := by
  induction l' generalizing s with
  | nil => cases h; exact hs
  | cons r l' ih =>
    rw [replayGo] at h
    cases ho : one s r with
    | none => rw [ho] at h; cases h
    | some u =>
      rw [ho] at h
      exact ih (one_fine hs (hr r List.mem_cons_self) ho) (fun x hx => hr x (List.mem_cons_of_mem _ hx)) h
theorem replay_ok {l : List Rc} {t : St} (h : replay l = some t) : Fine l t := by
  refine replay_fine (s := ([], [], [])) ?_ (fun r hr => hr) h
  exact ⟨rfl, fun r hr => absurd hr List.not_mem_nil, fun r hr => absurd hr List.not_mem_nil⟩
/-- how much records make -/
theorem one_sizes {s t : St} {r : Rc} (h : one s r = some t) : t.1.length ≤ max s.1.length 60 ∧ t.2.1.length ≤ s.2.1.length + 1 ∧ t.2.2.length ≤ s.2.2.length + 1 := by
  unfold one at h
  split at h
  · split at h
    · split at h
      · cases h
      · cases h; simp; omega
    · split at h
      · split at h
        · cases h; simp; omega
        · cases h
      · split at h
        · next hlen =>
          cases h
          refine ⟨Nat.le_trans hlen (Nat.le_max_right _ _), ?_, Nat.le_succ _⟩
          simp; omega
        · cases h
  · cases h
end Go.Proofs.YtggdgceglmbaiaaGreatDoor.recs
