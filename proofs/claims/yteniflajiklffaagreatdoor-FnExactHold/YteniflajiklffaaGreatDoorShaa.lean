/- Plain mathematics and small facts on worlds, used by the proofs of this seat: no program is named here. Rows that a call makes, appends and conversions: small facts on worlds; no function of the program is named here. Plain mathematics of pairs of texts. Plain mathematics of the laws on pairs. The laws' own helpers on slices of bytes: what each call does. Reading a number: the program's and the specification's GetNum answer as one and the same function. The specification's GetNum answers as the same function. Reading a text: the program's and the specification's GetText answer as one and the same function. The laws' own helpers on slices of strings: what each call does. Reading a list of texts: the program's and the specification's GetTexts answer as one and the same function. Writing a number: the program's and the specification's PutNum answer as one and the same function. Writing texts: the program's and the specification's PutText answer as one and the same function. Writing a list of texts: the program's and the specification's PutTexts answer as one and the same function. Plain mathematics: numbers and texts come back of their bytes. Plain mathematics of orders: what is told of them, their bytes, and that these come back. Rows of pairs of texts: small facts on worlds; no function of the program is named here. -/
import Derived.WalkKit
import Derived.WalkSpells
import Derived.WalkLawsBesides
import Derived.Lib.ConvBytes
import Derived.Test.YteniflajiklffaaGreatDoorRows
import Derived.Deep.QuietTactic
import Derived.BigQuiet
import Derived.Deep.RegionWith
import Derived.Laws.CopyOwn
import Derived.Laws.BytesArg
import Derived.Lib.AppendStr
import Derived.ArgAppend
import Derived.Deep.RegionLaw
import Derived.Sort.Walk0
import Derived.WideShapes
import Derived.OwnWalk
namespace Go.Proofs.YteniflajiklffaaGreatDoor.base
open Go.RowKit

/-! ### the hash -/
theorem wraps_i64 (n : Int) (h₀ : 0 ≤ n) (h₁ : n < 2 ^ 63) : IntKind.i64.wrap n = n := by rw [IntKind.wrap_i64]; omega
theorem ret_bool {a b : Bool} (h : a = b) : Ending.returned (.bool a) = .returned (.bool b) := by rw [h]
theorem ret_int {k : IntKind} {a b : Int} (h : a = b) : Ending.returned (.int k a) = .returned (.int k b) := by rw [h]


/-! ### worlds -/
theorem below_bytesWorld (w : World) (e : TypeId) (s : ByteArray) : Below w.heap.size w (Lib.bytesWorld w e s) :=
  ⟨rfl, rfl, rfl, by rw [Lib.bytesWorld_size]; omega, fun k hk => Lib.bytesWorld_at_old w e s k hk⟩

/-! ### slices of bytes that are read -/
def Sl (w : World) (a : Option Addr) (len : Nat) (bs : List UInt8) : Prop :=
  bs.length = len ∧ len ≤ maxLen ∧ (0 < len → ∃ b off, a = some ⟨b, off, none⟩ ∧ ∀ i (h : i < bs.length), w.cell? ⟨b, off + i, none⟩ = some (.int .u8 bs[i].toNat))
theorem Sl.lt {w : World} {b off len : Nat} {bs : List UInt8} (h : Sl w (some ⟨b, off, none⟩) len bs) (h0 : 0 < len) : b < w.heap.size := by
  obtain ⟨h1, _, h3⟩ := h
  obtain ⟨b', off', e, hc⟩ := h3 h0
  simp only [Option.some.injEq, Addr.mk.injEq, and_true] at e
  obtain ⟨rfl, rfl⟩ := e
  exact World.block_lt_of_cell? w _ (hc 0 (by omega))
theorem Sl.at {w : World} {b off len : Nat} {bs : List UInt8} (h : Sl w (some ⟨b, off, none⟩) len bs) (i : Nat) (hi : i < bs.length) : w.cell? ⟨b, off + i, none⟩ = some (.int .u8 bs[i].toNat) := by
  obtain ⟨h1, _, h3⟩ := h
  obtain ⟨b', off', e, hc⟩ := h3 (by omega)
  simp only [Option.some.injEq, Addr.mk.injEq, and_true] at e
  obtain ⟨rfl, rfl⟩ := e
  exact hc i hi
theorem Sl.below {w w' : World} {a : Option Addr} {len : Nat} {bs : List UInt8} (h : Sl w a len bs) (hb : Below w.heap.size w w') : Sl w' a len bs := by
  obtain ⟨h1, h2, h3⟩ := h
  refine ⟨h1, h2, fun h0 => ?_⟩
  obtain ⟨b, off, rfl, hc⟩ := h3 h0
  exact ⟨b, off, rfl, fun i hi => (hb.cell (p := ⟨b, off + i, none⟩) (World.block_lt_of_cell? w _ (hc i hi))).trans (hc i hi)⟩
theorem Sl.grown {w w' : World} {b off len : Nat} {bs : List UInt8} {row : Option Nat} (h : Sl w (some ⟨b, off, none⟩) len bs) (hg : w.grownBy w' row) (hne : some b ≠ row) : Sl w' (some ⟨b, off, none⟩) len bs := by
  have hat := h.at
  exact ⟨h.1, h.2.1, fun h0 => ⟨b, off, rfl, fun i hi => hg.cell (hat i hi) hne⟩⟩

/-! ### slices of bytes that the call itself made -/
def byteVals (bs : List UInt8) : List Value := bs.map fun u => .int .u8 u.toNat
def Own (w : World) (base g n cap : Nat) (bs : List UInt8) : Prop := bs.length = n ∧ w.ownsRow base 5 1 (.slice (some ⟨g, 0, none⟩) n cap) n (byteVals bs)
theorem Own.lt {w : World} {base g n cap : Nat} {bs : List UInt8} (h : Own w base g n cap bs) : base ≤ g ∧ g < w.heap.size := h.2.lt g rfl
theorem Own.max {w : World} {base g n cap : Nat} {bs : List UInt8} (h : Own w base g n cap bs) : n ≤ cap ∧ cap ≤ maxLen := by
  rcases h.2.2 with ⟨h', _⟩ | ⟨g', cap', cur, h', _, hg, h1, h2, _⟩
  · simp at h'
  · simp only [Value.slice.injEq, Option.some.injEq, Addr.mk.injEq, and_true, true_and] at h'
    obtain ⟨rfl, rfl⟩ := h'
    exact ⟨h1, h2⟩
theorem Own.mono {w : World} {base base' g n cap : Nat} {bs : List UInt8} (h : Own w base g n cap bs) (hb : base' ≤ base) : Own w base' g n cap bs := by
  refine ⟨h.1, h.2.1, ?_⟩
  rcases h.2.2 with h' | ⟨g', cap', cur, h', h0, r⟩
  · exact .inl h'
  · exact .inr ⟨g', cap', cur, h', by omega, r⟩
theorem Own.at {w : World} {base g n cap : Nat} {bs : List UInt8} (h : Own w base g n cap bs) (i : Nat) (hi : i < bs.length) : w.cell? ⟨g, i, none⟩ = some (.int .u8 bs[i].toNat) := by
  rw [h.2.cellAt i (by have := h.1; omega)]; simp [byteVals, hi]
theorem Own.frozen {w : World} {base g n cap : Nat} {bs : List UInt8} (h : Own w base g n cap bs) (i : Nat) : w.frozen? ⟨g, i, none⟩ = false := h.2.frozenAt i
theorem Own.sl {w : World} {base g n cap : Nat} {bs : List UInt8} (h : Own w base g n cap bs) : Sl w (some ⟨g, 0, none⟩) n bs :=
  ⟨h.1, by have := h.max; omega, fun _ => ⟨g, 0, rfl, fun i hi => by rw [Nat.zero_add]; exact h.at i hi⟩⟩
theorem Own.grown {w w' : World} {base g n cap : Nat} {bs : List UInt8} {row : Option Nat} (h : Own w base g n cap bs) (hg : w.grownBy w' row) (hne : some g ≠ row) : Own w' base g n cap bs :=
  ⟨h.1, h.2.kept hg (.inr hne)⟩
theorem Own.below {w w' : World} {base g n cap : Nat} {bs : List UInt8} (h : Own w base g n cap bs) (hb : Below w.heap.size w w') : Own w' base g n cap bs :=
  ⟨h.1, h.2.kept (row := none) ⟨hb.os, hb.tape, hb.output, hb.size, fun k hk _ => hb.block k hk⟩ (.inr (by simp [Value.ownBlock]))⟩
theorem below_grown {w w' : World} {B g : Nat} (hg : w.grownBy w' (some g)) (h : B ≤ g) (hB : B ≤ w.heap.size) : Below B w w' :=
  (Below.refl B w).grown hg hB (fun k e => by cases e; exact h)

/-! ### slices of strings -/
section
variable {w w' : World} {base base' g n cap : Nat} {ss : List ByteArray} {row : Option Nat}
end

end Go.Proofs.YteniflajiklffaaGreatDoor.base

namespace Go.Proofs.YteniflajiklffaaGreatDoor.base
open Go.RowKit
set_option linter.unusedVariables false
set_option linter.unusedSimpArgs false

theorem grownBy_trans {a b c : World} {row : Option Nat} (h : a.grownBy b row) (k : b.grownBy c row) : a.grownBy c row :=
  ⟨k.os.trans h.os, k.tape.trans h.tape, k.output.trans h.output, Nat.le_trans h.size k.size, fun i hi hr => (k.block i (Nat.lt_of_lt_of_le hi h.size) hr).trans (h.block i hi hr)⟩
theorem Hid.mk' {p : Prop} (h : p) : Hid p := h
theorem byte_of (n : Nat) : ((UInt8.ofNat n).toNat : Int) = (n : Int) % 256 := by simp [UInt8.toNat_ofNat']
theorem le_alloc {base : Nat} (w : World) (o : Obj) (h : base ≤ w.heap.size) : base ≤ (w.alloc o).heap.size := by simp; omega
def cut (bs : List UInt8) (p n : Nat) : ByteArray := ⟨((bs.drop p).take n).toArray⟩
theorem ret_str {a b : ByteArray} (h : a = b) : Ending.returned (.string a) = .returned (.string b) := by rw [h]
theorem conv_one (w : World) (x : Int) (u : UInt8) (hx : x = (u.toNat : Int)) (c : Nat) :
    (convert 22 9 (.slice (some ⟨w.heap.size, 0, none⟩) 1 c)).run Tryz.prog (w.alloc (.cells #[.int .u8 x] 5)) = .ok (.string ⟨#[u]⟩) (w.alloc (.cells #[.int .u8 x] 5)) := by
  rw [run_convert_bytes_arg (P := Tryz.prog) _ 22 5 Tryz.underlying22 Tryz.underlying5 w.heap.size 0 1 c [x] rfl ?_ 9 Tryz.underlying9]
  · subst hx; simp [strOfNums]
  · intro i hi
    have : i = 0 := by omega
    subst this
    simp
theorem grown_below {w w1 w2 : World} {g : Nat} (h : w.grownBy w1 (some g)) (hb : Below w1.heap.size w1 w2) : w.grownBy w2 (some g) :=
  ⟨hb.os.trans h.os, hb.tape.trans h.tape, hb.output.trans h.output, Nat.le_trans h.size hb.size, fun k hk hr => (hb.block k (Nat.lt_of_lt_of_le hk h.size)).trans (h.block k hk hr)⟩
theorem cell_cur {w : World} {gc : Nat} {cur : Array Value} {t : TypeId} {mk : Nat × Nat} (h : w.heap[gc]? = some (.cells cur t mk)) (j : Nat) (v : Value) (hj : cur[j]? = some v) : w.cell? ⟨gc, j, none⟩ = some v := by
  rw [cell_of_row w gc j cur t mk h]; exact hj
theorem set_cur {w : World} {gc : Nat} {cur : Array Value} {t : TypeId} (h : w.heap[gc]? = some (.cells cur t (0, 0))) (j : Nat) (v : Value) :
    (w.setCell ⟨gc, j, none⟩ v).heap[gc]? = some (.cells (cur.setIfInBounds j v) t (0, 0)) ∧ w.grownBy (w.setCell ⟨gc, j, none⟩ v) (some gc) :=
  ⟨heap_setCell_same w gc j cur t v h, ⟨rfl, rfl, rfl, by simp, fun k _ hk => heap_setCell_other w ⟨gc, j, none⟩ k v (fun e => hk (by simp [e]))⟩⟩
theorem own_made (w : World) (base : Nat) (hb : base ≤ w.heap.size) : Own (w.alloc (.cells #[] 5)) base w.heap.size 0 0 [] :=
  ⟨rfl, World.ownsRow_made w #[] 0 hb (Nat.zero_le _) rfl⟩
def Wr (w : World) (g n : Nat) (bs : List UInt8) : Prop :=
  bs.length = n ∧ n ≤ maxLen ∧ g < w.heap.size ∧ ∀ i (h : i < bs.length), w.cell? ⟨g, i, none⟩ = some (.int .u8 bs[i].toNat) ∧ w.frozen? ⟨g, i, none⟩ = false
theorem Wr.sl {w : World} {g n : Nat} {bs : List UInt8} (h : Wr w g n bs) : Sl w (some ⟨g, 0, none⟩) n bs :=
  ⟨h.1, h.2.1, fun _ => ⟨g, 0, rfl, fun i hi => by rw [Nat.zero_add]; exact (h.2.2.2 i hi).1⟩⟩
theorem Wr.below {w w' : World} {g n : Nat} {bs : List UInt8} (h : Wr w g n bs) (hb : Below w.heap.size w w') : Wr w' g n bs :=
  ⟨h.1, h.2.1, Nat.lt_of_lt_of_le h.2.2.1 hb.size, fun i hi => ⟨(hb.cell (p := ⟨g, i, none⟩) h.2.2.1).trans (h.2.2.2 i hi).1, (hb.frozen (p := ⟨g, i, none⟩) h.2.2.1).trans (h.2.2.2 i hi).2⟩⟩
theorem Own.wr {w : World} {base g n cap : Nat} {bs : List UInt8} (h : Own w base g n cap bs) : Wr w g n bs :=
  ⟨h.1, by have := h.max; omega, h.lt.2, fun i hi => ⟨h.at i hi, h.frozen i⟩⟩
theorem step_append_own {P : Program} {ops : Array Oper} {o : Oper} {a : Act} {w : World} {K : Act → World → Prop} {Q : Exit → Act → World → Prop} {E : Prop} (hgd : o.guard = none) (s x : Operand) (t : TypeId)
    (ho : o.op = .call { callee := .builtin .append, args := #[s, x], argTypes := #[t, t] })
    (base : Nat) (e : TypeId) (i : TypeInfo) (z : Value) (size bytes : Nat) (ht : P.underlying t = some (.slice e)) (hi : P.info? e = some i) (hz : i.zero = some z)
    (hsize : i.size = size) (hby : i.bytes = bytes) (hzs : z.cells.size = size) (hsz : 0 < size)
    (v : Value) (n : Nat) (xs : List Value) (hs : a.eval s = v) (hown : w.ownsRow base e size v n xs)
    (ad : Addr) (m c : Nat) (news : List Value) (hx : a.eval x = .slice (some ad) m c) (hl : news.length = m * size) (hnews : ∀ j u, news[j]? = some u → w.cell? (ad.add j) = some u) (h1 : ∀ u ∈ news, u.oneCell' = true)
    (h63 : n + m ≤ maxLen) (hbytes : (n + m) * bytes ≤ 140737488355328) (hbase : base ≤ w.heap.size)
    (h : ∀ v' w', w'.ownsRow base e size v' (n + m) (xs ++ news) → w.grownBy w' v.ownBlock → (v' = .slice none 0 0 ↔ v = .slice none 0 0 ∧ m = 0) → K (a.put o.dst v') w') :
    if Region.wanted o (yielded ops a.tmps) = true then Oper.wp P o a w K Q else E := by
  have hw : Region.wanted o (yielded ops a.tmps) = true := by simp [Region.wanted, hgd]
  rw [if_pos hw]
  exact wp_append_own w s x t ho base e i z size bytes ht hi hz hsize hby hzs hsz v n xs hs hown ad m c news hx hl hnews h1 h63 hbytes hbase h
theorem cells_two (w : World) (x y : Value) (t : TypeId) : ∀ j u, [x, y][j]? = some u → (w.alloc (.cells #[x, y] t)).cell? ((⟨w.heap.size, 0, none⟩ : Addr).add j) = some u := by
  intro j u hj
  match j, hj with
  | 0, hj => simp at hj; subst hj; simp [Addr.add]
  | 1, hj => simp at hj; subst hj; simp [Addr.add]
end Go.Proofs.YteniflajiklffaaGreatDoor.base

namespace Go.Proofs.YteniflajiklffaaGreatDoor.pairs
open Go
set_option linter.unusedVariables false

abbrev Pr := ByteArray × ByteArray
theorem bytes_ext {a b : ByteArray} (h : a.data.toList = b.data.toList) : a = b := WideShapes.bytes_inj h

/-! ### the order of texts -/
def ltB (a b : ByteArray) : Bool := Op.bytesLess a.toList b.toList
theorem ltB_iff (a b : ByteArray) : ltB a b = true ↔ a.data.toList < b.data.toList := by
  unfold ltB; rw [Proofs.bytesLess_eq, ByteArray.toList_eq, ByteArray.toList_eq]; simp
theorem ltB_irrefl (a : ByteArray) : ltB a a = false := by
  rw [Bool.eq_false_iff]; intro h; exact List.lt_irrefl _ ((ltB_iff a a).1 h)
theorem ltB_trans {a b c : ByteArray} (h : ltB a b = true) (k : ltB b c = true) : ltB a c = true :=
  (ltB_iff a c).2 (List.lt_trans ((ltB_iff a b).1 h) ((ltB_iff b c).1 k))
theorem ltB_asymm {a b : ByteArray} (h : ltB a b = true) : ltB b a = false := by
  rw [Bool.eq_false_iff]; intro k; have := ltB_trans h k; rw [ltB_irrefl] at this; cases this
theorem ltB_total {a b : ByteArray} (h : ltB a b = false) (k : ltB b a = false) : a = b := by
  apply bytes_ext
  have h' : ¬ a.data.toList < b.data.toList := fun e => by rw [(ltB_iff a b).2 e] at h; cases h
  have k' : ¬ b.data.toList < a.data.toList := fun e => by rw [(ltB_iff b a).2 e] at k; cases k
  exact List.le_antisymm (List.not_lt.1 k') (List.not_lt.1 h')
/-! ### the functions -/
def keyCh (c : Nat) : Bool := decide (97 ≤ c ∧ c ≤ 122) || decide (48 ≤ c ∧ c ≤ 57)
def keyAll (l : List UInt8) : Bool := l.all fun c => keyCh c.toNat
def keyOk (s : ByteArray) : Bool := keyAll s.data.toList && decide (1 ≤ s.size ∧ s.size ≤ 12)
def pairOk (p : Pr) : Bool := keyOk p.1 && decide (p.2.size ≤ 20)
def okFrom : Option ByteArray → List Pr → Bool
  | _, [] => true
  | none, p :: l => pairOk p && okFrom (some p.1) l
  | some k, p :: l => pairOk p && ltB k p.1 && okFrom (some p.1) l
def pairsOk (l : List Pr) : Bool := okFrom none l && decide (l.length ≤ 60)
def getKey (key : ByteArray) : List Pr → Option ByteArray
  | [] => none
  | p :: l => if p.1 = key then some p.2 else getKey key l
def setFirst (key val : ByteArray) : List Pr → List Pr
  | [] => []
  | p :: l => if p.1 = key then (p.1, val) :: l else p :: setFirst key val l
def below (key : ByteArray) : List Pr → Nat
  | [] => 0
  | p :: l => if ltB key p.1 = true then 0 else below key l + 1
def putKey (key val : ByteArray) (l : List Pr) : List Pr :=
  if (getKey key l).isSome then setFirst key val l else l.take (below key l) ++ (key, val) :: l.drop (below key l)
def delKey (key : ByteArray) (l : List Pr) : List Pr := l.filter fun p => decide (p.1 ≠ key)
/-! ### first facts -/
theorem setFirst_length (key val : ByteArray) (l : List Pr) : (setFirst key val l).length = l.length := by
  induction l with
  | nil => rfl
  | cons p l ih => unfold setFirst; split <;> simp [ih]
theorem below_le (key : ByteArray) (l : List Pr) : below key l ≤ l.length := by
  induction l with
  | nil => exact Nat.le_refl _
  | cons p l ih => unfold below; split <;> simp; omega
theorem putKey_length (key val : ByteArray) (l : List Pr) : (putKey key val l).length ≤ l.length + 1 ∧ l.length ≤ (putKey key val l).length := by
  have := below_le key l
  unfold putKey
  split
  · rw [setFirst_length]; omega
  · simp; omega
theorem getKey_drop (key : ByteArray) (l : List Pr) (k : Nat) (h : k < l.length) : getKey key (l.drop k) = if l[k].1 = key then some l[k].2 else getKey key (l.drop (k + 1)) := by
  rw [List.drop_eq_getElem_cons h, getKey]
theorem below_drop (key : ByteArray) (l : List Pr) (k : Nat) (h : k < l.length) : below key (l.drop k) = if ltB key l[k].1 = true then 0 else below key (l.drop (k + 1)) + 1 := by
  rw [List.drop_eq_getElem_cons h, below]
theorem setFirst_at (key val : ByteArray) (l : List Pr) (k : Nat) (h : k < l.length) (he : l[k].1 = key) (hn : getKey key (l.take k) = none) : setFirst key val l = l.set k (key, val) := by
  induction l generalizing k with
  | nil => simp at h
  | cons p l ih =>
    cases k with
    | zero => simp at he; unfold setFirst; rw [if_pos he, he]; rfl
    | succ k =>
      rw [List.take_succ_cons, getKey] at hn
      by_cases hp : p.1 = key
      · rw [if_pos hp] at hn; cases hn
      · rw [if_neg hp] at hn
        unfold setFirst
        rw [if_neg hp, List.set_cons_succ, ih k (by simpa using h) (by simpa using he) hn]
theorem getKey_snoc_none (key : ByteArray) (l : List Pr) (p : Pr) (h : getKey key l = none) (hp : p.1 ≠ key) : getKey key (l ++ [p]) = none := by
  induction l with
  | nil => simp [getKey, hp]
  | cons q l ih =>
    rw [getKey] at h
    by_cases hq : q.1 = key
    · rw [if_pos hq] at h; cases h
    · rw [if_neg hq] at h
      rw [List.cons_append, getKey, if_neg hq]
      exact ih h
theorem getKey_append (key : ByteArray) (a b : List Pr) : getKey key (a ++ b) = (getKey key a).or (getKey key b) := by
  induction a with
  | nil => rfl
  | cons q l ih =>
    rw [List.cons_append, getKey, getKey]
    by_cases hq : q.1 = key
    · rw [if_pos hq, if_pos hq]; rfl
    · rw [if_neg hq, if_neg hq, ih]
end Go.Proofs.YteniflajiklffaaGreatDoor.pairs

namespace Go.Proofs.YteniflajiklffaaGreatDoor.pairs
open Go
set_option linter.unusedVariables false
set_option linter.unusedSimpArgs false

/-! ### rising lists -/
def Rise (l : List Pr) : Prop := l.Pairwise fun p q => ltB p.1 q.1 = true
theorem okFrom_iff (o : Option ByteArray) (l : List Pr) : okFrom o l = true ↔ (∀ p ∈ l, pairOk p = true) ∧ Rise l ∧ ∀ k, o = some k → ∀ p ∈ l, ltB k p.1 = true := by
  induction l generalizing o with
  | nil => cases o <;> simp [okFrom, Rise]
  | cons q l ih =>
    have hq := ih (some q.1)
    constructor
    · intro h
      have h' : pairOk q = true ∧ (∀ k, o = some k → ltB k q.1 = true) ∧ okFrom (some q.1) l = true := by
        cases o with
        | none => simp only [okFrom, Bool.and_eq_true] at h; exact ⟨h.1, (fun k e => by cases e), h.2⟩
        | some k => simp only [okFrom, Bool.and_eq_true] at h; exact ⟨h.1.1, (fun k' e => by cases e; exact h.1.2), h.2⟩
      obtain ⟨h1, h2, h3⟩ := h'
      obtain ⟨a1, a2, a3⟩ := hq.1 h3
      refine ⟨?_, ?_, ?_⟩
      · intro p hp
        rcases List.mem_cons.1 hp with e | e
        · subst e; exact h1
        · exact a1 p e
      · exact List.Pairwise.cons (fun p hp => a3 _ rfl p hp) a2
      · intro k hk p hp
        rcases List.mem_cons.1 hp with e | e
        · subst e; exact h2 k hk
        · exact ltB_trans (h2 k hk) (a3 _ rfl p e)
    · rintro ⟨h1, h2, h3⟩
      have hr := List.pairwise_cons.1 h2
      have h4 : okFrom (some q.1) l = true := hq.2 ⟨fun p hp => h1 p (List.mem_cons_of_mem _ hp), hr.2, fun k e p hp => by cases e; exact hr.1 p hp⟩
      cases o with
      | none => simp only [okFrom, Bool.and_eq_true]; exact ⟨h1 q List.mem_cons_self, h4⟩
      | some k => simp only [okFrom, Bool.and_eq_true]; exact ⟨⟨h1 q List.mem_cons_self, h3 k rfl q List.mem_cons_self⟩, h4⟩
theorem pairsOk_iff (l : List Pr) : pairsOk l = true ↔ ((∀ p ∈ l, pairOk p = true) ∧ Rise l) ∧ l.length ≤ 60 := by
  unfold pairsOk
  rw [Bool.and_eq_true, okFrom_iff, decide_eq_true_iff]
  constructor
  · rintro ⟨⟨a, b, _⟩, c⟩; exact ⟨⟨a, b⟩, c⟩
  · rintro ⟨⟨a, b⟩, c⟩; exact ⟨⟨a, b, fun k e => by cases e⟩, c⟩

/-! ### what is got -/
theorem getKey_none_iff {key : ByteArray} {l : List Pr} : getKey key l = none ↔ ∀ p ∈ l, p.1 ≠ key := by
  induction l with
  | nil => simp [getKey]
  | cons p l ih =>
    rw [getKey]
    by_cases hp : p.1 = key
    · rw [if_pos hp]
      exact ⟨fun h => (by cases h), fun h => absurd hp (h p List.mem_cons_self)⟩
    · rw [if_neg hp, ih]; simp [hp]
/-! ### pairs that stay right -/
theorem setFirst_keys (key val : ByteArray) (l : List Pr) : (setFirst key val l).map (·.1) = l.map (·.1) := by
  induction l with
  | nil => rfl
  | cons p l ih => unfold setFirst; split <;> simp [ih]
theorem rise_keys {l m : List Pr} (h : l.map (·.1) = m.map (·.1)) (hl : Rise l) : Rise m := by
  have e : ∀ l : List Pr, Rise l ↔ (l.map (·.1)).Pairwise fun a b => ltB a b = true := fun l => by unfold Rise; rw [List.pairwise_map]
  rw [e] at *; rw [← h]; exact hl
theorem setFirst_mem {key val : ByteArray} {l : List Pr} {p : Pr} (h : p ∈ setFirst key val l) : p ∈ l ∨ p = (key, val) := by
  induction l with
  | nil => exact absurd h List.not_mem_nil
  | cons q l ih =>
    unfold setFirst at h
    split at h
    · rename_i hq
      rcases List.mem_cons.1 h with e | e
      · right; rw [e, hq]
      · left; exact List.mem_cons_of_mem _ e
    · rcases List.mem_cons.1 h with e | e
      · left; rw [e]; exact List.mem_cons_self
      · rcases ih e with h1 | h1
        · left; exact List.mem_cons_of_mem _ h1
        · right; exact h1
theorem putKey_mem {key val : ByteArray} {l : List Pr} {p : Pr} (h : p ∈ putKey key val l) : p ∈ l ∨ p = (key, val) := by
  unfold putKey at h
  split at h
  · exact setFirst_mem h
  · rcases List.mem_append.1 h with h1 | h1
    · left; exact List.mem_of_mem_take h1
    · rcases List.mem_cons.1 h1 with h2 | h2
      · right; exact h2
      · left; exact List.mem_of_mem_drop h2
theorem below_take {key : ByteArray} {l : List Pr} : ∀ p ∈ l.take (below key l), ltB key p.1 = false := by
  induction l with
  | nil => intro p hp; exact absurd hp (by simp)
  | cons q l ih =>
    intro p hp
    unfold below at hp
    split at hp
    · exact absurd hp (by simp)
    · rename_i hq
      rw [List.take_succ_cons] at hp
      rcases List.mem_cons.1 hp with e | e
      · subst e; simpa using hq
      · exact ih p e
theorem below_dropR {key : ByteArray} {l : List Pr} (hr : Rise l) : ∀ p ∈ l.drop (below key l), ltB key p.1 = true := by
  induction l with
  | nil => intro p hp; exact absurd hp (by simp)
  | cons q l ih =>
    have hr' := List.pairwise_cons.1 hr
    intro p hp
    unfold below at hp
    split at hp
    · rename_i hq
      rw [List.drop_zero] at hp
      rcases List.mem_cons.1 hp with e | e
      · subst e; exact hq
      · exact ltB_trans hq (hr'.1 p e)
    · rw [List.drop_succ_cons] at hp; exact ih hr'.2 p hp
theorem rise_put {key val : ByteArray} {l : List Pr} (h : Rise l) : Rise (putKey key val l) := by
  unfold putKey
  split
  · exact rise_keys (setFirst_keys key val l).symm h
  · rename_i hn
    have hn' : getKey key l = none := by cases e : getKey key l with | none => rfl | some v => rw [e] at hn; exact absurd rfl hn
    have hne := getKey_none_iff.1 hn'
    have hsplit : Rise (l.take (below key l) ++ l.drop (below key l)) := by rw [List.take_append_drop]; exact h
    have hp := List.pairwise_append.1 hsplit
    refine List.pairwise_append.2 ⟨hp.1, List.Pairwise.cons (fun p hp' => below_dropR h p hp') hp.2.1, ?_⟩
    intro p hp1 q hq
    have hpk : ltB p.1 key = true := by
      have h1 := below_take p hp1
      cases h2 : ltB p.1 key
      · exact absurd (ltB_total h2 h1) (hne p (List.mem_of_mem_take hp1))
      · rfl
    rcases List.mem_cons.1 hq with e | e
    · subst e; exact hpk
    · exact hp.2.2 p hp1 q e
/-! ### between -/
/-! ### union -/
end Go.Proofs.YteniflajiklffaaGreatDoor.pairs

namespace Go.Proofs.YteniflajiklffaaGreatDoor.help
open Go.RowKit Go.Proofs.YteniflajiklffaaGreatDoor.base
set_option linter.unusedVariables false
set_option linter.unusedSimpArgs false

def marks (k0 n : Nat) : List UInt8 := (List.range n).map (fun j => UInt8.ofNat (k0 + j))
end Go.Proofs.YteniflajiklffaaGreatDoor.help

namespace Go.Proofs.YteniflajiklffaaGreatDoor.getnum
open Go.RowKit Go.Proofs.YteniflajiklffaaGreatDoor.base Go.Proofs.YteniflajiklffaaGreatDoor.help
set_option linter.unusedVariables false
set_option linter.unusedSimpArgs false

end Go.Proofs.YteniflajiklffaaGreatDoor.getnum

namespace Go.Proofs.YteniflajiklffaaGreatDoor.getnum
open Go.RowKit Go.Proofs.YteniflajiklffaaGreatDoor.base Go.Proofs.YteniflajiklffaaGreatDoor.help
set_option linter.unusedVariables false
set_option linter.unusedSimpArgs false

end Go.Proofs.YteniflajiklffaaGreatDoor.getnum

namespace Go.Proofs.YteniflajiklffaaGreatDoor.gettext
open Go.RowKit Go.Proofs.YteniflajiklffaaGreatDoor.base Go.Proofs.YteniflajiklffaaGreatDoor.help Go.Proofs.YteniflajiklffaaGreatDoor.getnum
set_option linter.unusedVariables false
set_option linter.unusedSimpArgs false

end Go.Proofs.YteniflajiklffaaGreatDoor.gettext

namespace Go.Proofs.YteniflajiklffaaGreatDoor.helps
open Go.RowKit Go.Proofs.YteniflajiklffaaGreatDoor.base Go.Proofs.YteniflajiklffaaGreatDoor.help
set_option linter.unusedVariables false
set_option linter.unusedSimpArgs false

def dch (k : Nat) : UInt8 := UInt8.ofNat (48 + k % 10)
theorem dch_val (k : Nat) : 48 + (k : Int) % 10 = ((dch k).toNat : Int) := by unfold dch; rw [byte_of]; omega
theorem ba_cons (c : UInt8) (l : List UInt8) : (⟨#[c]⟩ : ByteArray) ++ ⟨l.toArray⟩ = ⟨(c :: l).toArray⟩ := by
  apply WideShapes.bytes_inj
  rw [ByteArray.data_append]
  simp
def dig : Nat → Nat → List UInt8
  | 0, _ => []
  | f + 1, k => if k = 0 then [] else dig f (k / 10) ++ [dch k]
def markBytes (k : Nat) : ByteArray := ⟨(109 :: dig 20 k).toArray⟩
theorem dig_zero (f : Nat) : dig f 0 = [] := by cases f <;> simp [dig]
theorem dig_length (f k : Nat) : (dig f k).length ≤ f := by
  induction f generalizing k with
  | zero => simp [dig]
  | succ f ih =>
    rw [dig]
    split
    · simp
    · have := ih (k / 10); simp; omega
theorem markBytes_size (k : Nat) : (markBytes k).size ≤ 21 := by
  have := dig_length 20 k
  show (109 :: dig 20 k).toArray.size ≤ 21
  simp; omega
set_option maxHeartbeats 400000 in
theorem markText (k0 : Nat) (w : World) (hk : 1 ≤ k0) (hk2 : k0 ≤ 1099511627776) :
    Calls Tryz.prog 63 #[.int .i64 (k0 : Int)] w fun e w' => e = .returned (.string (markBytes k0)) ∧ Below w.heap.size w w' := by
  have hne : ¬ k0 = 0 := by omega
  go_enter Tryz.func63, Tryz.ntmps63
  go_wp2
  go_loopw [0, 3] (fun kv out wr => ∃ (f m : Nat) (acc : List UInt8), kv = .int .i64 (m : Int) ∧ m ≤ 1099511627776 ∧ m < 10 ^ f ∧ out = .string ⟨acc.toArray⟩ ∧ dig f m ++ acc = dig 20 k0 ∧ acc.length + f = 20 ∧ Below w.heap.size w wr) (fun kv _ _ => (intOf kv).toNat)
  case atStart => exact ⟨20, k0, [], rfl, hk2, by omega, rfl, by simp, rfl, Below.refl _ _⟩
  case round =>
    obtain ⟨f, m, acc, rfl, hm, hmf, rfl, hd, hf, hB⟩ := hrel
    have HD := Hid.mk' hd
    have HM := Hid.mk' hmf
    have HF := Hid.mk' hf
    have hal : acc.length ≤ 20 := by omega
    clear hd hmf hf
    by_cases hp : 0 < m
    · obtain ⟨f', rfl⟩ : ∃ f', f = f' + 1 := by
        cases f with
        | zero => exact absurd HM.out (by omega)
        | succ f' => exact ⟨f', rfl⟩
      have hcv := fun c => conv_one wr (48 + (m : Int) % 10) (dch m) (dch_val m) c
      go_wp2
      go_roundw
      case rel =>
        refine ⟨f', m / 10, dch m :: acc, by go_num, by omega, ?_, by rw [ba_cons], ?_, ?_, hB.alloc hB.size _⟩
        · have := HM.out; rw [Nat.pow_succ] at this; exact Nat.div_lt_of_lt_mul (by omega)
        · have := HD.out; rw [dig, if_neg (by omega)] at this; simpa using this
        · have := HF.out; simp; omega
      case measure => simp [intOf]; omega
    · have hm0 : m = 0 := by omega
      have HR : Hid (acc = dig 20 k0) := by
        have := HD.out; rw [hm0, dig_zero, List.nil_append] at this; exact this
      clear hm0
      go_wp2
      go_ret
      refine ⟨?_, hB⟩
      unfold markBytes
      rw [← HR.out]
      exact ret_str (by apply WideShapes.bytes_inj; simp [ByteArray.data_append])

theorem markTextI (n : Int) (k0 : Nat) (w : World) (hn : Hid (n = (k0 : Int))) (hk : 1 ≤ k0) (hk2 : k0 ≤ 1099511627776) :
    Calls Tryz.prog 63 #[.int .i64 n] w fun e w' => e = .returned (.string (markBytes k0)) ∧ Below w.heap.size w w' := by
  have e := hn.out
  subst e
  exact markText k0 w hk hk2
theorem mark_max (k : Nat) : (markBytes k).size ≤ maxLen := Nat.le_trans (markBytes_size k) (by decide)

end Go.Proofs.YteniflajiklffaaGreatDoor.helps

namespace Go.Proofs.YteniflajiklffaaGreatDoor.gettexts
open Go.RowKit Go.Proofs.YteniflajiklffaaGreatDoor.base Go.Proofs.YteniflajiklffaaGreatDoor.help Go.Proofs.YteniflajiklffaaGreatDoor.helps Go.Proofs.YteniflajiklffaaGreatDoor.getnum Go.Proofs.YteniflajiklffaaGreatDoor.gettext
set_option linter.unusedVariables false
set_option linter.unusedSimpArgs false

end Go.Proofs.YteniflajiklffaaGreatDoor.gettexts

namespace Go.Proofs.YteniflajiklffaaGreatDoor.putnum
open Go.RowKit Go.Proofs.YteniflajiklffaaGreatDoor.base Go.Proofs.YteniflajiklffaaGreatDoor.help
set_option linter.unusedVariables false
set_option linter.unusedSimpArgs false

end Go.Proofs.YteniflajiklffaaGreatDoor.putnum

namespace Go.Proofs.YteniflajiklffaaGreatDoor.puttext
open Go.RowKit Go.Proofs.YteniflajiklffaaGreatDoor.base Go.Proofs.YteniflajiklffaaGreatDoor.help Go.Proofs.YteniflajiklffaaGreatDoor.putnum
set_option linter.unusedVariables false
set_option linter.unusedSimpArgs false

end Go.Proofs.YteniflajiklffaaGreatDoor.puttext

namespace Go.Proofs.YteniflajiklffaaGreatDoor.puttexts
open Go.RowKit Go.Proofs.YteniflajiklffaaGreatDoor.base Go.Proofs.YteniflajiklffaaGreatDoor.help Go.Proofs.YteniflajiklffaaGreatDoor.helps Go.Proofs.YteniflajiklffaaGreatDoor.putnum Go.Proofs.YteniflajiklffaaGreatDoor.puttext
set_option linter.unusedVariables false
set_option linter.unusedSimpArgs false

def sum (ss : List ByteArray) : Nat := (ss.map ByteArray.size).sum
def szR (L t : Nat) : Int := if t ≤ L then (L : Int) - (t : Int) else -1
theorem szR_neg {L t : Nat} (h : L < t) : szR L t = -1 := by unfold szR; rw [if_neg (by omega)]
theorem szR_pos {L t : Nat} (h : t ≤ L) : szR L t = (L : Int) - (t : Int) := by unfold szR; rw [if_pos h]




end Go.Proofs.YteniflajiklffaaGreatDoor.puttexts

namespace Go.Proofs.YteniflajiklffaaGreatDoor.nummath
open Go.RowKit Go.Proofs.YteniflajiklffaaGreatDoor.base Go.Proofs.YteniflajiklffaaGreatDoor.help Go.Proofs.YteniflajiklffaaGreatDoor.getnum Go.Proofs.YteniflajiklffaaGreatDoor.putnum Go.Proofs.YteniflajiklffaaGreatDoor.gettext Go.Proofs.YteniflajiklffaaGreatDoor.puttext Go.Proofs.YteniflajiklffaaGreatDoor.gettexts Go.Proofs.YteniflajiklffaaGreatDoor.puttexts
set_option linter.unusedVariables false
set_option linter.unusedSimpArgs false

end Go.Proofs.YteniflajiklffaaGreatDoor.nummath

namespace Go.Proofs.YteniflajiklffaaGreatDoor.ords
open Go Go.RowKit Go.Proofs.YteniflajiklffaaGreatDoor.base Go.Proofs.YteniflajiklffaaGreatDoor.pairs Go.Proofs.YteniflajiklffaaGreatDoor.putnum Go.Proofs.YteniflajiklffaaGreatDoor.puttext Go.Proofs.YteniflajiklffaaGreatDoor.getnum Go.Proofs.YteniflajiklffaaGreatDoor.gettext Go.Proofs.YteniflajiklffaaGreatDoor.gettexts Go.Proofs.YteniflajiklffaaGreatDoor.nummath
set_option linter.unusedVariables false

abbrev Od := Int × ByteArray × ByteArray
def odOk (o : Od) : Bool := decide (1 ≤ o.1 ∧ o.1 ≤ 3) && (decide (o.1 ≠ 2) || decide (o.2.2.size = 0)) && keyOk o.2.1 && decide (o.2.2.size ≤ 20)
def opsFrom : Option ByteArray → List Od → Bool
  | _, [] => true
  | none, o :: l => odOk o && opsFrom (some o.2.1) l
  | some k, o :: l => odOk o && ltB k o.2.1 && opsFrom (some o.2.1) l
def opsOk (l : List Od) : Bool := opsFrom none l && decide (1 ≤ l.length ∧ l.length ≤ 8)
def meet1 (m : List Pr) (o : Od) : Bool := decide (o.1 ≠ 3) || match getKey o.2.1 m with | none => decide (o.2.2.size = 0) | some v => decide (o.2.2.size ≠ 0) && decide (v = o.2.2)
def meets (m : List Pr) (l : List Od) : Bool := l.all (meet1 m)
def apply1 (m : List Pr) (o : Od) : List Pr := if o.1 = 1 then putKey o.2.1 o.2.2 m else if o.1 = 2 then delKey o.2.1 m else m
def applyAll (m : List Pr) (l : List Od) : List Pr := l.foldl apply1 m
/-! ### orders that are right -/
def RiseO (l : List Od) : Prop := l.Pairwise fun p q => ltB p.2.1 q.2.1 = true
theorem opsFrom_iff (o : Option ByteArray) (l : List Od) : opsFrom o l = true ↔ (∀ p ∈ l, odOk p = true) ∧ RiseO l ∧ ∀ k, o = some k → ∀ p ∈ l, ltB k p.2.1 = true := by
  induction l generalizing o with
  | nil => simp [opsFrom, RiseO]
  | cons p l ih =>
    have hi := ih (some p.2.1)
    unfold RiseO at hi ⊢
    rw [List.pairwise_cons]
    cases o with
    | none =>
      simp only [opsFrom, Bool.and_eq_true, hi, List.mem_cons, forall_eq_or_imp]
      constructor
      · rintro ⟨h1, h2, h3, h4⟩
        exact ⟨⟨h1, h2⟩, ⟨h4 _ rfl, h3⟩, fun k e => by cases e⟩
      · rintro ⟨⟨h1, h2⟩, ⟨h3, h4⟩, _⟩
        exact ⟨h1, h2, h4, fun k e q hq => by cases e; exact h3 q hq⟩
    | some k0 =>
      simp only [opsFrom, Bool.and_eq_true, hi, List.mem_cons, forall_eq_or_imp]
      constructor
      · rintro ⟨⟨h1, h0⟩, h2, h3, h4⟩
        refine ⟨⟨h1, h2⟩, ⟨h4 _ rfl, h3⟩, fun k e => ?_⟩
        cases e
        exact ⟨h0, fun q hq => ltB_trans h0 (h4 _ rfl q hq)⟩
      · rintro ⟨⟨h1, h2⟩, ⟨h3, h4⟩, h5⟩
        exact ⟨⟨h1, (h5 k0 rfl).1⟩, h2, h4, fun k e q hq => by cases e; exact h3 q hq⟩
theorem opsOk_iff (l : List Od) : opsOk l = true ↔ ((∀ p ∈ l, odOk p = true) ∧ RiseO l) ∧ 1 ≤ l.length ∧ l.length ≤ 8 := by
  unfold opsOk
  rw [Bool.and_eq_true, opsFrom_iff, decide_eq_true_iff]
  constructor
  · rintro ⟨⟨h1, h2, _⟩, h3⟩; exact ⟨⟨h1, h2⟩, h3⟩
  · rintro ⟨⟨h1, h2⟩, h3⟩; exact ⟨⟨h1, h2, fun k e => by cases e⟩, h3⟩
theorem odOk_iff (o : Od) : odOk o = true ↔ (1 ≤ o.1 ∧ o.1 ≤ 3) ∧ (o.1 = 2 → o.2.2.size = 0) ∧ keyOk o.2.1 = true ∧ o.2.2.size ≤ 20 := by
  unfold odOk
  simp only [Bool.and_eq_true, Bool.or_eq_true, decide_eq_true_iff]
  constructor
  · rintro ⟨⟨⟨h1, h2⟩, h3⟩, h4⟩
    exact ⟨h1, fun e => by rcases h2 with h | h; exact absurd e h; exact h, h3, h4⟩
  · rintro ⟨h1, h2, h3, h4⟩
    exact ⟨⟨⟨h1, by by_cases e : o.1 = 2; exact .inr (h2 e); exact .inl e⟩, h3⟩, h4⟩
theorem keyOk_size {s : ByteArray} (h : keyOk s = true) : 1 ≤ s.size ∧ s.size ≤ 12 := by
  unfold keyOk at h
  simp at h
  exact h.2

/-! ### bytes of numbers and texts, read -/
/-! ### orders come back of their bytes -/
/-! ### behind orders -/
theorem apply_cons (m : List Pr) (o : Od) (l : List Od) : applyAll m (o :: l) = applyAll (apply1 m o) l := rfl
theorem apply_take (m : List Pr) (l : List Od) (k : Nat) (h : k < l.length) : applyAll m (l.take (k + 1)) = apply1 (applyAll m (l.take k)) l[k] := by
  unfold applyAll
  rw [List.take_succ_eq_append_getElem h, List.foldl_append]
  rfl
/-! ### shards -/
end Go.Proofs.YteniflajiklffaaGreatDoor.ords

namespace Go.Proofs.YteniflajiklffaaGreatDoor.pairs
open Go Go.RowKit Go.Proofs.YteniflajiklffaaGreatDoor.base
set_option linter.unusedVariables false
set_option linter.unusedSimpArgs false

def small (p : Pr) : Prop := p.1.size ≤ maxLen ∧ p.2.size ≤ maxLen
def pairVals (l : List Pr) : List Value := l.flatMap fun p => [.string p.1, .string p.2]
theorem pairVals_cons (p : Pr) (l : List Pr) : pairVals (p :: l) = .string p.1 :: .string p.2 :: pairVals l := rfl
theorem pairVals_append (a b : List Pr) : pairVals (a ++ b) = pairVals a ++ pairVals b := by simp [pairVals]
theorem pairVals_length (l : List Pr) : (pairVals l).length = l.length * 2 := by
  induction l with
  | nil => rfl
  | cons p l ih => rw [pairVals_cons]; simp [ih]; omega
theorem pairVals_key (l : List Pr) (i : Nat) (h : i < l.length) : (pairVals l)[i * 2]? = some (.string l[i].1) := by
  induction l generalizing i with
  | nil => simp at h
  | cons p l ih =>
    cases i with
    | zero => rfl
    | succ i => rw [pairVals_cons, show (i + 1) * 2 = i * 2 + 1 + 1 by omega]; simpa using ih i (by simpa using h)
theorem pairVals_val (l : List Pr) (i : Nat) (h : i < l.length) : (pairVals l)[i * 2 + 1]? = some (.string l[i].2) := by
  induction l generalizing i with
  | nil => simp at h
  | cons p l ih =>
    cases i with
    | zero => rfl
    | succ i => rw [pairVals_cons, show (i + 1) * 2 + 1 = i * 2 + 1 + 1 + 1 by omega]; simpa using ih i (by simpa using h)
theorem pairVals_oneCell (l : List Pr) : ∀ v ∈ pairVals l, v.oneCell' = true := by
  intro v hv
  obtain ⟨p, _, hp⟩ := List.mem_flatMap.1 hv
  simp at hp
  rcases hp with rfl | rfl <;> rfl
theorem pairVals_setKey (l : List Pr) (i : Nat) (h : i < l.length) (k : ByteArray) : (pairVals l).set (i * 2) (.string k) = pairVals (l.set i (k, l[i].2)) := by
  induction l generalizing i with
  | nil => simp at h
  | cons p l ih =>
    cases i with
    | zero => rfl
    | succ i => rw [pairVals_cons, show (i + 1) * 2 = i * 2 + 1 + 1 by omega]; simp only [List.set_cons_succ, pairVals_cons, List.getElem_cons_succ]; rw [ih i (by simpa using h)]
theorem pairVals_setVal (l : List Pr) (i : Nat) (h : i < l.length) (v : ByteArray) : (pairVals l).set (i * 2 + 1) (.string v) = pairVals (l.set i (l[i].1, v)) := by
  induction l generalizing i with
  | nil => simp at h
  | cons p l ih =>
    cases i with
    | zero => rfl
    | succ i => rw [pairVals_cons, show (i + 1) * 2 + 1 = i * 2 + 1 + 1 + 1 by omega]; simp only [List.set_cons_succ, pairVals_cons, List.getElem_cons_succ]; rw [ih i (by simpa using h)]

/-! ### slices of pairs that are read -/
def CellsP (w : World) (b off : Nat) (l : List Pr) : Prop := ∀ i (h : i < l.length), w.cell? ⟨b, off + i * 2, none⟩ = some (.string l[i].1) ∧ w.cell? ⟨b, off + i * 2 + 1, none⟩ = some (.string l[i].2)
def SlP (w : World) (a : Option Addr) (len : Nat) (l : List Pr) : Prop :=
  l.length = len ∧ len ≤ maxLen ∧ (∀ p ∈ l, small p) ∧ (0 < len → ∃ b off, a = some ⟨b, off, none⟩ ∧ CellsP w b off l)
theorem slp_nil (w : World) (a : Option Addr) : SlP w a 0 [] := ⟨rfl, Nat.zero_le _, (fun _ h => absurd h List.not_mem_nil), fun h => absurd h (by omega)⟩
section
variable {w w' : World} {a : Option Addr} {b off len base base' g n cap : Nat} {l : List Pr} {row : Option Nat}
theorem SlP.cells (h : SlP w (some ⟨b, off, none⟩) len l) : CellsP w b off l := by
  intro i hi
  obtain ⟨b', off', e, hc⟩ := h.2.2.2 (by have := h.1; omega)
  simp only [Option.some.injEq, Addr.mk.injEq, and_true] at e
  obtain ⟨rfl, rfl⟩ := e
  exact hc i hi
theorem SlP.lt (h : SlP w (some ⟨b, off, none⟩) len l) (h0 : 0 < len) : b < w.heap.size :=
  World.block_lt_of_cell? w _ (h.cells 0 (by have := h.1; omega)).1
theorem CellsP.keep (h : CellsP w b off l) (hk : ∀ o v, w.cell? ⟨b, o, none⟩ = some v → w'.cell? ⟨b, o, none⟩ = some v) : CellsP w' b off l :=
  fun i hi => ⟨hk _ _ (h i hi).1, hk _ _ (h i hi).2⟩
theorem SlP.below (h : SlP w a len l) (hb : Below w.heap.size w w') : SlP w' a len l := by
  obtain ⟨h1, h2, h4, h3⟩ := h
  refine ⟨h1, h2, h4, fun h0 => ?_⟩
  obtain ⟨b, off, rfl, hc⟩ := h3 h0
  exact ⟨b, off, rfl, hc.keep fun o v hv => (hb.cell (p := ⟨b, o, none⟩) (World.block_lt_of_cell? w _ hv)).trans hv⟩
theorem SlP.grown (h : SlP w (some ⟨b, off, none⟩) len l) (hg : w.grownBy w' row) (hne : some b ≠ row) : SlP w' (some ⟨b, off, none⟩) len l :=
  ⟨h.1, h.2.1, h.2.2.1, fun _ => ⟨b, off, rfl, h.cells.keep fun o v hv => hg.cell hv hne⟩⟩

/-! ### rows of pairs that a call made -/
def OwnP (w : World) (base g n cap : Nat) (l : List Pr) : Prop := l.length = n ∧ (∀ p ∈ l, small p) ∧ w.ownsRow base 74 2 (.slice (some ⟨g, 0, none⟩) n cap) n (pairVals l)
theorem OwnP.lt (h : OwnP w base g n cap l) : base ≤ g ∧ g < w.heap.size := h.2.2.lt g rfl
theorem OwnP.cases (h : OwnP w base g n cap l) : n ≤ cap ∧ cap ≤ maxLen := by
  rcases h.2.2.2 with ⟨h', _⟩ | ⟨g', cap', cur, h', _, hg, h1, h2, _⟩
  · simp at h'
  · simp only [Value.slice.injEq, Option.some.injEq, Addr.mk.injEq, and_true, true_and] at h'
    obtain ⟨rfl, rfl⟩ := h'
    exact ⟨h1, h2⟩
theorem OwnP.mono (h : OwnP w base g n cap l) (hb : base' ≤ base) : OwnP w base' g n cap l := by
  refine ⟨h.1, h.2.1, h.2.2.1, ?_⟩
  rcases h.2.2.2 with h' | ⟨g', cap', cur, h', h0, r⟩
  · exact .inl h'
  · exact .inr ⟨g', cap', cur, h', by omega, r⟩
theorem OwnP.cell (h : OwnP w base g n cap l) : CellsP w g 0 l := by
  intro i hi
  have hl := h.1
  have k1 := h.2.2.cellAt (i * 2) (by omega)
  have k2 := h.2.2.cellAt (i * 2 + 1) (by omega)
  rw [pairVals_key l i hi] at k1
  rw [pairVals_val l i hi] at k2
  rw [Nat.zero_add]
  exact ⟨k1, k2⟩
theorem OwnP.key (h : OwnP w base g n cap l) (i : Nat) (hi : i < l.length) : w.cell? ⟨g, i * 2, none⟩ = some (.string l[i].1) := by
  have := (h.cell i hi).1; rwa [Nat.zero_add] at this
theorem OwnP.val (h : OwnP w base g n cap l) (i : Nat) (hi : i < l.length) : w.cell? ⟨g, i * 2 + 1, none⟩ = some (.string l[i].2) := by
  have := (h.cell i hi).2; rwa [Nat.zero_add] at this
theorem OwnP.frozen (h : OwnP w base g n cap l) (i : Nat) : w.frozen? ⟨g, i, none⟩ = false := h.2.2.frozenAt i
theorem OwnP.sl (h : OwnP w base g n cap l) : SlP w (some ⟨g, 0, none⟩) n l :=
  ⟨h.1, by have := h.cases; omega, h.2.1, fun _ => ⟨g, 0, rfl, h.cell⟩⟩
theorem OwnP.grown (h : OwnP w base g n cap l) (hg : w.grownBy w' row) (hne : some g ≠ row) : OwnP w' base g n cap l :=
  ⟨h.1, h.2.1, h.2.2.kept hg (.inr hne)⟩
theorem OwnP.below (h : OwnP w base g n cap l) (hb : Below w.heap.size w w') : OwnP w' base g n cap l :=
  ⟨h.1, h.2.1, h.2.2.kept (row := none) ⟨hb.os, hb.tape, hb.output, hb.size, fun k hk _ => hb.block k hk⟩ (.inr (by simp [Value.ownBlock]))⟩
theorem mem_set_small {i : Nat} {p : Pr} (h : ∀ q ∈ l, small q) (hp : small p) : ∀ q ∈ l.set i p, small q := by
  intro q hq
  rcases List.mem_or_eq_of_mem_set hq with h1 | h1
  · exact h q h1
  · subst h1; exact hp
theorem OwnP.setKey (h : OwnP w base g n cap l) (i : Nat) (hi : i < l.length) (k : ByteArray) (hk : k.size ≤ maxLen) :
    OwnP (w.setCell ⟨g, i * 2, none⟩ (.string k)) base g n cap (l.set i (k, l[i].2)) ∧ w.grownBy (w.setCell ⟨g, i * 2, none⟩ (.string k)) (some g) := by
  have hs := h.2.2.stored (i * 2) (.string k)
  rw [pairVals_setKey l i hi] at hs
  exact ⟨⟨by simpa using h.1, mem_set_small h.2.1 ⟨hk, (h.2.1 _ (List.getElem_mem hi)).2⟩, hs.1⟩, hs.2⟩
theorem OwnP.setVal (h : OwnP w base g n cap l) (i : Nat) (hi : i < l.length) (v : ByteArray) (hv : v.size ≤ maxLen) :
    OwnP (w.setCell ⟨g, i * 2 + 1, none⟩ (.string v)) base g n cap (l.set i (l[i].1, v)) ∧ w.grownBy (w.setCell ⟨g, i * 2 + 1, none⟩ (.string v)) (some g) := by
  have hs := h.2.2.stored (i * 2 + 1) (.string v)
  rw [pairVals_setVal l i hi] at hs
  exact ⟨⟨by simpa using h.1, mem_set_small h.2.1 ⟨(h.2.1 _ (List.getElem_mem hi)).1, hv⟩, hs.1⟩, hs.2⟩
theorem OwnP.setBoth (h : OwnP w base g n cap l) (i : Nat) (hi : i < l.length) (k v : ByteArray) (hk : k.size ≤ maxLen) (hv : v.size ≤ maxLen) :
    OwnP ((w.setCell ⟨g, i * 2, none⟩ (.string k)).setCell ⟨g, i * 2 + 1, none⟩ (.string v)) base g n cap (l.set i (k, v)) ∧ w.grownBy ((w.setCell ⟨g, i * 2, none⟩ (.string k)).setCell ⟨g, i * 2 + 1, none⟩ (.string v)) (some g) := by
  have h1 := h.setKey i hi k hk
  have h2 := h1.1.setVal i (by simpa using hi) v hv
  simp only [List.getElem_set_self, List.set_set] at h2
  exact ⟨h2.1, grownBy_trans h1.2 h2.2⟩
theorem ownP_val {v' : Value} (hl : l.length = n) (hs : ∀ p ∈ l, small p) (h0 : ¬ v' = .slice none 0 0)
    (h : w'.ownsRow base 74 2 v' n (pairVals l)) : ∃ g' cap', v' = .slice (some ⟨g', 0, none⟩) n cap' ∧ OwnP w' base g' n cap' l := by
  rcases h.2 with ⟨h2, _⟩ | ⟨g', cap', cur, hv, _⟩
  · exact absurd h2 h0
  · subst hv
    exact ⟨g', cap', rfl, hl, hs, h⟩
theorem ownP_made (w : World) (base : Nat) (hb : base ≤ w.heap.size) : OwnP (w.alloc (.cells #[] 74)) base w.heap.size 0 0 [] :=
  ⟨rfl, fun s h => absurd h List.not_mem_nil, World.ownsRow_made w #[] 0 hb (Nat.zero_le _) rfl⟩
theorem cells_pairs (h : CellsP w b off l) : ∀ j v, (pairVals l)[j]? = some v → w.cell? ((⟨b, off, none⟩ : Addr).add j) = some v := by
  intro j v hj
  have hjl : j < l.length * 2 := by have := (List.getElem?_eq_some_iff.1 hj).1; rwa [pairVals_length] at this
  rw [Addr.add_lit]
  have hm : j = (j / 2) * 2 ∨ j = (j / 2) * 2 + 1 := by omega
  rcases hm with e | e
  · rw [e, pairVals_key l (j / 2) (by omega)] at hj
    rw [e, ← hj]; exact (h (j / 2) (by omega)).1
  · rw [e, pairVals_val l (j / 2) (by omega)] at hj
    rw [e, ← hj]; exact (h (j / 2) (by omega)).2
end
theorem infoP : (Tryz.prog.info? 74).map (fun i => (i.zero, i.size, i.bytes)) = some (some (.agg #[.string ⟨#[]⟩, .string ⟨#[]⟩]), 2, 32) := by kernel_rfl

end Go.Proofs.YteniflajiklffaaGreatDoor.pairs
