/- Rows that a call makes, appends and conversions: small facts on worlds; no function of the program is named here. Plain mathematics of pairs of texts. Plain mathematics of the laws on pairs. -/
import Derived.Test.YtdeaiefhegjalaaRows
import Derived.Test.YtdeaiefhegjalaaBund12aa
import Derived.Deep.QuietTactic
import Derived.BigQuiet
import Derived.Deep.RegionWith
import Derived.Laws.CopyOwn
import Derived.Laws.BytesArg
import Derived.Lib.AppendStr
import Derived.ArgAppend
import Derived.Deep.RegionLaw
import Derived.Sort.Walk0
import Derived.WideShapes
namespace Go.Proofs.Ytdeaiefhegjalaa.base
open Go.RowKit
set_option linter.unusedVariables false
set_option linter.unusedSimpArgs false

theorem grownBy_trans {a b c : World} {row : Option Nat} (h : a.grownBy b row) (k : b.grownBy c row) : a.grownBy c row :=
  ⟨k.os.trans h.os, k.tape.trans h.tape, k.output.trans h.output, Nat.le_trans h.size k.size, fun i hi hr => (k.block i (Nat.lt_of_lt_of_le hi h.size) hr).trans (h.block i hi hr)⟩
theorem Hid.mk' {p : Prop} (h : p) : Hid p := h
theorem info8 : (Try.prog.info? 5).map (fun i => (i.zero, i.size, i.bytes)) = some (some (.int .u8 0), 1, 1) := by kernel_rfl
theorem byteVals_set (bs : List UInt8) (k : Nat) (u : UInt8) : (byteVals bs).set k (.int .u8 u.toNat) = byteVals (bs.set k u) := by simp [byteVals]
theorem own_set {w : World} {base g n cap : Nat} {bs : List UInt8} (h : Own w base g n cap bs) (k : Nat) (u : UInt8) :
    Own (w.setCell ⟨g, k, none⟩ (.int .u8 u.toNat)) base g n cap (bs.set k u) ∧ w.grownBy (w.setCell ⟨g, k, none⟩ (.int .u8 u.toNat)) (some g) := by
  have hs := h.2.stored k (.int .u8 u.toNat)
  rw [byteVals_set] at hs
  exact ⟨⟨by simpa using h.1, hs.1⟩, hs.2⟩
theorem drewN_cell (w : World) (n : Nat) (a : Addr) : (w.drewN n).cell? a = w.cell? a := rfl
theorem byte_of (n : Nat) : ((UInt8.ofNat n).toNat : Int) = (n : Int) % 256 := by simp [UInt8.toNat_ofNat']
theorem one_oneCell (k : IntKind) (x : Int) : ∀ u ∈ [Value.int k x], u.oneCell' = true := by
  intro u hu; simp at hu; subst hu; rfl
theorem le_alloc {base : Nat} (w : World) (o : Obj) (h : base ≤ w.heap.size) : base ≤ (w.alloc o).heap.size := by simp; omega
theorem one_val {x : Int} {u : UInt8} (h : x = (u.toNat : Int)) : [Value.int .u8 x] = byteVals [u] := by rw [h]; rfl
theorem byteVals_append (a b : List UInt8) : byteVals (a ++ b) = byteVals a ++ byteVals b := by simp [byteVals]
theorem own_app {w' : World} {base n m : Nat} {v' : Value} {bs ns : List UInt8} {news : List Value} (hl : bs.length = n) (hln : ns.length = m) (he : news = byteVals ns) (h0 : ¬ v' = .slice none 0 0)
    (h : w'.ownsRow base 5 1 v' (n + m) (byteVals bs ++ news)) : ∃ g' cap', v' = .slice (some ⟨g', 0, none⟩) (n + m) cap' ∧ Own w' base g' (n + m) cap' (bs ++ ns) := by
  subst he
  rw [← byteVals_append] at h
  rcases h.2 with ⟨h2, _⟩ | ⟨g', cap', cur, hv, _⟩
  · exact absurd h2 h0
  · subst hv
    exact ⟨g', cap', rfl, by simp; omega, h⟩
/-- the row itself, where a slice of n bytes fills it -/
theorem own_row {w : World} {base g n : Nat} {bs : List UInt8} (h : Own w base g n n bs) : w.heap[g]? = some (.cells (byteVals bs).toArray 5 (0, 0)) := by
  rcases h.2.2 with ⟨h', _⟩ | ⟨g', cap', cur, h', _, hg, _, _, hs, ht⟩
  · simp at h'
  · simp only [Value.slice.injEq, Option.some.injEq, Addr.mk.injEq, and_true, true_and] at h'
    obtain ⟨rfl, rfl⟩ := h'
    rw [hg, ← ht, List.take_of_length_le (by simp [hs])]
theorem own_of_row {w : World} {base g n : Nat} {bs : List UInt8} (hn : bs.length = n) (hm : n ≤ maxLen) (hb : base ≤ g) (h : w.heap[g]? = some (.cells (byteVals bs).toArray 5 (0, 0))) : Own w base g n n bs :=
  ⟨hn, by rw [byteVals_length]; omega, .inr ⟨g, n, _, rfl, hb, h, Nat.le_refl _, hm, by simp [byteVals_length, hn], by rw [List.take_of_length_le (by simp [byteVals_length]; omega)]⟩⟩
theorem byteVals_oneCell (bs : List UInt8) : ∀ v ∈ byteVals bs, v.oneCell' = true := by
  intro v hv; obtain ⟨_, _, rfl⟩ := List.mem_map.1 hv; rfl
theorem own_val {w' : World} {base n : Nat} {v' : Value} {bs : List UInt8} (hl : bs.length = n) (h0 : ¬ v' = .slice none 0 0)
    (h : w'.ownsRow base 5 1 v' n (byteVals bs)) : ∃ g' cap', v' = .slice (some ⟨g', 0, none⟩) n cap' ∧ Own w' base g' n cap' bs := by
  rcases h.2 with ⟨h2, _⟩ | ⟨g', cap', cur, hv, _⟩
  · exact absurd h2 h0
  · subst hv
    exact ⟨g', cap', rfl, hl, h⟩
theorem sl_cells {w : World} {b off len : Nat} {bs : List UInt8} (h : Sl w (some ⟨b, off, none⟩) len bs) : ∀ j v, (byteVals bs)[j]? = some v → w.cell? ((⟨b, off, none⟩ : Addr).add j) = some v := by
  intro j v hj
  have hjl : j < bs.length := by have := (List.getElem?_eq_some_iff.1 hj).1; rwa [byteVals_length] at this
  rw [Addr.add_lit, h.at j hjl, ← hj]
  simp [byteVals, hjl]
theorem byteVals_nil : ([] : List Value) = byteVals [] := rfl
def cut (bs : List UInt8) (p n : Nat) : ByteArray := ⟨((bs.drop p).take n).toArray⟩
theorem cut_data (bs : List UInt8) (p n : Nat) : (cut bs p n).data.toList = (bs.drop p).take n := by simp [cut]
theorem cut_size (bs : List UInt8) (p n : Nat) (h : p + n ≤ bs.length) : (cut bs p n).size = n := by
  show ((bs.drop p).take n).toArray.size = n
  simp; omega
theorem conv_cut {w : World} {b off p n : Nat} {bs : List UInt8} {len : Nat} (h : Sl w (some ⟨b, off, none⟩) len bs) (hp : p + n ≤ bs.length) (c : Nat) :
    (convert 22 9 (.slice (some ⟨b, off + p, none⟩) n c)).run Try.prog w = .ok (.string (cut bs p n)) w := by
  have hr := run_convert_bytes_arg (P := Try.prog) w 22 5 Try.underlying22 Try.underlying5 b (off + p) n c (((bs.drop p).take n).map fun u => (u.toNat : Int)) (by simp; omega) ?_ 9 Try.underlying9
  · rw [hr]
    have e : strOfNums (((bs.drop p).take n).map fun u => (u.toNat : Int)) = cut bs p n := by
      simp [strOfNums, cut, Function.comp_def]
    rw [e]
  · intro i hi
    have hpi : p + i < bs.length := by omega
    rw [show off + p + i = off + (p + i) by omega, h.at (p + i) hpi]
    simp [List.getD, hpi, hi]
theorem conv_none {w : World} {b off : Nat} {bs : List UInt8} (p : Nat) (c : Nat) :
    (convert 22 9 (.slice (some ⟨b, off, none⟩) 0 c)).run Try.prog w = .ok (.string (cut bs p 0)) w := by
  rw [run_convert_bytes_arg (P := Try.prog) w 22 5 Try.underlying22 Try.underlying5 b off 0 c [] rfl (fun i hi => absurd hi (by omega)) 9 Try.underlying9]
  simp [strOfNums, cut]
theorem info9 : (Try.prog.info? 9).map (fun i => (i.zero, i.size, i.bytes)) = some (some (.string ⟨#[]⟩), 1, 16) := by kernel_rfl
theorem strVals_set (ss : List ByteArray) (k : Nat) (u : ByteArray) : (strVals ss).set k (.string u) = strVals (ss.set k u) := by simp [strVals]
theorem ownS_set {w : World} {base g n cap : Nat} {ss : List ByteArray} (h : OwnS w base g n cap ss) (k : Nat) (u : ByteArray) (hu : u.size ≤ maxLen) :
    OwnS (w.setCell ⟨g, k, none⟩ (.string u)) base g n cap (ss.set k u) ∧ w.grownBy (w.setCell ⟨g, k, none⟩ (.string u)) (some g) := by
  have hs := h.2.2.stored k (.string u)
  rw [strVals_set] at hs
  refine ⟨⟨by simpa using h.1, ?_, hs.1⟩, hs.2⟩
  intro s hx
  rcases List.mem_or_eq_of_mem_set hx with hx | hx
  · exact h.2.1 s hx
  · subst hx; exact hu
theorem ret_str {a b : ByteArray} (h : a = b) : Ending.returned (.string a) = .returned (.string b) := by rw [h]
theorem conv_one (w : World) (x : Int) (u : UInt8) (hx : x = (u.toNat : Int)) (c : Nat) :
    (convert 22 9 (.slice (some ⟨w.heap.size, 0, none⟩) 1 c)).run Try.prog (w.alloc (.cells #[.int .u8 x] 5)) = .ok (.string ⟨#[u]⟩) (w.alloc (.cells #[.int .u8 x] 5)) := by
  rw [run_convert_bytes_arg (P := Try.prog) _ 22 5 Try.underlying22 Try.underlying5 w.heap.size 0 1 c [x] rfl ?_ 9 Try.underlying9]
  · subst hx; simp [strOfNums]
  · intro i hi
    have : i = 0 := by omega
    subst this
    simp
/-- steps of one row: nothing but block g, and new blocks -/
theorem grown_below {w w1 w2 : World} {g : Nat} (h : w.grownBy w1 (some g)) (hb : Below w1.heap.size w1 w2) : w.grownBy w2 (some g) :=
  ⟨hb.os.trans h.os, hb.tape.trans h.tape, hb.output.trans h.output, Nat.le_trans h.size hb.size, fun k hk hr => (hb.block k (Nat.lt_of_lt_of_le hk h.size)).trans (h.block k hk hr)⟩
theorem ownS_val {w' : World} {base n : Nat} {v' : Value} {ss : List ByteArray} (hl : ss.length = n) (hs : ∀ s ∈ ss, s.size ≤ maxLen) (h0 : ¬ v' = .slice none 0 0)
    (h : w'.ownsRow base 9 1 v' n (strVals ss)) : ∃ g' cap', v' = .slice (some ⟨g', 0, none⟩) n cap' ∧ OwnS w' base g' n cap' ss := by
  rcases h.2 with ⟨h2, _⟩ | ⟨g', cap', cur, hv, _⟩
  · exact absurd h2 h0
  · subst hv
    exact ⟨g', cap', rfl, hl, hs, h⟩
theorem ownS_made (w : World) (base : Nat) (hb : base ≤ w.heap.size) : OwnS (w.alloc (.cells #[] 9)) base w.heap.size 0 0 [] :=
  ⟨rfl, fun s h => absurd h List.not_mem_nil, World.ownsRow_made w #[] 0 hb (Nat.zero_le _) rfl⟩
theorem str_oneCell (x : ByteArray) : ∀ u ∈ [Value.string x], u.oneCell' = true := by
  intro u hu; simp at hu; subst hu; rfl
theorem leAlloc {base : Nat} (w : World) (o : Obj) (h : base ≤ w.heap.size) : base ≤ (w.alloc o).heap.size := by simp; omega
theorem strVals_snoc (ss : List ByteArray) (s : ByteArray) : strVals (ss ++ [s]) = strVals ss ++ [.string s] := by simp [strVals]
theorem cell_cur {w : World} {gc : Nat} {cur : Array Value} {t : TypeId} {mk : Nat × Nat} (h : w.heap[gc]? = some (.cells cur t mk)) (j : Nat) (v : Value) (hj : cur[j]? = some v) : w.cell? ⟨gc, j, none⟩ = some v := by
  rw [cell_of_row w gc j cur t mk h]; exact hj
theorem set_cur {w : World} {gc : Nat} {cur : Array Value} {t : TypeId} (h : w.heap[gc]? = some (.cells cur t (0, 0))) (j : Nat) (v : Value) :
    (w.setCell ⟨gc, j, none⟩ v).heap[gc]? = some (.cells (cur.setIfInBounds j v) t (0, 0)) ∧ w.grownBy (w.setCell ⟨gc, j, none⟩ v) (some gc) :=
  ⟨heap_setCell_same w gc j cur t v h, ⟨rfl, rfl, rfl, by simp, fun k _ hk => heap_setCell_other w ⟨gc, j, none⟩ k v (fun e => hk (by simp [e]))⟩⟩
theorem grown_drewN {w w1 : World} {row : Option Nat} (h : w.grownBy w1 row) (n : Nat) : w.grownBy (w1.drewN n) row := ⟨h.os, h.tape, h.output, h.size, h.block⟩
theorem grown_own {w wr w2 : World} {gc g : Nat} (h : w.grownBy wr (some gc)) (h2 : wr.grownBy w2 (some g)) (hg : w.heap.size ≤ g) : w.grownBy w2 (some gc) :=
  ⟨h2.os.trans h.os, h2.tape.trans h.tape, h2.output.trans h.output, Nat.le_trans h.size h2.size, fun k hk hne => (h2.block k (Nat.lt_of_lt_of_le hk h.size) (by intro e; simp only [Option.some.injEq] at e; omega)).trans (h.block k hk hne)⟩
theorem grown_alloc {w wr : World} {row : Option Nat} (h : w.grownBy wr row) (o : Obj) : w.grownBy (wr.alloc o) row :=
  ⟨h.os, h.tape, h.output, by have := h.size; simp; omega, fun k hk hne => (Below.heap_alloc wr o k (Nat.lt_of_lt_of_le hk h.size)).trans (h.block k hk hne)⟩
theorem own_made (w : World) (base : Nat) (hb : base ≤ w.heap.size) : Own (w.alloc (.cells #[] 5)) base w.heap.size 0 0 [] :=
  ⟨rfl, World.ownsRow_made w #[] 0 hb (Nat.zero_le _) rfl⟩
theorem byte_x (x : Int) (h0 : 0 ≤ x) (h1 : x ≤ 255) : x = ((UInt8.ofNat x.toNat).toNat : Int) := by rw [byte_of]; omega
theorem grown_alloc0 (w : World) (o : Obj) (row : Option Nat) : w.grownBy (w.alloc o) row := World.grownBy_alloc w o row
theorem conv_own {w : World} {base g m cp : Nat} {bs : List UInt8} (h : Own w base g m cp bs) :
    (convert 22 9 (.slice (some ⟨g, 0, none⟩) m cp)).run Try.prog w = .ok (.string ⟨bs.toArray⟩) w := by
  have h1 := conv_cut (w := w) (b := g) (off := 0) (p := 0) (n := m) h.sl (by have := h.1; omega) cp
  have e : cut bs 0 m = ⟨bs.toArray⟩ := by unfold cut; rw [List.drop_zero, List.take_of_length_le (by have := h.1; omega)]
  rw [e] at h1
  exact h1
/-- block g holds the bytes bs from its head on; they may be written -/
def Wr (w : World) (g n : Nat) (bs : List UInt8) : Prop :=
  bs.length = n ∧ n ≤ maxLen ∧ g < w.heap.size ∧ ∀ i (h : i < bs.length), w.cell? ⟨g, i, none⟩ = some (.int .u8 bs[i].toNat) ∧ w.frozen? ⟨g, i, none⟩ = false
theorem Wr.sl {w : World} {g n : Nat} {bs : List UInt8} (h : Wr w g n bs) : Sl w (some ⟨g, 0, none⟩) n bs :=
  ⟨h.1, h.2.1, fun _ => ⟨g, 0, rfl, fun i hi => by rw [Nat.zero_add]; exact (h.2.2.2 i hi).1⟩⟩
theorem Wr.below {w w' : World} {g n : Nat} {bs : List UInt8} (h : Wr w g n bs) (hb : Below w.heap.size w w') : Wr w' g n bs :=
  ⟨h.1, h.2.1, Nat.lt_of_lt_of_le h.2.2.1 hb.size, fun i hi => ⟨(hb.cell (p := ⟨g, i, none⟩) h.2.2.1).trans (h.2.2.2 i hi).1, (hb.frozen (p := ⟨g, i, none⟩) h.2.2.1).trans (h.2.2.2 i hi).2⟩⟩
theorem Own.wr {w : World} {base g n cap : Nat} {bs : List UInt8} (h : Own w base g n cap bs) : Wr w g n bs :=
  ⟨h.1, by have := h.max; omega, h.lt.2, fun i hi => ⟨h.at i hi, h.frozen i⟩⟩
theorem byteVals_get (bs : List UInt8) (j : Nat) (u : Value) (h : (byteVals bs)[j]? = some u) : ∃ hj : j < bs.length, u = .int .u8 bs[j].toNat := by
  have hjl : j < bs.length := by have := (List.getElem?_eq_some_iff.1 h).1; rwa [byteVals_length] at this
  refine ⟨hjl, ?_⟩
  have : (byteVals bs)[j]? = some (.int .u8 bs[j].toNat) := by simp [byteVals, hjl]
  rw [this] at h
  exact (Option.some.inj h).symm

/-- append onto a row of the call's own, as one step of a region that draws its order -/
theorem step_append_own {P : Program} {ops : Array Oper} {o : Oper} {a : Act} {w : World} {K : Act → World → Prop} {Q : Exit → Act → World → Prop} {E : Prop} (hgd : o.guard = none) (s x : Operand) (t : TypeId)
    (ho : o.op = .call { callee := .builtin .append, args := #[s, x], argTypes := #[t, t] })
    (base : Nat) (e : TypeId) (i : TypeInfo) (z : Value) (size bytes : Nat) (ht : P.underlying t = some (.slice e)) (hi : P.info? e = some i) (hz : i.zero = some z)
    (hsize : i.size = size) (hby : i.bytes = bytes) (hzs : z.cells.size = size) (hsz : 0 < size)
    (v : Value) (n : Nat) (xs : List Value) (hs : a.eval s = v) (hown : w.ownsRow base e size v n xs)
    (ad : Addr) (m c : Nat) (news : List Value) (hx : a.eval x = .slice (some ad) m c) (hl : news.length = m * size) (hnews : ∀ j u, news[j]? = some u → w.cell? (ad.add j) = some u) (h1 : ∀ u ∈ news, u.oneCell' = true)
    (h63 : n + m ≤ maxLen) (hbytes : (n + m) * bytes ≤ 140737488355328) (hbase : base ≤ w.heap.size)
    (h : ∀ v' w', w'.ownsRow base e size v' (n + m) (xs ++ news) → w.grownBy w' v.ownBlock → (v' = .slice none 0 0 ↔ v = .slice none 0 0 ∧ m = 0) → K (a.put o.dst v') w') :
    if Region.wanted o (yielded ops a.tmps) = true then Oper.wp P o a w K Q else E := by
  have hw : Region.wanted o (yielded ops a.tmps) = true := by simp [Region.wanted, hgd]
  rw [if_pos hw]
  exact wp_append_own w s x t ho base e i z size bytes ht hi hz hsize hby hzs hsz v n xs hs hown ad m c news hx hl hnews h1 h63 hbytes hbase h
theorem cells_two (w : World) (x y : Value) (t : TypeId) : ∀ j u, [x, y][j]? = some u → (w.alloc (.cells #[x, y] t)).cell? ((⟨w.heap.size, 0, none⟩ : Addr).add j) = some u := by
  intro j u hj
  match j, hj with
  | 0, hj => simp at hj; subst hj; simp [Addr.add]
  | 1, hj => simp at hj; subst hj; simp [Addr.add]
theorem two_oneCell (k : IntKind) (x y : Int) : ∀ u ∈ [Value.int k x, Value.int k y], u.oneCell' = true := by
  intro u hu; simp at hu; rcases hu with rfl | rfl <;> rfl

end Go.Proofs.Ytdeaiefhegjalaa.base

namespace Go.Proofs.Ytdeaiefhegjalaa.pairs
open Go
set_option linter.unusedVariables false

abbrev Pr := ByteArray × ByteArray
theorem bytes_ext {a b : ByteArray} (h : a.data.toList = b.data.toList) : a = b := WideShapes.bytes_inj h

/-! ### the order of texts -/
def ltB (a b : ByteArray) : Bool := Op.bytesLess a.toList b.toList
theorem ltB_iff (a b : ByteArray) : ltB a b = true ↔ a.data.toList < b.data.toList := by
  unfold ltB; rw [Proofs.bytesLess_eq, ByteArray.toList_eq, ByteArray.toList_eq]; simp
theorem ltB_irrefl (a : ByteArray) : ltB a a = false := by
  rw [Bool.eq_false_iff]; intro h; exact List.lt_irrefl _ ((ltB_iff a a).1 h)
theorem ltB_trans {a b c : ByteArray} (h : ltB a b = true) (k : ltB b c = true) : ltB a c = true :=
  (ltB_iff a c).2 (List.lt_trans ((ltB_iff a b).1 h) ((ltB_iff b c).1 k))
theorem ltB_asymm {a b : ByteArray} (h : ltB a b = true) : ltB b a = false := by
  rw [Bool.eq_false_iff]; intro k; have := ltB_trans h k; rw [ltB_irrefl] at this; cases this
theorem ltB_total {a b : ByteArray} (h : ltB a b = false) (k : ltB b a = false) : a = b := by
  apply bytes_ext
  have h' : ¬ a.data.toList < b.data.toList := fun e => by rw [(ltB_iff a b).2 e] at h; cases h
  have k' : ¬ b.data.toList < a.data.toList := fun e => by rw [(ltB_iff b a).2 e] at k; cases k
  exact List.le_antisymm (List.not_lt.1 k') (List.not_lt.1 h')
theorem ltB_ne {a b : ByteArray} (h : ltB a b = true) : a ≠ b := by
  rintro rfl; rw [ltB_irrefl] at h; cases h

/-! ### the functions -/
def keyCh (c : Nat) : Bool := decide (97 ≤ c ∧ c ≤ 122) || decide (48 ≤ c ∧ c ≤ 57)
def keyAll (l : List UInt8) : Bool := l.all fun c => keyCh c.toNat
def keyOk (s : ByteArray) : Bool := keyAll s.data.toList && decide (1 ≤ s.size ∧ s.size ≤ 12)
def pairOk (p : Pr) : Bool := keyOk p.1 && decide (p.2.size ≤ 20)
/-- each is right and above the one ahead -/
def okFrom : Option ByteArray → List Pr → Bool
  | _, [] => true
  | none, p :: l => pairOk p && okFrom (some p.1) l
  | some k, p :: l => pairOk p && ltB k p.1 && okFrom (some p.1) l
def pairsOk (l : List Pr) : Bool := okFrom none l && decide (l.length ≤ 60)
def getKey (key : ByteArray) : List Pr → Option ByteArray
  | [] => none
  | p :: l => if p.1 = key then some p.2 else getKey key l
def setFirst (key val : ByteArray) : List Pr → List Pr
  | [] => []
  | p :: l => if p.1 = key then (p.1, val) :: l else p :: setFirst key val l
/-- how many stand ahead of the first that is above -/
def below (key : ByteArray) : List Pr → Nat
  | [] => 0
  | p :: l => if ltB key p.1 = true then 0 else below key l + 1
def putKey (key val : ByteArray) (l : List Pr) : List Pr :=
  if (getKey key l).isSome then setFirst key val l else l.take (below key l) ++ (key, val) :: l.drop (below key l)
def delKey (key : ByteArray) (l : List Pr) : List Pr := l.filter fun p => decide (p.1 ≠ key)
def inB (lo hi key : ByteArray) : Bool := !ltB key lo && (decide (hi.size = 0) || ltB key hi)
def between (lo hi : ByteArray) (l : List Pr) : List Pr := l.filter fun p => inB lo hi p.1
def unionOf (a b : List Pr) : List Pr := b.foldl (fun u p => putKey p.1 p.2 u) a

/-! ### first facts -/
theorem setFirst_length (key val : ByteArray) (l : List Pr) : (setFirst key val l).length = l.length := by
  induction l with
  | nil => rfl
  | cons p l ih => unfold setFirst; split <;> simp [ih]
theorem below_le (key : ByteArray) (l : List Pr) : below key l ≤ l.length := by
  induction l with
  | nil => exact Nat.le_refl _
  | cons p l ih => unfold below; split <;> simp; omega
theorem putKey_length (key val : ByteArray) (l : List Pr) : (putKey key val l).length ≤ l.length + 1 ∧ l.length ≤ (putKey key val l).length := by
  have := below_le key l
  unfold putKey
  split
  · rw [setFirst_length]; omega
  · simp; omega
theorem getKey_drop (key : ByteArray) (l : List Pr) (k : Nat) (h : k < l.length) : getKey key (l.drop k) = if l[k].1 = key then some l[k].2 else getKey key (l.drop (k + 1)) := by
  rw [List.drop_eq_getElem_cons h, getKey]
theorem below_drop (key : ByteArray) (l : List Pr) (k : Nat) (h : k < l.length) : below key (l.drop k) = if ltB key l[k].1 = true then 0 else below key (l.drop (k + 1)) + 1 := by
  rw [List.drop_eq_getElem_cons h, below]
/-- the first of a key is at place k: what lies ahead has others -/
theorem setFirst_at (key val : ByteArray) (l : List Pr) (k : Nat) (h : k < l.length) (he : l[k].1 = key) (hn : getKey key (l.take k) = none) : setFirst key val l = l.set k (key, val) := by
  induction l generalizing k with
  | nil => simp at h
  | cons p l ih =>
    cases k with
    | zero => simp at he; unfold setFirst; rw [if_pos he, he]; rfl
    | succ k =>
      rw [List.take_succ_cons, getKey] at hn
      by_cases hp : p.1 = key
      · rw [if_pos hp] at hn; cases hn
      · rw [if_neg hp] at hn
        unfold setFirst
        rw [if_neg hp, List.set_cons_succ, ih k (by simpa using h) (by simpa using he) hn]
theorem getKey_snoc_none (key : ByteArray) (l : List Pr) (p : Pr) (h : getKey key l = none) (hp : p.1 ≠ key) : getKey key (l ++ [p]) = none := by
  induction l with
  | nil => simp [getKey, hp]
  | cons q l ih =>
    rw [getKey] at h
    by_cases hq : q.1 = key
    · rw [if_pos hq] at h; cases h
    · rw [if_neg hq] at h
      rw [List.cons_append, getKey, if_neg hq]
      exact ih h
theorem getKey_append (key : ByteArray) (a b : List Pr) : getKey key (a ++ b) = (getKey key a).or (getKey key b) := by
  induction a with
  | nil => rfl
  | cons q l ih =>
    rw [List.cons_append, getKey, getKey]
    by_cases hq : q.1 = key
    · rw [if_pos hq, if_pos hq]; rfl
    · rw [if_neg hq, if_neg hq, ih]
theorem okFrom_snoc (o : Option ByteArray) (l : List Pr) (p : Pr) : okFrom o (l ++ [p]) = (okFrom o l && pairOk p && match (l.getLast?.map (·.1)).or o with | none => true | some k => ltB k p.1) := by
  induction l generalizing o with
  | nil => cases o <;> simp [okFrom]
  | cons q l ih =>
    have e : ((q :: l).getLast?.map (·.1)).or o = (l.getLast?.map (·.1)).or (some q.1) := by
      cases l with
      | nil => rfl
      | cons r l =>
        rw [List.getLast?_cons_cons]
        cases h : (r :: l).getLast? with
        | none => simp at h
        | some v => rfl
    cases o <;> simp only [List.cons_append, okFrom, ih, e, Bool.and_assoc]

end Go.Proofs.Ytdeaiefhegjalaa.pairs

namespace Go.Proofs.Ytdeaiefhegjalaa.pairs
open Go
set_option linter.unusedVariables false
set_option linter.unusedSimpArgs false

/-! ### rising lists -/
def Rise (l : List Pr) : Prop := l.Pairwise fun p q => ltB p.1 q.1 = true
theorem okFrom_iff (o : Option ByteArray) (l : List Pr) : okFrom o l = true ↔ (∀ p ∈ l, pairOk p = true) ∧ Rise l ∧ ∀ k, o = some k → ∀ p ∈ l, ltB k p.1 = true := by
  induction l generalizing o with
  | nil => cases o <;> simp [okFrom, Rise]
  | cons q l ih =>
    have hq := ih (some q.1)
    constructor
    · intro h
      have h' : pairOk q = true ∧ (∀ k, o = some k → ltB k q.1 = true) ∧ okFrom (some q.1) l = true := by
        cases o with
        | none => simp only [okFrom, Bool.and_eq_true] at h; exact ⟨h.1, (fun k e => by cases e), h.2⟩
        | some k => simp only [okFrom, Bool.and_eq_true] at h; exact ⟨h.1.1, (fun k' e => by cases e; exact h.1.2), h.2⟩
      obtain ⟨h1, h2, h3⟩ := h'
      obtain ⟨a1, a2, a3⟩ := hq.1 h3
      refine ⟨?_, ?_, ?_⟩
      · intro p hp
        rcases List.mem_cons.1 hp with e | e
        · subst e; exact h1
        · exact a1 p e
      · exact List.Pairwise.cons (fun p hp => a3 _ rfl p hp) a2
      · intro k hk p hp
        rcases List.mem_cons.1 hp with e | e
        · subst e; exact h2 k hk
        · exact ltB_trans (h2 k hk) (a3 _ rfl p e)
    · rintro ⟨h1, h2, h3⟩
      have hr := List.pairwise_cons.1 h2
      have h4 : okFrom (some q.1) l = true := hq.2 ⟨fun p hp => h1 p (List.mem_cons_of_mem _ hp), hr.2, fun k e p hp => by cases e; exact hr.1 p hp⟩
      cases o with
      | none => simp only [okFrom, Bool.and_eq_true]; exact ⟨h1 q List.mem_cons_self, h4⟩
      | some k => simp only [okFrom, Bool.and_eq_true]; exact ⟨⟨h1 q List.mem_cons_self, h3 k rfl q List.mem_cons_self⟩, h4⟩
theorem pairsOk_iff (l : List Pr) : pairsOk l = true ↔ ((∀ p ∈ l, pairOk p = true) ∧ Rise l) ∧ l.length ≤ 60 := by
  unfold pairsOk
  rw [Bool.and_eq_true, okFrom_iff, decide_eq_true_iff]
  constructor
  · rintro ⟨⟨a, b, _⟩, c⟩; exact ⟨⟨a, b⟩, c⟩
  · rintro ⟨⟨a, b⟩, c⟩; exact ⟨⟨a, b, fun k e => by cases e⟩, c⟩

/-! ### what is got -/
theorem getKey_some_mem {key v : ByteArray} {l : List Pr} (h : getKey key l = some v) : (key, v) ∈ l := by
  induction l with
  | nil => cases h
  | cons p l ih =>
    rw [getKey] at h
    by_cases hp : p.1 = key
    · rw [if_pos hp] at h
      have : p.2 = v := Option.some.inj h
      subst hp; subst this; exact List.mem_cons_self
    · rw [if_neg hp] at h; exact List.mem_cons_of_mem _ (ih h)
theorem getKey_none_iff {key : ByteArray} {l : List Pr} : getKey key l = none ↔ ∀ p ∈ l, p.1 ≠ key := by
  induction l with
  | nil => simp [getKey]
  | cons p l ih =>
    rw [getKey]
    by_cases hp : p.1 = key
    · rw [if_pos hp]
      exact ⟨fun h => (by cases h), fun h => absurd hp (h p List.mem_cons_self)⟩
    · rw [if_neg hp, ih]; simp [hp]
theorem getKey_isSome {l : List Pr} {p : Pr} (h : p ∈ l) : ∃ v, getKey p.1 l = some v := by
  cases e : getKey p.1 l with
  | some v => exact ⟨v, rfl⟩
  | none => exact absurd rfl (getKey_none_iff.1 e p h)
theorem getKey_setFirst_same {key val : ByteArray} {l : List Pr} (h : (getKey key l).isSome = true) : getKey key (setFirst key val l) = some val := by
  induction l with
  | nil => cases h
  | cons p l ih =>
    rw [getKey] at h
    by_cases hp : p.1 = key
    · rw [setFirst, if_pos hp, getKey, if_pos hp]
    · rw [if_neg hp] at h; rw [setFirst, if_neg hp, getKey, if_neg hp]; exact ih h
theorem getKey_setFirst_other {key val k : ByteArray} {l : List Pr} (h : k ≠ key) : getKey k (setFirst key val l) = getKey k l := by
  induction l with
  | nil => rfl
  | cons p l ih =>
    by_cases hp : p.1 = key
    · rw [setFirst, if_pos hp, getKey, getKey, if_neg (by rw [hp]; exact h.symm), if_neg (by rw [hp]; exact h.symm)]
    · rw [setFirst, if_neg hp, getKey, getKey, ih]
theorem getKey_put_same (key val : ByteArray) (l : List Pr) : getKey key (putKey key val l) = some val := by
  unfold putKey
  split
  · rename_i h; exact getKey_setFirst_same h
  · rename_i h
    have hn : getKey key l = none := by cases e : getKey key l with | none => rfl | some v => rw [e] at h; exact absurd rfl h
    have h1 := getKey_none_iff.1 hn
    rw [getKey_append, getKey_none_iff.2 (fun p hp => h1 p (List.mem_of_mem_take hp)), getKey, if_pos rfl]; rfl
theorem getKey_put_other {key k : ByteArray} (val : ByteArray) (l : List Pr) (h : k ≠ key) : getKey k (putKey key val l) = getKey k l := by
  unfold putKey
  split
  · exact getKey_setFirst_other h
  · rw [getKey_append, getKey, if_neg h.symm, ← getKey_append, List.take_append_drop]
theorem getKey_del_same (key : ByteArray) (l : List Pr) : getKey key (delKey key l) = none :=
  getKey_none_iff.2 fun p hp => of_decide_eq_true (List.mem_filter.1 hp).2
theorem getKey_del_other {key k : ByteArray} (l : List Pr) (h : k ≠ key) : getKey k (delKey key l) = getKey k l := by
  unfold delKey
  induction l with
  | nil => rfl
  | cons p l ih =>
    by_cases hp : p.1 = key
    · rw [List.filter_cons_of_neg (by simp [hp]), ih, getKey, if_neg (by rw [hp]; exact h.symm)]
    · rw [List.filter_cons_of_pos (by simp [hp]), getKey, getKey, ih]

/-! ### pairs that stay right -/
theorem setFirst_keys (key val : ByteArray) (l : List Pr) : (setFirst key val l).map (·.1) = l.map (·.1) := by
  induction l with
  | nil => rfl
  | cons p l ih => unfold setFirst; split <;> simp [ih]
theorem rise_keys {l m : List Pr} (h : l.map (·.1) = m.map (·.1)) (hl : Rise l) : Rise m := by
  have e : ∀ l : List Pr, Rise l ↔ (l.map (·.1)).Pairwise fun a b => ltB a b = true := fun l => by unfold Rise; rw [List.pairwise_map]
  rw [e] at *; rw [← h]; exact hl
theorem setFirst_mem {key val : ByteArray} {l : List Pr} {p : Pr} (h : p ∈ setFirst key val l) : p ∈ l ∨ p = (key, val) := by
  induction l with
  | nil => exact absurd h List.not_mem_nil
  | cons q l ih =>
    unfold setFirst at h
    split at h
    · rename_i hq
      rcases List.mem_cons.1 h with e | e
      · right; rw [e, hq]
      · left; exact List.mem_cons_of_mem _ e
    · rcases List.mem_cons.1 h with e | e
      · left; rw [e]; exact List.mem_cons_self
      · rcases ih e with h1 | h1
        · left; exact List.mem_cons_of_mem _ h1
        · right; exact h1
theorem putKey_mem {key val : ByteArray} {l : List Pr} {p : Pr} (h : p ∈ putKey key val l) : p ∈ l ∨ p = (key, val) := by
  unfold putKey at h
  split at h
  · exact setFirst_mem h
  · rcases List.mem_append.1 h with h1 | h1
    · left; exact List.mem_of_mem_take h1
    · rcases List.mem_cons.1 h1 with h2 | h2
      · right; exact h2
      · left; exact List.mem_of_mem_drop h2
theorem below_take {key : ByteArray} {l : List Pr} : ∀ p ∈ l.take (below key l), ltB key p.1 = false := by
  induction l with
  | nil => intro p hp; exact absurd hp (by simp)
  | cons q l ih =>
    intro p hp
    unfold below at hp
    split at hp
    · exact absurd hp (by simp)
    · rename_i hq
      rw [List.take_succ_cons] at hp
      rcases List.mem_cons.1 hp with e | e
      · subst e; simpa using hq
      · exact ih p e
theorem below_dropR {key : ByteArray} {l : List Pr} (hr : Rise l) : ∀ p ∈ l.drop (below key l), ltB key p.1 = true := by
  induction l with
  | nil => intro p hp; exact absurd hp (by simp)
  | cons q l ih =>
    have hr' := List.pairwise_cons.1 hr
    intro p hp
    unfold below at hp
    split at hp
    · rename_i hq
      rw [List.drop_zero] at hp
      rcases List.mem_cons.1 hp with e | e
      · subst e; exact hq
      · exact ltB_trans hq (hr'.1 p e)
    · rw [List.drop_succ_cons] at hp; exact ih hr'.2 p hp
theorem rise_put {key val : ByteArray} {l : List Pr} (h : Rise l) : Rise (putKey key val l) := by
  unfold putKey
  split
  · exact rise_keys (setFirst_keys key val l).symm h
  · rename_i hn
    have hn' : getKey key l = none := by cases e : getKey key l with | none => rfl | some v => rw [e] at hn; exact absurd rfl hn
    have hne := getKey_none_iff.1 hn'
    have hsplit : Rise (l.take (below key l) ++ l.drop (below key l)) := by rw [List.take_append_drop]; exact h
    have hp := List.pairwise_append.1 hsplit
    refine List.pairwise_append.2 ⟨hp.1, List.Pairwise.cons (fun p hp' => below_dropR h p hp') hp.2.1, ?_⟩
    intro p hp1 q hq
    have hpk : ltB p.1 key = true := by
      have h1 := below_take p hp1
      cases h2 : ltB p.1 key
      · exact absurd (ltB_total h2 h1) (hne p (List.mem_of_mem_take hp1))
      · rfl
    rcases List.mem_cons.1 hq with e | e
    · subst e; exact hpk
    · exact hp.2.2 p hp1 q e
theorem pairsOk_put {key val : ByteArray} {l : List Pr} (h : pairsOk l = true) (hk : keyOk key = true) (hv : val.size ≤ 20) (hl : l.length ≠ 60) : pairsOk (putKey key val l) = true := by
  obtain ⟨⟨h1, h2⟩, h3⟩ := (pairsOk_iff l).1 h
  refine (pairsOk_iff _).2 ⟨⟨fun p hp => ?_, rise_put h2⟩, by have := putKey_length key val l; omega⟩
  rcases putKey_mem hp with e | e
  · exact h1 p e
  · subst e; unfold pairOk; rw [hk]; simpa using hv
theorem pairsOk_del {key : ByteArray} {l : List Pr} (h1 : ∀ p ∈ l, pairOk p = true) (h2 : Rise l) (h3 : (delKey key l).length ≤ 60) : pairsOk (delKey key l) = true :=
  (pairsOk_iff _).2 ⟨⟨fun p hp => h1 p (List.mem_filter.1 hp).1, List.Pairwise.filter _ h2⟩, h3⟩

/-! ### between -/
theorem ltB_empty (a : ByteArray) : ltB a ⟨#[]⟩ = false := by
  rw [Bool.eq_false_iff]; intro h; exact absurd ((ltB_iff a ⟨#[]⟩).1 h) (by simp)
theorem inB_open (lo k : ByteArray) : inB lo ⟨#[]⟩ k = !ltB k lo := by
  unfold inB; rw [decide_eq_true (show (⟨#[]⟩ : ByteArray).size = 0 from rfl)]; simp
theorem between_all (l : List Pr) : between ⟨#[]⟩ ⟨#[]⟩ l = l := by
  unfold between
  rw [List.filter_eq_self]
  intro p _
  unfold inB; rw [ltB_empty]; rfl
theorem between_len (lo hi : ByteArray) (l : List Pr) (h0 : hi.size ≠ 0) (h : ltB hi lo = false) : (between lo ⟨#[]⟩ l).length = (between lo hi l).length + (between hi ⟨#[]⟩ l).length := by
  unfold between
  induction l with
  | nil => rfl
  | cons p l ih =>
    have e1 := inB_open lo p.1
    have e2 : inB lo hi p.1 = (!ltB p.1 lo && ltB p.1 hi) := by unfold inB; simp [h0]
    have e3 := inB_open hi p.1
    simp only [List.filter_cons, e1, e2, e3]
    cases a1 : ltB p.1 lo
    · cases a2 : ltB p.1 hi
      · simp [a1, a2]; omega
      · simp [a1, a2]; omega
    · have a2 : ltB p.1 hi = true := by
        cases a2 : ltB p.1 hi
        · cases a3 : ltB lo hi
          · have := ltB_total h a3; rw [← this] at a1; rw [a1] at a2; cases a2
          · exact absurd (ltB_trans a1 a3) (by rw [a2]; simp)
        · rfl
      simp [a1, a2]; omega
theorem between_split (lo hi : ByteArray) (l : List Pr) (h0 : hi.size ≠ 0) (h : ltB hi lo = false) (hr : Rise l) : between lo ⟨#[]⟩ l = between lo hi l ++ between hi ⟨#[]⟩ l := by
  unfold between
  induction l with
  | nil => rfl
  | cons p l ih =>
    have hr' := List.pairwise_cons.1 hr
    have ih' := ih hr'.2
    have e1 := inB_open lo
    have e2 : ∀ k, inB lo hi k = (!ltB k lo && ltB k hi) := fun k => by unfold inB; simp [h0]
    have e3 := inB_open hi
    cases a1 : ltB p.1 lo
    · cases a2 : ltB p.1 hi
      · have hnone : l.filter (fun p => inB lo hi p.1) = [] := by
          rw [List.filter_eq_nil_iff]
          intro q hq
          rw [e2]
          have h4 := hr'.1 q hq
          have : ltB q.1 hi = false := by
            cases h5 : ltB q.1 hi
            · rfl
            · exact absurd (ltB_trans h4 h5) (by rw [a2]; simp)
          simp [this]
        rw [hnone, List.nil_append] at ih'
        rw [List.filter_cons_of_pos (by rw [e1, a1]; rfl), List.filter_cons_of_neg (by rw [e2, a1, a2]; simp), List.filter_cons_of_pos (by rw [e3, a2]; rfl), hnone, ih']; rfl
      · rw [List.filter_cons_of_pos (by rw [e1, a1]; rfl), List.filter_cons_of_pos (by rw [e2, a1, a2]; rfl), List.filter_cons_of_neg (by rw [e3, a2]; simp), ih']; rfl
    · have a2 : ltB p.1 hi = true := by
        cases a2 : ltB p.1 hi
        · cases a3 : ltB lo hi
          · have := ltB_total h a3; rw [← this] at a1; rw [a1] at a2; cases a2
          · exact absurd (ltB_trans a1 a3) (by rw [a2]; simp)
        · rfl
      rw [List.filter_cons_of_neg (by rw [e1, a1]; simp), List.filter_cons_of_neg (by rw [e2, a1]; simp), List.filter_cons_of_neg (by rw [e3, a2]; simp), ih']

/-! ### union -/
theorem unionOf_cons (a : List Pr) (p : Pr) (b : List Pr) : unionOf a (p :: b) = unionOf (putKey p.1 p.2 a) b := rfl
theorem getKey_union_other (a b : List Pr) (k : ByteArray) (h : ∀ p ∈ b, p.1 ≠ k) : getKey k (unionOf a b) = getKey k a := by
  induction b generalizing a with
  | nil => rfl
  | cons p b ih =>
    rw [unionOf_cons, ih _ (fun q hq => h q (List.mem_cons_of_mem _ hq)), getKey_put_other _ _ (h p List.mem_cons_self).symm]
theorem getKey_union (a b : List Pr) (hr : Rise b) : ∀ p ∈ b, getKey p.1 (unionOf a b) = some p.2 := by
  induction b generalizing a with
  | nil => intro p hp; exact absurd hp List.not_mem_nil
  | cons q b ih =>
    have hr' := List.pairwise_cons.1 hr
    intro p hp
    rw [unionOf_cons]
    rcases List.mem_cons.1 hp with e | e
    · subst e
      rw [getKey_union_other _ _ _ (fun r hr2 => (ltB_ne (hr'.1 r hr2)).symm), getKey_put_same]
    · exact ih _ hr'.2 p e
theorem setFirst_id {key val : ByteArray} {l : List Pr} (h : getKey key l = some val) : setFirst key val l = l := by
  induction l with
  | nil => rfl
  | cons p l ih =>
    rw [getKey] at h
    unfold setFirst
    by_cases hp : p.1 = key
    · rw [if_pos hp] at h ⊢; rw [← Option.some.inj h]
    · rw [if_neg hp] at h ⊢; rw [ih h]
theorem put_id {key val : ByteArray} {l : List Pr} (h : getKey key l = some val) : putKey key val l = l := by
  unfold putKey; rw [h, if_pos (by rfl), setFirst_id h]
theorem union_id (u b : List Pr) (h : ∀ p ∈ b, getKey p.1 u = some p.2) : unionOf u b = u := by
  induction b with
  | nil => rfl
  | cons p b ih => rw [unionOf_cons, put_id (h p List.mem_cons_self), ih (fun q hq => h q (List.mem_cons_of_mem _ hq))]
theorem union_len (a b : List Pr) : a.length ≤ (unionOf a b).length ∧ (unionOf a b).length ≤ a.length + b.length := by
  induction b generalizing a with
  | nil => simp [unionOf]
  | cons p b ih =>
    have := ih (putKey p.1 p.2 a)
    have := putKey_length p.1 p.2 a
    rw [unionOf_cons, List.length_cons]; omega

end Go.Proofs.Ytdeaiefhegjalaa.pairs
