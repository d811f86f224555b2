/- Rows that a call makes, appends and conversions: small facts on worlds; no function of the program is named here. -/
import Derived.Test.YtmpggohilmngpaaRows
import Derived.Test.YtmpggohilmngpaaBase
import Derived.Deep.QuietTactic
import Derived.BigQuiet
import Derived.Deep.RegionWith
import Derived.Laws.CopyOwn
import Derived.Laws.BytesArg
import Derived.Lib.AppendStr
import Derived.ArgAppend
import Derived.Deep.RegionLaw
namespace Go.Proofs.Ytmpggohilmngpaa.base
open Go.RowKit
set_option linter.unusedVariables false
set_option linter.unusedSimpArgs false

theorem grownBy_trans {a b c : World} {row : Option Nat} (h : a.grownBy b row) (k : b.grownBy c row) : a.grownBy c row :=
  ⟨k.os.trans h.os, k.tape.trans h.tape, k.output.trans h.output, Nat.le_trans h.size k.size, fun i hi hr => (k.block i (Nat.lt_of_lt_of_le hi h.size) hr).trans (h.block i hi hr)⟩
theorem Hid.mk' {p : Prop} (h : p) : Hid p := h
theorem info8 : (Try.prog.info? 5).map (fun i => (i.zero, i.size, i.bytes)) = some (some (.int .u8 0), 1, 1) := by kernel_rfl
theorem byteVals_set (bs : List UInt8) (k : Nat) (u : UInt8) : (byteVals bs).set k (.int .u8 u.toNat) = byteVals (bs.set k u) := by simp [byteVals]
theorem own_set {w : World} {base g n cap : Nat} {bs : List UInt8} (h : Own w base g n cap bs) (k : Nat) (u : UInt8) :
    Own (w.setCell ⟨g, k, none⟩ (.int .u8 u.toNat)) base g n cap (bs.set k u) ∧ w.grownBy (w.setCell ⟨g, k, none⟩ (.int .u8 u.toNat)) (some g) := by
  have hs := h.2.stored k (.int .u8 u.toNat)
  rw [byteVals_set] at hs
  exact ⟨⟨by simpa using h.1, hs.1⟩, hs.2⟩
theorem drewN_cell (w : World) (n : Nat) (a : Addr) : (w.drewN n).cell? a = w.cell? a := rfl
theorem byte_of (n : Nat) : ((UInt8.ofNat n).toNat : Int) = (n : Int) % 256 := by simp [UInt8.toNat_ofNat']
theorem one_oneCell (k : IntKind) (x : Int) : ∀ u ∈ [Value.int k x], u.oneCell' = true := by
  intro u hu; simp at hu; subst hu; rfl
theorem le_alloc {base : Nat} (w : World) (o : Obj) (h : base ≤ w.heap.size) : base ≤ (w.alloc o).heap.size := by simp; omega
theorem one_val {x : Int} {u : UInt8} (h : x = (u.toNat : Int)) : [Value.int .u8 x] = byteVals [u] := by rw [h]; rfl
theorem byteVals_append (a b : List UInt8) : byteVals (a ++ b) = byteVals a ++ byteVals b := by simp [byteVals]
theorem own_app {w' : World} {base n m : Nat} {v' : Value} {bs ns : List UInt8} {news : List Value} (hl : bs.length = n) (hln : ns.length = m) (he : news = byteVals ns) (h0 : ¬ v' = .slice none 0 0)
    (h : w'.ownsRow base 5 1 v' (n + m) (byteVals bs ++ news)) : ∃ g' cap', v' = .slice (some ⟨g', 0, none⟩) (n + m) cap' ∧ Own w' base g' (n + m) cap' (bs ++ ns) := by
  subst he
  rw [← byteVals_append] at h
  rcases h.2 with ⟨h2, _⟩ | ⟨g', cap', cur, hv, _⟩
  · exact absurd h2 h0
  · subst hv
    exact ⟨g', cap', rfl, by simp; omega, h⟩
/-- the row itself, where a slice of n bytes fills it -/
theorem own_row {w : World} {base g n : Nat} {bs : List UInt8} (h : Own w base g n n bs) : w.heap[g]? = some (.cells (byteVals bs).toArray 5 (0, 0)) := by
  rcases h.2.2 with ⟨h', _⟩ | ⟨g', cap', cur, h', _, hg, _, _, hs, ht⟩
  · simp at h'
  · simp only [Value.slice.injEq, Option.some.injEq, Addr.mk.injEq, and_true, true_and] at h'
    obtain ⟨rfl, rfl⟩ := h'
    rw [hg, ← ht, List.take_of_length_le (by simp [hs])]
theorem own_of_row {w : World} {base g n : Nat} {bs : List UInt8} (hn : bs.length = n) (hm : n ≤ maxLen) (hb : base ≤ g) (h : w.heap[g]? = some (.cells (byteVals bs).toArray 5 (0, 0))) : Own w base g n n bs :=
  ⟨hn, by rw [byteVals_length]; omega, .inr ⟨g, n, _, rfl, hb, h, Nat.le_refl _, hm, by simp [byteVals_length, hn], by rw [List.take_of_length_le (by simp [byteVals_length]; omega)]⟩⟩
theorem byteVals_oneCell (bs : List UInt8) : ∀ v ∈ byteVals bs, v.oneCell' = true := by
  intro v hv; obtain ⟨_, _, rfl⟩ := List.mem_map.1 hv; rfl
theorem own_val {w' : World} {base n : Nat} {v' : Value} {bs : List UInt8} (hl : bs.length = n) (h0 : ¬ v' = .slice none 0 0)
    (h : w'.ownsRow base 5 1 v' n (byteVals bs)) : ∃ g' cap', v' = .slice (some ⟨g', 0, none⟩) n cap' ∧ Own w' base g' n cap' bs := by
  rcases h.2 with ⟨h2, _⟩ | ⟨g', cap', cur, hv, _⟩
  · exact absurd h2 h0
  · subst hv
    exact ⟨g', cap', rfl, hl, h⟩
theorem sl_cells {w : World} {b off len : Nat} {bs : List UInt8} (h : Sl w (some ⟨b, off, none⟩) len bs) : ∀ j v, (byteVals bs)[j]? = some v → w.cell? ((⟨b, off, none⟩ : Addr).add j) = some v := by
  intro j v hj
  have hjl : j < bs.length := by have := (List.getElem?_eq_some_iff.1 hj).1; rwa [byteVals_length] at this
  rw [Addr.add_lit, h.at j hjl, ← hj]
  simp [byteVals, hjl]
theorem byteVals_nil : ([] : List Value) = byteVals [] := rfl
def cut (bs : List UInt8) (p n : Nat) : ByteArray := ⟨((bs.drop p).take n).toArray⟩
theorem cut_data (bs : List UInt8) (p n : Nat) : (cut bs p n).data.toList = (bs.drop p).take n := by simp [cut]
theorem cut_size (bs : List UInt8) (p n : Nat) (h : p + n ≤ bs.length) : (cut bs p n).size = n := by
  show ((bs.drop p).take n).toArray.size = n
  simp; omega
theorem conv_cut {w : World} {b off p n : Nat} {bs : List UInt8} {len : Nat} (h : Sl w (some ⟨b, off, none⟩) len bs) (hp : p + n ≤ bs.length) (c : Nat) :
    (convert 51 9 (.slice (some ⟨b, off + p, none⟩) n c)).run Try.prog w = .ok (.string (cut bs p n)) w := by
  have hr := run_convert_bytes_arg (P := Try.prog) w 51 5 Try.underlying51 Try.underlying5 b (off + p) n c (((bs.drop p).take n).map fun u => (u.toNat : Int)) (by simp; omega) ?_ 9 Try.underlying9
  · rw [hr]
    have e : strOfNums (((bs.drop p).take n).map fun u => (u.toNat : Int)) = cut bs p n := by
      simp [strOfNums, cut, Function.comp_def]
    rw [e]
  · intro i hi
    have hpi : p + i < bs.length := by omega
    rw [show off + p + i = off + (p + i) by omega, h.at (p + i) hpi]
    simp [List.getD, hpi, hi]
theorem conv_none {w : World} {b off : Nat} {bs : List UInt8} (p : Nat) (c : Nat) :
    (convert 51 9 (.slice (some ⟨b, off, none⟩) 0 c)).run Try.prog w = .ok (.string (cut bs p 0)) w := by
  rw [run_convert_bytes_arg (P := Try.prog) w 51 5 Try.underlying51 Try.underlying5 b off 0 c [] rfl (fun i hi => absurd hi (by omega)) 9 Try.underlying9]
  simp [strOfNums, cut]
theorem info9 : (Try.prog.info? 9).map (fun i => (i.zero, i.size, i.bytes)) = some (some (.string ⟨#[]⟩), 1, 16) := by kernel_rfl
theorem strVals_set (ss : List ByteArray) (k : Nat) (u : ByteArray) : (strVals ss).set k (.string u) = strVals (ss.set k u) := by simp [strVals]
theorem ownS_set {w : World} {base g n cap : Nat} {ss : List ByteArray} (h : OwnS w base g n cap ss) (k : Nat) (u : ByteArray) (hu : u.size ≤ maxLen) :
    OwnS (w.setCell ⟨g, k, none⟩ (.string u)) base g n cap (ss.set k u) ∧ w.grownBy (w.setCell ⟨g, k, none⟩ (.string u)) (some g) := by
  have hs := h.2.2.stored k (.string u)
  rw [strVals_set] at hs
  refine ⟨⟨by simpa using h.1, ?_, hs.1⟩, hs.2⟩
  intro s hx
  rcases List.mem_or_eq_of_mem_set hx with hx | hx
  · exact h.2.1 s hx
  · subst hx; exact hu
theorem ret_str {a b : ByteArray} (h : a = b) : Ending.returned (.string a) = .returned (.string b) := by rw [h]
theorem conv_one (w : World) (x : Int) (u : UInt8) (hx : x = (u.toNat : Int)) (c : Nat) :
    (convert 51 9 (.slice (some ⟨w.heap.size, 0, none⟩) 1 c)).run Try.prog (w.alloc (.cells #[.int .u8 x] 5)) = .ok (.string ⟨#[u]⟩) (w.alloc (.cells #[.int .u8 x] 5)) := by
  rw [run_convert_bytes_arg (P := Try.prog) _ 51 5 Try.underlying51 Try.underlying5 w.heap.size 0 1 c [x] rfl ?_ 9 Try.underlying9]
  · subst hx; simp [strOfNums]
  · intro i hi
    have : i = 0 := by omega
    subst this
    simp
/-- steps of one row: nothing but block g, and new blocks -/
theorem grown_below {w w1 w2 : World} {g : Nat} (h : w.grownBy w1 (some g)) (hb : Below w1.heap.size w1 w2) : w.grownBy w2 (some g) :=
  ⟨hb.os.trans h.os, hb.tape.trans h.tape, hb.output.trans h.output, Nat.le_trans h.size hb.size, fun k hk hr => (hb.block k (Nat.lt_of_lt_of_le hk h.size)).trans (h.block k hk hr)⟩
theorem ownS_val {w' : World} {base n : Nat} {v' : Value} {ss : List ByteArray} (hl : ss.length = n) (hs : ∀ s ∈ ss, s.size ≤ maxLen) (h0 : ¬ v' = .slice none 0 0)
    (h : w'.ownsRow base 9 1 v' n (strVals ss)) : ∃ g' cap', v' = .slice (some ⟨g', 0, none⟩) n cap' ∧ OwnS w' base g' n cap' ss := by
  rcases h.2 with ⟨h2, _⟩ | ⟨g', cap', cur, hv, _⟩
  · exact absurd h2 h0
  · subst hv
    exact ⟨g', cap', rfl, hl, hs, h⟩
theorem ownS_made (w : World) (base : Nat) (hb : base ≤ w.heap.size) : OwnS (w.alloc (.cells #[] 9)) base w.heap.size 0 0 [] :=
  ⟨rfl, fun s h => absurd h List.not_mem_nil, World.ownsRow_made w #[] 0 hb (Nat.zero_le _) rfl⟩
theorem str_oneCell (x : ByteArray) : ∀ u ∈ [Value.string x], u.oneCell' = true := by
  intro u hu; simp at hu; subst hu; rfl
theorem leAlloc {base : Nat} (w : World) (o : Obj) (h : base ≤ w.heap.size) : base ≤ (w.alloc o).heap.size := by simp; omega
theorem strVals_snoc (ss : List ByteArray) (s : ByteArray) : strVals (ss ++ [s]) = strVals ss ++ [.string s] := by simp [strVals]
theorem cell_cur {w : World} {gc : Nat} {cur : Array Value} {t : TypeId} {mk : Nat × Nat} (h : w.heap[gc]? = some (.cells cur t mk)) (j : Nat) (v : Value) (hj : cur[j]? = some v) : w.cell? ⟨gc, j, none⟩ = some v := by
  rw [cell_of_row w gc j cur t mk h]; exact hj
theorem set_cur {w : World} {gc : Nat} {cur : Array Value} {t : TypeId} (h : w.heap[gc]? = some (.cells cur t (0, 0))) (j : Nat) (v : Value) :
    (w.setCell ⟨gc, j, none⟩ v).heap[gc]? = some (.cells (cur.setIfInBounds j v) t (0, 0)) ∧ w.grownBy (w.setCell ⟨gc, j, none⟩ v) (some gc) :=
  ⟨heap_setCell_same w gc j cur t v h, ⟨rfl, rfl, rfl, by simp, fun k _ hk => heap_setCell_other w ⟨gc, j, none⟩ k v (fun e => hk (by simp [e]))⟩⟩
theorem grown_drewN {w w1 : World} {row : Option Nat} (h : w.grownBy w1 row) (n : Nat) : w.grownBy (w1.drewN n) row := ⟨h.os, h.tape, h.output, h.size, h.block⟩
theorem grown_own {w wr w2 : World} {gc g : Nat} (h : w.grownBy wr (some gc)) (h2 : wr.grownBy w2 (some g)) (hg : w.heap.size ≤ g) : w.grownBy w2 (some gc) :=
  ⟨h2.os.trans h.os, h2.tape.trans h.tape, h2.output.trans h.output, Nat.le_trans h.size h2.size, fun k hk hne => (h2.block k (Nat.lt_of_lt_of_le hk h.size) (by intro e; simp only [Option.some.injEq] at e; omega)).trans (h.block k hk hne)⟩
theorem grown_alloc {w wr : World} {row : Option Nat} (h : w.grownBy wr row) (o : Obj) : w.grownBy (wr.alloc o) row :=
  ⟨h.os, h.tape, h.output, by have := h.size; simp; omega, fun k hk hne => (Below.heap_alloc wr o k (Nat.lt_of_lt_of_le hk h.size)).trans (h.block k hk hne)⟩
theorem own_made (w : World) (base : Nat) (hb : base ≤ w.heap.size) : Own (w.alloc (.cells #[] 5)) base w.heap.size 0 0 [] :=
  ⟨rfl, World.ownsRow_made w #[] 0 hb (Nat.zero_le _) rfl⟩
theorem byte_x (x : Int) (h0 : 0 ≤ x) (h1 : x ≤ 255) : x = ((UInt8.ofNat x.toNat).toNat : Int) := by rw [byte_of]; omega
theorem grown_alloc0 (w : World) (o : Obj) (row : Option Nat) : w.grownBy (w.alloc o) row := World.grownBy_alloc w o row
theorem conv_own {w : World} {base g m cp : Nat} {bs : List UInt8} (h : Own w base g m cp bs) :
    (convert 51 9 (.slice (some ⟨g, 0, none⟩) m cp)).run Try.prog w = .ok (.string ⟨bs.toArray⟩) w := by
  have h1 := conv_cut (w := w) (b := g) (off := 0) (p := 0) (n := m) h.sl (by have := h.1; omega) cp
  have e : cut bs 0 m = ⟨bs.toArray⟩ := by unfold cut; rw [List.drop_zero, List.take_of_length_le (by have := h.1; omega)]
  rw [e] at h1
  exact h1
/-- block g holds the bytes bs from its head on; they may be written -/
def Wr (w : World) (g n : Nat) (bs : List UInt8) : Prop :=
  bs.length = n ∧ n ≤ maxLen ∧ g < w.heap.size ∧ ∀ i (h : i < bs.length), w.cell? ⟨g, i, none⟩ = some (.int .u8 bs[i].toNat) ∧ w.frozen? ⟨g, i, none⟩ = false
theorem Wr.sl {w : World} {g n : Nat} {bs : List UInt8} (h : Wr w g n bs) : Sl w (some ⟨g, 0, none⟩) n bs :=
  ⟨h.1, h.2.1, fun _ => ⟨g, 0, rfl, fun i hi => by rw [Nat.zero_add]; exact (h.2.2.2 i hi).1⟩⟩
theorem Wr.below {w w' : World} {g n : Nat} {bs : List UInt8} (h : Wr w g n bs) (hb : Below w.heap.size w w') : Wr w' g n bs :=
  ⟨h.1, h.2.1, Nat.lt_of_lt_of_le h.2.2.1 hb.size, fun i hi => ⟨(hb.cell (p := ⟨g, i, none⟩) h.2.2.1).trans (h.2.2.2 i hi).1, (hb.frozen (p := ⟨g, i, none⟩) h.2.2.1).trans (h.2.2.2 i hi).2⟩⟩
theorem Own.wr {w : World} {base g n cap : Nat} {bs : List UInt8} (h : Own w base g n cap bs) : Wr w g n bs :=
  ⟨h.1, by have := h.max; omega, h.lt.2, fun i hi => ⟨h.at i hi, h.frozen i⟩⟩
theorem byteVals_get (bs : List UInt8) (j : Nat) (u : Value) (h : (byteVals bs)[j]? = some u) : ∃ hj : j < bs.length, u = .int .u8 bs[j].toNat := by
  have hjl : j < bs.length := by have := (List.getElem?_eq_some_iff.1 h).1; rwa [byteVals_length] at this
  refine ⟨hjl, ?_⟩
  have : (byteVals bs)[j]? = some (.int .u8 bs[j].toNat) := by simp [byteVals, hjl]
  rw [this] at h
  exact (Option.some.inj h).symm

/-- append onto a row of the call's own, as one step of a region that draws its order -/
theorem step_append_own {P : Program} {ops : Array Oper} {o : Oper} {a : Act} {w : World} {K : Act → World → Prop} {Q : Exit → Act → World → Prop} {E : Prop} (hgd : o.guard = none) (s x : Operand) (t : TypeId)
    (ho : o.op = .call { callee := .builtin .append, args := #[s, x], argTypes := #[t, t] })
    (base : Nat) (e : TypeId) (i : TypeInfo) (z : Value) (size bytes : Nat) (ht : P.underlying t = some (.slice e)) (hi : P.info? e = some i) (hz : i.zero = some z)
    (hsize : i.size = size) (hby : i.bytes = bytes) (hzs : z.cells.size = size) (hsz : 0 < size)
    (v : Value) (n : Nat) (xs : List Value) (hs : a.eval s = v) (hown : w.ownsRow base e size v n xs)
    (ad : Addr) (m c : Nat) (news : List Value) (hx : a.eval x = .slice (some ad) m c) (hl : news.length = m * size) (hnews : ∀ j u, news[j]? = some u → w.cell? (ad.add j) = some u) (h1 : ∀ u ∈ news, u.oneCell' = true)
    (h63 : n + m ≤ maxLen) (hbytes : (n + m) * bytes ≤ 140737488355328) (hbase : base ≤ w.heap.size)
    (h : ∀ v' w', w'.ownsRow base e size v' (n + m) (xs ++ news) → w.grownBy w' v.ownBlock → (v' = .slice none 0 0 ↔ v = .slice none 0 0 ∧ m = 0) → K (a.put o.dst v') w') :
    if Region.wanted o (yielded ops a.tmps) = true then Oper.wp P o a w K Q else E := by
  have hw : Region.wanted o (yielded ops a.tmps) = true := by simp [Region.wanted, hgd]
  rw [if_pos hw]
  exact wp_append_own w s x t ho base e i z size bytes ht hi hz hsize hby hzs hsz v n xs hs hown ad m c news hx hl hnews h1 h63 hbytes hbase h
theorem cells_two (w : World) (x y : Value) (t : TypeId) : ∀ j u, [x, y][j]? = some u → (w.alloc (.cells #[x, y] t)).cell? ((⟨w.heap.size, 0, none⟩ : Addr).add j) = some u := by
  intro j u hj
  match j, hj with
  | 0, hj => simp at hj; subst hj; simp [Addr.add]
  | 1, hj => simp at hj; subst hj; simp [Addr.add]
theorem two_oneCell (k : IntKind) (x y : Int) : ∀ u ∈ [Value.int k x, Value.int k y], u.oneCell' = true := by
  intro u hu; simp at hu; rcases hu with rfl | rfl <;> rfl

end Go.Proofs.Ytmpggohilmngpaa.base
