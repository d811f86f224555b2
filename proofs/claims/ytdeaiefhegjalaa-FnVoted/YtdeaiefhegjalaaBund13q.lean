/- The cursor from which the laws draw: what each call does to it. The specification's union. -/
import Derived.Test.YtdeaiefhegjalaaRows
import Derived.Test.YtdeaiefhegjalaaBund12aa
import Derived.Test.YtdeaiefhegjalaaBund12ab
import Derived.Test.YtdeaiefhegjalaaBund12aj
namespace Go.Proofs.Ytdeaiefhegjalaa.draw
open Go.RowKit Go.Proofs.Ytdeaiefhegjalaa.base
set_option linter.unusedVariables false
set_option linter.unusedSimpArgs false

/-- block gc is a cursor over the bytes 'code', which lie where they lay in the world w0 -/
def Cur (w0 w : World) (gc : Nat) (a : Option Addr) (len cap : Nat) (code : List UInt8) : Prop :=
  Sl w0 a len code ∧ Below w0.heap.size w0 w ∧ w0.heap.size ≤ gc ∧ len ≤ 1099511627776 ∧
  ∃ i h : Int, 0 ≤ i ∧ i ≤ len ∧ w.heap[gc]? = some (.cells #[.slice a len cap, .int .i64 i, .int .i64 h] 63 (0, 0))

theorem and_byte (z : Int) : 0 ≤ bits .and .i64 z 255 ∧ bits .and .i64 z 255 ≤ 255 := by
  have e : bits .and .i64 z 255 = IntKind.i64.wrap (((BitVec.ofInt 64 z) &&& (BitVec.ofInt 64 255)).toNat : Int) := rfl
  have h : ((BitVec.ofInt 64 z) &&& (BitVec.ofInt 64 255)).toNat ≤ 255 := by
    rw [BitVec.toNat_and]
    exact Nat.le_trans Nat.and_le_right (by decide)
  rw [e, wraps_i64 _ (by omega) (by omega)]
  omega

theorem cur_of {w0 w w1 : World} {gc : Nat} {a : Option Addr} {len cap : Nat} {code : List UInt8} {i h : Int} (hS : Sl w0 a len code) (hB : Below w0.heap.size w0 w) (hgc : w0.heap.size ≤ gc) (hln : len ≤ 1099511627776)
    (hi0 : 0 ≤ i) (hi1 : i ≤ len) (hg : w.grownBy w1 (some gc)) (hr : w1.heap[gc]? = some (.cells #[.slice a len cap, .int .i64 i, .int .i64 h] 63 (0, 0))) : Cur w0 w1 gc a len cap code :=
  ⟨hS, hB.grown hg hB.size (fun k e => by cases e; exact hgc), hgc, hln, i, h, hi0, hi1, hr⟩

set_option maxRecDepth 100000 in
set_option maxHeartbeats 1000000 in
theorem byte_ (w0 w : World) (gc : Nat) (a : Option Addr) (len cap : Nat) (code : List UInt8) (h : Cur w0 w gc a len cap code) :
    Calls Try.prog 30 #[.pointer (some ⟨gc, 0, none⟩)] w fun e w' => ∃ x : Int, 0 ≤ x ∧ x ≤ 255 ∧ e = .returned (.int .i64 x) ∧ Cur w0 w' gc a len cap code ∧ w.grownBy w' (some gc) := by
  obtain ⟨hS, hB, hgc, hln, i, hh, hi0, hi1, hrow⟩ := h
  have c0 : w.cell? ⟨gc, 0, none⟩ = some (.slice a len cap) := cell_cur hrow 0 _ rfl
  have c1 : w.cell? ⟨gc, 1, none⟩ = some (.int .i64 i) := cell_cur hrow 1 _ rfl
  have c2 : w.cell? ⟨gc, 2, none⟩ = some (.int .i64 hh) := cell_cur hrow 2 _ rfl
  have f1 : w.frozen? ⟨gc, 1, none⟩ = false := frozen_of_row w gc 1 _ _ hrow
  have f2 : w.frozen? ⟨gc, 2, none⟩ = false := frozen_of_row w gc 2 _ _ hrow
  have HROW := Hid.mk' hrow
  clear hrow
  by_cases hlt : i < len
  · obtain ⟨I, rfl⟩ := Int.eq_ofNat_of_zero_le hi0
    have hS' := hS.below hB
    have hIl : I < code.length := by have := hS.1; omega
    obtain ⟨b, off, ha, hcl⟩ := hS.2.2 (by omega)
    subst ha
    have hbb : b < w0.heap.size := World.block_lt_of_cell? w0 _ (hcl I hIl)
    have hne : ¬ b = gc := by omega
    have hne2 : ¬ gc = b := by omega
    generalize hcc : code[I].toNat = c
    have hc256 : c < 256 := by rw [← hcc]; exact UInt8.toNat_lt _
    have c3 : w.cell? ⟨b, off + I, none⟩ = some (.int .u8 (c : Int)) := by rw [hS'.at I hIl, hcc]
    have hi3 : (I : Int) < (len : Int) := hlt
    clear hcl hcc hIl hS'
    go_enter Try.func30, Try.ntmps30
    go_wp2
    go_quiet (fail)
    go_wp2
    go_quiet (fail)
    go_wp2
    go_quiet (fail)
    go_wp2
    go_ret
    have hs := set_cur HROW.out 2 (.int .i64 (wrap64 (wrap64 (hh * 6364136223846793005) + 1442695040888963407)))
    have hs2 := fun n => set_cur (w := (w.setCell ⟨gc, 2, none⟩ (.int .i64 (wrap64 (wrap64 (hh * 6364136223846793005) + 1442695040888963407)))).drewN n) hs.1 1 (.int .i64 ((I : Int) + 1))
    have hg := fun n => grownBy_trans (grown_drewN hs.2 n) (hs2 n).2
    exact ⟨_, (and_byte _).1, (and_byte _).2, rfl, cur_of hS hB hgc hln (by omega) (by omega) (hg _) (hs2 _).1, hg _⟩
  · go_enter Try.func30, Try.ntmps30
    go_wp2
    go_quiet (fail)
    go_wp2
    go_quiet (fail)
    go_wp2
    go_ret
    have hs := set_cur HROW.out 2 (.int .i64 (wrap64 (wrap64 (hh * 6364136223846793005) + 1442695040888963407)))
    exact ⟨_, (and_byte _).1, (and_byte _).2, rfl, cur_of hS hB hgc hln hi0 hi1 (grown_drewN (grown_drewN hs.2 _) _) hs.1, grown_drewN (grown_drewN hs.2 _) _⟩

theorem Cur.lt {w0 w : World} {gc : Nat} {a : Option Addr} {len cap : Nat} {code : List UInt8} (h : Cur w0 w gc a len cap code) : gc < w.heap.size := by
  obtain ⟨_, _, _, _, i, hh, _, _, hr⟩ := h
  exact (Array.getElem?_eq_some_iff.1 hr).1
theorem Cur.bel {w0 w : World} {gc : Nat} {a : Option Addr} {len cap : Nat} {code : List UInt8} (h : Cur w0 w gc a len cap code) : Below w0.heap.size w0 w := h.2.1
theorem Cur.ge {w0 w : World} {gc : Nat} {a : Option Addr} {len cap : Nat} {code : List UInt8} (h : Cur w0 w gc a len cap code) : w0.heap.size ≤ gc := h.2.2.1
/-- a step that does not touch the cursor's block -/
theorem Cur.grown {w0 w w1 : World} {gc : Nat} {a : Option Addr} {len cap : Nat} {code : List UInt8} {row : Option Nat} (h : Cur w0 w gc a len cap code) (hg : w.grownBy w1 row) (hne : some gc ≠ row) (hr : ∀ k, row = some k → w0.heap.size ≤ k) : Cur w0 w1 gc a len cap code := by
  have hlt := h.lt
  obtain ⟨hS, hB, hgc, hln, i, hh, hi0, hi1, hrow⟩ := h
  exact ⟨hS, hB.grown hg hB.size hr, hgc, hln, i, hh, hi0, hi1, by rw [hg.block gc hlt hne]; exact hrow⟩
theorem Cur.below {w0 w w1 : World} {gc : Nat} {a : Option Addr} {len cap : Nat} {code : List UInt8} (h : Cur w0 w gc a len cap code) (hb : Below w.heap.size w w1) : Cur w0 w1 gc a len cap code :=
  h.grown (row := none) ⟨hb.os, hb.tape, hb.output, hb.size, fun k hk _ => hb.block k hk⟩ (by simp) (fun k e => by cases e)

set_option maxRecDepth 100000 in
set_option maxHeartbeats 1000000 in
theorem below_ (w0 w : World) (gc : Nat) (a : Option Addr) (len cap : Nat) (code : List UInt8) (n : Int) (h : Cur w0 w gc a len cap code) (hn : 0 < n) (hn2 : n ≤ 1000000000) :
    Calls Try.prog 14 #[.pointer (some ⟨gc, 0, none⟩), .int .i64 n] w fun e w' => ∃ x : Nat, (x : Int) < n ∧ e = .returned (.int .i64 (x : Int)) ∧ Cur w0 w' gc a len cap code ∧ w.grownBy w' (some gc) := by
  by_cases hs : n ≤ 256
  · go_enter Try.func14, Try.ntmps14
    go_wp2_with fail
    refine (byte_ w0 _ gc a len cap code h).mono ?_
    rintro e w1 ⟨x, hx0, hx1, rfl, hc1, hg1⟩
    go_wp2_with fail
    go_ret
    have e1 : 0 ≤ x % n := Int.emod_nonneg _ (by omega)
    have e2 : x % n < n := Int.emod_lt_of_pos _ hn
    exact ⟨(x % n).toNat, by omega, ret_int (by omega), hc1, hg1⟩
  · go_enter Try.func14, Try.ntmps14
    go_wp2_with fail
    refine (byte_ w0 _ gc a len cap code h).mono ?_
    rintro e w1 ⟨x, hx0, hx1, rfl, hc1, hg1⟩
    go_wp2_with fail
    refine (byte_ w0 _ gc a len cap code hc1).mono ?_
    rintro e w2 ⟨y, hy0, hy1, rfl, hc2, hg2⟩
    go_wp2_with fail
    refine (byte_ w0 _ gc a len cap code hc2).mono ?_
    rintro e w3 ⟨z, hz0, hz1, rfl, hc3, hg3⟩
    go_wp2_with fail
    go_ret
    have e1 : 0 ≤ (x * 65536 + y * 256 + z) % n := Int.emod_nonneg _ (by omega)
    have e2 : (x * 65536 + y * 256 + z) % n < n := Int.emod_lt_of_pos _ hn
    exact ⟨((x * 65536 + y * 256 + z) % n).toNat, by omega, ret_int (by omega), hc3, grownBy_trans (grownBy_trans hg1 hg2) hg3⟩

/-- one of a list of numbers that lies in a row of its own -/
theorem int_ (w0 w : World) (gc : Nat) (a : Option Addr) (len cap : Nat) (code : List UInt8) (gl n cp : Nat) (zs : Array Value) (mk : Nat × Nat) (h : Cur w0 w gc a len cap code) (hr : w.heap[gl]? = some (.cells zs 3 mk)) (hz : zs.size = n) (hn : 0 < n) (hn2 : n ≤ 1000) (hne : gl ≠ gc)
    (P : Int → Prop) (hP : ∀ i, i < n → ∃ z, zs[i]? = some (.int .i64 z) ∧ P z) :
    Calls Try.prog 29 #[.pointer (some ⟨gc, 0, none⟩), .slice (some ⟨gl, 0, none⟩) n cp] w fun e w' => ∃ z : Int, P z ∧ e = .returned (.int .i64 z) ∧ Cur w0 w' gc a len cap code ∧ w.grownBy w' (some gc) := by
  go_enter Try.func29, Try.ntmps29
  go_wp2_with fail
  refine (below_ w0 _ gc a len cap code _ h (by omega) (by omega)).mono ?_
  rintro e w1 ⟨x, hx, rfl, hc1, hg1⟩
  have hgl : gl < w.heap.size := (Array.getElem?_eq_some_iff.1 hr).1
  obtain ⟨z, hz1, hz2⟩ := hP x (by omega)
  have c1 : w1.cell? ⟨gl, x, none⟩ = some (.int .i64 z) := by
    have e1 := hg1.block gl hgl (by simpa using hne)
    rw [hr] at e1
    exact cell_cur e1 x _ hz1
  go_wp2_with fail
  go_ret
  exact ⟨z, hz2, rfl, hc1, hg1⟩

theorem str_ (w0 w : World) (gc : Nat) (a : Option Addr) (len cap : Nat) (code : List UInt8) (gl n cp : Nat) (zs : Array Value) (mk : Nat × Nat) (h : Cur w0 w gc a len cap code) (hr : w.heap[gl]? = some (.cells zs 9 mk)) (hz : zs.size = n) (hn : 0 < n) (hn2 : n ≤ 1000) (hne : gl ≠ gc)
    (P : ByteArray → Prop) (hP : ∀ i, i < n → ∃ z, zs[i]? = some (.string z) ∧ P z) :
    Calls Try.prog 93 #[.pointer (some ⟨gc, 0, none⟩), .slice (some ⟨gl, 0, none⟩) n cp] w fun e w' => ∃ z : ByteArray, P z ∧ e = .returned (.string z) ∧ Cur w0 w' gc a len cap code ∧ w.grownBy w' (some gc) := by
  go_enter Try.func93, Try.ntmps93
  go_wp2_with fail
  refine (below_ w0 _ gc a len cap code _ h (by omega) (by omega)).mono ?_
  rintro e w1 ⟨x, hx, rfl, hc1, hg1⟩
  have hgl : gl < w.heap.size := (Array.getElem?_eq_some_iff.1 hr).1
  obtain ⟨z, hz1, hz2⟩ := hP x (by omega)
  have c1 : w1.cell? ⟨gl, x, none⟩ = some (.string z) := by
    have e1 := hg1.block gl hgl (by simpa using hne)
    rw [hr] at e1
    exact cell_cur e1 x _ hz1
  go_wp2_with fail
  go_ret
  exact ⟨z, hz2, rfl, hc1, hg1⟩

set_option maxRecDepth 100000 in
set_option maxHeartbeats 1000000 in
theorem new_ (w0 w : World) (a : Option Addr) (len cap : Nat) (code : List UInt8) (h0 : Sl w0 a len code) (hB : Below w0.heap.size w0 w) (hln : len ≤ 1099511627776) :
    Calls Try.prog 11 #[.slice a len cap] w fun e w' => e = .returned (.pointer (some ⟨w.heap.size, 0, none⟩)) ∧ Cur w0 w' w.heap.size a len cap code ∧ Below w.heap.size w w' := by
  have hS := h0.below hB
  obtain ⟨hl, hm, hc⟩ := id hS
  subst hl
  go_enter Try.func11, Try.ntmps11
  go_wp2
  go_loop [3, 4] (fun hv i => ∃ (k : Nat) (hh : Int), k ≤ code.length ∧ i = .int .i64 (k : Int) ∧ hv = .int .i64 hh) (fun _ i => code.length - (intOf i).toNat)
  case atStart => exact ⟨0, _, Nat.zero_le _, rfl, rfl⟩
  case round =>
    obtain ⟨k, hh, hk, rfl, rfl⟩ := hrel
    by_cases hlt : k < code.length
    · by_cases h4 : k < 4000
      · obtain ⟨b, off, ha, hcl⟩ := hc (by omega)
        subst ha
        have c1 : w.cell? ⟨b, off + k, none⟩ = some (.int .u8 code[k].toNat) := hcl k hlt
        have hi1 : (k : Int) < (code.length : Int) := by omega
        clear hcl hc
        go_wp2
        go_round
        case rel => exact ⟨k + 1, _, by omega, by go_num, rfl⟩
        case measure => simp [intOf]; omega
      · go_wp2
        go_ret
        exact ⟨rfl, ⟨h0, hB.alloc hB.size _, hB.size, hln, 0, hh, by omega, by omega, heap_alloc_new w _⟩, (Below.refl _ _).alloc (Nat.le_refl _) _⟩
    · go_wp2
      go_ret
      exact ⟨rfl, ⟨h0, hB.alloc hB.size _, hB.size, hln, 0, hh, by omega, by omega, heap_alloc_new w _⟩, (Below.refl _ _).alloc (Nat.le_refl _) _⟩

end Go.Proofs.Ytdeaiefhegjalaa.draw

namespace Go.Proofs.Ytdeaiefhegjalaa.pairs
open Go Go.RowKit Go.Proofs.Ytdeaiefhegjalaa.base
set_option linter.unusedVariables false
set_option linter.unusedSimpArgs false

theorem unionOf_snoc (a b : List Pr) (k : Nat) (h : k < b.length) : unionOf a (b.take (k + 1)) = putKey b[k].1 b[k].2 (unionOf a (b.take k)) := by
  unfold unionOf; rw [take_snocP b k h, List.foldl_append]; rfl

end Go.Proofs.Ytdeaiefhegjalaa.pairs
