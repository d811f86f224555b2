/- The cursor from which the laws draw: what each call does to it. The specification's union. What the laws on pairs draw. What the laws on pairs draw: whole draws. Draws of pairs that are right, and a place of one. Draws of orders. A block of three cells: small facts on worlds; no function of the program is named here. -/
import Derived.Test.YteniflajiklffaaRows
import Derived.Test.YteniflajiklffaaShaa
import Derived.Test.YteniflajiklffaaShab
import Derived.Test.YteniflajiklffaaShac
namespace Go.Proofs.Yteniflajiklffaa.draw
open Go.RowKit Go.Proofs.Yteniflajiklffaa.base
set_option linter.unusedVariables false
set_option linter.unusedSimpArgs false

def Cur (w0 w : World) (gc : Nat) (a : Option Addr) (len cap : Nat) (code : List UInt8) : Prop :=
  Sl w0 a len code ∧ Below w0.heap.size w0 w ∧ w0.heap.size ≤ gc ∧ len ≤ 1099511627776 ∧
  ∃ i h : Int, 0 ≤ i ∧ i ≤ len ∧ w.heap[gc]? = some (.cells #[.slice a len cap, .int .i64 i, .int .i64 h] 107 (0, 0))

theorem and_byte (z : Int) : 0 ≤ bits .and .i64 z 255 ∧ bits .and .i64 z 255 ≤ 255 := by
  have e : bits .and .i64 z 255 = IntKind.i64.wrap (((BitVec.ofInt 64 z) &&& (BitVec.ofInt 64 255)).toNat : Int) := rfl
  have h : ((BitVec.ofInt 64 z) &&& (BitVec.ofInt 64 255)).toNat ≤ 255 := by
    rw [BitVec.toNat_and]
    exact Nat.le_trans Nat.and_le_right (by decide)
  rw [e, wraps_i64 _ (by omega) (by omega)]
  omega

theorem cur_of {w0 w w1 : World} {gc : Nat} {a : Option Addr} {len cap : Nat} {code : List UInt8} {i h : Int} (hS : Sl w0 a len code) (hB : Below w0.heap.size w0 w) (hgc : w0.heap.size ≤ gc) (hln : len ≤ 1099511627776)
    (hi0 : 0 ≤ i) (hi1 : i ≤ len) (hg : w.grownBy w1 (some gc)) (hr : w1.heap[gc]? = some (.cells #[.slice a len cap, .int .i64 i, .int .i64 h] 107 (0, 0))) : Cur w0 w1 gc a len cap code :=
  ⟨hS, hB.grown hg hB.size (fun k e => by cases e; exact hgc), hgc, hln, i, h, hi0, hi1, hr⟩

set_option maxRecDepth 100000 in
set_option maxHeartbeats 1000000 in
theorem byte_ (w0 w : World) (gc : Nat) (a : Option Addr) (len cap : Nat) (code : List UInt8) (h : Cur w0 w gc a len cap code) :
    Calls Try.prog 96 #[.pointer (some ⟨gc, 0, none⟩)] w fun e w' => ∃ x : Int, 0 ≤ x ∧ x ≤ 255 ∧ e = .returned (.int .i64 x) ∧ Cur w0 w' gc a len cap code ∧ w.grownBy w' (some gc) := by
  obtain ⟨hS, hB, hgc, hln, i, hh, hi0, hi1, hrow⟩ := h
  have c0 : w.cell? ⟨gc, 0, none⟩ = some (.slice a len cap) := cell_cur hrow 0 _ rfl
  have c1 : w.cell? ⟨gc, 1, none⟩ = some (.int .i64 i) := cell_cur hrow 1 _ rfl
  have c2 : w.cell? ⟨gc, 2, none⟩ = some (.int .i64 hh) := cell_cur hrow 2 _ rfl
  have f1 : w.frozen? ⟨gc, 1, none⟩ = false := frozen_of_row w gc 1 _ _ hrow
  have f2 : w.frozen? ⟨gc, 2, none⟩ = false := frozen_of_row w gc 2 _ _ hrow
  have HROW := Hid.mk' hrow
  clear hrow
  by_cases hlt : i < len
  · obtain ⟨I, rfl⟩ := Int.eq_ofNat_of_zero_le hi0
    have hS' := hS.below hB
    have hIl : I < code.length := by have := hS.1; omega
    obtain ⟨b, off, ha, hcl⟩ := hS.2.2 (by omega)
    subst ha
    have hbb : b < w0.heap.size := World.block_lt_of_cell? w0 _ (hcl I hIl)
    have hne : ¬ b = gc := by omega
    have hne2 : ¬ gc = b := by omega
    generalize hcc : code[I].toNat = c
    have hc256 : c < 256 := by rw [← hcc]; exact UInt8.toNat_lt _
    have c3 : w.cell? ⟨b, off + I, none⟩ = some (.int .u8 (c : Int)) := by rw [hS'.at I hIl, hcc]
    have hi3 : (I : Int) < (len : Int) := hlt
    clear hcl hcc hIl hS'
    go_enter Try.func96, Try.ntmps96
    go_wp2
    go_quiet (fail)
    go_wp2
    go_quiet (fail)
    go_wp2
    go_quiet (fail)
    go_wp2
    go_ret
    have hs := set_cur HROW.out 2 (.int .i64 (wrap64 (wrap64 (hh * 6364136223846793005) + 1442695040888963407)))
    have hs2 := fun n => set_cur (w := (w.setCell ⟨gc, 2, none⟩ (.int .i64 (wrap64 (wrap64 (hh * 6364136223846793005) + 1442695040888963407)))).drewN n) hs.1 1 (.int .i64 ((I : Int) + 1))
    have hg := fun n => grownBy_trans (grown_drewN hs.2 n) (hs2 n).2
    exact ⟨_, (and_byte _).1, (and_byte _).2, rfl, cur_of hS hB hgc hln (by omega) (by omega) (hg _) (hs2 _).1, hg _⟩
  · go_enter Try.func96, Try.ntmps96
    go_wp2
    go_quiet (fail)
    go_wp2
    go_quiet (fail)
    go_wp2
    go_ret
    have hs := set_cur HROW.out 2 (.int .i64 (wrap64 (wrap64 (hh * 6364136223846793005) + 1442695040888963407)))
    exact ⟨_, (and_byte _).1, (and_byte _).2, rfl, cur_of hS hB hgc hln hi0 hi1 (grown_drewN (grown_drewN hs.2 _) _) hs.1, grown_drewN (grown_drewN hs.2 _) _⟩

theorem Cur.lt {w0 w : World} {gc : Nat} {a : Option Addr} {len cap : Nat} {code : List UInt8} (h : Cur w0 w gc a len cap code) : gc < w.heap.size := by
  obtain ⟨_, _, _, _, i, hh, _, _, hr⟩ := h
  exact (Array.getElem?_eq_some_iff.1 hr).1
theorem Cur.bel {w0 w : World} {gc : Nat} {a : Option Addr} {len cap : Nat} {code : List UInt8} (h : Cur w0 w gc a len cap code) : Below w0.heap.size w0 w := h.2.1
theorem Cur.ge {w0 w : World} {gc : Nat} {a : Option Addr} {len cap : Nat} {code : List UInt8} (h : Cur w0 w gc a len cap code) : w0.heap.size ≤ gc := h.2.2.1
theorem Cur.grown {w0 w w1 : World} {gc : Nat} {a : Option Addr} {len cap : Nat} {code : List UInt8} {row : Option Nat} (h : Cur w0 w gc a len cap code) (hg : w.grownBy w1 row) (hne : some gc ≠ row) (hr : ∀ k, row = some k → w0.heap.size ≤ k) : Cur w0 w1 gc a len cap code := by
  have hlt := h.lt
  obtain ⟨hS, hB, hgc, hln, i, hh, hi0, hi1, hrow⟩ := h
  exact ⟨hS, hB.grown hg hB.size hr, hgc, hln, i, hh, hi0, hi1, by rw [hg.block gc hlt hne]; exact hrow⟩
theorem Cur.below {w0 w w1 : World} {gc : Nat} {a : Option Addr} {len cap : Nat} {code : List UInt8} (h : Cur w0 w gc a len cap code) (hb : Below w.heap.size w w1) : Cur w0 w1 gc a len cap code :=
  h.grown (row := none) ⟨hb.os, hb.tape, hb.output, hb.size, fun k hk _ => hb.block k hk⟩ (by simp) (fun k e => by cases e)

set_option maxRecDepth 100000 in
set_option maxHeartbeats 1000000 in
theorem below_ (w0 w : World) (gc : Nat) (a : Option Addr) (len cap : Nat) (code : List UInt8) (n : Int) (h : Cur w0 w gc a len cap code) (hn : 0 < n) (hn2 : n ≤ 1000000000) :
    Calls Try.prog 53 #[.pointer (some ⟨gc, 0, none⟩), .int .i64 n] w fun e w' => ∃ x : Nat, (x : Int) < n ∧ e = .returned (.int .i64 (x : Int)) ∧ Cur w0 w' gc a len cap code ∧ w.grownBy w' (some gc) := by
  by_cases hs : n ≤ 256
  · go_enter Try.func53, Try.ntmps53
    go_wp2_with fail
    refine (byte_ w0 _ gc a len cap code h).mono ?_
    rintro e w1 ⟨x, hx0, hx1, rfl, hc1, hg1⟩
    go_wp2_with fail
    go_ret
    have e1 : 0 ≤ x % n := Int.emod_nonneg _ (by omega)
    have e2 : x % n < n := Int.emod_lt_of_pos _ hn
    exact ⟨(x % n).toNat, by omega, ret_int (by omega), hc1, hg1⟩
  · go_enter Try.func53, Try.ntmps53
    go_wp2_with fail
    refine (byte_ w0 _ gc a len cap code h).mono ?_
    rintro e w1 ⟨x, hx0, hx1, rfl, hc1, hg1⟩
    go_wp2_with fail
    refine (byte_ w0 _ gc a len cap code hc1).mono ?_
    rintro e w2 ⟨y, hy0, hy1, rfl, hc2, hg2⟩
    go_wp2_with fail
    refine (byte_ w0 _ gc a len cap code hc2).mono ?_
    rintro e w3 ⟨z, hz0, hz1, rfl, hc3, hg3⟩
    go_wp2_with fail
    go_ret
    have e1 : 0 ≤ (x * 65536 + y * 256 + z) % n := Int.emod_nonneg _ (by omega)
    have e2 : (x * 65536 + y * 256 + z) % n < n := Int.emod_lt_of_pos _ hn
    exact ⟨((x * 65536 + y * 256 + z) % n).toNat, by omega, ret_int (by omega), hc3, grownBy_trans (grownBy_trans hg1 hg2) hg3⟩

theorem int_ (w0 w : World) (gc : Nat) (a : Option Addr) (len cap : Nat) (code : List UInt8) (gl n cp : Nat) (zs : Array Value) (mk : Nat × Nat) (h : Cur w0 w gc a len cap code) (hr : w.heap[gl]? = some (.cells zs 3 mk)) (hz : zs.size = n) (hn : 0 < n) (hn2 : n ≤ 1000) (hne : gl ≠ gc)
    (P : Int → Prop) (hP : ∀ i, i < n → ∃ z, zs[i]? = some (.int .i64 z) ∧ P z) :
    Calls Try.prog 54 #[.pointer (some ⟨gc, 0, none⟩), .slice (some ⟨gl, 0, none⟩) n cp] w fun e w' => ∃ z : Int, P z ∧ e = .returned (.int .i64 z) ∧ Cur w0 w' gc a len cap code ∧ w.grownBy w' (some gc) := by
  go_enter Try.func54, Try.ntmps54
  go_wp2_with fail
  refine (below_ w0 _ gc a len cap code _ h (by omega) (by omega)).mono ?_
  rintro e w1 ⟨x, hx, rfl, hc1, hg1⟩
  have hgl : gl < w.heap.size := (Array.getElem?_eq_some_iff.1 hr).1
  obtain ⟨z, hz1, hz2⟩ := hP x (by omega)
  have c1 : w1.cell? ⟨gl, x, none⟩ = some (.int .i64 z) := by
    have e1 := hg1.block gl hgl (by simpa using hne)
    rw [hr] at e1
    exact cell_cur e1 x _ hz1
  go_wp2_with fail
  go_ret
  exact ⟨z, hz2, rfl, hc1, hg1⟩

theorem str_ (w0 w : World) (gc : Nat) (a : Option Addr) (len cap : Nat) (code : List UInt8) (gl n cp : Nat) (zs : Array Value) (mk : Nat × Nat) (h : Cur w0 w gc a len cap code) (hr : w.heap[gl]? = some (.cells zs 9 mk)) (hz : zs.size = n) (hn : 0 < n) (hn2 : n ≤ 1000) (hne : gl ≠ gc)
    (P : ByteArray → Prop) (hP : ∀ i, i < n → ∃ z, zs[i]? = some (.string z) ∧ P z) :
    Calls Try.prog 99 #[.pointer (some ⟨gc, 0, none⟩), .slice (some ⟨gl, 0, none⟩) n cp] w fun e w' => ∃ z : ByteArray, P z ∧ e = .returned (.string z) ∧ Cur w0 w' gc a len cap code ∧ w.grownBy w' (some gc) := by
  go_enter Try.func99, Try.ntmps99
  go_wp2_with fail
  refine (below_ w0 _ gc a len cap code _ h (by omega) (by omega)).mono ?_
  rintro e w1 ⟨x, hx, rfl, hc1, hg1⟩
  have hgl : gl < w.heap.size := (Array.getElem?_eq_some_iff.1 hr).1
  obtain ⟨z, hz1, hz2⟩ := hP x (by omega)
  have c1 : w1.cell? ⟨gl, x, none⟩ = some (.string z) := by
    have e1 := hg1.block gl hgl (by simpa using hne)
    rw [hr] at e1
    exact cell_cur e1 x _ hz1
  go_wp2_with fail
  go_ret
  exact ⟨z, hz2, rfl, hc1, hg1⟩

set_option maxRecDepth 100000 in
set_option maxHeartbeats 1000000 in
theorem new_ (w0 w : World) (a : Option Addr) (len cap : Nat) (code : List UInt8) (h0 : Sl w0 a len code) (hB : Below w0.heap.size w0 w) (hln : len ≤ 1099511627776) :
    Calls Try.prog 24 #[.slice a len cap] w fun e w' => e = .returned (.pointer (some ⟨w.heap.size, 0, none⟩)) ∧ Cur w0 w' w.heap.size a len cap code ∧ Below w.heap.size w w' := by
  have hS := h0.below hB
  obtain ⟨hl, hm, hc⟩ := id hS
  subst hl
  go_enter Try.func24, Try.ntmps24
  go_wp2
  go_loop [3, 4] (fun hv i => ∃ (k : Nat) (hh : Int), k ≤ code.length ∧ i = .int .i64 (k : Int) ∧ hv = .int .i64 hh) (fun _ i => code.length - (intOf i).toNat)
  case atStart => exact ⟨0, _, Nat.zero_le _, rfl, rfl⟩
  case round =>
    obtain ⟨k, hh, hk, rfl, rfl⟩ := hrel
    by_cases hlt : k < code.length
    · by_cases h4 : k < 4000
      · obtain ⟨b, off, ha, hcl⟩ := hc (by omega)
        subst ha
        have c1 : w.cell? ⟨b, off + k, none⟩ = some (.int .u8 code[k].toNat) := hcl k hlt
        have hi1 : (k : Int) < (code.length : Int) := by omega
        clear hcl hc
        go_wp2
        go_round
        case rel => exact ⟨k + 1, _, by omega, by go_num, rfl⟩
        case measure => simp [intOf]; omega
      · go_wp2
        go_ret
        exact ⟨rfl, ⟨h0, hB.alloc hB.size _, hB.size, hln, 0, hh, by omega, by omega, heap_alloc_new w _⟩, (Below.refl _ _).alloc (Nat.le_refl _) _⟩
    · go_wp2
      go_ret
      exact ⟨rfl, ⟨h0, hB.alloc hB.size _, hB.size, hln, 0, hh, by omega, by omega, heap_alloc_new w _⟩, (Below.refl _ _).alloc (Nat.le_refl _) _⟩

end Go.Proofs.Yteniflajiklffaa.draw

namespace Go.Proofs.Yteniflajiklffaa.pairs
open Go Go.RowKit Go.Proofs.Yteniflajiklffaa.base
set_option linter.unusedVariables false
set_option linter.unusedSimpArgs false

end Go.Proofs.Yteniflajiklffaa.pairs

namespace Go.Proofs.Yteniflajiklffaa.pairs
open Go Go.RowKit Go.Proofs.Yteniflajiklffaa.base Go.Proofs.Yteniflajiklffaa.draw
set_option linter.unusedVariables false
set_option linter.unusedSimpArgs false

def GotS (N : Nat) (w0 w : World) (gc : Nat) (a : Option Addr) (len cap : Nat) (code : List UInt8) (e : Ending) (w' : World) : Prop :=
  ∃ z : ByteArray, z.size ≤ N ∧ e = .returned (.string z) ∧ Cur w0 w' gc a len cap code ∧ w.grownBy w' (some gc)
theorem grown_of_alloc {w w' : World} {o : Obj} {row : Option Nat} (h : (w.alloc o).grownBy w' row) : w.grownBy w' row := grownBy_trans (grown_alloc0 w o row) h

set_option maxHeartbeats 1000000 in
theorem d_once (w0 w : World) (gc : Nat) (a : Option Addr) (len cap : Nat) (code : List UInt8) (n : Int) (h : Cur w0 w gc a len cap code) (hn : 0 < n) (hn2 : n ≤ 1000000000) :
    Calls Try.prog 94 #[.pointer (some ⟨gc, 0, none⟩), .int .i64 n] w fun e w' => ∃ b : Bool, e = .returned (.bool b) ∧ Cur w0 w' gc a len cap code ∧ w.grownBy w' (some gc) := by
  go_enter Try.func94, Try.ntmps94
  go_wp2_with fail
  refine (below_ w0 _ gc a len cap code n h hn hn2).mono ?_
  rintro e w1 ⟨x, hx, rfl, hc1, hg1⟩
  go_wp2_with fail
  go_ret
  exact ⟨_, rfl, hc1, hg1⟩

theorem curNe {w0 w : World} {gc : Nat} {a : Option Addr} {len cap : Nat} {code : List UInt8} (h : Cur w0 w gc a len cap code) : w.heap.size ≠ gc := by have := h.lt; omega
theorem some_at (zs : Array Value) (n : Nat) (N : Nat) (h : (List.range n).all (fun i => match zs[i]? with | some (.string z) => decide (z.size ≤ N) | _ => false) = true) : ∀ i, i < n → ∃ z, zs[i]? = some (.string z) ∧ z.size ≤ N := by
  intro i hi
  have := List.all_eq_true.1 h i (List.mem_range.2 hi)
  split at this
  · rename_i z hz; exact ⟨z, hz, of_decide_eq_true this⟩
  · cases this

set_option maxHeartbeats 1000000 in
theorem d_key (w0 w : World) (gc : Nat) (a : Option Addr) (len cap : Nat) (code : List UInt8) (h : Cur w0 w gc a len cap code) :
    Calls Try.prog 98 #[.pointer (some ⟨gc, 0, none⟩)] w fun e w' => GotS 13 w0 w gc a len cap code e w' := by
  go_enter Try.func98, Try.ntmps98
  go_wp2_with fail
  have hne := curNe h
  refine (str_ w0 _ gc a len cap code w.heap.size 7 _ _ _ (h.below ((Below.refl _ _).alloc (Nat.le_refl _) _)) (heap_alloc_new w _) rfl (by omega) (by omega) hne (fun z => z.size ≤ 13) (some_at _ 7 13 (by kernel_rfl))).mono ?_
  rintro e w1 ⟨z, hz, rfl, hc1, hg1⟩
  go_wp2_with fail
  go_ret
  exact ⟨z, hz, rfl, hc1, grown_of_alloc hg1⟩
set_option maxHeartbeats 1000000 in
theorem d_keyAny (w0 w : World) (gc : Nat) (a : Option Addr) (len cap : Nat) (code : List UInt8) (h : Cur w0 w gc a len cap code) :
    Calls Try.prog 57 #[.pointer (some ⟨gc, 0, none⟩)] w fun e w' => GotS 13 w0 w gc a len cap code e w' := by
  go_enter Try.func57, Try.ntmps57
  go_wp2_with fail
  refine (d_once w0 _ gc a len cap code _ h (by omega) (by omega)).mono ?_
  rintro e w1 ⟨b, rfl, hc1, hg1⟩
  cases b
  · go_wp2_with fail
    refine (d_key w0 _ gc a len cap code hc1).mono ?_
    rintro e w2 ⟨z, hz, rfl, hc2, hg2⟩
    go_wp2_with fail
    go_ret
    exact ⟨z, hz, rfl, hc2, grownBy_trans hg1 hg2⟩
  · go_wp2_with fail
    have hne := curNe hc1
    refine (str_ w0 _ gc a len cap code w1.heap.size 5 _ _ _ (hc1.below ((Below.refl _ _).alloc (Nat.le_refl _) _)) (heap_alloc_new w1 _) rfl (by omega) (by omega) hne (fun z => z.size ≤ 13) (some_at _ 5 13 (by kernel_rfl))).mono ?_
    rintro e w2 ⟨z, hz, rfl, hc2, hg2⟩
    go_wp2_with fail
    go_ret
    exact ⟨z, hz, rfl, hc2, grownBy_trans hg1 (grown_of_alloc hg2)⟩

theorem max13 {n : Nat} (h : n ≤ 21) : n ≤ maxLen := Nat.le_trans h (by decide)


end Go.Proofs.Yteniflajiklffaa.pairs

namespace Go.Proofs.Yteniflajiklffaa.pairs
open Go Go.RowKit Go.Proofs.Yteniflajiklffaa.base Go.Proofs.Yteniflajiklffaa.draw
set_option linter.unusedVariables false
set_option linter.unusedSimpArgs false



end Go.Proofs.Yteniflajiklffaa.pairs

namespace Go.Proofs.Yteniflajiklffaa.pairs
open Go Go.RowKit Go.Proofs.Yteniflajiklffaa.base Go.Proofs.Yteniflajiklffaa.draw
set_option linter.unusedVariables false
set_option linter.unusedSimpArgs false

def goodK (z : ByteArray) : Bool := keyOk z && Op.bytesLess z.data.toList [122, 122]
theorem goodK_ok {z : ByteArray} (h : goodK z = true) : keyOk z = true := (Bool.and_eq_true_iff.1 h).1
theorem some_atB (zs : Array Value) (n : Nat) (f : ByteArray → Bool) (h : (List.range n).all (fun i => match zs[i]? with | some (.string z) => f z | _ => false) = true) : ∀ i, i < n → ∃ z, zs[i]? = some (.string z) ∧ f z = true := by
  intro i hi
  have := List.all_eq_true.1 h i (List.mem_range.2 hi)
  split at this
  · rename_i z hz; exact ⟨z, hz, this⟩
  · cases this
set_option maxHeartbeats 1000000 in
theorem d_keyG (w0 w : World) (gc : Nat) (a : Option Addr) (len cap : Nat) (code : List UInt8) (h : Cur w0 w gc a len cap code) :
    Calls Try.prog 98 #[.pointer (some ⟨gc, 0, none⟩)] w fun e w' => ∃ z : ByteArray, goodK z = true ∧ e = .returned (.string z) ∧ Cur w0 w' gc a len cap code ∧ w.grownBy w' (some gc) := by
  go_enter Try.func98, Try.ntmps98
  go_wp2_with fail
  have hne := curNe h
  refine (str_ w0 _ gc a len cap code w.heap.size 7 _ _ _ (h.below ((Below.refl _ _).alloc (Nat.le_refl _) _)) (heap_alloc_new w _) rfl (by omega) (by omega) hne (fun z => goodK z = true) (some_atB _ 7 goodK (by kernel_rfl))).mono ?_
  rintro e w1 ⟨z, hz, rfl, hc1, hg1⟩
  go_wp2_with fail
  go_ret
  exact ⟨z, hz, rfl, hc1, grown_of_alloc hg1⟩
end Go.Proofs.Yteniflajiklffaa.pairs

namespace Go.Proofs.Yteniflajiklffaa.ords
open Go Go.RowKit Go.Proofs.Yteniflajiklffaa.base Go.Proofs.Yteniflajiklffaa.pairs Go.Proofs.Yteniflajiklffaa.draw
set_option linter.unusedVariables false
set_option linter.unusedSimpArgs false

def oneGo (o : Od) : Bool → List Od → List Od
  | put, [] => if put = true then [] else [o]
  | put, p :: l => (if (!put && !ltB p.2.1 o.2.1) = true then [o] else []) ++ (if p.2.1 = o.2.1 then [] else [p]) ++ oneGo o (put || !ltB p.2.1 o.2.1) l
theorem oneGo_put (o : Od) (l : List Od) (h : ∀ p ∈ l, p.2.1 ≠ o.2.1) : oneGo o true l = l := by
  induction l with
  | nil => rfl
  | cons p l ih =>
    rw [oneGo, Bool.true_or, ih (fun q hq => h q (List.mem_cons_of_mem _ hq)), if_neg (h p List.mem_cons_self)]
    rfl
theorem oneGo_mem {o p : Od} {b : Bool} {l : List Od} (h : p ∈ oneGo o b l) : p ∈ l ∨ p = o := by
  induction l generalizing b with
  | nil =>
    rw [oneGo] at h
    split at h
    · cases h
    · exact .inr (List.mem_singleton.1 h)
  | cons q l ih =>
    rw [oneGo] at h
    rcases List.mem_append.1 h with h1 | h1
    · rcases List.mem_append.1 h1 with h2 | h2
      · split at h2
        · exact .inr (List.mem_singleton.1 h2)
        · cases h2
      · split at h2
        · cases h2
        · exact .inl (by rw [List.mem_singleton.1 h2]; exact List.mem_cons_self)
    · rcases ih h1 with h2 | h2
      · exact .inl (List.mem_cons_of_mem _ h2)
      · exact .inr h2
theorem oneGo_length (o : Od) (b : Bool) (l : List Od) : (oneGo o b l).length ≤ l.length + (if b = true then 0 else 1) := by
  induction l generalizing b with
  | nil => rw [oneGo]; cases b <;> simp
  | cons p l ih =>
    rw [oneGo]
    have := ih (b || !ltB p.2.1 o.2.1)
    simp only [List.length_append, List.length_cons]
    have h1 : (if p.2.1 = o.2.1 then ([] : List Od) else [p]).length ≤ 1 := by split <;> simp
    cases b
    · cases h2 : ltB p.2.1 o.2.1 <;> simp [h2] at this ⊢ <;> omega
    · simp at this ⊢; omega
theorem oneGo_rise {o : Od} {l : List Od} (h : RiseO l) : RiseO (oneGo o false l) := by
  induction l with
  | nil => exact List.pairwise_singleton _ _
  | cons p l ih =>
    unfold RiseO at h
    rw [List.pairwise_cons] at h
    rw [oneGo]
    cases hl : ltB p.2.1 o.2.1
    · have hne : ∀ q ∈ l, q.2.1 ≠ o.2.1 := by
        intro q hq e
        have := h.1 q hq
        rw [e, hl] at this
        cases this
      rw [show (false || !false) = true from rfl, oneGo_put o l hne]
      by_cases e : p.2.1 = o.2.1
      · simp [e]
        exact List.pairwise_cons.2 ⟨fun q hq => by rw [← e]; exact h.1 q hq, h.2⟩
      · simp [e]
        have hop : ltB o.2.1 p.2.1 = true := by
          cases h3 : ltB o.2.1 p.2.1
          · exact absurd (ltB_total hl h3) e
          · rfl
        refine List.pairwise_cons.2 ⟨fun q hq => ?_, List.pairwise_cons.2 ⟨h.1, h.2⟩⟩
        rcases List.mem_cons.1 hq with rfl | hq
        · exact hop
        · exact ltB_trans hop (h.1 q hq)
    · have e : ¬ p.2.1 = o.2.1 := ltB_ne hl
      simp [e]
      refine List.pairwise_cons.2 ⟨fun q hq => ?_, ih h.2⟩
      rcases oneGo_mem hq with h1 | rfl
      · exact h.1 q h1
      · exact hl
theorem keep3 {w w' : World} {b o1 o2 o3 : Nat} {v1 v2 v3 : Value} {row : Option Nat} (hg : w.grownBy w' row) (hne : some b ≠ row) (h : w.cell? ⟨b, o1, none⟩ = some v1 ∧ w.cell? ⟨b, o2, none⟩ = some v2 ∧ w.cell? ⟨b, o3, none⟩ = some v3) : w'.cell? ⟨b, o1, none⟩ = some v1 ∧ w'.cell? ⟨b, o2, none⟩ = some v2 ∧ w'.cell? ⟨b, o3, none⟩ = some v3 :=
  ⟨hg.cell h.1 hne, hg.cell h.2.1 hne, hg.cell h.2.2 hne⟩
set_option maxRecDepth 100000 in
set_option maxHeartbeats 4000000 in
theorem spec_l7One (a : Option Addr) (len cap : Nat) (l : List Od) (o : Od) (w : World) (h : SlO w a len l) (ho : smallO o) (hsz : len ≤ 1000) :
    Calls Try.prog 97 #[.slice a len cap, .agg #[.int .i64 o.1, .string o.2.1, .string o.2.2]] w fun e w' =>
      ∃ g' n' cap', e = .returned (.slice (some ⟨g', 0, none⟩) n' cap') ∧ OwnO w' w.heap.size g' n' cap' (oneGo o false l) ∧ Below w.heap.size w w' := by
  obtain ⟨i0, hif, hz0, hz1, hz2⟩ := info_parts infoO
  have hl := h.1
  have hsm := h.2.2.1
  subst hl
  generalize hR : oneGo o false l = R
  have HR := Hid.mk' hR
  clear hR
  have hba : Below w.heap.size w (w.alloc (.cells #[.int .i64 o.1, .string o.2.1, .string o.2.2] 111)) := (Below.refl _ _).alloc (Nat.le_refl _) _
  have hO0 := ownO_made (w.alloc (.cells #[.int .i64 o.1, .string o.2.1, .string o.2.2] 111)) (w.heap.size + 1) (by simp)
  have hsz1 : (w.alloc (.cells #[.int .i64 o.1, .string o.2.1, .string o.2.2] 111)).heap.size = w.heap.size + 1 := by simp
  rw [hsz1] at hO0
  have hba2 := hba.alloc (le_alloc _ _ (Nat.le_refl _)) (.cells #[] 111)
  obtain ⟨wz, hwz⟩ : ∃ wz, (w.alloc (.cells #[.int .i64 o.1, .string o.2.1, .string o.2.2] 111)).alloc (.cells #[] 111) = wz := ⟨_, rfl⟩
  have hC0 : wz.cell? ⟨w.heap.size, 0, none⟩ = some (.int .i64 o.1) ∧ wz.cell? ⟨w.heap.size, 1, none⟩ = some (.string o.2.1) ∧ wz.cell? ⟨w.heap.size, 2, none⟩ = some (.string o.2.2) := by
    rw [← hwz]
    refine ⟨?_, ?_, ?_⟩ <;> simp [go_sem]
  rw [hwz] at hO0 hba2
  have HWZ := Hid.mk' hwz
  clear hwz hba hsz1
  go_enter Try.func97, Try.ntmps97
  go_wp2_with (at_builtin; fail)
  rw [HWZ.out]
  clear HWZ
  go_loopw [5, 6, 7] (fun v pv i wr => ∃ (k g n cp : Nat) (put : Bool) (acc : List Od), k ≤ l.length ∧ n ≤ 2 * k ∧ i = .int .i64 (k : Int) ∧ pv = .bool put ∧ v = .slice (some ⟨g, 0, none⟩) n cp ∧ acc ++ oneGo o put (l.drop k) = R ∧ OwnO wr (w.heap.size + 1) g n cp acc ∧ (wr.cell? ⟨w.heap.size, 0, none⟩ = some (.int .i64 o.1) ∧ wr.cell? ⟨w.heap.size, 1, none⟩ = some (.string o.2.1) ∧ wr.cell? ⟨w.heap.size, 2, none⟩ = some (.string o.2.2)) ∧ Below w.heap.size w wr) (fun _ _ i _ => l.length - (intOf i).toNat)
  case atStart => exact ⟨0, w.heap.size + 1, 0, 0, false, [], Nat.zero_le _, Nat.le_refl _, rfl, rfl, rfl, HR.out, hO0, hC0, hba2⟩
  case round =>
    clear hO0 hC0 hba2 HR
    obtain ⟨k, g, n, cp, put, acc, hk, hn, rfl, rfl, rfl, hr, hO, hC, hB⟩ := hrel
    by_cases hlt : k < l.length
    · obtain ⟨b, off, ha, _⟩ := h.2.2.2 (by omega)
      subst ha
      have hcc := (h.below hB).cells k hlt
      have hpk := hsm _ (List.getElem_mem hlt)
      have hki : (k : Int) < (l.length : Int) := by omega
      rw [List.drop_eq_getElem_cons hlt, oneGo] at hr
      have HKP : Hid (∀ wx, Below w.heap.size w wx → CellsO wx b off l) := fun wx hx => (h.below hx).cells
      have HKQ : Hid (∀ wx, Below w.heap.size w wx → wx.cell? ⟨b, off + k * 3, none⟩ = some (.int .i64 l[k].1) ∧ wx.cell? ⟨b, off + k * 3 + 1, none⟩ = some (.string l[k].2.1) ∧ wx.cell? ⟨b, off + k * 3 + 2, none⟩ = some (.string l[k].2.2)) := fun wx hx => (h.below hx).cells k hlt
      clear HKP
      generalize l[k] = p at *
      have hOwr := hO
      have hBwr := hB
      have hCwr := hC
      have hPwr := hcc
      clear hO hB hC hcc
      by_cases he : p.2.1 = o.2.1
      · rw [if_pos he] at hr
        have hlt0 : ltB p.2.1 o.2.1 = false := by rw [he]; exact ltB_irrefl _
        rw [hlt0] at hr
        have hb0 : Op.bytesLess o.2.1.toList o.2.1.toList = false := ltB_irrefl _
        have hq : (o.2.1.toList == o.2.1.toList) = true := beq_self_eq_true _
        rw [he] at HKQ hPwr
        clear hlt0
        cases put
        · have HF : Hid ((acc ++ [o]) ++ oneGo o true (l.drop (k + 1)) = R) := by show _ = _; rw [← hr]; simp
          clear hr
          have oc4 := last.On.cell (B := wr.heap.size) hPwr.2.1 (World.block_lt_of_cell? _ _ hPwr.2.1)
          have oe4 := last.On.cell (B := wr.heap.size) hCwr.2.1 (World.block_lt_of_cell? _ _ hCwr.2.1)
          have hinh4 := last.On.inh wr.heap.size wr
          go_wp2_with (at_builtin; fail)
          refine last.wp_region_on wr.heap.size (by kernel_rfl) (by kernel_rfl) ?_
          repeat (go_big_quiet_step ((fail)))
          refine wpQuiet_nil ?_
          intro wq hwq
          obtain ⟨xq, hwq⟩ := hwq
          subst hwq
          have hbq4 : Below wr.heap.size wr xq.w := xq.2
          generalize xq.w = w4 at *
          have hOw4 := hOwr.below hbq4
          have hBw4 := hBwr.trans (hbq4.mono hBwr.size)
          have hCw4 := keepB3 hbq4 hCwr
          have hPw4 := keepB3 hbq4 hPwr
          clear oc4 oe4 hinh4 hbq4 hOwr hBwr hCwr hPwr
          have x0 := hCw4.1
          have x1 := hCw4.2.1
          have x2 := hCw4.2.2
          have hc35 : n + 1 ≤ maxLen := by unfold maxLen; omega
          have hc45 : (n + 1) * 40 ≤ 140737488355328 := by omega
          have hgl5 := hOw4.lt
          have hbw5 : w.heap.size + 1 ≤ w4.heap.size := by omega
          have hbz5 := hBw4.size
          go_wp2_with (at_builtin; refine wpList_append_own _ rfl _ _ 28 rfl (w.heap.size + 1) 111 i0 (.agg #[.int .i64 0, .string ⟨#[]⟩, .string ⟨#[]⟩]) 3 40 Try.underlying28 hif hz0 hz1 hz2 rfl (by decide) _ _ _ rfl (hOw4.2.2.alloc _) ⟨w4.heap.size, 0, none⟩ 1 1 (ordVals [o]) rfl rfl (one_ord_cells _ _ _) (ordVals_oneCell _) hc35 hc45 (le_alloc _ _ hbw5) ?_)
          intro v5 w5 hown hgrow hnn
          obtain ⟨g5, cp5, hv, hO5⟩ := ownO_app hOw4.1 hOw4.2.1 ho hnn hown
          subst hv
          have hB5 : Below w.heap.size w w5 := (hBw4.alloc hbz5 _).grown hgrow (le_alloc _ _ hbz5) (fun k e => by simp [Value.ownBlock] at e; omega)
          have hC5 := keep3 hgrow (by simp [Value.ownBlock]; omega) (keepB3 ((Below.refl _ _).alloc (Nat.le_refl _) (.cells #[.int .i64 o.1, .string o.2.1, .string o.2.2] 111)) hCw4)
          clear hown hgrow hnn
          have hP5 := HKQ.out _ hB5
          have hOw5 := hO5
          have hBw5 := hB5
          have hCw5 := hC5
          have hPw5 := hP5
          clear hO5 hB5 hC5 hP5 x0 x1 x2 hOw4 hBw4 hCw4 hPw4
          have oc6 := last.On.cell (B := w5.heap.size) hPw5.2.1 (World.block_lt_of_cell? _ _ hPw5.2.1)
          have oe6 := last.On.cell (B := w5.heap.size) hCw5.2.1 (World.block_lt_of_cell? _ _ hCw5.2.1)
          have hinh6 := last.On.inh w5.heap.size w5
          go_wp2_with (at_builtin; fail)
          refine last.wp_region_on w5.heap.size (by kernel_rfl) (by kernel_rfl) ?_
          repeat (go_big_quiet_step ((fail)))
          refine wpQuiet_nil ?_
          intro wq hwq
          obtain ⟨xq, hwq⟩ := hwq
          subst hwq
          have hbq6 : Below w5.heap.size w5 xq.w := xq.2
          generalize xq.w = w6 at *
          have hOw6 := hOw5.below hbq6
          have hBw6 := hBw5.trans (hbq6.mono hBw5.size)
          have hCw6 := keepB3 hbq6 hCw5
          have hPw6 := keepB3 hbq6 hPw5
          clear oc6 oe6 hinh6 hbq6 hOw5 hBw5 hCw5 hPw5
          have HX := Hid.mk' hCw6
          have HY := Hid.mk' hPw6
          clear hCw6 hPw6
          go_wp2_with (at_builtin; fail)
          go_roundw
          case rel => exact ⟨k + 1, g5, n + 1, cp5, true, acc ++ [o], by omega, by omega, by go_num, rfl, rfl, HF.out, hOw6, HX.out, hBw6⟩
          case measure => simp [intOf]; omega
        · have HF : Hid (acc ++ oneGo o true (l.drop (k + 1)) = R) := by show _ = _; rw [← hr]; simp
          clear hr
          have oc4 := last.On.cell (B := wr.heap.size) hPwr.2.1 (World.block_lt_of_cell? _ _ hPwr.2.1)
          have oe4 := last.On.cell (B := wr.heap.size) hCwr.2.1 (World.block_lt_of_cell? _ _ hCwr.2.1)
          have hinh4 := last.On.inh wr.heap.size wr
          go_wp2_with (at_builtin; fail)
          refine last.wp_region_on wr.heap.size (by kernel_rfl) (by kernel_rfl) ?_
          repeat (go_big_quiet_step ((fail)))
          refine wpQuiet_nil ?_
          intro wq hwq
          obtain ⟨xq, hwq⟩ := hwq
          subst hwq
          have hbq4 : Below wr.heap.size wr xq.w := xq.2
          generalize xq.w = w4 at *
          have hOw4 := hOwr.below hbq4
          have hBw4 := hBwr.trans (hbq4.mono hBwr.size)
          have hCw4 := keepB3 hbq4 hCwr
          have hPw4 := keepB3 hbq4 hPwr
          clear oc4 oe4 hinh4 hbq4 hOwr hBwr hCwr hPwr
          have oc6 := last.On.cell (B := w4.heap.size) hPw4.2.1 (World.block_lt_of_cell? _ _ hPw4.2.1)
          have oe6 := last.On.cell (B := w4.heap.size) hCw4.2.1 (World.block_lt_of_cell? _ _ hCw4.2.1)
          have hinh6 := last.On.inh w4.heap.size w4
          go_wp2_with (at_builtin; fail)
          refine last.wp_region_on w4.heap.size (by kernel_rfl) (by kernel_rfl) ?_
          repeat (go_big_quiet_step ((fail)))
          refine wpQuiet_nil ?_
          intro wq hwq
          obtain ⟨xq, hwq⟩ := hwq
          subst hwq
          have hbq6 : Below w4.heap.size w4 xq.w := xq.2
          generalize xq.w = w6 at *
          have hOw6 := hOw4.below hbq6
          have hBw6 := hBw4.trans (hbq6.mono hBw4.size)
          have hCw6 := keepB3 hbq6 hCw4
          have hPw6 := keepB3 hbq6 hPw4
          clear oc6 oe6 hinh6 hbq6 hOw4 hBw4 hCw4 hPw4
          have HX := Hid.mk' hCw6
          have HY := Hid.mk' hPw6
          clear hCw6 hPw6
          go_wp2_with (at_builtin; fail)
          go_roundw
          case rel => exact ⟨k + 1, g, n, cp, true, acc, by omega, by omega, by go_num, rfl, rfl, HF.out, hOw6, HX.out, hBw6⟩
          case measure => simp [intOf]; omega
      · rw [if_neg he] at hr
        have hq := str_ne he
        cases put
        · cases hl0 : ltB p.2.1 o.2.1
          · rw [hl0] at hr
            have HF : Hid ((acc ++ [o] ++ [p]) ++ oneGo o true (l.drop (k + 1)) = R) := by show _ = _; rw [← hr]; simp
            have hb0 : Op.bytesLess p.2.1.toList o.2.1.toList = false := hl0
            clear hr hl0
            have oc4 := last.On.cell (B := wr.heap.size) hPwr.2.1 (World.block_lt_of_cell? _ _ hPwr.2.1)
            have oe4 := last.On.cell (B := wr.heap.size) hCwr.2.1 (World.block_lt_of_cell? _ _ hCwr.2.1)
            have hinh4 := last.On.inh wr.heap.size wr
            go_wp2_with (at_builtin; fail)
            refine last.wp_region_on wr.heap.size (by kernel_rfl) (by kernel_rfl) ?_
            repeat (go_big_quiet_step ((fail)))
            refine wpQuiet_nil ?_
            intro wq hwq
            obtain ⟨xq, hwq⟩ := hwq
            subst hwq
            have hbq4 : Below wr.heap.size wr xq.w := xq.2
            generalize xq.w = w4 at *
            have hOw4 := hOwr.below hbq4
            have hBw4 := hBwr.trans (hbq4.mono hBwr.size)
            have hCw4 := keepB3 hbq4 hCwr
            have hPw4 := keepB3 hbq4 hPwr
            clear oc4 oe4 hinh4 hbq4 hOwr hBwr hCwr hPwr
            have x0 := hCw4.1
            have x1 := hCw4.2.1
            have x2 := hCw4.2.2
            have hc35 : n + 1 ≤ maxLen := by unfold maxLen; omega
            have hc45 : (n + 1) * 40 ≤ 140737488355328 := by omega
            have hgl5 := hOw4.lt
            have hbw5 : w.heap.size + 1 ≤ w4.heap.size := by omega
            have hbz5 := hBw4.size
            go_wp2_with (at_builtin; refine wpList_append_own _ rfl _ _ 28 rfl (w.heap.size + 1) 111 i0 (.agg #[.int .i64 0, .string ⟨#[]⟩, .string ⟨#[]⟩]) 3 40 Try.underlying28 hif hz0 hz1 hz2 rfl (by decide) _ _ _ rfl (hOw4.2.2.alloc _) ⟨w4.heap.size, 0, none⟩ 1 1 (ordVals [o]) rfl rfl (one_ord_cells _ _ _) (ordVals_oneCell _) hc35 hc45 (le_alloc _ _ hbw5) ?_)
            intro v5 w5 hown hgrow hnn
            obtain ⟨g5, cp5, hv, hO5⟩ := ownO_app hOw4.1 hOw4.2.1 ho hnn hown
            subst hv
            have hB5 : Below w.heap.size w w5 := (hBw4.alloc hbz5 _).grown hgrow (le_alloc _ _ hbz5) (fun k e => by simp [Value.ownBlock] at e; omega)
            have hC5 := keep3 hgrow (by simp [Value.ownBlock]; omega) (keepB3 ((Below.refl _ _).alloc (Nat.le_refl _) (.cells #[.int .i64 o.1, .string o.2.1, .string o.2.2] 111)) hCw4)
            clear hown hgrow hnn
            have hP5 := HKQ.out _ hB5
            have hOw5 := hO5
            have hBw5 := hB5
            have hCw5 := hC5
            have hPw5 := hP5
            clear hO5 hB5 hC5 hP5 x0 x1 x2 hOw4 hBw4 hCw4 hPw4
            have hmk : n + 1 ≤ 2 * k + 1 := by omega
            generalize n + 1 = m at *
            have oc6 := last.On.cell (B := w5.heap.size) hPw5.2.1 (World.block_lt_of_cell? _ _ hPw5.2.1)
            have oe6 := last.On.cell (B := w5.heap.size) hCw5.2.1 (World.block_lt_of_cell? _ _ hCw5.2.1)
            have hinh6 := last.On.inh w5.heap.size w5
            go_wp2_with (at_builtin; fail)
            refine last.wp_region_on w5.heap.size (by kernel_rfl) (by kernel_rfl) ?_
            repeat (go_big_quiet_step ((fail)))
            refine wpQuiet_nil ?_
            intro wq hwq
            obtain ⟨xq, hwq⟩ := hwq
            subst hwq
            have hbq6 : Below w5.heap.size w5 xq.w := xq.2
            generalize xq.w = w6 at *
            have hOw6 := hOw5.below hbq6
            have hBw6 := hBw5.trans (hbq6.mono hBw5.size)
            have hCw6 := keepB3 hbq6 hCw5
            have hPw6 := keepB3 hbq6 hPw5
            clear oc6 oe6 hinh6 hbq6 hOw5 hBw5 hCw5 hPw5
            have x0 := hPw6.1
            have x1 := hPw6.2.1
            have x2 := hPw6.2.2
            have hc37 : m + 1 ≤ maxLen := by unfold maxLen; omega
            have hc47 : (m + 1) * 40 ≤ 140737488355328 := by omega
            have hgl7 := hOw6.lt
            have hbw7 : w.heap.size + 1 ≤ w6.heap.size := by omega
            have hbz7 := hBw6.size
            go_wp2_with (at_builtin; refine wpList_append_own _ rfl _ _ 28 rfl (w.heap.size + 1) 111 i0 (.agg #[.int .i64 0, .string ⟨#[]⟩, .string ⟨#[]⟩]) 3 40 Try.underlying28 hif hz0 hz1 hz2 rfl (by decide) _ _ _ rfl (hOw6.2.2.alloc _) ⟨w6.heap.size, 0, none⟩ 1 1 (ordVals [p]) rfl rfl (one_ord_cells _ _ _) (ordVals_oneCell _) hc37 hc47 (le_alloc _ _ hbw7) ?_)
            intro v7 w7 hown hgrow hnn
            obtain ⟨g7, cp7, hv, hO7⟩ := ownO_app hOw6.1 hOw6.2.1 hpk hnn hown
            subst hv
            have hB7 : Below w.heap.size w w7 := (hBw6.alloc hbz7 _).grown hgrow (le_alloc _ _ hbz7) (fun k e => by simp [Value.ownBlock] at e; omega)
            have hC7 := keep3 hgrow (by simp [Value.ownBlock]; omega) (keepB3 ((Below.refl _ _).alloc (Nat.le_refl _) (.cells #[.int .i64 p.1, .string p.2.1, .string p.2.2] 111)) hCw6)
            clear hown hgrow hnn
            have hP7 := HKQ.out _ hB7
            have hOw7 := hO7
            have hBw7 := hB7
            have hCw7 := hC7
            have hPw7 := hP7
            clear hO7 hB7 hC7 hP7 x0 x1 x2 hOw6 hBw6 hCw6 hPw6
            have HX := Hid.mk' hCw7
            have HY := Hid.mk' hPw7
            clear hCw7 hPw7
            go_wp2_with (at_builtin; fail)
            go_roundw
            case rel => exact ⟨k + 1, g7, m + 1, cp7, true, acc ++ [o] ++ [p], by omega, by omega, by go_num, rfl, rfl, HF.out, hOw7, HX.out, hBw7⟩
            case measure => simp [intOf]; omega
          · rw [hl0] at hr
            have HF : Hid ((acc ++ [p]) ++ oneGo o false (l.drop (k + 1)) = R) := by show _ = _; rw [← hr]; simp
            have hb0 : Op.bytesLess p.2.1.toList o.2.1.toList = true := hl0
            clear hr hl0
            have oc4 := last.On.cell (B := wr.heap.size) hPwr.2.1 (World.block_lt_of_cell? _ _ hPwr.2.1)
            have oe4 := last.On.cell (B := wr.heap.size) hCwr.2.1 (World.block_lt_of_cell? _ _ hCwr.2.1)
            have hinh4 := last.On.inh wr.heap.size wr
            go_wp2_with (at_builtin; fail)
            refine last.wp_region_on wr.heap.size (by kernel_rfl) (by kernel_rfl) ?_
            repeat (go_big_quiet_step ((fail)))
            refine wpQuiet_nil ?_
            intro wq hwq
            obtain ⟨xq, hwq⟩ := hwq
            subst hwq
            have hbq4 : Below wr.heap.size wr xq.w := xq.2
            generalize xq.w = w4 at *
            have hOw4 := hOwr.below hbq4
            have hBw4 := hBwr.trans (hbq4.mono hBwr.size)
            have hCw4 := keepB3 hbq4 hCwr
            have hPw4 := keepB3 hbq4 hPwr
            clear oc4 oe4 hinh4 hbq4 hOwr hBwr hCwr hPwr
            have oc6 := last.On.cell (B := w4.heap.size) hPw4.2.1 (World.block_lt_of_cell? _ _ hPw4.2.1)
            have oe6 := last.On.cell (B := w4.heap.size) hCw4.2.1 (World.block_lt_of_cell? _ _ hCw4.2.1)
            have hinh6 := last.On.inh w4.heap.size w4
            go_wp2_with (at_builtin; fail)
            refine last.wp_region_on w4.heap.size (by kernel_rfl) (by kernel_rfl) ?_
            repeat (go_big_quiet_step ((fail)))
            refine wpQuiet_nil ?_
            intro wq hwq
            obtain ⟨xq, hwq⟩ := hwq
            subst hwq
            have hbq6 : Below w4.heap.size w4 xq.w := xq.2
            generalize xq.w = w6 at *
            have hOw6 := hOw4.below hbq6
            have hBw6 := hBw4.trans (hbq6.mono hBw4.size)
            have hCw6 := keepB3 hbq6 hCw4
            have hPw6 := keepB3 hbq6 hPw4
            clear oc6 oe6 hinh6 hbq6 hOw4 hBw4 hCw4 hPw4
            have x0 := hPw6.1
            have x1 := hPw6.2.1
            have x2 := hPw6.2.2
            have hc37 : n + 1 ≤ maxLen := by unfold maxLen; omega
            have hc47 : (n + 1) * 40 ≤ 140737488355328 := by omega
            have hgl7 := hOw6.lt
            have hbw7 : w.heap.size + 1 ≤ w6.heap.size := by omega
            have hbz7 := hBw6.size
            go_wp2_with (at_builtin; refine wpList_append_own _ rfl _ _ 28 rfl (w.heap.size + 1) 111 i0 (.agg #[.int .i64 0, .string ⟨#[]⟩, .string ⟨#[]⟩]) 3 40 Try.underlying28 hif hz0 hz1 hz2 rfl (by decide) _ _ _ rfl (hOw6.2.2.alloc _) ⟨w6.heap.size, 0, none⟩ 1 1 (ordVals [p]) rfl rfl (one_ord_cells _ _ _) (ordVals_oneCell _) hc37 hc47 (le_alloc _ _ hbw7) ?_)
            intro v7 w7 hown hgrow hnn
            obtain ⟨g7, cp7, hv, hO7⟩ := ownO_app hOw6.1 hOw6.2.1 hpk hnn hown
            subst hv
            have hB7 : Below w.heap.size w w7 := (hBw6.alloc hbz7 _).grown hgrow (le_alloc _ _ hbz7) (fun k e => by simp [Value.ownBlock] at e; omega)
            have hC7 := keep3 hgrow (by simp [Value.ownBlock]; omega) (keepB3 ((Below.refl _ _).alloc (Nat.le_refl _) (.cells #[.int .i64 p.1, .string p.2.1, .string p.2.2] 111)) hCw6)
            clear hown hgrow hnn
            have hP7 := HKQ.out _ hB7
            have hOw7 := hO7
            have hBw7 := hB7
            have hCw7 := hC7
            have hPw7 := hP7
            clear hO7 hB7 hC7 hP7 x0 x1 x2 hOw6 hBw6 hCw6 hPw6
            have HX := Hid.mk' hCw7
            have HY := Hid.mk' hPw7
            clear hCw7 hPw7
            go_wp2_with (at_builtin; fail)
            go_roundw
            case rel => exact ⟨k + 1, g7, n + 1, cp7, false, acc ++ [p], by omega, by omega, by go_num, rfl, rfl, HF.out, hOw7, HX.out, hBw7⟩
            case measure => simp [intOf]; omega
        · have HF : Hid ((acc ++ [p]) ++ oneGo o true (l.drop (k + 1)) = R) := by show _ = _; rw [← hr]; simp
          clear hr
          have oc4 := last.On.cell (B := wr.heap.size) hPwr.2.1 (World.block_lt_of_cell? _ _ hPwr.2.1)
          have oe4 := last.On.cell (B := wr.heap.size) hCwr.2.1 (World.block_lt_of_cell? _ _ hCwr.2.1)
          have hinh4 := last.On.inh wr.heap.size wr
          go_wp2_with (at_builtin; fail)
          refine last.wp_region_on wr.heap.size (by kernel_rfl) (by kernel_rfl) ?_
          repeat (go_big_quiet_step ((fail)))
          refine wpQuiet_nil ?_
          intro wq hwq
          obtain ⟨xq, hwq⟩ := hwq
          subst hwq
          have hbq4 : Below wr.heap.size wr xq.w := xq.2
          generalize xq.w = w4 at *
          have hOw4 := hOwr.below hbq4
          have hBw4 := hBwr.trans (hbq4.mono hBwr.size)
          have hCw4 := keepB3 hbq4 hCwr
          have hPw4 := keepB3 hbq4 hPwr
          clear oc4 oe4 hinh4 hbq4 hOwr hBwr hCwr hPwr
          have oc6 := last.On.cell (B := w4.heap.size) hPw4.2.1 (World.block_lt_of_cell? _ _ hPw4.2.1)
          have oe6 := last.On.cell (B := w4.heap.size) hCw4.2.1 (World.block_lt_of_cell? _ _ hCw4.2.1)
          have hinh6 := last.On.inh w4.heap.size w4
          go_wp2_with (at_builtin; fail)
          refine last.wp_region_on w4.heap.size (by kernel_rfl) (by kernel_rfl) ?_
          repeat (go_big_quiet_step ((fail)))
          refine wpQuiet_nil ?_
          intro wq hwq
          obtain ⟨xq, hwq⟩ := hwq
          subst hwq
          have hbq6 : Below w4.heap.size w4 xq.w := xq.2
          generalize xq.w = w6 at *
          have hOw6 := hOw4.below hbq6
          have hBw6 := hBw4.trans (hbq6.mono hBw4.size)
          have hCw6 := keepB3 hbq6 hCw4
          have hPw6 := keepB3 hbq6 hPw4
          clear oc6 oe6 hinh6 hbq6 hOw4 hBw4 hCw4 hPw4
          have x0 := hPw6.1
          have x1 := hPw6.2.1
          have x2 := hPw6.2.2
          have hc37 : n + 1 ≤ maxLen := by unfold maxLen; omega
          have hc47 : (n + 1) * 40 ≤ 140737488355328 := by omega
          have hgl7 := hOw6.lt
          have hbw7 : w.heap.size + 1 ≤ w6.heap.size := by omega
          have hbz7 := hBw6.size
          go_wp2_with (at_builtin; refine wpList_append_own _ rfl _ _ 28 rfl (w.heap.size + 1) 111 i0 (.agg #[.int .i64 0, .string ⟨#[]⟩, .string ⟨#[]⟩]) 3 40 Try.underlying28 hif hz0 hz1 hz2 rfl (by decide) _ _ _ rfl (hOw6.2.2.alloc _) ⟨w6.heap.size, 0, none⟩ 1 1 (ordVals [p]) rfl rfl (one_ord_cells _ _ _) (ordVals_oneCell _) hc37 hc47 (le_alloc _ _ hbw7) ?_)
          intro v7 w7 hown hgrow hnn
          obtain ⟨g7, cp7, hv, hO7⟩ := ownO_app hOw6.1 hOw6.2.1 hpk hnn hown
          subst hv
          have hB7 : Below w.heap.size w w7 := (hBw6.alloc hbz7 _).grown hgrow (le_alloc _ _ hbz7) (fun k e => by simp [Value.ownBlock] at e; omega)
          have hC7 := keep3 hgrow (by simp [Value.ownBlock]; omega) (keepB3 ((Below.refl _ _).alloc (Nat.le_refl _) (.cells #[.int .i64 p.1, .string p.2.1, .string p.2.2] 111)) hCw6)
          clear hown hgrow hnn
          have hP7 := HKQ.out _ hB7
          have hOw7 := hO7
          have hBw7 := hB7
          have hCw7 := hC7
          have hPw7 := hP7
          clear hO7 hB7 hC7 hP7 x0 x1 x2 hOw6 hBw6 hCw6 hPw6
          have HX := Hid.mk' hCw7
          have HY := Hid.mk' hPw7
          clear hCw7 hPw7
          go_wp2_with (at_builtin; fail)
          go_roundw
          case rel => exact ⟨k + 1, g7, n + 1, cp7, true, acc ++ [p], by omega, by omega, by go_num, rfl, rfl, HF.out, hOw7, HX.out, hBw7⟩
          case measure => simp [intOf]; omega
    · have hd : l.drop k = [] := List.drop_eq_nil_of_le (by omega)
      rw [hd, oneGo] at hr
      obtain ⟨e0, e1, e2⟩ := hC
      cases put
      · have HF : Hid (acc ++ [o] = R) := by show _ = _; simpa using hr
        clear hr hd
        have hc33 : n + 1 ≤ maxLen := by unfold maxLen; omega
        have hc43 : (n + 1) * 40 ≤ 140737488355328 := by omega
        have hgl3 := hO.lt
        have hbw3 : w.heap.size + 1 ≤ wr.heap.size := by omega
        have hbz3 := hB.size
        go_wp2_with (at_builtin; refine wpList_append_own _ rfl _ _ 28 rfl (w.heap.size + 1) 111 i0 (.agg #[.int .i64 0, .string ⟨#[]⟩, .string ⟨#[]⟩]) 3 40 Try.underlying28 hif hz0 hz1 hz2 rfl (by decide) _ _ _ rfl (hO.2.2.alloc _) ⟨wr.heap.size, 0, none⟩ 1 1 (ordVals [o]) rfl rfl (one_ord_cells _ _ _) (ordVals_oneCell _) hc33 hc43 (le_alloc _ _ hbw3) ?_)
        intro v3 w3 hown hgrow hnn
        obtain ⟨g3, cp3, hv, hO3⟩ := ownO_app hO.1 hO.2.1 ho hnn hown
        subst hv
        have hB3 : Below w.heap.size w w3 := (hB.alloc hbz3 _).grown hgrow (le_alloc _ _ hbz3) (fun k e => by simp [Value.ownBlock] at e; omega)
        have hC3 := keep3 hgrow (by simp [Value.ownBlock]; omega) (keepB3 ((Below.refl _ _).alloc (Nat.le_refl _) (.cells #[.int .i64 o.1, .string o.2.1, .string o.2.2] 111)) ⟨e0, e1, e2⟩)
        clear hown hgrow hnn
        go_wp2_with (at_builtin; fail)
        go_ret
        rw [← HF.out]
        exact ⟨g3, _, cp3, rfl, hO3.mono (by omega), hB3⟩
      · have HF : Hid (acc = R) := by show _ = _; simpa using hr
        clear hr hd
        go_wp2_with (at_builtin; fail)
        go_ret
        rw [← HF.out]
        exact ⟨g, _, cp, rfl, hO.mono (by omega), hB⟩
end Go.Proofs.Yteniflajiklffaa.ords

namespace Go.Proofs.Yteniflajiklffaa.ords
open Go Go.RowKit Go.Proofs.Yteniflajiklffaa.base Go.Proofs.Yteniflajiklffaa.pairs
set_option linter.unusedVariables false

def V3 (w : World) (g : Nat) (t : TypeId) (x y z : Value) : Prop := w.heap[g]? = some (.cells #[x, y, z] t (0, 0))
section
variable {w w' : World} {g : Nat} {t : TypeId} {x y z : Value}
theorem V3.c0 (h : V3 w g t x y z) : w.cell? ⟨g, 0, none⟩ = some x := cell_cur h 0 _ rfl
theorem V3.c1 (h : V3 w g t x y z) : w.cell? ⟨g, 1, none⟩ = some y := cell_cur h 1 _ rfl
theorem V3.c2 (h : V3 w g t x y z) : w.cell? ⟨g, 2, none⟩ = some z := cell_cur h 2 _ rfl
theorem V3.lt (h : V3 w g t x y z) : g < w.heap.size := (Array.getElem?_eq_some_iff.1 h).1
theorem V3.below (h : V3 w g t x y z) (hb : Below w.heap.size w w') : V3 w' g t x y z := (hb.block g h.lt).trans h
end
theorem v3_grown {w w' : World} {g : Nat} {t : TypeId} {x y z : Value} {row : Option Nat} (h : V3 w g t x y z) (hg : w.grownBy w' row) (hne : some g ≠ row) : V3 w' g t x y z := (hg.block g h.lt hne).trans h
theorem v3_fz {w : World} {g : Nat} {t : TypeId} {x y z : Value} (h : V3 w g t x y z) (j : Nat) : w.frozen? ⟨g, j, none⟩ = false := by
  unfold V3 at h; simp [World.frozen?, h]
theorem v3_set {w : World} {g : Nat} {t : TypeId} {x y z : Value} (h : V3 w g t x y z) : (∀ u, V3 (w.setCell ⟨g, 0, none⟩ u) g t u y z ∧ w.grownBy (w.setCell ⟨g, 0, none⟩ u) (some g)) ∧ (∀ u, V3 (w.setCell ⟨g, 1, none⟩ u) g t x u z ∧ w.grownBy (w.setCell ⟨g, 1, none⟩ u) (some g)) ∧ (∀ u, V3 (w.setCell ⟨g, 2, none⟩ u) g t x y u ∧ w.grownBy (w.setCell ⟨g, 2, none⟩ u) (some g)) :=
  ⟨fun u => ⟨(set_cur h 0 u).1, (set_cur h 0 u).2⟩, fun u => ⟨(set_cur h 1 u).1, (set_cur h 1 u).2⟩, fun u => ⟨(set_cur h 2 u).1, (set_cur h 2 u).2⟩⟩
theorem v3_all {w : World} {g : Nat} {t : TypeId} {x y z : Value} (h : V3 w g t x y z) (a b c : Value) : V3 (((w.setCell ⟨g, 0, none⟩ a).setCell ⟨g, 1, none⟩ b).setCell ⟨g, 2, none⟩ c) g t a b c ∧ w.grownBy (((w.setCell ⟨g, 0, none⟩ a).setCell ⟨g, 1, none⟩ b).setCell ⟨g, 2, none⟩ c) (some g) := by
  have h1 := (v3_set h).1 a
  have h2 := (v3_set h1.1).2.1 b
  have h3 := (v3_set h2.1).2.2 c
  exact ⟨h3.1, grownBy_trans (grownBy_trans h1.2 h2.2) h3.2⟩
end Go.Proofs.Yteniflajiklffaa.ords
