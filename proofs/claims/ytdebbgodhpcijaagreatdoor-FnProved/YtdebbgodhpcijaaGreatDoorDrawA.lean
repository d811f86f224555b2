/- The cursor from which the laws draw: what each call does to it. What the draws of the first chapter's laws hand back. The draw of texts, the comparison of texts, and what the laws read of the code. What the laws on pairs draw. What the laws on pairs draw: whole draws. Codes that are too long. -/
import Derived.Test.YtdebbgodhpcijaaGreatDoorRows
import Derived.Test.YtdebbgodhpcijaaGreatDoorKitA
import Derived.Deep.RegionWith
import Derived.Test.YtdebbgodhpcijaaGreatDoorHelpR
import Derived.ArgAppend
import Derived.Test.YtdebbgodhpcijaaGreatDoorPairY
namespace Go.Proofs.YtdebbgodhpcijaaGreatDoor.draw
open Go.RowKit Go.Proofs.YtdebbgodhpcijaaGreatDoor.base
set_option linter.unusedVariables false
set_option linter.unusedSimpArgs false

/-- block gc is a cursor over the bytes 'code', which lie where they lay in the world w0 -/
def Cur (w0 w : World) (gc : Nat) (a : Option Addr) (len cap : Nat) (code : List UInt8) : Prop :=
  Sl w0 a len code ∧ Below w0.heap.size w0 w ∧ w0.heap.size ≤ gc ∧ len ≤ 1099511627776 ∧
  ∃ i h : Int, 0 ≤ i ∧ i ≤ len ∧ w.heap[gc]? = some (.cells #[.slice a len cap, .int .i64 i, .int .i64 h] 70 (0, 0))

theorem and_byte (z : Int) : 0 ≤ bits .and .i64 z 255 ∧ bits .and .i64 z 255 ≤ 255 := by
  have e : bits .and .i64 z 255 = IntKind.i64.wrap (((BitVec.ofInt 64 z) &&& (BitVec.ofInt 64 255)).toNat : Int) := rfl
  have h : ((BitVec.ofInt 64 z) &&& (BitVec.ofInt 64 255)).toNat ≤ 255 := by
    rw [BitVec.toNat_and]
    exact Nat.le_trans Nat.and_le_right (by decide)
  rw [e, wraps_i64 _ (by omega) (by omega)]
  omega

theorem cur_of {w0 w w1 : World} {gc : Nat} {a : Option Addr} {len cap : Nat} {code : List UInt8} {i h : Int} (hS : Sl w0 a len code) (hB : Below w0.heap.size w0 w) (hgc : w0.heap.size ≤ gc) (hln : len ≤ 1099511627776)
    (hi0 : 0 ≤ i) (hi1 : i ≤ len) (hg : w.grownBy w1 (some gc)) (hr : w1.heap[gc]? = some (.cells #[.slice a len cap, .int .i64 i, .int .i64 h] 70 (0, 0))) : Cur w0 w1 gc a len cap code :=
  ⟨hS, hB.grown hg hB.size (fun k e => by cases e; exact hgc), hgc, hln, i, h, hi0, hi1, hr⟩

set_option maxRecDepth 100000 in
set_option maxHeartbeats 1000000 in
theorem byte_ (w0 w : World) (gc : Nat) (a : Option Addr) (len cap : Nat) (code : List UInt8) (h : Cur w0 w gc a len cap code) :
    Calls Tryz.prog 74 #[.pointer (some ⟨gc, 0, none⟩)] w fun e w' => ∃ x : Int, 0 ≤ x ∧ x ≤ 255 ∧ e = .returned (.int .i64 x) ∧ Cur w0 w' gc a len cap code ∧ w.grownBy w' (some gc) := by
  obtain ⟨hS, hB, hgc, hln, i, hh, hi0, hi1, hrow⟩ := h
  have c0 : w.cell? ⟨gc, 0, none⟩ = some (.slice a len cap) := cell_cur hrow 0 _ rfl
  have c1 : w.cell? ⟨gc, 1, none⟩ = some (.int .i64 i) := cell_cur hrow 1 _ rfl
  have c2 : w.cell? ⟨gc, 2, none⟩ = some (.int .i64 hh) := cell_cur hrow 2 _ rfl
  have f1 : w.frozen? ⟨gc, 1, none⟩ = false := frozen_of_row w gc 1 _ _ hrow
  have f2 : w.frozen? ⟨gc, 2, none⟩ = false := frozen_of_row w gc 2 _ _ hrow
  have HROW := Hid.mk' hrow
  clear hrow
  by_cases hlt : i < len
  · obtain ⟨I, rfl⟩ := Int.eq_ofNat_of_zero_le hi0
    have hS' := hS.below hB
    have hIl : I < code.length := by have := hS.1; omega
    obtain ⟨b, off, ha, hcl⟩ := hS.2.2 (by omega)
    subst ha
    have hbb : b < w0.heap.size := World.block_lt_of_cell? w0 _ (hcl I hIl)
    have hne : ¬ b = gc := by omega
    have hne2 : ¬ gc = b := by omega
    generalize hcc : code[I].toNat = c
    have hc256 : c < 256 := by rw [← hcc]; exact UInt8.toNat_lt _
    have c3 : w.cell? ⟨b, off + I, none⟩ = some (.int .u8 (c : Int)) := by rw [hS'.at I hIl, hcc]
    have hi3 : (I : Int) < (len : Int) := hlt
    clear hcl hcc hIl hS'
    go_enter Tryz.func74, Tryz.ntmps74
    go_wp2
    go_quiet (fail)
    go_wp2
    go_quiet (fail)
    go_wp2
    go_quiet (fail)
    go_wp2
    go_ret
    have hs := set_cur HROW.out 2 (.int .i64 (wrap64 (wrap64 (hh * 6364136223846793005) + 1442695040888963407)))
    have hs2 := fun n => set_cur (w := (w.setCell ⟨gc, 2, none⟩ (.int .i64 (wrap64 (wrap64 (hh * 6364136223846793005) + 1442695040888963407)))).drewN n) hs.1 1 (.int .i64 ((I : Int) + 1))
    have hg := fun n => grownBy_trans (grown_drewN hs.2 n) (hs2 n).2
    exact ⟨_, (and_byte _).1, (and_byte _).2, rfl, cur_of hS hB hgc hln (by omega) (by omega) (hg _) (hs2 _).1, hg _⟩
  · go_enter Tryz.func74, Tryz.ntmps74
    go_wp2
    go_quiet (fail)
    go_wp2
    go_quiet (fail)
    go_wp2
    go_ret
    have hs := set_cur HROW.out 2 (.int .i64 (wrap64 (wrap64 (hh * 6364136223846793005) + 1442695040888963407)))
    exact ⟨_, (and_byte _).1, (and_byte _).2, rfl, cur_of hS hB hgc hln hi0 hi1 (grown_drewN (grown_drewN hs.2 _) _) hs.1, grown_drewN (grown_drewN hs.2 _) _⟩

theorem Cur.lt {w0 w : World} {gc : Nat} {a : Option Addr} {len cap : Nat} {code : List UInt8} (h : Cur w0 w gc a len cap code) : gc < w.heap.size := by
  obtain ⟨_, _, _, _, i, hh, _, _, hr⟩ := h
  exact (Array.getElem?_eq_some_iff.1 hr).1
theorem Cur.bel {w0 w : World} {gc : Nat} {a : Option Addr} {len cap : Nat} {code : List UInt8} (h : Cur w0 w gc a len cap code) : Below w0.heap.size w0 w := h.2.1
theorem Cur.ge {w0 w : World} {gc : Nat} {a : Option Addr} {len cap : Nat} {code : List UInt8} (h : Cur w0 w gc a len cap code) : w0.heap.size ≤ gc := h.2.2.1
/-- a step that does not touch the cursor's block -/
theorem Cur.grown {w0 w w1 : World} {gc : Nat} {a : Option Addr} {len cap : Nat} {code : List UInt8} {row : Option Nat} (h : Cur w0 w gc a len cap code) (hg : w.grownBy w1 row) (hne : some gc ≠ row) (hr : ∀ k, row = some k → w0.heap.size ≤ k) : Cur w0 w1 gc a len cap code := by
  have hlt := h.lt
  obtain ⟨hS, hB, hgc, hln, i, hh, hi0, hi1, hrow⟩ := h
  exact ⟨hS, hB.grown hg hB.size hr, hgc, hln, i, hh, hi0, hi1, by rw [hg.block gc hlt hne]; exact hrow⟩
theorem Cur.below {w0 w w1 : World} {gc : Nat} {a : Option Addr} {len cap : Nat} {code : List UInt8} (h : Cur w0 w gc a len cap code) (hb : Below w.heap.size w w1) : Cur w0 w1 gc a len cap code :=
  h.grown (row := none) ⟨hb.os, hb.tape, hb.output, hb.size, fun k hk _ => hb.block k hk⟩ (by simp) (fun k e => by cases e)

set_option maxRecDepth 100000 in
set_option maxHeartbeats 1000000 in
theorem below_ (w0 w : World) (gc : Nat) (a : Option Addr) (len cap : Nat) (code : List UInt8) (n : Int) (h : Cur w0 w gc a len cap code) (hn : 0 < n) (hn2 : n ≤ 1000000000) :
    Calls Tryz.prog 40 #[.pointer (some ⟨gc, 0, none⟩), .int .i64 n] w fun e w' => ∃ x : Nat, (x : Int) < n ∧ e = .returned (.int .i64 (x : Int)) ∧ Cur w0 w' gc a len cap code ∧ w.grownBy w' (some gc) := by
  by_cases hs : n ≤ 256
  · go_enter Tryz.func40, Tryz.ntmps40
    go_wp2_with fail
    refine (byte_ w0 _ gc a len cap code h).mono ?_
    rintro e w1 ⟨x, hx0, hx1, rfl, hc1, hg1⟩
    go_wp2_with fail
    go_ret
    have e1 : 0 ≤ x % n := Int.emod_nonneg _ (by omega)
    have e2 : x % n < n := Int.emod_lt_of_pos _ hn
    exact ⟨(x % n).toNat, by omega, ret_int (by omega), hc1, hg1⟩
  · go_enter Tryz.func40, Tryz.ntmps40
    go_wp2_with fail
    refine (byte_ w0 _ gc a len cap code h).mono ?_
    rintro e w1 ⟨x, hx0, hx1, rfl, hc1, hg1⟩
    go_wp2_with fail
    refine (byte_ w0 _ gc a len cap code hc1).mono ?_
    rintro e w2 ⟨y, hy0, hy1, rfl, hc2, hg2⟩
    go_wp2_with fail
    refine (byte_ w0 _ gc a len cap code hc2).mono ?_
    rintro e w3 ⟨z, hz0, hz1, rfl, hc3, hg3⟩
    go_wp2_with fail
    go_ret
    have e1 : 0 ≤ (x * 65536 + y * 256 + z) % n := Int.emod_nonneg _ (by omega)
    have e2 : (x * 65536 + y * 256 + z) % n < n := Int.emod_lt_of_pos _ hn
    exact ⟨((x * 65536 + y * 256 + z) % n).toNat, by omega, ret_int (by omega), hc3, grownBy_trans (grownBy_trans hg1 hg2) hg3⟩

/-- one of a list of numbers that lies in a row of its own -/
theorem int_ (w0 w : World) (gc : Nat) (a : Option Addr) (len cap : Nat) (code : List UInt8) (gl n cp : Nat) (zs : Array Value) (mk : Nat × Nat) (h : Cur w0 w gc a len cap code) (hr : w.heap[gl]? = some (.cells zs 3 mk)) (hz : zs.size = n) (hn : 0 < n) (hn2 : n ≤ 1000) (hne : gl ≠ gc)
    (P : Int → Prop) (hP : ∀ i, i < n → ∃ z, zs[i]? = some (.int .i64 z) ∧ P z) :
    Calls Tryz.prog 48 #[.pointer (some ⟨gc, 0, none⟩), .slice (some ⟨gl, 0, none⟩) n cp] w fun e w' => ∃ z : Int, P z ∧ e = .returned (.int .i64 z) ∧ Cur w0 w' gc a len cap code ∧ w.grownBy w' (some gc) := by
  go_enter Tryz.func48, Tryz.ntmps48
  go_wp2_with fail
  refine (below_ w0 _ gc a len cap code _ h (by omega) (by omega)).mono ?_
  rintro e w1 ⟨x, hx, rfl, hc1, hg1⟩
  have hgl : gl < w.heap.size := (Array.getElem?_eq_some_iff.1 hr).1
  obtain ⟨z, hz1, hz2⟩ := hP x (by omega)
  have c1 : w1.cell? ⟨gl, x, none⟩ = some (.int .i64 z) := by
    have e1 := hg1.block gl hgl (by simpa using hne)
    rw [hr] at e1
    exact cell_cur e1 x _ hz1
  go_wp2_with fail
  go_ret
  exact ⟨z, hz2, rfl, hc1, hg1⟩

theorem str_ (w0 w : World) (gc : Nat) (a : Option Addr) (len cap : Nat) (code : List UInt8) (gl n cp : Nat) (zs : Array Value) (mk : Nat × Nat) (h : Cur w0 w gc a len cap code) (hr : w.heap[gl]? = some (.cells zs 9 mk)) (hz : zs.size = n) (hn : 0 < n) (hn2 : n ≤ 1000) (hne : gl ≠ gc)
    (P : ByteArray → Prop) (hP : ∀ i, i < n → ∃ z, zs[i]? = some (.string z) ∧ P z) :
    Calls Tryz.prog 44 #[.pointer (some ⟨gc, 0, none⟩), .slice (some ⟨gl, 0, none⟩) n cp] w fun e w' => ∃ z : ByteArray, P z ∧ e = .returned (.string z) ∧ Cur w0 w' gc a len cap code ∧ w.grownBy w' (some gc) := by
  go_enter Tryz.func44, Tryz.ntmps44
  go_wp2_with fail
  refine (below_ w0 _ gc a len cap code _ h (by omega) (by omega)).mono ?_
  rintro e w1 ⟨x, hx, rfl, hc1, hg1⟩
  have hgl : gl < w.heap.size := (Array.getElem?_eq_some_iff.1 hr).1
  obtain ⟨z, hz1, hz2⟩ := hP x (by omega)
  have c1 : w1.cell? ⟨gl, x, none⟩ = some (.string z) := by
    have e1 := hg1.block gl hgl (by simpa using hne)
    rw [hr] at e1
    exact cell_cur e1 x _ hz1
  go_wp2_with fail
  go_ret
  exact ⟨z, hz2, rfl, hc1, hg1⟩

set_option maxRecDepth 100000 in
set_option maxHeartbeats 1000000 in
theorem new_ (w0 w : World) (a : Option Addr) (len cap : Nat) (code : List UInt8) (h0 : Sl w0 a len code) (hB : Below w0.heap.size w0 w) (hln : len ≤ 1099511627776) :
    Calls Tryz.prog 14 #[.slice a len cap] w fun e w' => e = .returned (.pointer (some ⟨w.heap.size, 0, none⟩)) ∧ Cur w0 w' w.heap.size a len cap code ∧ Below w.heap.size w w' := by
  have hS := h0.below hB
  obtain ⟨hl, hm, hc⟩ := id hS
  subst hl
  go_enter Tryz.func14, Tryz.ntmps14
  go_wp2
  go_loop [3, 4] (fun hv i => ∃ (k : Nat) (hh : Int), k ≤ code.length ∧ i = .int .i64 (k : Int) ∧ hv = .int .i64 hh) (fun _ i => code.length - (intOf i).toNat)
  case atStart => exact ⟨0, _, Nat.zero_le _, rfl, rfl⟩
  case round =>
    obtain ⟨k, hh, hk, rfl, rfl⟩ := hrel
    by_cases hlt : k < code.length
    · by_cases h4 : k < 4000
      · obtain ⟨b, off, ha, hcl⟩ := hc (by omega)
        subst ha
        have c1 : w.cell? ⟨b, off + k, none⟩ = some (.int .u8 code[k].toNat) := hcl k hlt
        have hi1 : (k : Int) < (code.length : Int) := by omega
        clear hcl hc
        go_wp2
        go_round
        case rel => exact ⟨k + 1, _, by omega, by go_num, rfl⟩
        case measure => simp [intOf]; omega
      · go_wp2
        go_ret
        exact ⟨rfl, ⟨h0, hB.alloc hB.size _, hB.size, hln, 0, hh, by omega, by omega, heap_alloc_new w _⟩, (Below.refl _ _).alloc (Nat.le_refl _) _⟩
    · go_wp2
      go_ret
      exact ⟨rfl, ⟨h0, hB.alloc hB.size _, hB.size, hln, 0, hh, by omega, by omega, heap_alloc_new w _⟩, (Below.refl _ _).alloc (Nat.le_refl _) _⟩

end Go.Proofs.YtdebbgodhpcijaaGreatDoor.draw

namespace Go.Proofs.YtdebbgodhpcijaaGreatDoor.draw
open Go.RowKit Go.Proofs.YtdebbgodhpcijaaGreatDoor.base
set_option linter.unusedVariables false
set_option linter.unusedSimpArgs false

theorem below_of_grown {w w' : World} {gc : Nat} (h : w.grownBy w' (some gc)) (B : Nat) (hB : B ≤ gc) (hs : B ≤ w.heap.size) : Below B w w' := below_grown h hB hs
theorem Cur.drew {w0 w : World} {gc : Nat} {a : Option Addr} {len cap : Nat} {code : List UInt8} (h : Cur w0 w gc a len cap code) : Cur w0 w.drew gc a len cap code :=
  ⟨h.1, h.2.1.drew, h.2.2⟩


def GotNum (w : World) (e : Ending) (w' : World) : Prop :=
  ∃ (g m cp : Nat) (bs : List UInt8) (z : Int), m ≤ 1000 ∧ (Lit.int .i64 z).wf = true ∧ e = .returned (.tuple #[.slice (some ⟨g, 0, none⟩) m cp, .int .i64 z]) ∧ Own w' w.heap.size g m cp bs ∧ Below w.heap.size w w'


def GotText (w : World) (e : Ending) (w' : World) : Prop :=
  ∃ (g m cp : Nat) (bs ss : List UInt8), m ≤ 1000 ∧ ss.length ≤ 1000 ∧ e = .returned (.tuple #[.slice (some ⟨g, 0, none⟩) m cp, .string ⟨ss.toArray⟩]) ∧ Own w' w.heap.size g m cp bs ∧ Below w.heap.size w w'


def GotStr (w : World) (e : Ending) (w' : World) : Prop :=
  ∃ (ss : List UInt8), ss.length ≤ 1000 ∧ e = .returned (.string ⟨ss.toArray⟩) ∧ Below w.heap.size w w'


end Go.Proofs.YtdebbgodhpcijaaGreatDoor.draw

namespace Go.Proofs.YtdebbgodhpcijaaGreatDoor.draw
open Go.RowKit Go.Proofs.YtdebbgodhpcijaaGreatDoor.base Go.Proofs.YtdebbgodhpcijaaGreatDoor.help Go.Proofs.YtdebbgodhpcijaaGreatDoor.helps
set_option linter.unusedVariables false
set_option linter.unusedSimpArgs false




def GotTextsC (w0 w : World) (gc : Nat) (a : Option Addr) (len cap : Nat) (code : List UInt8) (e : Ending) (w' : World) : Prop :=
  ∃ (g m cp : Nat) (ss : List ByteArray), m ≤ 5 ∧ (∀ s ∈ ss, s.size ≤ 15) ∧ e = .returned (.slice (some ⟨g, 0, none⟩) m cp) ∧ OwnS w' w.heap.size g m cp ss ∧ Cur w0 w' gc a len cap code ∧ w.grownBy w' (some gc)


def GotTexts (w : World) (e : Ending) (w' : World) : Prop :=
  ∃ (g m cp : Nat) (bs : List UInt8) (g2 m2 cp2 : Nat) (ss : List ByteArray), m ≤ 1000 ∧ m2 ≤ 5 ∧ (∀ s ∈ ss, s.size ≤ 15) ∧ e = .returned (.tuple #[.slice (some ⟨g, 0, none⟩) m cp, .slice (some ⟨g2, 0, none⟩) m2 cp2]) ∧ Own w' w.heap.size g m cp bs ∧ OwnS w' w.heap.size g2 m2 cp2 ss ∧ Below w.heap.size w w'


end Go.Proofs.YtdebbgodhpcijaaGreatDoor.draw

namespace Go.Proofs.YtdebbgodhpcijaaGreatDoor.pairs
open Go Go.RowKit Go.Proofs.YtdebbgodhpcijaaGreatDoor.base Go.Proofs.YtdebbgodhpcijaaGreatDoor.draw
set_option linter.unusedVariables false
set_option linter.unusedSimpArgs false

def GotS (N : Nat) (w0 w : World) (gc : Nat) (a : Option Addr) (len cap : Nat) (code : List UInt8) (e : Ending) (w' : World) : Prop :=
  ∃ z : ByteArray, z.size ≤ N ∧ e = .returned (.string z) ∧ Cur w0 w' gc a len cap code ∧ w.grownBy w' (some gc)
theorem grown_of_alloc {w w' : World} {o : Obj} {row : Option Nat} (h : (w.alloc o).grownBy w' row) : w.grownBy w' row := grownBy_trans (grown_alloc0 w o row) h

set_option maxHeartbeats 1000000 in
theorem d_once (w0 w : World) (gc : Nat) (a : Option Addr) (len cap : Nat) (code : List UInt8) (n : Int) (h : Cur w0 w gc a len cap code) (hn : 0 < n) (hn2 : n ≤ 1000000000) :
    Calls Tryz.prog 18 #[.pointer (some ⟨gc, 0, none⟩), .int .i64 n] w fun e w' => ∃ b : Bool, e = .returned (.bool b) ∧ Cur w0 w' gc a len cap code ∧ w.grownBy w' (some gc) := by
  go_enter Tryz.func18, Tryz.ntmps18
  go_wp2_with fail
  refine (below_ w0 _ gc a len cap code n h hn hn2).mono ?_
  rintro e w1 ⟨x, hx, rfl, hc1, hg1⟩
  go_wp2_with fail
  go_ret
  exact ⟨_, rfl, hc1, hg1⟩

theorem curNe {w0 w : World} {gc : Nat} {a : Option Addr} {len cap : Nat} {code : List UInt8} (h : Cur w0 w gc a len cap code) : w.heap.size ≠ gc := by have := h.lt; omega
theorem some_at (zs : Array Value) (n : Nat) (N : Nat) (h : (List.range n).all (fun i => match zs[i]? with | some (.string z) => decide (z.size ≤ N) | _ => false) = true) : ∀ i, i < n → ∃ z, zs[i]? = some (.string z) ∧ z.size ≤ N := by
  intro i hi
  have := List.all_eq_true.1 h i (List.mem_range.2 hi)
  split at this
  · rename_i z hz; exact ⟨z, hz, of_decide_eq_true this⟩
  · cases this

set_option maxHeartbeats 1000000 in
theorem d_key (w0 w : World) (gc : Nat) (a : Option Addr) (len cap : Nat) (code : List UInt8) (h : Cur w0 w gc a len cap code) :
    Calls Tryz.prog 42 #[.pointer (some ⟨gc, 0, none⟩)] w fun e w' => GotS 13 w0 w gc a len cap code e w' := by
  go_enter Tryz.func42, Tryz.ntmps42
  go_wp2_with fail
  have hne := curNe h
  refine (str_ w0 _ gc a len cap code w.heap.size 7 _ _ _ (h.below ((Below.refl _ _).alloc (Nat.le_refl _) _)) (heap_alloc_new w _) rfl (by omega) (by omega) hne (fun z => z.size ≤ 13) (some_at _ 7 13 (by kernel_rfl))).mono ?_
  rintro e w1 ⟨z, hz, rfl, hc1, hg1⟩
  go_wp2_with fail
  go_ret
  exact ⟨z, hz, rfl, hc1, grown_of_alloc hg1⟩
set_option maxHeartbeats 1000000 in
theorem d_val (w0 w : World) (gc : Nat) (a : Option Addr) (len cap : Nat) (code : List UInt8) (h : Cur w0 w gc a len cap code) :
    Calls Tryz.prog 43 #[.pointer (some ⟨gc, 0, none⟩)] w fun e w' => GotS 13 w0 w gc a len cap code e w' := by
  go_enter Tryz.func43, Tryz.ntmps43
  go_wp2_with fail
  have hne := curNe h
  refine (str_ w0 _ gc a len cap code w.heap.size 6 _ _ _ (h.below ((Below.refl _ _).alloc (Nat.le_refl _) _)) (heap_alloc_new w _) rfl (by omega) (by omega) hne (fun z => z.size ≤ 13) (some_at _ 6 13 (by kernel_rfl))).mono ?_
  rintro e w1 ⟨z, hz, rfl, hc1, hg1⟩
  go_wp2_with fail
  go_ret
  exact ⟨z, hz, rfl, hc1, grown_of_alloc hg1⟩

/-- what a draw of pairs leaves -/
def tiny (p : Pr) : Prop := p.1.size ≤ 13 ∧ p.2.size ≤ 21
def GotPairs (N : Nat) (w0 w : World) (gc : Nat) (a : Option Addr) (len cap : Nat) (code : List UInt8) (e : Ending) (w' : World) : Prop :=
  ∃ (g n cp : Nat) (l : List Pr), n ≤ N ∧ (∀ p ∈ l, tiny p) ∧ e = .returned (.slice (some ⟨g, 0, none⟩) n cp) ∧ OwnP w' w.heap.size g n cp l ∧ Cur w0 w' gc a len cap code ∧ w.grownBy w' (some gc)
theorem tiny_put {key val : ByteArray} {l : List Pr} (h : ∀ p ∈ l, tiny p) (hk : key.size ≤ 13) (hv : val.size ≤ 21) : ∀ p ∈ putKey key val l, tiny p := by
  unfold putKey
  split
  · have : ∀ l : List Pr, (∀ p ∈ l, tiny p) → ∀ p ∈ setFirst key val l, tiny p := by
      intro l
      induction l with
      | nil => intro _ p hp; exact absurd hp List.not_mem_nil
      | cons q l ih =>
        intro hl p hp
        unfold setFirst at hp
        split at hp
        · rcases List.mem_cons.1 hp with h1 | h1
          · subst h1; exact ⟨(hl q List.mem_cons_self).1, hv⟩
          · exact hl p (List.mem_cons_of_mem _ h1)
        · rcases List.mem_cons.1 hp with h1 | h1
          · subst h1; exact hl _ List.mem_cons_self
          · exact ih (fun r hr => hl r (List.mem_cons_of_mem _ hr)) p h1
    exact this l h
  · intro p hp
    rcases List.mem_append.1 hp with h1 | h1
    · exact h p (List.mem_of_mem_take h1)
    · rcases List.mem_cons.1 h1 with h2 | h2
      · subst h2; exact ⟨hk, hv⟩
      · exact h p (List.mem_of_mem_drop h2)
theorem max13 {n : Nat} (h : n ≤ 21) : n ≤ maxLen := Nat.le_trans h (by decide)

set_option maxRecDepth 100000 in
set_option maxHeartbeats 1000000 in
theorem d_pairs (w0 w : World) (gc : Nat) (a : Option Addr) (len cap : Nat) (code : List UInt8) (h : Cur w0 w gc a len cap code) :
    Calls Tryz.prog 15 #[.pointer (some ⟨gc, 0, none⟩)] w fun e w' => GotPairs 8 w0 w gc a len cap code e w' := by
  have hba : Below w.heap.size w (w.alloc (.cells #[] 49)) := (Below.refl _ _).alloc (Nat.le_refl _) _
  have hcl := h.lt
  go_enter Tryz.func15, Tryz.ntmps15
  go_wp2_with fail
  refine (below_ w0 _ gc a len cap code _ (h.below hba) (by omega) (by omega)).mono ?_
  rintro e w1 ⟨x, hx, rfl, hc1, hg1⟩
  have hO1 : OwnP w1 w.heap.size w.heap.size 0 0 [] := (ownP_made w w.heap.size (Nat.le_refl _)).grown hg1 (by simp; omega)
  have hG1 : w.grownBy w1 (some gc) := grown_of_alloc hg1
  clear hg1 hba
  go_wp2_with fail
  go_loopw [3, 4] (fun v i wr => ∃ (k g n cp : Nat) (l : List Pr), k ≤ 8 ∧ n + k ≤ 8 ∧ i = .int .i64 (k : Int) ∧ v = .slice (some ⟨g, 0, none⟩) n cp ∧ (∀ p ∈ l, tiny p) ∧ OwnP wr w.heap.size g n cp l ∧ Cur w0 wr gc a len cap code ∧ w.grownBy wr (some gc)) (fun _ i _ => (intOf i).toNat)
  case atStart => exact ⟨x, w.heap.size, 0, 0, [], by omega, by omega, rfl, rfl, (fun p hp => absurd hp List.not_mem_nil), hO1, hc1, hG1⟩
  case round =>
    clear hO1 hc1 hG1
    obtain ⟨k, g, n, cp, l, hk, hnk, rfl, rfl, ht, hO, hC, hG⟩ := hrel
    by_cases hk0 : 0 < k
    · have hgne : g ≠ gc := by have := hO.lt; omega
      go_wp2_with fail
      refine (d_key w0 _ gc a len cap code hC).mono ?_
      rintro e w2 ⟨z1, hz1, rfl, hC2, hG2⟩
      have hO2 := hO.grown hG2 (by simpa using hgne)
      go_wp2_with fail
      refine (d_val w0 _ gc a len cap code hC2).mono ?_
      rintro e w3 ⟨z2, hz2, rfl, hC3, hG3⟩
      have hO3 := hO2.grown hG3 (by simpa using hgne)
      have hcs := hO3.cases
      have hln := hO3.1
      go_wp2_with fail
      refine (spec_putKey g 0 n cp l z1 z2 _ hO3.sl hcs.1 (by omega) (max13 (by omega)) (max13 (by omega))).mono ?_
      rintro e w4 ⟨g4, n4, cp4, rfl, hO4, hB4⟩
      have hpl := putKey_length z1 z2 l
      have hn4 : n4 ≤ n + 1 := by have := hO4.1; omega
      have hC4 := hC3.below hB4
      have hG4 := grown_below (grownBy_trans hG (grownBy_trans hG2 hG3)) hB4
      have hO5 := hO4.mono (base' := w.heap.size) (by have := hG.size; have := hG2.size; have := hG3.size; omega)
      have ht4 := tiny_put ht hz1 (Nat.le_trans hz2 (by omega))
      clear hO hO2 hO3 hO4 hB4 hC hC2 hC3 hG hG2 hG3 hcs hpl
      go_wp2_with fail
      go_roundw
      case rel => exact ⟨k - 1, g4, n4, cp4, _, by omega, by omega, by go_num, rfl, ht4, hO5, hC4, hG4⟩
      case measure => simp [intOf]; omega
    · go_wp2_with fail
      go_ret
      exact ⟨g, n, cp, l, by omega, ht, rfl, hO, hC, hG⟩

end Go.Proofs.YtdebbgodhpcijaaGreatDoor.pairs

namespace Go.Proofs.YtdebbgodhpcijaaGreatDoor.pairs
open Go Go.RowKit Go.Proofs.YtdebbgodhpcijaaGreatDoor.base Go.Proofs.YtdebbgodhpcijaaGreatDoor.draw
set_option linter.unusedVariables false
set_option linter.unusedSimpArgs false


set_option maxHeartbeats 1000000 in
theorem d_ends (w0 w : World) (gc : Nat) (a : Option Addr) (len cap : Nat) (code : List UInt8) (h : Cur w0 w gc a len cap code) :
    Calls Tryz.prog 16 #[.pointer (some ⟨gc, 0, none⟩)] w fun e w' => ∃ lo hi : ByteArray, lo.size ≤ 13 ∧ hi.size ≤ 13 ∧ e = .returned (.tuple #[.string lo, .string hi]) ∧ Cur w0 w' gc a len cap code ∧ w.grownBy w' (some gc) := by
  go_enter Tryz.func16, Tryz.ntmps16
  go_wp2_with fail
  have hne := curNe h
  refine (str_ w0 _ gc a len cap code w.heap.size 6 _ _ _ (h.below ((Below.refl _ _).alloc (Nat.le_refl _) _)) (heap_alloc_new w _) rfl (by omega) (by omega) hne (fun z => z.size ≤ 13) (some_at _ 6 13 (by kernel_rfl))).mono ?_
  rintro e w1 ⟨z, hz, rfl, hc1, hg1⟩
  have hg1' := grown_of_alloc hg1
  clear hg1
  go_wp2_with fail
  have hne1 := curNe hc1
  refine (str_ w0 _ gc a len cap code w1.heap.size 6 _ _ _ (hc1.below ((Below.refl _ _).alloc (Nat.le_refl _) _)) (heap_alloc_new w1 _) rfl (by omega) (by omega) hne1 (fun z => z.size ≤ 13) (some_at _ 6 13 (by kernel_rfl))).mono ?_
  rintro e w2 ⟨z2, hz2, rfl, hc2, hg2⟩
  go_wp2_with fail
  go_ret2
  exact ⟨z, z2, hz, hz2, rfl, hc2, grownBy_trans hg1' (grown_of_alloc hg2)⟩

/-- pairs and two texts -/
def GotPut (w : World) (e : Ending) (w' : World) : Prop :=
  ∃ (g n cp : Nat) (l : List Pr) (x y : ByteArray), n ≤ 61 ∧ (∀ p ∈ l, tiny p) ∧ x.size ≤ 13 ∧ y.size ≤ 13 ∧ e = .returned (.tuple #[.slice (some ⟨g, 0, none⟩) n cp, .string x, .string y]) ∧ OwnP w' w.heap.size g n cp l ∧ Below w.heap.size w w'
/-- two lists of pairs -/
def GotTwo (w : World) (e : Ending) (w' : World) : Prop :=
  ∃ (g n cp : Nat) (l : List Pr) (g2 n2 cp2 : Nat) (l2 : List Pr), n ≤ 61 ∧ n2 ≤ 61 ∧ (∀ p ∈ l, tiny p) ∧ (∀ p ∈ l2, tiny p) ∧ g ≠ g2 ∧ e = .returned (.tuple #[.slice (some ⟨g, 0, none⟩) n cp, .slice (some ⟨g2, 0, none⟩) n2 cp2]) ∧ OwnP w' w.heap.size g n cp l ∧ OwnP w' w.heap.size g2 n2 cp2 l2 ∧ Below w.heap.size w w'

end Go.Proofs.YtdebbgodhpcijaaGreatDoor.pairs

namespace Go.Proofs.YtdebbgodhpcijaaGreatDoor.base
open Go.RowKit
set_option linter.unusedVariables false
theorem big_ (a0 : Option Addr) (len0 cap0 : Nat) (w : World) (h : len0 ≤ maxLen) :
    Calls Tryz.prog 4 #[.slice a0 len0 cap0] w fun e w' => e = .returned (.bool (decide (1048576 < (len0 : Int)))) ∧ w' = w := by
  unfold maxLen at h
  go_enter Tryz.func4, Tryz.ntmps4
  go_wp2
  go_ret
  exact ⟨rfl, rfl⟩
end Go.Proofs.YtdebbgodhpcijaaGreatDoor.base
