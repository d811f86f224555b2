/- The cursor from which the laws draw: what each call does to it. The specification's union. What the laws on pairs draw. What the laws on pairs draw: whole draws. What the law on the text of pairs draws: pairs whose values have no blank. -/
import Derived.Test.YtefjbpkomphjdaaRows
import Derived.Test.YtefjbpkomphjdaaShaa
import Derived.Test.YtefjbpkomphjdaaShab
namespace Go.Proofs.Ytefjbpkomphjdaa.draw
open Go.RowKit Go.Proofs.Ytefjbpkomphjdaa.base
set_option linter.unusedVariables false
set_option linter.unusedSimpArgs false

def Cur (w0 w : World) (gc : Nat) (a : Option Addr) (len cap : Nat) (code : List UInt8) : Prop :=
  Sl w0 a len code ∧ Below w0.heap.size w0 w ∧ w0.heap.size ≤ gc ∧ len ≤ 1099511627776 ∧
  ∃ i h : Int, 0 ≤ i ∧ i ≤ len ∧ w.heap[gc]? = some (.cells #[.slice a len cap, .int .i64 i, .int .i64 h] 84 (0, 0))

theorem and_byte (z : Int) : 0 ≤ bits .and .i64 z 255 ∧ bits .and .i64 z 255 ≤ 255 := by
  have e : bits .and .i64 z 255 = IntKind.i64.wrap (((BitVec.ofInt 64 z) &&& (BitVec.ofInt 64 255)).toNat : Int) := rfl
  have h : ((BitVec.ofInt 64 z) &&& (BitVec.ofInt 64 255)).toNat ≤ 255 := by
    rw [BitVec.toNat_and]
    exact Nat.le_trans Nat.and_le_right (by decide)
  rw [e, wraps_i64 _ (by omega) (by omega)]
  omega

theorem cur_of {w0 w w1 : World} {gc : Nat} {a : Option Addr} {len cap : Nat} {code : List UInt8} {i h : Int} (hS : Sl w0 a len code) (hB : Below w0.heap.size w0 w) (hgc : w0.heap.size ≤ gc) (hln : len ≤ 1099511627776)
    (hi0 : 0 ≤ i) (hi1 : i ≤ len) (hg : w.grownBy w1 (some gc)) (hr : w1.heap[gc]? = some (.cells #[.slice a len cap, .int .i64 i, .int .i64 h] 84 (0, 0))) : Cur w0 w1 gc a len cap code :=
  ⟨hS, hB.grown hg hB.size (fun k e => by cases e; exact hgc), hgc, hln, i, h, hi0, hi1, hr⟩

set_option maxRecDepth 100000 in
set_option maxHeartbeats 1000000 in
theorem byte_ (w0 w : World) (gc : Nat) (a : Option Addr) (len cap : Nat) (code : List UInt8) (h : Cur w0 w gc a len cap code) :
    Calls Try.prog 64 #[.pointer (some ⟨gc, 0, none⟩)] w fun e w' => ∃ x : Int, 0 ≤ x ∧ x ≤ 255 ∧ e = .returned (.int .i64 x) ∧ Cur w0 w' gc a len cap code ∧ w.grownBy w' (some gc) := by
  obtain ⟨hS, hB, hgc, hln, i, hh, hi0, hi1, hrow⟩ := h
  have c0 : w.cell? ⟨gc, 0, none⟩ = some (.slice a len cap) := cell_cur hrow 0 _ rfl
  have c1 : w.cell? ⟨gc, 1, none⟩ = some (.int .i64 i) := cell_cur hrow 1 _ rfl
  have c2 : w.cell? ⟨gc, 2, none⟩ = some (.int .i64 hh) := cell_cur hrow 2 _ rfl
  have f1 : w.frozen? ⟨gc, 1, none⟩ = false := frozen_of_row w gc 1 _ _ hrow
  have f2 : w.frozen? ⟨gc, 2, none⟩ = false := frozen_of_row w gc 2 _ _ hrow
  have HROW := Hid.mk' hrow
  clear hrow
  by_cases hlt : i < len
  · obtain ⟨I, rfl⟩ := Int.eq_ofNat_of_zero_le hi0
    have hS' := hS.below hB
    have hIl : I < code.length := by have := hS.1; omega
    obtain ⟨b, off, ha, hcl⟩ := hS.2.2 (by omega)
    subst ha
    have hbb : b < w0.heap.size := World.block_lt_of_cell? w0 _ (hcl I hIl)
    have hne : ¬ b = gc := by omega
    have hne2 : ¬ gc = b := by omega
    generalize hcc : code[I].toNat = c
    have hc256 : c < 256 := by rw [← hcc]; exact UInt8.toNat_lt _
    have c3 : w.cell? ⟨b, off + I, none⟩ = some (.int .u8 (c : Int)) := by rw [hS'.at I hIl, hcc]
    have hi3 : (I : Int) < (len : Int) := hlt
    clear hcl hcc hIl hS'
    go_enter Try.func64, Try.ntmps64
    go_wp2
    go_quiet (fail)
    go_wp2
    go_quiet (fail)
    go_wp2
    go_quiet (fail)
    go_wp2
    go_ret
    have hs := set_cur HROW.out 2 (.int .i64 (wrap64 (wrap64 (hh * 6364136223846793005) + 1442695040888963407)))
    have hs2 := fun n => set_cur (w := (w.setCell ⟨gc, 2, none⟩ (.int .i64 (wrap64 (wrap64 (hh * 6364136223846793005) + 1442695040888963407)))).drewN n) hs.1 1 (.int .i64 ((I : Int) + 1))
    have hg := fun n => grownBy_trans (grown_drewN hs.2 n) (hs2 n).2
    exact ⟨_, (and_byte _).1, (and_byte _).2, rfl, cur_of hS hB hgc hln (by omega) (by omega) (hg _) (hs2 _).1, hg _⟩
  · go_enter Try.func64, Try.ntmps64
    go_wp2
    go_quiet (fail)
    go_wp2
    go_quiet (fail)
    go_wp2
    go_ret
    have hs := set_cur HROW.out 2 (.int .i64 (wrap64 (wrap64 (hh * 6364136223846793005) + 1442695040888963407)))
    exact ⟨_, (and_byte _).1, (and_byte _).2, rfl, cur_of hS hB hgc hln hi0 hi1 (grown_drewN (grown_drewN hs.2 _) _) hs.1, grown_drewN (grown_drewN hs.2 _) _⟩

theorem Cur.lt {w0 w : World} {gc : Nat} {a : Option Addr} {len cap : Nat} {code : List UInt8} (h : Cur w0 w gc a len cap code) : gc < w.heap.size := by
  obtain ⟨_, _, _, _, i, hh, _, _, hr⟩ := h
  exact (Array.getElem?_eq_some_iff.1 hr).1
theorem Cur.bel {w0 w : World} {gc : Nat} {a : Option Addr} {len cap : Nat} {code : List UInt8} (h : Cur w0 w gc a len cap code) : Below w0.heap.size w0 w := h.2.1
theorem Cur.ge {w0 w : World} {gc : Nat} {a : Option Addr} {len cap : Nat} {code : List UInt8} (h : Cur w0 w gc a len cap code) : w0.heap.size ≤ gc := h.2.2.1
theorem Cur.grown {w0 w w1 : World} {gc : Nat} {a : Option Addr} {len cap : Nat} {code : List UInt8} {row : Option Nat} (h : Cur w0 w gc a len cap code) (hg : w.grownBy w1 row) (hne : some gc ≠ row) (hr : ∀ k, row = some k → w0.heap.size ≤ k) : Cur w0 w1 gc a len cap code := by
  have hlt := h.lt
  obtain ⟨hS, hB, hgc, hln, i, hh, hi0, hi1, hrow⟩ := h
  exact ⟨hS, hB.grown hg hB.size hr, hgc, hln, i, hh, hi0, hi1, by rw [hg.block gc hlt hne]; exact hrow⟩
theorem Cur.below {w0 w w1 : World} {gc : Nat} {a : Option Addr} {len cap : Nat} {code : List UInt8} (h : Cur w0 w gc a len cap code) (hb : Below w.heap.size w w1) : Cur w0 w1 gc a len cap code :=
  h.grown (row := none) ⟨hb.os, hb.tape, hb.output, hb.size, fun k hk _ => hb.block k hk⟩ (by simp) (fun k e => by cases e)

set_option maxRecDepth 100000 in
set_option maxHeartbeats 1000000 in
theorem below_ (w0 w : World) (gc : Nat) (a : Option Addr) (len cap : Nat) (code : List UInt8) (n : Int) (h : Cur w0 w gc a len cap code) (hn : 0 < n) (hn2 : n ≤ 1000000000) :
    Calls Try.prog 38 #[.pointer (some ⟨gc, 0, none⟩), .int .i64 n] w fun e w' => ∃ x : Nat, (x : Int) < n ∧ e = .returned (.int .i64 (x : Int)) ∧ Cur w0 w' gc a len cap code ∧ w.grownBy w' (some gc) := by
  by_cases hs : n ≤ 256
  · go_enter Try.func38, Try.ntmps38
    go_wp2_with fail
    refine (byte_ w0 _ gc a len cap code h).mono ?_
    rintro e w1 ⟨x, hx0, hx1, rfl, hc1, hg1⟩
    go_wp2_with fail
    go_ret
    have e1 : 0 ≤ x % n := Int.emod_nonneg _ (by omega)
    have e2 : x % n < n := Int.emod_lt_of_pos _ hn
    exact ⟨(x % n).toNat, by omega, ret_int (by omega), hc1, hg1⟩
  · go_enter Try.func38, Try.ntmps38
    go_wp2_with fail
    refine (byte_ w0 _ gc a len cap code h).mono ?_
    rintro e w1 ⟨x, hx0, hx1, rfl, hc1, hg1⟩
    go_wp2_with fail
    refine (byte_ w0 _ gc a len cap code hc1).mono ?_
    rintro e w2 ⟨y, hy0, hy1, rfl, hc2, hg2⟩
    go_wp2_with fail
    refine (byte_ w0 _ gc a len cap code hc2).mono ?_
    rintro e w3 ⟨z, hz0, hz1, rfl, hc3, hg3⟩
    go_wp2_with fail
    go_ret
    have e1 : 0 ≤ (x * 65536 + y * 256 + z) % n := Int.emod_nonneg _ (by omega)
    have e2 : (x * 65536 + y * 256 + z) % n < n := Int.emod_lt_of_pos _ hn
    exact ⟨((x * 65536 + y * 256 + z) % n).toNat, by omega, ret_int (by omega), hc3, grownBy_trans (grownBy_trans hg1 hg2) hg3⟩

theorem str_ (w0 w : World) (gc : Nat) (a : Option Addr) (len cap : Nat) (code : List UInt8) (gl n cp : Nat) (zs : Array Value) (mk : Nat × Nat) (h : Cur w0 w gc a len cap code) (hr : w.heap[gl]? = some (.cells zs 9 mk)) (hz : zs.size = n) (hn : 0 < n) (hn2 : n ≤ 1000) (hne : gl ≠ gc)
    (P : ByteArray → Prop) (hP : ∀ i, i < n → ∃ z, zs[i]? = some (.string z) ∧ P z) :
    Calls Try.prog 39 #[.pointer (some ⟨gc, 0, none⟩), .slice (some ⟨gl, 0, none⟩) n cp] w fun e w' => ∃ z : ByteArray, P z ∧ e = .returned (.string z) ∧ Cur w0 w' gc a len cap code ∧ w.grownBy w' (some gc) := by
  go_enter Try.func39, Try.ntmps39
  go_wp2_with fail
  refine (below_ w0 _ gc a len cap code _ h (by omega) (by omega)).mono ?_
  rintro e w1 ⟨x, hx, rfl, hc1, hg1⟩
  have hgl : gl < w.heap.size := (Array.getElem?_eq_some_iff.1 hr).1
  obtain ⟨z, hz1, hz2⟩ := hP x (by omega)
  have c1 : w1.cell? ⟨gl, x, none⟩ = some (.string z) := by
    have e1 := hg1.block gl hgl (by simpa using hne)
    rw [hr] at e1
    exact cell_cur e1 x _ hz1
  go_wp2_with fail
  go_ret
  exact ⟨z, hz2, rfl, hc1, hg1⟩

set_option maxRecDepth 100000 in
set_option maxHeartbeats 1000000 in
theorem new_ (w0 w : World) (a : Option Addr) (len cap : Nat) (code : List UInt8) (h0 : Sl w0 a len code) (hB : Below w0.heap.size w0 w) (hln : len ≤ 1099511627776) :
    Calls Try.prog 29 #[.slice a len cap] w fun e w' => e = .returned (.pointer (some ⟨w.heap.size, 0, none⟩)) ∧ Cur w0 w' w.heap.size a len cap code ∧ Below w.heap.size w w' := by
  have hS := h0.below hB
  obtain ⟨hl, hm, hc⟩ := id hS
  subst hl
  go_enter Try.func29, Try.ntmps29
  go_wp2
  go_loop [3, 4] (fun hv i => ∃ (k : Nat) (hh : Int), k ≤ code.length ∧ i = .int .i64 (k : Int) ∧ hv = .int .i64 hh) (fun _ i => code.length - (intOf i).toNat)
  case atStart => exact ⟨0, _, Nat.zero_le _, rfl, rfl⟩
  case round =>
    obtain ⟨k, hh, hk, rfl, rfl⟩ := hrel
    by_cases hlt : k < code.length
    · by_cases h4 : k < 4000
      · obtain ⟨b, off, ha, hcl⟩ := hc (by omega)
        subst ha
        have c1 : w.cell? ⟨b, off + k, none⟩ = some (.int .u8 code[k].toNat) := hcl k hlt
        have hi1 : (k : Int) < (code.length : Int) := by omega
        clear hcl hc
        go_wp2
        go_round
        case rel => exact ⟨k + 1, _, by omega, by go_num, rfl⟩
        case measure => simp [intOf]; omega
      · go_wp2
        go_ret
        exact ⟨rfl, ⟨h0, hB.alloc hB.size _, hB.size, hln, 0, hh, by omega, by omega, heap_alloc_new w _⟩, (Below.refl _ _).alloc (Nat.le_refl _) _⟩
    · go_wp2
      go_ret
      exact ⟨rfl, ⟨h0, hB.alloc hB.size _, hB.size, hln, 0, hh, by omega, by omega, heap_alloc_new w _⟩, (Below.refl _ _).alloc (Nat.le_refl _) _⟩

end Go.Proofs.Ytefjbpkomphjdaa.draw

namespace Go.Proofs.Ytefjbpkomphjdaa.pairs
open Go Go.RowKit Go.Proofs.Ytefjbpkomphjdaa.base
set_option linter.unusedVariables false
set_option linter.unusedSimpArgs false

end Go.Proofs.Ytefjbpkomphjdaa.pairs

namespace Go.Proofs.Ytefjbpkomphjdaa.pairs
open Go Go.RowKit Go.Proofs.Ytefjbpkomphjdaa.base Go.Proofs.Ytefjbpkomphjdaa.draw
set_option linter.unusedVariables false
set_option linter.unusedSimpArgs false

def GotS (N : Nat) (w0 w : World) (gc : Nat) (a : Option Addr) (len cap : Nat) (code : List UInt8) (e : Ending) (w' : World) : Prop :=
  ∃ z : ByteArray, z.size ≤ N ∧ e = .returned (.string z) ∧ Cur w0 w' gc a len cap code ∧ w.grownBy w' (some gc)
theorem grown_of_alloc {w w' : World} {o : Obj} {row : Option Nat} (h : (w.alloc o).grownBy w' row) : w.grownBy w' row := grownBy_trans (grown_alloc0 w o row) h

set_option maxHeartbeats 1000000 in
theorem d_once (w0 w : World) (gc : Nat) (a : Option Addr) (len cap : Nat) (code : List UInt8) (n : Int) (h : Cur w0 w gc a len cap code) (hn : 0 < n) (hn2 : n ≤ 1000000000) :
    Calls Try.prog 71 #[.pointer (some ⟨gc, 0, none⟩), .int .i64 n] w fun e w' => ∃ b : Bool, e = .returned (.bool b) ∧ Cur w0 w' gc a len cap code ∧ w.grownBy w' (some gc) := by
  go_enter Try.func71, Try.ntmps71
  go_wp2_with fail
  refine (below_ w0 _ gc a len cap code n h hn hn2).mono ?_
  rintro e w1 ⟨x, hx, rfl, hc1, hg1⟩
  go_wp2_with fail
  go_ret
  exact ⟨_, rfl, hc1, hg1⟩

theorem curNe {w0 w : World} {gc : Nat} {a : Option Addr} {len cap : Nat} {code : List UInt8} (h : Cur w0 w gc a len cap code) : w.heap.size ≠ gc := by have := h.lt; omega
theorem some_at (zs : Array Value) (n : Nat) (N : Nat) (h : (List.range n).all (fun i => match zs[i]? with | some (.string z) => decide (z.size ≤ N) | _ => false) = true) : ∀ i, i < n → ∃ z, zs[i]? = some (.string z) ∧ z.size ≤ N := by
  intro i hi
  have := List.all_eq_true.1 h i (List.mem_range.2 hi)
  split at this
  · rename_i z hz; exact ⟨z, hz, of_decide_eq_true this⟩
  · cases this

set_option maxHeartbeats 1000000 in
theorem d_key (w0 w : World) (gc : Nat) (a : Option Addr) (len cap : Nat) (code : List UInt8) (h : Cur w0 w gc a len cap code) :
    Calls Try.prog 70 #[.pointer (some ⟨gc, 0, none⟩)] w fun e w' => GotS 13 w0 w gc a len cap code e w' := by
  go_enter Try.func70, Try.ntmps70
  go_wp2_with fail
  have hne := curNe h
  refine (str_ w0 _ gc a len cap code w.heap.size 7 _ _ _ (h.below ((Below.refl _ _).alloc (Nat.le_refl _) _)) (heap_alloc_new w _) rfl (by omega) (by omega) hne (fun z => z.size ≤ 13) (some_at _ 7 13 (by kernel_rfl))).mono ?_
  rintro e w1 ⟨z, hz, rfl, hc1, hg1⟩
  go_wp2_with fail
  go_ret
  exact ⟨z, hz, rfl, hc1, grown_of_alloc hg1⟩
set_option maxHeartbeats 1000000 in
theorem d_val (w0 w : World) (gc : Nat) (a : Option Addr) (len cap : Nat) (code : List UInt8) (h : Cur w0 w gc a len cap code) :
    Calls Try.prog 68 #[.pointer (some ⟨gc, 0, none⟩)] w fun e w' => GotS 13 w0 w gc a len cap code e w' := by
  go_enter Try.func68, Try.ntmps68
  go_wp2_with fail
  have hne := curNe h
  refine (str_ w0 _ gc a len cap code w.heap.size 6 _ _ _ (h.below ((Below.refl _ _).alloc (Nat.le_refl _) _)) (heap_alloc_new w _) rfl (by omega) (by omega) hne (fun z => z.size ≤ 13) (some_at _ 6 13 (by kernel_rfl))).mono ?_
  rintro e w1 ⟨z, hz, rfl, hc1, hg1⟩
  go_wp2_with fail
  go_ret
  exact ⟨z, hz, rfl, hc1, grown_of_alloc hg1⟩
set_option maxHeartbeats 1000000 in
theorem d_keyAny (w0 w : World) (gc : Nat) (a : Option Addr) (len cap : Nat) (code : List UInt8) (h : Cur w0 w gc a len cap code) :
    Calls Try.prog 55 #[.pointer (some ⟨gc, 0, none⟩)] w fun e w' => GotS 13 w0 w gc a len cap code e w' := by
  go_enter Try.func55, Try.ntmps55
  go_wp2_with fail
  refine (d_once w0 _ gc a len cap code _ h (by omega) (by omega)).mono ?_
  rintro e w1 ⟨b, rfl, hc1, hg1⟩
  cases b
  · go_wp2_with fail
    refine (d_key w0 _ gc a len cap code hc1).mono ?_
    rintro e w2 ⟨z, hz, rfl, hc2, hg2⟩
    go_wp2_with fail
    go_ret
    exact ⟨z, hz, rfl, hc2, grownBy_trans hg1 hg2⟩
  · go_wp2_with fail
    have hne := curNe hc1
    refine (str_ w0 _ gc a len cap code w1.heap.size 5 _ _ _ (hc1.below ((Below.refl _ _).alloc (Nat.le_refl _) _)) (heap_alloc_new w1 _) rfl (by omega) (by omega) hne (fun z => z.size ≤ 13) (some_at _ 5 13 (by kernel_rfl))).mono ?_
    rintro e w2 ⟨z, hz, rfl, hc2, hg2⟩
    go_wp2_with fail
    go_ret
    exact ⟨z, hz, rfl, hc2, grownBy_trans hg1 (grown_of_alloc hg2)⟩

def tiny (p : Pr) : Prop := p.1.size ≤ 13 ∧ p.2.size ≤ 21
def GotPairs (N : Nat) (w0 w : World) (gc : Nat) (a : Option Addr) (len cap : Nat) (code : List UInt8) (e : Ending) (w' : World) : Prop :=
  ∃ (g n cp : Nat) (l : List Pr), n ≤ N ∧ (∀ p ∈ l, tiny p) ∧ e = .returned (.slice (some ⟨g, 0, none⟩) n cp) ∧ OwnP w' w.heap.size g n cp l ∧ Cur w0 w' gc a len cap code ∧ w.grownBy w' (some gc)
theorem tiny_put {key val : ByteArray} {l : List Pr} (h : ∀ p ∈ l, tiny p) (hk : key.size ≤ 13) (hv : val.size ≤ 21) : ∀ p ∈ putKey key val l, tiny p := by
  unfold putKey
  split
  · have : ∀ l : List Pr, (∀ p ∈ l, tiny p) → ∀ p ∈ setFirst key val l, tiny p := by
      intro l
      induction l with
      | nil => intro _ p hp; exact absurd hp List.not_mem_nil
      | cons q l ih =>
        intro hl p hp
        unfold setFirst at hp
        split at hp
        · rcases List.mem_cons.1 hp with h1 | h1
          · subst h1; exact ⟨(hl q List.mem_cons_self).1, hv⟩
          · exact hl p (List.mem_cons_of_mem _ h1)
        · rcases List.mem_cons.1 hp with h1 | h1
          · subst h1; exact hl _ List.mem_cons_self
          · exact ih (fun r hr => hl r (List.mem_cons_of_mem _ hr)) p h1
    exact this l h
  · intro p hp
    rcases List.mem_append.1 hp with h1 | h1
    · exact h p (List.mem_of_mem_take h1)
    · rcases List.mem_cons.1 h1 with h2 | h2
      · subst h2; exact ⟨hk, hv⟩
      · exact h p (List.mem_of_mem_drop h2)
theorem max13 {n : Nat} (h : n ≤ 21) : n ≤ maxLen := Nat.le_trans h (by decide)

set_option maxRecDepth 100000 in
set_option maxHeartbeats 1000000 in
theorem d_pairs (w0 w : World) (gc : Nat) (a : Option Addr) (len cap : Nat) (code : List UInt8) (h : Cur w0 w gc a len cap code) :
    Calls Try.prog 67 #[.pointer (some ⟨gc, 0, none⟩)] w fun e w' => GotPairs 8 w0 w gc a len cap code e w' := by
  have hba : Below w.heap.size w (w.alloc (.cells #[] 36)) := (Below.refl _ _).alloc (Nat.le_refl _) _
  have hcl := h.lt
  go_enter Try.func67, Try.ntmps67
  go_wp2_with fail
  refine (below_ w0 _ gc a len cap code _ (h.below hba) (by omega) (by omega)).mono ?_
  rintro e w1 ⟨x, hx, rfl, hc1, hg1⟩
  have hO1 : OwnP w1 w.heap.size w.heap.size 0 0 [] := (ownP_made w w.heap.size (Nat.le_refl _)).grown hg1 (by simp; omega)
  have hG1 : w.grownBy w1 (some gc) := grown_of_alloc hg1
  clear hg1 hba
  go_wp2_with fail
  go_loopw [3, 4] (fun v i wr => ∃ (k g n cp : Nat) (l : List Pr), k ≤ 8 ∧ n + k ≤ 8 ∧ i = .int .i64 (k : Int) ∧ v = .slice (some ⟨g, 0, none⟩) n cp ∧ (∀ p ∈ l, tiny p) ∧ OwnP wr w.heap.size g n cp l ∧ Cur w0 wr gc a len cap code ∧ w.grownBy wr (some gc)) (fun _ i _ => (intOf i).toNat)
  case atStart => exact ⟨x, w.heap.size, 0, 0, [], by omega, by omega, rfl, rfl, (fun p hp => absurd hp List.not_mem_nil), hO1, hc1, hG1⟩
  case round =>
    clear hO1 hc1 hG1
    obtain ⟨k, g, n, cp, l, hk, hnk, rfl, rfl, ht, hO, hC, hG⟩ := hrel
    by_cases hk0 : 0 < k
    · have hgne : g ≠ gc := by have := hO.lt; omega
      go_wp2_with fail
      refine (d_key w0 _ gc a len cap code hC).mono ?_
      rintro e w2 ⟨z1, hz1, rfl, hC2, hG2⟩
      have hO2 := hO.grown hG2 (by simpa using hgne)
      go_wp2_with fail
      refine (d_val w0 _ gc a len cap code hC2).mono ?_
      rintro e w3 ⟨z2, hz2, rfl, hC3, hG3⟩
      have hO3 := hO2.grown hG3 (by simpa using hgne)
      have hcs := hO3.cases
      have hln := hO3.1
      go_wp2_with fail
      refine (spec_putKey g 0 n cp l z1 z2 _ hO3.sl hcs.1 (by omega) (max13 (by omega)) (max13 (by omega))).mono ?_
      rintro e w4 ⟨g4, n4, cp4, rfl, hO4, hB4⟩
      have hpl := putKey_length z1 z2 l
      have hn4 : n4 ≤ n + 1 := by have := hO4.1; omega
      have hC4 := hC3.below hB4
      have hG4 := grown_below (grownBy_trans hG (grownBy_trans hG2 hG3)) hB4
      have hO5 := hO4.mono (base' := w.heap.size) (by have := hG.size; have := hG2.size; have := hG3.size; omega)
      have ht4 := tiny_put ht hz1 (Nat.le_trans hz2 (by omega))
      clear hO hO2 hO3 hO4 hB4 hC hC2 hC3 hG hG2 hG3 hcs hpl
      go_wp2_with fail
      go_roundw
      case rel => exact ⟨k - 1, g4, n4, cp4, _, by omega, by omega, by go_num, rfl, ht4, hO5, hC4, hG4⟩
      case measure => simp [intOf]; omega
    · go_wp2_with fail
      go_ret
      exact ⟨g, n, cp, l, by omega, ht, rfl, hO, hC, hG⟩

end Go.Proofs.Ytefjbpkomphjdaa.pairs

namespace Go.Proofs.Ytefjbpkomphjdaa.pairs
open Go Go.RowKit Go.Proofs.Ytefjbpkomphjdaa.base Go.Proofs.Ytefjbpkomphjdaa.draw
set_option linter.unusedVariables false
set_option linter.unusedSimpArgs false

set_option maxRecDepth 100000 in
set_option maxHeartbeats 2000000 in
theorem d_any (w0 w : World) (gc : Nat) (a : Option Addr) (len cap : Nat) (code : List UInt8) (h : Cur w0 w gc a len cap code) :
    Calls Try.prog 44 #[.pointer (some ⟨gc, 0, none⟩)] w fun e w' => GotPairs 9 w0 w gc a len cap code e w' := by
  obtain ⟨i0, hif, hz0, hz1, hz2⟩ := info_parts infoP
  obtain ⟨j0, hjf, hy0, hy1, hy2⟩ := info_parts info8
  have hcl := h.lt
  go_enter Try.func44, Try.ntmps44
  go_wp2_with fail
  refine (d_pairs w0 _ gc a len cap code h).mono ?_
  rintro e w1 ⟨g, n, cp, l, hn, ht, rfl, hO1, hC1, hG1⟩
  have hgne : g ≠ gc := by have := hO1.lt; omega
  go_wp2_with fail
  refine (below_ w0 _ gc a len cap code _ hC1 (by omega) (by omega)).mono ?_
  rintro e w2 ⟨x, hx, rfl, hC2, hG2⟩
  have hO2 := hO1.grown hG2 (by simpa using hgne)
  have hG2' := grownBy_trans hG1 hG2
  clear hO1 hC1 hG1 hG2
  have hln := hO2.1
  by_cases x0 : x = 0
  · subst x0
    go_wp2_with fail
    refine (d_keyAny w0 _ gc a len cap code hC2).mono ?_
    rintro e w3 ⟨z1, hz1', rfl, hC3, hG3⟩
    have hO3 := hO2.grown hG3 (by simpa using hgne)
    go_wp2_with fail
    refine (d_val w0 _ gc a len cap code hC3).mono ?_
    rintro e w4 ⟨z2, hz2', rfl, hC4, hG4⟩
    have hO4 := hO3.grown hG4 (by simpa using hgne)
    have hG4' := grownBy_trans hG2' (grownBy_trans hG3 hG4)
    have hbw : w.heap.size ≤ w4.heap.size := hG4'.size
    have hc3 : n + 1 ≤ maxLen := by unfold maxLen; omega
    have hc4 : (n + 1) * 32 ≤ 140737488355328 := by omega
    have hcl4 := hC4.lt
    clear hO2 hO3 hC2 hC3 hG2' hG3 hG4
    go_wp2_with (at_builtin; refine wpList_append_own _ rfl (.tmp 10) (.tmp 16) 32 rfl w.heap.size 36 i0 (.agg #[.string ⟨#[]⟩, .string ⟨#[]⟩]) 2 32 Try.underlying32 hif hz0 hz1 hz2 rfl (by decide) _ _ _ rfl (hO4.2.2.alloc _) ⟨w4.heap.size, 0, none⟩ 1 1 (pairVals [(z1, z2)]) rfl rfl (one_pair_cells _ (z1, z2) _) (pairVals_oneCell _) hc3 hc4 (le_alloc _ _ hbw) ?_)
    intro v5 w5 hown hgrow hnn
    obtain ⟨g5, cp5, hv, hO5⟩ := ownP_app (p := (z1, z2)) hO4.1 hO4.2.1 ⟨max13 (Nat.le_trans hz1' (by omega)), max13 (Nat.le_trans hz2' (by omega))⟩ hnn hown
    subst hv
    have hg5 : (w4.alloc (.cells #[.string z1, .string z2] 36)).grownBy w5 (some g) := hgrow
    have hC5 : Cur w0 w5 gc a len cap code := (hC4.below ((Below.refl _ _).alloc (Nat.le_refl _) _)).grown hg5 (by simpa using hgne.symm) (fun k e => by cases e; have := hO4.lt; have := hC4.ge; have := h.bel.size; omega)
    have hG5 : w.grownBy w5 (some gc) := grown_own (grown_alloc hG4' _) hg5 hO4.lt.1
    have ht5 : ∀ p ∈ l ++ [(z1, z2)], tiny p := by
      intro p hp
      rcases List.mem_append.1 hp with h1 | h1
      · exact ht p h1
      · simp at h1; subst h1; exact ⟨hz1', Nat.le_trans hz2' (by omega)⟩
    have HO5 := Hid.mk' hO5
    clear hown hgrow hnn hO4 hC4 hG4' hg5 hO5
    go_wp2_with (at_builtin; fail)
    go_ret
    exact ⟨g5, n + 1, cp5, _, by omega, ht5, rfl, HO5.out, hC5, hG5⟩
  · by_cases x1 : x = 1
    · subst x1
      by_cases hn0 : 0 < n
      · go_wp2_with (at_make; fail)
        refine (below_ w0 _ gc a len cap code _ hC2 (by omega) (by omega)).mono ?_
        rintro e w3 ⟨y, hy, rfl, hC3, hG3⟩
        have hO3 := hO2.grown hG3 (by simpa using hgne)
        have hG3' := grownBy_trans hG2' hG3
        clear hO2 hC2 hG2' hG3
        obtain ⟨m, hm⟩ : ∃ m : Nat, 20 + (y : Int) = (m : Int) := ⟨20 + y, by omega⟩
        have hm21 : m ≤ 21 := by omega
        go_wp2_with (at_make; refine wpList_make_full _ rfl _ _ 22 rfl w3.heap.size 5 j0 (.int .u8 0) 1 Try.underlying22 hjf hy0 hy1 _ _ _ _ m rfl rfl (by omega) (by omega) ?b2 ?b3 ?b4 ?_)
        case b2 => rw [hy2]; omega
        case b3 => unfold maxLen; omega
        case b4 => exact Nat.le_refl _
        intro w4 hown hgrow
        have hOb : Own w4 w3.heap.size w3.heap.size m m (List.replicate m 0) := by
          refine ⟨by simp, ?_⟩
          have e : byteVals (List.replicate m 0) = (madeCells #[.int .u8 0] m).toList := by
            simp [byteVals, toList_madeCells_one]
          rw [e]; simpa using hown
        have hcv := conv_own hOb
        have hB4 : Below w3.heap.size w3 w4 := (Below.refl _ _).grown hgrow (Nat.le_refl _) (fun k e => by cases e)
        have hO4 := hO3.below hB4
        have hC4 := hC3.below hB4
        have hG4 := grown_below hG3' hB4
        have hl0 : 0 < l.length := by omega
        have hki : (0 : Int) < (n : Int) := by omega
        have d1 := hO4.val 0 hl0
        have f1 := hO4.frozen (0 * 2 + 1)
        have hzs : (⟨(List.replicate m (0 : UInt8)).toArray⟩ : ByteArray).size ≤ 21 := by show (List.replicate m (0 : UInt8)).toArray.size ≤ 21; simp; exact hm21
        have R := hO4.setVal 0 hl0 ⟨(List.replicate m (0 : UInt8)).toArray⟩ (max13 hzs)
        have htR : ∀ p ∈ l.set 0 (l[0].1, (⟨(List.replicate m (0 : UInt8)).toArray⟩ : ByteArray)), tiny p := by
          intro p hp
          rcases List.mem_or_eq_of_mem_set hp with h1 | h1
          · exact ht p h1
          · subst h1; exact ⟨(ht _ (List.getElem_mem hl0)).1, hzs⟩
        simp only [Nat.zero_mul, Nat.zero_add] at d1 f1 R
        have hC5 : Cur w0 (w4.setCell ⟨g, 1, none⟩ (.string ⟨(List.replicate m (0 : UInt8)).toArray⟩)) gc a len cap code := hC4.grown R.2 (by simpa using hgne.symm) (fun k e => by cases e; have := hO4.lt; have := hC4.ge; have := h.bel.size; omega)
        have hG5 := grown_own hG4 R.2 hO4.lt.1
        have HR := Hid.mk' R.1
        have HC5 := Hid.mk' hC5
        have HG5 := Hid.mk' hG5
        have HT := Hid.mk' htR
        clear R hC5 hG5 htR hown hgrow hOb hB4 hO3 hC3 hG3' hO4 hC4 hG4
        go_wp2_with (at_builtin; fail)
        go_ret
        exact ⟨g, n, cp, _, by omega, HT.out, rfl, HR.out, HC5.out, HG5.out⟩
      · go_wp2_with (at_builtin; fail)
        go_ret
        exact ⟨g, n, cp, l, by omega, ht, rfl, hO2, hC2, hG2'⟩
    · have e1 : ((x : Int) == 0) = false := by simp; omega
      have e2 : ((x : Int) == 1) = false := by simp; omega
      go_wp2_with (at_builtin; fail)
      go_ret
      exact ⟨g, n, cp, l, by omega, ht, rfl, hO2, hC2, hG2'⟩


end Go.Proofs.Ytefjbpkomphjdaa.pairs

namespace Go.Proofs.Ytefjbpkomphjdaa.nb
open Go Go.RowKit Go.Proofs.Ytefjbpkomphjdaa.base Go.Proofs.Ytefjbpkomphjdaa.draw Go.Proofs.Ytefjbpkomphjdaa.pairs
set_option linter.unusedVariables false
set_option linter.unusedSimpArgs false

def nbB (z : ByteArray) : Bool := z.data.toList.all fun c => decide (c ≠ 32)
def GotV (w0 w : World) (gc : Nat) (a : Option Addr) (len cap : Nat) (code : List UInt8) (e : Ending) (w' : World) : Prop :=
  ∃ z : ByteArray, (z.size ≤ 13 ∧ nbB z = true) ∧ e = .returned (.string z) ∧ Cur w0 w' gc a len cap code ∧ w.grownBy w' (some gc)
theorem some_atN (zs : Array Value) (n : Nat) (h : (List.range n).all (fun i => match zs[i]? with | some (.string z) => decide (z.size ≤ 13) && nbB z | _ => false) = true) : ∀ i, i < n → ∃ z, zs[i]? = some (.string z) ∧ (z.size ≤ 13 ∧ nbB z = true) := by
  intro i hi
  have := List.all_eq_true.1 h i (List.mem_range.2 hi)
  split at this
  · rename_i z hz; exact ⟨z, hz, by simpa using this⟩
  · cases this
set_option maxHeartbeats 1000000 in
theorem d_val (w0 w : World) (gc : Nat) (a : Option Addr) (len cap : Nat) (code : List UInt8) (h : Cur w0 w gc a len cap code) :
    Calls Try.prog 68 #[.pointer (some ⟨gc, 0, none⟩)] w fun e w' => GotV w0 w gc a len cap code e w' := by
  go_enter Try.func68, Try.ntmps68
  go_wp2_with fail
  have hne := curNe h
  refine (str_ w0 _ gc a len cap code w.heap.size 6 _ _ _ (h.below ((Below.refl _ _).alloc (Nat.le_refl _) _)) (heap_alloc_new w _) rfl (by omega) (by omega) hne (fun z => z.size ≤ 13 ∧ nbB z = true) (some_atN _ 6 (by kernel_rfl))).mono ?_
  rintro e w1 ⟨z, hz, rfl, hc1, hg1⟩
  go_wp2_with fail
  go_ret
  exact ⟨z, hz, rfl, hc1, grown_of_alloc hg1⟩

def tiny (p : Pr) : Prop := p.1.size ≤ 13 ∧ (p.2.size ≤ 21 ∧ nbB p.2 = true)
def GotPairs (N : Nat) (w0 w : World) (gc : Nat) (a : Option Addr) (len cap : Nat) (code : List UInt8) (e : Ending) (w' : World) : Prop :=
  ∃ (g n cp : Nat) (l : List Pr), n ≤ N ∧ (∀ p ∈ l, tiny p) ∧ e = .returned (.slice (some ⟨g, 0, none⟩) n cp) ∧ OwnP w' w.heap.size g n cp l ∧ Cur w0 w' gc a len cap code ∧ w.grownBy w' (some gc)
theorem tiny_put {key val : ByteArray} {l : List Pr} (h : ∀ p ∈ l, tiny p) (hk : key.size ≤ 13) (hv : val.size ≤ 21 ∧ nbB val = true) : ∀ p ∈ putKey key val l, tiny p := by
  unfold putKey
  split
  · have : ∀ l : List Pr, (∀ p ∈ l, tiny p) → ∀ p ∈ setFirst key val l, tiny p := by
      intro l
      induction l with
      | nil => intro _ p hp; exact absurd hp List.not_mem_nil
      | cons q l ih =>
        intro hl p hp
        unfold setFirst at hp
        split at hp
        · rcases List.mem_cons.1 hp with h1 | h1
          · subst h1; exact ⟨(hl q List.mem_cons_self).1, hv⟩
          · exact hl p (List.mem_cons_of_mem _ h1)
        · rcases List.mem_cons.1 hp with h1 | h1
          · subst h1; exact hl _ List.mem_cons_self
          · exact ih (fun r hr => hl r (List.mem_cons_of_mem _ hr)) p h1
    exact this l h
  · intro p hp
    rcases List.mem_append.1 hp with h1 | h1
    · exact h p (List.mem_of_mem_take h1)
    · rcases List.mem_cons.1 h1 with h2 | h2
      · subst h2; exact ⟨hk, hv⟩
      · exact h p (List.mem_of_mem_drop h2)

set_option maxRecDepth 100000 in
set_option maxHeartbeats 1000000 in
theorem d_pairs (w0 w : World) (gc : Nat) (a : Option Addr) (len cap : Nat) (code : List UInt8) (h : Cur w0 w gc a len cap code) :
    Calls Try.prog 67 #[.pointer (some ⟨gc, 0, none⟩)] w fun e w' => GotPairs 8 w0 w gc a len cap code e w' := by
  have hba : Below w.heap.size w (w.alloc (.cells #[] 36)) := (Below.refl _ _).alloc (Nat.le_refl _) _
  have hcl := h.lt
  go_enter Try.func67, Try.ntmps67
  go_wp2_with fail
  refine (below_ w0 _ gc a len cap code _ (h.below hba) (by omega) (by omega)).mono ?_
  rintro e w1 ⟨x, hx, rfl, hc1, hg1⟩
  have hO1 : OwnP w1 w.heap.size w.heap.size 0 0 [] := (ownP_made w w.heap.size (Nat.le_refl _)).grown hg1 (by simp; omega)
  have hG1 : w.grownBy w1 (some gc) := grown_of_alloc hg1
  clear hg1 hba
  go_wp2_with fail
  go_loopw [3, 4] (fun v i wr => ∃ (k g n cp : Nat) (l : List Pr), k ≤ 8 ∧ n + k ≤ 8 ∧ i = .int .i64 (k : Int) ∧ v = .slice (some ⟨g, 0, none⟩) n cp ∧ (∀ p ∈ l, tiny p) ∧ OwnP wr w.heap.size g n cp l ∧ Cur w0 wr gc a len cap code ∧ w.grownBy wr (some gc)) (fun _ i _ => (intOf i).toNat)
  case atStart => exact ⟨x, w.heap.size, 0, 0, [], by omega, by omega, rfl, rfl, (fun p hp => absurd hp List.not_mem_nil), hO1, hc1, hG1⟩
  case round =>
    clear hO1 hc1 hG1
    obtain ⟨k, g, n, cp, l, hk, hnk, rfl, rfl, ht, hO, hC, hG⟩ := hrel
    by_cases hk0 : 0 < k
    · have hgne : g ≠ gc := by have := hO.lt; omega
      go_wp2_with fail
      refine (d_key w0 _ gc a len cap code hC).mono ?_
      rintro e w2 ⟨z1, hz1, rfl, hC2, hG2⟩
      have hO2 := hO.grown hG2 (by simpa using hgne)
      go_wp2_with fail
      refine (d_val w0 _ gc a len cap code hC2).mono ?_
      rintro e w3 ⟨z2, ⟨hz2, hb2⟩, rfl, hC3, hG3⟩
      have hO3 := hO2.grown hG3 (by simpa using hgne)
      have hcs := hO3.cases
      have hln := hO3.1
      go_wp2_with fail
      refine (spec_putKey g 0 n cp l z1 z2 _ hO3.sl hcs.1 (by omega) (max13 (by omega)) (max13 (by omega))).mono ?_
      rintro e w4 ⟨g4, n4, cp4, rfl, hO4, hB4⟩
      have hpl := putKey_length z1 z2 l
      have hn4 : n4 ≤ n + 1 := by have := hO4.1; omega
      have hC4 := hC3.below hB4
      have hG4 := grown_below (grownBy_trans hG (grownBy_trans hG2 hG3)) hB4
      have hO5 := hO4.mono (base' := w.heap.size) (by have := hG.size; have := hG2.size; have := hG3.size; omega)
      have ht4 := tiny_put ht hz1 ⟨Nat.le_trans hz2 (by omega), hb2⟩
      clear hO hO2 hO3 hO4 hB4 hC hC2 hC3 hG hG2 hG3 hcs hpl
      go_wp2_with fail
      go_roundw
      case rel => exact ⟨k - 1, g4, n4, cp4, _, by omega, by omega, by go_num, rfl, ht4, hO5, hC4, hG4⟩
      case measure => simp [intOf]; omega
    · go_wp2_with fail
      go_ret
      exact ⟨g, n, cp, l, by omega, ht, rfl, hO, hC, hG⟩

set_option maxRecDepth 100000 in
set_option maxHeartbeats 2000000 in
theorem d_any (w0 w : World) (gc : Nat) (a : Option Addr) (len cap : Nat) (code : List UInt8) (h : Cur w0 w gc a len cap code) :
    Calls Try.prog 44 #[.pointer (some ⟨gc, 0, none⟩)] w fun e w' => GotPairs 9 w0 w gc a len cap code e w' := by
  obtain ⟨i0, hif, hz0, hz1, hz2⟩ := info_parts infoP
  obtain ⟨j0, hjf, hy0, hy1, hy2⟩ := info_parts info8
  have hcl := h.lt
  go_enter Try.func44, Try.ntmps44
  go_wp2_with fail
  refine (d_pairs w0 _ gc a len cap code h).mono ?_
  rintro e w1 ⟨g, n, cp, l, hn, ht, rfl, hO1, hC1, hG1⟩
  have hgne : g ≠ gc := by have := hO1.lt; omega
  go_wp2_with fail
  refine (below_ w0 _ gc a len cap code _ hC1 (by omega) (by omega)).mono ?_
  rintro e w2 ⟨x, hx, rfl, hC2, hG2⟩
  have hO2 := hO1.grown hG2 (by simpa using hgne)
  have hG2' := grownBy_trans hG1 hG2
  clear hO1 hC1 hG1 hG2
  have hln := hO2.1
  by_cases x0 : x = 0
  · subst x0
    go_wp2_with fail
    refine (d_keyAny w0 _ gc a len cap code hC2).mono ?_
    rintro e w3 ⟨z1, hz1', rfl, hC3, hG3⟩
    have hO3 := hO2.grown hG3 (by simpa using hgne)
    go_wp2_with fail
    refine (d_val w0 _ gc a len cap code hC3).mono ?_
    rintro e w4 ⟨z2, ⟨hz2', hb2⟩, rfl, hC4, hG4⟩
    have hO4 := hO3.grown hG4 (by simpa using hgne)
    have hG4' := grownBy_trans hG2' (grownBy_trans hG3 hG4)
    have hbw : w.heap.size ≤ w4.heap.size := hG4'.size
    have hc3 : n + 1 ≤ maxLen := by unfold maxLen; omega
    have hc4 : (n + 1) * 32 ≤ 140737488355328 := by omega
    have hcl4 := hC4.lt
    clear hO2 hO3 hC2 hC3 hG2' hG3 hG4
    go_wp2_with (at_builtin; refine wpList_append_own _ rfl (.tmp 10) (.tmp 16) 32 rfl w.heap.size 36 i0 (.agg #[.string ⟨#[]⟩, .string ⟨#[]⟩]) 2 32 Try.underlying32 hif hz0 hz1 hz2 rfl (by decide) _ _ _ rfl (hO4.2.2.alloc _) ⟨w4.heap.size, 0, none⟩ 1 1 (pairVals [(z1, z2)]) rfl rfl (one_pair_cells _ (z1, z2) _) (pairVals_oneCell _) hc3 hc4 (le_alloc _ _ hbw) ?_)
    intro v5 w5 hown hgrow hnn
    obtain ⟨g5, cp5, hv, hO5⟩ := ownP_app (p := (z1, z2)) hO4.1 hO4.2.1 ⟨max13 (Nat.le_trans hz1' (by omega)), max13 (Nat.le_trans hz2' (by omega))⟩ hnn hown
    subst hv
    have hg5 : (w4.alloc (.cells #[.string z1, .string z2] 36)).grownBy w5 (some g) := hgrow
    have hC5 : Cur w0 w5 gc a len cap code := (hC4.below ((Below.refl _ _).alloc (Nat.le_refl _) _)).grown hg5 (by simpa using hgne.symm) (fun k e => by cases e; have := hO4.lt; have := hC4.ge; have := h.bel.size; omega)
    have hG5 : w.grownBy w5 (some gc) := grown_own (grown_alloc hG4' _) hg5 hO4.lt.1
    have ht5 : ∀ p ∈ l ++ [(z1, z2)], tiny p := by
      intro p hp
      rcases List.mem_append.1 hp with h1 | h1
      · exact ht p h1
      · simp at h1; subst h1; exact ⟨hz1', Nat.le_trans hz2' (by omega), hb2⟩
    have HO5 := Hid.mk' hO5
    clear hown hgrow hnn hO4 hC4 hG4' hg5 hO5
    go_wp2_with (at_builtin; fail)
    go_ret
    exact ⟨g5, n + 1, cp5, _, by omega, ht5, rfl, HO5.out, hC5, hG5⟩
  · by_cases x1 : x = 1
    · subst x1
      by_cases hn0 : 0 < n
      · go_wp2_with (at_make; fail)
        refine (below_ w0 _ gc a len cap code _ hC2 (by omega) (by omega)).mono ?_
        rintro e w3 ⟨y, hy, rfl, hC3, hG3⟩
        have hO3 := hO2.grown hG3 (by simpa using hgne)
        have hG3' := grownBy_trans hG2' hG3
        clear hO2 hC2 hG2' hG3
        obtain ⟨m, hm⟩ : ∃ m : Nat, 20 + (y : Int) = (m : Int) := ⟨20 + y, by omega⟩
        have hm21 : m ≤ 21 := by omega
        go_wp2_with (at_make; refine wpList_make_full _ rfl _ _ 22 rfl w3.heap.size 5 j0 (.int .u8 0) 1 Try.underlying22 hjf hy0 hy1 _ _ _ _ m rfl rfl (by omega) (by omega) ?b2 ?b3 ?b4 ?_)
        case b2 => rw [hy2]; omega
        case b3 => unfold maxLen; omega
        case b4 => exact Nat.le_refl _
        intro w4 hown hgrow
        have hOb : Own w4 w3.heap.size w3.heap.size m m (List.replicate m 0) := by
          refine ⟨by simp, ?_⟩
          have e : byteVals (List.replicate m 0) = (madeCells #[.int .u8 0] m).toList := by
            simp [byteVals, toList_madeCells_one]
          rw [e]; simpa using hown
        have hcv := conv_own hOb
        have hB4 : Below w3.heap.size w3 w4 := (Below.refl _ _).grown hgrow (Nat.le_refl _) (fun k e => by cases e)
        have hO4 := hO3.below hB4
        have hC4 := hC3.below hB4
        have hG4 := grown_below hG3' hB4
        have hl0 : 0 < l.length := by omega
        have hki : (0 : Int) < (n : Int) := by omega
        have d1 := hO4.val 0 hl0
        have f1 := hO4.frozen (0 * 2 + 1)
        have hzs : (⟨(List.replicate m (0 : UInt8)).toArray⟩ : ByteArray).size ≤ 21 := by show (List.replicate m (0 : UInt8)).toArray.size ≤ 21; simp; exact hm21
        have R := hO4.setVal 0 hl0 ⟨(List.replicate m (0 : UInt8)).toArray⟩ (max13 hzs)
        have htR : ∀ p ∈ l.set 0 (l[0].1, (⟨(List.replicate m (0 : UInt8)).toArray⟩ : ByteArray)), tiny p := by
          intro p hp
          rcases List.mem_or_eq_of_mem_set hp with h1 | h1
          · exact ht p h1
          · subst h1; exact ⟨(ht _ (List.getElem_mem hl0)).1, hzs, by unfold nbB; simp⟩
        simp only [Nat.zero_mul, Nat.zero_add] at d1 f1 R
        have hC5 : Cur w0 (w4.setCell ⟨g, 1, none⟩ (.string ⟨(List.replicate m (0 : UInt8)).toArray⟩)) gc a len cap code := hC4.grown R.2 (by simpa using hgne.symm) (fun k e => by cases e; have := hO4.lt; have := hC4.ge; have := h.bel.size; omega)
        have hG5 := grown_own hG4 R.2 hO4.lt.1
        have HR := Hid.mk' R.1
        have HC5 := Hid.mk' hC5
        have HG5 := Hid.mk' hG5
        have HT := Hid.mk' htR
        clear R hC5 hG5 htR hown hgrow hOb hB4 hO3 hC3 hG3' hO4 hC4 hG4
        go_wp2_with (at_builtin; fail)
        go_ret
        exact ⟨g, n, cp, _, by omega, HT.out, rfl, HR.out, HC5.out, HG5.out⟩
      · go_wp2_with (at_builtin; fail)
        go_ret
        exact ⟨g, n, cp, l, by omega, ht, rfl, hO2, hC2, hG2'⟩
    · have e1 : ((x : Int) == 0) = false := by simp; omega
      have e2 : ((x : Int) == 1) = false := by simp; omega
      go_wp2_with (at_builtin; fail)
      go_ret
      exact ⟨g, n, cp, l, by omega, ht, rfl, hO2, hC2, hG2'⟩

def GotPT (w : World) (e : Ending) (w' : World) : Prop :=
  ∃ (g n cp : Nat) (l : List Pr), n ≤ 9 ∧ (∀ p ∈ l, tiny p) ∧ e = .returned (.slice (some ⟨g, 0, none⟩) n cp) ∧ OwnP w' w.heap.size g n cp l ∧ Below w.heap.size w w'
set_option maxRecDepth 100000 in
set_option maxHeartbeats 1000000 in
theorem drawPairsText (a : Option Addr) (len cap : Nat) (code : List UInt8) (w : World) (h : Sl w a len code) (hln : len ≤ 1099511627776) :
    Calls Try.prog 18 #[.slice a len cap] w fun e w' => GotPT w e w' := by
  go_enter Try.func18, Try.ntmps18
  go_wp2_with fail
  refine (new_ w w a len cap code h (Below.refl _ _) hln).mono ?_
  rintro e w1 ⟨rfl, hC1, hB1⟩
  go_wp2_with fail
  refine (d_any w _ _ a len cap code hC1).mono ?_
  rintro e w2 ⟨g, n, cp, l, hn, ht, rfl, hO2, hC2, hG2⟩
  have HT := Hid.mk' ht
  clear ht
  go_wp2_with fail
  go_ret
  exact ⟨g, n, cp, l, hn, HT.out, rfl, hO2.mono hB1.size, hC2.bel⟩

end Go.Proofs.Ytefjbpkomphjdaa.nb
