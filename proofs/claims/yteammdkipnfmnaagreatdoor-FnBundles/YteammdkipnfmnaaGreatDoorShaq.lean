/- The program's turns of words. The program's words of a block. Plain mathematics of the program's way to turn a block: sixteen words that are turned in place. The program's bytes of a sum. -/
import Derived.Test.YteammdkipnfmnaaGreatDoorShaa
import Derived.Test.YteammdkipnfmnaaGreatDoorShah
import Derived.Test.YteammdkipnfmnaaGreatDoorShae
namespace Go.Proofs.YteammdkipnfmnaaGreatDoor.sha
open Go.RowKit Go.Proofs.YteammdkipnfmnaaGreatDoor.base Go.Proofs.YteammdkipnfmnaaGreatDoor.padmath
set_option linter.unusedVariables false
set_option linter.unusedSimpArgs false

theorem wraps_u64 (n : Int) (h₀ : 0 ≤ n) (h₁ : n < 2 ^ 64) : IntKind.u64.wrap n = n := by rw [IntKind.wrap_u64]; omega
theorem wraps_u32 (n : Int) (h₀ : 0 ≤ n) (h₁ : n < 2 ^ 32) : IntKind.u32.wrap n = n := by rw [IntKind.wrap_u32]; omega
theorem u64_mask5 (x : Int) (h₀ : 0 ≤ x) (h₁ : x < 18446744073709551616) : bits .and .u64 x 31 = x % 32 :=
  bits_mask .u64 64 (by decide) wraps_u64 5 (by decide) x h₀ (by omega)
theorem neg31 (n m : Nat) (hn : 1 ≤ n) (hm : m + n = 32) (hm1 : 1 ≤ m) : bits .and .u64 (IntKind.u64.wrap (-(n : Int))) 31 = (m : Int) := by
  have e : IntKind.u64.wrap (-(n : Int)) = 18446744073709551616 - (n : Int) := by rw [IntKind.wrap_u64]; omega
  rw [e, u64_mask5 _ (by omega) (by omega)]
  omega
theorem u32_or_nat (a b : Nat) (ha : a < 4294967296) (hb : b < 4294967296) : bits .or .u32 (a : Int) (b : Int) = ((a ||| b : Nat) : Int) :=
  (bits_nat .u32 32 (by decide) wraps_u32 a b (by omega) (by omega)).2
theorem u32_and_nat (a b : Nat) (ha : a < 4294967296) (hb : b < 4294967296) : bits .and .u32 (a : Int) (b : Int) = ((a &&& b : Nat) : Int) :=
  (bits_nat .u32 32 (by decide) wraps_u32 a b (by omega) (by omega)).1
theorem rot_val (x n m : Nat) (hx : x < 4294967296) (hm : m + n = 32) : bits .or .u32 ((x : Int) * 2 ^ m % 4294967296) ((x : Int) / 2 ^ n) = (rotr n x : Int) := by
  have e1 : (x : Int) / 2 ^ n = ((x / 2 ^ n : Nat) : Int) := by rw [Int.natCast_ediv, Int.natCast_pow]; rfl
  have e2 : (x : Int) * 2 ^ m % 4294967296 = ((x * 2 ^ m % 4294967296 : Nat) : Int) := by rw [Int.natCast_emod, Int.natCast_mul, Int.natCast_pow]; rfl
  rw [e1, e2, u32_or_nat _ _ (Nat.mod_lt _ (by omega)) (div32 _ hx), Nat.or_comm]
  unfold rotr
  rw [show 32 - n = m by omega]
set_option maxHeartbeats 400000 in
theorem impl_rot (x n : Nat) (w : World) (hx : x < 4294967296) (hn : 1 ≤ n) (hn2 : n ≤ 31) :
    Calls Tryz.prog 130 #[.int .u32 (x : Int), .int .i64 (-(n : Int))] w fun e w' => e = .returned (.int .u32 (rotr n x : Int)) ∧ w' = w := by
  obtain ⟨m, hm⟩ : ∃ m, m + n = 32 := ⟨32 - n, by omega⟩
  have hm1 : 1 ≤ m := by omega
  have hm2 : m ≤ 31 := by omega
  have hA := neg31 n m hn hm hm1
  have hS : (32 : Int) - (m : Int) = (n : Int) := by omega
  have HV := Hid.mk' (rot_val x n m hx hm)
  clear hm
  go_enter Tryz.func130, Tryz.ntmps130
  go_wp2
  go_ret
  exact ⟨ret_int HV.out, rfl⟩
theorem impl_rotI (x n : Nat) (N : Int) (w : World) (hN : Hid (N = -(n : Int))) (hx : x < 4294967296) (hn : 1 ≤ n) (hn2 : n ≤ 31) :
    Calls Tryz.prog 130 #[.int .u32 (x : Int), .int .i64 N] w fun e w' => e = .returned (.int .u32 (rotr n x : Int)) ∧ w' = w := by
  have e := hN.out
  subst e
  exact impl_rot x n w hx hn hn2
theorem u32_xor3 (a b c : Nat) (ha : a < 4294967296) (hb : b < 4294967296) (hc : c < 4294967296) : bits .xor .u32 (bits .xor .u32 (a : Int) (b : Int)) (c : Int) = ((a ^^^ b ^^^ c : Nat) : Int) := by
  rw [u32_xor_nat a b ha hb, u32_xor_nat _ _ (xor32 ha hb) hc]
theorem sz_val (x : Nat) (h : x < 4294967296) : bits .xor .u32 (bits .xor .u32 (rotr 7 x : Int) (rotr 18 x : Int)) ((x : Int) / 8) = (ssig0 x : Int) := by
  rw [show (x : Int) / 8 = ((x / 8 : Nat) : Int) by omega, u32_xor3 _ _ _ (rotr_lt _ _ h) (rotr_lt _ _ h) (div32 _ h)]; rfl
theorem so_val (x : Nat) (h : x < 4294967296) : bits .xor .u32 (bits .xor .u32 (rotr 17 x : Int) (rotr 19 x : Int)) ((x : Int) / 1024) = (ssig1 x : Int) := by
  rw [show (x : Int) / 1024 = ((x / 1024 : Nat) : Int) by omega, u32_xor3 _ _ _ (rotr_lt _ _ h) (rotr_lt _ _ h) (div32 _ h)]; rfl
set_option maxHeartbeats 400000 in
theorem impl_sig0 (x : Nat) (w : World) (hx : x < 4294967296) :
    Calls Tryz.prog 109 #[.int .u32 (x : Int)] w fun e w' => e = .returned (.int .u32 (ssig0 x : Int)) ∧ w' = w := by
  have HV := Hid.mk' (sz_val x hx)
  go_enter Tryz.func109, Tryz.ntmps109
  go_wp2_with fail
  refine (impl_rotI x 7 _ _ (by show _ = _; rfl) hx (by omega) (by omega)).mono ?_
  rintro e w1 ⟨rfl, hw1⟩
  subst hw1
  go_wp2_with fail
  refine (impl_rotI x 18 _ _ (by show _ = _; rfl) hx (by omega) (by omega)).mono ?_
  rintro e w1 ⟨rfl, hw1⟩
  subst hw1
  go_wp2_with fail
  go_ret
  exact ⟨ret_int HV.out, rfl⟩
set_option maxHeartbeats 400000 in
theorem impl_sig1 (x : Nat) (w : World) (hx : x < 4294967296) :
    Calls Tryz.prog 110 #[.int .u32 (x : Int)] w fun e w' => e = .returned (.int .u32 (ssig1 x : Int)) ∧ w' = w := by
  have HV := Hid.mk' (so_val x hx)
  go_enter Tryz.func110, Tryz.ntmps110
  go_wp2_with fail
  refine (impl_rotI x 17 _ _ (by show _ = _; rfl) hx (by omega) (by omega)).mono ?_
  rintro e w1 ⟨rfl, hw1⟩
  subst hw1
  go_wp2_with fail
  refine (impl_rotI x 19 _ _ (by show _ = _; rfl) hx (by omega) (by omega)).mono ?_
  rintro e w1 ⟨rfl, hw1⟩
  subst hw1
  go_wp2_with fail
  go_ret
  exact ⟨ret_int HV.out, rfl⟩
set_option maxHeartbeats 400000 in
theorem impl_turned (x i j k : Nat) (w : World) (hx : x < 4294967296) (hi : 1 ≤ i) (hi2 : i ≤ 31) (hj : 1 ≤ j) (hj2 : j ≤ 31) (hk : 1 ≤ k) (hk2 : k ≤ 31) :
    Calls Tryz.prog 111 #[.int .u32 (x : Int), .int .i64 (i : Int), .int .i64 (j : Int), .int .i64 (k : Int)] w fun e w' => e = .returned (.int .u32 ((rotr i x ^^^ rotr j x ^^^ rotr k x : Nat) : Int)) ∧ w' = w := by
  have HV := Hid.mk' (u32_xor3 _ _ _ (rotr_lt i x hx) (rotr_lt j x hx) (rotr_lt k x hx))
  go_enter Tryz.func111, Tryz.ntmps111
  go_wp2_with fail
  refine (impl_rotI x i _ _ (by show _ = _; rfl) hx (by omega) (by omega)).mono ?_
  rintro e w1 ⟨rfl, hw1⟩
  subst hw1
  go_wp2_with fail
  refine (impl_rotI x j _ _ (by show _ = _; rfl) hx (by omega) (by omega)).mono ?_
  rintro e w1 ⟨rfl, hw1⟩
  subst hw1
  go_wp2_with fail
  refine (impl_rotI x k _ _ (by show _ = _; rfl) hx (by omega) (by omega)).mono ?_
  rintro e w1 ⟨rfl, hw1⟩
  subst hw1
  go_wp2_with fail
  go_ret
  exact ⟨ret_int HV.out, rfl⟩
theorem impl_bsig1 (x : Nat) (w : World) (hx : x < 4294967296) :
    Calls Tryz.prog 111 #[.int .u32 (x : Int), .int .i64 6, .int .i64 11, .int .i64 25] w fun e w' => e = .returned (.int .u32 (bsig1 x : Int)) ∧ w' = w :=
  impl_turned x 6 11 25 w hx (by omega) (by omega) (by omega) (by omega) (by omega) (by omega)
theorem impl_bsig0 (x : Nat) (w : World) (hx : x < 4294967296) :
    Calls Tryz.prog 111 #[.int .u32 (x : Int), .int .i64 2, .int .i64 13, .int .i64 22] w fun e w' => e = .returned (.int .u32 (bsig0 x : Int)) ∧ w' = w :=
  impl_turned x 2 13 22 w hx (by omega) (by omega) (by omega) (by omega) (by omega) (by omega)

end Go.Proofs.YteammdkipnfmnaaGreatDoor.sha

namespace Go.Proofs.YteammdkipnfmnaaGreatDoor.sha
open Go.RowKit Go.Proofs.YteammdkipnfmnaaGreatDoor.base Go.Proofs.YteammdkipnfmnaaGreatDoor.padmath
set_option linter.unusedVariables false
set_option linter.unusedSimpArgs false

/-! ### arrays of words -/
def uVals (l : List Nat) : List Value := l.map fun (z : Nat) => .int .u32 (z : Int)
theorem uVals_set (l : List Nat) (k z : Nat) : (uVals l).set k (.int .u32 (z : Int)) = uVals (l.set k z) := by simp [uVals]
def Arr (w : World) (g : Nat) (t : TypeId) (l : List Nat) : Prop := w.heap[g]? = some (.cells (uVals l).toArray t (0, 0))
section
variable {w w' : World} {g : Nat} {t : TypeId} {l : List Nat} {row : Option Nat}
theorem Arr.at (h : Arr w g t l) (i : Nat) (hi : i < l.length) : w.cell? ⟨g, i, none⟩ = some (.int .u32 ((l.getD i 0 : Nat) : Int)) := by
  rw [cell_of_row w g i _ t _ h]
  simp [uVals, List.getD, hi]
theorem Arr.lt (h : Arr w g t l) : g < w.heap.size := (Array.getElem?_eq_some_iff.1 h).1
theorem Arr.frozen (h : Arr w g t l) (i : Nat) : w.frozen? ⟨g, i, none⟩ = false := by
  unfold Arr at h
  simp only [World.frozen?, h]
  simp
theorem Arr.set (h : Arr w g t l) (k z : Nat) : Arr (w.setCell ⟨g, k, none⟩ (.int .u32 (z : Int))) g t (l.set k z) ∧ w.grownBy (w.setCell ⟨g, k, none⟩ (.int .u32 (z : Int))) (some g) := by
  have := set_cur h k (.int .u32 (z : Int))
  refine ⟨?_, this.2⟩
  unfold Arr
  rw [this.1, ← uVals_set]
  simp
theorem Arr.grown (h : Arr w g t l) (hg : w.grownBy w' row) (hne : some g ≠ row) : Arr w' g t l := (hg.block g h.lt hne).trans h
theorem Arr.below (h : Arr w g t l) (hb : Below w.heap.size w w') : Arr w' g t l := (hb.block g h.lt).trans h
end

theorem arr_new {w : World} {t : TypeId} (cs : Array Value) (l : List Nat) (g : Nat) (hg : g = w.heap.size) (hc : cs = (uVals l).toArray) : Arr (w.alloc (.cells cs t)) g t l := by
  subst hg; subst hc; exact heap_alloc_new w _
theorem Arr.sixteen {w : World} {g : Nat} {t : TypeId} {x0 x1 x2 x3 x4 x5 x6 x7 x8 x9 x10 x11 x12 x13 x14 x15 : Nat} (h : Arr w g t [x0, x1, x2, x3, x4, x5, x6, x7, x8, x9, x10, x11, x12, x13, x14, x15]) :
    w.cell? ⟨g, 0, none⟩ = some (.int .u32 (x0 : Int)) ∧ w.cell? ⟨g, 1, none⟩ = some (.int .u32 (x1 : Int)) ∧ w.cell? ⟨g, 2, none⟩ = some (.int .u32 (x2 : Int)) ∧ w.cell? ⟨g, 3, none⟩ = some (.int .u32 (x3 : Int)) ∧ w.cell? ⟨g, 4, none⟩ = some (.int .u32 (x4 : Int)) ∧ w.cell? ⟨g, 5, none⟩ = some (.int .u32 (x5 : Int)) ∧ w.cell? ⟨g, 6, none⟩ = some (.int .u32 (x6 : Int)) ∧ w.cell? ⟨g, 7, none⟩ = some (.int .u32 (x7 : Int)) ∧ w.cell? ⟨g, 8, none⟩ = some (.int .u32 (x8 : Int)) ∧ w.cell? ⟨g, 9, none⟩ = some (.int .u32 (x9 : Int)) ∧ w.cell? ⟨g, 10, none⟩ = some (.int .u32 (x10 : Int)) ∧ w.cell? ⟨g, 11, none⟩ = some (.int .u32 (x11 : Int)) ∧ w.cell? ⟨g, 12, none⟩ = some (.int .u32 (x12 : Int)) ∧ w.cell? ⟨g, 13, none⟩ = some (.int .u32 (x13 : Int)) ∧ w.cell? ⟨g, 14, none⟩ = some (.int .u32 (x14 : Int)) ∧ w.cell? ⟨g, 15, none⟩ = some (.int .u32 (x15 : Int)) :=
  ⟨h.at 0 (by simp), h.at 1 (by simp), h.at 2 (by simp), h.at 3 (by simp), h.at 4 (by simp), h.at 5 (by simp), h.at 6 (by simp), h.at 7 (by simp), h.at 8 (by simp), h.at 9 (by simp), h.at 10 (by simp), h.at 11 (by simp), h.at 12 (by simp), h.at 13 (by simp), h.at 14 (by simp), h.at 15 (by simp)⟩
theorem Arr.eight {w : World} {g : Nat} {t : TypeId} {x0 x1 x2 x3 x4 x5 x6 x7 : Nat} (h : Arr w g t [x0, x1, x2, x3, x4, x5, x6, x7]) :
    w.cell? ⟨g, 0, none⟩ = some (.int .u32 (x0 : Int)) ∧ w.cell? ⟨g, 1, none⟩ = some (.int .u32 (x1 : Int)) ∧ w.cell? ⟨g, 2, none⟩ = some (.int .u32 (x2 : Int)) ∧ w.cell? ⟨g, 3, none⟩ = some (.int .u32 (x3 : Int)) ∧ w.cell? ⟨g, 4, none⟩ = some (.int .u32 (x4 : Int)) ∧ w.cell? ⟨g, 5, none⟩ = some (.int .u32 (x5 : Int)) ∧ w.cell? ⟨g, 6, none⟩ = some (.int .u32 (x6 : Int)) ∧ w.cell? ⟨g, 7, none⟩ = some (.int .u32 (x7 : Int)) :=
  ⟨h.at 0 (by simp), h.at 1 (by simp), h.at 2 (by simp), h.at 3 (by simp), h.at 4 (by simp), h.at 5 (by simp), h.at 6 (by simp), h.at 7 (by simp)⟩

/-! ### the words of a block's bytes -/
def part (bs : List UInt8) (j : Nat) : Nat → Nat
  | 0 => 0
  | r + 1 => part bs j r * 256 + (bs.getD (4 * j + r) 0).toNat
theorem part_lt (bs : List UInt8) (j r : Nat) : part bs j r < 256 ^ r := by
  induction r with
  | zero => simp [part]
  | succ r ih =>
    have := (bs.getD (4 * j + r) 0).toNat_lt
    rw [part, Nat.pow_succ]; omega
theorem part_four (bs : List UInt8) (j : Nat) : part bs j 4 = be32 bs j := by
  simp only [part, be32, Nat.add_zero]; omega
def wordsAt (bs : List UInt8) (i : Nat) : List Nat := (List.range 16).map fun j => part bs j (min 4 (i - 4 * j))
theorem wordsAt_length (bs : List UInt8) (i : Nat) : (wordsAt bs i).length = 16 := by simp [wordsAt]
theorem wordsAt_get (bs : List UInt8) (i j : Nat) (h : j < 16) : (wordsAt bs i).getD j 0 = part bs j (min 4 (i - 4 * j)) := by
  simp [wordsAt, List.getD, h]
theorem wordsAt_zero (bs : List UInt8) : wordsAt bs 0 = [0, 0, 0, 0, 0, 0, 0, 0, 0, 0, 0, 0, 0, 0, 0, 0] := by
  have e : wordsAt bs 0 = (List.range 16).map fun _ => 0 := by
    unfold wordsAt; apply List.map_congr_left; intro j _; simp [part]
  rw [e]; rfl
theorem wordsAt_all (bs : List UInt8) : wordsAt bs 64 = (List.range 16).map (be32 bs) := by
  unfold wordsAt
  apply List.map_congr_left
  intro j hj
  have := List.mem_range.1 hj
  rw [show min 4 (64 - 4 * j) = 4 by omega, part_four]
theorem wordsAt_set (bs : List UInt8) (i : Nat) (h : i < 64) :
    (wordsAt bs i).set (i / 4) ((wordsAt bs i).getD (i / 4) 0 * 256 + (bs.getD i 0).toNat) = wordsAt bs (i + 1) := by
  apply List.ext_getElem
  · simp [wordsAt]
  · intro j h1 h2
    have hj : j < 16 := by simpa [wordsAt] using h2
    rw [List.getElem_set]
    by_cases e : i / 4 = j
    · rw [if_pos e, e, wordsAt_get bs i j hj]
      simp only [wordsAt, List.getElem_map, List.getElem_range]
      rw [show min 4 (i - 4 * j) = i % 4 by omega, show min 4 (i + 1 - 4 * j) = i % 4 + 1 by omega, part, show 4 * j + i % 4 = i by omega]
    · rw [if_neg e]
      simp only [wordsAt, List.getElem_map, List.getElem_range]
      have : min 4 (i - 4 * j) = min 4 (i + 1 - 4 * j) := by omega
      rw [this]
theorem wordsAt_lt (bs : List UInt8) (i : Nat) (h : i < 64) : (wordsAt bs i).getD (i / 4) 0 < 16777216 := by
  rw [wordsAt_get bs i _ (by omega), show min 4 (i - 4 * (i / 4)) = i % 4 by omega]
  have h1 := part_lt bs (i / 4) (i % 4)
  have h2 : 256 ^ (i % 4) ≤ 256 ^ 3 := Nat.pow_le_pow_right (by omega) (by omega)
  omega
theorem shl_val (x c : Nat) (hx : x < 16777216) (hc : c < 256) : bits .or .u32 ((x : Int) * 256) (c : Int) = ((x * 256 + c : Nat) : Int) := by
  rw [show (x : Int) * 256 = ((x * 256 : Nat) : Int) by omega, u32_or_nat _ _ (by omega) (by omega), nat_join 8 _ _ (by omega) (by omega)]

set_option maxRecDepth 100000 in
set_option maxHeartbeats 2000000 in
theorem impl_words (b off cap : Nat) (bs : List UInt8) (w : World) (h : Sl w (some ⟨b, off, none⟩) 64 bs) :
    Calls Tryz.prog 75 #[.slice (some ⟨b, off, none⟩) 64 cap] w fun e w' => e = .returned (.agg #[.int .u32 (be32 bs 0 : Int), .int .u32 (be32 bs 1 : Int), .int .u32 (be32 bs 2 : Int), .int .u32 (be32 bs 3 : Int), .int .u32 (be32 bs 4 : Int), .int .u32 (be32 bs 5 : Int), .int .u32 (be32 bs 6 : Int), .int .u32 (be32 bs 7 : Int), .int .u32 (be32 bs 8 : Int), .int .u32 (be32 bs 9 : Int), .int .u32 (be32 bs 10 : Int), .int .u32 (be32 bs 11 : Int), .int .u32 (be32 bs 12 : Int), .int .u32 (be32 bs 13 : Int), .int .u32 (be32 bs 14 : Int), .int .u32 (be32 bs 15 : Int)]) ∧ Below w.heap.size w w' := by
  have hbl := h.lt (by omega)
  go_enter Tryz.func75, Tryz.ntmps75
  go_wp2_with fail
  go_loopw [9] (fun iv wr => ∃ i : Nat, i ≤ 64 ∧ iv = .int .i64 (i : Int) ∧ Arr wr (w.heap.size + 1) 113 (wordsAt bs i) ∧ Arr wr w.heap.size 113 (wordsAt bs 0) ∧ Below w.heap.size w wr) (fun iv _ => 64 - (intOf iv).toNat)
  case atStart =>
    refine ⟨0, Nat.zero_le _, rfl, ?_, ?_, ((Below.refl _ _).alloc (Nat.le_refl _) _).alloc (by simp) _⟩
    · rw [wordsAt_zero]; exact arr_new _ _ _ (by simp) rfl
    · rw [wordsAt_zero]; exact (arr_new _ _ _ rfl rfl).below ((Below.refl _ _).alloc (Nat.le_refl _) _)
  case round =>
    obtain ⟨i, hi, rfl, hA, hR, hB⟩ := hrel
    by_cases hlt : i < 64
    · have hS := h.below hB
      have c0 := hS.at i (by have := hS.1; omega)
      have hg0 : bs[i]'(by have := hS.1; omega) = bs.getD i 0 := by rw [List.getD_eq_getElem?_getD, List.getElem?_eq_getElem (by have := hS.1; omega)]; rfl
      rw [hg0] at c0
      obtain ⟨q, hq, hqi⟩ : ∃ q : Nat, i / 4 = q ∧ (i : Int) / 4 = (q : Int) := ⟨_, rfl, by omega⟩
      have hq16 : (q : Int) < 16 := by omega
      have c1 := hA.at q (by rw [wordsAt_length]; omega)
      have c2 := hA.frozen q
      have hx := wordsAt_lt bs i hlt
      have hst := wordsAt_set bs i hlt
      have hc := (bs.getD i 0).toNat_lt
      have hsh := shl_val ((wordsAt bs i).getD (i / 4) 0) (bs.getD i 0).toNat hx hc
      have hA2 := hA.set q ((wordsAt bs i).getD (i / 4) 0 * 256 + (bs.getD i 0).toNat)
      rw [← hq, hst, hq] at hA2
      rw [hq] at hx hsh
      generalize (wordsAt bs i).getD q 0 = x at *
      generalize (bs.getD i 0).toNat = c at *
      have HA2 := Hid.mk' hA2
      have HSH := Hid.mk' hsh
      clear hS hst hA2 hsh hg0 hq
      go_wp2_with fail
      go_roundw
      case rel =>
        refine ⟨i + 1, by omega, by go_num, ?_, ?_, ?_⟩
        · rw [HSH.out]; exact HA2.out.1
        · rw [HSH.out]; exact hR.grown HA2.out.2 (by simp)
        · rw [HSH.out]; exact hB.trans (below_grown HA2.out.2 (by omega) hB.size)
      case measure => simp [intOf]; omega
    · have HE : Hid (i = 64) := by show _ = _; omega
      have hA' : Arr wr (w.heap.size + 1) 113 [be32 bs 0, be32 bs 1, be32 bs 2, be32 bs 3, be32 bs 4, be32 bs 5, be32 bs 6, be32 bs 7, be32 bs 8, be32 bs 9, be32 bs 10, be32 bs 11, be32 bs 12, be32 bs 13, be32 bs 14, be32 bs 15] := by
        have := hA
        rw [HE.out, wordsAt_all] at this
        exact this
      rw [wordsAt_zero] at hR
      obtain ⟨a0, a1, a2, a3, a4, a5, a6, a7, a8, a9, a10, a11, a12, a13, a14, a15⟩ := hA'.sixteen
      obtain ⟨r0, r1, r2, r3, r4, r5, r6, r7, r8, r9, r10, r11, r12, r13, r14, r15⟩ := hR.sixteen
      have hfz := hR.frozen
      clear hA hA' hR
      go_wp2_with fail
      have hBz := ((((((((((((((((hB.setCell (p := ⟨w.heap.size, 0, none⟩) (Nat.le_refl _) (.int .u32 (be32 bs 0 : Int))).setCell (p := ⟨w.heap.size, 1, none⟩) (Nat.le_refl _) (.int .u32 (be32 bs 1 : Int))).setCell (p := ⟨w.heap.size, 2, none⟩) (Nat.le_refl _) (.int .u32 (be32 bs 2 : Int))).setCell (p := ⟨w.heap.size, 3, none⟩) (Nat.le_refl _) (.int .u32 (be32 bs 3 : Int))).setCell (p := ⟨w.heap.size, 4, none⟩) (Nat.le_refl _) (.int .u32 (be32 bs 4 : Int))).setCell (p := ⟨w.heap.size, 5, none⟩) (Nat.le_refl _) (.int .u32 (be32 bs 5 : Int))).setCell (p := ⟨w.heap.size, 6, none⟩) (Nat.le_refl _) (.int .u32 (be32 bs 6 : Int))).setCell (p := ⟨w.heap.size, 7, none⟩) (Nat.le_refl _) (.int .u32 (be32 bs 7 : Int))).setCell (p := ⟨w.heap.size, 8, none⟩) (Nat.le_refl _) (.int .u32 (be32 bs 8 : Int))).setCell (p := ⟨w.heap.size, 9, none⟩) (Nat.le_refl _) (.int .u32 (be32 bs 9 : Int))).setCell (p := ⟨w.heap.size, 10, none⟩) (Nat.le_refl _) (.int .u32 (be32 bs 10 : Int))).setCell (p := ⟨w.heap.size, 11, none⟩) (Nat.le_refl _) (.int .u32 (be32 bs 11 : Int))).setCell (p := ⟨w.heap.size, 12, none⟩) (Nat.le_refl _) (.int .u32 (be32 bs 12 : Int))).setCell (p := ⟨w.heap.size, 13, none⟩) (Nat.le_refl _) (.int .u32 (be32 bs 13 : Int))).setCell (p := ⟨w.heap.size, 14, none⟩) (Nat.le_refl _) (.int .u32 (be32 bs 14 : Int))).setCell (p := ⟨w.heap.size, 15, none⟩) (Nat.le_refl _) (.int .u32 (be32 bs 15 : Int)))
      refine bodyPost_ret (v := .agg #[.int .u32 (be32 bs 0 : Int), .int .u32 (be32 bs 1 : Int), .int .u32 (be32 bs 2 : Int), .int .u32 (be32 bs 3 : Int), .int .u32 (be32 bs 4 : Int), .int .u32 (be32 bs 5 : Int), .int .u32 (be32 bs 6 : Int), .int .u32 (be32 bs 7 : Int), .int .u32 (be32 bs 8 : Int), .int .u32 (be32 bs 9 : Int), .int .u32 (be32 bs 10 : Int), .int .u32 (be32 bs 11 : Int), .int .u32 (be32 bs 12 : Int), .int .u32 (be32 bs 13 : Int), .int .u32 (be32 bs 14 : Int), .int .u32 (be32 bs 15 : Int)]) ?h1 rfl ⟨rfl, hBz⟩
      simp [results, Tryz.results75, go_sem, r0, r1, r2, r3, r4, r5, r6, r7, r8, r9, r10, r11, r12, r13, r14, r15]

end Go.Proofs.YteammdkipnfmnaaGreatDoor.sha

namespace Go.Proofs.YteammdkipnfmnaaGreatDoor.sha
open Go.RowKit Go.Proofs.YteammdkipnfmnaaGreatDoor.base Go.Proofs.YteammdkipnfmnaaGreatDoor.padmath
set_option linter.unusedVariables false
set_option linter.unusedSimpArgs false

def cycI (r j : Nat) : Nat := max r 16 - 1 - (max r 16 - 1 - j) % 16
def cyc (bs : List UInt8) (r : Nat) : List Nat := (List.range 16).map fun j => (ws bs 64).getD (cycI r j) 0
theorem cyc_length (bs : List UInt8) (r : Nat) : (cyc bs r).length = 16 := by simp [cyc]
theorem cyc_get (bs : List UInt8) (r j : Nat) (h : j < 16) : (cyc bs r).getD j 0 = (ws bs 64).getD (cycI r j) 0 := by simp [cyc, List.getD, h]
theorem cycI_low (r j : Nat) (h : r ≤ 16) (hj : j < 16) : cycI r j = j := by
  unfold cycI; rw [show max r 16 = 16 by omega]; omega
theorem cycI_high (r j : Nat) (h : 16 ≤ r) : cycI r j = r - 1 - (r - 1 - j) % 16 := by
  unfold cycI; rw [show max r 16 = r by omega]
theorem cyc_low (bs : List UInt8) (r : Nat) (h : r < 16) : cyc bs (r + 1) = cyc bs r := by
  unfold cyc
  apply List.map_congr_left
  intro j hj
  have := List.mem_range.1 hj
  rw [cycI_low _ _ (by omega) this, cycI_low _ _ (by omega) this]
theorem ws_pre (bs : List UInt8) (j k n : Nat) (hj : j < k) (hk : k ≤ n) : (ws bs n).getD j 0 = (ws bs k).getD j 0 := by
  induction n with
  | zero => omega
  | succ n ih =>
    by_cases e : k = n + 1
    · rw [e]
    · rw [← ih (by omega), ws, List.getD_eq_getElem?_getD, List.getElem?_append_left (by rw [ws_length]; omega), ← List.getD_eq_getElem?_getD]
theorem ws_at (bs : List UInt8) (k : Nat) (h : k < 64) : (ws bs 64).getD k 0 = nextWord bs (ws bs k) k := by
  rw [ws_pre bs k (k + 1) 64 (by omega) (by omega), ws, List.getD_eq_getElem?_getD, List.getElem?_append_right (by rw [ws_length]; omega), ws_length, Nat.sub_self]
  rfl
theorem ws_low (bs : List UInt8) (k : Nat) (h : k < 16) : (ws bs 64).getD k 0 = be32 bs k := by
  rw [ws_at bs k (by omega), nextWord, if_pos h]
theorem ws_high (bs : List UInt8) (k : Nat) (h : 16 ≤ k) (h2 : k < 64) : (ws bs 64).getD k 0 =
    ((ws bs 64).getD (k - 16) 0 + ssig0 ((ws bs 64).getD (k - 15) 0) + (ws bs 64).getD (k - 7) 0 + ssig1 ((ws bs 64).getD (k - 2) 0)) % 4294967296 := by
  rw [ws_at bs k h2, nextWord, if_neg (by omega), ws_pre bs (k - 16) k 64 (by omega) (by omega), ws_pre bs (k - 15) k 64 (by omega) (by omega), ws_pre bs (k - 7) k 64 (by omega) (by omega), ws_pre bs (k - 2) k 64 (by omega) (by omega)]
theorem cyc_zero (bs : List UInt8) : cyc bs 0 = (List.range 16).map (be32 bs) := by
  unfold cyc
  apply List.map_congr_left
  intro j hj
  have := List.mem_range.1 hj
  rw [cycI_low _ _ (by omega) this, ws_low _ _ this]
theorem cyc_at (bs : List UInt8) (r : Nat) (h : r < 16) : (cyc bs r).getD (r % 16) 0 = (ws bs 64).getD r 0 := by
  rw [cyc_get _ _ _ (by omega), cycI_low _ _ (by omega) (by omega), Nat.mod_eq_of_lt h]
theorem cyc_set (bs : List UInt8) (r : Nat) (h : 16 ≤ r) : (cyc bs r).set (r % 16) ((ws bs 64).getD r 0) = cyc bs (r + 1) := by
  apply List.ext_getElem
  · simp [cyc]
  · intro j h1 h2
    have hj : j < 16 := by simpa [cyc] using h2
    rw [List.getElem_set]
    simp only [cyc, List.getElem_map, List.getElem_range]
    by_cases e : r % 16 = j
    · rw [if_pos e, cycI_high _ _ (by omega), show r + 1 - 1 - (r + 1 - 1 - j) % 16 = r by omega]
    · rw [if_neg e, cycI_high _ _ h, cycI_high _ _ (by omega), show r - 1 - (r - 1 - j) % 16 = r + 1 - 1 - (r + 1 - 1 - j) % 16 by omega]
theorem cyc_16 (bs : List UInt8) (r : Nat) (h : 16 ≤ r) : (cyc bs r).getD (r % 16) 0 = (ws bs 64).getD (r - 16) 0 := by
  rw [cyc_get _ _ _ (by omega), cycI_high _ _ h, show r - 1 - (r - 1 - r % 16) % 16 = r - 16 by omega]
theorem cyc_7 (bs : List UInt8) (r : Nat) (h : 16 ≤ r) : (cyc bs r).getD ((r + 9) % 16) 0 = (ws bs 64).getD (r - 7) 0 := by
  rw [cyc_get _ _ _ (by omega), cycI_high _ _ h, show r - 1 - (r - 1 - (r + 9) % 16) % 16 = r - 7 by omega]
theorem cyc_15 (bs : List UInt8) (r : Nat) (h : 16 ≤ r) : (cyc bs r).getD ((r + 1) % 16) 0 = (ws bs 64).getD (r - 15) 0 := by
  rw [cyc_get _ _ _ (by omega), cycI_high _ _ h, show r - 1 - (r - 1 - (r + 1) % 16) % 16 = r - 15 by omega]
theorem cyc_2 (bs : List UInt8) (r : Nat) (h : 16 ≤ r) : (cyc bs r).getD ((r + 14) % 16) 0 = (ws bs 64).getD (r - 2) 0 := by
  rw [cyc_get _ _ _ (by omega), cycI_high _ _ h, show r - 1 - (r - 1 - (r + 14) % 16) % 16 = r - 2 by omega]

def KW (w : World) : Prop := ∀ i, i < 64 → w.cell? ⟨0, i, none⟩ = some (.int .u32 ((K64.getD i 0 : Nat) : Int))
theorem KW.below {w w' : World} (h : KW w) (hb : Below w.heap.size w w') : KW w' := fun i hi =>
  (hb.cell (p := ⟨0, i, none⟩) (World.block_lt_of_cell? w _ (h i hi))).trans (h i hi)
end Go.Proofs.YteammdkipnfmnaaGreatDoor.sha

namespace Go.Proofs.YteammdkipnfmnaaGreatDoor.sha
open Go.RowKit Go.Proofs.YteammdkipnfmnaaGreatDoor.base Go.Proofs.YteammdkipnfmnaaGreatDoor.padmath
set_option linter.unusedVariables false
set_option linter.unusedSimpArgs false

theorem aggIndex (x0 x1 x2 x3 x4 x5 x6 x7 : Nat) (k : Nat) (hk : k < 8) (w : World) :
    (Instr.index 110 (.agg #[.int .u32 (x0 : Int), .int .u32 (x1 : Int), .int .u32 (x2 : Int), .int .u32 (x3 : Int), .int .u32 (x4 : Int), .int .u32 (x5 : Int), .int .u32 (x6 : Int), .int .u32 (x7 : Int)]) (.int .i64 (k : Int))).run Tryz.prog w = .ok (.int .u32 ([x0, x1, x2, x3, x4, x5, x6, x7].getD k 0 : Nat)) w := by
  have hcs : k = 0 ∨ k = 1 ∨ k = 2 ∨ k = 3 ∨ k = 4 ∨ k = 5 ∨ k = 6 ∨ k = 7 := by omega
  rcases hcs with rfl | rfl | rfl | rfl | rfl | rfl | rfl | rfl
  all_goals (show _ = _; kernel_rfl)

theorem four_val8 (x : Nat) (h : x < 4294967296) : [Value.int .u8 ((x : Int) / 16777216), Value.int .u8 ((x : Int) / 65536 % 256), Value.int .u8 ((x : Int) / 256 % 256), Value.int .u8 ((x : Int) % 256)] = byteVals (word4 x) := by
  have e : ∀ n : Nat, ((UInt8.ofNat n).toNat : Int) = (n : Int) % 256 := byte_of
  simp only [byteVals, word4, List.map_cons, List.map_nil, e]
  rw [show ((x / 16777216 : Nat) : Int) % 256 = (x : Int) / 16777216 by omega, show ((x / 65536 : Nat) : Int) % 256 = (x : Int) / 65536 % 256 by omega, show ((x / 256 : Nat) : Int) % 256 = (x : Int) / 256 % 256 by omega]

set_option maxRecDepth 100000 in
set_option maxHeartbeats 2000000 in
theorem impl_bytes (x0 x1 x2 x3 x4 x5 x6 x7 : Nat) (w : World) (hx : ∀ x ∈ [x0, x1, x2, x3, x4, x5, x6, x7], x < 4294967296) :
    Calls Tryz.prog 76 #[.agg #[.int .u32 (x0 : Int), .int .u32 (x1 : Int), .int .u32 (x2 : Int), .int .u32 (x3 : Int), .int .u32 (x4 : Int), .int .u32 (x5 : Int), .int .u32 (x6 : Int), .int .u32 (x7 : Int)]] w fun e w' =>
      e = .returned (.string ⟨(([x0, x1, x2, x3, x4, x5, x6, x7].map word4).flatten).toArray⟩) ∧ Below w.heap.size w w' := by
  obtain ⟨i0, hi, hz0, hz1, hz2⟩ := info_parts info8
  have HIX := fun k hk wx => aggIndex x0 x1 x2 x3 x4 x5 x6 x7 k hk wx
  obtain ⟨H, hH⟩ : ∃ H, H = [x0, x1, x2, x3, x4, x5, x6, x7] := ⟨_, rfl⟩
  rw [← hH] at hx HIX ⊢
  have HH := Hid.mk' hH
  have HL : Hid (H.length = 8) := by show _ = _; rw [hH]; rfl
  clear hH
  have hba : Below w.heap.size w (w.alloc (.cells #[.int .u32 (x0 : Int), .int .u32 (x1 : Int), .int .u32 (x2 : Int), .int .u32 (x3 : Int), .int .u32 (x4 : Int), .int .u32 (x5 : Int), .int .u32 (x6 : Int), .int .u32 (x7 : Int)] 110)) := (Below.refl _ _).alloc (Nat.le_refl _) _
  have hA0 : Arr (w.alloc (.cells #[.int .u32 (x0 : Int), .int .u32 (x1 : Int), .int .u32 (x2 : Int), .int .u32 (x3 : Int), .int .u32 (x4 : Int), .int .u32 (x5 : Int), .int .u32 (x6 : Int), .int .u32 (x7 : Int)] 110)) w.heap.size 110 [x0, x1, x2, x3, x4, x5, x6, x7] := arr_new _ _ _ rfl rfl
  go_enter Tryz.func76, Tryz.ntmps76
  go_wp2_with (at_make; refine wpList_make_own _ rfl _ _ 22 rfl w.heap.size 5 i0 (.int .u8 0) 1 Tryz.underlying22 hi hz0 hz1 _ _ _ 32 rfl rfl rfl ?b2 ?b3 ?b4 ?_)
  case b2 => rw [hz2]; omega
  case b3 => unfold maxLen; omega
  case b4 => simp
  intro w1 hown hgrow
  have hA1 := hA0.grown hgrow (by simp)
  obtain ⟨c0, c1, c2, c3, c4, c5, c6, c7⟩ := hA1.eight
  have hB1 : Below w.heap.size w w1 := hba.grown hgrow (by simp) (fun k e => by cases e)
  have hO1 : Own w1 w.heap.size (w.heap.size + 1) 0 32 [] := ⟨rfl, hown⟩
  clear hown hgrow hA0 hA1 hba
  go_wp2_with (at_builtin; fail)
  go_loopw [3, 8] (fun v iv wr => ∃ (k g cp : Nat), k ≤ 8 ∧ iv = .int .i64 (k : Int) ∧ v = .slice (some ⟨g, 0, none⟩) (4 * k) cp ∧ Own wr w.heap.size g (4 * k) cp ((H.take k).map word4).flatten ∧ Below w.heap.size w wr) (fun _ iv _ => 8 - (intOf iv).toNat)
  case atStart => exact ⟨0, w.heap.size + 1, 32, Nat.zero_le _, rfl, rfl, hO1, hB1⟩
  case round =>
    clear c0 c1 c2 c3 c4 c5 c6 c7 hO1 hB1
    obtain ⟨k, g, cp, hk, rfl, rfl, hO, hB⟩ := hrel
    have hbw : w.heap.size ≤ wr.heap.size := hB.size
    by_cases hlt : k < 8
    · have hix := fun wx => HIX k hlt wx
      have hxk := getD_lt hx k
      have HF : Hid (((H.take k).map word4).flatten ++ word4 (H.getD k 0) = ((H.take (k + 1)).map word4).flatten) := take_word H k (by rw [HL.out]; exact hlt)
      have hc3 : 4 * k + 4 ≤ maxLen := by unfold maxLen; omega
      have hc4 : (4 * k + 4) * 1 ≤ 140737488355328 := by omega
      generalize H.getD k 0 = x at *
      clear HIX
      go_wp2_with (at_builtin; refine wpList_append_own _ rfl (.tmp 11) (.tmp 23) 22 rfl w.heap.size 5 i0 (.int .u8 0) 1 1 Tryz.underlying22 hi hz0 hz1 hz2 rfl (by decide) _ _ _ rfl (hO.2.alloc _) ⟨wr.heap.size, 0, none⟩ 4 4 [_, _, _, _] rfl rfl (cells_four _ _ _ _ _ _) (four_oneCell _ _ _ _ _) hc3 hc4 (le_alloc _ _ hbw) ?_)
      intro v2 w2 hown hgrow hnn
      rw [← List.map_take] at hown
      obtain ⟨g3, cp3, hv, hO3⟩ := own_app (m := 4) (ns := word4 x) hO.1 rfl (four_val8 x hxk) hnn hown
      subst hv
      rw [HF.out] at hO3
      have hB3 : Below w.heap.size w w2 := (hB.alloc hbw _).grown hgrow (le_alloc _ _ hbw) (fun k e => by simp [Value.ownBlock] at e; have := hO.lt; omega)
      have HO3 := Hid.mk' hO3
      clear hown hgrow hnn hO3 hO hB hix
      go_wp2_with (at_builtin; fail)
      go_roundw
      case rel => exact ⟨k + 1, g3, cp3, by omega, by go_num, rfl, HO3.out, hB3⟩
      case measure => simp [intOf]; omega
    · have HE : Hid (k = 8) := by show _ = _; omega
      have hcv := conv_own hO
      go_wp2_with (at_builtin; fail)
      go_ret
      refine ⟨ret_str ?_, hB⟩
      have hle : H.length ≤ k := by rw [HL.out, HE.out]; exact Nat.le_refl _
      rw [List.take_of_length_le (by simpa using hle)]

end Go.Proofs.YteammdkipnfmnaaGreatDoor.sha
