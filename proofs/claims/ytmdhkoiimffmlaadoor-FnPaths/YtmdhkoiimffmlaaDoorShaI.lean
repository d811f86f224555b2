/- The program's turns of words. -/
import Derived.Test.YtmdhkoiimffmlaaDoorShaMath
namespace Go.Proofs.YtmdhkoiimffmlaaDoor.sha
open Go.RowKit Go.Proofs.YtmdhkoiimffmlaaDoor.base Go.Proofs.YtmdhkoiimffmlaaDoor.padmath
set_option linter.unusedVariables false
set_option linter.unusedSimpArgs false

theorem wraps_u64 (n : Int) (h₀ : 0 ≤ n) (h₁ : n < 2 ^ 64) : IntKind.u64.wrap n = n := by rw [IntKind.wrap_u64]; omega
theorem wraps_u32 (n : Int) (h₀ : 0 ≤ n) (h₁ : n < 2 ^ 32) : IntKind.u32.wrap n = n := by rw [IntKind.wrap_u32]; omega
theorem u64_mask5 (x : Int) (h₀ : 0 ≤ x) (h₁ : x < 18446744073709551616) : bits .and .u64 x 31 = x % 32 :=
  bits_mask .u64 64 (by decide) wraps_u64 5 (by decide) x h₀ (by omega)
theorem neg31 (n m : Nat) (hn : 1 ≤ n) (hm : m + n = 32) (hm1 : 1 ≤ m) : bits .and .u64 (IntKind.u64.wrap (-(n : Int))) 31 = (m : Int) := by
  have e : IntKind.u64.wrap (-(n : Int)) = 18446744073709551616 - (n : Int) := by rw [IntKind.wrap_u64]; omega
  rw [e, u64_mask5 _ (by omega) (by omega)]
  omega
theorem u32_or_nat (a b : Nat) (ha : a < 4294967296) (hb : b < 4294967296) : bits .or .u32 (a : Int) (b : Int) = ((a ||| b : Nat) : Int) :=
  (bits_nat .u32 32 (by decide) wraps_u32 a b (by omega) (by omega)).2
theorem u32_and_nat (a b : Nat) (ha : a < 4294967296) (hb : b < 4294967296) : bits .and .u32 (a : Int) (b : Int) = ((a &&& b : Nat) : Int) :=
  (bits_nat .u32 32 (by decide) wraps_u32 a b (by omega) (by omega)).1
theorem rot_val (x n m : Nat) (hx : x < 4294967296) (hm : m + n = 32) : bits .or .u32 ((x : Int) * 2 ^ m % 4294967296) ((x : Int) / 2 ^ n) = (rotr n x : Int) := by
  have e1 : (x : Int) / 2 ^ n = ((x / 2 ^ n : Nat) : Int) := by rw [Int.natCast_ediv, Int.natCast_pow]; rfl
  have e2 : (x : Int) * 2 ^ m % 4294967296 = ((x * 2 ^ m % 4294967296 : Nat) : Int) := by rw [Int.natCast_emod, Int.natCast_mul, Int.natCast_pow]; rfl
  rw [e1, e2, u32_or_nat _ _ (Nat.mod_lt _ (by omega)) (div32 _ hx), Nat.or_comm]
  unfold rotr
  rw [show 32 - n = m by omega]
set_option maxHeartbeats 400000 in
theorem impl_rot (x n : Nat) (w : World) (hx : x < 4294967296) (hn : 1 ≤ n) (hn2 : n ≤ 31) :
    Calls Tryd.prog 94 #[.int .u32 (x : Int), .int .i64 (-(n : Int))] w fun e w' => e = .returned (.int .u32 (rotr n x : Int)) ∧ w' = w := by
  obtain ⟨m, hm⟩ : ∃ m, m + n = 32 := ⟨32 - n, by omega⟩
  have hm1 : 1 ≤ m := by omega
  have hm2 : m ≤ 31 := by omega
  have hA := neg31 n m hn hm hm1
  have hS : (32 : Int) - (m : Int) = (n : Int) := by omega
  have HV := Hid.mk' (rot_val x n m hx hm)
  clear hm
  go_enter Tryd.func94, Tryd.ntmps94
  go_wp2
  go_ret
  exact ⟨ret_int HV.out, rfl⟩
theorem impl_rotI (x n : Nat) (N : Int) (w : World) (hN : Hid (N = -(n : Int))) (hx : x < 4294967296) (hn : 1 ≤ n) (hn2 : n ≤ 31) :
    Calls Tryd.prog 94 #[.int .u32 (x : Int), .int .i64 N] w fun e w' => e = .returned (.int .u32 (rotr n x : Int)) ∧ w' = w := by
  have e := hN.out
  subst e
  exact impl_rot x n w hx hn hn2
theorem u32_xor3 (a b c : Nat) (ha : a < 4294967296) (hb : b < 4294967296) (hc : c < 4294967296) : bits .xor .u32 (bits .xor .u32 (a : Int) (b : Int)) (c : Int) = ((a ^^^ b ^^^ c : Nat) : Int) := by
  rw [u32_xor_nat a b ha hb, u32_xor_nat _ _ (xor32 ha hb) hc]
theorem sz_val (x : Nat) (h : x < 4294967296) : bits .xor .u32 (bits .xor .u32 (rotr 7 x : Int) (rotr 18 x : Int)) ((x : Int) / 8) = (ssig0 x : Int) := by
  rw [show (x : Int) / 8 = ((x / 8 : Nat) : Int) by omega, u32_xor3 _ _ _ (rotr_lt _ _ h) (rotr_lt _ _ h) (div32 _ h)]; rfl
theorem so_val (x : Nat) (h : x < 4294967296) : bits .xor .u32 (bits .xor .u32 (rotr 17 x : Int) (rotr 19 x : Int)) ((x : Int) / 1024) = (ssig1 x : Int) := by
  rw [show (x : Int) / 1024 = ((x / 1024 : Nat) : Int) by omega, u32_xor3 _ _ _ (rotr_lt _ _ h) (rotr_lt _ _ h) (div32 _ h)]; rfl
set_option maxHeartbeats 400000 in
theorem impl_sig0 (x : Nat) (w : World) (hx : x < 4294967296) :
    Calls Tryd.prog 86 #[.int .u32 (x : Int)] w fun e w' => e = .returned (.int .u32 (ssig0 x : Int)) ∧ w' = w := by
  have HV := Hid.mk' (sz_val x hx)
  go_enter Tryd.func86, Tryd.ntmps86
  go_wp2_with fail
  refine (impl_rotI x 7 _ _ (by show _ = _; rfl) hx (by omega) (by omega)).mono ?_
  rintro e w1 ⟨rfl, hw1⟩
  subst hw1
  go_wp2_with fail
  refine (impl_rotI x 18 _ _ (by show _ = _; rfl) hx (by omega) (by omega)).mono ?_
  rintro e w1 ⟨rfl, hw1⟩
  subst hw1
  go_wp2_with fail
  go_ret
  exact ⟨ret_int HV.out, rfl⟩
set_option maxHeartbeats 400000 in
theorem impl_sig1 (x : Nat) (w : World) (hx : x < 4294967296) :
    Calls Tryd.prog 87 #[.int .u32 (x : Int)] w fun e w' => e = .returned (.int .u32 (ssig1 x : Int)) ∧ w' = w := by
  have HV := Hid.mk' (so_val x hx)
  go_enter Tryd.func87, Tryd.ntmps87
  go_wp2_with fail
  refine (impl_rotI x 17 _ _ (by show _ = _; rfl) hx (by omega) (by omega)).mono ?_
  rintro e w1 ⟨rfl, hw1⟩
  subst hw1
  go_wp2_with fail
  refine (impl_rotI x 19 _ _ (by show _ = _; rfl) hx (by omega) (by omega)).mono ?_
  rintro e w1 ⟨rfl, hw1⟩
  subst hw1
  go_wp2_with fail
  go_ret
  exact ⟨ret_int HV.out, rfl⟩
set_option maxHeartbeats 400000 in
theorem impl_turned (x i j k : Nat) (w : World) (hx : x < 4294967296) (hi : 1 ≤ i) (hi2 : i ≤ 31) (hj : 1 ≤ j) (hj2 : j ≤ 31) (hk : 1 ≤ k) (hk2 : k ≤ 31) :
    Calls Tryd.prog 88 #[.int .u32 (x : Int), .int .i64 (i : Int), .int .i64 (j : Int), .int .i64 (k : Int)] w fun e w' => e = .returned (.int .u32 ((rotr i x ^^^ rotr j x ^^^ rotr k x : Nat) : Int)) ∧ w' = w := by
  have HV := Hid.mk' (u32_xor3 _ _ _ (rotr_lt i x hx) (rotr_lt j x hx) (rotr_lt k x hx))
  go_enter Tryd.func88, Tryd.ntmps88
  go_wp2_with fail
  refine (impl_rotI x i _ _ (by show _ = _; rfl) hx (by omega) (by omega)).mono ?_
  rintro e w1 ⟨rfl, hw1⟩
  subst hw1
  go_wp2_with fail
  refine (impl_rotI x j _ _ (by show _ = _; rfl) hx (by omega) (by omega)).mono ?_
  rintro e w1 ⟨rfl, hw1⟩
  subst hw1
  go_wp2_with fail
  refine (impl_rotI x k _ _ (by show _ = _; rfl) hx (by omega) (by omega)).mono ?_
  rintro e w1 ⟨rfl, hw1⟩
  subst hw1
  go_wp2_with fail
  go_ret
  exact ⟨ret_int HV.out, rfl⟩
theorem impl_bsig1 (x : Nat) (w : World) (hx : x < 4294967296) :
    Calls Tryd.prog 88 #[.int .u32 (x : Int), .int .i64 6, .int .i64 11, .int .i64 25] w fun e w' => e = .returned (.int .u32 (bsig1 x : Int)) ∧ w' = w :=
  impl_turned x 6 11 25 w hx (by omega) (by omega) (by omega) (by omega) (by omega) (by omega)
theorem impl_bsig0 (x : Nat) (w : World) (hx : x < 4294967296) :
    Calls Tryd.prog 88 #[.int .u32 (x : Int), .int .i64 2, .int .i64 13, .int .i64 22] w fun e w' => e = .returned (.int .u32 (bsig0 x : Int)) ∧ w' = w :=
  impl_turned x 2 13 22 w hx (by omega) (by omega) (by omega) (by omega) (by omega) (by omega)

end Go.Proofs.YtmdhkoiimffmlaaDoor.sha
