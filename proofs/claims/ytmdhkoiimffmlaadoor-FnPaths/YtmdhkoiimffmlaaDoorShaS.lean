/- The specification's words of a block. -/
import Derived.Test.YtmdhkoiimffmlaaDoorShaMath
import Derived.Test.YtmdhkoiimffmlaaDoorRowN
namespace Go.Proofs.YtmdhkoiimffmlaaDoor.sha
open Go.RowKit Go.Proofs.YtmdhkoiimffmlaaDoor.base Go.Proofs.YtmdhkoiimffmlaaDoor.padmath
set_option linter.unusedVariables false
set_option linter.unusedSimpArgs false

theorem i64_or_nat (a b : Nat) (ha : a < 9223372036854775808) (hb : b < 9223372036854775808) : bits .or .i64 (a : Int) (b : Int) = ((a ||| b : Nat) : Int) :=
  (bits_nat .i64 63 (by decide) wraps_i64 a b (by omega) (by omega)).2
theorem i64_and_nat (a b : Nat) (ha : a < 9223372036854775808) (hb : b < 9223372036854775808) : bits .and .i64 (a : Int) (b : Int) = ((a &&& b : Nat) : Int) :=
  (bits_nat .i64 63 (by decide) wraps_i64 a b (by omega) (by omega)).1
theorem pow_bd (n : Nat) (h : 2 ≤ n) : 2 ^ (32 - n) ≤ 1073741824 := Nat.le_trans (Nat.pow_le_pow_right (n := 2) (by omega) (show 32 - n ≤ 30 by omega)) (by decide)
theorem turn_val (x n : Nat) (hx : x < 4294967296) (hn : 2 ≤ n) (hn2 : n ≤ 31) :
    bits .and .i64 (bits .or .i64 ((x : Int) / 2 ^ n) (wrap64 ((x : Int) * 2 ^ (32 - n)))) 4294967295 = (rotr n x : Int) := by
  have hp := pow_bd n hn
  have h1 : x * 2 ^ (32 - n) ≤ 4294967295 * 1073741824 := Nat.mul_le_mul (by omega) hp
  have e1 : (x : Int) / 2 ^ n = ((x / 2 ^ n : Nat) : Int) := by rw [Int.natCast_ediv, Int.natCast_pow]; rfl
  have e2 : (x : Int) * 2 ^ (32 - n) = ((x * 2 ^ (32 - n) : Nat) : Int) := by rw [Int.natCast_mul, Int.natCast_pow]; rfl
  have hd := div32 (2 ^ n) hx
  rw [e1, e2, IntWalk.wrap64_in _ (by omega), i64_or_nat _ _ (by omega) (by omega), i64_mask32 _ (by omega) ?_]
  · unfold rotr
    have e3 : (x / 2 ^ n ||| x * 2 ^ (32 - n)) % 4294967296 = x / 2 ^ n % 4294967296 ||| x * 2 ^ (32 - n) % 4294967296 := Nat.or_mod_two_pow (n := 32)
    have e4 : x / 2 ^ n % 4294967296 = x / 2 ^ n := Nat.mod_eq_of_lt hd
    rw [e4] at e3
    omega
  · have : x / 2 ^ n ||| x * 2 ^ (32 - n) < 2 ^ 63 := Nat.or_lt_two_pow (by omega) (by omega)
    omega

set_option maxHeartbeats 400000 in
theorem spec_turn (x n : Nat) (w : World) (hx : x < 4294967296) (hn : 2 ≤ n) (hn2 : n ≤ 31) :
    Calls Tryd.prog 90 #[.int .i64 (x : Int), .int .i64 (n : Int)] w fun e w' => e = .returned (.int .i64 (rotr n x : Int)) ∧ w' = w := by
  have hv := turn_val x n hx hn hn2
  have HV := Hid.mk' hv
  clear hv
  go_enter Tryd.func90, Tryd.ntmps90
  go_wp2
  go_ret
  exact ⟨ret_int HV.out, rfl⟩

theorem spec_turnI (x n : Nat) (N : Int) (w : World) (hN : Hid (N = (n : Int))) (hx : x < 4294967296) (hn : 2 ≤ n) (hn2 : n ≤ 31) :
    Calls Tryd.prog 90 #[.int .i64 (x : Int), .int .i64 N] w fun e w' => e = .returned (.int .i64 (rotr n x : Int)) ∧ w' = w := by
  have e := hN.out
  subst e
  exact spec_turn x n w hx hn hn2
theorem xor3_nat (a b c : Nat) (ha : a < 4294967296) (hb : b < 4294967296) (hc : c < 4294967296) : bits .xor .i64 (bits .xor .i64 (a : Int) (b : Int)) (c : Int) = ((a ^^^ b ^^^ c : Nat) : Int) := by
  rw [i64_xor_nat a b ha hb, i64_xor_nat _ _ (xor32 ha hb) hc]
theorem sig0_val (x : Nat) (h : x < 4294967296) : bits .xor .i64 (bits .xor .i64 (rotr 7 x : Int) (rotr 18 x : Int)) ((x : Int) / 8) = (ssig0 x : Int) := by
  rw [show (x : Int) / 8 = ((x / 8 : Nat) : Int) by omega, xor3_nat _ _ _ (rotr_lt _ _ h) (rotr_lt _ _ h) (div32 _ h)]; rfl
theorem sig1_val (x : Nat) (h : x < 4294967296) : bits .xor .i64 (bits .xor .i64 (rotr 17 x : Int) (rotr 19 x : Int)) ((x : Int) / 1024) = (ssig1 x : Int) := by
  rw [show (x : Int) / 1024 = ((x / 1024 : Nat) : Int) by omega, xor3_nat _ _ _ (rotr_lt _ _ h) (rotr_lt _ _ h) (div32 _ h)]; rfl
theorem next_val (a s0 b s1 : Nat) (ha : a < 4294967296) (h0 : s0 < 4294967296) (hb : b < 4294967296) (h1 : s1 < 4294967296) :
    bits .and .i64 (IntKind.i64.wrap (IntKind.i64.wrap (IntKind.i64.wrap ((a : Int) + (s0 : Int)) + (b : Int)) + (s1 : Int))) 4294967295 = (((a + s0 + b + s1) % 4294967296 : Nat) : Int) := by
  rw [wraps_i64 ((a : Int) + (s0 : Int)) (by omega) (by omega), wraps_i64 ((a : Int) + (s0 : Int) + (b : Int)) (by omega) (by omega), wraps_i64 ((a : Int) + (s0 : Int) + (b : Int) + (s1 : Int)) (by omega) (by omega), i64_mask32 _ (by omega) (by omega)]
  omega
theorem keep2 {W w2 : World} {g g' o0 o1 : Nat} {v0 v1 : Value} (h : W.cell? ⟨g, o0, none⟩ = some v0 ∧ W.cell? ⟨g, o1, none⟩ = some v1)
    (h2 : w2.cell? ⟨g, o0, none⟩ = W.cell? ⟨g, o0, none⟩) (h3 : w2.cell? ⟨g, o1, none⟩ = W.cell? ⟨g, o1, none⟩) : w2.cell? ⟨g, o0, none⟩ = some v0 ∧ w2.cell? ⟨g, o1, none⟩ = some v1 :=
  ⟨h2.trans h.1, h3.trans h.2⟩
theorem keep4 {W w2 : World} {b o0 o1 o2 o3 g : Nat} {v0 v1 v2 v3 : Value} (hg : W.grownBy w2 (some g)) (hne : ¬ b = g)
    (h : W.cell? ⟨b, o0, none⟩ = some v0 ∧ W.cell? ⟨b, o1, none⟩ = some v1 ∧ W.cell? ⟨b, o2, none⟩ = some v2 ∧ W.cell? ⟨b, o3, none⟩ = some v3) :
    w2.cell? ⟨b, o0, none⟩ = some v0 ∧ w2.cell? ⟨b, o1, none⟩ = some v1 ∧ w2.cell? ⟨b, o2, none⟩ = some v2 ∧ w2.cell? ⟨b, o3, none⟩ = some v3 :=
  ⟨hg.cell h.1 (by simpa using hne), hg.cell h.2.1 (by simpa using hne), hg.cell h.2.2.1 (by simpa using hne), hg.cell h.2.2.2 (by simpa using hne)⟩
theorem word_val (x0 x1 x2 x3 : Nat) (d0 : x0 < 256) (d1 : x1 < 256) (d2 : x2 < 256) (d3 : x3 < 256) :
    bits .or .i64 (bits .or .i64 (bits .or .i64 (IntKind.i64.wrap (IntKind.i64.wrap (x0 : Int) * 16777216)) (IntKind.i64.wrap (IntKind.i64.wrap (x1 : Int) * 65536))) (IntKind.i64.wrap (IntKind.i64.wrap (x2 : Int) * 256))) (IntKind.i64.wrap (x3 : Int)) = ((x0 * 16777216 + x1 * 65536 + x2 * 256 + x3 : Nat) : Int) := by
  rw [wraps_i64 (x0 : Int) (by omega) (by omega), wraps_i64 (x1 : Int) (by omega) (by omega), wraps_i64 (x2 : Int) (by omega) (by omega), wraps_i64 (x3 : Int) (by omega) (by omega),
    wraps_i64 _ (by omega) (by omega), wraps_i64 _ (by omega) (by omega), wraps_i64 _ (by omega) (by omega),
    show (x0 : Int) * 16777216 = ((x0 * 16777216 : Nat) : Int) by omega, show (x1 : Int) * 65536 = ((x1 * 65536 : Nat) : Int) by omega, show (x2 : Int) * 256 = ((x2 * 256 : Nat) : Int) by omega,
    i64_or_nat _ _ (by omega) (by omega), nat_join 24 _ _ (by omega) (by omega), i64_or_nat _ _ (by omega) (by omega), nat_join 16 _ _ (by omega) (by omega), i64_or_nat _ _ (by omega) (by omega), nat_join 8 _ _ (by omega) (by omega)]
theorem getD_at {w : World} {b off len : Nat} {bs : List UInt8} (h : Sl w (some ⟨b, off, none⟩) len bs) (i : Nat) (hi : i < len) : w.cell? ⟨b, off + i, none⟩ = some (.int .u8 ((bs.getD i 0).toNat : Int)) := by
  have hl := h.1
  rw [h.at i (by omega), List.getD_eq_getElem?_getD, List.getElem?_eq_getElem (by omega)]; rfl

set_option maxRecDepth 100000 in
set_option maxHeartbeats 2000000 in
theorem spec_words (b off cap : Nat) (bs : List UInt8) (w : World) (h : Sl w (some ⟨b, off, none⟩) 64 bs) :
    Calls Tryd.prog 89 #[.slice (some ⟨b, off, none⟩) 64 cap] w fun e w' => ∃ g cp, e = .returned (.slice (some ⟨g, 0, none⟩) 64 cp) ∧ OwnN w' w.heap.size g 64 cp (ws bs 64) ∧ Below w.heap.size w w' := by
  obtain ⟨i0, hi, hz0, hz1, hz2⟩ := info_parts infoInt
  have hbl := h.lt (by omega)
  go_enter Tryd.func89, Tryd.ntmps89
  go_wp2_with (at_builtin; fail)
  go_loopw [3, 4] (fun v i wr => ∃ (k g cp : Nat), k ≤ 16 ∧ i = .int .i64 (k : Int) ∧ v = .slice (some ⟨g, 0, none⟩) k cp ∧ OwnN wr w.heap.size g k cp (ws bs k) ∧ Below w.heap.size w wr) (fun _ i _ => 16 - (intOf i).toNat)
  case atStart => exact ⟨0, w.heap.size, 0, Nat.zero_le _, rfl, rfl, ownN_made w _ (Nat.le_refl _), (Below.refl _ _).alloc (Nat.le_refl _) _⟩
  case round =>
    obtain ⟨k, g, cp, hk, rfl, rfl, hO, hB⟩ := hrel
    have hbw : w.heap.size ≤ wr.heap.size := hB.size
    by_cases hlt : k < 16
    · have hS := h.below hB
      have c0 := getD_at hS (4 * k) (by omega)
      have c1 := getD_at hS (4 * k + 1) (by omega)
      have c2 := getD_at hS (4 * k + 2) (by omega)
      have c3 := getD_at hS (4 * k + 3) (by omega)
      have hW : Hid (nextWord bs (ws bs k) k = be32 bs k) := by show _ = _; unfold nextWord; rw [if_pos hlt]
      have HBE : Hid (be32 bs k = (bs.getD (4 * k) 0).toNat * 16777216 + (bs.getD (4 * k + 1) 0).toNat * 65536 + (bs.getD (4 * k + 2) 0).toNat * 256 + (bs.getD (4 * k + 3) 0).toNat) := rfl
      have d0 := (bs.getD (4 * k) 0).toNat_lt
      have d1 := (bs.getD (4 * k + 1) 0).toNat_lt
      have d2 := (bs.getD (4 * k + 2) 0).toNat_lt
      have d3 := (bs.getD (4 * k + 3) 0).toNat_lt
      generalize (bs.getD (4 * k) 0).toNat = x0 at *
      generalize (bs.getD (4 * k + 1) 0).toNat = x1 at *
      generalize (bs.getD (4 * k + 2) 0).toNat = x2 at *
      generalize (bs.getD (4 * k + 3) 0).toNat = x3 at *
      have hne : ¬ b = g := by have := hO.lt; omega
      have hc3 : k + 1 ≤ maxLen := by unfold maxLen; omega
      have hc4 : (k + 1) * 8 ≤ 140737488355328 := by omega
      have e0 : IntKind.i64.wrap (4 * (k : Int)) = 4 * (k : Int) := wraps_i64 _ (by omega) (by omega)
      have e1 : IntKind.i64.wrap (4 * (k : Int) + 1) = 4 * (k : Int) + 1 := wraps_i64 _ (by omega) (by omega)
      have e2 : IntKind.i64.wrap (4 * (k : Int) + 2) = 4 * (k : Int) + 2 := wraps_i64 _ (by omega) (by omega)
      have e3 : IntKind.i64.wrap (4 * (k : Int) + 3) = 4 * (k : Int) + 3 := wraps_i64 _ (by omega) (by omega)
      have t0 : (4 * (k : Int)).toNat = 4 * k := by omega
      have t1 : (4 * (k : Int) + 1).toNat = 4 * k + 1 := by omega
      have t2 : (4 * (k : Int) + 2).toNat = 4 * k + 2 := by omega
      have t3 : (4 * (k : Int) + 3).toNat = 4 * k + 3 := by omega
      have p0 : 0 ≤ 4 * (k : Int) := by omega
      have p1 : 0 ≤ 4 * (k : Int) + 1 := by omega
      have p2 : 0 ≤ 4 * (k : Int) + 2 := by omega
      have p3 : 0 ≤ 4 * (k : Int) + 3 := by omega
      have hi0 : 4 * (k : Int) < 64 := by omega
      have hi1 : 4 * (k : Int) + 1 < 64 := by omega
      have hi2 : 4 * (k : Int) + 2 < 64 := by omega
      have hi3 : 4 * (k : Int) + 3 < 64 := by omega
      clear hS
      go_wp2_with (at_builtin; fail)
      go_region_held_law (fun w' => w'.cell? ⟨b, off + 4 * k, none⟩ = some (.int .u8 (x0 : Int)) ∧ w'.cell? ⟨b, off + (4 * k + 1), none⟩ = some (.int .u8 (x1 : Int)) ∧ w'.cell? ⟨b, off + (4 * k + 2), none⟩ = some (.int .u8 (x2 : Int)) ∧ w'.cell? ⟨b, off + (4 * k + 3), none⟩ = some (.int .u8 (x3 : Int))) (first | (go_keep) | (exact keep4 hgrow hne (by assumption))) ((refine step_append_own rfl (.tmp 15) (.tmp 49) 83 rfl w.heap.size 3 i0 (.int .i64 0) 1 8 Tryd.underlying83 hi hz0 hz1 hz2 rfl (by decide) _ _ _ rfl (hO.2.alloc _) ⟨wr.heap.size, 0, none⟩ 1 1 [_] rfl rfl (cell_one_new _ _ _) (one_oneCell _ _) hc3 hc4 (le_alloc _ _ hbw) ?_; intro v2 w2 hown hgrow hnn))
      have hgr2 : (wr.alloc (.cells #[.int .i64 (bits .or .i64 (bits .or .i64 (bits .or .i64 (IntKind.i64.wrap (IntKind.i64.wrap (x0 : Int) * 16777216)) (IntKind.i64.wrap (IntKind.i64.wrap (x1 : Int) * 65536))) (IntKind.i64.wrap (IntKind.i64.wrap (x2 : Int) * 256))) (IntKind.i64.wrap (x3 : Int)))] 3)).drew.grownBy w2 (some g) := hgrow
      rw [word_val x0 x1 x2 x3 d0 d1 d2 d3, ← HBE.out, ← hW.out, ← natVals_snoc] at hown
      obtain ⟨g2, cp2, hv, hO2⟩ := ownN_val (zs := ws bs (k + 1)) (ws_length bs (k + 1)) (by simpa using hnn) hown
      subst hv
      have hB2 : Below w.heap.size w w2 := (hB.alloc hbw _).drew.grown hgr2 (le_alloc _ _ hbw) (fun k e => by cases e; exact hO.lt.1)
      have HO2 := Hid.mk' hO2
      clear hown hgrow hgr2 hnn hO2 hO hB e0 e1 e2 e3 t0 t1 t2 t3
      go_wp2_with (at_builtin; fail)
      go_roundw
      case rel => exact ⟨k + 1, g2, cp2, by omega, by go_num, rfl, HO2.out, hB2⟩
      case measure => simp [intOf]; omega
    · have HE : Hid (k = 16) := by show _ = _; omega
      go_wp2_with (at_builtin; fail)
      go_loopw [3, 5] (fun v i wq => ∃ (k g cp : Nat), 16 ≤ k ∧ k ≤ 64 ∧ i = .int .i64 (k : Int) ∧ v = .slice (some ⟨g, 0, none⟩) k cp ∧ OwnN wq w.heap.size g k cp (ws bs k) ∧ Below w.heap.size w wq) (fun _ i _ => 64 - (intOf i).toNat)
      case atStart => exact ⟨16, g, cp, by omega, by omega, rfl, by rw [HE.out], by rw [HE.out] at hO; exact hO, hB⟩
      case round =>
        clear hO hB hbw
        obtain ⟨k, g5, cp5, hk16, hk64, rfl, rfl, hO, hB⟩ := hrel
        have hbw : w.heap.size ≤ wr.heap.size := hB.size
        by_cases hlt : k < 64
        · have hall := ws_lt bs k
          have c15 := hO.at (k - 15) (by omega)
          have c2 := hO.at (k - 2) (by omega)
          have c16 := hO.at (k - 16) (by omega)
          have c7 := hO.at (k - 7) (by omega)
          have b15 := getD_lt hall (k - 15)
          have b2 := getD_lt hall (k - 2)
          have b16 := getD_lt hall (k - 16)
          have b7 := getD_lt hall (k - 7)
          have HW : Hid (nextWord bs (ws bs k) k = ((ws bs k).getD (k - 16) 0 + ssig0 ((ws bs k).getD (k - 15) 0) + (ws bs k).getD (k - 7) 0 + ssig1 ((ws bs k).getD (k - 2) 0)) % 4294967296) := by
            show _ = _; unfold nextWord; rw [if_neg (by omega)]
          generalize (ws bs k).getD (k - 15) 0 = x15 at *
          generalize (ws bs k).getD (k - 2) 0 = x2 at *
          generalize (ws bs k).getD (k - 16) 0 = x16 at *
          generalize (ws bs k).getD (k - 7) 0 = x7 at *
          have hs0 := sig0_val x15 b15
          have hs1 := sig1_val x2 b2
          have l0 := ssig0_lt x15 b15
          have l1 := ssig1_lt x2 b2
          have hc3 : k + 1 ≤ maxLen := by unfold maxLen; omega
          have hc4 : (k + 1) * 8 ≤ 140737488355328 := by omega
          clear hall
          go_wp2_with fail
          refine (spec_turnI x15 7 _ _ (by show _ = _; rfl) b15 (by omega) (by omega)).mono ?_
          rintro e w1 ⟨rfl, hw1⟩
          subst hw1
          go_wp2_with fail
          refine (spec_turnI x15 18 _ _ (by show _ = _; rfl) b15 (by omega) (by omega)).mono ?_
          rintro e w1 ⟨rfl, hw1⟩
          subst hw1
          go_wp2_with fail
          refine (spec_turnI x2 17 _ _ (by show _ = _; rfl) b2 (by omega) (by omega)).mono ?_
          rintro e w1 ⟨rfl, hw1⟩
          subst hw1
          go_wp2_with fail
          refine (spec_turnI x2 19 _ _ (by show _ = _; rfl) b2 (by omega) (by omega)).mono ?_
          rintro e w1 ⟨rfl, hw1⟩
          subst hw1
          go_wp2_with fail
          obtain ⟨j16, hj16⟩ : ∃ j, k - 16 = j := ⟨_, rfl⟩
          obtain ⟨j7, hj7⟩ : ∃ j, k - 7 = j := ⟨_, rfl⟩
          have e16 : IntKind.i64.wrap ((k : Int) - 16) = (j16 : Int) := by rw [wraps_i64 _ (by omega) (by omega)]; omega
          have e7 : IntKind.i64.wrap ((k : Int) - 7) = (j7 : Int) := by rw [wraps_i64 _ (by omega) (by omega)]; omega
          have q16 : (j16 : Int) < (k : Int) := by omega
          have q7 : (j7 : Int) < (k : Int) := by omega
          rw [hj16] at c16
          rw [hj7] at c7
          clear hj16 hj7
          clear hs0 hs1 c15 c2
          generalize ssig0 x15 = s0 at *
          generalize ssig1 x2 = s1 at *
          go_region_law (refine step_append_own rfl (.tmp 81) (.tmp 98) 83 rfl w.heap.size 3 i0 (.int .i64 0) 1 8 Tryd.underlying83 hi hz0 hz1 hz2 rfl (by decide) _ _ _ rfl (hO.2.alloc _) ⟨w1.heap.size, 0, none⟩ 1 1 [_] rfl rfl (cell_one_new _ _ _) (one_oneCell _ _) hc3 hc4 (le_alloc _ _ hbw) ?_; intro v2 w2 hown hgrow hnn)
          all_goals
            have hgr2 : (w1.alloc (.cells #[.int .i64 (bits .and .i64 (IntKind.i64.wrap (IntKind.i64.wrap (IntKind.i64.wrap ((x16 : Int) + (s0 : Int)) + (x7 : Int)) + (s1 : Int))) 4294967295)] 3)).drew.grownBy w2 (some g5) := hgrow
            rw [next_val x16 s0 x7 s1 b16 l0 b7 l1, ← HW.out, ← natVals_snoc] at hown
            obtain ⟨g2, cp2, hv, hO2⟩ := ownN_val (zs := ws bs (k + 1)) (ws_length bs (k + 1)) (by simpa using hnn) hown
            subst hv
            have hB2 : Below w.heap.size w w2 := (hB.alloc hbw _).drew.grown hgr2 (le_alloc _ _ hbw) (fun k e => by cases e; exact hO.lt.1)
            have HO2 := Hid.mk' hO2
            clear hown hgrow hgr2 hnn hO2 hO hB e16 e7
            go_wp2_with fail
            go_roundw
            case rel => exact ⟨k + 1, g2, cp2, by omega, by omega, by go_num, rfl, HO2.out, hB2⟩
            case measure => simp [intOf]; omega
        · have HE2 : Hid (k = 64) := by show _ = _; omega
          go_wp2_with fail
          go_ret
          rw [HE2.out] at hO
          exact ⟨g5, cp5, by rw [HE2.out]; rfl, hO, hB⟩

end Go.Proofs.YtmdhkoiimffmlaaDoor.sha
