/- Plain mathematics of the program's way to turn a block: sixteen words that are turned in place. -/
import Derived.Test.YtmdhkoiimffmlaaDoorShaW
namespace Go.Proofs.YtmdhkoiimffmlaaDoor.sha
open Go.RowKit Go.Proofs.YtmdhkoiimffmlaaDoor.base Go.Proofs.YtmdhkoiimffmlaaDoor.padmath
set_option linter.unusedVariables false
set_option linter.unusedSimpArgs false

def cycI (r j : Nat) : Nat := max r 16 - 1 - (max r 16 - 1 - j) % 16
def cyc (bs : List UInt8) (r : Nat) : List Nat := (List.range 16).map fun j => (ws bs 64).getD (cycI r j) 0
theorem cyc_length (bs : List UInt8) (r : Nat) : (cyc bs r).length = 16 := by simp [cyc]
theorem cyc_get (bs : List UInt8) (r j : Nat) (h : j < 16) : (cyc bs r).getD j 0 = (ws bs 64).getD (cycI r j) 0 := by simp [cyc, List.getD, h]
theorem cycI_low (r j : Nat) (h : r ≤ 16) (hj : j < 16) : cycI r j = j := by
  unfold cycI; rw [show max r 16 = 16 by omega]; omega
theorem cycI_high (r j : Nat) (h : 16 ≤ r) : cycI r j = r - 1 - (r - 1 - j) % 16 := by
  unfold cycI; rw [show max r 16 = r by omega]
theorem cyc_low (bs : List UInt8) (r : Nat) (h : r < 16) : cyc bs (r + 1) = cyc bs r := by
  unfold cyc
  apply List.map_congr_left
  intro j hj
  have := List.mem_range.1 hj
  rw [cycI_low _ _ (by omega) this, cycI_low _ _ (by omega) this]
theorem ws_pre (bs : List UInt8) (j k n : Nat) (hj : j < k) (hk : k ≤ n) : (ws bs n).getD j 0 = (ws bs k).getD j 0 := by
  induction n with
  | zero => omega
  | succ n ih =>
    by_cases e : k = n + 1
    · rw [e]
    · rw [← ih (by omega), ws, List.getD_eq_getElem?_getD, List.getElem?_append_left (by rw [ws_length]; omega), ← List.getD_eq_getElem?_getD]
theorem ws_at (bs : List UInt8) (k : Nat) (h : k < 64) : (ws bs 64).getD k 0 = nextWord bs (ws bs k) k := by
  rw [ws_pre bs k (k + 1) 64 (by omega) (by omega), ws, List.getD_eq_getElem?_getD, List.getElem?_append_right (by rw [ws_length]; omega), ws_length, Nat.sub_self]
  rfl
theorem ws_low (bs : List UInt8) (k : Nat) (h : k < 16) : (ws bs 64).getD k 0 = be32 bs k := by
  rw [ws_at bs k (by omega), nextWord, if_pos h]
theorem ws_high (bs : List UInt8) (k : Nat) (h : 16 ≤ k) (h2 : k < 64) : (ws bs 64).getD k 0 =
    ((ws bs 64).getD (k - 16) 0 + ssig0 ((ws bs 64).getD (k - 15) 0) + (ws bs 64).getD (k - 7) 0 + ssig1 ((ws bs 64).getD (k - 2) 0)) % 4294967296 := by
  rw [ws_at bs k h2, nextWord, if_neg (by omega), ws_pre bs (k - 16) k 64 (by omega) (by omega), ws_pre bs (k - 15) k 64 (by omega) (by omega), ws_pre bs (k - 7) k 64 (by omega) (by omega), ws_pre bs (k - 2) k 64 (by omega) (by omega)]
theorem cyc_zero (bs : List UInt8) : cyc bs 0 = (List.range 16).map (be32 bs) := by
  unfold cyc
  apply List.map_congr_left
  intro j hj
  have := List.mem_range.1 hj
  rw [cycI_low _ _ (by omega) this, ws_low _ _ this]
theorem cyc_at (bs : List UInt8) (r : Nat) (h : r < 16) : (cyc bs r).getD (r % 16) 0 = (ws bs 64).getD r 0 := by
  rw [cyc_get _ _ _ (by omega), cycI_low _ _ (by omega) (by omega), Nat.mod_eq_of_lt h]
theorem cyc_set (bs : List UInt8) (r : Nat) (h : 16 ≤ r) : (cyc bs r).set (r % 16) ((ws bs 64).getD r 0) = cyc bs (r + 1) := by
  apply List.ext_getElem
  · simp [cyc]
  · intro j h1 h2
    have hj : j < 16 := by simpa [cyc] using h2
    rw [List.getElem_set]
    simp only [cyc, List.getElem_map, List.getElem_range]
    by_cases e : r % 16 = j
    · rw [if_pos e, cycI_high _ _ (by omega), show r + 1 - 1 - (r + 1 - 1 - j) % 16 = r by omega]
    · rw [if_neg e, cycI_high _ _ h, cycI_high _ _ (by omega), show r - 1 - (r - 1 - j) % 16 = r + 1 - 1 - (r + 1 - 1 - j) % 16 by omega]
theorem cyc_16 (bs : List UInt8) (r : Nat) (h : 16 ≤ r) : (cyc bs r).getD (r % 16) 0 = (ws bs 64).getD (r - 16) 0 := by
  rw [cyc_get _ _ _ (by omega), cycI_high _ _ h, show r - 1 - (r - 1 - r % 16) % 16 = r - 16 by omega]
theorem cyc_7 (bs : List UInt8) (r : Nat) (h : 16 ≤ r) : (cyc bs r).getD ((r + 9) % 16) 0 = (ws bs 64).getD (r - 7) 0 := by
  rw [cyc_get _ _ _ (by omega), cycI_high _ _ h, show r - 1 - (r - 1 - (r + 9) % 16) % 16 = r - 7 by omega]
theorem cyc_15 (bs : List UInt8) (r : Nat) (h : 16 ≤ r) : (cyc bs r).getD ((r + 1) % 16) 0 = (ws bs 64).getD (r - 15) 0 := by
  rw [cyc_get _ _ _ (by omega), cycI_high _ _ h, show r - 1 - (r - 1 - (r + 1) % 16) % 16 = r - 15 by omega]
theorem cyc_2 (bs : List UInt8) (r : Nat) (h : 16 ≤ r) : (cyc bs r).getD ((r + 14) % 16) 0 = (ws bs 64).getD (r - 2) 0 := by
  rw [cyc_get _ _ _ (by omega), cycI_high _ _ h, show r - 1 - (r - 1 - (r + 14) % 16) % 16 = r - 2 by omega]

/-- the table of the rounds' words, at its variable's place -/
def KW (w : World) : Prop := ∀ i, i < 64 → w.cell? ⟨0, i, none⟩ = some (.int .u32 ((K64.getD i 0 : Nat) : Int))
theorem KW.below {w w' : World} (h : KW w) (hb : Below w.heap.size w w') : KW w' := fun i hi =>
  (hb.cell (p := ⟨0, i, none⟩) (World.block_lt_of_cell? w _ (h i hi))).trans (h i hi)
theorem not_nat (e : Nat) (h : e < 4294967296) : 4294967295 ^^^ e = 4294967295 - e := by
  apply Nat.eq_of_testBit_eq
  intro i
  have h1 : (4294967295 - e).testBit i = (decide (i < 32) && !e.testBit i) := by
    have := Nat.testBit_two_pow_sub_succ (n := 32) (x := e) h i
    rw [show 2 ^ 32 - (e + 1) = 4294967295 - e by omega] at this
    exact this
  have h2 : (4294967295 : Nat).testBit i = decide (i < 32) := Nat.testBit_two_pow_sub_one (n := 32) (i := i)
  rw [Nat.testBit_xor, h1, h2]
  by_cases hi : i < 32
  · simp [hi]
  · have : e.testBit i = false := Nat.testBit_lt_two_pow (Nat.lt_of_lt_of_le h (Nat.pow_le_pow_right (n := 2) (by omega) (show 32 ≤ i by omega)))
    simp [hi, this]

end Go.Proofs.YtmdhkoiimffmlaaDoor.sha
