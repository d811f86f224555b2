/- The program's halves and sides. -/
import Derived.Test.YtmdhkoiimffmlaaDoorTreeY
import Derived.Test.YtmdhkoiimffmlaaDoorRowB
import Derived.Test.YtmdhkoiimffmlaaDoorPairRow
import Derived.Test.YtmdhkoiimffmlaaDoorPutText
import Derived.Deep.RegionHeld3
namespace Go.Proofs.YtmdhkoiimffmlaaDoor.tree
open Go Go.RowKit Go.Proofs.YtmdhkoiimffmlaaDoor.base Go.Proofs.YtmdhkoiimffmlaaDoor.pairs Go.Proofs.YtmdhkoiimffmlaaDoor.puttext Go.Proofs.YtmdhkoiimffmlaaDoor.putnum
set_option linter.unusedVariables false
set_option linter.unusedSimpArgs false

/-- how many bits a number from 1 to 63 has -/
def bl (x : Nat) : Nat := if x < 2 then 1 else if x < 4 then 2 else if x < 8 then 3 else if x < 16 then 4 else if x < 32 then 5 else 6
theorem bl_le (q : Nat) : bl q ≤ 6 := by
  unfold bl
  repeat' split
  all_goals omega
theorem bytes_at (l : List UInt8) (q : Nat) (h : q < (⟨l.toArray⟩ : ByteArray).size) : (⟨l.toArray⟩ : ByteArray)[q]'h = l.getD q 0 := by
  have hq : q < l.length := by have : (⟨l.toArray⟩ : ByteArray).size = l.length := by show l.toArray.size = _; simp
                               omega
  show l.toArray[q]'(by simpa using hq) = _
  simp [List.getD, hq]
theorem blAll (l : List UInt8) (hl : ((List.range 64).all fun q => q == 0 || (l.getD q 0).toNat == bl q) = true) (q : Nat) (h1 : 1 ≤ q) (h2 : q < 64) (h : q < (⟨l.toArray⟩ : ByteArray).size) : wrap64 (wrap64 (((⟨l.toArray⟩ : ByteArray)[q]'h).toNat : Int)) = (bl q : Int) := by
  have hx := List.all_eq_true.1 hl q (List.mem_range.2 h2)
  have hb := bl_le q
  have hx2 : (l.getD q 0).toNat = bl q := by
    rcases Bool.or_eq_true _ _ ▸ hx with h3 | h3
    · have := eq_of_beq h3; omega
    · exact eq_of_beq h3
  rw [bytes_at, hx2, IntWalk.wrap64_in (bl q : Int) (by omega), IntWalk.wrap64_in (bl q : Int) (by omega)]
theorem blTab (q : Nat) (h1 : 1 ≤ q) (h2 : q < 64) (h : q < (⟨#[0, 1, 2, 2, 3, 3, 3, 3, 4, 4, 4, 4, 4, 4, 4, 4, 5, 5, 5, 5, 5, 5, 5, 5, 5, 5, 5, 5, 5, 5, 5, 5, 6, 6, 6, 6, 6, 6, 6, 6, 6, 6, 6, 6, 6, 6, 6, 6, 6, 6, 6, 6, 6, 6, 6, 6, 6, 6, 6, 6, 6, 6, 6, 6, 7, 7, 7, 7, 7, 7, 7, 7, 7, 7, 7, 7, 7, 7, 7, 7, 7, 7, 7, 7, 7, 7, 7, 7, 7, 7, 7, 7, 7, 7, 7, 7, 7, 7, 7, 7, 7, 7, 7, 7, 7, 7, 7, 7, 7, 7, 7, 7, 7, 7, 7, 7, 7, 7, 7, 7, 7, 7, 7, 7, 7, 7, 7, 7, 8, 8, 8, 8, 8, 8, 8, 8, 8, 8, 8, 8, 8, 8, 8, 8, 8, 8, 8, 8, 8, 8, 8, 8, 8, 8, 8, 8, 8, 8, 8, 8, 8, 8, 8, 8, 8, 8, 8, 8, 8, 8, 8, 8, 8, 8, 8, 8, 8, 8, 8, 8, 8, 8, 8, 8, 8, 8, 8, 8, 8, 8, 8, 8, 8, 8, 8, 8, 8, 8, 8, 8, 8, 8, 8, 8, 8, 8, 8, 8, 8, 8, 8, 8, 8, 8, 8, 8, 8, 8, 8, 8, 8, 8, 8, 8, 8, 8, 8, 8, 8, 8, 8, 8, 8, 8, 8, 8, 8, 8, 8, 8, 8, 8, 8, 8, 8, 8, 8, 8, 8, 8, 8, 8, 8, 8, 8, 8]⟩ : ByteArray).size) : wrap64 (wrap64 (((⟨#[0, 1, 2, 2, 3, 3, 3, 3, 4, 4, 4, 4, 4, 4, 4, 4, 5, 5, 5, 5, 5, 5, 5, 5, 5, 5, 5, 5, 5, 5, 5, 5, 6, 6, 6, 6, 6, 6, 6, 6, 6, 6, 6, 6, 6, 6, 6, 6, 6, 6, 6, 6, 6, 6, 6, 6, 6, 6, 6, 6, 6, 6, 6, 6, 7, 7, 7, 7, 7, 7, 7, 7, 7, 7, 7, 7, 7, 7, 7, 7, 7, 7, 7, 7, 7, 7, 7, 7, 7, 7, 7, 7, 7, 7, 7, 7, 7, 7, 7, 7, 7, 7, 7, 7, 7, 7, 7, 7, 7, 7, 7, 7, 7, 7, 7, 7, 7, 7, 7, 7, 7, 7, 7, 7, 7, 7, 7, 7, 8, 8, 8, 8, 8, 8, 8, 8, 8, 8, 8, 8, 8, 8, 8, 8, 8, 8, 8, 8, 8, 8, 8, 8, 8, 8, 8, 8, 8, 8, 8, 8, 8, 8, 8, 8, 8, 8, 8, 8, 8, 8, 8, 8, 8, 8, 8, 8, 8, 8, 8, 8, 8, 8, 8, 8, 8, 8, 8, 8, 8, 8, 8, 8, 8, 8, 8, 8, 8, 8, 8, 8, 8, 8, 8, 8, 8, 8, 8, 8, 8, 8, 8, 8, 8, 8, 8, 8, 8, 8, 8, 8, 8, 8, 8, 8, 8, 8, 8, 8, 8, 8, 8, 8, 8, 8, 8, 8, 8, 8, 8, 8, 8, 8, 8, 8, 8, 8, 8, 8, 8, 8, 8, 8, 8, 8, 8, 8]⟩ : ByteArray)[q]'h).toNat : Int)) = (bl q : Int) :=
  blAll _ (by kernel_rfl) q h1 h2 h

set_option maxRecDepth 100000 in
set_option maxHeartbeats 1000000 in
theorem len64 (y : Int) (w : World) (h1 : 1 ≤ y) (h2 : y < 64) :
    Calls Tryd.prog 96 #[.int .u64 y] w fun e w' => e = .returned (.int .i64 (bl y.toNat : Int)) ∧ w' = w := by
  go_enter Tryd.func96, Tryd.ntmps96
  go_wp2_with fail
  go_ret
  exact ⟨ret_int (blTab _ (by omega) (by omega) _), rfl⟩

set_option maxHeartbeats 1000000 in
theorem bitsLen (y : Int) (w : World) (h1 : 1 ≤ y) (h2 : y < 64) :
    Calls Tryd.prog 91 #[.int .u64 y] w fun e w' => e = .returned (.int .i64 (bl y.toNat : Int)) ∧ w' = w := by
  have HL := Hid.mk' (len64 y w h1 h2)
  go_enter Tryd.func91, Tryd.ntmps91
  go_wp2_with fail
  refine HL.out.mono ?_
  rintro e w1 ⟨rfl, hw1⟩
  subst hw1
  go_wp2_with fail
  go_ret
  exact ⟨rfl, rfl⟩

set_option maxHeartbeats 2000000 in
theorem impl_half (n : Nat) (w : World) (h : 2 ≤ n) (h64 : n ≤ 64) :
    Calls Tryd.prog 78 #[.int .i64 (n : Int)] w fun e w' => e = .returned (.int .i64 (half n : Int)) ∧ w' = w := by
  have hL := bitsLen ((n : Int) - 1) w (by omega) (by omega)
  have hb : ∃ k : Nat, bl ((n : Int) - 1).toNat = k ∧ (k = 1 ∧ half n = 1 ∨ k = 2 ∧ half n = 2 ∨ k = 3 ∧ half n = 4 ∨ k = 4 ∧ half n = 8 ∨ k = 5 ∧ half n = 16 ∨ k = 6 ∧ half n = 32) := by
    refine ⟨_, rfl, ?_⟩
    unfold bl half
    repeat' split
    all_goals omega
  obtain ⟨k, hk, hb⟩ := hb
  rw [hk] at hL
  have e1 : IntKind.u64.wrap ((n : Int) - 1) = (n : Int) - 1 := by rw [IntKind.wrap_u64]; omega
  have HL := Hid.mk' hL
  clear hL hk
  rcases hb with ⟨rfl, hh⟩ | ⟨rfl, hh⟩ | ⟨rfl, hh⟩ | ⟨rfl, hh⟩ | ⟨rfl, hh⟩ | ⟨rfl, hh⟩
  all_goals
    rw [hh]
    clear hh
    go_enter Tryd.func78, Tryd.ntmps78
    go_wp2_with fail
    refine HL.out.mono ?_
    rintro e w1 ⟨rfl, hw1⟩
    subst hw1
    go_wp2_with fail
    go_ret
    exact ⟨rfl, rfl⟩
end Go.Proofs.YtmdhkoiimffmlaaDoor.tree
