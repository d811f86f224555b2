/- The specification's HexOf and UnHex. -/
import Derived.Test.YtmdhkoiimffmlaaDoorHexMath
namespace Go.Proofs.YtmdhkoiimffmlaaDoor.hexmath
open Go.RowKit Go.Proofs.YtmdhkoiimffmlaaDoor.base
set_option linter.unusedVariables false
set_option linter.unusedSimpArgs false

theorem hexIndex (q : Nat) (h : q < 16) (w : World) : (Instr.index 9 (.string ⟨#[48, 49, 50, 51, 52, 53, 54, 55, 56, 57, 97, 98, 99, 100, 101, 102]⟩) (.int .u8 (q : Int))).run Tryd.prog w = .ok (.int .u8 (hexd q : Int)) w := by
  have hcs : q = 0 ∨ q = 1 ∨ q = 2 ∨ q = 3 ∨ q = 4 ∨ q = 5 ∨ q = 6 ∨ q = 7 ∨ q = 8 ∨ q = 9 ∨ q = 10 ∨ q = 11 ∨ q = 12 ∨ q = 13 ∨ q = 14 ∨ q = 15 := by omega
  rcases hcs with rfl | rfl | rfl | rfl | rfl | rfl | rfl | rfl | rfl | rfl | rfl | rfl | rfl | rfl | rfl | rfl
  all_goals (show _ = _; kernel_rfl)
theorem hexParts (c : Nat) (h : c < 256) : ∃ q r : Nat, q < 16 ∧ r < 16 ∧ (c : Int) / 16 = (q : Int) ∧ bits .and .u8 (c : Int) 15 = (r : Int) ∧ q = c / 16 ∧ r = c % 16 :=
  ⟨c / 16, c % 16, by omega, by omega, by omega, (u8_and15 (x := (c : Int)) (by omega) (by omega)).trans (by omega), rfl, rfl⟩
theorem two_val {x y : Int} {u v : UInt8} (h : x = (u.toNat : Int)) (h2 : y = (v.toNat : Int)) : [Value.int .u8 x, Value.int .u8 y] = byteVals [u, v] := by rw [h, h2]; rfl


set_option maxHeartbeats 400000 in
theorem l1In_ (x a b : Int) (w : World) (hx : -1000 ≤ x ∧ x ≤ 1000) (ha : 0 ≤ a ∧ a ≤ 1000) (hb : 0 ≤ b ∧ b ≤ 1000) :
    Calls Tryd.prog 61 #[.int .i64 x, .int .i64 a, .int .i64 b] w fun e w' => e = .returned (.bool (decide (a ≤ x ∧ x ≤ b))) ∧ w' = w := by
  by_cases h1 : a ≤ x
  · by_cases h2 : x ≤ b
    · go_enter Tryd.func61, Tryd.ntmps61
      go_wp2
      go_ret
      exact ⟨ret_bool (by simp [h1, h2]), rfl⟩
    · go_enter Tryd.func61, Tryd.ntmps61
      go_wp2
      go_ret
      exact ⟨ret_bool (by simp [h1, h2]), rfl⟩
  · go_enter Tryd.func61, Tryd.ntmps61
    go_wp2
    go_ret
    exact ⟨ret_bool (by have h3 : ¬ a ≤ x := by omega
                        simp [h3]), rfl⟩


def unRet : Option (List UInt8) → Value
  | none => .tuple #[.string ⟨#[]⟩, .bool false]
  | some l => .tuple #[.string ⟨l.toArray⟩, .bool true]
theorem unHex_step (l : List UInt8) (p : Nat) (acc : List UInt8) (h : p + 1 < l.length) : unHex (l.drop p) acc =
    if digit l[p].toNat < 0 ∨ digit l[p + 1].toNat < 0 then none else unHex (l.drop (p + 2)) (acc ++ [UInt8.ofNat (digit l[p].toNat * 16 + digit l[p + 1].toNat).toNat]) := by
  rw [List.drop_eq_getElem_cons (by omega : p < l.length), List.drop_eq_getElem_cons h, unHex]
theorem unHex_end (l : List UInt8) (p : Nat) (acc : List UInt8) (h : p = l.length) : unHex (l.drop p) acc = some acc := by
  rw [List.drop_eq_nil_of_le (by omega), unHex]
theorem unHex_one (l : List UInt8) (p : Nat) (acc : List UInt8) (h : p + 1 = l.length) : unHex (l.drop p) acc = none := by
  rw [List.drop_eq_getElem_cons (by omega : p < l.length), List.drop_eq_nil_of_le (by omega), unHex]
theorem ret_two {a b : ByteArray} {c d : Bool} (h : a = b) (h2 : c = d) : Ending.returned (.tuple #[.string a, .bool c]) = .returned (.tuple #[.string b, .bool d]) := by rw [h, h2]


end Go.Proofs.YtmdhkoiimffmlaaDoor.hexmath
