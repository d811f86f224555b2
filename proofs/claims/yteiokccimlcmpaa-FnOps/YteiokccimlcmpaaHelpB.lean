/- The laws' own comparison of bytes, where they are alike. -/
import Derived.Test.YteiokccimlcmpaaHelp
namespace Go.Proofs.Yteiokccimlcmpaa.base
open Go Go.RowKit
set_option linter.unusedVariables false
set_option linter.unusedSimpArgs false

set_option maxRecDepth 100000 in
set_option maxHeartbeats 1000000 in
theorem sameBytes (a a2 : Option Addr) (len cap cap2 : Nat) (bs : List UInt8) (w : World) (h : Sl w a len bs) (h2 : Sl w a2 len bs) :
    Calls Try.prog 21 #[.slice a len cap, .slice a2 len cap2] w fun e w' => e = .returned (.bool true) ∧ ∃ n, w' = w.drewN n := by
  obtain ⟨hl, hm, hc⟩ := h
  obtain ⟨hl2, hm2, hc2⟩ := h2
  subst hl
  unfold maxLen at hm
  clear hl2 hm2
  go_enter Try.func21, Try.ntmps21
  go_wp2_with fail
  go_loopw [5] (fun i wr => ∃ k : Nat, k ≤ bs.length ∧ i = .int .i64 k ∧ ∃ n, wr = w.drewN n) (fun i _ => bs.length - (intOf i).toNat)
  case atStart => exact ⟨0, Nat.zero_le _, rfl, 0, rfl⟩
  case round =>
    obtain ⟨k, hk, rfl, n, rfl⟩ := hrel
    by_cases hlt : k < bs.length
    · obtain ⟨b, off, ha, hcl⟩ := hc (by omega)
      obtain ⟨b2, off2, ha2, hcl2⟩ := hc2 (by omega)
      subst ha ha2
      have hi1 : (k : Int) < (bs.length : Int) := by omega
      have c1 : w.cell? ⟨b, off + k, none⟩ = some (.int .u8 bs[k].toNat) := hcl k hlt
      have c2 : w.cell? ⟨b2, off2 + k, none⟩ = some (.int .u8 bs[k].toNat) := hcl2 k hlt
      clear hcl hcl2 hc hc2
      go_wp2_with fail
      go_quiet (fail)
      go_wp2_with fail
      go_roundw
      case rel => exact ⟨k + 1, by omega, by go_num, _, rfl⟩
      case measure => simp [intOf]; omega
    · go_wp2_with fail
      go_ret
      exact ⟨rfl, n, rfl⟩
end Go.Proofs.Yteiokccimlcmpaa.base
