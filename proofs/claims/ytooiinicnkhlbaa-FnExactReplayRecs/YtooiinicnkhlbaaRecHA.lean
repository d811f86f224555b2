/- The laws' helpers for one record: its size, alike, marked, held. -/
import Derived.Test.YtooiinicnkhlbaaRecS
import Derived.Test.YtooiinicnkhlbaaHelpN
namespace Go.Proofs.Ytooiinicnkhlbaa.recs
open Go Go.RowKit Go.Proofs.Ytooiinicnkhlbaa.base Go.Proofs.Ytooiinicnkhlbaa.pairs Go.Proofs.Ytooiinicnkhlbaa.ords Go.Proofs.Ytooiinicnkhlbaa.helps
set_option linter.unusedVariables false
set_option linter.unusedSimpArgs false

set_option maxRecDepth 100000 in
set_option maxHeartbeats 1000000 in
theorem szRec (kind tx : Int) (a : Option Addr) (len cap : Nat) (l : List Od) (L : Nat) (w : World) (h : SlO w a len l) (hL : L ≤ 1099511627776) :
    Calls Try.prog 12 #[.agg #[.int .i64 kind, .int .i64 tx, .slice a len cap], .int .i64 (L : Int)] w fun e w' => e = .returned (.int .i64 (pairs.szR L (l.length + sumO l))) ∧ Below w.heap.size w w' := by
  have hba : Below w.heap.size w (w.alloc (.cells #[.int .i64 kind, .int .i64 tx, .slice a len cap] 36)) := (Below.refl _ _).alloc (Nat.le_refl _) _
  have HS := Hid.mk' (szOpS a len cap l L _ (h.below hba) hL)
  by_cases hc : l.length + sumO l ≤ L
  · rw [pairs.szR_pos hc] at HS ⊢
    have hn : ¬ (L : Int) - ((l.length + sumO l : Nat) : Int) < 0 := by omega
    generalize (L : Int) - ((l.length + sumO l : Nat) : Int) = S at *
    go_enter Try.func12, Try.ntmps12
    go_wp2_with fail
    refine HS.out.mono ?_
    rintro e w1 ⟨rfl, hb1⟩
    go_wp2_with fail
    go_ret
    exact ⟨rfl, hba.trans (hb1.mono hba.size)⟩
  · rw [pairs.szR_neg (by omega)] at HS ⊢
    go_enter Try.func12, Try.ntmps12
    go_wp2_with fail
    refine HS.out.mono ?_
    rintro e w1 ⟨rfl, hb1⟩
    go_wp2_with fail
    go_ret
    exact ⟨rfl, hba.trans (hb1.mono hba.size)⟩

set_option maxRecDepth 100000 in
set_option maxHeartbeats 1000000 in
theorem eqRecT (kind tx : Int) (pa qa : Option Addr) (pl pc ql qc : Nat) (l : List Od) (w : World) (hx : SlO w pa pl l) (hy : SlO w qa ql l) :
    Calls Try.prog 16 #[.agg #[.int .i64 kind, .int .i64 tx, .slice pa pl pc], .agg #[.int .i64 kind, .int .i64 tx, .slice qa ql qc]] w fun e w' => e = .returned (.bool true) ∧ Below w.heap.size w w' := by
  obtain ⟨W, hW⟩ : ∃ W, (w.alloc (.cells #[.int .i64 kind, .int .i64 tx, .slice pa pl pc] 32)).alloc (.cells #[.int .i64 kind, .int .i64 tx, .slice qa ql qc] 32) = W := ⟨_, rfl⟩
  have hB : Below w.heap.size w W := by rw [← hW]; exact ((Below.refl _ _).alloc (Nat.le_refl _) _).alloc (by simp) _
  have HE := Hid.mk' (eqO pa qa pl pc ql qc l l W (hx.below hB) (hy.below hB) rfl)
  have HW := Hid.mk' hW
  clear hW
  have hn : (kind == kind) = true := by simp
  have hf : (tx == tx) = true := by simp
  go_enter Try.func16, Try.ntmps16
  go_wp2_with fail
  rw [HW.out]
  refine HE.out.mono ?_
  rintro e w1 ⟨rfl, hb1⟩
  have hB1 := hB.trans (hb1.mono hB.size)
  clear HE HW hb1
  go_wp2_with fail
  go_ret
  exact ⟨rfl, hB1⟩

set_option maxRecDepth 100000 in
set_option maxHeartbeats 1000000 in
theorem markNil (K : Int) (w : World) :
    Calls Try.prog 45 #[.slice none 0 0, .int .i64 K] w fun e w' => e = .returned (.int .i64 K) ∧ w' = w := by
  go_enter Try.func45, Try.ntmps45
  go_wp2_with fail
  refine wp_loop_rounds 1 ?_
  rw [rounds_succ]
  go_wp2_with fail
  go_ret
  exact ⟨rfl, rfl⟩
/-- orders of the call's own, or nil, marked -/
theorem markV (v : Value) (base k0 : Nat) (l : List Od) (w : World) (h : OwnV w base v l) (hk1 : 1 ≤ k0) (hk0 : k0 + 3 * l.length ≤ 1099511627776) (K : Int) (hK : Hid (K = (k0 : Int))) :
    Calls Try.prog 45 #[v, .int .i64 K] w fun e w' => e = .returned (.int .i64 ((k0 + 3 * l.length : Nat) : Int)) ∧ OwnV w' base v (marksO k0 l.length) ∧ w.grownBy w' v.ownBlock := by
  have e := hK.out
  subst e
  rcases h.shape with ⟨rfl, rfl⟩ | ⟨g, cap, rfl, hO⟩
  · refine (markNil (k0 : Int) w).mono ?_
    rintro e w' ⟨rfl, rfl⟩
    exact ⟨by simp, by simpa [marksO] using ownV_nil _ _, rfl, rfl, rfl, Nat.le_refl _, fun _ _ _ => rfl⟩
  · refine (markOpS g l.length cap k0 base l w hO hk1 hk0).mono ?_
    rintro e w' ⟨rfl, hO', hg⟩
    have := ownV_of hO'
    exact ⟨rfl, this, hg⟩
end Go.Proofs.Ytooiinicnkhlbaa.recs
