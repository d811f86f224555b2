/- What the laws on orders draw. -/
import Derived.Test.YteiokccimlcmpaaDrawX
namespace Go.Proofs.Yteiokccimlcmpaa.ords
open Go Go.RowKit Go.Proofs.Yteiokccimlcmpaa.base Go.Proofs.Yteiokccimlcmpaa.pairs Go.Proofs.Yteiokccimlcmpaa.draw
set_option linter.unusedVariables false
set_option linter.unusedSimpArgs false

def GotBoth (w : World) (e : Ending) (w' : World) : Prop :=
  ∃ (g n cp : Nat) (m : List Pr) (g2 n2 cp2 : Nat) (l : List Od), n ≤ 8 ∧ n2 ≤ 4 ∧ pairsOk m = true ∧ opsOk l = true ∧ e = .returned (.tuple #[.slice (some ⟨g, 0, none⟩) n cp, .slice (some ⟨g2, 0, none⟩) n2 cp2]) ∧ OwnP w' w.heap.size g n cp m ∧ OwnO w' w.heap.size g2 n2 cp2 l ∧ Below w.heap.size w w'
set_option maxRecDepth 100000 in
set_option maxHeartbeats 2000000 in
theorem drawOps (a : Option Addr) (len cap : Nat) (code : List UInt8) (w : World) (h : Sl w a len code) (hln : len ≤ 1099511627776) :
    Calls Try.prog 25 #[.slice a len cap] w fun e w' => GotBoth w e w' := by
  go_enter Try.func25, Try.ntmps25
  go_wp2_with fail
  refine (new_ w w a len cap code h (Below.refl _ _) hln).mono ?_
  rintro e w1 ⟨rfl, hC1, hB1⟩
  go_wp2_with fail
  refine (d_pairsG w _ _ a len cap code hC1).mono ?_
  rintro e w2 ⟨g, n, cp, m, hn, hgd, rfl, hO2, hC2, hG2⟩
  have hgg := hO2.lt
  have hlt1 := hC1.lt
  go_wp2_with fail
  refine (d_ops w _ _ a len cap code hC2).mono ?_
  rintro e w3 ⟨g3, n3, cp3, l, hn3, hok, rfl, hO3, hC3, hG3⟩
  have hOp := (hO2.grown hG3 (by simp; omega)).mono (base' := w.heap.size) (by have := hC1.bel.size; omega)
  have hOo := hO3.mono (base' := w.heap.size) hC2.bel.size
  go_wp2_with fail
  go_ret2
  exact ⟨g, n, cp, m, g3, n3, cp3, l, hn, hn3, hgd.1, hok, rfl, hOp, hOo, hC3.bel⟩

def GotKeyN (w : World) (e : Ending) (w' : World) : Prop :=
  ∃ (key : ByteArray) (n : Int), key.size ≤ 13 ∧ (-1 ≤ n ∧ n ≤ 8) ∧ e = .returned (.tuple #[.string key, .int .i64 n]) ∧ Below w.heap.size w w'
set_option maxRecDepth 100000 in
set_option maxHeartbeats 2000000 in
theorem drawShardOf (a : Option Addr) (len cap : Nat) (code : List UInt8) (w : World) (h : Sl w a len code) (hln : len ≤ 1099511627776) :
    Calls Try.prog 37 #[.slice a len cap] w fun e w' => GotKeyN w e w' := by
  go_enter Try.func37, Try.ntmps37
  go_wp2_with fail
  refine (new_ w w a len cap code h (Below.refl _ _) hln).mono ?_
  rintro e w1 ⟨rfl, hC1, hB1⟩
  go_wp2_with fail
  refine (d_keyAny w _ _ a len cap code hC1).mono ?_
  rintro e w2 ⟨key, hkey, rfl, hC2, hG2⟩
  have hlt2 := hC2.lt
  go_wp2_with fail
  refine (int_ w _ _ a len cap code w2.heap.size 6 6 _ _ (hC2.below ((Below.refl _ _).alloc (Nat.le_refl _) _)) (heap_alloc_new w2 _) rfl (by omega) (by omega) (by omega) (fun z => decide (-1 ≤ z ∧ z ≤ 8) = true) (some_atI _ 6 (fun z => decide (-1 ≤ z ∧ z ≤ 8)) (by kernel_rfl))).mono ?_
  rintro e w3 ⟨n, hn, rfl, hC3, hG3⟩
  go_wp2_with fail
  go_ret2
  exact ⟨key, n, hkey, of_decide_eq_true hn, rfl, hC3.bel⟩
end Go.Proofs.Yteiokccimlcmpaa.ords
