/- What the laws on orders draw: any orders, alone, with pairs, with shards; bytes of orders, bent. -/
import Derived.Test.YteiokccimlcmpaaDrawZ
import Derived.Test.YteiokccimlcmpaaOrdW
namespace Go.Proofs.Yteiokccimlcmpaa.ords
open Go Go.RowKit Go.Proofs.Yteiokccimlcmpaa.base Go.Proofs.Yteiokccimlcmpaa.pairs Go.Proofs.Yteiokccimlcmpaa.draw
set_option linter.unusedVariables false
set_option linter.unusedSimpArgs false

def GotL (w : World) (e : Ending) (w' : World) : Prop :=
  ∃ (g n cp : Nat) (l : List Od), n ≤ 5 ∧ (∀ p ∈ l, tinyO p) ∧ e = .returned (.slice (some ⟨g, 0, none⟩) n cp) ∧ OwnO w' w.heap.size g n cp l ∧ Below w.heap.size w w'
set_option maxRecDepth 100000 in
set_option maxHeartbeats 1000000 in
theorem drawPutOps (a : Option Addr) (len cap : Nat) (code : List UInt8) (w : World) (h : Sl w a len code) (hln : len ≤ 1099511627776) :
    Calls Try.prog 16 #[.slice a len cap] w fun e w' => GotL w e w' := by
  go_enter Try.func16, Try.ntmps16
  go_wp2_with fail
  refine (new_ w w a len cap code h (Below.refl _ _) hln).mono ?_
  rintro e w1 ⟨rfl, hC1, hB1⟩
  go_wp2_with fail
  refine (d_anyO w _ _ a len cap code hC1).mono ?_
  rintro e w2 ⟨g, n, cp, l, hn, ht, rfl, hO2, hC2, hG2⟩
  have HT := Hid.mk' ht
  clear ht
  go_wp2_with fail
  go_ret
  exact ⟨g, n, cp, l, hn, HT.out, rfl, hO2.mono hB1.size, hC2.bel⟩
def GotLN (w : World) (e : Ending) (w' : World) : Prop :=
  ∃ (g n cp : Nat) (l : List Od) (k : Int), n ≤ 5 ∧ (∀ p ∈ l, tinyO p) ∧ (-1 ≤ k ∧ k ≤ 8) ∧ e = .returned (.tuple #[.slice (some ⟨g, 0, none⟩) n cp, .int .i64 k]) ∧ OwnO w' w.heap.size g n cp l ∧ Below w.heap.size w w'
set_option maxRecDepth 100000 in
set_option maxHeartbeats 1000000 in
theorem drawShardsOf (a : Option Addr) (len cap : Nat) (code : List UInt8) (w : World) (h : Sl w a len code) (hln : len ≤ 1099511627776) :
    Calls Try.prog 34 #[.slice a len cap] w fun e w' => GotLN w e w' := by
  go_enter Try.func34, Try.ntmps34
  go_wp2_with fail
  refine (new_ w w a len cap code h (Below.refl _ _) hln).mono ?_
  rintro e w1 ⟨rfl, hC1, hB1⟩
  go_wp2_with fail
  refine (d_anyO w _ _ a len cap code hC1).mono ?_
  rintro e w2 ⟨g, n, cp, l, hn, ht, rfl, hO2, hC2, hG2⟩
  have HT := Hid.mk' ht
  clear ht
  have hlt2 := hC2.lt
  have hlt1 := hC1.lt
  have hgg := hO2.lt
  go_wp2_with fail
  refine (int_ w _ _ a len cap code w2.heap.size 6 6 _ _ (hC2.below ((Below.refl _ _).alloc (Nat.le_refl _) _)) (heap_alloc_new w2 _) rfl (by omega) (by omega) (by omega) (fun z => decide (-1 ≤ z ∧ z ≤ 8) = true) (some_atI _ 6 (fun z => decide (-1 ≤ z ∧ z ≤ 8)) (by kernel_rfl))).mono ?_
  rintro e w3 ⟨k, hk, rfl, hC3, hG3⟩
  have hO3 := ((hO2.below ((Below.refl _ _).alloc (Nat.le_refl _) _)).grown hG3 (by simp; omega)).mono (base' := w.heap.size) hB1.size
  go_wp2_with fail
  go_ret2
  exact ⟨g, n, cp, l, k, hn, HT.out, of_decide_eq_true hk, rfl, hO3, hC3.bel⟩
def GotML (w : World) (e : Ending) (w' : World) : Prop :=
  ∃ (g n cp : Nat) (m : List Pr) (g2 n2 cp2 : Nat) (l : List Od), n ≤ 9 ∧ n2 ≤ 5 ∧ (∀ p ∈ m, tiny p) ∧ (∀ p ∈ l, tinyO p) ∧ e = .returned (.tuple #[.slice (some ⟨g, 0, none⟩) n cp, .slice (some ⟨g2, 0, none⟩) n2 cp2]) ∧ OwnP w' w.heap.size g n cp m ∧ OwnO w' w.heap.size g2 n2 cp2 l ∧ Below w.heap.size w w'
theorem getKey_tiny {m : List Pr} (h : ∀ p ∈ m, tiny p) {k v : ByteArray} (hg : getKey k m = some v) : v.size ≤ 21 := by
  exact (h _ (getKey_some_mem hg)).2
set_option maxRecDepth 100000 in
set_option maxHeartbeats 2000000 in
theorem drawMeets (a : Option Addr) (len cap : Nat) (code : List UInt8) (w : World) (h : Sl w a len code) (hln : len ≤ 1099511627776) :
    Calls Try.prog 31 #[.slice a len cap] w fun e w' => GotML w e w' := by
  go_enter Try.func31, Try.ntmps31
  go_wp2_with fail
  refine (new_ w w a len cap code h (Below.refl _ _) hln).mono ?_
  rintro e w1 ⟨rfl, hC1, hB1⟩
  go_wp2_with fail
  refine (d_any w _ _ a len cap code hC1).mono ?_
  rintro e w2 ⟨g, n, cp, m, hn, htm, rfl, hO2, hC2, hG2⟩
  have HTM := Hid.mk' htm
  clear htm
  go_wp2_with fail
  refine (d_anyO w _ _ a len cap code hC2).mono ?_
  rintro e w3 ⟨g2, n2, cp2, l, hn2, ht, rfl, hO3, hC3, hG3⟩
  have hlt1 := hC1.lt
  have hlt2 := hC2.lt
  have hgg := hO2.lt
  have hgg3 := hO3.lt
  have hb1s := hB1.size
  have hPm := (hO2.grown hG3 (by simp; omega))
  have hOl := hO3.mono (base' := w.heap.size + 1) (by omega)
  have hgne : g2 ≠ g := by omega
  have hgne2 : g2 ≠ w.heap.size := by omega
  have hgne3 : g ≠ w.heap.size := by omega
  have HT := Hid.mk' ht
  clear ht hO2 hO3 hG2 hG3 hC1 hC2
  go_wp2_with fail
  go_loopw [7] (fun i wr => ∃ (k : Nat) (l' : List Od), k ≤ n2 ∧ i = .int .i64 (k : Int) ∧ Hid (∀ p ∈ l', tinyO p) ∧ OwnP wr w1.heap.size g n cp m ∧ OwnO wr (w.heap.size + 1) g2 n2 cp2 l' ∧ Cur w wr w.heap.size a len cap code) (fun i _ => n2 - (intOf i).toNat)
  case atStart => exact ⟨0, l, Nat.zero_le _, rfl, HT, hPm, hOl, hC3⟩
  case round =>
    clear hPm hOl hC3 HT
    obtain ⟨k, l', hk, rfl, HT, hP, hO, hC⟩ := hrel
    have hl' := hO.1
    by_cases hlt : k < n2
    · have hki : (k : Int) < (n2 : Int) := by omega
      go_wp2_with fail
      refine (d_once w _ _ a len cap code 2 hC (by omega) (by omega)).mono ?_
      rintro e w4 ⟨t, rfl, hC4, hG4⟩
      have hP4 := hP.grown hG4 (by simp; omega)
      have hO4 := hO.grown hG4 (by simp; omega)
      clear hP hO hC hG4
      cases t
      · go_wp2_with fail
        go_roundw
        case rel => exact ⟨k + 1, l', by omega, by go_num, HT, hP4, hO4, hC4⟩
        case measure => simp [intOf]; omega
      · have hlk : k < l'.length := by omega
        have d0 := hO4.kind k hlk
        have d1 := hO4.key k hlk
        have d2 := hO4.val k hlk
        have f0 := hO4.frozen (k * 3)
        have f1 := hO4.frozen (k * 3 + 1)
        have f2 := hO4.frozen (k * 3 + 2)
        have htk := HT.out _ (List.getElem_mem hlk)
        have HGK := Hid.mk' (spec_getKey (some ⟨g, 0, none⟩) n cp m l'[k].2.1 w4 hP4.sl)
        have hgw : ∀ v : ByteArray, v.size ≤ 21 → Hid (OwnO (((w4.setCell ⟨g2, k * 3, none⟩ (.int .i64 3)).setCell ⟨g2, k * 3 + 1, none⟩ (.string l'[k].2.1)).setCell ⟨g2, k * 3 + 2, none⟩ (.string v)) (w.heap.size + 1) g2 n2 cp2 (l'.set k (3, l'[k].2.1, v)) ∧ w4.grownBy (((w4.setCell ⟨g2, k * 3, none⟩ (.int .i64 3)).setCell ⟨g2, k * 3 + 1, none⟩ (.string l'[k].2.1)).setCell ⟨g2, k * 3 + 2, none⟩ (.string v)) (some g2) ∧ ∀ p ∈ l'.set k (3, l'[k].2.1, v), tinyO p) := by
          intro v hv
          obtain ⟨r1, r2⟩ := hO4.setAll k hlk 3 l'[k].2.1 v (by rfl) (by have := htk.2.2.1; unfold maxLen; omega) (by unfold maxLen; omega)
          exact ⟨r1, r2, tiny_set HT.out ⟨by show (0 : Int) ≤ 3; omega, by show (3 : Int) ≤ 5; omega, htk.2.2.1, hv⟩⟩
        have HW := Hid.mk' hgw
        clear hgw
        cases hG : getKey l'[k].2.1 m with
        | none =>
          rw [hG] at HGK
          simp only [getRet] at HGK
          have HR := HW.out ⟨#[]⟩ (by show (0 : Nat) ≤ 21; omega)
          generalize l'[k] = o at *
          clear hG HW htk
          go_wp2_with fail
          refine HGK.out.mono ?_
          rintro e w5 ⟨rfl, hw5⟩
          subst hw5
          go_wp2_with fail
          obtain ⟨r1, r2, r3⟩ := HR.out
          go_roundw
          case rel => exact ⟨k + 1, _, by omega, by go_num, r3, hP4.grown r2 (by simp; omega), r1, hC4.grown r2 (by simp; omega) (fun j e => by cases e; omega)⟩
          case measure => simp [intOf]; omega
        | some v =>
          rw [hG] at HGK
          simp only [getRet] at HGK
          have HR := HW.out v (getKey_tiny HTM.out hG)
          generalize l'[k] = o at *
          clear hG HW htk
          go_wp2_with fail
          refine HGK.out.mono ?_
          rintro e w5 ⟨rfl, hw5⟩
          subst hw5
          go_wp2_with fail
          obtain ⟨r1, r2, r3⟩ := HR.out
          go_roundw
          case rel => exact ⟨k + 1, _, by omega, by go_num, r3, hP4.grown r2 (by simp; omega), r1, hC4.grown r2 (by simp; omega) (fun j e => by cases e; omega)⟩
          case measure => simp [intOf]; omega
    · go_wp2_with fail
      go_ret2
      exact ⟨g, n, cp, m, g2, n2, cp2, l', by omega, by omega, HTM.out, HT.out, rfl, hP.mono hb1s, hO.mono (by omega), hC.bel⟩
end Go.Proofs.Yteiokccimlcmpaa.ords
