/- Draws of pairs that are right, and a place of one. -/
import Derived.Test.YteiokccimlcmpaaDrawQ
import Derived.Test.YteiokccimlcmpaaPairLaw
namespace Go.Proofs.Yteiokccimlcmpaa.pairs
open Go Go.RowKit Go.Proofs.Yteiokccimlcmpaa.base Go.Proofs.Yteiokccimlcmpaa.draw
set_option linter.unusedVariables false
set_option linter.unusedSimpArgs false

def zz : ByteArray := ⟨#[122, 122]⟩
def goodK (z : ByteArray) : Bool := keyOk z && Op.bytesLess z.data.toList [122, 122]
theorem goodK_ok {z : ByteArray} (h : goodK z = true) : keyOk z = true := (Bool.and_eq_true_iff.1 h).1
theorem goodK_lt {z : ByteArray} (h : goodK z = true) : ltB z zz = true := by
  have := (Bool.and_eq_true_iff.1 h).2
  unfold ltB
  rw [ByteArray.toList_eq, ByteArray.toList_eq]; exact this
theorem goodK_size {z : ByteArray} (h : goodK z = true) : z.size ≤ 13 := by
  have := goodK_ok h
  unfold keyOk at this
  have := (Bool.and_eq_true_iff.1 this).2
  have := of_decide_eq_true this
  omega
/-- pairs that are right, all ahead of "zz" -/
def good (l : List Pr) : Prop := pairsOk l = true ∧ ∀ p ∈ l, ltB p.1 zz = true
theorem good_nil : good [] := ⟨rfl, fun p hp => absurd hp List.not_mem_nil⟩
theorem good_put {key val : ByteArray} {l : List Pr} (h : good l) (hk : goodK key = true) (hv : val.size ≤ 20) (hl : l.length ≤ 8) : good (putKey key val l) := by
  refine ⟨pairsOk_put h.1 (goodK_ok hk) hv (by omega), fun p hp => ?_⟩
  rcases putKey_mem hp with h1 | h1
  · exact h.2 p h1
  · subst h1; exact goodK_lt hk
theorem ok_snoc {l : List Pr} {p : Pr} (h : pairsOk l = true) (hp : pairOk p = true) (hr : ∀ q ∈ l, ltB q.1 p.1 = true) (hl : l.length ≤ 59) : pairsOk (l ++ [p]) = true := by
  obtain ⟨⟨h1, h2⟩, h3⟩ := (pairsOk_iff l).1 h
  refine (pairsOk_iff _).2 ⟨⟨fun q hq => ?_, ?_⟩, by simp; omega⟩
  · rcases List.mem_append.1 hq with h4 | h4
    · exact h1 q h4
    · rw [List.mem_singleton.1 h4]; exact hp
  · refine List.pairwise_append.2 ⟨h2, List.pairwise_singleton _ _, fun a ha b hb => ?_⟩
    rw [List.mem_singleton.1 hb]; exact hr a ha
def good1 (l : List Pr) : Prop := pairsOk l = true
theorem good_zz {z : ByteArray} {l : List Pr} (h : good l) (hz : z.size ≤ 20) (hl : l.length ≤ 8) : good1 (l ++ [((⟨#[122, 122]⟩ : ByteArray), z)]) := by
  refine ok_snoc h.1 ?_ (fun q hq => h.2 q hq) (by omega)
  unfold pairOk
  rw [decide_eq_true hz, Bool.and_true]
  show keyOk ⟨#[122, 122]⟩ = true
  decide
theorem good1_tiny {l : List Pr} (h : good1 l) : ∀ p ∈ l, tiny p := fun p hp => by
  have := ((pairsOk_iff l).1 h).1.1 p hp
  unfold pairOk keyOk at this
  simp only [Bool.and_eq_true, decide_eq_true_eq] at this
  exact ⟨by omega, by omega⟩
theorem some_atB (zs : Array Value) (n : Nat) (f : ByteArray → Bool) (h : (List.range n).all (fun i => match zs[i]? with | some (.string z) => f z | _ => false) = true) : ∀ i, i < n → ∃ z, zs[i]? = some (.string z) ∧ f z = true := by
  intro i hi
  have := List.all_eq_true.1 h i (List.mem_range.2 hi)
  split at this
  · rename_i z hz; exact ⟨z, hz, this⟩
  · cases this
set_option maxHeartbeats 1000000 in
theorem d_keyG (w0 w : World) (gc : Nat) (a : Option Addr) (len cap : Nat) (code : List UInt8) (h : Cur w0 w gc a len cap code) :
    Calls Try.prog 108 #[.pointer (some ⟨gc, 0, none⟩)] w fun e w' => ∃ z : ByteArray, goodK z = true ∧ e = .returned (.string z) ∧ Cur w0 w' gc a len cap code ∧ w.grownBy w' (some gc) := by
  go_enter Try.func108, Try.ntmps108
  go_wp2_with fail
  have hne := curNe h
  refine (str_ w0 _ gc a len cap code w.heap.size 7 _ _ _ (h.below ((Below.refl _ _).alloc (Nat.le_refl _) _)) (heap_alloc_new w _) rfl (by omega) (by omega) hne (fun z => goodK z = true) (some_atB _ 7 goodK (by kernel_rfl))).mono ?_
  rintro e w1 ⟨z, hz, rfl, hc1, hg1⟩
  go_wp2_with fail
  go_ret
  exact ⟨z, hz, rfl, hc1, grown_of_alloc hg1⟩
def GotPairsG (w0 w : World) (gc : Nat) (a : Option Addr) (len cap : Nat) (code : List UInt8) (e : Ending) (w' : World) : Prop :=
  ∃ (g n cp : Nat) (l : List Pr), n ≤ 8 ∧ good l ∧ e = .returned (.slice (some ⟨g, 0, none⟩) n cp) ∧ OwnP w' w.heap.size g n cp l ∧ Cur w0 w' gc a len cap code ∧ w.grownBy w' (some gc)

set_option maxRecDepth 100000 in
set_option maxHeartbeats 1000000 in
theorem d_pairsG (w0 w : World) (gc : Nat) (a : Option Addr) (len cap : Nat) (code : List UInt8) (h : Cur w0 w gc a len cap code) :
    Calls Try.prog 75 #[.pointer (some ⟨gc, 0, none⟩)] w fun e w' => GotPairsG w0 w gc a len cap code e w' := by
  have hba : Below w.heap.size w (w.alloc (.cells #[] 92)) := (Below.refl _ _).alloc (Nat.le_refl _) _
  have hcl := h.lt
  go_enter Try.func75, Try.ntmps75
  go_wp2_with fail
  refine (below_ w0 _ gc a len cap code _ (h.below hba) (by omega) (by omega)).mono ?_
  rintro e w1 ⟨x, hx, rfl, hc1, hg1⟩
  have hO1 : OwnP w1 w.heap.size w.heap.size 0 0 [] := (ownP_made w w.heap.size (Nat.le_refl _)).grown hg1 (by simp; omega)
  have hG1 : w.grownBy w1 (some gc) := grown_of_alloc hg1
  clear hg1 hba
  go_wp2_with fail
  go_loopw [3, 4] (fun v i wr => ∃ (k g n cp : Nat) (l : List Pr), k ≤ 8 ∧ n + k ≤ 8 ∧ i = .int .i64 (k : Int) ∧ v = .slice (some ⟨g, 0, none⟩) n cp ∧ good l ∧ OwnP wr w.heap.size g n cp l ∧ Cur w0 wr gc a len cap code ∧ w.grownBy wr (some gc)) (fun _ i _ => (intOf i).toNat)
  case atStart => exact ⟨x, w.heap.size, 0, 0, [], by omega, by omega, rfl, rfl, good_nil, hO1, hc1, hG1⟩
  case round =>
    clear hO1 hc1 hG1
    obtain ⟨k, g, n, cp, l, hk, hnk, rfl, rfl, ht, hO, hC, hG⟩ := hrel
    by_cases hk0 : 0 < k
    · have hgne : g ≠ gc := by have := hO.lt; omega
      go_wp2_with fail
      refine (d_keyG w0 _ gc a len cap code hC).mono ?_
      rintro e w2 ⟨z1, hz1G, rfl, hC2, hG2⟩
      have hO2 := hO.grown hG2 (by simpa using hgne)
      go_wp2_with fail
      refine (d_val w0 _ gc a len cap code hC2).mono ?_
      rintro e w3 ⟨z2, hz2, rfl, hC3, hG3⟩
      have hO3 := hO2.grown hG3 (by simpa using hgne)
      have hz1 := goodK_size hz1G
      have hcs := hO3.cases
      have hln := hO3.1
      go_wp2_with fail
      refine (spec_putKey g 0 n cp l z1 z2 _ hO3.sl hcs.1 (by omega) (max13 (by omega)) (max13 (by omega))).mono ?_
      rintro e w4 ⟨g4, n4, cp4, rfl, hO4, hB4⟩
      have hpl := putKey_length z1 z2 l
      have hn4 : n4 ≤ n + 1 := by have := hO4.1; omega
      have hC4 := hC3.below hB4
      have hG4 := grown_below (grownBy_trans hG (grownBy_trans hG2 hG3)) hB4
      have hO5 := hO4.mono (base' := w.heap.size) (by have := hG.size; have := hG2.size; have := hG3.size; omega)
      have ht4 := good_put ht hz1G (Nat.le_trans hz2 (by omega)) (by omega)
      clear hO hO2 hO3 hO4 hB4 hC hC2 hC3 hG hG2 hG3 hcs hpl
      go_wp2_with fail
      go_roundw
      case rel => exact ⟨k - 1, g4, n4, cp4, _, by omega, by omega, by go_num, rfl, ht4, hO5, hC4, hG4⟩
      case measure => simp [intOf]; omega
    · go_wp2_with fail
      go_ret
      exact ⟨g, n, cp, l, by omega, ht, rfl, hO, hC, hG⟩

end Go.Proofs.Yteiokccimlcmpaa.pairs
