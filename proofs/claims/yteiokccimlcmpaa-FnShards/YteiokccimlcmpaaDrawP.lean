/- What the laws on pairs draw. -/
import Derived.Test.YteiokccimlcmpaaDraw
import Derived.Test.YteiokccimlcmpaaPairW
namespace Go.Proofs.Yteiokccimlcmpaa.pairs
open Go Go.RowKit Go.Proofs.Yteiokccimlcmpaa.base Go.Proofs.Yteiokccimlcmpaa.draw
set_option linter.unusedVariables false
set_option linter.unusedSimpArgs false

def GotS (N : Nat) (w0 w : World) (gc : Nat) (a : Option Addr) (len cap : Nat) (code : List UInt8) (e : Ending) (w' : World) : Prop :=
  ∃ z : ByteArray, z.size ≤ N ∧ e = .returned (.string z) ∧ Cur w0 w' gc a len cap code ∧ w.grownBy w' (some gc)
theorem grown_of_alloc {w w' : World} {o : Obj} {row : Option Nat} (h : (w.alloc o).grownBy w' row) : w.grownBy w' row := grownBy_trans (grown_alloc0 w o row) h

set_option maxHeartbeats 1000000 in
theorem d_once (w0 w : World) (gc : Nat) (a : Option Addr) (len cap : Nat) (code : List UInt8) (n : Int) (h : Cur w0 w gc a len cap code) (hn : 0 < n) (hn2 : n ≤ 1000000000) :
    Calls Try.prog 84 #[.pointer (some ⟨gc, 0, none⟩), .int .i64 n] w fun e w' => ∃ b : Bool, e = .returned (.bool b) ∧ Cur w0 w' gc a len cap code ∧ w.grownBy w' (some gc) := by
  go_enter Try.func84, Try.ntmps84
  go_wp2_with fail
  refine (below_ w0 _ gc a len cap code n h hn hn2).mono ?_
  rintro e w1 ⟨x, hx, rfl, hc1, hg1⟩
  go_wp2_with fail
  go_ret
  exact ⟨_, rfl, hc1, hg1⟩

theorem curNe {w0 w : World} {gc : Nat} {a : Option Addr} {len cap : Nat} {code : List UInt8} (h : Cur w0 w gc a len cap code) : w.heap.size ≠ gc := by have := h.lt; omega
theorem some_at (zs : Array Value) (n : Nat) (N : Nat) (h : (List.range n).all (fun i => match zs[i]? with | some (.string z) => decide (z.size ≤ N) | _ => false) = true) : ∀ i, i < n → ∃ z, zs[i]? = some (.string z) ∧ z.size ≤ N := by
  intro i hi
  have := List.all_eq_true.1 h i (List.mem_range.2 hi)
  split at this
  · rename_i z hz; exact ⟨z, hz, of_decide_eq_true this⟩
  · cases this

set_option maxHeartbeats 1000000 in
theorem d_key (w0 w : World) (gc : Nat) (a : Option Addr) (len cap : Nat) (code : List UInt8) (h : Cur w0 w gc a len cap code) :
    Calls Try.prog 108 #[.pointer (some ⟨gc, 0, none⟩)] w fun e w' => GotS 13 w0 w gc a len cap code e w' := by
  go_enter Try.func108, Try.ntmps108
  go_wp2_with fail
  have hne := curNe h
  refine (str_ w0 _ gc a len cap code w.heap.size 7 _ _ _ (h.below ((Below.refl _ _).alloc (Nat.le_refl _) _)) (heap_alloc_new w _) rfl (by omega) (by omega) hne (fun z => z.size ≤ 13) (some_at _ 7 13 (by kernel_rfl))).mono ?_
  rintro e w1 ⟨z, hz, rfl, hc1, hg1⟩
  go_wp2_with fail
  go_ret
  exact ⟨z, hz, rfl, hc1, grown_of_alloc hg1⟩
set_option maxHeartbeats 1000000 in
theorem d_val (w0 w : World) (gc : Nat) (a : Option Addr) (len cap : Nat) (code : List UInt8) (h : Cur w0 w gc a len cap code) :
    Calls Try.prog 109 #[.pointer (some ⟨gc, 0, none⟩)] w fun e w' => GotS 13 w0 w gc a len cap code e w' := by
  go_enter Try.func109, Try.ntmps109
  go_wp2_with fail
  have hne := curNe h
  refine (str_ w0 _ gc a len cap code w.heap.size 6 _ _ _ (h.below ((Below.refl _ _).alloc (Nat.le_refl _) _)) (heap_alloc_new w _) rfl (by omega) (by omega) hne (fun z => z.size ≤ 13) (some_at _ 6 13 (by kernel_rfl))).mono ?_
  rintro e w1 ⟨z, hz, rfl, hc1, hg1⟩
  go_wp2_with fail
  go_ret
  exact ⟨z, hz, rfl, hc1, grown_of_alloc hg1⟩
set_option maxHeartbeats 1000000 in
theorem d_keyAny (w0 w : World) (gc : Nat) (a : Option Addr) (len cap : Nat) (code : List UInt8) (h : Cur w0 w gc a len cap code) :
    Calls Try.prog 89 #[.pointer (some ⟨gc, 0, none⟩)] w fun e w' => GotS 13 w0 w gc a len cap code e w' := by
  go_enter Try.func89, Try.ntmps89
  go_wp2_with fail
  refine (d_once w0 _ gc a len cap code _ h (by omega) (by omega)).mono ?_
  rintro e w1 ⟨b, rfl, hc1, hg1⟩
  cases b
  · go_wp2_with fail
    refine (d_key w0 _ gc a len cap code hc1).mono ?_
    rintro e w2 ⟨z, hz, rfl, hc2, hg2⟩
    go_wp2_with fail
    go_ret
    exact ⟨z, hz, rfl, hc2, grownBy_trans hg1 hg2⟩
  · go_wp2_with fail
    have hne := curNe hc1
    refine (str_ w0 _ gc a len cap code w1.heap.size 5 _ _ _ (hc1.below ((Below.refl _ _).alloc (Nat.le_refl _) _)) (heap_alloc_new w1 _) rfl (by omega) (by omega) hne (fun z => z.size ≤ 13) (some_at _ 5 13 (by kernel_rfl))).mono ?_
    rintro e w2 ⟨z, hz, rfl, hc2, hg2⟩
    go_wp2_with fail
    go_ret
    exact ⟨z, hz, rfl, hc2, grownBy_trans hg1 (grown_of_alloc hg2)⟩

/-- what a draw of pairs leaves -/
def tiny (p : Pr) : Prop := p.1.size ≤ 13 ∧ p.2.size ≤ 21
def GotPairs (N : Nat) (w0 w : World) (gc : Nat) (a : Option Addr) (len cap : Nat) (code : List UInt8) (e : Ending) (w' : World) : Prop :=
  ∃ (g n cp : Nat) (l : List Pr), n ≤ N ∧ (∀ p ∈ l, tiny p) ∧ e = .returned (.slice (some ⟨g, 0, none⟩) n cp) ∧ OwnP w' w.heap.size g n cp l ∧ Cur w0 w' gc a len cap code ∧ w.grownBy w' (some gc)
theorem tiny_put {key val : ByteArray} {l : List Pr} (h : ∀ p ∈ l, tiny p) (hk : key.size ≤ 13) (hv : val.size ≤ 21) : ∀ p ∈ putKey key val l, tiny p := by
  unfold putKey
  split
  · have : ∀ l : List Pr, (∀ p ∈ l, tiny p) → ∀ p ∈ setFirst key val l, tiny p := by
      intro l
      induction l with
      | nil => intro _ p hp; exact absurd hp List.not_mem_nil
      | cons q l ih =>
        intro hl p hp
        unfold setFirst at hp
        split at hp
        · rcases List.mem_cons.1 hp with h1 | h1
          · subst h1; exact ⟨(hl q List.mem_cons_self).1, hv⟩
          · exact hl p (List.mem_cons_of_mem _ h1)
        · rcases List.mem_cons.1 hp with h1 | h1
          · subst h1; exact hl _ List.mem_cons_self
          · exact ih (fun r hr => hl r (List.mem_cons_of_mem _ hr)) p h1
    exact this l h
  · intro p hp
    rcases List.mem_append.1 hp with h1 | h1
    · exact h p (List.mem_of_mem_take h1)
    · rcases List.mem_cons.1 h1 with h2 | h2
      · subst h2; exact ⟨hk, hv⟩
      · exact h p (List.mem_of_mem_drop h2)
theorem max13 {n : Nat} (h : n ≤ 21) : n ≤ maxLen := Nat.le_trans h (by decide)

set_option maxRecDepth 100000 in
set_option maxHeartbeats 1000000 in
theorem d_pairs (w0 w : World) (gc : Nat) (a : Option Addr) (len cap : Nat) (code : List UInt8) (h : Cur w0 w gc a len cap code) :
    Calls Try.prog 75 #[.pointer (some ⟨gc, 0, none⟩)] w fun e w' => GotPairs 8 w0 w gc a len cap code e w' := by
  have hba : Below w.heap.size w (w.alloc (.cells #[] 92)) := (Below.refl _ _).alloc (Nat.le_refl _) _
  have hcl := h.lt
  go_enter Try.func75, Try.ntmps75
  go_wp2_with fail
  refine (below_ w0 _ gc a len cap code _ (h.below hba) (by omega) (by omega)).mono ?_
  rintro e w1 ⟨x, hx, rfl, hc1, hg1⟩
  have hO1 : OwnP w1 w.heap.size w.heap.size 0 0 [] := (ownP_made w w.heap.size (Nat.le_refl _)).grown hg1 (by simp; omega)
  have hG1 : w.grownBy w1 (some gc) := grown_of_alloc hg1
  clear hg1 hba
  go_wp2_with fail
  go_loopw [3, 4] (fun v i wr => ∃ (k g n cp : Nat) (l : List Pr), k ≤ 8 ∧ n + k ≤ 8 ∧ i = .int .i64 (k : Int) ∧ v = .slice (some ⟨g, 0, none⟩) n cp ∧ (∀ p ∈ l, tiny p) ∧ OwnP wr w.heap.size g n cp l ∧ Cur w0 wr gc a len cap code ∧ w.grownBy wr (some gc)) (fun _ i _ => (intOf i).toNat)
  case atStart => exact ⟨x, w.heap.size, 0, 0, [], by omega, by omega, rfl, rfl, (fun p hp => absurd hp List.not_mem_nil), hO1, hc1, hG1⟩
  case round =>
    clear hO1 hc1 hG1
    obtain ⟨k, g, n, cp, l, hk, hnk, rfl, rfl, ht, hO, hC, hG⟩ := hrel
    by_cases hk0 : 0 < k
    · have hgne : g ≠ gc := by have := hO.lt; omega
      go_wp2_with fail
      refine (d_key w0 _ gc a len cap code hC).mono ?_
      rintro e w2 ⟨z1, hz1, rfl, hC2, hG2⟩
      have hO2 := hO.grown hG2 (by simpa using hgne)
      go_wp2_with fail
      refine (d_val w0 _ gc a len cap code hC2).mono ?_
      rintro e w3 ⟨z2, hz2, rfl, hC3, hG3⟩
      have hO3 := hO2.grown hG3 (by simpa using hgne)
      have hcs := hO3.cases
      have hln := hO3.1
      go_wp2_with fail
      refine (spec_putKey g 0 n cp l z1 z2 _ hO3.sl hcs.1 (by omega) (max13 (by omega)) (max13 (by omega))).mono ?_
      rintro e w4 ⟨g4, n4, cp4, rfl, hO4, hB4⟩
      have hpl := putKey_length z1 z2 l
      have hn4 : n4 ≤ n + 1 := by have := hO4.1; omega
      have hC4 := hC3.below hB4
      have hG4 := grown_below (grownBy_trans hG (grownBy_trans hG2 hG3)) hB4
      have hO5 := hO4.mono (base' := w.heap.size) (by have := hG.size; have := hG2.size; have := hG3.size; omega)
      have ht4 := tiny_put ht hz1 (Nat.le_trans hz2 (by omega))
      clear hO hO2 hO3 hO4 hB4 hC hC2 hC3 hG hG2 hG3 hcs hpl
      go_wp2_with fail
      go_roundw
      case rel => exact ⟨k - 1, g4, n4, cp4, _, by omega, by omega, by go_num, rfl, ht4, hO5, hC4, hG4⟩
      case measure => simp [intOf]; omega
    · go_wp2_with fail
      go_ret
      exact ⟨g, n, cp, l, by omega, ht, rfl, hO, hC, hG⟩

end Go.Proofs.Yteiokccimlcmpaa.pairs
