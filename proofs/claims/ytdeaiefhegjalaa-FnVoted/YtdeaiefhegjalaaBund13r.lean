/- What the laws on pairs draw. What the laws on pairs draw: whole draws. Draws of pairs that are right, and a place of one. -/
import Derived.Test.YtdeaiefhegjalaaBund13q
import Derived.Test.YtdeaiefhegjalaaBund12ab
namespace Go.Proofs.Ytdeaiefhegjalaa.pairs
open Go Go.RowKit Go.Proofs.Ytdeaiefhegjalaa.base Go.Proofs.Ytdeaiefhegjalaa.draw
set_option linter.unusedVariables false
set_option linter.unusedSimpArgs false

def GotS (N : Nat) (w0 w : World) (gc : Nat) (a : Option Addr) (len cap : Nat) (code : List UInt8) (e : Ending) (w' : World) : Prop :=
  ∃ z : ByteArray, z.size ≤ N ∧ e = .returned (.string z) ∧ Cur w0 w' gc a len cap code ∧ w.grownBy w' (some gc)
theorem grown_of_alloc {w w' : World} {o : Obj} {row : Option Nat} (h : (w.alloc o).grownBy w' row) : w.grownBy w' row := grownBy_trans (grown_alloc0 w o row) h

set_option maxHeartbeats 1000000 in
theorem d_once (w0 w : World) (gc : Nat) (a : Option Addr) (len cap : Nat) (code : List UInt8) (n : Int) (h : Cur w0 w gc a len cap code) (hn : 0 < n) (hn2 : n ≤ 1000000000) :
    Calls Try.prog 16 #[.pointer (some ⟨gc, 0, none⟩), .int .i64 n] w fun e w' => ∃ b : Bool, e = .returned (.bool b) ∧ Cur w0 w' gc a len cap code ∧ w.grownBy w' (some gc) := by
  go_enter Try.func16, Try.ntmps16
  go_wp2_with fail
  refine (below_ w0 _ gc a len cap code n h hn hn2).mono ?_
  rintro e w1 ⟨x, hx, rfl, hc1, hg1⟩
  go_wp2_with fail
  go_ret
  exact ⟨_, rfl, hc1, hg1⟩

theorem curNe {w0 w : World} {gc : Nat} {a : Option Addr} {len cap : Nat} {code : List UInt8} (h : Cur w0 w gc a len cap code) : w.heap.size ≠ gc := by have := h.lt; omega
theorem some_at (zs : Array Value) (n : Nat) (N : Nat) (h : (List.range n).all (fun i => match zs[i]? with | some (.string z) => decide (z.size ≤ N) | _ => false) = true) : ∀ i, i < n → ∃ z, zs[i]? = some (.string z) ∧ z.size ≤ N := by
  intro i hi
  have := List.all_eq_true.1 h i (List.mem_range.2 hi)
  split at this
  · rename_i z hz; exact ⟨z, hz, of_decide_eq_true this⟩
  · cases this

set_option maxHeartbeats 1000000 in
theorem d_key (w0 w : World) (gc : Nat) (a : Option Addr) (len cap : Nat) (code : List UInt8) (h : Cur w0 w gc a len cap code) :
    Calls Try.prog 92 #[.pointer (some ⟨gc, 0, none⟩)] w fun e w' => GotS 13 w0 w gc a len cap code e w' := by
  go_enter Try.func92, Try.ntmps92
  go_wp2_with fail
  have hne := curNe h
  refine (str_ w0 _ gc a len cap code w.heap.size 7 _ _ _ (h.below ((Below.refl _ _).alloc (Nat.le_refl _) _)) (heap_alloc_new w _) rfl (by omega) (by omega) hne (fun z => z.size ≤ 13) (some_at _ 7 13 (by kernel_rfl))).mono ?_
  rintro e w1 ⟨z, hz, rfl, hc1, hg1⟩
  go_wp2_with fail
  go_ret
  exact ⟨z, hz, rfl, hc1, grown_of_alloc hg1⟩

/-- what a draw of pairs leaves -/
def tiny (p : Pr) : Prop := p.1.size ≤ 13 ∧ p.2.size ≤ 21
def GotPairs (N : Nat) (w0 w : World) (gc : Nat) (a : Option Addr) (len cap : Nat) (code : List UInt8) (e : Ending) (w' : World) : Prop :=
  ∃ (g n cp : Nat) (l : List Pr), n ≤ N ∧ (∀ p ∈ l, tiny p) ∧ e = .returned (.slice (some ⟨g, 0, none⟩) n cp) ∧ OwnP w' w.heap.size g n cp l ∧ Cur w0 w' gc a len cap code ∧ w.grownBy w' (some gc)
theorem tiny_put {key val : ByteArray} {l : List Pr} (h : ∀ p ∈ l, tiny p) (hk : key.size ≤ 13) (hv : val.size ≤ 21) : ∀ p ∈ putKey key val l, tiny p := by
  unfold putKey
  split
  · have : ∀ l : List Pr, (∀ p ∈ l, tiny p) → ∀ p ∈ setFirst key val l, tiny p := by
      intro l
      induction l with
      | nil => intro _ p hp; exact absurd hp List.not_mem_nil
      | cons q l ih =>
        intro hl p hp
        unfold setFirst at hp
        split at hp
        · rcases List.mem_cons.1 hp with h1 | h1
          · subst h1; exact ⟨(hl q List.mem_cons_self).1, hv⟩
          · exact hl p (List.mem_cons_of_mem _ h1)
        · rcases List.mem_cons.1 hp with h1 | h1
          · subst h1; exact hl _ List.mem_cons_self
          · exact ih (fun r hr => hl r (List.mem_cons_of_mem _ hr)) p h1
    exact this l h
  · intro p hp
    rcases List.mem_append.1 hp with h1 | h1
    · exact h p (List.mem_of_mem_take h1)
    · rcases List.mem_cons.1 h1 with h2 | h2
      · subst h2; exact ⟨hk, hv⟩
      · exact h p (List.mem_of_mem_drop h2)
theorem max13 {n : Nat} (h : n ≤ 21) : n ≤ maxLen := Nat.le_trans h (by decide)


end Go.Proofs.Ytdeaiefhegjalaa.pairs

namespace Go.Proofs.Ytdeaiefhegjalaa.pairs
open Go Go.RowKit Go.Proofs.Ytdeaiefhegjalaa.base Go.Proofs.Ytdeaiefhegjalaa.draw
set_option linter.unusedVariables false
set_option linter.unusedSimpArgs false



/-- pairs and two texts -/
def GotPut (w : World) (e : Ending) (w' : World) : Prop :=
  ∃ (g n cp : Nat) (l : List Pr) (x y : ByteArray), n ≤ 61 ∧ (∀ p ∈ l, tiny p) ∧ x.size ≤ 13 ∧ y.size ≤ 13 ∧ e = .returned (.tuple #[.slice (some ⟨g, 0, none⟩) n cp, .string x, .string y]) ∧ OwnP w' w.heap.size g n cp l ∧ Below w.heap.size w w'
/-- two lists of pairs -/
def GotTwo (w : World) (e : Ending) (w' : World) : Prop :=
  ∃ (g n cp : Nat) (l : List Pr) (g2 n2 cp2 : Nat) (l2 : List Pr), n ≤ 61 ∧ n2 ≤ 61 ∧ (∀ p ∈ l, tiny p) ∧ (∀ p ∈ l2, tiny p) ∧ g ≠ g2 ∧ e = .returned (.tuple #[.slice (some ⟨g, 0, none⟩) n cp, .slice (some ⟨g2, 0, none⟩) n2 cp2]) ∧ OwnP w' w.heap.size g n cp l ∧ OwnP w' w.heap.size g2 n2 cp2 l2 ∧ Below w.heap.size w w'

end Go.Proofs.Ytdeaiefhegjalaa.pairs

namespace Go.Proofs.Ytdeaiefhegjalaa.pairs
open Go Go.RowKit Go.Proofs.Ytdeaiefhegjalaa.base Go.Proofs.Ytdeaiefhegjalaa.draw
set_option linter.unusedVariables false
set_option linter.unusedSimpArgs false

def zz : ByteArray := ⟨#[122, 122]⟩
def goodK (z : ByteArray) : Bool := keyOk z && Op.bytesLess z.data.toList [122, 122]
theorem goodK_ok {z : ByteArray} (h : goodK z = true) : keyOk z = true := (Bool.and_eq_true_iff.1 h).1
theorem goodK_lt {z : ByteArray} (h : goodK z = true) : ltB z zz = true := by
  have := (Bool.and_eq_true_iff.1 h).2
  unfold ltB
  rw [ByteArray.toList_eq, ByteArray.toList_eq]; exact this
theorem goodK_size {z : ByteArray} (h : goodK z = true) : z.size ≤ 13 := by
  have := goodK_ok h
  unfold keyOk at this
  have := (Bool.and_eq_true_iff.1 this).2
  have := of_decide_eq_true this
  omega
/-- pairs that are right, all ahead of "zz" -/
def good (l : List Pr) : Prop := pairsOk l = true ∧ ∀ p ∈ l, ltB p.1 zz = true
theorem good_nil : good [] := ⟨rfl, fun p hp => absurd hp List.not_mem_nil⟩
theorem good_put {key val : ByteArray} {l : List Pr} (h : good l) (hk : goodK key = true) (hv : val.size ≤ 20) (hl : l.length ≤ 8) : good (putKey key val l) := by
  refine ⟨pairsOk_put h.1 (goodK_ok hk) hv (by omega), fun p hp => ?_⟩
  rcases putKey_mem hp with h1 | h1
  · exact h.2 p h1
  · subst h1; exact goodK_lt hk
theorem ok_snoc {l : List Pr} {p : Pr} (h : pairsOk l = true) (hp : pairOk p = true) (hr : ∀ q ∈ l, ltB q.1 p.1 = true) (hl : l.length ≤ 59) : pairsOk (l ++ [p]) = true := by
  obtain ⟨⟨h1, h2⟩, h3⟩ := (pairsOk_iff l).1 h
  refine (pairsOk_iff _).2 ⟨⟨fun q hq => ?_, ?_⟩, by simp; omega⟩
  · rcases List.mem_append.1 hq with h4 | h4
    · exact h1 q h4
    · rw [List.mem_singleton.1 h4]; exact hp
  · refine List.pairwise_append.2 ⟨h2, List.pairwise_singleton _ _, fun a ha b hb => ?_⟩
    rw [List.mem_singleton.1 hb]; exact hr a ha
def good1 (l : List Pr) : Prop := pairsOk l = true
theorem good_zz {z : ByteArray} {l : List Pr} (h : good l) (hz : z.size ≤ 20) (hl : l.length ≤ 8) : good1 (l ++ [((⟨#[122, 122]⟩ : ByteArray), z)]) := by
  refine ok_snoc h.1 ?_ (fun q hq => h.2 q hq) (by omega)
  unfold pairOk
  rw [decide_eq_true hz, Bool.and_true]
  show keyOk ⟨#[122, 122]⟩ = true
  decide
theorem good1_tiny {l : List Pr} (h : good1 l) : ∀ p ∈ l, tiny p := fun p hp => by
  have := ((pairsOk_iff l).1 h).1.1 p hp
  unfold pairOk keyOk at this
  simp only [Bool.and_eq_true, decide_eq_true_eq] at this
  exact ⟨by omega, by omega⟩
theorem some_atB (zs : Array Value) (n : Nat) (f : ByteArray → Bool) (h : (List.range n).all (fun i => match zs[i]? with | some (.string z) => f z | _ => false) = true) : ∀ i, i < n → ∃ z, zs[i]? = some (.string z) ∧ f z = true := by
  intro i hi
  have := List.all_eq_true.1 h i (List.mem_range.2 hi)
  split at this
  · rename_i z hz; exact ⟨z, hz, this⟩
  · cases this
set_option maxHeartbeats 1000000 in
theorem d_keyG (w0 w : World) (gc : Nat) (a : Option Addr) (len cap : Nat) (code : List UInt8) (h : Cur w0 w gc a len cap code) :
    Calls Try.prog 92 #[.pointer (some ⟨gc, 0, none⟩)] w fun e w' => ∃ z : ByteArray, goodK z = true ∧ e = .returned (.string z) ∧ Cur w0 w' gc a len cap code ∧ w.grownBy w' (some gc) := by
  go_enter Try.func92, Try.ntmps92
  go_wp2_with fail
  have hne := curNe h
  refine (str_ w0 _ gc a len cap code w.heap.size 7 _ _ _ (h.below ((Below.refl _ _).alloc (Nat.le_refl _) _)) (heap_alloc_new w _) rfl (by omega) (by omega) hne (fun z => goodK z = true) (some_atB _ 7 goodK (by kernel_rfl))).mono ?_
  rintro e w1 ⟨z, hz, rfl, hc1, hg1⟩
  go_wp2_with fail
  go_ret
  exact ⟨z, hz, rfl, hc1, grown_of_alloc hg1⟩
def GotPairsG (w0 w : World) (gc : Nat) (a : Option Addr) (len cap : Nat) (code : List UInt8) (e : Ending) (w' : World) : Prop :=
  ∃ (g n cp : Nat) (l : List Pr), n ≤ 8 ∧ good l ∧ e = .returned (.slice (some ⟨g, 0, none⟩) n cp) ∧ OwnP w' w.heap.size g n cp l ∧ Cur w0 w' gc a len cap code ∧ w.grownBy w' (some gc)


end Go.Proofs.Ytdeaiefhegjalaa.pairs
