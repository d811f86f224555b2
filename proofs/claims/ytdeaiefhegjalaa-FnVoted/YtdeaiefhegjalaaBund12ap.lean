/- The laws' own helpers on pairs: what each call does. The laws' marks on pairs, and pairs that are the same. -/
import Derived.Test.YtdeaiefhegjalaaBund12aj
import Derived.Test.YtdeaiefhegjalaaBund12ad
namespace Go.Proofs.Ytdeaiefhegjalaa.pairs
open Go Go.RowKit Go.Proofs.Ytdeaiefhegjalaa.base Go.Proofs.Ytdeaiefhegjalaa.helps
set_option linter.unusedVariables false
set_option linter.unusedSimpArgs false


def szR (L t : Nat) : Int := if t ≤ L then (L : Int) - (t : Int) else -1
theorem szR_neg {L t : Nat} (h : L < t) : szR L t = -1 := by unfold szR; rw [if_neg (by omega)]
theorem szR_pos {L t : Nat} (h : t ≤ L) : szR L t = (L : Int) - (t : Int) := by unfold szR; rw [if_pos h]
def psz (p : Pr) : Nat := p.1.size + p.2.size
def sumP (l : List Pr) : Nat := (l.map psz).sum
theorem sumP_take (l : List Pr) (k : Nat) (h : k < l.length) : sumP (l.take (k + 1)) = sumP (l.take k) + psz l[k] := by
  unfold sumP; rw [take_snocP l k h, List.map_append, List.sum_append]; simp
theorem sumP_le (l : List Pr) (k : Nat) : sumP (l.take k) ≤ sumP l := by
  have e : sumP l = sumP (l.take k) + sumP (l.drop k) := by
    unfold sumP; rw [← List.sum_append, ← List.map_append, List.take_append_drop]
  omega
theorem psz_le (l : List Pr) : ∀ p ∈ l, psz p ≤ sumP l := by
  induction l with
  | nil => intro s h; exact absurd h List.not_mem_nil
  | cons x l ih =>
    intro s h
    simp only [sumP, List.map_cons, List.sum_cons] at *
    rcases List.mem_cons.1 h with h | h
    · subst h; omega
    · have := ih s h; omega



def zeroP : Pr := (⟨#[]⟩, ⟨#[]⟩)
def copyP (l : List Pr) (k : Nat) : List Pr := l.take k ++ List.replicate (l.length - k) zeroP
theorem copyP_length (l : List Pr) (k : Nat) (h : k ≤ l.length) : (copyP l k).length = l.length := by simp [copyP]; omega
theorem copyP_zero (l : List Pr) : copyP l 0 = List.replicate l.length zeroP := by simp [copyP]
theorem copyP_all (l : List Pr) : copyP l l.length = l := by simp [copyP]
theorem copyP_small (l : List Pr) (k : Nat) (h : ∀ p ∈ l, small p) : ∀ p ∈ copyP l k, small p := by
  intro p hp
  rcases List.mem_append.1 hp with h1 | h1
  · exact h p (List.mem_of_mem_take h1)
  · obtain rfl := (List.mem_replicate.1 h1).2; exact ⟨Nat.zero_le _, Nat.zero_le _⟩
theorem copyP_set (l : List Pr) (k : Nat) (h : k < l.length) : (copyP l k).set k l[k] = copyP l (k + 1) := by
  unfold copyP
  rw [List.set_append_right _ _ (by simp; omega), take_snocP l k h, List.append_assoc]
  congr 1
  rw [List.length_take_of_le (by omega), Nat.sub_self, show l.length - k = l.length - (k + 1) + 1 by omega, List.replicate_succ]
  rfl
theorem pairVals_rep (n : Nat) : pairVals (List.replicate n zeroP) = (madeCells #[.string ⟨#[]⟩, .string ⟨#[]⟩] (n * 2)).toList := by
  have e1 : pairVals (List.replicate n zeroP) = List.replicate (n * 2) (.string ⟨#[]⟩) := by
    induction n with
    | zero => rfl
    | succ n ih => rw [List.replicate_succ, pairVals_cons, ih, show (n + 1) * 2 = n * 2 + 1 + 1 by omega, List.replicate_succ, List.replicate_succ]; rfl
  rw [e1]
  apply List.ext_getElem
  · simp [madeCells]
  · intro j h1 h2
    have hm : j % 2 = 0 ∨ j % 2 = 1 := by omega
    rcases hm with hm | hm <;> simp [madeCells, hm]



theorem take_eqP {l l2 : List Pr} {k : Nat} (h : l.take k = l2.take k) (h1 : k < l.length) (h2 : k < l2.length) (e : l[k] = l2[k]) : l.take (k + 1) = l2.take (k + 1) := by
  rw [take_snocP l k h1, take_snocP l2 k h2, h, e]

end Go.Proofs.Ytdeaiefhegjalaa.pairs

namespace Go.Proofs.Ytdeaiefhegjalaa.pairs
open Go Go.RowKit Go.Proofs.Ytdeaiefhegjalaa.base Go.Proofs.Ytdeaiefhegjalaa.helps
set_option linter.unusedVariables false
set_option linter.unusedSimpArgs false

def marksP (k0 n : Nat) : List Pr := (List.range n).map fun j => (markBytes (k0 + 2 * j), markBytes (k0 + 2 * j + 1))
def markPTo (l : List Pr) (k0 i : Nat) : List Pr := marksP k0 i ++ l.drop i
theorem marksP_length (k0 n : Nat) : (marksP k0 n).length = n := by simp [marksP]
theorem marksP_get (k0 n i : Nat) (h : i < n) : (marksP k0 n)[i]'(by rw [marksP_length]; exact h) = (markBytes (k0 + 2 * i), markBytes (k0 + 2 * i + 1)) := by simp [marksP]
theorem markPTo_length (l : List Pr) (k0 i : Nat) (h : i ≤ l.length) : (markPTo l k0 i).length = l.length := by simp [markPTo, marksP]; omega
theorem markPTo_zero (l : List Pr) (k0 : Nat) : markPTo l k0 0 = l := by simp [markPTo, marksP]
theorem markPTo_all (l : List Pr) (k0 : Nat) : markPTo l k0 l.length = marksP k0 l.length := by simp [markPTo]
theorem markPTo_set (l : List Pr) (k0 i : Nat) (h : i < l.length) : (markPTo l k0 i).set i (markBytes (k0 + 2 * i), markBytes (k0 + 2 * i + 1)) = markPTo l k0 (i + 1) := by
  unfold markPTo marksP
  rw [List.set_append_right _ _ (by simp)]
  simp only [List.length_map, List.length_range, Nat.sub_self, List.range_succ, List.map_append, List.map_cons, List.map_nil, List.append_assoc]
  congr 1
  rw [List.drop_eq_getElem_cons h]
  rfl




end Go.Proofs.Ytdeaiefhegjalaa.pairs
