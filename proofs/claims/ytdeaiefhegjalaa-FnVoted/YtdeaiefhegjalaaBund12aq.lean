/- The laws' own helpers on orders: what each call does. -/
import Derived.Test.YtdeaiefhegjalaaBund12ap
import Derived.Test.YtdeaiefhegjalaaBund12ag
namespace Go.Proofs.Ytdeaiefhegjalaa.ords
open Go Go.RowKit Go.Proofs.Ytdeaiefhegjalaa.base Go.Proofs.Ytdeaiefhegjalaa.helps Go.Proofs.Ytdeaiefhegjalaa.pairs
set_option linter.unusedVariables false
set_option linter.unusedSimpArgs false


theorem take_snocO (l : List Od) (k : Nat) (h : k < l.length) : l.take (k + 1) = l.take k ++ [l[k]] := List.take_succ_eq_append_getElem h
def osz (o : Od) : Nat := o.2.1.size + o.2.2.size
def sumO (l : List Od) : Nat := (l.map osz).sum
theorem sumO_take (l : List Od) (k : Nat) (h : k < l.length) : sumO (l.take (k + 1)) = sumO (l.take k) + osz l[k] := by
  unfold sumO; rw [take_snocO l k h, List.map_append, List.sum_append]; simp
theorem sumO_le (l : List Od) (k : Nat) : sumO (l.take k) ≤ sumO l := by
  have e : sumO l = sumO (l.take k) + sumO (l.drop k) := by
    unfold sumO; rw [← List.sum_append, ← List.map_append, List.take_append_drop]
  omega
theorem osz_le (l : List Od) : ∀ o ∈ l, osz o ≤ sumO l := by
  induction l with
  | nil => intro s h; exact absurd h List.not_mem_nil
  | cons x l ih =>
    intro s h
    simp only [sumO, List.map_cons, List.sum_cons] at *
    rcases List.mem_cons.1 h with h | h
    · subst h; omega
    · have := ih s h; omega



def zeroO : Od := (0, ⟨#[]⟩, ⟨#[]⟩)
def copyO (l : List Od) (k : Nat) : List Od := l.take k ++ List.replicate (l.length - k) zeroO
theorem copyO_length (l : List Od) (k : Nat) (h : k ≤ l.length) : (copyO l k).length = l.length := by simp [copyO]; omega
theorem copyO_zero (l : List Od) : copyO l 0 = List.replicate l.length zeroO := by simp [copyO]
theorem copyO_all (l : List Od) : copyO l l.length = l := by simp [copyO]
theorem copyO_small (l : List Od) (k : Nat) (h : ∀ p ∈ l, smallO p) : ∀ p ∈ copyO l k, smallO p := by
  intro p hp
  rcases List.mem_append.1 hp with h1 | h1
  · exact h p (List.mem_of_mem_take h1)
  · obtain rfl := (List.mem_replicate.1 h1).2; exact ⟨rfl, Nat.zero_le _, Nat.zero_le _⟩
theorem copyO_set (l : List Od) (k : Nat) (h : k < l.length) : (copyO l k).set k l[k] = copyO l (k + 1) := by
  unfold copyO
  rw [List.set_append_right _ _ (by simp; omega), take_snocO l k h, List.append_assoc]
  congr 1
  rw [List.length_take_of_le (by omega), Nat.sub_self, show l.length - k = l.length - (k + 1) + 1 by omega, List.replicate_succ]
  rfl
theorem ordVals_rep (n : Nat) : ordVals (List.replicate n zeroO) = (madeCells #[.int .i64 0, .string ⟨#[]⟩, .string ⟨#[]⟩] (n * 3)).toList := by
  apply List.ext_getElem
  · rw [ordVals_length]; simp [madeCells]
  · intro j h1 h2
    rw [ordVals_length, List.length_replicate] at h1
    obtain ⟨e0, e1, e2⟩ := ordVals_at (List.replicate n zeroO) (j / 3) (by simp; omega)
    rw [← Option.some_inj, ← List.getElem?_eq_getElem]
    have hm : j = j / 3 * 3 ∨ j = j / 3 * 3 + 1 ∨ j = j / 3 * 3 + 2 := by omega
    rcases hm with hm | hm | hm
    · have h3 : j % 3 = 0 := by omega
      conv => lhs; rw [hm, e0]
      simp [madeCells, h3, zeroO]
    · have h3 : j % 3 = 1 := by omega
      conv => lhs; rw [hm, e1]
      simp [madeCells, h3, zeroO]
    · have h3 : j % 3 = 2 := by omega
      conv => lhs; rw [hm, e2]
      simp [madeCells, h3, zeroO]



theorem take_eqO {l l2 : List Od} {k : Nat} (h : l.take k = l2.take k) (h1 : k < l.length) (h2 : k < l2.length) (e : l[k] = l2[k]) : l.take (k + 1) = l2.take (k + 1) := by
  rw [take_snocO l k h1, take_snocO l2 k h2, h, e]

end Go.Proofs.Ytdeaiefhegjalaa.ords
