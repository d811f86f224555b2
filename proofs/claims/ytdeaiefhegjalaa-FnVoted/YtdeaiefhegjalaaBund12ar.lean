/- The laws' marks on orders and on rows of numbers, and orders that are the same. The laws' helpers for those who decide: alike. -/
import Derived.Test.YtdeaiefhegjalaaBund12aq
import Derived.Test.YtdeaiefhegjalaaBund12ag
import Derived.Test.YtdeaiefhegjalaaBund12am
import Derived.Handy
namespace Go.Proofs.Ytdeaiefhegjalaa.ords
open Go Go.RowKit Go.Proofs.Ytdeaiefhegjalaa.base Go.Proofs.Ytdeaiefhegjalaa.helps Go.Proofs.Ytdeaiefhegjalaa.pairs
set_option linter.unusedVariables false
set_option linter.unusedSimpArgs false

def marksO (k0 n : Nat) : List Od := (List.range n).map fun j => (((k0 + 3 * j : Nat) : Int), markBytes (k0 + 3 * j + 1), markBytes (k0 + 3 * j + 2))
def markOTo (l : List Od) (k0 i : Nat) : List Od := marksO k0 i ++ l.drop i
theorem marksO_length (k0 n : Nat) : (marksO k0 n).length = n := by simp [marksO]
theorem marksO_get (k0 n i : Nat) (h : i < n) : (marksO k0 n)[i]'(by rw [marksO_length]; exact h) = (((k0 + 3 * i : Nat) : Int), markBytes (k0 + 3 * i + 1), markBytes (k0 + 3 * i + 2)) := by simp [marksO]
theorem markOTo_length (l : List Od) (k0 i : Nat) (h : i ≤ l.length) : (markOTo l k0 i).length = l.length := by simp [markOTo, marksO]; omega
theorem markOTo_zero (l : List Od) (k0 : Nat) : markOTo l k0 0 = l := by simp [markOTo, marksO]
theorem markOTo_all (l : List Od) (k0 : Nat) : markOTo l k0 l.length = marksO k0 l.length := by simp [markOTo]
theorem markOTo_set (l : List Od) (k0 i : Nat) (h : i < l.length) : (markOTo l k0 i).set i (((k0 + 3 * i : Nat) : Int), markBytes (k0 + 3 * i + 1), markBytes (k0 + 3 * i + 2)) = markOTo l k0 (i + 1) := by
  unfold markOTo marksO
  rw [List.set_append_right _ _ (by simp)]
  simp only [List.length_map, List.length_range, Nat.sub_self, List.range_succ, List.map_append, List.map_cons, List.map_nil, List.append_assoc]
  congr 1
  rw [List.drop_eq_getElem_cons h]
  rfl



/-! ### rows of numbers -/
theorem take_eqZ {l l2 : List Int} {k : Nat} (h : l.take k = l2.take k) (h1 : k < l.length) (h2 : k < l2.length) (e : l[k] = l2[k]) : l.take (k + 1) = l2.take (k + 1) := by
  rw [List.take_succ_eq_append_getElem h1, List.take_succ_eq_append_getElem h2, h, e]
def marksZ (k0 n : Nat) : List Int := (List.range n).map fun j => ((k0 + j : Nat) : Int)
theorem marksZ_length (k0 n : Nat) : (marksZ k0 n).length = n := by simp [marksZ]
theorem marksZ_get (k0 n i : Nat) (h : i < n) : (marksZ k0 n)[i]'(by rw [marksZ_length]; exact h) = ((k0 + i : Nat) : Int) := by simp [marksZ]
def markZTo (l : List Int) (k0 i : Nat) : List Int := marksZ k0 i ++ l.drop i
theorem markZTo_length (l : List Int) (k0 i : Nat) (h : i ≤ l.length) : (markZTo l k0 i).length = l.length := by simp [markZTo, marksZ]; omega
theorem markZTo_set (l : List Int) (k0 i : Nat) (h : i < l.length) : (markZTo l k0 i).set i ((k0 + i : Nat) : Int) = markZTo l k0 (i + 1) := by
  unfold markZTo marksZ
  rw [List.set_append_right _ _ (by simp)]
  simp only [List.length_map, List.length_range, Nat.sub_self, List.range_succ, List.map_append, List.map_cons, List.map_nil, List.append_assoc]
  congr 1
  rw [List.drop_eq_getElem_cons h]
  rfl



end Go.Proofs.Ytdeaiefhegjalaa.ords

namespace Go.Proofs.Ytdeaiefhegjalaa.cos
open Go Go.RowKit Go.Proofs.Ytdeaiefhegjalaa.base Go.Proofs.Ytdeaiefhegjalaa.pairs Go.Proofs.Ytdeaiefhegjalaa.ords Go.Proofs.Ytdeaiefhegjalaa.lay Go.Proofs.Ytdeaiefhegjalaa.wds
set_option linter.unusedVariables false
set_option linter.unusedSimpArgs false

theorem below_two (w : World) (o o2 : Obj) : Below w.heap.size w ((w.alloc o).alloc o2) := ((Below.refl _ _).alloc (Nat.le_refl _) _).alloc (by simp) _
end Go.Proofs.Ytdeaiefhegjalaa.cos
