/- Plain mathematics of sides: which half a place is in, from the leaf up. -/
import Derived.Test.YtmdhkoiimffmlaaDoorTreeMath
namespace Go.Proofs.YtmdhkoiimffmlaaDoor.tree
open Go Go.Proofs.YtmdhkoiimffmlaaDoor.base Go.Proofs.YtmdhkoiimffmlaaDoor.pairs
set_option linter.unusedVariables false

/-- from the leaf up: whether the place is in the first half -/
def sidesS (f : Nat × Nat → List Bool) (s : Nat × Nat) : List Bool :=
  if s.2 < 2 then []
  else if s.1 < half s.2 then f (s.1, half s.2) ++ [true]
  else f (s.1 - half s.2, s.2 - half s.2) ++ [false]
def sides (i n : Nat) : List Bool := runs (fun _ => []) sidesS (n + 1) (i, n)
theorem sides_eq (i n : Nat) : sides i n = if n < 2 then [] else if i < half n then sides i (half n) ++ [true] else sides (i - half n) (n - half n) ++ [false] :=
  runs_eq (fun _ => []) sidesS (fun s => s.2) (fun f g s h => by
    unfold sidesS
    by_cases hn : s.2 < 2
    · rw [if_pos hn, if_pos hn]
    · have hb := half_bd s.2 (by omega)
      rw [if_neg hn, if_neg hn, h (s.1, half s.2) hb.2, h (s.1 - half s.2, s.2 - half s.2) (by show s.2 - half s.2 < s.2; omega)]) (i, n)
theorem sides_low (i n : Nat) (h : n < 2) : sides i n = [] := by rw [sides_eq, if_pos h]
theorem sides_left (i n : Nat) (h : 2 ≤ n) (hi : i < half n) : sides i n = sides i (half n) ++ [true] := by rw [sides_eq, if_neg (by omega), if_pos hi]
theorem sides_right (i n : Nat) (h : 2 ≤ n) (hi : ¬ i < half n) : sides i n = sides (i - half n) (n - half n) ++ [false] := by rw [sides_eq, if_neg (by omega), if_neg hi]
theorem sides_length (i n : Nat) : (sides i n).length = depth i n := by
  induction n using Nat.strongRecOn generalizing i with
  | _ n ih =>
    by_cases h : n < 2
    · rw [sides_low i n h, depth_eq, if_pos h]; rfl
    · have hb := half_bd n (by omega)
      by_cases hi : i < half n
      · rw [sides_left i n (by omega) hi, depth_left i n (by omega) hi, List.length_append, ih _ hb.2]; rfl
      · rw [sides_right i n (by omega) hi, depth_right i n (by omega) hi, List.length_append, ih _ (by omega)]; rfl
/-- from the top down, as the loop finds them -/
def downs (i n : Nat) : List Bool := (sides i n).reverse
theorem downs_low (i n : Nat) (h : n < 2) : downs i n = [] := by unfold downs; rw [sides_low i n h]; rfl
theorem downs_left (i n : Nat) (h : 2 ≤ n) (hi : i < half n) : downs i n = true :: downs i (half n) := by unfold downs; rw [sides_left i n h hi, List.reverse_concat]
theorem downs_right (i n : Nat) (h : 2 ≤ n) (hi : ¬ i < half n) : downs i n = false :: downs (i - half n) (n - half n) := by unfold downs; rw [sides_right i n h hi, List.reverse_concat]
theorem downs_length (i n : Nat) : (downs i n).length = depth i n := by unfold downs; rw [List.length_reverse, sides_length]

/-- what is hashed at a step -/
def nodeAt (x : ByteArray) (s : Bool) (q : ByteArray) : List UInt8 := if s = true then nodeB x q else nodeB q x
def ups (x : ByteArray) (l : List (Bool × ByteArray)) : ByteArray := l.foldl (fun t s => dg (nodeAt t s.1 s.2)) x
theorem ups_snoc (x : ByteArray) (l : List (Bool × ByteArray)) (s : Bool) (q : ByteArray) : ups x (l ++ [(s, q)]) = dg (nodeAt (ups x l) s q) := by
  unfold ups; rw [List.foldl_append]; rfl
theorem ups_size (x : ByteArray) (l : List (Bool × ByteArray)) (hx : x.size = 32) : (ups x l).size = 32 := by
  rcases List.eq_nil_or_concat l with rfl | ⟨l', s, rfl⟩
  · exact hx
  · obtain ⟨s, q⟩ := s
    rw [List.concat_eq_append, ups_snoc]; exact dg_size _
/-- the first k steps -/
def upTo (x : ByteArray) (S : List Bool) (P : List ByteArray) (k : Nat) : ByteArray := ups x ((S.zip P).take k)
theorem upTo_zero (x : ByteArray) (S : List Bool) (P : List ByteArray) : upTo x S P 0 = x := rfl
theorem upTo_step (x : ByteArray) (S : List Bool) (P : List ByteArray) (k : Nat) (h1 : k < S.length) (h2 : k < P.length) : upTo x S P (k + 1) = dg (nodeAt (upTo x S P k) S[k] P[k]) := by
  unfold upTo
  rw [List.take_succ_eq_append_getElem (by rw [List.length_zip]; omega), List.getElem_zip, ups_snoc]
theorem upTo_all (x : ByteArray) (S : List Bool) (P : List ByteArray) (k : Nat) (h : S.length ≤ k) : upTo x S P k = ups x (S.zip P) := by
  unfold upTo
  rw [List.take_of_length_le (by rw [List.length_zip]; omega)]
theorem zip_snoc {α β : Type} (a : List α) (b : List β) (x : α) (y : β) (h : a.length = b.length) : (a ++ [x]).zip (b ++ [y]) = a.zip b ++ [(x, y)] := by
  rw [List.zip_append h]; rfl
theorem climb_sides (x : ByteArray) (i n : Nat) (p : List ByteArray) (hp : p.length = depth i n) : climb x i n p = some (ups x ((sides i n).zip p)) := by
  induction n using Nat.strongRecOn generalizing i p with
  | _ n ih =>
    by_cases h : n < 2
    · rw [depth_eq, if_pos h] at hp
      have : p = [] := List.eq_nil_of_length_eq_zero hp
      subst this
      rw [climb_low _ _ _ _ h, sides_low i n h, if_pos rfl]; rfl
    · have hb := half_bd n (by omega)
      have hd : 1 ≤ depth i n := by
        rw [depth_eq, if_neg h]; split <;> omega
      have hne : p ≠ [] := by rintro rfl; simp at hp; omega
      have he : p = p.dropLast ++ [p.getLast hne] := (List.dropLast_concat_getLast hne).symm
      obtain ⟨q, z, rfl⟩ : ∃ q z, p = q ++ [z] := ⟨_, _, he⟩
      rw [List.length_append, List.length_singleton] at hp
      have hlast : (q ++ [z]).getLast? = some z := List.getLast?_concat
      by_cases hi : i < half n
      · rw [depth_left i n (by omega) hi] at hp
        rw [climb_left _ _ _ _ _ (by omega) hlast hi, List.dropLast_concat, ih _ hb.2 i q (by omega), sides_left i n (by omega) hi,
          zip_snoc _ _ _ _ (by rw [sides_length]; omega), ups_snoc]
        rfl
      · rw [depth_right i n (by omega) hi] at hp
        rw [climb_right _ _ _ _ _ (by omega) hlast hi, List.dropLast_concat, ih _ (by omega) (i - half n) q (by omega), sides_right i n (by omega) hi,
          zip_snoc _ _ _ _ (by rw [sides_length]; omega), ups_snoc]
        rfl
theorem check_not {p : Pr} {i n : Nat} {P : List ByteArray} {root : ByteArray} (h : ¬ P.length = depth i n) : checkPath p i n P root = false := by
  have hc := climb_length (leafOf p) i n P
  rw [decide_eq_false h] at hc
  unfold checkPath
  cases he : climb (leafOf p) i n P with
  | none => rfl
  | some t => rw [he] at hc; cases hc
theorem check_ups {p : Pr} {i n : Nat} {P : List ByteArray} {root : ByteArray} (h : P.length = depth i n) : checkPath p i n P root = decide (dg (topB (n : Int) (ups (leafOf p) ((sides i n).zip P))) = root) := by
  unfold checkPath
  rw [climb_sides _ _ _ _ h]
theorem half_64 (n : Nat) : half n ≤ 32 := by
  unfold half
  split
  · omega
  · split
    · omega
    · split
      · omega
      · split
        · omega
        · split <;> omega
end Go.Proofs.YtmdhkoiimffmlaaDoor.tree
