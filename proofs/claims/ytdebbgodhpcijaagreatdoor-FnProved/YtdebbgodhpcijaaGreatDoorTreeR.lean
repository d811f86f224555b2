/- Plain mathematics of sides: which half a place is in, from the leaf up. Plain mathematics: all that is hashed from a leaf to a root, from the leaf up. The program's halves and sides. The program's places, halves and sides. The program's bytes of leaves, nodes and roots, and their digests. The program's inner digests and roots: a closure that calls itself. The program's paths: a closure that calls itself. The program's check of a path. The program's check of a path. -/
import Derived.Test.YtdebbgodhpcijaaGreatDoorTreeQ
import Derived.Test.YtdebbgodhpcijaaGreatDoorKitA
import Derived.Test.YtdebbgodhpcijaaGreatDoorKitB
import Derived.Deep.RegionHeld3
import Derived.Deep.RegionHeldLaw
import Derived.Test.YtdebbgodhpcijaaGreatDoorShaQ
import Derived.Laws.EntriesVeiled
namespace Go.Proofs.YtdebbgodhpcijaaGreatDoor.tree
open Go Go.Proofs.YtdebbgodhpcijaaGreatDoor.base Go.Proofs.YtdebbgodhpcijaaGreatDoor.pairs
set_option linter.unusedVariables false

/-- from the leaf up: whether the place is in the first half -/
def sidesS (f : Nat × Nat → List Bool) (s : Nat × Nat) : List Bool :=
  if s.2 < 2 then []
  else if s.1 < half s.2 then f (s.1, half s.2) ++ [true]
  else f (s.1 - half s.2, s.2 - half s.2) ++ [false]
def sides (i n : Nat) : List Bool := runs (fun _ => []) sidesS (n + 1) (i, n)
theorem sides_eq (i n : Nat) : sides i n = if n < 2 then [] else if i < half n then sides i (half n) ++ [true] else sides (i - half n) (n - half n) ++ [false] :=
  runs_eq (fun _ => []) sidesS (fun s => s.2) (fun f g s h => by
    unfold sidesS
    by_cases hn : s.2 < 2
    · rw [if_pos hn, if_pos hn]
    · have hb := half_bd s.2 (by omega)
      rw [if_neg hn, if_neg hn, h (s.1, half s.2) hb.2, h (s.1 - half s.2, s.2 - half s.2) (by show s.2 - half s.2 < s.2; omega)]) (i, n)
theorem sides_low (i n : Nat) (h : n < 2) : sides i n = [] := by rw [sides_eq, if_pos h]
theorem sides_left (i n : Nat) (h : 2 ≤ n) (hi : i < half n) : sides i n = sides i (half n) ++ [true] := by rw [sides_eq, if_neg (by omega), if_pos hi]
theorem sides_right (i n : Nat) (h : 2 ≤ n) (hi : ¬ i < half n) : sides i n = sides (i - half n) (n - half n) ++ [false] := by rw [sides_eq, if_neg (by omega), if_neg hi]
theorem sides_length (i n : Nat) : (sides i n).length = depth i n := by
  induction n using Nat.strongRecOn generalizing i with
  | _ n ih =>
    by_cases h : n < 2
    · rw [sides_low i n h, depth_eq, if_pos h]; rfl
    · have hb := half_bd n (by omega)
      by_cases hi : i < half n
      · rw [sides_left i n (by omega) hi, depth_left i n (by omega) hi, List.length_append, ih _ hb.2]; rfl
      · rw [sides_right i n (by omega) hi, depth_right i n (by omega) hi, List.length_append, ih _ (by omega)]; rfl
/-- from the top down, as the loop finds them -/
def downs (i n : Nat) : List Bool := (sides i n).reverse
theorem downs_low (i n : Nat) (h : n < 2) : downs i n = [] := by unfold downs; rw [sides_low i n h]; rfl
theorem downs_left (i n : Nat) (h : 2 ≤ n) (hi : i < half n) : downs i n = true :: downs i (half n) := by unfold downs; rw [sides_left i n h hi, List.reverse_concat]
theorem downs_right (i n : Nat) (h : 2 ≤ n) (hi : ¬ i < half n) : downs i n = false :: downs (i - half n) (n - half n) := by unfold downs; rw [sides_right i n h hi, List.reverse_concat]
theorem downs_length (i n : Nat) : (downs i n).length = depth i n := by unfold downs; rw [List.length_reverse, sides_length]

/-- what is hashed at a step -/
def nodeAt (x : ByteArray) (s : Bool) (q : ByteArray) : List UInt8 := if s = true then nodeB x q else nodeB q x
def ups (x : ByteArray) (l : List (Bool × ByteArray)) : ByteArray := l.foldl (fun t s => dg (nodeAt t s.1 s.2)) x
theorem ups_snoc (x : ByteArray) (l : List (Bool × ByteArray)) (s : Bool) (q : ByteArray) : ups x (l ++ [(s, q)]) = dg (nodeAt (ups x l) s q) := by
  unfold ups; rw [List.foldl_append]; rfl
theorem ups_size (x : ByteArray) (l : List (Bool × ByteArray)) (hx : x.size = 32) : (ups x l).size = 32 := by
  rcases List.eq_nil_or_concat l with rfl | ⟨l', s, rfl⟩
  · exact hx
  · obtain ⟨s, q⟩ := s
    rw [List.concat_eq_append, ups_snoc]; exact dg_size _
/-- the first k steps -/
def upTo (x : ByteArray) (S : List Bool) (P : List ByteArray) (k : Nat) : ByteArray := ups x ((S.zip P).take k)
theorem upTo_zero (x : ByteArray) (S : List Bool) (P : List ByteArray) : upTo x S P 0 = x := rfl
theorem upTo_step (x : ByteArray) (S : List Bool) (P : List ByteArray) (k : Nat) (h1 : k < S.length) (h2 : k < P.length) : upTo x S P (k + 1) = dg (nodeAt (upTo x S P k) S[k] P[k]) := by
  unfold upTo
  rw [List.take_succ_eq_append_getElem (by rw [List.length_zip]; omega), List.getElem_zip, ups_snoc]
theorem upTo_all (x : ByteArray) (S : List Bool) (P : List ByteArray) (k : Nat) (h : S.length ≤ k) : upTo x S P k = ups x (S.zip P) := by
  unfold upTo
  rw [List.take_of_length_le (by rw [List.length_zip]; omega)]
theorem zip_snoc {α β : Type} (a : List α) (b : List β) (x : α) (y : β) (h : a.length = b.length) : (a ++ [x]).zip (b ++ [y]) = a.zip b ++ [(x, y)] := by
  rw [List.zip_append h]; rfl
theorem climb_sides (x : ByteArray) (i n : Nat) (p : List ByteArray) (hp : p.length = depth i n) : climb x i n p = some (ups x ((sides i n).zip p)) := by
  induction n using Nat.strongRecOn generalizing i p with
  | _ n ih =>
    by_cases h : n < 2
    · rw [depth_eq, if_pos h] at hp
      have : p = [] := List.eq_nil_of_length_eq_zero hp
      subst this
      rw [climb_low _ _ _ _ h, sides_low i n h, if_pos rfl]; rfl
    · have hb := half_bd n (by omega)
      have hd : 1 ≤ depth i n := by
        rw [depth_eq, if_neg h]; split <;> omega
      have hne : p ≠ [] := by rintro rfl; simp at hp; omega
      have he : p = p.dropLast ++ [p.getLast hne] := (List.dropLast_concat_getLast hne).symm
      obtain ⟨q, z, rfl⟩ : ∃ q z, p = q ++ [z] := ⟨_, _, he⟩
      rw [List.length_append, List.length_singleton] at hp
      have hlast : (q ++ [z]).getLast? = some z := List.getLast?_concat
      by_cases hi : i < half n
      · rw [depth_left i n (by omega) hi] at hp
        rw [climb_left _ _ _ _ _ (by omega) hlast hi, List.dropLast_concat, ih _ hb.2 i q (by omega), sides_left i n (by omega) hi,
          zip_snoc _ _ _ _ (by rw [sides_length]; omega), ups_snoc]
        rfl
      · rw [depth_right i n (by omega) hi] at hp
        rw [climb_right _ _ _ _ _ (by omega) hlast hi, List.dropLast_concat, ih _ (by omega) (i - half n) q (by omega), sides_right i n (by omega) hi,
          zip_snoc _ _ _ _ (by rw [sides_length]; omega), ups_snoc]
        rfl
theorem check_not {p : Pr} {i n : Nat} {P : List ByteArray} {root : ByteArray} (h : ¬ P.length = depth i n) : checkPath p i n P root = false := by
  have hc := climb_length (leafOf p) i n P
  rw [decide_eq_false h] at hc
  unfold checkPath
  cases he : climb (leafOf p) i n P with
  | none => rfl
  | some t => rw [he] at hc; cases hc
theorem check_ups {p : Pr} {i n : Nat} {P : List ByteArray} {root : ByteArray} (h : P.length = depth i n) : checkPath p i n P root = decide (dg (topB (n : Int) (ups (leafOf p) ((sides i n).zip P))) = root) := by
  unfold checkPath
  rw [climb_sides _ _ _ _ h]
theorem half_64 (n : Nat) : half n ≤ 32 := by
  unfold half
  split
  · omega
  · split
    · omega
    · split
      · omega
      · split
        · omega
        · split <;> omega
end Go.Proofs.YtdebbgodhpcijaaGreatDoor.tree

namespace Go.Proofs.YtdebbgodhpcijaaGreatDoor.tree
open Go Go.Proofs.YtdebbgodhpcijaaGreatDoor.base Go.Proofs.YtdebbgodhpcijaaGreatDoor.pairs Go.Proofs.YtdebbgodhpcijaaGreatDoor.puttext Go.Proofs.YtdebbgodhpcijaaGreatDoor.putnum
set_option linter.unusedVariables false
set_option linter.unusedSimpArgs false

def ba (l : List UInt8) : ByteArray := ⟨l.toArray⟩
theorem ba_data (l : List UInt8) : (ba l).data.toList = l := by simp [ba]
/-- the leaf and the first k nodes -/
def wayTo (leaf : List UInt8) (S : List Bool) (P : List ByteArray) : Nat → List (List UInt8)
  | 0 => [leaf]
  | k + 1 => wayTo leaf S P k ++ [nodeAt (upTo (dg leaf) S P k) (S.getD k true) (P.getD k ⟨#[]⟩)]
def wayAll (leaf : List UInt8) (i n : Nat) (P : List ByteArray) : List (List UInt8) := wayTo leaf (sides i n) P P.length ++ [topB (n : Int) (ups (dg leaf) ((sides i n).zip P))]
theorem wayTo_length (leaf : List UInt8) (S : List Bool) (P : List ByteArray) (k : Nat) : (wayTo leaf S P k).length = k + 1 := by
  induction k with
  | zero => rfl
  | succ k ih => rw [wayTo, List.length_append, ih]; rfl
theorem wayTo_step (leaf : List UInt8) (S : List Bool) (P : List ByteArray) (k : Nat) (h1 : k < S.length) (h2 : k < P.length) : wayTo leaf S P (k + 1) = wayTo leaf S P k ++ [nodeAt (upTo (dg leaf) S P k) S[k] P[k]] := by
  rw [wayTo, List.getD_eq_getElem?_getD, List.getD_eq_getElem?_getD, List.getElem?_eq_getElem h1, List.getElem?_eq_getElem h2]; rfl
theorem wayAll_length (leaf : List UInt8) (i n : Nat) (P : List ByteArray) : (wayAll leaf i n P).length = P.length + 2 := by
  unfold wayAll; rw [List.length_append, wayTo_length]; rfl
theorem upTo_snoc (x : ByteArray) (S : List Bool) (P : List ByteArray) (s : Bool) (z : ByteArray) (k : Nat) (hl : S.length = P.length) (hk : k ≤ S.length) : upTo x (S ++ [s]) (P ++ [z]) k = upTo x S P k := by
  unfold upTo
  rw [zip_snoc _ _ _ _ hl, List.take_append_of_le_length (by rw [List.length_zip]; omega)]
theorem wayTo_snoc (leaf : List UInt8) (S : List Bool) (P : List ByteArray) (s : Bool) (z : ByteArray) (hl : S.length = P.length) (k : Nat) (hk : k ≤ S.length) : wayTo leaf (S ++ [s]) (P ++ [z]) k = wayTo leaf S P k := by
  induction k with
  | zero => rfl
  | succ k ih =>
    rw [wayTo, wayTo, ih (by omega), upTo_snoc _ _ _ _ _ _ hl (by omega)]
    rw [List.getD_eq_getElem?_getD, List.getD_eq_getElem?_getD, List.getD_eq_getElem?_getD, List.getD_eq_getElem?_getD, List.getElem?_append_left (by omega), List.getElem?_append_left (by omega)]
theorem hashed_top (leaf : List UInt8) (i n : Nat) (P o : List ByteArray) (h : hashed leaf i n P = some o) (hp : P.length = depth i n) : dg (o.getLastD ⟨#[]⟩).data.toList = ups (dg leaf) ((sides i n).zip P) := by
  have h1 := climb_hashed leaf i n P
  rw [h, climb_sides _ _ _ _ hp] at h1
  exact (Option.some.inj h1).symm
theorem hashed_way (leaf : List UInt8) (i n : Nat) (P : List ByteArray) (hp : P.length = depth i n) : hashed leaf i n P = some ((wayTo leaf (sides i n) P P.length).map ba) := by
  induction n using Nat.strongRecOn generalizing i P with
  | _ n ih =>
    by_cases h : n < 2
    · rw [depth_eq, if_pos h] at hp
      have : P = [] := List.eq_nil_of_length_eq_zero hp
      subst this
      rw [hashed_low _ _ _ _ h, if_pos rfl]; rfl
    · have hb := half_bd n (by omega)
      have hd : 1 ≤ depth i n := by rw [depth_eq, if_neg h]; split <;> omega
      have hne : P ≠ [] := by rintro rfl; simp at hp; omega
      obtain ⟨q, z, rfl⟩ : ∃ q z, P = q ++ [z] := ⟨_, _, (List.dropLast_concat_getLast hne).symm⟩
      rw [List.length_append, List.length_singleton] at hp
      have hlast : (q ++ [z]).getLast? = some z := List.getLast?_concat
      by_cases hi : i < half n
      · rw [depth_left i n (by omega) hi] at hp
        have hq : q.length = depth i (half n) := by omega
        have hsl : (sides i (half n)).length = q.length := by rw [sides_length, hq]
        have hrec := ih _ hb.2 i q hq
        have ht := hashed_top _ _ _ _ _ hrec hq
        rw [hashed_left _ _ _ _ _ (by omega) hlast hi, List.dropLast_concat, hrec, Option.map_some, ht, sides_left i n (by omega) hi]
        rw [List.length_append, List.length_singleton, wayTo, wayTo_snoc _ _ _ _ _ hsl _ (by omega), upTo_snoc _ _ _ _ _ _ hsl (by omega), upTo_all _ _ _ _ (by omega), List.map_append]
        congr 2
        rw [show (sides i (half n) ++ [true]).getD q.length true = true by rw [← hsl]; simp, show (q ++ [z]).getD q.length ⟨#[]⟩ = z by simp]
        rfl
      · rw [depth_right i n (by omega) hi] at hp
        have hq : q.length = depth (i - half n) (n - half n) := by omega
        have hsl : (sides (i - half n) (n - half n)).length = q.length := by rw [sides_length, hq]
        have hrec := ih _ (by omega) (i - half n) q hq
        have ht := hashed_top _ _ _ _ _ hrec hq
        rw [hashed_right _ _ _ _ _ (by omega) hlast hi, List.dropLast_concat, hrec, Option.map_some, ht, sides_right i n (by omega) hi]
        rw [List.length_append, List.length_singleton, wayTo, wayTo_snoc _ _ _ _ _ hsl _ (by omega), upTo_snoc _ _ _ _ _ _ hsl (by omega), upTo_all _ _ _ _ (by omega), List.map_append]
        congr 2
        rw [show (sides (i - half n) (n - half n) ++ [false]).getD q.length true = false by rw [← hsl]; simp, show (q ++ [z]).getD q.length ⟨#[]⟩ = z by simp]
        rfl
theorem allOf_way (leaf : List UInt8) (i n : Nat) (P : List ByteArray) (hp : P.length = depth i n) : allOf leaf i n P = some ((wayAll leaf i n P).map ba) := by
  have h := hashed_way leaf i n P hp
  have ht := hashed_top _ _ _ _ _ h hp
  unfold allOf wayAll
  rw [h, Option.map_some, ht, List.map_append]
  rfl
theorem allOf_not (leaf : List UInt8) (i n : Nat) (P : List ByteArray) (hp : ¬ P.length = depth i n) : allOf leaf i n P = none := by
  have h1 := climb_length (dg leaf) i n P
  rw [decide_eq_false hp, climb_hashed] at h1
  unfold allOf
  cases h : hashed leaf i n P with
  | none => rfl
  | some o => rw [h] at h1; cases h1
end Go.Proofs.YtdebbgodhpcijaaGreatDoor.tree

namespace Go.Proofs.YtdebbgodhpcijaaGreatDoor.tree
open Go Go.RowKit Go.Proofs.YtdebbgodhpcijaaGreatDoor.base Go.Proofs.YtdebbgodhpcijaaGreatDoor.pairs Go.Proofs.YtdebbgodhpcijaaGreatDoor.puttext Go.Proofs.YtdebbgodhpcijaaGreatDoor.putnum
set_option linter.unusedVariables false
set_option linter.unusedSimpArgs false

/-- how many bits a number from 1 to 63 has -/
def bl (x : Nat) : Nat := if x < 2 then 1 else if x < 4 then 2 else if x < 8 then 3 else if x < 16 then 4 else if x < 32 then 5 else 6
theorem bl_le (q : Nat) : bl q ≤ 6 := by
  unfold bl
  repeat' split
  all_goals omega
theorem bytes_at (l : List UInt8) (q : Nat) (h : q < (⟨l.toArray⟩ : ByteArray).size) : (⟨l.toArray⟩ : ByteArray)[q]'h = l.getD q 0 := by
  have hq : q < l.length := by have : (⟨l.toArray⟩ : ByteArray).size = l.length := by show l.toArray.size = _; simp
                               omega
  show l.toArray[q]'(by simpa using hq) = _
  simp [List.getD, hq]
theorem blAll (l : List UInt8) (hl : ((List.range 64).all fun q => q == 0 || (l.getD q 0).toNat == bl q) = true) (q : Nat) (h1 : 1 ≤ q) (h2 : q < 64) (h : q < (⟨l.toArray⟩ : ByteArray).size) : wrap64 (wrap64 (((⟨l.toArray⟩ : ByteArray)[q]'h).toNat : Int)) = (bl q : Int) := by
  have hx := List.all_eq_true.1 hl q (List.mem_range.2 h2)
  have hb := bl_le q
  have hx2 : (l.getD q 0).toNat = bl q := by
    rcases Bool.or_eq_true _ _ ▸ hx with h3 | h3
    · have := eq_of_beq h3; omega
    · exact eq_of_beq h3
  rw [bytes_at, hx2, IntWalk.wrap64_in (bl q : Int) (by omega), IntWalk.wrap64_in (bl q : Int) (by omega)]
theorem blTab (q : Nat) (h1 : 1 ≤ q) (h2 : q < 64) (h : q < (⟨#[0, 1, 2, 2, 3, 3, 3, 3, 4, 4, 4, 4, 4, 4, 4, 4, 5, 5, 5, 5, 5, 5, 5, 5, 5, 5, 5, 5, 5, 5, 5, 5, 6, 6, 6, 6, 6, 6, 6, 6, 6, 6, 6, 6, 6, 6, 6, 6, 6, 6, 6, 6, 6, 6, 6, 6, 6, 6, 6, 6, 6, 6, 6, 6, 7, 7, 7, 7, 7, 7, 7, 7, 7, 7, 7, 7, 7, 7, 7, 7, 7, 7, 7, 7, 7, 7, 7, 7, 7, 7, 7, 7, 7, 7, 7, 7, 7, 7, 7, 7, 7, 7, 7, 7, 7, 7, 7, 7, 7, 7, 7, 7, 7, 7, 7, 7, 7, 7, 7, 7, 7, 7, 7, 7, 7, 7, 7, 7, 8, 8, 8, 8, 8, 8, 8, 8, 8, 8, 8, 8, 8, 8, 8, 8, 8, 8, 8, 8, 8, 8, 8, 8, 8, 8, 8, 8, 8, 8, 8, 8, 8, 8, 8, 8, 8, 8, 8, 8, 8, 8, 8, 8, 8, 8, 8, 8, 8, 8, 8, 8, 8, 8, 8, 8, 8, 8, 8, 8, 8, 8, 8, 8, 8, 8, 8, 8, 8, 8, 8, 8, 8, 8, 8, 8, 8, 8, 8, 8, 8, 8, 8, 8, 8, 8, 8, 8, 8, 8, 8, 8, 8, 8, 8, 8, 8, 8, 8, 8, 8, 8, 8, 8, 8, 8, 8, 8, 8, 8, 8, 8, 8, 8, 8, 8, 8, 8, 8, 8, 8, 8, 8, 8, 8, 8, 8, 8]⟩ : ByteArray).size) : wrap64 (wrap64 (((⟨#[0, 1, 2, 2, 3, 3, 3, 3, 4, 4, 4, 4, 4, 4, 4, 4, 5, 5, 5, 5, 5, 5, 5, 5, 5, 5, 5, 5, 5, 5, 5, 5, 6, 6, 6, 6, 6, 6, 6, 6, 6, 6, 6, 6, 6, 6, 6, 6, 6, 6, 6, 6, 6, 6, 6, 6, 6, 6, 6, 6, 6, 6, 6, 6, 7, 7, 7, 7, 7, 7, 7, 7, 7, 7, 7, 7, 7, 7, 7, 7, 7, 7, 7, 7, 7, 7, 7, 7, 7, 7, 7, 7, 7, 7, 7, 7, 7, 7, 7, 7, 7, 7, 7, 7, 7, 7, 7, 7, 7, 7, 7, 7, 7, 7, 7, 7, 7, 7, 7, 7, 7, 7, 7, 7, 7, 7, 7, 7, 8, 8, 8, 8, 8, 8, 8, 8, 8, 8, 8, 8, 8, 8, 8, 8, 8, 8, 8, 8, 8, 8, 8, 8, 8, 8, 8, 8, 8, 8, 8, 8, 8, 8, 8, 8, 8, 8, 8, 8, 8, 8, 8, 8, 8, 8, 8, 8, 8, 8, 8, 8, 8, 8, 8, 8, 8, 8, 8, 8, 8, 8, 8, 8, 8, 8, 8, 8, 8, 8, 8, 8, 8, 8, 8, 8, 8, 8, 8, 8, 8, 8, 8, 8, 8, 8, 8, 8, 8, 8, 8, 8, 8, 8, 8, 8, 8, 8, 8, 8, 8, 8, 8, 8, 8, 8, 8, 8, 8, 8, 8, 8, 8, 8, 8, 8, 8, 8, 8, 8, 8, 8, 8, 8, 8, 8, 8, 8]⟩ : ByteArray)[q]'h).toNat : Int)) = (bl q : Int) :=
  blAll _ (by kernel_rfl) q h1 h2 h

set_option maxRecDepth 100000 in
set_option maxHeartbeats 1000000 in
theorem len64 (y : Int) (w : World) (h1 : 1 ≤ y) (h2 : y < 64) :
    Calls Tryz.prog 107 #[.int .u64 y] w fun e w' => e = .returned (.int .i64 (bl y.toNat : Int)) ∧ w' = w := by
  go_enter Tryz.func107, Tryz.ntmps107
  go_wp2_with fail
  go_ret
  exact ⟨ret_int (blTab _ (by omega) (by omega) _), rfl⟩

set_option maxHeartbeats 1000000 in
theorem bitsLen (y : Int) (w : World) (h1 : 1 ≤ y) (h2 : y < 64) :
    Calls Tryz.prog 98 #[.int .u64 y] w fun e w' => e = .returned (.int .i64 (bl y.toNat : Int)) ∧ w' = w := by
  have HL := Hid.mk' (len64 y w h1 h2)
  go_enter Tryz.func98, Tryz.ntmps98
  go_wp2_with fail
  refine HL.out.mono ?_
  rintro e w1 ⟨rfl, hw1⟩
  subst hw1
  go_wp2_with fail
  go_ret
  exact ⟨rfl, rfl⟩

set_option maxHeartbeats 2000000 in
theorem impl_half (n : Nat) (w : World) (h : 2 ≤ n) (h64 : n ≤ 64) :
    Calls Tryz.prog 80 #[.int .i64 (n : Int)] w fun e w' => e = .returned (.int .i64 (half n : Int)) ∧ w' = w := by
  have hL := bitsLen ((n : Int) - 1) w (by omega) (by omega)
  have hb : ∃ k : Nat, bl ((n : Int) - 1).toNat = k ∧ (k = 1 ∧ half n = 1 ∨ k = 2 ∧ half n = 2 ∨ k = 3 ∧ half n = 4 ∨ k = 4 ∧ half n = 8 ∨ k = 5 ∧ half n = 16 ∨ k = 6 ∧ half n = 32) := by
    refine ⟨_, rfl, ?_⟩
    unfold bl half
    repeat' split
    all_goals omega
  obtain ⟨k, hk, hb⟩ := hb
  rw [hk] at hL
  have e1 : IntKind.u64.wrap ((n : Int) - 1) = (n : Int) - 1 := by rw [IntKind.wrap_u64]; omega
  have HL := Hid.mk' hL
  clear hL hk
  rcases hb with ⟨rfl, hh⟩ | ⟨rfl, hh⟩ | ⟨rfl, hh⟩ | ⟨rfl, hh⟩ | ⟨rfl, hh⟩ | ⟨rfl, hh⟩
  all_goals
    rw [hh]
    clear hh
    go_enter Tryz.func80, Tryz.ntmps80
    go_wp2_with fail
    refine HL.out.mono ?_
    rintro e w1 ⟨rfl, hw1⟩
    subst hw1
    go_wp2_with fail
    go_ret
    exact ⟨rfl, rfl⟩
end Go.Proofs.YtdebbgodhpcijaaGreatDoor.tree

namespace Go.Proofs.YtdebbgodhpcijaaGreatDoor.tree
open Go Go.RowKit Go.Proofs.YtdebbgodhpcijaaGreatDoor.base Go.Proofs.YtdebbgodhpcijaaGreatDoor.pairs Go.Proofs.YtdebbgodhpcijaaGreatDoor.puttext Go.Proofs.YtdebbgodhpcijaaGreatDoor.putnum
set_option linter.unusedVariables false
set_option linter.unusedSimpArgs false

set_option maxHeartbeats 1000000 in
theorem impl_placeOk (I N : Int) (w : World) :
    Calls Tryz.prog 84 #[.int .i64 I, .int .i64 N] w fun e w' => e = .returned (.bool (decide (N ≤ 60) && decide (0 ≤ I) && decide (I < N))) ∧ w' = w := by
  by_cases h1 : N ≤ 60
  · by_cases h2 : 0 ≤ I
    · by_cases h3 : I < N
      · go_enter Tryz.func84, Tryz.ntmps84
        go_wp2
        go_ret
        exact ⟨ret_bool (by simp [h1, h2, h3]), rfl⟩
      · go_enter Tryz.func84, Tryz.ntmps84
        go_wp2
        go_ret
        exact ⟨ret_bool (by have h4 : ¬ I < N := by omega
                            simp [h1, h2, h4]), rfl⟩
    · go_enter Tryz.func84, Tryz.ntmps84
      go_wp2
      go_ret
      exact ⟨ret_bool (by have h4 : ¬ 0 ≤ I := by omega
                          simp [h1, h4]), rfl⟩
  · go_enter Tryz.func84, Tryz.ntmps84
    go_wp2
    go_ret
    exact ⟨ret_bool (by have h4 : ¬ N ≤ 60 := by omega
                        simp [h4]), rfl⟩

set_option maxRecDepth 100000 in
set_option maxHeartbeats 1000000 in
theorem impl_halves (b off n cap : Nat) (w : World) (h : 2 ≤ n) (h64 : n ≤ 60) (hcap : n ≤ cap) (k : Nat) (hk : half n = k) :
    Calls Tryz.prog 56 #[.slice (some ⟨b, off, none⟩) n cap] w fun e w' =>
      e = .returned (.tuple #[.slice (some ⟨b, off, none⟩) k k, .slice (some ⟨b, off + k * 2, none⟩) (n - k) (n - k)]) ∧ Below w.heap.size w w' := by
  have hbd := half_bd n h
  have hL := impl_half n w h (by omega)
  rw [hk] at hL hbd
  have HL := Hid.mk' hL
  clear hL hk
  have q1 : (k : Int) ≤ (cap : Int) := by omega
  have q3 : (k : Int) ≤ (n : Int) := by omega
  have q4 : (n : Int) ≤ (cap : Int) := by omega
  have q2 : ¬ n = k := by omega
  go_enter Tryz.func56, Tryz.ntmps56
  go_wp2_with fail
  refine HL.out.mono ?_
  rintro e w1 ⟨rfl, hw1⟩
  subst hw1
  go_wp2_with fail
  go_region
  go_wp2_with fail
  go_ret2
  exact ⟨rfl, (Below.refl _ _).drew⟩

/-! ### a row of truths turned round -/
theorem getD_set (l : List Bool) (i x : Nat) (v : Bool) (h : i < l.length) : (l.set i v).getD x false = if x = i then v else l.getD x false := by
  simp only [List.getD, List.getElem?_set]
  by_cases he : i = x
  · subst he; simp [h]
  · rw [if_neg he, if_neg (fun e => he e.symm)]
def Rev (zs : List Bool) (r : Nat) (ys : List Bool) : Prop := ys.length = zs.length ∧ ∀ x, x < zs.length → ys.getD x false = if x < r ∨ zs.length - r ≤ x then zs.getD (zs.length - 1 - x) false else zs.getD x false
theorem rev_zero (zs : List Bool) : Rev zs 0 zs := ⟨rfl, fun x hx => by rw [if_neg (by omega)]⟩
theorem rev_step {zs ys : List Bool} {r j : Nat} (h : Rev zs r ys) (hj : r + j + 1 = zs.length) (hlt : r < j) : Rev zs (r + 1) ((ys.set r (ys.getD j false)).set j (ys.getD r false)) := by
  obtain ⟨h1, h2⟩ := h
  refine ⟨by simpa using h1, fun x hx => ?_⟩
  rw [getD_set _ _ _ _ (by simp; omega), getD_set _ _ _ _ (by omega)]
  have hr := h2 r (by omega)
  have hjj := h2 j (by omega)
  rw [if_neg (by omega)] at hr hjj
  by_cases e1 : x = j
  · subst e1
    rw [if_pos rfl, hr, if_pos (by omega), show zs.length - 1 - x = r by omega]
  · rw [if_neg e1]
    by_cases e2 : x = r
    · subst e2
      rw [if_pos rfl, hjj, if_pos (by omega), show zs.length - 1 - x = j by omega]
    · rw [if_neg e2, h2 x hx]
      by_cases e3 : x < r ∨ zs.length - r ≤ x
      · rw [if_pos e3, if_pos (by omega)]
      · rw [if_neg e3, if_neg (by omega)]
theorem rev_end {zs ys : List Bool} {r : Nat} (h : Rev zs r ys) (hr : zs.length ≤ 2 * r + 1) : ys = zs.reverse := by
  obtain ⟨h1, h2⟩ := h
  refine List.ext_getElem (by simpa using h1) (fun x hx hx2 => ?_)
  have hxz : x < zs.length := by omega
  have := h2 x hxz
  rw [List.getElem_reverse]
  have e1 : ys.getD x false = ys[x] := by simp [List.getD, hx]
  have e2 : ∀ y (hy : y < zs.length), zs.getD y false = zs[y] := fun y hy => by simp [List.getD, hy]
  rw [e1] at this
  rw [this]
  by_cases e3 : x < r ∨ zs.length - r ≤ x
  · rw [if_pos e3, e2 _ (by omega)]
  · rw [if_neg e3, e2 _ hxz]
    congr 1; omega
theorem ownB_swap {w : World} {base g n cap : Nat} {ys : List Bool} (h : OwnB w base g n cap ys) (i j : Nat) (a b : Bool) :
    OwnB ((w.setCell ⟨g, i, none⟩ (.bool a)).setCell ⟨g, j, none⟩ (.bool b)) base g n cap ((ys.set i a).set j b) ∧ w.grownBy ((w.setCell ⟨g, i, none⟩ (.bool a)).setCell ⟨g, j, none⟩ (.bool b)) (some g) := by
  have h1 := ownB_set h i a
  have h2 := ownB_set h1.1 j b
  exact ⟨h2.1, grownBy_trans h1.2 h2.2⟩
theorem ownB_getD {w : World} {base g n cap : Nat} {ys : List Bool} (h : OwnB w base g n cap ys) (i : Nat) (hi : i < n) : w.cell? ⟨g, i, none⟩ = some (.bool (ys.getD i false)) := by
  have hl := h.1
  rw [h.at i (by omega)]
  simp [List.getD, show i < ys.length by omega]

set_option maxRecDepth 100000 in
set_option maxHeartbeats 2000000 in
theorem reverseB (g n cap base : Nat) (zs : List Bool) (w : World) (h : OwnB w base g n cap zs) (hsz : n ≤ 1000) :
    Calls Tryz.prog 105 #[.slice (some ⟨g, 0, none⟩) n cap] w fun e w' => e = .returned (.tuple #[]) ∧ OwnB w' base g n cap zs.reverse ∧ w.grownBy w' (some g) := by
  have hl := h.1
  have hmx := h.max
  go_enter Tryz.func105, Tryz.ntmps105
  go_wp2_with fail
  go_loopw [2, 3] (fun a b wr => ∃ (r : Nat) (J : Int) (ys : List Bool), a = .int .i64 (r : Int) ∧ b = .int .i64 J ∧ J = (n : Int) - 1 - r ∧ r ≤ n ∧ OwnB wr base g n cap ys ∧ Rev zs r ys ∧ w.grownBy wr (some g)) (fun a _ _ => n - (intOf a).toNat)
  case atStart => exact ⟨0, (n : Int) - 1, zs, rfl, rfl, by omega, Nat.zero_le _, h, rev_zero zs, ⟨rfl, rfl, rfl, Nat.le_refl _, fun _ _ _ => rfl⟩⟩
  case round =>
    obtain ⟨r, J, ys, rfl, rfl, hJ, hr, hO, hR, hG⟩ := hrel
    by_cases hlt : (r : Int) < J
    · obtain ⟨j, hj⟩ : ∃ j : Nat, J = (j : Int) := ⟨J.toNat, by omega⟩
      subst hj
      have c1 := ownB_getD hO r (by omega)
      have c2 := ownB_getD hO j (by omega)
      have f1 := hO.frozen r
      have f2 := hO.frozen j
      have HR := Hid.mk' (rev_step hR (j := j) (by omega) (by omega))
      have HS := Hid.mk' (ownB_swap hO r j (ys.getD j false) (ys.getD r false))
      have HG := Hid.mk' hG
      have HJ : Hid (r + j + 1 = n) := by show _ = _; omega
      have hjn : j < n := by omega
      have hrj : r < j := by omega
      generalize ys.getD j false = y1 at *
      generalize ys.getD r false = y2 at *
      clear hO hR hG hJ h hl
      go_wp2_with fail
      go_region
      go_wp2_with fail
      go_roundw
      case rel => exact ⟨r + 1, (j : Int) - 1, _, by go_num, rfl, by have := HJ.out; omega, by omega, HS.out.1, HR.out, grownBy_trans HG.out (grown_drewN HS.out.2 1)⟩
      case measure => simp [intOf]; omega
    · have HE := Hid.mk' (rev_end hR (by omega))
      have HO := Hid.mk' hO
      clear hO hR hJ h hl
      go_wp2_with fail
      go_end0
      exact ⟨rfl, by rw [← HE.out]; exact HO.out, hG⟩

set_option maxRecDepth 100000 in
set_option maxHeartbeats 4000000 in
theorem impl_sides (i0 n0 : Nat) (w : World) (hin0 : i0 < n0) (h60 : n0 ≤ 60) :
    Calls Tryz.prog 95 #[.int .i64 (i0 : Int), .int .i64 (n0 : Int)] w fun e w' =>
      ∃ g' n' cap', e = .returned (.slice (some ⟨g', 0, none⟩) n' cap') ∧ OwnB w' w.heap.size g' n' cap' (sides i0 n0) ∧ Below w.heap.size w w' := by
  obtain ⟨inf, hi, hz0, hz1, hz2⟩ := info_parts infoBool
  have hD : (downs i0 n0).length ≤ 60 := by rw [downs_length]; have := depth_le i0 n0; omega
  have hO0 := ownB_made w w.heap.size (Nat.le_refl _)
  have hB0 : Below w.heap.size w (w.alloc (.cells #[] 4)) := (Below.refl _ _).alloc (Nat.le_refl _) _
  go_enter Tryz.func95, Tryz.ntmps95
  go_wp2_with (at_builtin; fail)
  go_loopw [0, 1, 5] (fun iv nv sv wr => ∃ (i n g k cap : Nat) (acc : List Bool), iv = .int .i64 (i : Int) ∧ nv = .int .i64 (n : Int) ∧ sv = .slice (some ⟨g, 0, none⟩) k cap ∧ i < n ∧ n ≤ 60 ∧ acc ++ downs i n = downs i0 n0 ∧ OwnB wr w.heap.size g k cap acc ∧ Below w.heap.size w wr) (fun _ nv _ _ => (intOf nv).toNat)
  case atStart => exact ⟨i0, n0, w.heap.size, 0, 0, [], rfl, rfl, rfl, hin0, h60, rfl, hO0, hB0⟩
  case round =>
    obtain ⟨i, n, g, k, cap, acc, rfl, rfl, rfl, hin, hn60, hacc, hO, hB⟩ := hrel
    clear hO0 hB0
    have hk := hO.1
    have hlen : k + (downs i n).length ≤ 60 := by rw [← hk, ← List.length_append, hacc]; exact hD
    have hs := hB.size
    by_cases h2 : 2 ≤ n
    · have hbd := half_bd n h2
      have hL := fun wx => impl_half n wx h2 (by omega)
      have h2i : (1 : Int) < (n : Int) := by omega
      by_cases hik : i < half n
      · have hdl := downs_left i n h2 hik
        obtain ⟨m, hm⟩ : ∃ m, half n = m := ⟨_, rfl⟩
        rw [hm] at hL hbd hik hdl
        have hiki : (i : Int) < (m : Int) := by omega
        rw [hdl] at hacc
        have HA : Hid ((acc ++ [true]) ++ downs i m = downs i0 n0) := by show _ = _; rw [← hacc]; simp
        have HL := Hid.mk' hL
        have hc3 : k + 1 ≤ maxLen := by unfold maxLen; omega
        have hc4 : (k + 1) * 1 ≤ 140737488355328 := by omega
        clear hL hm hdl hacc hk hlen
        go_wp2_with (at_builtin; fail)
        refine (HL.out _).mono ?_
        rintro e w1 ⟨rfl, hw1⟩
        subst hw1
        go_wp2_with (at_builtin; refine wpList_append_own _ rfl (.tmp 12) (.tmp 16) 118 rfl w.heap.size 4 inf (.bool false) 1 1 Tryz.underlying118 hi hz0 hz1 hz2 rfl (by decide) _ _ _ rfl (hO.2.alloc _) ⟨w1.heap.size, 0, none⟩ 1 1 [.bool true] rfl rfl (cell_one_new _ _ _) (bool_oneCell _) hc3 hc4 (le_alloc _ _ hs) ?_)
        intro v9 w9 hown hgrow hnn
        have hnn' : ¬ v9 = .slice none 0 0 := by simpa using hnn
        obtain ⟨g9, cap9, hv, hO9⟩ := ownB_val (zs := acc ++ [true]) (n := k + 1) (by have := hO.1; simp; omega) hnn' (by simpa [boolVals] using hown)
        subst hv
        have hB9 : Below w.heap.size w w9 := (hB.alloc hs _).grown hgrow (le_alloc _ _ hs) (fun k e => by simp [Value.ownBlock] at e; have := hO.lt; omega)
        have HO9 := Hid.mk' hO9
        clear hown hgrow hnn hnn' hO9 hO hB
        go_wp2_with (at_builtin; fail)
        go_roundw
        case rel => exact ⟨i, m, g9, k + 1, cap9, acc ++ [true], rfl, rfl, rfl, by omega, by omega, HA.out, HO9.out, hB9⟩
        case measure => simp [intOf]; omega
      · have hdl := downs_right i n h2 hik
        obtain ⟨m, hm⟩ : ∃ m, half n = m := ⟨_, rfl⟩
        rw [hm] at hL hbd hik hdl
        have hiki : ¬ (i : Int) < (m : Int) := by omega
        rw [hdl] at hacc
        have HA : Hid ((acc ++ [false]) ++ downs (i - m) (n - m) = downs i0 n0) := by show _ = _; rw [← hacc]; simp
        have HL := Hid.mk' hL
        have hc3 : k + 1 ≤ maxLen := by unfold maxLen; omega
        have hc4 : (k + 1) * 1 ≤ 140737488355328 := by omega
        clear hL hm hdl hacc hk hlen
        go_wp2_with (at_builtin; fail)
        refine (HL.out _).mono ?_
        rintro e w1 ⟨rfl, hw1⟩
        subst hw1
        go_wp2_with (at_builtin; refine wpList_append_own _ rfl (.tmp 12) (.tmp 16) 118 rfl w.heap.size 4 inf (.bool false) 1 1 Tryz.underlying118 hi hz0 hz1 hz2 rfl (by decide) _ _ _ rfl (hO.2.alloc _) ⟨w1.heap.size, 0, none⟩ 1 1 [.bool false] rfl rfl (cell_one_new _ _ _) (bool_oneCell _) hc3 hc4 (le_alloc _ _ hs) ?_)
        intro v9 w9 hown hgrow hnn
        have hnn' : ¬ v9 = .slice none 0 0 := by simpa using hnn
        obtain ⟨g9, cap9, hv, hO9⟩ := ownB_val (zs := acc ++ [false]) (n := k + 1) (by have := hO.1; simp; omega) hnn' (by simpa [boolVals] using hown)
        subst hv
        have hB9 : Below w.heap.size w w9 := (hB.alloc hs _).grown hgrow (le_alloc _ _ hs) (fun k e => by simp [Value.ownBlock] at e; have := hO.lt; omega)
        have HO9 := Hid.mk' hO9
        clear hown hgrow hnn hnn' hO9 hO hB
        go_wp2_with (at_builtin; fail)
        go_roundw
        case rel => exact ⟨i - m, n - m, g9, k + 1, cap9, acc ++ [false], by go_num, by go_num, rfl, by omega, by omega, HA.out, HO9.out, hB9⟩
        case measure => simp [intOf]; omega
    · have h2i : ¬ (1 : Int) < (n : Int) := by omega
      rw [downs_low i n (by omega), List.append_nil] at hacc
      have HA : Hid (acc.reverse = sides i0 n0) := by show _ = _; rw [hacc]; unfold downs; simp
      have HR := Hid.mk' (reverseB g k cap w.heap.size acc wr hO (by omega))
      have hg := hO.lt.1
      have HB := Hid.mk' hB
      clear hO hacc hB
      go_wp2_with (at_builtin; fail)
      refine HR.out.mono ?_
      rintro e w1 ⟨rfl, hO1, hG1⟩
      rw [HA.out] at hO1
      have HO := Hid.mk' hO1
      have hB1 : Below w.heap.size w w1 := HB.out.trans (below_grown hG1 hg HB.out.size)
      clear hO1 hG1
      go_wp2_with (at_builtin; fail)
      go_ret
      exact ⟨g, k, cap, rfl, HO.out, hB1⟩
end Go.Proofs.YtdebbgodhpcijaaGreatDoor.tree

namespace Go.Proofs.YtdebbgodhpcijaaGreatDoor.tree
open Go Go.RowKit Go.Proofs.YtdebbgodhpcijaaGreatDoor.base Go.Proofs.YtdebbgodhpcijaaGreatDoor.pairs Go.Proofs.YtdebbgodhpcijaaGreatDoor.puttext Go.Proofs.YtdebbgodhpcijaaGreatDoor.putnum
set_option linter.unusedVariables false
set_option linter.unusedSimpArgs false

theorem texts_two (a b : ByteArray) : textsBytes [a, b] = textBytes a ++ textBytes b := by simp [textsBytes]
set_option maxRecDepth 100000 in
set_option maxHeartbeats 1000000 in
theorem impl_leafBytes (p : Pr) (w : World) (hp : lim p) :
    Calls Tryz.prog 79 #[.agg #[.string p.1, .string p.2]] w fun e w' =>
      ∃ g' n' cap', e = .returned (.slice (some ⟨g', 0, none⟩) n' cap') ∧ Own w' w.heap.size g' n' cap' (leafB p) ∧ Below w.heap.size w w' := by
  have hp1 := hp.1
  have hp2 := hp.2
  have ht1 := textBytes_length p.1
  have ht2 := textBytes_length p.2
  obtain ⟨W0, hW0⟩ : ∃ W, W = w.alloc (.cells #[.string p.1, .string p.2] 49) := ⟨_, rfl⟩
  obtain ⟨W1, hW1⟩ : ∃ W, W = W0.alloc (.cells #[.int .u8 0] 5) := ⟨_, rfl⟩
  have hs0 : W0.heap.size = w.heap.size + 1 := by rw [hW0]; simp
  have hs1 : W1.heap.size = w.heap.size + 1 + 1 := by rw [hW1]; simp [hs0]
  have hB0 : Below w.heap.size w W0 := by rw [hW0]; exact (Below.refl _ _).alloc (Nat.le_refl _) _
  have hB1 : Below w.heap.size w W1 := by rw [hW1]; exact hB0.alloc hB0.size _
  have hB2 : Below w.heap.size w (W1.alloc (.cells #[.string p.1, .string p.2] 9)) := hB1.alloc hB1.size _
  have hO1 : Own W1 w.heap.size W0.heap.size 1 1 [0] := by rw [hW1]; exact own_one W0 0 0 rfl w.heap.size hB0.size
  have hO2 : Own (W1.alloc (.cells #[.string p.1, .string p.2] 9)) w.heap.size (w.heap.size + 1) 1 1 [0] := by
    have := hO1.below ((Below.refl W1.heap.size W1).alloc (Nat.le_refl _) (.cells #[.string p.1, .string p.2] 9))
    rw [hs0] at this; exact this
  have hS : SlS (W1.alloc (.cells #[.string p.1, .string p.2] 9)) (some ⟨w.heap.size + 1 + 1, 0, none⟩) 2 [p.1, p.2] := by
    refine ⟨rfl, by unfold maxLen; omega, fun s hs => ?_, fun _ => ⟨_, _, rfl, fun i hi => ?_⟩⟩
    · simp at hs; unfold maxLen; rcases hs with rfl | rfl <;> omega
    · rw [← hs1]
      match i, hi with
      | 0, _ => simp
      | 1, _ => simp
  have hblk : ∀ b off, (some ⟨w.heap.size + 1 + 1, 0, none⟩ : Option Addr) = some ⟨b, off, none⟩ → ∃ cur mk, (W1.alloc (.cells #[.string p.1, .string p.2] 9)).heap[b]? = some (.cells cur 9 mk) := by
    intro b off e
    simp only [Option.some.injEq, Addr.mk.injEq, and_true] at e
    obtain ⟨rfl, rfl⟩ := e
    rw [← hs1]
    exact ⟨_, _, heap_alloc_new W1 _⟩
  have hA := addTexts (w.heap.size + 1) 1 1 w.heap.size [0] (some ⟨w.heap.size + 1 + 1, 0, none⟩) 2 2 [p.1, p.2] _ hO2 hB2.size hS hblk (by rw [texts_two, List.length_append]; omega) (fun s hs => by simp at hs; rcases hs with rfl | rfl <;> omega)
  rw [texts_two] at hA
  have HA := Hid.mk' hA
  have HB := Hid.mk' hB2
  have HW : Hid (W1 = (w.alloc (.cells #[.string p.1, .string p.2] 49)).alloc (.cells #[.int .u8 0] 5)) := by show _ = _; rw [hW1, hW0]
  clear hA hO1 hO2 hS hblk hB0 hB1 hB2 hW0 hW1 hs0 hs1 ht1 ht2
  have HA2 := HA
  rw [HW.out] at HA HB
  clear HA2
  go_enter Tryz.func79, Tryz.ntmps79
  go_wp2_with fail
  refine HA.out.mono ?_
  rintro e w1 ⟨g1, n1, cap1, rfl, hO, hb, _⟩
  have HO := Hid.mk' hO
  have hB : Below w.heap.size w w1 := HB.out.trans hb
  clear hO hb
  go_wp2_with fail
  go_ret
  exact ⟨g1, n1, cap1, rfl, by have := HO.out; rw [← List.append_assoc] at this; exact this, hB⟩

set_option maxHeartbeats 1000000 in
theorem impl_leafOf (p : Pr) (w : World) (hp : lim p) (hK : sha.KW w) :
    Calls Tryz.prog 55 #[.agg #[.string p.1, .string p.2]] w fun e w' => e = .returned (.string (leafOf p)) ∧ Below w.heap.size w w' := by
  have hba : Below w.heap.size w (w.alloc (.cells #[.string p.1, .string p.2] 49)) := (Below.refl _ _).alloc (Nat.le_refl _) _
  have hlen := leafB_length p
  have hp1 := hp.1
  have hp2 := hp.2
  have HL := Hid.mk' (impl_leafBytes p (w.alloc (.cells #[.string p.1, .string p.2] 49)) hp)
  go_enter Tryz.func55, Tryz.ntmps55
  go_wp2_with fail
  refine HL.out.mono ?_
  rintro e w1 ⟨g, n, cp, rfl, hO, hb1⟩
  have hB1 : Below w.heap.size w w1 := hba.trans (hb1.mono hba.size)
  have hn : n ≤ 1099511627776 := by have := hO.1; omega
  have HD := Hid.mk' (sha.impl_digest g 0 n cp (leafB p) w1 hO.sl hn (hK.below hB1))
  clear hO hb1 hba
  go_wp2_with fail
  refine HD.out.mono ?_
  rintro e w2 ⟨rfl, hb2⟩
  have hB2 : Below w.heap.size w w2 := hB1.trans (hb2.mono hB1.size)
  go_wp2_with fail
  go_ret
  exact ⟨rfl, hB2⟩

set_option maxRecDepth 100000 in
set_option maxHeartbeats 1000000 in
theorem impl_nodeBytes (a b : ByteArray) (w : World) (ha : a.size ≤ 137438953472) (hb : b.size ≤ 137438953472) :
    Calls Tryz.prog 81 #[.string a, .string b] w fun e w' =>
      ∃ g' n' cap', e = .returned (.slice (some ⟨g', 0, none⟩) n' cap') ∧ Own w' w.heap.size g' n' cap' (nodeB a b) ∧ Below w.heap.size w w' := by
  obtain ⟨i0, hi, hz0, hz1, hz2⟩ := info_parts info8
  have hO0 := own_one w 1 1 rfl w.heap.size (Nat.le_refl _)
  have hB0 : Below w.heap.size w (w.alloc (.cells #[.int .u8 1] 5)) := (Below.refl _ _).alloc (Nat.le_refl _) _
  have hc3 : 1 + a.size ≤ maxLen := by unfold maxLen; omega
  have hc4 : 1 + a.size ≤ 140737488355328 := by omega
  go_enter Tryz.func81, Tryz.ntmps81
  go_wp2_with (at_builtin; refine Lib.wpList_append_own_string _ rfl (.tmp 5) (.tmp 6) 22 9 rfl w.heap.size 5 i0 Tryz.underlying22 Tryz.underlying9 hi hz0 hz1 hz2 _ _ _ rfl hO0.2 a rfl hc3 hc4 hB0.size ?_)
  intro v1 w1 hown hgrow hnn
  have hnn' : ¬ v1 = .slice none 0 0 := by simpa using hnn
  rw [strCells_eq] at hown
  obtain ⟨g1, cap1, hv, hO1⟩ := own_app (m := a.size) (ns := a.data.toList) hO0.1 (size_toList a) rfl hnn' hown
  subst hv
  have hB1 : Below w.heap.size w w1 := hB0.grown hgrow hB0.size (fun k e => by simp [Value.ownBlock] at e; omega)
  have hc5 : 1 + a.size + b.size ≤ maxLen := by unfold maxLen; omega
  have hc6 : 1 + a.size + b.size ≤ 140737488355328 := by omega
  have hs1 := hB1.size
  clear hown hgrow hnn hnn' hO0 hB0 hc3 hc4
  go_wp2_with (at_builtin; refine Lib.wpList_append_own_string _ rfl (.tmp 7) (.tmp 8) 22 9 rfl w.heap.size 5 i0 Tryz.underlying22 Tryz.underlying9 hi hz0 hz1 hz2 _ _ _ rfl hO1.2 b rfl hc5 hc6 hs1 ?_)
  intro v2 w2 hown hgrow hnn
  have hnn' : ¬ v2 = .slice none 0 0 := by simpa using hnn
  rw [strCells_eq] at hown
  obtain ⟨g2, cap2, hv, hO2⟩ := own_app (m := b.size) (ns := b.data.toList) hO1.1 (size_toList b) rfl hnn' hown
  subst hv
  have hB2 : Below w.heap.size w w2 := hB1.grown hgrow hs1 (fun k e => by simp [Value.ownBlock] at e; have := hO1.lt; omega)
  have HO := Hid.mk' hO2
  clear hown hgrow hnn hnn' hO1 hB1 hO2
  go_wp2_with fail
  go_ret
  exact ⟨g2, _, cap2, rfl, HO.out, hB2⟩

set_option maxHeartbeats 1000000 in
theorem impl_nodeOf (a b : ByteArray) (w : World) (ha : a.size ≤ 137438953472) (hb : b.size ≤ 137438953472) (hK : sha.KW w) :
    Calls Tryz.prog 57 #[.string a, .string b] w fun e w' => e = .returned (.string (nodeOf a b)) ∧ Below w.heap.size w w' := by
  have hlen := nodeB_length a b
  have HL := Hid.mk' (impl_nodeBytes a b w ha hb)
  go_enter Tryz.func57, Tryz.ntmps57
  go_wp2_with fail
  refine HL.out.mono ?_
  rintro e w1 ⟨g, n, cp, rfl, hO, hB1⟩
  have hn : n ≤ 1099511627776 := by have := hO.1; omega
  have HD := Hid.mk' (sha.impl_digest g 0 n cp (nodeB a b) w1 hO.sl hn (hK.below hB1))
  clear hO
  go_wp2_with fail
  refine HD.out.mono ?_
  rintro e w2 ⟨rfl, hb2⟩
  have hB2 : Below w.heap.size w w2 := hB1.trans (hb2.mono hB1.size)
  go_wp2_with fail
  go_ret
  exact ⟨rfl, hB2⟩

set_option maxRecDepth 100000 in
set_option maxHeartbeats 1000000 in
theorem impl_rootBytes (N : Int) (x : ByteArray) (w : World) (hN : (Lit.int .i64 N).wf = true) (hx : x.size ≤ 137438953472) :
    Calls Tryz.prog 21 #[.int .i64 N, .string x] w fun e w' =>
      ∃ g' n' cap', e = .returned (.slice (some ⟨g', 0, none⟩) n' cap') ∧ Own w' w.heap.size g' n' cap' (topB N x) ∧ Below w.heap.size w w' := by
  obtain ⟨i0, hi, hz0, hz1, hz2⟩ := info_parts info8
  have hO0 := own_one w 2 2 rfl w.heap.size (Nat.le_refl _)
  have hB0 : Below w.heap.size w (w.alloc (.cells #[.int .u8 2] 5)) := (Below.refl _ _).alloc (Nat.le_refl _) _
  have HP := Hid.mk' (addNum w.heap.size 1 1 w.heap.size [2] N _ hO0 hB0.size hN (by omega))
  have hnl := numBytes_length N
  go_enter Tryz.func21, Tryz.ntmps21
  go_wp2_with (at_builtin; fail)
  refine HP.out.mono ?_
  rintro e w1 ⟨g1, n1, cap1, rfl, hO1', hb1, _⟩
  have hB1 : Below w.heap.size w w1 := hB0.trans hb1
  have hn1 : n1 ≤ 6 := by have := hO1'.1; simp at this; omega
  have hc5 : n1 + x.size ≤ maxLen := by unfold maxLen; omega
  have hc6 : n1 + x.size ≤ 140737488355328 := by omega
  have hs1 := hB1.size
  clear hb1 hO0 hB0 HP hnl
  go_wp2_with (at_builtin; refine Lib.wpList_append_own_string _ rfl (.tmp 7) (.tmp 8) 22 9 rfl w.heap.size 5 i0 Tryz.underlying22 Tryz.underlying9 hi hz0 hz1 hz2 _ _ _ rfl hO1'.2 x rfl hc5 hc6 hs1 ?_)
  intro v2 w2 hown hgrow hnn
  have hnn' : ¬ v2 = .slice none 0 0 := by simpa using hnn
  rw [strCells_eq] at hown
  obtain ⟨g2, cap2, hv, hO2⟩ := own_app (m := x.size) (ns := x.data.toList) hO1'.1 (size_toList x) rfl hnn' hown
  subst hv
  have hB2 : Below w.heap.size w w2 := hB1.grown hgrow hs1 (fun k e => by simp [Value.ownBlock] at e; have := hO1'.lt; omega)
  have HO := Hid.mk' hO2
  clear hown hgrow hnn hnn' hO1' hB1 hO2
  go_wp2_with fail
  go_ret
  exact ⟨g2, _, cap2, rfl, HO.out, hB2⟩
end Go.Proofs.YtdebbgodhpcijaaGreatDoor.tree

namespace Go.Proofs.YtdebbgodhpcijaaGreatDoor.tree
open Go Go.RowKit Go.Proofs.YtdebbgodhpcijaaGreatDoor.base Go.Proofs.YtdebbgodhpcijaaGreatDoor.pairs Go.Proofs.YtdebbgodhpcijaaGreatDoor.puttext Go.Proofs.YtdebbgodhpcijaaGreatDoor.putnum
set_option linter.unusedVariables false
set_option linter.unusedSimpArgs false

theorem makeFunc_run (fn : Fn) (first cap : Array Value) (w : World) : (Instr.makeFunc fn first cap).run Tryz.prog w = .ok (.func fn first cap) w := rfl
/-- the variable at block t holds the closure that reaches itself by that variable -/
def Self (w : World) (f t : Nat) : Prop := w.cell? ⟨t, 0, none⟩ = some (.func (.func f) #[] #[.pointer (some ⟨t, 0, none⟩)])
theorem Self.below {w w' : World} {f t : Nat} (h : Self w f t) (hb : Below w.heap.size w w') : Self w' f t :=
  (hb.cell (p := ⟨t, 0, none⟩) (World.block_lt_of_cell? w _ h)).trans h

set_option maxRecDepth 100000 in
set_option maxHeartbeats 2000000 in
theorem impl_tree (m : Nat) : ∀ (l : List Pr), l.length = m → m ≤ 60 → (∀ p ∈ l, lim p) → ∀ (b off cap t : Nat) (w : World), SlP w (some ⟨b, off, none⟩) l.length l → l.length ≤ cap → Self w 54 t → sha.KW w →
    Calls Tryz.prog 54 #[.slice (some ⟨b, off, none⟩) l.length cap, .pointer (some ⟨t, 0, none⟩)] w fun e w' => e = .returned (.string (inner l)) ∧ Below w.heap.size w w' := by
  induction m using Nat.strongRecOn with
  | _ m ih =>
    intro l hlm h60 hlim b off cap t w h hcap hT hK
    by_cases h0 : l.length = 0
    · obtain rfl : l = [] := List.eq_nil_of_length_eq_zero h0
      have HD := Hid.mk' (sha.impl_digestA none 0 0 [] w (sl_nil _ _) (by omega) hK)
      rw [inner_nil]
      clear ih hlim h hlm hT hK
      go_enter Tryz.func54, Tryz.ntmps54
      go_wp2_with fail
      refine HD.out.mono ?_
      rintro e w2 ⟨rfl, hb2⟩
      go_wp2_with fail
      go_ret
      exact ⟨rfl, hb2⟩
    by_cases h1 : l.length = 1
    · obtain ⟨p, rfl⟩ : ∃ p, l = [p] := List.length_eq_one_iff.1 h1
      obtain ⟨c1, c2⟩ := h.cells 0 (by simp)
      have HL := Hid.mk' (impl_leafOf p w (hlim p (by simp)) hK)
      rw [inner_one]
      simp only [List.getElem_cons_zero, Nat.zero_mul, Nat.add_zero] at c1 c2
      clear ih hlim h hlm hT hK
      go_enter Tryz.func54, Tryz.ntmps54
      go_wp2_with fail
      refine HL.out.mono ?_
      rintro e w2 ⟨rfl, hb2⟩
      go_wp2_with fail
      go_ret
      exact ⟨rfl, hb2⟩
    have h2 : 2 ≤ l.length := by omega
    have hbd := half_bd l.length h2
    have hst := inner_step l h2
    obtain ⟨k, hk⟩ : ∃ k, half l.length = k := ⟨_, rfl⟩
    have HH := Hid.mk' (impl_halves b off l.length cap w h2 (by omega) hcap k hk)
    rw [hk] at hbd hst
    have hltk : (l.take k).length = k := by simp; omega
    have hldk : (l.drop k).length = l.length - k := by simp
    have hs1 := inner_size (l.take k)
    have hs2 := inner_size (l.drop k)
    have HC1 : Hid (∀ wx, Below w.heap.size w wx → Calls Tryz.prog 54 #[.slice (some ⟨b, off, none⟩) k k, .pointer (some ⟨t, 0, none⟩)] wx fun e w' => e = .returned (.string (inner (l.take k))) ∧ Below wx.heap.size wx w') := fun wx hx => by
      have := ih k (by omega) (l.take k) hltk (by omega) (fun p hp => hlim p (List.mem_of_mem_take hp)) b off k t wx (slp_take (h.below hx) k (by omega)) (by omega) (hT.below hx) (hK.below hx)
      rw [hltk] at this; exact this
    have HC2 : Hid (∀ wx, Below w.heap.size w wx → Calls Tryz.prog 54 #[.slice (some ⟨b, off + k * 2, none⟩) (l.length - k) (l.length - k), .pointer (some ⟨t, 0, none⟩)] wx fun e w' => e = .returned (.string (inner (l.drop k))) ∧ Below wx.heap.size wx w') := fun wx hx => by
      have := ih (l.length - k) (by omega) (l.drop k) hldk (by omega) (fun p hp => hlim p (List.mem_of_mem_drop hp)) b (off + k * 2) (l.length - k) t wx (slp_drop (h.below hx) k) (by omega) (hT.below hx) (hK.below hx)
      rw [hldk] at this; exact this
    have HC3 : Hid (∀ wx, Below w.heap.size w wx → Calls Tryz.prog 57 #[.string (inner (l.take k)), .string (inner (l.drop k))] wx fun e w' => e = .returned (.string (inner l)) ∧ Below wx.heap.size wx w') := fun wx hx => by
      rw [hst]; exact impl_nodeOf _ _ wx (by omega) (by omega) (hK.below hx)
    have HT := Hid.mk' hT
    have q4 : ¬ (l.length : Int) = 0 := by omega
    have q5 : ¬ (l.length : Int) = 1 := by omega
    generalize inner (l.take k) = x1 at *
    generalize inner (l.drop k) = x2 at *
    generalize inner l = x0 at *
    clear ih hlim h hlm hst hltk hldk hs1 hs2 hk hT hK
    go_enter Tryz.func54, Tryz.ntmps54
    go_wp2_with fail
    refine HH.out.mono ?_
    rintro e w2 ⟨rfl, hB2⟩
    have hT2 := HT.out.below hB2
    have htl : t < w2.heap.size := World.block_lt_of_cell? w2 _ hT2
    have hcl := last.On.cell (B := w2.heap.size) (w := w2) hT2 htl
    have hc1 : ∀ x : last.On w2.heap.size w2, Calls Tryz.prog 54 #[.slice (some ⟨b, off, none⟩) k k, .pointer (some ⟨t, 0, none⟩)] x.w fun e w' => e = .returned (.string x1) ∧ ∃ y : last.On w2.heap.size w2, w' = y.w := fun x => last.Calls.on x (Nat.le_refl _) (HC1.out x.w (hB2.trans (x.2.mono hB2.size)))
    have hc2 : ∀ x : last.On w2.heap.size w2, Calls Tryz.prog 54 #[.slice (some ⟨b, off + k * 2, none⟩) (l.length - k) (l.length - k), .pointer (some ⟨t, 0, none⟩)] x.w fun e w' => e = .returned (.string x2) ∧ ∃ y : last.On w2.heap.size w2, w' = y.w := fun x => last.Calls.on x (Nat.le_refl _) (HC2.out x.w (hB2.trans (x.2.mono hB2.size)))
    have hc3 : ∀ x : last.On w2.heap.size w2, Calls Tryz.prog 57 #[.string x1, .string x2] x.w fun e w' => e = .returned (.string x0) ∧ ∃ y : last.On w2.heap.size w2, w' = y.w := fun x => last.Calls.on x (Nat.le_refl _) (HC3.out x.w (hB2.trans (x.2.mono hB2.size)))
    have hTl : w2.cell? ⟨t, 0, none⟩ = some (.func (.func 54) #[] #[.pointer (some ⟨t, 0, none⟩)]) := hT2
    clear hT2 HT HC1 HC2 HC3 HH
    go_wp2_with fail
    have hinh := last.On.inh w2.heap.size w2
    refine last.wp_region_on w2.heap.size (by kernel_rfl) (by kernel_rfl) ?_
    repeat (go_big_quiet_step ((first | (go_at_call 57; exact hc3 _) | (go_at_call 54; first | (with_reducible exact hc1 _) | (with_reducible exact hc2 _)))))
    refine wpQuiet_nil ?_
    intro w5 hw5
    obtain ⟨x5, hw5⟩ := hw5
    subst hw5
    have hB5 : Below w2.heap.size w2 x5.w := x5.2
    have hB6 : Below w.heap.size w x5.w := hB2.trans (hB5.mono hB2.size)
    go_wp2_with fail
    go_ret
    exact ⟨rfl, hB6⟩

theorem self_made (w : World) (t : TypeId) (f : Nat) : Self (w.alloc (.cells #[.func (.func f) #[] #[.pointer (some ⟨w.heap.size, 0, none⟩)]] t)) f w.heap.size := cell_of_one (heap_alloc_new w _)

set_option maxHeartbeats 1000000 in
theorem impl_innerOf (b off len cap : Nat) (l : List Pr) (w : World) (h : SlP w (some ⟨b, off, none⟩) len l) (hcap : len ≤ cap) (hlim : ∀ p ∈ l, lim p) (hK : sha.KW w) :
    Calls Tryz.prog 22 #[.slice (some ⟨b, off, none⟩) len cap] w fun e w' => e = .returned (.string (innerI l)) ∧ Below w.heap.size w w' := by
  have hl := h.1
  have hm := h.2.1
  subst hl
  unfold maxLen at hm
  unfold innerI
  by_cases h60 : 60 < l.length
  · rw [if_neg (by omega)]
    go_enter Tryz.func22, Tryz.ntmps22
    go_wp2_with fail
    go_ret
    exact ⟨rfl, Below.refl _ _⟩
  · rw [if_pos (by omega)]
    have hmf := makeFunc_run
    have HI : Hid (∀ wx, Below w.heap.size w wx → Self wx 54 w.heap.size → Calls Tryz.prog 54 #[.slice (some ⟨b, off, none⟩) l.length cap, .pointer (some ⟨w.heap.size, 0, none⟩)] wx fun e w' => e = .returned (.string (inner l)) ∧ Below wx.heap.size wx w') :=
      fun wx hx hT => impl_tree l.length l rfl (by omega) hlim b off cap w.heap.size wx (h.below hx) hcap hT (hK.below hx)
    clear h hK hlim
    go_enter Tryz.func22, Tryz.ntmps22
    go_wp2_with fail
    refine (HI.out _ ?hb ?ht).mono ?_
    case hb => exact (Below.refl _ _).alloc (Nat.le_refl _) _
    case ht => exact self_made w _ _
    rintro e w2 ⟨rfl, hb⟩
    have hB : Below w.heap.size w w2 := ((Below.refl _ _).alloc (Nat.le_refl _) _).trans (hb.mono (by simp))
    go_wp2_with fail
    go_ret
    exact ⟨rfl, hB⟩

set_option maxHeartbeats 1000000 in
theorem impl_rootOf (b off len cap : Nat) (l : List Pr) (w : World) (h : SlP w (some ⟨b, off, none⟩) len l) (hcap : len ≤ cap) (hlim : ∀ p ∈ l, lim p) (hK : sha.KW w) :
    Calls Tryz.prog 6 #[.slice (some ⟨b, off, none⟩) len cap] w fun e w' => e = .returned (.string (rootI l)) ∧ Below w.heap.size w w' := by
  have hI := impl_innerOf b off len cap l w h hcap hlim hK
  have hl := h.1
  have hm := h.2.1
  subst hl
  unfold maxLen at hm
  unfold rootI
  by_cases h60 : 60 < l.length
  · rw [if_neg (by omega)]
    clear hI
    go_enter Tryz.func6, Tryz.ntmps6
    go_wp2_with fail
    go_ret
    exact ⟨rfl, Below.refl _ _⟩
  · rw [if_pos (by omega)]
    unfold innerI at hI
    rw [if_pos (by omega)] at hI
    have hs := inner_size l
    have htl := topB_length (l.length : Int) (inner l)
    have HT := Hid.mk' (fun wx => impl_rootBytes (l.length : Int) (inner l) wx (WalkArith.wf_i64 (by omega)) (by omega))
    have HI := Hid.mk' hI
    have HK := Hid.mk' hK
    clear hI h hlim hK
    go_enter Tryz.func6, Tryz.ntmps6
    go_wp2_with fail
    refine HI.out.mono ?_
    rintro e w1 ⟨rfl, hB1⟩
    go_wp2_with fail
    refine (HT.out _).mono ?_
    rintro e w2 ⟨g, n, cp, rfl, hO, hb2⟩
    have hB2 : Below w.heap.size w w2 := hB1.trans (hb2.mono hB1.size)
    have hn : n ≤ 1099511627776 := by have := hO.1; omega
    have HD := Hid.mk' (sha.impl_digest g 0 n cp (topB (l.length : Int) (inner l)) w2 hO.sl hn (HK.out.below hB2))
    clear hO hB1 hb2
    go_wp2_with fail
    refine HD.out.mono ?_
    rintro e w3 ⟨rfl, hb3⟩
    have hB3 : Below w.heap.size w w3 := hB2.trans (hb3.mono hB2.size)
    go_wp2_with fail
    go_ret
    exact ⟨rfl, hB3⟩
end Go.Proofs.YtdebbgodhpcijaaGreatDoor.tree

namespace Go.Proofs.YtdebbgodhpcijaaGreatDoor.tree
open Go Go.RowKit Go.Proofs.YtdebbgodhpcijaaGreatDoor.base Go.Proofs.YtdebbgodhpcijaaGreatDoor.pairs Go.Proofs.YtdebbgodhpcijaaGreatDoor.puttext Go.Proofs.YtdebbgodhpcijaaGreatDoor.putnum
set_option linter.unusedVariables false
set_option linter.unusedSimpArgs false

set_option maxRecDepth 100000 in
set_option maxHeartbeats 4000000 in
theorem impl_pathC (m : Nat) : ∀ (l : List Pr), l.length = m → m ≤ 60 → (∀ p ∈ l, lim p) → ∀ (i b off cap t : Nat) (w : World), i < l.length → SlP w (some ⟨b, off, none⟩) l.length l → l.length ≤ cap → Self w 85 t → sha.KW w →
    Calls Tryz.prog 85 #[.slice (some ⟨b, off, none⟩) l.length cap, .int .i64 (i : Int), .pointer (some ⟨t, 0, none⟩)] w fun e w' =>
      ∃ g' n' cap', e = .returned (.slice (some ⟨g', 0, none⟩) n' cap') ∧ OwnS w' w.heap.size g' n' cap' (path l i) ∧ Below w.heap.size w w' := by
  obtain ⟨i0, hi, hz0, hz1, hz2⟩ := info_parts info9
  induction m using Nat.strongRecOn with
  | _ m ih =>
    intro l hlm h60 hlim i b off cap t w hil h hcap hT hK
    by_cases h2 : l.length < 2
    · rw [path_low l i h2]
      have h2i : (l.length : Int) = 1 := by omega
      clear ih hlim h hlm hT hK
      go_enter Tryz.func85, Tryz.ntmps85
      go_wp2_with fail
      go_ret
      exact ⟨w.heap.size, 0, 0, rfl, ownS_made w _ (Nat.le_refl _), (Below.refl _ _).alloc (Nat.le_refl _) _⟩
    have h2' : 2 ≤ l.length := by omega
    have hbd := half_bd l.length h2'
    obtain ⟨k, hk⟩ : ∃ k, half l.length = k := ⟨_, rfl⟩
    have HH := Hid.mk' (impl_halves b off l.length cap w h2' (by omega) hcap k hk)
    have hpl := path_left l i h2'
    have hpr := path_right l i h2'
    rw [hk] at hbd hpl hpr
    have hltk : (l.take k).length = k := by simp; omega
    have hldk : (l.drop k).length = l.length - k := by simp
    have q4 : ¬ (l.length : Int) = 1 := by omega
    by_cases hik : i < k
    · have hq := hpl hik
      have HP : Hid (∀ wx, Below w.heap.size w wx → Calls Tryz.prog 85 #[.slice (some ⟨b, off, none⟩) k k, .int .i64 (i : Int), .pointer (some ⟨t, 0, none⟩)] wx fun e w' =>
          ∃ g' n' cap', e = .returned (.slice (some ⟨g', 0, none⟩) n' cap') ∧ OwnS w' wx.heap.size g' n' cap' (path (l.take k) i) ∧ Below wx.heap.size wx w') := fun wx hx => by
        have := ih k (by omega) (l.take k) hltk (by omega) (fun p hp => hlim p (List.mem_of_mem_take hp)) i b off k t wx (by omega) (slp_take (h.below hx) k (by omega)) (by omega) (hT.below hx) (hK.below hx)
        rw [hltk] at this; exact this
      have HI : Hid (∀ wx, Below w.heap.size w wx → Calls Tryz.prog 22 #[.slice (some ⟨b, off + k * 2, none⟩) (l.length - k) (l.length - k)] wx fun e w' => e = .returned (.string (inner (l.drop k))) ∧ Below wx.heap.size wx w') := fun wx hx => by
        have := impl_innerOf b (off + k * 2) (l.length - k) (l.length - k) (l.drop k) wx (by have := slp_drop (h.below hx) k; rw [hldk] at this; exact this) (Nat.le_refl _) (fun p hp => hlim p (List.mem_of_mem_drop hp)) (hK.below hx)
        unfold innerI at this
        rw [if_pos (by rw [hldk]; omega)] at this; exact this
      have hy2 := max32 (inner_size (l.drop k))
      have hyl := path_length (l.take k) i
      have hyd := depth_le i (l.take k).length
      have hy1 : (path (l.take k) i).length ≤ 60 := by omega
      rw [hq]
      have hiki : (i : Int) < (k : Int) := by omega
      generalize path (l.take k) i = y1 at *
      generalize inner (l.drop k) = y2 at *
      clear ih hlim h hlm hpl hpr hltk hldk hk hq hyl hyd hK
      have hTl : w.cell? ⟨t, 0, none⟩ = some (.func (.func 85) #[] #[.pointer (some ⟨t, 0, none⟩)]) := hT
      have HT := Hid.mk' hT
      clear hT hTl
      go_enter Tryz.func85, Tryz.ntmps85
      go_wp2_with fail
      refine HH.out.mono ?_
      rintro e w2 ⟨rfl, hB2⟩
      have hTl : w2.cell? ⟨t, 0, none⟩ = some (.func (.func 85) #[] #[.pointer (some ⟨t, 0, none⟩)]) := HT.out.below hB2
      clear HT HH
      go_wp2_with (at_builtin; fail)
      refine (HP.out _ hB2).mono ?_
      rintro e w5 ⟨g5, n5, cp5, rfl, hO5, hb5⟩
      have hB5 := hB2.trans (hb5.mono hB2.size)
      have HO5 := Hid.mk' hO5
      clear hO5 hTl HP
      go_wp2_with (at_builtin; fail)
      refine (HI.out _ hB5).mono ?_
      rintro e w6 ⟨rfl, hb6⟩
      have hO6 := (HO5.out.mono (base' := w.heap.size) hB2.size).below hb6
      have hB6 := hB5.trans (hb6.mono hB5.size)
      have hs6 := hB6.size
      have hn6 : n5 ≤ 60 := by have := hO6.1; omega
      have hc3 : n5 + 1 ≤ maxLen := by unfold maxLen; omega
      have hc4 : (n5 + 1) * 16 ≤ 140737488355328 := by omega
      clear HO5 HI hb5 hb6 hB5
      go_wp2_with (at_builtin; refine wpList_append_own _ rfl (.tmp 24) (.tmp 27) 59 rfl w.heap.size 9 i0 (.string ⟨#[]⟩) 1 16 Tryz.underlying59 hi hz0 hz1 hz2 rfl (by decide) _ _ _ rfl (hO6.2.2.alloc _) ⟨w6.heap.size, 0, none⟩ 1 1 [.string y2] rfl rfl (cell_one_new _ _ _) (str_oneCell _) hc3 hc4 (le_alloc _ _ hs6) ?_)
      intro v7 w7 hown hgrow hnn
      have hgr2 : (w6.alloc (.cells #[.string y2] 9)).grownBy w7 (some g5) := hgrow
      have hnn' : ¬ v7 = .slice none 0 0 := by simpa using hnn
      have hsm : ∀ s ∈ y1 ++ [y2], s.size ≤ maxLen := fun s hs => by
        rcases List.mem_append.1 hs with h1 | h1
        · exact hO6.2.1 s h1
        · rw [List.mem_singleton.1 h1]; exact hy2
      obtain ⟨g7, cap7, hv, hO7⟩ := ownS_val (ss := y1 ++ [y2]) (n := n5 + 1) (by have := hO6.1; simp; omega) hsm hnn' (by simpa [strVals] using hown)
      subst hv
      have hB7 : Below w.heap.size w w7 := (hB6.alloc hs6 _).grown hgr2 (le_alloc _ _ hs6) (fun k e => by cases e; exact hO6.lt.1)
      have HO7 := Hid.mk' hO7
      clear hown hgrow hgr2 hnn hnn' hO7 hO6 hB6
      go_wp2_with fail
      go_ret
      exact ⟨g7, _, cap7, rfl, HO7.out, hB7⟩
    · have hq := hpr hik
      obtain ⟨j, hj⟩ : ∃ j, i - k = j := ⟨_, rfl⟩
      have hji : (i : Int) - (k : Int) = (j : Int) := by omega
      have hjw : IntKind.i64.wrap (j : Int) = (j : Int) := by rw [IntKind.wrap_i64]; omega
      rw [hj] at hq
      have HP : Hid (∀ wx, Below w.heap.size w wx → Calls Tryz.prog 85 #[.slice (some ⟨b, off + k * 2, none⟩) (l.length - k) (l.length - k), .int .i64 (j : Int), .pointer (some ⟨t, 0, none⟩)] wx fun e w' =>
          ∃ g' n' cap', e = .returned (.slice (some ⟨g', 0, none⟩) n' cap') ∧ OwnS w' wx.heap.size g' n' cap' (path (l.drop k) j) ∧ Below wx.heap.size wx w') := fun wx hx => by
        have := ih (l.length - k) (by omega) (l.drop k) hldk (by omega) (fun p hp => hlim p (List.mem_of_mem_drop hp)) j b (off + k * 2) (l.length - k) t wx (by omega) (slp_drop (h.below hx) k) (by omega) (hT.below hx) (hK.below hx)
        rw [hldk] at this; exact this
      have HI : Hid (∀ wx, Below w.heap.size w wx → Calls Tryz.prog 22 #[.slice (some ⟨b, off, none⟩) k k] wx fun e w' => e = .returned (.string (inner (l.take k))) ∧ Below wx.heap.size wx w') := fun wx hx => by
        have := impl_innerOf b off k k (l.take k) wx (by have := slp_take (h.below hx) k (by omega); rw [hltk] at this; exact this) (Nat.le_refl _) (fun p hp => hlim p (List.mem_of_mem_take hp)) (hK.below hx)
        unfold innerI at this
        rw [if_pos (by rw [hltk]; omega)] at this; exact this
      have hy2 := max32 (inner_size (l.take k))
      have hyl := path_length (l.drop k) j
      have hyd := depth_le j (l.drop k).length
      have hy1 : (path (l.drop k) j).length ≤ 60 := by omega
      rw [hq]
      have hiki : ¬ (i : Int) < (k : Int) := by omega
      generalize path (l.drop k) j = y1 at *
      generalize inner (l.take k) = y2 at *
      clear ih hlim h hlm hpl hpr hltk hldk hk hq hyl hyd hK hj
      have hTl : w.cell? ⟨t, 0, none⟩ = some (.func (.func 85) #[] #[.pointer (some ⟨t, 0, none⟩)]) := hT
      have HT := Hid.mk' hT
      clear hT hTl
      go_enter Tryz.func85, Tryz.ntmps85
      go_wp2_with fail
      refine HH.out.mono ?_
      rintro e w2 ⟨rfl, hB2⟩
      have hTl : w2.cell? ⟨t, 0, none⟩ = some (.func (.func 85) #[] #[.pointer (some ⟨t, 0, none⟩)]) := HT.out.below hB2
      clear HT HH
      go_wp2_with (at_builtin; fail)
      refine (HP.out _ hB2).mono ?_
      rintro e w5 ⟨g5, n5, cp5, rfl, hO5, hb5⟩
      have hB5 := hB2.trans (hb5.mono hB2.size)
      have HO5 := Hid.mk' hO5
      clear hO5 hTl HP
      go_wp2_with (at_builtin; fail)
      refine (HI.out _ hB5).mono ?_
      rintro e w6 ⟨rfl, hb6⟩
      have hO6 := (HO5.out.mono (base' := w.heap.size) hB2.size).below hb6
      have hB6 := hB5.trans (hb6.mono hB5.size)
      have hs6 := hB6.size
      have hn6 : n5 ≤ 60 := by have := hO6.1; omega
      have hc3 : n5 + 1 ≤ maxLen := by unfold maxLen; omega
      have hc4 : (n5 + 1) * 16 ≤ 140737488355328 := by omega
      clear HO5 HI hb5 hb6 hB5
      go_wp2_with (at_builtin; refine wpList_append_own _ rfl (.tmp 35) (.tmp 38) 59 rfl w.heap.size 9 i0 (.string ⟨#[]⟩) 1 16 Tryz.underlying59 hi hz0 hz1 hz2 rfl (by decide) _ _ _ rfl (hO6.2.2.alloc _) ⟨w6.heap.size, 0, none⟩ 1 1 [.string y2] rfl rfl (cell_one_new _ _ _) (str_oneCell _) hc3 hc4 (le_alloc _ _ hs6) ?_)
      intro v7 w7 hown hgrow hnn
      have hgr2 : (w6.alloc (.cells #[.string y2] 9)).grownBy w7 (some g5) := hgrow
      have hnn' : ¬ v7 = .slice none 0 0 := by simpa using hnn
      have hsm : ∀ s ∈ y1 ++ [y2], s.size ≤ maxLen := fun s hs => by
        rcases List.mem_append.1 hs with h1 | h1
        · exact hO6.2.1 s h1
        · rw [List.mem_singleton.1 h1]; exact hy2
      obtain ⟨g7, cap7, hv, hO7⟩ := ownS_val (ss := y1 ++ [y2]) (n := n5 + 1) (by have := hO6.1; simp; omega) hsm hnn' (by simpa [strVals] using hown)
      subst hv
      have hB7 : Below w.heap.size w w7 := (hB6.alloc hs6 _).grown hgr2 (le_alloc _ _ hs6) (fun k e => by cases e; exact hO6.lt.1)
      have HO7 := Hid.mk' hO7
      clear hown hgrow hgr2 hnn hnn' hO7 hO6 hB6
      go_wp2_with fail
      go_ret
      exact ⟨g7, _, cap7, rfl, HO7.out, hB7⟩

set_option maxHeartbeats 1000000 in
theorem impl_pathOf (b off len cap : Nat) (l : List Pr) (I : Int) (w : World) (h : SlP w (some ⟨b, off, none⟩) len l) (hcap : len ≤ cap) (hlim : ∀ p ∈ l, lim p) (hI : (Lit.int .i64 I).wf = true) (hK : sha.KW w) :
    Calls Tryz.prog 62 #[.slice (some ⟨b, off, none⟩) len cap, .int .i64 I] w fun e w' =>
      ∃ g' n' cap', e = .returned (.slice (some ⟨g', 0, none⟩) n' cap') ∧ OwnS w' w.heap.size g' n' cap' (pathI l I) ∧ Below w.heap.size w w' := by
  have hl := h.1
  have hm := h.2.1
  subst hl
  unfold maxLen at hm
  have hmf := makeFunc_run
  have hp := impl_placeOk I (l.length : Int) w
  by_cases hc : l.length ≤ 60 ∧ 0 ≤ I ∧ I ≤ (l.length : Int) - 1
  · obtain ⟨i, hi⟩ : ∃ i : Nat, I = (i : Int) := ⟨I.toNat, by omega⟩
    subst hi
    rw [decide_eq_true (show (l.length : Int) ≤ 60 by omega), decide_eq_true (show (0 : Int) ≤ (i : Int) by omega), decide_eq_true (show (i : Int) < (l.length : Int) by omega)] at hp
    have HPL := Hid.mk' hp
    have HN : Hid (pathI l (i : Int) = path l i) := by show _ = _; unfold pathI; rw [if_pos (by omega), Int.toNat_natCast]
    have HP : Hid (∀ wx, Below w.heap.size w wx → Self wx 85 w.heap.size → Calls Tryz.prog 85 #[.slice (some ⟨b, off, none⟩) l.length cap, .int .i64 (i : Int), .pointer (some ⟨w.heap.size, 0, none⟩)] wx fun e w' =>
        ∃ g' n' cap', e = .returned (.slice (some ⟨g', 0, none⟩) n' cap') ∧ OwnS w' wx.heap.size g' n' cap' (path l i) ∧ Below wx.heap.size wx w') :=
      fun wx hx hT => impl_pathC l.length l rfl (by omega) hlim i b off cap w.heap.size wx (by omega) (h.below hx) hcap hT (hK.below hx)
    clear hp hc h hK hlim
    go_enter Tryz.func62, Tryz.ntmps62
    go_wp2_with fail
    refine HPL.out.mono ?_
    rintro e w1 ⟨rfl, hw1⟩
    subst hw1
    go_wp2_with fail
    refine (HP.out _ ?hb ?ht).mono ?_
    case hb => exact (Below.refl _ _).alloc (Nat.le_refl _) _
    case ht => exact self_made w1 _ _
    rintro e w2 ⟨g, n, cp, rfl, hO, hb⟩
    have hB : Below w1.heap.size w1 w2 := ((Below.refl _ _).alloc (Nat.le_refl _) _).trans (hb.mono (by simp))
    have HO := Hid.mk' (hO.mono (base' := w1.heap.size) (by simp))
    clear hO
    go_wp2_with fail
    go_ret
    exact ⟨g, n, cp, rfl, by rw [HN.out]; exact HO.out, hB⟩
  · have hd : (decide ((l.length : Int) ≤ 60) && decide (0 ≤ I) && decide (I < (l.length : Int))) = false := by
      rw [Bool.and_eq_false_iff, Bool.and_eq_false_iff, decide_eq_false_iff_not, decide_eq_false_iff_not, decide_eq_false_iff_not]; omega
    rw [hd] at hp
    have HPL := Hid.mk' hp
    have HN : Hid (pathI l I = []) := by show _ = _; unfold pathI; rw [if_neg (by omega)]
    clear hp hc hd h hK hlim
    go_enter Tryz.func62, Tryz.ntmps62
    go_wp2_with fail
    refine HPL.out.mono ?_
    rintro e w1 ⟨rfl, hw1⟩
    subst hw1
    go_wp2_with fail
    go_ret
    exact ⟨w1.heap.size, 0, 0, rfl, by rw [HN.out]; exact ownS_made w1 _ (Nat.le_refl _), (Below.refl _ _).alloc (Nat.le_refl _) _⟩
end Go.Proofs.YtdebbgodhpcijaaGreatDoor.tree

namespace Go.Proofs.YtdebbgodhpcijaaGreatDoor.tree
open Go Go.RowKit Go.Proofs.YtdebbgodhpcijaaGreatDoor.base Go.Proofs.YtdebbgodhpcijaaGreatDoor.pairs Go.Proofs.YtdebbgodhpcijaaGreatDoor.puttext Go.Proofs.YtdebbgodhpcijaaGreatDoor.putnum
set_option linter.unusedVariables false
set_option linter.unusedSimpArgs false

/-! ### a row of slices of bytes that the call makes -/
theorem infoSl : (Tryz.prog.info? 22).map (fun i => (i.zero, i.size, i.bytes)) = some (some (.slice none 0 0), 1, 24) := by kernel_rfl
theorem slice_oneCell (a : Option Addr) (n c : Nat) : ∀ u ∈ [Value.slice a n c], u.oneCell' = true := by
  intro v hv; rw [List.mem_singleton.1 hv]; rfl
def OwnV (w : World) (base g n cap : Nat) (vs : List Value) : Prop := vs.length = n ∧ w.ownsRow base 22 1 (.slice (some ⟨g, 0, none⟩) n cap) n vs
theorem ownV_lt {w : World} {base g n cap : Nat} {vs : List Value} (h : OwnV w base g n cap vs) : base ≤ g ∧ g < w.heap.size := h.2.lt g rfl
theorem ownV_below {w w' : World} {base g n cap : Nat} {vs : List Value} (h : OwnV w base g n cap vs) (hb : Below w.heap.size w w') : OwnV w' base g n cap vs :=
  ⟨h.1, h.2.kept (row := none) ⟨hb.os, hb.tape, hb.output, hb.size, fun k hk _ => hb.block k hk⟩ (.inr (by simp [Value.ownBlock]))⟩
theorem ownV_at {w : World} {base g n cap : Nat} {vs : List Value} (h : OwnV w base g n cap vs) (i : Nat) (hi : i < vs.length) : w.cell? ⟨g, i, none⟩ = some vs[i] := by
  have hl := h.1
  rw [h.2.cellAt i (by omega)]
  simp [hi]
theorem ownV_val {w' : World} {base n : Nat} {vs : List Value} {v' : Value} (hl : vs.length = n) (h0 : ¬ v' = .slice none 0 0) (h : w'.ownsRow base 22 1 v' n vs) :
    ∃ g' cap', v' = .slice (some ⟨g', 0, none⟩) n cap' ∧ OwnV w' base g' n cap' vs := by
  rcases h.2 with ⟨h2, _⟩ | ⟨g', cap', cur, hv, _⟩
  · exact absurd h2 h0
  · subst hv
    exact ⟨g', cap', rfl, hl, h⟩
theorem ownV_one (w : World) (base : Nat) (v : Value) (hb : base ≤ w.heap.size) : OwnV (w.alloc (.cells #[v] 22)) base w.heap.size 1 1 [v] :=
  ⟨rfl, World.ownsRow_lit (base := base) (e := 22) (size := 1) w #[v] 1 hb (by decide) rfl⟩
theorem ownV_ne {w : World} {base base' g n cap gs ns cs : Nat} {vs : List Value} {S : List Bool} (h : OwnV w base g n cap vs) (hB : OwnB w base' gs ns cs S) : gs ≠ g := by
  intro e
  subst e
  obtain ⟨cur, hc⟩ := hB.block
  rcases h.2.2 with ⟨h', _⟩ | ⟨g', cap', cur', h', _, hg, _⟩
  · simp at h'
  · simp only [Value.slice.injEq, Option.some.injEq, Addr.mk.injEq, and_true, true_and] at h'
    obtain ⟨rfl, rfl⟩ := h'
    rw [hc] at hg
    simp at hg

theorem ownV_no {w : World} {base base' g n cap gs ns cs : Nat} {vs : List Value} {bs : List UInt8} (h : OwnV w base g n cap vs) (hB : Own w base' gs ns cs bs) : gs ≠ g := by
  intro e
  subst e
  rcases h.2.2 with ⟨h', _⟩ | ⟨g', cap', cur', h', _, hg, _⟩
  · simp at h'
  · rcases hB.2.2 with ⟨q', _⟩ | ⟨g2, cap2, cur2, q', _, hg2, _⟩
    · simp at q'
    · simp only [Value.slice.injEq, Option.some.injEq, Addr.mk.injEq, and_true, true_and] at h' q'
      obtain ⟨rfl, rfl⟩ := h'
      obtain ⟨rfl, rfl⟩ := q'
      rw [hg2] at hg
      simp at hg
/-- a slice with the bytes t, in a block of the call's own -/
def SlOf (w : World) (base : Nat) (v : Value) (t : List UInt8) : Prop := ∃ g n c, v = .slice (some ⟨g, 0, none⟩) n c ∧ Own w base g n c t
theorem SlOf.below {w w' : World} {base : Nat} {v : Value} {t : List UInt8} (h : SlOf w base v t) (hb : Below w.heap.size w w') : SlOf w' base v t := by
  obtain ⟨g, n, c, e, hO⟩ := h
  exact ⟨g, n, c, e, hO.below hb⟩
theorem SlOf.mono {w : World} {base base' : Nat} {v : Value} {t : List UInt8} (h : SlOf w base v t) (hb : base' ≤ base) : SlOf w base' v t := by
  obtain ⟨g, n, c, e, hO⟩ := h
  exact ⟨g, n, c, e, hO.mono hb⟩
/-- slices with the texts T -/
def AllSl (w : World) (base : Nat) (vs : List Value) (T : List (List UInt8)) : Prop := vs.length = T.length ∧ ∀ (j : Nat) (t : List UInt8), T[j]? = some t → ∃ v, vs[j]? = some v ∧ SlOf w base v t
theorem AllSl.below {w w' : World} {base : Nat} {vs : List Value} {T : List (List UInt8)} (h : AllSl w base vs T) (hb : Below w.heap.size w w') : AllSl w' base vs T :=
  ⟨h.1, fun j t ht => by obtain ⟨v, hv, hs⟩ := h.2 j t ht; exact ⟨v, hv, hs.below hb⟩⟩
theorem AllSl.mono {w : World} {base base' : Nat} {vs : List Value} {T : List (List UInt8)} (h : AllSl w base vs T) (hb : base' ≤ base) : AllSl w base' vs T :=
  ⟨h.1, fun j t ht => by obtain ⟨v, hv, hs⟩ := h.2 j t ht; exact ⟨v, hv, hs.mono hb⟩⟩
theorem AllSl.grown {w w' : World} {base base' g n cap : Nat} {us vs : List Value} {T : List (List UInt8)} (h : AllSl w base vs T) (hV : OwnV w base' g n cap us) (hg : w.grownBy w' (some g)) : AllSl w' base vs T :=
  ⟨h.1, fun j t ht => by
    obtain ⟨v, hv, g', n', c', e, hO⟩ := h.2 j t ht
    exact ⟨v, hv, g', n', c', e, hO.grown hg (fun e => ownV_no hV hO (by cases e; rfl))⟩⟩
theorem AllSl.snoc {w : World} {base : Nat} {vs : List Value} {T : List (List UInt8)} {v : Value} {t : List UInt8} (h : AllSl w base vs T) (hs : SlOf w base v t) : AllSl w base (vs ++ [v]) (T ++ [t]) := by
  refine ⟨by rw [List.length_append, List.length_append, h.1]; rfl, fun j u hu => ?_⟩
  by_cases hj : j < T.length
  · rw [List.getElem?_append_left hj] at hu
    obtain ⟨x, hx, hxs⟩ := h.2 j u hu
    exact ⟨x, by rw [List.getElem?_append_left (by rw [h.1]; exact hj)]; exact hx, hxs⟩
  · rw [List.getElem?_append_right (by omega)] at hu
    have hz : j - T.length = 0 := by
      have := (List.getElem?_eq_some_iff.1 hu).1
      simp at this; omega
    rw [hz] at hu
    simp at hu
    subst hu
    exact ⟨v, by rw [List.getElem?_append_right (by rw [h.1]; omega), h.1, hz]; rfl, hs⟩
theorem AllSl.one {w : World} {base : Nat} {v : Value} {t : List UInt8} (hs : SlOf w base v t) : AllSl w base [v] [t] := by
  refine ⟨rfl, fun j u hu => ?_⟩
  cases j with
  | zero => simp at hu; subst hu; exact ⟨v, rfl, hs⟩
  | succ j => simp at hu
/-- a row of slices comes back that have the bytes T -/
def HRow (w : World) (T : List (List UInt8)) (e : Ending) (w' : World) : Prop :=
  Below w.heap.size w w' ∧ ∃ (g n cap : Nat) (vs : List Value), e = .returned (.slice (some ⟨g, 0, none⟩) (n + 1) cap) ∧ T.length = n + 1 ∧ n ≤ 100 ∧ OwnV w' w.heap.size g (n + 1) cap vs ∧ AllSl w' w.heap.size vs T

/-- a row of slices comes back whose last one has the bytes T -/
def HUp (w : World) (T : List UInt8) (e : Ending) (w' : World) : Prop :=
  Below w.heap.size w w' ∧ ∃ g n cap gb nb cb : Nat, e = .returned (.slice (some ⟨g, 0, none⟩) (n + 1) cap) ∧ n ≤ 100 ∧ w'.cell? ⟨g, n, none⟩ = some (.slice (some ⟨gb, 0, none⟩) nb cb) ∧ Sl w' (some ⟨gb, 0, none⟩) nb T

set_option maxRecDepth 100000 in
set_option maxHeartbeats 4000000 in
theorem impl_hashedRow (p : Pr) (i n pb po pcap : Nat) (P : List ByteArray) (w : World) (hp : lim p) (hin : i < n) (h60 : n ≤ 60) (hP : SlS w (some ⟨pb, po, none⟩) P.length P) (hPs : ∀ s ∈ P, s.size ≤ 137438953472) (hpc : P.length ≤ pcap) (hfit : P.length = depth i n) (hK : sha.KW w) :
    Calls Tryz.prog 71 #[.agg #[.string p.1, .string p.2], .int .i64 (i : Int), .int .i64 (n : Int), .slice (some ⟨pb, po, none⟩) P.length pcap] w (HRow w (wayAll (leafB p) i n P)) := by
  unfold wayAll
  obtain ⟨inf, hi, hz0, hz1, hz2⟩ := info_parts infoSl
  have hp1 := hp.1
  have hp2 := hp.2
  have hdl := depth_le i n
  have hP60 : P.length ≤ 60 := by omega
  have hsl : (sides i n).length = P.length := by rw [sides_length]; exact hfit.symm
  clear hfit hdl
  obtain ⟨w0, hw0⟩ : ∃ w0, w0 = w.alloc (.cells #[.string p.1, .string p.2] 49) := ⟨_, rfl⟩
  have hb0 : Below w.heap.size w w0 := by rw [hw0]; exact (Below.refl _ _).alloc (Nat.le_refl _) _
  have hc1 : w0.cell? ⟨w.heap.size, 0, none⟩ = some (.string p.1) := by rw [hw0]; simp
  have hc2 : w0.cell? ⟨w.heap.size, 1, none⟩ = some (.string p.2) := by rw [hw0]; simp
  have HLB := Hid.mk' (impl_leafBytes p w0 hp)
  have HLF : Hid (∀ wx, Below w.heap.size w wx → Calls Tryz.prog 55 #[.agg #[.string p.1, .string p.2]] wx fun e w' => e = .returned (.string (leafOf p)) ∧ Below wx.heap.size wx w') := fun wx hx => impl_leafOf p wx hp (hK.below hx)
  have HSD := Hid.mk' (fun wx => impl_sides i n wx hin h60)
  have hlz : (leafOf p).size = 32 := dg_size _
  have HK := Hid.mk' hK
  have HP := Hid.mk' hP
  generalize sides i n = S at *
  have hlf : dg (leafB p) = leafOf p := rfl
  rw [hlf]
  have HWT : Hid (∀ k (h1 : k < S.length) (h2 : k < P.length), wayTo (leafB p) S P (k + 1) = wayTo (leafB p) S P k ++ [nodeAt (upTo (leafOf p) S P k) S[k] P[k]]) := fun k h1 h2 => wayTo_step (leafB p) S P k h1 h2
  have HW0 : Hid (wayTo (leafB p) S P 0 = [leafB p]) := rfl
  have HWL := Hid.mk' (wayTo_length (leafB p) S P)
  generalize wayTo (leafB p) S P = W at *
  generalize leafOf p = lf at *
  clear hlf
  clear hK hP
  go_enter Tryz.func71, Tryz.ntmps71
  go_wp2_with fail
  rw [← hw0]
  clear hw0
  refine HLB.out.mono ?_
  rintro e w1 ⟨g1, n1, c1, rfl, hOl, hb1⟩
  have hB1 : Below w.heap.size w w1 := hb0.trans (hb1.mono hb0.size)
  have hl0 : w.heap.size < w0.heap.size := World.block_lt_of_cell? w0 _ hc1
  have hd1 := (hb1.cell (p := ⟨w.heap.size, 0, none⟩) hl0).trans hc1
  have hd2 := (hb1.cell (p := ⟨w.heap.size, 1, none⟩) hl0).trans hc2
  have hV1 := ownV_one w1 w.heap.size (.slice (some ⟨g1, 0, none⟩) n1 c1) hB1.size
  have hba : Below w1.heap.size w1 (w1.alloc (.cells #[.slice (some ⟨g1, 0, none⟩) n1 c1] 22)) := (Below.refl _ _).alloc (Nat.le_refl _) _
  have hB2 : Below w.heap.size w (w1.alloc (.cells #[.slice (some ⟨g1, 0, none⟩) n1 c1] 22)) := hB1.alloc hB1.size _
  have HA1 : Hid (AllSl (w1.alloc (.cells #[.slice (some ⟨g1, 0, none⟩) n1 c1] 22)) w.heap.size [.slice (some ⟨g1, 0, none⟩) n1 c1] (W 0)) := by rw [HW0.out]; exact AllSl.one ⟨g1, n1, c1, rfl, (hOl.mono hb0.size).below hba⟩
  have HV1 := Hid.mk' hV1
  have hl1 : w.heap.size < w1.heap.size := Nat.lt_of_lt_of_le hl0 hb1.size
  have hd3 := (hba.cell (p := ⟨w.heap.size, 0, none⟩) hl1).trans hd1
  have hd4 := (hba.cell (p := ⟨w.heap.size, 1, none⟩) hl1).trans hd2
  clear hb1 hb0 hc1 hc2 hV1 HLB hd1 hd2 hOl HW0
  go_wp2_with fail
  refine (HLF.out _ hB2).mono ?_
  rintro e w2 ⟨rfl, hb2⟩
  have hB3 := hB2.trans (hb2.mono hB2.size)
  have HV2 := Hid.mk' (ownV_below HV1.out hb2)
  have HA2 := Hid.mk' (HA1.out.below hb2)
  clear hb2 hB2 HV1 HA1 HLF hd3 hd4 hba hB1 hl1 hl0
  go_wp2_with fail
  refine (HSD.out _).mono ?_
  rintro e w3 ⟨gs, ns, cs, rfl, hOB, hb3⟩
  have hns : ns = P.length := by have := hOB.1; omega
  subst hns
  have hB4 := hB3.trans (hb3.mono hB3.size)
  have HOB := Hid.mk' (hOB.mono (base' := w.heap.size) hB3.size)
  have HV3 := Hid.mk' (ownV_below HV2.out hb3)
  have HA3 := Hid.mk' (HA2.out.below hb3)
  clear hOB hb3 HV2 HA2 HSD hB3
  go_wp2_with (at_builtin; fail)
  go_loopw [9, 10, 23] (fun hv xv kv wr => ∃ (k g c : Nat) (vs : List Value) (x : ByteArray), hv = .slice (some ⟨g, 0, none⟩) (k + 1) c ∧ xv = .string x ∧ kv = .int .i64 (k : Int) ∧ k ≤ P.length ∧ x = upTo lf S P k ∧ x.size = 32 ∧ OwnV wr w.heap.size g (k + 1) c vs ∧ AllSl wr w.heap.size vs (W k) ∧ OwnB wr w.heap.size gs P.length cs S ∧ Below w.heap.size w wr) (fun _ _ kv _ => P.length - (intOf kv).toNat)
  case atStart => exact ⟨0, w1.heap.size, 1, _, lf, rfl, rfl, rfl, Nat.zero_le _, rfl, hlz, HV3.out, HA3.out, HOB.out, hB4⟩
  case round =>
    obtain ⟨k, g, c, vs, x, rfl, rfl, rfl, hk, hx, hxz, hV, hA, hOB, hB⟩ := hrel
    clear HV3 HA3 HOB hB4
    have hSl : S.length = P.length := by omega
    by_cases hlt : k < P.length
    · have hU := upTo_step lf S P k (by omega) hlt
      have hW := HWT.out k (by omega) hlt
      rw [← hx] at hU hW
      have cs1 := hOB.at k (by omega)
      have cp1 := (HP.out.below hB)
      have cp2 : wr.cell? ⟨pb, po + k, none⟩ = some (.string P[k]) := by
        obtain ⟨b', off', e, hc⟩ := cp1.2.2.2 (by omega)
        simp only [Option.some.injEq, Addr.mk.injEq, and_true] at e
        obtain ⟨rfl, rfl⟩ := e
        exact hc k hlt
      have hqs := hPs P[k] (List.getElem_mem hlt)
      have hki : (k : Int) < (P.length : Int) := by omega
      have hc3 : k + 1 + 1 ≤ maxLen := by unfold maxLen; omega
      have hc4 : (k + 1 + 1) * 24 ≤ 140737488355328 := by omega
      have hx9 : x.size ≤ 137438953472 := by omega
      generalize P[k] = q at *
      cases hsk : S[k]'(by omega) with
      | true =>
        rw [hsk] at hU cs1 hW
        have HW : Hid (W (k + 1) = W k ++ [nodeB x q]) := by show _ = _; rw [hW]; rfl
        have HU : Hid (upTo lf S P (k + 1) = dg (nodeB x q)) := by show _ = _; rw [hU]; rfl
        have HN := Hid.mk' (impl_nodeBytes x q wr hx9 hqs)
        clear hU hx hsk cp1 hW
        go_wp2_with (at_builtin; fail)
        refine HN.out.mono ?_
        rintro e w1 ⟨g1, n1, c1, rfl, hO1, hb1⟩
        clear HN cs1 cp2
        have hB1 : Below w.heap.size w w1 := hB.trans (hb1.mono hB.size)
        have hs1 := hB1.size
        have hB0 := hB.size
        have hV1 := ownV_below hV hb1
        have hA1 := hA.below hb1
        have hOB1 := hOB.below hb1
        have hgl := ownV_lt hV
        have hgn : g1 ≠ g := by have := hO1.lt.1; omega
        have hne : gs ≠ g := ownV_ne hV hOB
        have hn1 : n1 ≤ 137438953600 := by have := hO1.1; have := nodeB_length x q; omega
        clear hV hOB hB hA
        go_wp2_with (at_builtin; refine wpList_append_own _ rfl (.tmp 42) (.tmp 44) 99 rfl w.heap.size 22 inf (.slice none 0 0) 1 24 Tryz.underlying99 hi hz0 hz1 hz2 rfl (by decide) _ _ _ rfl (hV1.2.alloc _) ⟨w1.heap.size, 0, none⟩ 1 1 [.slice (some ⟨g1, 0, none⟩) n1 c1] rfl rfl (cell_one_new _ _ _) (slice_oneCell _ _ _) hc3 hc4 (le_alloc _ _ hs1) ?_)
        intro v3 w3 hown hgrow hnn
        have hnn' : ¬ v3 = .slice none 0 0 := by simpa using hnn
        obtain ⟨g3, c3, hv, hV3⟩ := ownV_val (vs := vs ++ [.slice (some ⟨g1, 0, none⟩) n1 c1]) (n := k + 1 + 1) (by have := hV1.1; simp; omega) hnn' hown
        subst hv
        have hba : Below w1.heap.size w1 (w1.alloc (.cells #[.slice (some ⟨g1, 0, none⟩) n1 c1] 22)) := (Below.refl _ _).alloc (Nat.le_refl _) _
        have hB3 : Below w.heap.size w w3 := (hB1.alloc hs1 _).grown hgrow (le_alloc _ _ hs1) (fun k e => by simp [Value.ownBlock] at e; omega)
        have hOB3 : OwnB w3 w.heap.size gs P.length cs S := (hOB1.below hba).grown hgrow (fun e => by simp [Value.ownBlock] at e; omega)
        have hO3 : Own w3 w.heap.size g1 n1 c1 (nodeB x q) := ((hO1.mono hB0).below hba).grown hgrow (fun e => by simp [Value.ownBlock] at e; omega)
        have hN3 := hO3.sl
        have hA3 : AllSl w3 w.heap.size (vs ++ [.slice (some ⟨g1, 0, none⟩) n1 c1]) (W (k + 1)) := by
          rw [HW.out]
          exact ((hA1.below hba).grown (ownV_below hV1 hba) hgrow).snoc ⟨g1, n1, c1, rfl, hO3⟩
        have HD := Hid.mk' (sha.impl_digest g1 0 n1 c1 (nodeB x q) w3 hN3 (by omega) (HK.out.below hB3))
        have HV3 := Hid.mk' hV3
        have HA3 := Hid.mk' hA3
        have HOB3 := Hid.mk' hOB3
        clear hown hgrow hnn hnn' hV3 hOB3 hba hV1 hOB1 hO1 hN3 hb1 hB1 hne hgn hA1 hA3 hO3 HW
        go_wp2_with (at_builtin; fail)
        refine HD.out.mono ?_
        rintro e w4 ⟨rfl, hb4⟩
        have hB4 := hB3.trans (hb4.mono hB3.size)
        have HV4 := Hid.mk' (ownV_below HV3.out hb4)
        have HA4 := Hid.mk' (HA3.out.below hb4)
        have HOB4 := Hid.mk' (HOB3.out.below hb4)
        clear HV3 HA3 HOB3 HD hb4 hB3
        go_wp2_with (at_builtin; fail)
        go_roundw
        case rel => exact ⟨k + 1, g3, c3, _, _, rfl, rfl, by go_num, by omega, by rw [HU.out]; rfl, dg_size _, HV4.out, HA4.out, HOB4.out, hB4⟩
        case measure => simp [intOf]; omega
      | false =>
        rw [hsk] at hU cs1 hW
        have HW : Hid (W (k + 1) = W k ++ [nodeB q x]) := by show _ = _; rw [hW]; rfl
        have HU : Hid (upTo lf S P (k + 1) = dg (nodeB q x)) := by show _ = _; rw [hU]; rfl
        have HN := Hid.mk' (impl_nodeBytes x q wr hx9 hqs)
        have HM := Hid.mk' (fun wx => impl_nodeBytes q x wx hqs hx9)
        clear hU hx hsk cp1 hW
        go_wp2_with (at_builtin; fail)
        refine HN.out.mono ?_
        rintro e w0' ⟨g0, n0, c0, rfl, _, hb0'⟩
        have cp3 := (hb0'.cell (p := ⟨pb, po + k, none⟩) (World.block_lt_of_cell? wr _ cp2)).trans cp2
        clear HN cs1 cp2
        go_wp2_with (at_builtin; fail)
        refine (HM.out _).mono ?_
        rintro e w1 ⟨g1, n1, c1, rfl, hO1', hb1'⟩
        have hO1 := hO1'.mono (base' := wr.heap.size) hb0'.size
        have hb1 := hb0'.trans (hb1'.mono hb0'.size)
        clear HM cp3 hO1' hb1' hb0'
        have hB1 : Below w.heap.size w w1 := hB.trans (hb1.mono hB.size)
        have hs1 := hB1.size
        have hB0 := hB.size
        have hV1 := ownV_below hV hb1
        have hA1 := hA.below hb1
        have hOB1 := hOB.below hb1
        have hgl := ownV_lt hV
        have hgn : g1 ≠ g := by have := hO1.lt.1; omega
        have hne : gs ≠ g := ownV_ne hV hOB
        have hn1 : n1 ≤ 137438953600 := by have := hO1.1; have := nodeB_length q x; omega
        clear hV hOB hB hA
        go_wp2_with (at_builtin; refine wpList_append_own _ rfl (.tmp 42) (.tmp 44) 99 rfl w.heap.size 22 inf (.slice none 0 0) 1 24 Tryz.underlying99 hi hz0 hz1 hz2 rfl (by decide) _ _ _ rfl (hV1.2.alloc _) ⟨w1.heap.size, 0, none⟩ 1 1 [.slice (some ⟨g1, 0, none⟩) n1 c1] rfl rfl (cell_one_new _ _ _) (slice_oneCell _ _ _) hc3 hc4 (le_alloc _ _ hs1) ?_)
        intro v3 w3 hown hgrow hnn
        have hnn' : ¬ v3 = .slice none 0 0 := by simpa using hnn
        obtain ⟨g3, c3, hv, hV3⟩ := ownV_val (vs := vs ++ [.slice (some ⟨g1, 0, none⟩) n1 c1]) (n := k + 1 + 1) (by have := hV1.1; simp; omega) hnn' hown
        subst hv
        have hba : Below w1.heap.size w1 (w1.alloc (.cells #[.slice (some ⟨g1, 0, none⟩) n1 c1] 22)) := (Below.refl _ _).alloc (Nat.le_refl _) _
        have hB3 : Below w.heap.size w w3 := (hB1.alloc hs1 _).grown hgrow (le_alloc _ _ hs1) (fun k e => by simp [Value.ownBlock] at e; omega)
        have hOB3 : OwnB w3 w.heap.size gs P.length cs S := (hOB1.below hba).grown hgrow (fun e => by simp [Value.ownBlock] at e; omega)
        have hO3 : Own w3 w.heap.size g1 n1 c1 (nodeB q x) := ((hO1.mono hB0).below hba).grown hgrow (fun e => by simp [Value.ownBlock] at e; omega)
        have hN3 := hO3.sl
        have hA3 : AllSl w3 w.heap.size (vs ++ [.slice (some ⟨g1, 0, none⟩) n1 c1]) (W (k + 1)) := by
          rw [HW.out]
          exact ((hA1.below hba).grown (ownV_below hV1 hba) hgrow).snoc ⟨g1, n1, c1, rfl, hO3⟩
        have HD := Hid.mk' (sha.impl_digest g1 0 n1 c1 (nodeB q x) w3 hN3 (by omega) (HK.out.below hB3))
        have HV3 := Hid.mk' hV3
        have HA3 := Hid.mk' hA3
        have HOB3 := Hid.mk' hOB3
        clear hown hgrow hnn hnn' hV3 hOB3 hba hV1 hOB1 hO1 hN3 hb1 hB1 hne hgn hA1 hA3 hO3 HW
        go_wp2_with (at_builtin; fail)
        refine HD.out.mono ?_
        rintro e w4 ⟨rfl, hb4⟩
        have hB4 := hB3.trans (hb4.mono hB3.size)
        have HV4 := Hid.mk' (ownV_below HV3.out hb4)
        have HA4 := Hid.mk' (HA3.out.below hb4)
        have HOB4 := Hid.mk' (HOB3.out.below hb4)
        clear HV3 HA3 HOB3 HD hb4 hB3
        go_wp2_with (at_builtin; fail)
        go_roundw
        case rel => exact ⟨k + 1, g3, c3, _, _, rfl, rfl, by go_num, by omega, by rw [HU.out]; rfl, dg_size _, HV4.out, HA4.out, HOB4.out, hB4⟩
        case measure => simp [intOf]; omega
    · have HE : Hid (x = ups lf (S.zip P)) := by show _ = _; rw [hx]; exact upTo_all _ _ _ _ (by omega)
      have hki : ¬ (k : Int) < (P.length : Int) := by omega
      have HR := Hid.mk' (impl_rootBytes (n : Int) x wr (WalkArith.wf_i64 (by omega)) (by omega))
      have hc3 : k + 1 + 1 ≤ maxLen := by unfold maxLen; omega
      have hc4 : (k + 1 + 1) * 24 ≤ 140737488355328 := by omega
      have hgl := ownV_lt hV
      clear hx hOB
      go_wp2_with (at_builtin; fail)
      refine HR.out.mono ?_
      rintro e w1 ⟨g1, n1, c1, rfl, hO1, hb1⟩
      have hB1 : Below w.heap.size w w1 := hB.trans (hb1.mono hB.size)
      have hs1 := hB1.size
      have hV1 := ownV_below hV hb1
      have hA1 := hA.below hb1
      have hB0 := hB.size
      have hgn : g1 ≠ g := by have := hO1.lt.1; omega
      clear hV hB HR hA
      go_wp2_with (at_builtin; refine wpList_append_own _ rfl (.tmp 49) (.tmp 53) 99 rfl w.heap.size 22 inf (.slice none 0 0) 1 24 Tryz.underlying99 hi hz0 hz1 hz2 rfl (by decide) _ _ _ rfl (hV1.2.alloc _) ⟨w1.heap.size, 0, none⟩ 1 1 [.slice (some ⟨g1, 0, none⟩) n1 c1] rfl rfl (cell_one_new _ _ _) (slice_oneCell _ _ _) hc3 hc4 (le_alloc _ _ hs1) ?_)
      intro v3 w3 hown hgrow hnn
      have hnn' : ¬ v3 = .slice none 0 0 := by simpa using hnn
      obtain ⟨g3, c3, hv, hV3⟩ := ownV_val (vs := vs ++ [.slice (some ⟨g1, 0, none⟩) n1 c1]) (n := k + 1 + 1) (by have := hV1.1; simp; omega) hnn' hown
      subst hv
      have hba : Below w1.heap.size w1 (w1.alloc (.cells #[.slice (some ⟨g1, 0, none⟩) n1 c1] 22)) := (Below.refl _ _).alloc (Nat.le_refl _) _
      have hB3 : Below w.heap.size w w3 := (hB1.alloc hs1 _).grown hgrow (le_alloc _ _ hs1) (fun k e => by simp [Value.ownBlock] at e; omega)
      have hO3 : Own w3 w.heap.size g1 n1 c1 (topB (n : Int) x) := ((hO1.mono hB0).below hba).grown hgrow (fun e => by simp [Value.ownBlock] at e; omega)
      have hA3 := ((hA1.below hba).grown (ownV_below hV1 hba) hgrow).snoc ⟨g1, n1, c1, rfl, hO3⟩
      have hWL := HWL.out k
      have hkk : k = P.length := by omega
      have HF : Hid (HRow w (W P.length ++ [topB (n : Int) (ups lf (S.zip P))]) (.returned (.slice (some ⟨g3, 0, none⟩) (k + 1 + 1) c3)) w3) := by
        rw [← HE.out, ← hkk]
        exact ⟨hB3, g3, k + 1, c3, _, rfl, by rw [List.length_append, hWL]; rfl, by omega, hV3, hA3⟩
      clear hown hgrow hnn hnn' hV3 hba hV1 hO1 hb1 hB1 hgn hB3 hA3 hO3 hA1 hkk hWL
      go_wp2_with (at_builtin; fail)
      go_ret
      exact HF.out
theorem impl_hashedUp (p : Pr) (i n pb po pcap : Nat) (P : List ByteArray) (w : World) (hp : lim p) (hin : i < n) (h60 : n ≤ 60) (hP : SlS w (some ⟨pb, po, none⟩) P.length P) (hPs : ∀ s ∈ P, s.size ≤ 137438953472) (hpc : P.length ≤ pcap) (hfit : P.length = depth i n) (hK : sha.KW w) :
    Calls Tryz.prog 71 #[.agg #[.string p.1, .string p.2], .int .i64 (i : Int), .int .i64 (n : Int), .slice (some ⟨pb, po, none⟩) P.length pcap] w (HUp w (topB (n : Int) (ups (leafOf p) ((sides i n).zip P)))) := by
  refine (impl_hashedRow p i n pb po pcap P w hp hin h60 hP hPs hpc hfit hK).mono ?_
  rintro e w' ⟨hB, g, m, cap, vs, rfl, hT, hm, hV, hA⟩
  have hlast : (wayAll (leafB p) i n P)[m]? = some (topB (n : Int) (ups (leafOf p) ((sides i n).zip P))) := by
    have h2 := wayTo_length (leafB p) (sides i n) P P.length
    unfold wayAll at hT ⊢
    rw [List.length_append, h2] at hT
    have : m = P.length + 1 := by simpa using hT.symm
    rw [List.getElem?_append_right (by omega), h2, this]
    simp; rfl
  obtain ⟨v, hv, gb, nb, cb, rfl, hO⟩ := hA.2 m _ hlast
  have hvl := (List.getElem?_eq_some_iff.1 hv)
  have hc := ownV_at hV m hvl.1
  rw [hvl.2] at hc
  exact ⟨hB, g, m, cap, gb, nb, cb, rfl, hm, hc, hO.sl⟩
end Go.Proofs.YtdebbgodhpcijaaGreatDoor.tree

namespace Go.Proofs.YtdebbgodhpcijaaGreatDoor.tree
open Go Go.RowKit Go.Proofs.YtdebbgodhpcijaaGreatDoor.base Go.Proofs.YtdebbgodhpcijaaGreatDoor.pairs Go.Proofs.YtdebbgodhpcijaaGreatDoor.puttext Go.Proofs.YtdebbgodhpcijaaGreatDoor.putnum
set_option linter.unusedVariables false
set_option linter.unusedSimpArgs false

set_option maxHeartbeats 1000000 in
theorem impl_fitsNot (I N : Int) (a : Option Addr) (len cap : Nat) (w : World) (h : ¬ (N ≤ 60 ∧ 0 ≤ I ∧ I < N)) :
    Calls Tryz.prog 70 #[.int .i64 I, .int .i64 N, .slice a len cap] w fun e w' => e = .returned (.bool false) ∧ Below w.heap.size w w' := by
  have hd : (decide (N ≤ 60) && decide (0 ≤ I) && decide (I < N)) = false := by
    rw [Bool.and_eq_false_iff, Bool.and_eq_false_iff, decide_eq_false_iff_not, decide_eq_false_iff_not, decide_eq_false_iff_not]; omega
  have hp := impl_placeOk I N w
  rw [hd] at hp
  have HP := Hid.mk' hp
  clear hp hd h
  go_enter Tryz.func70, Tryz.ntmps70
  go_wp2_with fail
  refine HP.out.mono ?_
  rintro e w1 ⟨rfl, hw1⟩
  subst hw1
  go_wp2_with fail
  go_ret
  exact ⟨rfl, Below.refl _ _⟩

set_option maxHeartbeats 1000000 in
theorem impl_fits (i n : Nat) (a : Option Addr) (len cap : Nat) (w : World) (hin : i < n) (h60 : n ≤ 60) (hlen : len ≤ maxLen) :
    Calls Tryz.prog 70 #[.int .i64 (i : Int), .int .i64 (n : Int), .slice a len cap] w fun e w' => e = .returned (.bool (decide (len = depth i n))) ∧ Below w.heap.size w w' := by
  have hp := impl_placeOk (i : Int) (n : Int) w
  rw [decide_eq_true (show (n : Int) ≤ 60 by omega), decide_eq_true (show (0 : Int) ≤ (i : Int) by omega), decide_eq_true (show (i : Int) < (n : Int) by omega)] at hp
  have HP := Hid.mk' hp
  have HS := Hid.mk' (fun wx => impl_sides i n wx hin h60)
  have HL := Hid.mk' (sides_length i n)
  have hdl := depth_le i n
  generalize depth i n = d at *
  clear hp
  by_cases he : len = d
  · subst he
    go_enter Tryz.func70, Tryz.ntmps70
    go_wp2_with fail
    refine HP.out.mono ?_
    rintro e w1 ⟨rfl, hw1⟩
    subst hw1
    go_wp2_with fail
    refine (HS.out _).mono ?_
    rintro e w2 ⟨g, m, c, rfl, hO, hB⟩
    have hm : m = len := by have := hO.1; have := HL.out; omega
    subst hm
    clear hO
    go_wp2_with fail
    go_ret
    exact ⟨ret_bool (by simp), hB⟩
  · have hei : ¬ (len : Int) = (d : Int) := by omega
    have HE : Hid (decide (len = d) = false) := decide_eq_false he
    clear he
    go_enter Tryz.func70, Tryz.ntmps70
    go_wp2_with fail
    refine HP.out.mono ?_
    rintro e w1 ⟨rfl, hw1⟩
    subst hw1
    go_wp2_with fail
    refine (HS.out _).mono ?_
    rintro e w2 ⟨g, m, c, rfl, hO, hB⟩
    have hm : m = d := by have := hO.1; have := HL.out; omega
    subst hm
    clear hO
    go_wp2_with fail
    go_ret
    exact ⟨ret_bool (by rw [HE.out]; exact beq_eq_false_iff_ne.2 hei), hB⟩

set_option maxRecDepth 100000 in
set_option maxHeartbeats 2000000 in
theorem impl_checkPath (p : Pr) (I N : Int) (pb po pcap : Nat) (P : List ByteArray) (root : ByteArray) (w : World) (hp : lim p) (hP : SlS w (some ⟨pb, po, none⟩) P.length P) (hPs : ∀ s ∈ P, s.size ≤ 137438953472) (hpc : P.length ≤ pcap) (hr : root.size ≤ maxLen) (hI : (Lit.int .i64 I).wf = true) (hN : (Lit.int .i64 N).wf = true) (hK : sha.KW w) :
    Calls Tryz.prog 60 #[.agg #[.string p.1, .string p.2], .int .i64 I, .int .i64 N, .slice (some ⟨pb, po, none⟩) P.length pcap, .string root] w fun e w' => e = .returned (.bool (checkPathI p I N P root)) ∧ Below w.heap.size w w' := by
  have hPm := hP.2.1
  obtain ⟨w0, hw0⟩ : ∃ w0, w0 = w.alloc (.cells #[.string p.1, .string p.2] 49) := ⟨_, rfl⟩
  have hba : Below w.heap.size w w0 := by rw [hw0]; exact (Below.refl _ _).alloc (Nat.le_refl _) _
  have hc1 : w0.cell? ⟨w.heap.size, 0, none⟩ = some (.string p.1) := by rw [hw0]; simp
  have hc2 : w0.cell? ⟨w.heap.size, 1, none⟩ = some (.string p.2) := by rw [hw0]; simp
  by_cases hpl : N ≤ 60 ∧ 0 ≤ I ∧ I < N
  · obtain ⟨n, hn⟩ : ∃ n : Nat, N = (n : Int) := ⟨N.toNat, by omega⟩
    subst hn
    obtain ⟨i, hi⟩ : ∃ i : Nat, I = (i : Int) := ⟨I.toNat, by omega⟩
    subst hi
    have hin : i < n := by omega
    have hn60 : n ≤ 60 := by omega
    have hci : checkPathI p (i : Int) (n : Int) P root = checkPath p i n P root := by
      unfold checkPathI; rw [decide_eq_true (show 1 ≤ (n : Int) ∧ (n : Int) ≤ 60 by omega), decide_eq_true (show 0 ≤ (i : Int) ∧ (i : Int) ≤ (n : Int) - 1 by omega), Int.toNat_natCast, Int.toNat_natCast]; rfl
    have hdl := depth_le i n
    by_cases hfit : P.length = depth i n
    · have hF := fun wx => impl_fits i n (some ⟨pb, po, none⟩) P.length pcap wx hin hn60 hPm
      rw [decide_eq_true hfit] at hF
      have HF := Hid.mk' hF
      have HC : Hid (checkPathI p (i : Int) (n : Int) P root = decide (dg (topB (n : Int) (ups (leafOf p) ((sides i n).zip P))) = root)) := by show _ = _; rw [hci, check_ups hfit]
      have HH : Hid (∀ wx, Below w.heap.size w wx → Calls Tryz.prog 71 #[.agg #[.string p.1, .string p.2], .int .i64 (i : Int), .int .i64 (n : Int), .slice (some ⟨pb, po, none⟩) P.length pcap] wx (HUp wx (topB (n : Int) (ups (leafOf p) ((sides i n).zip P))))) :=
        fun wx hx => impl_hashedUp p i n pb po pcap P wx hp hin hn60 (hP.below hx) hPs hpc hfit (hK.below hx)
      have htl := topB_length (n : Int) (ups (leafOf p) ((sides i n).zip P))
      have hus := ups_size (leafOf p) ((sides i n).zip P) (dg_size _)
      have HK := Hid.mk' hK
      generalize topB (n : Int) (ups (leafOf p) ((sides i n).zip P)) = T at *
      clear hF hci hfit hpl hP hPs hK hdl
      go_enter Tryz.func60, Tryz.ntmps60
      go_wp2_with fail
      rw [← hw0]
      clear hw0
      refine (HF.out _).mono ?_
      rintro e w1 ⟨rfl, hb1⟩
      have hB1 : Below w.heap.size w w1 := hba.trans (hb1.mono hba.size)
      have hl0 : w.heap.size < w0.heap.size := World.block_lt_of_cell? w0 _ hc1
      have hd1 := (hb1.cell (p := ⟨w.heap.size, 0, none⟩) hl0).trans hc1
      have hd2 := (hb1.cell (p := ⟨w.heap.size, 1, none⟩) hl0).trans hc2
      clear HF hc1 hc2 hb1 hba
      go_wp2_with fail
      refine (HH.out _ hB1).mono ?_
      rintro e w2 ⟨hb2, g, m, c, gb, nb, cb, rfl, hm, hcl, hSl⟩
      have hB2 : Below w.heap.size w w2 := hB1.trans (hb2.mono hB1.size)
      have hnb : nb ≤ 100 := by have := hSl.1; omega
      have HD := Hid.mk' (sha.impl_digest gb 0 nb cb T w2 hSl (by omega) (HK.out.below hB2))
      have q1 : ((m + 1 : Nat) : Int) - 1 = (m : Int) := by omega
      clear hb2 hd1 hd2 HH hSl hB1
      go_wp2_with fail
      refine HD.out.mono ?_
      rintro e w4 ⟨rfl, hb4⟩
      have hB4 : Below w.heap.size w w4 := hB2.trans (hb4.mono hB2.size)
      have hdd : (⟨(sha.digest T).toArray⟩ : ByteArray) = dg T := rfl
      rw [hdd]
      generalize dg T = d at *
      clear HD hb4 hcl hdd
      by_cases he : d = root
      · subst he
        go_wp2_with fail
        go_ret
        exact ⟨ret_bool (by rw [HC.out]; simp), hB4⟩
      · have hq : (d.toList == root.toList) = false := by
          rw [beq_eq_false_iff_ne]; intro e; rw [ByteArray.toList_eq, ByteArray.toList_eq] at e; exact he (bytes_ext e)
        have HE : Hid (¬ d = root) := he
        clear he
        go_wp2_with fail
        go_ret
        exact ⟨ret_bool (by rw [HC.out, decide_eq_false HE.out]), hB4⟩
    · have HC : Hid (checkPathI p (i : Int) (n : Int) P root = false) := by show _ = _; rw [hci]; exact check_not hfit
      have hF := fun wx => impl_fits i n (some ⟨pb, po, none⟩) P.length pcap wx hin hn60 hPm
      rw [decide_eq_false hfit] at hF
      have HF := Hid.mk' hF
      clear hF hfit hpl hP hPs hK hci hdl
      go_enter Tryz.func60, Tryz.ntmps60
      go_wp2_with fail
      rw [← hw0]
      clear hw0
      refine (HF.out _).mono ?_
      rintro e w1 ⟨rfl, hb1⟩
      have hB1 : Below w.heap.size w w1 := hba.trans (hb1.mono hba.size)
      clear HF hc1 hc2 hb1 hba
      go_wp2_with fail
      go_ret
      exact ⟨ret_bool (by rw [HC.out]), hB1⟩
  · have HC : Hid (checkPathI p I N P root = false) := by
      show _ = _
      unfold checkPathI
      by_cases h1 : 1 ≤ N ∧ N ≤ 60
      · rw [decide_eq_false (show ¬ (0 ≤ I ∧ I ≤ N - 1) by omega)]; simp
      · rw [decide_eq_false h1]; simp
    have HF := Hid.mk' (fun wx => impl_fitsNot I N (some ⟨pb, po, none⟩) P.length pcap wx hpl)
    clear hpl hP hPs hK
    go_enter Tryz.func60, Tryz.ntmps60
    go_wp2_with fail
    rw [← hw0]
    clear hw0
    refine (HF.out _).mono ?_
    rintro e w1 ⟨rfl, hb1⟩
    have hB1 : Below w.heap.size w w1 := hba.trans (hb1.mono hba.size)
    clear HF hc1 hc2 hb1 hba
    go_wp2_with fail
    go_ret
    exact ⟨ret_bool (by rw [HC.out]), hB1⟩
end Go.Proofs.YtdebbgodhpcijaaGreatDoor.tree
