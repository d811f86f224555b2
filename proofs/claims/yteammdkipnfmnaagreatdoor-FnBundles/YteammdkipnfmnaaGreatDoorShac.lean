/- Plain mathematics of trees: digests of pairs, the way from a leaf up. Rows of pairs of texts: small facts on worlds; no function of the program is named here. A region that draws its order, whose operations only read, but for its last, which waits for all the others: one walk of the text's order serves every order. No function of the program is named here. Rows of numbers that a call makes. -/
import Derived.Test.YteammdkipnfmnaaGreatDoorShaa
import Derived.Test.YteammdkipnfmnaaGreatDoorShab
import Derived.OwnWalk
import Derived.Deep.QuietTactic
import Derived.BigQuiet
import Derived.WalkKit
import Derived.WalkSpells
import Derived.WalkLawsBesides
import Derived.Deep.RegionHeldLaw
namespace Go.Proofs.YteammdkipnfmnaaGreatDoor.tree
open Go Go.Proofs.YteammdkipnfmnaaGreatDoor.base Go.Proofs.YteammdkipnfmnaaGreatDoor.pairs Go.Proofs.YteammdkipnfmnaaGreatDoor.puttext Go.Proofs.YteammdkipnfmnaaGreatDoor.putnum
set_option linter.unusedVariables false

def dg (bs : List UInt8) : ByteArray := ⟨(sha.digest bs).toArray⟩
theorem dg_size (bs : List UInt8) : (dg bs).size = 32 := by
  show (sha.digest bs).toArray.size = 32
  rw [List.size_toArray]; exact sha.digest_length bs
def leafB (p : Pr) : List UInt8 := [0] ++ textBytes p.1 ++ textBytes p.2
def nodeB (a b : ByteArray) : List UInt8 := [1] ++ a.data.toList ++ b.data.toList
def topB (n : Int) (x : ByteArray) : List UInt8 := [2] ++ numBytes n ++ x.data.toList
def leafOf (p : Pr) : ByteArray := dg (leafB p)
def nodeOf (a b : ByteArray) : ByteArray := dg (nodeB a b)
theorem leafB_length (p : Pr) : (leafB p).length ≤ p.1.size + p.2.size + 11 := by
  have h1 := textBytes_length p.1
  have h2 := textBytes_length p.2
  simp [leafB]; omega
theorem nodeB_length (a b : ByteArray) : (nodeB a b).length = a.size + b.size + 1 := by simp [nodeB]
theorem topB_length (n : Int) (x : ByteArray) : (topB n x).length ≤ x.size + 6 := by
  have h1 := numBytes_length n
  simp [topB]; omega

/-! ### halves -/
def half (n : Nat) : Nat := if n ≤ 2 then 1 else if n ≤ 4 then 2 else if n ≤ 8 then 4 else if n ≤ 16 then 8 else if n ≤ 32 then 16 else 32
theorem half_bd (n : Nat) (h : 2 ≤ n) : 1 ≤ half n ∧ half n < n := by
  unfold half
  split
  · omega
  · split
    · omega
    · split
      · omega
      · split
        · omega
        · split <;> omega
theorem half_eq (n k : Nat) (h : 2 ≤ n) (h64 : n ≤ 64) (hk : k = 1 ∨ k = 2 ∨ k = 4 ∨ k = 8 ∨ k = 16 ∨ k = 32) (h1 : k < n) (h2 : n ≤ 2 * k) : k = half n := by
  unfold half
  split
  · omega
  · split
    · omega
    · split
      · omega
      · split
        · omega
        · split <;> omega

/-! ### functions that call themselves, by how many calls are left -/
def runs {σ τ : Type} (base : σ → τ) (step : (σ → τ) → σ → τ) : Nat → σ → τ
  | 0, s => base s
  | k + 1, s => step (runs base step k) s
theorem runs_same {σ τ : Type} (base : σ → τ) (step : (σ → τ) → σ → τ) (m : σ → Nat) (hs : ∀ f g s, (∀ t, m t < m s → f t = g t) → step f s = step g s) (k : Nat) : ∀ j s, m s < k → m s < j → runs base step k s = runs base step j s := by
  induction k with
  | zero => intro j s h; omega
  | succ k ih =>
    intro j s h1 h2
    cases j with
    | zero => omega
    | succ j => exact hs _ _ s fun t ht => ih j t (by omega) (by omega)
theorem runs_eq {σ τ : Type} (base : σ → τ) (step : (σ → τ) → σ → τ) (m : σ → Nat) (hs : ∀ f g s, (∀ t, m t < m s → f t = g t) → step f s = step g s) (s : σ) : runs base step (m s + 1) s = step (fun t => runs base step (m t + 1) t) s :=
  hs _ _ s fun t ht => runs_same base step m hs (m s) (m t + 1) t ht (by omega)

/-! ### the inner digest -/
def innerS (f : List Pr → ByteArray) (l : List Pr) : ByteArray :=
  if l.length < 2 then (match l with | [] => dg [] | p :: _ => leafOf p)
  else nodeOf (f (l.take (half l.length))) (f (l.drop (half l.length)))
def inner (l : List Pr) : ByteArray := runs (fun _ => dg []) innerS (l.length + 1) l
theorem inner_eq (l : List Pr) : inner l = if l.length < 2 then (match l with | [] => dg [] | p :: _ => leafOf p) else nodeOf (inner (l.take (half l.length))) (inner (l.drop (half l.length))) :=
  runs_eq (fun _ => dg []) innerS List.length (fun f g s h => by
    unfold innerS
    by_cases hn : s.length < 2
    · rw [if_pos hn, if_pos hn]
    · have hb := half_bd s.length (by omega)
      rw [if_neg hn, if_neg hn, h (s.take (half s.length)) (by simp; omega), h (s.drop (half s.length)) (by simp; omega)]) l
theorem inner_nil : inner [] = dg [] := by rw [inner_eq]; simp
theorem inner_one (p : Pr) : inner [p] = leafOf p := by rw [inner_eq]; simp
theorem inner_step (l : List Pr) (h : 2 ≤ l.length) : inner l = nodeOf (inner (l.take (half l.length))) (inner (l.drop (half l.length))) := by
  rw [inner_eq, if_neg (by omega)]
theorem inner_size (l : List Pr) : (inner l).size = 32 := by
  rw [inner_eq]
  split
  · split
    · exact dg_size _
    · exact dg_size _
  · exact dg_size _
def rootOf (l : List Pr) : ByteArray := dg (topB (l.length : Int) (inner l))

/-! ### paths -/
def pathS (f : List Pr × Nat → List ByteArray) (s : List Pr × Nat) : List ByteArray :=
  if s.1.length < 2 then []
  else if s.2 < half s.1.length then f (s.1.take (half s.1.length), s.2) ++ [inner (s.1.drop (half s.1.length))]
  else f (s.1.drop (half s.1.length), s.2 - half s.1.length) ++ [inner (s.1.take (half s.1.length))]
def path (l : List Pr) (i : Nat) : List ByteArray := runs (fun _ => []) pathS (l.length + 1) (l, i)
theorem path_eq (l : List Pr) (i : Nat) : path l i = if l.length < 2 then []
    else if i < half l.length then path (l.take (half l.length)) i ++ [inner (l.drop (half l.length))]
    else path (l.drop (half l.length)) (i - half l.length) ++ [inner (l.take (half l.length))] :=
  runs_eq (fun _ => []) pathS (fun s => s.1.length) (fun f g s h => by
    unfold pathS
    by_cases hn : s.1.length < 2
    · rw [if_pos hn, if_pos hn]
    · have hb := half_bd s.1.length (by omega)
      rw [if_neg hn, if_neg hn, h (s.1.take (half s.1.length), s.2) (by simp; omega), h (s.1.drop (half s.1.length), s.2 - half s.1.length) (by simp; omega)]) (l, i)
theorem path_low (l : List Pr) (i : Nat) (h : l.length < 2) : path l i = [] := by rw [path_eq, if_pos h]
theorem path_left (l : List Pr) (i : Nat) (h : 2 ≤ l.length) (hi : i < half l.length) : path l i = path (l.take (half l.length)) i ++ [inner (l.drop (half l.length))] := by
  rw [path_eq, if_neg (by omega), if_pos hi]
theorem path_right (l : List Pr) (i : Nat) (h : 2 ≤ l.length) (hi : ¬ i < half l.length) : path l i = path (l.drop (half l.length)) (i - half l.length) ++ [inner (l.take (half l.length))] := by
  rw [path_eq, if_neg (by omega), if_neg hi]
def depthS (f : Nat × Nat → Nat) (s : Nat × Nat) : Nat :=
  if s.2 < 2 then 0
  else if s.1 < half s.2 then f (s.1, half s.2) + 1
  else f (s.1 - half s.2, s.2 - half s.2) + 1
def depth (i n : Nat) : Nat := runs (fun _ => 0) depthS (n + 1) (i, n)
theorem depth_eq (i n : Nat) : depth i n = if n < 2 then 0 else if i < half n then depth i (half n) + 1 else depth (i - half n) (n - half n) + 1 :=
  runs_eq (fun _ => 0) depthS (fun s => s.2) (fun f g s h => by
    unfold depthS
    by_cases hn : s.2 < 2
    · rw [if_pos hn, if_pos hn]
    · have hb := half_bd s.2 (by omega)
      rw [if_neg hn, if_neg hn, h (s.1, half s.2) hb.2, h (s.1 - half s.2, s.2 - half s.2) (by show s.2 - half s.2 < s.2; omega)]) (i, n)
theorem depth_left (i n : Nat) (h : 2 ≤ n) (hi : i < half n) : depth i n = depth i (half n) + 1 := by rw [depth_eq, if_neg (by omega), if_pos hi]
theorem depth_right (i n : Nat) (h : 2 ≤ n) (hi : ¬ i < half n) : depth i n = depth (i - half n) (n - half n) + 1 := by rw [depth_eq, if_neg (by omega), if_neg hi]
theorem path_length (l : List Pr) (i : Nat) : (path l i).length = depth i l.length := by
  induction hn : l.length using Nat.strongRecOn generalizing l i with
  | _ n ih =>
    by_cases h : n < 2
    · rw [path_low l i (by omega), depth_eq, if_pos h]; rfl
    · have hb := half_bd n (by omega)
      by_cases hi : i < half n
      · rw [path_left l i (by omega) (by rw [hn]; exact hi), depth_eq, if_neg h, if_pos hi, List.length_append, hn, ih (half n) hb.2 (l.take (half n)) i (by simp; omega)]; rfl
      · rw [path_right l i (by omega) (by rw [hn]; exact hi), depth_eq, if_neg h, if_neg hi, List.length_append, hn, ih (n - half n) (by omega) (l.drop (half n)) (i - half n) (by simp; omega)]; rfl
theorem path_small (l : List Pr) (i : Nat) : ∀ s ∈ path l i, s.size = 32 := by
  induction hn : l.length using Nat.strongRecOn generalizing l i with
  | _ n ih =>
    by_cases h : n < 2
    · rw [path_low l i (by omega)]; intro s hs; exact absurd hs List.not_mem_nil
    · have hb := half_bd n (by omega)
      intro s hs
      by_cases hi : i < half n
      · rw [path_left l i (by omega) (by rw [hn]; exact hi), hn] at hs
        rcases List.mem_append.1 hs with h1 | h1
        · exact ih (half n) hb.2 _ i (by simp; omega) s h1
        · rw [List.mem_singleton.1 h1]; exact inner_size _
      · rw [path_right l i (by omega) (by rw [hn]; exact hi), hn] at hs
        rcases List.mem_append.1 hs with h1 | h1
        · exact ih (n - half n) (by omega) _ _ (by simp; omega) s h1
        · rw [List.mem_singleton.1 h1]; exact inner_size _
theorem depth_le (i n : Nat) : depth i n ≤ n := by
  induction n using Nat.strongRecOn generalizing i with
  | _ n ih =>
    rw [depth_eq]
    split
    · omega
    · rename_i h
      have hb := half_bd n (by omega)
      split
      · have := ih (half n) hb.2 i; omega
      · have := ih (n - half n) (by omega) (i - half n); omega

/-! ### what is hashed on the way up -/
def hashedS (leaf : List UInt8) (f : Nat × Nat × List ByteArray → Option (List ByteArray)) (s : Nat × Nat × List ByteArray) : Option (List ByteArray) :=
  if s.2.1 < 2 then (if s.2.2 = [] then some [⟨leaf.toArray⟩] else none)
  else match s.2.2.getLast? with
    | none => none
    | some last =>
      if s.1 < half s.2.1 then (f (s.1, half s.2.1, s.2.2.dropLast)).map fun out => out ++ [⟨(nodeB (dg (out.getLastD ⟨#[]⟩).data.toList) last).toArray⟩]
      else (f (s.1 - half s.2.1, s.2.1 - half s.2.1, s.2.2.dropLast)).map fun out => out ++ [⟨(nodeB last (dg (out.getLastD ⟨#[]⟩).data.toList)).toArray⟩]
def hashed (leaf : List UInt8) (i n : Nat) (path : List ByteArray) : Option (List ByteArray) := runs (fun _ => none) (hashedS leaf) (n + 1) (i, n, path)
theorem hashed_eq (leaf : List UInt8) (i n : Nat) (path : List ByteArray) : hashed leaf i n path = if n < 2 then (if path = [] then some [⟨leaf.toArray⟩] else none)
    else match path.getLast? with
      | none => none
      | some last =>
        if i < half n then (hashed leaf i (half n) path.dropLast).map fun out => out ++ [⟨(nodeB (dg (out.getLastD ⟨#[]⟩).data.toList) last).toArray⟩]
        else (hashed leaf (i - half n) (n - half n) path.dropLast).map fun out => out ++ [⟨(nodeB last (dg (out.getLastD ⟨#[]⟩).data.toList)).toArray⟩] :=
  runs_eq (fun _ => none) (hashedS leaf) (fun s => s.2.1) (fun f g s h => by
    unfold hashedS
    by_cases hn : s.2.1 < 2
    · rw [if_pos hn, if_pos hn]
    · have hb := half_bd s.2.1 (by omega)
      rw [if_neg hn, if_neg hn, h (s.1, half s.2.1, s.2.2.dropLast) hb.2, h (s.1 - half s.2.1, s.2.1 - half s.2.1, s.2.2.dropLast) (by show s.2.1 - half s.2.1 < s.2.1; omega)]) (i, n, path)
theorem hashed_low (leaf : List UInt8) (i n : Nat) (p : List ByteArray) (h : n < 2) : hashed leaf i n p = if p = [] then some [⟨leaf.toArray⟩] else none := by
  rw [hashed_eq, if_pos h]
theorem hashed_none (leaf : List UInt8) (i n : Nat) (h : 2 ≤ n) : hashed leaf i n [] = none := by
  rw [hashed_eq, if_neg (by omega)]; rfl
theorem hashed_left (leaf : List UInt8) (i n : Nat) (p : List ByteArray) (last : ByteArray) (h : 2 ≤ n) (hp : p.getLast? = some last) (hi : i < half n) :
    hashed leaf i n p = (hashed leaf i (half n) p.dropLast).map fun out => out ++ [⟨(nodeB (dg (out.getLastD ⟨#[]⟩).data.toList) last).toArray⟩] := by
  rw [hashed_eq, if_neg (by omega), hp]; simp only [if_pos hi]
theorem hashed_right (leaf : List UInt8) (i n : Nat) (p : List ByteArray) (last : ByteArray) (h : 2 ≤ n) (hp : p.getLast? = some last) (hi : ¬ i < half n) :
    hashed leaf i n p = (hashed leaf (i - half n) (n - half n) p.dropLast).map fun out => out ++ [⟨(nodeB last (dg (out.getLastD ⟨#[]⟩).data.toList)).toArray⟩] := by
  rw [hashed_eq, if_neg (by omega), hp]; simp only [if_neg hi]
def climbS (x : ByteArray) (f : Nat × Nat × List ByteArray → Option ByteArray) (s : Nat × Nat × List ByteArray) : Option ByteArray :=
  if s.2.1 < 2 then (if s.2.2 = [] then some x else none)
  else match s.2.2.getLast? with
    | none => none
    | some last =>
      if s.1 < half s.2.1 then (f (s.1, half s.2.1, s.2.2.dropLast)).map fun t => nodeOf t last
      else (f (s.1 - half s.2.1, s.2.1 - half s.2.1, s.2.2.dropLast)).map fun t => nodeOf last t
def climb (x : ByteArray) (i n : Nat) (path : List ByteArray) : Option ByteArray := runs (fun _ => none) (climbS x) (n + 1) (i, n, path)
theorem climb_eq (x : ByteArray) (i n : Nat) (path : List ByteArray) : climb x i n path = if n < 2 then (if path = [] then some x else none)
    else match path.getLast? with
      | none => none
      | some last =>
        if i < half n then (climb x i (half n) path.dropLast).map fun t => nodeOf t last
        else (climb x (i - half n) (n - half n) path.dropLast).map fun t => nodeOf last t :=
  runs_eq (fun _ => none) (climbS x) (fun s => s.2.1) (fun f g s h => by
    unfold climbS
    by_cases hn : s.2.1 < 2
    · rw [if_pos hn, if_pos hn]
    · have hb := half_bd s.2.1 (by omega)
      rw [if_neg hn, if_neg hn, h (s.1, half s.2.1, s.2.2.dropLast) hb.2, h (s.1 - half s.2.1, s.2.1 - half s.2.1, s.2.2.dropLast) (by show s.2.1 - half s.2.1 < s.2.1; omega)]) (i, n, path)
theorem climb_low (x : ByteArray) (i n : Nat) (p : List ByteArray) (h : n < 2) : climb x i n p = if p = [] then some x else none := by
  rw [climb_eq, if_pos h]
theorem climb_none (x : ByteArray) (i n : Nat) (h : 2 ≤ n) : climb x i n [] = none := by
  rw [climb_eq, if_neg (by omega)]; rfl
theorem climb_left (x : ByteArray) (i n : Nat) (p : List ByteArray) (last : ByteArray) (h : 2 ≤ n) (hp : p.getLast? = some last) (hi : i < half n) :
    climb x i n p = (climb x i (half n) p.dropLast).map fun t => nodeOf t last := by
  rw [climb_eq, if_neg (by omega), hp]; simp only [if_pos hi]
theorem climb_right (x : ByteArray) (i n : Nat) (p : List ByteArray) (last : ByteArray) (h : 2 ≤ n) (hp : p.getLast? = some last) (hi : ¬ i < half n) :
    climb x i n p = (climb x (i - half n) (n - half n) p.dropLast).map fun t => nodeOf last t := by
  rw [climb_eq, if_neg (by omega), hp]; simp only [if_neg hi]
theorem hashed_ne (leaf : List UInt8) (i n : Nat) (p out : List ByteArray) (h : hashed leaf i n p = some out) : out ≠ [] := by
  rw [hashed_eq] at h
  split at h
  · split at h
    · cases h; simp
    · cases h
  · split at h
    · cases h
    · split at h
      · obtain ⟨o, _, rfl⟩ := Option.map_eq_some_iff.1 h; simp
      · obtain ⟨o, _, rfl⟩ := Option.map_eq_some_iff.1 h; simp
theorem climb_hashed (leaf : List UInt8) (i n : Nat) (p : List ByteArray) : climb (dg leaf) i n p = (hashed leaf i n p).map fun out => dg (out.getLastD ⟨#[]⟩).data.toList := by
  induction n using Nat.strongRecOn generalizing i p with
  | _ n ih =>
    by_cases h : n < 2
    · rw [climb_low _ _ _ _ h, hashed_low _ _ _ _ h]
      split
      · simp
      · rfl
    · have hb := half_bd n (by omega)
      cases hp : p.getLast? with
      | none =>
        have : p = [] := List.getLast?_eq_none_iff.1 hp
        subst this
        rw [climb_none _ _ _ (by omega), hashed_none _ _ _ (by omega)]; rfl
      | some last =>
        by_cases hi : i < half n
        · rw [climb_left _ _ _ _ _ (by omega) hp hi, hashed_left _ _ _ _ _ (by omega) hp hi, ih _ hb.2, Option.map_map, Option.map_map]
          congr 1; funext out; simp [nodeOf]
        · rw [climb_right _ _ _ _ _ (by omega) hp hi, hashed_right _ _ _ _ _ (by omega) hp hi, ih _ (by omega), Option.map_map, Option.map_map]
          congr 1; funext out; simp [nodeOf]
def checkPath (p : Pr) (i n : Nat) (path : List ByteArray) (root : ByteArray) : Bool :=
  match climb (leafOf p) i n path with
  | none => false
  | some t => decide (dg (topB (n : Int) t) = root)
def checkPathI (p : Pr) (i n : Int) (path : List ByteArray) (root : ByteArray) : Bool :=
  decide (1 ≤ n ∧ n ≤ 60) && decide (0 ≤ i ∧ i ≤ n - 1) && checkPath p i.toNat n.toNat path root
/-! ### what the laws need -/
theorem climb_length (x : ByteArray) (i n : Nat) (p : List ByteArray) : (climb x i n p).isSome = decide (p.length = depth i n) := by
  induction n using Nat.strongRecOn generalizing i p with
  | _ n ih =>
    by_cases h : n < 2
    · rw [climb_low _ _ _ _ h, depth_eq, if_pos h]
      cases p <;> simp
    · have hb := half_bd n (by omega)
      cases hp : p.getLast? with
      | none =>
        have : p = [] := List.getLast?_eq_none_iff.1 hp
        subst this
        rw [climb_none _ _ _ (by omega), depth_eq, if_neg h]
        split <;> simp
      | some last =>
        have hne : p ≠ [] := by rintro rfl; cases hp
        have hl : p.length = p.dropLast.length + 1 := by
          have := List.length_pos_iff.2 hne
          simp; omega
        by_cases hi : i < half n
        · rw [climb_left _ _ _ _ _ (by omega) hp hi, Option.isSome_map, ih _ hb.2, depth_left _ _ (by omega) hi, hl, decide_eq_decide]; omega
        · rw [climb_right _ _ _ _ _ (by omega) hp hi, Option.isSome_map, ih _ (by omega), depth_right _ _ (by omega) hi, hl, decide_eq_decide]; omega
end Go.Proofs.YteammdkipnfmnaaGreatDoor.tree

namespace Go.Proofs.YteammdkipnfmnaaGreatDoor.pairs
open Go Go.RowKit Go.Proofs.YteammdkipnfmnaaGreatDoor.base
set_option linter.unusedVariables false
set_option linter.unusedSimpArgs false

def small (p : Pr) : Prop := p.1.size ≤ maxLen ∧ p.2.size ≤ maxLen
def pairVals (l : List Pr) : List Value := l.flatMap fun p => [.string p.1, .string p.2]
theorem pairVals_cons (p : Pr) (l : List Pr) : pairVals (p :: l) = .string p.1 :: .string p.2 :: pairVals l := rfl
theorem pairVals_append (a b : List Pr) : pairVals (a ++ b) = pairVals a ++ pairVals b := by simp [pairVals]
theorem pairVals_length (l : List Pr) : (pairVals l).length = l.length * 2 := by
  induction l with
  | nil => rfl
  | cons p l ih => rw [pairVals_cons]; simp [ih]; omega
theorem pairVals_key (l : List Pr) (i : Nat) (h : i < l.length) : (pairVals l)[i * 2]? = some (.string l[i].1) := by
  induction l generalizing i with
  | nil => simp at h
  | cons p l ih =>
    cases i with
    | zero => rfl
    | succ i => rw [pairVals_cons, show (i + 1) * 2 = i * 2 + 1 + 1 by omega]; simpa using ih i (by simpa using h)
theorem pairVals_val (l : List Pr) (i : Nat) (h : i < l.length) : (pairVals l)[i * 2 + 1]? = some (.string l[i].2) := by
  induction l generalizing i with
  | nil => simp at h
  | cons p l ih =>
    cases i with
    | zero => rfl
    | succ i => rw [pairVals_cons, show (i + 1) * 2 + 1 = i * 2 + 1 + 1 + 1 by omega]; simpa using ih i (by simpa using h)
theorem pairVals_oneCell (l : List Pr) : ∀ v ∈ pairVals l, v.oneCell' = true := by
  intro v hv
  obtain ⟨p, _, hp⟩ := List.mem_flatMap.1 hv
  simp at hp
  rcases hp with rfl | rfl <;> rfl
theorem pairVals_setVal (l : List Pr) (i : Nat) (h : i < l.length) (v : ByteArray) : (pairVals l).set (i * 2 + 1) (.string v) = pairVals (l.set i (l[i].1, v)) := by
  induction l generalizing i with
  | nil => simp at h
  | cons p l ih =>
    cases i with
    | zero => rfl
    | succ i => rw [pairVals_cons, show (i + 1) * 2 + 1 = i * 2 + 1 + 1 + 1 by omega]; simp only [List.set_cons_succ, pairVals_cons, List.getElem_cons_succ]; rw [ih i (by simpa using h)]

/-! ### slices of pairs that are read -/
def CellsP (w : World) (b off : Nat) (l : List Pr) : Prop := ∀ i (h : i < l.length), w.cell? ⟨b, off + i * 2, none⟩ = some (.string l[i].1) ∧ w.cell? ⟨b, off + i * 2 + 1, none⟩ = some (.string l[i].2)
def SlP (w : World) (a : Option Addr) (len : Nat) (l : List Pr) : Prop :=
  l.length = len ∧ len ≤ maxLen ∧ (∀ p ∈ l, small p) ∧ (0 < len → ∃ b off, a = some ⟨b, off, none⟩ ∧ CellsP w b off l)
section
variable {w w' : World} {a : Option Addr} {b off len base base' g n cap : Nat} {l : List Pr} {row : Option Nat}
theorem SlP.cells (h : SlP w (some ⟨b, off, none⟩) len l) : CellsP w b off l := by
  intro i hi
  obtain ⟨b', off', e, hc⟩ := h.2.2.2 (by have := h.1; omega)
  simp only [Option.some.injEq, Addr.mk.injEq, and_true] at e
  obtain ⟨rfl, rfl⟩ := e
  exact hc i hi
theorem SlP.lt (h : SlP w (some ⟨b, off, none⟩) len l) (h0 : 0 < len) : b < w.heap.size :=
  World.block_lt_of_cell? w _ (h.cells 0 (by have := h.1; omega)).1
theorem CellsP.keep (h : CellsP w b off l) (hk : ∀ o v, w.cell? ⟨b, o, none⟩ = some v → w'.cell? ⟨b, o, none⟩ = some v) : CellsP w' b off l :=
  fun i hi => ⟨hk _ _ (h i hi).1, hk _ _ (h i hi).2⟩
theorem SlP.below (h : SlP w a len l) (hb : Below w.heap.size w w') : SlP w' a len l := by
  obtain ⟨h1, h2, h4, h3⟩ := h
  refine ⟨h1, h2, h4, fun h0 => ?_⟩
  obtain ⟨b, off, rfl, hc⟩ := h3 h0
  exact ⟨b, off, rfl, hc.keep fun o v hv => (hb.cell (p := ⟨b, o, none⟩) (World.block_lt_of_cell? w _ hv)).trans hv⟩
theorem SlP.grown (h : SlP w (some ⟨b, off, none⟩) len l) (hg : w.grownBy w' row) (hne : some b ≠ row) : SlP w' (some ⟨b, off, none⟩) len l :=
  ⟨h.1, h.2.1, h.2.2.1, fun _ => ⟨b, off, rfl, h.cells.keep fun o v hv => hg.cell hv hne⟩⟩

/-! ### rows of pairs that a call made -/
def OwnP (w : World) (base g n cap : Nat) (l : List Pr) : Prop := l.length = n ∧ (∀ p ∈ l, small p) ∧ w.ownsRow base 34 2 (.slice (some ⟨g, 0, none⟩) n cap) n (pairVals l)
theorem OwnP.lt (h : OwnP w base g n cap l) : base ≤ g ∧ g < w.heap.size := h.2.2.lt g rfl
theorem OwnP.cases (h : OwnP w base g n cap l) : n ≤ cap ∧ cap ≤ maxLen := by
  rcases h.2.2.2 with ⟨h', _⟩ | ⟨g', cap', cur, h', _, hg, h1, h2, _⟩
  · simp at h'
  · simp only [Value.slice.injEq, Option.some.injEq, Addr.mk.injEq, and_true, true_and] at h'
    obtain ⟨rfl, rfl⟩ := h'
    exact ⟨h1, h2⟩
theorem OwnP.mono (h : OwnP w base g n cap l) (hb : base' ≤ base) : OwnP w base' g n cap l := by
  refine ⟨h.1, h.2.1, h.2.2.1, ?_⟩
  rcases h.2.2.2 with h' | ⟨g', cap', cur, h', h0, r⟩
  · exact .inl h'
  · exact .inr ⟨g', cap', cur, h', by omega, r⟩
theorem OwnP.cell (h : OwnP w base g n cap l) : CellsP w g 0 l := by
  intro i hi
  have hl := h.1
  have k1 := h.2.2.cellAt (i * 2) (by omega)
  have k2 := h.2.2.cellAt (i * 2 + 1) (by omega)
  rw [pairVals_key l i hi] at k1
  rw [pairVals_val l i hi] at k2
  rw [Nat.zero_add]
  exact ⟨k1, k2⟩
theorem OwnP.key (h : OwnP w base g n cap l) (i : Nat) (hi : i < l.length) : w.cell? ⟨g, i * 2, none⟩ = some (.string l[i].1) := by
  have := (h.cell i hi).1; rwa [Nat.zero_add] at this
theorem OwnP.val (h : OwnP w base g n cap l) (i : Nat) (hi : i < l.length) : w.cell? ⟨g, i * 2 + 1, none⟩ = some (.string l[i].2) := by
  have := (h.cell i hi).2; rwa [Nat.zero_add] at this
theorem OwnP.frozen (h : OwnP w base g n cap l) (i : Nat) : w.frozen? ⟨g, i, none⟩ = false := h.2.2.frozenAt i
theorem OwnP.sl (h : OwnP w base g n cap l) : SlP w (some ⟨g, 0, none⟩) n l :=
  ⟨h.1, by have := h.cases; omega, h.2.1, fun _ => ⟨g, 0, rfl, h.cell⟩⟩
theorem OwnP.grown (h : OwnP w base g n cap l) (hg : w.grownBy w' row) (hne : some g ≠ row) : OwnP w' base g n cap l :=
  ⟨h.1, h.2.1, h.2.2.kept hg (.inr hne)⟩
theorem OwnP.below (h : OwnP w base g n cap l) (hb : Below w.heap.size w w') : OwnP w' base g n cap l :=
  ⟨h.1, h.2.1, h.2.2.kept (row := none) ⟨hb.os, hb.tape, hb.output, hb.size, fun k hk _ => hb.block k hk⟩ (.inr (by simp [Value.ownBlock]))⟩
theorem mem_set_small {i : Nat} {p : Pr} (h : ∀ q ∈ l, small q) (hp : small p) : ∀ q ∈ l.set i p, small q := by
  intro q hq
  rcases List.mem_or_eq_of_mem_set hq with h1 | h1
  · exact h q h1
  · subst h1; exact hp
theorem OwnP.setVal (h : OwnP w base g n cap l) (i : Nat) (hi : i < l.length) (v : ByteArray) (hv : v.size ≤ maxLen) :
    OwnP (w.setCell ⟨g, i * 2 + 1, none⟩ (.string v)) base g n cap (l.set i (l[i].1, v)) ∧ w.grownBy (w.setCell ⟨g, i * 2 + 1, none⟩ (.string v)) (some g) := by
  have hs := h.2.2.stored (i * 2 + 1) (.string v)
  rw [pairVals_setVal l i hi] at hs
  exact ⟨⟨by simpa using h.1, mem_set_small h.2.1 ⟨(h.2.1 _ (List.getElem_mem hi)).1, hv⟩, hs.1⟩, hs.2⟩
theorem ownP_val {v' : Value} (hl : l.length = n) (hs : ∀ p ∈ l, small p) (h0 : ¬ v' = .slice none 0 0)
    (h : w'.ownsRow base 34 2 v' n (pairVals l)) : ∃ g' cap', v' = .slice (some ⟨g', 0, none⟩) n cap' ∧ OwnP w' base g' n cap' l := by
  rcases h.2 with ⟨h2, _⟩ | ⟨g', cap', cur, hv, _⟩
  · exact absurd h2 h0
  · subst hv
    exact ⟨g', cap', rfl, hl, hs, h⟩
theorem ownP_made (w : World) (base : Nat) (hb : base ≤ w.heap.size) : OwnP (w.alloc (.cells #[] 34)) base w.heap.size 0 0 [] :=
  ⟨rfl, fun s h => absurd h List.not_mem_nil, World.ownsRow_made w #[] 0 hb (Nat.zero_le _) rfl⟩
theorem cells_pairs (h : CellsP w b off l) : ∀ j v, (pairVals l)[j]? = some v → w.cell? ((⟨b, off, none⟩ : Addr).add j) = some v := by
  intro j v hj
  have hjl : j < l.length * 2 := by have := (List.getElem?_eq_some_iff.1 hj).1; rwa [pairVals_length] at this
  rw [Addr.add_lit]
  have hm : j = (j / 2) * 2 ∨ j = (j / 2) * 2 + 1 := by omega
  rcases hm with e | e
  · rw [e, pairVals_key l (j / 2) (by omega)] at hj
    rw [e, ← hj]; exact (h (j / 2) (by omega)).1
  · rw [e, pairVals_val l (j / 2) (by omega)] at hj
    rw [e, ← hj]; exact (h (j / 2) (by omega)).2
end
theorem infoP : (Tryz.prog.info? 34).map (fun i => (i.zero, i.size, i.bytes)) = some (some (.agg #[.string ⟨#[]⟩, .string ⟨#[]⟩]), 2, 32) := by kernel_rfl

end Go.Proofs.YteammdkipnfmnaaGreatDoor.pairs

namespace Go.Proofs.YteammdkipnfmnaaGreatDoor.last
open Go Go.RowKit
section
variable {P : Program} {ops : Array Oper} {md : Region.Mode} {C : World → Prop}

def wpAnyZ (P : Program) (md : Region.Mode) (ops : Array Oper) (C : World → Prop) (z : Nat) (Q : Act → Prop) : Nat → Array Bool → Act → Prop
  | 0, listed, a => (Region.ready md ops listed = [z] ∧ Region.ready md ops (listed.setIfInBounds z true) = []) ∧ Q a
  | fuel + 1, listed, a => (z ∉ Region.ready md ops listed ∧ Region.ready md ops listed ≠ []) ∧
    ∀ i ∈ Region.ready md ops listed, qOp P ops C i (wpAnyZ P md ops C z Q fuel (listed.setIfInBounds i true)) a

theorem wpAny_of_z {z : Nat} {Q : Act → Prop} {Q' : Exit → Act → World → Prop} (hQ : ∀ a w, C w → Q a → wpOp P ops Q' z (fun a' w' => Q' .normal a' w') a w) : ∀ (fuel : Nat) (listed : Array Bool) (a : Act) (w : World), C w →
    wpAnyZ P md ops C z Q fuel listed a → wpAny P md ops Q' (fuel + 1) listed a w
  | 0, listed, a, w, hw, h => by
    refine ⟨fun h0 => (by rw [h.1.1] at h0; cases h0), fun i hi => ?_⟩
    rw [h.1.1] at hi
    have : i = z := by simpa using hi
    subst this
    exact wpOp_mono (fun a' w' h' => ⟨h.1.2, h'⟩) (hQ a w hw h.2)
  | fuel + 1, listed, a, w, hw, h =>
    ⟨fun h0 => absurd h0 h.1.2, fun i hi => wpOp_of_qOp hw (fun a' w' hw' => wpAny_of_z hQ fuel _ a' w' hw') (h.2 i hi)⟩

theorem both_ready {i j : Nat} {o : Oper} {listed : Array Bool} (hi : i ∈ Region.ready md ops listed) (hj : j ∈ Region.ready md ops listed) (ho : ops[j]? = some o) :
    ∀ e ∈ o.after, Region.binds md e = true → e.on ≠ i := by
  rintro e he hb rfl
  obtain ⟨_, o', ho', hall⟩ := mem_ready.1 hj
  obtain rfl := Option.some.inj (ho'.symm.trans ho)
  have yes := hall e he hb
  have no := (mem_ready.1 hi).1
  by_cases hs : e.on < listed.size
  · simp only [Array.getD, hs, dif_pos] at yes no
    exact Bool.noConfusion (yes.symm.trans no)
  · simp [Array.getD, hs] at yes
def Apart (md : Region.Mode) (ops : Array Oper) (i : Nat) (oi : Oper) (listed : Array Bool) : Prop :=
  ∀ j oj, ops[j]? = some oj → j ≠ i → listed.getD j true = false → (∀ e ∈ oj.after, Region.binds md e = true → e.on ≠ i) → oi.apart ops oj = true
theorem Apart.less {i : Nat} {oi : Oper} {listed : Array Bool} (h : Apart md ops i oi listed) (k : Nat) : Apart md ops i oi (listed.setIfInBounds k true) := by
  intro j oj hj hne hun
  refine h j oj hj hne ?_
  by_cases e : k = j
  · subst e
    by_cases hs : k < listed.size
    · simp [Array.getD, hs] at hun
    · simp [Array.getD, hs] at hun
  · rwa [getD_set_ne true e] at hun

theorem wpAnyZ_first {z : Nat} {Q : Act → Prop} {i : Nat} {oi : Oper} {v : Value} (hi : ops[i]? = some oi) (hsel : ∀ (j : Nat) (o : Oper) cs b, ops[j]? = some o → o.op ≠ .select cs b)
    {oz : Oper} (hz : ops[z]? = some oz) (hzi : ∃ e ∈ oz.after, Region.binds md e = true ∧ e.on = i) (fuel : Nat) :
    ∀ (listed : Array Bool) (a : Act), Apart md ops i oi listed → i ∈ Region.ready md ops listed → YieldsIn P ops C oi v a →
      wpAnyZ P md ops C z Q fuel (listed.setIfInBounds i true) (a.put oi.dst v) → wpAnyZ P md ops C z Q (fuel + 1) listed a := by
  have hnz : ∀ {listed : Array Bool}, i ∈ Region.ready md ops listed → z ∉ Region.ready md ops listed := fun hr hzr => by
    obtain ⟨e, he, hb, heq⟩ := hzi
    exact both_ready hr hzr hz e he hb heq
  induction fuel with
  | zero =>
    intro listed a _ hr hy H
    refine ⟨⟨hnz hr, List.ne_nil_of_mem hr⟩, fun j hj => ?_⟩
    rcases Decidable.em (j = i) with rfl | hji
    · exact hy.qOp hi H
    · have hjz := H.1.1 ▸ ready_mono hj hji
      exact absurd (List.mem_singleton.1 hjz ▸ hj) (hnz hr)
  | succ fuel ih =>
    intro listed a hap hr hy H
    refine ⟨⟨hnz hr, List.ne_nil_of_mem hr⟩, fun j hj => ?_⟩
    rcases Decidable.em (j = i) with rfl | hji
    · exact hy.qOp hi H
    · obtain ⟨hun, oj, hoj, _⟩ := mem_ready.1 hj
      have step := qOp_put hoj (hap j oj hoj hji hun (both_ready hr hj hoj)) (hsel i oi · · hi) (hsel j oj · · hoj) hy (H.2 j (ready_mono hj hji))
      refine qOp_mono (fun a' (h : _ ∧ _) => ih _ a' (hap.less j) (ready_mono hr (Ne.symm hji)) h.1 ?_) step
      exact Array.setIfInBounds_comm (xs := listed) true true hji ▸ h.2

def waits (md : Region.Mode) (oz : Oper) (k : Nat) : Bool := oz.after.any fun e => Region.binds md e && e.on == k
def lexZ (md : Region.Mode) (ops : Array Oper) (z : Nat) (oz : Oper) : Nat → Nat → Array Bool → Bool
  | 0, _, listed => decide (Region.ready md ops listed = [z]) && decide (Region.ready md ops (listed.setIfInBounds z true) = [])
  | fuel + 1, k, listed => (Region.ready md ops listed).contains k && Region.free md ops listed k && waits md oz k && lexZ md ops z oz fuel (k + 1) (listed.setIfInBounds k true)

theorem wpAnyZ_lex {z : Nat} {oz : Oper} {Q : Act → Prop} (hs : Region.noSelect ops = true) (hz : ops[z]? = some oz) : ∀ (l : List Oper) (k : Nat) (listed : Array Bool) (a : Act), (∀ j, j < l.length → l[j]? = ops[k + j]?) →
    lexZ md ops z oz l.length k listed = true → wpQuiet P ops C Q l a → wpAnyZ P md ops C z Q l.length listed a
  | [], _, _, _, _, hB, h => ⟨by simpa [lexZ] using hB, h⟩
  | o :: l, k, listed, a, hl, hB, h => by
    have h0 : ops[k]? = some o := by simpa using (hl 0 (by simp)).symm
    simp only [List.length_cons, lexZ, Bool.and_eq_true] at hB
    obtain ⟨⟨⟨hr, hf⟩, hw⟩, hB'⟩ := hB
    have hst : qOp P ops C k (wpQuiet P ops C Q l) a := by unfold qOp; simp only [h0]; exact h
    obtain ⟨v, hy, hK⟩ := yieldsIn_of_qOp h0 hst
    have hwz : ∃ e ∈ oz.after, Region.binds md e = true ∧ e.on = k := by
      obtain ⟨e, he, hb⟩ := Array.any_eq_true'.1 hw
      simp only [Bool.and_eq_true, beq_iff_eq] at hb
      exact ⟨e, he, hb⟩
    exact wpAnyZ_first h0 (Region.noSelect_spec hs) hz hwz l.length listed a (Region.free_spec h0 hf) (by simpa using hr) hy
      (wpAnyZ_lex hs hz l (k + 1) _ _ (fun j hj => by have := hl (j + 1) (by simpa using hj); simpa [Nat.add_assoc, Nat.add_comm 1 j] using this) hB' hK)

theorem wp_region_lastC {id : Nat} {Q : Exit → Act → World → Prop} {a : Act} {w : World} (l : List Oper) (st : Oper) (hm : P.follows .mixedOrders = true) (hs : Region.noSelect (l ++ [st]).toArray = true)
    (hB : lexZ .any (l ++ [st]).toArray l.length st l.length 0 (Array.replicate (l ++ [st]).toArray.size false) = true) (hC : C { w with drawn := w.drawn + 1 })
    (h : wpQuiet P (l ++ [st]).toArray C (fun a' => ∀ w', C w' → wpList P (l ++ [st]).toArray Q [st] a' w') l a) :
    (Code.region id (l ++ [st]).toArray true).wp P Q a w := by
  have hz : (l ++ [st]).toArray[l.length]? = some st := by simp
  have hsz : (l ++ [st]).toArray.size = l.length + 1 := by simp
  have h1 := wpAnyZ_lex (md := .any) hs hz l 0 (Array.replicate (l ++ [st]).toArray.size false) a (fun j hj => by simp [List.getElem?_append, hj]) hB h
  have h2 := wpAny_of_z (Q' := Q) (fun a' w' hw' h' => by
    have := h' w' hw'
    unfold wpOp
    simp only [hz]
    exact this) l.length _ a ({ w with drawn := w.drawn + 1 }) hC h1
  refine wp_region_any hm ?_
  rw [hsz] at h2 ⊢
  exact h2
theorem wp_region_last_litC {id : Nat} {Q : Exit → Act → World → Prop} {a : Act} {w : World} {L : List Oper} (n : Nat) (st : Oper) (hL : L = L.take n ++ [st]) (hm : P.follows .mixedOrders = true) (hs : Region.noSelect L.toArray = true)
    (hB : lexZ .any L.toArray (L.take n).length st (L.take n).length 0 (Array.replicate L.toArray.size false) = true) (hC : C { w with drawn := w.drawn + 1 })
    (h : wpQuiet P L.toArray C (fun a' => ∀ w', C w' → wpList P L.toArray Q [st] a' w') (L.take n) a) :
    (Code.region id L.toArray true).wp P Q a w := by
  have := wp_region_lastC (P := P) (id := id) (Q := Q) (a := a) (w := w) (C := C) (L.take n) st hm
  rw [← hL] at this
  exact this hs hB hC h
theorem wp_region_last_lit {id : Nat} {Q : Exit → Act → World → Prop} {a : Act} {w : World} {L : List Oper} (n : Nat) (st : Oper) (hL : L = L.take n ++ [st]) (hm : P.follows .mixedOrders = true) (hs : Region.noSelect L.toArray = true)
    (hB : lexZ .any L.toArray (L.take n).length st (L.take n).length 0 (Array.replicate L.toArray.size false) = true)
    (h : wpQuiet P L.toArray (fun w' => ∃ n, w' = w.drewN n) (fun a' => ∀ w', (∃ n, w' = w.drewN n) → wpList P L.toArray Q [st] a' w') (L.take n) a) :
    (Code.region id L.toArray true).wp P Q a w := wp_region_last_litC n st hL hm hs hB ⟨1, rfl⟩ h

/-! ### calls that make memory: the class of the worlds that go on from w -/
def On (B : Nat) (w : World) : Type := { w' : World // Below B w w' }
def On.w {B : Nat} {w : World} (x : On B w) : World := x.1
theorem On.inh (B : Nat) (w : World) : Nonempty (On B w) := ⟨⟨w, Below.refl _ _⟩⟩
theorem wp_region_on {id : Nat} {Q : Exit → Act → World → Prop} {a : Act} {w : World} {l : List Oper} (B : Nat) (hm : P.follows .mixedOrders = true) (hB : Region.lexB .any l.toArray = true)
    (h : wpQuiet P l.toArray (fun w' => ∃ x : On B w, w' = x.w) (fun a' => ∀ w', (∃ x : On B w, w' = x.w) → Q .normal a' w') l a) : (Code.region id l.toArray true).wp P Q a w :=
  wp_region_quiet (C := fun w' => ∃ x : On B w, w' = x.w) hm hB ⟨⟨w.drew, (Below.refl _ _).drew⟩, rfl⟩ (by simpa using h)
theorem Calls.on {f : FuncId} {args : Array Value} {B : Nat} {w : World} {v : Value} (x : On B w) (hBw : B ≤ w.heap.size) (h : Calls P f args x.w fun e w' => e = .returned v ∧ Below x.w.heap.size x.w w') :
    Calls P f args x.w fun e w'' => e = .returned v ∧ ∃ y : On B w, w'' = y.w :=
  h.mono fun _ w'' ⟨he, hb⟩ => ⟨he, ⟨w'', x.2.trans (hb.mono (Nat.le_trans hBw x.2.size))⟩, rfl⟩
theorem On.cell {B : Nat} {w : World} {b o : Nat} {v : Value} (h : w.cell? ⟨b, o, none⟩ = some v) (hb : b < B) : ∀ x : On B w, x.w.cell? ⟨b, o, none⟩ = some v :=
  fun x => (x.2.cell (p := ⟨b, o, none⟩) hb).trans h

end
end Go.Proofs.YteammdkipnfmnaaGreatDoor.last

namespace Go.Proofs.YteammdkipnfmnaaGreatDoor.base
open Go.RowKit
set_option linter.unusedVariables false

theorem infoInt : (Tryz.prog.info? 3).map (fun i => (i.zero, i.size, i.bytes)) = some (some (.int .i64 0), 1, 8) := by kernel_rfl
def natVals (zs : List Nat) : List Value := zs.map fun (z : Nat) => .int .i64 (z : Int)
theorem natVals_length (zs : List Nat) : (natVals zs).length = zs.length := by simp [natVals]
theorem natVals_snoc (zs : List Nat) (z : Nat) : natVals (zs ++ [z]) = natVals zs ++ [.int .i64 (z : Int)] := by simp [natVals]
theorem natVals_set (zs : List Nat) (k z : Nat) : (natVals zs).set k (.int .i64 (z : Int)) = natVals (zs.set k z) := by simp [natVals]
theorem natVals_oneCell (zs : List Nat) : ∀ v ∈ natVals zs, v.oneCell' = true := by
  intro v hv; obtain ⟨_, _, rfl⟩ := List.mem_map.1 hv; rfl
def OwnN (w : World) (base g n cap : Nat) (zs : List Nat) : Prop := zs.length = n ∧ w.ownsRow base 3 1 (.slice (some ⟨g, 0, none⟩) n cap) n (natVals zs)
section
variable {w w' : World} {base base' g n cap : Nat} {zs : List Nat} {row : Option Nat}
theorem OwnN.lt (h : OwnN w base g n cap zs) : base ≤ g ∧ g < w.heap.size := h.2.lt g rfl
theorem OwnN.mono (h : OwnN w base g n cap zs) (hb : base' ≤ base) : OwnN w base' g n cap zs := by
  refine ⟨h.1, h.2.1, ?_⟩
  rcases h.2.2 with h' | ⟨g', cap', cur, h', h0, r⟩
  · exact .inl h'
  · exact .inr ⟨g', cap', cur, h', by omega, r⟩
theorem OwnN.at (h : OwnN w base g n cap zs) (i : Nat) (hi : i < n) : w.cell? ⟨g, i, none⟩ = some (.int .i64 (zs.getD i 0 : Nat)) := by
  have hl := h.1
  rw [h.2.cellAt i (by omega)]
  simp [natVals, List.getD, show i < zs.length by omega]
theorem OwnN.frozen (h : OwnN w base g n cap zs) (i : Nat) : w.frozen? ⟨g, i, none⟩ = false := h.2.frozenAt i
theorem OwnN.grown (h : OwnN w base g n cap zs) (hg : w.grownBy w' row) (hne : some g ≠ row) : OwnN w' base g n cap zs := ⟨h.1, h.2.kept hg (.inr hne)⟩
theorem OwnN.below (h : OwnN w base g n cap zs) (hb : Below w.heap.size w w') : OwnN w' base g n cap zs :=
  ⟨h.1, h.2.kept (row := none) ⟨hb.os, hb.tape, hb.output, hb.size, fun k hk _ => hb.block k hk⟩ (.inr (by simp [Value.ownBlock]))⟩
theorem OwnN.cells (h : OwnN w base g n cap zs) : ∀ j v, (natVals zs)[j]? = some v → w.cell? ((⟨g, 0, none⟩ : Addr).add j) = some v := h.2.cells rfl
theorem ownN_made (w : World) (base : Nat) (hb : base ≤ w.heap.size) : OwnN (w.alloc (.cells #[] 3)) base w.heap.size 0 0 [] :=
  ⟨rfl, World.ownsRow_made w #[] 0 hb (Nat.zero_le _) rfl⟩
theorem ownN_lit (w : World) (base : Nat) (zs : List Nat) (cs : Array Value) (hb : base ≤ w.heap.size) (hc : cs.toList = natVals zs) (hl : zs.length ≤ maxLen) : OwnN (w.alloc (.cells cs 3)) base w.heap.size zs.length zs.length zs := by
  have hs : cs.size = zs.length * 1 := by rw [← Array.length_toList, hc, natVals_length, Nat.mul_one]
  have := World.ownsRow_lit (base := base) (e := 3) (size := 1) w cs zs.length hb hl hs
  rw [hc] at this
  exact ⟨rfl, this⟩
theorem ownN_val {v' : Value} (hl : zs.length = n) (h0 : ¬ v' = .slice none 0 0) (h : w'.ownsRow base 3 1 v' n (natVals zs)) :
    ∃ g' cap', v' = .slice (some ⟨g', 0, none⟩) n cap' ∧ OwnN w' base g' n cap' zs := by
  rcases h.2 with ⟨h2, _⟩ | ⟨g', cap', cur, hv, _⟩
  · exact absurd h2 h0
  · subst hv
    exact ⟨g', cap', rfl, hl, h⟩
theorem ownN_set (h : OwnN w base g n cap zs) (k z : Nat) :
    OwnN (w.setCell ⟨g, k, none⟩ (.int .i64 (z : Int))) base g n cap (zs.set k z) ∧ w.grownBy (w.setCell ⟨g, k, none⟩ (.int .i64 (z : Int))) (some g) := by
  have hs := h.2.stored k (.int .i64 (z : Int))
  rw [natVals_set] at hs
  exact ⟨⟨by simpa using h.1, hs.1⟩, hs.2⟩
end
end Go.Proofs.YteammdkipnfmnaaGreatDoor.base
