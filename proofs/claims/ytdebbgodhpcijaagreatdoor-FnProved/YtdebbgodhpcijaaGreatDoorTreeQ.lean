/- Plain mathematics of trees: digests of pairs, the way from a leaf up. The specification's leaves, nodes and tops. The specification's inner digests and roots. The specification's paths. What the specification hashes on the way up, and its check of a path. The specification's check of a path. -/
import Derived.Test.YtdebbgodhpcijaaGreatDoorShaP
import Derived.Test.YtdebbgodhpcijaaGreatDoorKitB
import Derived.Test.YtdebbgodhpcijaaGreatDoorShaQ
import Derived.Deep.RegionHeld3
import Derived.Deep.RegionHeldLaw
import Derived.Test.YtdebbgodhpcijaaGreatDoorKitA
namespace Go.Proofs.YtdebbgodhpcijaaGreatDoor.tree
open Go Go.Proofs.YtdebbgodhpcijaaGreatDoor.base Go.Proofs.YtdebbgodhpcijaaGreatDoor.pairs Go.Proofs.YtdebbgodhpcijaaGreatDoor.puttext Go.Proofs.YtdebbgodhpcijaaGreatDoor.putnum
set_option linter.unusedVariables false

def dg (bs : List UInt8) : ByteArray := ⟨(sha.digest bs).toArray⟩
theorem dg_size (bs : List UInt8) : (dg bs).size = 32 := by
  show (sha.digest bs).toArray.size = 32
  rw [List.size_toArray]; exact sha.digest_length bs
def leafB (p : Pr) : List UInt8 := [0] ++ textBytes p.1 ++ textBytes p.2
def nodeB (a b : ByteArray) : List UInt8 := [1] ++ a.data.toList ++ b.data.toList
def topB (n : Int) (x : ByteArray) : List UInt8 := [2] ++ numBytes n ++ x.data.toList
def leafOf (p : Pr) : ByteArray := dg (leafB p)
def nodeOf (a b : ByteArray) : ByteArray := dg (nodeB a b)
theorem leafB_length (p : Pr) : (leafB p).length ≤ p.1.size + p.2.size + 11 := by
  have h1 := textBytes_length p.1
  have h2 := textBytes_length p.2
  simp [leafB]; omega
theorem nodeB_length (a b : ByteArray) : (nodeB a b).length = a.size + b.size + 1 := by simp [nodeB]
theorem topB_length (n : Int) (x : ByteArray) : (topB n x).length ≤ x.size + 6 := by
  have h1 := numBytes_length n
  simp [topB]; omega

/-! ### halves -/
/-- the greatest power of 2 that is less than n, for n from 2 to 64 -/
def half (n : Nat) : Nat := if n ≤ 2 then 1 else if n ≤ 4 then 2 else if n ≤ 8 then 4 else if n ≤ 16 then 8 else if n ≤ 32 then 16 else 32
theorem half_bd (n : Nat) (h : 2 ≤ n) : 1 ≤ half n ∧ half n < n := by
  unfold half
  split
  · omega
  · split
    · omega
    · split
      · omega
      · split
        · omega
        · split <;> omega
theorem half_eq (n k : Nat) (h : 2 ≤ n) (h64 : n ≤ 64) (hk : k = 1 ∨ k = 2 ∨ k = 4 ∨ k = 8 ∨ k = 16 ∨ k = 32) (h1 : k < n) (h2 : n ≤ 2 * k) : k = half n := by
  unfold half
  split
  · omega
  · split
    · omega
    · split
      · omega
      · split
        · omega
        · split <;> omega

/-! ### functions that call themselves, by how many calls are left -/
def runs {σ τ : Type} (base : σ → τ) (step : (σ → τ) → σ → τ) : Nat → σ → τ
  | 0, s => base s
  | k + 1, s => step (runs base step k) s
theorem runs_same {σ τ : Type} (base : σ → τ) (step : (σ → τ) → σ → τ) (m : σ → Nat) (hs : ∀ f g s, (∀ t, m t < m s → f t = g t) → step f s = step g s) (k : Nat) : ∀ j s, m s < k → m s < j → runs base step k s = runs base step j s := by
  induction k with
  | zero => intro j s h; omega
  | succ k ih =>
    intro j s h1 h2
    cases j with
    | zero => omega
    | succ j => exact hs _ _ s fun t ht => ih j t (by omega) (by omega)
theorem runs_eq {σ τ : Type} (base : σ → τ) (step : (σ → τ) → σ → τ) (m : σ → Nat) (hs : ∀ f g s, (∀ t, m t < m s → f t = g t) → step f s = step g s) (s : σ) : runs base step (m s + 1) s = step (fun t => runs base step (m t + 1) t) s :=
  hs _ _ s fun t ht => runs_same base step m hs (m s) (m t + 1) t ht (by omega)

/-! ### the inner digest -/
def innerS (f : List Pr → ByteArray) (l : List Pr) : ByteArray :=
  if l.length < 2 then (match l with | [] => dg [] | p :: _ => leafOf p)
  else nodeOf (f (l.take (half l.length))) (f (l.drop (half l.length)))
def inner (l : List Pr) : ByteArray := runs (fun _ => dg []) innerS (l.length + 1) l
theorem inner_eq (l : List Pr) : inner l = if l.length < 2 then (match l with | [] => dg [] | p :: _ => leafOf p) else nodeOf (inner (l.take (half l.length))) (inner (l.drop (half l.length))) :=
  runs_eq (fun _ => dg []) innerS List.length (fun f g s h => by
    unfold innerS
    by_cases hn : s.length < 2
    · rw [if_pos hn, if_pos hn]
    · have hb := half_bd s.length (by omega)
      rw [if_neg hn, if_neg hn, h (s.take (half s.length)) (by simp; omega), h (s.drop (half s.length)) (by simp; omega)]) l
theorem inner_nil : inner [] = dg [] := by rw [inner_eq]; simp
theorem inner_one (p : Pr) : inner [p] = leafOf p := by rw [inner_eq]; simp
theorem inner_step (l : List Pr) (h : 2 ≤ l.length) : inner l = nodeOf (inner (l.take (half l.length))) (inner (l.drop (half l.length))) := by
  rw [inner_eq, if_neg (by omega)]
theorem inner_size (l : List Pr) : (inner l).size = 32 := by
  rw [inner_eq]
  split
  · split
    · exact dg_size _
    · exact dg_size _
  · exact dg_size _
def rootOf (l : List Pr) : ByteArray := dg (topB (l.length : Int) (inner l))

/-! ### paths -/
def pathS (f : List Pr × Nat → List ByteArray) (s : List Pr × Nat) : List ByteArray :=
  if s.1.length < 2 then []
  else if s.2 < half s.1.length then f (s.1.take (half s.1.length), s.2) ++ [inner (s.1.drop (half s.1.length))]
  else f (s.1.drop (half s.1.length), s.2 - half s.1.length) ++ [inner (s.1.take (half s.1.length))]
def path (l : List Pr) (i : Nat) : List ByteArray := runs (fun _ => []) pathS (l.length + 1) (l, i)
theorem path_eq (l : List Pr) (i : Nat) : path l i = if l.length < 2 then []
    else if i < half l.length then path (l.take (half l.length)) i ++ [inner (l.drop (half l.length))]
    else path (l.drop (half l.length)) (i - half l.length) ++ [inner (l.take (half l.length))] :=
  runs_eq (fun _ => []) pathS (fun s => s.1.length) (fun f g s h => by
    unfold pathS
    by_cases hn : s.1.length < 2
    · rw [if_pos hn, if_pos hn]
    · have hb := half_bd s.1.length (by omega)
      rw [if_neg hn, if_neg hn, h (s.1.take (half s.1.length), s.2) (by simp; omega), h (s.1.drop (half s.1.length), s.2 - half s.1.length) (by simp; omega)]) (l, i)
theorem path_low (l : List Pr) (i : Nat) (h : l.length < 2) : path l i = [] := by rw [path_eq, if_pos h]
theorem path_left (l : List Pr) (i : Nat) (h : 2 ≤ l.length) (hi : i < half l.length) : path l i = path (l.take (half l.length)) i ++ [inner (l.drop (half l.length))] := by
  rw [path_eq, if_neg (by omega), if_pos hi]
theorem path_right (l : List Pr) (i : Nat) (h : 2 ≤ l.length) (hi : ¬ i < half l.length) : path l i = path (l.drop (half l.length)) (i - half l.length) ++ [inner (l.take (half l.length))] := by
  rw [path_eq, if_neg (by omega), if_neg hi]
/-- how many steps it is from place i of n up -/
def depthS (f : Nat × Nat → Nat) (s : Nat × Nat) : Nat :=
  if s.2 < 2 then 0
  else if s.1 < half s.2 then f (s.1, half s.2) + 1
  else f (s.1 - half s.2, s.2 - half s.2) + 1
def depth (i n : Nat) : Nat := runs (fun _ => 0) depthS (n + 1) (i, n)
theorem depth_eq (i n : Nat) : depth i n = if n < 2 then 0 else if i < half n then depth i (half n) + 1 else depth (i - half n) (n - half n) + 1 :=
  runs_eq (fun _ => 0) depthS (fun s => s.2) (fun f g s h => by
    unfold depthS
    by_cases hn : s.2 < 2
    · rw [if_pos hn, if_pos hn]
    · have hb := half_bd s.2 (by omega)
      rw [if_neg hn, if_neg hn, h (s.1, half s.2) hb.2, h (s.1 - half s.2, s.2 - half s.2) (by show s.2 - half s.2 < s.2; omega)]) (i, n)
theorem depth_left (i n : Nat) (h : 2 ≤ n) (hi : i < half n) : depth i n = depth i (half n) + 1 := by rw [depth_eq, if_neg (by omega), if_pos hi]
theorem depth_right (i n : Nat) (h : 2 ≤ n) (hi : ¬ i < half n) : depth i n = depth (i - half n) (n - half n) + 1 := by rw [depth_eq, if_neg (by omega), if_neg hi]
theorem path_length (l : List Pr) (i : Nat) : (path l i).length = depth i l.length := by
  induction hn : l.length using Nat.strongRecOn generalizing l i with
  | _ n ih =>
    by_cases h : n < 2
    · rw [path_low l i (by omega), depth_eq, if_pos h]; rfl
    · have hb := half_bd n (by omega)
      by_cases hi : i < half n
      · rw [path_left l i (by omega) (by rw [hn]; exact hi), depth_eq, if_neg h, if_pos hi, List.length_append, hn, ih (half n) hb.2 (l.take (half n)) i (by simp; omega)]; rfl
      · rw [path_right l i (by omega) (by rw [hn]; exact hi), depth_eq, if_neg h, if_neg hi, List.length_append, hn, ih (n - half n) (by omega) (l.drop (half n)) (i - half n) (by simp; omega)]; rfl
theorem path_small (l : List Pr) (i : Nat) : ∀ s ∈ path l i, s.size = 32 := by
  induction hn : l.length using Nat.strongRecOn generalizing l i with
  | _ n ih =>
    by_cases h : n < 2
    · rw [path_low l i (by omega)]; intro s hs; exact absurd hs List.not_mem_nil
    · have hb := half_bd n (by omega)
      intro s hs
      by_cases hi : i < half n
      · rw [path_left l i (by omega) (by rw [hn]; exact hi), hn] at hs
        rcases List.mem_append.1 hs with h1 | h1
        · exact ih (half n) hb.2 _ i (by simp; omega) s h1
        · rw [List.mem_singleton.1 h1]; exact inner_size _
      · rw [path_right l i (by omega) (by rw [hn]; exact hi), hn] at hs
        rcases List.mem_append.1 hs with h1 | h1
        · exact ih (n - half n) (by omega) _ _ (by simp; omega) s h1
        · rw [List.mem_singleton.1 h1]; exact inner_size _
theorem depth_le (i n : Nat) : depth i n ≤ n := by
  induction n using Nat.strongRecOn generalizing i with
  | _ n ih =>
    rw [depth_eq]
    split
    · omega
    · rename_i h
      have hb := half_bd n (by omega)
      split
      · have := ih (half n) hb.2 i; omega
      · have := ih (n - half n) (by omega) (i - half n); omega

/-! ### what is hashed on the way up -/
def hashedS (leaf : List UInt8) (f : Nat × Nat × List ByteArray → Option (List ByteArray)) (s : Nat × Nat × List ByteArray) : Option (List ByteArray) :=
  if s.2.1 < 2 then (if s.2.2 = [] then some [⟨leaf.toArray⟩] else none)
  else match s.2.2.getLast? with
    | none => none
    | some last =>
      if s.1 < half s.2.1 then (f (s.1, half s.2.1, s.2.2.dropLast)).map fun out => out ++ [⟨(nodeB (dg (out.getLastD ⟨#[]⟩).data.toList) last).toArray⟩]
      else (f (s.1 - half s.2.1, s.2.1 - half s.2.1, s.2.2.dropLast)).map fun out => out ++ [⟨(nodeB last (dg (out.getLastD ⟨#[]⟩).data.toList)).toArray⟩]
def hashed (leaf : List UInt8) (i n : Nat) (path : List ByteArray) : Option (List ByteArray) := runs (fun _ => none) (hashedS leaf) (n + 1) (i, n, path)
theorem hashed_eq (leaf : List UInt8) (i n : Nat) (path : List ByteArray) : hashed leaf i n path = if n < 2 then (if path = [] then some [⟨leaf.toArray⟩] else none)
    else match path.getLast? with
      | none => none
      | some last =>
        if i < half n then (hashed leaf i (half n) path.dropLast).map fun out => out ++ [⟨(nodeB (dg (out.getLastD ⟨#[]⟩).data.toList) last).toArray⟩]
        else (hashed leaf (i - half n) (n - half n) path.dropLast).map fun out => out ++ [⟨(nodeB last (dg (out.getLastD ⟨#[]⟩).data.toList)).toArray⟩] :=
  runs_eq (fun _ => none) (hashedS leaf) (fun s => s.2.1) (fun f g s h => by
    unfold hashedS
    by_cases hn : s.2.1 < 2
    · rw [if_pos hn, if_pos hn]
    · have hb := half_bd s.2.1 (by omega)
      rw [if_neg hn, if_neg hn, h (s.1, half s.2.1, s.2.2.dropLast) hb.2, h (s.1 - half s.2.1, s.2.1 - half s.2.1, s.2.2.dropLast) (by show s.2.1 - half s.2.1 < s.2.1; omega)]) (i, n, path)
theorem hashed_low (leaf : List UInt8) (i n : Nat) (p : List ByteArray) (h : n < 2) : hashed leaf i n p = if p = [] then some [⟨leaf.toArray⟩] else none := by
  rw [hashed_eq, if_pos h]
theorem hashed_none (leaf : List UInt8) (i n : Nat) (h : 2 ≤ n) : hashed leaf i n [] = none := by
  rw [hashed_eq, if_neg (by omega)]; rfl
theorem hashed_left (leaf : List UInt8) (i n : Nat) (p : List ByteArray) (last : ByteArray) (h : 2 ≤ n) (hp : p.getLast? = some last) (hi : i < half n) :
    hashed leaf i n p = (hashed leaf i (half n) p.dropLast).map fun out => out ++ [⟨(nodeB (dg (out.getLastD ⟨#[]⟩).data.toList) last).toArray⟩] := by
  rw [hashed_eq, if_neg (by omega), hp]; simp only [if_pos hi]
theorem hashed_right (leaf : List UInt8) (i n : Nat) (p : List ByteArray) (last : ByteArray) (h : 2 ≤ n) (hp : p.getLast? = some last) (hi : ¬ i < half n) :
    hashed leaf i n p = (hashed leaf (i - half n) (n - half n) p.dropLast).map fun out => out ++ [⟨(nodeB last (dg (out.getLastD ⟨#[]⟩).data.toList)).toArray⟩] := by
  rw [hashed_eq, if_neg (by omega), hp]; simp only [if_neg hi]
/-- the digest that the way up comes to -/
def climbS (x : ByteArray) (f : Nat × Nat × List ByteArray → Option ByteArray) (s : Nat × Nat × List ByteArray) : Option ByteArray :=
  if s.2.1 < 2 then (if s.2.2 = [] then some x else none)
  else match s.2.2.getLast? with
    | none => none
    | some last =>
      if s.1 < half s.2.1 then (f (s.1, half s.2.1, s.2.2.dropLast)).map fun t => nodeOf t last
      else (f (s.1 - half s.2.1, s.2.1 - half s.2.1, s.2.2.dropLast)).map fun t => nodeOf last t
def climb (x : ByteArray) (i n : Nat) (path : List ByteArray) : Option ByteArray := runs (fun _ => none) (climbS x) (n + 1) (i, n, path)
theorem climb_eq (x : ByteArray) (i n : Nat) (path : List ByteArray) : climb x i n path = if n < 2 then (if path = [] then some x else none)
    else match path.getLast? with
      | none => none
      | some last =>
        if i < half n then (climb x i (half n) path.dropLast).map fun t => nodeOf t last
        else (climb x (i - half n) (n - half n) path.dropLast).map fun t => nodeOf last t :=
  runs_eq (fun _ => none) (climbS x) (fun s => s.2.1) (fun f g s h => by
    unfold climbS
    by_cases hn : s.2.1 < 2
    · rw [if_pos hn, if_pos hn]
    · have hb := half_bd s.2.1 (by omega)
      rw [if_neg hn, if_neg hn, h (s.1, half s.2.1, s.2.2.dropLast) hb.2, h (s.1 - half s.2.1, s.2.1 - half s.2.1, s.2.2.dropLast) (by show s.2.1 - half s.2.1 < s.2.1; omega)]) (i, n, path)
theorem climb_low (x : ByteArray) (i n : Nat) (p : List ByteArray) (h : n < 2) : climb x i n p = if p = [] then some x else none := by
  rw [climb_eq, if_pos h]
theorem climb_none (x : ByteArray) (i n : Nat) (h : 2 ≤ n) : climb x i n [] = none := by
  rw [climb_eq, if_neg (by omega)]; rfl
theorem climb_left (x : ByteArray) (i n : Nat) (p : List ByteArray) (last : ByteArray) (h : 2 ≤ n) (hp : p.getLast? = some last) (hi : i < half n) :
    climb x i n p = (climb x i (half n) p.dropLast).map fun t => nodeOf t last := by
  rw [climb_eq, if_neg (by omega), hp]; simp only [if_pos hi]
theorem climb_right (x : ByteArray) (i n : Nat) (p : List ByteArray) (last : ByteArray) (h : 2 ≤ n) (hp : p.getLast? = some last) (hi : ¬ i < half n) :
    climb x i n p = (climb x (i - half n) (n - half n) p.dropLast).map fun t => nodeOf last t := by
  rw [climb_eq, if_neg (by omega), hp]; simp only [if_neg hi]
theorem hashed_ne (leaf : List UInt8) (i n : Nat) (p out : List ByteArray) (h : hashed leaf i n p = some out) : out ≠ [] := by
  rw [hashed_eq] at h
  split at h
  · split at h
    · cases h; simp
    · cases h
  · split at h
    · cases h
    · split at h
      · obtain ⟨o, _, rfl⟩ := Option.map_eq_some_iff.1 h; simp
      · obtain ⟨o, _, rfl⟩ := Option.map_eq_some_iff.1 h; simp
theorem climb_hashed (leaf : List UInt8) (i n : Nat) (p : List ByteArray) : climb (dg leaf) i n p = (hashed leaf i n p).map fun out => dg (out.getLastD ⟨#[]⟩).data.toList := by
  induction n using Nat.strongRecOn generalizing i p with
  | _ n ih =>
    by_cases h : n < 2
    · rw [climb_low _ _ _ _ h, hashed_low _ _ _ _ h]
      split
      · simp
      · rfl
    · have hb := half_bd n (by omega)
      cases hp : p.getLast? with
      | none =>
        have : p = [] := List.getLast?_eq_none_iff.1 hp
        subst this
        rw [climb_none _ _ _ (by omega), hashed_none _ _ _ (by omega)]; rfl
      | some last =>
        by_cases hi : i < half n
        · rw [climb_left _ _ _ _ _ (by omega) hp hi, hashed_left _ _ _ _ _ (by omega) hp hi, ih _ hb.2, Option.map_map, Option.map_map]
          congr 1; funext out; simp [nodeOf]
        · rw [climb_right _ _ _ _ _ (by omega) hp hi, hashed_right _ _ _ _ _ (by omega) hp hi, ih _ (by omega), Option.map_map, Option.map_map]
          congr 1; funext out; simp [nodeOf]
/-- whether p is told to be the i-th of n -/
def checkPath (p : Pr) (i n : Nat) (path : List ByteArray) (root : ByteArray) : Bool :=
  match climb (leafOf p) i n path with
  | none => false
  | some t => decide (dg (topB (n : Int) t) = root)
/-- at any numbers -/
def checkPathI (p : Pr) (i n : Int) (path : List ByteArray) (root : ByteArray) : Bool :=
  decide (1 ≤ n ∧ n ≤ 60) && decide (0 ≤ i ∧ i ≤ n - 1) && checkPath p i.toNat n.toNat path root
def pathI (l : List Pr) (i : Int) : List ByteArray := if l.length ≤ 60 ∧ 0 ≤ i ∧ i ≤ (l.length : Int) - 1 then path l i.toNat else []
def innerI (l : List Pr) : ByteArray := if l.length ≤ 60 then inner l else ⟨#[]⟩
def rootI (l : List Pr) : ByteArray := if l.length ≤ 60 then rootOf l else ⟨#[]⟩

/-! ### what the laws need -/
theorem climb_length (x : ByteArray) (i n : Nat) (p : List ByteArray) : (climb x i n p).isSome = decide (p.length = depth i n) := by
  induction n using Nat.strongRecOn generalizing i p with
  | _ n ih =>
    by_cases h : n < 2
    · rw [climb_low _ _ _ _ h, depth_eq, if_pos h]
      cases p <;> simp
    · have hb := half_bd n (by omega)
      cases hp : p.getLast? with
      | none =>
        have : p = [] := List.getLast?_eq_none_iff.1 hp
        subst this
        rw [climb_none _ _ _ (by omega), depth_eq, if_neg h]
        split <;> simp
      | some last =>
        have hne : p ≠ [] := by rintro rfl; cases hp
        have hl : p.length = p.dropLast.length + 1 := by
          have := List.length_pos_iff.2 hne
          simp; omega
        by_cases hi : i < half n
        · rw [climb_left _ _ _ _ _ (by omega) hp hi, Option.isSome_map, ih _ hb.2, depth_left _ _ (by omega) hi, hl, decide_eq_decide]; omega
        · rw [climb_right _ _ _ _ _ (by omega) hp hi, Option.isSome_map, ih _ (by omega), depth_right _ _ (by omega) hi, hl, decide_eq_decide]; omega
theorem climb_path (l : List Pr) (i : Nat) (hi : i < l.length) : climb (leafOf l[i]) i l.length (path l i) = some (inner l) := by
  induction hn : l.length using Nat.strongRecOn generalizing l i with
  | _ n ih =>
    by_cases h : n < 2
    · rw [climb_low _ _ _ _ h, path_low l i (by omega), if_pos rfl]
      match l, hi, hn with
      | [p], hi, hn =>
        have : i = 0 := by simp at hi; omega
        subst this
        rw [inner_one]; rfl
      | p :: q :: r, hi, hn => simp at hn; omega
    · have hb := half_bd n (by omega)
      have hst := inner_step l (by omega)
      by_cases hlt : i < half n
      · have hpl := path_left l i (by omega) (by rw [hn]; exact hlt)
        have hlast : (path l i).getLast? = some (inner (l.drop (half l.length))) := by rw [hpl, List.getLast?_concat]
        rw [climb_left _ _ _ _ _ (by omega) hlast hlt, hpl, List.dropLast_concat, hst, hn]
        have hk := ih (half n) hb.2 (l.take (half n)) i (by simp; omega) (by simp; omega)
        rw [List.getElem_take] at hk
        rw [hk]; rfl
      · have hpr := path_right l i (by omega) (by rw [hn]; exact hlt)
        have hlast : (path l i).getLast? = some (inner (l.take (half l.length))) := by rw [hpr, List.getLast?_concat]
        rw [climb_right _ _ _ _ _ (by omega) hlast hlt, hpr, List.dropLast_concat, hst, hn]
        have hk := ih (n - half n) (by omega) (l.drop (half n)) (i - half n) (by simp; omega) (by simp; omega)
        simp only [List.getElem_drop, show half n + (i - half n) = i by omega] at hk
        rw [hk]; rfl

end Go.Proofs.YtdebbgodhpcijaaGreatDoor.tree

namespace Go.Proofs.YtdebbgodhpcijaaGreatDoor.tree
open Go Go.RowKit Go.Proofs.YtdebbgodhpcijaaGreatDoor.base Go.Proofs.YtdebbgodhpcijaaGreatDoor.pairs Go.Proofs.YtdebbgodhpcijaaGreatDoor.puttext Go.Proofs.YtdebbgodhpcijaaGreatDoor.putnum
set_option linter.unusedVariables false
set_option linter.unusedSimpArgs false

/-- texts of no more than 2^35 bytes -/
def lim (p : Pr) : Prop := p.1.size ≤ 34359738368 ∧ p.2.size ≤ 34359738368
theorem own_one (w : World) (u : UInt8) (x : Int) (hx : x = (u.toNat : Int)) (base : Nat) (hb : base ≤ w.heap.size) : Own (w.alloc (.cells #[.int .u8 x] 5)) base w.heap.size 1 1 [u] := by
  subst hx
  exact own_of_row rfl (by decide) hb (heap_alloc_new w _)
theorem two_cells {w w' : World} {b o1 o2 : Nat} {v1 v2 : Value} (hb : Below w.heap.size w w') (h : w.cell? ⟨b, o1, none⟩ = some v1 ∧ w.cell? ⟨b, o2, none⟩ = some v2) :
    w'.cell? ⟨b, o1, none⟩ = some v1 ∧ w'.cell? ⟨b, o2, none⟩ = some v2 :=
  ⟨(hb.cell (p := ⟨b, o1, none⟩) (World.block_lt_of_cell? w _ h.1)).trans h.1, (hb.cell (p := ⟨b, o2, none⟩) (World.block_lt_of_cell? w _ h.2)).trans h.2⟩

set_option maxRecDepth 100000 in
set_option maxHeartbeats 1000000 in
theorem spec_l4Leaf (p : Pr) (w : World) (hp : lim p) :
    Calls Tryz.prog 94 #[.agg #[.string p.1, .string p.2]] w fun e w' =>
      ∃ g' n' cap', e = .returned (.slice (some ⟨g', 0, none⟩) n' cap') ∧ Own w' w.heap.size g' n' cap' (leafB p) ∧ Below w.heap.size w w' := by
  have hp1 := hp.1
  have hp2 := hp.2
  obtain ⟨w0, hw0⟩ : ∃ w0, w0 = w.alloc (.cells #[.string p.1, .string p.2] 49) := ⟨_, rfl⟩
  have hba : Below w.heap.size w w0 := by rw [hw0]; exact (Below.refl _ _).alloc (Nat.le_refl _) _
  have hc1 : w0.cell? ⟨w.heap.size, 0, none⟩ = some (.string p.1) := by rw [hw0]; simp
  have hc2 : w0.cell? ⟨w.heap.size, 1, none⟩ = some (.string p.2) := by rw [hw0]; simp
  have hO : Own (w0.alloc (.cells #[.int .u8 0] 5)).drew w.heap.size w0.heap.size 1 1 [0] := own_one w0 0 0 rfl w.heap.size hba.size
  go_enter Tryz.func94, Tryz.ntmps94
  go_wp2_with fail
  rw [← hw0]
  clear hw0
  go_region_held3 (fun w' => w'.cell? ⟨w.heap.size, 0, none⟩ = some (.string p.1) ∧ w'.cell? ⟨w.heap.size, 1, none⟩ = some (.string p.2)) (first | (exact two_cells hb6 (by assumption)) | (exact two_cells hb5 (by assumption)) | (go_keep)) (first | (go_at_call 104; refine (spec_text g5 0 n5 cp5 ([0] ++ textBytes p.1) p.2 _ hO5.sl (by have := hO5.1; have := textBytes_length p.1; simp at *; omega) (by omega)).mono ?_; rintro e w6 ⟨g6, n6, cp6, rfl, hO6, hb6⟩) | (go_at_call 104; refine (spec_text w0.heap.size 0 1 1 [0] p.1 _ hO.sl (by omega) (by omega)).mono ?_; rintro e w5 ⟨g5, n5, cp5, rfl, hO5, hb5⟩))
  have hb1 : Below w.heap.size w (w0.alloc (.cells #[.int .u8 0] 5)).drew := (hba.alloc hba.size _).drew
  have hb2 : Below w.heap.size w w5 := hb1.trans (hb5.mono hb1.size)
  have hb3 : Below w.heap.size w w6 := hb2.trans (hb6.mono hb2.size)
  have hO7 : Own w6 w.heap.size g6 n6 cp6 (leafB p) := hO6.mono hb2.size
  clear hO hO5 hb5 hO6 hb6 hb1 hb2 hc1 hc2
  have HO := Hid.mk' hO7
  clear hO7
  go_wp2_with fail
  go_ret
  exact ⟨g6, n6, cp6, rfl, HO.out, hb3⟩

set_option maxHeartbeats 1000000 in
theorem spec_leafOf (p : Pr) (w : World) (hp : lim p) :
    Calls Tryz.prog 90 #[.agg #[.string p.1, .string p.2]] w fun e w' => e = .returned (.string (leafOf p)) ∧ Below w.heap.size w w' := by
  have hba : Below w.heap.size w (w.alloc (.cells #[.string p.1, .string p.2] 49)) := (Below.refl _ _).alloc (Nat.le_refl _) _
  have hlen := leafB_length p
  have hp1 := hp.1
  have hp2 := hp.2
  have HL := Hid.mk' (spec_l4Leaf p (w.alloc (.cells #[.string p.1, .string p.2] 49)) hp)
  go_enter Tryz.func90, Tryz.ntmps90
  go_wp2_with fail
  refine HL.out.mono ?_
  rintro e w1 ⟨g, n, cp, rfl, hO, hb1⟩
  have hB1 : Below w.heap.size w w1 := hba.trans (hb1.mono hba.size)
  have hn : n ≤ 1099511627776 := by have := hO.1; omega
  have HD := Hid.mk' (sha.spec_digest g 0 n cp (leafB p) w1 hO.sl hn)
  clear hO hb1 hba
  go_wp2_with fail
  refine HD.out.mono ?_
  rintro e w2 ⟨rfl, hb2⟩
  have hB2 : Below w.heap.size w w2 := hB1.trans (hb2.mono hB1.size)
  go_wp2_with fail
  go_ret
  exact ⟨rfl, hB2⟩

set_option maxRecDepth 100000 in
set_option maxHeartbeats 1000000 in
theorem spec_l4Node (a b : ByteArray) (w : World) (ha : a.size ≤ 137438953472) (hb : b.size ≤ 137438953472) :
    Calls Tryz.prog 102 #[.string a, .string b] w fun e w' =>
      ∃ g' n' cap', e = .returned (.slice (some ⟨g', 0, none⟩) n' cap') ∧ Own w' w.heap.size g' n' cap' (nodeB a b) ∧ Below w.heap.size w w' := by
  obtain ⟨i0, hi, hz0, hz1, hz2⟩ := info_parts info8
  have hO0 := own_one w 1 1 rfl w.heap.size (Nat.le_refl _)
  have hB0 : Below w.heap.size w (w.alloc (.cells #[.int .u8 1] 5)) := (Below.refl _ _).alloc (Nat.le_refl _) _
  have hc3 : 1 + a.size ≤ maxLen := by unfold maxLen; omega
  have hc4 : 1 + a.size ≤ 140737488355328 := by omega
  go_enter Tryz.func102, Tryz.ntmps102
  go_wp2_with (at_builtin; refine Lib.wpList_append_own_string _ rfl (.tmp 5) (.tmp 6) 22 9 rfl w.heap.size 5 i0 Tryz.underlying22 Tryz.underlying9 hi hz0 hz1 hz2 _ _ _ rfl hO0.2 a rfl hc3 hc4 hB0.size ?_)
  intro v1 w1 hown hgrow hnn
  have hnn' : ¬ v1 = .slice none 0 0 := by simpa using hnn
  rw [strCells_eq] at hown
  obtain ⟨g1, cap1, hv, hO1⟩ := own_app (m := a.size) (ns := a.data.toList) hO0.1 (size_toList a) rfl hnn' hown
  subst hv
  have hB1 : Below w.heap.size w w1 := hB0.grown hgrow hB0.size (fun k e => by simp [Value.ownBlock] at e; omega)
  have hc5 : 1 + a.size + b.size ≤ maxLen := by unfold maxLen; omega
  have hc6 : 1 + a.size + b.size ≤ 140737488355328 := by omega
  have hs1 := hB1.size
  clear hown hgrow hnn hnn' hO0 hB0 hc3 hc4
  go_wp2_with (at_builtin; refine Lib.wpList_append_own_string _ rfl (.tmp 7) (.tmp 8) 22 9 rfl w.heap.size 5 i0 Tryz.underlying22 Tryz.underlying9 hi hz0 hz1 hz2 _ _ _ rfl hO1.2 b rfl hc5 hc6 hs1 ?_)
  intro v2 w2 hown hgrow hnn
  have hnn' : ¬ v2 = .slice none 0 0 := by simpa using hnn
  rw [strCells_eq] at hown
  obtain ⟨g2, cap2, hv, hO2⟩ := own_app (m := b.size) (ns := b.data.toList) hO1.1 (size_toList b) rfl hnn' hown
  subst hv
  have hB2 : Below w.heap.size w w2 := hB1.grown hgrow hs1 (fun k e => by simp [Value.ownBlock] at e; have := hO1.lt; omega)
  have HO := Hid.mk' hO2
  clear hown hgrow hnn hnn' hO1 hB1 hO2
  go_wp2_with fail
  go_ret
  exact ⟨g2, _, cap2, rfl, HO.out, hB2⟩

set_option maxHeartbeats 1000000 in
theorem spec_nodeOf (a b : ByteArray) (w : World) (ha : a.size ≤ 137438953472) (hb : b.size ≤ 137438953472) :
    Calls Tryz.prog 91 #[.string a, .string b] w fun e w' => e = .returned (.string (nodeOf a b)) ∧ Below w.heap.size w w' := by
  have hlen := nodeB_length a b
  have HL := Hid.mk' (spec_l4Node a b w ha hb)
  go_enter Tryz.func91, Tryz.ntmps91
  go_wp2_with fail
  refine HL.out.mono ?_
  rintro e w1 ⟨g, n, cp, rfl, hO, hB1⟩
  have hn : n ≤ 1099511627776 := by have := hO.1; omega
  have HD := Hid.mk' (sha.spec_digest g 0 n cp (nodeB a b) w1 hO.sl hn)
  clear hO
  go_wp2_with fail
  refine HD.out.mono ?_
  rintro e w2 ⟨rfl, hb2⟩
  have hB2 : Below w.heap.size w w2 := hB1.trans (hb2.mono hB1.size)
  go_wp2_with fail
  go_ret
  exact ⟨rfl, hB2⟩

set_option maxRecDepth 100000 in
set_option maxHeartbeats 1000000 in
theorem spec_l4Top (N : Int) (x : ByteArray) (w : World) (hN : (Lit.int .i64 N).wf = true) (hx : x.size ≤ 137438953472) :
    Calls Tryz.prog 64 #[.int .i64 N, .string x] w fun e w' =>
      ∃ g' n' cap', e = .returned (.slice (some ⟨g', 0, none⟩) n' cap') ∧ Own w' w.heap.size g' n' cap' (topB N x) ∧ Below w.heap.size w w' := by
  obtain ⟨i0, hi, hz0, hz1, hz2⟩ := info_parts info8
  have hO0 := own_one w 2 2 rfl w.heap.size (Nat.le_refl _)
  have hB0 : Below w.heap.size w (w.alloc (.cells #[.int .u8 2] 5)) := (Below.refl _ _).alloc (Nat.le_refl _) _
  have HP := Hid.mk' (spec_put w.heap.size 0 1 1 [2] N _ hO0.sl hN (by omega))
  have hnl := numBytes_length N
  go_enter Tryz.func64, Tryz.ntmps64
  go_wp2_with (at_builtin; fail)
  refine HP.out.mono ?_
  rintro e w1 ⟨g1, n1, cap1, rfl, hO1, hb1⟩
  have hB1 : Below w.heap.size w w1 := hB0.trans (hb1.mono hB0.size)
  have hO1' := hO1.mono (base' := w.heap.size) hB0.size
  have hn1 : n1 ≤ 6 := by have := hO1.1; simp at this; omega
  have hc5 : n1 + x.size ≤ maxLen := by unfold maxLen; omega
  have hc6 : n1 + x.size ≤ 140737488355328 := by omega
  have hs1 := hB1.size
  clear hO1 hb1 hO0 hB0 HP hnl
  go_wp2_with (at_builtin; refine Lib.wpList_append_own_string _ rfl (.tmp 7) (.tmp 8) 22 9 rfl w.heap.size 5 i0 Tryz.underlying22 Tryz.underlying9 hi hz0 hz1 hz2 _ _ _ rfl hO1'.2 x rfl hc5 hc6 hs1 ?_)
  intro v2 w2 hown hgrow hnn
  have hnn' : ¬ v2 = .slice none 0 0 := by simpa using hnn
  rw [strCells_eq] at hown
  obtain ⟨g2, cap2, hv, hO2⟩ := own_app (m := x.size) (ns := x.data.toList) hO1'.1 (size_toList x) rfl hnn' hown
  subst hv
  have hB2 : Below w.heap.size w w2 := hB1.grown hgrow hs1 (fun k e => by simp [Value.ownBlock] at e; have := hO1'.lt; omega)
  have HO := Hid.mk' hO2
  clear hown hgrow hnn hnn' hO1' hB1 hO2
  go_wp2_with fail
  go_ret
  exact ⟨g2, _, cap2, rfl, HO.out, hB2⟩

set_option maxHeartbeats 1000000 in
theorem spec_half (n : Nat) (w : World) (h : 2 ≤ n) (h64 : n ≤ 64) :
    Calls Tryz.prog 75 #[.int .i64 (n : Int)] w fun e w' => e = .returned (.int .i64 (half n : Int)) ∧ w' = w := by
  go_enter Tryz.func75, Tryz.ntmps75
  go_wp2
  go_loop [3] (fun v => ∃ k : Nat, v = .int .i64 (k : Int) ∧ (k = 1 ∨ k = 2 ∨ k = 4 ∨ k = 8 ∨ k = 16 ∨ k = 32) ∧ k < n) (fun v => n - (intOf v).toNat)
  case atStart => exact ⟨1, rfl, by omega, by omega⟩
  case round =>
    obtain ⟨k, rfl, hk, hlt⟩ := hrel
    by_cases h2 : 2 * k < n
    · have hk2 : 2 * k = 1 ∨ 2 * k = 2 ∨ 2 * k = 4 ∨ 2 * k = 8 ∨ 2 * k = 16 ∨ 2 * k = 32 := by omega
      have h2i : 2 * (k : Int) < (n : Int) := by omega
      have hk0 : 1 ≤ k := by omega
      clear hk
      go_wp2
      go_round
      case rel => exact ⟨2 * k, by go_num, hk2, h2⟩
      case measure => simp [intOf]; omega
    · have HE : Hid (k = half n) := half_eq n k h h64 hk hlt (by omega)
      have h2i : ¬ 2 * (k : Int) < (n : Int) := by omega
      clear hk
      go_wp2
      go_ret
      exact ⟨ret_int (by rw [HE.out]), rfl⟩

end Go.Proofs.YtdebbgodhpcijaaGreatDoor.tree

namespace Go.Proofs.YtdebbgodhpcijaaGreatDoor.tree
open Go Go.RowKit Go.Proofs.YtdebbgodhpcijaaGreatDoor.base Go.Proofs.YtdebbgodhpcijaaGreatDoor.pairs Go.Proofs.YtdebbgodhpcijaaGreatDoor.puttext Go.Proofs.YtdebbgodhpcijaaGreatDoor.putnum
set_option linter.unusedVariables false
set_option linter.unusedSimpArgs false

theorem slp_take {w : World} {b off : Nat} {l : List Pr} (h : SlP w (some ⟨b, off, none⟩) l.length l) (k : Nat) (hk : k ≤ l.length) : SlP w (some ⟨b, off, none⟩) (l.take k).length (l.take k) := by
  refine ⟨rfl, by have := h.2.1; simp; omega, fun p hp => h.2.2.1 p (List.mem_of_mem_take hp), fun _ => ⟨b, off, rfl, fun i hi => ?_⟩⟩
  rw [List.getElem_take]
  exact h.cells i (by simp at hi; omega)
theorem slp_drop {w : World} {b off : Nat} {l : List Pr} (h : SlP w (some ⟨b, off, none⟩) l.length l) (k : Nat) : SlP w (some ⟨b, off + k * 2, none⟩) (l.drop k).length (l.drop k) := by
  refine ⟨rfl, by have := h.2.1; simp; omega, fun p hp => h.2.2.1 p (List.mem_of_mem_drop hp), fun _ => ⟨b, _, rfl, fun i hi => ?_⟩⟩
  have := h.cells (k + i) (by simp at hi; omega)
  rw [List.getElem_drop, show off + k * 2 + i * 2 = off + (k + i) * 2 by omega]
  exact this

set_option maxRecDepth 100000 in
set_option maxHeartbeats 2000000 in
theorem spec_l4Inner (m : Nat) : ∀ (l : List Pr), l.length = m → m ≤ 60 → (∀ p ∈ l, lim p) → ∀ (b off cap : Nat) (w : World), SlP w (some ⟨b, off, none⟩) l.length l → l.length ≤ cap →
    Calls Tryz.prog 65 #[.slice (some ⟨b, off, none⟩) l.length cap] w fun e w' => e = .returned (.string (inner l)) ∧ Below w.heap.size w w' := by
  induction m using Nat.strongRecOn with
  | _ m ih =>
    intro l hlm h60 hlim b off cap w h hcap
    by_cases h0 : l.length = 0
    · obtain rfl : l = [] := List.eq_nil_of_length_eq_zero h0
      have hba : Below w.heap.size w (w.alloc (.cells #[] 5)) := (Below.refl _ _).alloc (Nat.le_refl _) _
      have HD := Hid.mk' (sha.spec_digest w.heap.size 0 0 0 [] _ (own_made w w.heap.size (Nat.le_refl _)).sl (by omega))
      rw [inner_nil]
      clear ih hlim h hlm
      go_enter Tryz.func65, Tryz.ntmps65
      go_wp2_with fail
      refine HD.out.mono ?_
      rintro e w2 ⟨rfl, hb2⟩
      have hB2 : Below w.heap.size w w2 := hba.trans (hb2.mono hba.size)
      go_wp2_with fail
      go_ret
      exact ⟨rfl, hB2⟩
    by_cases h1 : l.length = 1
    · obtain ⟨p, rfl⟩ : ∃ p, l = [p] := List.length_eq_one_iff.1 h1
      obtain ⟨c1, c2⟩ := h.cells 0 (by simp)
      have HL := Hid.mk' (spec_leafOf p w (hlim p (by simp)))
      rw [inner_one]
      simp only [List.getElem_cons_zero, Nat.zero_mul, Nat.add_zero] at c1 c2
      clear ih hlim h hlm
      go_enter Tryz.func65, Tryz.ntmps65
      go_wp2_with fail
      refine HL.out.mono ?_
      rintro e w2 ⟨rfl, hb2⟩
      go_wp2_with fail
      go_ret
      exact ⟨rfl, hb2⟩
    have h2 : 2 ≤ l.length := by omega
    have hbd := half_bd l.length h2
    have HH := Hid.mk' (spec_half l.length w h2 (by omega))
    have hst := inner_step l h2
    obtain ⟨k, hk⟩ : ∃ k, half l.length = k := ⟨_, rfl⟩
    rw [hk] at hbd HH hst
    have hltk : (l.take k).length = k := by simp; omega
    have hldk : (l.drop k).length = l.length - k := by simp
    have hs1 := inner_size (l.take k)
    have hs2 := inner_size (l.drop k)
    have hB : w.heap.size ≤ w.heap.size := Nat.le_refl _
    have hc1 : ∀ x : last.On w.heap.size w, Calls Tryz.prog 65 #[.slice (some ⟨b, off, none⟩) k cap] x.w fun e w' => e = .returned (.string (inner (l.take k))) ∧ ∃ y : last.On w.heap.size w, w' = y.w := fun x => last.Calls.on x (Nat.le_refl _) (by
      have := ih k (by omega) (l.take k) hltk (by omega) (fun p hp => hlim p (List.mem_of_mem_take hp)) b off cap x.w (slp_take (h.below x.2) k (by omega)) (by omega)
      rw [hltk] at this; exact this)
    have hc2 : ∀ x : last.On w.heap.size w, Calls Tryz.prog 65 #[.slice (some ⟨b, off + k * 2, none⟩) (l.length - k) (cap - k)] x.w fun e w' => e = .returned (.string (inner (l.drop k))) ∧ ∃ y : last.On w.heap.size w, w' = y.w := fun x => last.Calls.on x (Nat.le_refl _) (by
      have := ih (l.length - k) (by omega) (l.drop k) hldk (by omega) (fun p hp => hlim p (List.mem_of_mem_drop hp)) b (off + k * 2) (cap - k) x.w (slp_drop (h.below x.2) k) (by omega)
      rw [hldk] at this; exact this)
    have hc3 : ∀ x : last.On w.heap.size w, Calls Tryz.prog 91 #[.string (inner (l.take k)), .string (inner (l.drop k))] x.w fun e w' => e = .returned (.string (inner l)) ∧ ∃ y : last.On w.heap.size w, w' = y.w := fun x => last.Calls.on x (Nat.le_refl _) (by
      rw [hst]; exact spec_nodeOf _ _ x.w (by omega) (by omega))
    have q1 : (k : Int) ≤ (cap : Int) := by omega
    have q2 : ¬ cap = k := by omega
    have q3 : (k : Int) ≤ (l.length : Int) := by omega
    have q4 : ¬ (l.length : Int) = 0 := by omega
    have q5 : ¬ (l.length : Int) = 1 := by omega
    generalize inner (l.take k) = x1 at *
    generalize inner (l.drop k) = x2 at *
    generalize inner l = x0 at *
    clear ih hlim h hlm hst hltk hldk hs1 hs2 hk
    go_enter Tryz.func65, Tryz.ntmps65
    go_wp2_with fail
    refine HH.out.mono ?_
    rintro e w2 ⟨rfl, hw2⟩
    subst hw2
    go_wp2_with fail
    have hinh := last.On.inh w2.heap.size w2
    refine last.wp_region_on w2.heap.size (by kernel_rfl) (by kernel_rfl) ?_
    repeat (go_big_quiet_step ((first | (go_at_call 91; exact hc3 _) | (go_at_call 65; first | (with_reducible exact hc1 _) | (with_reducible exact hc2 _)))))
    refine wpQuiet_nil ?_
    intro w5 hw5
    obtain ⟨x5, hw5⟩ := hw5
    subst hw5
    have hB5 : Below w2.heap.size w2 x5.w := x5.2
    go_wp2_with fail
    go_ret
    exact ⟨rfl, hB5⟩


set_option maxHeartbeats 1000000 in
theorem spec_l4Root (l : List Pr) (b off cap : Nat) (w : World) (h : SlP w (some ⟨b, off, none⟩) l.length l) (hcap : l.length ≤ cap) (h60 : l.length ≤ 60) (hlim : ∀ p ∈ l, lim p) :
    Calls Tryz.prog 32 #[.slice (some ⟨b, off, none⟩) l.length cap] w fun e w' => e = .returned (.string (rootOf l)) ∧ Below w.heap.size w w' := by
  have HI := Hid.mk' (spec_l4Inner l.length l rfl h60 hlim b off cap w h hcap)
  have hs := inner_size l
  have htl := topB_length (l.length : Int) (inner l)
  have HT := Hid.mk' (fun wx => spec_l4Top (l.length : Int) (inner l) wx (WalkArith.wf_i64 (by omega)) (by omega))
  go_enter Tryz.func32, Tryz.ntmps32
  go_wp2_with fail
  refine HI.out.mono ?_
  rintro e w1 ⟨rfl, hB1⟩
  go_wp2_with fail
  refine (HT.out _).mono ?_
  rintro e w2 ⟨g, n, cp, rfl, hO, hb2⟩
  have hB2 : Below w.heap.size w w2 := hB1.trans (hb2.mono hB1.size)
  have hn : n ≤ 1099511627776 := by have := hO.1; omega
  have HD := Hid.mk' (sha.spec_digest g 0 n cp (topB (l.length : Int) (inner l)) w2 hO.sl hn)
  clear hO hB1 hb2
  go_wp2_with fail
  refine HD.out.mono ?_
  rintro e w3 ⟨rfl, hb3⟩
  have hB3 : Below w.heap.size w w3 := hB2.trans (hb3.mono hB2.size)
  go_wp2_with fail
  go_ret
  exact ⟨rfl, hB3⟩

set_option maxHeartbeats 1000000 in
theorem spec_rootOf (b off len cap : Nat) (l : List Pr) (w : World) (h : SlP w (some ⟨b, off, none⟩) len l) (hcap : len ≤ cap) (hlim : ∀ p ∈ l, lim p) :
    Calls Tryz.prog 10 #[.slice (some ⟨b, off, none⟩) len cap] w fun e w' => e = .returned (.string (rootI l)) ∧ Below w.heap.size w w' := by
  have hl := h.1
  have hm := h.2.1
  subst hl
  unfold maxLen at hm
  unfold rootI
  by_cases h60 : 60 < l.length
  · rw [if_neg (by omega)]
    go_enter Tryz.func10, Tryz.ntmps10
    go_wp2_with fail
    go_ret
    exact ⟨rfl, Below.refl _ _⟩
  · rw [if_pos (by omega)]
    have HI := Hid.mk' (spec_l4Root l b off cap w h hcap (by omega) hlim)
    go_enter Tryz.func10, Tryz.ntmps10
    go_wp2_with fail
    refine HI.out.mono ?_
    rintro e w2 ⟨rfl, hb⟩
    go_wp2_with fail
    go_ret
    exact ⟨rfl, hb⟩

end Go.Proofs.YtdebbgodhpcijaaGreatDoor.tree

namespace Go.Proofs.YtdebbgodhpcijaaGreatDoor.tree
open Go Go.RowKit Go.Proofs.YtdebbgodhpcijaaGreatDoor.base Go.Proofs.YtdebbgodhpcijaaGreatDoor.pairs Go.Proofs.YtdebbgodhpcijaaGreatDoor.puttext Go.Proofs.YtdebbgodhpcijaaGreatDoor.putnum
set_option linter.unusedVariables false
set_option linter.unusedSimpArgs false

theorem max32 {s : ByteArray} (h : s.size = 32) : s.size ≤ maxLen := by unfold maxLen; omega

set_option maxRecDepth 100000 in
set_option maxHeartbeats 4000000 in
theorem spec_l4Path (m : Nat) : ∀ (l : List Pr), l.length = m → m ≤ 60 → (∀ p ∈ l, lim p) → ∀ (i b off cap : Nat) (w : World), i < l.length → SlP w (some ⟨b, off, none⟩) l.length l → l.length ≤ cap →
    Calls Tryz.prog 46 #[.slice (some ⟨b, off, none⟩) l.length cap, .int .i64 (i : Int)] w fun e w' =>
      ∃ g' n' cap', e = .returned (.slice (some ⟨g', 0, none⟩) n' cap') ∧ OwnS w' w.heap.size g' n' cap' (path l i) ∧ Below w.heap.size w w' := by
  obtain ⟨i0, hi, hz0, hz1, hz2⟩ := info_parts info9
  induction m using Nat.strongRecOn with
  | _ m ih =>
    intro l hlm h60 hlim i b off cap w hil h hcap
    by_cases h2 : l.length < 2
    · rw [path_low l i h2]
      have h2i : (l.length : Int) < 2 := by omega
      clear ih hlim h hlm
      go_enter Tryz.func46, Tryz.ntmps46
      go_wp2_with fail
      go_ret
      exact ⟨w.heap.size, 0, 0, rfl, ownS_made w _ (Nat.le_refl _), (Below.refl _ _).alloc (Nat.le_refl _) _⟩
    have h2' : 2 ≤ l.length := by omega
    have hbd := half_bd l.length h2'
    have HH := Hid.mk' (spec_half l.length w h2' (by omega))
    have hpl := path_left l i h2'
    have hpr := path_right l i h2'
    obtain ⟨k, hk⟩ : ∃ k, half l.length = k := ⟨_, rfl⟩
    rw [hk] at hbd HH hpl hpr
    have hltk : (l.take k).length = k := by simp; omega
    have hldk : (l.drop k).length = l.length - k := by simp
    have q1 : (k : Int) ≤ (cap : Int) := by omega
    have q2 : ¬ cap = k := by omega
    have q3 : (k : Int) ≤ (l.length : Int) := by omega
    have q4 : ¬ (l.length : Int) < 2 := by omega
    by_cases hik : i < k
    · have hq := hpl hik
      have HP : Hid (∀ wx, Below w.heap.size w wx → Calls Tryz.prog 46 #[.slice (some ⟨b, off, none⟩) k cap, .int .i64 (i : Int)] wx fun e w' =>
          ∃ g' n' cap', e = .returned (.slice (some ⟨g', 0, none⟩) n' cap') ∧ OwnS w' wx.heap.size g' n' cap' (path (l.take k) i) ∧ Below wx.heap.size wx w') := fun wx hx => by
        have := ih k (by omega) (l.take k) hltk (by omega) (fun p hp => hlim p (List.mem_of_mem_take hp)) i b off cap wx (by omega) (slp_take (h.below hx) k (by omega)) (by omega)
        rw [hltk] at this; exact this
      have HI : Hid (∀ wx, Below w.heap.size w wx → Calls Tryz.prog 65 #[.slice (some ⟨b, off + k * 2, none⟩) (l.length - k) (cap - k)] wx fun e w' => e = .returned (.string (inner (l.drop k))) ∧ Below wx.heap.size wx w') := fun wx hx => by
        have := spec_l4Inner (l.length - k) (l.drop k) hldk (by omega) (fun p hp => hlim p (List.mem_of_mem_drop hp)) b (off + k * 2) (cap - k) wx (slp_drop (h.below hx) k) (by omega)
        rw [hldk] at this; exact this
      have hy2 := max32 (inner_size (l.drop k))
      have hyl := path_length (l.take k) i
      have hyd := depth_le i (l.take k).length
      have hy1 : (path (l.take k) i).length ≤ 60 := by omega
      rw [hq]
      have hiki : (i : Int) < (k : Int) := by omega
      generalize path (l.take k) i = y1 at *
      generalize inner (l.drop k) = y2 at *
      clear ih hlim h hlm hpl hpr hltk hldk hk hq hyl hyd
      go_enter Tryz.func46, Tryz.ntmps46
      go_wp2_with fail
      refine HH.out.mono ?_
      rintro e w2 ⟨rfl, hw2⟩
      subst hw2
      have hd : Below w2.heap.size w2 w2.drew := (Below.refl _ _).drew
      go_wp2_with (at_builtin; fail)
      go_region_held3 (fun w' => True) (trivial) (first | (refine step_append_own rfl (.tmp 20) (.tmp 25) 59 rfl w2.heap.size 9 i0 (.string ⟨#[]⟩) 1 16 Tryz.underlying59 hi hz0 hz1 hz2 rfl (by decide) _ _ _ rfl (hO6.2.2.alloc _) ⟨w6.heap.size, 0, none⟩ 1 1 [.string y2] rfl rfl (cell_one_new _ _ _) (str_oneCell _) (by unfold maxLen; omega) (by omega) (le_alloc _ _ hs6) ?_; intro v7 w7 hown hgrow hnn) | (go_at_call 46; refine (HP.out _ hd).mono ?_; rintro e w5 ⟨g5, n5, cp5, rfl, hO5, hb5⟩; have hB5 := hd.trans (hb5.mono hd.size)) | (go_at_call 65; refine (HI.out _ hB5).mono ?_; rintro e w6 ⟨rfl, hb6⟩; have hO6 := (hO5.mono (base' := w2.heap.size) hd.size).below hb6; have hB6 := hB5.trans (hb6.mono hB5.size); have hs6 := hB6.size; have hn6 : n5 ≤ 60 := by have := hO5.1; omega))
      all_goals
        have hgr2 : (w6.alloc (.cells #[.string y2] 9)).grownBy w7 (some g5) := hgrow
        have hnn' : ¬ v7 = .slice none 0 0 := by simpa using hnn
        have hsm : ∀ s ∈ y1 ++ [y2], s.size ≤ maxLen := fun s hs => by
          rcases List.mem_append.1 hs with h1 | h1
          · exact hO6.2.1 s h1
          · rw [List.mem_singleton.1 h1]; exact hy2
        obtain ⟨g7, cap7, hv, hO7⟩ := ownS_val (ss := y1 ++ [y2]) (n := n5 + 1) (by have := hO6.1; simp; omega) hsm hnn' (by simpa [strVals] using hown)
        subst hv
        have hB7 : Below w2.heap.size w2 w7 := (hB6.alloc hs6 _).grown hgr2 (le_alloc _ _ hs6) (fun k e => by cases e; exact hO6.lt.1)
        have HO7 := Hid.mk' hO7
        clear hown hgrow hgr2 hnn hnn' hO7 hO6 hO5 hb5 hb6 hB5 hB6
        go_wp2_with fail
        go_ret
        exact ⟨g7, _, cap7, rfl, HO7.out, hB7⟩
    · have hq := hpr hik
      obtain ⟨j, hj⟩ : ∃ j, i - k = j := ⟨_, rfl⟩
      have hji : (i : Int) - (k : Int) = (j : Int) := by omega
      have hjw : IntKind.i64.wrap (j : Int) = (j : Int) := by rw [IntKind.wrap_i64]; omega
      rw [hj] at hq
      have HP : Hid (∀ wx, Below w.heap.size w wx → Calls Tryz.prog 46 #[.slice (some ⟨b, off + k * 2, none⟩) (l.length - k) (cap - k), .int .i64 (j : Int)] wx fun e w' =>
          ∃ g' n' cap', e = .returned (.slice (some ⟨g', 0, none⟩) n' cap') ∧ OwnS w' wx.heap.size g' n' cap' (path (l.drop k) j) ∧ Below wx.heap.size wx w') := fun wx hx => by
        have := ih (l.length - k) (by omega) (l.drop k) hldk (by omega) (fun p hp => hlim p (List.mem_of_mem_drop hp)) j b (off + k * 2) (cap - k) wx (by omega) (slp_drop (h.below hx) k) (by omega)
        rw [hldk] at this; exact this
      have HI : Hid (∀ wx, Below w.heap.size w wx → Calls Tryz.prog 65 #[.slice (some ⟨b, off, none⟩) k cap] wx fun e w' => e = .returned (.string (inner (l.take k))) ∧ Below wx.heap.size wx w') := fun wx hx => by
        have := spec_l4Inner k (l.take k) hltk (by omega) (fun p hp => hlim p (List.mem_of_mem_take hp)) b off cap wx (slp_take (h.below hx) k (by omega)) (by omega)
        rw [hltk] at this; exact this
      have hy2 := max32 (inner_size (l.take k))
      have hyl := path_length (l.drop k) j
      have hyd := depth_le j (l.drop k).length
      have hy1 : (path (l.drop k) j).length ≤ 60 := by omega
      rw [hq]
      have hiki : ¬ (i : Int) < (k : Int) := by omega
      generalize path (l.drop k) j = y1 at *
      generalize inner (l.take k) = y2 at *
      clear ih hlim h hlm hpl hpr hltk hldk hk hq hyl hyd hj
      go_enter Tryz.func46, Tryz.ntmps46
      go_wp2_with fail
      refine HH.out.mono ?_
      rintro e w2 ⟨rfl, hw2⟩
      subst hw2
      have hd : Below w2.heap.size w2 w2.drew := (Below.refl _ _).drew
      go_wp2_with (at_builtin; fail)
      go_region_held3 (fun w' => True) (trivial) (first | (refine step_append_own rfl (.tmp 33) (.tmp 38) 59 rfl w2.heap.size 9 i0 (.string ⟨#[]⟩) 1 16 Tryz.underlying59 hi hz0 hz1 hz2 rfl (by decide) _ _ _ rfl (hO6.2.2.alloc _) ⟨w6.heap.size, 0, none⟩ 1 1 [.string y2] rfl rfl (cell_one_new _ _ _) (str_oneCell _) (by unfold maxLen; omega) (by omega) (le_alloc _ _ hs6) ?_; intro v7 w7 hown hgrow hnn) | (go_at_call 46; refine (HP.out _ hd).mono ?_; rintro e w5 ⟨g5, n5, cp5, rfl, hO5, hb5⟩; have hB5 := hd.trans (hb5.mono hd.size)) | (go_at_call 65; refine (HI.out _ hB5).mono ?_; rintro e w6 ⟨rfl, hb6⟩; have hO6 := (hO5.mono (base' := w2.heap.size) hd.size).below hb6; have hB6 := hB5.trans (hb6.mono hB5.size); have hs6 := hB6.size; have hn6 : n5 ≤ 60 := by have := hO5.1; omega))
      all_goals
        have hgr2 : (w6.alloc (.cells #[.string y2] 9)).grownBy w7 (some g5) := hgrow
        have hnn' : ¬ v7 = .slice none 0 0 := by simpa using hnn
        have hsm : ∀ s ∈ y1 ++ [y2], s.size ≤ maxLen := fun s hs => by
          rcases List.mem_append.1 hs with h1 | h1
          · exact hO6.2.1 s h1
          · rw [List.mem_singleton.1 h1]; exact hy2
        obtain ⟨g7, cap7, hv, hO7⟩ := ownS_val (ss := y1 ++ [y2]) (n := n5 + 1) (by have := hO6.1; simp; omega) hsm hnn' (by simpa [strVals] using hown)
        subst hv
        have hB7 : Below w2.heap.size w2 w7 := (hB6.alloc hs6 _).grown hgr2 (le_alloc _ _ hs6) (fun k e => by cases e; exact hO6.lt.1)
        have HO7 := Hid.mk' hO7
        clear hown hgrow hgr2 hnn hnn' hO7 hO6 hO5 hb5 hb6 hB5 hB6
        go_wp2_with fail
        go_ret
        exact ⟨g7, _, cap7, rfl, HO7.out, hB7⟩

set_option maxHeartbeats 1000000 in
theorem s_inI (x a b : Int) (w : World) :
    Calls Tryz.prog 33 #[.int .i64 x, .int .i64 a, .int .i64 b] w fun e w' => e = .returned (.bool (decide (a ≤ x ∧ x ≤ b))) ∧ w' = w := by
  by_cases h1 : a ≤ x
  · by_cases h2 : x ≤ b
    · go_enter Tryz.func33, Tryz.ntmps33
      go_wp2
      go_ret
      exact ⟨ret_bool (by simp [h1, h2]), rfl⟩
    · go_enter Tryz.func33, Tryz.ntmps33
      go_wp2
      go_ret
      exact ⟨ret_bool (by simp [h1, h2]), rfl⟩
  · go_enter Tryz.func33, Tryz.ntmps33
    go_wp2
    go_ret
    exact ⟨ret_bool (by have h3 : ¬ a ≤ x := by omega
                        simp [h3]), rfl⟩


end Go.Proofs.YtdebbgodhpcijaaGreatDoor.tree

namespace Go.Proofs.YtdebbgodhpcijaaGreatDoor.tree
open Go Go.RowKit Go.Proofs.YtdebbgodhpcijaaGreatDoor.base Go.Proofs.YtdebbgodhpcijaaGreatDoor.pairs Go.Proofs.YtdebbgodhpcijaaGreatDoor.puttext Go.Proofs.YtdebbgodhpcijaaGreatDoor.putnum
set_option linter.unusedVariables false
set_option linter.unusedSimpArgs false

theorem snoc_of_ne {α : Type} {l : List α} (h : l ≠ []) : ∃ q z, l = q ++ [z] := by
  exact ⟨l.dropLast, l.getLast h, (List.dropLast_concat_getLast h).symm⟩
theorem sl_bts {w : World} {g : Nat} {s : ByteArray} (h : Bts w g s) (hm : s.size ≤ maxLen) : Sl w (some ⟨g, 0, none⟩) s.size s.data.toList := by
  refine ⟨by simp, hm, fun _ => ⟨g, 0, rfl, fun i hi => ?_⟩⟩
  rw [Nat.zero_add]
  exact h.2 i (by simpa using hi)
theorem arr_size (l : List UInt8) : (⟨l.toArray⟩ : ByteArray).size = l.length := by
  show l.toArray.size = _
  exact List.size_toArray
theorem hashed_small (leaf : List UInt8) (i n : Nat) (p out : List ByteArray) (h : hashed leaf i n p = some out) (hl : leaf.length ≤ 137438953472) (hp : ∀ s ∈ p, s.size ≤ 137438953472) : ∀ s ∈ out, s.size ≤ 137438953600 := by
  induction n using Nat.strongRecOn generalizing i p out with
  | _ n ih =>
    by_cases h2 : n < 2
    · rw [hashed_low _ _ _ _ h2] at h
      split at h
      · cases h
        intro s hs
        rw [List.mem_singleton.1 hs, arr_size]; omega
      · cases h
    · have hb := half_bd n (by omega)
      cases hq : p.getLast? with
      | none =>
        have : p = [] := List.getLast?_eq_none_iff.1 hq
        subst this
        rw [hashed_none _ _ _ (by omega)] at h; cases h
      | some z =>
        have hz := hp z (List.mem_of_getLast? hq)
        have hd : ∀ s ∈ p.dropLast, s.size ≤ 137438953472 := fun s hs => hp s ((List.dropLast_sublist p).subset hs)
        by_cases hi : i < half n
        · rw [hashed_left _ _ _ _ _ (by omega) hq hi] at h
          obtain ⟨o, ho, rfl⟩ := Option.map_eq_some_iff.1 h
          intro s hs
          rcases List.mem_append.1 hs with h1 | h1
          · exact ih _ hb.2 _ _ _ ho hd s h1
          · rw [List.mem_singleton.1 h1, arr_size, nodeB_length, dg_size]; omega
        · rw [hashed_right _ _ _ _ _ (by omega) hq hi] at h
          obtain ⟨o, ho, rfl⟩ := Option.map_eq_some_iff.1 h
          intro s hs
          rcases List.mem_append.1 hs with h1 | h1
          · exact ih _ (by omega) _ _ _ ho hd s h1
          · rw [List.mem_singleton.1 h1, arr_size, nodeB_length, dg_size]; omega
theorem hashed_len (leaf : List UInt8) (i n : Nat) (p out : List ByteArray) (h : hashed leaf i n p = some out) : out.length ≤ n + 1 := by
  induction n using Nat.strongRecOn generalizing i p out with
  | _ n ih =>
    by_cases h2 : n < 2
    · rw [hashed_low _ _ _ _ h2] at h
      split at h
      · cases h; simp
      · cases h
    · have hb := half_bd n (by omega)
      cases hq : p.getLast? with
      | none =>
        have : p = [] := List.getLast?_eq_none_iff.1 hq
        subst this
        rw [hashed_none _ _ _ (by omega)] at h; cases h
      | some z =>
        by_cases hi : i < half n
        · rw [hashed_left _ _ _ _ _ (by omega) hq hi] at h
          obtain ⟨o, ho, rfl⟩ := Option.map_eq_some_iff.1 h
          have := ih _ hb.2 _ _ _ ho
          simp; omega
        · rw [hashed_right _ _ _ _ _ (by omega) hq hi] at h
          obtain ⟨o, ho, rfl⟩ := Option.map_eq_some_iff.1 h
          have := ih _ (by omega) _ _ _ ho
          simp; omega

theorem ownS_one (w : World) (s : ByteArray) (hs : s.size ≤ maxLen) : OwnS (w.alloc (.cells #[.string s] 9)) w.heap.size w.heap.size 1 1 [s] :=
  ⟨rfl, fun x hx => by rw [List.mem_singleton.1 hx]; exact hs, by simp [strVals], .inr ⟨w.heap.size, 1, #[.string s], rfl, Nat.le_refl _, heap_alloc_new w _, Nat.le_refl _, by decide, rfl, by simp [strVals]⟩⟩
theorem sls_front {w : World} {b o : Nat} {q : List ByteArray} {z : ByteArray} (h : SlS w (some ⟨b, o, none⟩) (q ++ [z]).length (q ++ [z])) : SlS w (some ⟨b, o, none⟩) q.length q := by
  obtain ⟨h1, h2, h3, h4⟩ := h
  refine ⟨rfl, by simp at h2; omega, fun s hs => h3 s (by simp [hs]), fun _ => ?_⟩
  obtain ⟨b', o', e, hc⟩ := h4 (by simp)
  refine ⟨b', o', e, fun i hi => ?_⟩
  have := hc i (by simp; omega)
  rwa [List.getElem_append_left hi] at this
theorem sls_last {w : World} {b o : Nat} {q : List ByteArray} {z : ByteArray} (h : SlS w (some ⟨b, o, none⟩) (q ++ [z]).length (q ++ [z])) : w.cell? ⟨b, o + q.length, none⟩ = some (.string z) := by
  obtain ⟨b', o', e, hc⟩ := h.2.2.2 (by simp)
  have := hc q.length (by simp)
  simp only [Option.some.injEq, Addr.mk.injEq, and_true] at e
  obtain ⟨rfl, rfl⟩ := e
  simpa using this
/-- what l4Hashed and l4All answer -/
def HPost (w : World) (r : Option (List ByteArray)) (e : Ending) (w' : World) : Prop :=
  Below w.heap.size w w' ∧ match r with
    | none => ∃ v, e = .returned (.tuple #[v, .bool false])
    | some out => ∃ g n cap, e = .returned (.tuple #[.slice (some ⟨g, 0, none⟩) n cap, .bool true]) ∧ OwnS w' w.heap.size g n cap out

set_option maxRecDepth 100000 in
set_option maxHeartbeats 4000000 in
theorem spec_l4Hashed (m : Nat) : ∀ (leaf : List UInt8) (lbase lg ln lcap i n pb po pcap : Nat) (P : List ByteArray) (w : World), n = m → n ≤ 60 → Own w lbase lg ln lcap leaf → leaf.length ≤ 137438953472 → SlS w (some ⟨pb, po, none⟩) P.length P → (∀ s ∈ P, s.size ≤ 137438953472) → P.length ≤ pcap → i < n →
    Calls Tryz.prog 103 #[.slice (some ⟨lg, 0, none⟩) ln lcap, .int .i64 (i : Int), .int .i64 (n : Int), .slice (some ⟨pb, po, none⟩) P.length pcap] w (HPost w (hashed leaf i n P)) := by
  obtain ⟨i0, hi, hz0, hz1, hz2'⟩ := info_parts info9
  induction m using Nat.strongRecOn with
  | _ m ih =>
    intro leaf lbase lg ln lcap i n pb po pcap P w hnm h60 hL hleaf hP hPs hpc hin
    subst hnm
    by_cases h2 : n < 2
    · have h2i : (n : Int) < 2 := by omega
      have hcv := conv_own hL
      have hlsz : (⟨leaf.toArray⟩ : ByteArray).size ≤ maxLen := by rw [arr_size]; unfold maxLen; omega
      have hst := hashed_low leaf i n P h2
      by_cases hpe : P = []
      · have HN : Hid (hashed leaf i n P = some [⟨leaf.toArray⟩]) := by show _ = _; rw [hst, if_pos hpe]
        subst hpe
        generalize (⟨leaf.toArray⟩ : ByteArray) = lf at *
        clear ih hL hP hPs hst hleaf
        go_enter Tryz.func103, Tryz.ntmps103
        go_wp2_with (at_builtin; fail)
        go_ret2
        refine ⟨(Below.refl _ _).alloc (Nat.le_refl _) _, ?_⟩
        rw [HN.out]
        exact ⟨w.heap.size, 1, 1, rfl, ownS_one w lf hlsz⟩
      · have HN : Hid (hashed leaf i n P = none) := by show _ = _; rw [hst, if_neg hpe]
        have hpl : ¬ P.length = 0 := fun e => hpe (List.eq_nil_of_length_eq_zero e)
        have hpm := hP.2.1
        unfold maxLen at hpm
        have hpli : ¬ (P.length : Int) = 0 := by omega
        have hpd : ((P.length : Int) == 0) = false := by rw [beq_eq_false_iff_ne]; exact hpli
        clear ih hL hP hPs hst hleaf hpe
        go_enter Tryz.func103, Tryz.ntmps103
        go_wp2_with (at_builtin; fail)
        go_ret2
        refine ⟨(Below.refl _ _).alloc (Nat.le_refl _) _, ?_⟩
        rw [HN.out]
        exact ⟨_, rfl⟩
    have h2i : ¬ (n : Int) < 2 := by omega
    by_cases hpe : P = []
    · subst hpe
      have HN : Hid (hashed leaf i n [] = none) := hashed_none leaf i n (by omega)
      clear ih hL hP hPs hleaf
      go_enter Tryz.func103, Tryz.ntmps103
      go_wp2_with (at_builtin; fail)
      go_ret2
      refine ⟨(Below.refl _ _).alloc (Nat.le_refl _) _, ?_⟩
      rw [HN.out]
      exact ⟨_, rfl⟩
    obtain ⟨Q, z, rfl⟩ := snoc_of_ne hpe
    have hbd := half_bd n (by omega)
    have HH := Hid.mk' (spec_half n w (by omega) (by omega))
    have hpl := hashed_left leaf i n (Q ++ [z]) z (by omega) List.getLast?_concat
    have hpr := hashed_right leaf i n (Q ++ [z]) z (by omega) List.getLast?_concat
    rw [List.dropLast_concat] at hpl hpr
    obtain ⟨k, hk⟩ : ∃ k, half n = k := ⟨_, rfl⟩
    rw [hk] at hbd HH hpl hpr
    have hz2 := hPs z (by simp)
    have hQ : ∀ s ∈ Q, s.size ≤ 137438953472 := fun s hs => hPs s (by simp [hs])
    have hPQ : ∀ wx, Below w.heap.size w wx → SlS wx (some ⟨pb, po, none⟩) Q.length Q := fun wx hx => sls_front (hP.below hx)
    have hcz := sls_last hP
    have hlen : (Q ++ [z]).length = Q.length + 1 := by simp
    rw [hlen] at hP hpc ⊢
    have hqm := hP.2.1
    unfold maxLen at hqm
    have q1 : (Q.length : Int) ≤ (pcap : Int) := by omega
    have hrecL : ∀ (at_ mm : Nat), mm < n → at_ < mm → Calls Tryz.prog 103 #[.slice (some ⟨lg, 0, none⟩) ln lcap, .int .i64 (at_ : Int), .int .i64 (mm : Int), .slice (some ⟨pb, po, none⟩) Q.length pcap] w (HPost w (hashed leaf at_ mm Q)) :=
      fun at_ mm h1 h2 => ih mm (by omega) leaf lbase lg ln lcap at_ mm pb po pcap Q w rfl (by omega) hL hleaf (hPQ w (Below.refl _ _)) hQ (by omega) h2
    clear ih hP hL hPs hPQ hlen hk hpe
    by_cases hik : i < k
    · have hst := hpl hik
      have hiki : (i : Int) < (k : Int) := by omega
      have hrec := hrecL i k (by omega) hik
      clear hpl hpr hrecL
      cases hh : hashed leaf i k Q with
      | none =>
        have HN : Hid (hashed leaf i n (Q ++ [z]) = none) := by show _ = _; rw [hst, hh]; rfl
        rw [hh] at hrec
        have HR := Hid.mk' hrec
        clear hrec hh hst
        go_enter Tryz.func103, Tryz.ntmps103
        go_wp2_with (at_builtin; fail)
        refine HH.out.mono ?_
        rintro e w2 ⟨rfl, hw2⟩
        subst hw2
        go_wp2_with (at_builtin; fail)
        refine HR.out.mono ?_
        rintro e w5 ⟨hB5, v, rfl⟩
        go_wp2_with (at_builtin; fail)
        go_ret2
        exact ⟨hB5.alloc hB5.size _, by rw [HN.out]; exact ⟨_, rfl⟩⟩
      | some out =>
        obtain ⟨out', y, rfl⟩ := snoc_of_ne (hashed_ne _ _ _ _ _ hh)
        have HN : Hid (hashed leaf i n (Q ++ [z]) = some (out' ++ [y] ++ [⟨(nodeB (dg y.data.toList) z).toArray⟩])) := by
          show _ = _; rw [hst, hh]; simp
        have hsm := hashed_small leaf i k Q _ hh hleaf hQ
        have hol0 := hashed_len leaf i k Q _ hh
        have hy := hsm y (by simp)
        rw [hh] at hrec
        have HR := Hid.mk' hrec
        have hds := dg_size y.data.toList
        have hnb := nodeB_length (dg y.data.toList) z
        have hnb2 := nodeB_length z (dg y.data.toList)
        have HSM := Hid.mk' hsm
        clear hrec hh hst hsm
        go_enter Tryz.func103, Tryz.ntmps103
        go_wp2_with (at_builtin; fail)
        refine HH.out.mono ?_
        rintro e w2 ⟨rfl, hw2⟩
        subst hw2
        go_wp2_with (at_builtin; fail)
        refine HR.out.mono ?_
        rintro e w5 ⟨hB5, g5, n5, cp5, rfl, hO5⟩
        have hn5 := hO5.1
        have hn5' : n5 = out'.length + 1 := by simp at hn5; omega
        subst hn5'
        have hcy := hO5.at out'.length (by simp)
        simp only [List.getElem_concat_length] at hcy
        have hconv := Lib.run_convert_string_bytes (P := Tryz.prog) w5 9 22 5 y Tryz.underlying9 Tryz.underlying22 Tryz.underlying5
        have hBb := below_bytesWorld w5 5 y
        have HD := Hid.mk' (fun c => sha.spec_digest w5.heap.size 0 y.size c y.data.toList (Lib.bytesWorld w5 5 y) (sl_bts (bts_new w5 y) (by unfold maxLen; omega)) (by omega))
        have hol : out'.length ≤ 100 := by simp at hol0; omega
        have HB5 := Hid.mk' hB5
        have HO5 := Hid.mk' hO5
        clear hB5 hO5 hn5
        go_wp2_with (at_builtin; fail)
        refine (HD.out _).mono ?_
        rintro e w6 ⟨rfl, hb6⟩
        have hB6 : Below w5.heap.size w5 w6 := hBb.trans (hb6.mono hBb.size)
        have hO6 := HO5.out.below hB6
        have hB6' := HB5.out.trans (hB6.mono HB5.out.size)
        have hdd : (⟨(sha.digest y.data.toList).toArray⟩ : ByteArray) = dg y.data.toList := rfl
        rw [hdd]
        have HL := Hid.mk' (fun wx => spec_l4Node (dg y.data.toList) z wx (by omega) hz2)
        generalize dg y.data.toList = d at *
        clear hconv hBb HD hb6 hB6 HO5 HB5 hcy
        go_wp2_with (at_builtin; fail)
        refine (HL.out _).mono ?_
        rintro e w7 ⟨g7, n7, cp7, rfl, hO7, hb7⟩
        have hcv := conv_own hO7
        have hnds : (⟨(nodeB d z).toArray⟩ : ByteArray).size ≤ maxLen := by rw [arr_size, nodeB_length]; unfold maxLen; omega
        obtain ⟨nd, hnd⟩ : ∃ nd, (⟨(nodeB d z).toArray⟩ : ByteArray) = nd := ⟨_, rfl⟩
        rw [hnd] at hcv hnds HN
        clear hnd
        have hO8 := hO6.below hb7
        have hB7 := hB6'.trans (hb7.mono hB6'.size)
        have hs7 := hB7.size
        clear hO6 hB6' hb7 hO7 HL
        have hc3 : out'.length + 1 + 1 ≤ maxLen := by unfold maxLen; omega
        have hc4 : (out'.length + 1 + 1) * 16 ≤ 140737488355328 := by omega
        go_wp2_with (at_builtin; refine wpList_append_own _ rfl (.tmp 74) (.tmp 79) 59 rfl w2.heap.size 9 i0 (.string ⟨#[]⟩) 1 16 Tryz.underlying59 hi hz0 hz1 hz2' rfl (by decide) _ _ _ rfl (hO8.2.2.alloc _) ⟨w7.heap.size, 0, none⟩ 1 1 [.string nd] rfl rfl (cell_one_new _ _ _) (str_oneCell _) hc3 hc4 (le_alloc _ _ hs7) ?_)
        intro v9 w9 hown hgrow hnn
        have hnn' : ¬ v9 = .slice none 0 0 := by simpa using hnn
        obtain ⟨g9, cap9, hv, hO9⟩ := ownS_val (ss := out' ++ [y] ++ [nd]) (n := out'.length + 1 + 1) (by simp) (fun s hs => by
          rcases List.mem_append.1 hs with h1 | h1
          · exact hO8.2.1 s h1
          · rw [List.mem_singleton.1 h1]; exact hnds) hnn' (by simpa [strVals] using hown)
        subst hv
        have hB9 : Below w2.heap.size w2 w9 := (hB7.alloc hs7 _).grown hgrow (le_alloc _ _ hs7) (fun k e => by simp [Value.ownBlock] at e; have := hO8.lt; omega)
        have HO9 := Hid.mk' hO9
        clear hown hgrow hnn hnn' hO9 hO8 hB7
        go_wp2_with (at_builtin; fail)
        go_ret2
        exact ⟨hB9, by rw [HN.out]; exact ⟨g9, _, cap9, rfl, HO9.out⟩⟩
    · have hst := hpr hik
      have hiki : ¬ (i : Int) < (k : Int) := by omega
      obtain ⟨j, hj⟩ : ∃ j, i - k = j := ⟨_, rfl⟩
      obtain ⟨r, hr⟩ : ∃ r, n - k = r := ⟨_, rfl⟩
      rw [hj, hr] at hst
      have hji : (i : Int) - (k : Int) = (j : Int) := by omega
      have hri : (n : Int) - (k : Int) = (r : Int) := by omega
      have hrec := hrecL j r (by omega) (by omega)
      clear hpl hpr hrecL hj hr
      cases hh : hashed leaf j r Q with
      | none =>
        have HN : Hid (hashed leaf i n (Q ++ [z]) = none) := by show _ = _; rw [hst, hh]; rfl
        rw [hh] at hrec
        have HR := Hid.mk' hrec
        clear hrec hh hst
        go_enter Tryz.func103, Tryz.ntmps103
        go_wp2_with (at_builtin; fail)
        refine HH.out.mono ?_
        rintro e w2 ⟨rfl, hw2⟩
        subst hw2
        go_wp2_with (at_builtin; fail)
        refine HR.out.mono ?_
        rintro e w5 ⟨hB5, v, rfl⟩
        go_wp2_with (at_builtin; fail)
        go_ret2
        exact ⟨hB5.alloc hB5.size _, by rw [HN.out]; exact ⟨_, rfl⟩⟩
      | some out =>
        obtain ⟨out', y, rfl⟩ := snoc_of_ne (hashed_ne _ _ _ _ _ hh)
        have HN : Hid (hashed leaf i n (Q ++ [z]) = some (out' ++ [y] ++ [⟨(nodeB z (dg y.data.toList)).toArray⟩])) := by
          show _ = _; rw [hst, hh]; simp
        have hsm := hashed_small leaf j r Q _ hh hleaf hQ
        have hol0 := hashed_len leaf j r Q _ hh
        have hy := hsm y (by simp)
        rw [hh] at hrec
        have HR := Hid.mk' hrec
        have hds := dg_size y.data.toList
        have hnb := nodeB_length (dg y.data.toList) z
        have hnb2 := nodeB_length z (dg y.data.toList)
        have HSM := Hid.mk' hsm
        clear hrec hh hst hsm
        go_enter Tryz.func103, Tryz.ntmps103
        go_wp2_with (at_builtin; fail)
        refine HH.out.mono ?_
        rintro e w2 ⟨rfl, hw2⟩
        subst hw2
        go_wp2_with (at_builtin; fail)
        refine HR.out.mono ?_
        rintro e w5 ⟨hB5, g5, n5, cp5, rfl, hO5⟩
        have hn5 := hO5.1
        have hn5' : n5 = out'.length + 1 := by simp at hn5; omega
        subst hn5'
        have hcy := hO5.at out'.length (by simp)
        simp only [List.getElem_concat_length] at hcy
        have hconv := Lib.run_convert_string_bytes (P := Tryz.prog) w5 9 22 5 y Tryz.underlying9 Tryz.underlying22 Tryz.underlying5
        have hBb := below_bytesWorld w5 5 y
        have HD := Hid.mk' (fun c => sha.spec_digest w5.heap.size 0 y.size c y.data.toList (Lib.bytesWorld w5 5 y) (sl_bts (bts_new w5 y) (by unfold maxLen; omega)) (by omega))
        have hol : out'.length ≤ 100 := by simp at hol0; omega
        have HB5 := Hid.mk' hB5
        have HO5 := Hid.mk' hO5
        clear hB5 hO5 hn5
        go_wp2_with (at_builtin; fail)
        refine (HD.out _).mono ?_
        rintro e w6 ⟨rfl, hb6⟩
        have hB6 : Below w5.heap.size w5 w6 := hBb.trans (hb6.mono hBb.size)
        have hO6 := HO5.out.below hB6
        have hB6' := HB5.out.trans (hB6.mono HB5.out.size)
        have hdd : (⟨(sha.digest y.data.toList).toArray⟩ : ByteArray) = dg y.data.toList := rfl
        rw [hdd]
        have HL := Hid.mk' (fun wx => spec_l4Node z (dg y.data.toList) wx hz2 (by omega))
        generalize dg y.data.toList = d at *
        clear hconv hBb HD hb6 hB6 HO5 HB5 hcy
        go_wp2_with (at_builtin; fail)
        refine (HL.out _).mono ?_
        rintro e w7 ⟨g7, n7, cp7, rfl, hO7, hb7⟩
        have hcv := conv_own hO7
        have hnds : (⟨(nodeB z d).toArray⟩ : ByteArray).size ≤ maxLen := by rw [arr_size, nodeB_length]; unfold maxLen; omega
        obtain ⟨nd, hnd⟩ : ∃ nd, (⟨(nodeB z d).toArray⟩ : ByteArray) = nd := ⟨_, rfl⟩
        rw [hnd] at hcv hnds HN
        clear hnd
        have hO8 := hO6.below hb7
        have hB7 := hB6'.trans (hb7.mono hB6'.size)
        have hs7 := hB7.size
        clear hO6 hB6' hb7 hO7 HL
        have hc3 : out'.length + 1 + 1 ≤ maxLen := by unfold maxLen; omega
        have hc4 : (out'.length + 1 + 1) * 16 ≤ 140737488355328 := by omega
        go_wp2_with (at_builtin; refine wpList_append_own _ rfl (.tmp 81) (.tmp 86) 59 rfl w2.heap.size 9 i0 (.string ⟨#[]⟩) 1 16 Tryz.underlying59 hi hz0 hz1 hz2' rfl (by decide) _ _ _ rfl (hO8.2.2.alloc _) ⟨w7.heap.size, 0, none⟩ 1 1 [.string nd] rfl rfl (cell_one_new _ _ _) (str_oneCell _) hc3 hc4 (le_alloc _ _ hs7) ?_)
        intro v9 w9 hown hgrow hnn
        have hnn' : ¬ v9 = .slice none 0 0 := by simpa using hnn
        obtain ⟨g9, cap9, hv, hO9⟩ := ownS_val (ss := out' ++ [y] ++ [nd]) (n := out'.length + 1 + 1) (by simp) (fun s hs => by
          rcases List.mem_append.1 hs with h1 | h1
          · exact hO8.2.1 s h1
          · rw [List.mem_singleton.1 h1]; exact hnds) hnn' (by simpa [strVals] using hown)
        subst hv
        have hB9 : Below w2.heap.size w2 w9 := (hB7.alloc hs7 _).grown hgrow (le_alloc _ _ hs7) (fun k e => by simp [Value.ownBlock] at e; have := hO8.lt; omega)
        have HO9 := Hid.mk' hO9
        clear hown hgrow hnn hnn' hO9 hO8 hB7
        go_wp2_with (at_builtin; fail)
        go_ret2
        exact ⟨hB9, by rw [HN.out]; exact ⟨g9, _, cap9, rfl, HO9.out⟩⟩

end Go.Proofs.YtdebbgodhpcijaaGreatDoor.tree

namespace Go.Proofs.YtdebbgodhpcijaaGreatDoor.tree
open Go Go.RowKit Go.Proofs.YtdebbgodhpcijaaGreatDoor.base Go.Proofs.YtdebbgodhpcijaaGreatDoor.pairs Go.Proofs.YtdebbgodhpcijaaGreatDoor.puttext Go.Proofs.YtdebbgodhpcijaaGreatDoor.putnum
set_option linter.unusedVariables false
set_option linter.unusedSimpArgs false

/-- all that is hashed on the way from a leaf to a root -/
def allOf (leaf : List UInt8) (i n : Nat) (p : List ByteArray) : Option (List ByteArray) :=
  (hashed leaf i n p).map fun out => out ++ [⟨(topB (n : Int) (dg (out.getLastD ⟨#[]⟩).data.toList)).toArray⟩]

set_option maxRecDepth 100000 in
set_option maxHeartbeats 2000000 in
theorem spec_l4All (leaf : List UInt8) (lbase lg ln lcap i n pb po pcap : Nat) (P : List ByteArray) (w : World) (h60 : n ≤ 60) (hL : Own w lbase lg ln lcap leaf) (hleaf : leaf.length ≤ 137438953472) (hP : SlS w (some ⟨pb, po, none⟩) P.length P) (hPs : ∀ s ∈ P, s.size ≤ 137438953472) (hpc : P.length ≤ pcap) (hin : i < n) :
    Calls Tryz.prog 93 #[.slice (some ⟨lg, 0, none⟩) ln lcap, .int .i64 (i : Int), .int .i64 (n : Int), .slice (some ⟨pb, po, none⟩) P.length pcap] w (HPost w (allOf leaf i n P)) := by
  obtain ⟨i0, hi, hz0, hz1, hz2'⟩ := info_parts info9
  have hrec := spec_l4Hashed n leaf lbase lg ln lcap i n pb po pcap P w rfl h60 hL hleaf hP hPs hpc hin
  cases hh : hashed leaf i n P with
  | none =>
    have HN : Hid (allOf leaf i n P = none) := by show _ = _; unfold allOf; rw [hh]; rfl
    rw [hh] at hrec
    have HR := Hid.mk' hrec
    clear hrec hh hL hP hPs
    go_enter Tryz.func93, Tryz.ntmps93
    go_wp2_with (at_builtin; fail)
    refine HR.out.mono ?_
    rintro e w5 ⟨hB5, v, rfl⟩
    go_wp2_with (at_builtin; fail)
    go_ret2
    exact ⟨hB5.alloc hB5.size _, by rw [HN.out]; exact ⟨_, rfl⟩⟩
  | some out =>
    obtain ⟨out', y, rfl⟩ := snoc_of_ne (hashed_ne _ _ _ _ _ hh)
    have HN : Hid (allOf leaf i n P = some (out' ++ [y] ++ [⟨(topB (n : Int) (dg y.data.toList)).toArray⟩])) := by show _ = _; unfold allOf; rw [hh]; simp
    have hsm := hashed_small leaf i n P _ hh hleaf hPs
    have hol0 := hashed_len leaf i n P _ hh
    have hol : out'.length ≤ 100 := by simp at hol0; omega
    have hy := hsm y (by simp)
    rw [hh] at hrec
    have HR := Hid.mk' hrec
    have hds := dg_size y.data.toList
    have htl := topB_length (n : Int) (dg y.data.toList)
    clear hrec hh hsm hL hP hPs hol0
    go_enter Tryz.func93, Tryz.ntmps93
    go_wp2_with (at_builtin; fail)
    refine HR.out.mono ?_
    rintro e w5 ⟨hB5, g5, n5, cp5, rfl, hO5⟩
    have hn5 := hO5.1
    have hn5' : n5 = out'.length + 1 := by simp at hn5; omega
    subst hn5'
    have hcy := hO5.at out'.length (by simp)
    simp only [List.getElem_concat_length] at hcy
    have hconv := Lib.run_convert_string_bytes (P := Tryz.prog) w5 9 22 5 y Tryz.underlying9 Tryz.underlying22 Tryz.underlying5
    have hBb := below_bytesWorld w5 5 y
    have HD := Hid.mk' (fun c => sha.spec_digest w5.heap.size 0 y.size c y.data.toList (Lib.bytesWorld w5 5 y) (sl_bts (bts_new w5 y) (by unfold maxLen; omega)) (by omega))
    have HB5 := Hid.mk' hB5
    have HO5 := Hid.mk' hO5
    clear hB5 hO5 hn5
    go_wp2_with (at_builtin; fail)
    refine (HD.out _).mono ?_
    rintro e w6 ⟨rfl, hb6⟩
    have hB6 : Below w5.heap.size w5 w6 := hBb.trans (hb6.mono hBb.size)
    have hO6 := HO5.out.below hB6
    have hB6' := HB5.out.trans (hB6.mono HB5.out.size)
    have hdd : (⟨(sha.digest y.data.toList).toArray⟩ : ByteArray) = dg y.data.toList := rfl
    rw [hdd]
    have HL := Hid.mk' (fun wx => spec_l4Top (n : Int) (dg y.data.toList) wx (WalkArith.wf_i64 (by omega)) (by omega))
    generalize dg y.data.toList = d at *
    clear hconv hBb HD hb6 hB6 HO5 HB5 hcy
    go_wp2_with (at_builtin; fail)
    refine (HL.out _).mono ?_
    rintro e w7 ⟨g7, n7, cp7, rfl, hO7, hb7⟩
    have hcv := conv_own hO7
    have hnds : (⟨(topB (n : Int) d).toArray⟩ : ByteArray).size ≤ maxLen := by rw [arr_size]; unfold maxLen; omega
    obtain ⟨nd, hnd⟩ : ∃ nd, (⟨(topB (n : Int) d).toArray⟩ : ByteArray) = nd := ⟨_, rfl⟩
    rw [hnd] at hcv hnds HN
    clear hnd
    have hO8 := hO6.below hb7
    have hB7 := hB6'.trans (hb7.mono hB6'.size)
    have hs7 := hB7.size
    clear hO6 hB6' hb7 hO7 HL htl
    have hc3 : out'.length + 1 + 1 ≤ maxLen := by unfold maxLen; omega
    have hc4 : (out'.length + 1 + 1) * 16 ≤ 140737488355328 := by omega
    go_wp2_with (at_builtin; refine wpList_append_own _ rfl (.tmp 23) (.tmp 35) 59 rfl w.heap.size 9 i0 (.string ⟨#[]⟩) 1 16 Tryz.underlying59 hi hz0 hz1 hz2' rfl (by decide) _ _ _ rfl (hO8.2.2.alloc _) ⟨w7.heap.size, 0, none⟩ 1 1 [.string nd] rfl rfl (cell_one_new _ _ _) (str_oneCell _) hc3 hc4 (le_alloc _ _ hs7) ?_)
    intro v9 w9 hown hgrow hnn
    have hnn' : ¬ v9 = .slice none 0 0 := by simpa using hnn
    obtain ⟨g9, cap9, hv, hO9⟩ := ownS_val (ss := out' ++ [y] ++ [nd]) (n := out'.length + 1 + 1) (by simp) (fun s hs => by
      rcases List.mem_append.1 hs with h1 | h1
      · exact hO8.2.1 s h1
      · rw [List.mem_singleton.1 h1]; exact hnds) hnn' (by simpa [strVals] using hown)
    subst hv
    have hB9 : Below w.heap.size w w9 := (hB7.alloc hs7 _).grown hgrow (le_alloc _ _ hs7) (fun k e => by simp [Value.ownBlock] at e; have := hO8.lt; omega)
    have HO9 := Hid.mk' hO9
    clear hown hgrow hnn hnn' hO9 hO8 hB7
    go_wp2_with (at_builtin; fail)
    go_ret2
    exact ⟨hB9, by rw [HN.out]; exact ⟨g9, _, cap9, rfl, HO9.out⟩⟩

theorem check_none {p : Pr} {i n : Nat} {P : List ByteArray} {root : ByteArray} (h : hashed (leafB p) i n P = none) : checkPath p i n P root = false := by
  unfold checkPath leafOf; rw [climb_hashed, h]; rfl
theorem check_some {p : Pr} {i n : Nat} {P : List ByteArray} {root : ByteArray} {out : List ByteArray} {y : ByteArray} (h : hashed (leafB p) i n P = some (out ++ [y])) : checkPath p i n P root = decide (dg (topB (n : Int) (dg y.data.toList)) = root) := by
  unfold checkPath leafOf; rw [climb_hashed, h]; simp

set_option maxRecDepth 100000 in
set_option maxHeartbeats 2000000 in
theorem spec_checkPath (p : Pr) (I N : Int) (pb po pcap : Nat) (P : List ByteArray) (root : ByteArray) (w : World) (hp : lim p) (hP : SlS w (some ⟨pb, po, none⟩) P.length P) (hPs : ∀ s ∈ P, s.size ≤ 137438953472) (hpc : P.length ≤ pcap) :
    Calls Tryz.prog 67 #[.agg #[.string p.1, .string p.2], .int .i64 I, .int .i64 N, .slice (some ⟨pb, po, none⟩) P.length pcap, .string root] w fun e w' => e = .returned (.bool (checkPathI p I N P root)) ∧ Below w.heap.size w w' := by
  have hp1 := hp.1
  have hp2 := hp.2
  have hlen := leafB_length p
  obtain ⟨w0, hw0⟩ : ∃ w0, w0 = w.alloc (.cells #[.string p.1, .string p.2] 49) := ⟨_, rfl⟩
  have hba : Below w.heap.size w w0 := by rw [hw0]; exact (Below.refl _ _).alloc (Nat.le_refl _) _
  have hc1 : w0.cell? ⟨w.heap.size, 0, none⟩ = some (.string p.1) := by rw [hw0]; simp
  have hc2 : w0.cell? ⟨w.heap.size, 1, none⟩ = some (.string p.2) := by rw [hw0]; simp
  by_cases hN : 1 ≤ N ∧ N ≤ 60
  · have h1 := fun wx => s_inI N 1 60 wx
    rw [decide_eq_true hN] at h1
    obtain ⟨n, hn⟩ : ∃ n : Nat, N = (n : Int) := ⟨N.toNat, by omega⟩
    subst hn
    by_cases hI : 0 ≤ I ∧ I ≤ (n : Int) - 1
    · have h2 := fun wx => s_inI I 0 ((n : Int) - 1) wx
      rw [decide_eq_true hI] at h2
      obtain ⟨i, hi⟩ : ∃ i : Nat, I = (i : Int) := ⟨I.toNat, by omega⟩
      subst hi
      have H1 := Hid.mk' h1
      have H2 := Hid.mk' h2
      have HCI : Hid (checkPathI p (i : Int) (n : Int) P root = checkPath p i n P root) := by
        show _ = _; unfold checkPathI; rw [decide_eq_true hN, decide_eq_true hI, Int.toNat_natCast, Int.toNat_natCast]; rfl
      have hn60 : n ≤ 60 := by omega
      have hin : i < n := by omega
      clear h1 h2 hN hI
      go_enter Tryz.func67, Tryz.ntmps67
      go_wp2_with fail
      rw [← hw0]
      clear hw0
      refine (H1.out _).mono ?_
      rintro e w1 ⟨rfl, hw1⟩
      subst hw1
      go_wp2_with fail
      refine (H2.out _).mono ?_
      rintro e w1 ⟨rfl, hw1⟩
      subst hw1
      have HL := Hid.mk' (spec_l4Leaf p w1 hp)
      clear H1 H2
      go_wp2_with fail
      refine HL.out.mono ?_
      rintro e w2 ⟨lg, ln, lcap, rfl, hL, hb2⟩
      have hB2 := hba.trans (hb2.mono hba.size)
      have hA := spec_l4All (leafB p) _ lg ln lcap i n pb po pcap P w2 hn60 hL (by omega) (hP.below hB2) hPs hpc hin
      unfold allOf at hA
      clear hc1 hc2 HL hL hb2 hba
      cases hh : hashed (leafB p) i n P with
      | none =>
        have HC : Hid (checkPathI p (i : Int) (n : Int) P root = false) := by show _ = _; rw [HCI.out, check_none hh]
        rw [hh] at hA
        have HA := Hid.mk' hA
        clear hA hh HCI
        go_wp2_with fail
        refine HA.out.mono ?_
        rintro e w3 ⟨hb3, v, rfl⟩
        have hB3 := hB2.trans (hb3.mono hB2.size)
        go_wp2_with fail
        go_ret
        exact ⟨ret_bool (by rw [HC.out]), hB3⟩
      | some out =>
        have hsm := hashed_small (leafB p) i n P _ hh (by omega) hPs
        have hol0 := hashed_len (leafB p) i n P _ hh
        obtain ⟨out', y, rfl⟩ := snoc_of_ne (hashed_ne _ _ _ _ _ hh)
        have HC : Hid (checkPathI p (i : Int) (n : Int) P root = decide (dg (topB (n : Int) (dg y.data.toList)) = root)) := by show _ = _; rw [HCI.out, check_some hh]
        rw [hh] at hA
        simp only [Option.map_some, List.getLastD_concat] at hA
        have htl := topB_length (n : Int) (dg y.data.toList)
        have hds := dg_size y.data.toList
        generalize topB (n : Int) (dg y.data.toList) = tb at *
        obtain ⟨nd, hnd⟩ : ∃ nd, (⟨tb.toArray⟩ : ByteArray) = nd := ⟨_, rfl⟩
        have hnl : nd.data.toList = tb := by rw [← hnd]
        have hnz : nd.size ≤ 100 := by rw [← hnd, arr_size]; omega
        rw [hnd] at hA
        have HA := Hid.mk' hA
        have HNL := Hid.mk' hnl
        have hol : out'.length ≤ 100 := by simp at hol0; omega
        clear hA hh HCI hsm hol0 hnd hnl htl
        go_wp2_with fail
        refine HA.out.mono ?_
        rintro e w3 ⟨hb3, g5, n5, cp5, rfl, hO5⟩
        have hB3 := hB2.trans (hb3.mono hB2.size)
        have hn5 := hO5.1
        have hn5' : n5 = out'.length + 2 := by simp at hn5; omega
        subst hn5'
        have hcy := hO5.at (out'.length + 1) (by simp)
        have hge : (out' ++ [y] ++ [nd])[out'.length + 1]'(by simp) = nd := by
          rw [List.getElem_append_right (by simp)]; simp
        rw [hge] at hcy
        have hconv := Lib.run_convert_string_bytes (P := Tryz.prog) w3 9 22 5 nd Tryz.underlying9 Tryz.underlying22 Tryz.underlying5
        have hBb := below_bytesWorld w3 5 nd
        have hD := fun c => sha.spec_digest w3.heap.size 0 nd.size c nd.data.toList (Lib.bytesWorld w3 5 nd) (sl_bts (bts_new w3 nd) (by unfold maxLen; omega)) (by omega)
        rw [HNL.out] at hD
        have HD := Hid.mk' hD
        have q1 : ((out'.length + 2 : Nat) : Int) - 1 = ((out'.length + 1 : Nat) : Int) := by omega
        clear hO5 hn5 hge hb3 hD
        go_wp2_with fail
        refine (HD.out _).mono ?_
        rintro e w4 ⟨rfl, hb4⟩
        have hB4 : Below w3.heap.size w3 w4 := hBb.trans (hb4.mono hBb.size)
        have hB4' := hB3.trans (hB4.mono hB3.size)
        have hdd : (⟨(sha.digest tb).toArray⟩ : ByteArray) = dg tb := rfl
        rw [hdd]
        generalize dg tb = d at *
        clear hconv hBb HD hb4 hB4 hcy
        by_cases he : d = root
        · subst he
          go_wp2_with fail
          go_ret
          exact ⟨ret_bool (by rw [HC.out]; simp), hB4'⟩
        · have hq : (d.toList == root.toList) = false := by
            rw [beq_eq_false_iff_ne]; intro e; rw [ByteArray.toList_eq, ByteArray.toList_eq] at e; exact he (bytes_ext e)
          have HE : Hid (¬ d = root) := he
          clear he
          go_wp2_with fail
          go_ret
          exact ⟨ret_bool (by rw [HC.out, decide_eq_false HE.out]), hB4'⟩
    · have h2 := fun wx => s_inI I 0 ((n : Int) - 1) wx
      rw [decide_eq_false hI] at h2
      have H1 := Hid.mk' h1
      have H2 := Hid.mk' h2
      have HC : Hid (checkPathI p I (n : Int) P root = false) := by show _ = _; unfold checkPathI; rw [decide_eq_false hI]; simp
      have hn60 : n ≤ 60 := by omega
      clear h1 h2 hN hI
      go_enter Tryz.func67, Tryz.ntmps67
      go_wp2_with fail
      rw [← hw0]
      clear hw0
      refine (H1.out _).mono ?_
      rintro e w1 ⟨rfl, hw1⟩
      subst hw1
      go_wp2_with fail
      refine (H2.out _).mono ?_
      rintro e w1 ⟨rfl, hw1⟩
      subst hw1
      go_wp2_with fail
      go_ret
      exact ⟨ret_bool (by rw [HC.out]), hba⟩
  · have h1 := fun wx => s_inI N 1 60 wx
    rw [decide_eq_false hN] at h1
    have H1 := Hid.mk' h1
    have HC : Hid (checkPathI p I N P root = false) := by show _ = _; unfold checkPathI; rw [decide_eq_false hN]; simp
    clear h1 hN
    go_enter Tryz.func67, Tryz.ntmps67
    go_wp2_with fail
    rw [← hw0]
    clear hw0
    refine (H1.out _).mono ?_
    rintro e w1 ⟨rfl, hw1⟩
    subst hw1
    go_wp2_with fail
    go_ret
    exact ⟨ret_bool (by rw [HC.out]), hba⟩

end Go.Proofs.YtdebbgodhpcijaaGreatDoor.tree
