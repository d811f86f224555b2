/- Plain mathematics of trees: digests of pairs, the way from a leaf up. -/
import Derived.Test.YtmdhkoiimffmlaaDoorShaMath
import Derived.Test.YtmdhkoiimffmlaaDoorPutText
import Derived.Test.YtmdhkoiimffmlaaDoorPairMath
namespace Go.Proofs.YtmdhkoiimffmlaaDoor.tree
open Go Go.Proofs.YtmdhkoiimffmlaaDoor.base Go.Proofs.YtmdhkoiimffmlaaDoor.pairs Go.Proofs.YtmdhkoiimffmlaaDoor.puttext Go.Proofs.YtmdhkoiimffmlaaDoor.putnum
set_option linter.unusedVariables false

def dg (bs : List UInt8) : ByteArray := ⟨(sha.digest bs).toArray⟩
theorem dg_size (bs : List UInt8) : (dg bs).size = 32 := by
  show (sha.digest bs).toArray.size = 32
  rw [List.size_toArray]; exact sha.digest_length bs
def leafB (p : Pr) : List UInt8 := [0] ++ textBytes p.1 ++ textBytes p.2
def nodeB (a b : ByteArray) : List UInt8 := [1] ++ a.data.toList ++ b.data.toList
def topB (n : Int) (x : ByteArray) : List UInt8 := [2] ++ numBytes n ++ x.data.toList
def leafOf (p : Pr) : ByteArray := dg (leafB p)
def nodeOf (a b : ByteArray) : ByteArray := dg (nodeB a b)
theorem leafB_length (p : Pr) : (leafB p).length ≤ p.1.size + p.2.size + 11 := by
  have h1 := textBytes_length p.1
  have h2 := textBytes_length p.2
  simp [leafB]; omega
theorem nodeB_length (a b : ByteArray) : (nodeB a b).length = a.size + b.size + 1 := by simp [nodeB]
theorem topB_length (n : Int) (x : ByteArray) : (topB n x).length ≤ x.size + 6 := by
  have h1 := numBytes_length n
  simp [topB]; omega

/-! ### halves -/
/-- the greatest power of 2 that is less than n, for n from 2 to 64 -/
def half (n : Nat) : Nat := if n ≤ 2 then 1 else if n ≤ 4 then 2 else if n ≤ 8 then 4 else if n ≤ 16 then 8 else if n ≤ 32 then 16 else 32
theorem half_bd (n : Nat) (h : 2 ≤ n) : 1 ≤ half n ∧ half n < n := by
  unfold half
  split
  · omega
  · split
    · omega
    · split
      · omega
      · split
        · omega
        · split <;> omega
theorem half_eq (n k : Nat) (h : 2 ≤ n) (h64 : n ≤ 64) (hk : k = 1 ∨ k = 2 ∨ k = 4 ∨ k = 8 ∨ k = 16 ∨ k = 32) (h1 : k < n) (h2 : n ≤ 2 * k) : k = half n := by
  unfold half
  split
  · omega
  · split
    · omega
    · split
      · omega
      · split
        · omega
        · split <;> omega

/-! ### functions that call themselves, by how many calls are left -/
def runs {σ τ : Type} (base : σ → τ) (step : (σ → τ) → σ → τ) : Nat → σ → τ
  | 0, s => base s
  | k + 1, s => step (runs base step k) s
theorem runs_same {σ τ : Type} (base : σ → τ) (step : (σ → τ) → σ → τ) (m : σ → Nat) (hs : ∀ f g s, (∀ t, m t < m s → f t = g t) → step f s = step g s) (k : Nat) : ∀ j s, m s < k → m s < j → runs base step k s = runs base step j s := by
  induction k with
  | zero => intro j s h; omega
  | succ k ih =>
    intro j s h1 h2
    cases j with
    | zero => omega
    | succ j => exact hs _ _ s fun t ht => ih j t (by omega) (by omega)
theorem runs_eq {σ τ : Type} (base : σ → τ) (step : (σ → τ) → σ → τ) (m : σ → Nat) (hs : ∀ f g s, (∀ t, m t < m s → f t = g t) → step f s = step g s) (s : σ) : runs base step (m s + 1) s = step (fun t => runs base step (m t + 1) t) s :=
  hs _ _ s fun t ht => runs_same base step m hs (m s) (m t + 1) t ht (by omega)

/-! ### the inner digest -/
def innerS (f : List Pr → ByteArray) (l : List Pr) : ByteArray :=
  if l.length < 2 then (match l with | [] => dg [] | p :: _ => leafOf p)
  else nodeOf (f (l.take (half l.length))) (f (l.drop (half l.length)))
def inner (l : List Pr) : ByteArray := runs (fun _ => dg []) innerS (l.length + 1) l
theorem inner_eq (l : List Pr) : inner l = if l.length < 2 then (match l with | [] => dg [] | p :: _ => leafOf p) else nodeOf (inner (l.take (half l.length))) (inner (l.drop (half l.length))) :=
  runs_eq (fun _ => dg []) innerS List.length (fun f g s h => by
    unfold innerS
    by_cases hn : s.length < 2
    · rw [if_pos hn, if_pos hn]
    · have hb := half_bd s.length (by omega)
      rw [if_neg hn, if_neg hn, h (s.take (half s.length)) (by simp; omega), h (s.drop (half s.length)) (by simp; omega)]) l
theorem inner_nil : inner [] = dg [] := by rw [inner_eq]; simp
theorem inner_one (p : Pr) : inner [p] = leafOf p := by rw [inner_eq]; simp
theorem inner_step (l : List Pr) (h : 2 ≤ l.length) : inner l = nodeOf (inner (l.take (half l.length))) (inner (l.drop (half l.length))) := by
  rw [inner_eq, if_neg (by omega)]
theorem inner_size (l : List Pr) : (inner l).size = 32 := by
  rw [inner_eq]
  split
  · split
    · exact dg_size _
    · exact dg_size _
  · exact dg_size _
def rootOf (l : List Pr) : ByteArray := dg (topB (l.length : Int) (inner l))

/-! ### paths -/
def pathS (f : List Pr × Nat → List ByteArray) (s : List Pr × Nat) : List ByteArray :=
  if s.1.length < 2 then []
  else if s.2 < half s.1.length then f (s.1.take (half s.1.length), s.2) ++ [inner (s.1.drop (half s.1.length))]
  else f (s.1.drop (half s.1.length), s.2 - half s.1.length) ++ [inner (s.1.take (half s.1.length))]
def path (l : List Pr) (i : Nat) : List ByteArray := runs (fun _ => []) pathS (l.length + 1) (l, i)
theorem path_eq (l : List Pr) (i : Nat) : path l i = if l.length < 2 then []
    else if i < half l.length then path (l.take (half l.length)) i ++ [inner (l.drop (half l.length))]
    else path (l.drop (half l.length)) (i - half l.length) ++ [inner (l.take (half l.length))] :=
  runs_eq (fun _ => []) pathS (fun s => s.1.length) (fun f g s h => by
    unfold pathS
    by_cases hn : s.1.length < 2
    · rw [if_pos hn, if_pos hn]
    · have hb := half_bd s.1.length (by omega)
      rw [if_neg hn, if_neg hn, h (s.1.take (half s.1.length), s.2) (by simp; omega), h (s.1.drop (half s.1.length), s.2 - half s.1.length) (by simp; omega)]) (l, i)
theorem path_low (l : List Pr) (i : Nat) (h : l.length < 2) : path l i = [] := by rw [path_eq, if_pos h]
theorem path_left (l : List Pr) (i : Nat) (h : 2 ≤ l.length) (hi : i < half l.length) : path l i = path (l.take (half l.length)) i ++ [inner (l.drop (half l.length))] := by
  rw [path_eq, if_neg (by omega), if_pos hi]
theorem path_right (l : List Pr) (i : Nat) (h : 2 ≤ l.length) (hi : ¬ i < half l.length) : path l i = path (l.drop (half l.length)) (i - half l.length) ++ [inner (l.take (half l.length))] := by
  rw [path_eq, if_neg (by omega), if_neg hi]
/-- how many steps it is from place i of n up -/
def depthS (f : Nat × Nat → Nat) (s : Nat × Nat) : Nat :=
  if s.2 < 2 then 0
  else if s.1 < half s.2 then f (s.1, half s.2) + 1
  else f (s.1 - half s.2, s.2 - half s.2) + 1
def depth (i n : Nat) : Nat := runs (fun _ => 0) depthS (n + 1) (i, n)
theorem depth_eq (i n : Nat) : depth i n = if n < 2 then 0 else if i < half n then depth i (half n) + 1 else depth (i - half n) (n - half n) + 1 :=
  runs_eq (fun _ => 0) depthS (fun s => s.2) (fun f g s h => by
    unfold depthS
    by_cases hn : s.2 < 2
    · rw [if_pos hn, if_pos hn]
    · have hb := half_bd s.2 (by omega)
      rw [if_neg hn, if_neg hn, h (s.1, half s.2) hb.2, h (s.1 - half s.2, s.2 - half s.2) (by show s.2 - half s.2 < s.2; omega)]) (i, n)
theorem depth_left (i n : Nat) (h : 2 ≤ n) (hi : i < half n) : depth i n = depth i (half n) + 1 := by rw [depth_eq, if_neg (by omega), if_pos hi]
theorem depth_right (i n : Nat) (h : 2 ≤ n) (hi : ¬ i < half n) : depth i n = depth (i - half n) (n - half n) + 1 := by rw [depth_eq, if_neg (by omega), if_neg hi]
theorem path_length (l : List Pr) (i : Nat) : (path l i).length = depth i l.length := by
  induction hn : l.length using Nat.strongRecOn generalizing l i with
  | _ n ih =>
    by_cases h : n < 2
    · rw [path_low l i (by omega), depth_eq, if_pos h]; rfl
    · have hb := half_bd n (by omega)
      by_cases hi : i < half n
      · rw [path_left l i (by omega) (by rw [hn]; exact hi), depth_eq, if_neg h, if_pos hi, List.length_append, hn, ih (half n) hb.2 (l.take (half n)) i (by simp; omega)]; rfl
      · rw [path_right l i (by omega) (by rw [hn]; exact hi), depth_eq, if_neg h, if_neg hi, List.length_append, hn, ih (n - half n) (by omega) (l.drop (half n)) (i - half n) (by simp; omega)]; rfl
theorem path_small (l : List Pr) (i : Nat) : ∀ s ∈ path l i, s.size = 32 := by
  induction hn : l.length using Nat.strongRecOn generalizing l i with
  | _ n ih =>
    by_cases h : n < 2
    · rw [path_low l i (by omega)]; intro s hs; exact absurd hs List.not_mem_nil
    · have hb := half_bd n (by omega)
      intro s hs
      by_cases hi : i < half n
      · rw [path_left l i (by omega) (by rw [hn]; exact hi), hn] at hs
        rcases List.mem_append.1 hs with h1 | h1
        · exact ih (half n) hb.2 _ i (by simp; omega) s h1
        · rw [List.mem_singleton.1 h1]; exact inner_size _
      · rw [path_right l i (by omega) (by rw [hn]; exact hi), hn] at hs
        rcases List.mem_append.1 hs with h1 | h1
        · exact ih (n - half n) (by omega) _ _ (by simp; omega) s h1
        · rw [List.mem_singleton.1 h1]; exact inner_size _
theorem depth_le (i n : Nat) : depth i n ≤ n := by
  induction n using Nat.strongRecOn generalizing i with
  | _ n ih =>
    rw [depth_eq]
    split
    · omega
    · rename_i h
      have hb := half_bd n (by omega)
      split
      · have := ih (half n) hb.2 i; omega
      · have := ih (n - half n) (by omega) (i - half n); omega

/-! ### what is hashed on the way up -/
def hashedS (leaf : List UInt8) (f : Nat × Nat × List ByteArray → Option (List ByteArray)) (s : Nat × Nat × List ByteArray) : Option (List ByteArray) :=
  if s.2.1 < 2 then (if s.2.2 = [] then some [⟨leaf.toArray⟩] else none)
  else match s.2.2.getLast? with
    | none => none
    | some last =>
      if s.1 < half s.2.1 then (f (s.1, half s.2.1, s.2.2.dropLast)).map fun out => out ++ [⟨(nodeB (dg (out.getLastD ⟨#[]⟩).data.toList) last).toArray⟩]
      else (f (s.1 - half s.2.1, s.2.1 - half s.2.1, s.2.2.dropLast)).map fun out => out ++ [⟨(nodeB last (dg (out.getLastD ⟨#[]⟩).data.toList)).toArray⟩]
def hashed (leaf : List UInt8) (i n : Nat) (path : List ByteArray) : Option (List ByteArray) := runs (fun _ => none) (hashedS leaf) (n + 1) (i, n, path)
theorem hashed_eq (leaf : List UInt8) (i n : Nat) (path : List ByteArray) : hashed leaf i n path = if n < 2 then (if path = [] then some [⟨leaf.toArray⟩] else none)
    else match path.getLast? with
      | none => none
      | some last =>
        if i < half n then (hashed leaf i (half n) path.dropLast).map fun out => out ++ [⟨(nodeB (dg (out.getLastD ⟨#[]⟩).data.toList) last).toArray⟩]
        else (hashed leaf (i - half n) (n - half n) path.dropLast).map fun out => out ++ [⟨(nodeB last (dg (out.getLastD ⟨#[]⟩).data.toList)).toArray⟩] :=
  runs_eq (fun _ => none) (hashedS leaf) (fun s => s.2.1) (fun f g s h => by
    unfold hashedS
    by_cases hn : s.2.1 < 2
    · rw [if_pos hn, if_pos hn]
    · have hb := half_bd s.2.1 (by omega)
      rw [if_neg hn, if_neg hn, h (s.1, half s.2.1, s.2.2.dropLast) hb.2, h (s.1 - half s.2.1, s.2.1 - half s.2.1, s.2.2.dropLast) (by show s.2.1 - half s.2.1 < s.2.1; omega)]) (i, n, path)
theorem hashed_low (leaf : List UInt8) (i n : Nat) (p : List ByteArray) (h : n < 2) : hashed leaf i n p = if p = [] then some [⟨leaf.toArray⟩] else none := by
  rw [hashed_eq, if_pos h]
theorem hashed_none (leaf : List UInt8) (i n : Nat) (h : 2 ≤ n) : hashed leaf i n [] = none := by
  rw [hashed_eq, if_neg (by omega)]; rfl
theorem hashed_left (leaf : List UInt8) (i n : Nat) (p : List ByteArray) (last : ByteArray) (h : 2 ≤ n) (hp : p.getLast? = some last) (hi : i < half n) :
    hashed leaf i n p = (hashed leaf i (half n) p.dropLast).map fun out => out ++ [⟨(nodeB (dg (out.getLastD ⟨#[]⟩).data.toList) last).toArray⟩] := by
  rw [hashed_eq, if_neg (by omega), hp]; simp only [if_pos hi]
theorem hashed_right (leaf : List UInt8) (i n : Nat) (p : List ByteArray) (last : ByteArray) (h : 2 ≤ n) (hp : p.getLast? = some last) (hi : ¬ i < half n) :
    hashed leaf i n p = (hashed leaf (i - half n) (n - half n) p.dropLast).map fun out => out ++ [⟨(nodeB last (dg (out.getLastD ⟨#[]⟩).data.toList)).toArray⟩] := by
  rw [hashed_eq, if_neg (by omega), hp]; simp only [if_neg hi]
/-- the digest that the way up comes to -/
def climbS (x : ByteArray) (f : Nat × Nat × List ByteArray → Option ByteArray) (s : Nat × Nat × List ByteArray) : Option ByteArray :=
  if s.2.1 < 2 then (if s.2.2 = [] then some x else none)
  else match s.2.2.getLast? with
    | none => none
    | some last =>
      if s.1 < half s.2.1 then (f (s.1, half s.2.1, s.2.2.dropLast)).map fun t => nodeOf t last
      else (f (s.1 - half s.2.1, s.2.1 - half s.2.1, s.2.2.dropLast)).map fun t => nodeOf last t
def climb (x : ByteArray) (i n : Nat) (path : List ByteArray) : Option ByteArray := runs (fun _ => none) (climbS x) (n + 1) (i, n, path)
theorem climb_eq (x : ByteArray) (i n : Nat) (path : List ByteArray) : climb x i n path = if n < 2 then (if path = [] then some x else none)
    else match path.getLast? with
      | none => none
      | some last =>
        if i < half n then (climb x i (half n) path.dropLast).map fun t => nodeOf t last
        else (climb x (i - half n) (n - half n) path.dropLast).map fun t => nodeOf last t :=
  runs_eq (fun _ => none) (climbS x) (fun s => s.2.1) (fun f g s h => by
    unfold climbS
    by_cases hn : s.2.1 < 2
    · rw [if_pos hn, if_pos hn]
    · have hb := half_bd s.2.1 (by omega)
      rw [if_neg hn, if_neg hn, h (s.1, half s.2.1, s.2.2.dropLast) hb.2, h (s.1 - half s.2.1, s.2.1 - half s.2.1, s.2.2.dropLast) (by show s.2.1 - half s.2.1 < s.2.1; omega)]) (i, n, path)
theorem climb_low (x : ByteArray) (i n : Nat) (p : List ByteArray) (h : n < 2) : climb x i n p = if p = [] then some x else none := by
  rw [climb_eq, if_pos h]
theorem climb_none (x : ByteArray) (i n : Nat) (h : 2 ≤ n) : climb x i n [] = none := by
  rw [climb_eq, if_neg (by omega)]; rfl
theorem climb_left (x : ByteArray) (i n : Nat) (p : List ByteArray) (last : ByteArray) (h : 2 ≤ n) (hp : p.getLast? = some last) (hi : i < half n) :
    climb x i n p = (climb x i (half n) p.dropLast).map fun t => nodeOf t last := by
  rw [climb_eq, if_neg (by omega), hp]; simp only [if_pos hi]
theorem climb_right (x : ByteArray) (i n : Nat) (p : List ByteArray) (last : ByteArray) (h : 2 ≤ n) (hp : p.getLast? = some last) (hi : ¬ i < half n) :
    climb x i n p = (climb x (i - half n) (n - half n) p.dropLast).map fun t => nodeOf last t := by
  rw [climb_eq, if_neg (by omega), hp]; simp only [if_neg hi]
theorem hashed_ne (leaf : List UInt8) (i n : Nat) (p out : List ByteArray) (h : hashed leaf i n p = some out) : out ≠ [] := by
  rw [hashed_eq] at h
  split at h
  · split at h
    · cases h; simp
    · cases h
  · split at h
    · cases h
    · split at h
      · obtain ⟨o, _, rfl⟩ := Option.map_eq_some_iff.1 h; simp
      · obtain ⟨o, _, rfl⟩ := Option.map_eq_some_iff.1 h; simp
theorem climb_hashed (leaf : List UInt8) (i n : Nat) (p : List ByteArray) : climb (dg leaf) i n p = (hashed leaf i n p).map fun out => dg (out.getLastD ⟨#[]⟩).data.toList := by
  induction n using Nat.strongRecOn generalizing i p with
  | _ n ih =>
    by_cases h : n < 2
    · rw [climb_low _ _ _ _ h, hashed_low _ _ _ _ h]
      split
      · simp
      · rfl
    · have hb := half_bd n (by omega)
      cases hp : p.getLast? with
      | none =>
        have : p = [] := List.getLast?_eq_none_iff.1 hp
        subst this
        rw [climb_none _ _ _ (by omega), hashed_none _ _ _ (by omega)]; rfl
      | some last =>
        by_cases hi : i < half n
        · rw [climb_left _ _ _ _ _ (by omega) hp hi, hashed_left _ _ _ _ _ (by omega) hp hi, ih _ hb.2, Option.map_map, Option.map_map]
          congr 1; funext out; simp [nodeOf]
        · rw [climb_right _ _ _ _ _ (by omega) hp hi, hashed_right _ _ _ _ _ (by omega) hp hi, ih _ (by omega), Option.map_map, Option.map_map]
          congr 1; funext out; simp [nodeOf]
/-- whether p is told to be the i-th of n -/
def checkPath (p : Pr) (i n : Nat) (path : List ByteArray) (root : ByteArray) : Bool :=
  match climb (leafOf p) i n path with
  | none => false
  | some t => decide (dg (topB (n : Int) t) = root)
/-- at any numbers -/
def checkPathI (p : Pr) (i n : Int) (path : List ByteArray) (root : ByteArray) : Bool :=
  decide (1 ≤ n ∧ n ≤ 60) && decide (0 ≤ i ∧ i ≤ n - 1) && checkPath p i.toNat n.toNat path root
def pathI (l : List Pr) (i : Int) : List ByteArray := if l.length ≤ 60 ∧ 0 ≤ i ∧ i ≤ (l.length : Int) - 1 then path l i.toNat else []
def innerI (l : List Pr) : ByteArray := if l.length ≤ 60 then inner l else ⟨#[]⟩
def rootI (l : List Pr) : ByteArray := if l.length ≤ 60 then rootOf l else ⟨#[]⟩

/-! ### what the laws need -/
theorem climb_length (x : ByteArray) (i n : Nat) (p : List ByteArray) : (climb x i n p).isSome = decide (p.length = depth i n) := by
  induction n using Nat.strongRecOn generalizing i p with
  | _ n ih =>
    by_cases h : n < 2
    · rw [climb_low _ _ _ _ h, depth_eq, if_pos h]
      cases p <;> simp
    · have hb := half_bd n (by omega)
      cases hp : p.getLast? with
      | none =>
        have : p = [] := List.getLast?_eq_none_iff.1 hp
        subst this
        rw [climb_none _ _ _ (by omega), depth_eq, if_neg h]
        split <;> simp
      | some last =>
        have hne : p ≠ [] := by rintro rfl; cases hp
        have hl : p.length = p.dropLast.length + 1 := by
          have := List.length_pos_iff.2 hne
          simp; omega
        by_cases hi : i < half n
        · rw [climb_left _ _ _ _ _ (by omega) hp hi, Option.isSome_map, ih _ hb.2, depth_left _ _ (by omega) hi, hl, decide_eq_decide]; omega
        · rw [climb_right _ _ _ _ _ (by omega) hp hi, Option.isSome_map, ih _ (by omega), depth_right _ _ (by omega) hi, hl, decide_eq_decide]; omega
theorem climb_path (l : List Pr) (i : Nat) (hi : i < l.length) : climb (leafOf l[i]) i l.length (path l i) = some (inner l) := by
  induction hn : l.length using Nat.strongRecOn generalizing l i with
  | _ n ih =>
    by_cases h : n < 2
    · rw [climb_low _ _ _ _ h, path_low l i (by omega), if_pos rfl]
      match l, hi, hn with
      | [p], hi, hn =>
        have : i = 0 := by simp at hi; omega
        subst this
        rw [inner_one]; rfl
      | p :: q :: r, hi, hn => simp at hn; omega
    · have hb := half_bd n (by omega)
      have hst := inner_step l (by omega)
      by_cases hlt : i < half n
      · have hpl := path_left l i (by omega) (by rw [hn]; exact hlt)
        have hlast : (path l i).getLast? = some (inner (l.drop (half l.length))) := by rw [hpl, List.getLast?_concat]
        rw [climb_left _ _ _ _ _ (by omega) hlast hlt, hpl, List.dropLast_concat, hst, hn]
        have hk := ih (half n) hb.2 (l.take (half n)) i (by simp; omega) (by simp; omega)
        rw [List.getElem_take] at hk
        rw [hk]; rfl
      · have hpr := path_right l i (by omega) (by rw [hn]; exact hlt)
        have hlast : (path l i).getLast? = some (inner (l.take (half l.length))) := by rw [hpr, List.getLast?_concat]
        rw [climb_right _ _ _ _ _ (by omega) hlast hlt, hpr, List.dropLast_concat, hst, hn]
        have hk := ih (n - half n) (by omega) (l.drop (half n)) (i - half n) (by simp; omega) (by simp; omega)
        simp only [List.getElem_drop, show half n + (i - half n) = i by omega] at hk
        rw [hk]; rfl

end Go.Proofs.YtmdhkoiimffmlaaDoor.tree
