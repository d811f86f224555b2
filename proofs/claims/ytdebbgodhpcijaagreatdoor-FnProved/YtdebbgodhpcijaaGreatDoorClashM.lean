/- Plain mathematics of proofs of all between. Plain mathematics of clashes: what it would take to lie. Plain mathematics: what is checked against a root is all that is between, or there is a clash. Plain mathematics: the step at which two ways part. -/
import Derived.Test.YtdebbgodhpcijaaGreatDoorTreeQ
import Derived.Test.YtdebbgodhpcijaaGreatDoorKitB
import Derived.Test.YtdebbgodhpcijaaGreatDoorTreeR
namespace Go.Proofs.YtdebbgodhpcijaaGreatDoor.range
open Go Go.Proofs.YtdebbgodhpcijaaGreatDoor.base Go.Proofs.YtdebbgodhpcijaaGreatDoor.pairs Go.Proofs.YtdebbgodhpcijaaGreatDoor.tree
set_option linter.unusedVariables false
set_option linter.unusedSimpArgs false

/-- an item: a pair and its path -/
abbrev It := Pr × List ByteArray
/-- a proof: of how many pairs, from which place on, its items -/
structure Prf where
  n : Int
  fr : Int
  items : List It

/-! ### proving -/
/-- how many lie ahead of all that is not below lo -/
def lowN (lo : ByteArray) (l : List Pr) : Nat := (l.takeWhile fun p => ltB p.1 lo).length
/-- how many are between from there on, in a row -/
def segN (lo hi : ByteArray) (l : List Pr) : Nat := ((l.drop (lowN lo l)).takeWhile fun p => inB lo hi p.1).length
def fromN (lo : ByteArray) (l : List Pr) : Nat := lowN lo l - 1
def toN (lo hi : ByteArray) (l : List Pr) : Nat := if lowN lo l + segN lo hi l < l.length then lowN lo l + segN lo hi l + 1 else lowN lo l + segN lo hi l
def itemAt (l : List Pr) (i : Nat) : It := ((l[i]?).getD (⟨#[]⟩, ⟨#[]⟩), path l i)
def itemsTo (l : List Pr) (a b : Nat) : List It := (List.range' a (b - a)).map (itemAt l)
def zeroPrf : Prf := ⟨0, 0, []⟩
def prove (l : List Pr) (lo hi : ByteArray) : Prf :=
  if pairsOk l = true then ⟨(l.length : Int), if fromN lo l < toN lo hi l then (fromN lo l : Int) else 0, itemsTo l (fromN lo l) (toN lo hi l)⟩ else zeroPrf

theorem takeWhile_le (f : Pr → Bool) (l : List Pr) : (l.takeWhile f).length ≤ l.length := (List.takeWhile_sublist f).length_le
theorem lowN_le (lo : ByteArray) (l : List Pr) : lowN lo l ≤ l.length := takeWhile_le _ l
theorem segN_le (lo hi : ByteArray) (l : List Pr) : lowN lo l + segN lo hi l ≤ l.length := by
  have h1 := takeWhile_le (fun p => inB lo hi p.1) (l.drop (lowN lo l))
  have h2 := lowN_le lo l
  unfold segN; rw [List.length_drop] at h1; omega
theorem toN_le (lo hi : ByteArray) (l : List Pr) : toN lo hi l ≤ l.length := by
  have := segN_le lo hi l
  unfold toN; split <;> omega
theorem itemsTo_length (l : List Pr) (a b : Nat) : (itemsTo l a b).length = b - a := by simp [itemsTo]
theorem itemsTo_snoc (l : List Pr) (a b : Nat) (h : a ≤ b) : itemsTo l a (b + 1) = itemsTo l a b ++ [itemAt l b] := by
  unfold itemsTo
  rw [show b + 1 - a = (b - a) + 1 by omega, List.range'_concat, List.map_append]
  simp [show a + (b - a) = b by omega]
theorem itemsTo_nil (l : List Pr) (a b : Nat) (h : b ≤ a) : itemsTo l a b = [] := by
  unfold itemsTo; rw [show b - a = 0 by omega]; rfl
/-- a step of counting on while f holds -/
theorem takeWhile_at (f : Pr → Bool) (l : List Pr) (k : Nat) (h : k < l.length) (hk : k ≤ (l.takeWhile f).length) : (k < (l.takeWhile f).length ↔ f l[k] = true) := by
  induction l generalizing k with
  | nil => simp at h
  | cons p l ih =>
    by_cases hp : f p = true
    · rw [List.takeWhile_cons_of_pos hp] at hk ⊢
      cases k with
      | zero => simp [hp]
      | succ k => simp at hk h ⊢; exact ih k h hk
    · rw [List.takeWhile_cons_of_neg hp] at hk ⊢
      simp at hk
      subst hk
      simp [hp]

/-! ### what is between is the row from there on -/
theorem filter_eq_takeWhile {f : Pr → Bool} {l : List Pr} (h : l.Pairwise fun p q => f q = true → f p = true) : l.filter f = l.takeWhile f := by
  induction l with
  | nil => rfl
  | cons p l ih =>
    obtain ⟨h1, h2⟩ := List.pairwise_cons.1 h
    by_cases hp : f p = true
    · rw [List.filter_cons_of_pos hp, List.takeWhile_cons_of_pos hp, ih h2]
    · rw [List.filter_cons_of_neg hp, List.takeWhile_cons_of_neg hp, List.filter_eq_nil_iff]
      intro q hq hf
      exact hp (h1 q hq hf)
theorem inB_low {lo hi : ByteArray} {p : Pr} (h : ltB p.1 lo = true) : inB lo hi p.1 = false := by unfold inB; rw [h]; rfl
theorem takeWhile_mem {f : Pr → Bool} {l : List Pr} : ∀ p ∈ l.takeWhile f, f p = true := by
  induction l with
  | nil => intro p hp; exact absurd hp List.not_mem_nil
  | cons q l ih =>
    intro p hp
    by_cases hq : f q = true
    · rw [List.takeWhile_cons_of_pos hq] at hp
      rcases List.mem_cons.1 hp with e | e
      · subst e; exact hq
      · exact ih p e
    · rw [List.takeWhile_cons_of_neg hq] at hp
      exact absurd hp List.not_mem_nil
theorem between_seg (lo hi : ByteArray) (l : List Pr) (hr : Rise l) : between lo hi l = (l.drop (lowN lo l)).takeWhile fun p => inB lo hi p.1 := by
  have hsplit : l = l.takeWhile (fun p => ltB p.1 lo) ++ l.dropWhile (fun p => ltB p.1 lo) := (List.takeWhile_append_dropWhile).symm
  have hdrop : l.drop (lowN lo l) = l.dropWhile (fun p => ltB p.1 lo) := by
    unfold lowN
    conv => lhs; arg 2; rw [hsplit]
    rw [List.drop_left]
  rw [hdrop]
  unfold between
  conv => lhs; rw [hsplit]
  rw [List.filter_append, List.filter_eq_nil_iff.2 (fun p hp => by rw [inB_low (takeWhile_mem p hp)]; simp), List.nil_append]
  apply filter_eq_takeWhile
  have hr2 : Rise (l.dropWhile fun p => ltB p.1 lo) := List.Pairwise.sublist (List.dropWhile_sublist _) hr
  have hlo : ∀ p ∈ l.dropWhile (fun p => ltB p.1 lo), ltB p.1 lo = false := by
    cases hd : l.dropWhile (fun p => ltB p.1 lo) with
    | nil => intro p hp; exact absurd hp List.not_mem_nil
    | cons q t =>
      have hq : ltB q.1 lo = false := by
        have := List.head?_dropWhile_not (fun p : Pr => ltB p.1 lo) l
        rw [hd] at this
        simpa using this
      rw [hd] at hr2
      intro p hp
      rcases List.mem_cons.1 hp with e | e
      · subst e; exact hq
      · have hqp := (List.pairwise_cons.1 hr2).1 p e
        rw [Bool.eq_false_iff]
        intro hpl
        have := ltB_trans hqp hpl
        rw [hq] at this; cases this
  refine List.Pairwise.imp_of_mem ?_ hr2
  intro p q hp hq hpq hin
  unfold inB at hin ⊢
  rw [hlo p hp]
  rw [hlo q hq] at hin
  simp only [Bool.not_false, Bool.true_and, Bool.or_eq_true] at hin ⊢
  rcases hin with h1 | h1
  · exact .inl h1
  · exact .inr (ltB_trans hpq h1)
theorem between_count (lo hi : ByteArray) (l : List Pr) (hr : Rise l) : (between lo hi l).length = segN lo hi l := by rw [between_seg lo hi l hr]; rfl
/-- as many items as are between, and at most two more -/
theorem items_count (lo hi : ByteArray) (l : List Pr) (hr : Rise l) : (between lo hi l).length ≤ toN lo hi l - fromN lo l ∧ toN lo hi l - fromN lo l ≤ (between lo hi l).length + 2 := by
  rw [between_count lo hi l hr]
  have := segN_le lo hi l
  unfold toN fromN
  split <;> omega

/-! ### checking -/
/-- whether the k-th item is the one of its place, behind the one ahead -/
def itemOkAt (root : ByteArray) (f : Prf) (k : Nat) : Bool :=
  match f.items[k]? with
  | none => false
  | some x => pairOk x.1 && checkPathI x.1 (f.fr + (k : Int)) f.n x.2 root && (match k with | 0 => true | j + 1 => (match f.items[j]? with | none => false | some y => ltB y.1.1 x.1.1))
def keysOf (items : List It) : List Pr := items.map (·.1)
def firstKey (items : List It) : ByteArray := match items.head? with | none => ⟨#[]⟩ | some x => x.1.1
def lastKey (items : List It) : ByteArray := match items.getLast? with | none => ⟨#[]⟩ | some x => x.1.1
def endsBad (lo hi : ByteArray) (f : Prf) : Prop := (ltB (firstKey f.items) lo = false ∧ 0 < f.fr) ∨ ((hi.size = 0 ∨ ltB (lastKey f.items) hi = true) ∧ f.fr + (f.items.length : Int) < f.n)
def endsDec (lo hi : ByteArray) (f : Prf) : Decidable (endsBad lo hi f) := by unfold endsBad; infer_instance
def check (root lo hi : ByteArray) (f : Prf) : Option (List Pr) :=
  if f.n = 0 then (if f.items = [] ∧ f.fr = 0 ∧ root = rootOf [] then some [] else none)
  else if ¬ (1 ≤ f.n ∧ f.n ≤ 60) ∨ f.items = [] ∨ ¬ (0 ≤ f.fr ∧ f.fr ≤ f.n - 1) then none
  else if ((List.range f.items.length).all (itemOkAt root f)) = false then none
  else @ite _ (endsBad lo hi f) (endsDec lo hi f) none (some (between lo hi (keysOf f.items)))
theorem all_range_false {n k : Nat} {f : Nat → Bool} (hk : k < n) (hf : f k = false) : (List.range n).all f = false := by
  rw [List.all_eq_false]
  exact ⟨k, List.mem_range.2 hk, by rw [hf]; simp⟩
theorem all_range_true {n : Nat} {f : Nat → Bool} (hf : ∀ k, k < n → f k = true) : (List.range n).all f = true := by
  rw [List.all_eq_true]
  exact fun k hk => hf k (List.mem_range.1 hk)
theorem itemOk_zero (root : ByteArray) (f : Prf) (h : 0 < f.items.length) : itemOkAt root f 0 = (pairOk f.items[0].1 && checkPathI f.items[0].1 (f.fr + (0 : Nat)) f.n f.items[0].2 root) := by
  unfold itemOkAt; rw [List.getElem?_eq_getElem h]; simp
theorem itemOk_succ (root : ByteArray) (f : Prf) (j : Nat) (h : j + 1 < f.items.length) : itemOkAt root f (j + 1) = (pairOk f.items[j + 1].1 && checkPathI f.items[j + 1].1 (f.fr + ((j + 1 : Nat) : Int)) f.n f.items[j + 1].2 root && ltB (f.items[j]'(by omega)).1.1 f.items[j + 1].1.1) := by
  have h2 : j < f.items.length := by omega
  unfold itemOkAt
  simp only [List.getElem?_eq_getElem h, List.getElem?_eq_getElem h2]

end Go.Proofs.YtdebbgodhpcijaaGreatDoor.range

namespace Go.Proofs.YtdebbgodhpcijaaGreatDoor.clash
open Go Go.Proofs.YtdebbgodhpcijaaGreatDoor.base Go.Proofs.YtdebbgodhpcijaaGreatDoor.pairs Go.Proofs.YtdebbgodhpcijaaGreatDoor.tree Go.Proofs.YtdebbgodhpcijaaGreatDoor.range Go.Proofs.YtdebbgodhpcijaaGreatDoor.puttext Go.Proofs.YtdebbgodhpcijaaGreatDoor.putnum
set_option linter.unusedVariables false
set_option linter.unusedSimpArgs false

/-- the digest of a text's bytes -/
def dgs (a : ByteArray) : ByteArray := dg a.data.toList
def isClash (a b : ByteArray) (k : Int) : Bool := decide (0 ≤ k ∧ k ≤ 32) && (decide (a ≠ b) && decide ((dgs a).data.toList.take k.toNat = (dgs b).data.toList.take k.toNat))
theorem dgs_length (a : ByteArray) : (dgs a).data.toList.length = 32 := by
  have := dg_size a.data.toList
  have h2 : (dg a.data.toList).data.toList.length = (dg a.data.toList).size := by simp
  unfold dgs; omega
theorem isClash_32 (a b : ByteArray) : isClash a b 32 = (decide (a ≠ b) && decide (dgs a = dgs b)) := by
  unfold isClash
  have h1 := dgs_length a
  have h2 := dgs_length b
  rw [show ((32 : Int)).toNat = 32 from rfl, List.take_of_length_le (by omega), List.take_of_length_le (by omega), show decide ((0 : Int) ≤ 32 ∧ (32 : Int) ≤ 32) = true from rfl, Bool.true_and]
  congr 1
  rw [decide_eq_decide]
  exact ⟨fun h => bytes_ext h, fun h => by rw [h]⟩

/-- the first two at one place that clash -/
def firstClash : List ByteArray → List ByteArray → Option (ByteArray × ByteArray)
  | a :: m, b :: t => if isClash a b 32 = true then some (a, b) else firstClash m t
  | _, _ => none
def topOf (l : List Pr) : ByteArray := ⟨(topB (l.length : Int) (inner l)).toArray⟩
def lastOf (m : List ByteArray) : ByteArray := m.getLastD ⟨#[]⟩
def partAt (l : List Pr) (p : Pr) (i n : Int) (P : List ByteArray) : ByteArray × ByteArray × Bool :=
  if pairsOk l = true ∧ (1 ≤ n ∧ n ≤ 60) ∧ (0 ≤ i ∧ i ≤ n - 1) then
    match allOf (leafB p) i.toNat n.toNat P with
    | none => (⟨#[]⟩, ⟨#[]⟩, false)
    | some mine =>
      match (if l.length = n.toNat then firstClash mine ((allOf (leafB ((l[i.toNat]?).getD (⟨#[]⟩, ⟨#[]⟩))) i.toNat n.toNat (path l i.toNat)).getD []) else none) with
      | some (a, b) => (a, b, true)
      | none => (lastOf mine, topOf l, isClash (lastOf mine) (topOf l) 32)
  else (⟨#[]⟩, ⟨#[]⟩, false)
theorem firstClash_is : ∀ (m t : List ByteArray) {a b : ByteArray}, firstClash m t = some (a, b) → isClash a b 32 = true
  | [], _, _, _, h => by simp [firstClash] at h
  | _ :: _, [], _, _, h => by simp [firstClash] at h
  | x :: m, y :: t, a, b, h => by
    unfold firstClash at h
    split at h
    · rename_i hc; cases h; exact hc
    · exact firstClash_is m t h
theorem firstClash_none : ∀ (m t : List ByteArray), firstClash m t = none → ∀ k (h1 : k < m.length) (h2 : k < t.length), dgs m[k] = dgs t[k] → m[k] = t[k]
  | [], _, _, k, h1, _, _ => by simp at h1
  | _ :: _, [], _, k, _, h2, _ => by simp at h2
  | x :: m, y :: t, h, k, h1, h2, hd => by
    unfold firstClash at h
    split at h
    · cases h
    · rename_i hc
      cases k with
      | zero =>
        simp only [List.getElem_cons_zero] at hd ⊢
        rw [isClash_32] at hc
        by_cases e : x = y
        · exact e
        · rw [decide_eq_true (show x ≠ y from e), decide_eq_true hd] at hc
          exact absurd rfl hc
      | succ k =>
        simp only [List.getElem_cons_succ] at hd ⊢
        exact firstClash_none m t h k (by simpa using h1) (by simpa using h2) hd
/-- what clashes in k first bytes does in one less -/
theorem isClash_pred (a b : ByteArray) (k : Int) (h : isClash a b k = true) (h0 : ¬ k = 0) : isClash a b (k - 1) = true := by
  unfold isClash at h ⊢
  simp only [Bool.and_eq_true, decide_eq_true_eq] at h ⊢
  obtain ⟨h1, h2, h3⟩ := h
  refine ⟨by omega, h2, ?_⟩
  have e : (k - 1).toNat ≤ k.toNat := by omega
  have := congrArg (List.take (k - 1).toNat) h3
  rw [List.take_take, List.take_take, Nat.min_eq_left e] at this
  exact this
theorem isClash_comm (a b : ByteArray) (k : Int) : isClash a b k = isClash b a k := by
  unfold isClash
  rw [show decide (a ≠ b) = decide (b ≠ a) from decide_eq_decide.2 ne_comm, show decide ((dgs a).data.toList.take k.toNat = (dgs b).data.toList.take k.toNat) = decide ((dgs b).data.toList.take k.toNat = (dgs a).data.toList.take k.toNat) from decide_eq_decide.2 eq_comm]
theorem isClash_self (a : ByteArray) (k : Int) : isClash a a k = false := by
  unfold isClash; simp

/-! ### two ways up without a clash have one leaf -/
theorem ba_of_list {l : List UInt8} : (⟨l.toArray⟩ : ByteArray).data.toList = l := by simp
theorem ba_inj {l m : List UInt8} (h : (⟨l.toArray⟩ : ByteArray) = ⟨m.toArray⟩) : l = m := by
  have := congrArg (fun x : ByteArray => x.data.toList) h
  simpa using this
theorem nodeB_inj1 {a b x y : ByteArray} (h : nodeB a b = nodeB x y) (hs : a.size = x.size) : a = x ∧ b = y := by
  unfold nodeB at h
  simp only [List.cons_append, List.nil_append, List.append_assoc, List.cons.injEq, true_and] at h
  have hl : a.data.toList.length = x.data.toList.length := by simpa using hs
  obtain ⟨h1, h2⟩ := List.append_inj h hl
  exact ⟨bytes_ext h1, bytes_ext h2⟩
theorem nodeB_inj2 {a b x y : ByteArray} (h : nodeB a b = nodeB x y) (hs : b.size = y.size) : a = x ∧ b = y := by
  unfold nodeB at h
  simp only [List.cons_append, List.nil_append, List.append_assoc, List.cons.injEq, true_and] at h
  have hl : b.data.toList.length = y.data.toList.length := by simpa using hs
  obtain ⟨h1, h2⟩ := List.append_inj' h hl
  exact ⟨bytes_ext h1, bytes_ext h2⟩
theorem hashed_length (leaf : List UInt8) (i n : Nat) (P out : List ByteArray) (h : hashed leaf i n P = some out) : out.length = depth i n + 1 := by
  induction n using Nat.strongRecOn generalizing i P out with
  | _ n ih =>
    by_cases hn : n < 2
    · rw [hashed_low _ _ _ _ hn] at h
      split at h
      · cases h; rw [depth_eq, if_pos hn]; rfl
      · cases h
    · have hb := half_bd n (by omega)
      cases hp : P.getLast? with
      | none =>
        have : P = [] := List.getLast?_eq_none_iff.1 hp
        subst this
        rw [hashed_none _ _ _ (by omega)] at h; cases h
      | some last =>
        by_cases hi : i < half n
        · rw [hashed_left _ _ _ _ _ (by omega) hp hi] at h
          obtain ⟨o, ho, rfl⟩ := Option.map_eq_some_iff.1 h
          rw [List.length_append, ih _ hb.2 _ _ _ ho, depth_left i n (by omega) hi]; rfl
        · rw [hashed_right _ _ _ _ _ (by omega) hp hi] at h
          obtain ⟨o, ho, rfl⟩ := Option.map_eq_some_iff.1 h
          rw [List.length_append, ih _ (by omega) _ _ _ ho, depth_right i n (by omega) hi]; rfl
/-- no two at one place unlike and of one digest -/
def NoClash (m t : List ByteArray) : Prop := ∀ k (h1 : k < m.length) (h2 : k < t.length), dgs m[k] = dgs t[k] → m[k] = t[k]
theorem NoClash.init {m t : List ByteArray} {a b : ByteArray} (h : NoClash (m ++ [a]) (t ++ [b])) : NoClash m t := by
  intro k h1 h2 hd
  have := h k (by simp; omega) (by simp; omega)
  rw [List.getElem_append_left h1, List.getElem_append_left h2] at this
  exact this hd
theorem NoClash.last {m t : List ByteArray} {a b : ByteArray} (h : NoClash (m ++ [a]) (t ++ [b])) (hl : m.length = t.length) (hd : dgs a = dgs b) : a = b := by
  have := h m.length (by simp) (by simp; omega)
  rw [List.getElem_append_right (Nat.le_refl _), List.getElem_append_right (by omega)] at this
  simp [hl] at this
  exact this hd
theorem getLastD_snoc {m : List ByteArray} (h : m ≠ []) : ∃ q z, m = q ++ [z] ∧ m.getLastD ⟨#[]⟩ = z := by
  obtain ⟨q, z, e⟩ := snoc_of_ne h
  exact ⟨q, z, e, by rw [e, List.getLastD_concat]⟩
theorem leaf_same (lp lq : List UInt8) (i n : Nat) (P Q op oq : List ByteArray) (hp : hashed lp i n P = some op) (hq : hashed lq i n Q = some oq) (hc : NoClash op oq) (hd : dgs (op.getLastD ⟨#[]⟩) = dgs (oq.getLastD ⟨#[]⟩)) : lp = lq := by
  induction n using Nat.strongRecOn generalizing i P Q op oq with
  | _ n ih =>
    by_cases hn : n < 2
    · rw [hashed_low _ _ _ _ hn] at hp hq
      split at hp
      · cases hp
        split at hq
        · cases hq
          have := hc 0 (by simp) (by simp) (by simpa using hd)
          exact ba_inj (by simpa using this)
        · cases hq
      · cases hp
    · have hb := half_bd n (by omega)
      cases hlp : P.getLast? with
      | none =>
        have : P = [] := List.getLast?_eq_none_iff.1 hlp
        subst this
        rw [hashed_none _ _ _ (by omega)] at hp; cases hp
      | some zp =>
        cases hlq : Q.getLast? with
        | none =>
          have : Q = [] := List.getLast?_eq_none_iff.1 hlq
          subst this
          rw [hashed_none _ _ _ (by omega)] at hq; cases hq
        | some zq =>
          by_cases hi : i < half n
          · rw [hashed_left _ _ _ _ _ (by omega) hlp hi] at hp
            rw [hashed_left _ _ _ _ _ (by omega) hlq hi] at hq
            obtain ⟨o, ho, rfl⟩ := Option.map_eq_some_iff.1 hp
            obtain ⟨o', ho', rfl⟩ := Option.map_eq_some_iff.1 hq
            have hl : o.length = o'.length := by rw [hashed_length _ _ _ _ _ ho, hashed_length _ _ _ _ _ ho']
            rw [List.getLastD_concat, List.getLastD_concat] at hd
            have he := ba_inj (hc.last hl hd)
            have := (nodeB_inj1 he (by rw [dg_size, dg_size])).1
            exact ih _ hb.2 i _ _ o o' ho ho' hc.init this
          · rw [hashed_right _ _ _ _ _ (by omega) hlp hi] at hp
            rw [hashed_right _ _ _ _ _ (by omega) hlq hi] at hq
            obtain ⟨o, ho, rfl⟩ := Option.map_eq_some_iff.1 hp
            obtain ⟨o', ho', rfl⟩ := Option.map_eq_some_iff.1 hq
            have hl : o.length = o'.length := by rw [hashed_length _ _ _ _ _ ho, hashed_length _ _ _ _ _ ho']
            rw [List.getLastD_concat, List.getLastD_concat] at hd
            have he := ba_inj (hc.last hl hd)
            have := (nodeB_inj2 he (by rw [dg_size, dg_size])).2
            exact ih _ (by omega) (i - half n) _ _ o o' ho ho' hc.init this
end Go.Proofs.YtdebbgodhpcijaaGreatDoor.clash

namespace Go.Proofs.YtdebbgodhpcijaaGreatDoor.clash
open Go Go.Proofs.YtdebbgodhpcijaaGreatDoor.base Go.Proofs.YtdebbgodhpcijaaGreatDoor.pairs Go.Proofs.YtdebbgodhpcijaaGreatDoor.tree Go.Proofs.YtdebbgodhpcijaaGreatDoor.range Go.Proofs.YtdebbgodhpcijaaGreatDoor.puttext Go.Proofs.YtdebbgodhpcijaaGreatDoor.putnum
set_option linter.unusedVariables false
set_option linter.unusedSimpArgs false

/-! ### bytes that are written can be told apart -/
theorem byteN' (n : Nat) (h : n < 256) : (UInt8.ofNat n).toNat = n := by have := byte_of n; omega
theorem groups_inj (f n m : Nat) (r s : List UInt8) (hn : n < 128 ^ (f + 1)) (hm : m < 128 ^ (f + 1)) (h : groups f n ++ r = groups f m ++ s) : n = m ∧ r = s := by
  induction f generalizing n m with
  | zero =>
    simp only [groups, List.cons_append, List.nil_append, List.cons.injEq] at h
    have h1 := congrArg UInt8.toNat h.1
    rw [byteN' n (by omega), byteN' m (by omega)] at h1
    exact ⟨h1, h.2⟩
  | succ f ih =>
    have hp : 128 ^ (f + 1 + 1) = 128 * 128 ^ (f + 1) := by rw [Nat.pow_succ, Nat.mul_comm]
    by_cases hn1 : n < 128
    · by_cases hm1 : m < 128
      · rw [groups_low _ _ hn1, groups_low _ _ hm1] at h
        simp only [List.cons_append, List.nil_append, List.cons.injEq] at h
        have h1 := congrArg UInt8.toNat h.1
        rw [byteN' n (by omega), byteN' m (by omega)] at h1
        exact ⟨h1, h.2⟩
      · rw [groups_low _ _ hn1, groups_high _ _ (by omega)] at h
        simp only [List.cons_append, List.nil_append, List.cons.injEq] at h
        have h1 := congrArg UInt8.toNat h.1
        rw [byteN' n (by omega), byteN' _ (by omega)] at h1
        omega
    · by_cases hm1 : m < 128
      · rw [groups_low _ _ hm1, groups_high _ _ (by omega)] at h
        simp only [List.cons_append, List.nil_append, List.cons.injEq] at h
        have h1 := congrArg UInt8.toNat h.1
        rw [byteN' m (by omega), byteN' _ (by omega)] at h1
        omega
      · rw [groups_high _ _ (by omega), groups_high _ _ (by omega)] at h
        simp only [List.cons_append, List.cons.injEq] at h
        have h1 := congrArg UInt8.toNat h.1
        rw [byteN' _ (by omega), byteN' _ (by omega)] at h1
        have h2 := ih (n / 128) (m / 128) (Nat.div_lt_of_lt_mul (by omega)) (Nat.div_lt_of_lt_mul (by omega)) h.2
        exact ⟨by omega, h2.2⟩
theorem numBytes_inj (a b : Int) (r s : List UInt8) (h : numBytes a ++ r = numBytes b ++ s) : clamp a = clamp b ∧ r = s := by
  have h1 := clamp_le a
  have h2 := clamp_le b
  exact groups_inj 4 _ _ r s (by omega) (by omega) h
theorem clampN (n : Nat) (h : n ≤ 1000000000) : clamp (n : Int) = n := by unfold clamp; split <;> (try split) <;> omega
def fit (p : Pr) : Prop := p.1.size ≤ 1000000000 ∧ p.2.size ≤ 1000000000
theorem textBytes_inj (a b : ByteArray) (r s : List UInt8) (ha : a.size ≤ 1000000000) (hb : b.size ≤ 1000000000) (h : textBytes a ++ r = textBytes b ++ s) : a = b ∧ r = s := by
  unfold textBytes at h
  rw [List.append_assoc, List.append_assoc] at h
  obtain ⟨h1, h2⟩ := numBytes_inj _ _ _ _ h
  rw [clampN _ ha, clampN _ hb] at h1
  obtain ⟨h3, h4⟩ := List.append_inj h2 (by simpa using h1)
  exact ⟨bytes_ext h3, h4⟩
theorem leafB_inj (p q : Pr) (hp : fit p) (hq : fit q) (h : leafB p = leafB q) : p = q := by
  unfold leafB at h
  simp only [List.cons_append, List.nil_append, List.cons.injEq, true_and] at h
  obtain ⟨h1, h2⟩ := textBytes_inj _ _ _ _ hp.1 hq.1 h
  have h3 : textBytes p.2 ++ [] = textBytes q.2 ++ [] := by rw [List.append_nil, List.append_nil]; exact h2
  exact Prod.ext h1 (textBytes_inj _ _ _ _ hp.2 hq.2 h3).1
theorem topB_inj (n m : Nat) (x y : ByteArray) (hn : n ≤ 60) (hm : m ≤ 60) (h : topB (n : Int) x = topB (m : Int) y) : n = m ∧ x = y := by
  unfold topB at h
  simp only [List.cons_append, List.nil_append, List.cons.injEq, true_and] at h
  obtain ⟨h1, h2⟩ := numBytes_inj _ _ _ _ h
  rw [clampN _ (by omega), clampN _ (by omega)] at h1
  exact ⟨h1, bytes_ext h2⟩
theorem dgs_ba (l : List UInt8) : dgs ⟨l.toArray⟩ = dg l := by unfold dgs; rw [ba_of_list]
theorem topOf_dgs (l : List Pr) : dgs (topOf l) = rootOf l := by unfold topOf; rw [dgs_ba]; rfl
theorem fit_of {p : Pr} (h : pairOk p = true) : fit p := by
  unfold pairOk keyOk at h
  simp only [Bool.and_eq_true, decide_eq_true_eq] at h
  exact ⟨by omega, by omega⟩
theorem ok60 {l : List Pr} (h : pairsOk l = true) : l.length ≤ 60 := ((pairsOk_iff l).1 h).2
theorem okMem {l : List Pr} (h : pairsOk l = true) : ∀ p ∈ l, pairOk p = true := ((pairsOk_iff l).1 h).1.1
theorem okRise {l : List Pr} (h : pairsOk l = true) : Rise l := ((pairsOk_iff l).1 h).1.2

/-! ### the way of a pair that is there -/
theorem way_of (l : List Pr) (i : Nat) (hi : i < l.length) : ∃ o, hashed (leafB l[i]) i l.length (path l i) = some o ∧ dgs (o.getLastD ⟨#[]⟩) = inner l := by
  have h := climb_path l i hi
  unfold leafOf at h
  rw [climb_hashed] at h
  obtain ⟨o, h1, h2⟩ := Option.map_eq_some_iff.1 h
  exact ⟨o, h1, h2⟩
theorem allOf_some {leaf : List UInt8} {i n : Nat} {P o : List ByteArray} (h : hashed leaf i n P = some o) : allOf leaf i n P = some (o ++ [⟨(topB (n : Int) (dgs (o.getLastD ⟨#[]⟩))).toArray⟩]) := by
  unfold allOf; rw [h]; rfl
theorem lastOf_snoc (m : List ByteArray) (a : ByteArray) : lastOf (m ++ [a]) = a := by unfold lastOf; rw [List.getLastD_concat]
theorem checkPathI_iff {p : Pr} {i n : Int} {P : List ByteArray} {root : ByteArray} (h : checkPathI p i n P root = true) : (1 ≤ n ∧ n ≤ 60) ∧ (0 ≤ i ∧ i ≤ n - 1) ∧ ∃ o, hashed (leafB p) i.toNat n.toNat P = some o ∧ dg (topB n (dgs (o.getLastD ⟨#[]⟩))) = root := by
  unfold checkPathI at h
  simp only [Bool.and_eq_true, decide_eq_true_eq] at h
  obtain ⟨⟨h1, h2⟩, h3⟩ := h
  refine ⟨h1, h2, ?_⟩
  unfold checkPath leafOf at h3
  rw [climb_hashed] at h3
  cases ho : hashed (leafB p) i.toNat n.toNat P with
  | none => rw [ho] at h3; cases h3
  | some o =>
    rw [ho] at h3
    have h4 := of_decide_eq_true h3
    refine ⟨o, rfl, ?_⟩
    rw [show ((n.toNat : Nat) : Int) = n by omega] at h4
    exact h4
theorem checkPath_there (l : List Pr) (i : Nat) (hi : i < l.length) (h60 : l.length ≤ 60) : checkPathI l[i] (i : Int) (l.length : Int) (path l i) (rootOf l) = true := by
  unfold checkPathI checkPath
  rw [Int.toNat_natCast, Int.toNat_natCast, climb_path l i hi, decide_eq_true (by omega), decide_eq_true (by omega)]
  simp only [Bool.and_self, Bool.true_and]
  exact decide_eq_true rfl

/-- a pair that is taken to be at a place where it is not has a clash -/
theorem parted (l : List Pr) (p : Pr) (i n : Int) (P : List ByteArray) (hl : pairsOk l = true) (hp : fit p) (hc : checkPathI p i n P (rootOf l) = true) :
    (partAt l p i n P).2.2 = true ∨ (n = (l.length : Int) ∧ l[i.toNat]? = some p) := by
  obtain ⟨hn, hi, o, ho, hd⟩ := checkPathI_iff hc
  have h60 := ok60 hl
  have hnn : ((n.toNat : Nat) : Int) = n := by omega
  have hall := allOf_some ho
  rw [hnn] at hall
  unfold partAt
  rw [if_pos ⟨hl, hn, hi⟩, hall]
  simp only []
  cases hf : (if l.length = n.toNat then firstClash (o ++ [⟨(topB n (dgs (o.getLastD ⟨#[]⟩))).toArray⟩]) ((allOf (leafB ((l[i.toNat]?).getD (⟨#[]⟩, ⟨#[]⟩))) i.toNat n.toNat (path l i.toNat)).getD []) else none) with
  | some ab => obtain ⟨a, b⟩ := ab; exact .inl rfl
  | none =>
    simp only [lastOf_snoc]
    rw [isClash_32, dgs_ba (topB n (dgs (o.getLastD ⟨#[]⟩))), topOf_dgs, hd, decide_eq_true rfl, Bool.and_true]
    by_cases e : (⟨(topB n (dgs (o.getLastD ⟨#[]⟩))).toArray⟩ : ByteArray) = topOf l
    · right
      unfold topOf at e
      have e2 := ba_inj e
      rw [← hnn] at e2
      obtain ⟨e3, e4⟩ := topB_inj _ _ _ _ (by omega) h60 e2
      refine ⟨by omega, ?_⟩
      have hil : i.toNat < l.length := by omega
      obtain ⟨o', ho', hd'⟩ := way_of l i.toNat hil
      rw [← e3] at ho'
      rw [if_pos e3.symm, List.getElem?_eq_getElem hil, Option.getD_some, allOf_some ho', Option.getD_some] at hf
      have hnc : NoClash o o' := NoClash.init (firstClash_none _ _ hf)
      have hleaf := leaf_same _ _ _ _ _ _ _ _ ho ho' hnc (by rw [e4, hd'])
      rw [List.getElem?_eq_getElem hil, leafB_inj p _ hp (fit_of (okMem hl _ (List.getElem_mem hil))) hleaf]
    · left; exact decide_eq_true e
theorem partAt_is (l : List Pr) (p : Pr) (i n : Int) (P : List ByteArray) (h : (partAt l p i n P).2.2 = true) : isClash (partAt l p i n P).1 (partAt l p i n P).2.1 32 = true := by
  unfold partAt at h ⊢
  split at h
  · rename_i hc
    rw [if_pos hc]
    split at h
    · cases h
    · rename_i mine hm
      split at h
      · rename_i a b hf
        split at hf
        · exact firstClash_is _ _ hf
        · cases hf
      · exact h
  · cases h

/-! ### a root turns with a pair -/
theorem path_set (l : List Pr) (i : Nat) (q : Pr) : path (l.set i q) i = path l i := by
  induction hn : l.length using Nat.strongRecOn generalizing l i with
  | _ n ih =>
    by_cases h : n < 2
    · rw [path_low _ _ (by simp; omega), path_low _ _ (by omega)]
    · have hb := half_bd n (by omega)
      have hsl : (l.set i q).length = n := by simp [hn]
      by_cases hi : i < half n
      · rw [path_left _ _ (by omega) (by rw [hsl]; exact hi), path_left l _ (by omega) (by rw [hn]; exact hi), hsl, hn, List.take_set, List.drop_set_of_lt hi, ih (half n) hb.2 (l.take (half n)) i (by simp; omega)]
      · rw [path_right _ _ (by omega) (by rw [hsl]; exact hi), path_right l _ (by omega) (by rw [hn]; exact hi), hsl, hn, List.take_set_of_le (by omega), List.drop_set, if_neg hi, ih (n - half n) (by omega) (l.drop (half n)) (i - half n) (by simp; omega)]
/-- where two ways with the same others meet once they stay one -/
theorem meet_up (lp lq : List UInt8) (i n : Nat) (P op oq : List ByteArray) (hp : hashed lp i n P = some op) (hq : hashed lq i n P = some oq) (k : Nat) (h1 : k < op.length) (h2 : k < oq.length) (hd : dgs op[k] = dgs oq[k]) : dgs (op.getLastD ⟨#[]⟩) = dgs (oq.getLastD ⟨#[]⟩) := by
  induction n using Nat.strongRecOn generalizing i P op oq with
  | _ n ih =>
    by_cases hn : n < 2
    · rw [hashed_low _ _ _ _ hn] at hp hq
      by_cases hP : P = []
      · rw [if_pos hP] at hp hq
        cases hp
        cases hq
        have : k = 0 := by simpa using h1
        subst this
        simpa using hd
      · rw [if_neg hP] at hp; cases hp
    · have hb := half_bd n (by omega)
      cases hlp : P.getLast? with
      | none =>
        have : P = [] := List.getLast?_eq_none_iff.1 hlp
        subst this
        rw [hashed_none _ _ _ (by omega)] at hp; cases hp
      | some z =>
        by_cases hi : i < half n
        · rw [hashed_left _ _ _ _ _ (by omega) hlp hi] at hp hq
          obtain ⟨o, ho, rfl⟩ := Option.map_eq_some_iff.1 hp
          obtain ⟨o', ho', rfl⟩ := Option.map_eq_some_iff.1 hq
          have hl : o.length = o'.length := by rw [hashed_length _ _ _ _ _ ho, hashed_length _ _ _ _ _ ho']
          rw [List.getLastD_concat, List.getLastD_concat]
          by_cases hk : k < o.length
          · rw [List.getElem_append_left hk, List.getElem_append_left (by omega)] at hd
            have := ih _ hb.2 i _ o o' ho ho' hk (by omega) hd
            unfold dgs at this
            rw [this]
          · have e1 : k = o.length := by simp at h1; omega
            have e2 : k = o'.length := by omega
            rw [List.getElem_append_right (by omega), List.getElem_append_right (by omega)] at hd
            simpa using hd
        · rw [hashed_right _ _ _ _ _ (by omega) hlp hi] at hp hq
          obtain ⟨o, ho, rfl⟩ := Option.map_eq_some_iff.1 hp
          obtain ⟨o', ho', rfl⟩ := Option.map_eq_some_iff.1 hq
          have hl : o.length = o'.length := by rw [hashed_length _ _ _ _ _ ho, hashed_length _ _ _ _ _ ho']
          rw [List.getLastD_concat, List.getLastD_concat]
          by_cases hk : k < o.length
          · rw [List.getElem_append_left hk, List.getElem_append_left (by omega)] at hd
            have := ih _ (by omega) (i - half n) _ o o' ho ho' hk (by omega) hd
            unfold dgs at this
            rw [this]
          · have e1 : k = o.length := by simp at h1; omega
            have e2 : k = o'.length := by omega
            rw [List.getElem_append_right (by omega), List.getElem_append_right (by omega)] at hd
            simpa using hd
theorem firstClash_at : ∀ (m t : List ByteArray) {a b : ByteArray}, firstClash m t = some (a, b) → ∃ k, ∃ (h1 : k < m.length) (h2 : k < t.length), m[k] = a ∧ t[k] = b
  | [], _, _, _, h => by simp [firstClash] at h
  | _ :: _, [], _, _, h => by simp [firstClash] at h
  | x :: m, y :: t, a, b, h => by
    unfold firstClash at h
    split at h
    · cases h; exact ⟨0, by simp, by simp, rfl, rfl⟩
    · obtain ⟨k, h1, h2, e1, e2⟩ := firstClash_at m t h
      exact ⟨k + 1, by simp; omega, by simp; omega, by simpa using e1, by simpa using e2⟩
theorem clash_dgs {a b : ByteArray} (h : isClash a b 32 = true) : dgs a = dgs b := by
  rw [isClash_32, Bool.and_eq_true] at h
  exact of_decide_eq_true h.2
theorem root_turn (l : List Pr) (i : Nat) (q : Pr) (hl : pairsOk l = true) (hi : i < l.length) (hq : fit q) (hne : q ≠ l[i]) :
    (partAt l q (i : Int) (l.length : Int) (path (l.set i q) i)).2.2 = decide (rootOf l = rootOf (l.set i q)) := by
  have h60 := ok60 hl
  have hil : i < (l.set i q).length := by simpa using hi
  have hlen : (l.set i q).length = l.length := by simp
  by_cases e : rootOf l = rootOf (l.set i q)
  · rw [decide_eq_true e]
    have hc := checkPath_there (l.set i q) i hil (by omega)
    rw [List.getElem_set_self, hlen, ← e] at hc
    rcases parted l q _ _ _ hl hq hc with h | ⟨_, h⟩
    · exact h
    · rw [Int.toNat_natCast, List.getElem?_eq_getElem hi] at h
      exact absurd (Option.some.inj h).symm hne
  · rw [decide_eq_false e, Bool.eq_false_iff]
    intro hc
    apply e
    obtain ⟨o, ho, hd⟩ := way_of (l.set i q) i hil
    obtain ⟨o', ho', hd'⟩ := way_of l i hi
    rw [List.getElem_set_self, hlen] at ho
    have hroot : dgs (⟨(topB (l.length : Int) (dgs (o.getLastD ⟨#[]⟩))).toArray⟩) = rootOf (l.set i q) := by rw [dgs_ba (topB _ _), hd]; unfold rootOf; rw [hlen]
    have hroot' : dgs (⟨(topB (l.length : Int) (dgs (o'.getLastD ⟨#[]⟩))).toArray⟩) = rootOf l := by rw [dgs_ba (topB _ _), hd']; rfl
    unfold partAt at hc
    rw [if_pos ⟨hl, by omega, by omega⟩, Int.toNat_natCast, Int.toNat_natCast, allOf_some ho] at hc
    simp only [if_true, List.getElem?_eq_getElem hi, Option.getD_some, allOf_some ho'] at hc
    cases hf : firstClash (o ++ [⟨(topB (l.length : Int) (dgs (o.getLastD ⟨#[]⟩))).toArray⟩]) (o' ++ [⟨(topB (l.length : Int) (dgs (o'.getLastD ⟨#[]⟩))).toArray⟩]) with
    | some ab =>
      obtain ⟨a, b⟩ := ab
      have hab := clash_dgs (firstClash_is _ _ hf)
      obtain ⟨k, h1, h2, e1, e2⟩ := firstClash_at _ _ hf
      have hll : o.length = o'.length := by rw [hashed_length _ _ _ _ _ ho, hashed_length _ _ _ _ _ ho']
      rw [path_set] at ho
      by_cases hk : k < o.length
      · rw [List.getElem_append_left hk] at e1
        rw [List.getElem_append_left (by omega)] at e2
        have hm := meet_up _ _ _ _ _ _ _ ho ho' k hk (by omega) (by rw [e1, e2]; exact hab)
        rw [← hroot', ← hm, hroot]
      · rw [List.getElem_append_right (by omega)] at e1 e2
        simp only [List.getElem_singleton] at e1 e2
        rw [← hroot, ← hroot', e1, e2, hab]
    | none =>
      rw [hf] at hc
      simp only [lastOf_snoc] at hc
      have hab := clash_dgs hc
      rw [topOf_dgs, hroot] at hab
      exact hab.symm

/-! ### what is checked is all that is between -/
theorem rise_at {l : List Pr} (hr : Rise l) {i j : Nat} (hij : i < j) (hj : j < l.length) : ltB (l[i]'(by omega)).1 l[j].1 = true := by
  exact List.pairwise_iff_getElem.1 hr i j (by omega) hj hij
theorem between_mid' (lo hi : ByteArray) (l : List Pr) (a m : Nat) (h : a + m ≤ l.length) (h1 : ∀ i (h : i < l.length), i < a → inB lo hi l[i].1 = false) (h2 : ∀ i (h : i < l.length), a + m ≤ i → inB lo hi l[i].1 = false) : between lo hi l = between lo hi ((l.drop a).take m) := by
  have hs : l = l.take a ++ ((l.drop a).take m ++ (l.drop a).drop m) := by rw [List.take_append_drop, List.take_append_drop]
  unfold between
  conv => lhs; rw [hs]
  have e1 : (l.take a).filter (fun p => inB lo hi p.1) = [] := by
    rw [List.filter_eq_nil_iff]
    intro p hp
    obtain ⟨k, hk, rfl⟩ := List.getElem_of_mem hp
    simp only [List.length_take] at hk
    simp only [List.getElem_take]
    rw [h1 _ (by omega) (by omega)]; simp
  have e2 : ((l.drop a).drop m).filter (fun p => inB lo hi p.1) = [] := by
    rw [List.filter_eq_nil_iff]
    intro p hp
    obtain ⟨k, hk, rfl⟩ := List.getElem_of_mem hp
    simp only [List.length_drop] at hk
    simp only [List.getElem_drop]
    rw [h2 _ (by omega) (by omega)]; simp
  rw [List.filter_append, List.filter_append, e1, e2, List.nil_append, List.append_nil]
theorem inB_above {lo hi k j : ByteArray} (h0 : hi.size ≠ 0) (h : ltB k hi = false) (hj : ltB k j = true) : inB lo hi j = false := by
  unfold inB
  rw [decide_eq_false h0, Bool.false_or]
  cases hjh : ltB j hi with
  | false => simp
  | true => rw [ltB_trans hj hjh] at h; cases h
/-- the first one decides: there is a clash in a proof that was taken -/
def clashIn (l : List Pr) (f : Prf) : Bool :=
  if f.n = 0 then isClash (topOf []) (topOf l) 32
  else (List.range f.items.length).any fun k => match f.items[k]? with | none => false | some x => (partAt l x.1 (f.fr + (k : Int)) f.n x.2).2.2
theorem any_false {n : Nat} {f : Nat → Bool} (h : (List.range n).any f = false) : ∀ k, k < n → f k = false := by
  intro k hk
  have := List.any_eq_false.1 h k (List.mem_range.2 hk)
  simpa using this
theorem lie (l : List Pr) (lo hi : ByteArray) (f : Prf) (got : List Pr) (hl : pairsOk l = true) (h : check (rootOf l) lo hi f = some got) : got = between lo hi l ∨ clashIn l f = true := by
  cases hc : clashIn l f with
  | true => exact .inr rfl
  | false =>
    left
    have h60 := ok60 hl
    have hr := okRise hl
    unfold check at h
    unfold clashIn at hc
    by_cases hn : f.n = 0
    · rw [if_pos hn] at h hc
      split at h
      · rename_i hh
        cases h
        rw [isClash_32, topOf_dgs, topOf_dgs, hh.2.2, decide_eq_true rfl, Bool.and_true] at hc
        have he : topOf [] = topOf l := by simpa using hc
        unfold topOf at he
        have := (topB_inj 0 l.length _ _ (by omega) h60 (ba_inj he)).1
        rw [List.eq_nil_of_length_eq_zero this.symm]; rfl
      · cases h
    · rw [if_neg hn] at h hc
      split at h
      · cases h
      · rename_i hb
        have hb1 : 1 ≤ f.n ∧ f.n ≤ 60 := Classical.byContradiction fun e => hb (.inl e)
        have hb2 : f.items ≠ [] := fun e => hb (.inr (.inl e))
        have hb3 : 0 ≤ f.fr ∧ f.fr ≤ f.n - 1 := Classical.byContradiction fun e => hb (.inr (.inr e))
        split at h
        · cases h
        · rename_i hall
          have hall' : ∀ k, k < f.items.length → itemOkAt (rootOf l) f k = true := by
            have : (List.range f.items.length).all (itemOkAt (rootOf l) f) = true := by
              cases hx : (List.range f.items.length).all (itemOkAt (rootOf l) f) with
              | true => rfl
              | false => exact absurd hx hall
            intro k hk
            exact List.all_eq_true.1 this k (List.mem_range.2 hk)
          split at h
          · cases h
          · rename_i hends
            cases h
            have hat : ∀ k (hk : k < f.items.length), f.n = (l.length : Int) ∧ l[(f.fr + (k : Int)).toNat]? = some f.items[k].1 := by
              intro k hk
              have hit := hall' k hk
              have hno := any_false hc k hk
              simp only [List.getElem?_eq_getElem hk] at hno
              unfold itemOkAt at hit
              simp only [List.getElem?_eq_getElem hk, Bool.and_eq_true] at hit
              rcases parted l _ _ _ _ hl (fit_of hit.1.1) hit.1.2 with e | e
              · rw [e] at hno; cases hno
              · exact e
            have hpos : 0 < f.items.length := List.length_pos_iff.2 hb2
            have hnl := (hat 0 hpos).1
            have hlast := (hat (f.items.length - 1) (by omega)).2
            obtain ⟨a, ha⟩ : ∃ a : Nat, f.fr = (a : Int) := ⟨f.fr.toNat, by omega⟩
            rw [ha] at hat hlast
            have hat2 : ∀ k (hk : k < f.items.length), l[a + k]? = some f.items[k].1 := fun k hk => by
              have := (hat k hk).2
              rw [show ((a : Int) + (k : Int)).toNat = a + k by omega] at this
              exact this
            have hle : a + f.items.length ≤ l.length := by
              have := (List.getElem?_eq_some_iff.1 (hat2 (f.items.length - 1) (by omega))).1
              omega
            have hkeys : keysOf f.items = (l.drop a).take f.items.length := by
              apply List.ext_getElem
              · simp [keysOf]; omega
              · intro k h1 h2
                have hk : k < f.items.length := by simpa [keysOf] using h1
                simp only [keysOf, List.getElem_map, List.getElem_take, List.getElem_drop]
                exact ((List.getElem?_eq_some_iff.1 (hat2 k hk)).2).symm
            rw [hkeys]
            have hfirst : firstKey f.items = (l[a]'(by omega)).1 := by
              unfold firstKey
              rw [List.head?_eq_getElem?, List.getElem?_eq_getElem hpos]
              have := (List.getElem?_eq_some_iff.1 (hat2 0 hpos)).2
              simp only [Nat.add_zero] at this
              simp only [← this]
            have hlastk : lastKey f.items = (l[a + (f.items.length - 1)]'(by omega)).1 := by
              unfold lastKey
              rw [List.getLast?_eq_getElem?, List.getElem?_eq_getElem (by omega)]
              have := (List.getElem?_eq_some_iff.1 (hat2 (f.items.length - 1) (by omega))).2
              simp only [← this]
            unfold endsBad at hends
            rw [hfirst, hlastk, ha] at hends
            symm
            apply between_mid' lo hi l a f.items.length hle
            · intro i hi hia
              have hlo : ltB (l[a]'(by omega)).1 lo = true := by
                cases hx : ltB (l[a]'(by omega)).1 lo with
                | true => rfl
                | false => exact absurd (.inl ⟨hx, by omega⟩) hends
              exact inB_low (ltB_trans (rise_at hr hia (by omega)) hlo)
            · intro i hil hia
              by_cases h0 : hi.size = 0
              · exact absurd (.inr ⟨.inl h0, by omega⟩) hends
              · refine inB_above h0 ?_ (rise_at hr (i := a + (f.items.length - 1)) (j := i) (by omega) hil)
                cases hx : ltB (l[a + (f.items.length - 1)]'(by omega)).1 hi with
                | false => rfl
                | true => exact absurd (.inr ⟨.inr hx, by omega⟩) hends

/-! ### an honest proof is taken -/
theorem low_at (lo : ByteArray) (l : List Pr) (i : Nat) (h : i < lowN lo l) (hi : i < l.length) : ltB l[i].1 lo = true := by
  have := (takeWhile_at (fun p => ltB p.1 lo) l i hi (Nat.le_of_lt h)).1 h
  exact this
theorem low_end (lo : ByteArray) (l : List Pr) (hr : Rise l) (i : Nat) (h : lowN lo l ≤ i) (hi : i < l.length) : ltB l[i].1 lo = false := by
  have h0 : ltB (l[lowN lo l]'(by omega)).1 lo = false := by
    have := (takeWhile_at (fun p => ltB p.1 lo) l (lowN lo l) (by omega) (Nat.le_refl _))
    rw [Bool.eq_false_iff]
    intro e
    exact absurd (this.2 e) (Nat.lt_irrefl _)
  by_cases e : lowN lo l = i
  · subst e; exact h0
  · rw [Bool.eq_false_iff]
    intro hx
    rw [ltB_trans (rise_at hr (show lowN lo l < i by omega) hi) hx] at h0
    cases h0
theorem seg_end (lo hi : ByteArray) (l : List Pr) (h : lowN lo l + segN lo hi l < l.length) : inB lo hi l[lowN lo l + segN lo hi l].1 = false := by
  have h1 : segN lo hi l < (l.drop (lowN lo l)).length := by rw [List.length_drop]; omega
  have := (takeWhile_at (fun p => inB lo hi p.1) (l.drop (lowN lo l)) (segN lo hi l) h1 (Nat.le_refl _))
  rw [Bool.eq_false_iff]
  intro e
  simp only [List.getElem_drop] at this
  exact absurd (this.2 e) (Nat.lt_irrefl _)
theorem from_lt_to (lo hi : ByteArray) (l : List Pr) (h : 0 < l.length) : fromN lo l < toN lo hi l := by
  have := segN_le lo hi l
  unfold fromN toN
  split <;> omega
theorem honest (l : List Pr) (lo hi : ByteArray) (hl : pairsOk l = true) : check (rootOf l) lo hi (prove l lo hi) = some (between lo hi l) := by
  have h60 := ok60 hl
  have hr := okRise hl
  have hp : prove l lo hi = ⟨(l.length : Int), if fromN lo l < toN lo hi l then (fromN lo l : Int) else 0, itemsTo l (fromN lo l) (toN lo hi l)⟩ := by unfold prove; rw [if_pos hl]
  by_cases h0 : l.length = 0
  · have : l = [] := List.eq_nil_of_length_eq_zero h0
    subst this
    have hz : prove [] lo hi = ⟨0, 0, []⟩ := by rw [hp]; rfl
    rw [hz]
    unfold check
    rw [if_pos rfl, if_pos ⟨rfl, rfl, rfl⟩]
    rfl
  · have hlt := from_lt_to lo hi l (by omega)
    have hto := toN_le lo hi l
    rw [if_pos hlt] at hp
    have hlen := itemsTo_length l (fromN lo l) (toN lo hi l)
    have hitem : ∀ k (hk : k < (itemsTo l (fromN lo l) (toN lo hi l)).length), (itemsTo l (fromN lo l) (toN lo hi l))[k] = (l[fromN lo l + k]'(by omega), path l (fromN lo l + k)) := by
      intro k hk
      simp only [itemsTo, List.getElem_map, List.getElem_range', Nat.one_mul]
      unfold itemAt
      rw [List.getElem?_eq_getElem (by omega)]; rfl
    have hkeys : keysOf (itemsTo l (fromN lo l) (toN lo hi l)) = (l.drop (fromN lo l)).take (toN lo hi l - fromN lo l) := by
      apply List.ext_getElem
      · simp [keysOf, hlen]; omega
      · intro k h1 h2
        have hk : k < (itemsTo l (fromN lo l) (toN lo hi l)).length := by simpa [keysOf] using h1
        simp only [keysOf, List.getElem_map, List.getElem_take, List.getElem_drop, hitem k hk]
    have hpos : 0 < (itemsTo l (fromN lo l) (toN lo hi l)).length := by omega
    have hends : ¬ endsBad lo hi (prove l lo hi) := by
      rw [hp]
      unfold endsBad
      simp only [hlen]
      have hfirst : firstKey (itemsTo l (fromN lo l) (toN lo hi l)) = (l[fromN lo l]'(by omega)).1 := by
        unfold firstKey
        rw [List.head?_eq_getElem?, List.getElem?_eq_getElem hpos]
        simp only [hitem 0 hpos, Nat.add_zero]
      have hlastk : lastKey (itemsTo l (fromN lo l) (toN lo hi l)) = (l[toN lo hi l - 1]'(by omega)).1 := by
        unfold lastKey
        rw [List.getLast?_eq_getElem?, List.getElem?_eq_getElem (by omega)]
        have hk := hitem ((itemsTo l (fromN lo l) (toN lo hi l)).length - 1) (by omega)
        simp only [hk]
        have e : fromN lo l + ((itemsTo l (fromN lo l) (toN lo hi l)).length - 1) = toN lo hi l - 1 := by omega
        simp only [e]
      rw [hfirst, hlastk]
      rintro (⟨h1, h2⟩ | ⟨h1, h2⟩)
      · have h3 : fromN lo l < lowN lo l := by unfold fromN at h2 ⊢; omega
        rw [low_at lo l _ h3 (by omega)] at h1; cases h1
      · have h3 : toN lo hi l < l.length := by omega
        have h4 : lowN lo l + segN lo hi l < l.length ∧ toN lo hi l - 1 = lowN lo l + segN lo hi l := by
          unfold toN at h3 ⊢
          split at h3
          · rename_i e; rw [if_pos e]; omega
          · have := segN_le lo hi l; omega
        have h5 := seg_end lo hi l h4.1
        simp only [h4.2] at h1
        unfold inB at h5
        rw [low_end lo l hr _ (by omega) h4.1] at h5
        simp only [Bool.not_false, Bool.true_and, Bool.or_eq_false_iff, decide_eq_false_iff_not] at h5
        rcases h1 with e | e
        · exact h5.1 e
        · rw [h5.2] at e; cases e
    unfold check
    have hn0 : ¬ (prove l lo hi).n = 0 := by rw [hp]; simp only []; omega
    rw [if_neg hn0, if_neg, if_neg, if_neg hends]
    · rw [hp]
      simp only [hkeys]
      congr 1
      symm
      apply between_mid' lo hi l _ _ (by omega)
      · intro i hi hif
        exact inB_low (low_at lo l i (by unfold fromN at hif; omega) hi)
      · intro i hil hia
        have h4 : lowN lo l + segN lo hi l < l.length ∧ lowN lo l + segN lo hi l < i := by
          have h3 : toN lo hi l ≤ i := by omega
          unfold toN at h3
          split at h3 <;> omega
        have h5 := seg_end lo hi l h4.1
        unfold inB at h5
        rw [low_end lo l hr _ (by omega) h4.1] at h5
        simp only [Bool.not_false, Bool.true_and, Bool.or_eq_false_iff, decide_eq_false_iff_not] at h5
        exact inB_above h5.1 h5.2 (rise_at hr h4.2 hil)
    · rw [Bool.not_eq_false]
      apply all_range_true
      intro k hk
      rw [hp] at hk ⊢
      simp only [] at hk
      have hik := hitem k hk
      have h1 : pairOk (l[fromN lo l + k]'(by omega)) = true := okMem hl _ (List.getElem_mem _)
      have h2 := checkPath_there l (fromN lo l + k) (by omega) h60
      rw [Int.natCast_add] at h2
      cases k with
      | zero =>
        rw [itemOk_zero _ _ hpos]
        simp only [hik]
        rw [h1]
        simpa using h2
      | succ j =>
        rw [itemOk_succ _ _ j hk]
        simp only [hik, hitem j (by omega)]
        rw [h1, h2, rise_at hr (show fromN lo l + j < fromN lo l + (j + 1) by omega) (by omega)]
        rfl
    · rw [hp]
      simp only []
      intro hh
      rcases hh with e | e | e
      · exact e (by omega)
      · rw [e] at hpos; simp at hpos
      · exact e (by omega)
end Go.Proofs.YtdebbgodhpcijaaGreatDoor.clash

namespace Go.Proofs.YtdebbgodhpcijaaGreatDoor.clash
open Go Go.Proofs.YtdebbgodhpcijaaGreatDoor.base Go.Proofs.YtdebbgodhpcijaaGreatDoor.pairs Go.Proofs.YtdebbgodhpcijaaGreatDoor.tree Go.Proofs.YtdebbgodhpcijaaGreatDoor.range Go.Proofs.YtdebbgodhpcijaaGreatDoor.puttext Go.Proofs.YtdebbgodhpcijaaGreatDoor.putnum
set_option linter.unusedVariables false
set_option linter.unusedSimpArgs false

/-- no clash at the first k of both -/
def NoneTo (T H : List ByteArray) (k : Nat) : Prop := ∀ j, j < k → ∀ a b, T[j]? = some a → H[j]? = some b → isClash a b 32 = false
theorem NoneTo.zero (T H : List ByteArray) : NoneTo T H 0 := fun j hj => absurd hj (Nat.not_lt_zero _)
theorem NoneTo.step {T H : List ByteArray} {k : Nat} (h : NoneTo T H k) {a b : ByteArray} (ha : T[k]? = some a) (hb : H[k]? = some b) (hc : isClash a b 32 = false) : NoneTo T H (k + 1) := by
  intro j hj x y hx hy
  by_cases e : j = k
  · subst e
    rw [ha] at hx; rw [hb] at hy
    cases hx; cases hy; exact hc
  · exact h j (by omega) x y hx hy
theorem step_first : ∀ (T H : List ByteArray) (k : Nat) (a b : ByteArray), T.length = H.length → NoneTo T H k → (k + 1 = T.length ∨ isClash a b 32 = true) → T[k]? = some a → H[k]? = some b →
    firstClash T H = if isClash a b 32 = true then some (a, b) else none
  | [], _, k, a, b, _, _, _, ha, _ => by simp at ha
  | _ :: _, [], k, a, b, hl, _, _, _, hb => by simp at hb
  | x :: T, y :: H, 0, a, b, hl, _, hk, ha, hb => by
    simp only [List.getElem?_cons_zero, Option.some.injEq] at ha hb
    subst ha hb
    simp only [firstClash]
    by_cases hc : isClash x y 32 = true
    · rw [if_pos hc, if_pos hc]
    · rw [if_neg hc, if_neg hc]
      rcases hk with h1 | h1
      · have : T = [] := List.eq_nil_of_length_eq_zero (by simpa using h1.symm)
        subst this; rfl
      · exact absurd h1 hc
  | x :: T, y :: H, k + 1, a, b, hl, hn, hk, ha, hb => by
    have h0 := hn 0 (by omega) x y rfl rfl
    simp only [firstClash]
    rw [if_neg (by rw [h0]; simp)]
    refine step_first T H k a b (by simpa using hl) (fun j hj u v hu hv => hn (j + 1) (by omega) u v (by simpa using hu) (by simpa using hv)) ?_ (by simpa using ha) (by simpa using hb)
    rcases hk with h1 | h1
    · left; simpa using h1
    · exact .inr h1
theorem first_none : ∀ (T H : List ByteArray), T.length = H.length → NoneTo T H T.length → firstClash T H = none
  | [], _, _, _ => rfl
  | _ :: _, [], _, _ => rfl
  | x :: T, y :: H, hl, hn => by
    have h0 := hn 0 (by simp) x y rfl rfl
    simp only [firstClash]
    rw [if_neg (by rw [h0]; simp)]
    exact first_none T H (by simpa using hl) (fun j hj u v hu hv => hn (j + 1) (by simp; omega) u v (by simpa using hu) (by simpa using hv))
theorem partAt_match (l : List Pr) (p : Pr) (i n : Nat) (P mine theirs : List ByteArray) (hl : pairsOk l = true) (hin : i < n) (hn : n ≤ 60) (hln : l.length = n) (hil : i < l.length) (hm : allOf (leafB p) i n P = some mine) (ht : allOf (leafB l[i]) i n (path l i) = some theirs) :
    partAt l p (i : Int) (n : Int) P = match firstClash mine theirs with | some (a, b) => (a, b, true) | none => (lastOf mine, topOf l, isClash (lastOf mine) (topOf l) 32) := by
  unfold partAt
  rw [if_pos ⟨hl, by omega, by omega⟩, Int.toNat_natCast, Int.toNat_natCast, hm]
  simp only [if_pos hln]
  rw [List.getElem?_eq_getElem hil, Option.getD_some, ht, Option.getD_some]
theorem partAt_far (l : List Pr) (p : Pr) (i n : Nat) (P mine : List ByteArray) (hl : pairsOk l = true) (hin : i < n) (hn : n ≤ 60) (hln : ¬ l.length = n) (hm : allOf (leafB p) i n P = some mine) :
    partAt l p (i : Int) (n : Int) P = (lastOf mine, topOf l, isClash (lastOf mine) (topOf l) 32) := by
  unfold partAt
  rw [if_pos ⟨hl, by omega, by omega⟩, Int.toNat_natCast, Int.toNat_natCast, hm]
  simp only [if_neg hln]
theorem partAt_none (l : List Pr) (p : Pr) (i n : Nat) (P : List ByteArray) (hm : allOf (leafB p) i n P = none) : partAt l p (i : Int) (n : Int) P = (⟨#[]⟩, ⟨#[]⟩, false) := by
  unfold partAt
  rw [Int.toNat_natCast, Int.toNat_natCast, hm]
  split <;> rfl
theorem lastOf_way (leaf : List UInt8) (i n : Nat) (P : List ByteArray) : lastOf ((wayAll leaf i n P).map ba) = ba (topB (n : Int) (ups (dg leaf) ((sides i n).zip P))) := by
  unfold wayAll; rw [List.map_append]; exact lastOf_snoc _ _
theorem ups_inner (l : List Pr) (i : Nat) (hi : i < l.length) : ups (leafOf l[i]) ((sides i l.length).zip (path l i)) = inner l := by
  have h1 := climb_path l i hi
  rw [climb_sides _ _ _ _ (path_length l i)] at h1
  exact Option.some.inj h1
theorem way_last (leaf : List UInt8) (i n : Nat) (P : List ByteArray) (k : Nat) (a : List UInt8) (h : (wayAll leaf i n P)[k]? = some a) (hk : k + 1 = (wayAll leaf i n P).length) : a = topB (n : Int) (ups (dg leaf) ((sides i n).zip P)) := by
  have h2 := wayTo_length leaf (sides i n) P P.length
  unfold wayAll at h hk
  rw [List.length_append, h2] at hk
  have hk2 : k = P.length + 1 := by simpa using hk
  rw [List.getElem?_append_right (by omega), h2, hk2] at h
  simp at h
  exact h.symm
/-- the way of the pair that is there -/
theorem partAt_same (l : List Pr) (p : Pr) (i n : Nat) (P : List ByteArray) (hl : pairsOk l = true) (hin : i < n) (hn : n ≤ 60) (hln : l.length = n) (hil : i < l.length) (hfit : P.length = depth i n) (k : Nat) (a b : List UInt8)
    (hk : NoneTo ((wayAll (leafB p) i n P).map ba) ((wayAll (leafB l[i]) i n (path l i)).map ba) k) (ha : (wayAll (leafB p) i n P)[k]? = some a) (hb : (wayAll (leafB l[i]) i n (path l i))[k]? = some b) (hc : k + 1 = (wayAll (leafB p) i n P).length ∨ isClash (ba a) (ba b) 32 = true) :
    partAt l p (i : Int) (n : Int) P = (ba a, ba b, isClash (ba a) (ba b) 32) := by
  have hpl : (path l i).length = depth i n := by rw [path_length, hln]
  have hlen : ((wayAll (leafB p) i n P).map ba).length = ((wayAll (leafB l[i]) i n (path l i)).map ba).length := by rw [List.length_map, List.length_map, wayAll_length, wayAll_length, hfit, hpl]
  have hf := step_first _ _ k (ba a) (ba b) hlen hk (by rw [List.length_map]; exact hc) (by rw [List.getElem?_map, ha]; rfl) (by rw [List.getElem?_map, hb]; rfl)
  rw [partAt_match l p i n P _ _ hl hin hn hln hil (allOf_way _ _ _ _ hfit) (allOf_way _ _ _ _ hpl), hf]
  by_cases h : isClash (ba a) (ba b) 32 = true
  · rw [if_pos h, h]
  · rw [if_neg h]
    simp only []
    have hk1 : k + 1 = (wayAll (leafB p) i n P).length := by
      rcases hc with h1 | h1
      · exact h1
      · exact absurd h1 h
    have e1 := way_last _ _ _ _ _ _ ha hk1
    have e2 := way_last _ _ _ _ _ _ hb (by rw [List.length_map, List.length_map] at hlen; omega)
    have e3 : topOf l = ba b := by
      unfold topOf
      rw [e2]
      have := ups_inner l i hil
      unfold leafOf at this
      rw [hln] at this ⊢
      rw [this]; rfl
    rw [lastOf_way, ← e1, e3]
theorem partAt_else (l : List Pr) (p : Pr) (i n : Nat) (P : List ByteArray) (hl : pairsOk l = true) (hin : i < n) (hn : n ≤ 60) (hln : ¬ l.length = n) (hfit : P.length = depth i n) (k : Nat) (a : List UInt8)
    (ha : (wayAll (leafB p) i n P)[k]? = some a) (hk : k + 1 = (wayAll (leafB p) i n P).length) :
    partAt l p (i : Int) (n : Int) P = (ba a, topOf l, isClash (ba a) (topOf l) 32) := by
  rw [partAt_far l p i n P _ hl hin hn hln (allOf_way _ _ _ _ hfit), lastOf_way, ← way_last _ _ _ _ _ _ ha hk]
theorem partAt_unfit (l : List Pr) (p : Pr) (i n : Nat) (P : List ByteArray) (hfit : ¬ P.length = depth i n) : partAt l p (i : Int) (n : Int) P = (⟨#[]⟩, ⟨#[]⟩, false) :=
  partAt_none l p i n P (allOf_not _ _ _ _ hfit)
theorem partAt_out (l : List Pr) (p : Pr) (i n : Int) (P : List ByteArray) (h : ¬ (pairsOk l = true ∧ (1 ≤ n ∧ n ≤ 60) ∧ (0 ≤ i ∧ i ≤ n - 1))) : partAt l p i n P = (⟨#[]⟩, ⟨#[]⟩, false) := by
  unfold partAt; rw [if_neg h]
end Go.Proofs.YtdebbgodhpcijaaGreatDoor.clash
