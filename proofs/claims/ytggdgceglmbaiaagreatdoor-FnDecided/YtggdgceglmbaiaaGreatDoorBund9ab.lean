/- Plain mathematics of pairs of texts. Plain mathematics of the laws on pairs. The laws' own helpers on slices of bytes: what each call does. Reading a number: the program's and the specification's GetNum answer as one and the same function. The specification's GetNum answers as the same function. Reading a text: the program's and the specification's GetText answer as one and the same function. -/
import Derived.Test.YtggdgceglmbaiaaGreatDoorRows
import Derived.Sort.Walk0
import Derived.WideShapes
import Derived.Test.YtggdgceglmbaiaaGreatDoorBund9aa
import Derived.Deep.QuietTactic
import Derived.BigQuiet
import Derived.Laws.BytesArg
namespace Go.Proofs.YtggdgceglmbaiaaGreatDoor.pairs
open Go
set_option linter.unusedVariables false

abbrev Pr := ByteArray × ByteArray
theorem bytes_ext {a b : ByteArray} (h : a.data.toList = b.data.toList) : a = b := WideShapes.bytes_inj h

/-! ### the order of texts -/
def ltB (a b : ByteArray) : Bool := Op.bytesLess a.toList b.toList
theorem ltB_iff (a b : ByteArray) : ltB a b = true ↔ a.data.toList < b.data.toList := by
  unfold ltB; rw [Proofs.bytesLess_eq, ByteArray.toList_eq, ByteArray.toList_eq]; simp
theorem ltB_irrefl (a : ByteArray) : ltB a a = false := by
  rw [Bool.eq_false_iff]; intro h; exact List.lt_irrefl _ ((ltB_iff a a).1 h)
theorem ltB_trans {a b c : ByteArray} (h : ltB a b = true) (k : ltB b c = true) : ltB a c = true :=
  (ltB_iff a c).2 (List.lt_trans ((ltB_iff a b).1 h) ((ltB_iff b c).1 k))
theorem ltB_asymm {a b : ByteArray} (h : ltB a b = true) : ltB b a = false := by
  rw [Bool.eq_false_iff]; intro k; have := ltB_trans h k; rw [ltB_irrefl] at this; cases this
theorem ltB_total {a b : ByteArray} (h : ltB a b = false) (k : ltB b a = false) : a = b := by
  apply bytes_ext
  have h' : ¬ a.data.toList < b.data.toList := fun e => by rw [(ltB_iff a b).2 e] at h; cases h
  have k' : ¬ b.data.toList < a.data.toList := fun e => by rw [(ltB_iff b a).2 e] at k; cases k
  exact List.le_antisymm (List.not_lt.1 k') (List.not_lt.1 h')
theorem ltB_ne {a b : ByteArray} (h : ltB a b = true) : a ≠ b := by
  rintro rfl; rw [ltB_irrefl] at h; cases h

/-! ### the functions -/
def keyCh (c : Nat) : Bool := decide (97 ≤ c ∧ c ≤ 122) || decide (48 ≤ c ∧ c ≤ 57)
def keyAll (l : List UInt8) : Bool := l.all fun c => keyCh c.toNat
def keyOk (s : ByteArray) : Bool := keyAll s.data.toList && decide (1 ≤ s.size ∧ s.size ≤ 12)
def pairOk (p : Pr) : Bool := keyOk p.1 && decide (p.2.size ≤ 20)
/-- each is right and above the one ahead -/
def okFrom : Option ByteArray → List Pr → Bool
  | _, [] => true
  | none, p :: l => pairOk p && okFrom (some p.1) l
  | some k, p :: l => pairOk p && ltB k p.1 && okFrom (some p.1) l
def pairsOk (l : List Pr) : Bool := okFrom none l && decide (l.length ≤ 60)
def getKey (key : ByteArray) : List Pr → Option ByteArray
  | [] => none
  | p :: l => if p.1 = key then some p.2 else getKey key l
def setFirst (key val : ByteArray) : List Pr → List Pr
  | [] => []
  | p :: l => if p.1 = key then (p.1, val) :: l else p :: setFirst key val l
/-- how many stand ahead of the first that is above -/
def below (key : ByteArray) : List Pr → Nat
  | [] => 0
  | p :: l => if ltB key p.1 = true then 0 else below key l + 1
def putKey (key val : ByteArray) (l : List Pr) : List Pr :=
  if (getKey key l).isSome then setFirst key val l else l.take (below key l) ++ (key, val) :: l.drop (below key l)
def delKey (key : ByteArray) (l : List Pr) : List Pr := l.filter fun p => decide (p.1 ≠ key)
def inB (lo hi key : ByteArray) : Bool := !ltB key lo && (decide (hi.size = 0) || ltB key hi)
def between (lo hi : ByteArray) (l : List Pr) : List Pr := l.filter fun p => inB lo hi p.1
def unionOf (a b : List Pr) : List Pr := b.foldl (fun u p => putKey p.1 p.2 u) a

/-! ### first facts -/
theorem setFirst_length (key val : ByteArray) (l : List Pr) : (setFirst key val l).length = l.length := by
  induction l with
  | nil => rfl
  | cons p l ih => unfold setFirst; split <;> simp [ih]
theorem below_le (key : ByteArray) (l : List Pr) : below key l ≤ l.length := by
  induction l with
  | nil => exact Nat.le_refl _
  | cons p l ih => unfold below; split <;> simp; omega
theorem putKey_length (key val : ByteArray) (l : List Pr) : (putKey key val l).length ≤ l.length + 1 ∧ l.length ≤ (putKey key val l).length := by
  have := below_le key l
  unfold putKey
  split
  · rw [setFirst_length]; omega
  · simp; omega
theorem getKey_drop (key : ByteArray) (l : List Pr) (k : Nat) (h : k < l.length) : getKey key (l.drop k) = if l[k].1 = key then some l[k].2 else getKey key (l.drop (k + 1)) := by
  rw [List.drop_eq_getElem_cons h, getKey]
theorem below_drop (key : ByteArray) (l : List Pr) (k : Nat) (h : k < l.length) : below key (l.drop k) = if ltB key l[k].1 = true then 0 else below key (l.drop (k + 1)) + 1 := by
  rw [List.drop_eq_getElem_cons h, below]
/-- the first of a key is at place k: what lies ahead has others -/
theorem setFirst_at (key val : ByteArray) (l : List Pr) (k : Nat) (h : k < l.length) (he : l[k].1 = key) (hn : getKey key (l.take k) = none) : setFirst key val l = l.set k (key, val) := by
  induction l generalizing k with
  | nil => simp at h
  | cons p l ih =>
    cases k with
    | zero => simp at he; unfold setFirst; rw [if_pos he, he]; rfl
    | succ k =>
      rw [List.take_succ_cons, getKey] at hn
      by_cases hp : p.1 = key
      · rw [if_pos hp] at hn; cases hn
      · rw [if_neg hp] at hn
        unfold setFirst
        rw [if_neg hp, List.set_cons_succ, ih k (by simpa using h) (by simpa using he) hn]
theorem getKey_snoc_none (key : ByteArray) (l : List Pr) (p : Pr) (h : getKey key l = none) (hp : p.1 ≠ key) : getKey key (l ++ [p]) = none := by
  induction l with
  | nil => simp [getKey, hp]
  | cons q l ih =>
    rw [getKey] at h
    by_cases hq : q.1 = key
    · rw [if_pos hq] at h; cases h
    · rw [if_neg hq] at h
      rw [List.cons_append, getKey, if_neg hq]
      exact ih h
theorem getKey_append (key : ByteArray) (a b : List Pr) : getKey key (a ++ b) = (getKey key a).or (getKey key b) := by
  induction a with
  | nil => rfl
  | cons q l ih =>
    rw [List.cons_append, getKey, getKey]
    by_cases hq : q.1 = key
    · rw [if_pos hq, if_pos hq]; rfl
    · rw [if_neg hq, if_neg hq, ih]
theorem okFrom_snoc (o : Option ByteArray) (l : List Pr) (p : Pr) : okFrom o (l ++ [p]) = (okFrom o l && pairOk p && match (l.getLast?.map (·.1)).or o with | none => true | some k => ltB k p.1) := by
  induction l generalizing o with
  | nil => cases o <;> simp [okFrom]
  | cons q l ih =>
    have e : ((q :: l).getLast?.map (·.1)).or o = (l.getLast?.map (·.1)).or (some q.1) := by
      cases l with
      | nil => rfl
      | cons r l =>
        rw [List.getLast?_cons_cons]
        cases h : (r :: l).getLast? with
        | none => simp at h
        | some v => rfl
    cases o <;> simp only [List.cons_append, okFrom, ih, e, Bool.and_assoc]

end Go.Proofs.YtggdgceglmbaiaaGreatDoor.pairs

namespace Go.Proofs.YtggdgceglmbaiaaGreatDoor.pairs
open Go
set_option linter.unusedVariables false
set_option linter.unusedSimpArgs false

/-! ### rising lists -/
def Rise (l : List Pr) : Prop := l.Pairwise fun p q => ltB p.1 q.1 = true
theorem okFrom_iff (o : Option ByteArray) (l : List Pr) : okFrom o l = true ↔ (∀ p ∈ l, pairOk p = true) ∧ Rise l ∧ ∀ k, o = some k → ∀ p ∈ l, ltB k p.1 = true := by
  induction l generalizing o with
  | nil => cases o <;> simp [okFrom, Rise]
  | cons q l ih =>
    have hq := ih (some q.1)
    constructor
    · intro h
      have h' : pairOk q = true ∧ (∀ k, o = some k → ltB k q.1 = true) ∧ okFrom (some q.1) l = true := by
        cases o with
        | none => simp only [okFrom, Bool.and_eq_true] at h; exact ⟨h.1, (fun k e => by cases e), h.2⟩
        | some k => simp only [okFrom, Bool.and_eq_true] at h; exact ⟨h.1.1, (fun k' e => by cases e; exact h.1.2), h.2⟩
      obtain ⟨h1, h2, h3⟩ := h'
      obtain ⟨a1, a2, a3⟩ := hq.1 h3
      refine ⟨?_, ?_, ?_⟩
      · intro p hp
        rcases List.mem_cons.1 hp with e | e
        · subst e; exact h1
        · exact a1 p e
      · exact List.Pairwise.cons (fun p hp => a3 _ rfl p hp) a2
      · intro k hk p hp
        rcases List.mem_cons.1 hp with e | e
        · subst e; exact h2 k hk
        · exact ltB_trans (h2 k hk) (a3 _ rfl p e)
    · rintro ⟨h1, h2, h3⟩
      have hr := List.pairwise_cons.1 h2
      have h4 : okFrom (some q.1) l = true := hq.2 ⟨fun p hp => h1 p (List.mem_cons_of_mem _ hp), hr.2, fun k e p hp => by cases e; exact hr.1 p hp⟩
      cases o with
      | none => simp only [okFrom, Bool.and_eq_true]; exact ⟨h1 q List.mem_cons_self, h4⟩
      | some k => simp only [okFrom, Bool.and_eq_true]; exact ⟨⟨h1 q List.mem_cons_self, h3 k rfl q List.mem_cons_self⟩, h4⟩
theorem pairsOk_iff (l : List Pr) : pairsOk l = true ↔ ((∀ p ∈ l, pairOk p = true) ∧ Rise l) ∧ l.length ≤ 60 := by
  unfold pairsOk
  rw [Bool.and_eq_true, okFrom_iff, decide_eq_true_iff]
  constructor
  · rintro ⟨⟨a, b, _⟩, c⟩; exact ⟨⟨a, b⟩, c⟩
  · rintro ⟨⟨a, b⟩, c⟩; exact ⟨⟨a, b, fun k e => by cases e⟩, c⟩

/-! ### what is got -/
theorem getKey_some_mem {key v : ByteArray} {l : List Pr} (h : getKey key l = some v) : (key, v) ∈ l := by
  induction l with
  | nil => cases h
  | cons p l ih =>
    rw [getKey] at h
    by_cases hp : p.1 = key
    · rw [if_pos hp] at h
      have : p.2 = v := Option.some.inj h
      subst hp; subst this; exact List.mem_cons_self
    · rw [if_neg hp] at h; exact List.mem_cons_of_mem _ (ih h)
theorem getKey_none_iff {key : ByteArray} {l : List Pr} : getKey key l = none ↔ ∀ p ∈ l, p.1 ≠ key := by
  induction l with
  | nil => simp [getKey]
  | cons p l ih =>
    rw [getKey]
    by_cases hp : p.1 = key
    · rw [if_pos hp]
      exact ⟨fun h => (by cases h), fun h => absurd hp (h p List.mem_cons_self)⟩
    · rw [if_neg hp, ih]; simp [hp]
theorem getKey_isSome {l : List Pr} {p : Pr} (h : p ∈ l) : ∃ v, getKey p.1 l = some v := by
  cases e : getKey p.1 l with
  | some v => exact ⟨v, rfl⟩
  | none => exact absurd rfl (getKey_none_iff.1 e p h)
theorem getKey_setFirst_same {key val : ByteArray} {l : List Pr} (h : (getKey key l).isSome = true) : getKey key (setFirst key val l) = some val := by
  induction l with
  | nil => cases h
  | cons p l ih =>
    rw [getKey] at h
    by_cases hp : p.1 = key
    · rw [setFirst, if_pos hp, getKey, if_pos hp]
    · rw [if_neg hp] at h; rw [setFirst, if_neg hp, getKey, if_neg hp]; exact ih h
theorem getKey_setFirst_other {key val k : ByteArray} {l : List Pr} (h : k ≠ key) : getKey k (setFirst key val l) = getKey k l := by
  induction l with
  | nil => rfl
  | cons p l ih =>
    by_cases hp : p.1 = key
    · rw [setFirst, if_pos hp, getKey, getKey, if_neg (by rw [hp]; exact h.symm), if_neg (by rw [hp]; exact h.symm)]
    · rw [setFirst, if_neg hp, getKey, getKey, ih]
theorem getKey_put_same (key val : ByteArray) (l : List Pr) : getKey key (putKey key val l) = some val := by
  unfold putKey
  split
  · rename_i h; exact getKey_setFirst_same h
  · rename_i h
    have hn : getKey key l = none := by cases e : getKey key l with | none => rfl | some v => rw [e] at h; exact absurd rfl h
    have h1 := getKey_none_iff.1 hn
    rw [getKey_append, getKey_none_iff.2 (fun p hp => h1 p (List.mem_of_mem_take hp)), getKey, if_pos rfl]; rfl
theorem getKey_put_other {key k : ByteArray} (val : ByteArray) (l : List Pr) (h : k ≠ key) : getKey k (putKey key val l) = getKey k l := by
  unfold putKey
  split
  · exact getKey_setFirst_other h
  · rw [getKey_append, getKey, if_neg h.symm, ← getKey_append, List.take_append_drop]
theorem getKey_del_same (key : ByteArray) (l : List Pr) : getKey key (delKey key l) = none :=
  getKey_none_iff.2 fun p hp => of_decide_eq_true (List.mem_filter.1 hp).2
theorem getKey_del_other {key k : ByteArray} (l : List Pr) (h : k ≠ key) : getKey k (delKey key l) = getKey k l := by
  unfold delKey
  induction l with
  | nil => rfl
  | cons p l ih =>
    by_cases hp : p.1 = key
    · rw [List.filter_cons_of_neg (by simp [hp]), ih, getKey, if_neg (by rw [hp]; exact h.symm)]
    · rw [List.filter_cons_of_pos (by simp [hp]), getKey, getKey, ih]

/-! ### pairs that stay right -/
theorem setFirst_keys (key val : ByteArray) (l : List Pr) : (setFirst key val l).map (·.1) = l.map (·.1) := by
  induction l with
  | nil => rfl
  | cons p l ih => unfold setFirst; split <;> simp [ih]
theorem rise_keys {l m : List Pr} (h : l.map (·.1) = m.map (·.1)) (hl : Rise l) : Rise m := by
  have e : ∀ l : List Pr, Rise l ↔ (l.map (·.1)).Pairwise fun a b => ltB a b = true := fun l => by unfold Rise; rw [List.pairwise_map]
  rw [e] at *; rw [← h]; exact hl
theorem setFirst_mem {key val : ByteArray} {l : List Pr} {p : Pr} (h : p ∈ setFirst key val l) : p ∈ l ∨ p = (key, val) := by
  induction l with
  | nil => exact absurd h List.not_mem_nil
  | cons q l ih =>
    unfold setFirst at h
    split at h
    · rename_i hq
      rcases List.mem_cons.1 h with e | e
      · right; rw [e, hq]
      · left; exact List.mem_cons_of_mem _ e
    · rcases List.mem_cons.1 h with e | e
      · left; rw [e]; exact List.mem_cons_self
      · rcases ih e with h1 | h1
        · left; exact List.mem_cons_of_mem _ h1
        · right; exact h1
theorem putKey_mem {key val : ByteArray} {l : List Pr} {p : Pr} (h : p ∈ putKey key val l) : p ∈ l ∨ p = (key, val) := by
  unfold putKey at h
  split at h
  · exact setFirst_mem h
  · rcases List.mem_append.1 h with h1 | h1
    · left; exact List.mem_of_mem_take h1
    · rcases List.mem_cons.1 h1 with h2 | h2
      · right; exact h2
      · left; exact List.mem_of_mem_drop h2
theorem below_take {key : ByteArray} {l : List Pr} : ∀ p ∈ l.take (below key l), ltB key p.1 = false := by
  induction l with
  | nil => intro p hp; exact absurd hp (by simp)
  | cons q l ih =>
    intro p hp
    unfold below at hp
    split at hp
    · exact absurd hp (by simp)
    · rename_i hq
      rw [List.take_succ_cons] at hp
      rcases List.mem_cons.1 hp with e | e
      · subst e; simpa using hq
      · exact ih p e
theorem below_dropR {key : ByteArray} {l : List Pr} (hr : Rise l) : ∀ p ∈ l.drop (below key l), ltB key p.1 = true := by
  induction l with
  | nil => intro p hp; exact absurd hp (by simp)
  | cons q l ih =>
    have hr' := List.pairwise_cons.1 hr
    intro p hp
    unfold below at hp
    split at hp
    · rename_i hq
      rw [List.drop_zero] at hp
      rcases List.mem_cons.1 hp with e | e
      · subst e; exact hq
      · exact ltB_trans hq (hr'.1 p e)
    · rw [List.drop_succ_cons] at hp; exact ih hr'.2 p hp
theorem rise_put {key val : ByteArray} {l : List Pr} (h : Rise l) : Rise (putKey key val l) := by
  unfold putKey
  split
  · exact rise_keys (setFirst_keys key val l).symm h
  · rename_i hn
    have hn' : getKey key l = none := by cases e : getKey key l with | none => rfl | some v => rw [e] at hn; exact absurd rfl hn
    have hne := getKey_none_iff.1 hn'
    have hsplit : Rise (l.take (below key l) ++ l.drop (below key l)) := by rw [List.take_append_drop]; exact h
    have hp := List.pairwise_append.1 hsplit
    refine List.pairwise_append.2 ⟨hp.1, List.Pairwise.cons (fun p hp' => below_dropR h p hp') hp.2.1, ?_⟩
    intro p hp1 q hq
    have hpk : ltB p.1 key = true := by
      have h1 := below_take p hp1
      cases h2 : ltB p.1 key
      · exact absurd (ltB_total h2 h1) (hne p (List.mem_of_mem_take hp1))
      · rfl
    rcases List.mem_cons.1 hq with e | e
    · subst e; exact hpk
    · exact hp.2.2 p hp1 q e
theorem pairsOk_put {key val : ByteArray} {l : List Pr} (h : pairsOk l = true) (hk : keyOk key = true) (hv : val.size ≤ 20) (hl : l.length ≠ 60) : pairsOk (putKey key val l) = true := by
  obtain ⟨⟨h1, h2⟩, h3⟩ := (pairsOk_iff l).1 h
  refine (pairsOk_iff _).2 ⟨⟨fun p hp => ?_, rise_put h2⟩, by have := putKey_length key val l; omega⟩
  rcases putKey_mem hp with e | e
  · exact h1 p e
  · subst e; unfold pairOk; rw [hk]; simpa using hv
theorem pairsOk_del {key : ByteArray} {l : List Pr} (h1 : ∀ p ∈ l, pairOk p = true) (h2 : Rise l) (h3 : (delKey key l).length ≤ 60) : pairsOk (delKey key l) = true :=
  (pairsOk_iff _).2 ⟨⟨fun p hp => h1 p (List.mem_filter.1 hp).1, List.Pairwise.filter _ h2⟩, h3⟩

/-! ### between -/
theorem ltB_empty (a : ByteArray) : ltB a ⟨#[]⟩ = false := by
  rw [Bool.eq_false_iff]; intro h; exact absurd ((ltB_iff a ⟨#[]⟩).1 h) (by simp)
theorem inB_open (lo k : ByteArray) : inB lo ⟨#[]⟩ k = !ltB k lo := by
  unfold inB; rw [decide_eq_true (show (⟨#[]⟩ : ByteArray).size = 0 from rfl)]; simp
theorem between_all (l : List Pr) : between ⟨#[]⟩ ⟨#[]⟩ l = l := by
  unfold between
  rw [List.filter_eq_self]
  intro p _
  unfold inB; rw [ltB_empty]; rfl
theorem between_len (lo hi : ByteArray) (l : List Pr) (h0 : hi.size ≠ 0) (h : ltB hi lo = false) : (between lo ⟨#[]⟩ l).length = (between lo hi l).length + (between hi ⟨#[]⟩ l).length := by
  unfold between
  induction l with
  | nil => rfl
  | cons p l ih =>
    have e1 := inB_open lo p.1
    have e2 : inB lo hi p.1 = (!ltB p.1 lo && ltB p.1 hi) := by unfold inB; simp [h0]
    have e3 := inB_open hi p.1
    simp only [List.filter_cons, e1, e2, e3]
    cases a1 : ltB p.1 lo
    · cases a2 : ltB p.1 hi
      · simp [a1, a2]; omega
      · simp [a1, a2]; omega
    · have a2 : ltB p.1 hi = true := by
        cases a2 : ltB p.1 hi
        · cases a3 : ltB lo hi
          · have := ltB_total h a3; rw [← this] at a1; rw [a1] at a2; cases a2
          · exact absurd (ltB_trans a1 a3) (by rw [a2]; simp)
        · rfl
      simp [a1, a2]; omega
theorem between_split (lo hi : ByteArray) (l : List Pr) (h0 : hi.size ≠ 0) (h : ltB hi lo = false) (hr : Rise l) : between lo ⟨#[]⟩ l = between lo hi l ++ between hi ⟨#[]⟩ l := by
  unfold between
  induction l with
  | nil => rfl
  | cons p l ih =>
    have hr' := List.pairwise_cons.1 hr
    have ih' := ih hr'.2
    have e1 := inB_open lo
    have e2 : ∀ k, inB lo hi k = (!ltB k lo && ltB k hi) := fun k => by unfold inB; simp [h0]
    have e3 := inB_open hi
    cases a1 : ltB p.1 lo
    · cases a2 : ltB p.1 hi
      · have hnone : l.filter (fun p => inB lo hi p.1) = [] := by
          rw [List.filter_eq_nil_iff]
          intro q hq
          rw [e2]
          have h4 := hr'.1 q hq
          have : ltB q.1 hi = false := by
            cases h5 : ltB q.1 hi
            · rfl
            · exact absurd (ltB_trans h4 h5) (by rw [a2]; simp)
          simp [this]
        rw [hnone, List.nil_append] at ih'
        rw [List.filter_cons_of_pos (by rw [e1, a1]; rfl), List.filter_cons_of_neg (by rw [e2, a1, a2]; simp), List.filter_cons_of_pos (by rw [e3, a2]; rfl), hnone, ih']; rfl
      · rw [List.filter_cons_of_pos (by rw [e1, a1]; rfl), List.filter_cons_of_pos (by rw [e2, a1, a2]; rfl), List.filter_cons_of_neg (by rw [e3, a2]; simp), ih']; rfl
    · have a2 : ltB p.1 hi = true := by
        cases a2 : ltB p.1 hi
        · cases a3 : ltB lo hi
          · have := ltB_total h a3; rw [← this] at a1; rw [a1] at a2; cases a2
          · exact absurd (ltB_trans a1 a3) (by rw [a2]; simp)
        · rfl
      rw [List.filter_cons_of_neg (by rw [e1, a1]; simp), List.filter_cons_of_neg (by rw [e2, a1]; simp), List.filter_cons_of_neg (by rw [e3, a2]; simp), ih']

/-! ### union -/
theorem unionOf_cons (a : List Pr) (p : Pr) (b : List Pr) : unionOf a (p :: b) = unionOf (putKey p.1 p.2 a) b := rfl
theorem getKey_union_other (a b : List Pr) (k : ByteArray) (h : ∀ p ∈ b, p.1 ≠ k) : getKey k (unionOf a b) = getKey k a := by
  induction b generalizing a with
  | nil => rfl
  | cons p b ih =>
    rw [unionOf_cons, ih _ (fun q hq => h q (List.mem_cons_of_mem _ hq)), getKey_put_other _ _ (h p List.mem_cons_self).symm]
theorem getKey_union (a b : List Pr) (hr : Rise b) : ∀ p ∈ b, getKey p.1 (unionOf a b) = some p.2 := by
  induction b generalizing a with
  | nil => intro p hp; exact absurd hp List.not_mem_nil
  | cons q b ih =>
    have hr' := List.pairwise_cons.1 hr
    intro p hp
    rw [unionOf_cons]
    rcases List.mem_cons.1 hp with e | e
    · subst e
      rw [getKey_union_other _ _ _ (fun r hr2 => (ltB_ne (hr'.1 r hr2)).symm), getKey_put_same]
    · exact ih _ hr'.2 p e
theorem setFirst_id {key val : ByteArray} {l : List Pr} (h : getKey key l = some val) : setFirst key val l = l := by
  induction l with
  | nil => rfl
  | cons p l ih =>
    rw [getKey] at h
    unfold setFirst
    by_cases hp : p.1 = key
    · rw [if_pos hp] at h ⊢; rw [← Option.some.inj h]
    · rw [if_neg hp] at h ⊢; rw [ih h]
theorem put_id {key val : ByteArray} {l : List Pr} (h : getKey key l = some val) : putKey key val l = l := by
  unfold putKey; rw [h, if_pos (by rfl), setFirst_id h]
theorem union_id (u b : List Pr) (h : ∀ p ∈ b, getKey p.1 u = some p.2) : unionOf u b = u := by
  induction b with
  | nil => rfl
  | cons p b ih => rw [unionOf_cons, put_id (h p List.mem_cons_self), ih (fun q hq => h q (List.mem_cons_of_mem _ hq))]
theorem union_len (a b : List Pr) : a.length ≤ (unionOf a b).length ∧ (unionOf a b).length ≤ a.length + b.length := by
  induction b generalizing a with
  | nil => simp [unionOf]
  | cons p b ih =>
    have := ih (putKey p.1 p.2 a)
    have := putKey_length p.1 p.2 a
    rw [unionOf_cons, List.length_cons]; omega

end Go.Proofs.YtggdgceglmbaiaaGreatDoor.pairs

namespace Go.Proofs.YtggdgceglmbaiaaGreatDoor.help
open Go.RowKit Go.Proofs.YtggdgceglmbaiaaGreatDoor.base
set_option linter.unusedVariables false
set_option linter.unusedSimpArgs false

/-- copying: behind k rounds the first k cells are the argument's, the others nought -/
def copyTo (bs : List UInt8) (k : Nat) : List UInt8 := bs.take k ++ List.replicate (bs.length - k) 0
theorem copyTo_length (bs : List UInt8) (k : Nat) (h : k ≤ bs.length) : (copyTo bs k).length = bs.length := by simp [copyTo]; omega
theorem copyTo_zero (bs : List UInt8) : copyTo bs 0 = List.replicate bs.length 0 := by simp [copyTo]
theorem copyTo_all (bs : List UInt8) : copyTo bs bs.length = bs := by simp [copyTo]
theorem copyTo_set (bs : List UInt8) (k : Nat) (h : k < bs.length) : (copyTo bs k).set k bs[k] = copyTo bs (k + 1) := by
  apply List.ext_getElem?
  intro j
  simp only [copyTo, List.getElem?_set, List.getElem?_append, List.length_append, List.length_take, List.length_replicate, List.getElem?_take, List.getElem?_replicate]
  have e : min k bs.length = k := by omega
  have e1 : min (k + 1) bs.length = k + 1 := by omega
  rw [e, e1]
  by_cases hj : j = k
  · subst hj; simp [h]; omega
  · by_cases h1 : j < k
    · simp [h1, show ¬ k = j by omega, show j < k + 1 by omega]
    · simp [h1, show ¬ k = j by omega, show ¬ j < k + 1 by omega, show (j - k < bs.length - k ↔ j - (k + 1) < bs.length - (k + 1)) by omega]
theorem take_eq {bs bs2 : List UInt8} {k : Nat} (h : bs.take k = bs2.take k) (h1 : k < bs.length) (h2 : k < bs2.length) (e : bs[k] = bs2[k]) : bs.take (k + 1) = bs2.take (k + 1) := by
  rw [List.take_succ_eq_append_getElem h1, List.take_succ_eq_append_getElem h2, h, e]

def markTo (bs : List UInt8) (k0 : Nat) (i : Nat) : List UInt8 := (List.range i).map (fun j => UInt8.ofNat (k0 + j)) ++ bs.drop i
theorem markTo_length (bs : List UInt8) (k0 i : Nat) (h : i ≤ bs.length) : (markTo bs k0 i).length = bs.length := by simp [markTo]; omega
theorem markTo_zero (bs : List UInt8) (k0 : Nat) : markTo bs k0 0 = bs := by simp [markTo]
theorem markTo_set (bs : List UInt8) (k0 i : Nat) (h : i < bs.length) : (markTo bs k0 i).set i (UInt8.ofNat (k0 + i)) = markTo bs k0 (i + 1) := by
  unfold markTo
  rw [List.set_append_right _ _ (by simp)]
  simp only [List.length_map, List.length_range, Nat.sub_self, List.range_succ, List.map_append, List.map_cons, List.map_nil, List.append_assoc]
  congr 1
  rw [List.drop_eq_getElem_cons h]
  rfl
/-- what markByteS leaves in n bytes, from k0 on -/
def marks (k0 n : Nat) : List UInt8 := (List.range n).map (fun j => UInt8.ofNat (k0 + j))
theorem markTo_all (bs : List UInt8) (k0 : Nat) : markTo bs k0 bs.length = marks k0 bs.length := by simp [markTo, marks]
end Go.Proofs.YtggdgceglmbaiaaGreatDoor.help

namespace Go.Proofs.YtggdgceglmbaiaaGreatDoor.getnum
open Go.RowKit Go.Proofs.YtggdgceglmbaiaaGreatDoor.base Go.Proofs.YtggdgceglmbaiaaGreatDoor.help
set_option linter.unusedVariables false
set_option linter.unusedSimpArgs false

/-- k groups are read, n of them so far -/
def getGo : List UInt8 → Nat → Nat → Option (Nat × Nat)
  | [], _, _ => none
  | c :: l, k, n =>
    if 5 ≤ k then none
    else if 128 ≤ c.toNat then getGo l (k + 1) (n + c.toNat % 128 * 128 ^ k)
    else if 1000000000 < n + c.toNat % 128 * 128 ^ k ∨ (c.toNat = 0 ∧ 0 < k) then none
    else some (n + c.toNat % 128 * 128 ^ k, k + 1)
def getNum (bs : List UInt8) (at_ : Int) : Option (Nat × Nat) := if at_ < 0 then none else getGo (bs.drop at_.toNat) 0 0
def numRet (at_ : Int) : Option (Nat × Nat) → Value
  | none => .tuple #[.int .i64 0, .int .i64 0, .bool false]
  | some (n, k) => .tuple #[.int .i64 (n : Nat), .int .i64 (at_ + (k : Nat)), .bool true]

theorem tup3 {a b c d : Int} {t : Bool} (h : a = b) (h2 : c = d) : Ending.returned (.tuple #[.int .i64 a, .int .i64 c, .bool t]) = .returned (.tuple #[.int .i64 b, .int .i64 d, .bool t]) := by rw [h, h2]

theorem getGo_step (bs : List UInt8) (p k n : Nat) (h : p < bs.length) (hk : k < 5) : getGo (bs.drop p) k n =
    if 128 ≤ bs[p].toNat then getGo (bs.drop (p + 1)) (k + 1) (n + bs[p].toNat % 128 * 128 ^ k)
    else if 1000000000 < n + bs[p].toNat % 128 * 128 ^ k ∨ (bs[p].toNat = 0 ∧ 0 < k) then none
    else some (n + bs[p].toNat % 128 * 128 ^ k, k + 1) := by
  rw [List.drop_eq_getElem_cons h, getGo, if_neg (by omega)]
theorem getGo_end (bs : List UInt8) (p k n : Nat) (h : bs.length ≤ p) : getGo (bs.drop p) k n = none := by
  rw [List.drop_eq_nil_of_le h, getGo]
theorem getGo_five (l : List UInt8) (k n : Nat) (h : 5 ≤ k) : getGo l k n = none := by
  cases l with
  | nil => rw [getGo]
  | cons c l => rw [getGo, if_pos h]

end Go.Proofs.YtggdgceglmbaiaaGreatDoor.getnum

namespace Go.Proofs.YtggdgceglmbaiaaGreatDoor.getnum
open Go.RowKit Go.Proofs.YtggdgceglmbaiaaGreatDoor.base Go.Proofs.YtggdgceglmbaiaaGreatDoor.help
set_option linter.unusedVariables false
set_option linter.unusedSimpArgs false

theorem pow_seven (k : Nat) : 2 ^ (7 * k) = 128 ^ k := by rw [Nat.pow_mul]
theorem or_step (m c k : Nat) (hm : m < 128 ^ k) (hc : c < 256) (hk : k < 5) :
    bits .or .i64 (m : Int) (wrap64 (bits .and .i64 (c : Int) 127 * 2 ^ (7 * k))) = ((m + c % 128 * 128 ^ k : Nat) : Int) := by
  have h1 : 128 ^ k ≤ 268435456 := Nat.le_trans (Nat.pow_le_pow_right (n := 128) (by omega) (show k ≤ 4 by omega)) (by decide)
  have h2 : c % 128 * 128 ^ k ≤ 127 * 268435456 := Nat.mul_le_mul (by omega) h1
  have hand : bits .and .i64 (c : Int) 127 = ((c % 128 : Nat) : Int) := by
    rw [show (127 : Int) = 2 ^ 7 - 1 from rfl, bits_mask .i64 63 (by decide) wraps_i64 7 (by decide) (c : Int) (by omega) (by omega)]
    omega
  have hpw : ((c % 128 : Nat) : Int) * 2 ^ (7 * k) = ((c % 128 * 128 ^ k : Nat) : Int) := by
    rw [← pow_seven k, Int.natCast_mul, Int.natCast_pow]; rfl
  rw [hand, hpw, IntWalk.wrap64_in _ (by omega), (bits_nat .i64 63 (by decide) wraps_i64 m (c % 128 * 128 ^ k) (by omega) (by omega)).2, Nat.or_comm,
    nat_join (7 * k) _ m (by rw [pow_seven]; exact Nat.mul_mod_left _ _) (by rw [pow_seven]; exact hm), Nat.add_comm]

end Go.Proofs.YtggdgceglmbaiaaGreatDoor.getnum

namespace Go.Proofs.YtggdgceglmbaiaaGreatDoor.gettext
open Go.RowKit Go.Proofs.YtggdgceglmbaiaaGreatDoor.base Go.Proofs.YtggdgceglmbaiaaGreatDoor.help Go.Proofs.YtggdgceglmbaiaaGreatDoor.getnum
set_option linter.unusedVariables false
set_option linter.unusedSimpArgs false

def getText (bs : List UInt8) (at_ : Int) : Option (ByteArray × Nat) :=
  match getNum bs at_ with
  | none => none
  | some (n, k) => if bs.length < at_.toNat + k + n then none else some (cut bs (at_.toNat + k) n, k + n)
def textRet (at_ : Int) : Option (ByteArray × Nat) → Value
  | none => .tuple #[.string ⟨#[]⟩, .int .i64 0, .bool false]
  | some (s, k) => .tuple #[.string s, .int .i64 (at_ + (k : Nat)), .bool true]

theorem getGo_some (l : List UInt8) (k n m j : Nat) (h : getGo l k n = some (m, j)) : k < j ∧ j ≤ 5 ∧ j - k ≤ l.length ∧ m ≤ 1000000000 := by
  induction l generalizing k n with
  | nil => simp [getGo] at h
  | cons c l ih =>
    rw [getGo] at h
    split at h
    · simp at h
    · split at h
      · have := ih _ _ h; simp only [List.length_cons]; omega
      · split at h
        · simp at h
        · simp only [Option.some.injEq, Prod.mk.injEq] at h
          simp only [List.length_cons]
          omega
theorem getNum_some {bs : List UInt8} {at_ : Int} {n k : Nat} (h : getNum bs at_ = some (n, k)) : 0 ≤ at_ ∧ 1 ≤ k ∧ k ≤ 5 ∧ at_.toNat + k ≤ bs.length ∧ n ≤ 1000000000 := by
  unfold getNum at h
  split at h
  · simp at h
  · have := getGo_some _ _ _ _ _ h
    simp only [List.length_drop] at this
    omega
theorem tupS {s t : ByteArray} {c d : Int} {b : Bool} (h : s = t) (h2 : c = d) : Ending.returned (.tuple #[.string s, .int .i64 c, .bool b]) = .returned (.tuple #[.string t, .int .i64 d, .bool b]) := by rw [h, h2]


end Go.Proofs.YtggdgceglmbaiaaGreatDoor.gettext
