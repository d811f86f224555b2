/- Plain mathematics of the laws on pairs. -/
import Derived.Test.YtmpggohilmngpaaPairMath
namespace Go.Proofs.Ytmpggohilmngpaa.pairs
open Go
set_option linter.unusedVariables false
set_option linter.unusedSimpArgs false

/-! ### rising lists -/
def Rise (l : List Pr) : Prop := l.Pairwise fun p q => ltB p.1 q.1 = true
theorem okFrom_iff (o : Option ByteArray) (l : List Pr) : okFrom o l = true ↔ (∀ p ∈ l, pairOk p = true) ∧ Rise l ∧ ∀ k, o = some k → ∀ p ∈ l, ltB k p.1 = true := by
  induction l generalizing o with
  | nil => cases o <;> simp [okFrom, Rise]
  | cons q l ih =>
    have hq := ih (some q.1)
    constructor
    · intro h
      have h' : pairOk q = true ∧ (∀ k, o = some k → ltB k q.1 = true) ∧ okFrom (some q.1) l = true := by
        cases o with
        | none => simp only [okFrom, Bool.and_eq_true] at h; exact ⟨h.1, (fun k e => by cases e), h.2⟩
        | some k => simp only [okFrom, Bool.and_eq_true] at h; exact ⟨h.1.1, (fun k' e => by cases e; exact h.1.2), h.2⟩
      obtain ⟨h1, h2, h3⟩ := h'
      obtain ⟨a1, a2, a3⟩ := hq.1 h3
      refine ⟨?_, ?_, ?_⟩
      · intro p hp
        rcases List.mem_cons.1 hp with e | e
        · subst e; exact h1
        · exact a1 p e
      · exact List.Pairwise.cons (fun p hp => a3 _ rfl p hp) a2
      · intro k hk p hp
        rcases List.mem_cons.1 hp with e | e
        · subst e; exact h2 k hk
        · exact ltB_trans (h2 k hk) (a3 _ rfl p e)
    · rintro ⟨h1, h2, h3⟩
      have hr := List.pairwise_cons.1 h2
      have h4 : okFrom (some q.1) l = true := hq.2 ⟨fun p hp => h1 p (List.mem_cons_of_mem _ hp), hr.2, fun k e p hp => by cases e; exact hr.1 p hp⟩
      cases o with
      | none => simp only [okFrom, Bool.and_eq_true]; exact ⟨h1 q List.mem_cons_self, h4⟩
      | some k => simp only [okFrom, Bool.and_eq_true]; exact ⟨⟨h1 q List.mem_cons_self, h3 k rfl q List.mem_cons_self⟩, h4⟩
theorem pairsOk_iff (l : List Pr) : pairsOk l = true ↔ ((∀ p ∈ l, pairOk p = true) ∧ Rise l) ∧ l.length ≤ 60 := by
  unfold pairsOk
  rw [Bool.and_eq_true, okFrom_iff, decide_eq_true_iff]
  constructor
  · rintro ⟨⟨a, b, _⟩, c⟩; exact ⟨⟨a, b⟩, c⟩
  · rintro ⟨⟨a, b⟩, c⟩; exact ⟨⟨a, b, fun k e => by cases e⟩, c⟩

/-! ### what is got -/
theorem getKey_some_mem {key v : ByteArray} {l : List Pr} (h : getKey key l = some v) : (key, v) ∈ l := by
  induction l with
  | nil => cases h
  | cons p l ih =>
    rw [getKey] at h
    by_cases hp : p.1 = key
    · rw [if_pos hp] at h
      have : p.2 = v := Option.some.inj h
      subst hp; subst this; exact List.mem_cons_self
    · rw [if_neg hp] at h; exact List.mem_cons_of_mem _ (ih h)
theorem getKey_none_iff {key : ByteArray} {l : List Pr} : getKey key l = none ↔ ∀ p ∈ l, p.1 ≠ key := by
  induction l with
  | nil => simp [getKey]
  | cons p l ih =>
    rw [getKey]
    by_cases hp : p.1 = key
    · rw [if_pos hp]
      exact ⟨fun h => (by cases h), fun h => absurd hp (h p List.mem_cons_self)⟩
    · rw [if_neg hp, ih]; simp [hp]
theorem getKey_isSome {l : List Pr} {p : Pr} (h : p ∈ l) : ∃ v, getKey p.1 l = some v := by
  cases e : getKey p.1 l with
  | some v => exact ⟨v, rfl⟩
  | none => exact absurd rfl (getKey_none_iff.1 e p h)
theorem getKey_setFirst_same {key val : ByteArray} {l : List Pr} (h : (getKey key l).isSome = true) : getKey key (setFirst key val l) = some val := by
  induction l with
  | nil => cases h
  | cons p l ih =>
    rw [getKey] at h
    by_cases hp : p.1 = key
    · rw [setFirst, if_pos hp, getKey, if_pos hp]
    · rw [if_neg hp] at h; rw [setFirst, if_neg hp, getKey, if_neg hp]; exact ih h
theorem getKey_setFirst_other {key val k : ByteArray} {l : List Pr} (h : k ≠ key) : getKey k (setFirst key val l) = getKey k l := by
  induction l with
  | nil => rfl
  | cons p l ih =>
    by_cases hp : p.1 = key
    · rw [setFirst, if_pos hp, getKey, getKey, if_neg (by rw [hp]; exact h.symm), if_neg (by rw [hp]; exact h.symm)]
    · rw [setFirst, if_neg hp, getKey, getKey, ih]
theorem getKey_put_same (key val : ByteArray) (l : List Pr) : getKey key (putKey key val l) = some val := by
  unfold putKey
  split
  · rename_i h; exact getKey_setFirst_same h
  · rename_i h
    have hn : getKey key l = none := by cases e : getKey key l with | none => rfl | some v => rw [e] at h; exact absurd rfl h
    have h1 := getKey_none_iff.1 hn
    rw [getKey_append, getKey_none_iff.2 (fun p hp => h1 p (List.mem_of_mem_take hp)), getKey, if_pos rfl]; rfl
theorem getKey_put_other {key k : ByteArray} (val : ByteArray) (l : List Pr) (h : k ≠ key) : getKey k (putKey key val l) = getKey k l := by
  unfold putKey
  split
  · exact getKey_setFirst_other h
  · rw [getKey_append, getKey, if_neg h.symm, ← getKey_append, List.take_append_drop]
theorem getKey_del_same (key : ByteArray) (l : List Pr) : getKey key (delKey key l) = none :=
  getKey_none_iff.2 fun p hp => of_decide_eq_true (List.mem_filter.1 hp).2
theorem getKey_del_other {key k : ByteArray} (l : List Pr) (h : k ≠ key) : getKey k (delKey key l) = getKey k l := by
  unfold delKey
  induction l with
  | nil => rfl
  | cons p l ih =>
    by_cases hp : p.1 = key
    · rw [List.filter_cons_of_neg (by simp [hp]), ih, getKey, if_neg (by rw [hp]; exact h.symm)]
    · rw [List.filter_cons_of_pos (by simp [hp]), getKey, getKey, ih]

/-! ### pairs that stay right -/
theorem setFirst_keys (key val : ByteArray) (l : List Pr) : (setFirst key val l).map (·.1) = l.map (·.1) := by
  induction l with
  | nil => rfl
  | cons p l ih => unfold setFirst; split <;> simp [ih]
theorem rise_keys {l m : List Pr} (h : l.map (·.1) = m.map (·.1)) (hl : Rise l) : Rise m := by
  have e : ∀ l : List Pr, Rise l ↔ (l.map (·.1)).Pairwise fun a b => ltB a b = true := fun l => by unfold Rise; rw [List.pairwise_map]
  rw [e] at *; rw [← h]; exact hl
theorem setFirst_mem {key val : ByteArray} {l : List Pr} {p : Pr} (h : p ∈ setFirst key val l) : p ∈ l ∨ p = (key, val) := by
  induction l with
  | nil => exact absurd h List.not_mem_nil
  | cons q l ih =>
    unfold setFirst at h
    split at h
    · rename_i hq
      rcases List.mem_cons.1 h with e | e
      · right; rw [e, hq]
      · left; exact List.mem_cons_of_mem _ e
    · rcases List.mem_cons.1 h with e | e
      · left; rw [e]; exact List.mem_cons_self
      · rcases ih e with h1 | h1
        · left; exact List.mem_cons_of_mem _ h1
        · right; exact h1
theorem putKey_mem {key val : ByteArray} {l : List Pr} {p : Pr} (h : p ∈ putKey key val l) : p ∈ l ∨ p = (key, val) := by
  unfold putKey at h
  split at h
  · exact setFirst_mem h
  · rcases List.mem_append.1 h with h1 | h1
    · left; exact List.mem_of_mem_take h1
    · rcases List.mem_cons.1 h1 with h2 | h2
      · right; exact h2
      · left; exact List.mem_of_mem_drop h2
theorem below_take {key : ByteArray} {l : List Pr} : ∀ p ∈ l.take (below key l), ltB key p.1 = false := by
  induction l with
  | nil => intro p hp; exact absurd hp (by simp)
  | cons q l ih =>
    intro p hp
    unfold below at hp
    split at hp
    · exact absurd hp (by simp)
    · rename_i hq
      rw [List.take_succ_cons] at hp
      rcases List.mem_cons.1 hp with e | e
      · subst e; simpa using hq
      · exact ih p e
theorem below_dropR {key : ByteArray} {l : List Pr} (hr : Rise l) : ∀ p ∈ l.drop (below key l), ltB key p.1 = true := by
  induction l with
  | nil => intro p hp; exact absurd hp (by simp)
  | cons q l ih =>
    have hr' := List.pairwise_cons.1 hr
    intro p hp
    unfold below at hp
    split at hp
    · rename_i hq
      rw [List.drop_zero] at hp
      rcases List.mem_cons.1 hp with e | e
      · subst e; exact hq
      · exact ltB_trans hq (hr'.1 p e)
    · rw [List.drop_succ_cons] at hp; exact ih hr'.2 p hp
theorem rise_put {key val : ByteArray} {l : List Pr} (h : Rise l) : Rise (putKey key val l) := by
  unfold putKey
  split
  · exact rise_keys (setFirst_keys key val l).symm h
  · rename_i hn
    have hn' : getKey key l = none := by cases e : getKey key l with | none => rfl | some v => rw [e] at hn; exact absurd rfl hn
    have hne := getKey_none_iff.1 hn'
    have hsplit : Rise (l.take (below key l) ++ l.drop (below key l)) := by rw [List.take_append_drop]; exact h
    have hp := List.pairwise_append.1 hsplit
    refine List.pairwise_append.2 ⟨hp.1, List.Pairwise.cons (fun p hp' => below_dropR h p hp') hp.2.1, ?_⟩
    intro p hp1 q hq
    have hpk : ltB p.1 key = true := by
      have h1 := below_take p hp1
      cases h2 : ltB p.1 key
      · exact absurd (ltB_total h2 h1) (hne p (List.mem_of_mem_take hp1))
      · rfl
    rcases List.mem_cons.1 hq with e | e
    · subst e; exact hpk
    · exact hp.2.2 p hp1 q e
theorem pairsOk_put {key val : ByteArray} {l : List Pr} (h : pairsOk l = true) (hk : keyOk key = true) (hv : val.size ≤ 20) (hl : l.length ≠ 60) : pairsOk (putKey key val l) = true := by
  obtain ⟨⟨h1, h2⟩, h3⟩ := (pairsOk_iff l).1 h
  refine (pairsOk_iff _).2 ⟨⟨fun p hp => ?_, rise_put h2⟩, by have := putKey_length key val l; omega⟩
  rcases putKey_mem hp with e | e
  · exact h1 p e
  · subst e; unfold pairOk; rw [hk]; simpa using hv
theorem pairsOk_del {key : ByteArray} {l : List Pr} (h1 : ∀ p ∈ l, pairOk p = true) (h2 : Rise l) (h3 : (delKey key l).length ≤ 60) : pairsOk (delKey key l) = true :=
  (pairsOk_iff _).2 ⟨⟨fun p hp => h1 p (List.mem_filter.1 hp).1, List.Pairwise.filter _ h2⟩, h3⟩

/-! ### between -/
theorem ltB_empty (a : ByteArray) : ltB a ⟨#[]⟩ = false := by
  rw [Bool.eq_false_iff]; intro h; exact absurd ((ltB_iff a ⟨#[]⟩).1 h) (by simp)
theorem inB_open (lo k : ByteArray) : inB lo ⟨#[]⟩ k = !ltB k lo := by
  unfold inB; rw [decide_eq_true (show (⟨#[]⟩ : ByteArray).size = 0 from rfl)]; simp
theorem between_all (l : List Pr) : between ⟨#[]⟩ ⟨#[]⟩ l = l := by
  unfold between
  rw [List.filter_eq_self]
  intro p _
  unfold inB; rw [ltB_empty]; rfl
theorem between_len (lo hi : ByteArray) (l : List Pr) (h0 : hi.size ≠ 0) (h : ltB hi lo = false) : (between lo ⟨#[]⟩ l).length = (between lo hi l).length + (between hi ⟨#[]⟩ l).length := by
  unfold between
  induction l with
  | nil => rfl
  | cons p l ih =>
    have e1 := inB_open lo p.1
    have e2 : inB lo hi p.1 = (!ltB p.1 lo && ltB p.1 hi) := by unfold inB; simp [h0]
    have e3 := inB_open hi p.1
    simp only [List.filter_cons, e1, e2, e3]
    cases a1 : ltB p.1 lo
    · cases a2 : ltB p.1 hi
      · simp [a1, a2]; omega
      · simp [a1, a2]; omega
    · have a2 : ltB p.1 hi = true := by
        cases a2 : ltB p.1 hi
        · cases a3 : ltB lo hi
          · have := ltB_total h a3; rw [← this] at a1; rw [a1] at a2; cases a2
          · exact absurd (ltB_trans a1 a3) (by rw [a2]; simp)
        · rfl
      simp [a1, a2]; omega
theorem between_split (lo hi : ByteArray) (l : List Pr) (h0 : hi.size ≠ 0) (h : ltB hi lo = false) (hr : Rise l) : between lo ⟨#[]⟩ l = between lo hi l ++ between hi ⟨#[]⟩ l := by
  unfold between
  induction l with
  | nil => rfl
  | cons p l ih =>
    have hr' := List.pairwise_cons.1 hr
    have ih' := ih hr'.2
    have e1 := inB_open lo
    have e2 : ∀ k, inB lo hi k = (!ltB k lo && ltB k hi) := fun k => by unfold inB; simp [h0]
    have e3 := inB_open hi
    cases a1 : ltB p.1 lo
    · cases a2 : ltB p.1 hi
      · have hnone : l.filter (fun p => inB lo hi p.1) = [] := by
          rw [List.filter_eq_nil_iff]
          intro q hq
          rw [e2]
          have h4 := hr'.1 q hq
          have : ltB q.1 hi = false := by
            cases h5 : ltB q.1 hi
            · rfl
            · exact absurd (ltB_trans h4 h5) (by rw [a2]; simp)
          simp [this]
        rw [hnone, List.nil_append] at ih'
        rw [List.filter_cons_of_pos (by rw [e1, a1]; rfl), List.filter_cons_of_neg (by rw [e2, a1, a2]; simp), List.filter_cons_of_pos (by rw [e3, a2]; rfl), hnone, ih']; rfl
      · rw [List.filter_cons_of_pos (by rw [e1, a1]; rfl), List.filter_cons_of_pos (by rw [e2, a1, a2]; rfl), List.filter_cons_of_neg (by rw [e3, a2]; simp), ih']; rfl
    · have a2 : ltB p.1 hi = true := by
        cases a2 : ltB p.1 hi
        · cases a3 : ltB lo hi
          · have := ltB_total h a3; rw [← this] at a1; rw [a1] at a2; cases a2
          · exact absurd (ltB_trans a1 a3) (by rw [a2]; simp)
        · rfl
      rw [List.filter_cons_of_neg (by rw [e1, a1]; simp), List.filter_cons_of_neg (by rw [e2, a1]; simp), List.filter_cons_of_neg (by rw [e3, a2]; simp), ih']

/-! ### union -/
theorem unionOf_cons (a : List Pr) (p : Pr) (b : List Pr) : unionOf a (p :: b) = unionOf (putKey p.1 p.2 a) b := rfl
theorem getKey_union_other (a b : List Pr) (k : ByteArray) (h : ∀ p ∈ b, p.1 ≠ k) : getKey k (unionOf a b) = getKey k a := by
  induction b generalizing a with
  | nil => rfl
  | cons p b ih =>
    rw [unionOf_cons, ih _ (fun q hq => h q (List.mem_cons_of_mem _ hq)), getKey_put_other _ _ (h p List.mem_cons_self).symm]
theorem getKey_union (a b : List Pr) (hr : Rise b) : ∀ p ∈ b, getKey p.1 (unionOf a b) = some p.2 := by
  induction b generalizing a with
  | nil => intro p hp; exact absurd hp List.not_mem_nil
  | cons q b ih =>
    have hr' := List.pairwise_cons.1 hr
    intro p hp
    rw [unionOf_cons]
    rcases List.mem_cons.1 hp with e | e
    · subst e
      rw [getKey_union_other _ _ _ (fun r hr2 => (ltB_ne (hr'.1 r hr2)).symm), getKey_put_same]
    · exact ih _ hr'.2 p e
theorem setFirst_id {key val : ByteArray} {l : List Pr} (h : getKey key l = some val) : setFirst key val l = l := by
  induction l with
  | nil => rfl
  | cons p l ih =>
    rw [getKey] at h
    unfold setFirst
    by_cases hp : p.1 = key
    · rw [if_pos hp] at h ⊢; rw [← Option.some.inj h]
    · rw [if_neg hp] at h ⊢; rw [ih h]
theorem put_id {key val : ByteArray} {l : List Pr} (h : getKey key l = some val) : putKey key val l = l := by
  unfold putKey; rw [h, if_pos (by rfl), setFirst_id h]
theorem union_id (u b : List Pr) (h : ∀ p ∈ b, getKey p.1 u = some p.2) : unionOf u b = u := by
  induction b with
  | nil => rfl
  | cons p b ih => rw [unionOf_cons, put_id (h p List.mem_cons_self), ih (fun q hq => h q (List.mem_cons_of_mem _ hq))]
theorem union_len (a b : List Pr) : a.length ≤ (unionOf a b).length ∧ (unionOf a b).length ≤ a.length + b.length := by
  induction b generalizing a with
  | nil => simp [unionOf]
  | cons p b ih =>
    have := ih (putKey p.1 p.2 a)
    have := putKey_length p.1 p.2 a
    rw [unionOf_cons, List.length_cons]; omega

end Go.Proofs.Ytmpggohilmngpaa.pairs
