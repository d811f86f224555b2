/- Plain mathematics of one who decides: what is right. -/
import Derived.Test.YtmpggohilmngpaaOrdMath
namespace Go.Proofs.Ytmpggohilmngpaa.cos
open Go Go.RowKit Go.Proofs.Ytmpggohilmngpaa.base Go.Proofs.Ytmpggohilmngpaa.pairs Go.Proofs.Ytmpggohilmngpaa.ords
set_option linter.unusedVariables false
set_option linter.unusedSimpArgs false

/-- transaction, orders, state, the shards that said yes -/
abbrev Jb := Int × List Od × Int × List Int
/-- transaction, what was decided -/
abbrev Ch := Int × Bool
/-- how many shards, life, next, jobs, choices, how many are sure -/
abbrev Co := Int × Int × Int × List Jb × List Ch × Int
def chosen (l : List Ch) (tx : Int) : Option Nat := l.findIdx? fun c => decide (c.1 = tx)
def jobAt (l : List Jb) (tx : Int) : Option Nat := l.findIdx? fun j => decide (j.1 = tx)
def idx (r : Option Nat) : Int := match r with | none => -1 | some k => (k : Int)
/-- what was decided -/
def choice (l : List Ch) (tx : Int) : Option Bool := (l.find? fun c => decide (c.1 = tx)).map fun c => c.2
def yesOk (list : List Int) : Option Int → List Int → Bool
  | _, [] => true
  | p, x :: r => (decide (x ∈ list) && match p with | none => true | some q => decide (q < x)) && yesOk list (some x) r
def stateOk (st : Int) : Option Bool → Bool
  | none => decide (st = 1)
  | some true => decide (st = 2)
  | some false => decide (st = 3)
def jobOk (n life next : Int) (log : List Ch) (p : Option Int) (j : Jb) : Bool :=
  decide (life * 1000 ≤ j.1 ∧ j.1 ≤ life * 1000 + next - 1) && (match p with | none => true | some q => decide (q < j.1)) && opsOk j.2.1 && decide (1 ≤ j.2.2.1 ∧ j.2.2.1 ≤ 3) && yesOk (shardsOf n j.2.1) none j.2.2.2 && stateOk j.2.2.1 (choice log j.1)
def jobsOk (n life next : Int) (log : List Ch) : Option Int → List Jb → Bool
  | _, [] => true
  | p, j :: r => jobOk n life next log p j && jobsOk n life next log (some j.1) r
def logOk (hi : Int) (log : List Ch) : Bool := log.all (fun c => decide (1000 ≤ c.1 ∧ c.1 ≤ hi)) && decide ((log.map fun c => c.1).Nodup)
def headOk (c : Co) : Bool := decide (1 ≤ c.1 ∧ c.1 ≤ 8) && decide (1 ≤ c.2.1 ∧ c.2.1 ≤ 900) && decide (0 ≤ c.2.2.1 ∧ c.2.2.1 ≤ 999) && decide (c.2.2.2.2.1.length ≤ 1000) && decide (0 ≤ c.2.2.2.2.2 ∧ c.2.2.2.2.2 ≤ (c.2.2.2.2.1.length : Int))
def coordOk (c : Co) : Bool := headOk c && logOk (c.2.1 * 1000 + c.2.2.1 - 1) c.2.2.2.2.1 && jobsOk c.1 c.2.1 c.2.2.1 c.2.2.2.2.1 none c.2.2.2.1

/-! ### places -/
theorem findIdx?_go {α : Type} (p : α → Bool) (l : List α) (k : Nat) (hk : k ≤ l.length) (h : ∀ i (hi : i < k), p (l[i]'(by omega)) = false) : l.findIdx? p = ((l.drop k).findIdx? p).map (· + k) := by
  induction k generalizing l with
  | zero => simp
  | succ k ih =>
    cases l with
    | nil => simp at hk
    | cons x l =>
      have h0 : p x = false := h 0 (by omega)
      rw [List.findIdx?_cons, h0]
      simp only [Bool.false_eq_true, if_false, List.drop_succ_cons]
      rw [ih l (by simpa using hk) (fun i hi => by simpa using h (i + 1) (by omega))]
      cases (l.drop k).findIdx? p <;> simp [Nat.add_assoc]
theorem findIdx_hit {α : Type} {p : α → Bool} {l : List α} {k : Nat} (hk : k < l.length) (h : ∀ i (hi : i < k), p (l[i]'(by omega)) = false) (hp : p l[k] = true) : l.findIdx? p = some k := by
  rw [findIdx?_go p l k (by omega) h, List.drop_eq_getElem_cons hk, List.findIdx?_cons, hp]
  simp
theorem findIdx_none {α : Type} {p : α → Bool} {l : List α} (h : ∀ i (hi : i < l.length), p l[i] = false) : l.findIdx? p = none := by
  rw [findIdx?_go p l l.length (Nat.le_refl _) (fun i hi => h i hi), List.drop_length]
  rfl
theorem findIdx_some {α : Type} {p : α → Bool} {l : List α} {k : Nat} (h : l.findIdx? p = some k) : ∃ hk : k < l.length, p l[k] = true ∧ ∀ i (hi : i < k), p (l[i]'(by omega)) = false := by
  induction l generalizing k with
  | nil => simp at h
  | cons x l ih =>
    rw [List.findIdx?_cons] at h
    cases hx : p x
    · rw [hx] at h
      simp only [Bool.false_eq_true, if_false] at h
      cases h2 : l.findIdx? p with
      | none => rw [h2] at h; cases h
      | some j =>
        rw [h2] at h
        simp only [Option.map_some, Option.some.injEq] at h
        subst h
        obtain ⟨hj, hp, hb⟩ := ih h2
        refine ⟨by simp; omega, by simpa using hp, fun i hi => ?_⟩
        cases i with
        | zero => exact hx
        | succ i => simpa using hb i (by omega)
    · rw [hx] at h
      simp only [if_true, Option.some.injEq] at h
      subst h
      exact ⟨by simp, hx, fun i hi => absurd hi (by omega)⟩
theorem find_of_idx {α : Type} {p : α → Bool} {l : List α} : (∀ k, l.findIdx? p = some k → ∃ hk : k < l.length, l.find? p = some l[k]) ∧ (l.findIdx? p = none → l.find? p = none) := by
  induction l with
  | nil => exact ⟨fun k h => by simp at h, fun _ => rfl⟩
  | cons x l ih =>
    constructor
    · intro k h
      rw [List.findIdx?_cons] at h
      cases hx : p x
      · rw [hx] at h
        simp only [Bool.false_eq_true, if_false] at h
        cases h2 : l.findIdx? p with
        | none => rw [h2] at h; cases h
        | some j =>
          rw [h2] at h
          simp only [Option.map_some, Option.some.injEq] at h
          subst h
          obtain ⟨hj, e⟩ := ih.1 j h2
          exact ⟨by simp; omega, by rw [List.find?_cons, hx]; simpa using e⟩
      · rw [hx] at h
        simp only [if_true, Option.some.injEq] at h
        subst h
        exact ⟨by simp, by rw [List.find?_cons, hx]; rfl⟩
    · intro h
      rw [List.findIdx?_cons] at h
      cases hx : p x
      · rw [hx] at h
        simp only [Bool.false_eq_true, if_false, Option.map_eq_none_iff] at h
        rw [List.find?_cons, hx]
        exact ih.2 h
      · rw [hx] at h; cases h
theorem choice_some {log : List Ch} {tx : Int} {k : Nat} (h : chosen log tx = some k) : ∃ hk : k < log.length, choice log tx = some log[k].2 := by
  obtain ⟨hk, e⟩ := find_of_idx.1 k h
  exact ⟨hk, by unfold choice; rw [e]; rfl⟩
theorem choice_none {log : List Ch} {tx : Int} (h : chosen log tx = none) : choice log tx = none := by
  unfold choice; rw [find_of_idx.2 h]; rfl
/-- the choices are of unlike transactions just if each is found at its own place -/
theorem nodup_iff {log : List Ch} : (log.map fun c => c.1).Nodup ↔ ∀ i (hi : i < log.length), chosen log log[i].1 = some i := by
  constructor
  · intro h i hi
    refine findIdx_hit hi (fun j hj => decide_eq_false fun e => ?_) (decide_eq_true rfl)
    have := List.pairwise_iff_getElem.1 h j i (by simp; omega) (by simpa using hi) hj
    simp only [List.getElem_map] at this
    exact this e
  · intro h
    refine List.pairwise_iff_getElem.2 fun i j hi hj hij => ?_
    simp only [List.getElem_map]
    intro e
    simp only [List.length_map] at hi hj
    have h1 := h j hj
    rw [← e, h i hi] at h1
    simp only [Option.some.injEq] at h1
    omega
end Go.Proofs.Ytmpggohilmngpaa.cos
