/- Plain mathematics of one who decides: what is right. How jobs, choices and one who decides lie in memory. No function of the program is named here. The specification's keys and pairs: what is right, what is got. The specification's lists of pairs. -/
import Derived.Test.YtijplooogplccaaGreatShab
import Derived.Test.YtijplooogplccaaGreatShaa
import Derived.Deep.RegionHeld3
namespace Go.Proofs.YtijplooogplccaaGreat.cos
open Go Go.RowKit Go.Proofs.YtijplooogplccaaGreat.base Go.Proofs.YtijplooogplccaaGreat.pairs Go.Proofs.YtijplooogplccaaGreat.ords
set_option linter.unusedVariables false
set_option linter.unusedSimpArgs false

abbrev Jb := Int × List Od × Int × List Int
abbrev Ch := Int × Bool
abbrev Co := Int × Int × Int × List Jb × List Ch × Int
def chosen (l : List Ch) (tx : Int) : Option Nat := l.findIdx? fun c => decide (c.1 = tx)
def idx (r : Option Nat) : Int := match r with | none => -1 | some k => (k : Int)
def choice (l : List Ch) (tx : Int) : Option Bool := (l.find? fun c => decide (c.1 = tx)).map fun c => c.2
def yesOk (list : List Int) : Option Int → List Int → Bool
  | _, [] => true
  | p, x :: r => (decide (x ∈ list) && match p with | none => true | some q => decide (q < x)) && yesOk list (some x) r
def stateOk (st : Int) : Option Bool → Bool
  | none => decide (st = 1)
  | some true => decide (st = 2)
  | some false => decide (st = 3)
def jobOk (n life next : Int) (log : List Ch) (p : Option Int) (j : Jb) : Bool :=
  decide (life * 1000 ≤ j.1 ∧ j.1 ≤ life * 1000 + next - 1) && (match p with | none => true | some q => decide (q < j.1)) && opsOk j.2.1 && decide (1 ≤ j.2.2.1 ∧ j.2.2.1 ≤ 3) && yesOk (shardsOf n j.2.1) none j.2.2.2 && stateOk j.2.2.1 (choice log j.1)
def jobsOk (n life next : Int) (log : List Ch) : Option Int → List Jb → Bool
  | _, [] => true
  | p, j :: r => jobOk n life next log p j && jobsOk n life next log (some j.1) r
def logOk (hi : Int) (log : List Ch) : Bool := log.all (fun c => decide (1000 ≤ c.1 ∧ c.1 ≤ hi)) && decide ((log.map fun c => c.1).Nodup)
def headOk (c : Co) : Bool := decide (1 ≤ c.1 ∧ c.1 ≤ 8) && decide (1 ≤ c.2.1 ∧ c.2.1 ≤ 900) && decide (0 ≤ c.2.2.1 ∧ c.2.2.1 ≤ 999) && decide (c.2.2.2.2.1.length ≤ 1000) && decide (0 ≤ c.2.2.2.2.2 ∧ c.2.2.2.2.2 ≤ (c.2.2.2.2.1.length : Int))
def coordOk (c : Co) : Bool := headOk c && logOk (c.2.1 * 1000 + c.2.2.1 - 1) c.2.2.2.2.1 && jobsOk c.1 c.2.1 c.2.2.1 c.2.2.2.2.1 none c.2.2.2.1

/-! ### places -/
theorem findIdx?_go {α : Type} (p : α → Bool) (l : List α) (k : Nat) (hk : k ≤ l.length) (h : ∀ i (hi : i < k), p (l[i]'(by omega)) = false) : l.findIdx? p = ((l.drop k).findIdx? p).map (· + k) := by
  induction k generalizing l with
  | zero => simp
  | succ k ih =>
    cases l with
    | nil => simp at hk
    | cons x l =>
      have h0 : p x = false := h 0 (by omega)
      rw [List.findIdx?_cons, h0]
      simp only [Bool.false_eq_true, if_false, List.drop_succ_cons]
      rw [ih l (by simpa using hk) (fun i hi => by simpa using h (i + 1) (by omega))]
      cases (l.drop k).findIdx? p <;> simp [Nat.add_assoc]
theorem findIdx_hit {α : Type} {p : α → Bool} {l : List α} {k : Nat} (hk : k < l.length) (h : ∀ i (hi : i < k), p (l[i]'(by omega)) = false) (hp : p l[k] = true) : l.findIdx? p = some k := by
  rw [findIdx?_go p l k (by omega) h, List.drop_eq_getElem_cons hk, List.findIdx?_cons, hp]
  simp
theorem findIdx_none {α : Type} {p : α → Bool} {l : List α} (h : ∀ i (hi : i < l.length), p l[i] = false) : l.findIdx? p = none := by
  rw [findIdx?_go p l l.length (Nat.le_refl _) (fun i hi => h i hi), List.drop_length]
  rfl
theorem findIdx_some {α : Type} {p : α → Bool} {l : List α} {k : Nat} (h : l.findIdx? p = some k) : ∃ hk : k < l.length, p l[k] = true ∧ ∀ i (hi : i < k), p (l[i]'(by omega)) = false := by
  induction l generalizing k with
  | nil => simp at h
  | cons x l ih =>
    rw [List.findIdx?_cons] at h
    cases hx : p x
    · rw [hx] at h
      simp only [Bool.false_eq_true, if_false] at h
      cases h2 : l.findIdx? p with
      | none => rw [h2] at h; cases h
      | some j =>
        rw [h2] at h
        simp only [Option.map_some, Option.some.injEq] at h
        subst h
        obtain ⟨hj, hp, hb⟩ := ih h2
        refine ⟨by simp; omega, by simpa using hp, fun i hi => ?_⟩
        cases i with
        | zero => exact hx
        | succ i => simpa using hb i (by omega)
    · rw [hx] at h
      simp only [if_true, Option.some.injEq] at h
      subst h
      exact ⟨by simp, hx, fun i hi => absurd hi (by omega)⟩
theorem find_of_idx {α : Type} {p : α → Bool} {l : List α} : (∀ k, l.findIdx? p = some k → ∃ hk : k < l.length, l.find? p = some l[k]) ∧ (l.findIdx? p = none → l.find? p = none) := by
  induction l with
  | nil => exact ⟨fun k h => by simp at h, fun _ => rfl⟩
  | cons x l ih =>
    constructor
    · intro k h
      rw [List.findIdx?_cons] at h
      cases hx : p x
      · rw [hx] at h
        simp only [Bool.false_eq_true, if_false] at h
        cases h2 : l.findIdx? p with
        | none => rw [h2] at h; cases h
        | some j =>
          rw [h2] at h
          simp only [Option.map_some, Option.some.injEq] at h
          subst h
          obtain ⟨hj, e⟩ := ih.1 j h2
          exact ⟨by simp; omega, by rw [List.find?_cons, hx]; simpa using e⟩
      · rw [hx] at h
        simp only [if_true, Option.some.injEq] at h
        subst h
        exact ⟨by simp, by rw [List.find?_cons, hx]; rfl⟩
    · intro h
      rw [List.findIdx?_cons] at h
      cases hx : p x
      · rw [hx] at h
        simp only [Bool.false_eq_true, if_false, Option.map_eq_none_iff] at h
        rw [List.find?_cons, hx]
        exact ih.2 h
      · rw [hx] at h; cases h
theorem choice_some {log : List Ch} {tx : Int} {k : Nat} (h : chosen log tx = some k) : ∃ hk : k < log.length, choice log tx = some log[k].2 := by
  obtain ⟨hk, e⟩ := find_of_idx.1 k h
  exact ⟨hk, by unfold choice; rw [e]; rfl⟩
theorem choice_none {log : List Ch} {tx : Int} (h : chosen log tx = none) : choice log tx = none := by
  unfold choice; rw [find_of_idx.2 h]; rfl
theorem nodup_iff {log : List Ch} : (log.map fun c => c.1).Nodup ↔ ∀ i (hi : i < log.length), chosen log log[i].1 = some i := by
  constructor
  · intro h i hi
    refine findIdx_hit hi (fun j hj => decide_eq_false fun e => ?_) (decide_eq_true rfl)
    have := List.pairwise_iff_getElem.1 h j i (by simp; omega) (by simpa using hi) hj
    simp only [List.getElem_map] at this
    exact this e
  · intro h
    refine List.pairwise_iff_getElem.2 fun i j hi hj hij => ?_
    simp only [List.getElem_map]
    intro e
    simp only [List.length_map] at hi hj
    have h1 := h j hj
    rw [← e, h i hi] at h1
    simp only [Option.some.injEq] at h1
    omega
end Go.Proofs.YtijplooogplccaaGreat.cos

namespace Go.Proofs.YtijplooogplccaaGreat.cos
open Go Go.RowKit Go.Proofs.YtijplooogplccaaGreat.base Go.Proofs.YtijplooogplccaaGreat.pairs Go.Proofs.YtijplooogplccaaGreat.ords Go.Proofs.YtijplooogplccaaGreat.lay Go.Proofs.YtijplooogplccaaGreat.wds
set_option linter.unusedVariables false
set_option linter.unusedSimpArgs false

/-! ### types without slices -/
structure Flat {α : Type} (R : Rd α) (enc : α → List Value) (ok : α → Prop) : Prop where
  own : ∀ {w vs x F}, R.own w vs x F ↔ vs = enc x ∧ ok x ∧ F = []
  see : ∀ {w vs x}, R.see w vs x ↔ vs = enc x ∧ ok x
theorem flat_int : Flat int (fun x => [.int .i64 x]) (fun x => (Lit.int .i64 x).wf = true) :=
  ⟨fun {_ _ _ _} => ⟨fun h => ⟨h.1.1, h.1.2, h.2⟩, fun h => ⟨⟨h.1, h.2.1⟩, h.2.2⟩⟩, fun {_ _ _} => Iff.rfl⟩
theorem flat_bool : Flat bool (fun x => [.bool x]) (fun _ => True) :=
  ⟨fun {_ _ _ _} => ⟨fun h => ⟨h.1, trivial, h.2⟩, fun h => ⟨h.1, h.2.2⟩⟩, fun {_ _ _} => ⟨fun h => ⟨h, trivial⟩, fun h => h.1⟩⟩
theorem flat_str : Flat str (fun x => [.string x]) (fun x => x.size ≤ maxLen) :=
  ⟨fun {_ _ _ _} => ⟨fun h => ⟨h.1.1, h.1.2, h.2⟩, fun h => ⟨⟨h.1, h.2.1⟩, h.2.2⟩⟩, fun {_ _ _} => Iff.rfl⟩
theorem flat_both {α β : Type} {R : Rd α} {S : Rd β} {e1 : α → List Value} {e2 : β → List Value} {o1 : α → Prop} {o2 : β → Prop} (h1 : Flat R e1 o1) (h2 : Flat S e2 o2) : Flat (both R S) (fun x => e1 x.1 ++ e2 x.2) (fun x => o1 x.1 ∧ o2 x.2) := by
  constructor
  · intro w vs x F
    constructor
    · rintro ⟨us, ts, F1, F2, rfl, rfl, h3, h4, _⟩
      obtain ⟨rfl, k1, rfl⟩ := h1.own.1 h3
      obtain ⟨rfl, k2, rfl⟩ := h2.own.1 h4
      exact ⟨rfl, ⟨k1, k2⟩, rfl⟩
    · rintro ⟨rfl, ⟨k1, k2⟩, rfl⟩
      exact ⟨_, _, [], [], rfl, rfl, h1.own.2 ⟨rfl, k1, rfl⟩, h2.own.2 ⟨rfl, k2, rfl⟩, List.nodup_nil⟩
  · intro w vs x
    constructor
    · rintro ⟨us, ts, rfl, h3, h4⟩
      obtain ⟨rfl, k1⟩ := h1.see.1 h3
      obtain ⟨rfl, k2⟩ := h2.see.1 h4
      exact ⟨rfl, k1, k2⟩
    · rintro ⟨rfl, k1, k2⟩
      exact ⟨_, _, rfl, h1.see.2 ⟨rfl, k1⟩, h2.see.2 ⟨rfl, k2⟩⟩
section
variable {α : Type} {R : Rd α} {enc : α → List Value} {ok : α → Prop} {ty : TypeId} {w : World} {v : Value} {l : List α} {q : Parts} {F : List Nat}
theorem Flat.parts (hR : Flat R enc ok) (h : OwnG ty R w v l q) : q = l.map (fun x => (enc x, [])) ∧ (∀ x ∈ l, ok x) ∧ blocksOf q = [] ∧ cellsOf q = l.flatMap enc := by
  have hl := h.len
  have e : q = l.map (fun x => (enc x, [])) := by
    refine List.ext_getElem (by simp [hl]) fun i h1 h2 => ?_
    have h3 := hR.own.1 (h.each i (by omega))
    rw [List.getElem_map]
    exact Prod.ext h3.1 h3.2.2
  refine ⟨e, fun x hx => ?_, ?_, ?_⟩
  · obtain ⟨i, hi, rfl⟩ := List.getElem_of_mem hx
    exact (hR.own.1 (h.each i hi)).2.1
  · rw [e]; unfold blocksOf; rw [List.flatMap_map]; simp
  · rw [e]; unfold cellsOf; rw [List.flatMap_map]
theorem Flat.row (hR : Flat R enc ok) (h : OwnG ty R w v l q) : w.ownsRow 0 ty R.size v l.length (l.flatMap enc) := by
  rw [← (hR.parts h).2.2.2]; exact h.row
theorem Flat.made (hR : Flat R enc ok) (hr : w.ownsRow 0 ty R.size v l.length (l.flatMap enc)) (hok : ∀ x ∈ l, ok x) : OwnG ty R w v l (l.map (fun x => (enc x, []))) := by
  have e1 : cellsOf (l.map (fun x => (enc x, ([] : List Nat)))) = l.flatMap enc := by unfold cellsOf; rw [List.flatMap_map]
  have e2 : blocksOf (l.map (fun x => (enc x, ([] : List Nat)))) = [] := by unfold blocksOf; rw [List.flatMap_map]; simp
  refine ⟨by simp, by rw [e1]; exact hr, fun i hi => ?_, by rw [e2]; cases v.ownBlock <;> simp⟩
  simp only [List.getElem_map]
  exact hR.own.2 ⟨rfl, hok _ (List.getElem_mem _), rfl⟩
theorem Flat.slice (hR : Flat R enc ok) : (lay.slice ty R).own w [v] l F ↔ w.ownsRow 0 ty R.size v l.length (l.flatMap enc) ∧ (∀ x ∈ l, ok x) ∧ F = v.ownBlock.toList := by
  constructor
  · rintro ⟨v', q, e, rfl, h⟩
    cases e
    exact ⟨hR.row h, (hR.parts h).2.1, by rw [(hR.parts h).2.2.1, List.append_nil]⟩
  · rintro ⟨h1, h2, rfl⟩
    have h3 := hR.made h1 h2
    exact ⟨v, _, rfl, by rw [(hR.parts h3).2.2.1, List.append_nil], h3⟩
end
/-! ### pairs, orders, whole numbers -/
def opR : Rd Od := both int (both str str)
theorem flat_op : Flat opR (fun o => [.int .i64 o.1, .string o.2.1, .string o.2.2]) smallO := flat_both flat_int (flat_both flat_str flat_str)
def opsR : Rd (List Od) := slice 126 opR
def intsR : Rd (List Int) := slice 3 int
section
variable {w w' : World} {a : Option Addr} {n cap : Nat} {F : List Nat} {v : Value}
theorem ops_own {l : List Od} : opsR.own w [v] l F ↔ OwnV w 0 v l ∧ F = v.ownBlock.toList := by
  unfold opsR
  rw [flat_op.slice]
  constructor
  · rintro ⟨h1, h2, h3⟩
    exact ⟨⟨h2, h1⟩, h3⟩
  · rintro ⟨⟨h1, h2⟩, h4⟩
    exact ⟨h2, h1, h4⟩
theorem ops_see {l : List Od} : opsR.see w [.slice a n cap] l ↔ SlO w a n l ∧ n ≤ cap := by
  constructor
  · rintro ⟨a', n', c', e, hc, h1, h2, h3, h4⟩
    cases e
    refine ⟨⟨h1, h2, fun p hp => ?_, fun h0 => ?_⟩, hc⟩
    · obtain ⟨vs, hv⟩ := h3 p hp
      exact (flat_op.see.1 hv).2
    · obtain ⟨b, off, e, hi⟩ := h4 h0
      refine ⟨b, off, e, fun i hl => ?_⟩
      obtain ⟨vs, hs, hcl⟩ := hi i hl
      obtain ⟨rfl, _⟩ := flat_op.see.1 hs
      exact ⟨hcl 0 _ rfl, hcl 1 _ rfl, hcl 2 _ rfl⟩
  · rintro ⟨⟨h1, h2, h3, h4⟩, hc⟩
    refine ⟨a, n, cap, rfl, hc, h1, h2, fun p hp => ⟨_, flat_op.see.2 ⟨rfl, h3 p hp⟩⟩, fun h0 => ?_⟩
    obtain ⟨b, off, e, hi⟩ := h4 h0
    refine ⟨b, off, e, fun i hl => ⟨_, flat_op.see.2 ⟨rfl, h3 _ (List.getElem_mem hl)⟩, fun j u hu => ?_⟩⟩
    obtain ⟨c0, c1, c2⟩ := hi i hl
    match j, hu with
    | 0, hu => cases hu; exact c0
    | 1, hu => cases hu; exact c1
    | 2, hu => cases hu; exact c2
def OwnZV (w : World) (v : Value) (l : List Int) : Prop := (∀ z ∈ l, (Lit.int .i64 z).wf = true) ∧ w.ownsRow 0 3 1 v l.length (intVals l)
theorem flatMap_ints (l : List Int) : (l.flatMap fun x => [Value.int .i64 x]) = intVals l := by
  induction l with
  | nil => rfl
  | cons x l ih => simp only [List.flatMap_cons, ih]; rfl
theorem ints_own {l : List Int} : intsR.own w [v] l F ↔ OwnZV w v l ∧ F = v.ownBlock.toList := by
  unfold intsR
  rw [flat_int.slice, flatMap_ints]
  constructor
  · rintro ⟨h1, h2, h3⟩
    exact ⟨⟨h2, h1⟩, h3⟩
  · rintro ⟨⟨h1, h2⟩, h4⟩
    exact ⟨h2, h1, h4⟩
theorem ints_see {l : List Int} : intsR.see w [.slice a n cap] l ↔ (SlZ w a n l ∧ ∀ z ∈ l, (Lit.int .i64 z).wf = true) ∧ n ≤ cap := by
  constructor
  · rintro ⟨a', n', c', e, hc, h1, h2, h3, h4⟩
    cases e
    refine ⟨⟨⟨h1, h2, fun h0 => ?_⟩, fun p hp => ?_⟩, hc⟩
    · obtain ⟨b, off, e, hi⟩ := h4 h0
      refine ⟨b, off, e, fun i hl => ?_⟩
      obtain ⟨vs, hs, hcl⟩ := hi i hl
      obtain ⟨rfl, _⟩ := flat_int.see.1 hs
      have := hcl 0 _ rfl
      simpa [int] using this
    · obtain ⟨vs, hv⟩ := h3 p hp
      exact (flat_int.see.1 hv).2
  · rintro ⟨⟨⟨h1, h2, h4⟩, h3⟩, hc⟩
    refine ⟨a, n, cap, rfl, hc, h1, h2, fun p hp => ⟨_, flat_int.see.2 ⟨rfl, h3 p hp⟩⟩, fun h0 => ?_⟩
    obtain ⟨b, off, e, hi⟩ := h4 h0
    refine ⟨b, off, e, fun i hl => ⟨_, flat_int.see.2 ⟨rfl, h3 _ (List.getElem_mem hl)⟩, fun j u hu => ?_⟩⟩
    have c0 := hi i hl
    match j, hu with
    | 0, hu => cases hu; simpa [int] using c0
end

/-! ### jobs and choices -/
def jobR : Rd Jb := both int (both opsR (both int intsR))
def jobsR : Rd (List Jb) := slice 107 jobR
def chR : Rd Ch := both int bool
def logR : Rd (List Ch) := slice 94 chR
theorem flat_ch : Flat chR (fun c => [.int .i64 c.1, .bool c.2]) (fun c => (Lit.int .i64 c.1).wf = true ∧ True) := flat_both flat_int flat_bool
section
variable {w w' : World} {a : Option Addr} {n cap : Nat} {F : List Nat} {v : Value}
theorem job_see {vs : List Value} {j : Jb} : jobR.see w vs j ↔ ∃ oa ol oc ya yl yc, vs = [.int .i64 j.1, .slice oa ol oc, .int .i64 j.2.2.1, .slice ya yl yc] ∧ (Lit.int .i64 j.1).wf = true ∧ (Lit.int .i64 j.2.2.1).wf = true ∧ (SlO w oa ol j.2.1 ∧ ol ≤ oc) ∧ (SlZ w ya yl j.2.2.2 ∧ ∀ z ∈ j.2.2.2, (Lit.int .i64 z).wf = true) ∧ yl ≤ yc := by
  constructor
  · rintro ⟨us, ts, rfl, h1, us2, ts2, rfl, h2, us3, ts3, rfl, h3, h4⟩
    obtain ⟨rfl, k1⟩ := flat_int.see.1 h1
    obtain ⟨rfl, k3⟩ := flat_int.see.1 h3
    obtain ⟨oa, ol, oc, rfl, _⟩ := id h2
    obtain ⟨ya, yl, yc, rfl, _⟩ := id h4
    have h5 := ops_see.1 h2
    have h6 := ints_see.1 h4
    exact ⟨oa, ol, oc, ya, yl, yc, rfl, k1, k3, h5, h6.1, h6.2⟩
  · rintro ⟨oa, ol, oc, ya, yl, yc, rfl, k1, k3, h5, h6, h7⟩
    exact ⟨[_], [_, _, _], rfl, flat_int.see.2 ⟨rfl, k1⟩, [_], [_, _], rfl, ops_see.2 h5, [_], [_], rfl, flat_int.see.2 ⟨rfl, k3⟩, ints_see.2 ⟨h6, h7⟩⟩
theorem job_own {vs : List Value} {j : Jb} : jobR.own w vs j F ↔ ∃ x y, vs = [.int .i64 j.1, x, .int .i64 j.2.2.1, y] ∧ (Lit.int .i64 j.1).wf = true ∧ (Lit.int .i64 j.2.2.1).wf = true ∧ OwnV w 0 x j.2.1 ∧ OwnZV w y j.2.2.2 ∧ F = x.ownBlock.toList ++ y.ownBlock.toList ∧ F.Nodup := by
  constructor
  · rintro ⟨us, ts, F1, F2, rfl, rfl, h1, ⟨us2, ts2, F3, F4, rfl, rfl, h2, ⟨us3, ts3, F5, F6, rfl, rfl, h3, h4, n3⟩, n2⟩, n1⟩
    obtain ⟨rfl, k1, rfl⟩ := flat_int.own.1 h1
    obtain ⟨rfl, k3, rfl⟩ := flat_int.own.1 h3
    obtain ⟨a1, c1, q1, rfl, _⟩ := own_open h2
    obtain ⟨a2, c2, q2, rfl, _⟩ := own_open h4
    obtain ⟨h5, rfl⟩ := ops_own.1 h2
    obtain ⟨h6, rfl⟩ := ints_own.1 h4
    exact ⟨_, _, rfl, k1, k3, h5, h6, rfl, n1⟩
  · rintro ⟨x, y, rfl, k1, k3, h5, h6, rfl, hn⟩
    have hn2 := (nodup_parts hn).2.1
    exact ⟨[_], [x, _, y], [], _, rfl, rfl, flat_int.own.2 ⟨rfl, k1, rfl⟩, ⟨[x], [_, y], _, _, rfl, rfl, ops_own.2 ⟨h5, rfl⟩, ⟨[_], [y], [], _, rfl, rfl, flat_int.own.2 ⟨rfl, k3, rfl⟩, ints_own.2 ⟨h6, rfl⟩, hn2⟩, hn⟩, hn⟩
theorem job_at {b off len : Nat} {l : List Jb} (h : SlG jobR w (some ⟨b, off, none⟩) len l) (i : Nat) (hi : i < l.length) :
    w.cell? ⟨b, off + i * 4, none⟩ = some (.int .i64 l[i].1) ∧ w.cell? ⟨b, off + i * 4 + 2, none⟩ = some (.int .i64 l[i].2.2.1) ∧
      (∃ oa ol oc, w.cell? ⟨b, off + i * 4 + 1, none⟩ = some (.slice oa ol oc) ∧ SlO w oa ol l[i].2.1 ∧ ol ≤ oc) ∧ (∃ ya yl yc, w.cell? ⟨b, off + i * 4 + 3, none⟩ = some (.slice ya yl yc) ∧ SlZ w ya yl l[i].2.2.2 ∧ yl ≤ yc) := by
  obtain ⟨b', off', e, hc⟩ := h.2.2.2 (by have := h.1; omega)
  simp only [Option.some.injEq, Addr.mk.injEq, and_true] at e
  obtain ⟨rfl, rfl⟩ := e
  obtain ⟨vs, hs, hcl⟩ := hc i hi
  obtain ⟨oa, ol, oc, ya, yl, yc, rfl, k1, k3, h5, h6, h7⟩ := job_see.1 hs
  exact ⟨hcl 0 _ rfl, hcl 2 _ rfl, ⟨oa, ol, oc, hcl 1 _ rfl, h5.1, h5.2⟩, ya, yl, yc, hcl 3 _ rfl, h6.1, h7⟩
theorem ch_at {b off len : Nat} {l : List Ch} (h : SlG chR w (some ⟨b, off, none⟩) len l) (i : Nat) (hi : i < l.length) : w.cell? ⟨b, off + i * 2, none⟩ = some (.int .i64 l[i].1) ∧ w.cell? ⟨b, off + i * 2 + 1, none⟩ = some (.bool l[i].2) := by
  obtain ⟨b', off', e, hc⟩ := h.2.2.2 (by have := h.1; omega)
  simp only [Option.some.injEq, Addr.mk.injEq, and_true] at e
  obtain ⟨rfl, rfl⟩ := e
  obtain ⟨vs, hs, hcl⟩ := hc i hi
  obtain ⟨rfl, _⟩ := flat_ch.see.1 hs
  exact ⟨hcl 0 _ rfl, hcl 1 _ rfl⟩
theorem slg_some {α : Type} {R : Rd α} {len : Nat} {l : List α} (h : SlG R w a len l) (h0 : 0 < len) : ∃ b off, a = some ⟨b, off, none⟩ := by
  obtain ⟨b, off, e, _⟩ := h.2.2.2 h0
  exact ⟨b, off, e⟩
end

/-! ### one who decides -/
def coordR : Rd Co := both int (both int (both int (both jobsR (both logR int))))
def coVals (n life next sure : Int) (ja : Option Addr) (jn jc : Nat) (la : Option Addr) (ln lc : Nat) : List Value := [.int .i64 n, .int .i64 life, .int .i64 next, .slice ja jn jc, .slice la ln lc, .int .i64 sure]
structure SeeCo (w : World) (ja : Option Addr) (jn jc : Nat) (la : Option Addr) (ln lc : Nat) (c : Co) : Prop where
  n : (Lit.int .i64 c.1).wf = true
  life : (Lit.int .i64 c.2.1).wf = true
  next : (Lit.int .i64 c.2.2.1).wf = true
  sure : (Lit.int .i64 c.2.2.2.2.2).wf = true
  jobs : SlG jobR w ja jn c.2.2.2.1
  log : SlG chR w la ln c.2.2.2.2.1
  jc : jn ≤ jc
  lc : ln ≤ lc
section
variable {w w' : World} {ja : Option Addr} {jn jc : Nat} {la : Option Addr} {ln lc : Nat} {c : Co} {vs : List Value} {F : List Nat}
theorem SeeCo.below (h : SeeCo w ja jn jc la ln lc c) (hb : Below w.heap.size w w') : SeeCo w' ja jn jc la ln lc c := ⟨h.n, h.life, h.next, h.sure, h.jobs.below hb, h.log.below hb, h.jc, h.lc⟩
theorem coord_see : coordR.see w vs c ↔ ∃ ja jn jc la ln lc, vs = coVals c.1 c.2.1 c.2.2.1 c.2.2.2.2.2 ja jn jc la ln lc ∧ SeeCo w ja jn jc la ln lc c := by
  constructor
  · rintro ⟨u1, t1, rfl, h1, u2, t2, rfl, h2, u3, t3, rfl, h3, u4, t4, rfl, h4, u5, t5, rfl, h5, h6⟩
    obtain ⟨rfl, k1⟩ := flat_int.see.1 h1
    obtain ⟨rfl, k2⟩ := flat_int.see.1 h2
    obtain ⟨rfl, k3⟩ := flat_int.see.1 h3
    obtain ⟨rfl, k6⟩ := flat_int.see.1 h6
    obtain ⟨ja, jn, jc, rfl, j1, j2⟩ := h4
    obtain ⟨la, ln, lc, rfl, l1, l2⟩ := h5
    exact ⟨ja, jn, jc, la, ln, lc, rfl, k1, k2, k3, k6, j2, l2, j1, l1⟩
  · rintro ⟨ja, jn, jc, la, ln, lc, rfl, h⟩
    exact ⟨[_], [_, _, _, _, _], rfl, flat_int.see.2 ⟨rfl, h.n⟩, [_], [_, _, _, _], rfl, flat_int.see.2 ⟨rfl, h.life⟩, [_], [_, _, _], rfl, flat_int.see.2 ⟨rfl, h.next⟩, [_], [_, _], rfl, ⟨_, _, _, rfl, h.jc, h.jobs⟩, [_], [_], rfl, ⟨_, _, _, rfl, h.lc, h.log⟩, flat_int.see.2 ⟨rfl, h.sure⟩⟩
end
end Go.Proofs.YtijplooogplccaaGreat.cos

namespace Go.Proofs.YtijplooogplccaaGreat.pairs
open Go Go.RowKit Go.Proofs.YtijplooogplccaaGreat.base
set_option linter.unusedVariables false
set_option linter.unusedSimpArgs false

theorem bcell {W w1 : World} (hb : Below W.heap.size W w1) : (∀ b o, b < W.heap.size → w1.cell? ⟨b, o, none⟩ = W.cell? ⟨b, o, none⟩) :=
  fun b o h => hb.cell (p := ⟨b, o, none⟩) h
set_option maxHeartbeats 400000 in
theorem s_in (x a b : Int) (w : World) (hx : -1000 ≤ x ∧ x ≤ 1099511627776) (ha : 0 ≤ a ∧ a ≤ 1000) (hb : 0 ≤ b ∧ b ≤ 1000) :
    Calls Tryz.prog 43 #[.int .i64 x, .int .i64 a, .int .i64 b] w fun e w' => e = .returned (.bool (decide (a ≤ x ∧ x ≤ b))) ∧ w' = w := by
  by_cases h1 : a ≤ x
  · by_cases h2 : x ≤ b
    · go_enter Tryz.func43, Tryz.ntmps43
      go_wp2
      go_ret
      exact ⟨ret_bool (by simp [h1, h2]), rfl⟩
    · go_enter Tryz.func43, Tryz.ntmps43
      go_wp2
      go_ret
      exact ⟨ret_bool (by simp [h1, h2]), rfl⟩
  · go_enter Tryz.func43, Tryz.ntmps43
    go_wp2
    go_ret
    exact ⟨ret_bool (by have h3 : ¬ a ≤ x := by omega
                        simp [h3]), rfl⟩

theorem keyAll_drop (s : ByteArray) (k : Nat) (h : k < s.size) : keyAll (s.data.toList.drop k) = (keyCh s[k].toNat && keyAll (s.data.toList.drop (k + 1))) := by
  rw [List.drop_eq_getElem_cons (by simpa using h)]; rfl

set_option maxRecDepth 100000 in
set_option maxHeartbeats 1000000 in
theorem spec_keyOk (s : ByteArray) (w : World) (hs : s.size ≤ 1099511627776) :
    Calls Tryz.prog 122 #[.string s] w fun e w' => e = .returned (.bool (keyOk s)) ∧ w' = w := by
  generalize hR : keyAll s.data.toList = R
  have HR := Hid.mk' hR
  clear hR
  go_enter Tryz.func122, Tryz.ntmps122
  go_wp2
  go_loop [3] (fun i => ∃ k : Nat, k ≤ s.size ∧ i = .int .i64 (k : Int) ∧ keyAll (s.data.toList.drop k) = R) (fun i => s.size - (intOf i).toNat)
  case atStart => exact ⟨0, Nat.zero_le _, rfl, HR.out⟩
  case round =>
    obtain ⟨k, hk, rfl, hr⟩ := hrel
    by_cases hlt : k < s.size
    · have hst := keyAll_drop s k hlt
      rw [hr] at hst
      have hc := s[k].toNat_lt
      generalize hC : s[k].toNat = c at *
      have HST := Hid.mk' hst
      have HC := Hid.mk' hC
      clear hst hr
      have hki : (k : Int) < (s.size : Int) := by omega
      by_cases h1 : 97 ≤ c ∧ c ≤ 122
      · have HF : Hid (keyAll (s.data.toList.drop (k + 1)) = R) := by
          show _ = _
          have := HST.out; rw [show keyCh c = true by simp [keyCh, h1]] at this; simpa using this.symm
        have hl := s_in (c : Int) 97 122 w (by omega) (by omega) (by omega)
        rw [decide_eq_true (by omega)] at hl
        have HL := Hid.mk' hl
        clear hl HST
        go_wp2_with fail
        refine HL.out.mono ?_
        rintro e w1 ⟨rfl, rfl⟩
        go_wp2_with fail
        go_round
        case rel => exact ⟨k + 1, by omega, by go_num, HF.out⟩
        case measure => simp [intOf]; omega
      · have hl := s_in (c : Int) 97 122 w (by omega) (by omega) (by omega)
        rw [decide_eq_false (by omega)] at hl
        have HL := Hid.mk' hl
        clear hl
        by_cases h2 : 48 ≤ c ∧ c ≤ 57
        · have HF : Hid (keyAll (s.data.toList.drop (k + 1)) = R) := by
            show _ = _
            have := HST.out; rw [show keyCh c = true by simp [keyCh, h2]] at this; simpa using this.symm
          have hl := s_in (c : Int) 48 57 w (by omega) (by omega) (by omega)
          rw [decide_eq_true (by omega)] at hl
          have HL2 := Hid.mk' hl
          clear hl HST
          go_wp2_with fail
          refine HL.out.mono ?_
          rintro e w1 ⟨rfl, rfl⟩
          go_wp2_with fail
          refine HL2.out.mono ?_
          rintro e w1 ⟨rfl, rfl⟩
          go_wp2_with fail
          go_round
          case rel => exact ⟨k + 1, by omega, by go_num, HF.out⟩
          case measure => simp [intOf]; omega
        · have HF : Hid (R = false) := by
            show _ = _
            have := HST.out; rw [show keyCh c = false by simp only [keyCh, h1, h2]; rfl] at this; simpa using this
          have hl := s_in (c : Int) 48 57 w (by omega) (by omega) (by omega)
          rw [decide_eq_false (by omega)] at hl
          have HL2 := Hid.mk' hl
          clear hl HST
          go_wp2_with fail
          refine HL.out.mono ?_
          rintro e w1 ⟨rfl, rfl⟩
          go_wp2_with fail
          refine HL2.out.mono ?_
          rintro e w1 ⟨rfl, rfl⟩
          go_wp2_with fail
          go_ret
          exact ⟨ret_bool (by unfold keyOk; rw [HR.out, HF.out]; rfl), rfl⟩
    · have HF : Hid (R = true) := by show _ = _; rw [← hr, List.drop_eq_nil_of_le (by simp; omega)]; rfl
      have hl := s_in (s.size : Int) 1 12 w (by omega) (by omega) (by omega)
      rw [show decide ((1 : Int) ≤ (s.size : Int) ∧ (s.size : Int) ≤ 12) = decide (1 ≤ s.size ∧ s.size ≤ 12) by rw [decide_eq_decide]; omega] at hl
      have HL := Hid.mk' hl
      clear hl hr
      go_wp2_with fail
      refine HL.out.mono ?_
      rintro e w1 ⟨rfl, rfl⟩
      go_wp2_with fail
      go_ret
      exact ⟨ret_bool (by unfold keyOk; rw [HR.out, HF.out]; simp), rfl⟩


def getRet : Option ByteArray → Value
  | none => .tuple #[.string ⟨#[]⟩, .bool false]
  | some v => .tuple #[.string v, .bool true]
theorem str_ne {a b : ByteArray} (h : a ≠ b) : (a.toList == b.toList) = false := by
  rw [beq_eq_false_iff_ne]; intro e; rw [ByteArray.toList_eq, ByteArray.toList_eq] at e; exact h (bytes_ext e)

set_option maxRecDepth 100000 in
set_option maxHeartbeats 1000000 in
theorem spec_getKey (a : Option Addr) (len cap : Nat) (l : List Pr) (key : ByteArray) (w : World) (h : SlP w a len l) :
    Calls Tryz.prog 150 #[.slice a len cap, .string key] w fun e w' => e = .returned (getRet (getKey key l)) ∧ w' = w := by
  obtain ⟨hl, hm, hsm, hc⟩ := h
  subst hl
  unfold maxLen at hm
  generalize hR : getKey key l = R
  have HR := Hid.mk' hR
  clear hR
  go_enter Tryz.func150, Tryz.ntmps150
  go_wp2
  go_loop [6] (fun i => ∃ k : Nat, k ≤ l.length ∧ i = .int .i64 (k : Int) ∧ getKey key (l.drop k) = R) (fun i => l.length - (intOf i).toNat)
  case atStart => exact ⟨0, Nat.zero_le _, rfl, HR.out⟩
  case round =>
    obtain ⟨k, hk, rfl, hr⟩ := hrel
    by_cases hlt : k < l.length
    · obtain ⟨b, off, ha, hcl⟩ := hc (by omega)
      subst ha
      have hst := getKey_drop key l k hlt
      rw [hr] at hst
      obtain ⟨c1, c2⟩ := hcl k hlt
      have hki : (k : Int) < (l.length : Int) := by omega
      by_cases he : l[k].1 = key
      · have HF : Hid (R = some l[k].2) := by rw [if_pos he] at hst; exact hst
        rw [he] at c1
        generalize l[k].2 = v at *
        clear hst hr hcl hc hsm he
        go_wp2
        go_ret2
        exact ⟨by rw [HF.out]; rfl, rfl⟩
      · have HF : Hid (getKey key (l.drop (k + 1)) = R) := by rw [if_neg he] at hst; exact hst.symm
        have hq := str_ne he
        generalize l[k].1 = kk at *
        clear hst hr hcl hc hsm he
        go_wp2
        go_round
        case rel => exact ⟨k + 1, by omega, by go_num, HF.out⟩
        case measure => simp [intOf]; omega
    · have HF : Hid (R = none) := by show _ = _; rw [← hr, List.drop_eq_nil_of_le (by omega)]; rfl
      clear hr
      go_wp2
      go_ret2
      exact ⟨by rw [HF.out]; rfl, rfl⟩


end Go.Proofs.YtijplooogplccaaGreat.pairs

namespace Go.Proofs.YtijplooogplccaaGreat.pairs
open Go Go.RowKit Go.Proofs.YtijplooogplccaaGreat.base
set_option linter.unusedVariables false
set_option linter.unusedSimpArgs false

theorem take_snocP (l : List Pr) (k : Nat) (h : k < l.length) : l.take (k + 1) = l.take k ++ [l[k]] := List.take_succ_eq_append_getElem h
theorem filter_snoc (f : Pr → Bool) (l : List Pr) (k : Nat) (h : k < l.length) : (l.take (k + 1)).filter f = (l.take k).filter f ++ if f l[k] then [l[k]] else [] := by
  rw [take_snocP l k h, List.filter_append]
  cases hf : f l[k] <;> simp [List.filter_cons, hf]
theorem take_small {l : List Pr} (h : ∀ p ∈ l, small p) (k : Nat) : ∀ p ∈ l.take k, small p := fun p hp => h p (List.mem_of_mem_take hp)
theorem one_pair_cells (w : World) (p : Pr) (t : TypeId) : ∀ j u, (pairVals [p])[j]? = some u → (w.alloc (.cells #[.string p.1, .string p.2] t)).cell? ((⟨w.heap.size, 0, none⟩ : Addr).add j) = some u :=
  cells_two w (.string p.1) (.string p.2) t
theorem ownP_app {w' : World} {base n : Nat} {v' : Value} {l : List Pr} {p : Pr} (hl : l.length = n) (hs : ∀ q ∈ l, small q) (hp : small p) (h0 : ¬ v' = .slice none 0 0)
    (h : w'.ownsRow base 151 2 v' (n + 1) (pairVals l ++ pairVals [p])) : ∃ g' cap', v' = .slice (some ⟨g', 0, none⟩) (n + 1) cap' ∧ OwnP w' base g' (n + 1) cap' (l ++ [p]) := by
  rw [← pairVals_append] at h
  refine ownP_val (by simp; omega) ?_ h0 h
  intro q hq
  rcases List.mem_append.1 hq with h1 | h1
  · exact hs q h1
  · simp at h1; subst h1; exact hp

set_option maxRecDepth 100000 in
set_option maxHeartbeats 2000000 in
theorem spec_delKey (b off len cap : Nat) (l : List Pr) (key : ByteArray) (w : World) (h : SlP w (some ⟨b, off, none⟩) len l) (hsz : len ≤ 1099511627776) :
    Calls Tryz.prog 153 #[.slice (some ⟨b, off, none⟩) len cap, .string key] w fun e w' =>
      ∃ g' n' cap', e = .returned (.slice (some ⟨g', 0, none⟩) n' cap') ∧ OwnP w' w.heap.size g' n' cap' (delKey key l) ∧ Below w.heap.size w w' := by
  obtain ⟨i0, hi, hz0, hz1, hz2⟩ := info_parts infoP
  have hl := h.1
  have hsm := h.2.2.1
  subst hl
  go_enter Tryz.func153, Tryz.ntmps153
  go_wp2_with (at_builtin; fail)
  go_loopw [5, 6] (fun v i wr => ∃ (k g n cp : Nat), k ≤ l.length ∧ n ≤ k ∧ i = .int .i64 (k : Int) ∧ v = .slice (some ⟨g, 0, none⟩) n cp ∧ OwnP wr w.heap.size g n cp (delKey key (l.take k)) ∧ Below w.heap.size w wr) (fun _ i _ => l.length - (intOf i).toNat)
  case atStart => exact ⟨0, w.heap.size, 0, 0, Nat.zero_le _, Nat.le_refl _, rfl, rfl, ownP_made w _ (Nat.le_refl _), (Below.refl _ _).alloc (Nat.le_refl _) _⟩
  case round =>
    obtain ⟨k, g, n, cp, hk, hnk, rfl, rfl, hO, hB⟩ := hrel
    have hbw : w.heap.size ≤ wr.heap.size := hB.size
    by_cases hlt : k < l.length
    · obtain ⟨c1, c2⟩ := (h.below hB).cells k hlt
      have hst := filter_snoc (fun p => decide (p.1 ≠ key)) l k hlt
      have hpk := hsm _ (List.getElem_mem hlt)
      have hki : (k : Int) < (l.length : Int) := by omega
      by_cases he : l[k].1 = key
      · have HF : Hid (delKey key (l.take (k + 1)) = delKey key (l.take k)) := by
          show List.filter _ _ = List.filter _ _
          rw [hst]; simp [he]
        rw [he] at c1
        clear hst
        go_wp2_with (at_builtin; fail)
        go_roundw
        case rel => exact ⟨k + 1, g, n, cp, by omega, by omega, by go_num, rfl, by rw [HF.out]; exact hO, hB⟩
        case measure => simp [intOf]; omega
      · have HF : Hid (delKey key (l.take (k + 1)) = delKey key (l.take k) ++ [l[k]]) := by
          show List.filter _ _ = List.filter _ _ ++ _
          rw [hst]; simp [he]
        have hq := str_ne he
        have hc3 : n + 1 ≤ maxLen := by unfold maxLen; omega
        have hc4 : (n + 1) * 32 ≤ 140737488355328 := by omega
        generalize l[k] = p at *
        clear hst he
        go_wp2_with (at_builtin; refine wpList_append_own _ rfl (.tmp 21) (.tmp 26) 53 rfl w.heap.size 151 i0 (.agg #[.string ⟨#[]⟩, .string ⟨#[]⟩]) 2 32 Tryz.underlying53 hi hz0 hz1 hz2 rfl (by decide) _ _ _ rfl (hO.2.2.alloc _) ⟨wr.heap.size, 0, none⟩ 1 1 (pairVals [p]) rfl rfl (one_pair_cells _ _ _) (pairVals_oneCell _) hc3 hc4 (le_alloc _ _ hbw) ?_)
        intro v2 w2 hown hgrow hnn
        obtain ⟨g2, cp2, hv, hO2⟩ := ownP_app hO.1 hO.2.1 hpk hnn hown
        subst hv
        have hB2 : Below w.heap.size w w2 := (hB.alloc hbw _).grown hgrow (le_alloc _ _ hbw) (fun k e => by simp [Value.ownBlock] at e; have := hO.lt; omega)
        rw [← HF.out] at hO2
        have HO2 := Hid.mk' hO2
        clear hown hgrow hnn hO2 hO hB
        go_wp2_with (at_builtin; fail)
        go_roundw
        case rel => exact ⟨k + 1, g2, n + 1, cp2, by omega, by omega, by go_num, rfl, HO2.out, hB2⟩
        case measure => simp [intOf]; omega
    · have HE : Hid (l.take k = l) := List.take_of_length_le (by omega)
      go_wp2_with (at_builtin; fail)
      go_ret
      rw [HE.out] at hO
      exact ⟨g, n, cp, rfl, hO, hB⟩


end Go.Proofs.YtijplooogplccaaGreat.pairs
