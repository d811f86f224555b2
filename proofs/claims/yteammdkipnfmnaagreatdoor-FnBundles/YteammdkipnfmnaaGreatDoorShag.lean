/- How seals lie in memory. No function of the program is named here. Plain mathematics of the laws on pairs. Plain mathematics of proofs of all between. Rows of items (a pair and a slice of texts: three cells an item): small facts on worlds; no function of the program is named here. Rows of items that a call made, kept block by block; no function of the program is named here. How proofs, bundles and tables lie in memory. No function of the program is named here. -/
import Derived.Test.YteammdkipnfmnaaGreatDoorShaf
import Derived.Test.YteammdkipnfmnaaGreatDoorShab
import Derived.Test.YteammdkipnfmnaaGreatDoorShac
import Derived.Deep.Slices
import Derived.ChangeSame
import Derived.SliceStrings
import Derived.Test.YteammdkipnfmnaaGreatDoorShaa
namespace Go.Proofs.YteammdkipnfmnaaGreatDoor.seals
open Go Go.RowKit Go.Proofs.YteammdkipnfmnaaGreatDoor.base Go.Proofs.YteammdkipnfmnaaGreatDoor.pairs Go.Proofs.YteammdkipnfmnaaGreatDoor.lay
set_option linter.unusedVariables false
set_option linter.unusedSimpArgs false

def textsR : Rd (List ByteArray) := slice 9 str
section
variable {w w' : World} {F : List Nat} {vs : List Value} {a : Option Addr} {n cap : Nat} {v : Value}
theorem texts_see {l : List ByteArray} : textsR.see w [.slice a n cap] l ↔ SlS w a n l ∧ n ≤ cap := by
  constructor
  · rintro ⟨a', n', c', e, hc, h1, h2, h3, h4⟩
    cases e
    refine ⟨⟨h1, h2, fun p hp => ?_, fun h0 => ?_⟩, hc⟩
    · obtain ⟨vs, hv⟩ := h3 p hp
      exact (cos.flat_str.see.1 hv).2
    · obtain ⟨b, off, e, hi⟩ := h4 h0
      refine ⟨b, off, e, fun i hl => ?_⟩
      obtain ⟨vs, hs, hcl⟩ := hi i hl
      obtain ⟨rfl, _⟩ := cos.flat_str.see.1 hs
      have := hcl 0 _ rfl
      simpa [str] using this
  · rintro ⟨⟨h1, h2, h3, h4⟩, hc⟩
    refine ⟨a, n, cap, rfl, hc, h1, h2, fun p hp => ⟨_, cos.flat_str.see.2 ⟨rfl, h3 p hp⟩⟩, fun h0 => ?_⟩
    obtain ⟨b, off, e, hi⟩ := h4 h0
    refine ⟨b, off, e, fun i hl => ⟨_, cos.flat_str.see.2 ⟨rfl, h3 _ (List.getElem_mem hl)⟩, fun j u hu => ?_⟩⟩
    have c0 := hi i hl
    match j, hu with
    | 0, hu => cases hu; simpa [str] using c0
end
end Go.Proofs.YteammdkipnfmnaaGreatDoor.seals

namespace Go.Proofs.YteammdkipnfmnaaGreatDoor.pairs
open Go
set_option linter.unusedVariables false
set_option linter.unusedSimpArgs false

/-! ### rising lists -/
def Rise (l : List Pr) : Prop := l.Pairwise fun p q => ltB p.1 q.1 = true
theorem okFrom_iff (o : Option ByteArray) (l : List Pr) : okFrom o l = true ↔ (∀ p ∈ l, pairOk p = true) ∧ Rise l ∧ ∀ k, o = some k → ∀ p ∈ l, ltB k p.1 = true := by
  induction l generalizing o with
  | nil => cases o <;> simp [okFrom, Rise]
  | cons q l ih =>
    have hq := ih (some q.1)
    constructor
    · intro h
      have h' : pairOk q = true ∧ (∀ k, o = some k → ltB k q.1 = true) ∧ okFrom (some q.1) l = true := by
        cases o with
        | none => simp only [okFrom, Bool.and_eq_true] at h; exact ⟨h.1, (fun k e => by cases e), h.2⟩
        | some k => simp only [okFrom, Bool.and_eq_true] at h; exact ⟨h.1.1, (fun k' e => by cases e; exact h.1.2), h.2⟩
      obtain ⟨h1, h2, h3⟩ := h'
      obtain ⟨a1, a2, a3⟩ := hq.1 h3
      refine ⟨?_, ?_, ?_⟩
      · intro p hp
        rcases List.mem_cons.1 hp with e | e
        · subst e; exact h1
        · exact a1 p e
      · exact List.Pairwise.cons (fun p hp => a3 _ rfl p hp) a2
      · intro k hk p hp
        rcases List.mem_cons.1 hp with e | e
        · subst e; exact h2 k hk
        · exact ltB_trans (h2 k hk) (a3 _ rfl p e)
    · rintro ⟨h1, h2, h3⟩
      have hr := List.pairwise_cons.1 h2
      have h4 : okFrom (some q.1) l = true := hq.2 ⟨fun p hp => h1 p (List.mem_cons_of_mem _ hp), hr.2, fun k e p hp => by cases e; exact hr.1 p hp⟩
      cases o with
      | none => simp only [okFrom, Bool.and_eq_true]; exact ⟨h1 q List.mem_cons_self, h4⟩
      | some k => simp only [okFrom, Bool.and_eq_true]; exact ⟨⟨h1 q List.mem_cons_self, h3 k rfl q List.mem_cons_self⟩, h4⟩
theorem pairsOk_iff (l : List Pr) : pairsOk l = true ↔ ((∀ p ∈ l, pairOk p = true) ∧ Rise l) ∧ l.length ≤ 60 := by
  unfold pairsOk
  rw [Bool.and_eq_true, okFrom_iff, decide_eq_true_iff]
  constructor
  · rintro ⟨⟨a, b, _⟩, c⟩; exact ⟨⟨a, b⟩, c⟩
  · rintro ⟨⟨a, b⟩, c⟩; exact ⟨⟨a, b, fun k e => by cases e⟩, c⟩

/-! ### what is got -/
theorem getKey_none_iff {key : ByteArray} {l : List Pr} : getKey key l = none ↔ ∀ p ∈ l, p.1 ≠ key := by
  induction l with
  | nil => simp [getKey]
  | cons p l ih =>
    rw [getKey]
    by_cases hp : p.1 = key
    · rw [if_pos hp]
      exact ⟨fun h => (by cases h), fun h => absurd hp (h p List.mem_cons_self)⟩
    · rw [if_neg hp, ih]; simp [hp]
/-! ### pairs that stay right -/
theorem setFirst_keys (key val : ByteArray) (l : List Pr) : (setFirst key val l).map (·.1) = l.map (·.1) := by
  induction l with
  | nil => rfl
  | cons p l ih => unfold setFirst; split <;> simp [ih]
theorem rise_keys {l m : List Pr} (h : l.map (·.1) = m.map (·.1)) (hl : Rise l) : Rise m := by
  have e : ∀ l : List Pr, Rise l ↔ (l.map (·.1)).Pairwise fun a b => ltB a b = true := fun l => by unfold Rise; rw [List.pairwise_map]
  rw [e] at *; rw [← h]; exact hl
theorem setFirst_mem {key val : ByteArray} {l : List Pr} {p : Pr} (h : p ∈ setFirst key val l) : p ∈ l ∨ p = (key, val) := by
  induction l with
  | nil => exact absurd h List.not_mem_nil
  | cons q l ih =>
    unfold setFirst at h
    split at h
    · rename_i hq
      rcases List.mem_cons.1 h with e | e
      · right; rw [e, hq]
      · left; exact List.mem_cons_of_mem _ e
    · rcases List.mem_cons.1 h with e | e
      · left; rw [e]; exact List.mem_cons_self
      · rcases ih e with h1 | h1
        · left; exact List.mem_cons_of_mem _ h1
        · right; exact h1
theorem putKey_mem {key val : ByteArray} {l : List Pr} {p : Pr} (h : p ∈ putKey key val l) : p ∈ l ∨ p = (key, val) := by
  unfold putKey at h
  split at h
  · exact setFirst_mem h
  · rcases List.mem_append.1 h with h1 | h1
    · left; exact List.mem_of_mem_take h1
    · rcases List.mem_cons.1 h1 with h2 | h2
      · right; exact h2
      · left; exact List.mem_of_mem_drop h2
theorem below_take {key : ByteArray} {l : List Pr} : ∀ p ∈ l.take (below key l), ltB key p.1 = false := by
  induction l with
  | nil => intro p hp; exact absurd hp (by simp)
  | cons q l ih =>
    intro p hp
    unfold below at hp
    split at hp
    · exact absurd hp (by simp)
    · rename_i hq
      rw [List.take_succ_cons] at hp
      rcases List.mem_cons.1 hp with e | e
      · subst e; simpa using hq
      · exact ih p e
theorem below_dropR {key : ByteArray} {l : List Pr} (hr : Rise l) : ∀ p ∈ l.drop (below key l), ltB key p.1 = true := by
  induction l with
  | nil => intro p hp; exact absurd hp (by simp)
  | cons q l ih =>
    have hr' := List.pairwise_cons.1 hr
    intro p hp
    unfold below at hp
    split at hp
    · rename_i hq
      rw [List.drop_zero] at hp
      rcases List.mem_cons.1 hp with e | e
      · subst e; exact hq
      · exact ltB_trans hq (hr'.1 p e)
    · rw [List.drop_succ_cons] at hp; exact ih hr'.2 p hp
theorem rise_put {key val : ByteArray} {l : List Pr} (h : Rise l) : Rise (putKey key val l) := by
  unfold putKey
  split
  · exact rise_keys (setFirst_keys key val l).symm h
  · rename_i hn
    have hn' : getKey key l = none := by cases e : getKey key l with | none => rfl | some v => rw [e] at hn; exact absurd rfl hn
    have hne := getKey_none_iff.1 hn'
    have hsplit : Rise (l.take (below key l) ++ l.drop (below key l)) := by rw [List.take_append_drop]; exact h
    have hp := List.pairwise_append.1 hsplit
    refine List.pairwise_append.2 ⟨hp.1, List.Pairwise.cons (fun p hp' => below_dropR h p hp') hp.2.1, ?_⟩
    intro p hp1 q hq
    have hpk : ltB p.1 key = true := by
      have h1 := below_take p hp1
      cases h2 : ltB p.1 key
      · exact absurd (ltB_total h2 h1) (hne p (List.mem_of_mem_take hp1))
      · rfl
    rcases List.mem_cons.1 hq with e | e
    · subst e; exact hpk
    · exact hp.2.2 p hp1 q e
theorem pairsOk_put {key val : ByteArray} {l : List Pr} (h : pairsOk l = true) (hk : keyOk key = true) (hv : val.size ≤ 20) (hl : l.length ≠ 60) : pairsOk (putKey key val l) = true := by
  obtain ⟨⟨h1, h2⟩, h3⟩ := (pairsOk_iff l).1 h
  refine (pairsOk_iff _).2 ⟨⟨fun p hp => ?_, rise_put h2⟩, by have := putKey_length key val l; omega⟩
  rcases putKey_mem hp with e | e
  · exact h1 p e
  · subst e; unfold pairOk; rw [hk]; simpa using hv
/-! ### between -/
/-! ### union -/
theorem unionOf_cons (a : List Pr) (p : Pr) (b : List Pr) : unionOf a (p :: b) = unionOf (putKey p.1 p.2 a) b := rfl
theorem union_len (a b : List Pr) : a.length ≤ (unionOf a b).length ∧ (unionOf a b).length ≤ a.length + b.length := by
  induction b generalizing a with
  | nil => simp [unionOf]
  | cons p b ih =>
    have := ih (putKey p.1 p.2 a)
    have := putKey_length p.1 p.2 a
    rw [unionOf_cons, List.length_cons]; omega

end Go.Proofs.YteammdkipnfmnaaGreatDoor.pairs

namespace Go.Proofs.YteammdkipnfmnaaGreatDoor.range
open Go Go.Proofs.YteammdkipnfmnaaGreatDoor.base Go.Proofs.YteammdkipnfmnaaGreatDoor.pairs Go.Proofs.YteammdkipnfmnaaGreatDoor.tree
set_option linter.unusedVariables false
set_option linter.unusedSimpArgs false

abbrev It := Pr × List ByteArray
structure Prf where
  n : Int
  fr : Int
  items : List It

/-! ### proving -/
def lowN (lo : ByteArray) (l : List Pr) : Nat := (l.takeWhile fun p => ltB p.1 lo).length
def segN (lo hi : ByteArray) (l : List Pr) : Nat := ((l.drop (lowN lo l)).takeWhile fun p => inB lo hi p.1).length
def fromN (lo : ByteArray) (l : List Pr) : Nat := lowN lo l - 1
def toN (lo hi : ByteArray) (l : List Pr) : Nat := if lowN lo l + segN lo hi l < l.length then lowN lo l + segN lo hi l + 1 else lowN lo l + segN lo hi l
def itemAt (l : List Pr) (i : Nat) : It := ((l[i]?).getD (⟨#[]⟩, ⟨#[]⟩), path l i)
def itemsTo (l : List Pr) (a b : Nat) : List It := (List.range' a (b - a)).map (itemAt l)
def zeroPrf : Prf := ⟨0, 0, []⟩
def prove (l : List Pr) (lo hi : ByteArray) : Prf :=
  if pairsOk l = true then ⟨(l.length : Int), if fromN lo l < toN lo hi l then (fromN lo l : Int) else 0, itemsTo l (fromN lo l) (toN lo hi l)⟩ else zeroPrf

theorem takeWhile_le (f : Pr → Bool) (l : List Pr) : (l.takeWhile f).length ≤ l.length := (List.takeWhile_sublist f).length_le
theorem lowN_le (lo : ByteArray) (l : List Pr) : lowN lo l ≤ l.length := takeWhile_le _ l
theorem segN_le (lo hi : ByteArray) (l : List Pr) : lowN lo l + segN lo hi l ≤ l.length := by
  have h1 := takeWhile_le (fun p => inB lo hi p.1) (l.drop (lowN lo l))
  have h2 := lowN_le lo l
  unfold segN; rw [List.length_drop] at h1; omega
theorem toN_le (lo hi : ByteArray) (l : List Pr) : toN lo hi l ≤ l.length := by
  have := segN_le lo hi l
  unfold toN; split <;> omega
theorem itemsTo_length (l : List Pr) (a b : Nat) : (itemsTo l a b).length = b - a := by simp [itemsTo]
theorem itemsTo_snoc (l : List Pr) (a b : Nat) (h : a ≤ b) : itemsTo l a (b + 1) = itemsTo l a b ++ [itemAt l b] := by
  unfold itemsTo
  rw [show b + 1 - a = (b - a) + 1 by omega, List.range'_concat, List.map_append]
  simp [show a + (b - a) = b by omega]
theorem itemsTo_nil (l : List Pr) (a b : Nat) (h : b ≤ a) : itemsTo l a b = [] := by
  unfold itemsTo; rw [show b - a = 0 by omega]; rfl
theorem takeWhile_at (f : Pr → Bool) (l : List Pr) (k : Nat) (h : k < l.length) (hk : k ≤ (l.takeWhile f).length) : (k < (l.takeWhile f).length ↔ f l[k] = true) := by
  induction l generalizing k with
  | nil => simp at h
  | cons p l ih =>
    by_cases hp : f p = true
    · rw [List.takeWhile_cons_of_pos hp] at hk ⊢
      cases k with
      | zero => simp [hp]
      | succ k => simp at hk h ⊢; exact ih k h hk
    · rw [List.takeWhile_cons_of_neg hp] at hk ⊢
      simp at hk
      subst hk
      simp [hp]

/-! ### what is between is the row from there on -/
/-! ### checking -/
def itemOkAt (root : ByteArray) (f : Prf) (k : Nat) : Bool :=
  match f.items[k]? with
  | none => false
  | some x => pairOk x.1 && checkPathI x.1 (f.fr + (k : Int)) f.n x.2 root && (match k with | 0 => true | j + 1 => (match f.items[j]? with | none => false | some y => ltB y.1.1 x.1.1))
def keysOf (items : List It) : List Pr := items.map (·.1)
def firstKey (items : List It) : ByteArray := match items.head? with | none => ⟨#[]⟩ | some x => x.1.1
def lastKey (items : List It) : ByteArray := match items.getLast? with | none => ⟨#[]⟩ | some x => x.1.1
def endsBad (lo hi : ByteArray) (f : Prf) : Prop := (ltB (firstKey f.items) lo = false ∧ 0 < f.fr) ∨ ((hi.size = 0 ∨ ltB (lastKey f.items) hi = true) ∧ f.fr + (f.items.length : Int) < f.n)
def endsDec (lo hi : ByteArray) (f : Prf) : Decidable (endsBad lo hi f) := by unfold endsBad; infer_instance
def check (root lo hi : ByteArray) (f : Prf) : Option (List Pr) :=
  if f.n = 0 then (if f.items = [] ∧ f.fr = 0 ∧ root = rootOf [] then some [] else none)
  else if ¬ (1 ≤ f.n ∧ f.n ≤ 60) ∨ f.items = [] ∨ ¬ (0 ≤ f.fr ∧ f.fr ≤ f.n - 1) then none
  else if ((List.range f.items.length).all (itemOkAt root f)) = false then none
  else @ite _ (endsBad lo hi f) (endsDec lo hi f) none (some (between lo hi (keysOf f.items)))
theorem all_range_false {n k : Nat} {f : Nat → Bool} (hk : k < n) (hf : f k = false) : (List.range n).all f = false := by
  rw [List.all_eq_false]
  exact ⟨k, List.mem_range.2 hk, by rw [hf]; simp⟩
theorem all_range_true {n : Nat} {f : Nat → Bool} (hf : ∀ k, k < n → f k = true) : (List.range n).all f = true := by
  rw [List.all_eq_true]
  exact fun k hk => hf k (List.mem_range.1 hk)
theorem itemOk_zero (root : ByteArray) (f : Prf) (h : 0 < f.items.length) : itemOkAt root f 0 = (pairOk f.items[0].1 && checkPathI f.items[0].1 (f.fr + (0 : Nat)) f.n f.items[0].2 root) := by
  unfold itemOkAt; rw [List.getElem?_eq_getElem h]; simp
theorem itemOk_succ (root : ByteArray) (f : Prf) (j : Nat) (h : j + 1 < f.items.length) : itemOkAt root f (j + 1) = (pairOk f.items[j + 1].1 && checkPathI f.items[j + 1].1 (f.fr + ((j + 1 : Nat) : Int)) f.n f.items[j + 1].2 root && ltB (f.items[j]'(by omega)).1.1 f.items[j + 1].1.1) := by
  have h2 : j < f.items.length := by omega
  unfold itemOkAt
  simp only [List.getElem?_eq_getElem h, List.getElem?_eq_getElem h2]

end Go.Proofs.YteammdkipnfmnaaGreatDoor.range

namespace Go.Proofs.YteammdkipnfmnaaGreatDoor.range
open Go Go.RowKit Go.Proofs.YteammdkipnfmnaaGreatDoor.base Go.Proofs.YteammdkipnfmnaaGreatDoor.pairs Go.Proofs.YteammdkipnfmnaaGreatDoor.tree
set_option linter.unusedVariables false
set_option linter.unusedSimpArgs false

def smallI (x : It) : Prop := small x.1 ∧ ∀ s ∈ x.2, s.size ≤ maxLen
def ItAt (w : World) (b o : Nat) (x : It) : Prop :=
  w.cell? ⟨b, o, none⟩ = some (.string x.1.1) ∧ w.cell? ⟨b, o + 1, none⟩ = some (.string x.1.2) ∧ ∃ pa pl pc, w.cell? ⟨b, o + 2, none⟩ = some (.slice pa pl pc) ∧ SlS w pa pl x.2 ∧ pl ≤ pc
theorem ItAt.below {w w' : World} {b o : Nat} {x : It} (h : ItAt w b o x) (hb : Below w.heap.size w w') : ItAt w' b o x := by
  have keep : ∀ o v, w.cell? ⟨b, o, none⟩ = some v → w'.cell? ⟨b, o, none⟩ = some v := fun o v hv => (hb.cell (p := ⟨b, o, none⟩) (World.block_lt_of_cell? w _ hv)).trans hv
  obtain ⟨h1, h2, pa, pl, pc, h3, h4, h5⟩ := h
  exact ⟨keep _ _ h1, keep _ _ h2, pa, pl, pc, keep _ _ h3, h4.below hb, h5⟩
def SlI (w : World) (a : Option Addr) (len : Nat) (l : List It) : Prop :=
  l.length = len ∧ len ≤ maxLen ∧ (∀ x ∈ l, smallI x) ∧ (0 < len → ∃ b off, a = some ⟨b, off, none⟩ ∧ ∀ i (h : i < l.length), ItAt w b (off + i * 3) l[i])
theorem sli_nil (w : World) (a : Option Addr) : SlI w a 0 [] := ⟨rfl, Nat.zero_le _, (fun _ h => absurd h List.not_mem_nil), fun h => absurd h (by omega)⟩
theorem SlI.below {w w' : World} {a : Option Addr} {len : Nat} {l : List It} (h : SlI w a len l) (hb : Below w.heap.size w w') : SlI w' a len l := by
  obtain ⟨h1, h2, h3, h4⟩ := h
  refine ⟨h1, h2, h3, fun h0 => ?_⟩
  obtain ⟨b, off, e, hc⟩ := h4 h0
  exact ⟨b, off, e, fun i hi => (hc i hi).below hb⟩
theorem SlI.at {w : World} {b off len : Nat} {l : List It} (h : SlI w (some ⟨b, off, none⟩) len l) (i : Nat) (hi : i < l.length) : ItAt w b (off + i * 3) l[i] := by
  obtain ⟨b', off', e, hc⟩ := h.2.2.2 (by have := h.1; omega)
  simp only [Option.some.injEq, Addr.mk.injEq, and_true] at e
  obtain ⟨rfl, rfl⟩ := e
  exact hc i hi

/-! ### rows of items that a call made: each path lies in a row of its own -/
abbrev Hd := Nat × Nat × Nat
def itVals (l : List It) (hs : List Hd) : List Value := (l.zip hs).flatMap fun q => [.string q.1.1.1, .string q.1.1.2, .slice (some ⟨q.2.1, 0, none⟩) q.2.2.1 q.2.2.2]
theorem itVals_length (l : List It) (hs : List Hd) (h : hs.length = l.length) : (itVals l hs).length = l.length * 3 := by
  induction l generalizing hs with
  | nil => rfl
  | cons x l ih =>
    cases hs with
    | nil => simp at h
    | cons y hs => simp at h; have := ih hs h; simp [itVals] at this ⊢; omega
theorem itVals_get (l : List It) (hs : List Hd) (h : hs.length = l.length) (i : Nat) (hi : i < l.length) :
    (itVals l hs)[i * 3]? = some (.string l[i].1.1) ∧ (itVals l hs)[i * 3 + 1]? = some (.string l[i].1.2) ∧ (itVals l hs)[i * 3 + 2]? = some (.slice (some ⟨(hs[i]'(by omega)).1, 0, none⟩) (hs[i]'(by omega)).2.1 (hs[i]'(by omega)).2.2) := by
  induction l generalizing hs i with
  | nil => simp at hi
  | cons x l ih =>
    cases hs with
    | nil => simp at h
    | cons y hs =>
      have e : itVals (x :: l) (y :: hs) = .string x.1.1 :: .string x.1.2 :: .slice (some ⟨y.1, 0, none⟩) y.2.1 y.2.2 :: itVals l hs := rfl
      rw [e]
      cases i with
      | zero => exact ⟨rfl, rfl, rfl⟩
      | succ i =>
        have := ih hs (by simpa using h) i (by simpa using hi)
        rw [show (i + 1) * 3 = i * 3 + 1 + 1 + 1 by omega]
        simpa using this
theorem itVals_snoc (l : List It) (hs : List Hd) (h : hs.length = l.length) (x : It) (y : Hd) : itVals (l ++ [x]) (hs ++ [y]) = itVals l hs ++ [.string x.1.1, .string x.1.2, .slice (some ⟨y.1, 0, none⟩) y.2.1 y.2.2] := by
  unfold itVals
  rw [List.zip_append h.symm, List.flatMap_append]; rfl
theorem itVals_oneCell (l : List It) (hs : List Hd) : ∀ v ∈ itVals l hs, v.oneCell' = true := by
  intro v hv
  obtain ⟨q, _, hq⟩ := List.mem_flatMap.1 hv
  simp at hq
  rcases hq with rfl | rfl | rfl <;> rfl
structure OwnI (w : World) (base : Nat) (v : Value) (l : List It) (hs : List Hd) : Prop where
  len : hs.length = l.length
  sm : ∀ x ∈ l, smallI x
  row : w.ownsRow base 107 3 v l.length (itVals l hs)
  paths : ∀ i (h : i < l.length), OwnS w base (hs[i]'(by omega)).1 (hs[i]'(by omega)).2.1 (hs[i]'(by omega)).2.2 l[i].2
  apart : hs.Pairwise fun a b => a.1 ≠ b.1
  out : ∀ k, v.ownBlock = some k → ∀ y ∈ hs, y.1 ≠ k
theorem OwnI.below {w w' : World} {base : Nat} {v : Value} {l : List It} {hs : List Hd} (h : OwnI w base v l hs) (hb : Below w.heap.size w w') : OwnI w' base v l hs :=
  ⟨h.len, h.sm, h.row.kept (row := none) ⟨hb.os, hb.tape, hb.output, hb.size, fun k hk _ => hb.block k hk⟩ (by
    by_cases e : v.ownBlock = none
    · exact .inl e
    · exact .inr e), fun i hi => (h.paths i hi).below hb, h.apart, h.out⟩
theorem ownI_nil (w : World) (base : Nat) : OwnI w base (.slice none 0 0) [] [] :=
  ⟨rfl, (fun _ h => absurd h List.not_mem_nil), ⟨rfl, .inl ⟨rfl, rfl⟩⟩, fun i hi => absurd hi (by simp), List.Pairwise.nil, fun k hk => by cases hk⟩

/-! ### arguments -/
end Go.Proofs.YteammdkipnfmnaaGreatDoor.range

namespace Go.Proofs.YteammdkipnfmnaaGreatDoor.range
open Go Go.RowKit Go.Proofs.YteammdkipnfmnaaGreatDoor.base Go.Proofs.YteammdkipnfmnaaGreatDoor.pairs Go.Proofs.YteammdkipnfmnaaGreatDoor.tree
set_option linter.unusedVariables false
set_option linter.unusedSimpArgs false

theorem row_of_block {w w' : World} {base : Nat} {e : TypeId} {size : Nat} {v : Value} {n : Nat} {xs : List Value} (h : w.ownsRow base e size v n xs) (hk : ∀ k, v.ownBlock = some k → w'.heap[k]? = w.heap[k]?) : w'.ownsRow base e size v n xs := by
  refine ⟨h.1, ?_⟩
  rcases h.2 with h' | ⟨g, cap, cur, rfl, h0, hg, r⟩
  · exact .inl h'
  · exact .inr ⟨g, cap, cur, rfl, h0, (hk g rfl).trans hg, r⟩
theorem row_mono {w : World} {base base' : Nat} {e : TypeId} {size : Nat} {v : Value} {n : Nat} {xs : List Value} (h : w.ownsRow base e size v n xs) (hb : base' ≤ base) : w.ownsRow base' e size v n xs := by
  refine ⟨h.1, ?_⟩
  rcases h.2 with h' | ⟨g, cap, cur, rfl, h0, r⟩
  · exact .inl h'
  · exact .inr ⟨g, cap, cur, rfl, by omega, r⟩
section
variable {w w' : World} {base base' g n cap : Nat} {v : Value} {l : List It} {hs : List Hd}
theorem ownS_of_block {ss : List ByteArray} (h : OwnS w base g n cap ss) (hk : w'.heap[g]? = w.heap[g]?) : OwnS w' base g n cap ss := ⟨h.1, h.2.1, row_of_block h.2.2 (fun k e => by cases e; exact hk)⟩
theorem ownP_of_block {ps : List Pr} (h : OwnP w base g n cap ps) (hk : w'.heap[g]? = w.heap[g]?) : OwnP w' base g n cap ps := ⟨h.1, h.2.1, row_of_block h.2.2 (fun k e => by cases e; exact hk)⟩
def Blk (v : Value) (hs : List Hd) (k : Nat) : Prop := v.ownBlock = some k ∨ ∃ y ∈ hs, y.1 = k
theorem OwnI.of_blocks (h : OwnI w base v l hs) (hk : ∀ k, Blk v hs k → w'.heap[k]? = w.heap[k]?) : OwnI w' base v l hs :=
  ⟨h.len, h.sm, row_of_block h.row (fun k e => hk k (.inl e)), fun i hi => ownS_of_block (h.paths i hi) (hk _ (.inr ⟨hs[i]'(by have := h.len; omega), List.getElem_mem _, rfl⟩)), h.apart, h.out⟩
theorem OwnI.mono (h : OwnI w base v l hs) (hb : base' ≤ base) : OwnI w base' v l hs :=
  ⟨h.len, h.sm, row_mono h.row hb, fun i hi => (h.paths i hi).mono hb, h.apart, h.out⟩
theorem OwnI.lt (h : OwnI w base v l hs) (k : Nat) (hk : Blk v hs k) : base ≤ k ∧ k < w.heap.size := by
  rcases hk with e | ⟨y, hy, rfl⟩
  · exact h.row.lt k e
  · obtain ⟨i, hi, rfl⟩ := List.getElem_of_mem hy
    exact (h.paths i (by have := h.len; omega)).lt
theorem OwnI.grown (h : OwnI w base v l hs) {k : Nat} (hg : w.grownBy w' (some k)) (hne : ¬ Blk v hs k) : OwnI w' base v l hs :=
  h.of_blocks (fun j hj => hg.block j (h.lt j hj).2 (fun e => by cases e; exact hne hj))
theorem OwnI.shape (h : OwnI w base v l hs) : (v = .slice none 0 0 ∧ l = [] ∧ hs = []) ∨ ∃ g cap, v = .slice (some ⟨g, 0, none⟩) l.length cap ∧ l.length ≤ cap ∧ cap ≤ maxLen := by
  rcases h.row.2 with ⟨rfl, h0⟩ | ⟨g, cap, cur, rfl, _, _, h1, h2, _⟩
  · have : l = [] := List.eq_nil_of_length_eq_zero h0
    subst this
    exact .inl ⟨rfl, rfl, List.eq_nil_of_length_eq_zero (by simpa using h.len)⟩
  · exact .inr ⟨g, cap, rfl, h1, h2⟩
theorem OwnI.at (h : OwnI w base (.slice (some ⟨g, 0, none⟩) n cap) l hs) (i : Nat) (hi : i < l.length) :
    w.cell? ⟨g, i * 3, none⟩ = some (.string l[i].1.1) ∧ w.cell? ⟨g, i * 3 + 1, none⟩ = some (.string l[i].1.2) ∧ w.cell? ⟨g, i * 3 + 2, none⟩ = some (.slice (some ⟨(hs[i]'(by have := h.len; omega)).1, 0, none⟩) (hs[i]'(by have := h.len; omega)).2.1 (hs[i]'(by have := h.len; omega)).2.2) := by
  have hn : n = l.length := by
    rcases h.shape with ⟨e, _⟩ | ⟨g', c', e, _⟩
    · cases e
    · cases e; rfl
  subst hn
  obtain ⟨h1, h2, h3⟩ := itVals_get l hs h.len i hi
  have key : ∀ j u, (itVals l hs)[j]? = some u → w.cell? ⟨g, j, none⟩ = some u := fun j u hu => by
    have := h.row.cells (g := g) rfl j u hu
    rw [Addr.add_lit, Nat.zero_add] at this
    exact this
  exact ⟨key _ _ h1, key _ _ h2, key _ _ h3⟩
theorem OwnI.nlen (h : OwnI w base (.slice (some ⟨g, 0, none⟩) n cap) l hs) : n = l.length := by
  rcases h.shape with ⟨e, _⟩ | ⟨g', c', e, _⟩
  · cases e
  · cases e; rfl
theorem OwnI.frozen (h : OwnI w base (.slice (some ⟨g, 0, none⟩) n cap) l hs) (j : Nat) : w.frozen? ⟨g, j, none⟩ = false := by
  obtain rfl := h.nlen
  exact h.row.frozenAt j
theorem OwnI.sl {a : Option Addr} (h : OwnI w base (.slice a n cap) l hs) : SlI w a n l := by
  rcases h.shape with ⟨e, rfl, _⟩ | ⟨g, c, e, h1, h2⟩
  · cases e; exact sli_nil _ _
  · cases e
    refine ⟨rfl, by omega, h.sm, fun _ => ⟨g, 0, rfl, fun i hi => ?_⟩⟩
    obtain ⟨c1, c2, c3⟩ := h.at i hi
    rw [Nat.zero_add]
    have hp := h.paths i hi
    exact ⟨c1, c2, _, _, _, c3, hp.sl, hp.cases.1⟩

/-! ### all blocks but those of a slice of items are as they were -/
/-! ### stores -/
theorem itVals_set1 (l : List It) (hs : List Hd) (h : hs.length = l.length) (i : Nat) (hi : i < l.length) (k : ByteArray) : (itVals l hs).set (i * 3 + 1) (.string k) = itVals (l.set i ((l[i].1.1, k), l[i].2)) hs := by
  induction l generalizing hs i with
  | nil => simp at hi
  | cons x l ih =>
    cases hs with
    | nil => simp at h
    | cons y hs =>
      have e : ∀ (x : It) l, itVals (x :: l) (y :: hs) = .string x.1.1 :: .string x.1.2 :: .slice (some ⟨y.1, 0, none⟩) y.2.1 y.2.2 :: itVals l hs := fun _ _ => rfl
      cases i with
      | zero => rw [e]; simp [e]
      | succ i =>
        rw [e, show (i + 1) * 3 + 1 = i * 3 + 1 + 1 + 1 + 1 by omega]
        simp only [List.set_cons_succ, List.getElem_cons_succ, e]
        rw [ih hs (by simpa using h) i (by simpa using hi)]
theorem itVals_path (l : List It) (hs : List Hd) (i : Nat) (P : List ByteArray) (h : hs.length = l.length) (hi : i < l.length) : itVals (l.set i (l[i].1, P)) hs = itVals l hs := by
  induction l generalizing hs i with
  | nil => simp at hi
  | cons x l ih =>
    cases hs with
    | nil => simp at h
    | cons y hs =>
      have e : ∀ (x : It) l, itVals (x :: l) (y :: hs) = .string x.1.1 :: .string x.1.2 :: .slice (some ⟨y.1, 0, none⟩) y.2.1 y.2.2 :: itVals l hs := fun _ _ => rfl
      cases i with
      | zero => rfl
      | succ i =>
        simp only [List.set_cons_succ, List.getElem_cons_succ, e]
        rw [ih hs i (by simpa using h) (by simpa using hi)]
theorem mem_set_smallI {i : Nat} {x : It} (h : ∀ y ∈ l, smallI y) (hx : smallI x) : ∀ y ∈ l.set i x, smallI y := by
  intro y hy
  rcases List.mem_or_eq_of_mem_set hy with h1 | h1
  · exact h y h1
  · subst h1; exact hx
theorem paths_set (h : OwnI w base v l hs) (i : Nat) (hi : i < l.length) (q : Pr) : ∀ j (hj : j < (l.set i (q, l[i].2)).length), OwnS w base (hs[j]'(by have := h.len; simp at hj; omega)).1 (hs[j]'(by have := h.len; simp at hj; omega)).2.1 (hs[j]'(by have := h.len; simp at hj; omega)).2.2 (l.set i (q, l[i].2))[j].2 := by
  intro j hj
  have hjl : j < l.length := by simpa using hj
  have := h.paths j hjl
  by_cases e : i = j
  · subst e; rw [List.getElem_set_self]; exact this
  · rw [List.getElem_set_ne e]; exact this
theorem OwnI.setVal (h : OwnI w base (.slice (some ⟨g, 0, none⟩) n cap) l hs) (i : Nat) (hi : i < l.length) (k : ByteArray) (hk : k.size ≤ maxLen) :
    OwnI (w.setCell ⟨g, i * 3 + 1, none⟩ (.string k)) base (.slice (some ⟨g, 0, none⟩) n cap) (l.set i ((l[i].1.1, k), l[i].2)) hs ∧ w.grownBy (w.setCell ⟨g, i * 3 + 1, none⟩ (.string k)) (some g) := by
  obtain rfl := h.nlen
  have hs1 := h.row.stored (i * 3 + 1) (.string k)
  rw [itVals_set1 l hs h.len i hi k] at hs1
  have hsm := h.sm l[i] (List.getElem_mem hi)
  refine ⟨⟨by simpa using h.len, mem_set_smallI h.sm ⟨⟨hsm.1.1, hk⟩, hsm.2⟩, by simpa using hs1.1, fun j hj => ?_, h.apart, h.out⟩, hs1.2⟩
  refine (paths_set h i hi (l[i].1.1, k) j hj).grown hs1.2 (fun e => ?_)
  exact h.out g rfl _ (List.getElem_mem _) (by simpa using e)
theorem row_ne {e1 e2 : TypeId} {s1 s2 n1 n2 : Nat} {v1 v2 : Value} {x1 x2 : List Value} {k b1 b2 : Nat} (h1 : w.ownsRow b1 e1 s1 v1 n1 x1) (h2 : w.ownsRow b2 e2 s2 v2 n2 x2) (hk1 : v1.ownBlock = some k) (hk2 : v2.ownBlock = some k) (hne : e1 ≠ e2) : False := by
  rcases h1.2 with ⟨rfl, _⟩ | ⟨g, c, cur, rfl, _, hg, _⟩
  · cases hk1
  rcases h2.2 with ⟨rfl, _⟩ | ⟨g2, c2, cur2, rfl, _, hg2, _⟩
  · cases hk2
  cases hk1
  simp only [Value.ownBlock, Option.some.injEq] at hk2
  rw [hk2, hg] at hg2
  injection hg2 with hg2
  injection hg2 with _ he
  exact hne he
theorem OwnI.snoc {w5 w7 : World} {p : Pr} {P : List ByteArray} {g5 n5 c5 : Nat} {v7 : Value} (h : OwnI w base v l hs) (hb : Below w.heap.size w w5) (hP : OwnS w5 base g5 n5 c5 P) (hg5 : w.heap.size ≤ g5) (hp : small p)
    (o : Obj) (hown : w7.ownsRow base 107 3 v7 (l.length + 1) (itVals l hs ++ [.string p.1, .string p.2, .slice (some ⟨g5, 0, none⟩) n5 c5])) (hgrow : (w5.alloc o).grownBy w7 v.ownBlock) :
    OwnI w7 base v7 (l ++ [(p, P)]) (hs ++ [(g5, n5, c5)]) := by
  have hlen := h.len
  have hg5' : g5 < w5.heap.size := hP.lt.2
  have keep : ∀ {g n c : Nat} {ss : List ByteArray}, OwnS w5 base g n c ss → some g ≠ v.ownBlock → OwnS w7 base g n c ss := fun hS hne => (ownS_of_block (w' := w5.alloc o) hS (by
    have := hS.lt.2
    show (w5.heap.push o)[_]? = _
    rw [Array.getElem?_push]; split
    · omega
    · rfl)).grown hgrow hne
  have hps : ∀ i (hi : i < (l ++ [(p, P)]).length), OwnS w7 base ((hs ++ [(g5, n5, c5)])[i]'(by simp at hi ⊢; omega)).1 ((hs ++ [(g5, n5, c5)])[i]'(by simp at hi ⊢; omega)).2.1 ((hs ++ [(g5, n5, c5)])[i]'(by simp at hi ⊢; omega)).2.2 (l ++ [(p, P)])[i].2 := by
    intro i hi
    by_cases e : i < l.length
    · rw [List.getElem_append_left e]
      simp only [List.getElem_append_left (show i < hs.length by omega)]
      refine keep ((h.paths i e).below hb) (fun e2 => ?_)
      exact h.out _ e2.symm _ (List.getElem_mem _) rfl
    · have : i = l.length := by simp at hi; omega
      subst this
      rw [List.getElem_append_right (Nat.le_refl _)]
      simp only [List.getElem_append_right (show hs.length ≤ l.length by omega)]
      simp only [hlen, Nat.sub_self, List.getElem_cons_zero]
      refine keep hP (fun e2 => ?_)
      have := (h.row.lt g5 e2.symm).2
      omega
  refine ⟨by simp [hlen], fun x hx => ?_, ?_, hps, ?_, fun k hk y hy e => ?_⟩
  · rcases List.mem_append.1 hx with h1 | h1
    · exact h.sm x h1
    · rw [List.mem_singleton.1 h1]; exact ⟨hp, hP.2.1⟩
  · rw [itVals_snoc l hs hlen, List.length_append]; exact hown
  · rw [List.pairwise_append]
    refine ⟨h.apart, List.pairwise_singleton _ _, fun a ha y hy => ?_⟩
    rw [List.mem_singleton.1 hy]
    have := (h.lt a.1 (.inr ⟨a, ha, rfl⟩)).2
    show a.1 ≠ g5
    omega
  · obtain ⟨i, hi, rfl⟩ := List.getElem_of_mem hy
    have hS := hps i (by simp at hi ⊢; omega)
    exact row_ne hown hS.2.2 hk (by rw [← e]; rfl) (by decide)
end
end Go.Proofs.YteammdkipnfmnaaGreatDoor.range

namespace Go.Proofs.YteammdkipnfmnaaGreatDoor.bun
open Go Go.RowKit Go.Proofs.YteammdkipnfmnaaGreatDoor.base Go.Proofs.YteammdkipnfmnaaGreatDoor.pairs Go.Proofs.YteammdkipnfmnaaGreatDoor.lay Go.Proofs.YteammdkipnfmnaaGreatDoor.range Go.Proofs.YteammdkipnfmnaaGreatDoor.seals
set_option linter.unusedVariables false
set_option linter.unusedSimpArgs false

abbrev Pf := Int × Int × List It
abbrev Bun := Int × ByteArray × List ByteArray × List Pf
def blkI (v : Value) (hs : List Hd) : List Nat := v.ownBlock.toList ++ hs.map fun y => y.1
theorem mem_blkI {v : Value} {hs : List Hd} {k : Nat} : k ∈ blkI v hs ↔ Blk v hs k := by
  unfold blkI Blk
  rw [List.mem_append]
  constructor
  · rintro (h | h)
    · left; cases e : v.ownBlock with
      | none => rw [e] at h; cases h
      | some x => rw [e] at h; have : k = x := by simpa using h
                  rw [this]
    · right
      obtain ⟨y, hy, rfl⟩ := List.mem_map.1 h
      exact ⟨y, hy, rfl⟩
  · rintro (h | ⟨y, hy, rfl⟩)
    · left; rw [h]; simp
    · right; exact List.mem_map.2 ⟨y, hy, rfl⟩
theorem sls_cells {w w' : World} {a : Option Addr} {n : Nat} {l : List ByteArray} (h : SlS w a n l) (hc : ∀ b o v, w.cell? ⟨b, o, none⟩ = some v → w'.cell? ⟨b, o, none⟩ = some v) : SlS w' a n l := by
  obtain ⟨h1, h2, h3, h4⟩ := h
  refine ⟨h1, h2, h3, fun h0 => ?_⟩
  obtain ⟨b, off, e, hi⟩ := h4 h0
  exact ⟨b, off, e, fun i hl => hc _ _ _ (hi i hl)⟩
theorem sli_cells {w w' : World} {a : Option Addr} {n : Nat} {l : List It} (h : SlI w a n l) (hc : ∀ b o v, w.cell? ⟨b, o, none⟩ = some v → w'.cell? ⟨b, o, none⟩ = some v) : SlI w' a n l := by
  obtain ⟨h1, h2, h3, h4⟩ := h
  refine ⟨h1, h2, h3, fun h0 => ?_⟩
  obtain ⟨b, off, e, hi⟩ := h4 h0
  refine ⟨b, off, e, fun i hl => ?_⟩
  obtain ⟨c0, c1, pa, pl, pc, c2, hs, hp⟩ := hi i hl
  exact ⟨hc _ _ _ c0, hc _ _ _ c1, pa, pl, pc, hc _ _ _ c2, sls_cells hs hc, hp⟩
theorem nodup_map {hs : List Hd} (h : hs.Pairwise fun a b => a.1 ≠ b.1) : (hs.map fun y => y.1).Nodup := by
  unfold List.Nodup
  rw [List.pairwise_map]
  exact h
def itemsR : Rd (List It) where
  size := 1
  see w vs l := ∃ a n c, vs = [.slice a n c] ∧ n ≤ c ∧ SlI w a n l
  own w vs l F := ∃ v hs, vs = [v] ∧ F = blkI v hs ∧ OwnI w 0 v l hs
  seeLen := by rintro w vs x ⟨a, n, c, rfl, _⟩; rfl
  seeCells := by
    rintro w w' vs x ⟨a, n, c, rfl, hc, h⟩ hk
    exact ⟨a, n, c, rfl, hc, sli_cells h hk⟩
  ownSee := by
    rintro w vs x F ⟨v, hs, rfl, rfl, h⟩
    rcases h.shape with ⟨rfl, rfl, rfl⟩ | ⟨g, cap, rfl, h1, _⟩
    · exact ⟨none, 0, 0, rfl, Nat.le_refl _, h.sl⟩
    · exact ⟨_, _, _, rfl, h1, h.sl⟩
  ownAt := by
    rintro w w' vs x F ⟨v, hs, rfl, rfl, h⟩ hk
    exact ⟨v, hs, rfl, rfl, h.of_blocks (fun k e => hk k (mem_blkI.2 e))⟩
  ownLt := by
    rintro w vs x F ⟨v, hs, rfl, rfl, h⟩ k hk
    exact (h.lt k (mem_blkI.1 hk)).2
  ownNodup := by
    rintro w vs x F ⟨v, hs, rfl, rfl, h⟩
    refine nodup_mk ?_ (nodup_map h.apart) (fun k hk hk2 => ?_)
    · cases v.ownBlock <;> simp
    · have e : v.ownBlock = some k := by
        cases e : v.ownBlock with
        | none => rw [e] at hk; cases hk
        | some x => rw [e] at hk; have : k = x := by simpa using hk
                    rw [this]
      obtain ⟨y, hy, rfl⟩ := List.mem_map.1 hk2
      exact h.out _ e y hy rfl
  ownOne := by
    rintro w vs x F ⟨v, hs, rfl, rfl, h⟩ u hu
    rw [List.mem_singleton.1 hu]
    rcases h.shape with ⟨rfl, _, _⟩ | ⟨g, cap, rfl, _, _⟩ <;> rfl
def proofR : Rd Pf := both int (both int itemsR)
def proofsR : Rd (List Pf) := slice 64 proofR
def bundleR : Rd Bun := both int (both str (both textsR proofsR))
section
variable {w w' : World} {F : List Nat} {vs : List Value} {a : Option Addr} {n cap : Nat} {v : Value}
theorem proof_own {x : Pf} : proofR.own w vs x F ↔ ∃ v, vs = [.int .i64 x.1, .int .i64 x.2.1, v] ∧ (Lit.int .i64 x.1).wf = true ∧ (Lit.int .i64 x.2.1).wf = true ∧ itemsR.own w [v] x.2.2 F := by
  constructor
  · rintro ⟨u1, t1, F1, G1, rfl, rfl, h1, ⟨u2, t2, F2, G2, rfl, rfl, h2, h4, _⟩, _⟩
    obtain ⟨rfl, k1, rfl⟩ := cos.flat_int.own.1 h1
    obtain ⟨rfl, k2, rfl⟩ := cos.flat_int.own.1 h2
    obtain ⟨v, q, rfl, _⟩ := id h4
    exact ⟨v, rfl, k1, k2, by simpa using h4⟩
  · rintro ⟨v, rfl, k1, k2, h4⟩
    have hn := itemsR.ownNodup h4
    exact ⟨[_], [_, v], [], F, rfl, rfl, cos.flat_int.own.2 ⟨rfl, k1, rfl⟩, ⟨[_], [v], [], F, rfl, rfl, cos.flat_int.own.2 ⟨rfl, k2, rfl⟩, h4, hn⟩, hn⟩
structure SeeBu (w : World) (ra : Option Addr) (rn rc : Nat) (pa : Option Addr) (pn pc : Nat) (x : Bun) : Prop where
  no : (Lit.int .i64 x.1).wf = true
  prev : x.2.1.size ≤ maxLen
  roots : SlS w ra rn x.2.2.1
  proofs : SlG proofR w pa pn x.2.2.2
  rc : rn ≤ rc
  pc : pn ≤ pc
theorem SeeBu.below {ra pa : Option Addr} {rn rc pn pc : Nat} {x : Bun} (h : SeeBu w ra rn rc pa pn pc x) (hb : Below w.heap.size w w') : SeeBu w' ra rn rc pa pn pc x := ⟨h.no, h.prev, h.roots.below hb, h.proofs.below hb, h.rc, h.pc⟩
theorem bundle_see {x : Bun} : bundleR.see w vs x ↔ ∃ ra rn rc pa pn pc, vs = [.int .i64 x.1, .string x.2.1, .slice ra rn rc, .slice pa pn pc] ∧ SeeBu w ra rn rc pa pn pc x := by
  constructor
  · rintro ⟨u1, t1, rfl, h1, u2, t2, rfl, h2, u3, t3, rfl, h3, h4⟩
    obtain ⟨rfl, k1⟩ := cos.flat_int.see.1 h1
    obtain ⟨rfl, k2⟩ := cos.flat_str.see.1 h2
    obtain ⟨ra, rn, rc, rfl, _⟩ := id h3
    obtain ⟨pa, pn, pc, rfl, q1, q2⟩ := id h4
    have h6 := texts_see.1 h3
    exact ⟨ra, rn, rc, pa, pn, pc, rfl, k1, k2, h6.1, q2, h6.2, q1⟩
  · rintro ⟨ra, rn, rc, pa, pn, pc, rfl, h⟩
    exact ⟨[_], [_, _, _], rfl, cos.flat_int.see.2 ⟨rfl, h.no⟩, [_], [_, _], rfl, cos.flat_str.see.2 ⟨rfl, h.prev⟩, [_], [_], rfl, texts_see.2 ⟨h.roots, h.rc⟩, ⟨_, _, _, rfl, h.pc, h.proofs⟩⟩
theorem bundle_own {x : Bun} : bundleR.own w vs x F ↔ ∃ v1 v2 F1 F2, vs = [.int .i64 x.1, .string x.2.1, v1, v2] ∧ F = F1 ++ F2 ∧ (Lit.int .i64 x.1).wf = true ∧ x.2.1.size ≤ maxLen ∧ textsR.own w [v1] x.2.2.1 F1 ∧ proofsR.own w [v2] x.2.2.2 F2 ∧ F.Nodup := by
  constructor
  · rintro ⟨u1, t1, F1, G1, rfl, rfl, h1, ⟨u2, t2, F2, G2, rfl, rfl, h2, ⟨u3, t3, F3, G3, rfl, rfl, h3, h4, hn⟩, _⟩, _⟩
    obtain ⟨rfl, k1, rfl⟩ := cos.flat_int.own.1 h1
    obtain ⟨rfl, k2, rfl⟩ := cos.flat_str.own.1 h2
    obtain ⟨v1, q1, rfl, _⟩ := id h3
    obtain ⟨v2, q2, rfl, _⟩ := id h4
    exact ⟨v1, v2, F3, G3, rfl, rfl, k1, k2, h3, h4, by simpa using hn⟩
  · rintro ⟨v1, v2, F1, F2, rfl, rfl, k1, k2, h3, h4, hn⟩
    exact ⟨[_], [_, v1, v2], [], F1 ++ F2, rfl, rfl, cos.flat_int.own.2 ⟨rfl, k1, rfl⟩, ⟨[_], [v1, v2], [], F1 ++ F2, rfl, rfl, cos.flat_str.own.2 ⟨rfl, k2, rfl⟩, ⟨[v1], [v2], F1, F2, rfl, rfl, h3, h4, hn⟩, hn⟩, hn⟩
theorem bundle_shape {x : Bun} (h : bundleR.own w vs x F) : ∃ ra rn rc pa pn pc, vs = [.int .i64 x.1, .string x.2.1, .slice ra rn rc, .slice pa pn pc] := by
  obtain ⟨ra, rn, rc, pa, pn, pc, e, _⟩ := bundle_see.1 (bundleR.ownSee h)
  exact ⟨ra, rn, rc, pa, pn, pc, e⟩
theorem see_bu {ra pa : Option Addr} {rn rc pn pc : Nat} {x : Bun} (h : bundleR.see w [.int .i64 x.1, .string x.2.1, .slice ra rn rc, .slice pa pn pc] x) : SeeBu w ra rn rc pa pn pc x := by
  obtain ⟨ra', rn', rc', pa', pn', pc', e, h⟩ := bundle_see.1 h
  simp only [List.cons.injEq, Value.slice.injEq, and_true, true_and] at e
  obtain ⟨⟨rfl, rfl, rfl⟩, rfl, rfl, rfl⟩ := e
  exact h
end
end Go.Proofs.YteammdkipnfmnaaGreatDoor.bun
