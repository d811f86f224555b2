/- Words in boxes, and what is read of bytes: small facts on worlds. The laws' own helpers on pairs: what each call does. -/
import Derived.Test.YtjodbijcgcjndaaBund10ax
import Derived.Test.YtjodbijcgcjndaaBund10ag
import Derived.Test.YtjodbijcgcjndaaBund10ak
namespace Go.Proofs.Ytjodbijcgcjndaa.wds
open Go Go.RowKit Go.Proofs.Ytjodbijcgcjndaa.base Go.Proofs.Ytjodbijcgcjndaa.pairs Go.Proofs.Ytjodbijcgcjndaa.ords Go.Proofs.Ytjodbijcgcjndaa.putnum Go.Proofs.Ytjodbijcgcjndaa.puttext Go.Proofs.Ytjodbijcgcjndaa.getnum Go.Proofs.Ytjodbijcgcjndaa.gettext Go.Proofs.Ytjodbijcgcjndaa.gettexts
set_option linter.unusedVariables false
set_option linter.unusedSimpArgs false

/-! ### a slice of orders of the call's own, or nil -/
def OwnV (w : World) (base : Nat) (v : Value) (l : List Od) : Prop := (∀ p ∈ l, smallO p) ∧ w.ownsRow base 90 3 v l.length (ordVals l)
section
variable {w w' : World} {base base' : Nat} {v : Value} {l : List Od} {row : Option Nat}
theorem ownV_nil (w : World) (base : Nat) : OwnV w base (.slice none 0 0) [] := ⟨fun _ h => absurd h List.not_mem_nil, World.ownsRow_nil _ _ _ _⟩
theorem ownV_of {g n cap : Nat} (h : OwnO w base g n cap l) : OwnV w base (.slice (some ⟨g, 0, none⟩) n cap) l := ⟨h.2.1, by rw [h.1]; exact h.2.2⟩
theorem OwnV.shape (h : OwnV w base v l) : (v = .slice none 0 0 ∧ l = []) ∨ ∃ g cap, v = .slice (some ⟨g, 0, none⟩) l.length cap ∧ OwnO w base g l.length cap l := by
  rcases h.2.2 with ⟨rfl, h0⟩ | ⟨g, cap, cur, rfl, _⟩
  · exact .inl ⟨rfl, List.eq_nil_of_length_eq_zero h0⟩
  · exact .inr ⟨g, cap, rfl, rfl, h.1, h.2⟩
theorem OwnV.lt (h : OwnV w base v l) (k : Nat) (hk : v.ownBlock = some k) : base ≤ k ∧ k < w.heap.size := h.2.lt k hk
theorem OwnV.of_block (h : OwnV w base v l) (hk : ∀ k, v.ownBlock = some k → w'.heap[k]? = w.heap[k]?) : OwnV w' base v l := by
  refine ⟨h.1, h.2.1, ?_⟩
  rcases h.2.2 with h' | ⟨g, cap, cur, rfl, h0, hg, r⟩
  · exact .inl h'
  · exact .inr ⟨g, cap, cur, rfl, h0, (hk g rfl).trans hg, r⟩
theorem OwnV.below (h : OwnV w base v l) (hb : Below w.heap.size w w') : OwnV w' base v l := h.of_block fun k hk => hb.block k (h.lt k hk).2
theorem OwnV.grown (h : OwnV w base v l) (hg : w.grownBy w' row) (hne : v.ownBlock = none ∨ v.ownBlock ≠ row) : OwnV w' base v l :=
  h.of_block fun k hk => hg.block k (h.lt k hk).2 (fun e => by
    rcases hne with h1 | h1
    · rw [hk] at h1; cases h1
    · exact h1 (hk.trans e))
theorem OwnV.mono (h : OwnV w base v l) (hb : base' ≤ base) : OwnV w base' v l := by
  refine ⟨h.1, h.2.1, ?_⟩
  rcases h.2.2 with h' | ⟨g, cap, cur, rfl, h0, r⟩
  · exact .inl h'
  · exact .inr ⟨g, cap, cur, rfl, by omega, r⟩
theorem OwnV.sl (h : OwnV w base v l) : ∃ a cap, v = .slice a l.length cap ∧ SlO w a l.length l ∧ l.length ≤ cap := by
  rcases h.shape with ⟨rfl, rfl⟩ | ⟨g, cap, rfl, hO⟩
  · exact ⟨none, 0, rfl, slo_nil _ _, Nat.le_refl _⟩
  · exact ⟨_, cap, rfl, hO.sl, hO.cases.1⟩
theorem OwnV.one (h : OwnV w base v l) : v.oneCell' = true := by
  rcases h.shape with ⟨rfl, _⟩ | ⟨g, cap, rfl, _⟩ <;> rfl
end


theorem ownV_slo {w : World} {base : Nat} {a : Option Addr} {n cap : Nat} {l : List Od} (h : OwnV w base (.slice a n cap) l) : SlO w a n l := by
  obtain ⟨a', c', e, hs, _⟩ := h.sl
  cases e; exact hs
theorem BoxW.fz {X : Nat} {k s t : Int} {v : Value} {y : Bool} {w : World} (h : BoxW X k s t v y w) (j : Nat) : w.frozen? ⟨X, j, none⟩ = false := by unfold BoxW at h; simp [World.frozen?, h]
/-- the cells of a word's box, written over -/
abbrev put5 (w : World) (X : Nat) (a b c d e : Value) : World := ((((w.setCell ⟨X, 0, none⟩ a).setCell ⟨X, 1, none⟩ b).setCell ⟨X, 2, none⟩ c).setCell ⟨X, 3, none⟩ d).setCell ⟨X, 4, none⟩ e
theorem boxW_set {X : Nat} {k s t : Int} {v : Value} {y : Bool} {w : World} (h : BoxW X k s t v y w) (a b c d e : Value) :
    (put5 w X a b c d e).heap[X]? = some (.cells #[a, b, c, d, e] 26 (0, 0)) ∧ w.grownBy (put5 w X a b c d e) (some X) := by
  have h0 : w.heap[X]? = some (.cells #[.int .i64 k, .int .i64 s, .int .i64 t, v, .bool y] 26 (0, 0)) := h
  have s0 := set_cur h0 0 a
  have s1 := set_cur s0.1 1 b
  have s2 := set_cur s1.1 2 c
  have s3 := set_cur s2.1 3 d
  have s4 := set_cur s3.1 4 e
  exact ⟨s4.1, grownBy_trans (grownBy_trans (grownBy_trans (grownBy_trans s0.2 s1.2) s2.2) s3.2) s4.2⟩
theorem boxW_ops {X : Nat} {k s t : Int} {v : Value} {y : Bool} {w : World} (h : BoxW X k s t v y w) (c : Value) : BoxW X k s t c y (w.setCell ⟨X, 3, none⟩ c) ∧ w.grownBy (w.setCell ⟨X, 3, none⟩ c) (some X) := by
  have h0 : w.heap[X]? = some (.cells #[.int .i64 k, .int .i64 s, .int .i64 t, v, .bool y] 26 (0, 0)) := h
  have s0 := set_cur h0 3 c
  exact ⟨s0.1, s0.2⟩
theorem sl_part {w : World} {b off len : Nat} {bs : List UInt8} (h : Sl w (some ⟨b, off, none⟩) len bs) (p n : Nat) (hp : p + n ≤ len) : Sl w (some ⟨b, off + p, none⟩) n ((bs.drop p).take n) := by
  have hat := h.at
  have hl := h.1
  refine ⟨by simp; omega, by have := h.2.1; omega, fun _ => ⟨b, off + p, rfl, fun i hi => ?_⟩⟩
  have hi' : p + i < bs.length := by simp at hi; omega
  rw [Nat.add_assoc, hat (p + i) hi', List.getElem_take, List.getElem_drop]
/-- what GetWord answers -/
def resW (r : Option Wd) : Wd := match r with | none => (0, 0, 0, [], false) | some x => x
def WordPost (w : World) (r : Option Wd) (e : Ending) (w' : World) : Prop :=
  ∃ v, e = .returned (.tuple #[wdV (resW r).1 (resW r).2.1 (resW r).2.2.1 v (resW r).2.2.2.2, .bool r.isSome]) ∧ OwnV w' w.heap.size v (resW r).2.2.2.1 ∧ Below w.heap.size w w'
theorem wordPost_none {w w' : World} {r : Option Wd} (hr : r = none) (hb : Below w.heap.size w w') : WordPost w r (.returned (.tuple #[.agg #[.int .i64 0, .int .i64 0, .int .i64 0, .slice none 0 0, .bool false], .bool false])) w' := by
  subst hr; exact ⟨_, rfl, ownV_nil _ _, hb⟩
theorem wordPost_some {w w' : World} {r : Option Wd} {k s t : Int} {l : List Od} {y : Bool} {v : Value} (hr : r = some (k, s, t, l, y)) (hv : OwnV w' w.heap.size v l) (hb : Below w.heap.size w w') : WordPost w r (.returned (.tuple #[.agg #[.int .i64 k, .int .i64 s, .int .i64 t, v, .bool y], .bool true])) w' := by
  subst hr; exact ⟨_, rfl, hv, hb⟩
/-- what GetNum answers, in parts -/
theorem num_parts (bs : List UInt8) (P : Int) (hP : 0 ≤ P) : ∃ (z p : Int) (b : Bool), numRet P (getNum bs P) = .tuple #[.int .i64 z, .int .i64 p, .bool b] ∧ (0 ≤ p ∧ p ≤ bs.length) ∧ (b = false → getNum bs P = none) ∧ (b = true → ∃ k a : Nat, getNum bs P = some (k, a) ∧ z = (k : Int) ∧ p = P + (a : Int) ∧ k ≤ 1000000000) := by
  rcases h : getNum bs P with _ | ⟨k, a⟩
  · exact ⟨0, 0, false, rfl, ⟨by omega, by omega⟩, fun _ => rfl, fun e => absurd e (by decide)⟩
  · obtain ⟨h0, h1, h2, h3, h4⟩ := getNum_some h
    exact ⟨k, P + (a : Int), true, rfl, ⟨by omega, by omega⟩, fun e => absurd e (by decide), fun _ => ⟨k, a, rfl, rfl, rfl, h4⟩⟩
theorem head_no1 {bs : List UInt8} (h : getNum bs 0 = none) : getWord bs = none := by unfold getWord getHead; rw [h]
theorem head_no2 {bs : List UInt8} {k a : Nat} (h : getNum bs 0 = some (k, a)) (h2 : getNum bs ((a : Nat) : Int) = none) : getWord bs = none := by unfold getWord getHead; rw [h]; simp only []; rw [h2]
theorem head_no3 {bs : List UInt8} {k a s b : Nat} (h : getNum bs 0 = some (k, a)) (h2 : getNum bs ((a : Nat) : Int) = some (s, b)) (h3 : getNum bs ((a + b : Nat) : Int) = none) : getWord bs = none := by unfold getWord getHead; rw [h]; simp only []; rw [h2]; simp only []; rw [h3]
theorem head_no4 {bs : List UInt8} {k a s b t c : Nat} (h : getNum bs 0 = some (k, a)) (h2 : getNum bs ((a : Nat) : Int) = some (s, b)) (h3 : getNum bs ((a + b : Nat) : Int) = some (t, c)) (h4 : getNum bs ((a + b + c : Nat) : Int) = none) : getWord bs = none := by unfold getWord getHead; rw [h]; simp only []; rw [h2]; simp only []; rw [h3]; simp only []; rw [h4]
theorem head_all {bs : List UInt8} {k a s b t c y d : Nat} (h : getNum bs 0 = some (k, a)) (h2 : getNum bs ((a : Nat) : Int) = some (s, b)) (h3 : getNum bs ((a + b : Nat) : Int) = some (t, c)) (h4 : getNum bs ((a + b + c : Nat) : Int) = some (y, d)) : getHead bs = if 1 < y then none else some ((k, s, t, decide (y = 1)), a + b + c + d) := by unfold getHead; rw [h]; simp only []; rw [h2]; simp only []; rw [h3]; simp only []; rw [h4]
theorem head_big {bs : List UInt8} (h : getHead bs = none) : getWord bs = none := by unfold getWord; rw [h]
theorem word_bare {bs : List UInt8} {k s t p : Nat} {y : Bool} (h : getHead bs = some ((k, s, t, y), p)) (hl : bs.length ≤ p) : getWord bs = okWord (k, s, t, [], y) := by unfold getWord; rw [h]; simp only []; rw [if_pos hl]
theorem word_ops {bs : List UInt8} {k s t p : Nat} {y : Bool} (h : getHead bs = some ((k, s, t, y), p)) (hl : ¬ bs.length ≤ p) : getWord bs = match getOps (bs.drop p) with | none => none | some l => okWord (k, s, t, l, y) := by
  unfold getWord; rw [h]; simp only []; rw [if_neg hl]; cases getOps (bs.drop p) <;> rfl
end Go.Proofs.Ytjodbijcgcjndaa.wds

namespace Go.Proofs.Ytjodbijcgcjndaa.pairs
open Go Go.RowKit Go.Proofs.Ytjodbijcgcjndaa.base Go.Proofs.Ytjodbijcgcjndaa.helps
set_option linter.unusedVariables false
set_option linter.unusedSimpArgs false


def szR (L t : Nat) : Int := if t ≤ L then (L : Int) - (t : Int) else -1
theorem szR_neg {L t : Nat} (h : L < t) : szR L t = -1 := by unfold szR; rw [if_neg (by omega)]
theorem szR_pos {L t : Nat} (h : t ≤ L) : szR L t = (L : Int) - (t : Int) := by unfold szR; rw [if_pos h]
def psz (p : Pr) : Nat := p.1.size + p.2.size
def sumP (l : List Pr) : Nat := (l.map psz).sum
theorem sumP_take (l : List Pr) (k : Nat) (h : k < l.length) : sumP (l.take (k + 1)) = sumP (l.take k) + psz l[k] := by
  unfold sumP; rw [take_snocP l k h, List.map_append, List.sum_append]; simp
theorem sumP_le (l : List Pr) (k : Nat) : sumP (l.take k) ≤ sumP l := by
  have e : sumP l = sumP (l.take k) + sumP (l.drop k) := by
    unfold sumP; rw [← List.sum_append, ← List.map_append, List.take_append_drop]
  omega
theorem psz_le (l : List Pr) : ∀ p ∈ l, psz p ≤ sumP l := by
  induction l with
  | nil => intro s h; exact absurd h List.not_mem_nil
  | cons x l ih =>
    intro s h
    simp only [sumP, List.map_cons, List.sum_cons] at *
    rcases List.mem_cons.1 h with h | h
    · subst h; omega
    · have := ih s h; omega



def zeroP : Pr := (⟨#[]⟩, ⟨#[]⟩)
def copyP (l : List Pr) (k : Nat) : List Pr := l.take k ++ List.replicate (l.length - k) zeroP
theorem copyP_length (l : List Pr) (k : Nat) (h : k ≤ l.length) : (copyP l k).length = l.length := by simp [copyP]; omega
theorem copyP_zero (l : List Pr) : copyP l 0 = List.replicate l.length zeroP := by simp [copyP]
theorem copyP_all (l : List Pr) : copyP l l.length = l := by simp [copyP]
theorem copyP_small (l : List Pr) (k : Nat) (h : ∀ p ∈ l, small p) : ∀ p ∈ copyP l k, small p := by
  intro p hp
  rcases List.mem_append.1 hp with h1 | h1
  · exact h p (List.mem_of_mem_take h1)
  · obtain rfl := (List.mem_replicate.1 h1).2; exact ⟨Nat.zero_le _, Nat.zero_le _⟩
theorem copyP_set (l : List Pr) (k : Nat) (h : k < l.length) : (copyP l k).set k l[k] = copyP l (k + 1) := by
  unfold copyP
  rw [List.set_append_right _ _ (by simp; omega), take_snocP l k h, List.append_assoc]
  congr 1
  rw [List.length_take_of_le (by omega), Nat.sub_self, show l.length - k = l.length - (k + 1) + 1 by omega, List.replicate_succ]
  rfl
theorem pairVals_rep (n : Nat) : pairVals (List.replicate n zeroP) = (madeCells #[.string ⟨#[]⟩, .string ⟨#[]⟩] (n * 2)).toList := by
  have e1 : pairVals (List.replicate n zeroP) = List.replicate (n * 2) (.string ⟨#[]⟩) := by
    induction n with
    | zero => rfl
    | succ n ih => rw [List.replicate_succ, pairVals_cons, ih, show (n + 1) * 2 = n * 2 + 1 + 1 by omega, List.replicate_succ, List.replicate_succ]; rfl
  rw [e1]
  apply List.ext_getElem
  · simp [madeCells]
  · intro j h1 h2
    have hm : j % 2 = 0 ∨ j % 2 = 1 := by omega
    rcases hm with hm | hm <;> simp [madeCells, hm]



theorem take_eqP {l l2 : List Pr} {k : Nat} (h : l.take k = l2.take k) (h1 : k < l.length) (h2 : k < l2.length) (e : l[k] = l2[k]) : l.take (k + 1) = l2.take (k + 1) := by
  rw [take_snocP l k h1, take_snocP l2 k h2, h, e]

end Go.Proofs.Ytjodbijcgcjndaa.pairs
