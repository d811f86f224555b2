/- What the laws on orders draw: any orders, alone, with pairs, with shards; bytes of orders, bent. Draws of the bytes of orders, bent or not. Plain mathematics of words: what is right, their bytes, and that these come back. append within the room that a make laid: small facts on worlds; no function of the program is named here. -/
import Derived.Test.YtjodbijcgcjndaaBund10as
import Derived.Test.YtjodbijcgcjndaaBund10at
import Derived.Test.YtjodbijcgcjndaaBund10ao
import Derived.Test.YtjodbijcgcjndaaBund10ab
import Derived.OwnWalk
namespace Go.Proofs.Ytjodbijcgcjndaa.ords
open Go Go.RowKit Go.Proofs.Ytjodbijcgcjndaa.base Go.Proofs.Ytjodbijcgcjndaa.pairs Go.Proofs.Ytjodbijcgcjndaa.draw
set_option linter.unusedVariables false
set_option linter.unusedSimpArgs false

def GotL (w : World) (e : Ending) (w' : World) : Prop :=
  ∃ (g n cp : Nat) (l : List Od), n ≤ 5 ∧ (∀ p ∈ l, tinyO p) ∧ e = .returned (.slice (some ⟨g, 0, none⟩) n cp) ∧ OwnO w' w.heap.size g n cp l ∧ Below w.heap.size w w'
def GotLN (w : World) (e : Ending) (w' : World) : Prop :=
  ∃ (g n cp : Nat) (l : List Od) (k : Int), n ≤ 5 ∧ (∀ p ∈ l, tinyO p) ∧ (-1 ≤ k ∧ k ≤ 8) ∧ e = .returned (.tuple #[.slice (some ⟨g, 0, none⟩) n cp, .int .i64 k]) ∧ OwnO w' w.heap.size g n cp l ∧ Below w.heap.size w w'
def GotML (w : World) (e : Ending) (w' : World) : Prop :=
  ∃ (g n cp : Nat) (m : List Pr) (g2 n2 cp2 : Nat) (l : List Od), n ≤ 9 ∧ n2 ≤ 5 ∧ (∀ p ∈ m, tiny p) ∧ (∀ p ∈ l, tinyO p) ∧ e = .returned (.tuple #[.slice (some ⟨g, 0, none⟩) n cp, .slice (some ⟨g2, 0, none⟩) n2 cp2]) ∧ OwnP w' w.heap.size g n cp m ∧ OwnO w' w.heap.size g2 n2 cp2 l ∧ Below w.heap.size w w'
theorem getKey_tiny {m : List Pr} (h : ∀ p ∈ m, tiny p) {k v : ByteArray} (hg : getKey k m = some v) : v.size ≤ 21 := by
  exact (h _ (getKey_some_mem hg)).2
end Go.Proofs.Ytjodbijcgcjndaa.ords

namespace Go.Proofs.Ytjodbijcgcjndaa.ords
open Go Go.RowKit Go.Proofs.Ytjodbijcgcjndaa.base Go.Proofs.Ytjodbijcgcjndaa.pairs Go.Proofs.Ytjodbijcgcjndaa.draw
set_option linter.unusedVariables false
set_option linter.unusedSimpArgs false

def GotB (w : World) (e : Ending) (w' : World) : Prop :=
  ∃ (g n cp : Nat) (bs : List UInt8), n ≤ 400 ∧ n ≤ cp ∧ e = .returned (.slice (some ⟨g, 0, none⟩) n cp) ∧ Sl w' (some ⟨g, 0, none⟩) n bs ∧ Below w.heap.size w w'
theorem Sl.cut {w : World} {b n x : Nat} {bs : List UInt8} (h : Sl w (some ⟨b, 0, none⟩) n bs) (hx : x ≤ n) : Sl w (some ⟨b, 0, none⟩) x (bs.take x) := by
  have hat := h.at
  have hl := h.1
  refine ⟨by simp; omega, by have := h.2.1; omega, fun _ => ⟨b, 0, rfl, fun i hi => ?_⟩⟩
  have hi' : i < bs.length := by simp at hi; omega
  rw [hat i hi', List.getElem_take]
theorem putOps_pos {l : List Od} (h : opsOk l = true) : 1 ≤ (putOps l).length := by
  unfold putOps
  rw [if_pos h, List.length_append]
  have := Go.Proofs.Ytjodbijcgcjndaa.putnum.numBytes_length (l.length : Int)
  omega
end Go.Proofs.Ytjodbijcgcjndaa.ords

namespace Go.Proofs.Ytjodbijcgcjndaa.wds
open Go Go.RowKit Go.Proofs.Ytjodbijcgcjndaa.base Go.Proofs.Ytjodbijcgcjndaa.pairs Go.Proofs.Ytjodbijcgcjndaa.ords Go.Proofs.Ytjodbijcgcjndaa.putnum Go.Proofs.Ytjodbijcgcjndaa.puttext Go.Proofs.Ytjodbijcgcjndaa.getnum Go.Proofs.Ytjodbijcgcjndaa.gettext Go.Proofs.Ytjodbijcgcjndaa.gettexts Go.Proofs.Ytjodbijcgcjndaa.nummath
set_option linter.unusedVariables false
set_option linter.unusedSimpArgs false

/-- kind, shard, transaction, orders, yes -/
abbrev Wd := Int × Int × Int × List Od × Bool
def kindOk (k : Int) (l : List Od) (y : Bool) : Bool := if k = 1 then opsOk l && !y else if k = 2 ∨ k = 3 then l.isEmpty else if k = 4 then l.isEmpty && !y else false
def placeOk (s t : Int) : Bool := decide (0 ≤ s ∧ s ≤ 7) && decide (1 ≤ t ∧ t ≤ 1000000)
def wordOk (d : Wd) : Bool := placeOk d.2.1 d.2.2.1 && kindOk d.1 d.2.2.2.1 d.2.2.2.2
def yesN (y : Bool) : Int := if y then 1 else 0
def headB (k s t : Int) (y : Bool) : List UInt8 := numBytes k ++ numBytes s ++ numBytes t ++ numBytes (yesN y)
def wordBytes (d : Wd) : List UInt8 := headB d.1 d.2.1 d.2.2.1 d.2.2.2.2 ++ if d.1 = 1 then putOps d.2.2.2.1 else []
def putWord (d : Wd) : List UInt8 := if wordOk d = true then wordBytes d else []
def getHead (bs : List UInt8) : Option ((Nat × Nat × Nat × Bool) × Nat) :=
  match getNum bs 0 with
  | none => none
  | some (k, a) => match getNum bs ((a : Nat) : Int) with
    | none => none
    | some (s, b) => match getNum bs ((a + b : Nat) : Int) with
      | none => none
      | some (t, c) => match getNum bs ((a + b + c : Nat) : Int) with
        | none => none
        | some (y, d) => if 1 < y then none else some ((k, s, t, decide (y = 1)), a + b + c + d)
def okWord (d : Wd) : Option Wd := if wordOk d = true then some d else none
def getWord (bs : List UInt8) : Option Wd :=
  match getHead bs with
  | none => none
  | some ((k, s, t, y), p) => if bs.length ≤ p then okWord (k, s, t, [], y) else
    match getOps (bs.drop p) with
    | none => none
    | some l => okWord (k, s, t, l, y)

theorem kindOk_iff (k : Int) (l : List Od) (y : Bool) : kindOk k l y = true ↔ (k = 1 ∧ opsOk l = true ∧ y = false) ∨ ((k = 2 ∨ k = 3) ∧ l = []) ∨ (k = 4 ∧ l = [] ∧ y = false) := by
  unfold kindOk
  by_cases h1 : k = 1
  · subst h1
    rw [if_pos rfl]
    simp
  · by_cases h2 : k = 2 ∨ k = 3
    · rw [if_neg h1, if_pos h2, List.isEmpty_iff]
      constructor
      · intro h; exact .inr (.inl ⟨h2, h⟩)
      · rintro (⟨h, _⟩ | ⟨_, h⟩ | ⟨h, _⟩)
        · exact absurd h h1
        · exact h
        · omega
    · by_cases h4 : k = 4
      · subst h4
        rw [if_neg h1, if_neg h2, if_pos rfl]
        simp
      · rw [if_neg h1, if_neg h2, if_neg h4]
        simp [h1, h4]
        intro h; exact absurd h h2
theorem placeOk_iff (s t : Int) : placeOk s t = true ↔ (0 ≤ s ∧ s ≤ 7) ∧ (1 ≤ t ∧ t ≤ 1000000) := by
  unfold placeOk; rw [Bool.and_eq_true, decide_eq_true_iff, decide_eq_true_iff]
theorem wordOk_iff (k s t : Int) (l : List Od) (y : Bool) : wordOk (k, s, t, l, y) = true ↔ ((0 ≤ s ∧ s ≤ 7) ∧ (1 ≤ t ∧ t ≤ 1000000)) ∧ ((k = 1 ∧ opsOk l = true ∧ y = false) ∨ ((k = 2 ∨ k = 3) ∧ l = []) ∨ (k = 4 ∧ l = [] ∧ y = false)) := by
  unfold wordOk; rw [Bool.and_eq_true, placeOk_iff, kindOk_iff]
theorem okWord_some {r x : Wd} (h : okWord r = some x) : x = r ∧ wordOk r = true := by
  unfold okWord at h
  split at h
  · next h1 => cases h; exact ⟨rfl, h1⟩
  · cases h
theorem okWord_ok {r : Wd} (h : wordOk r = true) : okWord r = some r := if_pos h
theorem okWord_no {r : Wd} (h : wordOk r = false) : okWord r = none := if_neg (by rw [h]; decide)
theorem putOps_len (l : List Od) (h : opsOk l = true) : 1 ≤ (putOps l).length := by
  unfold putOps
  rw [if_pos h, List.length_append]
  have := numBytes_length (l.length : Int)
  omega
theorem putOps_small (l : List Od) : (putOps l).length ≤ 400 := by
  unfold putOps
  split
  · next h =>
    obtain ⟨⟨h1, _⟩, _, h3⟩ := (opsOk_iff l).1 h
    have hb : ∀ l : List Od, (∀ o ∈ l, odOk o = true) → (odsBytes l).length ≤ 47 * l.length := by
      intro l
      induction l with
      | nil => intro _; simp [odsBytes]
      | cons o l ih =>
        intro hh
        have i1 := ih (fun x hx => hh x (List.mem_cons_of_mem _ hx))
        obtain ⟨_, _, k3, k4⟩ := (odOk_iff o).1 (hh o List.mem_cons_self)
        have h5 := keyOk_size k3
        have h6 := textBytes_length o.2.1
        have h7 := textBytes_length o.2.2
        have h8 := numBytes_length o.1
        have h9 : (odBytes o).length ≤ 47 := by simp [odBytes]; omega
        rw [odsBytes_cons, List.length_append, List.length_cons]
        omega
    have := hb l h1
    have := numBytes_length (l.length : Int)
    rw [List.length_append]; omega
  · simp
theorem yesN_range (y : Bool) : 0 ≤ yesN y ∧ yesN y ≤ 1 := by cases y <;> decide
theorem headB_length (k s t : Int) (y : Bool) : 1 ≤ (headB k s t y).length ∧ (headB k s t y).length ≤ 20 := by
  unfold headB
  have h1 := numBytes_length k
  have h2 := numBytes_length s
  have h3 := numBytes_length t
  have h4 := numBytes_length (yesN y)
  simp only [List.length_append]
  omega
theorem wordBytes_small (d : Wd) : (wordBytes d).length ≤ 420 := by
  have h1 := headB_length d.1 d.2.1 d.2.2.1 d.2.2.2.2
  have h2 := putOps_small d.2.2.2.1
  unfold wordBytes
  rw [List.length_append]
  split
  · omega
  · simp; omega
theorem getHead_put (k s t : Int) (y : Bool) (rest : List UInt8) (hk : 0 ≤ k ∧ k ≤ 1000000000) (hs : 0 ≤ s ∧ s ≤ 1000000000) (ht : 0 ≤ t ∧ t ≤ 1000000000) :
    getHead (headB k s t y ++ rest) = some ((clamp k, clamp s, clamp t, y), (headB k s t y).length) := by
  have e1 := getNum_put [] (numBytes s ++ numBytes t ++ numBytes (yesN y) ++ rest) k
  have e2 := getNum_put (numBytes k) (numBytes t ++ numBytes (yesN y) ++ rest) s
  have e3 := getNum_put (numBytes k ++ numBytes s) (numBytes (yesN y) ++ rest) t
  have e4 := getNum_put (numBytes k ++ numBytes s ++ numBytes t) rest (yesN y)
  have ea : headB k s t y ++ rest = [] ++ numBytes k ++ (numBytes s ++ numBytes t ++ numBytes (yesN y) ++ rest) := by simp [headB]
  have eb : headB k s t y ++ rest = numBytes k ++ numBytes s ++ (numBytes t ++ numBytes (yesN y) ++ rest) := by simp [headB]
  have ec : headB k s t y ++ rest = numBytes k ++ numBytes s ++ numBytes t ++ (numBytes (yesN y) ++ rest) := by simp [headB]
  have ed : headB k s t y ++ rest = numBytes k ++ numBytes s ++ numBytes t ++ numBytes (yesN y) ++ rest := by simp [headB]
  rw [← ea] at e1
  rw [← eb] at e2
  rw [← ec] at e3
  rw [← ed] at e4
  simp only [List.length_nil, List.length_append] at e1 e2 e3 e4
  rw [show ((0 : Nat) : Int) = 0 from rfl] at e1
  have hl : (headB k s t y).length = (numBytes k).length + (numBytes s).length + (numBytes t).length + (numBytes (yesN y)).length := by simp only [headB, List.length_append]
  unfold getHead
  rw [e1]
  simp only []
  rw [e2]
  simp only []
  rw [e3]
  simp only []
  rw [e4]
  simp only []
  have hy : clamp (yesN y) ≤ 1 := by cases y <;> decide
  rw [if_neg (by omega), hl]
  have hd : decide (clamp (yesN y) = 1) = y := by cases y <;> decide
  rw [hd]
theorem getWord_put (d : Wd) (h : wordOk d = true) : getWord (wordBytes d) = some d := by
  obtain ⟨k, s, t, l, y⟩ := d
  have h' := h
  rw [wordOk_iff] at h'
  obtain ⟨⟨hs, ht⟩, hc⟩ := h'
  have hk : 0 ≤ k ∧ k ≤ 1000000000 := by rcases hc with ⟨h1, _⟩ | ⟨h1, _⟩ | ⟨h1, _⟩ <;> omega
  unfold getWord wordBytes
  simp only []
  rw [getHead_put k s t y _ hk (by omega) (by omega)]
  simp only []
  rw [clamp_int hk.1 hk.2, clamp_int (by omega) (by omega), clamp_int (z := t) (by omega) (by omega)]
  by_cases h1 : k = 1
  · rw [if_pos h1]
    rcases hc with ⟨_, ho, hy⟩ | ⟨hx, _⟩ | ⟨hx, _⟩
    · have := putOps_len l ho
      rw [if_neg (by simp only [List.length_append]; omega), List.drop_left, getOps_put l ho]
      exact okWord_ok h
    · omega
    · omega
  · rw [if_neg h1, List.append_nil, if_pos (Nat.le_refl _)]
    have hl : l = [] := by
      rcases hc with ⟨hx, _⟩ | ⟨_, hx⟩ | ⟨_, hx, _⟩
      · exact absurd hx h1
      · exact hx
      · exact hx
    subst hl
    exact okWord_ok h
theorem getHead_some {bs : List UInt8} {k s t : Nat} {y : Bool} {p : Nat} (h : getHead bs = some ((k, s, t, y), p)) : bs.take p = headB k s t y ∧ p ≤ bs.length ∧ 1 ≤ p ∧ p ≤ 20 ∧ k ≤ 1000000000 ∧ s ≤ 1000000000 ∧ t ≤ 1000000000 := by
  unfold getHead at h
  rcases h1 : getNum bs 0 with _ | ⟨k1, a⟩
  · rw [h1] at h; cases h
  rw [h1] at h
  simp only [] at h
  rcases h2 : getNum bs ((a : Nat) : Int) with _ | ⟨s1, b⟩
  · rw [h2] at h; cases h
  rw [h2] at h
  simp only [] at h
  rcases h3 : getNum bs ((a + b : Nat) : Int) with _ | ⟨t1, c⟩
  · rw [h3] at h; cases h
  rw [h3] at h
  simp only [] at h
  rcases h4 : getNum bs ((a + b + c : Nat) : Int) with _ | ⟨y1, d⟩
  · rw [h4] at h; cases h
  rw [h4] at h
  simp only [] at h
  split at h
  · cases h
  next hy =>
  cases h
  have b1 := getNum_bytes (p := 0) h1
  have b2 := getNum_bytes h2
  have b3 := getNum_bytes h3
  have b4 := getNum_bytes h4
  have s1' := getNum_some h1
  have s2' := getNum_some h2
  have s3' := getNum_some h3
  have s4' := getNum_some h4
  simp only [Int.toNat_zero, Int.toNat_natCast] at s1' s2' s3' s4'
  refine ⟨?_, by omega, by omega, by omega, by omega, by omega, by omega⟩
  have e1 := take_split bs 0 a b
  have e2 := take_split bs 0 (a + b) c
  have e3 := take_split bs 0 (a + b + c) d
  simp only [List.drop_zero, Nat.zero_add] at e1 e2 e3 b1
  rw [e3, e2, e1, b1, b2, b3, b4]
  unfold headB
  have hyn : yesN (decide (y1 = 1)) = (y1 : Int) := by
    have : y1 = 0 ∨ y1 = 1 := by omega
    rcases this with rfl | rfl <;> rfl
  rw [hyn]
theorem getWord_some {bs : List UInt8} {d : Wd} (h : getWord bs = some d) : wordOk d = true ∧ wordBytes d = bs := by
  unfold getWord at h
  rcases hH : getHead bs with _ | ⟨⟨k, s, t, y⟩, p⟩
  · rw [hH] at h; cases h
  rw [hH] at h
  simp only [] at h
  obtain ⟨ht, hp, _⟩ := getHead_some hH
  split at h
  · next hlen =>
    obtain ⟨rfl, hok⟩ := okWord_some h
    refine ⟨hok, ?_⟩
    have hok' := hok
    rw [wordOk_iff] at hok'
    have hk : ¬ (k : Int) = 1 := by
      intro e
      rcases hok'.2 with ⟨_, hx, _⟩ | ⟨hx, _⟩ | ⟨hx, _⟩
      · exact absurd hx (by decide)
      · omega
      · omega
    unfold wordBytes
    simp only []
    rw [if_neg hk, List.append_nil, ← ht, List.take_of_length_le hlen]
  · next hlen =>
    rcases hO : getOps (bs.drop p) with _ | l
    · rw [hO] at h; cases h
    rw [hO] at h
    simp only [] at h
    obtain ⟨rfl, hok⟩ := okWord_some h
    refine ⟨hok, ?_⟩
    obtain ⟨ho, hb⟩ := getOps_some hO
    have hok' := hok
    rw [wordOk_iff] at hok'
    have hl : l ≠ [] := by intro e; subst e; exact absurd ho (by decide)
    have hk : (k : Int) = 1 := by
      rcases hok'.2 with ⟨hx, _⟩ | ⟨_, hx⟩ | ⟨_, hx, _⟩
      · exact hx
      · exact absurd hx hl
      · exact absurd hx hl
    unfold wordBytes
    simp only []
    rw [if_pos hk, hb, ← ht, List.take_append_drop]
theorem wordOk_keys {k s t : Int} {l : List Od} {y : Bool} (h : wordOk (k, s, t, l, y) = true) : ∀ p ∈ l, p.2.1.size ≤ 1099511627776 := by
  intro p hp
  rw [wordOk_iff] at h
  rcases h.2 with ⟨_, h2, _⟩ | ⟨_, h2⟩ | ⟨_, h2, _⟩
  · have := keyOk_size ((odOk_iff p).1 (((opsOk_iff _).1 h2).1.1 p hp)).2.2.1; omega
  · rw [h2] at hp; exact absurd hp List.not_mem_nil
  · rw [h2] at hp; exact absurd hp List.not_mem_nil
end Go.Proofs.Ytjodbijcgcjndaa.wds

namespace Go.Proofs.Ytjodbijcgcjndaa.base
open Go.RowKit
set_option linter.unusedVariables false
set_option linter.unusedSimpArgs false

theorem step_append_fits {P : Program} {ops : Array Oper} {o : Oper} {a : Act} {w : World} {K : Act → World → Prop} {Q : Exit → Act → World → Prop} {E : Prop} (hgd : o.guard = none) (s x : Operand) (t : TypeId)
    (hop : o.op = .call { callee := .builtin .append, args := #[s, x], argTypes := #[t, t] })
    (base : Nat) (e : TypeId) (i : TypeInfo) (size : Nat) (h1 : P.underlying t = some (.slice e)) (h2 : P.info? e = some i) (h4 : i.size = size)
    (g k cap : Nat) (xs : List Value) (hs : a.eval s = .slice (some ⟨g, 0, none⟩) k cap) (hown : w.ownsRow base e size (.slice (some ⟨g, 0, none⟩) k cap) k xs) (ad : Addr) (m c : Nat) (news : List Value) (hx : a.eval x = .slice (some ad) m c) (hn : news.length = m * size)
    (hc : ∀ j u, news[j]? = some u → w.cell? (ad.add j) = some u) (h1c : ∀ u ∈ news, u.oneCell' = true) (b1 : k + m ≤ cap)
    (hK : ∀ w', w'.ownsRow base e size (.slice (some ⟨g, 0, none⟩) (k + m) cap) (k + m) (xs ++ news) → w.grownBy w' (some g) → K (a.put o.dst (.slice (some ⟨g, 0, none⟩) (k + m) cap)) w') :
    if Region.wanted o (yielded ops a.tmps) = true then Oper.wp P o a w K Q else E := by
  have hw : Region.wanted o (yielded ops a.tmps) = true := by simp [Region.wanted, hgd]
  rw [if_pos hw]
  obtain ⟨w', hrun, r1, r2⟩ := run_append_fits (P := P) w base t o.type e i size h1 h2 h4 g k cap xs hown ad m c news hn hc h1c b1
  unfold Oper.wp
  simp [execOp, hop, resolve, invoke, builtin, hs, hx, hrun, Result.andThen]
  exact hK w' r1 r2
theorem own_fits {w' : World} {base g n m cap : Nat} {bs ns : List UInt8} {news : List Value} (hl : bs.length = n) (hln : ns.length = m) (he : news = byteVals ns)
    (h : w'.ownsRow base 5 1 (.slice (some ⟨g, 0, none⟩) (n + m) cap) (n + m) (byteVals bs ++ news)) : Own w' base g (n + m) cap (bs ++ ns) := by
  subst he
  rw [← byteVals_append] at h
  exact ⟨by simp; omega, h⟩
theorem made_own {w w' : World} {base g cap : Nat} (h : w'.ownsRow base 5 1 (.slice (some ⟨g, 0, none⟩) 0 cap) 0 []) : Own w' base g 0 cap [] := ⟨rfl, h⟩
/-- the bytes of a string that was turned into bytes -/
def Bts (w : World) (g : Nat) (s : ByteArray) : Prop := g < w.heap.size ∧ ∀ j (h : j < s.size), w.cell? ⟨g, j, none⟩ = some (.int .u8 (s[j].toNat : Int))
theorem bts_new (w : World) (s : ByteArray) : Bts (Lib.bytesWorld w 5 s) w.heap.size s := by
  refine ⟨by rw [Lib.bytesWorld_size]; omega, fun j h => ?_⟩
  rw [Lib.bytesWorld_cell w 5 s j h]; simp [List.getD, h]; rfl
theorem Bts.grown {w w' : World} {g g2 : Nat} {s : ByteArray} (h : Bts w g s) (hg : w.grownBy w' (some g2)) (hne : g ≠ g2) : Bts w' g s :=
  ⟨Nat.lt_of_lt_of_le h.1 hg.size, fun j hj => hg.cell (h.2 j hj) (by simpa using hne)⟩
theorem Bts.below {w w' : World} {g : Nat} {s : ByteArray} (h : Bts w g s) (hb : Below w.heap.size w w') : Bts w' g s :=
  ⟨Nat.lt_of_lt_of_le h.1 hb.size, fun j hj => (hb.cell (p := ⟨g, j, none⟩) h.1).trans (h.2 j hj)⟩

end Go.Proofs.Ytjodbijcgcjndaa.base
