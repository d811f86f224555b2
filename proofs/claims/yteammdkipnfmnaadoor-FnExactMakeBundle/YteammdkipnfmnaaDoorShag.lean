/- Rows of items that a call made, kept block by block; no function of the program is named here. How proofs, bundles and tables lie in memory. No function of the program is named here. Slices of pairs as elements of rows. No function of the program is named here. A copy of a slice by append to an empty row of the call's own, nil or not; one struct appended. No function of the program is named here. An answer of one cell that is new. No function of the program is named here. -/
import Derived.Test.YteammdkipnfmnaaDoorShaf
import Derived.Test.YteammdkipnfmnaaDoorShaa
import Derived.Test.YteammdkipnfmnaaDoorShae
import Derived.Test.YteammdkipnfmnaaDoorShab
import Derived.Maps.AppendAt
import Derived.Deep.AppendLies
namespace Go.Proofs.YteammdkipnfmnaaDoor.range
open Go Go.RowKit Go.Proofs.YteammdkipnfmnaaDoor.base Go.Proofs.YteammdkipnfmnaaDoor.pairs Go.Proofs.YteammdkipnfmnaaDoor.tree
set_option linter.unusedVariables false
set_option linter.unusedSimpArgs false

theorem row_of_block {w w' : World} {base : Nat} {e : TypeId} {size : Nat} {v : Value} {n : Nat} {xs : List Value} (h : w.ownsRow base e size v n xs) (hk : ∀ k, v.ownBlock = some k → w'.heap[k]? = w.heap[k]?) : w'.ownsRow base e size v n xs := by
  refine ⟨h.1, ?_⟩
  rcases h.2 with h' | ⟨g, cap, cur, rfl, h0, hg, r⟩
  · exact .inl h'
  · exact .inr ⟨g, cap, cur, rfl, h0, (hk g rfl).trans hg, r⟩
theorem row_mono {w : World} {base base' : Nat} {e : TypeId} {size : Nat} {v : Value} {n : Nat} {xs : List Value} (h : w.ownsRow base e size v n xs) (hb : base' ≤ base) : w.ownsRow base' e size v n xs := by
  refine ⟨h.1, ?_⟩
  rcases h.2 with h' | ⟨g, cap, cur, rfl, h0, r⟩
  · exact .inl h'
  · exact .inr ⟨g, cap, cur, rfl, by omega, r⟩
section
variable {w w' : World} {base base' g n cap : Nat} {v : Value} {l : List It} {hs : List Hd}
theorem ownS_of_block {ss : List ByteArray} (h : OwnS w base g n cap ss) (hk : w'.heap[g]? = w.heap[g]?) : OwnS w' base g n cap ss := ⟨h.1, h.2.1, row_of_block h.2.2 (fun k e => by cases e; exact hk)⟩
def Blk (v : Value) (hs : List Hd) (k : Nat) : Prop := v.ownBlock = some k ∨ ∃ y ∈ hs, y.1 = k
theorem OwnI.of_blocks (h : OwnI w base v l hs) (hk : ∀ k, Blk v hs k → w'.heap[k]? = w.heap[k]?) : OwnI w' base v l hs :=
  ⟨h.len, h.sm, row_of_block h.row (fun k e => hk k (.inl e)), fun i hi => ownS_of_block (h.paths i hi) (hk _ (.inr ⟨hs[i]'(by have := h.len; omega), List.getElem_mem _, rfl⟩)), h.apart, h.out⟩
theorem OwnI.mono (h : OwnI w base v l hs) (hb : base' ≤ base) : OwnI w base' v l hs :=
  ⟨h.len, h.sm, row_mono h.row hb, fun i hi => (h.paths i hi).mono hb, h.apart, h.out⟩
theorem OwnI.lt (h : OwnI w base v l hs) (k : Nat) (hk : Blk v hs k) : base ≤ k ∧ k < w.heap.size := by
  rcases hk with e | ⟨y, hy, rfl⟩
  · exact h.row.lt k e
  · obtain ⟨i, hi, rfl⟩ := List.getElem_of_mem hy
    exact (h.paths i (by have := h.len; omega)).lt
theorem OwnI.grown (h : OwnI w base v l hs) {k : Nat} (hg : w.grownBy w' (some k)) (hne : ¬ Blk v hs k) : OwnI w' base v l hs :=
  h.of_blocks (fun j hj => hg.block j (h.lt j hj).2 (fun e => by cases e; exact hne hj))
theorem OwnI.shape (h : OwnI w base v l hs) : (v = .slice none 0 0 ∧ l = [] ∧ hs = []) ∨ ∃ g cap, v = .slice (some ⟨g, 0, none⟩) l.length cap ∧ l.length ≤ cap ∧ cap ≤ maxLen := by
  rcases h.row.2 with ⟨rfl, h0⟩ | ⟨g, cap, cur, rfl, _, _, h1, h2, _⟩
  · have : l = [] := List.eq_nil_of_length_eq_zero h0
    subst this
    exact .inl ⟨rfl, rfl, List.eq_nil_of_length_eq_zero (by simpa using h.len)⟩
  · exact .inr ⟨g, cap, rfl, h1, h2⟩
theorem OwnI.at (h : OwnI w base (.slice (some ⟨g, 0, none⟩) n cap) l hs) (i : Nat) (hi : i < l.length) :
    w.cell? ⟨g, i * 3, none⟩ = some (.string l[i].1.1) ∧ w.cell? ⟨g, i * 3 + 1, none⟩ = some (.string l[i].1.2) ∧ w.cell? ⟨g, i * 3 + 2, none⟩ = some (.slice (some ⟨(hs[i]'(by have := h.len; omega)).1, 0, none⟩) (hs[i]'(by have := h.len; omega)).2.1 (hs[i]'(by have := h.len; omega)).2.2) := by
  have hn : n = l.length := by
    rcases h.shape with ⟨e, _⟩ | ⟨g', c', e, _⟩
    · cases e
    · cases e; rfl
  subst hn
  obtain ⟨h1, h2, h3⟩ := itVals_get l hs h.len i hi
  have key : ∀ j u, (itVals l hs)[j]? = some u → w.cell? ⟨g, j, none⟩ = some u := fun j u hu => by
    have := h.row.cells (g := g) rfl j u hu
    rw [Addr.add_lit, Nat.zero_add] at this
    exact this
  exact ⟨key _ _ h1, key _ _ h2, key _ _ h3⟩
theorem OwnI.nlen (h : OwnI w base (.slice (some ⟨g, 0, none⟩) n cap) l hs) : n = l.length := by
  rcases h.shape with ⟨e, _⟩ | ⟨g', c', e, _⟩
  · cases e
  · cases e; rfl
theorem OwnI.frozen (h : OwnI w base (.slice (some ⟨g, 0, none⟩) n cap) l hs) (j : Nat) : w.frozen? ⟨g, j, none⟩ = false := by
  obtain rfl := h.nlen
  exact h.row.frozenAt j
theorem OwnI.sl {a : Option Addr} (h : OwnI w base (.slice a n cap) l hs) : SlI w a n l := by
  rcases h.shape with ⟨e, rfl, _⟩ | ⟨g, c, e, h1, h2⟩
  · cases e; exact sli_nil _ _
  · cases e
    refine ⟨rfl, by omega, h.sm, fun _ => ⟨g, 0, rfl, fun i hi => ?_⟩⟩
    obtain ⟨c1, c2, c3⟩ := h.at i hi
    rw [Nat.zero_add]
    have hp := h.paths i hi
    exact ⟨c1, c2, _, _, _, c3, hp.sl, hp.cases.1⟩

/-! ### all blocks but those of a slice of items are as they were -/
structure KeepB (v : Value) (hs : List Hd) (w w' : World) : Prop where
  os : w'.os = w.os
  tape : w'.tape = w.tape
  output : w'.output = w.output
  size : w.heap.size ≤ w'.heap.size
  block : ∀ j, j < w.heap.size → ¬ Blk v hs j → w'.heap[j]? = w.heap[j]?
theorem KeepB.refl (v : Value) (hs : List Hd) (w : World) : KeepB v hs w w := ⟨rfl, rfl, rfl, Nat.le_refl _, fun _ _ _ => rfl⟩
theorem KeepB.below {w'' : World} (h : KeepB v hs w w') (hb : Below w'.heap.size w' w'') : KeepB v hs w w'' :=
  ⟨hb.os.trans h.os, hb.tape.trans h.tape, hb.output.trans h.output, Nat.le_trans h.size hb.size, fun j hj hn => (hb.block j (Nat.lt_of_lt_of_le hj h.size)).trans (h.block j hj hn)⟩
theorem KeepB.grown {w'' : World} {k : Nat} (h : KeepB v hs w w') (hg : w'.grownBy w'' (some k)) (hk : Blk v hs k) : KeepB v hs w w'' :=
  ⟨hg.os.trans h.os, hg.tape.trans h.tape, hg.output.trans h.output, Nat.le_trans h.size hg.size, fun j hj hn => (hg.block j (Nat.lt_of_lt_of_le hj h.size) (fun e => by cases e; exact hn hk)).trans (h.block j hj hn)⟩
theorem KeepB.bel (h : KeepB v hs w w') (hb : base ≤ w.heap.size) (hB : ∀ k, Blk v hs k → base ≤ k) : Below base w w' :=
  ⟨h.os, h.tape, h.output, h.size, fun j hj => h.block j (Nat.lt_of_lt_of_le hj hb) (fun e => by have := hB j e; omega)⟩

/-! ### stores -/
theorem itVals_set0 (l : List It) (hs : List Hd) (h : hs.length = l.length) (i : Nat) (hi : i < l.length) (k : ByteArray) : (itVals l hs).set (i * 3) (.string k) = itVals (l.set i ((k, l[i].1.2), l[i].2)) hs := by
  induction l generalizing hs i with
  | nil => simp at hi
  | cons x l ih =>
    cases hs with
    | nil => simp at h
    | cons y hs =>
      have e : ∀ (x : It) l, itVals (x :: l) (y :: hs) = .string x.1.1 :: .string x.1.2 :: .slice (some ⟨y.1, 0, none⟩) y.2.1 y.2.2 :: itVals l hs := fun _ _ => rfl
      cases i with
      | zero => rw [e]; simp [e]
      | succ i =>
        rw [e, show (i + 1) * 3 = i * 3 + 1 + 1 + 1 by omega]
        simp only [List.set_cons_succ, List.getElem_cons_succ, e]
        rw [ih hs (by simpa using h) i (by simpa using hi)]
theorem itVals_set1 (l : List It) (hs : List Hd) (h : hs.length = l.length) (i : Nat) (hi : i < l.length) (k : ByteArray) : (itVals l hs).set (i * 3 + 1) (.string k) = itVals (l.set i ((l[i].1.1, k), l[i].2)) hs := by
  induction l generalizing hs i with
  | nil => simp at hi
  | cons x l ih =>
    cases hs with
    | nil => simp at h
    | cons y hs =>
      have e : ∀ (x : It) l, itVals (x :: l) (y :: hs) = .string x.1.1 :: .string x.1.2 :: .slice (some ⟨y.1, 0, none⟩) y.2.1 y.2.2 :: itVals l hs := fun _ _ => rfl
      cases i with
      | zero => rw [e]; simp [e]
      | succ i =>
        rw [e, show (i + 1) * 3 + 1 = i * 3 + 1 + 1 + 1 + 1 by omega]
        simp only [List.set_cons_succ, List.getElem_cons_succ, e]
        rw [ih hs (by simpa using h) i (by simpa using hi)]
theorem itVals_path (l : List It) (hs : List Hd) (i : Nat) (P : List ByteArray) (h : hs.length = l.length) (hi : i < l.length) : itVals (l.set i (l[i].1, P)) hs = itVals l hs := by
  induction l generalizing hs i with
  | nil => simp at hi
  | cons x l ih =>
    cases hs with
    | nil => simp at h
    | cons y hs =>
      have e : ∀ (x : It) l, itVals (x :: l) (y :: hs) = .string x.1.1 :: .string x.1.2 :: .slice (some ⟨y.1, 0, none⟩) y.2.1 y.2.2 :: itVals l hs := fun _ _ => rfl
      cases i with
      | zero => rfl
      | succ i =>
        simp only [List.set_cons_succ, List.getElem_cons_succ, e]
        rw [ih hs i (by simpa using h) (by simpa using hi)]
theorem mem_set_smallI {i : Nat} {x : It} (h : ∀ y ∈ l, smallI y) (hx : smallI x) : ∀ y ∈ l.set i x, smallI y := by
  intro y hy
  rcases List.mem_or_eq_of_mem_set hy with h1 | h1
  · exact h y h1
  · subst h1; exact hx
theorem paths_set (h : OwnI w base v l hs) (i : Nat) (hi : i < l.length) (q : Pr) : ∀ j (hj : j < (l.set i (q, l[i].2)).length), OwnS w base (hs[j]'(by have := h.len; simp at hj; omega)).1 (hs[j]'(by have := h.len; simp at hj; omega)).2.1 (hs[j]'(by have := h.len; simp at hj; omega)).2.2 (l.set i (q, l[i].2))[j].2 := by
  intro j hj
  have hjl : j < l.length := by simpa using hj
  have := h.paths j hjl
  by_cases e : i = j
  · subst e; rw [List.getElem_set_self]; exact this
  · rw [List.getElem_set_ne e]; exact this
theorem OwnI.setKey (h : OwnI w base (.slice (some ⟨g, 0, none⟩) n cap) l hs) (i : Nat) (hi : i < l.length) (k : ByteArray) (hk : k.size ≤ maxLen) :
    OwnI (w.setCell ⟨g, i * 3, none⟩ (.string k)) base (.slice (some ⟨g, 0, none⟩) n cap) (l.set i ((k, l[i].1.2), l[i].2)) hs ∧ w.grownBy (w.setCell ⟨g, i * 3, none⟩ (.string k)) (some g) := by
  obtain rfl := h.nlen
  have hs1 := h.row.stored (i * 3) (.string k)
  rw [itVals_set0 l hs h.len i hi k] at hs1
  have hsm := h.sm l[i] (List.getElem_mem hi)
  refine ⟨⟨by simpa using h.len, mem_set_smallI h.sm ⟨⟨hk, hsm.1.2⟩, hsm.2⟩, by simpa using hs1.1, fun j hj => ?_, h.apart, h.out⟩, hs1.2⟩
  refine (paths_set h i hi (k, l[i].1.2) j hj).grown hs1.2 (fun e => ?_)
  exact h.out g rfl _ (List.getElem_mem _) (by simpa using e)
theorem OwnI.setVal (h : OwnI w base (.slice (some ⟨g, 0, none⟩) n cap) l hs) (i : Nat) (hi : i < l.length) (k : ByteArray) (hk : k.size ≤ maxLen) :
    OwnI (w.setCell ⟨g, i * 3 + 1, none⟩ (.string k)) base (.slice (some ⟨g, 0, none⟩) n cap) (l.set i ((l[i].1.1, k), l[i].2)) hs ∧ w.grownBy (w.setCell ⟨g, i * 3 + 1, none⟩ (.string k)) (some g) := by
  obtain rfl := h.nlen
  have hs1 := h.row.stored (i * 3 + 1) (.string k)
  rw [itVals_set1 l hs h.len i hi k] at hs1
  have hsm := h.sm l[i] (List.getElem_mem hi)
  refine ⟨⟨by simpa using h.len, mem_set_smallI h.sm ⟨⟨hsm.1.1, hk⟩, hsm.2⟩, by simpa using hs1.1, fun j hj => ?_, h.apart, h.out⟩, hs1.2⟩
  refine (paths_set h i hi (l[i].1.1, k) j hj).grown hs1.2 (fun e => ?_)
  exact h.out g rfl _ (List.getElem_mem _) (by simpa using e)
theorem OwnI.setPath (h : OwnI w base v l hs) (i : Nat) (hi : i < l.length) (P : List ByteArray) (hP : OwnS w' base (hs[i]'(by have := h.len; omega)).1 (hs[i]'(by have := h.len; omega)).2.1 (hs[i]'(by have := h.len; omega)).2.2 P) (hg : w.grownBy w' (some (hs[i]'(by have := h.len; omega)).1)) :
    OwnI w' base v (l.set i (l[i].1, P)) hs := by
  have hlen := h.len
  have hsm := h.sm l[i] (List.getElem_mem hi)
  refine ⟨by simpa using h.len, mem_set_smallI h.sm ⟨hsm.1, hP.2.1⟩, ?_, fun j hj => ?_, h.apart, h.out⟩
  · rw [itVals_path l hs i P h.len hi, List.length_set]
    exact h.row.kept hg (by
      by_cases e : v.ownBlock = none
      · exact .inl e
      · right; intro e2; exact h.out _ e2 _ (List.getElem_mem _) rfl)
  · have hjl : j < l.length := by simpa using hj
    by_cases e : i = j
    · subst e; rw [List.getElem_set_self]; exact hP
    · rw [List.getElem_set_ne e]
      refine (h.paths j hjl).grown hg (fun e2 => ?_)
      have e3 : (hs[j]'(by omega)).1 = (hs[i]'(by omega)).1 := by simpa using e2
      rcases Nat.lt_or_gt_of_ne e with hlt | hlt
      · exact (List.pairwise_iff_getElem.1 h.apart i j (by omega) (by omega) hlt) e3.symm
      · exact (List.pairwise_iff_getElem.1 h.apart j i (by omega) (by omega) hlt) e3
theorem row_ne {e1 e2 : TypeId} {s1 s2 n1 n2 : Nat} {v1 v2 : Value} {x1 x2 : List Value} {k b1 b2 : Nat} (h1 : w.ownsRow b1 e1 s1 v1 n1 x1) (h2 : w.ownsRow b2 e2 s2 v2 n2 x2) (hk1 : v1.ownBlock = some k) (hk2 : v2.ownBlock = some k) (hne : e1 ≠ e2) : False := by
  rcases h1.2 with ⟨rfl, _⟩ | ⟨g, c, cur, rfl, _, hg, _⟩
  · cases hk1
  rcases h2.2 with ⟨rfl, _⟩ | ⟨g2, c2, cur2, rfl, _, hg2, _⟩
  · cases hk2
  cases hk1
  simp only [Value.ownBlock, Option.some.injEq] at hk2
  rw [hk2, hg] at hg2
  injection hg2 with hg2
  injection hg2 with _ he
  exact hne he
theorem OwnI.snoc {w5 w7 : World} {p : Pr} {P : List ByteArray} {g5 n5 c5 : Nat} {v7 : Value} (h : OwnI w base v l hs) (hb : Below w.heap.size w w5) (hP : OwnS w5 base g5 n5 c5 P) (hg5 : w.heap.size ≤ g5) (hp : small p)
    (o : Obj) (hown : w7.ownsRow base 69 3 v7 (l.length + 1) (itVals l hs ++ [.string p.1, .string p.2, .slice (some ⟨g5, 0, none⟩) n5 c5])) (hgrow : (w5.alloc o).grownBy w7 v.ownBlock) :
    OwnI w7 base v7 (l ++ [(p, P)]) (hs ++ [(g5, n5, c5)]) := by
  have hlen := h.len
  have hg5' : g5 < w5.heap.size := hP.lt.2
  have keep : ∀ {g n c : Nat} {ss : List ByteArray}, OwnS w5 base g n c ss → some g ≠ v.ownBlock → OwnS w7 base g n c ss := fun hS hne => (ownS_of_block (w' := w5.alloc o) hS (by
    have := hS.lt.2
    show (w5.heap.push o)[_]? = _
    rw [Array.getElem?_push]; split
    · omega
    · rfl)).grown hgrow hne
  have hps : ∀ i (hi : i < (l ++ [(p, P)]).length), OwnS w7 base ((hs ++ [(g5, n5, c5)])[i]'(by simp at hi ⊢; omega)).1 ((hs ++ [(g5, n5, c5)])[i]'(by simp at hi ⊢; omega)).2.1 ((hs ++ [(g5, n5, c5)])[i]'(by simp at hi ⊢; omega)).2.2 (l ++ [(p, P)])[i].2 := by
    intro i hi
    by_cases e : i < l.length
    · rw [List.getElem_append_left e]
      simp only [List.getElem_append_left (show i < hs.length by omega)]
      refine keep ((h.paths i e).below hb) (fun e2 => ?_)
      exact h.out _ e2.symm _ (List.getElem_mem _) rfl
    · have : i = l.length := by simp at hi; omega
      subst this
      rw [List.getElem_append_right (Nat.le_refl _)]
      simp only [List.getElem_append_right (show hs.length ≤ l.length by omega)]
      simp only [hlen, Nat.sub_self, List.getElem_cons_zero]
      refine keep hP (fun e2 => ?_)
      have := (h.row.lt g5 e2.symm).2
      omega
  refine ⟨by simp [hlen], fun x hx => ?_, ?_, hps, ?_, fun k hk y hy e => ?_⟩
  · rcases List.mem_append.1 hx with h1 | h1
    · exact h.sm x h1
    · rw [List.mem_singleton.1 h1]; exact ⟨hp, hP.2.1⟩
  · rw [itVals_snoc l hs hlen, List.length_append]; exact hown
  · rw [List.pairwise_append]
    refine ⟨h.apart, List.pairwise_singleton _ _, fun a ha y hy => ?_⟩
    rw [List.mem_singleton.1 hy]
    have := (h.lt a.1 (.inr ⟨a, ha, rfl⟩)).2
    show a.1 ≠ g5
    omega
  · obtain ⟨i, hi, rfl⟩ := List.getElem_of_mem hy
    have hS := hps i (by simp at hi ⊢; omega)
    exact row_ne hown hS.2.2 hk (by rw [← e]; rfl) (by decide)
end
end Go.Proofs.YteammdkipnfmnaaDoor.range

namespace Go.Proofs.YteammdkipnfmnaaDoor.bun
open Go Go.RowKit Go.Proofs.YteammdkipnfmnaaDoor.base Go.Proofs.YteammdkipnfmnaaDoor.pairs Go.Proofs.YteammdkipnfmnaaDoor.lay Go.Proofs.YteammdkipnfmnaaDoor.range Go.Proofs.YteammdkipnfmnaaDoor.seals
set_option linter.unusedVariables false
set_option linter.unusedSimpArgs false

abbrev Pf := Int × Int × List It
abbrev Bun := Int × ByteArray × List ByteArray × List Pf
def blkI (v : Value) (hs : List Hd) : List Nat := v.ownBlock.toList ++ hs.map fun y => y.1
theorem mem_blkI {v : Value} {hs : List Hd} {k : Nat} : k ∈ blkI v hs ↔ Blk v hs k := by
  unfold blkI Blk
  rw [List.mem_append]
  constructor
  · rintro (h | h)
    · left; cases e : v.ownBlock with
      | none => rw [e] at h; cases h
      | some x => rw [e] at h; have : k = x := by simpa using h
                  rw [this]
    · right
      obtain ⟨y, hy, rfl⟩ := List.mem_map.1 h
      exact ⟨y, hy, rfl⟩
  · rintro (h | ⟨y, hy, rfl⟩)
    · left; rw [h]; simp
    · right; exact List.mem_map.2 ⟨y, hy, rfl⟩
theorem sls_cells {w w' : World} {a : Option Addr} {n : Nat} {l : List ByteArray} (h : SlS w a n l) (hc : ∀ b o v, w.cell? ⟨b, o, none⟩ = some v → w'.cell? ⟨b, o, none⟩ = some v) : SlS w' a n l := by
  obtain ⟨h1, h2, h3, h4⟩ := h
  refine ⟨h1, h2, h3, fun h0 => ?_⟩
  obtain ⟨b, off, e, hi⟩ := h4 h0
  exact ⟨b, off, e, fun i hl => hc _ _ _ (hi i hl)⟩
theorem sli_cells {w w' : World} {a : Option Addr} {n : Nat} {l : List It} (h : SlI w a n l) (hc : ∀ b o v, w.cell? ⟨b, o, none⟩ = some v → w'.cell? ⟨b, o, none⟩ = some v) : SlI w' a n l := by
  obtain ⟨h1, h2, h3, h4⟩ := h
  refine ⟨h1, h2, h3, fun h0 => ?_⟩
  obtain ⟨b, off, e, hi⟩ := h4 h0
  refine ⟨b, off, e, fun i hl => ?_⟩
  obtain ⟨c0, c1, pa, pl, pc, c2, hs, hp⟩ := hi i hl
  exact ⟨hc _ _ _ c0, hc _ _ _ c1, pa, pl, pc, hc _ _ _ c2, sls_cells hs hc, hp⟩
theorem nodup_map {hs : List Hd} (h : hs.Pairwise fun a b => a.1 ≠ b.1) : (hs.map fun y => y.1).Nodup := by
  unfold List.Nodup
  rw [List.pairwise_map]
  exact h
def itemsR : Rd (List It) where
  size := 1
  see w vs l := ∃ a n c, vs = [.slice a n c] ∧ n ≤ c ∧ SlI w a n l
  own w vs l F := ∃ v hs, vs = [v] ∧ F = blkI v hs ∧ OwnI w 0 v l hs
  seeLen := by rintro w vs x ⟨a, n, c, rfl, _⟩; rfl
  seeCells := by
    rintro w w' vs x ⟨a, n, c, rfl, hc, h⟩ hk
    exact ⟨a, n, c, rfl, hc, sli_cells h hk⟩
  ownSee := by
    rintro w vs x F ⟨v, hs, rfl, rfl, h⟩
    rcases h.shape with ⟨rfl, rfl, rfl⟩ | ⟨g, cap, rfl, h1, _⟩
    · exact ⟨none, 0, 0, rfl, Nat.le_refl _, h.sl⟩
    · exact ⟨_, _, _, rfl, h1, h.sl⟩
  ownAt := by
    rintro w w' vs x F ⟨v, hs, rfl, rfl, h⟩ hk
    exact ⟨v, hs, rfl, rfl, h.of_blocks (fun k e => hk k (mem_blkI.2 e))⟩
  ownLt := by
    rintro w vs x F ⟨v, hs, rfl, rfl, h⟩ k hk
    exact (h.lt k (mem_blkI.1 hk)).2
  ownNodup := by
    rintro w vs x F ⟨v, hs, rfl, rfl, h⟩
    refine nodup_mk ?_ (nodup_map h.apart) (fun k hk hk2 => ?_)
    · cases v.ownBlock <;> simp
    · have e : v.ownBlock = some k := by
        cases e : v.ownBlock with
        | none => rw [e] at hk; cases hk
        | some x => rw [e] at hk; have : k = x := by simpa using hk
                    rw [this]
      obtain ⟨y, hy, rfl⟩ := List.mem_map.1 hk2
      exact h.out _ e y hy rfl
  ownOne := by
    rintro w vs x F ⟨v, hs, rfl, rfl, h⟩ u hu
    rw [List.mem_singleton.1 hu]
    rcases h.shape with ⟨rfl, _, _⟩ | ⟨g, cap, rfl, _, _⟩ <;> rfl
def proofR : Rd Pf := both int (both int itemsR)
def proofsR : Rd (List Pf) := slice 50 proofR
def bundleR : Rd Bun := both int (both str (both textsR proofsR))
section
variable {w w' : World} {F : List Nat} {vs : List Value} {a : Option Addr} {n cap : Nat} {v : Value}
theorem items_see {l : List It} : itemsR.see w [.slice a n cap] l ↔ SlI w a n l ∧ n ≤ cap := by
  constructor
  · rintro ⟨a', n', c', e, hc, h⟩
    cases e
    exact ⟨h, hc⟩
  · rintro ⟨h, hc⟩
    exact ⟨_, _, _, rfl, hc, h⟩
theorem proof_see {x : Pf} : proofR.see w vs x ↔ ∃ ra rn rc, vs = [.int .i64 x.1, .int .i64 x.2.1, .slice ra rn rc] ∧ (Lit.int .i64 x.1).wf = true ∧ (Lit.int .i64 x.2.1).wf = true ∧ SlI w ra rn x.2.2 ∧ rn ≤ rc := by
  constructor
  · rintro ⟨u1, t1, rfl, h1, u2, t2, rfl, h2, h4⟩
    obtain ⟨rfl, k1⟩ := cos.flat_int.see.1 h1
    obtain ⟨rfl, k2⟩ := cos.flat_int.see.1 h2
    obtain ⟨ra, rn, rc, rfl, _⟩ := id h4
    have h6 := items_see.1 h4
    exact ⟨ra, rn, rc, rfl, k1, k2, h6.1, h6.2⟩
  · rintro ⟨ra, rn, rc, rfl, k1, k2, h4, h5⟩
    exact ⟨[_], [_, _], rfl, cos.flat_int.see.2 ⟨rfl, k1⟩, [_], [_], rfl, cos.flat_int.see.2 ⟨rfl, k2⟩, items_see.2 ⟨h4, h5⟩⟩
theorem proof_own {x : Pf} : proofR.own w vs x F ↔ ∃ v, vs = [.int .i64 x.1, .int .i64 x.2.1, v] ∧ (Lit.int .i64 x.1).wf = true ∧ (Lit.int .i64 x.2.1).wf = true ∧ itemsR.own w [v] x.2.2 F := by
  constructor
  · rintro ⟨u1, t1, F1, G1, rfl, rfl, h1, ⟨u2, t2, F2, G2, rfl, rfl, h2, h4, _⟩, _⟩
    obtain ⟨rfl, k1, rfl⟩ := cos.flat_int.own.1 h1
    obtain ⟨rfl, k2, rfl⟩ := cos.flat_int.own.1 h2
    obtain ⟨v, q, rfl, _⟩ := id h4
    exact ⟨v, rfl, k1, k2, by simpa using h4⟩
  · rintro ⟨v, rfl, k1, k2, h4⟩
    have hn := itemsR.ownNodup h4
    exact ⟨[_], [_, v], [], F, rfl, rfl, cos.flat_int.own.2 ⟨rfl, k1, rfl⟩, ⟨[_], [v], [], F, rfl, rfl, cos.flat_int.own.2 ⟨rfl, k2, rfl⟩, h4, hn⟩, hn⟩
theorem proof_at {b off len : Nat} {l : List Pf} (h : SlG proofR w (some ⟨b, off, none⟩) len l) (i : Nat) (hi : i < l.length) : ∃ ra rn rc, w.cell? ⟨b, off + i * 3, none⟩ = some (.int .i64 l[i].1) ∧ w.cell? ⟨b, off + i * 3 + 1, none⟩ = some (.int .i64 l[i].2.1) ∧ w.cell? ⟨b, off + i * 3 + 2, none⟩ = some (.slice ra rn rc) ∧ SlI w ra rn l[i].2.2 ∧ rn ≤ rc ∧ (Lit.int .i64 l[i].1).wf = true ∧ (Lit.int .i64 l[i].2.1).wf = true := by
  obtain ⟨b', off', e, hc⟩ := h.2.2.2 (by have := h.1; omega)
  simp only [Option.some.injEq, Addr.mk.injEq, and_true] at e
  obtain ⟨rfl, rfl⟩ := e
  obtain ⟨vs, hs, hcl⟩ := hc i hi
  obtain ⟨ra, rn, rc, rfl, k1, k2, h5⟩ := proof_see.1 hs
  exact ⟨ra, rn, rc, hcl 0 _ rfl, hcl 1 _ rfl, hcl 2 _ rfl, h5.1, h5.2, k1, k2⟩
structure SeeBu (w : World) (ra : Option Addr) (rn rc : Nat) (pa : Option Addr) (pn pc : Nat) (x : Bun) : Prop where
  no : (Lit.int .i64 x.1).wf = true
  prev : x.2.1.size ≤ maxLen
  roots : SlS w ra rn x.2.2.1
  proofs : SlG proofR w pa pn x.2.2.2
  rc : rn ≤ rc
  pc : pn ≤ pc
theorem SeeBu.below {ra pa : Option Addr} {rn rc pn pc : Nat} {x : Bun} (h : SeeBu w ra rn rc pa pn pc x) (hb : Below w.heap.size w w') : SeeBu w' ra rn rc pa pn pc x := ⟨h.no, h.prev, h.roots.below hb, h.proofs.below hb, h.rc, h.pc⟩
theorem bundle_see {x : Bun} : bundleR.see w vs x ↔ ∃ ra rn rc pa pn pc, vs = [.int .i64 x.1, .string x.2.1, .slice ra rn rc, .slice pa pn pc] ∧ SeeBu w ra rn rc pa pn pc x := by
  constructor
  · rintro ⟨u1, t1, rfl, h1, u2, t2, rfl, h2, u3, t3, rfl, h3, h4⟩
    obtain ⟨rfl, k1⟩ := cos.flat_int.see.1 h1
    obtain ⟨rfl, k2⟩ := cos.flat_str.see.1 h2
    obtain ⟨ra, rn, rc, rfl, _⟩ := id h3
    obtain ⟨pa, pn, pc, rfl, q1, q2⟩ := id h4
    have h6 := texts_see.1 h3
    exact ⟨ra, rn, rc, pa, pn, pc, rfl, k1, k2, h6.1, q2, h6.2, q1⟩
  · rintro ⟨ra, rn, rc, pa, pn, pc, rfl, h⟩
    exact ⟨[_], [_, _, _], rfl, cos.flat_int.see.2 ⟨rfl, h.no⟩, [_], [_, _], rfl, cos.flat_str.see.2 ⟨rfl, h.prev⟩, [_], [_], rfl, texts_see.2 ⟨h.roots, h.rc⟩, ⟨_, _, _, rfl, h.pc, h.proofs⟩⟩
theorem bundle_own {x : Bun} : bundleR.own w vs x F ↔ ∃ v1 v2 F1 F2, vs = [.int .i64 x.1, .string x.2.1, v1, v2] ∧ F = F1 ++ F2 ∧ (Lit.int .i64 x.1).wf = true ∧ x.2.1.size ≤ maxLen ∧ textsR.own w [v1] x.2.2.1 F1 ∧ proofsR.own w [v2] x.2.2.2 F2 ∧ F.Nodup := by
  constructor
  · rintro ⟨u1, t1, F1, G1, rfl, rfl, h1, ⟨u2, t2, F2, G2, rfl, rfl, h2, ⟨u3, t3, F3, G3, rfl, rfl, h3, h4, hn⟩, _⟩, _⟩
    obtain ⟨rfl, k1, rfl⟩ := cos.flat_int.own.1 h1
    obtain ⟨rfl, k2, rfl⟩ := cos.flat_str.own.1 h2
    obtain ⟨v1, q1, rfl, _⟩ := id h3
    obtain ⟨v2, q2, rfl, _⟩ := id h4
    exact ⟨v1, v2, F3, G3, rfl, rfl, k1, k2, h3, h4, by simpa using hn⟩
  · rintro ⟨v1, v2, F1, F2, rfl, rfl, k1, k2, h3, h4, hn⟩
    exact ⟨[_], [_, v1, v2], [], F1 ++ F2, rfl, rfl, cos.flat_int.own.2 ⟨rfl, k1, rfl⟩, ⟨[_], [v1, v2], [], F1 ++ F2, rfl, rfl, cos.flat_str.own.2 ⟨rfl, k2, rfl⟩, ⟨[v1], [v2], F1, F2, rfl, rfl, h3, h4, hn⟩, hn⟩, hn⟩
theorem bundle_shape {x : Bun} (h : bundleR.own w vs x F) : ∃ ra rn rc pa pn pc, vs = [.int .i64 x.1, .string x.2.1, .slice ra rn rc, .slice pa pn pc] := by
  obtain ⟨ra, rn, rc, pa, pn, pc, e, _⟩ := bundle_see.1 (bundleR.ownSee h)
  exact ⟨ra, rn, rc, pa, pn, pc, e⟩
theorem see_bu {ra pa : Option Addr} {rn rc pn pc : Nat} {x : Bun} (h : bundleR.see w [.int .i64 x.1, .string x.2.1, .slice ra rn rc, .slice pa pn pc] x) : SeeBu w ra rn rc pa pn pc x := by
  obtain ⟨ra', rn', rc', pa', pn', pc', e, h⟩ := bundle_see.1 h
  simp only [List.cons.injEq, Value.slice.injEq, and_true, true_and] at e
  obtain ⟨⟨rfl, rfl, rfl⟩, rfl, rfl, rfl⟩ := e
  exact h
end
end Go.Proofs.YteammdkipnfmnaaDoor.bun

namespace Go.Proofs.YteammdkipnfmnaaDoor.tabs
open Go Go.RowKit Go.Proofs.YteammdkipnfmnaaDoor.base Go.Proofs.YteammdkipnfmnaaDoor.pairs Go.Proofs.YteammdkipnfmnaaDoor.lay
set_option linter.unusedVariables false
set_option linter.unusedSimpArgs false

def prR : Rd Pr := both str str
theorem flat_pr : cos.Flat prR (fun p => [.string p.1, .string p.2]) (fun p => p.1.size ≤ maxLen ∧ p.2.size ≤ maxLen) := cos.flat_both cos.flat_str cos.flat_str
def tableR : Rd (List Pr) := slice 65 prR
section
variable {w w' : World} {F : List Nat} {vs : List Value} {a : Option Addr} {n cap : Nat} {v : Value}
theorem table_own {l : List Pr} : tableR.own w [v] l F ↔ w.ownsRow 0 65 2 v l.length (pairVals l) ∧ (∀ p ∈ l, small p) ∧ F = v.ownBlock.toList := by
  unfold tableR
  rw [flat_pr.slice]
  exact Iff.rfl
theorem table_ownP {g n c base : Nat} {l : List Pr} (h : OwnP w base g n c l) : tableR.own w [.slice (some ⟨g, 0, none⟩) n c] l [g] := by
  have h2 := h.mono (Nat.zero_le _)
  refine table_own.2 ⟨?_, h.2.1, rfl⟩
  rw [h.1]
  exact h2.2.2
theorem table_P {g n c : Nat} {l : List Pr} (h : tableR.own w [.slice (some ⟨g, 0, none⟩) n c] l F) : OwnP w 0 g n c l := by
  obtain ⟨v', q, e, _, hO⟩ := id h
  cases e
  obtain ⟨h1, h2, _⟩ := table_own.1 h
  have hn : n = l.length := hO.nlen
  subst hn
  exact ⟨rfl, h2, h1⟩
theorem table_see {l : List Pr} : tableR.see w [.slice a n cap] l ↔ SlP w a n l ∧ n ≤ cap := by
  constructor
  · rintro ⟨a', n', c', e, hc, h1, h2, h3, h4⟩
    cases e
    refine ⟨⟨h1, h2, fun p hp => ?_, fun h0 => ?_⟩, hc⟩
    · obtain ⟨vs, hv⟩ := h3 p hp
      exact (flat_pr.see.1 hv).2
    · obtain ⟨b, off, e, hi⟩ := h4 h0
      refine ⟨b, off, e, fun i hl => ?_⟩
      obtain ⟨vs, hs, hcl⟩ := hi i hl
      obtain ⟨rfl, _⟩ := flat_pr.see.1 hs
      exact ⟨hcl 0 _ rfl, hcl 1 _ rfl⟩
  · rintro ⟨⟨h1, h2, h3, h4⟩, hc⟩
    refine ⟨a, n, cap, rfl, hc, h1, h2, fun p hp => ⟨_, flat_pr.see.2 ⟨rfl, h3 p hp⟩⟩, fun h0 => ?_⟩
    obtain ⟨b, off, e, hi⟩ := h4 h0
    refine ⟨b, off, e, fun i hl => ⟨_, flat_pr.see.2 ⟨rfl, h3 _ (List.getElem_mem hl)⟩, fun j u hu => ?_⟩⟩
    obtain ⟨c0, c1⟩ := hi i hl
    match j, hu with
    | 0, hu => cases hu; exact c0
    | 1, hu => cases hu; exact c1
theorem slg_some {α : Type} {R : Rd α} {len : Nat} {l : List α} (h : SlG R w a len l) (h0 : 0 < len) : ∃ b off, a = some ⟨b, off, none⟩ := by
  obtain ⟨b, off, e, _⟩ := h.2.2.2 h0
  exact ⟨b, off, e⟩
theorem table_at {b off len : Nat} {l : List (List Pr)} (h : SlG tableR w (some ⟨b, off, none⟩) len l) (i : Nat) (hi : i < l.length) : ∃ ra rn rc, w.cell? ⟨b, off + i, none⟩ = some (.slice ra rn rc) ∧ SlP w ra rn l[i] ∧ rn ≤ rc := by
  obtain ⟨b', off', e, hc⟩ := h.2.2.2 (by have := h.1; omega)
  simp only [Option.some.injEq, Addr.mk.injEq, and_true] at e
  obtain ⟨rfl, rfl⟩ := e
  obtain ⟨vs, hs, hcl⟩ := hc i hi
  obtain ⟨ra, rn, rc, rfl, _⟩ := id hs
  have h5 := table_see.1 hs
  have c0 := hcl 0 _ rfl
  rw [show off + i * tableR.size + 0 = off + i by show off + i * 1 + 0 = off + i; omega] at c0
  exact ⟨ra, rn, rc, c0, h5.1, h5.2⟩
theorem table_shape {l : List Pr} (h : tableR.own w vs l F) : ∃ ra rn rc, vs = [.slice ra rn rc] := by
  obtain ⟨ra, rn, rc, e, _⟩ := tableR.ownSee h
  exact ⟨ra, rn, rc, e⟩
end
end Go.Proofs.YteammdkipnfmnaaDoor.tabs

namespace Go.Proofs.YteammdkipnfmnaaDoor.cos
open Go Go.RowKit Go.Proofs.YteammdkipnfmnaaDoor.base Go.Proofs.YteammdkipnfmnaaDoor.lay
set_option linter.unusedVariables false
set_option linter.unusedSimpArgs false

section
variable {α : Type} {R : Rd α} {enc : α → List Value} {ok : α → Prop} {w : World} {l : List α}
theorem Flat.cells (hR : Flat R enc ok) {b off n : Nat} (h : SlG R w (some ⟨b, off, none⟩) n l) : ∀ j u, (l.flatMap enc)[j]? = some u → w.cell? ((⟨b, off, none⟩ : Addr).add j) = some u := by
  intro j u hj
  have hp : ∀ p ∈ l.map (fun x => (enc x, ([] : List Nat))), p.1.length = R.size := fun p hp => by
    obtain ⟨x, hx, rfl⟩ := List.mem_map.1 hp
    obtain ⟨vs, hv⟩ := h.2.2.1 x hx
    have := R.seeLen hv
    rwa [(hR.see.1 hv).1] at this
  have e1 : cellsOf (l.map (fun x => (enc x, ([] : List Nat)))) = l.flatMap enc := by unfold cellsOf; rw [List.flatMap_map]
  have hjl := (List.getElem?_eq_some_iff.1 hj).1
  rw [← e1, cellsOf_length hp, List.length_map] at hjl
  have hn0 : 0 < R.size := by
    rcases Nat.eq_zero_or_pos R.size with e | e
    · rw [e] at hjl; omega
    · exact e
  have hm := Nat.mod_lt j hn0
  have hjd : j / R.size < l.length := Nat.div_lt_of_lt_mul (by rw [Nat.mul_comm]; exact hjl)
  have e : j = j / R.size * R.size + j % R.size := by rw [Nat.mul_comm]; have := Nat.div_add_mod j R.size; omega
  rw [← e1] at hj
  obtain ⟨d, m, hd, hm2, hjm⟩ : ∃ d m, d < l.length ∧ m < R.size ∧ j = d * R.size + m := ⟨_, _, hjd, hm, e⟩
  clear e hm hjd hjl
  subst hjm
  rw [cellsOf_get hp d (by simpa using hd) m hm2] at hj
  simp only [List.getElem_map] at hj
  obtain ⟨b', off', e2, hc⟩ := h.2.2.2 (by have := h.1; omega)
  simp only [Option.some.injEq, Addr.mk.injEq, and_true] at e2
  obtain ⟨rfl, rfl⟩ := e2
  obtain ⟨vs, hs, hcl⟩ := hc d hd
  rw [(hR.see.1 hs).1] at hcl
  have := hcl _ _ hj
  rw [Addr.add_lit, ← Nat.add_assoc]
  exact this
theorem Flat.len (hR : Flat R enc ok) {a : Option Addr} {n : Nat} (h : SlG R w a n l) : (l.flatMap enc).length = n * R.size := by
  have hp : ∀ p ∈ l.map (fun x => (enc x, ([] : List Nat))), p.1.length = R.size := fun p hp => by
    obtain ⟨x, hx, rfl⟩ := List.mem_map.1 hp
    obtain ⟨vs, hv⟩ := h.2.2.1 x hx
    have := R.seeLen hv
    rwa [(hR.see.1 hv).1] at this
  have e1 : cellsOf (l.map (fun x => (enc x, ([] : List Nat)))) = l.flatMap enc := by unfold cellsOf; rw [List.flatMap_map]
  rw [← e1, cellsOf_length hp, List.length_map, h.1]
theorem Flat.oks (hR : Flat R enc ok) {a : Option Addr} {n : Nat} (h : SlG R w a n l) : ∀ x ∈ l, ok x := fun x hx => by
  obtain ⟨vs, hv⟩ := h.2.2.1 x hx
  exact (hR.see.1 hv).2
theorem Flat.copyRun {P : Program} (hR : Flat R enc ok) (h1 : ∀ x, ∀ u ∈ enc x, u.oneCell' = true) (hsz : 0 < R.size) {t e : TypeId} {z : Value} {bytes : Nat} (ht : P.underlying t = some (.slice e)) (hinfo : (P.info? e).map (fun i => (i.zero, i.size, i.bytes)) = some (some z, R.size, bytes)) (hzs : z.cells.size = R.size)
    (hnone : ∀ (w : World) (g c : Nat) (ty : TypeId), (Builtin.append_ #[t, t] ty #[.slice (some ⟨g, 0, none⟩) 0 0, .slice none 0 c]).run P w = .ok (.slice (some ⟨g, 0, none⟩) 0 0) w)
    (g : Nat) (a : Option Addr) (n c : Nat) (hg : w.ownsRow 0 e R.size (.slice (some ⟨g, 0, none⟩) 0 0) 0 []) (h : SlG R w a n l) (hb : n * bytes ≤ 140737488355328) (ty : TypeId) :
    ∃ g' cap' w', (Builtin.append_ #[t, t] ty #[.slice (some ⟨g, 0, none⟩) 0 0, .slice a n c]).run P w = .ok (.slice (some ⟨g', 0, none⟩) n cap') w' ∧ OwnG e R w' (.slice (some ⟨g', 0, none⟩) n cap') l (l.map fun x => (enc x, [])) ∧ w.grownBy w' (some g) ∧ (g' = g ∨ w.heap.size ≤ g') := by
  have hoks := hR.oks h
  have hlen := hR.len h
  have hl := h.1
  obtain ⟨i, hi, hz0, hz1, hz2⟩ := info_parts hinfo
  cases a with
  | none =>
    have hn0 : n = 0 := by
      rcases Nat.eq_zero_or_pos n with e | e
      · exact e
      · obtain ⟨b, off, e2, _⟩ := h.2.2.2 e; cases e2
    subst hn0
    have : l = [] := List.eq_nil_of_length_eq_zero hl
    subst this
    exact ⟨g, 0, w, hnone w g c ty, hR.made hg (fun x hx => absurd hx List.not_mem_nil), World.grownBy.refl _ _, .inl rfl⟩
  | some ad =>
    obtain ⟨v', w', hr, h2, h3, h4, h5⟩ := run_append_own_at (P := P) w 0 t ty e i z R.size bytes ht hi hz0 hz1 hz2 hzs hsz (.slice (some ⟨g, 0, none⟩) 0 0) 0 [] hg ad n c (l.flatMap enc) hlen (fun j u hj => by
      rcases Nat.eq_zero_or_pos n with e0 | e0
      · have : l = [] := List.eq_nil_of_length_eq_zero (by omega)
        subst this
        simp at hj
      · obtain ⟨b, off, e2, _⟩ := h.2.2.2 e0
        cases e2
        exact hR.cells h j u hj) (fun u hu => by
      obtain ⟨x, _, hx⟩ := List.mem_flatMap.1 hu
      exact h1 x u hx) (by have := h.2.1; omega) (by rw [Nat.zero_add]; exact hb) (Nat.zero_le _)
    rw [Nat.zero_add, List.nil_append] at h2
    rcases h2.2 with ⟨e2, _⟩ | ⟨g', cap', cur, e2, _⟩
    · exact absurd (h4.1 e2).1 (by simp)
    · subst e2
      refine ⟨g', cap', w', hr, hR.made (by rw [hl]; exact h2) hoks, h3, ?_⟩
      rcases h5 with h5 | h5
      · left; simpa [Value.ownBlock] using h5
      · right
        have : g' = w.heap.size := by simpa [Value.ownBlock] using h5
        omega
end
theorem OwnG.appRun {α : Type} {R : Rd α} {P : Program} {V : World} {t ty : TypeId} {z : Value} {bytes : Nat} (ht : P.underlying t = some (.slice ty)) (hinfo : (P.info? ty).map (fun i => (i.zero, i.size, i.bytes)) = some (some z, R.size, bytes)) (hzs : z.cells.size = R.size) (hsz : 0 < R.size)
    {v : Value} {l : List α} {q : Parts} {us : List Value} {x : α} {F : List Nat} (h : OwnG ty R V v l q) (hx : R.own V us x F) (hd : ∀ k ∈ F, k ∉ v.ownBlock.toList ++ blocksOf q) {X : Nat} {T : TypeId} (hX : BoxIn X T [] us [] V) (hm : l.length + 1 ≤ maxLen) (hb : (l.length + 1) * bytes ≤ 140737488355328) (tyo : TypeId) :
    ∃ g cap w', (Builtin.append_ #[t, t] tyo #[v, .slice (some ⟨X, 0, none⟩) 1 1]).run P V = .ok (.slice (some ⟨g, 0, none⟩) (l.length + 1) cap) w' ∧ OwnG ty R w' (.slice (some ⟨g, 0, none⟩) (l.length + 1) cap) (l ++ [x]) (q ++ [(us, F)]) ∧ V.grownBy w' v.ownBlock ∧ (v.ownBlock = some g ∨ g = V.heap.size) := by
  obtain ⟨i, hi, hz0, hz1, hz2⟩ := info_parts hinfo
  obtain ⟨g, cap, w', h1, h2, h3, h4, h5⟩ := run_append_lies (P := P) V t tyo 0 ty i z R.size bytes ht hi hz0 hz1 hz2 hzs hsz v l.length (cellsOf q) h.row ⟨X, 0, none⟩ 1 1 us (by rw [R.ownLen hx, Nat.one_mul]) (fun j u hj => by
    have := hX.cell j u hj
    rw [Addr.add_lit, Nat.zero_add]
    simpa using this) (R.ownOne hx) (by omega) hm hb (Nat.zero_le _) V.heap.size rfl
  exact ⟨g, cap, w', h1, OwnG.snoc h hx hd h2 h3 h4 rfl, h3, h4⟩
theorem wp_append_run {P : Program} {w w' : World} {o : Oper} {a : Act} {K : Act → World → Prop} {Q : Exit → Act → World → Prop} (s x : Operand) (t : TypeId) (ho : o.op = .call { callee := .builtin .append, args := #[s, x], argTypes := #[t, t] }) {v1 v2 v' : Value} (hs : a.eval s = v1) (hx : a.eval x = v2)
    (hr : (Builtin.append_ #[t, t] o.type #[v1, v2]).run P w = .ok v' w') (h : K (a.put o.dst v') w') : o.wp P a w K Q := by
  unfold Oper.wp execOp
  simp only [ho, resolve, invoke, builtin, Sem.run_bind, Sem.run_pure, Result.andThen_ok, List.map_toArray, List.map_cons, List.map_nil, hs, hx, hr]
  exact h
theorem step_append_run {P : Program} {ops : Array Oper} {o : Oper} {a : Act} {w w' : World} {K : Act → World → Prop} {Q : Exit → Act → World → Prop} {E : Prop} (hgd : o.guard = none) (s x : Operand) (t : TypeId)
    (ho : o.op = .call { callee := .builtin .append, args := #[s, x], argTypes := #[t, t] }) {v1 v2 v' : Value} (hs : a.eval s = v1) (hx : a.eval x = v2) (hr : (Builtin.append_ #[t, t] o.type #[v1, v2]).run P w = .ok v' w') (h : K (a.put o.dst v') w') :
    if Region.wanted o (yielded ops a.tmps) = true then Oper.wp P o a w K Q else E := by
  have hw : Region.wanted o (yielded ops a.tmps) = true := by simp [Region.wanted, hgd]
  rw [if_pos hw]
  exact wp_append_run s x t ho hs hx hr h
end Go.Proofs.YteammdkipnfmnaaDoor.cos

namespace Go.Proofs.YteammdkipnfmnaaDoor.lay
open Go Go.RowKit
def RetV {α : Type} (R : Rd α) (w : World) (x : α) (e : Ending) (w' : World) : Prop := ∃ v F, e = .returned v ∧ R.own w' [v] x F ∧ (∀ k ∈ F, w.heap.size ≤ k) ∧ Below w.heap.size w w'
theorem slice_shape {α : Type} {ty : TypeId} {R : Rd α} {w : World} {v : Value} {l : List α} {F : List Nat} (h : (lay.slice ty R).own w [v] l F) : ∃ a n c, v = .slice a n c := by
  obtain ⟨v', q, e, _, h⟩ := h
  cases e
  rcases h.shape with ⟨e, _⟩ | ⟨g, c, e, _⟩
  · exact ⟨_, _, _, e⟩
  · exact ⟨_, _, _, e⟩
end Go.Proofs.YteammdkipnfmnaaDoor.lay
