/- What has been decided stays so. -/
import Derived.Test.YtggdgceglmbaiaaGreatDoorImDe
namespace Go.Proofs.YtggdgceglmbaiaaGreatDoor.recs
open Go Go.RowKit Go.Proofs.YtggdgceglmbaiaaGreatDoor.base Go.Proofs.YtggdgceglmbaiaaGreatDoor.pairs Go.Proofs.YtggdgceglmbaiaaGreatDoor.ords
set_option linter.unusedVariables false
set_option linter.unusedSimpArgs false
theorem decide_tx {s : Shd} {tx : Int} {yes : Bool} (h : (decideR s tx yes).2 = true) : Right s ∧ txOk tx = true := by
  unfold decideR at h
  split at h
  · next e =>
    refine ⟨(shardOk_iff s).1 e, ?_⟩
    cases ht : txOk tx with
    | true => rfl
    | false => unfold decideS at h; rw [if_pos ht] at h; cases h
  · cases h
/-- refused: the log is as it was -/
theorem decide_no {s : Shd} {tx : Int} {yes : Bool} (h : (decideR s tx yes).2 = false) : (decideR s tx yes).1 = s := by
  unfold decideR at h ⊢
  split
  · next e =>
    rw [if_pos e] at h
    rcases decideS_cases s tx yes with e1 | ⟨e1, _⟩ | ⟨e1, _⟩
    · exact e1
    · rw [e1] at h; cases h
    · rw [e1] at h; cases h
  · rfl
theorem decide_right {s : Shd} {tx : Int} {yes : Bool} (hs : Right s → Snug s.2.1) (h : (decideR s tx yes).2 = true) : Right (decideR s tx yes).1 := by
  have hR := (decide_tx h).1
  unfold decideR
  rw [if_pos ((shardOk_iff s).2 hR)]
  exact right_decide hR (hs hR)
theorem decide_last {s : Shd} {tx : Int} {yes : Bool} (h : (decideR s tx yes).2 = true) : lastKind tx (decideR s tx yes).1.2.1 = if yes = true then 2 else 3 := by
  obtain ⟨hR, ht⟩ := decide_tx h
  rw [decide_of yes hR ht] at h ⊢
  rcases four hR tx with e | e | e | e
  · rw [e] at h ⊢
    by_cases hy : yes = true ∨ 300 ≤ s.2.1.length + s.2.2.2.2.length
    · simp [hy] at h
    · have hy1 : yes = false := by cases yes; rfl; exact absurd (.inl rfl) hy
      subst hy1
      simp only [show ((0 : Int) = 1) = False by simp, show ((0 : Int) = 2) = False by simp, show ((0 : Int) = 3) = False by simp, if_false, if_neg hy]
      show lastKind tx (s.2.1 ++ [((3 : Int), tx, [])]) = _
      rw [lastKind_snoc, if_pos rfl]; rfl
  · rw [e]
    simp only [if_true]
    show lastKind tx (s.2.1 ++ [((if yes = true then 2 else 3 : Int), tx, [])]) = _
    rw [lastKind_snoc, if_pos rfl]
  · rw [e] at h ⊢
    cases yes
    · cases h
    · exact e
  · rw [e] at h ⊢
    cases yes
    · exact e
    · cases h
theorem decide_again {s : Shd} {tx : Int} {yes : Bool} (hs : Right s → Snug s.2.1) (h : (decideR s tx yes).2 = true) : (decideR (decideR s tx yes).1 tx yes).2 = true ∧ (decideR (decideR s tx yes).1 tx (!yes)).2 = false ∧ outcR (decideR s tx yes).1 tx = if yes = true then 3 else 4 := by
  have hX := decide_right hs h
  have hl := decide_last h
  have ht := (decide_tx h).2
  generalize (decideR s tx yes).1 = x at *
  refine ⟨?_, ?_, ?_⟩
  · rw [decide_of yes hX ht, hl]; cases yes <;> rfl
  · rw [decide_of (!yes) hX ht, hl]; cases yes <;> rfl
  · unfold outcR; rw [if_pos ((shardOk_iff x).2 hX), outc_stand hX, hl]; cases yes <;> rfl
/-- yes, where it is held -/
theorem decide_held {s : Shd} {tx : Int} (h : (decideR s tx true).2 = true) (k : Nat) (hk : k < s.2.2.2.2.length) (hkt : s.2.2.2.2[k].2.1 = tx) (hnd : (s.2.2.2.2.map fun r => r.2.1).Nodup) : (decideR s tx true).1.2.2.2.1 = applyAll s.2.2.2.1 s.2.2.2.2[k].2.2 ∧ (decideR s tx true).1.2.2.2.2.length + 1 = s.2.2.2.2.length := by
  obtain ⟨hR, ht⟩ := decide_tx h
  obtain ⟨seen, hm⟩ := hR.made
  have h1 : lastKind tx s.2.1 = 1 := ((stood_replay hm).held tx).1 ⟨_, List.getElem_mem hk, hkt⟩
  obtain ⟨j, hpj⟩ := outc_held hR (by rw [outc_stand hR, h1]; rfl : outc s tx = 1)
  obtain ⟨hj, hjt⟩ := placeTx_some hpj
  have hjk : j = k := by
    have := (List.getElem_inj (h₀ := by simpa using hj) (h₁ := by simpa using hk) hnd).1 (by simp [hjt, hkt])
    exact this
  subst hjk
  rw [decide_of true hR ht, h1]
  simp only [if_true]
  unfold written forced
  rw [if_neg (by simp)]
  simp only [hpj]
  unfold nextM
  simp only [if_pos]
  rw [opsAt_eq hk]
  refine ⟨rfl, ?_⟩
  simp
  omega
/-- otherwise the pairs are as they were -/
theorem decide_else {s : Shd} {tx : Int} {yes : Bool} (h : yes = false ∨ ∀ r ∈ s.2.2.2.2, r.2.1 ≠ tx) : (decideR s tx yes).1.2.2.2.1 = s.2.2.2.1 := by
  unfold decideR
  split
  · rcases decideS_cases s tx yes with e1 | ⟨e1, _, ho⟩ | ⟨e1, _⟩
    · rw [e1]
    · rw [e1]
      unfold written forced
      rcases h with rfl | h
      · simp only [Bool.false_eq_true, if_false]
        rw [if_neg (by simp)]
        split
        · rfl
        · simp [nextM]
      · have hp := placeTx_no h
        cases yes <;> simp [hp]
    · rw [e1]
      unfold written forced
      rw [if_neg (by simp)]
      split
      · rfl
      · simp [nextM]
  · rfl
theorem OwnPV.hma {w : World} {a : Option Addr} {n c : Nat} {l : List Pr} (h : OwnPV w a n c l) : (a = none ∧ c = 0) ∨ ∃ b o, a = some ⟨b, o, none⟩ := by
  rcases h.2.2.2 with ⟨e, _⟩ | ⟨g, cap, cur, e, _⟩
  · cases e; exact .inl ⟨rfl, rfl⟩
  · cases e; exact .inr ⟨_, _, rfl⟩
end Go.Proofs.YtggdgceglmbaiaaGreatDoor.recs
