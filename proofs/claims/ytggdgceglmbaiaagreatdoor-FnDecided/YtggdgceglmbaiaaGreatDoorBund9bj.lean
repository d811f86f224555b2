/- Shards: what became of a transaction stays so. Plain mathematics. -/
import Derived.Test.YtggdgceglmbaiaaGreatDoorBund9bb
namespace Go.Proofs.YtggdgceglmbaiaaGreatDoor.recs
open Go Go.RowKit Go.Proofs.YtggdgceglmbaiaaGreatDoor.base Go.Proofs.YtggdgceglmbaiaaGreatDoor.pairs Go.Proofs.YtggdgceglmbaiaaGreatDoor.ords
set_option linter.unusedVariables false

theorem lastKind_from (tx : Int) : ∀ (l : List Rc) (k : Int), (∀ r ∈ l, r.2.1 ≠ tx) → l.foldl (fun k r => if r.2.1 = tx then r.1 else k) k = k
  | [], _, _ => rfl
  | r :: l, k, h => by
    rw [List.foldl_cons, if_neg (h r List.mem_cons_self)]
    exact lastKind_from tx l k fun x hx => h x (List.mem_cons_of_mem _ hx)
theorem lastKind_none {tx : Int} {l : List Rc} (h : ∀ r ∈ l, r.2.1 ≠ tx) : lastKind tx l = 0 := lastKind_from tx l 0 h
/-- what was done or let go is the last that is told of it -/
def Ended (l : List Rc) : Prop := ∀ r ∈ l, r.1 = 2 ∨ r.1 = 3 → lastKind r.2.1 l = r.1
theorem ended_step {l : List Rc} {s t : St} {x : Rc} (hS : Stood l s) (h : Ended l) (ho : one s x = some t) : Ended (l ++ [x]) := by
  intro r hr h1
  rw [lastKind_snoc]
  rcases List.mem_append.1 hr with e | e
  · have hk := h r e h1
    split
    · next ex =>
      exfalso
      have hseen : x.2.1 ∈ s.2.2 := by
        rw [ex]
        exact (hS.seen r.2.1).2 (by omega)
      have hnh : placeTx x.2.1 s.2.1 = none := by
        rw [ex]
        refine placeTx_no fun y hy e2 => ?_
        have := (hS.held r.2.1).1 ⟨y, hy, e2⟩
        omega
      unfold one at ho
      split at ho
      · split at ho
        · split at ho
          · cases ho
          · next hn => exact hn (.inl (by simpa using hseen))
        · split at ho
          · split at ho
            · next h3 => exact h3.2 hseen
            · cases ho
          · next k hp => rw [hnh] at hp; cases hp
      · cases ho
    · exact hk
  · rw [List.mem_singleton.1 e, if_pos rfl]
theorem ended_go : ∀ (l pre : List Rc) (s t : St), Stood pre s → Ended pre → replayGo s l = some t → Ended (pre ++ l)
  | [], pre, s, t, _, h, e => by simpa using h
  | r :: l, pre, s, t, hS, h, e => by
    rw [replayGo] at e
    split at e
    · cases e
    · next u hu =>
      have := ended_go l (pre ++ [r]) u t (stood_step hS hu) (ended_step hS h hu) e
      simpa using this
theorem Right.ended {s : Shd} (h : Right s) : Ended s.2.1 := by
  obtain ⟨seen, hm⟩ := h.made
  have := ended_go s.2.1 [] _ _ stood_start (fun r hr => absurd hr List.not_mem_nil) hm
  simpa using this
theorem outc_end {s : Shd} (h : Right s) {r : Rc} (hr : r ∈ s.2.1) : (r.1 = 2 → outc s r.2.1 = 3) ∧ (r.1 = 3 → outc s r.2.1 = 4) := by
  refine ⟨fun e => ?_, fun e => ?_⟩
  · rw [outc_stand h, h.ended r hr (.inl e), e]; rfl
  · rw [outc_stand h, h.ended r hr (.inr e), e]; rfl
theorem outc_in {s : Shd} (h : Right s) {r : Rc} (hr : r ∈ s.2.2.2.2) : outc s r.2.1 = 1 := by
  unfold outc
  rw [if_pos (placeTx_isSome.2 ⟨r, hr, rfl⟩)]
theorem outc_out {s : Shd} (h : Right s) {tx : Int} (ht : ∀ r ∈ s.2.1, r.2.1 ≠ tx) : outc s tx = 2 := by
  rw [outc_stand h, lastKind_none ht]; rfl
end Go.Proofs.YtggdgceglmbaiaaGreatDoor.recs
