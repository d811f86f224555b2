/- Shards: what is right is no greater than the laws take. Plain mathematics. -/
import Derived.Test.YtggdgceglmbaiaaGreatDoorBund9ay
import Derived.Test.YtggdgceglmbaiaaGreatDoorBund9bb
namespace Go.Proofs.YtggdgceglmbaiaaGreatDoor.recs
open Go Go.RowKit Go.Proofs.YtggdgceglmbaiaaGreatDoor.base Go.Proofs.YtggdgceglmbaiaaGreatDoor.pairs Go.Proofs.YtggdgceglmbaiaaGreatDoor.ords Go.Proofs.YtggdgceglmbaiaaGreatDoor.helps Go.Proofs.YtggdgceglmbaiaaGreatDoor.help Go.Proofs.YtggdgceglmbaiaaGreatDoor.lay
set_option linter.unusedVariables false
set_option linter.unusedSimpArgs false

theorem ok_eight {r : Rc} (h : recOk r = true) : r.2.2.length ≤ 8 ∧ ∀ p ∈ r.2.2, p.2.1.size ≤ 1099511627776 := by
  rcases ((recOk_iff r).1 h).2 with ⟨_, h2⟩ | ⟨_, h2⟩
  · refine ⟨((opsOk_iff _).1 h2).2.2, fun p hp => ?_⟩
    have h3 := ((opsOk_iff _).1 h2).1.1 p hp
    have h5 := keyOk_size ((odOk_iff p).1 h3).2.2.1
    omega
  · rw [h2]; exact ⟨by simp, fun p hp => absurd hp List.not_mem_nil⟩
theorem cntR_26 {l : List Rc} (h : ∀ r ∈ l, r.2.2.length ≤ 8) : cntR l ≤ 26 * l.length := by
  induction l with
  | nil => simp [cntR]
  | cons r l ih =>
    have h1 := h r List.mem_cons_self
    have h2 := ih (fun x hx => h x (List.mem_cons_of_mem _ hx))
    unfold cntR at h2 ⊢
    simp only [List.map_cons, List.sum_cons, List.length_cons]
    omega
theorem few_ok {l : List Rc} (h : ∀ r ∈ l, recOk r = true) : Few l := fun r hr => ⟨by have := (ok_eight (h r hr)).1; omega, (ok_eight (h r hr)).2⟩
theorem right_bd {s : Shd} (h : Right s) : Bound s := by
  have h1 := h.room
  obtain ⟨seen, hm⟩ := h.made
  have h2 := ((pairsOk_iff _).1 (replay_ok hm).1).2
  have h3 := cntR_26 (fun r hr => (ok_eight (h.recOk r hr)).1)
  have h4 := cntR_26 (l := s.2.2.2.2) (fun r hr => (ok_eight (h.recOk r (h.held_tx r hr).1)).1)
  simp only [] at h2
  refine ⟨few_ok h.recOk, few_ok (fun r hr => h.recOk r (h.held_tx r hr).1), by omega, by omega, by omega, ?_⟩
  unfold cntS
  omega
theorem crash_cnt {s : Shd} (h : Bound s) (x : Int) : cntS (crashR s x) ≤ 100000000 ∧ (crashR s x).2.1.length ≤ 100000000 ∧ (crashR s x).2.2.2.2.length ≤ 100000000 := by
  unfold crashR
  split
  · next e =>
    have h2 := right_bd (right_crash ((shardOk_iff s).1 e) x)
    have h3 := h2.cnt
    have h4 := h2.log
    have h5 := h2.held
    omega
  · have h3 := h.cnt
    have h4 := h.log
    have h5 := h.held
    omega
end Go.Proofs.YtggdgceglmbaiaaGreatDoor.recs
