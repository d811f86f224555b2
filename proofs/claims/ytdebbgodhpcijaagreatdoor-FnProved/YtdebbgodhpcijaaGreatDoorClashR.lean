/- Plain mathematics: how long the texts are at which two ways part. -/
import Derived.Test.YtdebbgodhpcijaaGreatDoorClashP
namespace Go.Proofs.YtdebbgodhpcijaaGreatDoor.clash
open Go Go.Proofs.YtdebbgodhpcijaaGreatDoor.base Go.Proofs.YtdebbgodhpcijaaGreatDoor.pairs Go.Proofs.YtdebbgodhpcijaaGreatDoor.tree Go.Proofs.YtdebbgodhpcijaaGreatDoor.range Go.Proofs.YtdebbgodhpcijaaGreatDoor.puttext Go.Proofs.YtdebbgodhpcijaaGreatDoor.putnum
set_option linter.unusedVariables false

theorem lim_leaf {p : Pr} (h : lim p) : (leafB p).length ≤ 137438953472 := by
  have := leafB_length p
  have := h.1
  have := h.2
  omega
theorem lastOf_mem {m : List ByteArray} (h : 1 ≤ m.length) : lastOf m ∈ m := by
  obtain ⟨q, z, rfl⟩ := snoc_of_ne (l := m) (by intro e; subst e; simp at h)
  rw [lastOf_snoc]; simp
theorem partAt_small (l : List Pr) (p : Pr) (i n : Int) (P : List ByteArray) (hp : lim p) (hP : ∀ s ∈ P, s.size ≤ 137438953472) : (partAt l p i n P).1.size ≤ 137438953600 ∧ (partAt l p i n P).2.1.size ≤ 137438953600 := by
  unfold partAt
  split
  · rename_i hc
    have hlim := ok_lim' hc.1
    split
    · exact ⟨Nat.zero_le _, Nat.zero_le _⟩
    · rename_i mine hm
      have h1 := allOf_small hm (lim_leaf hp) hP
      split
      · rename_i a b hf
        split at hf
        · rename_i hln
          obtain ⟨k, k1, k2, e1, e2⟩ := firstClash_at _ _ hf
          refine ⟨by show a.size ≤ _; rw [← e1]; exact h1.1 _ (List.getElem_mem _), ?_⟩
          show b.size ≤ _
          rw [← e2]
          have hil : i.toNat < l.length := by omega
          have ht := allOf_way (leafB l[i.toNat]) i.toNat n.toNat (path l i.toNat) (by rw [path_length, hln])
          have h2 := allOf_small ht (lim_leaf (hlim _ (List.getElem_mem hil))) (fun s hs => by rw [path_small l _ s hs]; omega)
          have e3 : (allOf (leafB ((l[i.toNat]?).getD (⟨#[]⟩, ⟨#[]⟩))) i.toNat n.toNat (path l i.toNat)).getD [] = (wayAll (leafB l[i.toNat]) i.toNat n.toNat (path l i.toNat)).map ba := by
            rw [List.getElem?_eq_getElem hil, Option.getD_some, ht, Option.getD_some]
          have hmem : ∀ (L M : List ByteArray) (e : L = M) (h : k < L.length), L[k] ∈ M := fun L M e h => by subst e; exact List.getElem_mem h
          exact h2.1 _ (hmem _ _ e3 k2)
        · cases hf
      · have := topOf_size l
        exact ⟨h1.1 _ (lastOf_mem h1.2.2), by show (topOf l).size ≤ _; omega⟩
  · exact ⟨Nat.zero_le _, Nat.zero_le _⟩
end Go.Proofs.YtdebbgodhpcijaaGreatDoor.clash
