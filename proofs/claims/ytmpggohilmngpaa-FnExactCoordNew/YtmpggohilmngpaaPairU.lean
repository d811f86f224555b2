/- The specification's putting of keys. -/
import Derived.Test.YtmpggohilmngpaaPairT
namespace Go.Proofs.Ytmpggohilmngpaa.pairs
open Go Go.RowKit Go.Proofs.Ytmpggohilmngpaa.base
set_option linter.unusedVariables false
set_option linter.unusedSimpArgs false

theorem getKey_none {key : ByteArray} {l : List Pr} (h : getKey key l = none) (k : Nat) (hk : k < l.length) : l[k].1 ≠ key := by
  intro e
  have h2 := getKey_append key (l.take k) (l.drop k)
  rw [List.take_append_drop, h, getKey_drop key l k hk, if_pos e] at h2
  cases h3 : getKey key (l.take k) <;> rw [h3] at h2 <;> cases h2
theorem put_found {key val : ByteArray} {l : List Pr} (k : Nat) (hk : k < l.length) (he : l[k].1 = key) (hn : getKey key (l.take k) = none) : putKey key val l = l.set k (l[k].1, val) := by
  have h2 := getKey_append key (l.take k) (l.drop k)
  rw [List.take_append_drop, hn, getKey_drop key l k hk, if_pos he] at h2
  unfold putKey
  rw [h2, if_pos (by rfl), setFirst_at key val l k hk he hn, he]
theorem put_new {key val : ByteArray} {l : List Pr} (hn : getKey key l = none) : putKey key val l = l.take (below key l) ++ (key, val) :: l.drop (below key l) := by
  unfold putKey; rw [hn]; rfl
theorem take_none (key : ByteArray) (l : List Pr) (k : Nat) (hk : k < l.length) (hn : getKey key (l.take k) = none) (he : l[k].1 ≠ key) : getKey key (l.take (k + 1)) = none := by
  rw [take_snocP l k hk]; exact getKey_snoc_none key _ _ hn he
theorem put_small {key val : ByteArray} {l : List Pr} (h : ∀ p ∈ l, small p) (hk : key.size ≤ maxLen) (hv : val.size ≤ maxLen) : ∀ p ∈ putKey key val l, small p := by
  unfold putKey
  split
  · intro p hp
    have : ∀ l : List Pr, (∀ p ∈ l, small p) → ∀ p ∈ setFirst key val l, small p := by
      intro l
      induction l with
      | nil => intro _ p hp; exact absurd hp List.not_mem_nil
      | cons q l ih =>
        intro hl p hp
        unfold setFirst at hp
        split at hp
        · rcases List.mem_cons.1 hp with h1 | h1
          · subst h1; exact ⟨(hl q List.mem_cons_self).1, hv⟩
          · exact hl p (List.mem_cons_of_mem _ h1)
        · rcases List.mem_cons.1 hp with h1 | h1
          · subst h1; exact hl _ List.mem_cons_self
          · exact ih (fun r hr => hl r (List.mem_cons_of_mem _ hr)) p h1
    exact this l h p hp
  · intro p hp
    rcases List.mem_append.1 hp with h1 | h1
    · exact h p (List.mem_of_mem_take h1)
    · rcases List.mem_cons.1 h1 with h2 | h2
      · subst h2; exact ⟨hk, hv⟩
      · exact h p (List.mem_of_mem_drop h2)
theorem less_flip {a b : ByteArray} (h : a ≠ b) : Op.bytesLess a.toList b.toList = !Op.bytesLess b.toList a.toList := by
  cases h1 : Op.bytesLess b.toList a.toList
  · cases h2 : Op.bytesLess a.toList b.toList
    · exact absurd (ltB_total (a := a) (b := b) h2 h1) h
    · rfl
  · exact ltB_asymm (a := b) (b := a) h1
theorem cellsP_drop {w : World} {b off : Nat} {l : List Pr} (h : CellsP w b off l) (k : Nat) : CellsP w b (off + k * 2) (l.drop k) := by
  intro i hi
  have hki : k + i < l.length := by simp at hi; omega
  have := h (k + i) hki
  rw [List.getElem_drop, show off + k * 2 + i * 2 = off + (k + i) * 2 by omega]
  exact this
theorem cellsP_take {w : World} {b off : Nat} {l : List Pr} (h : CellsP w b off l) (k : Nat) : CellsP w b off (l.take k) := by
  intro i hi
  rw [List.getElem_take]
  exact h i (by simp at hi; omega)


end Go.Proofs.Ytmpggohilmngpaa.pairs
