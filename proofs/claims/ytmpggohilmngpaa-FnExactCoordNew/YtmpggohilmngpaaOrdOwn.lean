/- Orders of the call's own, or nil. No function of the program is named here. -/
import Derived.Test.YtmpggohilmngpaaOrdRow
namespace Go.Proofs.Ytmpggohilmngpaa.wds
open Go Go.RowKit Go.Proofs.Ytmpggohilmngpaa.base Go.Proofs.Ytmpggohilmngpaa.pairs Go.Proofs.Ytmpggohilmngpaa.ords
set_option linter.unusedVariables false
set_option linter.unusedSimpArgs false

/-! ### a slice of orders of the call's own, or nil -/
def OwnV (w : World) (base : Nat) (v : Value) (l : List Od) : Prop := (∀ p ∈ l, smallO p) ∧ w.ownsRow base 48 3 v l.length (ordVals l)
section
variable {w w' : World} {base base' : Nat} {v : Value} {l : List Od} {row : Option Nat}
theorem ownV_nil (w : World) (base : Nat) : OwnV w base (.slice none 0 0) [] := ⟨fun _ h => absurd h List.not_mem_nil, World.ownsRow_nil _ _ _ _⟩
theorem ownV_of {g n cap : Nat} (h : OwnO w base g n cap l) : OwnV w base (.slice (some ⟨g, 0, none⟩) n cap) l := ⟨h.2.1, by rw [h.1]; exact h.2.2⟩
theorem OwnV.shape (h : OwnV w base v l) : (v = .slice none 0 0 ∧ l = []) ∨ ∃ g cap, v = .slice (some ⟨g, 0, none⟩) l.length cap ∧ OwnO w base g l.length cap l := by
  rcases h.2.2 with ⟨rfl, h0⟩ | ⟨g, cap, cur, rfl, _⟩
  · exact .inl ⟨rfl, List.eq_nil_of_length_eq_zero h0⟩
  · exact .inr ⟨g, cap, rfl, rfl, h.1, h.2⟩
theorem OwnV.lt (h : OwnV w base v l) (k : Nat) (hk : v.ownBlock = some k) : base ≤ k ∧ k < w.heap.size := h.2.lt k hk
theorem OwnV.of_block (h : OwnV w base v l) (hk : ∀ k, v.ownBlock = some k → w'.heap[k]? = w.heap[k]?) : OwnV w' base v l := by
  refine ⟨h.1, h.2.1, ?_⟩
  rcases h.2.2 with h' | ⟨g, cap, cur, rfl, h0, hg, r⟩
  · exact .inl h'
  · exact .inr ⟨g, cap, cur, rfl, h0, (hk g rfl).trans hg, r⟩
theorem OwnV.below (h : OwnV w base v l) (hb : Below w.heap.size w w') : OwnV w' base v l := h.of_block fun k hk => hb.block k (h.lt k hk).2
theorem OwnV.grown (h : OwnV w base v l) (hg : w.grownBy w' row) (hne : v.ownBlock = none ∨ v.ownBlock ≠ row) : OwnV w' base v l :=
  h.of_block fun k hk => hg.block k (h.lt k hk).2 (fun e => by
    rcases hne with h1 | h1
    · rw [hk] at h1; cases h1
    · exact h1 (hk.trans e))
theorem OwnV.mono (h : OwnV w base v l) (hb : base' ≤ base) : OwnV w base' v l := by
  refine ⟨h.1, h.2.1, ?_⟩
  rcases h.2.2 with h' | ⟨g, cap, cur, rfl, h0, r⟩
  · exact .inl h'
  · exact .inr ⟨g, cap, cur, rfl, by omega, r⟩
theorem OwnV.sl (h : OwnV w base v l) : ∃ a cap, v = .slice a l.length cap ∧ SlO w a l.length l ∧ l.length ≤ cap := by
  rcases h.shape with ⟨rfl, rfl⟩ | ⟨g, cap, rfl, hO⟩
  · exact ⟨none, 0, rfl, slo_nil _ _, Nat.le_refl _⟩
  · exact ⟨_, cap, rfl, hO.sl, hO.cases.1⟩
theorem OwnV.one (h : OwnV w base v l) : v.oneCell' = true := by
  rcases h.shape with ⟨rfl, _⟩ | ⟨g, cap, rfl, _⟩ <;> rfl
end

end Go.Proofs.Ytmpggohilmngpaa.wds
