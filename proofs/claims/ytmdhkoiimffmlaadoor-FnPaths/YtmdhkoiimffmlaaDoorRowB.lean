/- Rows of truths that a call makes. -/
import Derived.Test.YtmdhkoiimffmlaaDoorApp
import Derived.Deep.RegionHeldLaw
namespace Go.Proofs.YtmdhkoiimffmlaaDoor.base
open Go.RowKit
set_option linter.unusedVariables false

theorem infoBool : (Tryd.prog.info? 4).map (fun i => (i.zero, i.size, i.bytes)) = some (some (.bool false), 1, 1) := by kernel_rfl
def boolVals (zs : List Bool) : List Value := zs.map fun z => .bool z
theorem boolVals_length (zs : List Bool) : (boolVals zs).length = zs.length := by simp [boolVals]
theorem boolVals_snoc (zs : List Bool) (z : Bool) : boolVals (zs ++ [z]) = boolVals zs ++ [.bool z] := by simp [boolVals]
theorem boolVals_set (zs : List Bool) (k : Nat) (z : Bool) : (boolVals zs).set k (.bool z) = boolVals (zs.set k z) := by simp [boolVals]
theorem bool_oneCell (x : Bool) : ∀ u ∈ [Value.bool x], u.oneCell' = true := by
  intro v hv; rw [List.mem_singleton.1 hv]; rfl
/-- block g is a row of truths of the call's own -/
def OwnB (w : World) (base g n cap : Nat) (zs : List Bool) : Prop := zs.length = n ∧ w.ownsRow base 4 1 (.slice (some ⟨g, 0, none⟩) n cap) n (boolVals zs)
section
variable {w w' : World} {base base' g n cap : Nat} {zs : List Bool} {row : Option Nat}
theorem OwnB.lt (h : OwnB w base g n cap zs) : base ≤ g ∧ g < w.heap.size := h.2.lt g rfl
theorem OwnB.mono (h : OwnB w base g n cap zs) (hb : base' ≤ base) : OwnB w base' g n cap zs := by
  refine ⟨h.1, h.2.1, ?_⟩
  rcases h.2.2 with h' | ⟨g', cap', cur, h', h0, r⟩
  · exact .inl h'
  · exact .inr ⟨g', cap', cur, h', by omega, r⟩
theorem OwnB.block (h : OwnB w base g n cap zs) : ∃ cur, w.heap[g]? = some (.cells cur 4 (0, 0)) := by
  rcases h.2.2 with ⟨h', _⟩ | ⟨g', cap', cur, h', _, hg, _⟩
  · simp at h'
  · simp only [Value.slice.injEq, Option.some.injEq, Addr.mk.injEq, and_true, true_and] at h'
    obtain ⟨rfl, rfl⟩ := h'
    exact ⟨cur, hg⟩
theorem OwnB.max (h : OwnB w base g n cap zs) : n ≤ cap ∧ cap ≤ maxLen := by
  rcases h.2.2 with ⟨h', _⟩ | ⟨g', cap', cur, h', _, hg, h1, h2, _⟩
  · simp at h'
  · simp only [Value.slice.injEq, Option.some.injEq, Addr.mk.injEq, and_true, true_and] at h'
    obtain ⟨rfl, rfl⟩ := h'
    exact ⟨h1, h2⟩
theorem OwnB.at (h : OwnB w base g n cap zs) (i : Nat) (hi : i < zs.length) : w.cell? ⟨g, i, none⟩ = some (.bool zs[i]) := by
  have hl := h.1
  rw [h.2.cellAt i (by omega)]
  simp [boolVals, hi]
theorem OwnB.frozen (h : OwnB w base g n cap zs) (i : Nat) : w.frozen? ⟨g, i, none⟩ = false := h.2.frozenAt i
theorem OwnB.grown (h : OwnB w base g n cap zs) (hg : w.grownBy w' row) (hne : some g ≠ row) : OwnB w' base g n cap zs := ⟨h.1, h.2.kept hg (.inr hne)⟩
theorem OwnB.below (h : OwnB w base g n cap zs) (hb : Below w.heap.size w w') : OwnB w' base g n cap zs :=
  ⟨h.1, h.2.kept (row := none) ⟨hb.os, hb.tape, hb.output, hb.size, fun k hk _ => hb.block k hk⟩ (.inr (by simp [Value.ownBlock]))⟩
theorem ownB_made (w : World) (base : Nat) (hb : base ≤ w.heap.size) : OwnB (w.alloc (.cells #[] 4)) base w.heap.size 0 0 [] :=
  ⟨rfl, World.ownsRow_made w #[] 0 hb (Nat.zero_le _) rfl⟩
theorem ownB_val {v' : Value} (hl : zs.length = n) (h0 : ¬ v' = .slice none 0 0) (h : w'.ownsRow base 4 1 v' n (boolVals zs)) :
    ∃ g' cap', v' = .slice (some ⟨g', 0, none⟩) n cap' ∧ OwnB w' base g' n cap' zs := by
  rcases h.2 with ⟨h2, _⟩ | ⟨g', cap', cur, hv, _⟩
  · exact absurd h2 h0
  · subst hv
    exact ⟨g', cap', rfl, hl, h⟩
theorem ownB_set (h : OwnB w base g n cap zs) (k : Nat) (z : Bool) :
    OwnB (w.setCell ⟨g, k, none⟩ (.bool z)) base g n cap (zs.set k z) ∧ w.grownBy (w.setCell ⟨g, k, none⟩ (.bool z)) (some g) := by
  have hs := h.2.stored k (.bool z)
  rw [boolVals_set] at hs
  exact ⟨⟨by simpa using h.1, hs.1⟩, hs.2⟩
end
end Go.Proofs.YtmdhkoiimffmlaaDoor.base
