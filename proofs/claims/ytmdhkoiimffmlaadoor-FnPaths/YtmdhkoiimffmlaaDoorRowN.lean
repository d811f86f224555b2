/- Rows of numbers that a call makes. -/
import Derived.Test.YtmdhkoiimffmlaaDoorApp
import Derived.Deep.RegionHeldLaw
namespace Go.Proofs.YtmdhkoiimffmlaaDoor.base
open Go.RowKit
set_option linter.unusedVariables false

theorem infoInt : (Tryd.prog.info? 3).map (fun i => (i.zero, i.size, i.bytes)) = some (some (.int .i64 0), 1, 8) := by kernel_rfl
def natVals (zs : List Nat) : List Value := zs.map fun (z : Nat) => .int .i64 (z : Int)
theorem natVals_length (zs : List Nat) : (natVals zs).length = zs.length := by simp [natVals]
theorem natVals_snoc (zs : List Nat) (z : Nat) : natVals (zs ++ [z]) = natVals zs ++ [.int .i64 (z : Int)] := by simp [natVals]
theorem natVals_set (zs : List Nat) (k z : Nat) : (natVals zs).set k (.int .i64 (z : Int)) = natVals (zs.set k z) := by simp [natVals]
theorem natVals_oneCell (zs : List Nat) : ∀ v ∈ natVals zs, v.oneCell' = true := by
  intro v hv; obtain ⟨_, _, rfl⟩ := List.mem_map.1 hv; rfl
/-- block g is a row of numbers of the call's own -/
def OwnN (w : World) (base g n cap : Nat) (zs : List Nat) : Prop := zs.length = n ∧ w.ownsRow base 3 1 (.slice (some ⟨g, 0, none⟩) n cap) n (natVals zs)
section
variable {w w' : World} {base base' g n cap : Nat} {zs : List Nat} {row : Option Nat}
theorem OwnN.lt (h : OwnN w base g n cap zs) : base ≤ g ∧ g < w.heap.size := h.2.lt g rfl
theorem OwnN.mono (h : OwnN w base g n cap zs) (hb : base' ≤ base) : OwnN w base' g n cap zs := by
  refine ⟨h.1, h.2.1, ?_⟩
  rcases h.2.2 with h' | ⟨g', cap', cur, h', h0, r⟩
  · exact .inl h'
  · exact .inr ⟨g', cap', cur, h', by omega, r⟩
theorem OwnN.at (h : OwnN w base g n cap zs) (i : Nat) (hi : i < n) : w.cell? ⟨g, i, none⟩ = some (.int .i64 (zs.getD i 0 : Nat)) := by
  have hl := h.1
  rw [h.2.cellAt i (by omega)]
  simp [natVals, List.getD, show i < zs.length by omega]
theorem OwnN.frozen (h : OwnN w base g n cap zs) (i : Nat) : w.frozen? ⟨g, i, none⟩ = false := h.2.frozenAt i
theorem OwnN.grown (h : OwnN w base g n cap zs) (hg : w.grownBy w' row) (hne : some g ≠ row) : OwnN w' base g n cap zs := ⟨h.1, h.2.kept hg (.inr hne)⟩
theorem OwnN.below (h : OwnN w base g n cap zs) (hb : Below w.heap.size w w') : OwnN w' base g n cap zs :=
  ⟨h.1, h.2.kept (row := none) ⟨hb.os, hb.tape, hb.output, hb.size, fun k hk _ => hb.block k hk⟩ (.inr (by simp [Value.ownBlock]))⟩
theorem OwnN.cells (h : OwnN w base g n cap zs) : ∀ j v, (natVals zs)[j]? = some v → w.cell? ((⟨g, 0, none⟩ : Addr).add j) = some v := h.2.cells rfl
theorem ownN_made (w : World) (base : Nat) (hb : base ≤ w.heap.size) : OwnN (w.alloc (.cells #[] 3)) base w.heap.size 0 0 [] :=
  ⟨rfl, World.ownsRow_made w #[] 0 hb (Nat.zero_le _) rfl⟩
theorem ownN_lit (w : World) (base : Nat) (zs : List Nat) (cs : Array Value) (hb : base ≤ w.heap.size) (hc : cs.toList = natVals zs) (hl : zs.length ≤ maxLen) : OwnN (w.alloc (.cells cs 3)) base w.heap.size zs.length zs.length zs := by
  have hs : cs.size = zs.length * 1 := by rw [← Array.length_toList, hc, natVals_length, Nat.mul_one]
  have := World.ownsRow_lit (base := base) (e := 3) (size := 1) w cs zs.length hb hl hs
  rw [hc] at this
  exact ⟨rfl, this⟩
theorem ownN_val {v' : Value} (hl : zs.length = n) (h0 : ¬ v' = .slice none 0 0) (h : w'.ownsRow base 3 1 v' n (natVals zs)) :
    ∃ g' cap', v' = .slice (some ⟨g', 0, none⟩) n cap' ∧ OwnN w' base g' n cap' zs := by
  rcases h.2 with ⟨h2, _⟩ | ⟨g', cap', cur, hv, _⟩
  · exact absurd h2 h0
  · subst hv
    exact ⟨g', cap', rfl, hl, h⟩
theorem ownN_set (h : OwnN w base g n cap zs) (k z : Nat) :
    OwnN (w.setCell ⟨g, k, none⟩ (.int .i64 (z : Int))) base g n cap (zs.set k z) ∧ w.grownBy (w.setCell ⟨g, k, none⟩ (.int .i64 (z : Int))) (some g) := by
  have hs := h.2.stored k (.int .i64 (z : Int))
  rw [natVals_set] at hs
  exact ⟨⟨by simpa using h.1, hs.1⟩, hs.2⟩
end
end Go.Proofs.YtmdhkoiimffmlaaDoor.base
