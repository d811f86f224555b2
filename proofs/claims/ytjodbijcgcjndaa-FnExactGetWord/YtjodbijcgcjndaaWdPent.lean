/- What the exact law of GetWord keeps from step to step: the bytes that were handed in, the answer's word and the specification's, each in its box. -/
import Derived.Test.YtjodbijcgcjndaaWdHA
import Derived.Test.YtjodbijcgcjndaaTrio
namespace Go.Proofs.Ytjodbijcgcjndaa.wds
open Go Go.RowKit Go.Proofs.Ytjodbijcgcjndaa.base Go.Proofs.Ytjodbijcgcjndaa.pairs Go.Proofs.Ytjodbijcgcjndaa.ords Go.Proofs.Ytjodbijcgcjndaa.helps
set_option linter.unusedVariables false

theorem resW_len (bs : List UInt8) : (resW (getWord bs)).2.2.2.1.length ≤ 8 := by
  cases h : getWord bs with
  | none => simp [resW]
  | some x =>
    obtain ⟨k, s, t, l, y⟩ := x
    obtain ⟨h1, _⟩ := getWord_some h
    rw [wordOk_iff] at h1
    show l.length ≤ 8
    rcases h1.2 with ⟨_, h2, _⟩ | ⟨_, h2⟩ | ⟨_, h2, _⟩
    · exact ((opsOk_iff _).1 h2).2.2
    · rw [h2]; simp
    · rw [h2]; simp
theorem wordPost_open {w w' : World} {r : Option Wd} {e : Ending} {k s t : Int} {L : List Od} {y ok : Bool} (hR : resW r = (k, s, t, L, y)) (hok : r.isSome = ok) (h : WordPost w r e w') :
    ∃ a n cap, e = .returned (.tuple #[.agg #[.int .i64 k, .int .i64 s, .int .i64 t, .slice a n cap, .bool y], .bool ok]) ∧ OwnV w' w.heap.size (.slice a n cap) L ∧ Below w.heap.size w w' := by
  obtain ⟨v, rfl, hv, hb⟩ := h
  rw [hR] at hv
  obtain ⟨a, c, rfl, _, _⟩ := hv.sl
  exact ⟨a, _, c, by rw [hR, hok], hv, hb⟩
structure PentG (w0 w : World) (k s t : Int) (y : Bool) (vs vg : Value) (bw gx len bg : Nat) (X : List UInt8) (S G : List Od) : Prop where
  bel : Below w0.heap.size w0 w
  x : Own w w0.heap.size gx len len X
  sp : OwnV w w0.heap.size vs S
  g : OwnV w w0.heap.size vg G
  us : V5 w bw 26 (.int .i64 k) (.int .i64 s) (.int .i64 t) vs (.bool y)
  ug : V5 w bg 26 (.int .i64 k) (.int .i64 s) (.int .i64 t) vg (.bool y)
  hs : ∀ k, vs.ownBlock = some k → k < bw
  hw : bw < gx
  hg : ∀ k, vg.ownBlock = some k → gx < k ∧ k < bg
  hx : gx < bg
section
variable {w0 w w' : World} {k s t : Int} {y : Bool} {vs vg : Value} {bw gx len bg : Nat} {X : List UInt8} {S G : List Od}
theorem PentG.below (h : PentG w0 w k s t y vs vg bw gx len bg X S G) (hb : Below w.heap.size w w') : PentG w0 w' k s t y vs vg bw gx len bg X S G :=
  ⟨h.bel.trans (hb.mono h.bel.size), h.x.below hb, h.sp.below hb, h.g.below hb, h.us.below hb, h.ug.below hb, h.hs, h.hw, h.hg, h.hx⟩
theorem PentG.markX (h : PentG w0 w k s t y vs vg bw gx len bg X S G) {X' : List UInt8} (ho : Own w' w0.heap.size gx len len X') (hg : w.grownBy w' (some gx)) : PentG w0 w' k s t y vs vg bw gx len bg X' S G :=
  ⟨h.bel.grown hg h.bel.size (fun k e => by cases e; exact h.x.lt.1), ho,
    h.sp.grown hg (.inr fun e => by have := h.hs gx e; have := h.hw; omega),
    h.g.grown hg (.inr fun e => by have := h.hg gx e; omega),
    (hg.block _ h.us.lt (by have := h.hw; simp; omega)).trans h.us, (hg.block _ h.ug.lt (by have := h.hx; simp; omega)).trans h.ug, h.hs, h.hw, h.hg, h.hx⟩
theorem PentG.markG (h : PentG w0 w k s t y vs vg bw gx len bg X S G) {G' : List Od} (ho : OwnV w' w0.heap.size vg G') (hg : w.grownBy w' vg.ownBlock) : PentG w0 w' k s t y vs vg bw gx len bg X S G' := by
  have hne : ∀ b, (b ≤ gx ∨ bg ≤ b) → some b ≠ vg.ownBlock := fun b hb e => by have := h.hg b e.symm; omega
  have h1 := h.hw
  have h2 := h.hx
  refine ⟨h.bel.grown hg h.bel.size (fun k e => (h.g.lt k e).1), h.x.grown hg (hne gx (by omega)), ?_, ho, (hg.block _ h.us.lt (hne _ (by omega))).trans h.us, (hg.block _ h.ug.lt (hne _ (by omega))).trans h.ug, h.hs, h.hw, h.hg, h.hx⟩
  cases hv : vs.ownBlock with
  | none => exact h.sp.grown hg (.inl hv)
  | some k => exact h.sp.grown hg (.inr (by rw [hv]; exact hne k (by have := h.hs k hv; omega)))
theorem PentG.cells (h : PentG w0 w k s t y vs vg bw gx len bg X S G) :
    w.cell? ⟨bg, 0, none⟩ = some (.int .i64 k) ∧ w.cell? ⟨bg, 1, none⟩ = some (.int .i64 s) ∧ w.cell? ⟨bg, 2, none⟩ = some (.int .i64 t) ∧ w.cell? ⟨bg, 3, none⟩ = some vg ∧ w.cell? ⟨bg, 4, none⟩ = some (.bool y) ∧ w.cell? ⟨bw, 0, none⟩ = some (.int .i64 k) ∧ w.cell? ⟨bw, 1, none⟩ = some (.int .i64 s) ∧ w.cell? ⟨bw, 2, none⟩ = some (.int .i64 t) ∧ w.cell? ⟨bw, 3, none⟩ = some vs ∧ w.cell? ⟨bw, 4, none⟩ = some (.bool y) :=
  ⟨h.ug.c0, h.ug.c1, h.ug.c2, h.ug.c3, h.ug.c4, h.us.c0, h.us.c1, h.us.c2, h.us.c3, h.us.c4⟩
end
end Go.Proofs.Ytjodbijcgcjndaa.wds
