/- The laws' own copies of those who decide. What the exact laws of those who decide share. -/
import Derived.Test.YtdeaiefhegjalaaBund12at
import Derived.Deep.RegionHeld3
namespace Go.Proofs.Ytdeaiefhegjalaa.lay
open Go Go.RowKit
/-- an answer of one cell that is new, and its own -/
def RetV {α : Type} (R : Rd α) (w : World) (x : α) (e : Ending) (w' : World) : Prop := ∃ v F, e = .returned v ∧ R.own w' [v] x F ∧ (∀ k ∈ F, w.heap.size ≤ k) ∧ Below w.heap.size w w'
theorem slice_shape {α : Type} {ty : TypeId} {R : Rd α} {w : World} {v : Value} {l : List α} {F : List Nat} (h : (lay.slice ty R).own w [v] l F) : ∃ a n c, v = .slice a n c := by
  obtain ⟨v', q, e, _, h⟩ := h
  cases e
  rcases h.shape with ⟨e, _⟩ | ⟨g, c, e, _⟩
  · exact ⟨_, _, _, e⟩
  · exact ⟨_, _, _, e⟩
end Go.Proofs.Ytdeaiefhegjalaa.lay
namespace Go.Proofs.Ytdeaiefhegjalaa.cos
open Go Go.RowKit Go.Proofs.Ytdeaiefhegjalaa.base Go.Proofs.Ytdeaiefhegjalaa.pairs Go.Proofs.Ytdeaiefhegjalaa.ords Go.Proofs.Ytdeaiefhegjalaa.lay Go.Proofs.Ytdeaiefhegjalaa.wds
set_option linter.unusedVariables false
set_option linter.unusedSimpArgs false

theorem ownZV_of {w : World} {base g n cap : Nat} {zs : List Int} (hw : ∀ z ∈ zs, (Lit.int .i64 z).wf = true) (h : OwnZ w base g n cap zs) : OwnZV w (.slice (some ⟨g, 0, none⟩) n cap) zs := ⟨hw, by rw [h.1]; exact (h.mono (Nat.zero_le _)).2⟩
theorem intVals_zero (n : Nat) : intVals (List.replicate n 0) = (madeCells #[Value.int .i64 0] n).toList := by
  apply List.ext_getElem?
  intro j
  by_cases hj : j < n
  · simp [intVals, madeCells, hj, Value.cells, Nat.mod_one]
  · rw [List.getElem?_eq_none (by simp [intVals]; omega), List.getElem?_eq_none (by simp [madeCells]; omega)]
theorem job_mk {w : World} {x y : Value} {tx st : Int} {ops : List Od} {yes : List Int} {F1 F2 : List Nat} (k1 : (Lit.int .i64 tx).wf = true) (k3 : (Lit.int .i64 st).wf = true) (hx : opsR.own w [x] ops F1) (hy : intsR.own w [y] yes F2) (hn : (F1 ++ F2).Nodup) : jobR.own w [.int .i64 tx, x, .int .i64 st, y] (tx, ops, st, yes) (F1 ++ F2) := by
  obtain ⟨h1, rfl⟩ := ops_own.1 hx
  obtain ⟨h2, rfl⟩ := ints_own.1 hy
  exact job_own.2 ⟨x, y, rfl, k1, k3, h1, h2, rfl, hn⟩
theorem job_vals {w : World} {vs : List Value} {x : Jb} {F : List Nat} (h : jobR.own w vs x F) : ∃ ra rn rc sa sn sc, vs = [.int .i64 x.1, .slice ra rn rc, .int .i64 x.2.2.1, .slice sa sn sc] := by
  obtain ⟨oa, ol, oc, ya, yl, yc, e, _⟩ := job_see.1 (jobR.ownSee h)
  exact ⟨_, _, _, _, _, _, e⟩
theorem job_zero (w : World) : jobR.own w [.int .i64 0, .slice none 0 0, .int .i64 0, .slice none 0 0] (0, [], 0, []) [] :=
  job_own.2 ⟨_, _, rfl, by decide, by decide, ownV_nil _ _, ⟨fun _ h => absurd h List.not_mem_nil, World.ownsRow_nil _ _ _ _⟩, rfl, List.nodup_nil⟩
theorem ch_zero (w : World) : chR.own w [.int .i64 0, .bool false] (0, false) [] := flat_ch.own.2 ⟨rfl, ⟨by decide, trivial⟩, rfl⟩
theorem info_toChoiceS : (Try.prog.info? 33).map (fun i => (i.zero, i.size, i.bytes)) = some (some (.agg #[.int .i64 0, .bool false]), 2, 16) := by kernel_rfl
theorem info_toJobS : (Try.prog.info? 37).map (fun i => (i.zero, i.size, i.bytes)) = some (some (.agg #[.int .i64 0, .slice none 0 0, .int .i64 0, .slice none 0 0]), 4, 64) := by kernel_rfl
end Go.Proofs.Ytdeaiefhegjalaa.cos

namespace Go.Proofs.Ytdeaiefhegjalaa.cos
open Go Go.RowKit Go.Proofs.Ytdeaiefhegjalaa.base Go.Proofs.Ytdeaiefhegjalaa.pairs Go.Proofs.Ytdeaiefhegjalaa.ords Go.Proofs.Ytdeaiefhegjalaa.lay Go.Proofs.Ytdeaiefhegjalaa.wds
set_option linter.unusedVariables false
set_option linter.unusedSimpArgs false

section
variable {w w' : World} {vs : List Value} {c : Co} {F : List Nat}
theorem coord_shape (h : coordR.own w vs c F) : ∃ ja jn jc la ln lc, vs = [.int .i64 c.1, .int .i64 c.2.1, .int .i64 c.2.2.1, .slice ja jn jc, .slice la ln lc, .int .i64 c.2.2.2.2.2] := by
  obtain ⟨ja, jn, jc, la, ln, lc, e, _⟩ := coord_see.1 (coordR.ownSee h)
  exact ⟨ja, jn, jc, la, ln, lc, e⟩
theorem see_co {ja la : Option Addr} {jn jc ln lc : Nat} (h : coordR.see w [.int .i64 c.1, .int .i64 c.2.1, .int .i64 c.2.2.1, .slice ja jn jc, .slice la ln lc, .int .i64 c.2.2.2.2.2] c) : SeeCo w ja jn jc la ln lc c := by
  obtain ⟨ja', jn', jc', la', ln', lc', e, h⟩ := coord_see.1 h
  unfold coVals at e
  simp only [List.cons.injEq, Value.slice.injEq, true_and, and_true] at e
  obtain ⟨⟨rfl, rfl, rfl⟩, rfl, rfl, rfl⟩ := e
  exact h
/-- how many marks -/
def cntJ (j : Jb) : Nat := 2 + 3 * j.2.1.length + j.2.2.2.length
def cntC (c : Co) : Nat := (c.2.2.2.1.map cntJ).sum + 2 * c.2.2.2.2.1.length
theorem sum_cnt (l : List Jb) : (l.map cntJ).sum ≤ 2 * l.length + 3 * sumJ l := by
  induction l with
  | nil => simp
  | cons j l ih =>
    simp only [List.map_cons, List.sum_cons, List.length_cons, sumJ] at ih ⊢
    have : cntJ j ≤ 2 + 3 * jsz j := by unfold cntJ jsz; omega
    omega
theorem BoundCo.cnt (h : BoundCo c) : cntC c ≤ 7340032 := by
  have h1 := sum_cnt c.2.2.2.1
  have h2 := h.jobs
  have h3 := h.log
  have h4 := h.sum
  unfold cntC
  omega
end
end Go.Proofs.Ytdeaiefhegjalaa.cos
