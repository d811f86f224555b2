/- The laws' marks on those who decide. The laws' marks on those who decide: whether they are held; choices; the whole. -/
import Derived.Test.YtgiibadbjgdjcaaBund12au
import Derived.Test.YtgiibadbjgdjcaaBund12bc
import Derived.Test.YtgiibadbjgdjcaaBund12ar
namespace Go.Proofs.Ytgiibadbjgdjcaa.cos
open Go Go.RowKit Go.Proofs.Ytgiibadbjgdjcaa.base Go.Proofs.Ytgiibadbjgdjcaa.pairs Go.Proofs.Ytgiibadbjgdjcaa.ords Go.Proofs.Ytgiibadbjgdjcaa.lay Go.Proofs.Ytgiibadbjgdjcaa.wds
set_option linter.unusedVariables false
set_option linter.unusedSimpArgs false

/-- a job that is marked -/
def mJ (k : Nat) (j : Jb) : Jb := ((k : Int), marksO (k + 1) j.2.1.length, ((k + 1 + 3 * j.2.1.length : Nat) : Int), marksZ (k + 2 + 3 * j.2.1.length) j.2.2.2.length)
def mCh (k : Nat) (c : Ch) : Ch := ((k : Int), decide ((k + 1) % 3 = 0))
def mLog (k : Nat) (l : List Ch) : List Ch := markRow mCh (fun _ => 2) k l
def mCo (k : Nat) (c : Co) : Co := (c.1, c.2.1, c.2.2.1, markRow mJ cntJ k c.2.2.2.1, mLog (k + cntAll cntJ c.2.2.2.1) c.2.2.2.2.1, c.2.2.2.2.2)
theorem job_set0 {w : World} {vs : List Value} {j : Jb} {F : List Nat} {k : Int} (hk : (Lit.int .i64 k).wf = true) (h : jobR.own w vs j F) : jobR.own w (vs.set 0 (.int .i64 k)) (k, j.2.1, j.2.2.1, j.2.2.2) F := by
  obtain ⟨x, y, rfl, k1, k3, h1, h2, h3, h4⟩ := job_own.1 h
  exact job_own.2 ⟨x, y, rfl, hk, k3, h1, h2, h3, h4⟩
theorem job_set2 {w : World} {vs : List Value} {j : Jb} {F : List Nat} {k : Int} (hk : (Lit.int .i64 k).wf = true) (h : jobR.own w vs j F) : jobR.own w (vs.set 2 (.int .i64 k)) (j.1, j.2.1, k, j.2.2.2) F := by
  obtain ⟨x, y, rfl, k1, k3, h1, h2, h3, h4⟩ := job_own.1 h
  exact job_own.2 ⟨x, y, rfl, k1, hk, h1, h2, h3, h4⟩
theorem job_parts {w : World} {us : List Value} {x : Jb} {F : List Nat} (h : jobR.own w us x F) : ∃ oa ol oc ya yl yc F1 F2, us = [.int .i64 x.1, .slice oa ol oc, .int .i64 x.2.2.1, .slice ya yl yc] ∧ (Lit.int .i64 x.1).wf = true ∧ (Lit.int .i64 x.2.2.1).wf = true ∧ opsR.own w [.slice oa ol oc] x.2.1 F1 ∧ intsR.own w [.slice ya yl yc] x.2.2.2 F2 ∧ F = F1 ++ F2 ∧ (F1 ++ F2).Nodup := by
  obtain ⟨x', y, e, k1, k3, h1, h2, h3, h4⟩ := job_own.1 h
  have hx := ops_own.2 ⟨h1, rfl⟩
  have hy := ints_own.2 ⟨h2, rfl⟩
  obtain ⟨oa, ol, oc, e1⟩ := slice_shape hx
  obtain ⟨ya, yl, yc, e2⟩ := slice_shape hy
  subst e1 e2
  rw [h3] at h4
  exact ⟨oa, ol, oc, ya, yl, yc, _, _, e, k1, k3, hx, hy, h3, h4⟩
end Go.Proofs.Ytgiibadbjgdjcaa.cos

namespace Go.Proofs.Ytgiibadbjgdjcaa.cos
open Go Go.RowKit Go.Proofs.Ytgiibadbjgdjcaa.base Go.Proofs.Ytgiibadbjgdjcaa.pairs Go.Proofs.Ytgiibadbjgdjcaa.ords Go.Proofs.Ytgiibadbjgdjcaa.lay Go.Proofs.Ytgiibadbjgdjcaa.wds
set_option linter.unusedVariables false
set_option linter.unusedSimpArgs false

theorem mod3 (K : Nat) : (((K + 1 : Nat) : Int) % 3 == 0) = decide ((K + 1) % 3 = 0) := by
  by_cases h : (K + 1) % 3 = 0
  · rw [decide_eq_true h]
    exact beq_iff_eq.2 (by omega)
  · rw [decide_eq_false h]
    exact beq_eq_false_iff_ne.2 (by omega)
theorem ch_set0 {w : World} {vs : List Value} {x : Ch} {F : List Nat} {k : Int} (hk : (Lit.int .i64 k).wf = true) (h : chR.own w vs x F) : chR.own w (vs.set 0 (.int .i64 k)) (k, x.2) F := by
  obtain ⟨rfl, _, rfl⟩ := flat_ch.own.1 h
  exact flat_ch.own.2 ⟨rfl, ⟨hk, trivial⟩, rfl⟩
theorem ch_set1 {w : World} {vs : List Value} {x : Ch} {F : List Nat} {y : Bool} (h : chR.own w vs x F) : chR.own w (vs.set 1 (.bool y)) (x.1, y) F := by
  obtain ⟨rfl, h2, rfl⟩ := flat_ch.own.1 h
  exact flat_ch.own.2 ⟨rfl, ⟨h2.1, trivial⟩, rfl⟩
theorem cntC_eq (c : Co) : cntC c = cntAll cntJ c.2.2.2.1 + 2 * c.2.2.2.2.1.length := rfl
theorem see_mco {w : World} {c : Co} {k : Nat} {ja la : Option Addr} {jn jc ln lc : Nat} (h : coordR.see w [.int .i64 c.1, .int .i64 c.2.1, .int .i64 c.2.2.1, .slice ja jn jc, .slice la ln lc, .int .i64 c.2.2.2.2.2] (mCo k c)) : SeeCo w ja jn jc la ln lc (mCo k c) := see_co (c := mCo k c) h
end Go.Proofs.Ytgiibadbjgdjcaa.cos
