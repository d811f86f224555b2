/- The specification's answers of one who decides, and a new one. -/
import Derived.Test.YtmpggohilmngpaaCoU
import Derived.Handy
namespace Go.Proofs.Ytmpggohilmngpaa.cos
open Go Go.RowKit Go.Proofs.Ytmpggohilmngpaa.base Go.Proofs.Ytmpggohilmngpaa.pairs Go.Proofs.Ytmpggohilmngpaa.ords Go.Proofs.Ytmpggohilmngpaa.lay Go.Proofs.Ytmpggohilmngpaa.wds
set_option linter.unusedVariables false
set_option linter.unusedSimpArgs false

/-- what is told of a transaction by one that is right -/
def answerS (life sure : Int) (log : List Ch) (tx : Int) : Bool × Bool :=
  if tx < 1000 then (false, false) else
    match chosen log tx with
    | some k => ((choice log tx).getD false && decide ((k : Int) < sure), decide ((k : Int) < sure))
    | none => (false, decide (tx < life * 1000))
def answerR (c : Co) (tx : Int) : Bool × Bool := if coordOk c = true then answerS c.2.1 c.2.2.2.2.2 c.2.2.2.2.1 tx else (false, false)
def newR (n : Int) : Co := if 1 ≤ n ∧ n ≤ 8 then (n, 1, 0, [], [], 0) else (0, 0, 0, [], [], 0)
theorem coordOk_head {c : Co} (h : coordOk c = true) : (1 ≤ c.1 ∧ c.1 ≤ 8) ∧ (1 ≤ c.2.1 ∧ c.2.1 ≤ 900) ∧ (0 ≤ c.2.2.1 ∧ c.2.2.1 ≤ 999) ∧ c.2.2.2.2.1.length ≤ 1000 ∧ (0 ≤ c.2.2.2.2.2 ∧ c.2.2.2.2.2 ≤ (c.2.2.2.2.1.length : Int)) := by
  unfold coordOk headOk at h
  simp only [Bool.and_eq_true, decide_eq_true_eq] at h
  exact ⟨h.1.1.1.1.1.1, h.1.1.1.1.1.2, h.1.1.1.1.2, h.1.1.1.2, h.1.1.2⟩

set_option maxRecDepth 100000 in
set_option maxHeartbeats 2000000 in
theorem spec_coordNew (n : Int) (w : World) :
    Calls Try.prog 4 #[.int .i64 n] w fun e w' => e = .returned (coV (newR n).1 (newR n).2.1 (newR n).2.2.1 (newR n).2.2.2.2.2 none 0 0 none 0 0) ∧ Below w.heap.size w w' := by
  have hin := s_inZ n 1 8 (w.alloc (coO 0 0 0 0 none 0 0 none 0 0))
  by_cases hn : 1 ≤ n ∧ n ≤ 8
  · have HR : Hid (newR n = (n, 1, 0, [], [], 0)) := if_pos hn
    rw [decide_eq_true hn] at hin
    have HI := Hid.mk' hin
    clear hin
    go_enter Try.func4, Try.ntmps4
    go_wp2_with fail
    refine HI.out.mono ?_
    rintro e w1 ⟨rfl, hw1⟩
    subst hw1
    go_wp2_with fail
    go_returns
    exact ⟨by rw [HR.out], below_new _ _⟩
  · have HR : Hid (newR n = (0, 0, 0, [], [], 0)) := if_neg hn
    rw [decide_eq_false hn] at hin
    have HI := Hid.mk' hin
    clear hin
    go_enter Try.func4, Try.ntmps4
    go_wp2_with fail
    refine HI.out.mono ?_
    rintro e w1 ⟨rfl, hw1⟩
    subst hw1
    go_wp2_with fail
    go_returns
    exact ⟨by rw [HR.out], below_new _ _⟩
end Go.Proofs.Ytmpggohilmngpaa.cos
