/- One who decides, as a call owns it. -/
import Derived.Test.YtmpggohilmngpaaCoC
import Derived.Test.YtmpggohilmngpaaCoZ
import Derived.Test.YtmpggohilmngpaaGenAt
namespace Go.Proofs.Ytmpggohilmngpaa.cos
open Go Go.RowKit Go.Proofs.Ytmpggohilmngpaa.base Go.Proofs.Ytmpggohilmngpaa.pairs Go.Proofs.Ytmpggohilmngpaa.ords Go.Proofs.Ytmpggohilmngpaa.lay Go.Proofs.Ytmpggohilmngpaa.wds
set_option linter.unusedVariables false
set_option linter.unusedSimpArgs false

section
variable {w w' : World} {vs : List Value} {c : Co} {F : List Nat} {e : Ending}
/-- the numbers of one who decides are numbers -/
structure WfCo (c : Co) : Prop where
  n : (Lit.int .i64 c.1).wf = true
  life : (Lit.int .i64 c.2.1).wf = true
  next : (Lit.int .i64 c.2.2.1).wf = true
  sure : (Lit.int .i64 c.2.2.2.2.2).wf = true
theorem coord_own : coordR.own w vs c F ↔ ∃ x y F1 F2, vs = [.int .i64 c.1, .int .i64 c.2.1, .int .i64 c.2.2.1, x, y, .int .i64 c.2.2.2.2.2] ∧ WfCo c ∧ jobsR.own w [x] c.2.2.2.1 F1 ∧ logR.own w [y] c.2.2.2.2.1 F2 ∧ F = F1 ++ F2 ∧ F.Nodup := by
  constructor
  · rintro ⟨us, ts, G1, G2, rfl, rfl, h1, ⟨us2, ts2, G3, G4, rfl, rfl, h2, ⟨us3, ts3, G5, G6, rfl, rfl, h3, ⟨us4, ts4, G7, G8, rfl, rfl, h4, ⟨us5, ts5, G9, G10, rfl, rfl, h5, h6, n5⟩, n4⟩, n3⟩, n2⟩, n1⟩
    obtain ⟨rfl, k1, rfl⟩ := flat_int.own.1 h1
    obtain ⟨rfl, k2, rfl⟩ := flat_int.own.1 h2
    obtain ⟨rfl, k3, rfl⟩ := flat_int.own.1 h3
    obtain ⟨rfl, k6, rfl⟩ := flat_int.own.1 h6
    obtain ⟨v4, q4, rfl, _⟩ := id h4
    obtain ⟨v5, q5, rfl, _⟩ := id h5
    exact ⟨v4, v5, G7, G9, rfl, ⟨k1, k2, k3, k6⟩, h4, h5, by simp, n1⟩
  · rintro ⟨x, y, F1, F2, rfl, ⟨k1, k2, k3, k6⟩, h4, h5, rfl, hn⟩
    exact ⟨[_], [_, _, x, y, _], [], F1 ++ F2, rfl, rfl, flat_int.own.2 ⟨rfl, k1, rfl⟩, ⟨[_], [_, x, y, _], [], F1 ++ F2, rfl, rfl, flat_int.own.2 ⟨rfl, k2, rfl⟩, ⟨[_], [x, y, _], [], F1 ++ F2, rfl, rfl, flat_int.own.2 ⟨rfl, k3, rfl⟩, ⟨[x], [y, _], F1, F2, rfl, rfl, h4, ⟨[y], [_], F2, [], rfl, (List.append_nil _).symm, h5, flat_int.own.2 ⟨rfl, k6, rfl⟩, (nodup_parts hn).2.1⟩, hn⟩, hn⟩, hn⟩, hn⟩
theorem SeeCo.wf {ja la : Option Addr} {jn jc ln lc : Nat} (h : SeeCo w ja jn jc la ln lc c) : WfCo c := ⟨h.n, h.life, h.next, h.sure⟩
theorem logs_own {v : Value} {l : List Ch} : logR.own w [v] l F ↔ (∃ q, OwnG 42 chR w v l q) ∧ F = v.ownBlock.toList := by
  constructor
  · rintro ⟨v', q, e, rfl, h⟩
    cases e
    exact ⟨⟨q, h⟩, by rw [(flat_ch.parts h).2.2.1, List.append_nil]⟩
  · rintro ⟨⟨q, h⟩, rfl⟩
    exact ⟨v, q, rfl, by rw [(flat_ch.parts h).2.2.1, List.append_nil], h⟩
/-- jobs and choices of the call's own make one who decides -/
theorem coord_mk {x : Value} {gl lcap ln : Nat} {q ql : Parts} {B : Nat} (hw : WfCo c) (hJ : OwnG 39 jobR w x c.2.2.2.1 q) (hL : OwnG 42 chR w (.slice (some ⟨gl, 0, none⟩) ln lcap) c.2.2.2.2.1 ql) (hne : gl ∉ x.ownBlock.toList ++ blocksOf q) :
    coordR.own w [.int .i64 c.1, .int .i64 c.2.1, .int .i64 c.2.2.1, x, .slice (some ⟨gl, 0, none⟩) ln lcap, .int .i64 c.2.2.2.2.2] c (x.ownBlock.toList ++ blocksOf q ++ [gl]) := by
  refine coord_own.2 ⟨x, _, x.ownBlock.toList ++ blocksOf q, [gl], rfl, hw, ⟨x, q, rfl, rfl, hJ⟩, logs_own.2 ⟨⟨ql, hL⟩, rfl⟩, rfl, nodup_mk hJ.nodup (by simp) fun k hk hk2 => ?_⟩
  rw [List.mem_singleton] at hk2
  subst hk2
  exact hne hk
theorem copy_ret {jn ln : Nat} (hw : WfCo c) (h : CopyPost w jn ln c e w') : RetR coordR w c e w' := by
  obtain ⟨gj, jcap, gl, lcap, q, ql, rfl, hJ, hL, hnew, hne, hb⟩ := h
  refine ⟨_, _, rfl, coord_mk (B := 0) hw hJ hL (by simpa [Value.ownBlock] using hne), fun k hk => hnew k ?_, hb⟩
  rcases List.mem_append.1 hk with h1 | h1
  · exact List.mem_cons_of_mem _ (by simpa [Value.ownBlock] using h1)
  · rw [List.mem_singleton] at h1; subst h1; exact List.mem_cons_self
/-- one who decides, no greater than the laws take -/
structure BoundCo (c : Co) : Prop where
  fits : FitsCo c
  yes : ∀ j ∈ c.2.2.2.1, j.2.2.2.length ≤ 1099511627776
  jobs : c.2.2.2.1.length ≤ 1048576
  log : c.2.2.2.2.1.length ≤ 1048576
  sum : sumJ c.2.2.2.1 ≤ 1048576
theorem sumO_at {l : List Od} {p : Od} (h : p ∈ l) : p.2.1.size ≤ sumO l := by
  obtain ⟨i, hi, rfl⟩ := List.getElem_of_mem h
  have h1 := sumO_take l i hi
  have h2 := sumO_le l (i + 1)
  unfold osz at h1
  omega
theorem bound_co {c : Co} (h : csz c ≤ 1048576) : BoundCo c := by
  unfold csz at h
  refine ⟨⟨by omega, by omega, fun j hj => ?_⟩, fun j hj => ?_, by omega, by omega, by omega⟩
  · have h1 := sumJ_mem hj
    unfold jsz at h1
    refine ⟨by omega, fun p hp => ?_⟩
    have h2 := sumO_at hp
    omega
  · have h1 := sumJ_mem hj
    unfold jsz at h1
    omega
theorem coord_see6 {u0 u1 u2 u3 u4 u5 : Value} (h : coordR.see w [u0, u1, u2, u3, u4, u5] c) : ∃ ja jn jc la ln lc, u0 = .int .i64 c.1 ∧ u1 = .int .i64 c.2.1 ∧ u2 = .int .i64 c.2.2.1 ∧ u3 = .slice ja jn jc ∧ u4 = .slice la ln lc ∧ u5 = .int .i64 c.2.2.2.2.2 ∧ SeeCo w ja jn jc la ln lc c := by
  obtain ⟨ja, jn, jc, la, ln, lc, e, h⟩ := coord_see.1 h
  unfold coVals at e
  simp only [List.cons.injEq, and_true] at e
  exact ⟨ja, jn, jc, la, ln, lc, e.1, e.2.1, e.2.2.1, e.2.2.2.1, e.2.2.2.2.1, e.2.2.2.2.2, h⟩
end
end Go.Proofs.Ytmpggohilmngpaa.cos
