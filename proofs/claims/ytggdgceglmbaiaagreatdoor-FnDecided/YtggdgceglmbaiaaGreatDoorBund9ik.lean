/- The program's shard holds a transaction. The program's shard has no room. The program's shard writes down what it holds. The program's shard writes down what it holds. -/
import Derived.Test.YtggdgceglmbaiaaGreatDoorImH
import Derived.Test.YtggdgceglmbaiaaGreatDoorBund9ay
import Derived.Test.YtggdgceglmbaiaaGreatDoorBund9bg
namespace Go.Proofs.YtggdgceglmbaiaaGreatDoor.recs
open Go Go.RowKit Go.Proofs.YtggdgceglmbaiaaGreatDoor.base Go.Proofs.YtggdgceglmbaiaaGreatDoor.pairs Go.Proofs.YtggdgceglmbaiaaGreatDoor.ords Go.Proofs.YtggdgceglmbaiaaGreatDoor.helps Go.Proofs.YtggdgceglmbaiaaGreatDoor.help Go.Proofs.YtggdgceglmbaiaaGreatDoor.lay Go.Proofs.YtggdgceglmbaiaaGreatDoor.sent
set_option linter.unusedVariables false
set_option linter.unusedSimpArgs false

/-- what a shard does: refused for an error, or done -/
def DoPost (A : Nat → Addr) (t : Shd) (g : Option Nat) (w : World) (e : Ending) (w' : World) : Prop :=
  match g with
  | some k => e = .returned (.tuple #[.agg #[.int .i64 0, .slice none 0 0, .int .i64 0, .slice none 0 0, .slice none 0 0], .iface 145 (.pointer (some (A k)))]) ∧ Below w.heap.size w w'
  | none => ∃ (la : Option Addr) (ln lc : Nat) (ma : Option Addr) (mn mc : Nat) (ha : Option Addr) (hn hc : Nat) (F : List Nat), e = .returned (.tuple #[aggSh t.1 t.2.2.1 la ln lc ma mn mc ha hn hc, .nilIface]) ∧ OwnSh w' la ln lc ma mn mc ha hn hc t F ∧ (∀ k ∈ F, w.heap.size ≤ k) ∧ Below w.heap.size w w'
theorem own_made {V : World} {B C : Nat} {sid su : Int} {gl n cl gm nm cm gh ch : Nat} {t : Option St} {L : List Rc} {hl hh : List Value} (hid : (Lit.int .i64 sid).wf = true) (hsu : (Lit.int .i64 su).wf = true) (hOl : OwnR V 0 (.slice (some ⟨gl, 0, none⟩) n cl) L hl) (hlB : ∀ k, BlkR (.slice (some ⟨gl, 0, none⟩) n cl) hl k → B ≤ k ∧ k < C)
    (hOm : OwnP V C gm nm cm (resM t)) (hOh : OwnR V C (.slice (some ⟨gh, 0, none⟩) (resH t).length ch) (resH t) hh) (hnb : ¬ BlkR (.slice (some ⟨gh, 0, none⟩) (resH t).length ch) hh gm) (hBC : B ≤ C) :
    ∃ F, OwnSh V (some ⟨gl, 0, none⟩) n cl (some ⟨gm, 0, none⟩) nm cm (some ⟨gh, 0, none⟩) (resH t).length ch (sid, L, su, resM t, resH t) F ∧ (∀ k ∈ F, B ≤ k) ∧ ∀ k ∈ F, BlkR (.slice (some ⟨gl, 0, none⟩) n cl) hl k ∨ C ≤ k := by
  have hOh0 := hOh.mono (base' := 0) (Nat.zero_le _)
  have hmlt := hOm.lt
  have n1 := recsR.ownNodup (recs_own.2 ⟨_, hOl, rfl⟩)
  have n2 := recsR.ownNodup (recs_own.2 ⟨_, hOh0, rfl⟩)
  have hw : ∀ k ∈ blkR (.slice (some ⟨gl, 0, none⟩) n cl) hl ++ ((Value.slice (some ⟨gm, 0, none⟩) nm cm).ownBlock.toList ++ blkR (.slice (some ⟨gh, 0, none⟩) (resH t).length ch) hh), BlkR (.slice (some ⟨gl, 0, none⟩) n cl) hl k ∨ C ≤ k := fun k hk => by
    rcases List.mem_append.1 hk with e | e
    · exact .inl (mem_blkR.1 e)
    · rcases List.mem_append.1 e with e | e
      · have e2 : k = gm := by simpa [Value.ownBlock] using e
        exact .inr (by rw [e2]; exact hmlt.1)
      · exact .inr (hOh.lt k (mem_blkR.1 e)).1
  refine ⟨_, ⟨hid, hsu, ⟨hl, hOl, hh, hOh0, rfl⟩, ownPV_of hOm, ?_⟩, fun k hk => ?_, hw⟩
  · refine nodup_mk n1 (nodup_mk (by simp [Value.ownBlock]) n2 (fun k hk hk2 => ?_)) (fun k hk hk2 => ?_)
    · have e2 : k = gm := by simpa [Value.ownBlock] using hk
      rw [e2] at hk2
      exact hnb (mem_blkR.1 hk2)
    · have h1 := (hlB k (mem_blkR.1 hk)).2
      rcases List.mem_append.1 hk2 with e | e
      · have e2 : k = gm := by simpa [Value.ownBlock] using e
        have := hmlt.1; omega
      · have := (hOh.lt k (mem_blkR.1 e)).1; omega
  · rcases hw k hk with e | e
    · exact (hlB k e).1
    · omega
end Go.Proofs.YtggdgceglmbaiaaGreatDoor.recs

namespace Go.Proofs.YtggdgceglmbaiaaGreatDoor.recs
open Go Go.RowKit Go.Proofs.YtggdgceglmbaiaaGreatDoor.base Go.Proofs.YtggdgceglmbaiaaGreatDoor.pairs Go.Proofs.YtggdgceglmbaiaaGreatDoor.ords Go.Proofs.YtggdgceglmbaiaaGreatDoor.helps Go.Proofs.YtggdgceglmbaiaaGreatDoor.help Go.Proofs.YtggdgceglmbaiaaGreatDoor.lay Go.Proofs.YtggdgceglmbaiaaGreatDoor.sent
set_option linter.unusedVariables false
set_option linter.unusedSimpArgs false

end Go.Proofs.YtggdgceglmbaiaaGreatDoor.recs

namespace Go.Proofs.YtggdgceglmbaiaaGreatDoor.stepc
open Go
theorem step_call3 {P : Program} {ops : Array Oper} {o : Oper} {a : Act} {w : World} {K : Act → World → Prop} {Q : Exit → Act → World → Prop} {E : Prop} (hgd : o.guard = none) (f : FuncId) (x y z : Operand) (ts : Array TypeId)
    (ho : o.op = .call { callee := .value (.func f), args := #[x, y, z], argTypes := ts }) (hent : ∀ args w, (callFunc f args).run P w = .ok (.enter f args) w)
    (v1 v2 v3 : Value) (h1 : a.eval x = v1) (h2 : a.eval y = v2) (h3 : a.eval z = v3) (R : Ending → World → Prop) (hc : Calls P f #[v1, v2, v3] w R)
    (h : ∀ e w', R e w' → ∃ v, e = .returned v ∧ K (a.put o.dst v) w') :
    if Region.wanted o (yielded ops a.tmps) = true then Oper.wp P o a w K Q else E := by
  have hw : Region.wanted o (yielded ops a.tmps) = true := by simp [Region.wanted, hgd]
  rw [if_pos hw]
  unfold Oper.wp execOp
  have hf : a.eval (.func f) = .func (.func f) #[] #[] := rfl
  have hof : (Deferred.ofValue (Value.func (Fn.func f) #[] #[]) #[v1, v2, v3]).run P w = .ok { target := .fn (.func f) #[], args := #[v1, v2, v3] } w := rfl
  simp only [ho, resolve, invoke, Sem.run_bind, List.map_toArray, List.map_cons, List.map_nil, h1, h2, h3, hf, hof, Result.andThen_ok, hent]
  show Calls P f #[v1, v2, v3] w _
  exact hc.mono (fun e w' he => by obtain ⟨v, rfl, hr⟩ := h e w' he; exact hr)
end Go.Proofs.YtggdgceglmbaiaaGreatDoor.stepc
namespace Go.Proofs.YtggdgceglmbaiaaGreatDoor.recs
open Go Go.RowKit Go.Proofs.YtggdgceglmbaiaaGreatDoor.base Go.Proofs.YtggdgceglmbaiaaGreatDoor.pairs Go.Proofs.YtggdgceglmbaiaaGreatDoor.ords Go.Proofs.YtggdgceglmbaiaaGreatDoor.helps Go.Proofs.YtggdgceglmbaiaaGreatDoor.help Go.Proofs.YtggdgceglmbaiaaGreatDoor.lay Go.Proofs.YtggdgceglmbaiaaGreatDoor.sent
set_option linter.unusedVariables false
set_option linter.unusedSimpArgs false

end Go.Proofs.YtggdgceglmbaiaaGreatDoor.recs

namespace Go.Proofs.YtggdgceglmbaiaaGreatDoor.recs
open Go Go.RowKit Go.Proofs.YtggdgceglmbaiaaGreatDoor.base Go.Proofs.YtggdgceglmbaiaaGreatDoor.pairs Go.Proofs.YtggdgceglmbaiaaGreatDoor.ords Go.Proofs.YtggdgceglmbaiaaGreatDoor.helps Go.Proofs.YtggdgceglmbaiaaGreatDoor.help Go.Proofs.YtggdgceglmbaiaaGreatDoor.lay Go.Proofs.YtggdgceglmbaiaaGreatDoor.sent
set_option linter.unusedVariables false
set_option linter.unusedSimpArgs false

end Go.Proofs.YtggdgceglmbaiaaGreatDoor.recs
