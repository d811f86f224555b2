/- A region that draws its order, whose last operation waits for an operation only through others. No function of the program is named here. -/
import Derived.Test.YtdeaiefhegjalaaBund12be
namespace Go.Proofs.Ytdeaiefhegjalaa.last
open Go Go.RowKit
section
variable {P : Program} {ops : Array Oper} {md : Region.Mode} {Q : Exit → Act → World → Prop} {S : World → Prop} {z : Nat}

/-- each of ms, and z, waits for i or for one of ms -/
def Via (md : Region.Mode) (ops : Array Oper) (ms : List Nat) (z i : Nat) : Prop := ∀ m ∈ z :: ms, ∃ om, ops[m]? = some om ∧ ∃ e ∈ om.after, Region.binds md e = true ∧ (e.on = i ∨ e.on ∈ ms)
theorem via_out {ms : List Nat} {i : Nat} (hv : Via md ops ms z i) {listed : Array Bool} (hr : i ∈ Region.ready md ops listed) (hu : ∀ m ∈ ms, listed.getD m true = false) {j : Nat} (hj : j ∈ Region.ready md ops listed) : j ∉ z :: ms := fun hm => by
  obtain ⟨om, ho, e, he, hb, h⟩ := hv j hm
  rcases h with h | h
  · exact both_ready hr hj ho e he hb h
  · obtain ⟨_, oj, hoj, hall⟩ := mem_ready.1 hj
    rw [ho] at hoj
    cases hoj
    have h1 := hall e he hb
    have h2 := hu e.on h
    unfold Array.getD at h1 h2
    split at h1 <;> simp_all
theorem wpAnyL_firstV {i : Nat} {oi : Oper} {v : Value} {ms : List Nat} (hi : ops[i]? = some oi) (hsel : ∀ (j : Nat) (o : Oper) cs b, ops[j]? = some o → o.op ≠ .select cs b)
    (hQ : ∀ c a w, Q (.panic c) (a.put oi.dst v) w → Q (.panic c) a w) (hv : Via md ops ms z i) :
    ∀ (fuel : Nat) (listed : Array Bool) (a : Act) (w : World),
      (∀ j oj, ops[j]? = some oj → j ≠ i → listed.getD j true = false → (∀ e ∈ oj.after, Region.binds md e = true → e.on ≠ i) → oi.apart ops oj = true) →
      i ∈ Region.ready md ops listed → (∀ m ∈ ms, listed.getD m true = false) → YieldsIf P ops S oi v a → S w →
      wpAnyL P md ops Q S z fuel (listed.setIfInBounds i true) (a.put oi.dst v) w → wpAnyL P md ops Q S z (fuel + 1) listed a w := by
  intro fuel
  induction fuel with
  | zero =>
    intro listed a w _ hr hu hy hS H
    refine ⟨fun h => (by rw [h] at hr; cases hr), fun j hj => ?_⟩
    by_cases hji : j = i
    · subst hji; exact hy.wpOp hi hS ⟨fun _ => hS, H⟩
    · have := ready_mono hj hji
      rw [H.1] at this
      cases this
  | succ fuel ih =>
    intro listed a w hfree hr hu hy hS H
    refine ⟨fun h => (by rw [h] at hr; cases hr), fun j hj => ?_⟩
    by_cases hji : j = i
    · subst hji; exact hy.wpOp hi hS ⟨fun _ => hS, H⟩
    · have h1 := H.2 j (ready_mono hj hji)
      obtain ⟨hjun, oj, hoj, hall⟩ := mem_ready.1 hj
      have hnot : ∀ e ∈ oj.after, Region.binds md e = true → e.on ≠ i := both_ready hr hj hoj
      have h2 := wpOp_putIf hoj (hfree j oj hoj hji hjun hnot) (fun cs b => hsel i oi cs b hi) (fun cs b => hsel j oj cs b hoj) hQ hy h1
      have hfree' : ∀ k ok, ops[k]? = some ok → k ≠ i → (listed.setIfInBounds j true).getD k true = false →
          (∀ e ∈ ok.after, Region.binds md e = true → e.on ≠ i) → oi.apart ops ok = true := fun k ok hk hki hun hno => by
        refine hfree k ok hk hki ?_ hno
        by_cases hjk : j = k
        · subst hjk; exact hjun
        · rw [getD_set_ne true hjk] at hun; exact hun
      have hout := via_out hv hr hu hj
      have hjz : j ≠ z := fun e => hout (by rw [e]; exact List.mem_cons_self)
      have hu' : ∀ m ∈ ms, (listed.setIfInBounds j true).getD m true = false := fun m hm => by
        have hjm : j ≠ m := fun e => hout (by rw [e]; exact List.mem_cons_of_mem _ hm)
        rw [getD_set_ne true hjm]
        exact hu m hm
      refine wpOp_mono (fun a' w' h3 => ⟨h3.2.1, ih (listed.setIfInBounds j true) a' w' hfree' (ready_mono hr (Ne.symm hji)) hu' h3.1 (h3.2.1 hjz) ?_⟩) h2
      rw [Array.setIfInBounds_comm _ _ hji]
      exact h3.2.2
def viaB (md : Region.Mode) (ops : Array Oper) (listed : Array Bool) (ms : List Nat) (z i : Nat) : Bool :=
  ((z :: ms).all fun m => match ops[m]? with | none => false | some om => om.after.any fun e => Region.binds md e && (e.on == i || ms.contains e.on)) && ms.all fun m => !(listed.getD m true)
theorem viaB_spec {listed : Array Bool} {ms : List Nat} {i : Nat} (h : viaB md ops listed ms z i = true) : Via md ops ms z i ∧ ∀ m ∈ ms, listed.getD m true = false := by
  unfold viaB at h
  rw [Bool.and_eq_true, List.all_eq_true, List.all_eq_true] at h
  refine ⟨fun m hm => ?_, fun m hm => by simpa using h.2 m hm⟩
  have h1 := h.1 m hm
  cases ho : ops[m]? with
  | none => rw [ho] at h1; cases h1
  | some om =>
    rw [ho] at h1
    obtain ⟨e, he, hb⟩ := Array.any_eq_true'.1 h1
    simp only [Bool.and_eq_true, Bool.or_eq_true, beq_iff_eq, List.contains_iff_mem] at hb
    exact ⟨om, rfl, e, he, hb.1, hb.2⟩
theorem wpAnyL_via (ms : List Nat) {i : Nat} {oi : Oper} {v : Value} {fuel : Nat} {listed : Array Bool} {a : Act} {w : World} (hi : ops[i]? = some oi)
    (hs : Region.noSelect ops = true) (hf : Region.free md ops listed i = true) (hr : (Region.ready md ops listed).contains i = true) (hw : viaB md ops listed ms z i = true)
    (hQ : ∀ c a w, Q (.panic c) (a.put oi.dst v) w → Q (.panic c) a w) (hy : YieldsIf P ops S oi v a) (hS : S w)
    (h : wpAnyL P md ops Q S z fuel (listed.setIfInBounds i true) (a.put oi.dst v) w) : wpAnyL P md ops Q S z (fuel + 1) listed a w := by
  obtain ⟨h1, h2⟩ := viaB_spec hw
  exact wpAnyL_firstV hi (Region.noSelect_spec hs) hQ h1 fuel listed a w (Region.free_spec hi hf) (by simpa using hr) h2 hy hS h
end
end Go.Proofs.Ytdeaiefhegjalaa.last
