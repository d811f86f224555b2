/- Plain mathematics of one who decides: what is right is small, and stays right in a new life. -/
import Derived.Test.YtdeaiefhegjalaaBund13k
namespace Go.Proofs.Ytdeaiefhegjalaa.cos
open Go Go.RowKit Go.Proofs.Ytdeaiefhegjalaa.base Go.Proofs.Ytdeaiefhegjalaa.pairs Go.Proofs.Ytdeaiefhegjalaa.ords Go.Proofs.Ytdeaiefhegjalaa.lay Go.Proofs.Ytdeaiefhegjalaa.wds
set_option linter.unusedVariables false
set_option linter.unusedSimpArgs false

theorem rise_len : ∀ {l : List Int} {a b : Int}, l.Pairwise (· < ·) → (∀ x ∈ l, a ≤ x ∧ x ≤ b) → (l.length : Int) ≤ max 0 (b + 1 - a) := fun h h2 => asc_len h h2
theorem RightCo.jobsLen {c : Co} (h : RightCo c) : c.2.2.2.1.length ≤ 999 := by
  have := rise_len (a := c.2.1 * 1000) (b := c.2.1 * 1000 + c.2.2.1 - 1) h.rise (fun x hx => by
    obtain ⟨j, hj, rfl⟩ := List.mem_map.1 hx
    exact ⟨(h.jobs j hj).lo, (h.jobs j hj).hi⟩)
  have := h.next
  rw [List.length_map] at *
  omega
theorem sumO_bound : ∀ (l : List Od), (∀ p ∈ l, odOk p = true) → sumO l ≤ 33 * l.length := by
  intro l
  unfold sumO
  induction l with
  | nil => intro _; simp
  | cons p l ih =>
    intro h
    have h1 := ih fun x hx => h x (List.mem_cons_of_mem _ hx)
    have h2 := (odOk_iff p).1 (h p List.mem_cons_self)
    have h3 : p.2.1.size ≤ 13 := by
      have := h2.2.2.1
      unfold keyOk at this
      simp only [Bool.and_eq_true, decide_eq_true_eq] at this
      omega
    simp only [List.map_cons, List.sum_cons, List.length_cons]
    unfold osz at *
    omega
theorem JobFine.size {n life next : Int} {log : List Ch} {j : Jb} (h : JobFine n life next log j) (hn : 1 ≤ n ∧ n ≤ 8) : jsz j ≤ 280 := by
  have h1 := (opsOk_iff _).1 h.ops
  have h2 := sumO_bound j.2.1 h1.1.1
  have h3 := (yes_len hn h.yes).1
  unfold jsz
  omega
theorem sumJ_bound : ∀ (l : List Jb) (m : Nat), (∀ j ∈ l, jsz j ≤ m) → sumJ l ≤ m * l.length := by
  intro l m
  unfold sumJ
  induction l with
  | nil => intro _; simp
  | cons j l ih =>
    intro h
    have h1 := ih fun x hx => h x (List.mem_cons_of_mem _ hx)
    have h2 := h j List.mem_cons_self
    simp only [List.map_cons, List.sum_cons, List.length_cons, Nat.mul_add]
    omega
theorem RightCo.size {c : Co} (h : RightCo c) : csz c ≤ 300000 := by
  have h1 := h.jobsLen
  have h2 := h.few
  have h3 := sumJ_bound c.2.2.2.1 280 (fun j hj => (h.jobs j hj).size h.n)
  have h4 : 280 * c.2.2.2.1.length ≤ 280 * 999 := Nat.mul_le_mul_left _ h1
  unfold csz
  omega
theorem RightCo.bound {c : Co} (h : RightCo c) : BoundCo c := bound_co (by have := h.size; omega)
theorem right_new {n : Int} (h : 1 ≤ n ∧ n ≤ 8) : RightCo (n, 1, 0, [], [], 0) :=
  ⟨h, ⟨(by decide : (1 : Int) ≤ 1), (by decide : (1 : Int) ≤ 900)⟩, ⟨(by decide : (0 : Int) ≤ 0), (by decide : (0 : Int) ≤ 999)⟩, Nat.zero_le _, ⟨(by decide : (0 : Int) ≤ 0), (by decide : (0 : Int) ≤ 0)⟩, fun x hx => absurd hx List.not_mem_nil, List.nodup_nil, fun x hx => absurd hx List.not_mem_nil, List.Pairwise.nil⟩
theorem right_sure {c : Co} (h : RightCo c) : RightCo (c.1, c.2.1, c.2.2.1, c.2.2.2.1, c.2.2.2.2.1, (c.2.2.2.2.1.length : Int)) :=
  ⟨h.n, h.life, h.next, h.few, ⟨by show (0 : Int) ≤ (c.2.2.2.2.1.length : Int); omega, Int.le_refl _⟩, h.range, h.nodup, h.jobs, h.rise⟩
theorem right_crash {c : Co} (h : RightCo c) (keep : Int) : RightCo (crashS c keep) := by
  unfold crashS
  split
  · exact h
  · rename_i h9
    have hl := h.life
    have hn := h.next
    have hk := leftC_le (ln := c.2.2.2.2.1.length) (sure := c.2.2.2.2.2) (keep := keep) h.sure
    refine ⟨h.n, ⟨by show (1 : Int) ≤ c.2.1 + 1; omega, by show c.2.1 + 1 ≤ (900 : Int); omega⟩, ⟨(by decide : (0 : Int) ≤ 0), (by decide : (0 : Int) ≤ 999)⟩, ?_, ?_, fun x hx => ?_, ?_, fun x hx => absurd hx List.not_mem_nil, List.Pairwise.nil⟩
    · have := h.few
      simp only [List.length_take]; omega
    · simp only [List.length_take]; omega
    · have := h.range x (List.mem_of_mem_take hx)
      show 1000 ≤ x.1 ∧ x.1 ≤ (c.2.1 + 1) * 1000 + 0 - 1
      omega
    · simp only [List.map_take]
      exact List.Nodup.sublist (List.take_sublist _ _) h.nodup
theorem right_begin {c : Co} {ops : List Od} (h : RightCo c) : RightCo (beginS c ops).1 := by
  unfold beginS
  split
  · rename_i hm; exact begun_right h hm
  · exact h
theorem begin_life {c : Co} {ops : List Od} : (beginS c ops).1.2.1 = c.2.1 := by unfold beginS; split <;> rfl
theorem vote_life {c : Co} {shard tx : Int} {yes : Bool} : (voteS c shard tx yes).2.1 = c.2.1 := by
  cases e : votes c shard tx with
  | none => rw [voteS_none e]
  | some k =>
    obtain ⟨hk, _⟩ := votes_some e
    rw [voteS_eq e hk]; rfl
theorem crash_life {c : Co} {keep : Int} : (crashS c keep).2.1 ≤ c.2.1 + 1 := by
  unfold crashS
  split
  · omega
  · exact Int.le_refl _
end Go.Proofs.Ytdeaiefhegjalaa.cos
