/- The program's shard holds: what is answered. -/
import Derived.Test.YtggdgceglmbaiaaGreatDoorImT
import Derived.Test.YtggdgceglmbaiaaGreatDoorBund9ik
namespace Go.Proofs.YtggdgceglmbaiaaGreatDoor.sent
open Go Go.RowKit Go.Extern.Stop Go.Stop Go.Extern Go.Proofs.YtggdgceglmbaiaaGreatDoor.base
set_option linter.unusedVariables false
set_option linter.unusedSimpArgs false
set_option maxRecDepth 100000 in
theorem is_ref_other (tx : Int) (a b : Addr) (ca cb : Array Value) (ta tb : TypeId) (w : World) (hne : a ≠ b) (ha : w.heap[a.block]? = some (.cells ca ta (0, 0))) (hb : w.heap[b.block]? = some (.cells cb tb (0, 0))) :
    Calls Tryz.prog 20 #[.iface 74 (.agg #[.int .i64 tx, .iface 145 (.pointer (some a))]), .iface 145 (.pointer (some b))] w fun e w' => e = .returned (.bool false) ∧ Below w.heap.size w w' := by
  obtain ⟨i, hi, hcmp⟩ := Option.map_eq_some_iff.1 isComp
  obtain ⟨j, hj, hjs⟩ := Option.map_eq_some_iff.1 isSize
  have h8 := @run_callFunc_extern Tryz.prog 41 _ Extern.ReflectliteType.typeOf Tryz.func41 (by kernel_rfl) (by kernel_rfl) (by kernel_rfl) (by kernel_rfl)
  have h32 := @run_callFunc_extern Tryz.prog 126 _ (Extern.ReflectliteType.method fun t => do Rtype.noPackHeld "Comparable" t; pure (.bool (← typeInfo t).comparable)) Tryz.func126 (by kernel_rfl) (by kernel_rfl) (by kernel_rfl) (by kernel_rfl)
  have tT := isTypeOf
  have cT := isComparable
  have mR := isMethodComparable
  have nE := noIsE
  have uE := noUnwrapE
  have vE := noUnwrapsE
  have nW := noIsR
  have uW := hasUnwrapR
  have mU := methodUnwrap
  have hb2 : ∀ o : Obj, Below w.heap.size w (w.alloc o) := fun o => (Below.refl _ _).alloc (Nat.le_refl _) _
  have heq := fun (o : Obj) => run_eql_iface_ptr_other (P := Tryz.prog) (w.alloc o) Tryz.underlying48 Tryz.underlying145 hi hcmp hj (by rw [hjs]; decide) hne (((hb2 o).block _ (Array.getElem?_eq_some_iff.1 ha).1).trans ha) (((hb2 o).block _ (Array.getElem?_eq_some_iff.1 hb).1).trans hb)
  have hty := fun w => run_eql_iface_types (P := Tryz.prog) 74 145 (.agg #[.int .i64 tx, .iface 145 (.pointer (some a))]) (.pointer (some b)) Tryz.underlying48 (by decide) w
  go_enter Tryz.func20, Tryz.ntmps20
  go_wp2
  refine wp_loop_rounds 2 ?_
  rw [rounds_succ]
  go_wp2
  rw [rounds_succ]
  go_wp2
  go_ret
  exact ⟨rfl, hb2 _⟩
theorem is_ref {G : List Nat} {A : Nat → Addr} (tx : Int) (g k : Nat) (hg : g ∈ G) (hk : k ∈ G) (w : World) (h : KS G A w) :
    Calls Tryz.prog 20 #[.iface 74 (.agg #[.int .i64 tx, .iface 145 (.pointer (some (A g)))]), .iface 145 (.pointer (some (A k)))] w fun e w' => e = .returned (.bool (decide (g = k))) ∧ Below w.heap.size w w' := by
  by_cases e : g = k
  · subst e
    rw [decide_eq_true rfl]
    exact is_ref_same tx _ w
  · rw [decide_eq_false e]
    obtain ⟨c1, t1, r1⟩ := h.row g hg
    obtain ⟨c2, t2, r2⟩ := h.row k hk
    exact is_ref_other tx _ _ _ _ _ _ w (h.ne g hg k hk e) r1 r2
end Go.Proofs.YtggdgceglmbaiaaGreatDoor.sent
namespace Go.Proofs.YtggdgceglmbaiaaGreatDoor.recs
open Go Go.RowKit Go.Proofs.YtggdgceglmbaiaaGreatDoor.base Go.Proofs.YtggdgceglmbaiaaGreatDoor.pairs Go.Proofs.YtggdgceglmbaiaaGreatDoor.ords Go.Proofs.YtggdgceglmbaiaaGreatDoor.helps Go.Proofs.YtggdgceglmbaiaaGreatDoor.help Go.Proofs.YtggdgceglmbaiaaGreatDoor.lay Go.Proofs.YtggdgceglmbaiaaGreatDoor.sent
set_option linter.unusedVariables false
set_option linter.unusedSimpArgs false
end Go.Proofs.YtggdgceglmbaiaaGreatDoor.recs
