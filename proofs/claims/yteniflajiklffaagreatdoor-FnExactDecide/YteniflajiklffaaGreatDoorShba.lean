/- The program's shard has no room. The program's shard writes down what it holds. The program's shard writes down what it holds. The program's shard holds: what is answered. The specification's shard: it does and lets go, whatever it is. -/
import Derived.Test.YteniflajiklffaaGreatDoorShau
import Derived.Test.YteniflajiklffaaGreatDoorShav
import Derived.Test.YteniflajiklffaaGreatDoorShat
namespace Go.Proofs.YteniflajiklffaaGreatDoor.recs
open Go Go.RowKit Go.Proofs.YteniflajiklffaaGreatDoor.base Go.Proofs.YteniflajiklffaaGreatDoor.pairs Go.Proofs.YteniflajiklffaaGreatDoor.ords Go.Proofs.YteniflajiklffaaGreatDoor.helps Go.Proofs.YteniflajiklffaaGreatDoor.help Go.Proofs.YteniflajiklffaaGreatDoor.lay Go.Proofs.YteniflajiklffaaGreatDoor.sent
set_option linter.unusedVariables false
set_option linter.unusedSimpArgs false

end Go.Proofs.YteniflajiklffaaGreatDoor.recs

namespace Go.Proofs.YteniflajiklffaaGreatDoor.stepc
open Go
end Go.Proofs.YteniflajiklffaaGreatDoor.stepc
namespace Go.Proofs.YteniflajiklffaaGreatDoor.recs
open Go Go.RowKit Go.Proofs.YteniflajiklffaaGreatDoor.base Go.Proofs.YteniflajiklffaaGreatDoor.pairs Go.Proofs.YteniflajiklffaaGreatDoor.ords Go.Proofs.YteniflajiklffaaGreatDoor.helps Go.Proofs.YteniflajiklffaaGreatDoor.help Go.Proofs.YteniflajiklffaaGreatDoor.lay Go.Proofs.YteniflajiklffaaGreatDoor.sent
set_option linter.unusedVariables false
set_option linter.unusedSimpArgs false

end Go.Proofs.YteniflajiklffaaGreatDoor.recs

namespace Go.Proofs.YteniflajiklffaaGreatDoor.recs
open Go Go.RowKit Go.Proofs.YteniflajiklffaaGreatDoor.base Go.Proofs.YteniflajiklffaaGreatDoor.pairs Go.Proofs.YteniflajiklffaaGreatDoor.ords Go.Proofs.YteniflajiklffaaGreatDoor.helps Go.Proofs.YteniflajiklffaaGreatDoor.help Go.Proofs.YteniflajiklffaaGreatDoor.lay Go.Proofs.YteniflajiklffaaGreatDoor.sent
set_option linter.unusedVariables false
set_option linter.unusedSimpArgs false

end Go.Proofs.YteniflajiklffaaGreatDoor.recs

namespace Go.Proofs.YteniflajiklffaaGreatDoor.sent
open Go Go.RowKit Go.Extern.Stop Go.Stop Go.Extern Go.Proofs.YteniflajiklffaaGreatDoor.base
set_option linter.unusedVariables false
set_option linter.unusedSimpArgs false
set_option maxRecDepth 100000 in
theorem is_ref_other (tx : Int) (a b : Addr) (ca cb : Array Value) (ta tb : TypeId) (w : World) (hne : a ≠ b) (ha : w.heap[a.block]? = some (.cells ca ta (0, 0))) (hb : w.heap[b.block]? = some (.cells cb tb (0, 0))) :
    Calls Tryz.prog 47 #[.iface 107 (.agg #[.int .i64 tx, .iface 180 (.pointer (some a))]), .iface 180 (.pointer (some b))] w fun e w' => e = .returned (.bool false) ∧ Below w.heap.size w w' := by
  obtain ⟨i, hi, hcmp⟩ := Option.map_eq_some_iff.1 isComp
  obtain ⟨j, hj, hjs⟩ := Option.map_eq_some_iff.1 isSize
  have h8 := @run_callFunc_extern Tryz.prog 94 _ Extern.ReflectliteType.typeOf Tryz.func94 (by kernel_rfl) (by kernel_rfl) (by kernel_rfl) (by kernel_rfl)
  have h32 := @run_callFunc_extern Tryz.prog 163 _ (Extern.ReflectliteType.method fun t => do Rtype.noPackHeld "Comparable" t; pure (.bool (← typeInfo t).comparable)) Tryz.func163 (by kernel_rfl) (by kernel_rfl) (by kernel_rfl) (by kernel_rfl)
  have tT := isTypeOf
  have cT := isComparable
  have mR := isMethodComparable
  have nE := noIsE
  have uE := noUnwrapE
  have vE := noUnwrapsE
  have nW := noIsR
  have uW := hasUnwrapR
  have mU := methodUnwrap
  have hb2 : ∀ o : Obj, Below w.heap.size w (w.alloc o) := fun o => (Below.refl _ _).alloc (Nat.le_refl _) _
  have heq := fun (o : Obj) => run_eql_iface_ptr_other (P := Tryz.prog) (w.alloc o) Tryz.underlying65 Tryz.underlying180 hi hcmp hj (by rw [hjs]; decide) hne (((hb2 o).block _ (Array.getElem?_eq_some_iff.1 ha).1).trans ha) (((hb2 o).block _ (Array.getElem?_eq_some_iff.1 hb).1).trans hb)
  have hty := fun w => run_eql_iface_types (P := Tryz.prog) 107 180 (.agg #[.int .i64 tx, .iface 180 (.pointer (some a))]) (.pointer (some b)) Tryz.underlying65 (by decide) w
  go_enter Tryz.func47, Tryz.ntmps47
  go_wp2
  refine wp_loop_rounds 2 ?_
  rw [rounds_succ]
  go_wp2
  rw [rounds_succ]
  go_wp2
  go_ret
  exact ⟨rfl, hb2 _⟩
theorem is_ref {G : List Nat} {A : Nat → Addr} (tx : Int) (g k : Nat) (hg : g ∈ G) (hk : k ∈ G) (w : World) (h : KS G A w) :
    Calls Tryz.prog 47 #[.iface 107 (.agg #[.int .i64 tx, .iface 180 (.pointer (some (A g)))]), .iface 180 (.pointer (some (A k)))] w fun e w' => e = .returned (.bool (decide (g = k))) ∧ Below w.heap.size w w' := by
  by_cases e : g = k
  · subst e
    rw [decide_eq_true rfl]
    exact is_ref_same tx _ w
  · rw [decide_eq_false e]
    obtain ⟨c1, t1, r1⟩ := h.row g hg
    obtain ⟨c2, t2, r2⟩ := h.row k hk
    exact is_ref_other tx _ _ _ _ _ _ w (h.ne g hg k hk e) r1 r2
end Go.Proofs.YteniflajiklffaaGreatDoor.sent
namespace Go.Proofs.YteniflajiklffaaGreatDoor.recs
open Go Go.RowKit Go.Proofs.YteniflajiklffaaGreatDoor.base Go.Proofs.YteniflajiklffaaGreatDoor.pairs Go.Proofs.YteniflajiklffaaGreatDoor.ords Go.Proofs.YteniflajiklffaaGreatDoor.helps Go.Proofs.YteniflajiklffaaGreatDoor.help Go.Proofs.YteniflajiklffaaGreatDoor.lay Go.Proofs.YteniflajiklffaaGreatDoor.sent
set_option linter.unusedVariables false
set_option linter.unusedSimpArgs false
/-! ### what is held, or why not -/
end Go.Proofs.YteniflajiklffaaGreatDoor.recs

namespace Go.Proofs.YteniflajiklffaaGreatDoor.recs
open Go Go.RowKit Go.Proofs.YteniflajiklffaaGreatDoor.base Go.Proofs.YteniflajiklffaaGreatDoor.pairs Go.Proofs.YteniflajiklffaaGreatDoor.ords Go.Proofs.YteniflajiklffaaGreatDoor.helps Go.Proofs.YteniflajiklffaaGreatDoor.help Go.Proofs.YteniflajiklffaaGreatDoor.lay
set_option linter.unusedVariables false
set_option linter.unusedSimpArgs false

set_option maxRecDepth 100000 in
set_option maxHeartbeats 4000000 in
theorem spec_decide (la : Option Addr) (ln lc : Nat) (ma : Option Addr) (mn mc : Nat) (ha : Option Addr) (hn hc : Nat) (s : Shd) (tx : Int) (yes : Bool) (w : World) (h : SeeSh w la ln lc ma mn mc ha hn hc s) (hb : Bound s) (htx : (Lit.int .i64 tx).wf = true) :
    Calls Tryz.prog 16 #[aggSh s.1 s.2.2.1 la ln lc ma mn mc ha hn hc, .int .i64 tx, .bool yes] w (Ret2 w (decideR s tx yes).1 (.bool (decideR s tx yes).2)) := by
  obtain ⟨b1, b2, b3⟩ := SeeSh.few h hb
  obtain ⟨W, hW⟩ : ∃ W, (w.alloc (boxSh s.1 s.2.2.1 la ln lc ma mn mc ha hn hc)).alloc (boxSh 0 0 none 0 0 none 0 0 none 0 0) = W := ⟨_, rfl⟩
  have hba : Below w.heap.size w (w.alloc (boxSh s.1 s.2.2.1 la ln lc ma mn mc ha hn hc)) := below_alloc
  have hB : Below w.heap.size w W := by rw [← hW]; exact hba.alloc hba.size _
  have hA : BoxIn w.heap.size 27 [] (shVals s.1 s.2.2.1 la ln lc ma mn mc ha hn hc) [] W := by rw [← hW]; exact (boxIn_new w _ _).below below_alloc
  have hR : BoxIn (w.heap.size + 1) 27 [] (shVals 0 0 none 0 0 none 0 0 none 0 0) [] W := by
    rw [← hW]
    have := boxIn_new (w.alloc (boxSh s.1 s.2.2.1 la ln lc ma mn mc ha hn hc)) (shVals 0 0 none 0 0 none 0 0 none 0 0) 27
    rwa [show (w.alloc (boxSh s.1 s.2.2.1 la ln lc ma mn mc ha hn hc)).heap.size = w.heap.size + 1 by simp] at this
  have hsW : w.heap.size + 1 < W.heap.size := hR.lt
  have HW := Hid.mk' hW
  have a0 := hA.cell 0 _ rfl
  have a1 := hA.cell 1 _ rfl
  have a2 := hA.cell 2 _ rfl
  have a3 := hA.cell 3 _ rfl
  have a4 := hA.cell 4 _ rfl
  simp only [List.length_nil, Nat.zero_add] at a0 a1 a2 a3 a4
  rw [← hW] at a0 a1 a2 a3 a4
  have HCP := Hid.mk' (spec_copySh la ln lc ma mn mc ha hn hc s W (h.below hB) hb.few hb.fewH (by omega) (by omega) (by omega))
  have HOK := Hid.mk' (fun wx (hx : Below w.heap.size w wx) => spec_shardOk la ln lc ma mn mc ha hn hc s wx (h.below hx) hb.few)
  have HHO := Hid.mk' (fun (X : Nat) (la' : Option Addr) (ln' lc' : Nat) (ma' : Option Addr) (mn' mc' : Nat) (ha' : Option Addr) (hn' hc' : Nat) (F : List Nat) wx (hx : Below w.heap.size w wx) (hi : InSh wx X 27 [] [] la' ln' lc' ma' mn' mc' ha' hn' hc' s F) (hRt : Right s) =>
    spec_l9Decide X 27 [] [] la' ln' lc' ma' mn' mc' ha' hn' hc' s F tx yes wx hi htx hRt)
  have HCP2 := Hid.mk' (fun wx (hx : Below w.heap.size w wx) => spec_copySh la ln lc ma mn mc ha hn hc s wx (h.below hx) hb.few hb.fewH (by omega) (by omega) (by omega))
  clear hW h hba
  go_enter Tryz.func16, Tryz.ntmps16
  go_wp2_with fail
  rw [HW.out]
  refine HCP.out.mono ?_
  rintro e w1 ⟨gl, cl, gm, cm, gh, ch, F, rfl, hO1, hF1, hb1⟩
  have hB1 := hB.trans (hb1.mono hB.size)
  obtain ⟨v1, hv1⟩ : ∃ v1, w1.alloc (boxSh s.1 s.2.2.1 (some ⟨gl, 0, none⟩) ln cl (some ⟨gm, 0, none⟩) mn cm (some ⟨gh, 0, none⟩) hn ch) = v1 := ⟨_, rfl⟩
  have hc1 : Below w1.heap.size w1 v1 := by rw [← hv1]; exact below_alloc
  have hX1 := inBox_new hO1
  rw [hv1] at hX1
  have hA1 := (hA.below hb1).below hc1
  have hR1 := (hR.below hb1).below hc1
  have hBv := hB1.trans (hc1.mono hB1.size)
  have hsz1 := hb1.size
  clear a0 a1 a2 a3 a4 HW HCP hO1
  have a0 := hA1.cell 0 _ rfl
  have a1 := hA1.cell 1 _ rfl
  have a2 := hA1.cell 2 _ rfl
  have a3 := hA1.cell 3 _ rfl
  have a4 := hA1.cell 4 _ rfl
  simp only [List.length_nil, Nat.zero_add] at a0 a1 a2 a3 a4
  rw [← hv1] at a0 a1 a2 a3 a4
  have HV1 := Hid.mk' hv1
  have HOK1 := Hid.mk' (HOK.out v1 hBv)
  clear hv1 HOK
  go_wp2_with fail
  rw [HV1.out]
  refine HOK1.out.mono ?_
  rintro e w2 ⟨rfl, hb2⟩
  have hX2 := hX1.below hb2
  have hA2 := hA1.below hb2
  have hR2 := hR1.below hb2
  have hB2 := hBv.trans (hb2.mono hBv.size)
  have hFR : ∀ k ∈ F, W.heap.size ≤ k := hF1
  have hXR : w.heap.size + 1 ≠ w1.heap.size := by omega
  clear a0 a1 a2 a3 a4 HV1 HOK1 hX1 hA1 hR1 hBv hc1 hb2
  cases hok : shardOk s with
  | false =>
    have hd0 : decideR s tx yes = (s, false) := by unfold decideR; rw [hok]; rfl
    have HE0 := Hid.mk' hd0
    clear hd0 hok
    have HCZ := Hid.mk' (HCP2.out w2 hB2)
    obtain ⟨a0, a1, a2, a3, a4⟩ := (show _ ∧ _ ∧ _ ∧ _ ∧ _ from ⟨hA2.cell 0 _ rfl, hA2.cell 1 _ rfl, hA2.cell 2 _ rfl, hA2.cell 3 _ rfl, hA2.cell 4 _ rfl⟩)
    simp only [List.length_nil, Nat.zero_add] at a0 a1 a2 a3 a4
    go_wp2_with fail
    refine HCZ.out.mono ?_
    rintro e w9 ⟨gl9, cl9, gm9, cm9, gh9, ch9, F9, rfl, hO9, hF9, hb9⟩
    have hR9 := hR2.below hb9
    have hB9 := hB2.trans (hb9.mono hB2.size)
    have hsC := hB2.size
    have hRl := hR2.lt
    clear a0 a1 a2 a3 a4 HCZ
    have z0 := hR9.cell 0 _ rfl
    have z1 := hR9.cell 1 _ rfl
    have z2 := hR9.cell 2 _ rfl
    have z3 := hR9.cell 3 _ rfl
    have z4 := hR9.cell 4 _ rfl
    simp only [List.length_nil, Nat.zero_add] at z0 z1 z2 z3 z4
    have f0 := hR9.fz 0
    have f1 := hR9.fz 1
    have f2 := hR9.fz 2
    have f3 := hR9.fz 3
    have f4 := hR9.fz 4
    have hS5 := hR9.set5 (.int .i64 s.1) (.slice (some ⟨gl9, 0, none⟩) ln cl9) (.int .i64 s.2.2.1) (.slice (some ⟨gm9, 0, none⟩) mn cm9) (.slice (some ⟨gh9, 0, none⟩) hn ch9)
    simp only [List.length_nil, Nat.zero_add] at hS5
    have hOz := hO9.keep (fun j hj => hS5.2.block j (hO9.lt j hj) (fun e => by have := hF9 j hj; have := Option.some.inj e; omega))
    have hBz := hB9.grown hS5.2 hB9.size (fun j e => by cases e; omega)
    have hzc0 := hS5.1.cell 0 _ rfl
    have hzc1 := hS5.1.cell 1 _ rfl
    have hzc2 := hS5.1.cell 2 _ rfl
    have hzc3 := hS5.1.cell 3 _ rfl
    have hzc4 := hS5.1.cell 4 _ rfl
    simp only [List.length_nil, Nat.zero_add] at hzc0 hzc1 hzc2 hzc3 hzc4
    have HP := Hid.mk' (ret2_mk (w := w) (v := .bool false) hOz (fun k hk => by have := hF9 k hk; omega) hBz)
    clear hOz hBz hS5 hR9 hB9
    go_wp2_with fail
    refine bodyPost_ret (v := .tuple #[aggSh s.1 s.2.2.1 (some ⟨gl9, 0, none⟩) ln cl9 (some ⟨gm9, 0, none⟩) mn cm9 (some ⟨gh9, 0, none⟩) hn ch9, .bool false]) ?_ rfl (by rw [HE0.out]; exact HP.out)
    simp [results, Tryz.results16, go_sem, hzc0, hzc1, hzc2, hzc3, hzc4]
  | true =>
    have hRt := (shardOk_iff s).1 hok
    have HE1 : Hid (decideR s tx yes = decideS s tx yes) := by show _ = _; unfold decideR; rw [hok]; rfl
    have hXF : ∀ k ∈ w1.heap.size :: F, w.heap.size ≤ k := fun k hk => by
      rcases List.mem_cons.1 hk with e | e
      · omega
      · have := hFR k e; omega
    have HH2 := Hid.mk' (HHO.out _ _ _ _ _ _ _ _ _ _ _ w2 hB2 hX2 hRt)
    have hRF : w.heap.size + 1 ∉ w1.heap.size :: F := fun e => by
      rcases List.mem_cons.1 e with e | e
      · omega
      · have := hFR _ e; omega
    clear hok hRt HHO
    go_wp2_with fail
    refine HH2.out.mono ?_
    rintro e w3 ⟨rfl, la3, ln3, lc3, ma3, mn3, mc3, ha3, hn3, hc3, F3, hX3, hfr3, hnew3⟩
    have hR3 := hR2.frame hfr3 hRF
    have hB3 : Below w.heap.size w w3 := hB2.trans (hfr3.bel hB2.size hXF)
    have hF3 : ∀ k ∈ F3, w.heap.size ≤ k := fun k hk => by
      rcases hnew3 k hk with e | e
      · exact hXF k (List.mem_cons_of_mem _ e)
      · have := hB2.size; omega
    have hF3R : w.heap.size + 1 ∉ F3 := fun e => by
      rcases hnew3 _ e with e2 | e2
      · exact hRF (List.mem_cons_of_mem _ e2)
      · have := hR2.lt; omega
    have hsame : (decideS s tx yes).2 = false → (decideS s tx yes).1 = s := fun e => by
      rcases decideS_cases s tx yes with e2 | ⟨e2, _⟩ | ⟨e2, _⟩
      · exact e2
      · rw [e2] at e; cases e
      · rw [e2] at e; cases e
    generalize decideS s tx yes = HS at *
    obtain ⟨t, okk⟩ := HS
    simp only [] at hX3 hsame
    have hA3 : BoxIn w.heap.size 27 [] (shVals s.1 s.2.2.1 la ln lc ma mn mc ha hn hc) [] w3 := hA2.frame hfr3 (fun e => by
      rcases List.mem_cons.1 e with e | e
      · omega
      · have := hFR _ e; omega)
    cases okk with
    | false =>
      have hts := hsame rfl
      subst hts
      have HE0 : Hid (decideR t tx yes = (t, false)) := HE1.out
      have HCZ := Hid.mk' (HCP2.out w3 hB3)
      obtain ⟨a0, a1, a2, a3, a4⟩ := (show _ ∧ _ ∧ _ ∧ _ ∧ _ from ⟨hA3.cell 0 _ rfl, hA3.cell 1 _ rfl, hA3.cell 2 _ rfl, hA3.cell 3 _ rfl, hA3.cell 4 _ rfl⟩)
      simp only [List.length_nil, Nat.zero_add] at a0 a1 a2 a3 a4
      go_wp2_with fail
      refine HCZ.out.mono ?_
      rintro e w9 ⟨gl9, cl9, gm9, cm9, gh9, ch9, F9, rfl, hO9, hF9, hb9⟩
      have hR9 := hR3.below hb9
      have hB9 := hB3.trans (hb9.mono hB3.size)
      have hsC := hB3.size
      have hRl := hR3.lt
      clear a0 a1 a2 a3 a4 HCZ
      have z0 := hR9.cell 0 _ rfl
      have z1 := hR9.cell 1 _ rfl
      have z2 := hR9.cell 2 _ rfl
      have z3 := hR9.cell 3 _ rfl
      have z4 := hR9.cell 4 _ rfl
      simp only [List.length_nil, Nat.zero_add] at z0 z1 z2 z3 z4
      have f0 := hR9.fz 0
      have f1 := hR9.fz 1
      have f2 := hR9.fz 2
      have f3 := hR9.fz 3
      have f4 := hR9.fz 4
      have hS5 := hR9.set5 (.int .i64 t.1) (.slice (some ⟨gl9, 0, none⟩) ln cl9) (.int .i64 t.2.2.1) (.slice (some ⟨gm9, 0, none⟩) mn cm9) (.slice (some ⟨gh9, 0, none⟩) hn ch9)
      simp only [List.length_nil, Nat.zero_add] at hS5
      have hOz := hO9.keep (fun j hj => hS5.2.block j (hO9.lt j hj) (fun e => by have := hF9 j hj; have := Option.some.inj e; omega))
      have hBz := hB9.grown hS5.2 hB9.size (fun j e => by cases e; omega)
      have hzc0 := hS5.1.cell 0 _ rfl
      have hzc1 := hS5.1.cell 1 _ rfl
      have hzc2 := hS5.1.cell 2 _ rfl
      have hzc3 := hS5.1.cell 3 _ rfl
      have hzc4 := hS5.1.cell 4 _ rfl
      simp only [List.length_nil, Nat.zero_add] at hzc0 hzc1 hzc2 hzc3 hzc4
      have HP := Hid.mk' (ret2_mk (w := w) (v := .bool false) hOz (fun k hk => by have := hF9 k hk; omega) hBz)
      clear hOz hBz hS5 hR9 hB9
      go_wp2_with fail
      refine bodyPost_ret (v := .tuple #[aggSh t.1 t.2.2.1 (some ⟨gl9, 0, none⟩) ln cl9 (some ⟨gm9, 0, none⟩) mn cm9 (some ⟨gh9, 0, none⟩) hn ch9, .bool false]) ?_ rfl (by rw [HE0.out]; exact HP.out)
      simp [results, Tryz.results16, go_sem, hzc0, hzc1, hzc2, hzc3, hzc4]
    | true =>
      have HE2 : Hid (decideR s tx yes = (t, true)) := HE1.out
      obtain ⟨q0, q1, q2, q3, q4⟩ := hX3.cells
      have z0 := hR3.cell 0 _ rfl
      have z1 := hR3.cell 1 _ rfl
      have z2 := hR3.cell 2 _ rfl
      have z3 := hR3.cell 3 _ rfl
      have z4 := hR3.cell 4 _ rfl
      simp only [List.length_nil, Nat.zero_add] at z0 z1 z2 z3 z4
      have f0 := hR3.fz 0
      have f1 := hR3.fz 1
      have f2 := hR3.fz 2
      have f3 := hR3.fz 3
      have f4 := hR3.fz 4
      have hS5 := hR3.set5 (.int .i64 t.1) (.slice la3 ln3 lc3) (.int .i64 t.2.2.1) (.slice ma3 mn3 mc3) (.slice ha3 hn3 hc3)
      simp only [List.length_nil, Nat.zero_add] at hS5
      have hOz := hX3.own.keep (fun j hj => hS5.2.block j (hX3.own.lt j hj) (fun e => hF3R (by rw [← Option.some.inj e]; exact hj)))
      have hBz := hB3.grown hS5.2 hB3.size (fun j e => by cases e; omega)
      have hzc0 := hS5.1.cell 0 _ rfl
      have hzc1 := hS5.1.cell 1 _ rfl
      have hzc2 := hS5.1.cell 2 _ rfl
      have hzc3 := hS5.1.cell 3 _ rfl
      have hzc4 := hS5.1.cell 4 _ rfl
      simp only [List.length_nil, Nat.zero_add] at hzc0 hzc1 hzc2 hzc3 hzc4
      have HP := Hid.mk' (ret2_mk (w := w) (v := .bool true) hOz hF3 hBz)
      clear hOz hBz hS5 hX2 hR2 hA2 hX3 hR3 HH2 hfr3 hnew3 hB3 hF3
      go_wp2_with fail
      refine bodyPost_ret (v := .tuple #[aggSh t.1 t.2.2.1 la3 ln3 lc3 ma3 mn3 mc3 ha3 hn3 hc3, .bool true]) ?_ rfl (by rw [HE2.out]; exact HP.out)
      simp [results, Tryz.results16, go_sem, hzc0, hzc1, hzc2, hzc3, hzc4]
end Go.Proofs.YteniflajiklffaaGreatDoor.recs
