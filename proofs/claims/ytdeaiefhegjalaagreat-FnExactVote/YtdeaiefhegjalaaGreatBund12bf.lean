/- The program's copy of a job. The specification's SureAll. -/
import Derived.Test.YtdeaiefhegjalaaGreatBund12at
import Derived.Test.YtdeaiefhegjalaaGreatBund12au
import Derived.Test.YtdeaiefhegjalaaGreatBund12be
import Derived.Test.YtdeaiefhegjalaaGreatBund12ao
namespace Go.Proofs.YtdeaiefhegjalaaGreat.cos
open Go Go.RowKit Go.Proofs.YtdeaiefhegjalaaGreat.base Go.Proofs.YtdeaiefhegjalaaGreat.pairs Go.Proofs.YtdeaiefhegjalaaGreat.ords Go.Proofs.YtdeaiefhegjalaaGreat.lay Go.Proofs.YtdeaiefhegjalaaGreat.wds
set_option linter.unusedVariables false
set_option linter.unusedSimpArgs false

theorem row_new (w : World) (ty : TypeId) (size : Nat) : (w.alloc (.cells #[] ty)).ownsRow 0 ty size (.slice (some ⟨w.heap.size, 0, none⟩) 0 0) 0 [] := World.ownsRow_made w #[] 0 (Nat.zero_le _) (Nat.zero_le _) (by simp)
theorem row_below {w w' : World} {ty : TypeId} {size g : Nat} (h : w.ownsRow 0 ty size (.slice (some ⟨g, 0, none⟩) 0 0) 0 []) (hb : Below w.heap.size w w') : w'.ownsRow 0 ty size (.slice (some ⟨g, 0, none⟩) 0 0) 0 [] :=
  h.kept (row := none) ⟨hb.os, hb.tape, hb.output, hb.size, fun k hk _ => hb.block k hk⟩ (.inr (by simp [Value.ownBlock]))
theorem row_grown {w w' : World} {ty : TypeId} {size g k : Nat} (h : w.ownsRow 0 ty size (.slice (some ⟨g, 0, none⟩) 0 0) 0 []) (hg : w.grownBy w' (some k)) (hne : g ≠ k) : w'.ownsRow 0 ty size (.slice (some ⟨g, 0, none⟩) 0 0) 0 [] :=
  h.kept hg (.inr (by simp [Value.ownBlock, hne]))
set_option maxRecDepth 100000 in
set_option maxHeartbeats 4000000 in
theorem i_ownJob (b off : Nat) (tx st : Int) (oa : Option Addr) (ol oc : Nat) (ya : Option Addr) (yl yc : Nat) (ops : List Od) (yes : List Int) (w : World) (c0 : w.cell? ⟨b, off, none⟩ = some (.int .i64 tx)) (c1 : w.cell? ⟨b, off + 1, none⟩ = some (.slice oa ol oc)) (c2 : w.cell? ⟨b, off + 2, none⟩ = some (.int .i64 st)) (c3 : w.cell? ⟨b, off + 3, none⟩ = some (.slice ya yl yc))
    (k1 : (Lit.int .i64 tx).wf = true) (k3 : (Lit.int .i64 st).wf = true) (hO : SlO w oa ol ops) (hoc : ol ≤ oc) (hY : SlZ w ya yl yes) (hyc : yl ≤ yc) (hyw : ∀ z ∈ yes, (Lit.int .i64 z).wf = true) (hs1 : ol ≤ 1099511627776) (hs2 : yl ≤ 1099511627776) :
    Calls Tryz.prog 65 #[.pointer (some ⟨b, off, none⟩)] w (RetR jobR w (tx, ops, st, yes)) := by
  obtain ⟨W, hW⟩ : ∃ W, w.alloc (.cells #[.int .i64 0, .slice none 0 0, .int .i64 0, .slice none 0 0] 96) = W := ⟨_, rfl⟩
  have hB : Below w.heap.size w W := by rw [← hW]; exact below_make
  have hR : BoxIn w.heap.size 96 [] [.int .i64 0, .slice none 0 0, .int .i64 0, .slice none 0 0] [] W := by rw [← hW]; exact boxIn_new w _ _
  have hRl := hR.lt
  have HW := Hid.mk' hW
  clear hW
  have hbw := World.block_lt_of_cell? _ _ c0
  have hbl : b < W.heap.size := Nat.lt_of_lt_of_le hbw hB.size
  replace c0 := (hB.cell (p := ⟨b, off, none⟩) hbw).trans c0
  replace c1 := (hB.cell (p := ⟨b, off + 1, none⟩) hbw).trans c1
  replace c2 := (hB.cell (p := ⟨b, off + 2, none⟩) hbw).trans c2
  replace c3 := (hB.cell (p := ⟨b, off + 3, none⟩) hbw).trans c3
  have HCO := Hid.mk' (fun g wx (hx : Below W.heap.size W wx) (hg : wx.ownsRow 0 101 3 (.slice (some ⟨g, 0, none⟩) 0 0) 0 []) => copy_ops g oa ol oc 56 hg ((hO.below hB).below hx) hoc hs1)
  have HCY := Hid.mk' (fun g wx (hx : Below W.heap.size W wx) (hg : wx.ownsRow 0 3 1 (.slice (some ⟨g, 0, none⟩) 0 0) 0 []) => copy_ints g ya yl yc 92 hg ((hY.below hB).below hx) hyw hyc hs2)
  have hdW : Below W.heap.size W W.drew := (Below.refl _ _).drew
  clear hO hY hoc hyc hs1 hs2 hbw
  go_enter Tryz.func65, Tryz.ntmps65
  go_wp2_with fail
  rw [HW.out]
  refine last.wp_region_later (S := fun w' => Below W.heap.size W w') 21 (by kernel_rfl) hdW (fun hHeld0 => ?_)
  generalize hD : W.drew = D at *
  clear hD
  refine last.wpAnyL_take (i := 0) (v := (.pointer (some ⟨b, off, none⟩))) rfl rfl (by kernel_rfl) (by kernel_rfl) (by kernel_rfl) (by kernel_rfl) (fun _ _ _ h => h) (Or.inl ⟨by rfl, ?_⟩) (by assumption) ?_
  · intro wq hSq; go_simp
  try simp only [Act.put, List.setIfInBounds_toArray, List.set_cons_zero, List.set_cons_succ]
  refine last.wpAnyL_take (i := 1) (v := (.pointer (some ⟨b, off, none⟩))) rfl rfl (by kernel_rfl) (by kernel_rfl) (by kernel_rfl) (by kernel_rfl) (fun _ _ _ h => h) (Or.inl ⟨by rfl, ?_⟩) (by assumption) ?_
  · intro wq hSq; go_simp
  try simp only [Act.put, List.setIfInBounds_toArray, List.set_cons_zero, List.set_cons_succ]
  refine last.wpAnyL_take (i := 2) (v := (.pointer (some ⟨b, off, none⟩))) rfl rfl (by kernel_rfl) (by kernel_rfl) (by kernel_rfl) (by kernel_rfl) (fun _ _ _ h => h) (Or.inl ⟨by rfl, ?_⟩) (by assumption) ?_
  · intro wq hSq; go_simp
  try simp only [Act.put, List.setIfInBounds_toArray, List.set_cons_zero, List.set_cons_succ]
  refine last.wpAnyL_take (i := 3) (v := (.int .i64 tx)) rfl rfl (by kernel_rfl) (by kernel_rfl) (by kernel_rfl) (by kernel_rfl) (fun _ _ _ h => h) (Or.inl ⟨by rfl, ?_⟩) (by assumption) ?_
  · intro wq hSq; have q := (hSq.cell (p := ⟨b, off, none⟩) hbl).trans c0; go_simp
  try simp only [Act.put, List.setIfInBounds_toArray, List.set_cons_zero, List.set_cons_succ]
  refine last.wpAnyL_take (i := 5) (v := (.pointer (some ⟨b, off, none⟩))) rfl rfl (by kernel_rfl) (by kernel_rfl) (by kernel_rfl) (by kernel_rfl) (fun _ _ _ h => h) (Or.inl ⟨by rfl, ?_⟩) (by assumption) ?_
  · intro wq hSq; go_simp
  try simp only [Act.put, List.setIfInBounds_toArray, List.set_cons_zero, List.set_cons_succ]
  refine last.wpAnyL_take (i := 6) (v := (.pointer (some ⟨b, off, none⟩))) rfl rfl (by kernel_rfl) (by kernel_rfl) (by kernel_rfl) (by kernel_rfl) (fun _ _ _ h => h) (Or.inl ⟨by rfl, ?_⟩) (by assumption) ?_
  · intro wq hSq; go_simp
  try simp only [Act.put, List.setIfInBounds_toArray, List.set_cons_zero, List.set_cons_succ]
  refine last.wpAnyL_take (i := 7) (v := (.pointer (some ⟨b, off + 1, none⟩))) rfl rfl (by kernel_rfl) (by kernel_rfl) (by kernel_rfl) (by kernel_rfl) (fun _ _ _ h => h) (Or.inl ⟨by rfl, ?_⟩) (by assumption) ?_
  · intro wq hSq; go_simp
  try simp only [Act.put, List.setIfInBounds_toArray, List.set_cons_zero, List.set_cons_succ]
  refine last.wpAnyL_take (i := 8) (v := (.slice oa ol oc)) rfl rfl (by kernel_rfl) (by kernel_rfl) (by kernel_rfl) (by kernel_rfl) (fun _ _ _ h => h) (Or.inl ⟨by rfl, ?_⟩) (by assumption) ?_
  · intro wq hSq; have q := (hSq.cell (p := ⟨b, off + 1, none⟩) hbl).trans c1; go_simp
  try simp only [Act.put, List.setIfInBounds_toArray, List.set_cons_zero, List.set_cons_succ]
  refine last.wpAnyL_take (i := 10) (v := (.pointer (some ⟨b, off, none⟩))) rfl rfl (by kernel_rfl) (by kernel_rfl) (by kernel_rfl) (by kernel_rfl) (fun _ _ _ h => h) (Or.inl ⟨by rfl, ?_⟩) (by assumption) ?_
  · intro wq hSq; go_simp
  try simp only [Act.put, List.setIfInBounds_toArray, List.set_cons_zero, List.set_cons_succ]
  refine last.wpAnyL_take (i := 11) (v := (.pointer (some ⟨b, off, none⟩))) rfl rfl (by kernel_rfl) (by kernel_rfl) (by kernel_rfl) (by kernel_rfl) (fun _ _ _ h => h) (Or.inl ⟨by rfl, ?_⟩) (by assumption) ?_
  · intro wq hSq; go_simp
  try simp only [Act.put, List.setIfInBounds_toArray, List.set_cons_zero, List.set_cons_succ]
  refine last.wpAnyL_take (i := 12) (v := (.pointer (some ⟨b, off + 2, none⟩))) rfl rfl (by kernel_rfl) (by kernel_rfl) (by kernel_rfl) (by kernel_rfl) (fun _ _ _ h => h) (Or.inl ⟨by rfl, ?_⟩) (by assumption) ?_
  · intro wq hSq; go_simp
  try simp only [Act.put, List.setIfInBounds_toArray, List.set_cons_zero, List.set_cons_succ]
  refine last.wpAnyL_take (i := 13) (v := (.int .i64 st)) rfl rfl (by kernel_rfl) (by kernel_rfl) (by kernel_rfl) (by kernel_rfl) (fun _ _ _ h => h) (Or.inl ⟨by rfl, ?_⟩) (by assumption) ?_
  · intro wq hSq; have q := (hSq.cell (p := ⟨b, off + 2, none⟩) hbl).trans c2; go_simp
  try simp only [Act.put, List.setIfInBounds_toArray, List.set_cons_zero, List.set_cons_succ]
  refine last.wpAnyL_take (i := 15) (v := (.pointer (some ⟨b, off, none⟩))) rfl rfl (by kernel_rfl) (by kernel_rfl) (by kernel_rfl) (by kernel_rfl) (fun _ _ _ h => h) (Or.inl ⟨by rfl, ?_⟩) (by assumption) ?_
  · intro wq hSq; go_simp
  try simp only [Act.put, List.setIfInBounds_toArray, List.set_cons_zero, List.set_cons_succ]
  refine last.wpAnyL_take (i := 16) (v := (.pointer (some ⟨b, off, none⟩))) rfl rfl (by kernel_rfl) (by kernel_rfl) (by kernel_rfl) (by kernel_rfl) (fun _ _ _ h => h) (Or.inl ⟨by rfl, ?_⟩) (by assumption) ?_
  · intro wq hSq; go_simp
  try simp only [Act.put, List.setIfInBounds_toArray, List.set_cons_zero, List.set_cons_succ]
  refine last.wpAnyL_take (i := 17) (v := (.pointer (some ⟨b, off + 3, none⟩))) rfl rfl (by kernel_rfl) (by kernel_rfl) (by kernel_rfl) (by kernel_rfl) (fun _ _ _ h => h) (Or.inl ⟨by rfl, ?_⟩) (by assumption) ?_
  · intro wq hSq; go_simp
  try simp only [Act.put, List.setIfInBounds_toArray, List.set_cons_zero, List.set_cons_succ]
  refine last.wpAnyL_take (i := 18) (v := (.slice ya yl yc)) rfl rfl (by kernel_rfl) (by kernel_rfl) (by kernel_rfl) (by kernel_rfl) (fun _ _ _ h => h) (Or.inl ⟨by rfl, ?_⟩) (by assumption) ?_
  · intro wq hSq; have q := (hSq.cell (p := ⟨b, off + 3, none⟩) hbl).trans c3; go_simp
  try simp only [Act.put, List.setIfInBounds_toArray, List.set_cons_zero, List.set_cons_succ]
  refine last.wpAnyL_two (i := 4) (j := 14) (o := { dst := some 7, op := Op.buildSlice 56 0 #[], type := 56, pos := "l11_coord.go:159", after := #[], guard := none }) (o' := { dst := some 17, op := Op.buildSlice 92 0 #[], type := 92, pos := "l11_coord.go:159", after := #[], guard := none }) (by kernel_rfl) rfl rfl (fun K hK => ?wayA) (fun K hK => ?wayB)
  case' wayA =>
    go_simp
    have hb_wB : Below W.heap.size W (D.alloc (.cells #[] 101)) := hdW.alloc hdW.size _
    have hr1 := row_new D 101 3
    have hlt_wB : D.heap.size < (D.alloc (.cells #[] 101)).heap.size := by simp
    have hge_wB := hdW.size
    refine hK.out _ _ ?_ (fun hHeld => ?_)
    · exact hb_wB
    clear hK K hHeld0
    have hHeld0 := hHeld
    clear hHeld
    try simp only [Act.put, List.setIfInBounds_toArray, List.set_cons_zero, List.set_cons_succ]
    generalize hw_wB : D.alloc (.cells #[] 101) = wB at *
    clear hw_wB
    refine last.wpAnyL_two (i := 9) (j := 14) (o := { dst := some 12, op := Op.call { callee := Callee.builtin Builtin.append, args := #[Operand.tmp 7, Operand.tmp 11], argTypes := #[56, 56] }, type := 56, pos := "l11_coord.go:159", after := #[{ on := 4, ground := Ground.data }, { on := 8, ground := Ground.data }], guard := none }) (o' := { dst := some 17, op := Op.buildSlice 92 0 #[], type := 92, pos := "l11_coord.go:159", after := #[], guard := none }) (by kernel_rfl) rfl rfl (fun K hK => ?wayA1) (fun K hK => ?wayA2)
  case' wayA1 =>
    obtain ⟨g1, cp1, wC, hrun1, ho1, hgr1, hloc1⟩ := HCO.out _ wB hb_wB hr1
    refine step_append_run rfl (.tmp 7) (.tmp 11) 56 rfl (by kernel_rfl) (by kernel_rfl) hrun1 ?_
    have hg1w := (hr1.lt _ rfl).2
    have hb_wC : Below W.heap.size W wC := hb_wB.grown hgr1 hb_wB.size (fun k e => by cases e; omega)
    have hgs1 := hgr1.size
    refine hK.out _ _ ?_ (fun hHeld => ?_)
    · exact hb_wC
    clear hK K hHeld0
    have hHeld0 := hHeld
    clear hHeld
    try simp only [Act.put, List.setIfInBounds_toArray, List.set_cons_zero, List.set_cons_succ]
    clear hrun1 hr1
    refine last.wpAnyL_one (i := 14) (o := { dst := some 17, op := Op.buildSlice 92 0 #[], type := 92, pos := "l11_coord.go:159", after := #[], guard := none }) (by kernel_rfl) rfl (fun K hK => ?_)
    go_simp
    have hb_wA : Below W.heap.size W (wC.alloc (.cells #[] 3)) := hb_wC.alloc hb_wC.size _
    have hr2 := row_new wC 3 1
    have hlt_wA : wC.heap.size < (wC.alloc (.cells #[] 3)).heap.size := by simp
    have hge_wA := hb_wC.size
    have hl1 := opsR.ownLt ho1 g1 (by simp)
    replace ho1 := opsR.ownBelow ho1 (below_make (o := .cells #[] 3))
    refine hK.out _ _ ?_ (fun hHeld => ?_)
    · exact hb_wA
    clear hK K hHeld0
    have hHeld0 := hHeld
    clear hHeld
    try simp only [Act.put, List.setIfInBounds_toArray, List.set_cons_zero, List.set_cons_succ]
    generalize hw_wA : wC.alloc (.cells #[] 3) = wA at *
    clear hw_wA
    have hne : g1 ≠ wC.heap.size := by omega
    have hb_A := hb_wA
    have hg1b : W.heap.size ≤ g1 := by rcases hloc1 with e | e <;> omega
    have hg2b : W.heap.size ≤ wC.heap.size := by omega
  case' wayA2 =>
    go_simp
    have hb_wC : Below W.heap.size W (wB.alloc (.cells #[] 3)) := hb_wB.alloc hb_wB.size _
    have hr2 := row_new wB 3 1
    have hlt_wC : wB.heap.size < (wB.alloc (.cells #[] 3)).heap.size := by simp
    have hge_wC := hb_wB.size
    replace hr1 := row_below hr1 (below_make (o := .cells #[] 3))
    refine hK.out _ _ ?_ (fun hHeld => ?_)
    · exact hb_wC
    clear hK K hHeld0
    have hHeld0 := hHeld
    clear hHeld
    try simp only [Act.put, List.setIfInBounds_toArray, List.set_cons_zero, List.set_cons_succ]
    generalize hw_wC : wB.alloc (.cells #[] 3) = wC at *
    clear hw_wC
    refine last.wpAnyL_one (i := 9) (o := { dst := some 12, op := Op.call { callee := Callee.builtin Builtin.append, args := #[Operand.tmp 7, Operand.tmp 11], argTypes := #[56, 56] }, type := 56, pos := "l11_coord.go:159", after := #[{ on := 4, ground := Ground.data }, { on := 8, ground := Ground.data }], guard := none }) (by kernel_rfl) rfl (fun K hK => ?_)
    obtain ⟨g1, cp1, wA, hrun1, ho1, hgr1, hloc1⟩ := HCO.out _ wC hb_wC hr1
    refine step_append_run rfl (.tmp 7) (.tmp 11) 56 rfl (by kernel_rfl) (by kernel_rfl) hrun1 ?_
    have hg1w := (hr1.lt _ rfl).2
    have hb_wA : Below W.heap.size W wA := hb_wC.grown hgr1 hb_wC.size (fun k e => by cases e; omega)
    have hgs1 := hgr1.size
    replace hr2 := row_grown hr2 hgr1 (by omega)
    refine hK.out _ _ ?_ (fun hHeld => ?_)
    · exact hb_wA
    clear hK K hHeld0
    have hHeld0 := hHeld
    clear hHeld
    try simp only [Act.put, List.setIfInBounds_toArray, List.set_cons_zero, List.set_cons_succ]
    clear hrun1 hr1
    have hne : g1 ≠ wB.heap.size := by rcases hloc1 with e | e <;> omega
    have hb_A := hb_wA
    have hg1b : W.heap.size ≤ g1 := by rcases hloc1 with e | e <;> omega
    have hg2b : W.heap.size ≤ wB.heap.size := by omega
  case' wayB =>
    go_simp
    have hb_wB : Below W.heap.size W (D.alloc (.cells #[] 3)) := hdW.alloc hdW.size _
    have hr2 := row_new D 3 1
    have hlt_wB : D.heap.size < (D.alloc (.cells #[] 3)).heap.size := by simp
    have hge_wB := hdW.size
    refine hK.out _ _ ?_ (fun hHeld => ?_)
    · exact hb_wB
    clear hK K hHeld0
    have hHeld0 := hHeld
    clear hHeld
    try simp only [Act.put, List.setIfInBounds_toArray, List.set_cons_zero, List.set_cons_succ]
    generalize hw_wB : D.alloc (.cells #[] 3) = wB at *
    clear hw_wB
    refine last.wpAnyL_one (i := 4) (o := { dst := some 7, op := Op.buildSlice 56 0 #[], type := 56, pos := "l11_coord.go:159", after := #[], guard := none }) (by kernel_rfl) rfl (fun K hK => ?_)
    go_simp
    have hb_wC : Below W.heap.size W (wB.alloc (.cells #[] 101)) := hb_wB.alloc hb_wB.size _
    have hr1 := row_new wB 101 3
    have hlt_wC : wB.heap.size < (wB.alloc (.cells #[] 101)).heap.size := by simp
    have hge_wC := hb_wB.size
    replace hr2 := row_below hr2 (below_make (o := .cells #[] 101))
    refine hK.out _ _ ?_ (fun hHeld => ?_)
    · exact hb_wC
    clear hK K hHeld0
    have hHeld0 := hHeld
    clear hHeld
    try simp only [Act.put, List.setIfInBounds_toArray, List.set_cons_zero, List.set_cons_succ]
    generalize hw_wC : wB.alloc (.cells #[] 101) = wC at *
    clear hw_wC
    refine last.wpAnyL_one (i := 9) (o := { dst := some 12, op := Op.call { callee := Callee.builtin Builtin.append, args := #[Operand.tmp 7, Operand.tmp 11], argTypes := #[56, 56] }, type := 56, pos := "l11_coord.go:159", after := #[{ on := 4, ground := Ground.data }, { on := 8, ground := Ground.data }], guard := none }) (by kernel_rfl) rfl (fun K hK => ?_)
    obtain ⟨g1, cp1, wA, hrun1, ho1, hgr1, hloc1⟩ := HCO.out _ wC hb_wC hr1
    refine step_append_run rfl (.tmp 7) (.tmp 11) 56 rfl (by kernel_rfl) (by kernel_rfl) hrun1 ?_
    have hg1w := (hr1.lt _ rfl).2
    have hb_wA : Below W.heap.size W wA := hb_wC.grown hgr1 hb_wC.size (fun k e => by cases e; omega)
    have hgs1 := hgr1.size
    replace hr2 := row_grown hr2 hgr1 (by omega)
    refine hK.out _ _ ?_ (fun hHeld => ?_)
    · exact hb_wA
    clear hK K hHeld0
    have hHeld0 := hHeld
    clear hHeld
    try simp only [Act.put, List.setIfInBounds_toArray, List.set_cons_zero, List.set_cons_succ]
    clear hrun1 hr1
    have hne : g1 ≠ D.heap.size := by rcases hloc1 with e | e <;> omega
    have hb_A := hb_wA
    have hg1b : W.heap.size ≤ g1 := by rcases hloc1 with e | e <;> omega
    have hg2b : W.heap.size ≤ D.heap.size := by omega
  all_goals
    refine last.wpAnyL_one (i := 19) (o := { dst := some 22, op := Op.call { callee := Callee.builtin Builtin.append, args := #[Operand.tmp 17, Operand.tmp 21], argTypes := #[92, 92] }, type := 92, pos := "l11_coord.go:159", after := #[{ on := 14, ground := Ground.data }, { on := 18, ground := Ground.data }, { on := 9, ground := Ground.chain }], guard := none }) (by kernel_rfl) rfl (fun K hK => ?_)
    obtain ⟨g2, cp2, wZ, hrun2, hy2, hgr2, hloc2⟩ := HCY.out _ wA hb_A hr2
    refine step_append_run rfl (.tmp 17) (.tmp 21) 92 rfl (by kernel_rfl) (by kernel_rfl) hrun2 ?_
    have hg2w := (hr2.lt _ rfl).2
    have hl1 := opsR.ownLt ho1 g1 (by simp)
    have hb_Z : Below W.heap.size W wZ := hb_A.grown hgr2 hb_A.size (fun k e => by cases e; omega)
    replace ho1 := opsR.ownGrown ho1 hgr2 (fun k hk e => by simp only [List.mem_singleton] at hk; subst hk; simp only [Option.some.injEq] at e; omega)
    have hgb2 : W.heap.size ≤ g2 ∧ g1 ≠ g2 := by
      have hs := hb_A.size
      rcases hloc2 with e | e
      · rw [e]; exact ⟨hg2b, hne⟩
      · exact ⟨by omega, by omega⟩
    refine hK.out _ _ ?_ (fun hHeld => ?_)
    · exact hb_Z
    clear hK K hHeld0
    have hHeld0 := hHeld
    clear hHeld
    try simp only [Act.put, List.setIfInBounds_toArray, List.set_cons_zero, List.set_cons_succ]
    clear hrun2 hr2 hgr2 hloc2
    refine last.wpAnyL_take (i := 20) (v := (.agg #[.int .i64 tx, .slice (some ⟨g1, 0, none⟩) ol cp1, .int .i64 st, .slice (some ⟨g2, 0, none⟩) yl cp2])) rfl rfl (by kernel_rfl) (by kernel_rfl) (by kernel_rfl) (by kernel_rfl) (fun _ _ _ h => h) (Or.inl ⟨by rfl, ?_⟩) (by assumption) ?_
    · intro wq hSq; go_simp
    try simp only [Act.put, List.setIfInBounds_toArray, List.set_cons_zero, List.set_cons_succ]
    have hRZ := hR.below hb_Z
    obtain ⟨z0, z1, z2, z3⟩ := cells4 hRZ
    have f0 := hRZ.fz 0
    have f1 := hRZ.fz 1
    have f2 := hRZ.fz 2
    have f3 := hRZ.fz 3
    have hS := hRZ.whole [.int .i64 tx, .slice (some ⟨g1, 0, none⟩) ol cp1, .int .i64 st, .slice (some ⟨g2, 0, none⟩) yl cp2] rfl
    obtain ⟨y0, y1, y2, y3⟩ := cells4 hS.1
    simp only [putAll, Nat.zero_add, Nat.reduceAdd] at y0 y1 y2 y3
    have hBz := (hB.trans (hb_Z.mono hB.size)).grown hS.2 (hB.trans (hb_Z.mono hB.size)).size (fun j e => by cases e; omega)
    replace ho1 := opsR.ownGrown ho1 hS.2 (fun k hk e => by simp only [List.mem_singleton] at hk; subst hk; simp only [Option.some.injEq] at e; omega)
    replace hy2 := intsR.ownGrown hy2 hS.2 (fun k hk e => by simp only [List.mem_singleton] at hk; subst hk; simp only [Option.some.injEq] at e; omega)
    have HOW := Hid.mk' (job_mk k1 k3 ho1 hy2 (by simp; omega))
    have HBz := Hid.mk' hBz
    have HFN : Hid (∀ k ∈ [g1] ++ [g2], w.heap.size ≤ k) := fun k hk => by
      have := hB.size
      simp only [List.mem_append, List.mem_singleton] at hk
      rcases hk with e | e <;> subst e <;> omega
    clear ho1 hy2 hBz hS
    refine last.wpAnyL_last (o := { dst := none, op := Op.store 96 (Operand.tmp 2) (Operand.tmp 23), type := 0, pos := "l11_coord.go:159", after := #[{ on := 20, ground := Ground.data }, { on := 19, ground := Ground.chain }, { on := 0, ground := Ground.phase }, { on := 1, ground := Ground.phase }, { on := 2, ground := Ground.phase }, { on := 3, ground := Ground.phase }, { on := 4, ground := Ground.phase }, { on := 5, ground := Ground.phase }, { on := 6, ground := Ground.phase }, { on := 7, ground := Ground.phase }, { on := 8, ground := Ground.phase }, { on := 9, ground := Ground.phase }, { on := 10, ground := Ground.phase }, { on := 11, ground := Ground.phase }, { on := 12, ground := Ground.phase }, { on := 13, ground := Ground.phase }, { on := 14, ground := Ground.phase }, { on := 15, ground := Ground.phase }, { on := 16, ground := Ground.phase }, { on := 17, ground := Ground.phase }, { on := 18, ground := Ground.phase }, { on := 19, ground := Ground.phase }, { on := 20, ground := Ground.phase }], guard := none }) (by kernel_rfl) rfl (by kernel_rfl) (fun K hK => ?_)
    go_simp
    refine hK.out _ _ ?_
    clear hK K
    go_wp2_with fail
    refine bodyPost_ret (v := .agg #[.int .i64 tx, .slice (some ⟨g1, 0, none⟩) ol cp1, .int .i64 st, .slice (some ⟨g2, 0, none⟩) yl cp2]) ?_ rfl ⟨_, _, rfl, HOW.out, HFN.out, HBz.out⟩
    simp [results, Tryz.results65, go_sem, y0, y1, y2, y3]
end Go.Proofs.YtdeaiefhegjalaaGreat.cos

namespace Go.Proofs.YtdeaiefhegjalaaGreat.cos
open Go Go.RowKit Go.Proofs.YtdeaiefhegjalaaGreat.base Go.Proofs.YtdeaiefhegjalaaGreat.pairs Go.Proofs.YtdeaiefhegjalaaGreat.ords Go.Proofs.YtdeaiefhegjalaaGreat.lay Go.Proofs.YtdeaiefhegjalaaGreat.wds
set_option linter.unusedVariables false
set_option linter.unusedSimpArgs false

/-- all choices are sure -/
def sureR (c : Co) : Co := if coordOk c = true then (c.1, c.2.1, c.2.2.1, c.2.2.2.1, c.2.2.2.2.1, (c.2.2.2.2.1.length : Int)) else c
theorem boxC_set5 {X : Nat} {n life next sure : Int} {ja : Option Addr} {jn jc : Nat} {la : Option Addr} {ln lc : Nat} {w : World} (h : BoxC X n life next sure ja jn jc la ln lc w) (z : Int) : BoxC X n life next z ja jn jc la ln lc (w.setCell ⟨X, 5, none⟩ (.int .i64 z)) ∧ w.grownBy (w.setCell ⟨X, 5, none⟩ (.int .i64 z)) (some X) := set_cur h 5 _
set_option maxRecDepth 100000 in
set_option maxHeartbeats 2000000 in
theorem spec_sureAll (ja : Option Addr) (jn jc : Nat) (la : Option Addr) (ln lc : Nat) (c : Co) (w : World) (h : SeeCo w ja jn jc la ln lc c) (hf : FitsCo c) (hyf : ∀ j ∈ c.2.2.2.1, j.2.2.2.length ≤ 1099511627776) :
    Calls Tryz.prog 11 #[coV c.1 c.2.1 c.2.2.1 c.2.2.2.2.2 ja jn jc la ln lc] w fun e w' => CopyPost w jn ln (sureR c) e w' := by
  have hll := h.log.1
  have hlm := h.log.2.1
  unfold maxLen at hlm
  obtain ⟨W, hW⟩ : ∃ W, (w.alloc (coO c.1 c.2.1 c.2.2.1 c.2.2.2.2.2 ja jn jc la ln lc)).alloc (coO 0 0 0 0 none 0 0 none 0 0) = W := ⟨_, rfl⟩
  have hB : Below w.heap.size w W := by rw [← hW]; exact ((Below.refl _ _).alloc (Nat.le_refl _) _).alloc (by simp) _
  have hsW : W.heap.size = w.heap.size + 1 + 1 := by rw [← hW]; simp
  have hp : BoxC w.heap.size c.1 c.2.1 c.2.2.1 c.2.2.2.2.2 ja jn jc la ln lc W := by rw [← hW]; exact (boxC_new w _ _ _ _ _ _ _ _ _ _).below (below_new _ _)
  have hr : BoxC (w.heap.size + 1) 0 0 0 0 none 0 0 none 0 0 W := by
    rw [← hW]
    have := boxC_new (w.alloc (coO c.1 c.2.1 c.2.2.1 c.2.2.2.2.2 ja jn jc la ln lc)) 0 0 0 0 none 0 0 none 0 0
    have e : (w.alloc (coO c.1 c.2.1 c.2.2.1 c.2.2.2.2.2 ja jn jc la ln lc)).heap.size = w.heap.size + 1 := by simp
    rw [e] at this; exact this
  have HCP := Hid.mk' (spec_copy ja jn jc la ln lc c W (h.below hB) hf hyf)
  have HOK := Hid.mk' (fun wx (hx : Below w.heap.size w wx) => spec_coordOk ja jn jc la ln lc c wx (h.below hx) hf)
  have HW := Hid.mk' hW
  obtain ⟨x0, x1, x2, x3, x4, x5⟩ := hp.cells
  rw [← hW] at x0 x1 x2 x3 x4 x5
  have HP := Hid.mk' hp
  have HRB := Hid.mk' hr
  have HSR : Hid (sureR c = if coordOk c = true then (c.1, c.2.1, c.2.2.1, c.2.2.2.1, c.2.2.2.2.1, (ln : Int)) else c) := by show _ = _; unfold sureR; rw [hll]
  clear hW h hf hyf hp hr hll
  obtain ⟨n, life, next, jobs, log, sure⟩ := c
  simp only [] at *
  go_enter Tryz.func11, Tryz.ntmps11
  go_wp2_with fail
  rw [HW.out]
  refine HCP.out.mono ?_
  rintro e w1 ⟨gj, jcap, gl, lcap, q, ql, rfl, hJ, hL, hnew, hne, hb1⟩
  simp only [] at hJ hL
  obtain ⟨V, hV⟩ : ∃ V, w1.alloc (coO n life next sure (some ⟨gj, 0, none⟩) jn jcap (some ⟨gl, 0, none⟩) ln lcap) = V := ⟨_, rfl⟩
  have hbV : Below w1.heap.size w1 V := by rw [← hV]; exact below_new _ _
  have hB1 := hB.trans (hb1.mono hB.size)
  have hBV := hB1.trans (hbV.mono hB1.size)
  have hoV : BoxC w1.heap.size n life next sure (some ⟨gj, 0, none⟩) jn jcap (some ⟨gl, 0, none⟩) ln lcap V := by rw [← hV]; exact boxC_new _ _ _ _ _ _ _ _ _ _ _
  have HKV := Hid.mk' (HOK.out V hBV)
  clear x0 x1 x2 x3 x4 x5 HCP HW
  obtain ⟨x0, x1, x2, x3, x4, x5⟩ := ((HP.out.below hb1).below hbV).cells
  have HJ := Hid.mk' hJ
  have HL := Hid.mk' hL
  have HNW := Hid.mk' hnew
  have HNE := Hid.mk' hne
  have hs1 := hb1.size
  have HJlt : Hid (∀ b ∈ gl :: gj :: blocksOf q, b < w1.heap.size) := fun b hb => by
    rcases List.mem_cons.1 hb with e | e
    · subst e; exact hL.at_ _ (List.mem_append.2 (.inl (by simp [Value.ownBlock])))
    · exact hJ.at_ _ (by simpa [Value.ownBlock] using e)
  have HLlt : Hid (∀ b ∈ blocksOf ql, b < w1.heap.size ∧ W.heap.size ≤ b) := fun b hb => by
    have := (flat_ch.parts hL).2.2.1
    rw [this] at hb; cases hb
  have hrV := (HRB.out.below hb1).below hbV
  -- the answer, out of a world that keeps what was copied
  have HFIN : Hid (∀ (z : Int) (u : World), Below w.heap.size w u → w1.heap.size ≤ u.heap.size → (∀ b, b < w1.heap.size → w.heap.size + 1 + 1 ≤ b → u.heap[b]? = w1.heap[b]?) → (n, life, next, jobs, log, z) = sureR (n, life, next, jobs, log, sure) → CopyPost w jn ln (sureR (n, life, next, jobs, log, sure)) (.returned (coV n life next z (some ⟨gj, 0, none⟩) jn jcap (some ⟨gl, 0, none⟩) ln lcap)) u) := fun z u hu hsz hk he => by
    rw [← he]
    refine ⟨gj, jcap, gl, lcap, q, ql, rfl, HJ.out.keep fun b hb => ?_, HL.out.keep fun b hb => ?_, fun b hb => by have := HNW.out b hb; omega, HNE.out, hu⟩
    · have h1 := HJlt.out b (List.mem_cons_of_mem _ (by simpa [Value.ownBlock] using hb))
      have h2 := HNW.out b (List.mem_cons_of_mem _ (by simpa [Value.ownBlock] using hb))
      exact hk b h1 (by omega)
    · rcases List.mem_append.1 hb with hb | hb
      · have e : b = gl := by simp [Value.ownBlock] at hb; omega
        subst e
        have h1 := HJlt.out b (by simp)
        have h2 := HNW.out b (by simp)
        exact hk b h1 (by omega)
      · have := HLlt.out b hb
        exact hk b this.1 (by omega)
  clear hJ hL hnew hne HJ HL HNW HNE HJlt HLlt
  cases hok : coordOk (n, life, next, jobs, log, sure)
  · rw [hok] at HKV
    have HE : Hid ((n, life, next, jobs, log, sure) = sureR (n, life, next, jobs, log, sure)) := by show _ = _; rw [HSR.out, hok]; rfl
    clear hok
    go_wp2_with fail
    refine HKV.out.mono ?_
    rintro e w2 ⟨rfl, hb2⟩
    have hB2 := hBV.trans (hb2.mono hBV.size)
    have ho2 := hoV.below hb2
    have hr2 := hrV.below hb2
    obtain ⟨o0, o1, o2, o3, o4, o5⟩ := ho2.cells
    obtain ⟨r0, r1, r2, r3, r4, r5⟩ := hr2.cells
    have f0 := hr2.fz 0
    have f1 := hr2.fz 1
    have f2 := hr2.fz 2
    have f3 := hr2.fz 3
    have f4 := hr2.fz 4
    have f5 := hr2.fz 5
    have hz := boxC_set6 hr2 n life next sure (some ⟨gj, 0, none⟩) jn jcap (some ⟨gl, 0, none⟩) ln lcap
    have HZC := Hid.mk' hz.1.cells
    have HF := Hid.mk' (HFIN.out sure _ (hB2.grown hz.2 hB2.size (fun b e => by cases e; omega)) (by have h1 := hz.2.size; have h2 := hb2.size; have h3 := hbV.size; omega) (fun b hb hb2' => by
      rw [hz.2.block b (by have h2 := hb2.size; have h3 := hbV.size; omega) (by simp; omega), hb2.block b (by have h3 := hbV.size; omega), hbV.block b hb]) HE.out)
    clear hz HFIN hr2 ho2 x0 x1 x2 x3 x4 x5
    go_wp2_with fail
    have hzc := HZC.out
    refine bodyPost_ret (v := .agg #[.int .i64 n, .int .i64 life, .int .i64 next, .slice (some ⟨gj, 0, none⟩) jn jcap, .slice (some ⟨gl, 0, none⟩) ln lcap, .int .i64 sure]) ?_ rfl HF.out
    simp [results, Tryz.results11, go_sem, hzc.1, hzc.2.1, hzc.2.2.1, hzc.2.2.2.1, hzc.2.2.2.2.1, hzc.2.2.2.2.2]
  · rw [hok] at HKV
    have HE : Hid ((n, life, next, jobs, log, (ln : Int)) = sureR (n, life, next, jobs, log, sure)) := by show _ = _; rw [HSR.out, hok]; rfl
    clear hok
    go_wp2_with fail
    refine HKV.out.mono ?_
    rintro e w2 ⟨rfl, hb2⟩
    have hB2 := hBV.trans (hb2.mono hBV.size)
    have ho2 := hoV.below hb2
    have hr2 := hrV.below hb2
    have hlo := ho2.lt
    have s5 := boxC_set5 ho2 (ln : Int)
    obtain ⟨o0, o1, o2, o3, o4, o5⟩ := ho2.cells
    have of5 := ho2.fz 5
    obtain ⟨W5, hW5⟩ : ∃ W5, w2.setCell ⟨w1.heap.size, 5, none⟩ (.int .i64 (ln : Int)) = W5 := ⟨_, rfl⟩
    rw [hW5] at s5
    have hs15 : w.heap.size + 1 < w1.heap.size := by omega
    have hr5 := hr2.grown s5.2 (by simp; omega)
    have hB5 := hB2.grown s5.2 hB2.size (fun b e => by cases e; omega)
    obtain ⟨t0, t1, t2, t3, t4, t5⟩ := s5.1.cells
    obtain ⟨r0, r1, r2, r3, r4, r5⟩ := hr5.cells
    have f0 := hr5.fz 0
    have f1 := hr5.fz 1
    have f2 := hr5.fz 2
    have f3 := hr5.fz 3
    have f4 := hr5.fz 4
    have f5 := hr5.fz 5
    have hz := boxC_set6 hr5 n life next (ln : Int) (some ⟨gj, 0, none⟩) jn jcap (some ⟨gl, 0, none⟩) ln lcap
    have HZC := Hid.mk' hz.1.cells
    have HF := Hid.mk' (HFIN.out (ln : Int) _ (hB5.grown hz.2 hB5.size (fun b e => by cases e; omega)) (by have h1 := hz.2.size; have h2 := hb2.size; have h3 := hbV.size; have h4 := s5.2.size; omega) (fun b hb hb2' => by
      rw [hz.2.block b (by have h2 := hb2.size; have h3 := hbV.size; have h4 := s5.2.size; omega) (by simp; omega), s5.2.block b (by have h2 := hb2.size; have h3 := hbV.size; omega) (by simp; omega), hb2.block b (by have h3 := hbV.size; omega), hbV.block b hb]) HE.out)
    clear hz HFIN hr2 ho2 hr5 s5 x0 x1 x2 x3 x4 x5
    go_wp2_with fail
    have hzc := HZC.out
    refine bodyPost_ret (v := .agg #[.int .i64 n, .int .i64 life, .int .i64 next, .slice (some ⟨gj, 0, none⟩) jn jcap, .slice (some ⟨gl, 0, none⟩) ln lcap, .int .i64 (ln : Int)]) ?_ rfl HF.out
    simp [results, Tryz.results11, go_sem, hzc.1, hzc.2.1, hzc.2.2.1, hzc.2.2.2.1, hzc.2.2.2.2.1, hzc.2.2.2.2.2]
end Go.Proofs.YtdeaiefhegjalaaGreat.cos
