/- The program's copy of a job. The specification's SureAll. -/
import Derived.Test.YtdeaiefhegjalaaBund12at
import Derived.Test.YtdeaiefhegjalaaBund12au
import Derived.Test.YtdeaiefhegjalaaBund12be
import Derived.Test.YtdeaiefhegjalaaBund12ao
namespace Go.Proofs.Ytdeaiefhegjalaa.cos
open Go Go.RowKit Go.Proofs.Ytdeaiefhegjalaa.base Go.Proofs.Ytdeaiefhegjalaa.pairs Go.Proofs.Ytdeaiefhegjalaa.ords Go.Proofs.Ytdeaiefhegjalaa.lay Go.Proofs.Ytdeaiefhegjalaa.wds
set_option linter.unusedVariables false
set_option linter.unusedSimpArgs false

theorem row_new (w : World) (ty : TypeId) (size : Nat) : (w.alloc (.cells #[] ty)).ownsRow 0 ty size (.slice (some ⟨w.heap.size, 0, none⟩) 0 0) 0 [] := World.ownsRow_made w #[] 0 (Nat.zero_le _) (Nat.zero_le _) (by simp)
theorem row_below {w w' : World} {ty : TypeId} {size g : Nat} (h : w.ownsRow 0 ty size (.slice (some ⟨g, 0, none⟩) 0 0) 0 []) (hb : Below w.heap.size w w') : w'.ownsRow 0 ty size (.slice (some ⟨g, 0, none⟩) 0 0) 0 [] :=
  h.kept (row := none) ⟨hb.os, hb.tape, hb.output, hb.size, fun k hk _ => hb.block k hk⟩ (.inr (by simp [Value.ownBlock]))
theorem row_grown {w w' : World} {ty : TypeId} {size g k : Nat} (h : w.ownsRow 0 ty size (.slice (some ⟨g, 0, none⟩) 0 0) 0 []) (hg : w.grownBy w' (some k)) (hne : g ≠ k) : w'.ownsRow 0 ty size (.slice (some ⟨g, 0, none⟩) 0 0) 0 [] :=
  h.kept hg (.inr (by simp [Value.ownBlock, hne]))
set_option maxRecDepth 100000 in
set_option maxHeartbeats 4000000 in
theorem i_ownJob (b off : Nat) (tx st : Int) (oa : Option Addr) (ol oc : Nat) (ya : Option Addr) (yl yc : Nat) (ops : List Od) (yes : List Int) (w : World) (c0 : w.cell? ⟨b, off, none⟩ = some (.int .i64 tx)) (c1 : w.cell? ⟨b, off + 1, none⟩ = some (.slice oa ol oc)) (c2 : w.cell? ⟨b, off + 2, none⟩ = some (.int .i64 st)) (c3 : w.cell? ⟨b, off + 3, none⟩ = some (.slice ya yl yc))
    (k1 : (Lit.int .i64 tx).wf = true) (k3 : (Lit.int .i64 st).wf = true) (hO : SlO w oa ol ops) (hoc : ol ≤ oc) (hY : SlZ w ya yl yes) (hyc : yl ≤ yc) (hyw : ∀ z ∈ yes, (Lit.int .i64 z).wf = true) (hs1 : ol ≤ 1099511627776) (hs2 : yl ≤ 1099511627776) :
    Calls Try.prog 31 #[.pointer (some ⟨b, off, none⟩)] w (RetR jobR w (tx, ops, st, yes)) := by
  obtain ⟨W, hW⟩ : ∃ W, w.alloc (.cells #[.int .i64 0, .slice none 0 0, .int .i64 0, .slice none 0 0] 37) = W := ⟨_, rfl⟩
  have hB : Below w.heap.size w W := by rw [← hW]; exact below_make
  have hR : BoxIn w.heap.size 37 [] [.int .i64 0, .slice none 0 0, .int .i64 0, .slice none 0 0] [] W := by rw [← hW]; exact boxIn_new w _ _
  have hRl := hR.lt
  have HW := Hid.mk' hW
  clear hW
  have hbw := World.block_lt_of_cell? _ _ c0
  have hbl : b < W.heap.size := Nat.lt_of_lt_of_le hbw hB.size
  replace c0 := (hB.cell (p := ⟨b, off, none⟩) hbw).trans c0
  replace c1 := (hB.cell (p := ⟨b, off + 1, none⟩) hbw).trans c1
  replace c2 := (hB.cell (p := ⟨b, off + 2, none⟩) hbw).trans c2
  replace c3 := (hB.cell (p := ⟨b, off + 3, none⟩) hbw).trans c3
  have HCO := Hid.mk' (fun g wx (hx : Below W.heap.size W wx) (hg : wx.ownsRow 0 76 3 (.slice (some ⟨g, 0, none⟩) 0 0) 0 []) => copy_ops g oa ol oc 34 hg ((hO.below hB).below hx) hoc hs1)
  have HCY := Hid.mk' (fun g wx (hx : Below W.heap.size W wx) (hg : wx.ownsRow 0 3 1 (.slice (some ⟨g, 0, none⟩) 0 0) 0 []) => copy_ints g ya yl yc 35 hg ((hY.below hB).below hx) hyw hyc hs2)
  have hdW : Below W.heap.size W W.drew := (Below.refl _ _).drew
  clear hO hY hoc hyc hs1 hs2 hbw
  go_enter Try.func31, Try.ntmps31
  go_wp2_with fail
  rw [HW.out]
  refine last.wp_region_later (S := fun w' => Below W.heap.size W w') 21 (by kernel_rfl) hdW (fun hHeld0 => ?_)
  generalize hD : W.drew = D at *
  clear hD
  refine last.wpAnyL_take (i := 0) (v := (.pointer (some ⟨b, off, none⟩))) rfl rfl (by kernel_rfl) (by kernel_rfl) (by kernel_rfl) (by kernel_rfl) (fun _ _ _ h => h) (Or.inl ⟨by rfl, ?_⟩) (by assumption) ?_
  · intro wq hSq; go_simp
  try simp only [Act.put, List.setIfInBounds_toArray, List.set_cons_zero, List.set_cons_succ]
  refine last.wpAnyL_take (i := 1) (v := (.pointer (some ⟨b, off, none⟩))) rfl rfl (by kernel_rfl) (by kernel_rfl) (by kernel_rfl) (by kernel_rfl) (fun _ _ _ h => h) (Or.inl ⟨by rfl, ?_⟩) (by assumption) ?_
  · intro wq hSq; go_simp
  try simp only [Act.put, List.setIfInBounds_toArray, List.set_cons_zero, List.set_cons_succ]
  refine last.wpAnyL_take (i := 2) (v := (.pointer (some ⟨b, off, none⟩))) rfl rfl (by kernel_rfl) (by kernel_rfl) (by kernel_rfl) (by kernel_rfl) (fun _ _ _ h => h) (Or.inl ⟨by rfl, ?_⟩) (by assumption) ?_
  · intro wq hSq; go_simp
  try simp only [Act.put, List.setIfInBounds_toArray, List.set_cons_zero, List.set_cons_succ]
  refine last.wpAnyL_take (i := 3) (v := (.int .i64 tx)) rfl rfl (by kernel_rfl) (by kernel_rfl) (by kernel_rfl) (by kernel_rfl) (fun _ _ _ h => h) (Or.inl ⟨by rfl, ?_⟩) (by assumption) ?_
  · intro wq hSq; have q := (hSq.cell (p := ⟨b, off, none⟩) hbl).trans c0; go_simp
  try simp only [Act.put, List.setIfInBounds_toArray, List.set_cons_zero, List.set_cons_succ]
  refine last.wpAnyL_take (i := 5) (v := (.pointer (some ⟨b, off, none⟩))) rfl rfl (by kernel_rfl) (by kernel_rfl) (by kernel_rfl) (by kernel_rfl) (fun _ _ _ h => h) (Or.inl ⟨by rfl, ?_⟩) (by assumption) ?_
  · intro wq hSq; go_simp
  try simp only [Act.put, List.setIfInBounds_toArray, List.set_cons_zero, List.set_cons_succ]
  refine last.wpAnyL_take (i := 6) (v := (.pointer (some ⟨b, off, none⟩))) rfl rfl (by kernel_rfl) (by kernel_rfl) (by kernel_rfl) (by kernel_rfl) (fun _ _ _ h => h) (Or.inl ⟨by rfl, ?_⟩) (by assumption) ?_
  · intro wq hSq; go_simp
  try simp only [Act.put, List.setIfInBounds_toArray, List.set_cons_zero, List.set_cons_succ]
  refine last.wpAnyL_take (i := 7) (v := (.pointer (some ⟨b, off + 1, none⟩))) rfl rfl (by kernel_rfl) (by kernel_rfl) (by kernel_rfl) (by kernel_rfl) (fun _ _ _ h => h) (Or.inl ⟨by rfl, ?_⟩) (by assumption) ?_
  · intro wq hSq; go_simp
  try simp only [Act.put, List.setIfInBounds_toArray, List.set_cons_zero, List.set_cons_succ]
  refine last.wpAnyL_take (i := 8) (v := (.slice oa ol oc)) rfl rfl (by kernel_rfl) (by kernel_rfl) (by kernel_rfl) (by kernel_rfl) (fun _ _ _ h => h) (Or.inl ⟨by rfl, ?_⟩) (by assumption) ?_
  · intro wq hSq; have q := (hSq.cell (p := ⟨b, off + 1, none⟩) hbl).trans c1; go_simp
  try simp only [Act.put, List.setIfInBounds_toArray, List.set_cons_zero, List.set_cons_succ]
  refine last.wpAnyL_take (i := 10) (v := (.pointer (some ⟨b, off, none⟩))) rfl rfl (by kernel_rfl) (by kernel_rfl) (by kernel_rfl) (by kernel_rfl) (fun _ _ _ h => h) (Or.inl ⟨by rfl, ?_⟩) (by assumption) ?_
  · intro wq hSq; go_simp
  try simp only [Act.put, List.setIfInBounds_toArray, List.set_cons_zero, List.set_cons_succ]
  refine last.wpAnyL_take (i := 11) (v := (.pointer (some ⟨b, off, none⟩))) rfl rfl (by kernel_rfl) (by kernel_rfl) (by kernel_rfl) (by kernel_rfl) (fun _ _ _ h => h) (Or.inl ⟨by rfl, ?_⟩) (by assumption) ?_
  · intro wq hSq; go_simp
  try simp only [Act.put, List.setIfInBounds_toArray, List.set_cons_zero, List.set_cons_succ]
  refine last.wpAnyL_take (i := 12) (v := (.pointer (some ⟨b, off + 2, none⟩))) rfl rfl (by kernel_rfl) (by kernel_rfl) (by kernel_rfl) (by kernel_rfl) (fun _ _ _ h => h) (Or.inl ⟨by rfl, ?_⟩) (by assumption) ?_
  · intro wq hSq; go_simp
  try simp only [Act.put, List.setIfInBounds_toArray, List.set_cons_zero, List.set_cons_succ]
  refine last.wpAnyL_take (i := 13) (v := (.int .i64 st)) rfl rfl (by kernel_rfl) (by kernel_rfl) (by kernel_rfl) (by kernel_rfl) (fun _ _ _ h => h) (Or.inl ⟨by rfl, ?_⟩) (by assumption) ?_
  · intro wq hSq; have q := (hSq.cell (p := ⟨b, off + 2, none⟩) hbl).trans c2; go_simp
  try simp only [Act.put, List.setIfInBounds_toArray, List.set_cons_zero, List.set_cons_succ]
  refine last.wpAnyL_take (i := 15) (v := (.pointer (some ⟨b, off, none⟩))) rfl rfl (by kernel_rfl) (by kernel_rfl) (by kernel_rfl) (by kernel_rfl) (fun _ _ _ h => h) (Or.inl ⟨by rfl, ?_⟩) (by assumption) ?_
  · intro wq hSq; go_simp
  try simp only [Act.put, List.setIfInBounds_toArray, List.set_cons_zero, List.set_cons_succ]
  refine last.wpAnyL_take (i := 16) (v := (.pointer (some ⟨b, off, none⟩))) rfl rfl (by kernel_rfl) (by kernel_rfl) (by kernel_rfl) (by kernel_rfl) (fun _ _ _ h => h) (Or.inl ⟨by rfl, ?_⟩) (by assumption) ?_
  · intro wq hSq; go_simp
  try simp only [Act.put, List.setIfInBounds_toArray, List.set_cons_zero, List.set_cons_succ]
  refine last.wpAnyL_take (i := 17) (v := (.pointer (some ⟨b, off + 3, none⟩))) rfl rfl (by kernel_rfl) (by kernel_rfl) (by kernel_rfl) (by kernel_rfl) (fun _ _ _ h => h) (Or.inl ⟨by rfl, ?_⟩) (by assumption) ?_
  · intro wq hSq; go_simp
  try simp only [Act.put, List.setIfInBounds_toArray, List.set_cons_zero, List.set_cons_succ]
  refine last.wpAnyL_take (i := 18) (v := (.slice ya yl yc)) rfl rfl (by kernel_rfl) (by kernel_rfl) (by kernel_rfl) (by kernel_rfl) (fun _ _ _ h => h) (Or.inl ⟨by rfl, ?_⟩) (by assumption) ?_
  · intro wq hSq; have q := (hSq.cell (p := ⟨b, off + 3, none⟩) hbl).trans c3; go_simp
  try simp only [Act.put, List.setIfInBounds_toArray, List.set_cons_zero, List.set_cons_succ]
  refine last.wpAnyL_two (i := 4) (j := 14) (o := { dst := some 7, op := Op.buildSlice 34 0 #[], type := 34, pos := "l11_coord.go:159", after := #[], guard := none }) (o' := { dst := some 17, op := Op.buildSlice 35 0 #[], type := 35, pos := "l11_coord.go:159", after := #[], guard := none }) (by kernel_rfl) rfl rfl (fun K hK => ?wayA) (fun K hK => ?wayB)
  case' wayA =>
    go_simp
    have hb_wB : Below W.heap.size W (D.alloc (.cells #[] 76)) := hdW.alloc hdW.size _
    have hr1 := row_new D 76 3
    have hlt_wB : D.heap.size < (D.alloc (.cells #[] 76)).heap.size := by simp
    have hge_wB := hdW.size
    refine hK.out _ _ ?_ (fun hHeld => ?_)
    · exact hb_wB
    clear hK K hHeld0
    have hHeld0 := hHeld
    clear hHeld
    try simp only [Act.put, List.setIfInBounds_toArray, List.set_cons_zero, List.set_cons_succ]
    generalize hw_wB : D.alloc (.cells #[] 76) = wB at *
    clear hw_wB
    refine last.wpAnyL_two (i := 9) (j := 14) (o := { dst := some 12, op := Op.call { callee := Callee.builtin Builtin.append, args := #[Operand.tmp 7, Operand.tmp 11], argTypes := #[34, 34] }, type := 34, pos := "l11_coord.go:159", after := #[{ on := 4, ground := Ground.data }, { on := 8, ground := Ground.data }], guard := none }) (o' := { dst := some 17, op := Op.buildSlice 35 0 #[], type := 35, pos := "l11_coord.go:159", after := #[], guard := none }) (by kernel_rfl) rfl rfl (fun K hK => ?wayA1) (fun K hK => ?wayA2)
  case' wayA1 =>
    obtain ⟨g1, cp1, wC, hrun1, ho1, hgr1, hloc1⟩ := HCO.out _ wB hb_wB hr1
    refine step_append_run rfl (.tmp 7) (.tmp 11) 34 rfl (by kernel_rfl) (by kernel_rfl) hrun1 ?_
    have hg1w := (hr1.lt _ rfl).2
    have hb_wC : Below W.heap.size W wC := hb_wB.grown hgr1 hb_wB.size (fun k e => by cases e; omega)
    have hgs1 := hgr1.size
    refine hK.out _ _ ?_ (fun hHeld => ?_)
    · exact hb_wC
    clear hK K hHeld0
    have hHeld0 := hHeld
    clear hHeld
    try simp only [Act.put, List.setIfInBounds_toArray, List.set_cons_zero, List.set_cons_succ]
    clear hrun1 hr1
    refine last.wpAnyL_one (i := 14) (o := { dst := some 17, op := Op.buildSlice 35 0 #[], type := 35, pos := "l11_coord.go:159", after := #[], guard := none }) (by kernel_rfl) rfl (fun K hK => ?_)
    go_simp
    have hb_wA : Below W.heap.size W (wC.alloc (.cells #[] 3)) := hb_wC.alloc hb_wC.size _
    have hr2 := row_new wC 3 1
    have hlt_wA : wC.heap.size < (wC.alloc (.cells #[] 3)).heap.size := by simp
    have hge_wA := hb_wC.size
    have hl1 := opsR.ownLt ho1 g1 (by simp)
    replace ho1 := opsR.ownBelow ho1 (below_make (o := .cells #[] 3))
    refine hK.out _ _ ?_ (fun hHeld => ?_)
    · exact hb_wA
    clear hK K hHeld0
    have hHeld0 := hHeld
    clear hHeld
    try simp only [Act.put, List.setIfInBounds_toArray, List.set_cons_zero, List.set_cons_succ]
    generalize hw_wA : wC.alloc (.cells #[] 3) = wA at *
    clear hw_wA
    have hne : g1 ≠ wC.heap.size := by omega
    have hb_A := hb_wA
    have hg1b : W.heap.size ≤ g1 := by rcases hloc1 with e | e <;> omega
    have hg2b : W.heap.size ≤ wC.heap.size := by omega
  case' wayA2 =>
    go_simp
    have hb_wC : Below W.heap.size W (wB.alloc (.cells #[] 3)) := hb_wB.alloc hb_wB.size _
    have hr2 := row_new wB 3 1
    have hlt_wC : wB.heap.size < (wB.alloc (.cells #[] 3)).heap.size := by simp
    have hge_wC := hb_wB.size
    replace hr1 := row_below hr1 (below_make (o := .cells #[] 3))
    refine hK.out _ _ ?_ (fun hHeld => ?_)
    · exact hb_wC
    clear hK K hHeld0
    have hHeld0 := hHeld
    clear hHeld
    try simp only [Act.put, List.setIfInBounds_toArray, List.set_cons_zero, List.set_cons_succ]
    generalize hw_wC : wB.alloc (.cells #[] 3) = wC at *
    clear hw_wC
    refine last.wpAnyL_one (i := 9) (o := { dst := some 12, op := Op.call { callee := Callee.builtin Builtin.append, args := #[Operand.tmp 7, Operand.tmp 11], argTypes := #[34, 34] }, type := 34, pos := "l11_coord.go:159", after := #[{ on := 4, ground := Ground.data }, { on := 8, ground := Ground.data }], guard := none }) (by kernel_rfl) rfl (fun K hK => ?_)
    obtain ⟨g1, cp1, wA, hrun1, ho1, hgr1, hloc1⟩ := HCO.out _ wC hb_wC hr1
    refine step_append_run rfl (.tmp 7) (.tmp 11) 34 rfl (by kernel_rfl) (by kernel_rfl) hrun1 ?_
    have hg1w := (hr1.lt _ rfl).2
    have hb_wA : Below W.heap.size W wA := hb_wC.grown hgr1 hb_wC.size (fun k e => by cases e; omega)
    have hgs1 := hgr1.size
    replace hr2 := row_grown hr2 hgr1 (by omega)
    refine hK.out _ _ ?_ (fun hHeld => ?_)
    · exact hb_wA
    clear hK K hHeld0
    have hHeld0 := hHeld
    clear hHeld
    try simp only [Act.put, List.setIfInBounds_toArray, List.set_cons_zero, List.set_cons_succ]
    clear hrun1 hr1
    have hne : g1 ≠ wB.heap.size := by rcases hloc1 with e | e <;> omega
    have hb_A := hb_wA
    have hg1b : W.heap.size ≤ g1 := by rcases hloc1 with e | e <;> omega
    have hg2b : W.heap.size ≤ wB.heap.size := by omega
  case' wayB =>
    go_simp
    have hb_wB : Below W.heap.size W (D.alloc (.cells #[] 3)) := hdW.alloc hdW.size _
    have hr2 := row_new D 3 1
    have hlt_wB : D.heap.size < (D.alloc (.cells #[] 3)).heap.size := by simp
    have hge_wB := hdW.size
    refine hK.out _ _ ?_ (fun hHeld => ?_)
    · exact hb_wB
    clear hK K hHeld0
    have hHeld0 := hHeld
    clear hHeld
    try simp only [Act.put, List.setIfInBounds_toArray, List.set_cons_zero, List.set_cons_succ]
    generalize hw_wB : D.alloc (.cells #[] 3) = wB at *
    clear hw_wB
    refine last.wpAnyL_one (i := 4) (o := { dst := some 7, op := Op.buildSlice 34 0 #[], type := 34, pos := "l11_coord.go:159", after := #[], guard := none }) (by kernel_rfl) rfl (fun K hK => ?_)
    go_simp
    have hb_wC : Below W.heap.size W (wB.alloc (.cells #[] 76)) := hb_wB.alloc hb_wB.size _
    have hr1 := row_new wB 76 3
    have hlt_wC : wB.heap.size < (wB.alloc (.cells #[] 76)).heap.size := by simp
    have hge_wC := hb_wB.size
    replace hr2 := row_below hr2 (below_make (o := .cells #[] 76))
    refine hK.out _ _ ?_ (fun hHeld => ?_)
    · exact hb_wC
    clear hK K hHeld0
    have hHeld0 := hHeld
    clear hHeld
    try simp only [Act.put, List.setIfInBounds_toArray, List.set_cons_zero, List.set_cons_succ]
    generalize hw_wC : wB.alloc (.cells #[] 76) = wC at *
    clear hw_wC
    refine last.wpAnyL_one (i := 9) (o := { dst := some 12, op := Op.call { callee := Callee.builtin Builtin.append, args := #[Operand.tmp 7, Operand.tmp 11], argTypes := #[34, 34] }, type := 34, pos := "l11_coord.go:159", after := #[{ on := 4, ground := Ground.data }, { on := 8, ground := Ground.data }], guard := none }) (by kernel_rfl) rfl (fun K hK => ?_)
    obtain ⟨g1, cp1, wA, hrun1, ho1, hgr1, hloc1⟩ := HCO.out _ wC hb_wC hr1
    refine step_append_run rfl (.tmp 7) (.tmp 11) 34 rfl (by kernel_rfl) (by kernel_rfl) hrun1 ?_
    have hg1w := (hr1.lt _ rfl).2
    have hb_wA : Below W.heap.size W wA := hb_wC.grown hgr1 hb_wC.size (fun k e => by cases e; omega)
    have hgs1 := hgr1.size
    replace hr2 := row_grown hr2 hgr1 (by omega)
    refine hK.out _ _ ?_ (fun hHeld => ?_)
    · exact hb_wA
    clear hK K hHeld0
    have hHeld0 := hHeld
    clear hHeld
    try simp only [Act.put, List.setIfInBounds_toArray, List.set_cons_zero, List.set_cons_succ]
    clear hrun1 hr1
    have hne : g1 ≠ D.heap.size := by rcases hloc1 with e | e <;> omega
    have hb_A := hb_wA
    have hg1b : W.heap.size ≤ g1 := by rcases hloc1 with e | e <;> omega
    have hg2b : W.heap.size ≤ D.heap.size := by omega
  all_goals
    refine last.wpAnyL_one (i := 19) (o := { dst := some 22, op := Op.call { callee := Callee.builtin Builtin.append, args := #[Operand.tmp 17, Operand.tmp 21], argTypes := #[35, 35] }, type := 35, pos := "l11_coord.go:159", after := #[{ on := 14, ground := Ground.data }, { on := 18, ground := Ground.data }, { on := 9, ground := Ground.chain }], guard := none }) (by kernel_rfl) rfl (fun K hK => ?_)
    obtain ⟨g2, cp2, wZ, hrun2, hy2, hgr2, hloc2⟩ := HCY.out _ wA hb_A hr2
    refine step_append_run rfl (.tmp 17) (.tmp 21) 35 rfl (by kernel_rfl) (by kernel_rfl) hrun2 ?_
    have hg2w := (hr2.lt _ rfl).2
    have hl1 := opsR.ownLt ho1 g1 (by simp)
    have hb_Z : Below W.heap.size W wZ := hb_A.grown hgr2 hb_A.size (fun k e => by cases e; omega)
    replace ho1 := opsR.ownGrown ho1 hgr2 (fun k hk e => by simp only [List.mem_singleton] at hk; subst hk; simp only [Option.some.injEq] at e; omega)
    have hgb2 : W.heap.size ≤ g2 ∧ g1 ≠ g2 := by
      have hs := hb_A.size
      rcases hloc2 with e | e
      · rw [e]; exact ⟨hg2b, hne⟩
      · exact ⟨by omega, by omega⟩
    refine hK.out _ _ ?_ (fun hHeld => ?_)
    · exact hb_Z
    clear hK K hHeld0
    have hHeld0 := hHeld
    clear hHeld
    try simp only [Act.put, List.setIfInBounds_toArray, List.set_cons_zero, List.set_cons_succ]
    clear hrun2 hr2 hgr2 hloc2
    refine last.wpAnyL_take (i := 20) (v := (.agg #[.int .i64 tx, .slice (some ⟨g1, 0, none⟩) ol cp1, .int .i64 st, .slice (some ⟨g2, 0, none⟩) yl cp2])) rfl rfl (by kernel_rfl) (by kernel_rfl) (by kernel_rfl) (by kernel_rfl) (fun _ _ _ h => h) (Or.inl ⟨by rfl, ?_⟩) (by assumption) ?_
    · intro wq hSq; go_simp
    try simp only [Act.put, List.setIfInBounds_toArray, List.set_cons_zero, List.set_cons_succ]
    have hRZ := hR.below hb_Z
    obtain ⟨z0, z1, z2, z3⟩ := cells4 hRZ
    have f0 := hRZ.fz 0
    have f1 := hRZ.fz 1
    have f2 := hRZ.fz 2
    have f3 := hRZ.fz 3
    have hS := hRZ.whole [.int .i64 tx, .slice (some ⟨g1, 0, none⟩) ol cp1, .int .i64 st, .slice (some ⟨g2, 0, none⟩) yl cp2] rfl
    obtain ⟨y0, y1, y2, y3⟩ := cells4 hS.1
    simp only [putAll, Nat.zero_add, Nat.reduceAdd] at y0 y1 y2 y3
    have hBz := (hB.trans (hb_Z.mono hB.size)).grown hS.2 (hB.trans (hb_Z.mono hB.size)).size (fun j e => by cases e; omega)
    replace ho1 := opsR.ownGrown ho1 hS.2 (fun k hk e => by simp only [List.mem_singleton] at hk; subst hk; simp only [Option.some.injEq] at e; omega)
    replace hy2 := intsR.ownGrown hy2 hS.2 (fun k hk e => by simp only [List.mem_singleton] at hk; subst hk; simp only [Option.some.injEq] at e; omega)
    have HOW := Hid.mk' (job_mk k1 k3 ho1 hy2 (by simp; omega))
    have HBz := Hid.mk' hBz
    have HFN : Hid (∀ k ∈ [g1] ++ [g2], w.heap.size ≤ k) := fun k hk => by
      have := hB.size
      simp only [List.mem_append, List.mem_singleton] at hk
      rcases hk with e | e <;> subst e <;> omega
    clear ho1 hy2 hBz hS
    refine last.wpAnyL_last (o := { dst := none, op := Op.store 37 (Operand.tmp 2) (Operand.tmp 23), type := 0, pos := "l11_coord.go:159", after := #[{ on := 20, ground := Ground.data }, { on := 19, ground := Ground.chain }, { on := 0, ground := Ground.phase }, { on := 1, ground := Ground.phase }, { on := 2, ground := Ground.phase }, { on := 3, ground := Ground.phase }, { on := 4, ground := Ground.phase }, { on := 5, ground := Ground.phase }, { on := 6, ground := Ground.phase }, { on := 7, ground := Ground.phase }, { on := 8, ground := Ground.phase }, { on := 9, ground := Ground.phase }, { on := 10, ground := Ground.phase }, { on := 11, ground := Ground.phase }, { on := 12, ground := Ground.phase }, { on := 13, ground := Ground.phase }, { on := 14, ground := Ground.phase }, { on := 15, ground := Ground.phase }, { on := 16, ground := Ground.phase }, { on := 17, ground := Ground.phase }, { on := 18, ground := Ground.phase }, { on := 19, ground := Ground.phase }, { on := 20, ground := Ground.phase }], guard := none }) (by kernel_rfl) rfl (by kernel_rfl) (fun K hK => ?_)
    go_simp
    refine hK.out _ _ ?_
    clear hK K
    go_wp2_with fail
    refine bodyPost_ret (v := .agg #[.int .i64 tx, .slice (some ⟨g1, 0, none⟩) ol cp1, .int .i64 st, .slice (some ⟨g2, 0, none⟩) yl cp2]) ?_ rfl ⟨_, _, rfl, HOW.out, HFN.out, HBz.out⟩
    simp [results, Try.results31, go_sem, y0, y1, y2, y3]
end Go.Proofs.Ytdeaiefhegjalaa.cos

namespace Go.Proofs.Ytdeaiefhegjalaa.cos
open Go Go.RowKit Go.Proofs.Ytdeaiefhegjalaa.base Go.Proofs.Ytdeaiefhegjalaa.pairs Go.Proofs.Ytdeaiefhegjalaa.ords Go.Proofs.Ytdeaiefhegjalaa.lay Go.Proofs.Ytdeaiefhegjalaa.wds
set_option linter.unusedVariables false
set_option linter.unusedSimpArgs false

/-- all choices are sure -/
def sureR (c : Co) : Co := if coordOk c = true then (c.1, c.2.1, c.2.2.1, c.2.2.2.1, c.2.2.2.2.1, (c.2.2.2.2.1.length : Int)) else c
theorem boxC_set5 {X : Nat} {n life next sure : Int} {ja : Option Addr} {jn jc : Nat} {la : Option Addr} {ln lc : Nat} {w : World} (h : BoxC X n life next sure ja jn jc la ln lc w) (z : Int) : BoxC X n life next z ja jn jc la ln lc (w.setCell ⟨X, 5, none⟩ (.int .i64 z)) ∧ w.grownBy (w.setCell ⟨X, 5, none⟩ (.int .i64 z)) (some X) := set_cur h 5 _
end Go.Proofs.Ytdeaiefhegjalaa.cos
