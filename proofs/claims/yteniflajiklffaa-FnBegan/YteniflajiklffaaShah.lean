/- The program's copy of a job. Plain mathematics: what the program's steps for one who decides come to. Choices that stand in a map by a struct, and the program's questions to it. The program's choices, read into a map. append within the room that a make laid: small facts on worlds; no function of the program is named here. -/
import Derived.Test.YteniflajiklffaaShag
import Derived.Test.YteniflajiklffaaShab
import Derived.Test.YteniflajiklffaaShac
import Derived.Maps.OwnSet
import Derived.Maps.OwnOps
import Derived.Maps.Views
import Derived.DeepKeys4
import Derived.BigQuiet
import Derived.Handy
import Derived.Test.YteniflajiklffaaShaa
import Derived.OwnWalk
namespace Go.Proofs.Yteniflajiklffaa.cos
open Go Go.RowKit Go.Proofs.Yteniflajiklffaa.base Go.Proofs.Yteniflajiklffaa.pairs Go.Proofs.Yteniflajiklffaa.ords Go.Proofs.Yteniflajiklffaa.lay Go.Proofs.Yteniflajiklffaa.wds
set_option linter.unusedVariables false
set_option linter.unusedSimpArgs false

theorem row_new (w : World) (ty : TypeId) (size : Nat) : (w.alloc (.cells #[] ty)).ownsRow 0 ty size (.slice (some ⟨w.heap.size, 0, none⟩) 0 0) 0 [] := World.ownsRow_made w #[] 0 (Nat.zero_le _) (Nat.zero_le _) (by simp)
theorem row_below {w w' : World} {ty : TypeId} {size g : Nat} (h : w.ownsRow 0 ty size (.slice (some ⟨g, 0, none⟩) 0 0) 0 []) (hb : Below w.heap.size w w') : w'.ownsRow 0 ty size (.slice (some ⟨g, 0, none⟩) 0 0) 0 [] :=
  h.kept (row := none) ⟨hb.os, hb.tape, hb.output, hb.size, fun k hk _ => hb.block k hk⟩ (.inr (by simp [Value.ownBlock]))
theorem row_grown {w w' : World} {ty : TypeId} {size g k : Nat} (h : w.ownsRow 0 ty size (.slice (some ⟨g, 0, none⟩) 0 0) 0 []) (hg : w.grownBy w' (some k)) (hne : g ≠ k) : w'.ownsRow 0 ty size (.slice (some ⟨g, 0, none⟩) 0 0) 0 [] :=
  h.kept hg (.inr (by simp [Value.ownBlock, hne]))
set_option maxRecDepth 100000 in
set_option maxHeartbeats 4000000 in
theorem i_ownJob (b off : Nat) (tx st : Int) (oa : Option Addr) (ol oc : Nat) (ya : Option Addr) (yl yc : Nat) (ops : List Od) (yes : List Int) (w : World) (c0 : w.cell? ⟨b, off, none⟩ = some (.int .i64 tx)) (c1 : w.cell? ⟨b, off + 1, none⟩ = some (.slice oa ol oc)) (c2 : w.cell? ⟨b, off + 2, none⟩ = some (.int .i64 st)) (c3 : w.cell? ⟨b, off + 3, none⟩ = some (.slice ya yl yc))
    (k1 : (Lit.int .i64 tx).wf = true) (k3 : (Lit.int .i64 st).wf = true) (hO : SlO w oa ol ops) (hoc : ol ≤ oc) (hY : SlZ w ya yl yes) (hyc : yl ≤ yc) (hyw : ∀ z ∈ yes, (Lit.int .i64 z).wf = true) (hs1 : ol ≤ 1099511627776) (hs2 : yl ≤ 1099511627776) :
    Calls Try.prog 30 #[.pointer (some ⟨b, off, none⟩)] w (RetR jobR w (tx, ops, st, yes)) := by
  obtain ⟨W, hW⟩ : ∃ W, w.alloc (.cells #[.int .i64 0, .slice none 0 0, .int .i64 0, .slice none 0 0] 65) = W := ⟨_, rfl⟩
  have hB : Below w.heap.size w W := by rw [← hW]; exact below_make
  have hR : BoxIn w.heap.size 65 [] [.int .i64 0, .slice none 0 0, .int .i64 0, .slice none 0 0] [] W := by rw [← hW]; exact boxIn_new w _ _
  have hRl := hR.lt
  have HW := Hid.mk' hW
  clear hW
  have hbw := World.block_lt_of_cell? _ _ c0
  have hbl : b < W.heap.size := Nat.lt_of_lt_of_le hbw hB.size
  replace c0 := (hB.cell (p := ⟨b, off, none⟩) hbw).trans c0
  replace c1 := (hB.cell (p := ⟨b, off + 1, none⟩) hbw).trans c1
  replace c2 := (hB.cell (p := ⟨b, off + 2, none⟩) hbw).trans c2
  replace c3 := (hB.cell (p := ⟨b, off + 3, none⟩) hbw).trans c3
  have HCO := Hid.mk' (fun g wx (hx : Below W.heap.size W wx) (hg : wx.ownsRow 0 111 3 (.slice (some ⟨g, 0, none⟩) 0 0) 0 []) => copy_ops g oa ol oc 28 hg ((hO.below hB).below hx) hoc hs1)
  have HCY := Hid.mk' (fun g wx (hx : Below W.heap.size W wx) (hg : wx.ownsRow 0 3 1 (.slice (some ⟨g, 0, none⟩) 0 0) 0 []) => copy_ints g ya yl yc 34 hg ((hY.below hB).below hx) hyw hyc hs2)
  have hdW : Below W.heap.size W W.drew := (Below.refl _ _).drew
  clear hO hY hoc hyc hs1 hs2 hbw
  go_enter Try.func30, Try.ntmps30
  go_wp2_with fail
  rw [HW.out]
  refine last.wp_region_later (S := fun w' => Below W.heap.size W w') 21 (by kernel_rfl) hdW (fun hHeld0 => ?_)
  generalize hD : W.drew = D at *
  clear hD
  refine last.wpAnyL_take (i := 0) (v := (.pointer (some ⟨b, off, none⟩))) rfl rfl (by kernel_rfl) (by kernel_rfl) (by kernel_rfl) (by kernel_rfl) (fun _ _ _ h => h) (Or.inl ⟨by rfl, ?_⟩) (by assumption) ?_
  · intro wq hSq; go_simp
  try simp only [Act.put, List.setIfInBounds_toArray, List.set_cons_zero, List.set_cons_succ]
  refine last.wpAnyL_take (i := 1) (v := (.pointer (some ⟨b, off, none⟩))) rfl rfl (by kernel_rfl) (by kernel_rfl) (by kernel_rfl) (by kernel_rfl) (fun _ _ _ h => h) (Or.inl ⟨by rfl, ?_⟩) (by assumption) ?_
  · intro wq hSq; go_simp
  try simp only [Act.put, List.setIfInBounds_toArray, List.set_cons_zero, List.set_cons_succ]
  refine last.wpAnyL_take (i := 2) (v := (.pointer (some ⟨b, off, none⟩))) rfl rfl (by kernel_rfl) (by kernel_rfl) (by kernel_rfl) (by kernel_rfl) (fun _ _ _ h => h) (Or.inl ⟨by rfl, ?_⟩) (by assumption) ?_
  · intro wq hSq; go_simp
  try simp only [Act.put, List.setIfInBounds_toArray, List.set_cons_zero, List.set_cons_succ]
  refine last.wpAnyL_take (i := 3) (v := (.int .i64 tx)) rfl rfl (by kernel_rfl) (by kernel_rfl) (by kernel_rfl) (by kernel_rfl) (fun _ _ _ h => h) (Or.inl ⟨by rfl, ?_⟩) (by assumption) ?_
  · intro wq hSq; have q := (hSq.cell (p := ⟨b, off, none⟩) hbl).trans c0; go_simp
  try simp only [Act.put, List.setIfInBounds_toArray, List.set_cons_zero, List.set_cons_succ]
  refine last.wpAnyL_take (i := 5) (v := (.pointer (some ⟨b, off, none⟩))) rfl rfl (by kernel_rfl) (by kernel_rfl) (by kernel_rfl) (by kernel_rfl) (fun _ _ _ h => h) (Or.inl ⟨by rfl, ?_⟩) (by assumption) ?_
  · intro wq hSq; go_simp
  try simp only [Act.put, List.setIfInBounds_toArray, List.set_cons_zero, List.set_cons_succ]
  refine last.wpAnyL_take (i := 6) (v := (.pointer (some ⟨b, off, none⟩))) rfl rfl (by kernel_rfl) (by kernel_rfl) (by kernel_rfl) (by kernel_rfl) (fun _ _ _ h => h) (Or.inl ⟨by rfl, ?_⟩) (by assumption) ?_
  · intro wq hSq; go_simp
  try simp only [Act.put, List.setIfInBounds_toArray, List.set_cons_zero, List.set_cons_succ]
  refine last.wpAnyL_take (i := 7) (v := (.pointer (some ⟨b, off + 1, none⟩))) rfl rfl (by kernel_rfl) (by kernel_rfl) (by kernel_rfl) (by kernel_rfl) (fun _ _ _ h => h) (Or.inl ⟨by rfl, ?_⟩) (by assumption) ?_
  · intro wq hSq; go_simp
  try simp only [Act.put, List.setIfInBounds_toArray, List.set_cons_zero, List.set_cons_succ]
  refine last.wpAnyL_take (i := 8) (v := (.slice oa ol oc)) rfl rfl (by kernel_rfl) (by kernel_rfl) (by kernel_rfl) (by kernel_rfl) (fun _ _ _ h => h) (Or.inl ⟨by rfl, ?_⟩) (by assumption) ?_
  · intro wq hSq; have q := (hSq.cell (p := ⟨b, off + 1, none⟩) hbl).trans c1; go_simp
  try simp only [Act.put, List.setIfInBounds_toArray, List.set_cons_zero, List.set_cons_succ]
  refine last.wpAnyL_take (i := 10) (v := (.pointer (some ⟨b, off, none⟩))) rfl rfl (by kernel_rfl) (by kernel_rfl) (by kernel_rfl) (by kernel_rfl) (fun _ _ _ h => h) (Or.inl ⟨by rfl, ?_⟩) (by assumption) ?_
  · intro wq hSq; go_simp
  try simp only [Act.put, List.setIfInBounds_toArray, List.set_cons_zero, List.set_cons_succ]
  refine last.wpAnyL_take (i := 11) (v := (.pointer (some ⟨b, off, none⟩))) rfl rfl (by kernel_rfl) (by kernel_rfl) (by kernel_rfl) (by kernel_rfl) (fun _ _ _ h => h) (Or.inl ⟨by rfl, ?_⟩) (by assumption) ?_
  · intro wq hSq; go_simp
  try simp only [Act.put, List.setIfInBounds_toArray, List.set_cons_zero, List.set_cons_succ]
  refine last.wpAnyL_take (i := 12) (v := (.pointer (some ⟨b, off + 2, none⟩))) rfl rfl (by kernel_rfl) (by kernel_rfl) (by kernel_rfl) (by kernel_rfl) (fun _ _ _ h => h) (Or.inl ⟨by rfl, ?_⟩) (by assumption) ?_
  · intro wq hSq; go_simp
  try simp only [Act.put, List.setIfInBounds_toArray, List.set_cons_zero, List.set_cons_succ]
  refine last.wpAnyL_take (i := 13) (v := (.int .i64 st)) rfl rfl (by kernel_rfl) (by kernel_rfl) (by kernel_rfl) (by kernel_rfl) (fun _ _ _ h => h) (Or.inl ⟨by rfl, ?_⟩) (by assumption) ?_
  · intro wq hSq; have q := (hSq.cell (p := ⟨b, off + 2, none⟩) hbl).trans c2; go_simp
  try simp only [Act.put, List.setIfInBounds_toArray, List.set_cons_zero, List.set_cons_succ]
  refine last.wpAnyL_take (i := 15) (v := (.pointer (some ⟨b, off, none⟩))) rfl rfl (by kernel_rfl) (by kernel_rfl) (by kernel_rfl) (by kernel_rfl) (fun _ _ _ h => h) (Or.inl ⟨by rfl, ?_⟩) (by assumption) ?_
  · intro wq hSq; go_simp
  try simp only [Act.put, List.setIfInBounds_toArray, List.set_cons_zero, List.set_cons_succ]
  refine last.wpAnyL_take (i := 16) (v := (.pointer (some ⟨b, off, none⟩))) rfl rfl (by kernel_rfl) (by kernel_rfl) (by kernel_rfl) (by kernel_rfl) (fun _ _ _ h => h) (Or.inl ⟨by rfl, ?_⟩) (by assumption) ?_
  · intro wq hSq; go_simp
  try simp only [Act.put, List.setIfInBounds_toArray, List.set_cons_zero, List.set_cons_succ]
  refine last.wpAnyL_take (i := 17) (v := (.pointer (some ⟨b, off + 3, none⟩))) rfl rfl (by kernel_rfl) (by kernel_rfl) (by kernel_rfl) (by kernel_rfl) (fun _ _ _ h => h) (Or.inl ⟨by rfl, ?_⟩) (by assumption) ?_
  · intro wq hSq; go_simp
  try simp only [Act.put, List.setIfInBounds_toArray, List.set_cons_zero, List.set_cons_succ]
  refine last.wpAnyL_take (i := 18) (v := (.slice ya yl yc)) rfl rfl (by kernel_rfl) (by kernel_rfl) (by kernel_rfl) (by kernel_rfl) (fun _ _ _ h => h) (Or.inl ⟨by rfl, ?_⟩) (by assumption) ?_
  · intro wq hSq; have q := (hSq.cell (p := ⟨b, off + 3, none⟩) hbl).trans c3; go_simp
  try simp only [Act.put, List.setIfInBounds_toArray, List.set_cons_zero, List.set_cons_succ]
  refine last.wpAnyL_two (i := 4) (j := 14) (o := { dst := some 7, op := Op.buildSlice 28 0 #[], type := 28, pos := "l11_coord.go:159", after := #[], guard := none }) (o' := { dst := some 17, op := Op.buildSlice 34 0 #[], type := 34, pos := "l11_coord.go:159", after := #[], guard := none }) (by kernel_rfl) rfl rfl (fun K hK => ?wayA) (fun K hK => ?wayB)
  case' wayA =>
    go_simp
    have hb_wB : Below W.heap.size W (D.alloc (.cells #[] 111)) := hdW.alloc hdW.size _
    have hr1 := row_new D 111 3
    have hlt_wB : D.heap.size < (D.alloc (.cells #[] 111)).heap.size := by simp
    have hge_wB := hdW.size
    refine hK.out _ _ ?_ (fun hHeld => ?_)
    · exact hb_wB
    clear hK K hHeld0
    have hHeld0 := hHeld
    clear hHeld
    try simp only [Act.put, List.setIfInBounds_toArray, List.set_cons_zero, List.set_cons_succ]
    generalize hw_wB : D.alloc (.cells #[] 111) = wB at *
    clear hw_wB
    refine last.wpAnyL_two (i := 9) (j := 14) (o := { dst := some 12, op := Op.call { callee := Callee.builtin Builtin.append, args := #[Operand.tmp 7, Operand.tmp 11], argTypes := #[28, 28] }, type := 28, pos := "l11_coord.go:159", after := #[{ on := 4, ground := Ground.data }, { on := 8, ground := Ground.data }], guard := none }) (o' := { dst := some 17, op := Op.buildSlice 34 0 #[], type := 34, pos := "l11_coord.go:159", after := #[], guard := none }) (by kernel_rfl) rfl rfl (fun K hK => ?wayA1) (fun K hK => ?wayA2)
  case' wayA1 =>
    obtain ⟨g1, cp1, wC, hrun1, ho1, hgr1, hloc1⟩ := HCO.out _ wB hb_wB hr1
    refine step_append_run rfl (.tmp 7) (.tmp 11) 28 rfl (by kernel_rfl) (by kernel_rfl) hrun1 ?_
    have hg1w := (hr1.lt _ rfl).2
    have hb_wC : Below W.heap.size W wC := hb_wB.grown hgr1 hb_wB.size (fun k e => by cases e; omega)
    have hgs1 := hgr1.size
    refine hK.out _ _ ?_ (fun hHeld => ?_)
    · exact hb_wC
    clear hK K hHeld0
    have hHeld0 := hHeld
    clear hHeld
    try simp only [Act.put, List.setIfInBounds_toArray, List.set_cons_zero, List.set_cons_succ]
    clear hrun1 hr1
    refine last.wpAnyL_one (i := 14) (o := { dst := some 17, op := Op.buildSlice 34 0 #[], type := 34, pos := "l11_coord.go:159", after := #[], guard := none }) (by kernel_rfl) rfl (fun K hK => ?_)
    go_simp
    have hb_wA : Below W.heap.size W (wC.alloc (.cells #[] 3)) := hb_wC.alloc hb_wC.size _
    have hr2 := row_new wC 3 1
    have hlt_wA : wC.heap.size < (wC.alloc (.cells #[] 3)).heap.size := by simp
    have hge_wA := hb_wC.size
    have hl1 := opsR.ownLt ho1 g1 (by simp)
    replace ho1 := opsR.ownBelow ho1 (below_make (o := .cells #[] 3))
    refine hK.out _ _ ?_ (fun hHeld => ?_)
    · exact hb_wA
    clear hK K hHeld0
    have hHeld0 := hHeld
    clear hHeld
    try simp only [Act.put, List.setIfInBounds_toArray, List.set_cons_zero, List.set_cons_succ]
    generalize hw_wA : wC.alloc (.cells #[] 3) = wA at *
    clear hw_wA
    have hne : g1 ≠ wC.heap.size := by omega
    have hb_A := hb_wA
    have hg1b : W.heap.size ≤ g1 := by rcases hloc1 with e | e <;> omega
    have hg2b : W.heap.size ≤ wC.heap.size := by omega
  case' wayA2 =>
    go_simp
    have hb_wC : Below W.heap.size W (wB.alloc (.cells #[] 3)) := hb_wB.alloc hb_wB.size _
    have hr2 := row_new wB 3 1
    have hlt_wC : wB.heap.size < (wB.alloc (.cells #[] 3)).heap.size := by simp
    have hge_wC := hb_wB.size
    replace hr1 := row_below hr1 (below_make (o := .cells #[] 3))
    refine hK.out _ _ ?_ (fun hHeld => ?_)
    · exact hb_wC
    clear hK K hHeld0
    have hHeld0 := hHeld
    clear hHeld
    try simp only [Act.put, List.setIfInBounds_toArray, List.set_cons_zero, List.set_cons_succ]
    generalize hw_wC : wB.alloc (.cells #[] 3) = wC at *
    clear hw_wC
    refine last.wpAnyL_one (i := 9) (o := { dst := some 12, op := Op.call { callee := Callee.builtin Builtin.append, args := #[Operand.tmp 7, Operand.tmp 11], argTypes := #[28, 28] }, type := 28, pos := "l11_coord.go:159", after := #[{ on := 4, ground := Ground.data }, { on := 8, ground := Ground.data }], guard := none }) (by kernel_rfl) rfl (fun K hK => ?_)
    obtain ⟨g1, cp1, wA, hrun1, ho1, hgr1, hloc1⟩ := HCO.out _ wC hb_wC hr1
    refine step_append_run rfl (.tmp 7) (.tmp 11) 28 rfl (by kernel_rfl) (by kernel_rfl) hrun1 ?_
    have hg1w := (hr1.lt _ rfl).2
    have hb_wA : Below W.heap.size W wA := hb_wC.grown hgr1 hb_wC.size (fun k e => by cases e; omega)
    have hgs1 := hgr1.size
    replace hr2 := row_grown hr2 hgr1 (by omega)
    refine hK.out _ _ ?_ (fun hHeld => ?_)
    · exact hb_wA
    clear hK K hHeld0
    have hHeld0 := hHeld
    clear hHeld
    try simp only [Act.put, List.setIfInBounds_toArray, List.set_cons_zero, List.set_cons_succ]
    clear hrun1 hr1
    have hne : g1 ≠ wB.heap.size := by rcases hloc1 with e | e <;> omega
    have hb_A := hb_wA
    have hg1b : W.heap.size ≤ g1 := by rcases hloc1 with e | e <;> omega
    have hg2b : W.heap.size ≤ wB.heap.size := by omega
  case' wayB =>
    go_simp
    have hb_wB : Below W.heap.size W (D.alloc (.cells #[] 3)) := hdW.alloc hdW.size _
    have hr2 := row_new D 3 1
    have hlt_wB : D.heap.size < (D.alloc (.cells #[] 3)).heap.size := by simp
    have hge_wB := hdW.size
    refine hK.out _ _ ?_ (fun hHeld => ?_)
    · exact hb_wB
    clear hK K hHeld0
    have hHeld0 := hHeld
    clear hHeld
    try simp only [Act.put, List.setIfInBounds_toArray, List.set_cons_zero, List.set_cons_succ]
    generalize hw_wB : D.alloc (.cells #[] 3) = wB at *
    clear hw_wB
    refine last.wpAnyL_one (i := 4) (o := { dst := some 7, op := Op.buildSlice 28 0 #[], type := 28, pos := "l11_coord.go:159", after := #[], guard := none }) (by kernel_rfl) rfl (fun K hK => ?_)
    go_simp
    have hb_wC : Below W.heap.size W (wB.alloc (.cells #[] 111)) := hb_wB.alloc hb_wB.size _
    have hr1 := row_new wB 111 3
    have hlt_wC : wB.heap.size < (wB.alloc (.cells #[] 111)).heap.size := by simp
    have hge_wC := hb_wB.size
    replace hr2 := row_below hr2 (below_make (o := .cells #[] 111))
    refine hK.out _ _ ?_ (fun hHeld => ?_)
    · exact hb_wC
    clear hK K hHeld0
    have hHeld0 := hHeld
    clear hHeld
    try simp only [Act.put, List.setIfInBounds_toArray, List.set_cons_zero, List.set_cons_succ]
    generalize hw_wC : wB.alloc (.cells #[] 111) = wC at *
    clear hw_wC
    refine last.wpAnyL_one (i := 9) (o := { dst := some 12, op := Op.call { callee := Callee.builtin Builtin.append, args := #[Operand.tmp 7, Operand.tmp 11], argTypes := #[28, 28] }, type := 28, pos := "l11_coord.go:159", after := #[{ on := 4, ground := Ground.data }, { on := 8, ground := Ground.data }], guard := none }) (by kernel_rfl) rfl (fun K hK => ?_)
    obtain ⟨g1, cp1, wA, hrun1, ho1, hgr1, hloc1⟩ := HCO.out _ wC hb_wC hr1
    refine step_append_run rfl (.tmp 7) (.tmp 11) 28 rfl (by kernel_rfl) (by kernel_rfl) hrun1 ?_
    have hg1w := (hr1.lt _ rfl).2
    have hb_wA : Below W.heap.size W wA := hb_wC.grown hgr1 hb_wC.size (fun k e => by cases e; omega)
    have hgs1 := hgr1.size
    replace hr2 := row_grown hr2 hgr1 (by omega)
    refine hK.out _ _ ?_ (fun hHeld => ?_)
    · exact hb_wA
    clear hK K hHeld0
    have hHeld0 := hHeld
    clear hHeld
    try simp only [Act.put, List.setIfInBounds_toArray, List.set_cons_zero, List.set_cons_succ]
    clear hrun1 hr1
    have hne : g1 ≠ D.heap.size := by rcases hloc1 with e | e <;> omega
    have hb_A := hb_wA
    have hg1b : W.heap.size ≤ g1 := by rcases hloc1 with e | e <;> omega
    have hg2b : W.heap.size ≤ D.heap.size := by omega
  all_goals
    refine last.wpAnyL_one (i := 19) (o := { dst := some 22, op := Op.call { callee := Callee.builtin Builtin.append, args := #[Operand.tmp 17, Operand.tmp 21], argTypes := #[34, 34] }, type := 34, pos := "l11_coord.go:159", after := #[{ on := 14, ground := Ground.data }, { on := 18, ground := Ground.data }, { on := 9, ground := Ground.chain }], guard := none }) (by kernel_rfl) rfl (fun K hK => ?_)
    obtain ⟨g2, cp2, wZ, hrun2, hy2, hgr2, hloc2⟩ := HCY.out _ wA hb_A hr2
    refine step_append_run rfl (.tmp 17) (.tmp 21) 34 rfl (by kernel_rfl) (by kernel_rfl) hrun2 ?_
    have hg2w := (hr2.lt _ rfl).2
    have hl1 := opsR.ownLt ho1 g1 (by simp)
    have hb_Z : Below W.heap.size W wZ := hb_A.grown hgr2 hb_A.size (fun k e => by cases e; omega)
    replace ho1 := opsR.ownGrown ho1 hgr2 (fun k hk e => by simp only [List.mem_singleton] at hk; subst hk; simp only [Option.some.injEq] at e; omega)
    have hgb2 : W.heap.size ≤ g2 ∧ g1 ≠ g2 := by
      have hs := hb_A.size
      rcases hloc2 with e | e
      · rw [e]; exact ⟨hg2b, hne⟩
      · exact ⟨by omega, by omega⟩
    refine hK.out _ _ ?_ (fun hHeld => ?_)
    · exact hb_Z
    clear hK K hHeld0
    have hHeld0 := hHeld
    clear hHeld
    try simp only [Act.put, List.setIfInBounds_toArray, List.set_cons_zero, List.set_cons_succ]
    clear hrun2 hr2 hgr2 hloc2
    refine last.wpAnyL_take (i := 20) (v := (.agg #[.int .i64 tx, .slice (some ⟨g1, 0, none⟩) ol cp1, .int .i64 st, .slice (some ⟨g2, 0, none⟩) yl cp2])) rfl rfl (by kernel_rfl) (by kernel_rfl) (by kernel_rfl) (by kernel_rfl) (fun _ _ _ h => h) (Or.inl ⟨by rfl, ?_⟩) (by assumption) ?_
    · intro wq hSq; go_simp
    try simp only [Act.put, List.setIfInBounds_toArray, List.set_cons_zero, List.set_cons_succ]
    have hRZ := hR.below hb_Z
    obtain ⟨z0, z1, z2, z3⟩ := cells4 hRZ
    have f0 := hRZ.fz 0
    have f1 := hRZ.fz 1
    have f2 := hRZ.fz 2
    have f3 := hRZ.fz 3
    have hS := hRZ.whole [.int .i64 tx, .slice (some ⟨g1, 0, none⟩) ol cp1, .int .i64 st, .slice (some ⟨g2, 0, none⟩) yl cp2] rfl
    obtain ⟨y0, y1, y2, y3⟩ := cells4 hS.1
    simp only [putAll, Nat.zero_add, Nat.reduceAdd] at y0 y1 y2 y3
    have hBz := (hB.trans (hb_Z.mono hB.size)).grown hS.2 (hB.trans (hb_Z.mono hB.size)).size (fun j e => by cases e; omega)
    replace ho1 := opsR.ownGrown ho1 hS.2 (fun k hk e => by simp only [List.mem_singleton] at hk; subst hk; simp only [Option.some.injEq] at e; omega)
    replace hy2 := intsR.ownGrown hy2 hS.2 (fun k hk e => by simp only [List.mem_singleton] at hk; subst hk; simp only [Option.some.injEq] at e; omega)
    have HOW := Hid.mk' (job_mk k1 k3 ho1 hy2 (by simp; omega))
    have HBz := Hid.mk' hBz
    have HFN : Hid (∀ k ∈ [g1] ++ [g2], w.heap.size ≤ k) := fun k hk => by
      have := hB.size
      simp only [List.mem_append, List.mem_singleton] at hk
      rcases hk with e | e <;> subst e <;> omega
    clear ho1 hy2 hBz hS
    refine last.wpAnyL_last (o := { dst := none, op := Op.store 65 (Operand.tmp 2) (Operand.tmp 23), type := 0, pos := "l11_coord.go:159", after := #[{ on := 20, ground := Ground.data }, { on := 19, ground := Ground.chain }, { on := 0, ground := Ground.phase }, { on := 1, ground := Ground.phase }, { on := 2, ground := Ground.phase }, { on := 3, ground := Ground.phase }, { on := 4, ground := Ground.phase }, { on := 5, ground := Ground.phase }, { on := 6, ground := Ground.phase }, { on := 7, ground := Ground.phase }, { on := 8, ground := Ground.phase }, { on := 9, ground := Ground.phase }, { on := 10, ground := Ground.phase }, { on := 11, ground := Ground.phase }, { on := 12, ground := Ground.phase }, { on := 13, ground := Ground.phase }, { on := 14, ground := Ground.phase }, { on := 15, ground := Ground.phase }, { on := 16, ground := Ground.phase }, { on := 17, ground := Ground.phase }, { on := 18, ground := Ground.phase }, { on := 19, ground := Ground.phase }, { on := 20, ground := Ground.phase }], guard := none }) (by kernel_rfl) rfl (by kernel_rfl) (fun K hK => ?_)
    go_simp
    refine hK.out _ _ ?_
    clear hK K
    go_wp2_with fail
    refine bodyPost_ret (v := .agg #[.int .i64 tx, .slice (some ⟨g1, 0, none⟩) ol cp1, .int .i64 st, .slice (some ⟨g2, 0, none⟩) yl cp2]) ?_ rfl ⟨_, _, rfl, HOW.out, HFN.out, HBz.out⟩
    simp [results, Try.results30, go_sem, y0, y1, y2, y3]
end Go.Proofs.Yteniflajiklffaa.cos

namespace Go.Proofs.Yteniflajiklffaa.cos
open Go Go.RowKit Go.Proofs.Yteniflajiklffaa.base Go.Proofs.Yteniflajiklffaa.pairs Go.Proofs.Yteniflajiklffaa.ords
set_option linter.unusedVariables false
set_option linter.unusedSimpArgs false

/-! ### shards that said yes: what stands up to each that is found is cut off -/
def yesCut : List Int → List Int → Bool
  | _, [] => true
  | left, x :: r => match left.findIdx? (fun z => decide (z = x)) with | none => false | some k => yesCut (left.drop (k + 1)) r
def past (p : Option Int) (z : Int) : Bool := match p with | none => true | some q => decide (q < z)
theorem asc_drop {l : List Int} (h : Asc l) {k : Nat} (hk : k < l.length) : l.drop (k + 1) = l.filter (fun z => decide (l[k] < z)) := by
  have e := List.take_append_drop (k + 1) l
  have h1 : (l.take (k + 1)).filter (fun z => decide (l[k] < z)) = [] := by
    refine List.filter_eq_nil_iff.2 fun x hx => ?_
    obtain ⟨i, hi, rfl⟩ := List.getElem_of_mem hx
    rw [List.getElem_take]
    simp only [List.length_take] at hi
    rcases Nat.lt_or_ge i k with hik | hik
    · have := List.pairwise_iff_getElem.1 h i k (by omega) hk hik
      simp; omega
    · have : i = k := by omega
      subst this; simp
  have h2 : (l.drop (k + 1)).filter (fun z => decide (l[k] < z)) = l.drop (k + 1) := by
    refine List.filter_eq_self.2 fun x hx => ?_
    obtain ⟨i, hi, rfl⟩ := List.getElem_of_mem hx
    rw [List.getElem_drop]
    simp only [List.length_drop] at hi
    have := List.pairwise_iff_getElem.1 h k (k + 1 + i) hk (by omega) (by omega)
    simpa using this
  generalize l[k] = y at *
  have h3 : l.filter (fun z => decide (y < z)) = (l.take (k + 1) ++ l.drop (k + 1)).filter (fun z => decide (y < z)) := by rw [e]
  rw [h3, List.filter_append, h1, h2, List.nil_append]
theorem cut_step {list : List Int} (ha : Asc list) (p : Option Int) (x : Int) (r : List Int) : yesCut (list.filter (past p)) (x :: r) = (decide (x ∈ list) && past p x && yesCut (list.filter (past (some x))) r) := by
  have hf : Asc (list.filter (past p)) := List.Pairwise.filter _ ha
  cases e : (list.filter (past p)).findIdx? (fun z => decide (z = x)) with
  | none =>
    have hn : x ∉ list.filter (past p) := fun hm => by
      have := List.findIdx?_eq_none_iff.1 e x hm
      simp at this
    have h0 : (decide (x ∈ list) && past p x) = false := by
      cases hp : past p x
      · simp
      · have : x ∉ list := fun hm => hn (List.mem_filter.2 ⟨hm, hp⟩)
        simp [this]
    have hs : yesCut (list.filter (past p)) (x :: r) = false := by
      conv => lhs; unfold yesCut
      rw [e]
    rw [hs, h0, Bool.false_and]
  | some k =>
    obtain ⟨hk, hp, _⟩ := findIdx_some e
    have hx : (list.filter (past p))[k] = x := of_decide_eq_true hp
    have hm : x ∈ list.filter (past p) := by rw [← hx]; exact List.getElem_mem hk
    obtain ⟨hm1, hm2⟩ := List.mem_filter.1 hm
    have h3 : (list.filter (past p)).drop (k + 1) = list.filter (past (some x)) := by
      rw [asc_drop hf hk, hx, List.filter_filter]
      refine List.filter_congr fun z hz => ?_
      show (decide (x < z) && past p z) = decide (x < z)
      by_cases hlt : x < z
      · have : past p z = true := by
          cases p with
          | none => rfl
          | some q => have := of_decide_eq_true hm2; exact decide_eq_true (by omega)
        rw [this, Bool.and_true]
      · simp [hlt]
    have hs : yesCut (list.filter (past p)) (x :: r) = yesCut ((list.filter (past p)).drop (k + 1)) r := by
      conv => lhs; unfold yesCut
      rw [e]
    rw [hs, h3, decide_eq_true hm1, hm2, Bool.true_and, Bool.true_and]
theorem cut_yes {list : List Int} (ha : Asc list) (p : Option Int) (ys : List Int) : yesCut (list.filter (past p)) ys = yesOk list p ys := by
  induction ys generalizing p with
  | nil => rfl
  | cons x r ih =>
    rw [cut_step ha, ih (some x)]
    cases p <;> rfl
theorem cut_all {list : List Int} (ha : Asc list) (ys : List Int) : yesCut list ys = yesOk list none ys := by
  have := cut_yes ha none ys
  rwa [show list.filter (past none) = list from List.filter_eq_self.2 fun _ _ => rfl] at this

/-! ### choices -/
def has (log : List Ch) (c : Ch) : Bool := decide (c ∈ log)
def decided (log : List Ch) (tx : Int) : Bool := has log (tx, true) || has log (tx, false)
def placeOf (log : List Ch) (c : Ch) : Nat := (log.findIdx? fun d => decide (d = c)).getD 0
theorem decided_iff {log : List Ch} {tx : Int} : decided log tx = true ↔ ∃ y, (tx, y) ∈ log := by
  unfold decided has
  rw [Bool.or_eq_true, decide_eq_true_iff, decide_eq_true_iff]
  constructor
  · rintro (h | h)
    · exact ⟨true, h⟩
    · exact ⟨false, h⟩
  · rintro ⟨y, h⟩
    cases y
    · exact .inr h
    · exact .inl h
theorem choice_of_mem {log : List Ch} (hn : (log.map fun c => c.1).Nodup) {c : Ch} (h : c ∈ log) : choice log c.1 = some c.2 := by
  obtain ⟨i, hi, rfl⟩ := List.getElem_of_mem h
  obtain ⟨hk, e⟩ := choice_some (nodup_iff.1 hn i hi)
  exact e
theorem mem_of_choice {log : List Ch} {tx : Int} {y : Bool} (h : choice log tx = some y) : (tx, y) ∈ log := by
  unfold choice at h
  cases e : log.find? (fun c => decide (c.1 = tx)) with
  | none => rw [e] at h; cases h
  | some c =>
    rw [e] at h
    simp only [Option.map_some, Option.some.injEq] at h
    have h1 := List.mem_of_find?_eq_some e
    have h2 : c.1 = tx := by have h3 := List.find?_some e; simpa using h3
    rw [← h, ← h2]; exact h1
theorem has_choice {log : List Ch} (hn : (log.map fun c => c.1).Nodup) (tx : Int) (y : Bool) : has log (tx, y) = decide (choice log tx = some y) := by
  unfold has
  rw [decide_eq_decide]
  exact ⟨fun h => choice_of_mem hn h, mem_of_choice⟩
theorem decided_choice {log : List Ch} (hn : (log.map fun c => c.1).Nodup) (tx : Int) : decided log tx = (choice log tx).isSome := by
  unfold decided
  rw [has_choice hn, has_choice hn]
  cases choice log tx with
  | none => rfl
  | some y => cases y <;> rfl
theorem logOk_nodup {hi : Int} {log : List Ch} (h : logOk hi log = true) : (log.map fun c => c.1).Nodup := by
  unfold logOk at h
  rw [Bool.and_eq_true, decide_eq_true_iff] at h
  exact h.2
theorem logOk_snoc {hi : Int} {l : List Ch} {c : Ch} : logOk hi (l ++ [c]) = (logOk hi l && (decide (1000 ≤ c.1 ∧ c.1 ≤ hi) && !decided l c.1)) := by
  have hiff : logOk hi (l ++ [c]) = true ↔ (logOk hi l && (decide (1000 ≤ c.1 ∧ c.1 ≤ hi) && !decided l c.1)) = true := by
    unfold logOk
    simp only [Bool.and_eq_true, List.all_append, List.map_append, List.map_cons, List.map_nil, decide_eq_true_iff, Bool.not_eq_true', List.all_cons, List.all_nil, Bool.and_true]
    rw [List.nodup_append]
    constructor
    · rintro ⟨⟨h1, h2⟩, h3, _, h4⟩
      refine ⟨⟨h1, h3⟩, h2, ?_⟩
      cases e : decided l c.1
      · rfl
      · obtain ⟨y, hy⟩ := decided_iff.1 e
        exact absurd rfl (h4 c.1 (List.mem_map.2 ⟨_, hy, rfl⟩) c.1 (by simp))
    · rintro ⟨⟨h1, h3⟩, h2, h4⟩
      refine ⟨⟨h1, h2⟩, h3, by simp, fun a ha b hb e => ?_⟩
      obtain ⟨d, hd, rfl⟩ := List.mem_map.1 ha
      have hb2 : b = c.1 := by simpa using hb
      subst hb2
      have : decided l c.1 = true := decided_iff.2 ⟨d.2, by rw [← e]; exact hd⟩
      rw [this] at h4; cases h4
  cases h1 : logOk hi (l ++ [c]) <;> cases h2 : (logOk hi l && (decide (1000 ≤ c.1 ∧ c.1 ≤ hi) && !decided l c.1)) <;> simp_all
theorem logOk_take {hi : Int} {log : List Ch} {k : Nat} (h : logOk hi log = true) : logOk hi (log.take k) = true := by
  unfold logOk at h ⊢
  simp only [Bool.and_eq_true, decide_eq_true_iff, List.all_eq_true] at h ⊢
  exact ⟨fun c hc => h.1 c (List.mem_of_mem_take hc), by rw [List.map_take]; exact List.Nodup.sublist (List.take_sublist _ _) h.2⟩
theorem logOk_stop {hi : Int} {log : List Ch} {k : Nat} (hk : k < log.length) (h : (decide (1000 ≤ log[k].1 ∧ log[k].1 ≤ hi) && !decided (log.take k) log[k].1) = false) : logOk hi log = false := by
  cases e : logOk hi log
  · rfl
  · have := logOk_take (k := k + 1) e
    rw [List.take_succ_eq_append_getElem hk, logOk_snoc, h] at this
    simp at this
theorem placeOf_snoc {l : List Ch} {c : Ch} (h : c ∉ l) (d : Ch) : placeOf (l ++ [c]) d = if d = c then l.length else placeOf l d := by
  unfold placeOf
  rw [List.findIdx?_append]
  by_cases e : d = c
  · subst e
    rw [if_pos rfl, List.findIdx?_eq_none_iff.2 (fun x hx => decide_eq_false fun (e2 : x = d) => h (e2 ▸ hx))]
    simp [List.findIdx?_cons]
  · rw [if_neg e]
    have : ([c] : List Ch).findIdx? (fun x => decide (x = d)) = none := by
      rw [List.findIdx?_eq_none_iff]
      intro x hx
      have : x = c := by simpa using hx
      subst this
      exact decide_eq_false fun e2 => e e2.symm
    rw [this]
    cases List.findIdx? (fun x => decide (x = d)) l <;> rfl
theorem has_snoc {l : List Ch} {c : Ch} (d : Ch) : has (l ++ [c]) d = (has l d || decide (d = c)) := by
  unfold has; simp [Bool.decide_or]
theorem placeOf_chosen {log : List Ch} (hn : (log.map fun c => c.1).Nodup) {tx : Int} {k : Nat} (h : chosen log tx = some k) (hk : k < log.length) : placeOf log (tx, log[k].2) = k := by
  obtain ⟨_, h1, h2⟩ := findIdx_some h
  have e : log[k].1 = tx := of_decide_eq_true h1
  unfold placeOf
  have h3 : log.findIdx? (fun d => decide (d = (tx, log[k].2))) = some k := by
    refine findIdx_hit hk (fun i hi => ?_) ?_
    · have h4 := of_decide_eq_false (h2 i hi)
      refine decide_eq_false fun (e2 : log[i] = (tx, log[k].2)) => h4 ?_
      rw [e2]
    · refine decide_eq_true ?_
      rw [← e]
  rw [h3]; rfl

/-! ### what is told: the program's way -/
def sureB (log : List Ch) (c : Ch) (sure : Int) : Bool := has log c && decide ((placeOf log c : Int) < sure)
theorem answer_way {log : List Ch} (hn : (log.map fun c => c.1).Nodup) (h0 : ∀ c ∈ log, (1000 : Int) ≤ c.1) (life sure tx : Int) :
    (if decided log tx = true then (sureB log (tx, true) sure, sureB log (tx, true) sure || sureB log (tx, false) sure) else (false, decide (1000 ≤ tx) && decide (tx < life * 1000))) =
      if tx < 1000 then (false, false) else match chosen log tx with | some k => ((choice log tx).getD false && decide ((k : Int) < sure), decide ((k : Int) < sure)) | none => (false, decide (tx < life * 1000)) := by
  cases e : chosen log tx with
  | none =>
    have hc := choice_none e
    rw [if_neg (by rw [decided_choice hn, hc]; decide)]
    by_cases ht : tx < 1000
    · rw [if_pos ht, decide_eq_false (by omega)]; rfl
    · rw [if_neg ht, decide_eq_true (by omega)]; rfl
  | some k =>
    obtain ⟨hk, hc⟩ := choice_some e
    obtain ⟨_, h1, _⟩ := findIdx_some e
    have h2 : log[k].1 = tx := of_decide_eq_true h1
    have h3 := h0 _ (List.getElem_mem hk)
    have hp := placeOf_chosen hn e hk
    rw [if_pos (by rw [decided_choice hn, hc]; rfl), if_neg (by omega)]
    unfold sureB
    rw [has_choice hn, has_choice hn, hc]
    cases hy : log[k].2
    · rw [hy] at hp
      simp [hp]
    · rw [hy] at hp
      simp [hp]
end Go.Proofs.Yteniflajiklffaa.cos

namespace Go.Proofs.Yteniflajiklffaa.cos
open Go Go.RowKit Go.Proofs.Yteniflajiklffaa.base Go.Proofs.Yteniflajiklffaa.pairs Go.Proofs.Yteniflajiklffaa.ords Go.Proofs.Yteniflajiklffaa.lay Go.Proofs.Yteniflajiklffaa.wds
set_option linter.unusedVariables false
set_option linter.unusedSimpArgs false

abbrev chV (tx : Int) (y : Bool) : Value := .agg #[.int .i64 tx, .bool y]
def chK (tx : Int) (y : Bool) : Lit := .string (keyBytes [.int .i64 tx, .bool y])
theorem keyCh : Maps.Keyed Try.prog 42 := Maps.Keyed.of_law (deep_law_laid (by kernel_rfl) (m := 2) (by decide) (of_decide_eq_true (by kernel_rfl)) (by kernel_rfl) (by kernel_rfl))
theorem zeroI (w : World) : (zeroValue 3).run Try.prog w = .ok (.int .i64 0) w := by kernel_rfl
theorem keyOf_ch {tx : Int} {y : Bool} (h : (Lit.int .i64 tx).wf = true) : keyOf Try.prog 42 (chV tx y) = some (chK tx y) := by
  have hkt : Try.prog.keyType 42 = true := by kernel_rfl
  have hfm : (chV tx y).formed Try.prog 42 = true := by kernel_rfl
  obtain ⟨m, hm⟩ : ∃ m, Try.prog.types.size = m + 1 := ⟨Try.prog.types.size - 1, by kernel_rfl⟩
  have c0 : Try.prog.cellsOf 3 = 1 := by kernel_rfl
  have c1 : Try.prog.cellsOf 4 = 1 := by kernel_rfl
  have c2 : Try.prog.cellsOf 42 = 2 := by kernel_rfl
  unfold keyOf
  simp only [Try.underlying42]
  rw [if_pos (by rw [hkt, hfm]; rfl), hm]
  unfold Program.keyLits
  simp only [Try.underlying42, Value.cells]
  rw [if_pos ⟨by rw [c2]; rfl, by kernel_rfl⟩]
  simp [List.mapM_cons, List.mapM_nil, c0, c1, Program.keyLits, Try.underlying3, Try.underlying4, h, chK]
theorem chK_ne {tx tx' : Int} {y y' : Bool} (h : (Lit.int .i64 tx).wf = true) (h' : (Lit.int .i64 tx').wf = true) (hne : (tx, y) ≠ (tx', y')) : chK tx y ≠ chK tx' y' := fun e => by
  have h1 := keyOf_ch (y := y) h
  have h2 := keyOf_ch (y := y') h'
  rw [← e] at h2
  have := keyCh.inj h1 h2
  simp only [chV, Value.agg.injEq, Array.mk.injEq, List.cons.injEq, Value.int.injEq, Value.bool.injEq, true_and, and_true] at this
  exact hne (Prod.ext this.1 this.2)
theorem lit_injC {a b : Int} (h : (DataW.lit (.int .i64 a) : DataW Unit) = .lit (.int .i64 b)) : a = b := by
  cases h; rfl
def Made (w : World) (B n : Nat) (log : List Ch) : Prop :=
  ∃ D : DataW Unit, w.ownsMap Try.prog 42 (plainElem Try.prog 3) B n D ∧ ∀ c : Ch, (Lit.int .i64 c.1).wf = true → Maps.has D (chK c.1 c.2) = has log c ∧ D.atKey (chK c.1 c.2) (.lit (.int .i64 0)) = .lit (.int .i64 (placeOf log c : Int))
section
variable {w w' : World} {B n : Nat} {log : List Ch}
theorem made_new (w : World) : Made (w.alloc (.map #[] 0)) w.heap.size 0 [] :=
  ⟨.map [], World.ownsMap_made _ _ _ _, fun c hc => ⟨rfl, rfl⟩⟩
theorem Made.lt (h : Made w B n log) : B < w.heap.size := by
  obtain ⟨D, ⟨es, clock, hb, _⟩, _⟩ := h
  exact (Array.getElem?_eq_some_iff.1 hb).1
theorem Made.keep (h : Made w B n log) (hk : w'.heap[B]? = w.heap[B]?) : Made w' B n log := by
  obtain ⟨D, ⟨es, clock, hb, r⟩, h3⟩ := h
  exact ⟨D, ⟨es, clock, hk.trans hb, r⟩, h3⟩
theorem Made.below (h : Made w B n log) (hb : Below w.heap.size w w') : Made w' B n log := h.keep (hb.block B h.lt)
theorem Made.look (h : Made w B n log) {tx : Int} {y : Bool} (hw : (Lit.int .i64 tx).wf = true) : (Instr.lookup 77 (.map (some B)) (chV tx y) true).run Try.prog w = .ok (.tuple #[.int .i64 (placeOf log (tx, y) : Int), .bool (has log (tx, y))]) w := by
  obtain ⟨D, h1, h3⟩ := h
  obtain ⟨v, ps, hrun, hR⟩ := h1.look_ok keyCh Try.underlying77 (zeroI w) (plainElem_int Try.underlying3 (by decide)) (keyOf_ch (y := y) hw)
  obtain ⟨hh, ha⟩ := h3 (tx, y) hw
  simp only [] at hh ha
  rw [ha] at hR
  obtain ⟨c, rfl, hc, _⟩ := plainElem_int_inv Try.underlying3 hR
  have hc2 : (placeOf log (tx, y) : Int) = c := lit_injC (congrArg Prod.fst hc)
  rw [hrun, hh, hc2]
end
set_option maxRecDepth 100000 in
set_option maxHeartbeats 1000000 in
theorem i_has (B m : Nat) (log : List Ch) (tx : Int) (y : Bool) (w : World) (h : Made w B m log) (hw : (Lit.int .i64 tx).wf = true) :
    Calls Try.prog 119 #[.map (some B), chV tx y] w fun e w' => e = .returned (.bool (has log (tx, y))) ∧ Below w.heap.size w w' := by
  have hb := below_new w (.cells #[.int .i64 tx, .bool y] 42)
  have hlk := (h.below hb).look (y := y) hw
  generalize placeOf log (tx, y) = pl at *
  generalize has log (tx, y) = r at *
  clear h hw
  go_enter Try.func119, Try.ntmps119
  go_wp2_with fail
  go_ret
  exact ⟨rfl, hb⟩
set_option maxRecDepth 100000 in
set_option maxHeartbeats 1000000 in
theorem i_decided (B m : Nat) (log : List Ch) (tx : Int) (w : World) (h : Made w B m log) (hw : (Lit.int .i64 tx).wf = true) :
    Calls Try.prog 74 #[.map (some B), .int .i64 tx] w fun e w' => e = .returned (.bool (decided log tx)) ∧ Below w.heap.size w w' := by
  have H1 := Hid.mk' (i_has B m log tx true w h hw)
  have H2 := Hid.mk' (fun wx (hx : Below w.heap.size w wx) => i_has B m log tx false wx (h.below hx) hw)
  have HR : Hid (decided log tx = (has log (tx, true) || has log (tx, false))) := rfl
  clear h hw
  cases h1 : has log (tx, true)
  · rw [h1] at H1 HR
    clear h1
    generalize has log (tx, false) = r at *
    go_enter Try.func74, Try.ntmps74
    go_wp2_with fail
    refine H1.out.mono ?_
    rintro e w1 ⟨rfl, hb1⟩
    go_wp2_with fail
    refine (H2.out _ hb1).mono ?_
    rintro e w2 ⟨rfl, hb2⟩
    go_wp2_with fail
    go_ret
    exact ⟨ret_bool (by rw [HR.out]; rfl), hb1.trans (hb2.mono hb1.size)⟩
  · rw [h1] at H1 HR
    clear h1 H2
    go_enter Try.func74, Try.ntmps74
    go_wp2_with fail
    refine H1.out.mono ?_
    rintro e w1 ⟨rfl, hb1⟩
    go_wp2_with fail
    go_ret
    exact ⟨ret_bool (by rw [HR.out]; rfl), hb1⟩
set_option maxRecDepth 100000 in
set_option maxHeartbeats 1000000 in
theorem i_sure (B m : Nat) (log : List Ch) (tx sure : Int) (y : Bool) (w : World) (h : Made w B m log) (hw : (Lit.int .i64 tx).wf = true) :
    Calls Try.prog 75 #[.map (some B), chV tx y, .int .i64 sure] w fun e w' => e = .returned (.bool (sureB log (tx, y) sure)) ∧ Below w.heap.size w w' := by
  have hb := below_new w (.cells #[.int .i64 tx, .bool y] 42)
  have hlk := (h.below hb).look (y := y) hw
  have HR : Hid (sureB log (tx, y) sure = (has log (tx, y) && decide ((placeOf log (tx, y) : Int) < sure))) := rfl
  generalize placeOf log (tx, y) = pl at *
  generalize has log (tx, y) = r at *
  clear h hw
  cases r
  · go_enter Try.func75, Try.ntmps75
    go_wp2_with fail
    go_ret
    exact ⟨ret_bool (by rw [HR.out]; rfl), hb⟩
  · go_enter Try.func75, Try.ntmps75
    go_wp2_with fail
    go_ret
    exact ⟨ret_bool (by rw [HR.out]; rfl), hb⟩
/-! ### numbers of transactions -/
section
variable (X : Nat) (T : TypeId) (pre post : List Value) (n life next sure : Int) (ja : Option Addr) (jn jc : Nat) (la : Option Addr) (ln lc : Nat) (w : World)
theorem i_firstTx (h : BoxIn X T pre (coVals n life next sure ja jn jc la ln lc) post w) (hl : 1 ≤ life ∧ life ≤ 900) :
    Calls Try.prog 60 #[.pointer (some ⟨X, pre.length, none⟩)] w fun e w' => e = .returned (.int .i64 (life * 1000)) ∧ w' = w := by
  have w1 : IntKind.i64.wrap (life * 1000) = life * 1000 := by rw [IntKind.wrap_i64]; omega
  have c1 := h.cell 1 _ rfl
  clear h
  go_enter Try.func60, Try.ntmps60
  go_wp2_with fail
  go_ret
  exact ⟨rfl, rfl⟩
set_option maxRecDepth 100000 in
set_option maxHeartbeats 1000000 in
theorem i_nextTx (h : BoxIn X T pre (coVals n life next sure ja jn jc la ln lc) post w) (hl : 1 ≤ life ∧ life ≤ 900) (hn : 0 ≤ next ∧ next ≤ 999) :
    Calls Try.prog 31 #[.pointer (some ⟨X, pre.length, none⟩)] w fun e w' => e = .returned (.int .i64 (life * 1000 + next)) ∧ Below w.heap.size w w' := by
  have w2 : IntKind.i64.wrap (life * 1000 + next) = life * 1000 + next := by rw [IntKind.wrap_i64]; omega
  have c2 := h.cell 2 _ rfl
  have hX := h.lt
  have o2 := last.On.cell c2 hX
  have hinh := last.On.inh w.heap.size w
  have hcall : ∀ x : last.On w.heap.size w, Calls Try.prog 60 #[.pointer (some ⟨X, pre.length, none⟩)] x.w fun e w' => e = .returned (.int .i64 (life * 1000)) ∧ ∃ y : last.On w.heap.size w, w' = y.w := fun x => last.Calls.on x (Nat.le_refl _) ((i_firstTx X T pre post n life next sure ja jn jc la ln lc x.w (h.below x.2) hl).mono fun e w' ⟨he, hw⟩ => ⟨he, by rw [hw]; exact Below.refl _ _⟩)
  clear h c2
  go_enter Try.func31, Try.ntmps31
  go_wp2_with fail
  refine last.wp_region_on w.heap.size (by kernel_rfl) (by kernel_rfl) ?_
  repeat (go_big_quiet_step ((first | (go_at_call 60; with_reducible exact hcall _))))
  refine wpQuiet_nil ?_
  intro wq hwq
  obtain ⟨xq, hwq⟩ := hwq
  subst hwq
  have hbq : Below w.heap.size w xq.w := xq.2
  generalize xq.w = w4 at *
  clear o2 hcall hinh
  go_wp2_with fail
  go_ret
  exact ⟨rfl, hbq⟩
end
end Go.Proofs.Yteniflajiklffaa.cos

namespace Go.Proofs.Yteniflajiklffaa.cos
open Go Go.RowKit Go.Proofs.Yteniflajiklffaa.base Go.Proofs.Yteniflajiklffaa.pairs Go.Proofs.Yteniflajiklffaa.ords Go.Proofs.Yteniflajiklffaa.lay Go.Proofs.Yteniflajiklffaa.wds
set_option linter.unusedVariables false
set_option linter.unusedSimpArgs false

def ChPost (w : World) (ln : Nat) (hi : Int) (log : List Ch) (e : Ending) (w' : World) : Prop :=
  Below w.heap.size w w' ∧ (((decide (ln ≤ 1000) && logOk hi log) = false ∧ e = .returned (.tuple #[.map none, .bool false])) ∨ ((decide (ln ≤ 1000) && logOk hi log) = true ∧ ∃ B m, e = .returned (.tuple #[.map (some B), .bool true]) ∧ Made w' B m log))
theorem ch_wf {w : World} {a : Option Addr} {len : Nat} {l : List Ch} (h : SlG chR w a len l) (i : Nat) (hi : i < l.length) : (Lit.int .i64 l[i].1).wf = true := by
  obtain ⟨vs, hv⟩ := h.2.2.1 l[i] (List.getElem_mem hi)
  exact (flat_ch.see.1 hv).2.1
theorem Made.put {w' : World} {B n : Nat} {log : List Ch} {D : DataW Unit} {c : Ch} (hD : Maps.IsMap D) (h3 : ∀ d : Ch, (Lit.int .i64 d.1).wf = true → Maps.has D (chK d.1 d.2) = has log d ∧ D.atKey (chK d.1 d.2) (.lit (.int .i64 0)) = .lit (.int .i64 (placeOf log d : Int))) (hw : (Lit.int .i64 c.1).wf = true) (hn : c ∉ log)
    (h1 : w'.ownsMap Try.prog 42 (plainElem Try.prog 3) B n (D.put (chK c.1 c.2) (.lit (.int .i64 (log.length : Int))))) : Made w' B n (log ++ [c]) := by
  refine ⟨_, h1, fun d hd => ?_⟩
  rw [has_snoc, placeOf_snoc hn]
  by_cases e : d = c
  · subst e
    rw [Maps.has_put_same hD (keyCh.key (keyOf_ch (y := d.2) hd)), Maps.atKey_put_same hD (keyCh.key (keyOf_ch (y := d.2) hd)), if_pos rfl]
    exact ⟨by simp, rfl⟩
  · have hne := chK_ne (y := d.2) (y' := c.2) hd hw (fun e2 => e e2)
    rw [Maps.has_put_other hne, Maps.atKey_put_other hne, if_neg e, (h3 d hd).1, (h3 d hd).2]
    exact ⟨by simp [e], rfl⟩
set_option maxRecDepth 100000 in
set_option maxHeartbeats 2000000 in
theorem i_choicesOf (X : Nat) (T : TypeId) (pre post : List Value) (n life next sure : Int) (ja : Option Addr) (jn jc : Nat) (la : Option Addr) (ln lc : Nat) (log : List Ch) (w : World) (hbx : BoxIn X T pre (coVals n life next sure ja jn jc la ln lc) post w) (hl : SlG chR w la ln log) (hlf : 1 ≤ life ∧ life ≤ 900) (hnx0 : 0 ≤ next ∧ next ≤ 999) :
    Calls Try.prog 72 #[.pointer (some ⟨X, pre.length, none⟩)] w (ChPost w ln (life * 1000 + next - 1) log) := by
  have hll := hl.1
  have hlm := hl.2.1
  unfold maxLen at hlm
  have c4 := hbx.cell 4 _ rfl
  obtain ⟨hi, hhi⟩ : ∃ hi : Int, life * 1000 + next - 1 = hi := ⟨_, rfl⟩
  rw [hhi]
  have HHI := Hid.mk' hhi
  clear hhi
  by_cases h1000 : ln ≤ 1000
  · have hl1 : ¬ (1000 : Int) < (ln : Int) := by omega
    have HR : Hid ((decide (ln ≤ 1000) && logOk hi log) = logOk hi log) := by show _ = _; rw [decide_eq_true h1000, Bool.true_and]
    have hmm := @run_makeMap Try.prog
    have hb0 : Below w.heap.size w (w.alloc (.map #[] 0)) := below_new _ _
    have d4 := (hbx.below hb0).cell 4 _ rfl
    go_enter Try.func72, Try.ntmps72
    go_wp2_with (at_builtin; fail)
    go_loopw [19] (fun i wr => ∃ k : Nat, k ≤ ln ∧ i = .int .i64 (k : Int) ∧ Made wr w.heap.size k (log.take k) ∧ logOk hi (log.take k) = true ∧ Below w.heap.size w wr) (fun i _ => ln - (intOf i).toNat)
    case atStart => exact ⟨0, Nat.zero_le _, rfl, made_new w, rfl, hb0⟩
    case round =>
      obtain ⟨k, hk, rfl, hM, hok, hB⟩ := hrel
      clear hmm c4 d4 hb0
      by_cases hlt : k < ln
      · have hltl : k < log.length := by omega
        obtain ⟨b, off, e⟩ := slg_some hl (by omega)
        subst e
        have hS := hl.below hB
        obtain ⟨e0, e1⟩ := ch_at hS k hltl
        have hwf := ch_wf hS k hltl
        have hki : (k : Int) < (ln : Int) := by omega
        have HST : Hid ((decide (1000 ≤ log[k].1 ∧ log[k].1 ≤ hi) && !decided (log.take k) log[k].1) = false → logOk hi log = false) := logOk_stop hltl
        have HGO : Hid ((decide (1000 ≤ log[k].1 ∧ log[k].1 ≤ hi) && !decided (log.take k) log[k].1) = true → logOk hi (log.take (k + 1)) = true) := fun e => by
          rw [List.take_succ_eq_append_getElem hltl, logOk_snoc, hok, e]; rfl
        have HTK : Hid (log.take (k + 1) = log.take k ++ [log[k]]) := List.take_succ_eq_append_getElem hltl
        have HLK : Hid ((log.take k).length = k) := by show _ = _; simp; omega
        have HMEM : Hid (decided (log.take k) log[k].1 = false → log[k] ∉ log.take k) := fun e hm => by
          have : decided (log.take k) log[k].1 = true := decided_iff.2 ⟨log[k].2, hm⟩
          rw [e] at this; cases this
        generalize log[k] = c at *
        obtain ⟨tx, y⟩ := c
        simp only [] at *
        obtain ⟨V, hV⟩ : ∃ V, wr.alloc (.cells #[.int .i64 tx, .bool y] 42) = V := ⟨_, rfl⟩
        have hbv : Below wr.heap.size wr V := by rw [← hV]; exact below_new _ _
        have q0 : V.cell? ⟨wr.heap.size, 0, none⟩ = some (.int .i64 tx) := by rw [← hV]; simp
        have q1 : V.cell? ⟨wr.heap.size, 1, none⟩ = some (.bool y) := by rw [← hV]; simp
        have hBV := hB.trans (hbv.mono hB.size)
        have hMV := hM.below hbv
        have hxV := hbx.below hBV
        have o0 := last.On.cell (B := V.heap.size) q0 (World.block_lt_of_cell? _ _ q0)
        have hinh := last.On.inh V.heap.size V
        have hnx : ∀ x : last.On V.heap.size V, Calls Try.prog 31 #[.pointer (some ⟨X, pre.length, none⟩)] x.w fun e w' => e = .returned (.int .i64 (life * 1000 + next)) ∧ ∃ y : last.On V.heap.size V, w' = y.w := fun x => last.Calls.on x (Nat.le_refl _) (i_nextTx X T pre post n life next sure ja jn jc _ ln lc x.w (hxV.below x.2) hlf hnx0)
        have hdc : ∀ x : last.On V.heap.size V, Calls Try.prog 74 #[.map (some w.heap.size), .int .i64 tx] x.w fun e w' => e = .returned (.bool (decided (log.take k) tx)) ∧ ∃ y : last.On V.heap.size V, w' = y.w := fun x => last.Calls.on x (Nat.le_refl _) (i_decided w.heap.size k (log.take k) tx x.w (hMV.below x.2) hwf)
        have HV := Hid.mk' hV
        have HMV := Hid.mk' hMV
        clear hV hM hbx hl hS hbv hB hxV hMV
        by_cases ht1 : tx < 1000
        · have HF : Hid (logOk hi log = false) := HST.out (by rw [decide_eq_false (by omega)]; rfl)
          clear HST HGO HMEM
          have htd : decide (tx < 1000) = true := decide_eq_true ht1
          go_wp2_with fail
          rw [HV.out]
          refine last.wp_region_on V.heap.size (by kernel_rfl) (by kernel_rfl) ?_
          repeat (go_big_quiet_step ((first | (go_at_call 31; with_reducible exact hnx _) | (go_at_call 74; with_reducible exact hdc _))))
          refine wpQuiet_nil ?_
          intro wq hwq
          obtain ⟨xq, hwq⟩ := hwq
          subst hwq
          have hbq : Below V.heap.size V xq.w := xq.2
          generalize xq.w = w4 at *
          clear o0 hnx hdc hinh
          go_wp2_with fail
          go_returns
          exact ⟨hBV.trans (hbq.mono hBV.size), .inl ⟨by rw [HR.out, HF.out], rfl⟩⟩
        have htd : decide (tx < 1000) = false := decide_eq_false ht1
        by_cases ht2 : life * 1000 + next ≤ tx
        · have hte : decide (life * 1000 + next ≤ tx) = true := decide_eq_true ht2
          have HF : Hid (logOk hi log = false) := HST.out (by have := HHI.out; rw [decide_eq_false (by omega)]; rfl)
          clear HST HGO HMEM
          go_wp2_with fail
          rw [HV.out]
          refine last.wp_region_on V.heap.size (by kernel_rfl) (by kernel_rfl) ?_
          repeat (go_big_quiet_step ((first | (go_at_call 31; with_reducible exact hnx _) | (go_at_call 74; with_reducible exact hdc _))))
          refine wpQuiet_nil ?_
          intro wq hwq
          obtain ⟨xq, hwq⟩ := hwq
          subst hwq
          have hbq : Below V.heap.size V xq.w := xq.2
          generalize xq.w = w4 at *
          clear o0 hnx hdc hinh
          go_wp2_with fail
          go_returns
          exact ⟨hBV.trans (hbq.mono hBV.size), .inl ⟨by rw [HR.out, HF.out], rfl⟩⟩
        have hte : decide (life * 1000 + next ≤ tx) = false := decide_eq_false ht2
        cases hdd : decided (log.take k) tx
        · have HG : Hid (logOk hi (log.take (k + 1)) = true) := HGO.out (by have := HHI.out; rw [hdd, decide_eq_true (by omega)]; rfl)
          have HNM : Hid ((tx, y) ∉ log.take k) := HMEM.out hdd
          rw [hdd] at hdc
          clear HST HGO HMEM hdd
          go_wp2_with fail
          rw [HV.out]
          refine last.wp_region_on V.heap.size (by kernel_rfl) (by kernel_rfl) ?_
          repeat (go_big_quiet_step ((first | (go_at_call 31; with_reducible exact hnx _) | (go_at_call 74; with_reducible exact hdc _))))
          refine wpQuiet_nil ?_
          intro wq hwq
          obtain ⟨xq, hwq⟩ := hwq
          subst hwq
          have hbq : Below V.heap.size V xq.w := xq.2
          generalize xq.w = w4 at *
          clear o0 hnx hdc hinh
          have hB4 := hBV.trans (hbq.mono hBV.size)
          obtain ⟨D, hown, h3⟩ := HMV.out.below hbq
          have H3 := Hid.mk' h3
          have g0 : w4.cell? ⟨wr.heap.size, 0, none⟩ = some (.int .i64 tx) := (hbq.cell (p := ⟨wr.heap.size, 0, none⟩) (World.block_lt_of_cell? _ _ q0)).trans q0
          have g1 : w4.cell? ⟨wr.heap.size, 1, none⟩ = some (.bool y) := (hbq.cell (p := ⟨wr.heap.size, 1, none⟩) (World.block_lt_of_cell? _ _ q1)).trans q1
          have hkey := keyOf_ch (y := y) hwf
          clear h3 q0 q1 e0 e1
          go_wp2_with (at_mapUpdate; refine wpList_mapUpdate_own _ rfl _ _ _ 77 rfl 42 3 keyCh Try.underlying77 _ w.heap.size k D rfl hown (by unfold maxLen; omega) _ _ _ rfl rfl hkey _ [] (plainElem_int Try.underlying3 (WalkArith.wf_i64 (by omega))) ?_)
          intro w5 hown5 hgrow5
          have hM5 : Made w5 w.heap.size (k + 1) (log.take (k + 1)) := by
            rw [HTK.out]
            exact Made.put hown.isMap H3.out hwf HNM.out (by rw [HLK.out]; exact hown5)
          have hB5 := hB4.grown hgrow5 hB4.size (fun j hj => by cases hj; exact Nat.le_refl _)
          clear hown5 hgrow5 hown
          go_wp2_with fail
          go_roundw
          case rel => exact ⟨k + 1, by omega, by go_num, hM5, HG.out, hB5⟩
          case measure => simp [intOf]; omega
        · have HF : Hid (logOk hi log = false) := HST.out (by rw [hdd]; simp)
          rw [hdd] at hdc
          clear HST HGO HMEM hdd
          go_wp2_with fail
          rw [HV.out]
          refine last.wp_region_on V.heap.size (by kernel_rfl) (by kernel_rfl) ?_
          repeat (go_big_quiet_step ((first | (go_at_call 31; with_reducible exact hnx _) | (go_at_call 74; with_reducible exact hdc _))))
          refine wpQuiet_nil ?_
          intro wq hwq
          obtain ⟨xq, hwq⟩ := hwq
          subst hwq
          have hbq : Below V.heap.size V xq.w := xq.2
          generalize xq.w = w4 at *
          clear o0 hnx hdc hinh
          go_wp2_with fail
          go_returns
          exact ⟨hBV.trans (hbq.mono hBV.size), .inl ⟨by rw [HR.out, HF.out], rfl⟩⟩
      · have hke : log.take k = log := List.take_of_length_le (by omega)
        rw [hke] at hM hok
        have HM := Hid.mk' hM
        have HOK := Hid.mk' hok
        have hki : ¬ (k : Int) < (ln : Int) := by omega
        clear hM hok hke hbx hl
        go_wp2_with fail
        go_returns
        exact ⟨hB, .inr ⟨by rw [HR.out, HOK.out], _, _, rfl, HM.out⟩⟩
  · have hl1 : (1000 : Int) < (ln : Int) := by omega
    clear hbx hl
    go_enter Try.func72, Try.ntmps72
    go_wp2_with fail
    go_returns
    exact ⟨Below.refl _ _, .inl ⟨by rw [decide_eq_false h1000]; rfl, rfl⟩⟩
end Go.Proofs.Yteniflajiklffaa.cos

namespace Go.Proofs.Yteniflajiklffaa.base
open Go.RowKit
set_option linter.unusedVariables false
set_option linter.unusedSimpArgs false

def Bts (w : World) (g : Nat) (s : ByteArray) : Prop := g < w.heap.size ∧ ∀ j (h : j < s.size), w.cell? ⟨g, j, none⟩ = some (.int .u8 (s[j].toNat : Int))
theorem bts_new (w : World) (s : ByteArray) : Bts (Lib.bytesWorld w 5 s) w.heap.size s := by
  refine ⟨by rw [Lib.bytesWorld_size]; omega, fun j h => ?_⟩
  rw [Lib.bytesWorld_cell w 5 s j h]; simp [List.getD, h]; rfl
theorem Bts.grown {w w' : World} {g g2 : Nat} {s : ByteArray} (h : Bts w g s) (hg : w.grownBy w' (some g2)) (hne : g ≠ g2) : Bts w' g s :=
  ⟨Nat.lt_of_lt_of_le h.1 hg.size, fun j hj => hg.cell (h.2 j hj) (by simpa using hne)⟩
theorem Bts.below {w w' : World} {g : Nat} {s : ByteArray} (h : Bts w g s) (hb : Below w.heap.size w w') : Bts w' g s :=
  ⟨Nat.lt_of_lt_of_le h.1 hb.size, fun j hj => (hb.cell (p := ⟨g, j, none⟩) h.1).trans (h.2 j hj)⟩

end Go.Proofs.Yteniflajiklffaa.base
