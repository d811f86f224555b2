/- What a shard does is tried. slices.DeleteFunc over records: those of one transaction. -/
import Derived.Test.YteniflajiklffaaGreatDoorShav
import Derived.Test.YteniflajiklffaaGreatDoorSham
import Derived.Test.YteniflajiklffaaGreatDoorShaf
import Derived.Test.YteniflajiklffaaGreatDoorShaj
import Derived.Laws.IdiomCopy
namespace Go.Proofs.YteniflajiklffaaGreatDoor.recs
open Go Go.RowKit Go.Proofs.YteniflajiklffaaGreatDoor.base Go.Proofs.YteniflajiklffaaGreatDoor.pairs Go.Proofs.YteniflajiklffaaGreatDoor.ords Go.Proofs.YteniflajiklffaaGreatDoor.helps Go.Proofs.YteniflajiklffaaGreatDoor.help Go.Proofs.YteniflajiklffaaGreatDoor.lay Go.Proofs.YteniflajiklffaaGreatDoor.sent
set_option linter.unusedVariables false
set_option linter.unusedSimpArgs false

set_option maxRecDepth 100000 in
set_option maxHeartbeats 4000000 in
theorem tried_finish_no (G : List Nat) (A : Nat → Addr) (la : Option Addr) (ln lc : Nat) (ma : Option Addr) (mn mc : Nat) (ha : Option Addr) (hn hc : Nat) (s : Shd) (kind tx : Int) (a : Option Addr) (len cap : Nat) (ops : List Od) (w : World) (h : SeeSh w la ln lc ma mn mc ha hn hc s) (hpl : PlainR w la ln) (hb : Bound s) (ho : SlO w a len ops) (hks : ∀ p ∈ ops, p.2.1.size ≤ 1099511627776) (hsr : smallR (kind, tx, ops)) (hlen : len ≤ 1099511627776) (hK : KS G A w) (hok : (shardOk s && recOk (kind, tx, ops)) = true) (g : Nat) (hdo : ∀ wx, Below w.heap.size w wx → Calls Tryz.prog 46 #[aggSh s.1 s.2.2.1 la ln lc ma mn mc ha hn hc, .agg #[.int .i64 kind, .int .i64 tx, .slice a len cap]] wx fun e w' => e = .returned (.tuple #[.agg #[.int .i64 0, .slice none 0 0, .int .i64 0, .slice none 0 0, .slice none 0 0], .iface 180 (.pointer (some (A g)))]) ∧ Below wx.heap.size wx w') :
    Calls Tryz.prog 32 #[aggSh s.1 s.2.2.1 la ln lc ma mn mc ha hn hc, .agg #[.int .i64 kind, .int .i64 tx, .slice a len cap], .func (.func 46) #[aggSh s.1 s.2.2.1 la ln lc ma mn mc ha hn hc] #[]] w (Ret2 w s (errV A tx (some g))) := by
  obtain ⟨W, hW⟩ : ∃ W, ((w.alloc (boxSh s.1 s.2.2.1 la ln lc ma mn mc ha hn hc)).alloc (.cells #[.int .i64 kind, .int .i64 tx, .slice a len cap] 41)).alloc (boxSh 0 0 none 0 0 none 0 0 none 0 0) = W := ⟨_, rfl⟩
  have hb0 : Below w.heap.size w (w.alloc (boxSh s.1 s.2.2.1 la ln lc ma mn mc ha hn hc)) := below_alloc
  have hb1 : Below w.heap.size w ((w.alloc (boxSh s.1 s.2.2.1 la ln lc ma mn mc ha hn hc)).alloc (.cells #[.int .i64 kind, .int .i64 tx, .slice a len cap] 41)) := hb0.alloc hb0.size _
  have hB : Below w.heap.size w W := by rw [← hW]; exact hb1.alloc hb1.size _
  have hX : BoxIn w.heap.size 27 [] (shVals s.1 s.2.2.1 la ln lc ma mn mc ha hn hc) [] W := by rw [← hW]; exact ((boxIn_new w _ _).below below_alloc).below below_alloc
  have hC : BoxR (w.heap.size + 1) kind tx (.slice a len cap) W := by
    rw [← hW]
    have := (boxR_new (w.alloc (boxSh s.1 s.2.2.1 la ln lc ma mn mc ha hn hc)) kind tx (.slice a len cap)).below (below_alloc (o := boxSh 0 0 none 0 0 none 0 0 none 0 0))
    rwa [show (w.alloc (boxSh s.1 s.2.2.1 la ln lc ma mn mc ha hn hc)).heap.size = w.heap.size + 1 by simp] at this
  have hRB : BoxIn (w.heap.size + 1 + 1) 27 [] (shVals 0 0 none 0 0 none 0 0 none 0 0) [] W := by
    rw [← hW]
    have := boxIn_new ((w.alloc (boxSh s.1 s.2.2.1 la ln lc ma mn mc ha hn hc)).alloc (.cells #[.int .i64 kind, .int .i64 tx, .slice a len cap] 41)) (shVals 0 0 none 0 0 none 0 0 none 0 0) 27
    rwa [show ((w.alloc (boxSh s.1 s.2.2.1 la ln lc ma mn mc ha hn hc)).alloc (.cells #[.int .i64 kind, .int .i64 tx, .slice a len cap] 41)).heap.size = w.heap.size + 1 + 1 by simp] at this
  have hsW : w.heap.size + 1 + 1 < W.heap.size := hRB.lt
  have HXC := Hid.mk' (fun wx (hx : Below W.heap.size W wx) => (show _ ∧ _ ∧ _ ∧ _ ∧ _ from by
    have a0 := (hX.below hx).cell 0 _ rfl
    have a1 := (hX.below hx).cell 1 _ rfl
    have a2 := (hX.below hx).cell 2 _ rfl
    have a3 := (hX.below hx).cell 3 _ rfl
    have a4 := (hX.below hx).cell 4 _ rfl
    simp only [List.length_nil, Nat.zero_add] at a0 a1 a2 a3 a4
    exact ⟨a0, a1, a2, a3, a4⟩))
  have HCC := Hid.mk' (fun wx (hx : Below W.heap.size W wx) => (hC.below hx).cells)
  obtain ⟨b1, b2, b3⟩ := SeeSh.few h hb
  have HOK := Hid.mk' (impl_shardOk la ln lc ma mn mc ha hn hc s W (h.below hB) (plain_below h.log hpl hB) hb.few (by omega) (by omega))
  have HRO := Hid.mk' (fun wx (hx : Below W.heap.size W wx) => impl_recOk kind tx a len cap ops wx ((ho.below hB).below hx) hks)
  have HOW := Hid.mk' (fun wx (hx : Below W.heap.size W wx) => i_ownSh la ln lc ma mn mc ha hn hc s wx ((h.below hB).below hx) hb.few hb.fewH (by omega) (by omega) (by omega))
  rw [Bool.and_eq_true] at hok
  rw [hok.1] at HOK
  rw [hok.2] at HRO
  have HDO := Hid.mk' (fun wx (hx : Below W.heap.size W wx) => hdo wx (hB.trans (hx.mono hB.size)))
  clear hok hdo
  have HW := Hid.mk' hW
  obtain ⟨a0, a1, a2, a3, a4⟩ := HXC.out W (Below.refl _ _)
  rw [← hW] at a0 a1 a2 a3 a4
  clear hW hb0 hb1
  go_enter Tryz.func32, Tryz.ntmps32
  go_wp2_with fail
  rw [HW.out]
  refine HOK.out.mono ?_
  rintro e w1 ⟨rfl, hb2⟩
  clear a0 a1 a2 a3 a4 HOK HW
  obtain ⟨c0, c1, c2⟩ := HCC.out w1 hb2
  go_wp2_with fail
  refine (HRO.out w1 hb2).mono ?_
  rintro e w2 ⟨rfl, hb3⟩
  have hb4 := hb2.trans (hb3.mono hb2.size)
  clear c0 c1 c2
  obtain ⟨c0, c1, c2⟩ := HCC.out w2 hb4
  go_wp2_with fail
  refine (HDO.out w2 hb4).mono ?_
  rintro e w3 ⟨rfl, hb5⟩
  have hb8 := hb4.trans (hb5.mono hb4.size)
  obtain ⟨u3, hu3⟩ : ∃ u3, w3.alloc (boxSh 0 0 none 0 0 none 0 0 none 0 0) = u3 := ⟨_, rfl⟩
  have hb9 : Below w3.heap.size w3 u3 := by rw [← hu3]; exact below_alloc
  have hb10 := hb8.trans (hb9.mono hb8.size)
  have HU3 := Hid.mk' hu3
  clear c0 c1 c2 hu3
  have hd : Below u3.heap.size u3 u3.drew := (Below.refl _ _).drew
  have hbd := hb10.trans (hd.mono hb10.size)
  have HOW2 := Hid.mk' (HOW.out _ hbd)
  go_wp2_with fail
  rw [HU3.out]
  refine last.wp_region_later (S := fun w' => BoxIn w.heap.size 27 [] (shVals s.1 s.2.2.1 la ln lc ma mn mc ha hn hc) [] w' ∧ BoxR (w.heap.size + 1) kind tx (.slice a len cap) w') 8 (by kernel_rfl) ⟨hX.below hbd, hC.below hbd⟩ (fun hHeld0 => ?_)
  generalize u3.drew = D5 at *
  refine last.wpAnyL_take (i := 0) (v := (aggSh s.1 s.2.2.1 la ln lc ma mn mc ha hn hc)) rfl rfl (by kernel_rfl) (by kernel_rfl) (by kernel_rfl) (by kernel_rfl) (fun _ _ _ h => h) (Or.inl ⟨by rfl, ?_⟩) (by assumption) ?_
  · intro wq hSq; obtain ⟨q0, q1, q2, q3, q4⟩ := boxcells hSq.1; go_simp
  try simp only [Act.put, List.setIfInBounds_toArray, List.set_cons_zero, List.set_cons_succ]
  refine last.wpAnyL_take (i := 2) (v := (.pointer (some ⟨w.heap.size + 1, 1, none⟩))) rfl rfl (by kernel_rfl) (by kernel_rfl) (by kernel_rfl) (by kernel_rfl) (fun _ _ _ h => h) (Or.inl ⟨by rfl, ?_⟩) (by assumption) ?_
  · intro wq hSq; go_simp
  try simp only [Act.put, List.setIfInBounds_toArray, List.set_cons_zero, List.set_cons_succ]
  refine last.wpAnyL_take (i := 3) (v := (.int .i64 tx)) rfl rfl (by kernel_rfl) (by kernel_rfl) (by kernel_rfl) (by kernel_rfl) (fun _ _ _ h => h) (Or.inl ⟨by rfl, ?_⟩) (by assumption) ?_
  · intro wq hSq; obtain ⟨q1, q2, q3⟩ := hSq.2.cells; go_simp
  try simp only [Act.put, List.setIfInBounds_toArray, List.set_cons_zero, List.set_cons_succ]
  refine last.wpAnyL_take (i := 4) (v := (.iface 180 (.pointer (some (A g))))) rfl rfl (by kernel_rfl) (by kernel_rfl) (by kernel_rfl) (by kernel_rfl) (fun _ _ _ h => h) (Or.inl ⟨by rfl, ?_⟩) (by assumption) ?_
  · intro wq hSq; go_simp
  try simp only [Act.put, List.setIfInBounds_toArray, List.set_cons_zero, List.set_cons_succ]
  refine last.wpAnyL_take (i := 5) (v := (.agg #[.int .i64 tx, .iface 180 (.pointer (some (A g)))])) rfl rfl (by kernel_rfl) (by kernel_rfl) (by kernel_rfl) (by kernel_rfl) (fun _ _ _ h => h) (Or.inl ⟨by rfl, ?_⟩) (by assumption) ?_
  · intro wq hSq; go_simp
  try simp only [Act.put, List.setIfInBounds_toArray, List.set_cons_zero, List.set_cons_succ]
  refine last.wpAnyL_take (i := 6) (v := (.iface 107 (.agg #[.int .i64 tx, .iface 180 (.pointer (some (A g)))]))) rfl rfl (by kernel_rfl) (by kernel_rfl) (by kernel_rfl) (by kernel_rfl) (fun _ _ _ h => h) (Or.inl ⟨by rfl, ?_⟩) (by assumption) ?_
  · intro wq hSq; go_simp
  try simp only [Act.put, List.setIfInBounds_toArray, List.set_cons_zero, List.set_cons_succ]
  refine last.wpAnyL_one (i := 1) (o := { dst := some 34, op := Op.call { callee := Callee.value (Operand.func 72), args := #[Operand.tmp 33], argTypes := #[27] }, type := 27, pos := "l09_shard.go:141", after := #[{ on := 0, ground := Ground.data }], guard := none }) (by kernel_rfl) rfl (fun K hK => ?_)
  refine stepc.step_call1 rfl 72 (.tmp 33) _ rfl (fun _ _ => rfl) (aggSh s.1 s.2.2.1 la ln lc ma mn mc ha hn hc) (by kernel_rfl) _ HOW2.out ?_
  rintro e w6 ⟨gl, cl, gm, cm, gh, ch, FF, rfl, hO6, hF6, hb6⟩
  refine ⟨_, rfl, ?_⟩
  have hb7 := hbd.trans (hb6.mono hbd.size)
  refine hK.out _ _ ?_ (fun hHeld => ?_)
  · exact ⟨hX.below hb7, hC.below hb7⟩
  clear hK K hHeld0
  have hHeld0 := hHeld
  clear hHeld
  try simp only [Act.put, List.setIfInBounds_toArray, List.set_cons_zero, List.set_cons_succ]
  have hR6 := hRB.below hb7
  have z0 := hR6.cell 0 _ rfl
  have z1 := hR6.cell 1 _ rfl
  have z2 := hR6.cell 2 _ rfl
  have z3 := hR6.cell 3 _ rfl
  have z4 := hR6.cell 4 _ rfl
  have hS5 := hR6.set5 (.int .i64 s.1) (.slice (some ⟨gl, 0, none⟩) ln cl) (.int .i64 s.2.2.1) (.slice (some ⟨gm, 0, none⟩) mn cm) (.slice (some ⟨gh, 0, none⟩) hn ch)
  simp only [List.length_nil, Nat.zero_add] at z0 z1 z2 z3 z4 hS5
  have f0 := hR6.fz 0
  have f1 := hR6.fz 1
  have f2 := hR6.fz 2
  have f3 := hR6.fz 3
  have f4 := hR6.fz 4
  have hBw := hB.trans (hb7.mono hB.size)
  have hBz := hBw.grown hS5.2 hBw.size (fun j e => by cases e; omega)
  have hsD := hbd.size
  have hOz := hO6.keep (fun j hj => hS5.2.block j (hO6.lt j hj) (fun e => by have h1 := hF6 j hj; have h2 := Option.some.inj e; omega))
  have hzc0 := hS5.1.cell 0 _ rfl
  have hzc1 := hS5.1.cell 1 _ rfl
  have hzc2 := hS5.1.cell 2 _ rfl
  have hzc3 := hS5.1.cell 3 _ rfl
  have hzc4 := hS5.1.cell 4 _ rfl
  simp only [List.length_nil, Nat.zero_add] at hzc0 hzc1 hzc2 hzc3 hzc4
  have hXz := (hX.below hb7).grown hS5.2 (fun e => by have h2 := Option.some.inj e; omega)
  have hCz : BoxR (w.heap.size + 1) kind tx (.slice a len cap) _ := (hS5.2.block _ (hC.below hb7).lt (fun e => by have h2 := Option.some.inj e; omega)).trans (hC.below hb7)
  have HP := Hid.mk' (ret2_mk (w := w) (v := .iface 107 (.agg #[.int .i64 tx, .iface 180 (.pointer (some (A g)))])) hOz (fun k hk => by have h1 := hF6 k hk; omega) hBz)
  refine last.wpAnyL_one (i := 7) (o := { dst := none, op := Op.store 27 (Operand.tmp 6) (Operand.tmp 34), type := 0, pos := "l09_shard.go:141", after := #[{ on := 1, ground := Ground.data }, { on := 1, ground := Ground.chain }, { on := 0, ground := Ground.phase }, { on := 1, ground := Ground.phase }, { on := 2, ground := Ground.textOnly Departure.lateStores }, { on := 3, ground := Ground.textOnly Departure.lateStores }, { on := 4, ground := Ground.textOnly Departure.lateStores }, { on := 5, ground := Ground.textOnly Departure.lateStores }, { on := 6, ground := Ground.textOnly Departure.lateStores }], guard := none }) (by kernel_rfl) rfl (fun K hK => ?_)
  go_simp
  refine hK.out _ _ ?_ (fun hHeld => ?_)
  · exact ⟨hXz, hCz⟩
  clear hK K hHeld0
  have hHeld0 := hHeld
  clear hHeld
  try simp only [Act.put, List.setIfInBounds_toArray, List.set_cons_zero, List.set_cons_succ]
  refine last.wpAnyL_last (o := { dst := some 7, op := Op.assign (Operand.tmp 39), type := 65, pos := "l09_shard.go:141", after := #[{ on := 6, ground := Ground.data }, { on := 7, ground := Ground.chain }, { on := 0, ground := Ground.phase }, { on := 1, ground := Ground.phase }, { on := 2, ground := Ground.phase }, { on := 3, ground := Ground.phase }, { on := 4, ground := Ground.phase }, { on := 5, ground := Ground.phase }, { on := 6, ground := Ground.phase }, { on := 7, ground := Ground.phase }], guard := none }) (by kernel_rfl) rfl (by kernel_rfl) (fun K hK => ?_)
  go_simp
  refine hK.out _ _ ?_
  clear hK K
  clear hHeld0 hXz hCz hOz hBz hBw hS5 hR6
  go_wp2_with fail
  refine bodyPost_ret (v := .tuple #[aggSh s.1 s.2.2.1 (some ⟨gl, 0, none⟩) ln cl (some ⟨gm, 0, none⟩) mn cm (some ⟨gh, 0, none⟩) hn ch, .iface 107 (.agg #[.int .i64 tx, .iface 180 (.pointer (some (A g)))])]) ?_ rfl HP.out
  simp [results, Tryz.results32, go_sem, hzc0, hzc1, hzc2, hzc3, hzc4]
set_option maxRecDepth 100000 in
set_option maxHeartbeats 4000000 in
theorem tried_finish_yes (G : List Nat) (A : Nat → Addr) (la : Option Addr) (ln lc : Nat) (ma : Option Addr) (mn mc : Nat) (ha : Option Addr) (hn hc : Nat) (s : Shd) (kind tx : Int) (a : Option Addr) (len cap : Nat) (ops : List Od) (w : World) (h : SeeSh w la ln lc ma mn mc ha hn hc s) (hpl : PlainR w la ln) (hb : Bound s) (ho : SlO w a len ops) (hks : ∀ p ∈ ops, p.2.1.size ≤ 1099511627776) (hsr : smallR (kind, tx, ops)) (hlen : len ≤ 1099511627776) (hK : KS G A w) (hok : (shardOk s && recOk (kind, tx, ops)) = true) (t : Shd) (hdo : ∀ wx, Below w.heap.size w wx → Calls Tryz.prog 46 #[aggSh s.1 s.2.2.1 la ln lc ma mn mc ha hn hc, .agg #[.int .i64 kind, .int .i64 tx, .slice a len cap]] wx (DoPost A t none wx)) :
    Calls Tryz.prog 32 #[aggSh s.1 s.2.2.1 la ln lc ma mn mc ha hn hc, .agg #[.int .i64 kind, .int .i64 tx, .slice a len cap], .func (.func 46) #[aggSh s.1 s.2.2.1 la ln lc ma mn mc ha hn hc] #[]] w (Ret2 w t (errV A tx none)) := by
  obtain ⟨W, hW⟩ : ∃ W, ((w.alloc (boxSh s.1 s.2.2.1 la ln lc ma mn mc ha hn hc)).alloc (.cells #[.int .i64 kind, .int .i64 tx, .slice a len cap] 41)).alloc (boxSh 0 0 none 0 0 none 0 0 none 0 0) = W := ⟨_, rfl⟩
  have hb0 : Below w.heap.size w (w.alloc (boxSh s.1 s.2.2.1 la ln lc ma mn mc ha hn hc)) := below_alloc
  have hb1 : Below w.heap.size w ((w.alloc (boxSh s.1 s.2.2.1 la ln lc ma mn mc ha hn hc)).alloc (.cells #[.int .i64 kind, .int .i64 tx, .slice a len cap] 41)) := hb0.alloc hb0.size _
  have hB : Below w.heap.size w W := by rw [← hW]; exact hb1.alloc hb1.size _
  have hX : BoxIn w.heap.size 27 [] (shVals s.1 s.2.2.1 la ln lc ma mn mc ha hn hc) [] W := by rw [← hW]; exact ((boxIn_new w _ _).below below_alloc).below below_alloc
  have hC : BoxR (w.heap.size + 1) kind tx (.slice a len cap) W := by
    rw [← hW]
    have := (boxR_new (w.alloc (boxSh s.1 s.2.2.1 la ln lc ma mn mc ha hn hc)) kind tx (.slice a len cap)).below (below_alloc (o := boxSh 0 0 none 0 0 none 0 0 none 0 0))
    rwa [show (w.alloc (boxSh s.1 s.2.2.1 la ln lc ma mn mc ha hn hc)).heap.size = w.heap.size + 1 by simp] at this
  have hRB : BoxIn (w.heap.size + 1 + 1) 27 [] (shVals 0 0 none 0 0 none 0 0 none 0 0) [] W := by
    rw [← hW]
    have := boxIn_new ((w.alloc (boxSh s.1 s.2.2.1 la ln lc ma mn mc ha hn hc)).alloc (.cells #[.int .i64 kind, .int .i64 tx, .slice a len cap] 41)) (shVals 0 0 none 0 0 none 0 0 none 0 0) 27
    rwa [show ((w.alloc (boxSh s.1 s.2.2.1 la ln lc ma mn mc ha hn hc)).alloc (.cells #[.int .i64 kind, .int .i64 tx, .slice a len cap] 41)).heap.size = w.heap.size + 1 + 1 by simp] at this
  have hsW : w.heap.size + 1 + 1 < W.heap.size := hRB.lt
  have HXC := Hid.mk' (fun wx (hx : Below W.heap.size W wx) => (show _ ∧ _ ∧ _ ∧ _ ∧ _ from by
    have a0 := (hX.below hx).cell 0 _ rfl
    have a1 := (hX.below hx).cell 1 _ rfl
    have a2 := (hX.below hx).cell 2 _ rfl
    have a3 := (hX.below hx).cell 3 _ rfl
    have a4 := (hX.below hx).cell 4 _ rfl
    simp only [List.length_nil, Nat.zero_add] at a0 a1 a2 a3 a4
    exact ⟨a0, a1, a2, a3, a4⟩))
  have HCC := Hid.mk' (fun wx (hx : Below W.heap.size W wx) => (hC.below hx).cells)
  obtain ⟨b1, b2, b3⟩ := SeeSh.few h hb
  have HOK := Hid.mk' (impl_shardOk la ln lc ma mn mc ha hn hc s W (h.below hB) (plain_below h.log hpl hB) hb.few (by omega) (by omega))
  have HRO := Hid.mk' (fun wx (hx : Below W.heap.size W wx) => impl_recOk kind tx a len cap ops wx ((ho.below hB).below hx) hks)
  have HOW := Hid.mk' (fun wx (hx : Below W.heap.size W wx) => i_ownSh la ln lc ma mn mc ha hn hc s wx ((h.below hB).below hx) hb.few hb.fewH (by omega) (by omega) (by omega))
  rw [Bool.and_eq_true] at hok
  rw [hok.1] at HOK
  rw [hok.2] at HRO
  have HDO := Hid.mk' (fun wx (hx : Below W.heap.size W wx) => hdo wx (hB.trans (hx.mono hB.size)))
  clear hok hdo
  have HW := Hid.mk' hW
  obtain ⟨a0, a1, a2, a3, a4⟩ := HXC.out W (Below.refl _ _)
  rw [← hW] at a0 a1 a2 a3 a4
  clear hW hb0 hb1
  go_enter Tryz.func32, Tryz.ntmps32
  go_wp2_with fail
  rw [HW.out]
  refine HOK.out.mono ?_
  rintro e w1 ⟨rfl, hb2⟩
  clear a0 a1 a2 a3 a4 HOK HW
  obtain ⟨c0, c1, c2⟩ := HCC.out w1 hb2
  go_wp2_with fail
  refine (HRO.out w1 hb2).mono ?_
  rintro e w2 ⟨rfl, hb3⟩
  have hb4 := hb2.trans (hb3.mono hb2.size)
  clear c0 c1 c2
  obtain ⟨c0, c1, c2⟩ := HCC.out w2 hb4
  go_wp2_with fail
  refine (HDO.out w2 hb4).mono ?_
  rintro e w3 ⟨ta, tn, tc, sa, sn, sc, ra, rn, rc, FF, rfl, hO3, hF3, hb5⟩
  have hb8 := hb4.trans (hb5.mono hb4.size)
  obtain ⟨u3, hu3⟩ : ∃ u3, w3.alloc (boxSh t.1 t.2.2.1 ta tn tc sa sn sc ra rn rc) = u3 := ⟨_, rfl⟩
  have hb9 : Below w3.heap.size w3 u3 := by rw [← hu3]; exact below_alloc
  have hT3 := inBox_new hO3
  rw [hu3] at hT3
  have hb10 := hb8.trans (hb9.mono hb8.size)
  have HU3 := Hid.mk' hu3
  have hR6 := hRB.below hb10
  obtain ⟨q0, q1, q2, q3, q4⟩ := hT3.cells
  have z0 := hR6.cell 0 _ rfl
  have z1 := hR6.cell 1 _ rfl
  have z2 := hR6.cell 2 _ rfl
  have z3 := hR6.cell 3 _ rfl
  have z4 := hR6.cell 4 _ rfl
  have hS5 := hR6.set5 (.int .i64 t.1) (.slice ta tn tc) (.int .i64 t.2.2.1) (.slice sa sn sc) (.slice ra rn rc)
  simp only [List.length_nil, Nat.zero_add] at z0 z1 z2 z3 z4 hS5
  have f0 := hR6.fz 0
  have f1 := hR6.fz 1
  have f2 := hR6.fz 2
  have f3 := hR6.fz 3
  have f4 := hR6.fz 4
  have hsz4 := hb4.size
  have hsz8 := hb8.size
  have hXR : w.heap.size + 1 + 1 ≠ w3.heap.size := by omega
  have hXR2 : w3.heap.size ≠ w.heap.size + 1 + 1 := by omega
  have hBw := hB.trans (hb10.mono hB.size)
  have hBz := hBw.grown hS5.2 hBw.size (fun j e => by cases e; omega)
  have hOz := hT3.own.keep (fun j hj => hS5.2.block j (hT3.own.lt j hj) (fun e => by have h1 := hF3 j hj; have h2 := Option.some.inj e; omega))
  have hzc0 := hS5.1.cell 0 _ rfl
  have hzc1 := hS5.1.cell 1 _ rfl
  have hzc2 := hS5.1.cell 2 _ rfl
  have hzc3 := hS5.1.cell 3 _ rfl
  have hzc4 := hS5.1.cell 4 _ rfl
  simp only [List.length_nil, Nat.zero_add] at hzc0 hzc1 hzc2 hzc3 hzc4
  have HP := Hid.mk' (ret2_mk (w := w) (v := .nilIface) hOz (fun k hk => by have h1 := hF3 k hk; omega) hBz)
  rw [← HU3.out] at q0 q1 q2 q3 q4 z0 z1 z2 z3 z4 f0 f1 f2 f3 f4 hzc0 hzc1 hzc2 hzc3 hzc4 HP
  clear c0 c1 c2 hu3 hOz hBz hBw hS5 hR6 hT3 hO3 HU3
  go_wp2_with fail
  refine bodyPost_ret (v := .tuple #[aggSh t.1 t.2.2.1 ta tn tc sa sn sc ra rn rc, .nilIface]) ?_ rfl HP.out
  simp [results, Tryz.results32, go_sem, hzc0, hzc1, hzc2, hzc3, hzc4]
set_option maxRecDepth 100000 in
set_option maxHeartbeats 4000000 in
theorem tried_letgo_no (G : List Nat) (A : Nat → Addr) (la : Option Addr) (ln lc : Nat) (ma : Option Addr) (mn mc : Nat) (ha : Option Addr) (hn hc : Nat) (s : Shd) (kind tx : Int) (a : Option Addr) (len cap : Nat) (ops : List Od) (w : World) (h : SeeSh w la ln lc ma mn mc ha hn hc s) (hpl : PlainR w la ln) (hb : Bound s) (ho : SlO w a len ops) (hks : ∀ p ∈ ops, p.2.1.size ≤ 1099511627776) (hsr : smallR (kind, tx, ops)) (hlen : len ≤ 1099511627776) (hK : KS G A w) (hok : (shardOk s && recOk (kind, tx, ops)) = true) (g : Nat) (hdo : ∀ wx, Below w.heap.size w wx → Calls Tryz.prog 48 #[aggSh s.1 s.2.2.1 la ln lc ma mn mc ha hn hc, .agg #[.int .i64 kind, .int .i64 tx, .slice a len cap]] wx fun e w' => e = .returned (.tuple #[.agg #[.int .i64 0, .slice none 0 0, .int .i64 0, .slice none 0 0, .slice none 0 0], .iface 180 (.pointer (some (A g)))]) ∧ Below wx.heap.size wx w') :
    Calls Tryz.prog 32 #[aggSh s.1 s.2.2.1 la ln lc ma mn mc ha hn hc, .agg #[.int .i64 kind, .int .i64 tx, .slice a len cap], .func (.func 48) #[aggSh s.1 s.2.2.1 la ln lc ma mn mc ha hn hc] #[]] w (Ret2 w s (errV A tx (some g))) := by
  obtain ⟨W, hW⟩ : ∃ W, ((w.alloc (boxSh s.1 s.2.2.1 la ln lc ma mn mc ha hn hc)).alloc (.cells #[.int .i64 kind, .int .i64 tx, .slice a len cap] 41)).alloc (boxSh 0 0 none 0 0 none 0 0 none 0 0) = W := ⟨_, rfl⟩
  have hb0 : Below w.heap.size w (w.alloc (boxSh s.1 s.2.2.1 la ln lc ma mn mc ha hn hc)) := below_alloc
  have hb1 : Below w.heap.size w ((w.alloc (boxSh s.1 s.2.2.1 la ln lc ma mn mc ha hn hc)).alloc (.cells #[.int .i64 kind, .int .i64 tx, .slice a len cap] 41)) := hb0.alloc hb0.size _
  have hB : Below w.heap.size w W := by rw [← hW]; exact hb1.alloc hb1.size _
  have hX : BoxIn w.heap.size 27 [] (shVals s.1 s.2.2.1 la ln lc ma mn mc ha hn hc) [] W := by rw [← hW]; exact ((boxIn_new w _ _).below below_alloc).below below_alloc
  have hC : BoxR (w.heap.size + 1) kind tx (.slice a len cap) W := by
    rw [← hW]
    have := (boxR_new (w.alloc (boxSh s.1 s.2.2.1 la ln lc ma mn mc ha hn hc)) kind tx (.slice a len cap)).below (below_alloc (o := boxSh 0 0 none 0 0 none 0 0 none 0 0))
    rwa [show (w.alloc (boxSh s.1 s.2.2.1 la ln lc ma mn mc ha hn hc)).heap.size = w.heap.size + 1 by simp] at this
  have hRB : BoxIn (w.heap.size + 1 + 1) 27 [] (shVals 0 0 none 0 0 none 0 0 none 0 0) [] W := by
    rw [← hW]
    have := boxIn_new ((w.alloc (boxSh s.1 s.2.2.1 la ln lc ma mn mc ha hn hc)).alloc (.cells #[.int .i64 kind, .int .i64 tx, .slice a len cap] 41)) (shVals 0 0 none 0 0 none 0 0 none 0 0) 27
    rwa [show ((w.alloc (boxSh s.1 s.2.2.1 la ln lc ma mn mc ha hn hc)).alloc (.cells #[.int .i64 kind, .int .i64 tx, .slice a len cap] 41)).heap.size = w.heap.size + 1 + 1 by simp] at this
  have hsW : w.heap.size + 1 + 1 < W.heap.size := hRB.lt
  have HXC := Hid.mk' (fun wx (hx : Below W.heap.size W wx) => (show _ ∧ _ ∧ _ ∧ _ ∧ _ from by
    have a0 := (hX.below hx).cell 0 _ rfl
    have a1 := (hX.below hx).cell 1 _ rfl
    have a2 := (hX.below hx).cell 2 _ rfl
    have a3 := (hX.below hx).cell 3 _ rfl
    have a4 := (hX.below hx).cell 4 _ rfl
    simp only [List.length_nil, Nat.zero_add] at a0 a1 a2 a3 a4
    exact ⟨a0, a1, a2, a3, a4⟩))
  have HCC := Hid.mk' (fun wx (hx : Below W.heap.size W wx) => (hC.below hx).cells)
  obtain ⟨b1, b2, b3⟩ := SeeSh.few h hb
  have HOK := Hid.mk' (impl_shardOk la ln lc ma mn mc ha hn hc s W (h.below hB) (plain_below h.log hpl hB) hb.few (by omega) (by omega))
  have HRO := Hid.mk' (fun wx (hx : Below W.heap.size W wx) => impl_recOk kind tx a len cap ops wx ((ho.below hB).below hx) hks)
  have HOW := Hid.mk' (fun wx (hx : Below W.heap.size W wx) => i_ownSh la ln lc ma mn mc ha hn hc s wx ((h.below hB).below hx) hb.few hb.fewH (by omega) (by omega) (by omega))
  rw [Bool.and_eq_true] at hok
  rw [hok.1] at HOK
  rw [hok.2] at HRO
  have HDO := Hid.mk' (fun wx (hx : Below W.heap.size W wx) => hdo wx (hB.trans (hx.mono hB.size)))
  clear hok hdo
  have HW := Hid.mk' hW
  obtain ⟨a0, a1, a2, a3, a4⟩ := HXC.out W (Below.refl _ _)
  rw [← hW] at a0 a1 a2 a3 a4
  clear hW hb0 hb1
  go_enter Tryz.func32, Tryz.ntmps32
  go_wp2_with fail
  rw [HW.out]
  refine HOK.out.mono ?_
  rintro e w1 ⟨rfl, hb2⟩
  clear a0 a1 a2 a3 a4 HOK HW
  obtain ⟨c0, c1, c2⟩ := HCC.out w1 hb2
  go_wp2_with fail
  refine (HRO.out w1 hb2).mono ?_
  rintro e w2 ⟨rfl, hb3⟩
  have hb4 := hb2.trans (hb3.mono hb2.size)
  clear c0 c1 c2
  obtain ⟨c0, c1, c2⟩ := HCC.out w2 hb4
  go_wp2_with fail
  refine (HDO.out w2 hb4).mono ?_
  rintro e w3 ⟨rfl, hb5⟩
  have hb8 := hb4.trans (hb5.mono hb4.size)
  obtain ⟨u3, hu3⟩ : ∃ u3, w3.alloc (boxSh 0 0 none 0 0 none 0 0 none 0 0) = u3 := ⟨_, rfl⟩
  have hb9 : Below w3.heap.size w3 u3 := by rw [← hu3]; exact below_alloc
  have hb10 := hb8.trans (hb9.mono hb8.size)
  have HU3 := Hid.mk' hu3
  clear c0 c1 c2 hu3
  have hd : Below u3.heap.size u3 u3.drew := (Below.refl _ _).drew
  have hbd := hb10.trans (hd.mono hb10.size)
  have HOW2 := Hid.mk' (HOW.out _ hbd)
  go_wp2_with fail
  rw [HU3.out]
  refine last.wp_region_later (S := fun w' => BoxIn w.heap.size 27 [] (shVals s.1 s.2.2.1 la ln lc ma mn mc ha hn hc) [] w' ∧ BoxR (w.heap.size + 1) kind tx (.slice a len cap) w') 8 (by kernel_rfl) ⟨hX.below hbd, hC.below hbd⟩ (fun hHeld0 => ?_)
  generalize u3.drew = D5 at *
  refine last.wpAnyL_take (i := 0) (v := (aggSh s.1 s.2.2.1 la ln lc ma mn mc ha hn hc)) rfl rfl (by kernel_rfl) (by kernel_rfl) (by kernel_rfl) (by kernel_rfl) (fun _ _ _ h => h) (Or.inl ⟨by rfl, ?_⟩) (by assumption) ?_
  · intro wq hSq; obtain ⟨q0, q1, q2, q3, q4⟩ := boxcells hSq.1; go_simp
  try simp only [Act.put, List.setIfInBounds_toArray, List.set_cons_zero, List.set_cons_succ]
  refine last.wpAnyL_take (i := 2) (v := (.pointer (some ⟨w.heap.size + 1, 1, none⟩))) rfl rfl (by kernel_rfl) (by kernel_rfl) (by kernel_rfl) (by kernel_rfl) (fun _ _ _ h => h) (Or.inl ⟨by rfl, ?_⟩) (by assumption) ?_
  · intro wq hSq; go_simp
  try simp only [Act.put, List.setIfInBounds_toArray, List.set_cons_zero, List.set_cons_succ]
  refine last.wpAnyL_take (i := 3) (v := (.int .i64 tx)) rfl rfl (by kernel_rfl) (by kernel_rfl) (by kernel_rfl) (by kernel_rfl) (fun _ _ _ h => h) (Or.inl ⟨by rfl, ?_⟩) (by assumption) ?_
  · intro wq hSq; obtain ⟨q1, q2, q3⟩ := hSq.2.cells; go_simp
  try simp only [Act.put, List.setIfInBounds_toArray, List.set_cons_zero, List.set_cons_succ]
  refine last.wpAnyL_take (i := 4) (v := (.iface 180 (.pointer (some (A g))))) rfl rfl (by kernel_rfl) (by kernel_rfl) (by kernel_rfl) (by kernel_rfl) (fun _ _ _ h => h) (Or.inl ⟨by rfl, ?_⟩) (by assumption) ?_
  · intro wq hSq; go_simp
  try simp only [Act.put, List.setIfInBounds_toArray, List.set_cons_zero, List.set_cons_succ]
  refine last.wpAnyL_take (i := 5) (v := (.agg #[.int .i64 tx, .iface 180 (.pointer (some (A g)))])) rfl rfl (by kernel_rfl) (by kernel_rfl) (by kernel_rfl) (by kernel_rfl) (fun _ _ _ h => h) (Or.inl ⟨by rfl, ?_⟩) (by assumption) ?_
  · intro wq hSq; go_simp
  try simp only [Act.put, List.setIfInBounds_toArray, List.set_cons_zero, List.set_cons_succ]
  refine last.wpAnyL_take (i := 6) (v := (.iface 107 (.agg #[.int .i64 tx, .iface 180 (.pointer (some (A g)))]))) rfl rfl (by kernel_rfl) (by kernel_rfl) (by kernel_rfl) (by kernel_rfl) (fun _ _ _ h => h) (Or.inl ⟨by rfl, ?_⟩) (by assumption) ?_
  · intro wq hSq; go_simp
  try simp only [Act.put, List.setIfInBounds_toArray, List.set_cons_zero, List.set_cons_succ]
  refine last.wpAnyL_one (i := 1) (o := { dst := some 34, op := Op.call { callee := Callee.value (Operand.func 72), args := #[Operand.tmp 33], argTypes := #[27] }, type := 27, pos := "l09_shard.go:141", after := #[{ on := 0, ground := Ground.data }], guard := none }) (by kernel_rfl) rfl (fun K hK => ?_)
  refine stepc.step_call1 rfl 72 (.tmp 33) _ rfl (fun _ _ => rfl) (aggSh s.1 s.2.2.1 la ln lc ma mn mc ha hn hc) (by kernel_rfl) _ HOW2.out ?_
  rintro e w6 ⟨gl, cl, gm, cm, gh, ch, FF, rfl, hO6, hF6, hb6⟩
  refine ⟨_, rfl, ?_⟩
  have hb7 := hbd.trans (hb6.mono hbd.size)
  refine hK.out _ _ ?_ (fun hHeld => ?_)
  · exact ⟨hX.below hb7, hC.below hb7⟩
  clear hK K hHeld0
  have hHeld0 := hHeld
  clear hHeld
  try simp only [Act.put, List.setIfInBounds_toArray, List.set_cons_zero, List.set_cons_succ]
  have hR6 := hRB.below hb7
  have z0 := hR6.cell 0 _ rfl
  have z1 := hR6.cell 1 _ rfl
  have z2 := hR6.cell 2 _ rfl
  have z3 := hR6.cell 3 _ rfl
  have z4 := hR6.cell 4 _ rfl
  have hS5 := hR6.set5 (.int .i64 s.1) (.slice (some ⟨gl, 0, none⟩) ln cl) (.int .i64 s.2.2.1) (.slice (some ⟨gm, 0, none⟩) mn cm) (.slice (some ⟨gh, 0, none⟩) hn ch)
  simp only [List.length_nil, Nat.zero_add] at z0 z1 z2 z3 z4 hS5
  have f0 := hR6.fz 0
  have f1 := hR6.fz 1
  have f2 := hR6.fz 2
  have f3 := hR6.fz 3
  have f4 := hR6.fz 4
  have hBw := hB.trans (hb7.mono hB.size)
  have hBz := hBw.grown hS5.2 hBw.size (fun j e => by cases e; omega)
  have hsD := hbd.size
  have hOz := hO6.keep (fun j hj => hS5.2.block j (hO6.lt j hj) (fun e => by have h1 := hF6 j hj; have h2 := Option.some.inj e; omega))
  have hzc0 := hS5.1.cell 0 _ rfl
  have hzc1 := hS5.1.cell 1 _ rfl
  have hzc2 := hS5.1.cell 2 _ rfl
  have hzc3 := hS5.1.cell 3 _ rfl
  have hzc4 := hS5.1.cell 4 _ rfl
  simp only [List.length_nil, Nat.zero_add] at hzc0 hzc1 hzc2 hzc3 hzc4
  have hXz := (hX.below hb7).grown hS5.2 (fun e => by have h2 := Option.some.inj e; omega)
  have hCz : BoxR (w.heap.size + 1) kind tx (.slice a len cap) _ := (hS5.2.block _ (hC.below hb7).lt (fun e => by have h2 := Option.some.inj e; omega)).trans (hC.below hb7)
  have HP := Hid.mk' (ret2_mk (w := w) (v := .iface 107 (.agg #[.int .i64 tx, .iface 180 (.pointer (some (A g)))])) hOz (fun k hk => by have h1 := hF6 k hk; omega) hBz)
  refine last.wpAnyL_one (i := 7) (o := { dst := none, op := Op.store 27 (Operand.tmp 6) (Operand.tmp 34), type := 0, pos := "l09_shard.go:141", after := #[{ on := 1, ground := Ground.data }, { on := 1, ground := Ground.chain }, { on := 0, ground := Ground.phase }, { on := 1, ground := Ground.phase }, { on := 2, ground := Ground.textOnly Departure.lateStores }, { on := 3, ground := Ground.textOnly Departure.lateStores }, { on := 4, ground := Ground.textOnly Departure.lateStores }, { on := 5, ground := Ground.textOnly Departure.lateStores }, { on := 6, ground := Ground.textOnly Departure.lateStores }], guard := none }) (by kernel_rfl) rfl (fun K hK => ?_)
  go_simp
  refine hK.out _ _ ?_ (fun hHeld => ?_)
  · exact ⟨hXz, hCz⟩
  clear hK K hHeld0
  have hHeld0 := hHeld
  clear hHeld
  try simp only [Act.put, List.setIfInBounds_toArray, List.set_cons_zero, List.set_cons_succ]
  refine last.wpAnyL_last (o := { dst := some 7, op := Op.assign (Operand.tmp 39), type := 65, pos := "l09_shard.go:141", after := #[{ on := 6, ground := Ground.data }, { on := 7, ground := Ground.chain }, { on := 0, ground := Ground.phase }, { on := 1, ground := Ground.phase }, { on := 2, ground := Ground.phase }, { on := 3, ground := Ground.phase }, { on := 4, ground := Ground.phase }, { on := 5, ground := Ground.phase }, { on := 6, ground := Ground.phase }, { on := 7, ground := Ground.phase }], guard := none }) (by kernel_rfl) rfl (by kernel_rfl) (fun K hK => ?_)
  go_simp
  refine hK.out _ _ ?_
  clear hK K
  clear hHeld0 hXz hCz hOz hBz hBw hS5 hR6
  go_wp2_with fail
  refine bodyPost_ret (v := .tuple #[aggSh s.1 s.2.2.1 (some ⟨gl, 0, none⟩) ln cl (some ⟨gm, 0, none⟩) mn cm (some ⟨gh, 0, none⟩) hn ch, .iface 107 (.agg #[.int .i64 tx, .iface 180 (.pointer (some (A g)))])]) ?_ rfl HP.out
  simp [results, Tryz.results32, go_sem, hzc0, hzc1, hzc2, hzc3, hzc4]
set_option maxRecDepth 100000 in
set_option maxHeartbeats 4000000 in
theorem tried_letgo_yes (G : List Nat) (A : Nat → Addr) (la : Option Addr) (ln lc : Nat) (ma : Option Addr) (mn mc : Nat) (ha : Option Addr) (hn hc : Nat) (s : Shd) (kind tx : Int) (a : Option Addr) (len cap : Nat) (ops : List Od) (w : World) (h : SeeSh w la ln lc ma mn mc ha hn hc s) (hpl : PlainR w la ln) (hb : Bound s) (ho : SlO w a len ops) (hks : ∀ p ∈ ops, p.2.1.size ≤ 1099511627776) (hsr : smallR (kind, tx, ops)) (hlen : len ≤ 1099511627776) (hK : KS G A w) (hok : (shardOk s && recOk (kind, tx, ops)) = true) (t : Shd) (hdo : ∀ wx, Below w.heap.size w wx → Calls Tryz.prog 48 #[aggSh s.1 s.2.2.1 la ln lc ma mn mc ha hn hc, .agg #[.int .i64 kind, .int .i64 tx, .slice a len cap]] wx (DoPost A t none wx)) :
    Calls Tryz.prog 32 #[aggSh s.1 s.2.2.1 la ln lc ma mn mc ha hn hc, .agg #[.int .i64 kind, .int .i64 tx, .slice a len cap], .func (.func 48) #[aggSh s.1 s.2.2.1 la ln lc ma mn mc ha hn hc] #[]] w (Ret2 w t (errV A tx none)) := by
  obtain ⟨W, hW⟩ : ∃ W, ((w.alloc (boxSh s.1 s.2.2.1 la ln lc ma mn mc ha hn hc)).alloc (.cells #[.int .i64 kind, .int .i64 tx, .slice a len cap] 41)).alloc (boxSh 0 0 none 0 0 none 0 0 none 0 0) = W := ⟨_, rfl⟩
  have hb0 : Below w.heap.size w (w.alloc (boxSh s.1 s.2.2.1 la ln lc ma mn mc ha hn hc)) := below_alloc
  have hb1 : Below w.heap.size w ((w.alloc (boxSh s.1 s.2.2.1 la ln lc ma mn mc ha hn hc)).alloc (.cells #[.int .i64 kind, .int .i64 tx, .slice a len cap] 41)) := hb0.alloc hb0.size _
  have hB : Below w.heap.size w W := by rw [← hW]; exact hb1.alloc hb1.size _
  have hX : BoxIn w.heap.size 27 [] (shVals s.1 s.2.2.1 la ln lc ma mn mc ha hn hc) [] W := by rw [← hW]; exact ((boxIn_new w _ _).below below_alloc).below below_alloc
  have hC : BoxR (w.heap.size + 1) kind tx (.slice a len cap) W := by
    rw [← hW]
    have := (boxR_new (w.alloc (boxSh s.1 s.2.2.1 la ln lc ma mn mc ha hn hc)) kind tx (.slice a len cap)).below (below_alloc (o := boxSh 0 0 none 0 0 none 0 0 none 0 0))
    rwa [show (w.alloc (boxSh s.1 s.2.2.1 la ln lc ma mn mc ha hn hc)).heap.size = w.heap.size + 1 by simp] at this
  have hRB : BoxIn (w.heap.size + 1 + 1) 27 [] (shVals 0 0 none 0 0 none 0 0 none 0 0) [] W := by
    rw [← hW]
    have := boxIn_new ((w.alloc (boxSh s.1 s.2.2.1 la ln lc ma mn mc ha hn hc)).alloc (.cells #[.int .i64 kind, .int .i64 tx, .slice a len cap] 41)) (shVals 0 0 none 0 0 none 0 0 none 0 0) 27
    rwa [show ((w.alloc (boxSh s.1 s.2.2.1 la ln lc ma mn mc ha hn hc)).alloc (.cells #[.int .i64 kind, .int .i64 tx, .slice a len cap] 41)).heap.size = w.heap.size + 1 + 1 by simp] at this
  have hsW : w.heap.size + 1 + 1 < W.heap.size := hRB.lt
  have HXC := Hid.mk' (fun wx (hx : Below W.heap.size W wx) => (show _ ∧ _ ∧ _ ∧ _ ∧ _ from by
    have a0 := (hX.below hx).cell 0 _ rfl
    have a1 := (hX.below hx).cell 1 _ rfl
    have a2 := (hX.below hx).cell 2 _ rfl
    have a3 := (hX.below hx).cell 3 _ rfl
    have a4 := (hX.below hx).cell 4 _ rfl
    simp only [List.length_nil, Nat.zero_add] at a0 a1 a2 a3 a4
    exact ⟨a0, a1, a2, a3, a4⟩))
  have HCC := Hid.mk' (fun wx (hx : Below W.heap.size W wx) => (hC.below hx).cells)
  obtain ⟨b1, b2, b3⟩ := SeeSh.few h hb
  have HOK := Hid.mk' (impl_shardOk la ln lc ma mn mc ha hn hc s W (h.below hB) (plain_below h.log hpl hB) hb.few (by omega) (by omega))
  have HRO := Hid.mk' (fun wx (hx : Below W.heap.size W wx) => impl_recOk kind tx a len cap ops wx ((ho.below hB).below hx) hks)
  have HOW := Hid.mk' (fun wx (hx : Below W.heap.size W wx) => i_ownSh la ln lc ma mn mc ha hn hc s wx ((h.below hB).below hx) hb.few hb.fewH (by omega) (by omega) (by omega))
  rw [Bool.and_eq_true] at hok
  rw [hok.1] at HOK
  rw [hok.2] at HRO
  have HDO := Hid.mk' (fun wx (hx : Below W.heap.size W wx) => hdo wx (hB.trans (hx.mono hB.size)))
  clear hok hdo
  have HW := Hid.mk' hW
  obtain ⟨a0, a1, a2, a3, a4⟩ := HXC.out W (Below.refl _ _)
  rw [← hW] at a0 a1 a2 a3 a4
  clear hW hb0 hb1
  go_enter Tryz.func32, Tryz.ntmps32
  go_wp2_with fail
  rw [HW.out]
  refine HOK.out.mono ?_
  rintro e w1 ⟨rfl, hb2⟩
  clear a0 a1 a2 a3 a4 HOK HW
  obtain ⟨c0, c1, c2⟩ := HCC.out w1 hb2
  go_wp2_with fail
  refine (HRO.out w1 hb2).mono ?_
  rintro e w2 ⟨rfl, hb3⟩
  have hb4 := hb2.trans (hb3.mono hb2.size)
  clear c0 c1 c2
  obtain ⟨c0, c1, c2⟩ := HCC.out w2 hb4
  go_wp2_with fail
  refine (HDO.out w2 hb4).mono ?_
  rintro e w3 ⟨ta, tn, tc, sa, sn, sc, ra, rn, rc, FF, rfl, hO3, hF3, hb5⟩
  have hb8 := hb4.trans (hb5.mono hb4.size)
  obtain ⟨u3, hu3⟩ : ∃ u3, w3.alloc (boxSh t.1 t.2.2.1 ta tn tc sa sn sc ra rn rc) = u3 := ⟨_, rfl⟩
  have hb9 : Below w3.heap.size w3 u3 := by rw [← hu3]; exact below_alloc
  have hT3 := inBox_new hO3
  rw [hu3] at hT3
  have hb10 := hb8.trans (hb9.mono hb8.size)
  have HU3 := Hid.mk' hu3
  have hR6 := hRB.below hb10
  obtain ⟨q0, q1, q2, q3, q4⟩ := hT3.cells
  have z0 := hR6.cell 0 _ rfl
  have z1 := hR6.cell 1 _ rfl
  have z2 := hR6.cell 2 _ rfl
  have z3 := hR6.cell 3 _ rfl
  have z4 := hR6.cell 4 _ rfl
  have hS5 := hR6.set5 (.int .i64 t.1) (.slice ta tn tc) (.int .i64 t.2.2.1) (.slice sa sn sc) (.slice ra rn rc)
  simp only [List.length_nil, Nat.zero_add] at z0 z1 z2 z3 z4 hS5
  have f0 := hR6.fz 0
  have f1 := hR6.fz 1
  have f2 := hR6.fz 2
  have f3 := hR6.fz 3
  have f4 := hR6.fz 4
  have hsz4 := hb4.size
  have hsz8 := hb8.size
  have hXR : w.heap.size + 1 + 1 ≠ w3.heap.size := by omega
  have hXR2 : w3.heap.size ≠ w.heap.size + 1 + 1 := by omega
  have hBw := hB.trans (hb10.mono hB.size)
  have hBz := hBw.grown hS5.2 hBw.size (fun j e => by cases e; omega)
  have hOz := hT3.own.keep (fun j hj => hS5.2.block j (hT3.own.lt j hj) (fun e => by have h1 := hF3 j hj; have h2 := Option.some.inj e; omega))
  have hzc0 := hS5.1.cell 0 _ rfl
  have hzc1 := hS5.1.cell 1 _ rfl
  have hzc2 := hS5.1.cell 2 _ rfl
  have hzc3 := hS5.1.cell 3 _ rfl
  have hzc4 := hS5.1.cell 4 _ rfl
  simp only [List.length_nil, Nat.zero_add] at hzc0 hzc1 hzc2 hzc3 hzc4
  have HP := Hid.mk' (ret2_mk (w := w) (v := .nilIface) hOz (fun k hk => by have h1 := hF3 k hk; omega) hBz)
  rw [← HU3.out] at q0 q1 q2 q3 q4 z0 z1 z2 z3 z4 f0 f1 f2 f3 f4 hzc0 hzc1 hzc2 hzc3 hzc4 HP
  clear c0 c1 c2 hu3 hOz hBz hBw hS5 hR6 hT3 hO3 HU3
  go_wp2_with fail
  refine bodyPost_ret (v := .tuple #[aggSh t.1 t.2.2.1 ta tn tc sa sn sc ra rn rc, .nilIface]) ?_ rfl HP.out
  simp [results, Tryz.results32, go_sem, hzc0, hzc1, hzc2, hzc3, hzc4]
end Go.Proofs.YteniflajiklffaaGreatDoor.recs

namespace Go.Proofs.YteniflajiklffaaGreatDoor.recs
open Go Go.RowKit Go.Proofs.YteniflajiklffaaGreatDoor.base Go.Proofs.YteniflajiklffaaGreatDoor.pairs Go.Proofs.YteniflajiklffaaGreatDoor.ords
set_option linter.unusedVariables false
set_option linter.unusedSimpArgs false

set_option maxRecDepth 100000 in
theorem i_settled1 (rb : Nat) (kr tx : Int) (vr : Value) (k t : Int) (v : Value) (hv : v.oneCell' = true) (w : World) (hC : BoxR rb kr tx vr w) :
    Calls Tryz.prog 122 #[.agg #[.int .i64 k, .int .i64 t, v], .pointer (some ⟨rb, 0, none⟩)] w fun e w' => e = .returned (.bool (t == tx)) ∧ Below w.heap.size w w' := by
  have hb : Below w.heap.size w (w.alloc (.cells #[.int .i64 k, .int .i64 t, v] 41)) := (Below.refl _ _).alloc (Nat.le_refl _) _
  obtain ⟨c0, c1, c2⟩ := (hC.below hb).cells
  go_enter Tryz.func122, Tryz.ntmps122
  go_wp2_with fail
  go_ret
  exact ⟨rfl, hb⟩
set_option maxRecDepth 100000 in
set_option maxHeartbeats 4000000 in
theorem i_index (a : Option Addr) (len cap : Nat) (l : List Rc) (rb : Nat) (kr tx : Int) (vr : Value) (w : World) (h : SlR w a len l) (hC : BoxR rb kr tx vr w) :
    Calls Tryz.prog 132 #[.slice a len cap, .func (.func 122) #[] #[.pointer (some ⟨rb, 0, none⟩)]] w fun e w' => e = .returned (.int .i64 (atRet (placeTx tx l))) ∧ Below w.heap.size w w' := by
  obtain ⟨hl, hm, hsm, hc⟩ := id h
  subst hl
  unfold maxLen at hm
  generalize hR : placeTx tx l = R
  have HR := Hid.mk' hR
  clear hR
  go_enter Tryz.func132, Tryz.ntmps132
  go_wp2_with fail
  go_loopw [8] (fun i wr => ∃ k : Nat, k ≤ l.length ∧ i = .int .i64 (k : Int) ∧ (∀ r ∈ l.take k, r.2.1 ≠ tx) ∧ Below w.heap.size w wr) (fun i _ => l.length - (intOf i).toNat)
  case atStart => exact ⟨0, Nat.zero_le _, rfl, by simp, Below.refl _ _⟩
  case round =>
    obtain ⟨k, hk, rfl, hno, hb⟩ := hrel
    by_cases hlt : k < l.length
    · obtain ⟨b, off, ha, _⟩ := hc (by omega)
      subst ha
      obtain ⟨c0, c1, pa, pl, pc, c2, _, _⟩ := (h.below hb).at k hlt
      have hki : (k : Int) < (l.length : Int) := by omega
      have HCL := Hid.mk' (i_settled1 rb kr tx vr l[k].1 l[k].2.1 (.slice pa pl pc) rfl wr (hC.below hb))
      by_cases e : l[k].2.1 = tx
      · have HP : Hid (R = some k) := by show _ = _; rw [← HR.out]; exact placeTx_hit hlt hno e
        have eb : (l[k].2.1 == tx) = true := by simpa using e
        rw [eb] at HCL
        clear hno HR e eb
        generalize l[k] = p at *
        go_wp2_with fail
        refine HCL.out.mono ?_
        rintro e w1 ⟨rfl, hb1⟩
        have hbz := hb.trans (hb1.mono hb.size)
        clear c0 c1 c2 HCL
        go_wp2_with fail
        go_ret
        rw [HP.out]
        exact ⟨rfl, hbz⟩
      · have eb : (l[k].2.1 == tx) = false := beq_eq_false_iff_ne.2 e
        rw [eb] at HCL
        have HN : Hid (∀ r ∈ l.take (k + 1), r.2.1 ≠ tx) := by
          intro r hr
          rw [List.take_succ_eq_append_getElem hlt] at hr
          rcases List.mem_append.1 hr with e2 | e2
          · exact hno r e2
          · rw [List.mem_singleton.1 e2]; exact e
        clear hno e eb
        generalize l[k] = p at *
        go_wp2_with fail
        refine HCL.out.mono ?_
        rintro e w1 ⟨rfl, hb1⟩
        have hbz := hb.trans (hb1.mono hb.size)
        clear c0 c1 c2 HCL
        go_wp2_with fail
        go_roundw
        case rel => exact ⟨k + 1, by omega, by go_num, HN.out, hbz⟩
        case measure => simp [intOf]; omega
    · have HP : Hid (R = none) := by
        show _ = _
        rw [← HR.out]
        rw [List.take_of_length_le (by omega)] at hno
        exact placeTx_miss hno
      have hnk : ¬ (k : Int) < (l.length : Int) := by omega
      go_wp2_with fail
      go_ret
      rw [HP.out]
      exact ⟨rfl, hb⟩
/-! ### one taken out, in place -/
def shl {α : Type} (k j : Nat) (l : List α) : List α := l.take k ++ (l.drop (k + 1)).take (j - 1 - k) ++ l.drop (j - 1)
theorem shl_length {α : Type} {k j : Nat} {l : List α} (h1 : k < j) (h2 : j ≤ l.length) : (shl k j l).length = l.length := by
  unfold shl; simp; omega
theorem shl_start {α : Type} {k : Nat} {l : List α} : shl k (k + 1) l = l := by
  unfold shl; simp
theorem shl_at {α : Type} {k j : Nat} {l : List α} (h1 : k < j) (h2 : j < l.length) : (shl k j l)[j]'(by rw [shl_length h1 (by omega)]; exact h2) = l[j] := by
  unfold shl
  rw [List.getElem_append_right (by simp; omega)]
  simp only [List.getElem_drop]
  congr 1
  simp; omega
theorem shl_step {α : Type} {k j : Nat} {l : List α} (h1 : k < j) (h2 : j < l.length) : (shl k j l).set (j - 1) l[j] = shl k (j + 1) l := by
  unfold shl
  have e1 : (l.take k ++ (l.drop (k + 1)).take (j - 1 - k)).length = j - 1 := by simp; omega
  rw [List.set_append_right _ _ (by omega), e1, Nat.sub_self]
  have e2 : l.drop (j - 1) = l[j - 1]'(by omega) :: l.drop j := by
    rw [List.drop_eq_getElem_cons (by omega)]
    congr 2; omega
  rw [e2, List.set_cons_zero]
  have e3 : (l.drop (k + 1)).take (j + 1 - 1 - k) = (l.drop (k + 1)).take (j - 1 - k) ++ [l[j]] := by
    rw [show j + 1 - 1 - k = (j - 1 - k) + 1 by omega, List.take_succ_eq_append_getElem (by simp; omega)]
    congr 2
    rw [List.getElem_drop]
    congr 1; omega
  rw [e3, show j + 1 - 1 = j by omega]
  simp
theorem shl_all {α : Type} {k : Nat} {l : List α} (h : k < l.length) : (shl k l.length l).take (l.length - 1) = l.take k ++ l.drop (k + 1) := by
  unfold shl
  have e1 : (l.take k ++ (l.drop (k + 1)).take (l.length - 1 - k)).length = l.length - 1 := by simp; omega
  rw [List.take_append_of_le_length (by omega), List.take_of_length_le (by omega)]
  congr 1
  exact List.take_of_length_le (by simp; omega)
theorem recVals_set (l : List Rc) (hs : List Value) (h : hs.length = l.length) (i : Nat) (hi : i < l.length) (r : Rc) (v : Value) :
    (((recVals l hs).set (i * 3) (.int .i64 r.1)).set (i * 3 + 1) (.int .i64 r.2.1)).set (i * 3 + 2) v = recVals (l.set i r) (hs.set i v) := by
  induction l generalizing hs i with
  | nil => simp at hi
  | cons x l ih =>
    cases hs with
    | nil => simp at h
    | cons y hs =>
      have h' : hs.length = l.length := by simpa using h
      cases i with
      | zero => simp [recVals]
      | succ i =>
        have := ih hs h' i (by simpa using hi)
        simp only [recVals, List.zip_cons_cons, List.flatMap_cons, List.set_cons_succ] at this ⊢
        rw [List.set_append_right _ _ (by simp; omega), List.set_append_right _ _ (by simp; omega), List.set_append_right _ _ (by simp; omega)]
        congr 1
        rw [← this]
        simp only [List.length_cons, List.length_nil]
        rw [show (i + 1) * 3 - (0 + 1 + 1 + 1) = i * 3 by omega, show (i + 1) * 3 + 1 - (0 + 1 + 1 + 1) = i * 3 + 1 by omega, show (i + 1) * 3 + 2 - (0 + 1 + 1 + 1) = i * 3 + 2 by omega]
theorem row_set3 {w : World} {g n c : Nat} {xs : List Value} (h : w.ownsRow 0 41 3 (.slice (some ⟨g, 0, none⟩) n c) n xs) (i : Nat) (u v z : Value) :
    (((w.setCell ⟨g, i, none⟩ u).setCell ⟨g, i + 1, none⟩ v).setCell ⟨g, i + 2, none⟩ z).ownsRow 0 41 3 (.slice (some ⟨g, 0, none⟩) n c) n (((xs.set i u).set (i + 1) v).set (i + 2) z) ∧ w.grownBy (((w.setCell ⟨g, i, none⟩ u).setCell ⟨g, i + 1, none⟩ v).setCell ⟨g, i + 2, none⟩ z) (some g) := by
  have h1 := h.stored i u
  have h2 := h1.1.stored (i + 1) v
  have h3 := h2.1.stored (i + 2) z
  exact ⟨h3.1, grownBy_trans h1.2 (grownBy_trans h2.2 h3.2)⟩
theorem row_less {w : World} {g n c : Nat} {xs : List Value} (h : w.ownsRow 0 41 3 (.slice (some ⟨g, 0, none⟩) n c) n xs) (m : Nat) (hm : m ≤ n) : w.ownsRow 0 41 3 (.slice (some ⟨g, 0, none⟩) m c) m (xs.take (m * 3)) := by
  obtain ⟨h1, h2⟩ := h
  rcases h2 with ⟨e, _⟩ | ⟨g', c', cur, e, hb, hg, hnc, hcm, hcs, htk⟩
  · cases e
  · cases e
    refine ⟨by rw [List.length_take, h1]; omega, .inr ⟨g, c, cur, rfl, hb, hg, by omega, hcm, hcs, ?_⟩⟩
    rw [← htk, List.take_take]
    congr 1; omega
theorem OwnR.eraseF {w w' : World} {g n c : Nat} {l : List Rc} {hs : List Value} (h : OwnR w 0 (.slice (some ⟨g, 0, none⟩) n c) l hs) (hf : lay.Frame [g] w w') (k : Nat) (hk : k < l.length) {n' : Nat} (hn : n' = l.length - 1)
    (hown : w'.ownsRow 0 41 3 (.slice (some ⟨g, 0, none⟩) n' c) n' (recVals (l.take k ++ l.drop (k + 1)) (hs.take k ++ hs.drop (k + 1)))) :
    OwnR w' 0 (.slice (some ⟨g, 0, none⟩) n' c) (l.take k ++ l.drop (k + 1)) (hs.take k ++ hs.drop (k + 1)) := by
  have hl := h.len
  have hlen : (l.take k ++ l.drop (k + 1)).length = n' := by simp; omega
  have hV : ∀ i (hi : i < l.length), OwnV w' 0 (hs[i]'(by omega)) l[i].2.2 := fun i hi => by
    have h1 := h.ops i hi
    exact ⟨h1.1, rowR_of_block h1.2 (fun j e => hf.block j (h1.2.lt j e).2 (fun e2 => h.out g rfl _ (List.getElem_mem _) (by rw [e, List.mem_singleton.1 e2])))⟩
  have hops : ∀ i (hi : i < (l.take k ++ l.drop (k + 1)).length), OwnV w' 0 ((hs.take k ++ hs.drop (k + 1))[i]'(by simp at hi ⊢; omega)) (l.take k ++ l.drop (k + 1))[i].2.2 := by
    intro i hi
    by_cases e : i < k
    · have h1 : (l.take k ++ l.drop (k + 1))[i] = l[i]'(by omega) := by
        rw [List.getElem_append_left (by simp; omega)]; simp
      have h2 : (hs.take k ++ hs.drop (k + 1))[i]'(by simp at hi ⊢; omega) = hs[i]'(by omega) := by
        rw [List.getElem_append_left (by simp; omega)]; simp
      rw [h1, h2]
      exact hV i (by omega)
    · have hi' : i + 1 < l.length := by simp at hi; omega
      have h1 : (l.take k ++ l.drop (k + 1))[i] = l[i + 1]'hi' := by
        rw [List.getElem_append_right (by simp; omega)]
        simp only [List.getElem_drop]
        congr 1
        simp; omega
      have h2 : (hs.take k ++ hs.drop (k + 1))[i]'(by simp at hi ⊢; omega) = hs[i + 1]'(by omega) := by
        rw [List.getElem_append_right (by simp; omega)]
        simp only [List.getElem_drop]
        congr 1
        simp; omega
      rw [h1, h2]
      exact hV (i + 1) hi'
  have hsub : (hs.take k ++ hs.drop (k + 1)).Sublist hs := by
    rw [← List.eraseIdx_eq_take_drop_succ]; exact List.eraseIdx_sublist _ _
  refine ⟨by simp; omega, fun x hx => h.sm x ?_, by rw [hlen]; exact hown, hops, h.apart.sublist hsub, fun j hj y hy e => ?_⟩
  · rcases List.mem_append.1 hx with h1 | h1
    · exact List.mem_of_mem_take h1
    · exact List.mem_of_mem_drop h1
  · have hy2 : y ∈ hs := hsub.subset hy
    have e3 : g = j := by simpa [Value.ownBlock] using hj
    exact h.out j (by rw [← e3]; rfl) y hy2 e
end Go.Proofs.YteniflajiklffaaGreatDoor.recs
