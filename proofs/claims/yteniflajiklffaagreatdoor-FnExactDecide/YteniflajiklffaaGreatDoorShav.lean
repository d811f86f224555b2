/- What a shard does is tried. -/
import Derived.Test.YteniflajiklffaaGreatDoorShau
namespace Go.Proofs.YteniflajiklffaaGreatDoor.recs
open Go Go.RowKit Go.Proofs.YteniflajiklffaaGreatDoor.base Go.Proofs.YteniflajiklffaaGreatDoor.pairs Go.Proofs.YteniflajiklffaaGreatDoor.ords Go.Proofs.YteniflajiklffaaGreatDoor.helps Go.Proofs.YteniflajiklffaaGreatDoor.help Go.Proofs.YteniflajiklffaaGreatDoor.lay Go.Proofs.YteniflajiklffaaGreatDoor.sent
set_option linter.unusedVariables false
set_option linter.unusedSimpArgs false

def errV (A : Nat → Addr) (tx : Int) (g : Option Nat) : Value := match g with | none => .nilIface | some k => .iface 107 (.agg #[.int .i64 tx, .iface 180 (.pointer (some (A k)))])
theorem boxcells {w : World} {X : Nat} {id sure : Int} {la ma ha : Option Addr} {ln lc mn mc hn hc : Nat} (h : BoxIn X 27 [] (shVals id sure la ln lc ma mn mc ha hn hc) [] w) : w.cell? ⟨X, 0, none⟩ = some (.int .i64 id) ∧ w.cell? ⟨X, 1, none⟩ = some (.slice la ln lc) ∧ w.cell? ⟨X, 2, none⟩ = some (.int .i64 sure) ∧ w.cell? ⟨X, 3, none⟩ = some (.slice ma mn mc) ∧ w.cell? ⟨X, 4, none⟩ = some (.slice ha hn hc) := by
  have a0 := h.cell 0 _ rfl
  have a1 := h.cell 1 _ rfl
  have a2 := h.cell 2 _ rfl
  have a3 := h.cell 3 _ rfl
  have a4 := h.cell 4 _ rfl
  simp only [List.length_nil, Nat.zero_add] at a0 a1 a2 a3 a4
  exact ⟨a0, a1, a2, a3, a4⟩
set_option maxRecDepth 100000 in
set_option maxHeartbeats 4000000 in
theorem tried_form (G : List Nat) (A : Nat → Addr) (la : Option Addr) (ln lc : Nat) (ma : Option Addr) (mn mc : Nat) (ha : Option Addr) (hn hc : Nat) (s : Shd) (kind tx : Int) (a : Option Addr) (len cap : Nat) (ops : List Od) (w : World) (h : SeeSh w la ln lc ma mn mc ha hn hc s) (hpl : PlainR w la ln) (hb : Bound s) (ho : SlO w a len ops) (hks : ∀ p ∈ ops, p.2.1.size ≤ 1099511627776) (hsr : smallR (kind, tx, ops)) (hlen : len ≤ 1099511627776) (hK : KS G A w) (fv : Value) (hno : (shardOk s && recOk (kind, tx, ops)) = false) :
    Calls Tryz.prog 32 #[aggSh s.1 s.2.2.1 la ln lc ma mn mc ha hn hc, .agg #[.int .i64 kind, .int .i64 tx, .slice a len cap], fv] w (Ret2 w s (errV A tx (some 2))) := by
  obtain ⟨W, hW⟩ : ∃ W, ((w.alloc (boxSh s.1 s.2.2.1 la ln lc ma mn mc ha hn hc)).alloc (.cells #[.int .i64 kind, .int .i64 tx, .slice a len cap] 41)).alloc (boxSh 0 0 none 0 0 none 0 0 none 0 0) = W := ⟨_, rfl⟩
  have hb0 : Below w.heap.size w (w.alloc (boxSh s.1 s.2.2.1 la ln lc ma mn mc ha hn hc)) := below_alloc
  have hb1 : Below w.heap.size w ((w.alloc (boxSh s.1 s.2.2.1 la ln lc ma mn mc ha hn hc)).alloc (.cells #[.int .i64 kind, .int .i64 tx, .slice a len cap] 41)) := hb0.alloc hb0.size _
  have hB : Below w.heap.size w W := by rw [← hW]; exact hb1.alloc hb1.size _
  have hX : BoxIn w.heap.size 27 [] (shVals s.1 s.2.2.1 la ln lc ma mn mc ha hn hc) [] W := by rw [← hW]; exact ((boxIn_new w _ _).below below_alloc).below below_alloc
  have hC : BoxR (w.heap.size + 1) kind tx (.slice a len cap) W := by
    rw [← hW]
    have := (boxR_new (w.alloc (boxSh s.1 s.2.2.1 la ln lc ma mn mc ha hn hc)) kind tx (.slice a len cap)).below (below_alloc (o := boxSh 0 0 none 0 0 none 0 0 none 0 0))
    rwa [show (w.alloc (boxSh s.1 s.2.2.1 la ln lc ma mn mc ha hn hc)).heap.size = w.heap.size + 1 by simp] at this
  have hRB : BoxIn (w.heap.size + 1 + 1) 27 [] (shVals 0 0 none 0 0 none 0 0 none 0 0) [] W := by
    rw [← hW]
    have := boxIn_new ((w.alloc (boxSh s.1 s.2.2.1 la ln lc ma mn mc ha hn hc)).alloc (.cells #[.int .i64 kind, .int .i64 tx, .slice a len cap] 41)) (shVals 0 0 none 0 0 none 0 0 none 0 0) 27
    rwa [show ((w.alloc (boxSh s.1 s.2.2.1 la ln lc ma mn mc ha hn hc)).alloc (.cells #[.int .i64 kind, .int .i64 tx, .slice a len cap] 41)).heap.size = w.heap.size + 1 + 1 by simp] at this
  have hsW : w.heap.size + 1 + 1 < W.heap.size := hRB.lt
  have HXC := Hid.mk' (fun wx (hx : Below W.heap.size W wx) => (show _ ∧ _ ∧ _ ∧ _ ∧ _ from by
    have a0 := (hX.below hx).cell 0 _ rfl
    have a1 := (hX.below hx).cell 1 _ rfl
    have a2 := (hX.below hx).cell 2 _ rfl
    have a3 := (hX.below hx).cell 3 _ rfl
    have a4 := (hX.below hx).cell 4 _ rfl
    simp only [List.length_nil, Nat.zero_add] at a0 a1 a2 a3 a4
    exact ⟨a0, a1, a2, a3, a4⟩))
  have HCC := Hid.mk' (fun wx (hx : Below W.heap.size W wx) => (hC.below hx).cells)
  obtain ⟨b1, b2, b3⟩ := SeeSh.few h hb
  have HOK := Hid.mk' (impl_shardOk la ln lc ma mn mc ha hn hc s W (h.below hB) (plain_below h.log hpl hB) hb.few (by omega) (by omega))
  have HRO := Hid.mk' (fun wx (hx : Below W.heap.size W wx) => impl_recOk kind tx a len cap ops wx ((ho.below hB).below hx) hks)
  have HOW := Hid.mk' (fun wx (hx : Below W.heap.size W wx) => i_ownSh la ln lc ma mn mc ha hn hc s wx ((h.below hB).below hx) hb.few hb.fewH (by omega) (by omega) (by omega))
  have HGF := Hid.mk' (fun wx (hx : Below w.heap.size w wx) => (hK.below hx).cell 2 (hK.sub _ (by decide)))
  cases h1 : shardOk s with
  | false =>
    rw [h1] at HOK
    clear hno h1
    have HW := Hid.mk' hW
    obtain ⟨a0, a1, a2, a3, a4⟩ := HXC.out W (Below.refl _ _)
    rw [← hW] at a0 a1 a2 a3 a4
    clear hW hb0 hb1
    go_enter Tryz.func32, Tryz.ntmps32
    go_wp2_with fail
    rw [HW.out]
    refine HOK.out.mono ?_
    rintro e w1 ⟨rfl, hb2⟩
    clear a0 a1 a2 a3 a4 HOK HW
    have hd : Below w1.heap.size w1 w1.drew := (Below.refl _ _).drew
    have hbd := hb2.trans (hd.mono hb2.size)
    have HOW2 := Hid.mk' (HOW.out _ hbd)
    go_wp2_with fail
    refine last.wp_region_later (S := fun w' => BoxIn w.heap.size 27 [] (shVals s.1 s.2.2.1 la ln lc ma mn mc ha hn hc) [] w' ∧ BoxR (w.heap.size + 1) kind tx (.slice a len cap) w' ∧ w'.cell? ⟨2, 0, none⟩ = some (.iface 180 (.pointer (some (A 2))))) 8 (by kernel_rfl) ⟨hX.below hbd, hC.below hbd, HGF.out _ (hB.trans (hbd.mono hB.size))⟩ (fun hHeld0 => ?_)
    generalize w1.drew = D5 at *
    refine last.wpAnyL_take (i := 0) (v := (aggSh s.1 s.2.2.1 la ln lc ma mn mc ha hn hc)) rfl rfl (by kernel_rfl) (by kernel_rfl) (by kernel_rfl) (by kernel_rfl) (fun _ _ _ h => h) (Or.inl ⟨by rfl, ?_⟩) (by assumption) ?_
    · intro wq hSq; obtain ⟨q0, q1, q2, q3, q4⟩ := boxcells hSq.1; go_simp
    try simp only [Act.put, List.setIfInBounds_toArray, List.set_cons_zero, List.set_cons_succ]
    refine last.wpAnyL_take (i := 2) (v := (.pointer (some ⟨w.heap.size + 1, 1, none⟩))) rfl rfl (by kernel_rfl) (by kernel_rfl) (by kernel_rfl) (by kernel_rfl) (fun _ _ _ h => h) (Or.inl ⟨by rfl, ?_⟩) (by assumption) ?_
    · intro wq hSq; go_simp
    try simp only [Act.put, List.setIfInBounds_toArray, List.set_cons_zero, List.set_cons_succ]
    refine last.wpAnyL_take (i := 3) (v := (.int .i64 tx)) rfl rfl (by kernel_rfl) (by kernel_rfl) (by kernel_rfl) (by kernel_rfl) (fun _ _ _ h => h) (Or.inl ⟨by rfl, ?_⟩) (by assumption) ?_
    · intro wq hSq; obtain ⟨q1, q2, q3⟩ := hSq.2.1.cells; go_simp
    try simp only [Act.put, List.setIfInBounds_toArray, List.set_cons_zero, List.set_cons_succ]
    refine last.wpAnyL_take (i := 4) (v := (.iface 180 (.pointer (some (A 2))))) rfl rfl (by kernel_rfl) (by kernel_rfl) (by kernel_rfl) (by kernel_rfl) (fun _ _ _ h => h) (Or.inl ⟨by rfl, ?_⟩) (by assumption) ?_
    · intro wq hSq; have q := hSq.2.2; go_simp
    try simp only [Act.put, List.setIfInBounds_toArray, List.set_cons_zero, List.set_cons_succ]
    refine last.wpAnyL_take (i := 5) (v := (.agg #[.int .i64 tx, .iface 180 (.pointer (some (A 2)))])) rfl rfl (by kernel_rfl) (by kernel_rfl) (by kernel_rfl) (by kernel_rfl) (fun _ _ _ h => h) (Or.inl ⟨by rfl, ?_⟩) (by assumption) ?_
    · intro wq hSq; go_simp
    try simp only [Act.put, List.setIfInBounds_toArray, List.set_cons_zero, List.set_cons_succ]
    refine last.wpAnyL_take (i := 6) (v := (.iface 107 (.agg #[.int .i64 tx, .iface 180 (.pointer (some (A 2)))]))) rfl rfl (by kernel_rfl) (by kernel_rfl) (by kernel_rfl) (by kernel_rfl) (fun _ _ _ h => h) (Or.inl ⟨by rfl, ?_⟩) (by assumption) ?_
    · intro wq hSq; go_simp
    try simp only [Act.put, List.setIfInBounds_toArray, List.set_cons_zero, List.set_cons_succ]
    refine last.wpAnyL_one (i := 1) (o := { dst := some 19, op := Op.call { callee := Callee.value (Operand.func 72), args := #[Operand.tmp 18], argTypes := #[27] }, type := 27, pos := "l09_shard.go:137", after := #[{ on := 0, ground := Ground.data }], guard := none }) (by kernel_rfl) rfl (fun K hK => ?_)
    refine stepc.step_call1 rfl 72 (.tmp 18) _ rfl (fun _ _ => rfl) (aggSh s.1 s.2.2.1 la ln lc ma mn mc ha hn hc) (by kernel_rfl) _ HOW2.out ?_
    rintro e w6 ⟨gl, cl, gm, cm, gh, ch, FF, rfl, hO6, hF6, hb6⟩
    refine ⟨_, rfl, ?_⟩
    have hb7 := hbd.trans (hb6.mono hbd.size)
    refine hK.out _ _ ?_ (fun hHeld => ?_)
    · exact ⟨hX.below hb7, hC.below hb7, HGF.out _ (hB.trans (hb7.mono hB.size))⟩
    clear hK K hHeld0
    have hHeld0 := hHeld
    clear hHeld
    try simp only [Act.put, List.setIfInBounds_toArray, List.set_cons_zero, List.set_cons_succ]
    have hR6 := hRB.below hb7
    have z0 := hR6.cell 0 _ rfl
    have z1 := hR6.cell 1 _ rfl
    have z2 := hR6.cell 2 _ rfl
    have z3 := hR6.cell 3 _ rfl
    have z4 := hR6.cell 4 _ rfl
    have hS5 := hR6.set5 (.int .i64 s.1) (.slice (some ⟨gl, 0, none⟩) ln cl) (.int .i64 s.2.2.1) (.slice (some ⟨gm, 0, none⟩) mn cm) (.slice (some ⟨gh, 0, none⟩) hn ch)
    simp only [List.length_nil, Nat.zero_add] at z0 z1 z2 z3 z4 hS5
    have f0 := hR6.fz 0
    have f1 := hR6.fz 1
    have f2 := hR6.fz 2
    have f3 := hR6.fz 3
    have f4 := hR6.fz 4
    have hBw := hB.trans (hb7.mono hB.size)
    have hBz := hBw.grown hS5.2 hBw.size (fun j e => by cases e; omega)
    have hsD := hbd.size
    have hOz := hO6.keep (fun j hj => hS5.2.block j (hO6.lt j hj) (fun e => by have h1 := hF6 j hj; have h2 := Option.some.inj e; omega))
    have hzc0 := hS5.1.cell 0 _ rfl
    have hzc1 := hS5.1.cell 1 _ rfl
    have hzc2 := hS5.1.cell 2 _ rfl
    have hzc3 := hS5.1.cell 3 _ rfl
    have hzc4 := hS5.1.cell 4 _ rfl
    simp only [List.length_nil, Nat.zero_add] at hzc0 hzc1 hzc2 hzc3 hzc4
    have hXz := (hX.below hb7).grown hS5.2 (fun e => by have h2 := Option.some.inj e; omega)
    have hCz : BoxR (w.heap.size + 1) kind tx (.slice a len cap) _ := (hS5.2.block _ (hC.below hb7).lt (fun e => by have h2 := Option.some.inj e; omega)).trans (hC.below hb7)
    have HP := Hid.mk' (ret2_mk (w := w) (v := .iface 107 (.agg #[.int .i64 tx, .iface 180 (.pointer (some (A 2)))])) hOz (fun k hk => by have h1 := hF6 k hk; omega) hBz)
    have hgz := HGF.out _ hBz
    refine last.wpAnyL_one (i := 7) (o := { dst := none, op := Op.store 27 (Operand.tmp 6) (Operand.tmp 19), type := 0, pos := "l09_shard.go:137", after := #[{ on := 1, ground := Ground.data }, { on := 1, ground := Ground.chain }, { on := 0, ground := Ground.phase }, { on := 1, ground := Ground.phase }, { on := 2, ground := Ground.textOnly Departure.lateStores }, { on := 3, ground := Ground.textOnly Departure.lateStores }, { on := 4, ground := Ground.textOnly Departure.lateStores }, { on := 5, ground := Ground.textOnly Departure.lateStores }, { on := 6, ground := Ground.textOnly Departure.lateStores }], guard := none }) (by kernel_rfl) rfl (fun K hK => ?_)
    go_simp
    refine hK.out _ _ ?_ (fun hHeld => ?_)
    · exact ⟨hXz, hCz, hgz⟩
    clear hK K hHeld0
    have hHeld0 := hHeld
    clear hHeld
    try simp only [Act.put, List.setIfInBounds_toArray, List.set_cons_zero, List.set_cons_succ]
    refine last.wpAnyL_last (o := { dst := some 7, op := Op.assign (Operand.tmp 24), type := 65, pos := "l09_shard.go:137", after := #[{ on := 6, ground := Ground.data }, { on := 7, ground := Ground.chain }, { on := 0, ground := Ground.phase }, { on := 1, ground := Ground.phase }, { on := 2, ground := Ground.phase }, { on := 3, ground := Ground.phase }, { on := 4, ground := Ground.phase }, { on := 5, ground := Ground.phase }, { on := 6, ground := Ground.phase }, { on := 7, ground := Ground.phase }], guard := none }) (by kernel_rfl) rfl (by kernel_rfl) (fun K hK => ?_)
    go_simp
    refine hK.out _ _ ?_
    clear hK K
    clear hHeld0 hXz hCz hOz hBz hBw hS5 hR6
    go_wp2_with fail
    refine bodyPost_ret (v := .tuple #[aggSh s.1 s.2.2.1 (some ⟨gl, 0, none⟩) ln cl (some ⟨gm, 0, none⟩) mn cm (some ⟨gh, 0, none⟩) hn ch, .iface 107 (.agg #[.int .i64 tx, .iface 180 (.pointer (some (A 2)))])]) ?_ rfl HP.out
    simp [results, Tryz.results32, go_sem, hzc0, hzc1, hzc2, hzc3, hzc4]
  | true =>
    rw [h1] at HOK
    have h2 : recOk (kind, tx, ops) = false := by rw [h1] at hno; simpa using hno
    rw [h2] at HRO
    clear hno h1 h2
    have HW := Hid.mk' hW
    obtain ⟨a0, a1, a2, a3, a4⟩ := HXC.out W (Below.refl _ _)
    rw [← hW] at a0 a1 a2 a3 a4
    clear hW hb0 hb1
    go_enter Tryz.func32, Tryz.ntmps32
    go_wp2_with fail
    rw [HW.out]
    refine HOK.out.mono ?_
    rintro e w1 ⟨rfl, hb2⟩
    clear a0 a1 a2 a3 a4 HOK HW
    obtain ⟨c0, c1, c2⟩ := HCC.out w1 hb2
    go_wp2_with fail
    refine (HRO.out w1 hb2).mono ?_
    rintro e w2 ⟨rfl, hb3⟩
    have hb4 := hb2.trans (hb3.mono hb2.size)
    clear c0 c1 c2
    have hd : Below w2.heap.size w2 w2.drew := (Below.refl _ _).drew
    have hbd := hb4.trans (hd.mono hb4.size)
    have HOW2 := Hid.mk' (HOW.out _ hbd)
    go_wp2_with fail
    refine last.wp_region_later (S := fun w' => BoxIn w.heap.size 27 [] (shVals s.1 s.2.2.1 la ln lc ma mn mc ha hn hc) [] w' ∧ BoxR (w.heap.size + 1) kind tx (.slice a len cap) w' ∧ w'.cell? ⟨2, 0, none⟩ = some (.iface 180 (.pointer (some (A 2))))) 8 (by kernel_rfl) ⟨hX.below hbd, hC.below hbd, HGF.out _ (hB.trans (hbd.mono hB.size))⟩ (fun hHeld0 => ?_)
    generalize w2.drew = D5 at *
    refine last.wpAnyL_take (i := 0) (v := (aggSh s.1 s.2.2.1 la ln lc ma mn mc ha hn hc)) rfl rfl (by kernel_rfl) (by kernel_rfl) (by kernel_rfl) (by kernel_rfl) (fun _ _ _ h => h) (Or.inl ⟨by rfl, ?_⟩) (by assumption) ?_
    · intro wq hSq; obtain ⟨q0, q1, q2, q3, q4⟩ := boxcells hSq.1; go_simp
    try simp only [Act.put, List.setIfInBounds_toArray, List.set_cons_zero, List.set_cons_succ]
    refine last.wpAnyL_take (i := 2) (v := (.pointer (some ⟨w.heap.size + 1, 1, none⟩))) rfl rfl (by kernel_rfl) (by kernel_rfl) (by kernel_rfl) (by kernel_rfl) (fun _ _ _ h => h) (Or.inl ⟨by rfl, ?_⟩) (by assumption) ?_
    · intro wq hSq; go_simp
    try simp only [Act.put, List.setIfInBounds_toArray, List.set_cons_zero, List.set_cons_succ]
    refine last.wpAnyL_take (i := 3) (v := (.int .i64 tx)) rfl rfl (by kernel_rfl) (by kernel_rfl) (by kernel_rfl) (by kernel_rfl) (fun _ _ _ h => h) (Or.inl ⟨by rfl, ?_⟩) (by assumption) ?_
    · intro wq hSq; obtain ⟨q1, q2, q3⟩ := hSq.2.1.cells; go_simp
    try simp only [Act.put, List.setIfInBounds_toArray, List.set_cons_zero, List.set_cons_succ]
    refine last.wpAnyL_take (i := 4) (v := (.iface 180 (.pointer (some (A 2))))) rfl rfl (by kernel_rfl) (by kernel_rfl) (by kernel_rfl) (by kernel_rfl) (fun _ _ _ h => h) (Or.inl ⟨by rfl, ?_⟩) (by assumption) ?_
    · intro wq hSq; have q := hSq.2.2; go_simp
    try simp only [Act.put, List.setIfInBounds_toArray, List.set_cons_zero, List.set_cons_succ]
    refine last.wpAnyL_take (i := 5) (v := (.agg #[.int .i64 tx, .iface 180 (.pointer (some (A 2)))])) rfl rfl (by kernel_rfl) (by kernel_rfl) (by kernel_rfl) (by kernel_rfl) (fun _ _ _ h => h) (Or.inl ⟨by rfl, ?_⟩) (by assumption) ?_
    · intro wq hSq; go_simp
    try simp only [Act.put, List.setIfInBounds_toArray, List.set_cons_zero, List.set_cons_succ]
    refine last.wpAnyL_take (i := 6) (v := (.iface 107 (.agg #[.int .i64 tx, .iface 180 (.pointer (some (A 2)))]))) rfl rfl (by kernel_rfl) (by kernel_rfl) (by kernel_rfl) (by kernel_rfl) (fun _ _ _ h => h) (Or.inl ⟨by rfl, ?_⟩) (by assumption) ?_
    · intro wq hSq; go_simp
    try simp only [Act.put, List.setIfInBounds_toArray, List.set_cons_zero, List.set_cons_succ]
    refine last.wpAnyL_one (i := 1) (o := { dst := some 19, op := Op.call { callee := Callee.value (Operand.func 72), args := #[Operand.tmp 18], argTypes := #[27] }, type := 27, pos := "l09_shard.go:137", after := #[{ on := 0, ground := Ground.data }], guard := none }) (by kernel_rfl) rfl (fun K hK => ?_)
    refine stepc.step_call1 rfl 72 (.tmp 18) _ rfl (fun _ _ => rfl) (aggSh s.1 s.2.2.1 la ln lc ma mn mc ha hn hc) (by kernel_rfl) _ HOW2.out ?_
    rintro e w6 ⟨gl, cl, gm, cm, gh, ch, FF, rfl, hO6, hF6, hb6⟩
    refine ⟨_, rfl, ?_⟩
    have hb7 := hbd.trans (hb6.mono hbd.size)
    refine hK.out _ _ ?_ (fun hHeld => ?_)
    · exact ⟨hX.below hb7, hC.below hb7, HGF.out _ (hB.trans (hb7.mono hB.size))⟩
    clear hK K hHeld0
    have hHeld0 := hHeld
    clear hHeld
    try simp only [Act.put, List.setIfInBounds_toArray, List.set_cons_zero, List.set_cons_succ]
    have hR6 := hRB.below hb7
    have z0 := hR6.cell 0 _ rfl
    have z1 := hR6.cell 1 _ rfl
    have z2 := hR6.cell 2 _ rfl
    have z3 := hR6.cell 3 _ rfl
    have z4 := hR6.cell 4 _ rfl
    have hS5 := hR6.set5 (.int .i64 s.1) (.slice (some ⟨gl, 0, none⟩) ln cl) (.int .i64 s.2.2.1) (.slice (some ⟨gm, 0, none⟩) mn cm) (.slice (some ⟨gh, 0, none⟩) hn ch)
    simp only [List.length_nil, Nat.zero_add] at z0 z1 z2 z3 z4 hS5
    have f0 := hR6.fz 0
    have f1 := hR6.fz 1
    have f2 := hR6.fz 2
    have f3 := hR6.fz 3
    have f4 := hR6.fz 4
    have hBw := hB.trans (hb7.mono hB.size)
    have hBz := hBw.grown hS5.2 hBw.size (fun j e => by cases e; omega)
    have hsD := hbd.size
    have hOz := hO6.keep (fun j hj => hS5.2.block j (hO6.lt j hj) (fun e => by have h1 := hF6 j hj; have h2 := Option.some.inj e; omega))
    have hzc0 := hS5.1.cell 0 _ rfl
    have hzc1 := hS5.1.cell 1 _ rfl
    have hzc2 := hS5.1.cell 2 _ rfl
    have hzc3 := hS5.1.cell 3 _ rfl
    have hzc4 := hS5.1.cell 4 _ rfl
    simp only [List.length_nil, Nat.zero_add] at hzc0 hzc1 hzc2 hzc3 hzc4
    have hXz := (hX.below hb7).grown hS5.2 (fun e => by have h2 := Option.some.inj e; omega)
    have hCz : BoxR (w.heap.size + 1) kind tx (.slice a len cap) _ := (hS5.2.block _ (hC.below hb7).lt (fun e => by have h2 := Option.some.inj e; omega)).trans (hC.below hb7)
    have HP := Hid.mk' (ret2_mk (w := w) (v := .iface 107 (.agg #[.int .i64 tx, .iface 180 (.pointer (some (A 2)))])) hOz (fun k hk => by have h1 := hF6 k hk; omega) hBz)
    have hgz := HGF.out _ hBz
    refine last.wpAnyL_one (i := 7) (o := { dst := none, op := Op.store 27 (Operand.tmp 6) (Operand.tmp 19), type := 0, pos := "l09_shard.go:137", after := #[{ on := 1, ground := Ground.data }, { on := 1, ground := Ground.chain }, { on := 0, ground := Ground.phase }, { on := 1, ground := Ground.phase }, { on := 2, ground := Ground.textOnly Departure.lateStores }, { on := 3, ground := Ground.textOnly Departure.lateStores }, { on := 4, ground := Ground.textOnly Departure.lateStores }, { on := 5, ground := Ground.textOnly Departure.lateStores }, { on := 6, ground := Ground.textOnly Departure.lateStores }], guard := none }) (by kernel_rfl) rfl (fun K hK => ?_)
    go_simp
    refine hK.out _ _ ?_ (fun hHeld => ?_)
    · exact ⟨hXz, hCz, hgz⟩
    clear hK K hHeld0
    have hHeld0 := hHeld
    clear hHeld
    try simp only [Act.put, List.setIfInBounds_toArray, List.set_cons_zero, List.set_cons_succ]
    refine last.wpAnyL_last (o := { dst := some 7, op := Op.assign (Operand.tmp 24), type := 65, pos := "l09_shard.go:137", after := #[{ on := 6, ground := Ground.data }, { on := 7, ground := Ground.chain }, { on := 0, ground := Ground.phase }, { on := 1, ground := Ground.phase }, { on := 2, ground := Ground.phase }, { on := 3, ground := Ground.phase }, { on := 4, ground := Ground.phase }, { on := 5, ground := Ground.phase }, { on := 6, ground := Ground.phase }, { on := 7, ground := Ground.phase }], guard := none }) (by kernel_rfl) rfl (by kernel_rfl) (fun K hK => ?_)
    go_simp
    refine hK.out _ _ ?_
    clear hK K
    clear hHeld0 hXz hCz hOz hBz hBw hS5 hR6
    go_wp2_with fail
    refine bodyPost_ret (v := .tuple #[aggSh s.1 s.2.2.1 (some ⟨gl, 0, none⟩) ln cl (some ⟨gm, 0, none⟩) mn cm (some ⟨gh, 0, none⟩) hn ch, .iface 107 (.agg #[.int .i64 tx, .iface 180 (.pointer (some (A 2)))])]) ?_ rfl HP.out
    simp [results, Tryz.results32, go_sem, hzc0, hzc1, hzc2, hzc3, hzc4]
end Go.Proofs.YteniflajiklffaaGreatDoor.recs
