/- The program's shard has no room. -/
import Derived.Test.YteniflajiklffaaGreatDoorShax
namespace Go.Proofs.YteniflajiklffaaGreatDoor.recs
open Go Go.RowKit Go.Proofs.YteniflajiklffaaGreatDoor.base Go.Proofs.YteniflajiklffaaGreatDoor.pairs Go.Proofs.YteniflajiklffaaGreatDoor.ords Go.Proofs.YteniflajiklffaaGreatDoor.helps Go.Proofs.YteniflajiklffaaGreatDoor.help Go.Proofs.YteniflajiklffaaGreatDoor.lay Go.Proofs.YteniflajiklffaaGreatDoor.sent
set_option linter.unusedVariables false
set_option linter.unusedSimpArgs false

set_option maxRecDepth 100000 in
set_option maxHeartbeats 4000000 in
theorem hold_full (G : List Nat) (A : Nat → Addr) (la : Option Addr) (ln lc : Nat) (ma : Option Addr) (mn mc : Nat) (ha : Option Addr) (hn hc : Nat) (s : Shd) (tx : Int) (a : Option Addr) (len cap : Nat) (ops : List Od) (w : World) (h : SeeSh w la ln lc ma mn mc ha hn hc s) (hR : Right s) (ho : SlO w a len ops) (hok : recOk (1, tx, ops) = true) (hK : KS G A w) (hst : lastKind tx s.2.1 = 0) (hgr : 4 ∈ G) (hcnd : 60 < s.2.2.2.1.length + sumOps s.2.2.2.2 + ops.length ∨ 300 - (s.2.1.length : Int) - (s.2.2.2.2.length : Int) < 2) :
    Calls Tryz.prog 33 #[aggSh s.1 s.2.2.1 la ln lc ma mn mc ha hn hc, .agg #[.int .i64 1, .int .i64 tx, .slice a len cap]] w fun e w' => e = .returned (.tuple #[.agg #[.int .i64 0, .slice none 0 0, .int .i64 0, .slice none 0 0, .slice none 0 0], .iface 180 (.pointer (some (A 4)))]) ∧ Below w.heap.size w w' := by
  obtain ⟨W, hW⟩ : ∃ W, ((w.alloc (boxSh s.1 s.2.2.1 la ln lc ma mn mc ha hn hc)).alloc (.cells #[.int .i64 1, .int .i64 tx, .slice a len cap] 41)).alloc (boxSh 0 0 none 0 0 none 0 0 none 0 0) = W := ⟨_, rfl⟩
  have hb0 : Below w.heap.size w (w.alloc (boxSh s.1 s.2.2.1 la ln lc ma mn mc ha hn hc)) := below_alloc
  have hb1 : Below w.heap.size w ((w.alloc (boxSh s.1 s.2.2.1 la ln lc ma mn mc ha hn hc)).alloc (.cells #[.int .i64 1, .int .i64 tx, .slice a len cap] 41)) := hb0.alloc hb0.size _
  have hB : Below w.heap.size w W := by rw [← hW]; exact hb1.alloc hb1.size _
  have hX : BoxIn w.heap.size 27 [] (shVals s.1 s.2.2.1 la ln lc ma mn mc ha hn hc) [] W := by rw [← hW]; exact ((boxIn_new w _ _).below below_alloc).below below_alloc
  have hC : BoxR (w.heap.size + 1) 1 tx (.slice a len cap) W := by
    rw [← hW]
    have := (boxR_new (w.alloc (boxSh s.1 s.2.2.1 la ln lc ma mn mc ha hn hc)) 1 tx (.slice a len cap)).below (below_alloc (o := boxSh 0 0 none 0 0 none 0 0 none 0 0))
    rwa [show (w.alloc (boxSh s.1 s.2.2.1 la ln lc ma mn mc ha hn hc)).heap.size = w.heap.size + 1 by simp] at this
  have hRB : BoxIn (w.heap.size + 1 + 1) 27 [] (shVals 0 0 none 0 0 none 0 0 none 0 0) [] W := by
    rw [← hW]
    have := boxIn_new ((w.alloc (boxSh s.1 s.2.2.1 la ln lc ma mn mc ha hn hc)).alloc (.cells #[.int .i64 1, .int .i64 tx, .slice a len cap] 41)) (shVals 0 0 none 0 0 none 0 0 none 0 0) 27
    rwa [show ((w.alloc (boxSh s.1 s.2.2.1 la ln lc ma mn mc ha hn hc)).alloc (.cells #[.int .i64 1, .int .i64 tx, .slice a len cap] 41)).heap.size = w.heap.size + 1 + 1 by simp] at this
  have hsW : w.heap.size + 1 + 1 < W.heap.size := hRB.lt
  have HXC := Hid.mk' (fun wx (hx : Below W.heap.size W wx) => (show _ ∧ _ ∧ _ ∧ _ ∧ _ from by
    have a0 := (hX.below hx).cell 0 _ rfl
    have a1 := (hX.below hx).cell 1 _ rfl
    have a2 := (hX.below hx).cell 2 _ rfl
    have a3 := (hX.below hx).cell 3 _ rfl
    have a4 := (hX.below hx).cell 4 _ rfl
    simp only [List.length_nil, Nat.zero_add] at a0 a1 a2 a3 a4
    exact ⟨a0, a1, a2, a3, a4⟩))
  have HCC := Hid.mk' (fun wx (hx : Below W.heap.size W wx) => (hC.below hx).cells)
  have hKW := hK.below hB
  have hroom := hR.room
  obtain ⟨l1, l2, l3⟩ := SeeSh.lens h
  have hmn : s.2.2.2.1.length ≤ 60 := by
    obtain ⟨seen, hm⟩ := hR.made
    exact ((pairsOk_iff _).1 (replay_ok hm).1).2
  have HST := Hid.mk' (i_standing G A la ln lc ma mn mc ha hn hc s tx W (h.below hB) hKW)
  have HIS := Hid.mk' (fun wx (hx : Below W.heap.size W wx) => (is_ (senOf (lastKind tx s.2.1)) 3 (hK.sub _ (senOf_mem _)) (hK.sub _ (by decide)) wx (hKW.below hx)).mono (fun e w' (hp : e = .returned (.bool (decide (senOf (lastKind tx s.2.1) = 3))) ∧ w' = wx) => (⟨hp.1, hp.2.symm⟩ : e = .returned (.bool (decide (senOf (lastKind tx s.2.1) = 3))) ∧ wx = w')))
  have HGN := Hid.mk' (fun wx (hx : Below W.heap.size W wx) => (hKW.below hx).cell 3 (hK.sub _ (by decide)))
  have HHK := Hid.mk' (fun wx (hx : Below W.heap.size W wx) => i_heldKeys la ln lc ma mn mc ha hn hc s wx ((h.below hB).below hx) (fun k => by
    obtain ⟨seen, hm, ht⟩ := hR.tame
    have h8 := sumOps_8 s.2.2.2.2 ht.eight
    have h9 : sumOps (s.2.2.2.2.take k) ≤ sumOps s.2.2.2.2 := by
      have e : sumOps s.2.2.2.2 = sumOps (s.2.2.2.2.take k) + sumOps (s.2.2.2.2.drop k) := by rw [← sumOps_append, List.take_append_drop]
      omega
    omega))
  have HRM := Hid.mk' (fun wx => i_room la ln lc ma mn mc ha hn hc s wx (by omega))
  have hsk : sumOps s.2.2.2.2 ≤ 100000 := by
    obtain ⟨seen, hm, ht⟩ := hR.tame
    have h8 := sumOps_8 s.2.2.2.2 ht.eight
    omega
  have hlen8 : len ≤ 8 := by
    have h1 : ops.length ≤ 8 := (ok_eight hok).1
    have h2 := ho.1
    omega
  have hsn : senOf (lastKind tx s.2.1) = 3 := by rw [hst]; rfl
  rw [decide_eq_true hsn] at HIS
  rw [hsn] at HST HIS
  have HGR := Hid.mk' (fun wx (hx : Below w.heap.size w wx) => (hK.below hx).cell 4 hgr)
  rw [ho.1] at hcnd
  generalize sumOps s.2.2.2.2 = sk at *
  rw [l1, l2, l3] at hcnd
  have hw1 : IntKind.i64.wrap ((mn : Int) + (sk : Int)) = (mn : Int) + (sk : Int) := wraps_i64 _ (by omega) (by omega)
  have hw2 : IntKind.i64.wrap ((mn : Int) + (sk : Int) + (len : Int)) = (mn : Int) + (sk : Int) + (len : Int) := wraps_i64 _ (by omega) (by omega)
  by_cases hA : 60 < mn + sk + len
  · have k1 : decide ((60 : Int) < (mn : Int) + (sk : Int) + (len : Int)) = true := decide_eq_true (by omega)
    have HW := Hid.mk' hW
    obtain ⟨a0, a1, a2, a3, a4⟩ := HXC.out W (Below.refl _ _)
    obtain ⟨c0, c1, c2⟩ := HCC.out W (Below.refl _ _)
    rw [← hW] at a0 a1 a2 a3 a4 c0 c1 c2
    clear hW hb0 hb1 hsn hst hroom l1 l2 l3 hmn hcnd hA
    go_enter Tryz.func33, Tryz.ntmps33
    go_wp2_with fail
    rw [HW.out]
    refine HST.out.mono ?_
    rintro e w1 ⟨rfl, hb2⟩
    clear a0 a1 a2 a3 a4 c0 c1 c2 HST HW
    have gN := HGN.out w1 hb2
    go_wp2_with fail
    refine (HIS.out w1 hb2).mono ?_
    rintro e w2 ⟨rfl, hw2⟩
    subst hw2
    clear gN
    have hX2 := hX.below hb2
    have hC2 := hC.below hb2
    have hXlt := hX2.lt
    obtain ⟨c0, c1, c2⟩ := hC2.cells
    have hClt : w.heap.size + 1 < w1.heap.size := by have := hb2.size; omega
    have o0 := last.On.cell (B := w1.heap.size) (HXC.out _ hb2).1 hXlt
    have o1 := last.On.cell (B := w1.heap.size) (HXC.out _ hb2).2.1 hXlt
    have o2 := last.On.cell (B := w1.heap.size) (HXC.out _ hb2).2.2.1 hXlt
    have o3 := last.On.cell (B := w1.heap.size) (HXC.out _ hb2).2.2.2.1 hXlt
    have o4 := last.On.cell (B := w1.heap.size) (HXC.out _ hb2).2.2.2.2 hXlt
    have p2 := last.On.cell (B := w1.heap.size) c2 hClt
    have hinh := last.On.inh w1.heap.size w1
    have cHK : ∀ x9 : last.On w1.heap.size w1, Calls Tryz.prog 73 #[aggSh s.1 s.2.2.1 la ln lc ma mn mc ha hn hc] x9.w fun e w' => e = .returned (.int .i64 (sk : Int)) ∧ ∃ y9 : last.On w1.heap.size w1, w' = y9.w := fun x9 => last.Calls.on x9 (Nat.le_refl _) (HHK.out _ (hb2.trans (x9.2.mono hb2.size)))
    have cRM : ∀ x9 : last.On w1.heap.size w1, Calls Tryz.prog 74 #[aggSh s.1 s.2.2.1 la ln lc ma mn mc ha hn hc] x9.w fun e w' => e = .returned (.int .i64 (300 - (ln : Int) - (hn : Int))) ∧ ∃ y9 : last.On w1.heap.size w1, w' = y9.w := fun x9 => last.Calls.on x9 (Nat.le_refl _) (HRM.out _)
    clear c0 c1 c2 hX2 hC2 HHK HRM
    go_wp2_with fail
    refine last.wp_region_on w1.heap.size (by kernel_rfl) (by kernel_rfl) ?_
    repeat (go_big_quiet_step (first | (go_at_call 73; with_reducible exact cHK _) | (go_at_call 74; with_reducible exact cRM _)))
    refine wpQuiet_nil ?_
    intro w5 hw5
    obtain ⟨x5, hw5⟩ := hw5
    have hb5 : Below W.heap.size W w5 := by rw [hw5]; exact hb2.trans (x5.2.mono hb2.size)
    clear hw5 x5 o0 o1 o2 o3 o4 p2 cHK cRM hinh
    have hd5 : Below w5.heap.size w5 w5.drew := (Below.refl _ _).drew
    have hb5d := hb5.trans (hd5.mono hb5.size)
    have hgd := HGR.out _ (hB.trans (hb5d.mono hB.size))
    have hR1 := hRB.below hb5d
    have hB1 := hB.trans ((hb5d).mono hB.size)
    have z0 := hR1.cell 0 _ rfl
    have z1 := hR1.cell 1 _ rfl
    have z2 := hR1.cell 2 _ rfl
    have z3 := hR1.cell 3 _ rfl
    have z4 := hR1.cell 4 _ rfl
    have hS5 := hR1.set5 (.int .i64 0) (.slice none 0 0) (.int .i64 0) (.slice none 0 0) (.slice none 0 0)
    simp only [List.length_nil, Nat.zero_add] at z0 z1 z2 z3 z4 hS5
    have f0 := hR1.fz 0
    have f1 := hR1.fz 1
    have f2 := hR1.fz 2
    have f3 := hR1.fz 3
    have f4 := hR1.fz 4
    have hBz := hB1.grown hS5.2 hB1.size (fun j e => by cases e; omega)
    have hzc0 := hS5.1.cell 0 _ rfl
    have hzc1 := hS5.1.cell 1 _ rfl
    have hzc2 := hS5.1.cell 2 _ rfl
    have hzc3 := hS5.1.cell 3 _ rfl
    have hzc4 := hS5.1.cell 4 _ rfl
    simp only [List.length_nil, Nat.zero_add] at hzc0 hzc1 hzc2 hzc3 hzc4
    have HB := Hid.mk' hBz
    have hgz := HGR.out _ hBz
    clear hBz hS5 hR1 HIS HGN HXC HCC
    go_wp2_with fail
    refine last.wp_region_later (S := fun w' => w'.cell? ⟨4, 0, none⟩ = some (.iface 180 (.pointer (some (A 4))))) 3 (by kernel_rfl) hgd (fun hHeld0 => ?_)
    generalize w5.drew = D5 at *
    refine last.wpAnyL_take (i := 0) (v := (.agg #[.int .i64 0, .slice none 0 0, .int .i64 0, .slice none 0 0, .slice none 0 0])) rfl rfl (by kernel_rfl) (by kernel_rfl) (by kernel_rfl) (by kernel_rfl) (fun _ _ _ h => h) (Or.inl ⟨by rfl, ?_⟩) (by assumption) ?_
    · intro wq hSq; go_simp
    try simp only [Act.put, List.setIfInBounds_toArray, List.set_cons_zero, List.set_cons_succ]
    refine last.wpAnyL_take (i := 1) (v := (.iface 180 (.pointer (some (A 4))))) rfl rfl (by kernel_rfl) (by kernel_rfl) (by kernel_rfl) (by kernel_rfl) (fun _ _ _ h => h) (Or.inl ⟨by rfl, ?_⟩) (by assumption) ?_
    · intro wq hSq; have q := hSq; go_simp
    try simp only [Act.put, List.setIfInBounds_toArray, List.set_cons_zero, List.set_cons_succ]
    refine last.wpAnyL_one (i := 2) (o := { dst := none, op := Op.store 27 (Operand.tmp 4) (Operand.tmp 35), type := 0, pos := "l09_shard.go:166", after := #[{ on := 0, ground := Ground.data }, { on := 0, ground := Ground.phase }, { on := 1, ground := Ground.textOnly Departure.lateStores }], guard := none }) (by kernel_rfl) rfl (fun K hK => ?_)
    go_simp
    refine hK.out _ _ ?_ (fun hHeld => ?_)
    · exact hgz
    clear hK K hHeld0
    have hHeld0 := hHeld
    clear hHeld
    try simp only [Act.put, List.setIfInBounds_toArray, List.set_cons_zero, List.set_cons_succ]
    refine last.wpAnyL_last (o := { dst := some 5, op := Op.assign (Operand.tmp 36), type := 65, pos := "l09_shard.go:166", after := #[{ on := 1, ground := Ground.data }, { on := 2, ground := Ground.chain }, { on := 0, ground := Ground.phase }, { on := 1, ground := Ground.phase }, { on := 2, ground := Ground.phase }], guard := none }) (by kernel_rfl) rfl (by kernel_rfl) (fun K hK => ?_)
    go_simp
    refine hK.out _ _ ?_
    clear hK K
    clear hHeld0
    go_wp2_with fail
    refine bodyPost_ret (v := .tuple #[.agg #[.int .i64 0, .slice none 0 0, .int .i64 0, .slice none 0 0, .slice none 0 0], .iface 180 (.pointer (some (A 4)))]) ?_ rfl ⟨rfl, HB.out⟩
    simp [results, Tryz.results33, go_sem, hzc0, hzc1, hzc2, hzc3, hzc4]
  · have k1 : decide ((60 : Int) < (mn : Int) + (sk : Int) + (len : Int)) = false := decide_eq_false (by omega)
    have k2 : decide (300 - (ln : Int) - (hn : Int) < 2) = true := decide_eq_true (by omega)
    have HW := Hid.mk' hW
    obtain ⟨a0, a1, a2, a3, a4⟩ := HXC.out W (Below.refl _ _)
    obtain ⟨c0, c1, c2⟩ := HCC.out W (Below.refl _ _)
    rw [← hW] at a0 a1 a2 a3 a4 c0 c1 c2
    clear hW hb0 hb1 hsn hst hroom l1 l2 l3 hmn hcnd hA
    go_enter Tryz.func33, Tryz.ntmps33
    go_wp2_with fail
    rw [HW.out]
    refine HST.out.mono ?_
    rintro e w1 ⟨rfl, hb2⟩
    clear a0 a1 a2 a3 a4 c0 c1 c2 HST HW
    have gN := HGN.out w1 hb2
    go_wp2_with fail
    refine (HIS.out w1 hb2).mono ?_
    rintro e w2 ⟨rfl, hw2⟩
    subst hw2
    clear gN
    have hX2 := hX.below hb2
    have hC2 := hC.below hb2
    have hXlt := hX2.lt
    obtain ⟨c0, c1, c2⟩ := hC2.cells
    have hClt : w.heap.size + 1 < w1.heap.size := by have := hb2.size; omega
    have o0 := last.On.cell (B := w1.heap.size) (HXC.out _ hb2).1 hXlt
    have o1 := last.On.cell (B := w1.heap.size) (HXC.out _ hb2).2.1 hXlt
    have o2 := last.On.cell (B := w1.heap.size) (HXC.out _ hb2).2.2.1 hXlt
    have o3 := last.On.cell (B := w1.heap.size) (HXC.out _ hb2).2.2.2.1 hXlt
    have o4 := last.On.cell (B := w1.heap.size) (HXC.out _ hb2).2.2.2.2 hXlt
    have p2 := last.On.cell (B := w1.heap.size) c2 hClt
    have hinh := last.On.inh w1.heap.size w1
    have cHK : ∀ x9 : last.On w1.heap.size w1, Calls Tryz.prog 73 #[aggSh s.1 s.2.2.1 la ln lc ma mn mc ha hn hc] x9.w fun e w' => e = .returned (.int .i64 (sk : Int)) ∧ ∃ y9 : last.On w1.heap.size w1, w' = y9.w := fun x9 => last.Calls.on x9 (Nat.le_refl _) (HHK.out _ (hb2.trans (x9.2.mono hb2.size)))
    have cRM : ∀ x9 : last.On w1.heap.size w1, Calls Tryz.prog 74 #[aggSh s.1 s.2.2.1 la ln lc ma mn mc ha hn hc] x9.w fun e w' => e = .returned (.int .i64 (300 - (ln : Int) - (hn : Int))) ∧ ∃ y9 : last.On w1.heap.size w1, w' = y9.w := fun x9 => last.Calls.on x9 (Nat.le_refl _) (HRM.out _)
    clear c0 c1 c2 hX2 hC2 HHK HRM
    go_wp2_with fail
    refine last.wp_region_on w1.heap.size (by kernel_rfl) (by kernel_rfl) ?_
    repeat (go_big_quiet_step (first | (go_at_call 73; with_reducible exact cHK _) | (go_at_call 74; with_reducible exact cRM _)))
    refine wpQuiet_nil ?_
    intro w5 hw5
    obtain ⟨x5, hw5⟩ := hw5
    have hb5 : Below W.heap.size W w5 := by rw [hw5]; exact hb2.trans (x5.2.mono hb2.size)
    clear hw5 x5 o0 o1 o2 o3 o4 p2 cHK cRM hinh
    have hd5 : Below w5.heap.size w5 w5.drew := (Below.refl _ _).drew
    have hb5d := hb5.trans (hd5.mono hb5.size)
    have hgd := HGR.out _ (hB.trans (hb5d.mono hB.size))
    have hR1 := hRB.below hb5d
    have hB1 := hB.trans ((hb5d).mono hB.size)
    have z0 := hR1.cell 0 _ rfl
    have z1 := hR1.cell 1 _ rfl
    have z2 := hR1.cell 2 _ rfl
    have z3 := hR1.cell 3 _ rfl
    have z4 := hR1.cell 4 _ rfl
    have hS5 := hR1.set5 (.int .i64 0) (.slice none 0 0) (.int .i64 0) (.slice none 0 0) (.slice none 0 0)
    simp only [List.length_nil, Nat.zero_add] at z0 z1 z2 z3 z4 hS5
    have f0 := hR1.fz 0
    have f1 := hR1.fz 1
    have f2 := hR1.fz 2
    have f3 := hR1.fz 3
    have f4 := hR1.fz 4
    have hBz := hB1.grown hS5.2 hB1.size (fun j e => by cases e; omega)
    have hzc0 := hS5.1.cell 0 _ rfl
    have hzc1 := hS5.1.cell 1 _ rfl
    have hzc2 := hS5.1.cell 2 _ rfl
    have hzc3 := hS5.1.cell 3 _ rfl
    have hzc4 := hS5.1.cell 4 _ rfl
    simp only [List.length_nil, Nat.zero_add] at hzc0 hzc1 hzc2 hzc3 hzc4
    have HB := Hid.mk' hBz
    have hgz := HGR.out _ hBz
    clear hBz hS5 hR1 HIS HGN HXC HCC
    go_wp2_with fail
    refine last.wp_region_later (S := fun w' => w'.cell? ⟨4, 0, none⟩ = some (.iface 180 (.pointer (some (A 4))))) 3 (by kernel_rfl) hgd (fun hHeld0 => ?_)
    generalize w5.drew = D5 at *
    refine last.wpAnyL_take (i := 0) (v := (.agg #[.int .i64 0, .slice none 0 0, .int .i64 0, .slice none 0 0, .slice none 0 0])) rfl rfl (by kernel_rfl) (by kernel_rfl) (by kernel_rfl) (by kernel_rfl) (fun _ _ _ h => h) (Or.inl ⟨by rfl, ?_⟩) (by assumption) ?_
    · intro wq hSq; go_simp
    try simp only [Act.put, List.setIfInBounds_toArray, List.set_cons_zero, List.set_cons_succ]
    refine last.wpAnyL_take (i := 1) (v := (.iface 180 (.pointer (some (A 4))))) rfl rfl (by kernel_rfl) (by kernel_rfl) (by kernel_rfl) (by kernel_rfl) (fun _ _ _ h => h) (Or.inl ⟨by rfl, ?_⟩) (by assumption) ?_
    · intro wq hSq; have q := hSq; go_simp
    try simp only [Act.put, List.setIfInBounds_toArray, List.set_cons_zero, List.set_cons_succ]
    refine last.wpAnyL_one (i := 2) (o := { dst := none, op := Op.store 27 (Operand.tmp 4) (Operand.tmp 35), type := 0, pos := "l09_shard.go:166", after := #[{ on := 0, ground := Ground.data }, { on := 0, ground := Ground.phase }, { on := 1, ground := Ground.textOnly Departure.lateStores }], guard := none }) (by kernel_rfl) rfl (fun K hK => ?_)
    go_simp
    refine hK.out _ _ ?_ (fun hHeld => ?_)
    · exact hgz
    clear hK K hHeld0
    have hHeld0 := hHeld
    clear hHeld
    try simp only [Act.put, List.setIfInBounds_toArray, List.set_cons_zero, List.set_cons_succ]
    refine last.wpAnyL_last (o := { dst := some 5, op := Op.assign (Operand.tmp 36), type := 65, pos := "l09_shard.go:166", after := #[{ on := 1, ground := Ground.data }, { on := 2, ground := Ground.chain }, { on := 0, ground := Ground.phase }, { on := 1, ground := Ground.phase }, { on := 2, ground := Ground.phase }], guard := none }) (by kernel_rfl) rfl (by kernel_rfl) (fun K hK => ?_)
    go_simp
    refine hK.out _ _ ?_
    clear hK K
    clear hHeld0
    go_wp2_with fail
    refine bodyPost_ret (v := .tuple #[.agg #[.int .i64 0, .slice none 0 0, .int .i64 0, .slice none 0 0, .slice none 0 0], .iface 180 (.pointer (some (A 4)))]) ?_ rfl ⟨rfl, HB.out⟩
    simp [results, Tryz.results33, go_sem, hzc0, hzc1, hzc2, hzc3, hzc4]
end Go.Proofs.YteniflajiklffaaGreatDoor.recs
