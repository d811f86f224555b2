/- The draw of what a shard is told. Codes that are too long. The program's named errors: what their variables hold, and errors.Is over them. -/
import Derived.Test.YteniflajiklffaaGreatDoorShaw
import Derived.Test.YteniflajiklffaaGreatDoorShaa
import Derived.Test.YteniflajiklffaaGreatDoorRows
import Derived.WalkKit
import Derived.LaidEql
import Derived.LaidLaws
import Derived.Stop.Asserts
import Derived.RowKitTokens
namespace Go.Proofs.YteniflajiklffaaGreatDoor.recs
open Go Go.RowKit Go.Proofs.YteniflajiklffaaGreatDoor.base Go.Proofs.YteniflajiklffaaGreatDoor.pairs Go.Proofs.YteniflajiklffaaGreatDoor.ords Go.Proofs.YteniflajiklffaaGreatDoor.helps Go.Proofs.YteniflajiklffaaGreatDoor.help Go.Proofs.YteniflajiklffaaGreatDoor.lay Go.Proofs.YteniflajiklffaaGreatDoor.draw
set_option linter.unusedVariables false
set_option linter.unusedSimpArgs false

def GotDe (w : World) (e : Ending) (w' : World) : Prop :=
  ∃ (la : Option Addr) (ln lc : Nat) (ma : Option Addr) (mn mc : Nat) (ha : Option Addr) (hn hc : Nat) (s : Shd) (F : List Nat) (z : Int) (y : Bool), AnyS s ∧ (Lit.int .i64 z).wf = true ∧ e = .returned (.tuple #[aggSh s.1 s.2.2.1 la ln lc ma mn mc ha hn hc, .int .i64 z, .bool y]) ∧ OwnSh w' la ln lc ma mn mc ha hn hc s F ∧ (∀ k ∈ F, w.heap.size ≤ k) ∧ Below w.heap.size w w'
theorem gotDe_mk {w w' : World} {la ma ha : Option Addr} {ln lc mn mc hn hc : Nat} {s : Shd} {F : List Nat} {z : Int} {y : Bool} (hd : AnyS s) (hz : (Lit.int .i64 z).wf = true) (h : OwnSh w' la ln lc ma mn mc ha hn hc s F) (hF : ∀ k ∈ F, w.heap.size ≤ k) (hb : Below w.heap.size w w') : GotDe w (.returned (.tuple #[aggSh s.1 s.2.2.1 la ln lc ma mn mc ha hn hc, .int .i64 z, .bool y])) w' :=
  ⟨la, ln, lc, ma, mn, mc, ha, hn, hc, s, F, z, y, hd, hz, rfl, h, hF, hb⟩
set_option maxRecDepth 100000 in
set_option maxHeartbeats 8000000 in
theorem drawDecide (a : Option Addr) (len cap : Nat) (code : List UInt8) (w : World) (h : Sl w a len code) (hln : len ≤ 1099511627776) :
    Calls Tryz.prog 14 #[.slice a len cap] w (GotDe w) := by
  obtain ⟨W, hW⟩ : ∃ W, w.alloc (boxSh 0 0 none 0 0 none 0 0 none 0 0) = W := ⟨_, rfl⟩
  have hB : Below w.heap.size w W := by rw [← hW]; exact below_two
  have hR : BoxIn w.heap.size TSh [] (shVals 0 0 none 0 0 none 0 0 none 0 0) [] W := by rw [← hW]; exact boxIn_new w _ _
  have hXl := hR.lt
  have HW := Hid.mk' hW
  clear hW
  go_enter Tryz.func14, Tryz.ntmps14
  go_wp2_with fail
  rw [HW.out]
  refine (new_ w W a len cap code h hB hln).mono ?_
  rintro e w1 ⟨rfl, hc1, hb1⟩
  have hR1 := hR.below hb1
  have hB1 := hB.trans (hb1.mono hB.size)
  have hgc := hc1.lt
  clear HW
  go_wp2_with fail
  refine (size_ a len cap 16 w1 (by omega) (by omega) hln).mono ?_
  rintro e w2 ⟨n, hn3, hn24, rfl, hw2⟩
  subst hw2
  have HDS := Hid.mk' (d_any w w2 W.heap.size a len cap code n hc1 (by omega) (by omega))
  go_wp2_with fail
  refine HDS.out.mono ?_
  rintro e w3 ⟨la, ln, lc, ma, mn, mc, ha, hn, hc, s, F, hD, rfl, hOS, hFn, hc3, hg3⟩
  have hR3 := hR1.grown hg3 (fun e => by have := Option.some.inj e; omega)
  have hB3 : Below w.heap.size w w3 := hB1.grown hg3 hB1.size (fun k e => by cases e; exact hB.size)
  have hs2 := hB1.size
  have hs3 := hg3.size
  have hs1 := hb1.size
  have hs0 := hB.size
  have hFl := hOS.lt
  obtain ⟨u3, hu3⟩ : ∃ u3, w3.alloc (boxSh s.1 s.2.2.1 la ln lc ma mn mc ha hn hc) = u3 := ⟨_, rfl⟩
  have hbu : Below w3.heap.size w3 u3 := by rw [← hu3]; exact below_two
  have hXu : BoxIn w3.heap.size TSh [] (shVals s.1 s.2.2.1 la ln lc ma mn mc ha hn hc) [] u3 := by rw [← hu3]; exact boxIn_new w3 _ _
  have hsu : w3.heap.size < u3.heap.size := hXu.lt
  obtain ⟨w4, hw4⟩ : ∃ w4, u3.alloc (.cells #[.int .i64 1, .int .i64 2, .int .i64 3, .int .i64 9, .int .i64 0] 3) = w4 := ⟨_, rfl⟩
  have hb4' : Below u3.heap.size u3 w4 := by rw [← hw4]; exact below_two
  have hb4 := hbu.trans (hb4'.mono (Nat.le_of_lt hsu))
  have hL4 : w4.heap[u3.heap.size]? = some (.cells #[.int .i64 1, .int .i64 2, .int .i64 3, .int .i64 9, .int .i64 0] 3) := by rw [← hw4]; exact heap_alloc_new u3 _
  have HIN := Hid.mk' (int_ w w4 W.heap.size a len cap code u3.heap.size 5 5 _ _ (hc3.below hb4) hL4 rfl (by omega) (by omega) (by omega) (fun z => decide (0 ≤ z ∧ z ≤ 9) = true) (some_atI _ 5 (fun z => decide (0 ≤ z ∧ z ≤ 9)) (by kernel_rfl)))
  have hu3s : u3.heap.size = w3.heap.size + 1 := by rw [← hu3]; simp
  rw [← hw4, hu3s] at HIN
  have HW4 := Hid.mk' hw4
  have HU3 := Hid.mk' hu3
  have hX4 := hXu.below hb4'
  have hR4 := hR3.below hb4
  have hB4 := hB3.trans (hb4.mono hB3.size)
  have hO4 := hOS.below hb4
  have hs34 := hb4.size
  clear hw4 hu3 hL4 hOS hR3 hR1 hR hc3 hc1 hB1 hb1 HDS hXu hb4' hbu
  go_wp2_with fail
  rw [HU3.out]
  refine HIN.out.mono ?_
  rw [HW4.out]
  rintro e w5 ⟨z, hz, rfl, hc5, hg5⟩
  have hz' := of_decide_eq_true hz
  have hX5 := hX4.grown hg5 (fun e => by have := Option.some.inj e; omega)
  have hR5 := hR4.grown hg5 (fun e => by have := Option.some.inj e; omega)
  have hB5 : Below w.heap.size w w5 := hB4.grown hg5 hB4.size (fun k e => by cases e; exact hB.size)
  have hO5 := hO4.keep (fun j hj => hg5.block j (hO4.lt j hj) (fun e => by have := hFn j hj; have := Option.some.inj e; omega))
  have hs5 := hg5.size
  have k4 := hX5.cell 4 _ rfl
  simp only [List.length_nil, Nat.zero_add] at k4
  have hhl := (SeeSh.lens hO5.see).2.2
  have hhb := hD.bd.held
  clear HIN HW4 HU3 hR4 hB4 hO4 hX4 hg5 hb4 hB3 hg3
  by_cases hnz : 0 < hn
  · have hnzi : (0 : Int) < (hn : Int) := by omega
    go_wp2_with fail
    refine (d_once w w5 W.heap.size a len cap code 2 hc5 (by omega) (by omega)).mono ?_
    rintro e w6 ⟨b6, rfl, hc6, hg6⟩
    have hXt := hX5.grown hg6 (fun e => by have := Option.some.inj e; omega)
    have hRt := hR5.grown hg6 (fun e => by have := Option.some.inj e; omega)
    have hBt : Below w.heap.size w w6 := hB5.grown hg6 hB5.size (fun k e => by cases e; exact hs0)
    have hOt := hO5.keep (fun j hj => hg6.block j (hO5.lt j hj) (fun e => by have := hFn j hj; have := Option.some.inj e; omega))
    have hct := hc6
    have hs6 := hg6.size
    clear k4 hX5 hR5 hB5 hO5 hc5 hg6 hc6
    cases b6
    · have hd : Below w6.heap.size w6 w6.drew := (Below.refl _ _).drew
      have HON := Hid.mk' (d_once w w6.drew W.heap.size a len cap code 2 (hct.below hd) (by omega) (by omega))
      have hTX : (Lit.int .i64 z).wf = true := WalkArith.wf_i64 (by omega)
      go_wp2_with fail
      refine last.wp_region_later (S := fun w' => BoxIn w3.heap.size TSh [] (shVals s.1 s.2.2.1 la ln lc ma mn mc ha hn hc) [] w') 6 (by kernel_rfl) (hXt.below hd) (fun hHeld0 => ?_)
      refine last.wpAnyL_take (i := 0) (v := (aggSh s.1 s.2.2.1 la ln lc ma mn mc ha hn hc)) rfl rfl (by kernel_rfl) (by kernel_rfl) (by kernel_rfl) (by kernel_rfl) (fun _ _ _ h => h) (Or.inl ⟨by rfl, ?_⟩) (by assumption) ?_
      · intro wq hSq; have q0 := hSq.cell 0 _ rfl; have q1 := hSq.cell 1 _ rfl; have q2 := hSq.cell 2 _ rfl; have q3 := hSq.cell 3 _ rfl; have q4 := hSq.cell 4 _ rfl; simp only [List.length_nil, Nat.zero_add] at q0 q1 q2 q3 q4; go_simp
      try simp only [Act.put, List.setIfInBounds_toArray, List.set_cons_zero, List.set_cons_succ]
      refine last.wpAnyL_take (i := 1) (v := (.int .i64 z)) rfl rfl (by kernel_rfl) (by kernel_rfl) (by kernel_rfl) (by kernel_rfl) (fun _ _ _ h => h) (Or.inl ⟨by rfl, ?_⟩) (by assumption) ?_
      · intro wq hSq; go_simp
      try simp only [Act.put, List.setIfInBounds_toArray, List.set_cons_zero, List.set_cons_succ]
      refine last.wpAnyL_take (i := 2) (v := (.pointer (some ⟨W.heap.size, 0, none⟩))) rfl rfl (by kernel_rfl) (by kernel_rfl) (by kernel_rfl) (by kernel_rfl) (fun _ _ _ h => h) (Or.inl ⟨by rfl, ?_⟩) (by assumption) ?_
      · intro wq hSq; go_simp
      try simp only [Act.put, List.setIfInBounds_toArray, List.set_cons_zero, List.set_cons_succ]
      refine last.wpAnyL_one (i := 3) (o := { dst := some 38, op := Op.call { callee := Callee.value (Operand.func 44), args := #[Operand.tmp 37, Operand.const (Value.int IntKind.i64 2)], argTypes := #[57, 3] }, type := 4, pos := "l09_shard.go:246", after := #[{ on := 2, ground := Ground.data }], guard := none }) (by kernel_rfl) rfl (fun K hK => ?_)
      refine stepc.step_call2 rfl 44 (.tmp 37) (.const (Value.int IntKind.i64 2)) _ rfl (fun _ _ => rfl) (.pointer (some ⟨W.heap.size, 0, none⟩)) (.int .i64 2) (by kernel_rfl) (by kernel_rfl) _ HON.out ?_
      rintro e w9 ⟨b9, rfl, hc9, hg9'⟩
      refine ⟨_, rfl, ?_⟩
      have hg9 : w6.grownBy w9 (some W.heap.size) := grownBy_trans (grown_below (World.grownBy.refl _ _) hd) hg9'
      have hX9 := hXt.grown hg9 (fun e => by have := Option.some.inj e; omega)
      have hR9 := hRt.grown hg9 (fun e => by have := Option.some.inj e; omega)
      have hB9 : Below w.heap.size w w9 := hBt.grown hg9 hBt.size (fun k e => by cases e; exact hs0)
      have hO9 := hOt.keep (fun j hj => hg9.block j (hOt.lt j hj) (fun e => by have := hFn j hj; have := Option.some.inj e; omega))
      refine hK.out _ _ ?_ (fun hHeld => ?_)
      · exact hX9
      clear hK K hHeld0
      have hHeld0 := hHeld
      clear hHeld
      try simp only [Act.put, List.setIfInBounds_toArray, List.set_cons_zero, List.set_cons_succ]
      have z0 := hR9.cell 0 _ rfl
      have z1 := hR9.cell 1 _ rfl
      have z2 := hR9.cell 2 _ rfl
      have z3 := hR9.cell 3 _ rfl
      have z4 := hR9.cell 4 _ rfl
      have hS5 := hR9.set5 (.int .i64 s.1) (.slice la ln lc) (.int .i64 s.2.2.1) (.slice ma mn mc) (.slice ha hn hc)
      simp only [List.length_nil, Nat.zero_add] at z0 z1 z2 z3 z4 hS5
      have f0 := hR9.fz 0
      have f1 := hR9.fz 1
      have f2 := hR9.fz 2
      have f3 := hR9.fz 3
      have f4 := hR9.fz 4
      have hBz := hB9.grown hS5.2 hB9.size (fun j e => by cases e; exact Nat.le_refl _)
      have hOz := hO9.keep (fun j hj => hS5.2.block j (hO9.lt j hj) (fun e => by have := hFn j hj; have := Option.some.inj e; omega))
      have hzc0 := hS5.1.cell 0 _ rfl
      have hzc1 := hS5.1.cell 1 _ rfl
      have hzc2 := hS5.1.cell 2 _ rfl
      have hzc3 := hS5.1.cell 3 _ rfl
      have hzc4 := hS5.1.cell 4 _ rfl
      simp only [List.length_nil, Nat.zero_add] at hzc0 hzc1 hzc2 hzc3 hzc4
      have hXz := hX9.grown hS5.2 (fun e => by have h2 := Option.some.inj e; omega)
      have HP := Hid.mk' (gotDe_mk (w := w) (y := b9) hD hTX hOz (fun k hk => Nat.le_trans hs2 (hFn k hk)) hBz)
      refine last.wpAnyL_one (i := 4) (o := { dst := none, op := Op.store 27 (Operand.tmp 2) (Operand.tmp 35), type := 0, pos := "l09_shard.go:246", after := #[{ on := 0, ground := Ground.data }, { on := 3, ground := Ground.chain }, { on := 0, ground := Ground.phase }, { on := 1, ground := Ground.textOnly Departure.lateStores }, { on := 2, ground := Ground.textOnly Departure.lateStores }, { on := 3, ground := Ground.textOnly Departure.lateStoresUnsure }], guard := none }) (by kernel_rfl) rfl (fun K hK => ?_)
      go_simp
      refine hK.out _ _ ?_ (fun hHeld => ?_)
      · exact hXz
      clear hK K hHeld0
      have hHeld0 := hHeld
      clear hHeld
      try simp only [Act.put, List.setIfInBounds_toArray, List.set_cons_zero, List.set_cons_succ]
      refine last.wpAnyL_one (i := 5) (o := { dst := some 3, op := Op.assign (Operand.tmp 36), type := 3, pos := "l09_shard.go:246", after := #[{ on := 1, ground := Ground.data }, { on := 4, ground := Ground.chain }, { on := 0, ground := Ground.phase }, { on := 1, ground := Ground.phase }, { on := 2, ground := Ground.textOnly Departure.lateStores }, { on := 3, ground := Ground.textOnly Departure.lateStoresUnsure }, { on := 4, ground := Ground.phase }], guard := none }) (by kernel_rfl) rfl (fun K hK => ?_)
      go_simp
      refine hK.out _ _ ?_ (fun hHeld => ?_)
      · exact hXz
      clear hK K hHeld0
      have hHeld0 := hHeld
      clear hHeld
      try simp only [Act.put, List.setIfInBounds_toArray, List.set_cons_zero, List.set_cons_succ]
      refine last.wpAnyL_last (o := { dst := some 4, op := Op.assign (Operand.tmp 38), type := 4, pos := "l09_shard.go:246", after := #[{ on := 3, ground := Ground.data }, { on := 5, ground := Ground.chain }, { on := 0, ground := Ground.phase }, { on := 1, ground := Ground.phase }, { on := 2, ground := Ground.phase }, { on := 3, ground := Ground.phase }, { on := 4, ground := Ground.phase }, { on := 5, ground := Ground.phase }], guard := none }) (by kernel_rfl) rfl (by kernel_rfl) (fun K hK => ?_)
      go_simp
      refine hK.out _ _ ?_
      clear hK K
      clear hHeld0 hXz hOz hBz hS5 hR9 hX9 hO9 hB9
      go_wp2_with fail
      refine bodyPost_ret (v := .tuple #[aggSh s.1 s.2.2.1 la ln lc ma mn mc ha hn hc, .int .i64 z, .bool b9]) ?_ rfl HP.out
      simp [results, Tryz.results14, go_sem, hzc0, hzc1, hzc2, hzc3, hzc4]
    · obtain ⟨hl, hOL, hh, hOH, hFe⟩ := hOt.log
      obtain ⟨gh, rfl⟩ : ∃ gh, ha = some ⟨gh, 0, none⟩ := by
        rcases hOH.shape with ⟨e, _⟩ | ⟨g, c, e, _⟩
        · cases e; omega
        · cases e; exact ⟨g, rfl⟩
      have hd5 : Below w6.heap.size w6 w6.drew := (Below.refl _ _).drew
      have HBL := Hid.mk' (below_ w w6.drew W.heap.size a len cap code (hn : Int) (hct.below hd5) (by omega) (by omega))
      go_wp2_with fail
      refine last.wp_region_later (S := fun w' => BoxIn w3.heap.size TSh [] (shVals s.1 s.2.2.1 la ln lc ma mn mc (some ⟨gh, 0, none⟩) hn hc) [] w' ∧ OwnR w' 0 (.slice (some ⟨gh, 0, none⟩) hn hc) s.2.2.2.2 hh) 10 (by kernel_rfl) ⟨hXt.below hd5, hOH.below hd5⟩ (fun hHeld0 => ?_)
      refine last.wpAnyL_take (i := 0) (v := (.pointer (some ⟨w3.heap.size, 4, none⟩))) rfl rfl (by kernel_rfl) (by kernel_rfl) (by kernel_rfl) (by kernel_rfl) (fun _ _ _ h => h) (Or.inl ⟨by rfl, ?_⟩) (by assumption) ?_
      · intro wq hSq; go_simp
      try simp only [Act.put, List.setIfInBounds_toArray, List.set_cons_zero, List.set_cons_succ]
      refine last.wpAnyL_take (i := 1) (v := (.slice (some ⟨gh, 0, none⟩) hn hc)) rfl rfl (by kernel_rfl) (by kernel_rfl) (by kernel_rfl) (by kernel_rfl) (fun _ _ _ h => h) (Or.inl ⟨by rfl, ?_⟩) (by assumption) ?_
      · intro wq hSq; have q := hSq.1.cell 4 _ rfl; simp only [List.length_nil, Nat.zero_add] at q; go_simp
      try simp only [Act.put, List.setIfInBounds_toArray, List.set_cons_zero, List.set_cons_succ]
      refine last.wpAnyL_take (i := 2) (v := (.pointer (some ⟨W.heap.size, 0, none⟩))) rfl rfl (by kernel_rfl) (by kernel_rfl) (by kernel_rfl) (by kernel_rfl) (fun _ _ _ h => h) (Or.inl ⟨by rfl, ?_⟩) (by assumption) ?_
      · intro wq hSq; go_simp
      try simp only [Act.put, List.setIfInBounds_toArray, List.set_cons_zero, List.set_cons_succ]
      refine last.wpAnyL_take (i := 3) (v := (.pointer (some ⟨w3.heap.size, 4, none⟩))) rfl rfl (by kernel_rfl) (by kernel_rfl) (by kernel_rfl) (by kernel_rfl) (fun _ _ _ h => h) (Or.inl ⟨by rfl, ?_⟩) (by assumption) ?_
      · intro wq hSq; go_simp
      try simp only [Act.put, List.setIfInBounds_toArray, List.set_cons_zero, List.set_cons_succ]
      refine last.wpAnyL_take (i := 4) (v := (.slice (some ⟨gh, 0, none⟩) hn hc)) rfl rfl (by kernel_rfl) (by kernel_rfl) (by kernel_rfl) (by kernel_rfl) (fun _ _ _ h => h) (Or.inl ⟨by rfl, ?_⟩) (by assumption) ?_
      · intro wq hSq; have q := hSq.1.cell 4 _ rfl; simp only [List.length_nil, Nat.zero_add] at q; go_simp
      try simp only [Act.put, List.setIfInBounds_toArray, List.set_cons_zero, List.set_cons_succ]
      refine last.wpAnyL_take (i := 5) (v := (.int .i64 (hn : Int))) rfl rfl (by kernel_rfl) (by kernel_rfl) (by kernel_rfl) (by kernel_rfl) (fun _ _ _ h => h) (Or.inl ⟨by rfl, ?_⟩) (by assumption) ?_
      · intro wq hSq; go_simp
      try simp only [Act.put, List.setIfInBounds_toArray, List.set_cons_zero, List.set_cons_succ]
      refine last.wpAnyL_one (i := 6) (o := { dst := some 31, op := Op.call { callee := Callee.value (Operand.func 45), args := #[Operand.tmp 27, Operand.tmp 30], argTypes := #[57, 3] }, type := 3, pos := "l09_shard.go:244", after := #[{ on := 2, ground := Ground.data }, { on := 5, ground := Ground.data }], guard := none }) (by kernel_rfl) rfl (fun K hK => ?_)
      refine stepc.step_call2 rfl 45 (.tmp 27) (.tmp 30) _ rfl (fun _ _ => rfl) (.pointer (some ⟨W.heap.size, 0, none⟩)) (.int .i64 (hn : Int)) (by kernel_rfl) (by kernel_rfl) _ HBL.out ?_
      rintro e w7 ⟨j, hj, rfl, hc7, hg7'⟩
      refine ⟨_, rfl, ?_⟩
      have hg7 : w6.grownBy w7 (some W.heap.size) := grownBy_trans (grown_below (World.grownBy.refl _ _) hd5) hg7'
      have hX7 := hXt.grown hg7 (fun e => by have := Option.some.inj e; omega)
      have hR7 := hRt.grown hg7 (fun e => by have := Option.some.inj e; omega)
      have hB7 : Below w.heap.size w w7 := hBt.grown hg7 hBt.size (fun k e => by cases e; exact hs0)
      have hO7 := hOt.keep (fun j hj => hg7.block j (hOt.lt j hj) (fun e => by have := hFn j hj; have := Option.some.inj e; omega))
      have hOH7 := hOH.grown hg7 (fun e => by have := hFn W.heap.size (by rw [hFe]; exact List.mem_append.2 (.inr (List.mem_append.2 (.inr (mem_blkR.2 e))))); omega)
      have hjl : j < s.2.2.2.2.length := by omega
      have hjn : (j : Int) < (hn : Int) := hj
      have hs7 := hg7.size
      refine hK.out _ _ ?_ (fun hHeld => ?_)
      · exact ⟨hX7, hOH7⟩
      clear hK K hHeld0
      have hHeld0 := hHeld
      clear hHeld
      try simp only [Act.put, List.setIfInBounds_toArray, List.set_cons_zero, List.set_cons_succ]
      refine last.wpAnyL_take (i := 7) (v := (.pointer (some ⟨gh, j * 3, none⟩))) rfl rfl (by kernel_rfl) (by kernel_rfl) (by kernel_rfl) (by kernel_rfl) (fun _ _ _ h => h) (Or.inl ⟨by rfl, ?_⟩) (by assumption) ?_
      · intro wq hSq; go_simp
      try simp only [Act.put, List.setIfInBounds_toArray, List.set_cons_zero, List.set_cons_succ]
      refine last.wpAnyL_take (i := 8) (v := (.pointer (some ⟨gh, j * 3 + 1, none⟩))) rfl rfl (by kernel_rfl) (by kernel_rfl) (by kernel_rfl) (by kernel_rfl) (fun _ _ _ h => h) (Or.inl ⟨by rfl, ?_⟩) (by assumption) ?_
      · intro wq hSq; go_simp
      try simp only [Act.put, List.setIfInBounds_toArray, List.set_cons_zero, List.set_cons_succ]
      refine last.wpAnyL_take (i := 9) (v := (.int .i64 s.2.2.2.2[j].2.1)) rfl rfl (by kernel_rfl) (by kernel_rfl) (by kernel_rfl) (by kernel_rfl) (fun _ _ _ h => h) (Or.inl ⟨by rfl, ?_⟩) (by assumption) ?_
      · intro wq hSq; have q := (hSq.2.at j hjl).2.1; go_simp
      try simp only [Act.put, List.setIfInBounds_toArray, List.set_cons_zero, List.set_cons_succ]
      refine last.wpAnyL_last (o := { dst := some 7, op := Op.assign (Operand.tmp 34), type := 3, pos := "l09_shard.go:244", after := #[{ on := 9, ground := Ground.data }, { on := 6, ground := Ground.chain }, { on := 0, ground := Ground.phase }, { on := 1, ground := Ground.phase }, { on := 2, ground := Ground.phase }, { on := 3, ground := Ground.phase }, { on := 4, ground := Ground.phase }, { on := 5, ground := Ground.phase }, { on := 6, ground := Ground.phase }, { on := 7, ground := Ground.phase }, { on := 8, ground := Ground.phase }, { on := 9, ground := Ground.phase }], guard := none }) (by kernel_rfl) rfl (by kernel_rfl) (fun K hK => ?_)
      go_simp
      refine hK.out _ _ ?_
      clear hK K
      have htjw : (Lit.int .i64 s.2.2.2.2[j].2.1).wf = true := (hOH7.sm _ (List.getElem_mem hjl)).2.1
      clear hHeld0 hOH7 hOH hOL HBL hg7' hg7 hct hd5 hXt hRt hBt hOt
      have hXt := hX7
      have hRt := hR7
      have hBt := hB7
      have hOt := hO7
      have hct := hc7
      clear hX7 hR7 hB7 hO7 hc7
      generalize s.2.2.2.2[j].2.1 = txj at *
      have hd : Below w7.heap.size w7 w7.drew := (Below.refl _ _).drew
      have HON := Hid.mk' (d_once w w7.drew W.heap.size a len cap code 2 (hct.below hd) (by omega) (by omega))
      have hTX : (Lit.int .i64 txj).wf = true := htjw
      go_wp2_with fail
      refine last.wp_region_later (S := fun w' => BoxIn w3.heap.size TSh [] (shVals s.1 s.2.2.1 la ln lc ma mn mc (some ⟨gh, 0, none⟩) hn hc) [] w') 6 (by kernel_rfl) (hXt.below hd) (fun hHeld0 => ?_)
      refine last.wpAnyL_take (i := 0) (v := (aggSh s.1 s.2.2.1 la ln lc ma mn mc (some ⟨gh, 0, none⟩) hn hc)) rfl rfl (by kernel_rfl) (by kernel_rfl) (by kernel_rfl) (by kernel_rfl) (fun _ _ _ h => h) (Or.inl ⟨by rfl, ?_⟩) (by assumption) ?_
      · intro wq hSq; have q0 := hSq.cell 0 _ rfl; have q1 := hSq.cell 1 _ rfl; have q2 := hSq.cell 2 _ rfl; have q3 := hSq.cell 3 _ rfl; have q4 := hSq.cell 4 _ rfl; simp only [List.length_nil, Nat.zero_add] at q0 q1 q2 q3 q4; go_simp
      try simp only [Act.put, List.setIfInBounds_toArray, List.set_cons_zero, List.set_cons_succ]
      refine last.wpAnyL_take (i := 1) (v := (.int .i64 txj)) rfl rfl (by kernel_rfl) (by kernel_rfl) (by kernel_rfl) (by kernel_rfl) (fun _ _ _ h => h) (Or.inl ⟨by rfl, ?_⟩) (by assumption) ?_
      · intro wq hSq; go_simp
      try simp only [Act.put, List.setIfInBounds_toArray, List.set_cons_zero, List.set_cons_succ]
      refine last.wpAnyL_take (i := 2) (v := (.pointer (some ⟨W.heap.size, 0, none⟩))) rfl rfl (by kernel_rfl) (by kernel_rfl) (by kernel_rfl) (by kernel_rfl) (fun _ _ _ h => h) (Or.inl ⟨by rfl, ?_⟩) (by assumption) ?_
      · intro wq hSq; go_simp
      try simp only [Act.put, List.setIfInBounds_toArray, List.set_cons_zero, List.set_cons_succ]
      refine last.wpAnyL_one (i := 3) (o := { dst := some 38, op := Op.call { callee := Callee.value (Operand.func 44), args := #[Operand.tmp 37, Operand.const (Value.int IntKind.i64 2)], argTypes := #[57, 3] }, type := 4, pos := "l09_shard.go:246", after := #[{ on := 2, ground := Ground.data }], guard := none }) (by kernel_rfl) rfl (fun K hK => ?_)
      refine stepc.step_call2 rfl 44 (.tmp 37) (.const (Value.int IntKind.i64 2)) _ rfl (fun _ _ => rfl) (.pointer (some ⟨W.heap.size, 0, none⟩)) (.int .i64 2) (by kernel_rfl) (by kernel_rfl) _ HON.out ?_
      rintro e w9 ⟨b9, rfl, hc9, hg9'⟩
      refine ⟨_, rfl, ?_⟩
      have hg9 : w7.grownBy w9 (some W.heap.size) := grownBy_trans (grown_below (World.grownBy.refl _ _) hd) hg9'
      have hX9 := hXt.grown hg9 (fun e => by have := Option.some.inj e; omega)
      have hR9 := hRt.grown hg9 (fun e => by have := Option.some.inj e; omega)
      have hB9 : Below w.heap.size w w9 := hBt.grown hg9 hBt.size (fun k e => by cases e; exact hs0)
      have hO9 := hOt.keep (fun j hj => hg9.block j (hOt.lt j hj) (fun e => by have := hFn j hj; have := Option.some.inj e; omega))
      refine hK.out _ _ ?_ (fun hHeld => ?_)
      · exact hX9
      clear hK K hHeld0
      have hHeld0 := hHeld
      clear hHeld
      try simp only [Act.put, List.setIfInBounds_toArray, List.set_cons_zero, List.set_cons_succ]
      have z0 := hR9.cell 0 _ rfl
      have z1 := hR9.cell 1 _ rfl
      have z2 := hR9.cell 2 _ rfl
      have z3 := hR9.cell 3 _ rfl
      have z4 := hR9.cell 4 _ rfl
      have hS5 := hR9.set5 (.int .i64 s.1) (.slice la ln lc) (.int .i64 s.2.2.1) (.slice ma mn mc) (.slice (some ⟨gh, 0, none⟩) hn hc)
      simp only [List.length_nil, Nat.zero_add] at z0 z1 z2 z3 z4 hS5
      have f0 := hR9.fz 0
      have f1 := hR9.fz 1
      have f2 := hR9.fz 2
      have f3 := hR9.fz 3
      have f4 := hR9.fz 4
      have hBz := hB9.grown hS5.2 hB9.size (fun j e => by cases e; exact Nat.le_refl _)
      have hOz := hO9.keep (fun j hj => hS5.2.block j (hO9.lt j hj) (fun e => by have := hFn j hj; have := Option.some.inj e; omega))
      have hzc0 := hS5.1.cell 0 _ rfl
      have hzc1 := hS5.1.cell 1 _ rfl
      have hzc2 := hS5.1.cell 2 _ rfl
      have hzc3 := hS5.1.cell 3 _ rfl
      have hzc4 := hS5.1.cell 4 _ rfl
      simp only [List.length_nil, Nat.zero_add] at hzc0 hzc1 hzc2 hzc3 hzc4
      have hXz := hX9.grown hS5.2 (fun e => by have h2 := Option.some.inj e; omega)
      have HP := Hid.mk' (gotDe_mk (w := w) (y := b9) hD hTX hOz (fun k hk => Nat.le_trans hs2 (hFn k hk)) hBz)
      refine last.wpAnyL_one (i := 4) (o := { dst := none, op := Op.store 27 (Operand.tmp 2) (Operand.tmp 35), type := 0, pos := "l09_shard.go:246", after := #[{ on := 0, ground := Ground.data }, { on := 3, ground := Ground.chain }, { on := 0, ground := Ground.phase }, { on := 1, ground := Ground.textOnly Departure.lateStores }, { on := 2, ground := Ground.textOnly Departure.lateStores }, { on := 3, ground := Ground.textOnly Departure.lateStoresUnsure }], guard := none }) (by kernel_rfl) rfl (fun K hK => ?_)
      go_simp
      refine hK.out _ _ ?_ (fun hHeld => ?_)
      · exact hXz
      clear hK K hHeld0
      have hHeld0 := hHeld
      clear hHeld
      try simp only [Act.put, List.setIfInBounds_toArray, List.set_cons_zero, List.set_cons_succ]
      refine last.wpAnyL_one (i := 5) (o := { dst := some 3, op := Op.assign (Operand.tmp 36), type := 3, pos := "l09_shard.go:246", after := #[{ on := 1, ground := Ground.data }, { on := 4, ground := Ground.chain }, { on := 0, ground := Ground.phase }, { on := 1, ground := Ground.phase }, { on := 2, ground := Ground.textOnly Departure.lateStores }, { on := 3, ground := Ground.textOnly Departure.lateStoresUnsure }, { on := 4, ground := Ground.phase }], guard := none }) (by kernel_rfl) rfl (fun K hK => ?_)
      go_simp
      refine hK.out _ _ ?_ (fun hHeld => ?_)
      · exact hXz
      clear hK K hHeld0
      have hHeld0 := hHeld
      clear hHeld
      try simp only [Act.put, List.setIfInBounds_toArray, List.set_cons_zero, List.set_cons_succ]
      refine last.wpAnyL_last (o := { dst := some 4, op := Op.assign (Operand.tmp 38), type := 4, pos := "l09_shard.go:246", after := #[{ on := 3, ground := Ground.data }, { on := 5, ground := Ground.chain }, { on := 0, ground := Ground.phase }, { on := 1, ground := Ground.phase }, { on := 2, ground := Ground.phase }, { on := 3, ground := Ground.phase }, { on := 4, ground := Ground.phase }, { on := 5, ground := Ground.phase }], guard := none }) (by kernel_rfl) rfl (by kernel_rfl) (fun K hK => ?_)
      go_simp
      refine hK.out _ _ ?_
      clear hK K
      clear hHeld0 hXz hOz hBz hS5 hR9 hX9 hO9 hB9
      go_wp2_with fail
      refine bodyPost_ret (v := .tuple #[aggSh s.1 s.2.2.1 la ln lc ma mn mc (some ⟨gh, 0, none⟩) hn hc, .int .i64 txj, .bool b9]) ?_ rfl HP.out
      simp [results, Tryz.results14, go_sem, hzc0, hzc1, hzc2, hzc3, hzc4]
  · have hnzi : ¬ (0 : Int) < (hn : Int) := by omega
    have hXt := hX5
    have hRt := hR5
    have hBt := hB5
    have hOt := hO5
    have hct := hc5
    have hd : Below w5.heap.size w5 w5.drew := (Below.refl _ _).drew
    have HON := Hid.mk' (d_once w w5.drew W.heap.size a len cap code 2 (hct.below hd) (by omega) (by omega))
    have hTX : (Lit.int .i64 z).wf = true := WalkArith.wf_i64 (by omega)
    go_wp2_with fail
    refine last.wp_region_later (S := fun w' => BoxIn w3.heap.size TSh [] (shVals s.1 s.2.2.1 la ln lc ma mn mc ha hn hc) [] w') 6 (by kernel_rfl) (hXt.below hd) (fun hHeld0 => ?_)
    refine last.wpAnyL_take (i := 0) (v := (aggSh s.1 s.2.2.1 la ln lc ma mn mc ha hn hc)) rfl rfl (by kernel_rfl) (by kernel_rfl) (by kernel_rfl) (by kernel_rfl) (fun _ _ _ h => h) (Or.inl ⟨by rfl, ?_⟩) (by assumption) ?_
    · intro wq hSq; have q0 := hSq.cell 0 _ rfl; have q1 := hSq.cell 1 _ rfl; have q2 := hSq.cell 2 _ rfl; have q3 := hSq.cell 3 _ rfl; have q4 := hSq.cell 4 _ rfl; simp only [List.length_nil, Nat.zero_add] at q0 q1 q2 q3 q4; go_simp
    try simp only [Act.put, List.setIfInBounds_toArray, List.set_cons_zero, List.set_cons_succ]
    refine last.wpAnyL_take (i := 1) (v := (.int .i64 z)) rfl rfl (by kernel_rfl) (by kernel_rfl) (by kernel_rfl) (by kernel_rfl) (fun _ _ _ h => h) (Or.inl ⟨by rfl, ?_⟩) (by assumption) ?_
    · intro wq hSq; go_simp
    try simp only [Act.put, List.setIfInBounds_toArray, List.set_cons_zero, List.set_cons_succ]
    refine last.wpAnyL_take (i := 2) (v := (.pointer (some ⟨W.heap.size, 0, none⟩))) rfl rfl (by kernel_rfl) (by kernel_rfl) (by kernel_rfl) (by kernel_rfl) (fun _ _ _ h => h) (Or.inl ⟨by rfl, ?_⟩) (by assumption) ?_
    · intro wq hSq; go_simp
    try simp only [Act.put, List.setIfInBounds_toArray, List.set_cons_zero, List.set_cons_succ]
    refine last.wpAnyL_one (i := 3) (o := { dst := some 38, op := Op.call { callee := Callee.value (Operand.func 44), args := #[Operand.tmp 37, Operand.const (Value.int IntKind.i64 2)], argTypes := #[57, 3] }, type := 4, pos := "l09_shard.go:246", after := #[{ on := 2, ground := Ground.data }], guard := none }) (by kernel_rfl) rfl (fun K hK => ?_)
    refine stepc.step_call2 rfl 44 (.tmp 37) (.const (Value.int IntKind.i64 2)) _ rfl (fun _ _ => rfl) (.pointer (some ⟨W.heap.size, 0, none⟩)) (.int .i64 2) (by kernel_rfl) (by kernel_rfl) _ HON.out ?_
    rintro e w9 ⟨b9, rfl, hc9, hg9'⟩
    refine ⟨_, rfl, ?_⟩
    have hg9 : w5.grownBy w9 (some W.heap.size) := grownBy_trans (grown_below (World.grownBy.refl _ _) hd) hg9'
    have hX9 := hXt.grown hg9 (fun e => by have := Option.some.inj e; omega)
    have hR9 := hRt.grown hg9 (fun e => by have := Option.some.inj e; omega)
    have hB9 : Below w.heap.size w w9 := hBt.grown hg9 hBt.size (fun k e => by cases e; exact hs0)
    have hO9 := hOt.keep (fun j hj => hg9.block j (hOt.lt j hj) (fun e => by have := hFn j hj; have := Option.some.inj e; omega))
    refine hK.out _ _ ?_ (fun hHeld => ?_)
    · exact hX9
    clear hK K hHeld0
    have hHeld0 := hHeld
    clear hHeld
    try simp only [Act.put, List.setIfInBounds_toArray, List.set_cons_zero, List.set_cons_succ]
    have z0 := hR9.cell 0 _ rfl
    have z1 := hR9.cell 1 _ rfl
    have z2 := hR9.cell 2 _ rfl
    have z3 := hR9.cell 3 _ rfl
    have z4 := hR9.cell 4 _ rfl
    have hS5 := hR9.set5 (.int .i64 s.1) (.slice la ln lc) (.int .i64 s.2.2.1) (.slice ma mn mc) (.slice ha hn hc)
    simp only [List.length_nil, Nat.zero_add] at z0 z1 z2 z3 z4 hS5
    have f0 := hR9.fz 0
    have f1 := hR9.fz 1
    have f2 := hR9.fz 2
    have f3 := hR9.fz 3
    have f4 := hR9.fz 4
    have hBz := hB9.grown hS5.2 hB9.size (fun j e => by cases e; exact Nat.le_refl _)
    have hOz := hO9.keep (fun j hj => hS5.2.block j (hO9.lt j hj) (fun e => by have := hFn j hj; have := Option.some.inj e; omega))
    have hzc0 := hS5.1.cell 0 _ rfl
    have hzc1 := hS5.1.cell 1 _ rfl
    have hzc2 := hS5.1.cell 2 _ rfl
    have hzc3 := hS5.1.cell 3 _ rfl
    have hzc4 := hS5.1.cell 4 _ rfl
    simp only [List.length_nil, Nat.zero_add] at hzc0 hzc1 hzc2 hzc3 hzc4
    have hXz := hX9.grown hS5.2 (fun e => by have h2 := Option.some.inj e; omega)
    have HP := Hid.mk' (gotDe_mk (w := w) (y := b9) hD hTX hOz (fun k hk => Nat.le_trans hs2 (hFn k hk)) hBz)
    refine last.wpAnyL_one (i := 4) (o := { dst := none, op := Op.store 27 (Operand.tmp 2) (Operand.tmp 35), type := 0, pos := "l09_shard.go:246", after := #[{ on := 0, ground := Ground.data }, { on := 3, ground := Ground.chain }, { on := 0, ground := Ground.phase }, { on := 1, ground := Ground.textOnly Departure.lateStores }, { on := 2, ground := Ground.textOnly Departure.lateStores }, { on := 3, ground := Ground.textOnly Departure.lateStoresUnsure }], guard := none }) (by kernel_rfl) rfl (fun K hK => ?_)
    go_simp
    refine hK.out _ _ ?_ (fun hHeld => ?_)
    · exact hXz
    clear hK K hHeld0
    have hHeld0 := hHeld
    clear hHeld
    try simp only [Act.put, List.setIfInBounds_toArray, List.set_cons_zero, List.set_cons_succ]
    refine last.wpAnyL_one (i := 5) (o := { dst := some 3, op := Op.assign (Operand.tmp 36), type := 3, pos := "l09_shard.go:246", after := #[{ on := 1, ground := Ground.data }, { on := 4, ground := Ground.chain }, { on := 0, ground := Ground.phase }, { on := 1, ground := Ground.phase }, { on := 2, ground := Ground.textOnly Departure.lateStores }, { on := 3, ground := Ground.textOnly Departure.lateStoresUnsure }, { on := 4, ground := Ground.phase }], guard := none }) (by kernel_rfl) rfl (fun K hK => ?_)
    go_simp
    refine hK.out _ _ ?_ (fun hHeld => ?_)
    · exact hXz
    clear hK K hHeld0
    have hHeld0 := hHeld
    clear hHeld
    try simp only [Act.put, List.setIfInBounds_toArray, List.set_cons_zero, List.set_cons_succ]
    refine last.wpAnyL_last (o := { dst := some 4, op := Op.assign (Operand.tmp 38), type := 4, pos := "l09_shard.go:246", after := #[{ on := 3, ground := Ground.data }, { on := 5, ground := Ground.chain }, { on := 0, ground := Ground.phase }, { on := 1, ground := Ground.phase }, { on := 2, ground := Ground.phase }, { on := 3, ground := Ground.phase }, { on := 4, ground := Ground.phase }, { on := 5, ground := Ground.phase }], guard := none }) (by kernel_rfl) rfl (by kernel_rfl) (fun K hK => ?_)
    go_simp
    refine hK.out _ _ ?_
    clear hK K
    clear hHeld0 hXz hOz hBz hS5 hR9 hX9 hO9 hB9
    go_wp2_with fail
    refine bodyPost_ret (v := .tuple #[aggSh s.1 s.2.2.1 la ln lc ma mn mc ha hn hc, .int .i64 z, .bool b9]) ?_ rfl HP.out
    simp [results, Tryz.results14, go_sem, hzc0, hzc1, hzc2, hzc3, hzc4]
end Go.Proofs.YteniflajiklffaaGreatDoor.recs

namespace Go.Proofs.YteniflajiklffaaGreatDoor.base
open Go.RowKit
set_option linter.unusedVariables false
theorem big_ (a0 : Option Addr) (len0 cap0 : Nat) (w : World) (h : len0 ≤ maxLen) :
    Calls Tryz.prog 7 #[.slice a0 len0 cap0] w fun e w' => e = .returned (.bool (decide (1048576 < (len0 : Int)))) ∧ w' = w := by
  unfold maxLen at h
  go_enter Tryz.func7, Tryz.ntmps7
  go_wp2
  go_ret
  exact ⟨rfl, rfl⟩
end Go.Proofs.YteniflajiklffaaGreatDoor.base

namespace Go.Proofs.YteniflajiklffaaGreatDoor.sent
open Go Go.RowKit Go.Extern.Stop Go.Stop Go.Extern Go.Proofs.YteniflajiklffaaGreatDoor.base
set_option linter.unusedVariables false
set_option linter.unusedSimpArgs false

/-! ### the variables -/
abbrev gs : List Nat := [2, 6, 0, 1, 3]
structure KS (G : List Nat) (A : Nat → Addr) (W : World) : Prop where
  sub : ∀ g ∈ gs, g ∈ G
  cell : ∀ g ∈ G, W.cell? ⟨g, 0, none⟩ = some (.iface 180 (.pointer (some (A g))))
  row : ∀ g ∈ G, ∃ c t, W.heap[(A g).block]? = some (.cells c t (0, 0))
  ne : ∀ g ∈ G, ∀ k ∈ G, g ≠ k → A g ≠ A k
theorem KS.below {G : List Nat} {A : Nat → Addr} {W W' : World} (h : KS G A W) (hb : Below W.heap.size W W') : KS G A W' :=
  ⟨h.sub, fun g hg => (hb.cell (p := ⟨g, 0, none⟩) (World.block_lt_of_cell? W _ (h.cell g hg))).trans (h.cell g hg), fun g hg => by
    obtain ⟨c, t, e⟩ := h.row g hg
    exact ⟨c, t, (hb.block _ (Array.getElem?_eq_some_iff.1 e).1).trans e⟩, h.ne⟩
theorem sens {P : Program} {W : World} {nm : String} {ti tp te ts : TypeId} {ms : Array (String × TypeId)} {f : Field}
    (hi : P.underlying ti = some (.interface ms)) (hrow : ∀ u, P.typeName? 3 u = some nm → u = tp)
    (hp : P.underlying tp = some (.pointer te)) (he : P.underlying te = some (.struct #[f])) (hft : f.type = ts) (hfo : f.offset = 0) (hs : P.underlying ts = some .string) (hc : P.cellsOf te = 1) (hcs : P.cellsOf ts = 1) :
    ∀ (L : List (String × Nat × List UInt8)) (ps : List MemPlace), DataW.LaidVars P W (L.map fun x => (x.1, .iface nm (.ptr (.agg [.lit (.string x.2.2)])))) ps → ps.Nodup →
      (∀ b off, MemPlace.cell b off ∈ ps → (∃ c t, W.heap[b]? = some (.cells c t (0, 0))) ∧ ∀ u v, W.cell? ⟨b, off, none⟩ = some (.iface u v) → Value.okWide P W .any 0 u v) →
      (∀ x ∈ L, P.globalNamed x.1 = some x.2.1 ∧ (P.globals[x.2.1]?).map (·.type) = some ti) → (L.map fun x => x.2.1).Nodup →
      ∃ A : Nat → Addr, (∀ x ∈ L, W.cell? ⟨x.2.1, 0, none⟩ = some (.iface tp (.pointer (some (A x.2.1)))) ∧ (∃ c t, W.heap[(A x.2.1).block]? = some (.cells c t (0, 0))) ∧ ∀ p ∈ MemPlace.row (A x.2.1) 1, p ∈ ps) ∧
        ∀ x ∈ L, ∀ y ∈ L, x.2.1 ≠ y.2.1 → A x.2.1 ≠ A y.2.1
  | [], ps, _, _, _, _, _ => ⟨fun _ => ⟨0, 0, Option.none⟩, fun x hx => absurd hx List.not_mem_nil, fun x hx => absurd hx List.not_mem_nil⟩
  | x :: L, ps, h, hnd, hrows, hgl, hg => by
    obtain ⟨g, t, cs, fuel, p, q, hg1, ht1, hv, hd, hr, rfl⟩ := h
    obtain ⟨hg0, ht0⟩ := hgl x List.mem_cons_self
    obtain rfl := Option.some.inj (hg0.symm.trans hg1)
    obtain rfl := Option.some.inj (ht0.symm.trans ht1)
    obtain ⟨l0⟩ := cs
    have ok0 : ∀ u v, l0 = [.iface u v] → Value.okWide P W .any 0 u v := fun u v e => by
      subst e
      exact (hrows x.2.1 0 (by simp [MemPlace.row])).2 u v (by simpa using World.var?_cell hg1 hv 0)
    obtain ⟨a, s, rfl, hc0, hs0, hz0, rfl⟩ := errorString_of_trod hi hrow hp he hft hfo hs hc hcs hd ok0
    have hna := List.nodup_append.1 hnd
    have hnb := List.nodup_append.1 hna.1
    have hg' := List.nodup_cons.1 (show (x.2.1 :: L.map fun x => x.2.1).Nodup from hg)
    obtain ⟨A, hA, hN⟩ := sens hi hrow hp he hft hfo hs hc hcs L q hr hna.2.1 (fun b off hb => hrows b off (List.mem_append.2 (.inr hb))) (fun y hy => hgl y (List.mem_cons_of_mem _ hy)) hg'.2
    have hrest : ∀ y ∈ L, y.2.1 ≠ x.2.1 := fun y hy e => hg'.1 (List.mem_map.2 ⟨y, hy, e⟩)
    have hmem : MemPlace.cell a.block a.off ∈ MemPlace.row a 1 := by simp [MemPlace.row]
    have hne : ∀ y ∈ L, a ≠ A y.2.1 := fun y hy e => by
      have h0 := hmem
      rw [e] at h0
      exact hna.2.2 _ (List.mem_append.2 (.inr hmem)) _ ((hA y hy).2.2 _ h0) (by rw [e])
    refine ⟨fun k => if k = x.2.1 then a else A k, fun y hy => ?_, fun y hy z hz hyz => ?_⟩
    · rcases List.mem_cons.1 hy with rfl | hy
      · simp only [if_pos]
        exact ⟨by simpa using World.var?_cell hg1 hv 0, (hrows a.block a.off (List.mem_append.2 (.inl (List.mem_append.2 (.inr hmem))))).1, fun p hp => List.mem_append.2 (.inl (List.mem_append.2 (.inr hp)))⟩
      · simp only [if_neg (hrest y hy)]
        obtain ⟨k1, k2, k3⟩ := hA y hy
        exact ⟨k1, k2, fun p hp => List.mem_append.2 (.inr (k3 p hp))⟩
    · show (if y.2.1 = x.2.1 then a else A y.2.1) ≠ (if z.2.1 = x.2.1 then a else A z.2.1)
      rcases List.mem_cons.1 hy with ey | hy
      · rcases List.mem_cons.1 hz with ez | hz
        · exact absurd (by rw [ey, ez]) hyz
        · rw [if_pos (by rw [ey]), if_neg (hrest z hz)]
          exact hne z hz
      · rcases List.mem_cons.1 hz with ez | hz
        · rw [if_neg (hrest y hy), if_pos (by rw [ez])]
          exact fun e => hne y hy e.symm
        · rw [if_neg (hrest y hy), if_neg (hrest z hz)]
          exact hN y hy z hz hyz
theorem vars_len {H : Type} {enc : TypeId × Value → H} {P : Program} {w : World} {spare : Nat → Bool} : ∀ (ns : List String) (ds : List (DataW H)) (ps : List MemPlace), DataW.TrodVars enc P w spare ns ds ps → ds.length = ns.length
  | [], [], _, _ => rfl
  | [], _ :: _, _, h => by simp [DataW.TrodVars] at h
  | _ :: _, [], _, h => by simp [DataW.TrodVars] at h
  | n :: ns, d :: ds, ps, h => by
    obtain ⟨g, t, cs, fuel, p, q, h1, h2, h3, h4, hs, e⟩ := h
    rw [List.length_cons, List.length_cons, vars_len ns ds q hs]
theorem star : ("*" ++ "errors.errorString" : String) = "*errors.errorString" := by decide
theorem tyN (u : TypeId) (h : Tryz.prog.typeName? 3 u = some "*errors.errorString") : u = 180 :=
  typeName_ptr_named (nm := "errors.errorString") (by rw [star]; kernel_rfl) (by kernel_rfl) (by decide) u (by rw [star]; exact h)
theorem ks_of_laid {W : World} (L : List (String × Nat × List UInt8)) (h : laidMet Tryz.prog (L.map fun x => (x.1, .iface "*errors.errorString" (.ptr (.agg [.lit (.string x.2.2)])))) W)
    (hgl : ∀ x ∈ L, Tryz.prog.globalNamed x.1 = some x.2.1 ∧ (Tryz.prog.globals[x.2.1]?).map (·.type) = some 65) (hnd : (L.map fun x => x.2.1).Nodup) (hsub : ∀ g ∈ gs, g ∈ L.map fun x => x.2.1) :
    ∃ A, KS (L.map fun x => x.2.1) A W := by
  obtain ⟨ps, hv, hn, hr⟩ := h
  obtain ⟨A, hA, hN⟩ := sens (P := Tryz.prog) (W := W) Tryz.underlying65 tyN Tryz.underlying180 Tryz.underlying206 rfl rfl Tryz.underlying9 (by kernel_rfl) (by kernel_rfl) L ps hv hn hr hgl hnd
  refine ⟨A, hsub, fun g hg => ?_, fun g hg => ?_, fun g hg k hk hne => ?_⟩
  · obtain ⟨x, hx, rfl⟩ := List.mem_map.1 hg
    exact (hA x hx).1
  · obtain ⟨x, hx, rfl⟩ := List.mem_map.1 hg
    exact (hA x hx).2.1
  · obtain ⟨x, hx, rfl⟩ := List.mem_map.1 hg
    obtain ⟨y, hy, rfl⟩ := List.mem_map.1 hk
    exact hN x hx y hy hne
/-! ### errors.Is -/
theorem isTypeOf (v : Value) (w : World) : (Extern.ReflectliteType.typeOf #[.iface 180 v]).run Tryz.prog w = .ok (.iface 159 (.agg #[.pointer (some ⟨7, 180, none⟩)])) w := by kernel_rfl
theorem isComparable (w : World) : ((Extern.ReflectliteType.method fun t => do Rtype.noPackHeld "Comparable" t; (fun a => Value.bool a.comparable) <$> typeInfo t) #[.agg #[.pointer (some ⟨7, 180, none⟩)]]).run Tryz.prog w = .ok (.bool true) w := by kernel_rfl
theorem isMethodComparable (v : Value) (w : World) : (Go.method 318 159 v "Comparable").run Tryz.prog w = .ok (163, v) w := by kernel_rfl
theorem isComp : (Tryz.prog.info? 180).map (·.comparable) = some true := by kernel_rfl
theorem isSize : (Tryz.prog.info? 206).map (·.size) = some 1 := by kernel_rfl
theorem noIsE (v : Value) (xT : TypeId) (w : World) : (Instr.typeAssert (.iface 180 v) xT 161 true).run Tryz.prog w = .ok (.tuple #[.nilIface, .bool false]) w := run_typeAssert_lacksB Tryz.underlying161 (by kernel_rfl) (by kernel_rfl) v xT w
theorem noUnwrapE (v : Value) (xT : TypeId) (w : World) : (Instr.typeAssert (.iface 180 v) xT 164 true).run Tryz.prog w = .ok (.tuple #[.nilIface, .bool false]) w := run_typeAssert_lacksB Tryz.underlying164 (by kernel_rfl) (by kernel_rfl) v xT w
theorem noUnwrapsE (v : Value) (xT : TypeId) (w : World) : (Instr.typeAssert (.iface 180 v) xT 166 true).run Tryz.prog w = .ok (.tuple #[.nilIface, .bool false]) w := run_typeAssert_lacksB Tryz.underlying166 (by kernel_rfl) (by kernel_rfl) v xT w
set_option maxRecDepth 100000 in
theorem is_same (a : Addr) (w : World) :
    Calls Tryz.prog 47 #[.iface 180 (.pointer (some a)), .iface 180 (.pointer (some a))] w fun e w' => e = .returned (.bool true) ∧ w' = w := by
  obtain ⟨i, hi, hcmp⟩ := Option.map_eq_some_iff.1 isComp
  obtain ⟨j, hj, hjs⟩ := Option.map_eq_some_iff.1 isSize
  have h8 := @run_callFunc_extern Tryz.prog 94 _ Extern.ReflectliteType.typeOf Tryz.func94 (by kernel_rfl) (by kernel_rfl) (by kernel_rfl) (by kernel_rfl)
  have h32 := @run_callFunc_extern Tryz.prog 163 _ (Extern.ReflectliteType.method fun t => do Rtype.noPackHeld "Comparable" t; pure (.bool (← typeInfo t).comparable)) Tryz.func163 (by kernel_rfl) (by kernel_rfl) (by kernel_rfl) (by kernel_rfl)
  have tT := isTypeOf
  have cT := isComparable
  have mR := isMethodComparable
  have heq := run_eql_iface_ptr_same (P := Tryz.prog) w a Tryz.underlying65 Tryz.underlying180 hi hcmp hj
  go_enter Tryz.func47, Tryz.ntmps47
  go_wp2
  refine wp_loop_rounds 1 ?_
  rw [rounds_succ]
  go_wp2
  go_ret
  exact ⟨rfl, rfl⟩
set_option maxRecDepth 100000 in
theorem is_other (a b : Addr) (ca cb : Array Value) (ta tb : TypeId) (w : World) (hne : a ≠ b) (ha : w.heap[a.block]? = some (.cells ca ta (0, 0))) (hb : w.heap[b.block]? = some (.cells cb tb (0, 0))) :
    Calls Tryz.prog 47 #[.iface 180 (.pointer (some a)), .iface 180 (.pointer (some b))] w fun e w' => e = .returned (.bool false) ∧ w' = w := by
  obtain ⟨i, hi, hcmp⟩ := Option.map_eq_some_iff.1 isComp
  obtain ⟨j, hj, hjs⟩ := Option.map_eq_some_iff.1 isSize
  have h8 := @run_callFunc_extern Tryz.prog 94 _ Extern.ReflectliteType.typeOf Tryz.func94 (by kernel_rfl) (by kernel_rfl) (by kernel_rfl) (by kernel_rfl)
  have h32 := @run_callFunc_extern Tryz.prog 163 _ (Extern.ReflectliteType.method fun t => do Rtype.noPackHeld "Comparable" t; pure (.bool (← typeInfo t).comparable)) Tryz.func163 (by kernel_rfl) (by kernel_rfl) (by kernel_rfl) (by kernel_rfl)
  have tT := isTypeOf
  have cT := isComparable
  have mR := isMethodComparable
  have nE := noIsE
  have uE := noUnwrapE
  have vE := noUnwrapsE
  have heq := run_eql_iface_ptr_other (P := Tryz.prog) w Tryz.underlying65 Tryz.underlying180 hi hcmp hj (by rw [hjs]; decide) hne ha hb
  go_enter Tryz.func47, Tryz.ntmps47
  go_wp2
  refine wp_loop_rounds 1 ?_
  rw [rounds_succ]
  go_wp2
  go_ret
  exact ⟨rfl, rfl⟩
theorem is_ {G : List Nat} {A : Nat → Addr} (g k : Nat) (hg : g ∈ G) (hk : k ∈ G) (w : World) (h : KS G A w) :
    Calls Tryz.prog 47 #[.iface 180 (.pointer (some (A g))), .iface 180 (.pointer (some (A k)))] w fun e w' => e = .returned (.bool (decide (g = k))) ∧ w' = w := by
  by_cases e : g = k
  · subst e
    rw [decide_eq_true rfl]
    exact is_same _ w
  · rw [decide_eq_false e]
    obtain ⟨c1, t1, r1⟩ := h.row g hg
    obtain ⟨c2, t2, r2⟩ := h.row k hk
    exact is_other _ _ _ _ _ _ w (h.ne g hg k hk e) r1 r2
/-! ### an error that wraps one of them -/
theorem noIsR (v : Value) (xT : TypeId) (w : World) : (Instr.typeAssert (.iface 107 v) xT 161 true).run Tryz.prog w = .ok (.tuple #[.nilIface, .bool false]) w := run_typeAssert_lacksB Tryz.underlying161 (by kernel_rfl) (by kernel_rfl) v xT w
theorem hasUnwrapR (v : Value) (xT : TypeId) (w : World) : (Instr.typeAssert (.iface 107 v) xT 164 true).run Tryz.prog w = .ok (.tuple #[.iface 107 v, .bool true]) w := run_typeAssert_hasB Tryz.underlying164 (by kernel_rfl) v xT w
theorem methodUnwrap (v : Value) (w : World) : (Go.method 318 107 v "Unwrap").run Tryz.prog w = .ok (158, v) w := by kernel_rfl
set_option maxRecDepth 100000 in
theorem is_ref_same (tx : Int) (b : Addr) (w : World) :
    Calls Tryz.prog 47 #[.iface 107 (.agg #[.int .i64 tx, .iface 180 (.pointer (some b))]), .iface 180 (.pointer (some b))] w fun e w' => e = .returned (.bool true) ∧ Below w.heap.size w w' := by
  obtain ⟨i, hi, hcmp⟩ := Option.map_eq_some_iff.1 isComp
  obtain ⟨j, hj, hjs⟩ := Option.map_eq_some_iff.1 isSize
  have h8 := @run_callFunc_extern Tryz.prog 94 _ Extern.ReflectliteType.typeOf Tryz.func94 (by kernel_rfl) (by kernel_rfl) (by kernel_rfl) (by kernel_rfl)
  have h32 := @run_callFunc_extern Tryz.prog 163 _ (Extern.ReflectliteType.method fun t => do Rtype.noPackHeld "Comparable" t; pure (.bool (← typeInfo t).comparable)) Tryz.func163 (by kernel_rfl) (by kernel_rfl) (by kernel_rfl) (by kernel_rfl)
  have tT := isTypeOf
  have cT := isComparable
  have mR := isMethodComparable
  have nW := noIsR
  have uW := hasUnwrapR
  have mU := methodUnwrap
  have heq := fun w => run_eql_iface_ptr_same (P := Tryz.prog) w b Tryz.underlying65 Tryz.underlying180 hi hcmp hj
  have hty := fun w => run_eql_iface_types (P := Tryz.prog) 107 180 (.agg #[.int .i64 tx, .iface 180 (.pointer (some b))]) (.pointer (some b)) Tryz.underlying65 (by decide) w
  go_enter Tryz.func47, Tryz.ntmps47
  go_wp2
  refine wp_loop_rounds 2 ?_
  rw [rounds_succ]
  go_wp2
  rw [rounds_succ]
  go_wp2
  go_ret
  exact ⟨rfl, (Below.refl _ _).alloc (Nat.le_refl _) _⟩
end Go.Proofs.YteniflajiklffaaGreatDoor.sent
