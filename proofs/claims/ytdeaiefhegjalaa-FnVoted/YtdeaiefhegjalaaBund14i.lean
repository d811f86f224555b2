/- The draws of those who decide, as the laws call them. Codes that are too long. The draw of a vote. -/
import Derived.Test.YtdeaiefhegjalaaBund13w
import Derived.Test.YtdeaiefhegjalaaBund12ab
import Derived.Test.YtdeaiefhegjalaaBund13a
namespace Go.Proofs.Ytdeaiefhegjalaa.cos
open Go Go.RowKit Go.Proofs.Ytdeaiefhegjalaa.base Go.Proofs.Ytdeaiefhegjalaa.pairs Go.Proofs.Ytdeaiefhegjalaa.ords Go.Proofs.Ytdeaiefhegjalaa.lay Go.Proofs.Ytdeaiefhegjalaa.wds Go.Proofs.Ytdeaiefhegjalaa.draw
set_option linter.unusedVariables false
set_option linter.unusedSimpArgs false

/-- a drawn one who decides, and more -/
def GotC (P : Co → Prop) (w : World) (v : Value → Value) (e : Ending) (w' : World) : Prop :=
  ∃ (ja : Option Addr) (jn jc : Nat) (la : Option Addr) (ln lc : Nat) (c : Co) (F : List Nat), P c ∧ e = .returned (v (.agg #[.int .i64 c.1, .int .i64 c.2.1, .int .i64 c.2.2.1, .slice ja jn jc, .slice la ln lc, .int .i64 c.2.2.2.2.2])) ∧ coordR.own w' [.int .i64 c.1, .int .i64 c.2.1, .int .i64 c.2.2.1, .slice ja jn jc, .slice la ln lc, .int .i64 c.2.2.2.2.2] c F ∧ (∀ k ∈ F, w.heap.size ≤ k) ∧ Below w.heap.size w w'
end Go.Proofs.Ytdeaiefhegjalaa.cos

namespace Go.Proofs.Ytdeaiefhegjalaa.base
open Go.RowKit
set_option linter.unusedVariables false
theorem big_ (a0 : Option Addr) (len0 cap0 : Nat) (w : World) (h : len0 ≤ maxLen) :
    Calls Try.prog 4 #[.slice a0 len0 cap0] w fun e w' => e = .returned (.bool (decide (1048576 < (len0 : Int)))) ∧ w' = w := by
  unfold maxLen at h
  go_enter Try.func4, Try.ntmps4
  go_wp2
  go_ret
  exact ⟨rfl, rfl⟩
end Go.Proofs.Ytdeaiefhegjalaa.base

namespace Go.Proofs.Ytdeaiefhegjalaa.cos
open Go Go.RowKit Go.Proofs.Ytdeaiefhegjalaa.base Go.Proofs.Ytdeaiefhegjalaa.pairs Go.Proofs.Ytdeaiefhegjalaa.ords Go.Proofs.Ytdeaiefhegjalaa.lay Go.Proofs.Ytdeaiefhegjalaa.wds Go.Proofs.Ytdeaiefhegjalaa.draw
set_option linter.unusedVariables false
set_option linter.unusedSimpArgs false

set_option maxRecDepth 100000 in
set_option maxHeartbeats 4000000 in
theorem d_tx (w0 w : World) (gc : Nat) (a : Option Addr) (len cap : Nat) (code : List UInt8) (ja : Option Addr) (jn jc : Nat) (la : Option Addr) (ln lc : Nat) (c : Co) (h : Cur w0 w gc a len cap code) (hs : SeeCo w ja jn jc la ln lc c) (hj8 : jn ≤ 1048576) (hjg : ∀ b off, ja = some ⟨b, off, none⟩ → b ≠ gc) (hjw : ∀ j ∈ c.2.2.2.1, (Lit.int .i64 j.1).wf = true) :
    Calls Try.prog 15 #[.pointer (some ⟨gc, 0, none⟩), .agg #[.int .i64 c.1, .int .i64 c.2.1, .int .i64 c.2.2.1, .slice ja jn jc, .slice la ln lc, .int .i64 c.2.2.2.2.2]] w fun e w' => ∃ z : Int, (Lit.int .i64 z).wf = true ∧ e = .returned (.int .i64 z) ∧ Cur w0 w' gc a len cap code ∧ w.grownBy w' (some gc) := by
  obtain ⟨W, hW⟩ : ∃ W, w.alloc (.cells #[.int .i64 c.1, .int .i64 c.2.1, .int .i64 c.2.2.1, .slice ja jn jc, .slice la ln lc, .int .i64 c.2.2.2.2.2] 27) = W := ⟨_, rfl⟩
  have hB : Below w.heap.size w W := by rw [← hW]; exact below_make
  have hX : BoxIn w.heap.size 27 [] [.int .i64 c.1, .int .i64 c.2.1, .int .i64 c.2.2.1, .slice ja jn jc, .slice la ln lc, .int .i64 c.2.2.2.2.2] [] W := by rw [← hW]; exact boxIn_new w _ _
  have hg0 : w.grownBy W (some gc) := by rw [← hW]; exact ⟨rfl, rfl, rfl, by simp, fun k hk _ => heap_alloc_old w _ hk⟩
  have hcW := h.below hB
  have hgc := h.lt
  have hsW := hs.below hB
  have hWs := hX.lt
  have HW := Hid.mk' hW
  have hjl := hs.jobs.1
  have k3 := hX.cell 3 _ rfl
  simp only [List.length_nil, Nat.zero_add] at k3
  rw [← hW] at k3
  -- the list of numbers that no job has
  have HIN : Hid (∀ wx, Cur w0 wx gc a len cap code → w.grownBy wx (some gc) → Calls Try.prog 29 #[.pointer (some ⟨gc, 0, none⟩), .slice (some ⟨wx.heap.size, 0, none⟩) 6 6] (wx.alloc (.cells #[.int .i64 1000, .int .i64 1001, .int .i64 2000, .int .i64 999, .int .i64 0, .int .i64 3000] 3)) fun e w' => ∃ z : Int, (Lit.int .i64 z).wf = true ∧ e = .returned (.int .i64 z) ∧ Cur w0 w' gc a len cap code ∧ w.grownBy w' (some gc)) := fun wx hcx hgx => by
    have hgcx := hcx.lt
    have hbx : Below wx.heap.size wx (wx.alloc (.cells #[.int .i64 1000, .int .i64 1001, .int .i64 2000, .int .i64 999, .int .i64 0, .int .i64 3000] 3)) := below_make
    refine (int_ w0 _ gc a len cap code wx.heap.size 6 6 _ _ (hcx.below hbx) (heap_alloc_new wx _) rfl (by omega) (by omega) (by omega) (fun z => decide (0 ≤ z ∧ z ≤ 3000) = true) (some_atI _ 6 (fun z => decide (0 ≤ z ∧ z ≤ 3000)) (by kernel_rfl))).mono ?_
    rintro e w5 ⟨z, hz0, rfl, hc5, hg5⟩
    have hz : 0 ≤ z ∧ z ≤ 3000 := of_decide_eq_true hz0
    exact ⟨z, WalkArith.wf_i64 (by omega), rfl, hc5, grownBy_trans (grown_below hgx hbx) hg5⟩
  clear hW
  by_cases h0 : 0 < jn
  · have h0i : (0 : Int) < (jn : Int) := by omega
    obtain ⟨jb, joff, hja⟩ := slg_some hs.jobs h0
    have hjc := hjg jb joff hja
    subst hja
    go_enter Try.func15, Try.ntmps15
    go_wp2_with fail
    rw [HW.out]
    refine (d_once w0 W gc a len cap code 4 hcW (by omega) (by omega)).mono ?_
    rintro e w4 ⟨b4, rfl, hc4, hg4⟩
    have hX4 := hX.grown hg4 (fun e => by have := Option.some.inj e; omega)
    have hg04 := grownBy_trans hg0 hg4
    have hJ4 : ∀ i (hi : i < c.2.2.2.1.length), w4.cell? ⟨jb, joff + i * 4, none⟩ = some (.int .i64 c.2.2.2.1[i].1) := fun i hi => by
      have c0 := (job_at hsW.jobs i hi).1
      exact (World.cell?_of_block (a := ⟨jb, joff + i * 4, none⟩) (hg4.block jb (World.block_lt_of_cell? _ _ c0) (fun e => hjc (Option.some.inj e)))).trans c0
    clear k3 hX hg0 hg4 hcW hsW hs HW
    cases b4
    · have hdD : Below w4.heap.size w4 w4.drew := (Below.refl _ _).drew
      have hXD := hX4.below hdD
      have hcD := hc4.below hdD
      have HgD : Hid (w.grownBy w4.drew (some gc)) := ⟨hg04.os, hg04.tape, hg04.output, hg04.size, hg04.block⟩
      have hJD : ∀ i (hi : i < c.2.2.2.1.length), w4.drew.cell? ⟨jb, joff + i * 4, none⟩ = some (.int .i64 c.2.2.2.1[i].1) := hJ4
      have hjb : jb < w4.drew.heap.size := World.block_lt_of_cell? _ _ (hJ4 0 (by omega))
      clear hX4 hc4 hg04 hJ4 hdD HIN
      go_wp2_with fail
      refine last.wp_region_later (S := fun w' => BoxIn w.heap.size 27 [] [.int .i64 c.1, .int .i64 c.2.1, .int .i64 c.2.2.1, .slice (some ⟨jb, joff, none⟩) jn jc, .slice la ln lc, .int .i64 c.2.2.2.2.2] [] w' ∧ ∀ i (hi : i < c.2.2.2.1.length), w'.cell? ⟨jb, joff + i * 4, none⟩ = some (.int .i64 c.2.2.2.1[i].1)) 10 (by kernel_rfl) ⟨hXD, hJD⟩ (fun hHeld0 => ?_)
      generalize hDD : w4.drew = D at *
      clear hDD
      refine last.wpAnyL_take (i := 0) (v := (.pointer (some ⟨w.heap.size, 3, none⟩))) rfl rfl (by kernel_rfl) (by kernel_rfl) (by kernel_rfl) (by kernel_rfl) (fun _ _ _ h => h) (Or.inl ⟨by rfl, ?_⟩) (by assumption) ?_
      · intro wq hSq; go_simp
      try simp only [Act.put, List.setIfInBounds_toArray, List.set_cons_zero, List.set_cons_succ]
      refine last.wpAnyL_take (i := 1) (v := (.slice (some ⟨jb, joff, none⟩) jn jc)) rfl rfl (by kernel_rfl) (by kernel_rfl) (by kernel_rfl) (by kernel_rfl) (fun _ _ _ h => h) (Or.inl ⟨by rfl, ?_⟩) (by assumption) ?_
      · intro wq hSq; have q := hSq.1.cell 3 _ rfl; simp only [List.length_nil, Nat.zero_add] at q; go_simp
      try simp only [Act.put, List.setIfInBounds_toArray, List.set_cons_zero, List.set_cons_succ]
      refine last.wpAnyL_take (i := 2) (v := (.pointer (some ⟨gc, 0, none⟩))) rfl rfl (by kernel_rfl) (by kernel_rfl) (by kernel_rfl) (by kernel_rfl) (fun _ _ _ h => h) (Or.inl ⟨by rfl, ?_⟩) (by assumption) ?_
      · intro wq hSq; go_simp
      try simp only [Act.put, List.setIfInBounds_toArray, List.set_cons_zero, List.set_cons_succ]
      refine last.wpAnyL_take (i := 3) (v := (.pointer (some ⟨w.heap.size, 3, none⟩))) rfl rfl (by kernel_rfl) (by kernel_rfl) (by kernel_rfl) (by kernel_rfl) (fun _ _ _ h => h) (Or.inl ⟨by rfl, ?_⟩) (by assumption) ?_
      · intro wq hSq; go_simp
      try simp only [Act.put, List.setIfInBounds_toArray, List.set_cons_zero, List.set_cons_succ]
      refine last.wpAnyL_take (i := 4) (v := (.slice (some ⟨jb, joff, none⟩) jn jc)) rfl rfl (by kernel_rfl) (by kernel_rfl) (by kernel_rfl) (by kernel_rfl) (fun _ _ _ h => h) (Or.inl ⟨by rfl, ?_⟩) (by assumption) ?_
      · intro wq hSq; have q := hSq.1.cell 3 _ rfl; simp only [List.length_nil, Nat.zero_add] at q; go_simp
      try simp only [Act.put, List.setIfInBounds_toArray, List.set_cons_zero, List.set_cons_succ]
      refine last.wpAnyL_take (i := 5) (v := (.int .i64 (jn : Int))) rfl rfl (by kernel_rfl) (by kernel_rfl) (by kernel_rfl) (by kernel_rfl) (fun _ _ _ h => h) (Or.inl ⟨by rfl, ?_⟩) (by assumption) ?_
      · intro wq hSq; go_simp
      try simp only [Act.put, List.setIfInBounds_toArray, List.set_cons_zero, List.set_cons_succ]
      refine last.wpAnyL_one (i := 6) (o := { dst := some 20, op := Op.call { callee := Callee.value (Operand.func 14), args := #[Operand.tmp 16, Operand.tmp 19], argTypes := #[39, 3] }, type := 3, pos := "l11_coord.go:283", after := #[{ on := 2, ground := Ground.data }, { on := 5, ground := Ground.data }], guard := none }) (by kernel_rfl) rfl (fun K hK => ?_)
      refine stepg.call2 rfl 14 (.tmp 16) (.tmp 19) _ rfl (fun _ _ => rfl) (.pointer (some ⟨gc, 0, none⟩)) (.int .i64 (jn : Int)) (by kernel_rfl) (by kernel_rfl) _ (below_ w0 D gc a len cap code jn hcD (by omega) (by omega)) ?_
      rintro e w5 ⟨x, hx, rfl, hc5, hg5⟩
      refine ⟨_, rfl, ?_⟩
      have hX5 := hXD.grown hg5 (fun e => by have := Option.some.inj e; omega)
      have hJ5 : ∀ i (hi : i < c.2.2.2.1.length), w5.cell? ⟨jb, joff + i * 4, none⟩ = some (.int .i64 c.2.2.2.1[i].1) := fun i hi => (World.cell?_of_block (a := ⟨jb, joff + i * 4, none⟩) (hg5.block jb hjb (fun e => hjc (Option.some.inj e)))).trans (hJD i hi)
      have hxl : x < c.2.2.2.1.length := by omega
      have t0 := hJ5 x hxl
      have HXN : Hid (x < jn) := by show _ < _; omega
      have hxi : (x : Int) < (jn : Int) := hx
      refine hK.out _ _ ?_ (fun hHeld => ?_)
      · exact ⟨hX5, hJ5⟩
      clear hK K hHeld0
      have hHeld0 := hHeld
      clear hHeld
      try simp only [Act.put, List.setIfInBounds_toArray, List.set_cons_zero, List.set_cons_succ]
      refine last.wpAnyL_one (i := 7) (o := { dst := some 21, op := Op.indexAddr 24 (Operand.tmp 15) (Operand.tmp 20), type := 0, pos := "l11_coord.go:283", after := #[{ on := 1, ground := Ground.data }, { on := 6, ground := Ground.data }], guard := none }) (by kernel_rfl) rfl (fun K hK => ?_)
      go_simp
      refine hK.out _ _ ?_ (fun hHeld => ?_)
      · exact ⟨hX5, hJ5⟩
      clear hK K hHeld0
      have hHeld0 := hHeld
      clear hHeld
      try simp only [Act.put, List.setIfInBounds_toArray, List.set_cons_zero, List.set_cons_succ]
      refine last.wpAnyL_one (i := 8) (o := { dst := some 22, op := Op.fieldAddr 37 (Operand.tmp 21) 0, type := 0, pos := "l11_coord.go:283", after := #[{ on := 7, ground := Ground.data }], guard := none }) (by kernel_rfl) rfl (fun K hK => ?_)
      go_simp
      refine hK.out _ _ ?_ (fun hHeld => ?_)
      · exact ⟨hX5, hJ5⟩
      clear hK K hHeld0
      have hHeld0 := hHeld
      clear hHeld
      try simp only [Act.put, List.setIfInBounds_toArray, List.set_cons_zero, List.set_cons_succ]
      refine last.wpAnyL_one (i := 9) (o := { dst := some 23, op := Op.load 3 (Operand.tmp 22), type := 3, pos := "l11_coord.go:283", after := #[{ on := 8, ground := Ground.data }], guard := none }) (by kernel_rfl) rfl (fun K hK => ?_)
      go_simp
      refine hK.out _ _ ?_ (fun hHeld => ?_)
      · exact ⟨hX5, hJ5⟩
      clear hK K hHeld0
      have hHeld0 := hHeld
      clear hHeld
      try simp only [Act.put, List.setIfInBounds_toArray, List.set_cons_zero, List.set_cons_succ]
      refine last.wpAnyL_last (o := { dst := some 4, op := Op.assign (Operand.tmp 23), type := 3, pos := "l11_coord.go:283", after := #[{ on := 9, ground := Ground.data }, { on := 6, ground := Ground.chain }, { on := 0, ground := Ground.phase }, { on := 1, ground := Ground.phase }, { on := 2, ground := Ground.phase }, { on := 3, ground := Ground.phase }, { on := 4, ground := Ground.phase }, { on := 5, ground := Ground.phase }, { on := 6, ground := Ground.phase }, { on := 7, ground := Ground.phase }, { on := 8, ground := Ground.phase }, { on := 9, ground := Ground.phase }], guard := none }) (by kernel_rfl) rfl (by kernel_rfl) (fun K hK => ?_)
      go_simp
      refine hK.out _ _ ?_
      clear hK K
      have HW5 : Hid (w.grownBy w5 (some gc)) := grownBy_trans HgD.out hg5
      have HC5 := Hid.mk' hc5
      have HWF := Hid.mk' (hjw _ (List.getElem_mem hxl))
      clear hHeld0 hX5 hJ5 hXD hJD hg5 hc5 hcD hjw
      go_wp2_with fail
      go_ret
      exact ⟨_, HWF.out, rfl, HC5.out, HW5.out⟩
    · have HI4 := Hid.mk' (HIN.out w4 hc4 hg04)
      clear hX4 hc4 hg04 hJ4 HIN
      go_wp2_with fail
      refine HI4.out.mono ?_
      rintro e w5 ⟨z, hz, rfl, hc5, hg5⟩
      have HZ := Hid.mk' (And.intro hz (And.intro hc5 hg5))
      clear hz hc5 hg5
      go_wp2_with fail
      go_ret
      exact ⟨z, HZ.out.1, rfl, HZ.out.2.1, HZ.out.2.2⟩
  · have hn0 : jn = 0 := by omega
    subst hn0
    have HI4 := Hid.mk' (HIN.out W hcW hg0)
    have HSZ : Hid (W.heap.size = w.heap.size + 1) := by show _ = _; rw [← HW.out]; simp
    clear hX hg0 hcW hsW hs HIN
    go_enter Try.func15, Try.ntmps15
    go_wp2_with fail
    rw [HW.out]
    try rw [← HSZ.out]
    refine HI4.out.mono ?_
    rintro e w5 ⟨z, hz, rfl, hc5, hg5⟩
    have HZ := Hid.mk' (And.intro hz (And.intro hc5 hg5))
    clear hz hc5 hg5
    go_wp2_with fail
    go_ret
    exact ⟨z, HZ.out.1, rfl, HZ.out.2.1, HZ.out.2.2⟩
set_option maxRecDepth 100000 in
set_option maxHeartbeats 4000000 in
theorem drawVote (a : Option Addr) (len cap : Nat) (code : List UInt8) (w : World) (h : Sl w a len code) (hln : len ≤ 1099511627776) :
    Calls Try.prog 5 #[.slice a len cap] w (fun e w' => ∃ (x z : Int) (y : Bool), (Lit.int .i64 x).wf = true ∧ (Lit.int .i64 z).wf = true ∧ GotC (fun c => csz c ≤ 400000) w (fun v => .tuple #[v, .int .i64 x, .int .i64 z, .bool y]) e w') := by
  obtain ⟨W, hW⟩ : ∃ W, w.alloc (.cells #[.int .i64 0, .int .i64 0, .int .i64 0, .slice none 0 0, .slice none 0 0, .int .i64 0] 27) = W := ⟨_, rfl⟩
  have hB : Below w.heap.size w W := by rw [← hW]; exact below_make
  have hR : BoxIn w.heap.size TCo [] [.int .i64 0, .int .i64 0, .int .i64 0, .slice none 0 0, .slice none 0 0, .int .i64 0] [] W := by rw [← hW]; exact boxIn_new w _ _
  have hXl := hR.lt
  have HW := Hid.mk' hW
  clear hW
  go_enter Try.func5, Try.ntmps5
  go_wp2_with fail
  rw [HW.out]
  refine (new_ w W a len cap code h hB hln).mono ?_
  rintro e w1 ⟨rfl, hc1, hb1⟩
  have hR1 := hR.below hb1
  have hB1 := hB.trans (hb1.mono hB.size)
  have hgc := hc1.lt
  clear HW
  go_wp2_with fail
  refine (sizeC a len cap 16 w1 (by omega) (by omega) hln).mono ?_
  rintro e w2 ⟨n, hn3, hn24, rfl, hw2⟩
  subst hw2
  have HDS := Hid.mk' (d_anyC w w2 W.heap.size a len cap code n hc1 (by omega) (by omega))
  go_wp2_with fail
  refine HDS.out.mono ?_
  rintro e w3 ⟨ja, jn, jc, la, ln, lc, c, F, hD, rfl, hOS, hFn, hc3, hg3⟩
  clear HDS
  have hR3 := hR1.grown hg3 (fun e => by have := Option.some.inj e; omega)
  have hB3 : Below w.heap.size w w3 := hB1.grown hg3 hB1.size (fun k e => by cases e; exact hB.size)
  have hs2 := hB1.size
  have hs1 := hb1.size
  have hs0 := hB.size
  have hs3 := hg3.size
  have hFl3 := coordR.ownLt hOS
  have HJG : Hid (∀ b off, ja = some ⟨b, off, none⟩ → b ≠ W.heap.size) := fun b off e => by
    obtain ⟨vx, vy, F1, F2, e1, hwf, hj, hl, hFe, hnd⟩ := coord_own.1 hOS
    simp only [List.cons.injEq, and_true, true_and] at e1
    obtain ⟨rfl, rfl⟩ := e1
    obtain ⟨vj, qj, e2, hF1, hJ⟩ := hj
    simp only [List.cons.injEq, and_true] at e2
    subst e2
    subst e
    have hb : b ∈ F := by rw [hFe, hF1]; exact List.mem_append.2 (.inl (List.mem_append.2 (.inl (by simp [Value.ownBlock]))))
    have := hFn b hb
    omega
  have hjl := (see_co (coordR.ownSee hOS)).jobs.1
  have HJW : Hid (∀ j ∈ c.2.2.2.1, (Lit.int .i64 j.1).wf = true) := fun j hj => by
    obtain ⟨vs, hv⟩ := (see_co (coordR.ownSee hOS)).jobs.2.2.1 j hj
    obtain ⟨_, _, _, _, _, _, _, k1, _⟩ := job_see.1 hv
    exact k1
  have hj8 : jn ≤ 400000 := by unfold csz at hD; omega
  obtain ⟨u3, hu3⟩ : ∃ u3, w3.alloc (.cells #[.int .i64 c.1, .int .i64 c.2.1, .int .i64 c.2.2.1, .slice ja jn jc, .slice la ln lc, .int .i64 c.2.2.2.2.2] 27) = u3 := ⟨_, rfl⟩
  have hbu : Below w3.heap.size w3 u3 := by rw [← hu3]; exact below_make
  have hXu : BoxIn w3.heap.size 27 [] [.int .i64 c.1, .int .i64 c.2.1, .int .i64 c.2.2.1, .slice ja jn jc, .slice la ln lc, .int .i64 c.2.2.2.2.2] [] u3 := by rw [← hu3]; exact boxIn_new w3 _ _
  have hdu : Below u3.heap.size u3 u3.drew := (Below.refl _ _).drew
  have hb3u := hbu.trans (hdu.mono hbu.size)
  have hXD := hXu.below hdu
  have hRD := hR3.below hb3u
  have hBD := hB3.trans (hb3u.mono hB3.size)
  have hOD := coordR.ownBelow hOS hb3u
  have hcD := hc3.below hb3u
  have hXlt := hXD.lt
  have HU3 := Hid.mk' hu3
  clear hu3 hbu hXu hdu hb3u hR3 hB3 hOS hc3 hR1 hR hc1 hB1 hb1 hg3
  go_wp2_with fail
  rw [HU3.out]
  refine last.wp_region_later (S := fun w' => BoxIn w3.heap.size 27 [] [.int .i64 c.1, .int .i64 c.2.1, .int .i64 c.2.2.1, .slice ja jn jc, .slice la ln lc, .int .i64 c.2.2.2.2.2] [] w') 11 (by kernel_rfl) hXD (fun hHeld0 => ?_)
  generalize hDD : u3.drew = D at *
  clear hDD HU3
  refine last.wpAnyL_take (i := 0) (v := (.agg #[.int .i64 c.1, .int .i64 c.2.1, .int .i64 c.2.2.1, .slice ja jn jc, .slice la ln lc, .int .i64 c.2.2.2.2.2])) rfl rfl (by kernel_rfl) (by kernel_rfl) (by kernel_rfl) (by kernel_rfl) (fun _ _ _ h => h) (Or.inl ⟨by rfl, ?_⟩) (by assumption) ?_
  · intro wq hSq; obtain ⟨q0, q1, q2, q3, q4, q5⟩ := cells6 hSq; go_simp
  try simp only [Act.put, List.setIfInBounds_toArray, List.set_cons_zero, List.set_cons_succ]
  refine last.wpAnyL_take (i := 1) (v := (.pointer (some ⟨W.heap.size, 0, none⟩))) rfl rfl (by kernel_rfl) (by kernel_rfl) (by kernel_rfl) (by kernel_rfl) (fun _ _ _ h => h) (Or.inl ⟨by rfl, ?_⟩) (by assumption) ?_
  · intro wq hSq; go_simp
  try simp only [Act.put, List.setIfInBounds_toArray, List.set_cons_zero, List.set_cons_succ]
  refine last.wpAnyL_take (i := 3) (v := (.pointer (some ⟨W.heap.size, 0, none⟩))) rfl rfl (by kernel_rfl) (by kernel_rfl) (by kernel_rfl) (by kernel_rfl) (fun _ _ _ h => h) (Or.inl ⟨by rfl, ?_⟩) (by assumption) ?_
  · intro wq hSq; go_simp
  try simp only [Act.put, List.setIfInBounds_toArray, List.set_cons_zero, List.set_cons_succ]
  refine last.wpAnyL_take (i := 4) (v := (.agg #[.int .i64 c.1, .int .i64 c.2.1, .int .i64 c.2.2.1, .slice ja jn jc, .slice la ln lc, .int .i64 c.2.2.2.2.2])) rfl rfl (by kernel_rfl) (by kernel_rfl) (by kernel_rfl) (by kernel_rfl) (fun _ _ _ h => h) (Or.inl ⟨by rfl, ?_⟩) (by assumption) ?_
  · intro wq hSq; obtain ⟨q0, q1, q2, q3, q4, q5⟩ := cells6 hSq; go_simp
  try simp only [Act.put, List.setIfInBounds_toArray, List.set_cons_zero, List.set_cons_succ]
  refine last.wpAnyL_take (i := 6) (v := (.pointer (some ⟨W.heap.size, 0, none⟩))) rfl rfl (by kernel_rfl) (by kernel_rfl) (by kernel_rfl) (by kernel_rfl) (fun _ _ _ h => h) (Or.inl ⟨by rfl, ?_⟩) (by assumption) ?_
  · intro wq hSq; go_simp
  try simp only [Act.put, List.setIfInBounds_toArray, List.set_cons_zero, List.set_cons_succ]
  refine last.wpAnyL_one (i := 2) (o := { dst := some 16, op := Op.call { callee := Callee.value (Operand.func 14), args := #[Operand.tmp 15, Operand.const (Value.int IntKind.i64 4)], argTypes := #[39, 3] }, type := 3, pos := "l11_coord.go:291", after := #[{ on := 1, ground := Ground.data }], guard := none }) (by kernel_rfl) rfl (fun K hK => ?_)
  refine stepg.call2 rfl 14 (.tmp 15) (.const (Value.int IntKind.i64 4)) _ rfl (fun _ _ => rfl) (.pointer (some ⟨W.heap.size, 0, none⟩)) (.int .i64 4) (by kernel_rfl) (by kernel_rfl) _ (below_ w D W.heap.size a len cap code 4 hcD (by omega) (by omega)) ?_
  rintro e w5 ⟨x, hx, rfl, hc5, hg5⟩
  refine ⟨_, rfl, ?_⟩
  have hX5 := hXD.grown hg5 (fun e => by have := Option.some.inj e; omega)
  have hR5 := hRD.grown hg5 (fun e => by have := Option.some.inj e; omega)
  have hB5 : Below w.heap.size w w5 := hBD.grown hg5 hBD.size (fun k e => by cases e; exact hs0)
  have hO5 := coordR.ownGrown hOD hg5 (fun j hj e => by have := hFn j hj; have := Option.some.inj e; omega)
  refine hK.out _ _ ?_ (fun hHeld => ?_)
  · exact hX5
  clear hK K hHeld0
  have hHeld0 := hHeld
  clear hHeld
  try simp only [Act.put, List.setIfInBounds_toArray, List.set_cons_zero, List.set_cons_succ]
  refine last.wpAnyL_one (i := 5) (o := { dst := some 19, op := Op.call { callee := Callee.value (Operand.func 15), args := #[Operand.tmp 17, Operand.tmp 18], argTypes := #[39, 27] }, type := 3, pos := "l11_coord.go:291", after := #[{ on := 3, ground := Ground.data }, { on := 4, ground := Ground.data }, { on := 2, ground := Ground.chain }], guard := none }) (by kernel_rfl) rfl (fun K hK => ?_)
  refine stepg.call2 rfl 15 (.tmp 17) (.tmp 18) _ rfl (fun _ _ => rfl) (.pointer (some ⟨W.heap.size, 0, none⟩)) (.agg #[.int .i64 c.1, .int .i64 c.2.1, .int .i64 c.2.2.1, .slice ja jn jc, .slice la ln lc, .int .i64 c.2.2.2.2.2]) (by kernel_rfl) (by kernel_rfl) _ (d_tx w w5 W.heap.size a len cap code ja jn jc la ln lc c hc5 (see_co (coordR.ownSee hO5)) (by omega) (HJG.out) (HJW.out)) ?_
  rintro e w6 ⟨z, hzw, rfl, hc6, hg6⟩
  refine ⟨_, rfl, ?_⟩
  have hX6 := hX5.grown hg6 (fun e => by have := Option.some.inj e; omega)
  have hR6 := hR5.grown hg6 (fun e => by have := Option.some.inj e; omega)
  have hB6 : Below w.heap.size w w6 := hB5.grown hg6 hB5.size (fun k e => by cases e; exact hs0)
  have hO6 := coordR.ownGrown hO5 hg6 (fun j hj e => by have := hFn j hj; have := Option.some.inj e; omega)
  refine hK.out _ _ ?_ (fun hHeld => ?_)
  · exact hX6
  clear hK K hHeld0
  have hHeld0 := hHeld
  clear hHeld
  try simp only [Act.put, List.setIfInBounds_toArray, List.set_cons_zero, List.set_cons_succ]
  refine last.wpAnyL_one (i := 7) (o := { dst := some 21, op := Op.call { callee := Callee.value (Operand.func 16), args := #[Operand.tmp 20, Operand.const (Value.int IntKind.i64 2)], argTypes := #[39, 3] }, type := 4, pos := "l11_coord.go:291", after := #[{ on := 6, ground := Ground.data }, { on := 5, ground := Ground.chain }], guard := none }) (by kernel_rfl) rfl (fun K hK => ?_)
  refine stepg.call2 rfl 16 (.tmp 20) (.const (Value.int IntKind.i64 2)) _ rfl (fun _ _ => rfl) (.pointer (some ⟨W.heap.size, 0, none⟩)) (.int .i64 2) (by kernel_rfl) (by kernel_rfl) _ (d_once w w6 W.heap.size a len cap code 2 hc6 (by omega) (by omega)) ?_
  rintro e w7 ⟨y, rfl, hc7, hg7⟩
  refine ⟨_, rfl, ?_⟩
  have hX7 := hX6.grown hg7 (fun e => by have := Option.some.inj e; omega)
  have hR7 := hR6.grown hg7 (fun e => by have := Option.some.inj e; omega)
  have hB7 : Below w.heap.size w w7 := hB6.grown hg7 hB6.size (fun k e => by cases e; exact hs0)
  have hO7 := coordR.ownGrown hO6 hg7 (fun j hj e => by have := hFn j hj; have := Option.some.inj e; omega)
  refine hK.out _ _ ?_ (fun hHeld => ?_)
  · exact hX7
  clear hK K hHeld0
  have hHeld0 := hHeld
  clear hHeld
  try simp only [Act.put, List.setIfInBounds_toArray, List.set_cons_zero, List.set_cons_succ]
  obtain ⟨z0, z1, z2, z3, z4, z5⟩ := cells6 hR7
  have f0 := hR7.fz 0
  have f1 := hR7.fz 1
  have f2 := hR7.fz 2
  have f3 := hR7.fz 3
  have f4 := hR7.fz 4
  have f5 := hR7.fz 5
  have hS := hR7.whole [.int .i64 c.1, .int .i64 c.2.1, .int .i64 c.2.2.1, .slice ja jn jc, .slice la ln lc, .int .i64 c.2.2.2.2.2] rfl
  obtain ⟨y0, y1, y2, y3, y4, y5⟩ := cells6 hS.1
  have hXz := hX7.grown hS.2 (fun e => by have := Option.some.inj e; omega)
  have hOz := coordR.ownGrown hO7 hS.2 (fun j hj e => by have := hFn j hj; have := Option.some.inj e; omega)
  have hBz := hB7.grown hS.2 hB7.size (fun j e => by cases e; exact Nat.le_refl _)
  have hxw : (Lit.int .i64 (x : Int)).wf = true := WalkArith.wf_i64 (by omega)
  have HP : Hid (∃ (x' z' : Int) (y' : Bool), (Lit.int .i64 x').wf = true ∧ (Lit.int .i64 z').wf = true ∧ GotC (fun c => csz c ≤ 400000) w (fun v => .tuple #[v, .int .i64 x', .int .i64 z', .bool y']) (.returned (.tuple #[.agg #[.int .i64 c.1, .int .i64 c.2.1, .int .i64 c.2.2.1, .slice ja jn jc, .slice la ln lc, .int .i64 c.2.2.2.2.2], .int .i64 (x : Int), .int .i64 z, .bool y])) (putAll w7 w.heap.size 0 [.int .i64 c.1, .int .i64 c.2.1, .int .i64 c.2.2.1, .slice ja jn jc, .slice la ln lc, .int .i64 c.2.2.2.2.2])) := ⟨x, z, y, hxw, hzw, ja, jn, jc, la, ln, lc, c, F, hD, rfl, hOz, fun k hk => Nat.le_trans hs2 (hFn k hk), hBz⟩
  simp only [putAll, Nat.zero_add, Nat.reduceAdd] at HP y0 y1 y2 y3 y4 y5 hXz
  have HY := Hid.mk' (And.intro y0 (And.intro y1 (And.intro y2 (And.intro y3 (And.intro y4 y5)))))
  clear hOz hS y0 y1 y2 y3 y4 y5 hBz
  refine last.wpAnyL_one (i := 8) (o := { dst := none, op := Op.store 27 (Operand.tmp 2) (Operand.tmp 14), type := 0, pos := "l11_coord.go:291", after := #[{ on := 0, ground := Ground.data }, { on := 7, ground := Ground.chain }, { on := 0, ground := Ground.phase }, { on := 1, ground := Ground.textOnly Departure.lateStores }, { on := 2, ground := Ground.textOnly Departure.lateStoresUnsure }, { on := 3, ground := Ground.textOnly Departure.lateStores }, { on := 4, ground := Ground.textOnly Departure.lateStores }, { on := 5, ground := Ground.textOnly Departure.lateStoresUnsure }, { on := 6, ground := Ground.textOnly Departure.lateStores }, { on := 7, ground := Ground.textOnly Departure.lateStoresUnsure }], guard := none }) (by kernel_rfl) rfl (fun K hK => ?_)
  go_simp
  refine hK.out _ _ ?_ (fun hHeld => ?_)
  · exact hXz
  clear hK K hHeld0
  have hHeld0 := hHeld
  clear hHeld
  try simp only [Act.put, List.setIfInBounds_toArray, List.set_cons_zero, List.set_cons_succ]
  refine last.wpAnyL_one (i := 9) (o := { dst := some 3, op := Op.assign (Operand.tmp 16), type := 3, pos := "l11_coord.go:291", after := #[{ on := 2, ground := Ground.data }, { on := 8, ground := Ground.chain }, { on := 0, ground := Ground.phase }, { on := 1, ground := Ground.phase }, { on := 2, ground := Ground.phase }, { on := 3, ground := Ground.textOnly Departure.lateStores }, { on := 4, ground := Ground.textOnly Departure.lateStores }, { on := 5, ground := Ground.textOnly Departure.lateStoresUnsure }, { on := 6, ground := Ground.textOnly Departure.lateStores }, { on := 7, ground := Ground.textOnly Departure.lateStoresUnsure }, { on := 8, ground := Ground.phase }], guard := none }) (by kernel_rfl) rfl (fun K hK => ?_)
  go_simp
  refine hK.out _ _ ?_ (fun hHeld => ?_)
  · exact hXz
  clear hK K hHeld0
  have hHeld0 := hHeld
  clear hHeld
  try simp only [Act.put, List.setIfInBounds_toArray, List.set_cons_zero, List.set_cons_succ]
  refine last.wpAnyL_one (i := 10) (o := { dst := some 4, op := Op.assign (Operand.tmp 19), type := 3, pos := "l11_coord.go:291", after := #[{ on := 5, ground := Ground.data }, { on := 9, ground := Ground.chain }, { on := 0, ground := Ground.phase }, { on := 1, ground := Ground.phase }, { on := 2, ground := Ground.phase }, { on := 3, ground := Ground.phase }, { on := 4, ground := Ground.phase }, { on := 5, ground := Ground.phase }, { on := 6, ground := Ground.textOnly Departure.lateStores }, { on := 7, ground := Ground.textOnly Departure.lateStoresUnsure }, { on := 8, ground := Ground.phase }, { on := 9, ground := Ground.phase }], guard := none }) (by kernel_rfl) rfl (fun K hK => ?_)
  go_simp
  refine hK.out _ _ ?_ (fun hHeld => ?_)
  · exact hXz
  clear hK K hHeld0
  have hHeld0 := hHeld
  clear hHeld
  try simp only [Act.put, List.setIfInBounds_toArray, List.set_cons_zero, List.set_cons_succ]
  refine last.wpAnyL_last (o := { dst := some 5, op := Op.assign (Operand.tmp 21), type := 4, pos := "l11_coord.go:291", after := #[{ on := 7, ground := Ground.data }, { on := 10, ground := Ground.chain }, { on := 0, ground := Ground.phase }, { on := 1, ground := Ground.phase }, { on := 2, ground := Ground.phase }, { on := 3, ground := Ground.phase }, { on := 4, ground := Ground.phase }, { on := 5, ground := Ground.phase }, { on := 6, ground := Ground.phase }, { on := 7, ground := Ground.phase }, { on := 8, ground := Ground.phase }, { on := 9, ground := Ground.phase }, { on := 10, ground := Ground.phase }], guard := none }) (by kernel_rfl) rfl (by kernel_rfl) (fun K hK => ?_)
  go_simp
  refine hK.out _ _ ?_
  clear hK K
  clear hHeld0 hXz hX7 hR7 hO7 hB7 hX6 hR6 hO6 hB6 hX5 hR5 hO5 hB5
  go_wp2_with fail
  obtain ⟨y0, y1, y2, y3, y4, y5⟩ := HY.out
  refine bodyPost_ret (v := .tuple #[.agg #[.int .i64 c.1, .int .i64 c.2.1, .int .i64 c.2.2.1, .slice ja jn jc, .slice la ln lc, .int .i64 c.2.2.2.2.2], .int .i64 (x : Int), .int .i64 z, .bool y]) ?_ rfl HP.out
  simp [results, Try.results5, go_sem, y0, y1, y2, y3, y4, y5]
end Go.Proofs.Ytdeaiefhegjalaa.cos
