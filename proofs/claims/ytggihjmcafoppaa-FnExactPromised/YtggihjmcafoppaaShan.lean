/- The laws' own functions on shards: copies and marks. -/
import Derived.Test.YtggihjmcafoppaaShak
namespace Go.Proofs.Ytggihjmcafoppaa.recs
open Go Go.RowKit Go.Proofs.Ytggihjmcafoppaa.base Go.Proofs.Ytggihjmcafoppaa.pairs Go.Proofs.Ytggihjmcafoppaa.ords Go.Proofs.Ytggihjmcafoppaa.helps Go.Proofs.Ytggihjmcafoppaa.help Go.Proofs.Ytggihjmcafoppaa.lay
set_option linter.unusedVariables false
set_option linter.unusedSimpArgs false

set_option maxRecDepth 100000 in
set_option maxHeartbeats 4000000 in
theorem toShard (la : Option Addr) (ln lc : Nat) (ma : Option Addr) (mn mc : Nat) (ha : Option Addr) (hn hc : Nat) (s : Shd) (w : World) (h : SeeSh w la ln lc ma mn mc ha hn hc s) (hf : Few s.2.1) (hf2 : Few s.2.2.2.2) (hl1 : ln ≤ 1099511627776) (hl2 : mn ≤ 1099511627776) (hl3 : hn ≤ 1099511627776) :
    Calls Try.prog 80 #[aggSh s.1 s.2.2.1 la ln lc ma mn mc ha hn hc] w fun e w' => ∃ gl gm gh F, e = .returned (aggSh s.1 s.2.2.1 (some ⟨gl, 0, none⟩) ln ln (some ⟨gm, 0, none⟩) mn mn (some ⟨gh, 0, none⟩) hn hn) ∧
      OwnSh w' (some ⟨gl, 0, none⟩) ln ln (some ⟨gm, 0, none⟩) mn mn (some ⟨gh, 0, none⟩) hn hn s F ∧ (∀ k ∈ F, w.heap.size ≤ k) ∧ Below w.heap.size w w' := by
  obtain ⟨W1, hW1⟩ : ∃ W1, w.alloc (.cells #[.int .i64 s.1, .slice la ln lc, .int .i64 s.2.2.1, .slice ma mn mc, .slice ha hn hc] 107) = W1 := ⟨_, rfl⟩
  have hb1 : Below w.heap.size w W1 := by rw [← hW1]; exact (Below.refl _ _).alloc (Nat.le_refl _) _
  have hA1 : BoxIn w.heap.size 107 [] (shVals s.1 s.2.2.1 la ln lc ma mn mc ha hn hc) [] W1 := by rw [← hW1]; exact boxIn_new w _ _
  have hs1 : W1.heap.size = w.heap.size + 1 := by rw [← hW1]; simp
  obtain ⟨W2, hW2⟩ : ∃ W2, W1.alloc (boxSh 0 0 none 0 0 none 0 0 none 0 0) = W2 := ⟨_, rfl⟩
  have hb2 : Below W1.heap.size W1 W2 := by rw [← hW2]; exact (Below.refl _ _).alloc (Nat.le_refl _) _
  have hR2 : BoxIn (w.heap.size + 1) 53 [] (shVals 0 0 none 0 0 none 0 0 none 0 0) [] W2 := by rw [← hW2, ← hs1]; exact boxIn_new W1 _ _
  have hs2 : W2.heap.size = w.heap.size + 1 + 1 := by rw [← hW2]; simp [hs1]
  obtain ⟨W, hW⟩ : ∃ W, W2.alloc (boxSh s.1 0 none 0 0 none 0 0 none 0 0) = W := ⟨_, rfl⟩
  have hb3 : Below W2.heap.size W2 W := by rw [← hW]; exact (Below.refl _ _).alloc (Nat.le_refl _) _
  have hO3 : BoxIn (w.heap.size + 1 + 1) 53 [] (shVals s.1 0 none 0 0 none 0 0 none 0 0) [] W := by rw [← hW, ← hs2]; exact boxIn_new W2 _ _
  have hA3 := (hA1.below hb2).below hb3
  have hR3 := hR2.below hb3
  have hB := (hb1.trans (hb2.mono hb1.size)).trans (hb3.mono (Nat.le_trans hb1.size hb2.size))
  have HWW : Hid (((w.alloc (.cells #[.int .i64 s.1, .slice la ln lc, .int .i64 s.2.2.1, .slice ma mn mc, .slice ha hn hc] 107)).alloc (boxSh 0 0 none 0 0 none 0 0 none 0 0)).alloc (boxSh s.1 0 none 0 0 none 0 0 none 0 0) = W) := by show _ = _; rw [hW1, hW2, hW]
  have H1 := Hid.mk' (toRecS la ln lc s.2.1 W (h.log.below hB) hl1 (fun r hr => (hf r hr).1))
  have H2 := Hid.mk' (fun wx (hx : Below w.heap.size w wx) => toPairS ma mn mc s.2.2.2.1 wx (h.map.below hx) hl2)
  have H3 := Hid.mk' (fun wx (hx : Below w.heap.size w wx) => toRecS ha hn hc s.2.2.2.2 wx (h.held.below hx) hl3 (fun r hr => (hf2 r hr).1))
  have hid := h.id
  have hsu := h.sure
  have c1 := hA3.cell 1 _ rfl
  simp only [List.length_nil, Nat.zero_add] at c1
  rw [← HWW.out] at c1
  have hOl := hO3.lt
  clear hW1 hW2 hW hb1 hb2 hb3 hA1 hR2 hs1 hs2 h hf hf2
  go_enter Try.func80, Try.ntmps80
  go_wp2_with fail
  rw [HWW.out]
  refine H1.out.mono ?_
  rintro e w1 ⟨gl, hl, rfl, hOl1, hb1⟩
  have hB1 := hB.trans (hb1.mono hB.size)
  have hO1 := hO3.below hb1
  have hA1 := hA3.below hb1
  have hR1 := hR3.below hb1
  have n1 := hO1.set 1 (by simp [shVals]) (.slice (some ⟨gl, 0, none⟩) ln ln)
  have n2 := n1.1.set 2 (by simp [shVals]) (.int .i64 s.2.2.1)
  simp only [List.length_nil, Nat.zero_add] at n1 n2
  have g12 := grownBy_trans n1.2 n2.2
  have u1 := hO1.cell 1 _ rfl
  have v1 := hO1.fz 1
  have u2 := n1.1.cell 2 _ rfl
  have v2 := n1.1.fz 2
  have t2 := (hA1.grown n1.2 (by simp; omega)).cell 2 _ rfl
  have t3 := (hA1.grown g12 (by simp; omega)).cell 3 _ rfl
  simp only [List.length_nil, Nat.zero_add] at u1 u2 t2 t3
  have hB2 := hB1.grown g12 hB1.size (fun k e => by cases e; omega)
  have hR2 := hR1.grown g12 (by simp)
  have hA2 := hA1.grown g12 (by simp; omega)
  have hOl2 := hOl1.grown g12 (fun e => by have := (hOl1.lt _ e).1; omega)
  have H2' := Hid.mk' (H2.out _ hB2)
  have hO2 : BoxIn (w.heap.size + 1 + 1) 53 [] (shVals s.1 s.2.2.1 (some ⟨gl, 0, none⟩) ln ln none 0 0 none 0 0) [] _ := n2.1
  clear c1 H1 H2
  go_wp2_with fail
  refine H2'.out.mono ?_
  generalize (w1.setCell ⟨w.heap.size + 1 + 1, 1, none⟩ (.slice (some ⟨gl, 0, none⟩) ln ln)).setCell ⟨w.heap.size + 1 + 1, 2, none⟩ (.int .i64 s.2.2.1) = w2 at *
  rintro e w3 ⟨gm, rfl, hOm3, hb3⟩
  clear u1 v1 u2 v2 t2 t3 H2' n1 n2 g12 hOl1 hO1 hA1 hR1 hB1
  have hB3 := hB2.trans (hb3.mono hB2.size)
  have hO3' := hO2.below hb3
  have hA3' := hA2.below hb3
  have hR3' := hR2.below hb3
  have hOl3 := hOl2.below hb3
  have n3 := hO3'.set 3 (by simp [shVals]) (.slice (some ⟨gm, 0, none⟩) mn mn)
  simp only [List.length_nil, Nat.zero_add] at n3
  have u3 := hO3'.cell 3 _ rfl
  have v3 := hO3'.fz 3
  have t4 := (hA3'.grown n3.2 (by simp; omega)).cell 4 _ rfl
  simp only [List.length_nil, Nat.zero_add] at u3 t4
  have hB4 := hB3.grown n3.2 hB3.size (fun k e => by cases e; omega)
  have hs2 := hB2.size
  have hWw2 : W.heap.size ≤ w2.heap.size := by have := hOl2.lt gl (.inl rfl); omega
  have hR4 := hR3'.grown n3.2 (by simp)
  have hOl4 := hOl3.grown n3.2 (fun e => by have := (hOl2.lt _ e).1; omega)
  have hOm4 := hOm3.grown n3.2 (fun e => by have := hOm3.lt.1; have := hO2.lt; have := Option.some.inj e; omega)
  have hO4 : BoxIn (w.heap.size + 1 + 1) 53 [] (shVals s.1 s.2.2.1 (some ⟨gl, 0, none⟩) ln ln (some ⟨gm, 0, none⟩) mn mn none 0 0) [] _ := n3.1
  have H3' := Hid.mk' (H3.out _ hB4)
  clear H3
  go_wp2_with fail
  refine H3'.out.mono ?_
  generalize w3.setCell ⟨w.heap.size + 1 + 1, 3, none⟩ (.slice (some ⟨gm, 0, none⟩) mn mn) = w4 at *
  rintro e w5 ⟨gh, hh, rfl, hOh5, hb5⟩
  clear u3 v3 t4 H3' n3 hO3' hA3' hR3' hOl3 hO2 hA2 hR2
  have hB5 := hB4.trans (hb5.mono hB4.size)
  have hO5 := hO4.below hb5
  have hR5 := hR4.below hb5
  have hOl5 := (hOl4.below hb5).mono (base' := w.heap.size) hB.size
  have hOm5 := (hOm4.below hb5).mono (base' := w.heap.size) hB2.size
  have n4 := hO5.set 4 (by simp [shVals]) (.slice (some ⟨gh, 0, none⟩) hn hn)
  simp only [List.length_nil, Nat.zero_add] at n4
  have u4 := hO5.cell 4 _ rfl
  have v4 := hO5.fz 4
  simp only [List.length_nil, Nat.zero_add] at u4
  have hB6 := hB5.grown n4.2 hB5.size (fun k e => by cases e; omega)
  have hR6 := hR5.grown n4.2 (by simp)
  have hlo : ∀ k, BlkR (.slice (some ⟨gl, 0, none⟩) ln ln) hl k → k < w4.heap.size := fun k hk => (hOl4.lt k hk).2
  have hhi : ∀ k, BlkR (.slice (some ⟨gh, 0, none⟩) hn hn) hh k → w4.heap.size ≤ k := fun k hk => (hOh5.lt k hk).1
  have hO4l := hO4.lt
  have hR4l := hR4.lt
  have hlW : ∀ k, BlkR (.slice (some ⟨gl, 0, none⟩) ln ln) hl k → W.heap.size ≤ k := fun k hk => (hOl4.lt k hk).1
  have hgmW : w2.heap.size ≤ gm := hOm4.lt.1
  have hW4 : W.heap.size ≤ w4.heap.size := Nat.le_trans (hOl4.lt gl (.inl rfl)).1 (Nat.le_of_lt (hOl4.lt gl (.inl rfl)).2)
  obtain ⟨F, hOS, hFW⟩ := ownSh_of (s := s) (B := W.heap.size) hid hsu (hOl4.below hb5) ((hOm4.below hb5).mono hWw2) (hOh5.mono hW4) hlo hhi
  have hFn : ∀ k ∈ F, w.heap.size ≤ k := fun k hk => Nat.le_trans hB.size (hFW k hk)
  have hXo : ∀ k ∈ F, k ≠ w.heap.size + 1 + 1 ∧ k ≠ w.heap.size + 1 := fun k hk => by have := hFW k hk; omega
  have hOS6 := hOS.keep (fun j hj => n4.2.block j (hOS.lt j hj) (fun e => (hXo j hj).1 (Option.some.inj e)))
  have hO6 : BoxIn (w.heap.size + 1 + 1) 53 [] (shVals s.1 s.2.2.1 (some ⟨gl, 0, none⟩) ln ln (some ⟨gm, 0, none⟩) mn mn (some ⟨gh, 0, none⟩) hn hn) [] _ := n4.1
  have q0 := hO6.cell 0 _ rfl
  have q1 := hO6.cell 1 _ rfl
  have q2 := hO6.cell 2 _ rfl
  have q3 := hO6.cell 3 _ rfl
  have q4 := hO6.cell 4 _ rfl
  have z0 := hR6.cell 0 _ rfl
  have z1 := hR6.cell 1 _ rfl
  have z2 := hR6.cell 2 _ rfl
  have z3 := hR6.cell 3 _ rfl
  have z4 := hR6.cell 4 _ rfl
  simp only [List.length_nil, Nat.zero_add] at q0 q1 q2 q3 q4 z0 z1 z2 z3 z4
  have f0 := hR6.fz 0
  have f1 := hR6.fz 1
  have f2 := hR6.fz 2
  have f3 := hR6.fz 3
  have f4 := hR6.fz 4
  have hS5 := hR6.set5 (.int .i64 s.1) (.slice (some ⟨gl, 0, none⟩) ln ln) (.int .i64 s.2.2.1) (.slice (some ⟨gm, 0, none⟩) mn mn) (.slice (some ⟨gh, 0, none⟩) hn hn)
  simp only [List.length_nil, Nat.zero_add] at hS5
  have hOSz := hOS6.keep (fun j hj => hS5.2.block j (hOS6.lt j hj) (fun e => (hXo j hj).2 (Option.some.inj e)))
  have hBz := hB6.grown hS5.2 hB6.size (fun j e => by cases e; omega)
  have hzc0 := hS5.1.cell 0 _ rfl
  have hzc1 := hS5.1.cell 1 _ rfl
  have hzc2 := hS5.1.cell 2 _ rfl
  have hzc3 := hS5.1.cell 3 _ rfl
  have hzc4 := hS5.1.cell 4 _ rfl
  simp only [List.length_nil, Nat.zero_add] at hzc0 hzc1 hzc2 hzc3 hzc4
  have HOSz := Hid.mk' hOSz
  have HBz := Hid.mk' hBz
  clear hOSz hBz hS5 hOS6 hOS hO5 hO6 hR5 hR6 n4
  go_wp2_with fail
  refine bodyPost_ret (v := aggSh s.1 s.2.2.1 (some ⟨gl, 0, none⟩) ln ln (some ⟨gm, 0, none⟩) mn mn (some ⟨gh, 0, none⟩) hn hn) ?_ rfl ⟨_, _, _, F, rfl, HOSz.out, hFn, HBz.out⟩
  simp [results, Try.results80, go_sem, hzc0, hzc1, hzc2, hzc3, hzc4]
end Go.Proofs.Ytggihjmcafoppaa.recs
