/- The program's shard: a copy of it. -/
import Derived.Test.YteniflajiklffaaGreatDoorShau
import Derived.Test.YteniflajiklffaaGreatDoorShar
namespace Go.Proofs.YteniflajiklffaaGreatDoor.recs
open Go Go.RowKit Go.Proofs.YteniflajiklffaaGreatDoor.base Go.Proofs.YteniflajiklffaaGreatDoor.pairs Go.Proofs.YteniflajiklffaaGreatDoor.ords Go.Proofs.YteniflajiklffaaGreatDoor.helps Go.Proofs.YteniflajiklffaaGreatDoor.help Go.Proofs.YteniflajiklffaaGreatDoor.lay
set_option linter.unusedVariables false
set_option linter.unusedSimpArgs false

set_option maxRecDepth 100000 in
set_option maxHeartbeats 4000000 in
theorem ownSh_inil (la : Option Addr) (ln lc : Nat) (mn mc : Nat) (ha : Option Addr) (hn hc : Nat) (s : Shd) (w : World) (h : SeeSh w la ln lc none mn mc ha hn hc s) (hf : Few s.2.1) (hf2 : Few s.2.2.2.2) (hl1 : ln ≤ 1099511627776) (hl2 : mn ≤ 1099511627776) (hl3 : hn ≤ 1099511627776) :
    Calls Tryz.prog 72 #[aggSh s.1 s.2.2.1 la ln lc none mn mc ha hn hc] w fun e w' => ∃ gl cl gm cm gh ch F, e = .returned (aggSh s.1 s.2.2.1 (some ⟨gl, 0, none⟩) ln cl (some ⟨gm, 0, none⟩) mn cm (some ⟨gh, 0, none⟩) hn ch) ∧
      OwnSh w' (some ⟨gl, 0, none⟩) ln cl (some ⟨gm, 0, none⟩) mn cm (some ⟨gh, 0, none⟩) hn ch s F ∧ (∀ k ∈ F, w.heap.size ≤ k) ∧ Below w.heap.size w w' := by
  obtain ⟨i0, hif, hz0, hz1, hz2⟩ := info_parts infoP
  obtain ⟨W, hW⟩ : ∃ W, W = (w.alloc (boxSh s.1 s.2.2.1 la ln lc none mn mc ha hn hc)).alloc (boxSh 0 0 none 0 0 none 0 0 none 0 0) := ⟨_, rfl⟩
  have hba : Below w.heap.size w (w.alloc (boxSh s.1 s.2.2.1 la ln lc none mn mc ha hn hc)) := (Below.refl _ _).alloc (Nat.le_refl _) _
  have hB : Below w.heap.size w W := by rw [hW]; exact hba.alloc hba.size _
  have hT : BoxIn w.heap.size 27 [] (shVals s.1 s.2.2.1 la ln lc none mn mc ha hn hc) [] W := by rw [hW]; exact (boxIn_new w _ _).below ((Below.refl _ _).alloc (Nat.le_refl _) _)
  have hR : BoxIn (w.heap.size + 1) 27 [] (shVals 0 0 none 0 0 none 0 0 none 0 0) [] W := by
    rw [hW]
    have := boxIn_new (w.alloc (boxSh s.1 s.2.2.1 la ln lc none mn mc ha hn hc)) (shVals 0 0 none 0 0 none 0 0 none 0 0) 27
    rwa [show (w.alloc (boxSh s.1 s.2.2.1 la ln lc none mn mc ha hn hc)).heap.size = w.heap.size + 1 by simp] at this
  have hsW : w.heap.size + 1 < W.heap.size := hR.lt
  have HW := Hid.mk' hW.symm
  clear hW
  have HCL := Hid.mk' (fun wx (hx : Below W.heap.size W wx) => i_ownRecs la ln lc s.2.1 wx ((h.log.below hB).below hx) hl1 (fun r hr => (hf r hr).1))
  have HCH := Hid.mk' (fun wx (hx : Below W.heap.size W wx) => i_ownRecs ha hn hc s.2.2.2.2 wx ((h.held.below hB).below hx) hl3 (fun r hr => (hf2 r hr).1))
  have hml := h.map.1
  have hsm := h.map.2.2.1
  have h0 : mn = 0 := by
    rcases Nat.eq_zero_or_pos mn with e | e
    · exact e
    · obtain ⟨b, off, ha, _⟩ := h.map.2.2.2 e; cases ha
  subst h0
  have HME : Hid (s.2.2.2.1 = []) := List.eq_nil_of_length_eq_zero hml
  have han := append_nothingP
  have hid := h.id
  have hsu := h.sure
  have HML := Hid.mk' hml
  clear h hf hf2 hml
  have hdW : Below W.heap.size W W.drew := (Below.refl _ _).drew
  go_enter Tryz.func72, Tryz.ntmps72
  go_wp2_with fail
  rw [HW.out]
  refine last.wp_region_later (S := fun w' => BoxIn w.heap.size 27 [] (shVals s.1 s.2.2.1 la ln lc none 0 mc ha hn hc) [] w' ∧ BoxIn (w.heap.size + 1) 27 [] (shVals 0 0 none 0 0 none 0 0 none 0 0) [] w') 15 (by kernel_rfl) ⟨hT.below hdW, hR.below hdW⟩ (fun hHeld0 => ?_)
  refine last.wpAnyL_take (i := 0) (v := (.pointer (some ⟨w.heap.size, 0, none⟩))) rfl rfl (by kernel_rfl) (by kernel_rfl) (by kernel_rfl) (by kernel_rfl) (fun _ _ _ h => h) (Or.inl ⟨by rfl, ?_⟩) (by assumption) ?_
  · intro wq hSq; go_simp
  try simp only [Act.put, List.setIfInBounds_toArray, List.set_cons_zero, List.set_cons_succ]
  refine last.wpAnyL_take (i := 1) (v := (.int .i64 s.1)) rfl rfl (by kernel_rfl) (by kernel_rfl) (by kernel_rfl) (by kernel_rfl) (fun _ _ _ h => h) (Or.inl ⟨by rfl, ?_⟩) (by assumption) ?_
  · intro wq hSq; have q := hSq.1.cell 0 _ rfl; simp only [List.length_nil, Nat.zero_add] at q; go_simp
  try simp only [Act.put, List.setIfInBounds_toArray, List.set_cons_zero, List.set_cons_succ]
  refine last.wpAnyL_take (i := 2) (v := (.pointer (some ⟨w.heap.size, 1, none⟩))) rfl rfl (by kernel_rfl) (by kernel_rfl) (by kernel_rfl) (by kernel_rfl) (fun _ _ _ h => h) (Or.inl ⟨by rfl, ?_⟩) (by assumption) ?_
  · intro wq hSq; go_simp
  try simp only [Act.put, List.setIfInBounds_toArray, List.set_cons_zero, List.set_cons_succ]
  refine last.wpAnyL_take (i := 3) (v := (.slice la ln lc)) rfl rfl (by kernel_rfl) (by kernel_rfl) (by kernel_rfl) (by kernel_rfl) (fun _ _ _ h => h) (Or.inl ⟨by rfl, ?_⟩) (by assumption) ?_
  · intro wq hSq; have q := hSq.1.cell 1 _ rfl; simp only [List.length_nil, Nat.zero_add] at q; go_simp
  try simp only [Act.put, List.setIfInBounds_toArray, List.set_cons_zero, List.set_cons_succ]
  refine last.wpAnyL_take (i := 5) (v := (.pointer (some ⟨w.heap.size, 2, none⟩))) rfl rfl (by kernel_rfl) (by kernel_rfl) (by kernel_rfl) (by kernel_rfl) (fun _ _ _ h => h) (Or.inl ⟨by rfl, ?_⟩) (by assumption) ?_
  · intro wq hSq; go_simp
  try simp only [Act.put, List.setIfInBounds_toArray, List.set_cons_zero, List.set_cons_succ]
  refine last.wpAnyL_take (i := 6) (v := (.int .i64 s.2.2.1)) rfl rfl (by kernel_rfl) (by kernel_rfl) (by kernel_rfl) (by kernel_rfl) (fun _ _ _ h => h) (Or.inl ⟨by rfl, ?_⟩) (by assumption) ?_
  · intro wq hSq; have q := hSq.1.cell 2 _ rfl; simp only [List.length_nil, Nat.zero_add] at q; go_simp
  try simp only [Act.put, List.setIfInBounds_toArray, List.set_cons_zero, List.set_cons_succ]
  refine last.wpAnyL_take (i := 8) (v := (.pointer (some ⟨w.heap.size, 3, none⟩))) rfl rfl (by kernel_rfl) (by kernel_rfl) (by kernel_rfl) (by kernel_rfl) (fun _ _ _ h => h) (Or.inl ⟨by rfl, ?_⟩) (by assumption) ?_
  · intro wq hSq; go_simp
  try simp only [Act.put, List.setIfInBounds_toArray, List.set_cons_zero, List.set_cons_succ]
  refine last.wpAnyL_take (i := 9) (v := (.slice none 0 mc)) rfl rfl (by kernel_rfl) (by kernel_rfl) (by kernel_rfl) (by kernel_rfl) (fun _ _ _ h => h) (Or.inl ⟨by rfl, ?_⟩) (by assumption) ?_
  · intro wq hSq; have q := hSq.1.cell 3 _ rfl; simp only [List.length_nil, Nat.zero_add] at q; go_simp
  try simp only [Act.put, List.setIfInBounds_toArray, List.set_cons_zero, List.set_cons_succ]
  refine last.wpAnyL_take (i := 11) (v := (.pointer (some ⟨w.heap.size, 4, none⟩))) rfl rfl (by kernel_rfl) (by kernel_rfl) (by kernel_rfl) (by kernel_rfl) (fun _ _ _ h => h) (Or.inl ⟨by rfl, ?_⟩) (by assumption) ?_
  · intro wq hSq; go_simp
  try simp only [Act.put, List.setIfInBounds_toArray, List.set_cons_zero, List.set_cons_succ]
  refine last.wpAnyL_take (i := 12) (v := (.slice ha hn hc)) rfl rfl (by kernel_rfl) (by kernel_rfl) (by kernel_rfl) (by kernel_rfl) (fun _ _ _ h => h) (Or.inl ⟨by rfl, ?_⟩) (by assumption) ?_
  · intro wq hSq; have q := hSq.1.cell 4 _ rfl; simp only [List.length_nil, Nat.zero_add] at q; go_simp
  try simp only [Act.put, List.setIfInBounds_toArray, List.set_cons_zero, List.set_cons_succ]
  refine last.wpAnyL_two (i := 4) (j := 7) (o := { dst := some 7, op := Op.call { callee := Callee.value (Operand.func 75), args := #[Operand.tmp 6], argTypes := #[24] }, type := 24, pos := "l09_shard.go:125", after := #[{ on := 3, ground := Ground.data }], guard := none }) (o' := { dst := some 10, op := Op.buildSlice 25 0 #[], type := 25, pos := "l09_shard.go:125", after := #[], guard := none }) (by kernel_rfl) rfl rfl (fun K hK => ?wayA) (fun K hK => ?wayB)
  case' wayA =>
    refine stepc.step_call1 rfl 75 (.tmp 6) _ rfl (fun _ _ => rfl) (.slice la ln lc) (by kernel_rfl) _ (HCL.out _ hdW) ?_
    rintro e w4 ⟨gl, cl, hl, rfl, hOl, hb4⟩
    refine ⟨_, rfl, ?_⟩
    have hB4 := hdW.trans (hb4.mono hdW.size)
    refine hK.out _ _ ?_ (fun hHeld => ?_)
    · exact ⟨hT.below hB4, hR.below hB4⟩
    clear hK K hHeld0
    have hHeld0 := hHeld
    clear hHeld
    try simp only [Act.put, List.setIfInBounds_toArray, List.set_cons_zero, List.set_cons_succ]
    refine last.wpAnyL_one (i := 7) (o := { dst := some 10, op := Op.buildSlice 25 0 #[], type := 25, pos := "l09_shard.go:125", after := #[], guard := none }) (by kernel_rfl) rfl (fun K hK => ?_)
    go_simp
    have hb7 : Below w4.heap.size w4 (w4.alloc (.cells #[] 74)) := (Below.refl _ _).alloc (Nat.le_refl _) _
    have hBA := hB4.trans (hb7.mono hB4.size)
    have hOlA := (hOl.below hb7).mono (base' := W.heap.size) hdW.size
    have hOmA := ownP_made w4 W.heap.size hB4.size
    refine hK.out _ _ ?_ (fun hHeld => ?_)
    · exact ⟨hT.below hBA, hR.below hBA⟩
    clear hK K hHeld0
    have hHeld0 := hHeld
    clear hHeld
    generalize hwA : w4.alloc (.cells #[] 74) = wA at *
    generalize hgm : w4.heap.size = g0 at *
    clear hwA hgm hOl hb4 hB4 hb7
  case' wayB =>
    go_simp
    have hb7 : Below W.heap.size W (W.drew.alloc (.cells #[] 74)) := hdW.alloc hdW.size _
    have hOm := ownP_made W.drew W.heap.size (Nat.le_refl _)
    refine hK.out _ _ ?_ (fun hHeld => ?_)
    · exact ⟨hT.below hb7, hR.below hb7⟩
    clear hK K hHeld0
    have hHeld0 := hHeld
    clear hHeld
    try simp only [Act.put, List.setIfInBounds_toArray, List.set_cons_zero, List.set_cons_succ]
    refine last.wpAnyL_one (i := 4) (o := { dst := some 7, op := Op.call { callee := Callee.value (Operand.func 75), args := #[Operand.tmp 6], argTypes := #[24] }, type := 24, pos := "l09_shard.go:125", after := #[{ on := 3, ground := Ground.data }], guard := none }) (by kernel_rfl) rfl (fun K hK => ?_)
    refine stepc.step_call1 rfl 75 (.tmp 6) _ rfl (fun _ _ => rfl) (.slice la ln lc) (by kernel_rfl) _ (HCL.out _ hb7) ?_
    rintro e wA ⟨gl, cl, hl, rfl, hOl, hb4⟩
    refine ⟨_, rfl, ?_⟩
    have hBA := hb7.trans (hb4.mono hb7.size)
    have hOlA := hOl.mono (base' := W.heap.size) hb7.size
    have hOmA := hOm.below hb4
    refine hK.out _ _ ?_ (fun hHeld => ?_)
    · exact ⟨hT.below hBA, hR.below hBA⟩
    clear hK K hHeld0
    have hHeld0 := hHeld
    clear hHeld
    obtain ⟨g0, hg0⟩ : ∃ g0, g0 = W.heap.size := ⟨_, rfl⟩
    have hOmA : OwnP wA W.heap.size g0 0 0 [] := by rw [hg0]; exact hOmA
    rw [← hg0]
    clear hOm hOl hb4 hb7 hg0
  all_goals
    try simp only [Act.put, List.setIfInBounds_toArray, List.set_cons_zero, List.set_cons_succ]
    refine last.wpAnyL_one (i := 10) (o := { dst := some 13, op := Op.call { callee := Callee.builtin Builtin.append, args := #[Operand.tmp 10, Operand.tmp 12], argTypes := #[25, 25] }, type := 25, pos := "l09_shard.go:125", after := #[{ on := 7, ground := Ground.data }, { on := 9, ground := Ground.data }, { on := 4, ground := Ground.chain }], guard := none }) (by kernel_rfl) rfl (fun K hK => ?_)
    go_simp
    have hO10 : OwnP wA W.heap.size g0 0 0 s.2.2.2.1 := by rw [HME.out]; exact hOmA
    have hB10 := hBA
    have hOl10 := hOlA
    refine hK.out _ _ ?_ (fun hHeld => ?_)
    · exact ⟨hT.below hB10, hR.below hB10⟩
    clear hK K hHeld0
    have hHeld0 := hHeld
    clear hHeld
    try simp only [Act.put, List.setIfInBounds_toArray, List.set_cons_zero, List.set_cons_succ]
    refine last.wpAnyL_one (i := 13) (o := { dst := some 16, op := Op.call { callee := Callee.value (Operand.func 75), args := #[Operand.tmp 15], argTypes := #[24] }, type := 24, pos := "l09_shard.go:125", after := #[{ on := 12, ground := Ground.data }, { on := 10, ground := Ground.chain }], guard := none }) (by kernel_rfl) rfl (fun K hK => ?_)
    refine stepc.step_call1 rfl 75 (.tmp 15) _ rfl (fun _ _ => rfl) (.slice ha hn hc) (by kernel_rfl) _ (HCH.out _ hB10) ?_
    rintro e w13 ⟨gh, ch, hh, rfl, hOh, hb13⟩
    refine ⟨_, rfl, ?_⟩
    have hB13 := hB10.trans (hb13.mono hB10.size)
    have hR13 := hR.below hB13
    refine hK.out _ _ ?_ (fun hHeld => ?_)
    · exact ⟨hT.below hB13, hR13⟩
    clear hK K hHeld0
    have hHeld0 := hHeld
    clear hHeld
    try simp only [Act.put, List.setIfInBounds_toArray, List.set_cons_zero, List.set_cons_succ]
    refine last.wpAnyL_take (i := 14) (v := (aggSh s.1 s.2.2.1 (some ⟨gl, 0, none⟩) ln cl (some ⟨g0, 0, none⟩) 0 0 (some ⟨gh, 0, none⟩) hn ch)) rfl rfl (by kernel_rfl) (by kernel_rfl) (by kernel_rfl) (by kernel_rfl) (fun _ _ _ h => h) (Or.inl ⟨by rfl, ?_⟩) (by assumption) ?_
    · intro wq hSq; go_simp
    try simp only [Act.put, List.setIfInBounds_toArray, List.set_cons_zero, List.set_cons_succ]
    have z0 := hR13.cell 0 _ rfl
    have z1 := hR13.cell 1 _ rfl
    have z2 := hR13.cell 2 _ rfl
    have z3 := hR13.cell 3 _ rfl
    have z4 := hR13.cell 4 _ rfl
    simp only [List.length_nil, Nat.zero_add] at z0 z1 z2 z3 z4
    have f0 := hR13.fz 0
    have f1 := hR13.fz 1
    have f2 := hR13.fz 2
    have f3 := hR13.fz 3
    have f4 := hR13.fz 4
    refine last.wpAnyL_last (o := { dst := none, op := Op.store 27 (Operand.tmp 2) (Operand.tmp 17), type := 0, pos := "l09_shard.go:125", after := #[{ on := 14, ground := Ground.data }, { on := 13, ground := Ground.chain }, { on := 0, ground := Ground.phase }, { on := 1, ground := Ground.phase }, { on := 2, ground := Ground.phase }, { on := 3, ground := Ground.phase }, { on := 4, ground := Ground.phase }, { on := 5, ground := Ground.phase }, { on := 6, ground := Ground.phase }, { on := 7, ground := Ground.phase }, { on := 8, ground := Ground.phase }, { on := 9, ground := Ground.phase }, { on := 10, ground := Ground.phase }, { on := 11, ground := Ground.phase }, { on := 12, ground := Ground.phase }, { on := 13, ground := Ground.phase }, { on := 14, ground := Ground.phase }], guard := none }) (by kernel_rfl) rfl (by kernel_rfl) (fun K hK => ?_)
    go_simp
    refine hK.out _ _ ?_
    clear hK K
    have hS5 := hR13.set5 (.int .i64 s.1) (.slice (some ⟨gl, 0, none⟩) ln cl) (.int .i64 s.2.2.1) (.slice (some ⟨g0, 0, none⟩) 0 0) (.slice (some ⟨gh, 0, none⟩) hn ch)
    simp only [List.length_nil, Nat.zero_add] at hS5
    have hlo : ∀ k, BlkR (.slice (some ⟨gl, 0, none⟩) ln cl) hl k → k < wA.heap.size := fun k hk => (hOl10.lt k hk).2
    have hhi : ∀ k, BlkR (.slice (some ⟨gh, 0, none⟩) hn ch) hh k → wA.heap.size ≤ k := fun k hk => (hOh.lt k hk).1
    obtain ⟨F, hOS, hFn⟩ := ownSh_of (B := W.heap.size) hid hsu (hOl10.below hb13) (hO10.below hb13) (hOh.mono hB10.size) hlo hhi
    have hOS2 := hOS.keep (w' := _) (fun k hk => hS5.2.block k (hOS.lt k hk) (fun e => by have := hFn k hk; have := Option.some.inj e; omega))
    have hBz := (hB.trans (hB13.mono hB.size)).grown hS5.2 (hB.trans (hB13.mono hB.size)).size (fun j e => by cases e; omega)
    have hzc0 := hS5.1.cell 0 _ rfl
    have hzc1 := hS5.1.cell 1 _ rfl
    have hzc2 := hS5.1.cell 2 _ rfl
    have hzc3 := hS5.1.cell 3 _ rfl
    have hzc4 := hS5.1.cell 4 _ rfl
    simp only [List.length_nil, Nat.zero_add] at hzc0 hzc1 hzc2 hzc3 hzc4
    have hFn2 : ∀ k ∈ F, w.heap.size ≤ k := fun k hk => by have := hFn k hk; omega
    clear z0 z1 z2 z3 z4 f0 f1 f2 f3 f4
    go_wp2_with fail
    refine bodyPost_ret (v := aggSh s.1 s.2.2.1 (some ⟨gl, 0, none⟩) ln cl (some ⟨g0, 0, none⟩) 0 0 (some ⟨gh, 0, none⟩) hn ch) ?_ rfl ⟨_, _, _, _, _, _, F, rfl, hOS2, hFn2, hBz⟩
    simp [results, Tryz.results72, go_sem, hzc0, hzc1, hzc2, hzc3, hzc4]
set_option maxRecDepth 100000 in
set_option maxHeartbeats 4000000 in
theorem ownSh_isome (la : Option Addr) (ln lc : Nat) (ad : Addr) (mn mc : Nat) (ha : Option Addr) (hn hc : Nat) (s : Shd) (w : World) (h : SeeSh w la ln lc (some ad) mn mc ha hn hc s) (hf : Few s.2.1) (hf2 : Few s.2.2.2.2) (hl1 : ln ≤ 1099511627776) (hl2 : mn ≤ 1099511627776) (hl3 : hn ≤ 1099511627776) :
    Calls Tryz.prog 72 #[aggSh s.1 s.2.2.1 la ln lc (some ad) mn mc ha hn hc] w fun e w' => ∃ gl cl gm cm gh ch F, e = .returned (aggSh s.1 s.2.2.1 (some ⟨gl, 0, none⟩) ln cl (some ⟨gm, 0, none⟩) mn cm (some ⟨gh, 0, none⟩) hn ch) ∧
      OwnSh w' (some ⟨gl, 0, none⟩) ln cl (some ⟨gm, 0, none⟩) mn cm (some ⟨gh, 0, none⟩) hn ch s F ∧ (∀ k ∈ F, w.heap.size ≤ k) ∧ Below w.heap.size w w' := by
  obtain ⟨i0, hif, hz0, hz1, hz2⟩ := info_parts infoP
  obtain ⟨W, hW⟩ : ∃ W, W = (w.alloc (boxSh s.1 s.2.2.1 la ln lc (some ad) mn mc ha hn hc)).alloc (boxSh 0 0 none 0 0 none 0 0 none 0 0) := ⟨_, rfl⟩
  have hba : Below w.heap.size w (w.alloc (boxSh s.1 s.2.2.1 la ln lc (some ad) mn mc ha hn hc)) := (Below.refl _ _).alloc (Nat.le_refl _) _
  have hB : Below w.heap.size w W := by rw [hW]; exact hba.alloc hba.size _
  have hT : BoxIn w.heap.size 27 [] (shVals s.1 s.2.2.1 la ln lc (some ad) mn mc ha hn hc) [] W := by rw [hW]; exact (boxIn_new w _ _).below ((Below.refl _ _).alloc (Nat.le_refl _) _)
  have hR : BoxIn (w.heap.size + 1) 27 [] (shVals 0 0 none 0 0 none 0 0 none 0 0) [] W := by
    rw [hW]
    have := boxIn_new (w.alloc (boxSh s.1 s.2.2.1 la ln lc (some ad) mn mc ha hn hc)) (shVals 0 0 none 0 0 none 0 0 none 0 0) 27
    rwa [show (w.alloc (boxSh s.1 s.2.2.1 la ln lc (some ad) mn mc ha hn hc)).heap.size = w.heap.size + 1 by simp] at this
  have hsW : w.heap.size + 1 < W.heap.size := hR.lt
  have HW := Hid.mk' hW.symm
  clear hW
  have HCL := Hid.mk' (fun wx (hx : Below W.heap.size W wx) => i_ownRecs la ln lc s.2.1 wx ((h.log.below hB).below hx) hl1 (fun r hr => (hf r hr).1))
  have HCH := Hid.mk' (fun wx (hx : Below W.heap.size W wx) => i_ownRecs ha hn hc s.2.2.2.2 wx ((h.held.below hB).below hx) hl3 (fun r hr => (hf2 r hr).1))
  have hml := h.map.1
  have hsm := h.map.2.2.1
  have HCM : Hid (∀ wx, Below W.heap.size W wx → ∀ j u, (pairVals s.2.2.2.1)[j]? = some u → wx.cell? (ad.add j) = some u) := by
    intro wx hx
    rcases Nat.eq_zero_or_pos mn with e | e
    · intro j u hj
      have e1 : s.2.2.2.1 = [] := List.eq_nil_of_length_eq_zero (by omega)
      rw [e1] at hj; simp [pairVals] at hj
    · obtain ⟨b, off, ha, _⟩ := h.map.2.2.2 e
      cases ha
      exact cells_pairs ((h.map.below hB).below hx).cells
  have hc3 : 0 + mn ≤ maxLen := by unfold maxLen; omega
  have hc4 : (0 + mn) * 32 ≤ 140737488355328 := by omega
  have hlp : (pairVals s.2.2.2.1).length = mn * 2 := by rw [pairVals_length]; omega
  have hid := h.id
  have hsu := h.sure
  have HML := Hid.mk' hml
  clear h hf hf2 hml
  have hdW : Below W.heap.size W W.drew := (Below.refl _ _).drew
  go_enter Tryz.func72, Tryz.ntmps72
  go_wp2_with fail
  rw [HW.out]
  refine last.wp_region_later (S := fun w' => BoxIn w.heap.size 27 [] (shVals s.1 s.2.2.1 la ln lc (some ad) mn mc ha hn hc) [] w' ∧ BoxIn (w.heap.size + 1) 27 [] (shVals 0 0 none 0 0 none 0 0 none 0 0) [] w') 15 (by kernel_rfl) ⟨hT.below hdW, hR.below hdW⟩ (fun hHeld0 => ?_)
  refine last.wpAnyL_take (i := 0) (v := (.pointer (some ⟨w.heap.size, 0, none⟩))) rfl rfl (by kernel_rfl) (by kernel_rfl) (by kernel_rfl) (by kernel_rfl) (fun _ _ _ h => h) (Or.inl ⟨by rfl, ?_⟩) (by assumption) ?_
  · intro wq hSq; go_simp
  try simp only [Act.put, List.setIfInBounds_toArray, List.set_cons_zero, List.set_cons_succ]
  refine last.wpAnyL_take (i := 1) (v := (.int .i64 s.1)) rfl rfl (by kernel_rfl) (by kernel_rfl) (by kernel_rfl) (by kernel_rfl) (fun _ _ _ h => h) (Or.inl ⟨by rfl, ?_⟩) (by assumption) ?_
  · intro wq hSq; have q := hSq.1.cell 0 _ rfl; simp only [List.length_nil, Nat.zero_add] at q; go_simp
  try simp only [Act.put, List.setIfInBounds_toArray, List.set_cons_zero, List.set_cons_succ]
  refine last.wpAnyL_take (i := 2) (v := (.pointer (some ⟨w.heap.size, 1, none⟩))) rfl rfl (by kernel_rfl) (by kernel_rfl) (by kernel_rfl) (by kernel_rfl) (fun _ _ _ h => h) (Or.inl ⟨by rfl, ?_⟩) (by assumption) ?_
  · intro wq hSq; go_simp
  try simp only [Act.put, List.setIfInBounds_toArray, List.set_cons_zero, List.set_cons_succ]
  refine last.wpAnyL_take (i := 3) (v := (.slice la ln lc)) rfl rfl (by kernel_rfl) (by kernel_rfl) (by kernel_rfl) (by kernel_rfl) (fun _ _ _ h => h) (Or.inl ⟨by rfl, ?_⟩) (by assumption) ?_
  · intro wq hSq; have q := hSq.1.cell 1 _ rfl; simp only [List.length_nil, Nat.zero_add] at q; go_simp
  try simp only [Act.put, List.setIfInBounds_toArray, List.set_cons_zero, List.set_cons_succ]
  refine last.wpAnyL_take (i := 5) (v := (.pointer (some ⟨w.heap.size, 2, none⟩))) rfl rfl (by kernel_rfl) (by kernel_rfl) (by kernel_rfl) (by kernel_rfl) (fun _ _ _ h => h) (Or.inl ⟨by rfl, ?_⟩) (by assumption) ?_
  · intro wq hSq; go_simp
  try simp only [Act.put, List.setIfInBounds_toArray, List.set_cons_zero, List.set_cons_succ]
  refine last.wpAnyL_take (i := 6) (v := (.int .i64 s.2.2.1)) rfl rfl (by kernel_rfl) (by kernel_rfl) (by kernel_rfl) (by kernel_rfl) (fun _ _ _ h => h) (Or.inl ⟨by rfl, ?_⟩) (by assumption) ?_
  · intro wq hSq; have q := hSq.1.cell 2 _ rfl; simp only [List.length_nil, Nat.zero_add] at q; go_simp
  try simp only [Act.put, List.setIfInBounds_toArray, List.set_cons_zero, List.set_cons_succ]
  refine last.wpAnyL_take (i := 8) (v := (.pointer (some ⟨w.heap.size, 3, none⟩))) rfl rfl (by kernel_rfl) (by kernel_rfl) (by kernel_rfl) (by kernel_rfl) (fun _ _ _ h => h) (Or.inl ⟨by rfl, ?_⟩) (by assumption) ?_
  · intro wq hSq; go_simp
  try simp only [Act.put, List.setIfInBounds_toArray, List.set_cons_zero, List.set_cons_succ]
  refine last.wpAnyL_take (i := 9) (v := (.slice (some ad) mn mc)) rfl rfl (by kernel_rfl) (by kernel_rfl) (by kernel_rfl) (by kernel_rfl) (fun _ _ _ h => h) (Or.inl ⟨by rfl, ?_⟩) (by assumption) ?_
  · intro wq hSq; have q := hSq.1.cell 3 _ rfl; simp only [List.length_nil, Nat.zero_add] at q; go_simp
  try simp only [Act.put, List.setIfInBounds_toArray, List.set_cons_zero, List.set_cons_succ]
  refine last.wpAnyL_take (i := 11) (v := (.pointer (some ⟨w.heap.size, 4, none⟩))) rfl rfl (by kernel_rfl) (by kernel_rfl) (by kernel_rfl) (by kernel_rfl) (fun _ _ _ h => h) (Or.inl ⟨by rfl, ?_⟩) (by assumption) ?_
  · intro wq hSq; go_simp
  try simp only [Act.put, List.setIfInBounds_toArray, List.set_cons_zero, List.set_cons_succ]
  refine last.wpAnyL_take (i := 12) (v := (.slice ha hn hc)) rfl rfl (by kernel_rfl) (by kernel_rfl) (by kernel_rfl) (by kernel_rfl) (fun _ _ _ h => h) (Or.inl ⟨by rfl, ?_⟩) (by assumption) ?_
  · intro wq hSq; have q := hSq.1.cell 4 _ rfl; simp only [List.length_nil, Nat.zero_add] at q; go_simp
  try simp only [Act.put, List.setIfInBounds_toArray, List.set_cons_zero, List.set_cons_succ]
  refine last.wpAnyL_two (i := 4) (j := 7) (o := { dst := some 7, op := Op.call { callee := Callee.value (Operand.func 75), args := #[Operand.tmp 6], argTypes := #[24] }, type := 24, pos := "l09_shard.go:125", after := #[{ on := 3, ground := Ground.data }], guard := none }) (o' := { dst := some 10, op := Op.buildSlice 25 0 #[], type := 25, pos := "l09_shard.go:125", after := #[], guard := none }) (by kernel_rfl) rfl rfl (fun K hK => ?wayA) (fun K hK => ?wayB)
  case' wayA =>
    refine stepc.step_call1 rfl 75 (.tmp 6) _ rfl (fun _ _ => rfl) (.slice la ln lc) (by kernel_rfl) _ (HCL.out _ hdW) ?_
    rintro e w4 ⟨gl, cl, hl, rfl, hOl, hb4⟩
    refine ⟨_, rfl, ?_⟩
    have hB4 := hdW.trans (hb4.mono hdW.size)
    refine hK.out _ _ ?_ (fun hHeld => ?_)
    · exact ⟨hT.below hB4, hR.below hB4⟩
    clear hK K hHeld0
    have hHeld0 := hHeld
    clear hHeld
    try simp only [Act.put, List.setIfInBounds_toArray, List.set_cons_zero, List.set_cons_succ]
    refine last.wpAnyL_one (i := 7) (o := { dst := some 10, op := Op.buildSlice 25 0 #[], type := 25, pos := "l09_shard.go:125", after := #[], guard := none }) (by kernel_rfl) rfl (fun K hK => ?_)
    go_simp
    have hb7 : Below w4.heap.size w4 (w4.alloc (.cells #[] 74)) := (Below.refl _ _).alloc (Nat.le_refl _) _
    have hBA := hB4.trans (hb7.mono hB4.size)
    have hOlA := (hOl.below hb7).mono (base' := W.heap.size) hdW.size
    have hOmA := ownP_made w4 W.heap.size hB4.size
    refine hK.out _ _ ?_ (fun hHeld => ?_)
    · exact ⟨hT.below hBA, hR.below hBA⟩
    clear hK K hHeld0
    have hHeld0 := hHeld
    clear hHeld
    generalize hwA : w4.alloc (.cells #[] 74) = wA at *
    generalize hgm : w4.heap.size = g0 at *
    clear hwA hgm hOl hb4 hB4 hb7
  case' wayB =>
    go_simp
    have hb7 : Below W.heap.size W (W.drew.alloc (.cells #[] 74)) := hdW.alloc hdW.size _
    have hOm := ownP_made W.drew W.heap.size (Nat.le_refl _)
    refine hK.out _ _ ?_ (fun hHeld => ?_)
    · exact ⟨hT.below hb7, hR.below hb7⟩
    clear hK K hHeld0
    have hHeld0 := hHeld
    clear hHeld
    try simp only [Act.put, List.setIfInBounds_toArray, List.set_cons_zero, List.set_cons_succ]
    refine last.wpAnyL_one (i := 4) (o := { dst := some 7, op := Op.call { callee := Callee.value (Operand.func 75), args := #[Operand.tmp 6], argTypes := #[24] }, type := 24, pos := "l09_shard.go:125", after := #[{ on := 3, ground := Ground.data }], guard := none }) (by kernel_rfl) rfl (fun K hK => ?_)
    refine stepc.step_call1 rfl 75 (.tmp 6) _ rfl (fun _ _ => rfl) (.slice la ln lc) (by kernel_rfl) _ (HCL.out _ hb7) ?_
    rintro e wA ⟨gl, cl, hl, rfl, hOl, hb4⟩
    refine ⟨_, rfl, ?_⟩
    have hBA := hb7.trans (hb4.mono hb7.size)
    have hOlA := hOl.mono (base' := W.heap.size) hb7.size
    have hOmA := hOm.below hb4
    refine hK.out _ _ ?_ (fun hHeld => ?_)
    · exact ⟨hT.below hBA, hR.below hBA⟩
    clear hK K hHeld0
    have hHeld0 := hHeld
    clear hHeld
    obtain ⟨g0, hg0⟩ : ∃ g0, g0 = W.heap.size := ⟨_, rfl⟩
    have hOmA : OwnP wA W.heap.size g0 0 0 [] := by rw [hg0]; exact hOmA
    rw [← hg0]
    clear hOm hOl hb4 hb7 hg0
  all_goals
    try simp only [Act.put, List.setIfInBounds_toArray, List.set_cons_zero, List.set_cons_succ]
    refine last.wpAnyL_one (i := 10) (o := { dst := some 13, op := Op.call { callee := Callee.builtin Builtin.append, args := #[Operand.tmp 10, Operand.tmp 12], argTypes := #[25, 25] }, type := 25, pos := "l09_shard.go:125", after := #[{ on := 7, ground := Ground.data }, { on := 9, ground := Ground.data }, { on := 4, ground := Ground.chain }], guard := none }) (by kernel_rfl) rfl (fun K hK => ?_)
    refine step_append_own rfl (.tmp 10) (.tmp 12) 25 rfl W.heap.size 74 i0 (.agg #[.string ⟨#[]⟩, .string ⟨#[]⟩]) 2 32 Tryz.underlying25 hif hz0 hz1 hz2 rfl (by decide) _ _ _ rfl hOmA.2.2 ad mn mc (pairVals s.2.2.2.1) rfl hlp (HCM.out _ hBA) (pairVals_oneCell _) hc3 hc4 hBA.size ?_
    intro v10 w10 hown hgrow hnn
    have hnn' : ¬ v10 = .slice none 0 0 := fun e => by have := (hnn.1 e).1; cases this
    obtain ⟨g10, c10, hv, hO10⟩ := ownP_val HML.out hsm hnn' (by have h9 := hown; simp only [pairVals, List.flatMap_nil, List.nil_append, Nat.zero_add] at h9; exact h9)
    subst hv
    have hgr : wA.grownBy w10 (some g0) := hgrow
    have hB10 := hBA.grown hgr hBA.size (fun k e => by cases e; exact hOmA.lt.1)
    have hOl10 := hOlA.grown hgr (hOlA.notPair hOmA)
    refine hK.out _ _ ?_ (fun hHeld => ?_)
    · exact ⟨hT.below hB10, hR.below hB10⟩
    clear hK K hHeld0
    have hHeld0 := hHeld
    clear hHeld
    clear hown hgrow hgr hnn hnn'
    try simp only [Act.put, List.setIfInBounds_toArray, List.set_cons_zero, List.set_cons_succ]
    refine last.wpAnyL_one (i := 13) (o := { dst := some 16, op := Op.call { callee := Callee.value (Operand.func 75), args := #[Operand.tmp 15], argTypes := #[24] }, type := 24, pos := "l09_shard.go:125", after := #[{ on := 12, ground := Ground.data }, { on := 10, ground := Ground.chain }], guard := none }) (by kernel_rfl) rfl (fun K hK => ?_)
    refine stepc.step_call1 rfl 75 (.tmp 15) _ rfl (fun _ _ => rfl) (.slice ha hn hc) (by kernel_rfl) _ (HCH.out _ hB10) ?_
    rintro e w13 ⟨gh, ch, hh, rfl, hOh, hb13⟩
    refine ⟨_, rfl, ?_⟩
    have hB13 := hB10.trans (hb13.mono hB10.size)
    have hR13 := hR.below hB13
    refine hK.out _ _ ?_ (fun hHeld => ?_)
    · exact ⟨hT.below hB13, hR13⟩
    clear hK K hHeld0
    have hHeld0 := hHeld
    clear hHeld
    try simp only [Act.put, List.setIfInBounds_toArray, List.set_cons_zero, List.set_cons_succ]
    refine last.wpAnyL_take (i := 14) (v := (aggSh s.1 s.2.2.1 (some ⟨gl, 0, none⟩) ln cl (some ⟨g10, 0, none⟩) mn c10 (some ⟨gh, 0, none⟩) hn ch)) rfl rfl (by kernel_rfl) (by kernel_rfl) (by kernel_rfl) (by kernel_rfl) (fun _ _ _ h => h) (Or.inl ⟨by rfl, ?_⟩) (by assumption) ?_
    · intro wq hSq; go_simp
    try simp only [Act.put, List.setIfInBounds_toArray, List.set_cons_zero, List.set_cons_succ]
    have z0 := hR13.cell 0 _ rfl
    have z1 := hR13.cell 1 _ rfl
    have z2 := hR13.cell 2 _ rfl
    have z3 := hR13.cell 3 _ rfl
    have z4 := hR13.cell 4 _ rfl
    simp only [List.length_nil, Nat.zero_add] at z0 z1 z2 z3 z4
    have f0 := hR13.fz 0
    have f1 := hR13.fz 1
    have f2 := hR13.fz 2
    have f3 := hR13.fz 3
    have f4 := hR13.fz 4
    refine last.wpAnyL_last (o := { dst := none, op := Op.store 27 (Operand.tmp 2) (Operand.tmp 17), type := 0, pos := "l09_shard.go:125", after := #[{ on := 14, ground := Ground.data }, { on := 13, ground := Ground.chain }, { on := 0, ground := Ground.phase }, { on := 1, ground := Ground.phase }, { on := 2, ground := Ground.phase }, { on := 3, ground := Ground.phase }, { on := 4, ground := Ground.phase }, { on := 5, ground := Ground.phase }, { on := 6, ground := Ground.phase }, { on := 7, ground := Ground.phase }, { on := 8, ground := Ground.phase }, { on := 9, ground := Ground.phase }, { on := 10, ground := Ground.phase }, { on := 11, ground := Ground.phase }, { on := 12, ground := Ground.phase }, { on := 13, ground := Ground.phase }, { on := 14, ground := Ground.phase }], guard := none }) (by kernel_rfl) rfl (by kernel_rfl) (fun K hK => ?_)
    go_simp
    refine hK.out _ _ ?_
    clear hK K
    have hS5 := hR13.set5 (.int .i64 s.1) (.slice (some ⟨gl, 0, none⟩) ln cl) (.int .i64 s.2.2.1) (.slice (some ⟨g10, 0, none⟩) mn c10) (.slice (some ⟨gh, 0, none⟩) hn ch)
    simp only [List.length_nil, Nat.zero_add] at hS5
    have hlo : ∀ k, BlkR (.slice (some ⟨gl, 0, none⟩) ln cl) hl k → k < w10.heap.size := fun k hk => (hOl10.lt k hk).2
    have hhi : ∀ k, BlkR (.slice (some ⟨gh, 0, none⟩) hn ch) hh k → w10.heap.size ≤ k := fun k hk => (hOh.lt k hk).1
    obtain ⟨F, hOS, hFn⟩ := ownSh_of (B := W.heap.size) hid hsu (hOl10.below hb13) (hO10.below hb13) (hOh.mono hB10.size) hlo hhi
    have hOS2 := hOS.keep (w' := _) (fun k hk => hS5.2.block k (hOS.lt k hk) (fun e => by have := hFn k hk; have := Option.some.inj e; omega))
    have hBz := (hB.trans (hB13.mono hB.size)).grown hS5.2 (hB.trans (hB13.mono hB.size)).size (fun j e => by cases e; omega)
    have hzc0 := hS5.1.cell 0 _ rfl
    have hzc1 := hS5.1.cell 1 _ rfl
    have hzc2 := hS5.1.cell 2 _ rfl
    have hzc3 := hS5.1.cell 3 _ rfl
    have hzc4 := hS5.1.cell 4 _ rfl
    simp only [List.length_nil, Nat.zero_add] at hzc0 hzc1 hzc2 hzc3 hzc4
    have hFn2 : ∀ k ∈ F, w.heap.size ≤ k := fun k hk => by have := hFn k hk; omega
    clear z0 z1 z2 z3 z4 f0 f1 f2 f3 f4
    go_wp2_with fail
    refine bodyPost_ret (v := aggSh s.1 s.2.2.1 (some ⟨gl, 0, none⟩) ln cl (some ⟨g10, 0, none⟩) mn c10 (some ⟨gh, 0, none⟩) hn ch) ?_ rfl ⟨_, _, _, _, _, _, F, rfl, hOS2, hFn2, hBz⟩
    simp [results, Tryz.results72, go_sem, hzc0, hzc1, hzc2, hzc3, hzc4]
theorem i_ownSh (la : Option Addr) (ln lc : Nat) (ma : Option Addr) (mn mc : Nat) (ha : Option Addr) (hn hc : Nat) (s : Shd) (w : World) (h : SeeSh w la ln lc ma mn mc ha hn hc s) (hf : Few s.2.1) (hf2 : Few s.2.2.2.2) (hl1 : ln ≤ 1099511627776) (hl2 : mn ≤ 1099511627776) (hl3 : hn ≤ 1099511627776) :
    Calls Tryz.prog 72 #[aggSh s.1 s.2.2.1 la ln lc ma mn mc ha hn hc] w fun e w' => ∃ gl cl gm cm gh ch F, e = .returned (aggSh s.1 s.2.2.1 (some ⟨gl, 0, none⟩) ln cl (some ⟨gm, 0, none⟩) mn cm (some ⟨gh, 0, none⟩) hn ch) ∧
      OwnSh w' (some ⟨gl, 0, none⟩) ln cl (some ⟨gm, 0, none⟩) mn cm (some ⟨gh, 0, none⟩) hn ch s F ∧ (∀ k ∈ F, w.heap.size ≤ k) ∧ Below w.heap.size w w' := by
  cases ma with
  | none => exact ownSh_inil la ln lc mn mc ha hn hc s w h hf hf2 hl1 hl2 hl3
  | some ad => exact ownSh_isome la ln lc ad mn mc ha hn hc s w h hf hf2 hl1 hl2 hl3
end Go.Proofs.YteniflajiklffaaGreatDoor.recs
