/- The specification's shard: a copy of it. The program's shard: whether it is right. -/
import Derived.Test.YteniflajiklffaaGreatDoorShaq
namespace Go.Proofs.YteniflajiklffaaGreatDoor.lay
open Go Go.RowKit Go.Proofs.YteniflajiklffaaGreatDoor.base Go.Proofs.YteniflajiklffaaGreatDoor.pairs Go.Proofs.YteniflajiklffaaGreatDoor.ords Go.Proofs.YteniflajiklffaaGreatDoor.recs
theorem BoxIn.set5 {X : Nat} {T : TypeId} {pre post : List Value} {a0 a1 a2 a3 a4 : Value} {w : World} (h : BoxIn X T pre [a0, a1, a2, a3, a4] post w) (b0 b1 b2 b3 b4 : Value) :
    BoxIn X T pre [b0, b1, b2, b3, b4] post (((((w.setCell ⟨X, pre.length, none⟩ b0).setCell ⟨X, pre.length + 1, none⟩ b1).setCell ⟨X, pre.length + 2, none⟩ b2).setCell ⟨X, pre.length + 3, none⟩ b3).setCell ⟨X, pre.length + 4, none⟩ b4) ∧
    w.grownBy (((((w.setCell ⟨X, pre.length, none⟩ b0).setCell ⟨X, pre.length + 1, none⟩ b1).setCell ⟨X, pre.length + 2, none⟩ b2).setCell ⟨X, pre.length + 3, none⟩ b3).setCell ⟨X, pre.length + 4, none⟩ b4) (some X) := by
  have h0 := h.set 0 (by simp) b0
  have h1 := h0.1.set 1 (by simp) b1
  have h2 := h1.1.set 2 (by simp) b2
  have h3 := h2.1.set 3 (by simp) b3
  have h4 := h3.1.set 4 (by simp) b4
  exact ⟨h4.1, grownBy_trans (grownBy_trans (grownBy_trans (grownBy_trans h0.2 h1.2) h2.2) h3.2) h4.2⟩
end Go.Proofs.YteniflajiklffaaGreatDoor.lay
namespace Go.Proofs.YteniflajiklffaaGreatDoor.recs
open Go Go.RowKit Go.Proofs.YteniflajiklffaaGreatDoor.base Go.Proofs.YteniflajiklffaaGreatDoor.pairs Go.Proofs.YteniflajiklffaaGreatDoor.ords Go.Proofs.YteniflajiklffaaGreatDoor.helps Go.Proofs.YteniflajiklffaaGreatDoor.help Go.Proofs.YteniflajiklffaaGreatDoor.lay
set_option linter.unusedVariables false
set_option linter.unusedSimpArgs false

theorem OwnR.notPair {w : World} {base b2 g n cap : Nat} {v : Value} {l : List Rc} {hs : List Value} {P : List Pr} (h : OwnR w base v l hs) (hp : OwnP w b2 g n cap P) : ¬ BlkR v hs g := by
  rintro (e | ⟨y, hy, e⟩)
  · exact recRow_ne h.row hp.2.2 e rfl (by decide)
  · obtain ⟨i, hi, rfl⟩ := List.getElem_of_mem hy
    exact recRow_ne (h.ops i (by have := h.len; omega)).2 hp.2.2 e rfl (by decide)
theorem ownSh_of {w : World} {B C gl ln cl gm mn cm gh hn ch : Nat} {s : Shd} {hl hh : List Value} (hid : (Lit.int .i64 s.1).wf = true) (hsu : (Lit.int .i64 s.2.2.1).wf = true)
    (h1 : OwnR w B (.slice (some ⟨gl, 0, none⟩) ln cl) s.2.1 hl) (h2 : OwnP w B gm mn cm s.2.2.2.1) (h3 : OwnR w B (.slice (some ⟨gh, 0, none⟩) hn ch) s.2.2.2.2 hh) (hlo : ∀ k, BlkR (.slice (some ⟨gl, 0, none⟩) ln cl) hl k → k < C) (hhi : ∀ k, BlkR (.slice (some ⟨gh, 0, none⟩) hn ch) hh k → C ≤ k) :
    ∃ F, OwnSh w (some ⟨gl, 0, none⟩) ln cl (some ⟨gm, 0, none⟩) mn cm (some ⟨gh, 0, none⟩) hn ch s F ∧ ∀ k ∈ F, B ≤ k := by
  have o1 := h1.mono (base' := 0) (Nat.zero_le _)
  have o3 := h3.mono (base' := 0) (Nat.zero_le _)
  have d1 := lay.recsR.ownNodup (lay.recs_own.2 ⟨hl, o1, rfl⟩)
  have d3 := lay.recsR.ownNodup (lay.recs_own.2 ⟨hh, o3, rfl⟩)
  refine ⟨_, ⟨hid, hsu, ⟨hl, o1, hh, o3, rfl⟩, ownPV_of h2, ?_⟩, fun k hk => ?_⟩
  · refine nodup_mk d1 (nodup_mk (by simp [Value.ownBlock]) d3 (fun k hk hk2 => ?_)) (fun k hk hk2 => ?_)
    · have : k = gm := by simpa [Value.ownBlock] using hk
      subst this
      exact h3.notPair h2 (lay.mem_blkR.1 hk2)
    · have hk := lay.mem_blkR.1 hk
      rcases List.mem_append.1 hk2 with e | e
      · have : k = gm := by simpa [Value.ownBlock] using e
        subst this
        exact h1.notPair h2 hk
      · have := hlo k hk
        have := hhi k (lay.mem_blkR.1 e)
        omega
  · rcases List.mem_append.1 hk with e | e
    · exact (h1.lt k (lay.mem_blkR.1 e)).1
    · rcases List.mem_append.1 e with e | e
      · have : k = gm := by simpa [Value.ownBlock] using e
        subst this
        exact h2.lt.1
      · exact (h3.lt k (lay.mem_blkR.1 e)).1
set_option maxRecDepth 100000 in
set_option maxHeartbeats 4000000 in
theorem copySh_nil (la : Option Addr) (ln lc : Nat) (mn mc : Nat) (ha : Option Addr) (hn hc : Nat) (s : Shd) (w : World) (h : SeeSh w la ln lc none mn mc ha hn hc s) (hf : Few s.2.1) (hf2 : Few s.2.2.2.2) (hl1 : ln ≤ 1099511627776) (hl2 : mn ≤ 1099511627776) (hl3 : hn ≤ 1099511627776) :
    Calls Tryz.prog 35 #[aggSh s.1 s.2.2.1 la ln lc none mn mc ha hn hc] w fun e w' => ∃ gl cl gm cm gh ch F, e = .returned (aggSh s.1 s.2.2.1 (some ⟨gl, 0, none⟩) ln cl (some ⟨gm, 0, none⟩) mn cm (some ⟨gh, 0, none⟩) hn ch) ∧
      OwnSh w' (some ⟨gl, 0, none⟩) ln cl (some ⟨gm, 0, none⟩) mn cm (some ⟨gh, 0, none⟩) hn ch s F ∧ (∀ k ∈ F, w.heap.size ≤ k) ∧ Below w.heap.size w w' := by
  obtain ⟨i0, hif, hz0, hz1, hz2⟩ := info_parts infoP
  obtain ⟨W, hW⟩ : ∃ W, W = (w.alloc (boxSh s.1 s.2.2.1 la ln lc none mn mc ha hn hc)).alloc (boxSh 0 0 none 0 0 none 0 0 none 0 0) := ⟨_, rfl⟩
  have hba : Below w.heap.size w (w.alloc (boxSh s.1 s.2.2.1 la ln lc none mn mc ha hn hc)) := (Below.refl _ _).alloc (Nat.le_refl _) _
  have hB : Below w.heap.size w W := by rw [hW]; exact hba.alloc hba.size _
  have hT : BoxIn w.heap.size 27 [] (shVals s.1 s.2.2.1 la ln lc none mn mc ha hn hc) [] W := by rw [hW]; exact (boxIn_new w _ _).below ((Below.refl _ _).alloc (Nat.le_refl _) _)
  have hR : BoxIn (w.heap.size + 1) 27 [] (shVals 0 0 none 0 0 none 0 0 none 0 0) [] W := by
    rw [hW]
    have := boxIn_new (w.alloc (boxSh s.1 s.2.2.1 la ln lc none mn mc ha hn hc)) (shVals 0 0 none 0 0 none 0 0 none 0 0) 27
    rwa [show (w.alloc (boxSh s.1 s.2.2.1 la ln lc none mn mc ha hn hc)).heap.size = w.heap.size + 1 by simp] at this
  have hsW : w.heap.size + 1 < W.heap.size := hR.lt
  have HW := Hid.mk' hW.symm
  clear hW
  have HCL := Hid.mk' (fun wx (hx : Below W.heap.size W wx) => spec_copyRecs la ln lc s.2.1 wx ((h.log.below hB).below hx) hl1 (fun r hr => (hf r hr).1))
  have HCH := Hid.mk' (fun wx (hx : Below W.heap.size W wx) => spec_copyRecs ha hn hc s.2.2.2.2 wx ((h.held.below hB).below hx) hl3 (fun r hr => (hf2 r hr).1))
  have hml := h.map.1
  have hsm := h.map.2.2.1
  have h0 : mn = 0 := by
    rcases Nat.eq_zero_or_pos mn with e | e
    · exact e
    · obtain ⟨b, off, ha, _⟩ := h.map.2.2.2 e; cases ha
  subst h0
  have HME : Hid (s.2.2.2.1 = []) := List.eq_nil_of_length_eq_zero hml
  have han := append_nothingP
  have hid := h.id
  have hsu := h.sure
  have HML := Hid.mk' hml
  clear h hf hf2 hml
  have hdW : Below W.heap.size W W.drew := (Below.refl _ _).drew
  go_enter Tryz.func35, Tryz.ntmps35
  go_wp2_with fail
  rw [HW.out]
  refine last.wp_region_later (S := fun w' => BoxIn w.heap.size 27 [] (shVals s.1 s.2.2.1 la ln lc none 0 mc ha hn hc) [] w' ∧ BoxIn (w.heap.size + 1) 27 [] (shVals 0 0 none 0 0 none 0 0 none 0 0) [] w') 15 (by kernel_rfl) ⟨hT.below hdW, hR.below hdW⟩ (fun hHeld0 => ?_)
  refine last.wpAnyL_take (i := 0) (v := (.pointer (some ⟨w.heap.size, 0, none⟩))) rfl rfl (by kernel_rfl) (by kernel_rfl) (by kernel_rfl) (by kernel_rfl) (fun _ _ _ h => h) (Or.inl ⟨by rfl, ?_⟩) (by assumption) ?_
  · intro wq hSq; go_simp
  try simp only [Act.put, List.setIfInBounds_toArray, List.set_cons_zero, List.set_cons_succ]
  refine last.wpAnyL_take (i := 1) (v := (.int .i64 s.1)) rfl rfl (by kernel_rfl) (by kernel_rfl) (by kernel_rfl) (by kernel_rfl) (fun _ _ _ h => h) (Or.inl ⟨by rfl, ?_⟩) (by assumption) ?_
  · intro wq hSq; have q := hSq.1.cell 0 _ rfl; simp only [List.length_nil, Nat.zero_add] at q; go_simp
  try simp only [Act.put, List.setIfInBounds_toArray, List.set_cons_zero, List.set_cons_succ]
  refine last.wpAnyL_take (i := 2) (v := (.pointer (some ⟨w.heap.size, 1, none⟩))) rfl rfl (by kernel_rfl) (by kernel_rfl) (by kernel_rfl) (by kernel_rfl) (fun _ _ _ h => h) (Or.inl ⟨by rfl, ?_⟩) (by assumption) ?_
  · intro wq hSq; go_simp
  try simp only [Act.put, List.setIfInBounds_toArray, List.set_cons_zero, List.set_cons_succ]
  refine last.wpAnyL_take (i := 3) (v := (.slice la ln lc)) rfl rfl (by kernel_rfl) (by kernel_rfl) (by kernel_rfl) (by kernel_rfl) (fun _ _ _ h => h) (Or.inl ⟨by rfl, ?_⟩) (by assumption) ?_
  · intro wq hSq; have q := hSq.1.cell 1 _ rfl; simp only [List.length_nil, Nat.zero_add] at q; go_simp
  try simp only [Act.put, List.setIfInBounds_toArray, List.set_cons_zero, List.set_cons_succ]
  refine last.wpAnyL_take (i := 5) (v := (.pointer (some ⟨w.heap.size, 2, none⟩))) rfl rfl (by kernel_rfl) (by kernel_rfl) (by kernel_rfl) (by kernel_rfl) (fun _ _ _ h => h) (Or.inl ⟨by rfl, ?_⟩) (by assumption) ?_
  · intro wq hSq; go_simp
  try simp only [Act.put, List.setIfInBounds_toArray, List.set_cons_zero, List.set_cons_succ]
  refine last.wpAnyL_take (i := 6) (v := (.int .i64 s.2.2.1)) rfl rfl (by kernel_rfl) (by kernel_rfl) (by kernel_rfl) (by kernel_rfl) (fun _ _ _ h => h) (Or.inl ⟨by rfl, ?_⟩) (by assumption) ?_
  · intro wq hSq; have q := hSq.1.cell 2 _ rfl; simp only [List.length_nil, Nat.zero_add] at q; go_simp
  try simp only [Act.put, List.setIfInBounds_toArray, List.set_cons_zero, List.set_cons_succ]
  refine last.wpAnyL_take (i := 8) (v := (.pointer (some ⟨w.heap.size, 3, none⟩))) rfl rfl (by kernel_rfl) (by kernel_rfl) (by kernel_rfl) (by kernel_rfl) (fun _ _ _ h => h) (Or.inl ⟨by rfl, ?_⟩) (by assumption) ?_
  · intro wq hSq; go_simp
  try simp only [Act.put, List.setIfInBounds_toArray, List.set_cons_zero, List.set_cons_succ]
  refine last.wpAnyL_take (i := 9) (v := (.slice none 0 mc)) rfl rfl (by kernel_rfl) (by kernel_rfl) (by kernel_rfl) (by kernel_rfl) (fun _ _ _ h => h) (Or.inl ⟨by rfl, ?_⟩) (by assumption) ?_
  · intro wq hSq; have q := hSq.1.cell 3 _ rfl; simp only [List.length_nil, Nat.zero_add] at q; go_simp
  try simp only [Act.put, List.setIfInBounds_toArray, List.set_cons_zero, List.set_cons_succ]
  refine last.wpAnyL_take (i := 11) (v := (.pointer (some ⟨w.heap.size, 4, none⟩))) rfl rfl (by kernel_rfl) (by kernel_rfl) (by kernel_rfl) (by kernel_rfl) (fun _ _ _ h => h) (Or.inl ⟨by rfl, ?_⟩) (by assumption) ?_
  · intro wq hSq; go_simp
  try simp only [Act.put, List.setIfInBounds_toArray, List.set_cons_zero, List.set_cons_succ]
  refine last.wpAnyL_take (i := 12) (v := (.slice ha hn hc)) rfl rfl (by kernel_rfl) (by kernel_rfl) (by kernel_rfl) (by kernel_rfl) (fun _ _ _ h => h) (Or.inl ⟨by rfl, ?_⟩) (by assumption) ?_
  · intro wq hSq; have q := hSq.1.cell 4 _ rfl; simp only [List.length_nil, Nat.zero_add] at q; go_simp
  try simp only [Act.put, List.setIfInBounds_toArray, List.set_cons_zero, List.set_cons_succ]
  refine last.wpAnyL_two (i := 4) (j := 7) (o := { dst := some 7, op := Op.call { callee := Callee.value (Operand.func 77), args := #[Operand.tmp 6], argTypes := #[24] }, type := 24, pos := "l09_shard.go:57", after := #[{ on := 3, ground := Ground.data }], guard := none }) (o' := { dst := some 10, op := Op.buildSlice 25 0 #[], type := 25, pos := "l09_shard.go:57", after := #[], guard := none }) (by kernel_rfl) rfl rfl (fun K hK => ?wayA) (fun K hK => ?wayB)
  case' wayA =>
    refine stepc.step_call1 rfl 77 (.tmp 6) _ rfl (fun _ _ => rfl) (.slice la ln lc) (by kernel_rfl) _ (HCL.out _ hdW) ?_
    rintro e w4 ⟨gl, cl, hl, rfl, hOl, hb4⟩
    refine ⟨_, rfl, ?_⟩
    have hB4 := hdW.trans (hb4.mono hdW.size)
    refine hK.out _ _ ?_ (fun hHeld => ?_)
    · exact ⟨hT.below hB4, hR.below hB4⟩
    clear hK K hHeld0
    have hHeld0 := hHeld
    clear hHeld
    try simp only [Act.put, List.setIfInBounds_toArray, List.set_cons_zero, List.set_cons_succ]
    refine last.wpAnyL_one (i := 7) (o := { dst := some 10, op := Op.buildSlice 25 0 #[], type := 25, pos := "l09_shard.go:57", after := #[], guard := none }) (by kernel_rfl) rfl (fun K hK => ?_)
    go_simp
    have hb7 : Below w4.heap.size w4 (w4.alloc (.cells #[] 74)) := (Below.refl _ _).alloc (Nat.le_refl _) _
    have hBA := hB4.trans (hb7.mono hB4.size)
    have hOlA := (hOl.below hb7).mono (base' := W.heap.size) hdW.size
    have hOmA := ownP_made w4 W.heap.size hB4.size
    refine hK.out _ _ ?_ (fun hHeld => ?_)
    · exact ⟨hT.below hBA, hR.below hBA⟩
    clear hK K hHeld0
    have hHeld0 := hHeld
    clear hHeld
    generalize hwA : w4.alloc (.cells #[] 74) = wA at *
    generalize hgm : w4.heap.size = g0 at *
    clear hwA hgm hOl hb4 hB4 hb7
  case' wayB =>
    go_simp
    have hb7 : Below W.heap.size W (W.drew.alloc (.cells #[] 74)) := hdW.alloc hdW.size _
    have hOm := ownP_made W.drew W.heap.size (Nat.le_refl _)
    refine hK.out _ _ ?_ (fun hHeld => ?_)
    · exact ⟨hT.below hb7, hR.below hb7⟩
    clear hK K hHeld0
    have hHeld0 := hHeld
    clear hHeld
    try simp only [Act.put, List.setIfInBounds_toArray, List.set_cons_zero, List.set_cons_succ]
    refine last.wpAnyL_one (i := 4) (o := { dst := some 7, op := Op.call { callee := Callee.value (Operand.func 77), args := #[Operand.tmp 6], argTypes := #[24] }, type := 24, pos := "l09_shard.go:57", after := #[{ on := 3, ground := Ground.data }], guard := none }) (by kernel_rfl) rfl (fun K hK => ?_)
    refine stepc.step_call1 rfl 77 (.tmp 6) _ rfl (fun _ _ => rfl) (.slice la ln lc) (by kernel_rfl) _ (HCL.out _ hb7) ?_
    rintro e wA ⟨gl, cl, hl, rfl, hOl, hb4⟩
    refine ⟨_, rfl, ?_⟩
    have hBA := hb7.trans (hb4.mono hb7.size)
    have hOlA := hOl.mono (base' := W.heap.size) hb7.size
    have hOmA := hOm.below hb4
    refine hK.out _ _ ?_ (fun hHeld => ?_)
    · exact ⟨hT.below hBA, hR.below hBA⟩
    clear hK K hHeld0
    have hHeld0 := hHeld
    clear hHeld
    obtain ⟨g0, hg0⟩ : ∃ g0, g0 = W.heap.size := ⟨_, rfl⟩
    have hOmA : OwnP wA W.heap.size g0 0 0 [] := by rw [hg0]; exact hOmA
    rw [← hg0]
    clear hOm hOl hb4 hb7 hg0
  all_goals
    try simp only [Act.put, List.setIfInBounds_toArray, List.set_cons_zero, List.set_cons_succ]
    refine last.wpAnyL_one (i := 10) (o := { dst := some 13, op := Op.call { callee := Callee.builtin Builtin.append, args := #[Operand.tmp 10, Operand.tmp 12], argTypes := #[25, 25] }, type := 25, pos := "l09_shard.go:57", after := #[{ on := 7, ground := Ground.data }, { on := 9, ground := Ground.data }, { on := 4, ground := Ground.chain }], guard := none }) (by kernel_rfl) rfl (fun K hK => ?_)
    go_simp
    have hO10 : OwnP wA W.heap.size g0 0 0 s.2.2.2.1 := by rw [HME.out]; exact hOmA
    have hB10 := hBA
    have hOl10 := hOlA
    refine hK.out _ _ ?_ (fun hHeld => ?_)
    · exact ⟨hT.below hB10, hR.below hB10⟩
    clear hK K hHeld0
    have hHeld0 := hHeld
    clear hHeld
    try simp only [Act.put, List.setIfInBounds_toArray, List.set_cons_zero, List.set_cons_succ]
    refine last.wpAnyL_one (i := 13) (o := { dst := some 16, op := Op.call { callee := Callee.value (Operand.func 77), args := #[Operand.tmp 15], argTypes := #[24] }, type := 24, pos := "l09_shard.go:57", after := #[{ on := 12, ground := Ground.data }, { on := 10, ground := Ground.chain }], guard := none }) (by kernel_rfl) rfl (fun K hK => ?_)
    refine stepc.step_call1 rfl 77 (.tmp 15) _ rfl (fun _ _ => rfl) (.slice ha hn hc) (by kernel_rfl) _ (HCH.out _ hB10) ?_
    rintro e w13 ⟨gh, ch, hh, rfl, hOh, hb13⟩
    refine ⟨_, rfl, ?_⟩
    have hB13 := hB10.trans (hb13.mono hB10.size)
    have hR13 := hR.below hB13
    refine hK.out _ _ ?_ (fun hHeld => ?_)
    · exact ⟨hT.below hB13, hR13⟩
    clear hK K hHeld0
    have hHeld0 := hHeld
    clear hHeld
    try simp only [Act.put, List.setIfInBounds_toArray, List.set_cons_zero, List.set_cons_succ]
    refine last.wpAnyL_take (i := 14) (v := (aggSh s.1 s.2.2.1 (some ⟨gl, 0, none⟩) ln cl (some ⟨g0, 0, none⟩) 0 0 (some ⟨gh, 0, none⟩) hn ch)) rfl rfl (by kernel_rfl) (by kernel_rfl) (by kernel_rfl) (by kernel_rfl) (fun _ _ _ h => h) (Or.inl ⟨by rfl, ?_⟩) (by assumption) ?_
    · intro wq hSq; go_simp
    try simp only [Act.put, List.setIfInBounds_toArray, List.set_cons_zero, List.set_cons_succ]
    have z0 := hR13.cell 0 _ rfl
    have z1 := hR13.cell 1 _ rfl
    have z2 := hR13.cell 2 _ rfl
    have z3 := hR13.cell 3 _ rfl
    have z4 := hR13.cell 4 _ rfl
    simp only [List.length_nil, Nat.zero_add] at z0 z1 z2 z3 z4
    have f0 := hR13.fz 0
    have f1 := hR13.fz 1
    have f2 := hR13.fz 2
    have f3 := hR13.fz 3
    have f4 := hR13.fz 4
    refine last.wpAnyL_last (o := { dst := none, op := Op.store 27 (Operand.tmp 2) (Operand.tmp 17), type := 0, pos := "l09_shard.go:57", after := #[{ on := 14, ground := Ground.data }, { on := 13, ground := Ground.chain }, { on := 0, ground := Ground.phase }, { on := 1, ground := Ground.phase }, { on := 2, ground := Ground.phase }, { on := 3, ground := Ground.phase }, { on := 4, ground := Ground.phase }, { on := 5, ground := Ground.phase }, { on := 6, ground := Ground.phase }, { on := 7, ground := Ground.phase }, { on := 8, ground := Ground.phase }, { on := 9, ground := Ground.phase }, { on := 10, ground := Ground.phase }, { on := 11, ground := Ground.phase }, { on := 12, ground := Ground.phase }, { on := 13, ground := Ground.phase }, { on := 14, ground := Ground.phase }], guard := none }) (by kernel_rfl) rfl (by kernel_rfl) (fun K hK => ?_)
    go_simp
    refine hK.out _ _ ?_
    clear hK K
    have hS5 := hR13.set5 (.int .i64 s.1) (.slice (some ⟨gl, 0, none⟩) ln cl) (.int .i64 s.2.2.1) (.slice (some ⟨g0, 0, none⟩) 0 0) (.slice (some ⟨gh, 0, none⟩) hn ch)
    simp only [List.length_nil, Nat.zero_add] at hS5
    have hlo : ∀ k, BlkR (.slice (some ⟨gl, 0, none⟩) ln cl) hl k → k < wA.heap.size := fun k hk => (hOl10.lt k hk).2
    have hhi : ∀ k, BlkR (.slice (some ⟨gh, 0, none⟩) hn ch) hh k → wA.heap.size ≤ k := fun k hk => (hOh.lt k hk).1
    obtain ⟨F, hOS, hFn⟩ := ownSh_of (B := W.heap.size) hid hsu (hOl10.below hb13) (hO10.below hb13) (hOh.mono hB10.size) hlo hhi
    have hOS2 := hOS.keep (w' := _) (fun k hk => hS5.2.block k (hOS.lt k hk) (fun e => by have := hFn k hk; have := Option.some.inj e; omega))
    have hBz := (hB.trans (hB13.mono hB.size)).grown hS5.2 (hB.trans (hB13.mono hB.size)).size (fun j e => by cases e; omega)
    have hzc0 := hS5.1.cell 0 _ rfl
    have hzc1 := hS5.1.cell 1 _ rfl
    have hzc2 := hS5.1.cell 2 _ rfl
    have hzc3 := hS5.1.cell 3 _ rfl
    have hzc4 := hS5.1.cell 4 _ rfl
    simp only [List.length_nil, Nat.zero_add] at hzc0 hzc1 hzc2 hzc3 hzc4
    have hFn2 : ∀ k ∈ F, w.heap.size ≤ k := fun k hk => by have := hFn k hk; omega
    clear z0 z1 z2 z3 z4 f0 f1 f2 f3 f4
    go_wp2_with fail
    refine bodyPost_ret (v := aggSh s.1 s.2.2.1 (some ⟨gl, 0, none⟩) ln cl (some ⟨g0, 0, none⟩) 0 0 (some ⟨gh, 0, none⟩) hn ch) ?_ rfl ⟨_, _, _, _, _, _, F, rfl, hOS2, hFn2, hBz⟩
    simp [results, Tryz.results35, go_sem, hzc0, hzc1, hzc2, hzc3, hzc4]
set_option maxRecDepth 100000 in
set_option maxHeartbeats 4000000 in
theorem copySh_some (la : Option Addr) (ln lc : Nat) (ad : Addr) (mn mc : Nat) (ha : Option Addr) (hn hc : Nat) (s : Shd) (w : World) (h : SeeSh w la ln lc (some ad) mn mc ha hn hc s) (hf : Few s.2.1) (hf2 : Few s.2.2.2.2) (hl1 : ln ≤ 1099511627776) (hl2 : mn ≤ 1099511627776) (hl3 : hn ≤ 1099511627776) :
    Calls Tryz.prog 35 #[aggSh s.1 s.2.2.1 la ln lc (some ad) mn mc ha hn hc] w fun e w' => ∃ gl cl gm cm gh ch F, e = .returned (aggSh s.1 s.2.2.1 (some ⟨gl, 0, none⟩) ln cl (some ⟨gm, 0, none⟩) mn cm (some ⟨gh, 0, none⟩) hn ch) ∧
      OwnSh w' (some ⟨gl, 0, none⟩) ln cl (some ⟨gm, 0, none⟩) mn cm (some ⟨gh, 0, none⟩) hn ch s F ∧ (∀ k ∈ F, w.heap.size ≤ k) ∧ Below w.heap.size w w' := by
  obtain ⟨i0, hif, hz0, hz1, hz2⟩ := info_parts infoP
  obtain ⟨W, hW⟩ : ∃ W, W = (w.alloc (boxSh s.1 s.2.2.1 la ln lc (some ad) mn mc ha hn hc)).alloc (boxSh 0 0 none 0 0 none 0 0 none 0 0) := ⟨_, rfl⟩
  have hba : Below w.heap.size w (w.alloc (boxSh s.1 s.2.2.1 la ln lc (some ad) mn mc ha hn hc)) := (Below.refl _ _).alloc (Nat.le_refl _) _
  have hB : Below w.heap.size w W := by rw [hW]; exact hba.alloc hba.size _
  have hT : BoxIn w.heap.size 27 [] (shVals s.1 s.2.2.1 la ln lc (some ad) mn mc ha hn hc) [] W := by rw [hW]; exact (boxIn_new w _ _).below ((Below.refl _ _).alloc (Nat.le_refl _) _)
  have hR : BoxIn (w.heap.size + 1) 27 [] (shVals 0 0 none 0 0 none 0 0 none 0 0) [] W := by
    rw [hW]
    have := boxIn_new (w.alloc (boxSh s.1 s.2.2.1 la ln lc (some ad) mn mc ha hn hc)) (shVals 0 0 none 0 0 none 0 0 none 0 0) 27
    rwa [show (w.alloc (boxSh s.1 s.2.2.1 la ln lc (some ad) mn mc ha hn hc)).heap.size = w.heap.size + 1 by simp] at this
  have hsW : w.heap.size + 1 < W.heap.size := hR.lt
  have HW := Hid.mk' hW.symm
  clear hW
  have HCL := Hid.mk' (fun wx (hx : Below W.heap.size W wx) => spec_copyRecs la ln lc s.2.1 wx ((h.log.below hB).below hx) hl1 (fun r hr => (hf r hr).1))
  have HCH := Hid.mk' (fun wx (hx : Below W.heap.size W wx) => spec_copyRecs ha hn hc s.2.2.2.2 wx ((h.held.below hB).below hx) hl3 (fun r hr => (hf2 r hr).1))
  have hml := h.map.1
  have hsm := h.map.2.2.1
  have HCM : Hid (∀ wx, Below W.heap.size W wx → ∀ j u, (pairVals s.2.2.2.1)[j]? = some u → wx.cell? (ad.add j) = some u) := by
    intro wx hx
    rcases Nat.eq_zero_or_pos mn with e | e
    · intro j u hj
      have e1 : s.2.2.2.1 = [] := List.eq_nil_of_length_eq_zero (by omega)
      rw [e1] at hj; simp [pairVals] at hj
    · obtain ⟨b, off, ha, _⟩ := h.map.2.2.2 e
      cases ha
      exact cells_pairs ((h.map.below hB).below hx).cells
  have hc3 : 0 + mn ≤ maxLen := by unfold maxLen; omega
  have hc4 : (0 + mn) * 32 ≤ 140737488355328 := by omega
  have hlp : (pairVals s.2.2.2.1).length = mn * 2 := by rw [pairVals_length]; omega
  have hid := h.id
  have hsu := h.sure
  have HML := Hid.mk' hml
  clear h hf hf2 hml
  have hdW : Below W.heap.size W W.drew := (Below.refl _ _).drew
  go_enter Tryz.func35, Tryz.ntmps35
  go_wp2_with fail
  rw [HW.out]
  refine last.wp_region_later (S := fun w' => BoxIn w.heap.size 27 [] (shVals s.1 s.2.2.1 la ln lc (some ad) mn mc ha hn hc) [] w' ∧ BoxIn (w.heap.size + 1) 27 [] (shVals 0 0 none 0 0 none 0 0 none 0 0) [] w') 15 (by kernel_rfl) ⟨hT.below hdW, hR.below hdW⟩ (fun hHeld0 => ?_)
  refine last.wpAnyL_take (i := 0) (v := (.pointer (some ⟨w.heap.size, 0, none⟩))) rfl rfl (by kernel_rfl) (by kernel_rfl) (by kernel_rfl) (by kernel_rfl) (fun _ _ _ h => h) (Or.inl ⟨by rfl, ?_⟩) (by assumption) ?_
  · intro wq hSq; go_simp
  try simp only [Act.put, List.setIfInBounds_toArray, List.set_cons_zero, List.set_cons_succ]
  refine last.wpAnyL_take (i := 1) (v := (.int .i64 s.1)) rfl rfl (by kernel_rfl) (by kernel_rfl) (by kernel_rfl) (by kernel_rfl) (fun _ _ _ h => h) (Or.inl ⟨by rfl, ?_⟩) (by assumption) ?_
  · intro wq hSq; have q := hSq.1.cell 0 _ rfl; simp only [List.length_nil, Nat.zero_add] at q; go_simp
  try simp only [Act.put, List.setIfInBounds_toArray, List.set_cons_zero, List.set_cons_succ]
  refine last.wpAnyL_take (i := 2) (v := (.pointer (some ⟨w.heap.size, 1, none⟩))) rfl rfl (by kernel_rfl) (by kernel_rfl) (by kernel_rfl) (by kernel_rfl) (fun _ _ _ h => h) (Or.inl ⟨by rfl, ?_⟩) (by assumption) ?_
  · intro wq hSq; go_simp
  try simp only [Act.put, List.setIfInBounds_toArray, List.set_cons_zero, List.set_cons_succ]
  refine last.wpAnyL_take (i := 3) (v := (.slice la ln lc)) rfl rfl (by kernel_rfl) (by kernel_rfl) (by kernel_rfl) (by kernel_rfl) (fun _ _ _ h => h) (Or.inl ⟨by rfl, ?_⟩) (by assumption) ?_
  · intro wq hSq; have q := hSq.1.cell 1 _ rfl; simp only [List.length_nil, Nat.zero_add] at q; go_simp
  try simp only [Act.put, List.setIfInBounds_toArray, List.set_cons_zero, List.set_cons_succ]
  refine last.wpAnyL_take (i := 5) (v := (.pointer (some ⟨w.heap.size, 2, none⟩))) rfl rfl (by kernel_rfl) (by kernel_rfl) (by kernel_rfl) (by kernel_rfl) (fun _ _ _ h => h) (Or.inl ⟨by rfl, ?_⟩) (by assumption) ?_
  · intro wq hSq; go_simp
  try simp only [Act.put, List.setIfInBounds_toArray, List.set_cons_zero, List.set_cons_succ]
  refine last.wpAnyL_take (i := 6) (v := (.int .i64 s.2.2.1)) rfl rfl (by kernel_rfl) (by kernel_rfl) (by kernel_rfl) (by kernel_rfl) (fun _ _ _ h => h) (Or.inl ⟨by rfl, ?_⟩) (by assumption) ?_
  · intro wq hSq; have q := hSq.1.cell 2 _ rfl; simp only [List.length_nil, Nat.zero_add] at q; go_simp
  try simp only [Act.put, List.setIfInBounds_toArray, List.set_cons_zero, List.set_cons_succ]
  refine last.wpAnyL_take (i := 8) (v := (.pointer (some ⟨w.heap.size, 3, none⟩))) rfl rfl (by kernel_rfl) (by kernel_rfl) (by kernel_rfl) (by kernel_rfl) (fun _ _ _ h => h) (Or.inl ⟨by rfl, ?_⟩) (by assumption) ?_
  · intro wq hSq; go_simp
  try simp only [Act.put, List.setIfInBounds_toArray, List.set_cons_zero, List.set_cons_succ]
  refine last.wpAnyL_take (i := 9) (v := (.slice (some ad) mn mc)) rfl rfl (by kernel_rfl) (by kernel_rfl) (by kernel_rfl) (by kernel_rfl) (fun _ _ _ h => h) (Or.inl ⟨by rfl, ?_⟩) (by assumption) ?_
  · intro wq hSq; have q := hSq.1.cell 3 _ rfl; simp only [List.length_nil, Nat.zero_add] at q; go_simp
  try simp only [Act.put, List.setIfInBounds_toArray, List.set_cons_zero, List.set_cons_succ]
  refine last.wpAnyL_take (i := 11) (v := (.pointer (some ⟨w.heap.size, 4, none⟩))) rfl rfl (by kernel_rfl) (by kernel_rfl) (by kernel_rfl) (by kernel_rfl) (fun _ _ _ h => h) (Or.inl ⟨by rfl, ?_⟩) (by assumption) ?_
  · intro wq hSq; go_simp
  try simp only [Act.put, List.setIfInBounds_toArray, List.set_cons_zero, List.set_cons_succ]
  refine last.wpAnyL_take (i := 12) (v := (.slice ha hn hc)) rfl rfl (by kernel_rfl) (by kernel_rfl) (by kernel_rfl) (by kernel_rfl) (fun _ _ _ h => h) (Or.inl ⟨by rfl, ?_⟩) (by assumption) ?_
  · intro wq hSq; have q := hSq.1.cell 4 _ rfl; simp only [List.length_nil, Nat.zero_add] at q; go_simp
  try simp only [Act.put, List.setIfInBounds_toArray, List.set_cons_zero, List.set_cons_succ]
  refine last.wpAnyL_two (i := 4) (j := 7) (o := { dst := some 7, op := Op.call { callee := Callee.value (Operand.func 77), args := #[Operand.tmp 6], argTypes := #[24] }, type := 24, pos := "l09_shard.go:57", after := #[{ on := 3, ground := Ground.data }], guard := none }) (o' := { dst := some 10, op := Op.buildSlice 25 0 #[], type := 25, pos := "l09_shard.go:57", after := #[], guard := none }) (by kernel_rfl) rfl rfl (fun K hK => ?wayA) (fun K hK => ?wayB)
  case' wayA =>
    refine stepc.step_call1 rfl 77 (.tmp 6) _ rfl (fun _ _ => rfl) (.slice la ln lc) (by kernel_rfl) _ (HCL.out _ hdW) ?_
    rintro e w4 ⟨gl, cl, hl, rfl, hOl, hb4⟩
    refine ⟨_, rfl, ?_⟩
    have hB4 := hdW.trans (hb4.mono hdW.size)
    refine hK.out _ _ ?_ (fun hHeld => ?_)
    · exact ⟨hT.below hB4, hR.below hB4⟩
    clear hK K hHeld0
    have hHeld0 := hHeld
    clear hHeld
    try simp only [Act.put, List.setIfInBounds_toArray, List.set_cons_zero, List.set_cons_succ]
    refine last.wpAnyL_one (i := 7) (o := { dst := some 10, op := Op.buildSlice 25 0 #[], type := 25, pos := "l09_shard.go:57", after := #[], guard := none }) (by kernel_rfl) rfl (fun K hK => ?_)
    go_simp
    have hb7 : Below w4.heap.size w4 (w4.alloc (.cells #[] 74)) := (Below.refl _ _).alloc (Nat.le_refl _) _
    have hBA := hB4.trans (hb7.mono hB4.size)
    have hOlA := (hOl.below hb7).mono (base' := W.heap.size) hdW.size
    have hOmA := ownP_made w4 W.heap.size hB4.size
    refine hK.out _ _ ?_ (fun hHeld => ?_)
    · exact ⟨hT.below hBA, hR.below hBA⟩
    clear hK K hHeld0
    have hHeld0 := hHeld
    clear hHeld
    generalize hwA : w4.alloc (.cells #[] 74) = wA at *
    generalize hgm : w4.heap.size = g0 at *
    clear hwA hgm hOl hb4 hB4 hb7
  case' wayB =>
    go_simp
    have hb7 : Below W.heap.size W (W.drew.alloc (.cells #[] 74)) := hdW.alloc hdW.size _
    have hOm := ownP_made W.drew W.heap.size (Nat.le_refl _)
    refine hK.out _ _ ?_ (fun hHeld => ?_)
    · exact ⟨hT.below hb7, hR.below hb7⟩
    clear hK K hHeld0
    have hHeld0 := hHeld
    clear hHeld
    try simp only [Act.put, List.setIfInBounds_toArray, List.set_cons_zero, List.set_cons_succ]
    refine last.wpAnyL_one (i := 4) (o := { dst := some 7, op := Op.call { callee := Callee.value (Operand.func 77), args := #[Operand.tmp 6], argTypes := #[24] }, type := 24, pos := "l09_shard.go:57", after := #[{ on := 3, ground := Ground.data }], guard := none }) (by kernel_rfl) rfl (fun K hK => ?_)
    refine stepc.step_call1 rfl 77 (.tmp 6) _ rfl (fun _ _ => rfl) (.slice la ln lc) (by kernel_rfl) _ (HCL.out _ hb7) ?_
    rintro e wA ⟨gl, cl, hl, rfl, hOl, hb4⟩
    refine ⟨_, rfl, ?_⟩
    have hBA := hb7.trans (hb4.mono hb7.size)
    have hOlA := hOl.mono (base' := W.heap.size) hb7.size
    have hOmA := hOm.below hb4
    refine hK.out _ _ ?_ (fun hHeld => ?_)
    · exact ⟨hT.below hBA, hR.below hBA⟩
    clear hK K hHeld0
    have hHeld0 := hHeld
    clear hHeld
    obtain ⟨g0, hg0⟩ : ∃ g0, g0 = W.heap.size := ⟨_, rfl⟩
    have hOmA : OwnP wA W.heap.size g0 0 0 [] := by rw [hg0]; exact hOmA
    rw [← hg0]
    clear hOm hOl hb4 hb7 hg0
  all_goals
    try simp only [Act.put, List.setIfInBounds_toArray, List.set_cons_zero, List.set_cons_succ]
    refine last.wpAnyL_one (i := 10) (o := { dst := some 13, op := Op.call { callee := Callee.builtin Builtin.append, args := #[Operand.tmp 10, Operand.tmp 12], argTypes := #[25, 25] }, type := 25, pos := "l09_shard.go:57", after := #[{ on := 7, ground := Ground.data }, { on := 9, ground := Ground.data }, { on := 4, ground := Ground.chain }], guard := none }) (by kernel_rfl) rfl (fun K hK => ?_)
    refine step_append_own rfl (.tmp 10) (.tmp 12) 25 rfl W.heap.size 74 i0 (.agg #[.string ⟨#[]⟩, .string ⟨#[]⟩]) 2 32 Tryz.underlying25 hif hz0 hz1 hz2 rfl (by decide) _ _ _ rfl hOmA.2.2 ad mn mc (pairVals s.2.2.2.1) rfl hlp (HCM.out _ hBA) (pairVals_oneCell _) hc3 hc4 hBA.size ?_
    intro v10 w10 hown hgrow hnn
    have hnn' : ¬ v10 = .slice none 0 0 := fun e => by have := (hnn.1 e).1; cases this
    obtain ⟨g10, c10, hv, hO10⟩ := ownP_val HML.out hsm hnn' (by have h9 := hown; simp only [pairVals, List.flatMap_nil, List.nil_append, Nat.zero_add] at h9; exact h9)
    subst hv
    have hgr : wA.grownBy w10 (some g0) := hgrow
    have hB10 := hBA.grown hgr hBA.size (fun k e => by cases e; exact hOmA.lt.1)
    have hOl10 := hOlA.grown hgr (hOlA.notPair hOmA)
    refine hK.out _ _ ?_ (fun hHeld => ?_)
    · exact ⟨hT.below hB10, hR.below hB10⟩
    clear hK K hHeld0
    have hHeld0 := hHeld
    clear hHeld
    clear hown hgrow hgr hnn hnn'
    try simp only [Act.put, List.setIfInBounds_toArray, List.set_cons_zero, List.set_cons_succ]
    refine last.wpAnyL_one (i := 13) (o := { dst := some 16, op := Op.call { callee := Callee.value (Operand.func 77), args := #[Operand.tmp 15], argTypes := #[24] }, type := 24, pos := "l09_shard.go:57", after := #[{ on := 12, ground := Ground.data }, { on := 10, ground := Ground.chain }], guard := none }) (by kernel_rfl) rfl (fun K hK => ?_)
    refine stepc.step_call1 rfl 77 (.tmp 15) _ rfl (fun _ _ => rfl) (.slice ha hn hc) (by kernel_rfl) _ (HCH.out _ hB10) ?_
    rintro e w13 ⟨gh, ch, hh, rfl, hOh, hb13⟩
    refine ⟨_, rfl, ?_⟩
    have hB13 := hB10.trans (hb13.mono hB10.size)
    have hR13 := hR.below hB13
    refine hK.out _ _ ?_ (fun hHeld => ?_)
    · exact ⟨hT.below hB13, hR13⟩
    clear hK K hHeld0
    have hHeld0 := hHeld
    clear hHeld
    try simp only [Act.put, List.setIfInBounds_toArray, List.set_cons_zero, List.set_cons_succ]
    refine last.wpAnyL_take (i := 14) (v := (aggSh s.1 s.2.2.1 (some ⟨gl, 0, none⟩) ln cl (some ⟨g10, 0, none⟩) mn c10 (some ⟨gh, 0, none⟩) hn ch)) rfl rfl (by kernel_rfl) (by kernel_rfl) (by kernel_rfl) (by kernel_rfl) (fun _ _ _ h => h) (Or.inl ⟨by rfl, ?_⟩) (by assumption) ?_
    · intro wq hSq; go_simp
    try simp only [Act.put, List.setIfInBounds_toArray, List.set_cons_zero, List.set_cons_succ]
    have z0 := hR13.cell 0 _ rfl
    have z1 := hR13.cell 1 _ rfl
    have z2 := hR13.cell 2 _ rfl
    have z3 := hR13.cell 3 _ rfl
    have z4 := hR13.cell 4 _ rfl
    simp only [List.length_nil, Nat.zero_add] at z0 z1 z2 z3 z4
    have f0 := hR13.fz 0
    have f1 := hR13.fz 1
    have f2 := hR13.fz 2
    have f3 := hR13.fz 3
    have f4 := hR13.fz 4
    refine last.wpAnyL_last (o := { dst := none, op := Op.store 27 (Operand.tmp 2) (Operand.tmp 17), type := 0, pos := "l09_shard.go:57", after := #[{ on := 14, ground := Ground.data }, { on := 13, ground := Ground.chain }, { on := 0, ground := Ground.phase }, { on := 1, ground := Ground.phase }, { on := 2, ground := Ground.phase }, { on := 3, ground := Ground.phase }, { on := 4, ground := Ground.phase }, { on := 5, ground := Ground.phase }, { on := 6, ground := Ground.phase }, { on := 7, ground := Ground.phase }, { on := 8, ground := Ground.phase }, { on := 9, ground := Ground.phase }, { on := 10, ground := Ground.phase }, { on := 11, ground := Ground.phase }, { on := 12, ground := Ground.phase }, { on := 13, ground := Ground.phase }, { on := 14, ground := Ground.phase }], guard := none }) (by kernel_rfl) rfl (by kernel_rfl) (fun K hK => ?_)
    go_simp
    refine hK.out _ _ ?_
    clear hK K
    have hS5 := hR13.set5 (.int .i64 s.1) (.slice (some ⟨gl, 0, none⟩) ln cl) (.int .i64 s.2.2.1) (.slice (some ⟨g10, 0, none⟩) mn c10) (.slice (some ⟨gh, 0, none⟩) hn ch)
    simp only [List.length_nil, Nat.zero_add] at hS5
    have hlo : ∀ k, BlkR (.slice (some ⟨gl, 0, none⟩) ln cl) hl k → k < w10.heap.size := fun k hk => (hOl10.lt k hk).2
    have hhi : ∀ k, BlkR (.slice (some ⟨gh, 0, none⟩) hn ch) hh k → w10.heap.size ≤ k := fun k hk => (hOh.lt k hk).1
    obtain ⟨F, hOS, hFn⟩ := ownSh_of (B := W.heap.size) hid hsu (hOl10.below hb13) (hO10.below hb13) (hOh.mono hB10.size) hlo hhi
    have hOS2 := hOS.keep (w' := _) (fun k hk => hS5.2.block k (hOS.lt k hk) (fun e => by have := hFn k hk; have := Option.some.inj e; omega))
    have hBz := (hB.trans (hB13.mono hB.size)).grown hS5.2 (hB.trans (hB13.mono hB.size)).size (fun j e => by cases e; omega)
    have hzc0 := hS5.1.cell 0 _ rfl
    have hzc1 := hS5.1.cell 1 _ rfl
    have hzc2 := hS5.1.cell 2 _ rfl
    have hzc3 := hS5.1.cell 3 _ rfl
    have hzc4 := hS5.1.cell 4 _ rfl
    simp only [List.length_nil, Nat.zero_add] at hzc0 hzc1 hzc2 hzc3 hzc4
    have hFn2 : ∀ k ∈ F, w.heap.size ≤ k := fun k hk => by have := hFn k hk; omega
    clear z0 z1 z2 z3 z4 f0 f1 f2 f3 f4
    go_wp2_with fail
    refine bodyPost_ret (v := aggSh s.1 s.2.2.1 (some ⟨gl, 0, none⟩) ln cl (some ⟨g10, 0, none⟩) mn c10 (some ⟨gh, 0, none⟩) hn ch) ?_ rfl ⟨_, _, _, _, _, _, F, rfl, hOS2, hFn2, hBz⟩
    simp [results, Tryz.results35, go_sem, hzc0, hzc1, hzc2, hzc3, hzc4]
theorem spec_copySh (la : Option Addr) (ln lc : Nat) (ma : Option Addr) (mn mc : Nat) (ha : Option Addr) (hn hc : Nat) (s : Shd) (w : World) (h : SeeSh w la ln lc ma mn mc ha hn hc s) (hf : Few s.2.1) (hf2 : Few s.2.2.2.2) (hl1 : ln ≤ 1099511627776) (hl2 : mn ≤ 1099511627776) (hl3 : hn ≤ 1099511627776) :
    Calls Tryz.prog 35 #[aggSh s.1 s.2.2.1 la ln lc ma mn mc ha hn hc] w fun e w' => ∃ gl cl gm cm gh ch F, e = .returned (aggSh s.1 s.2.2.1 (some ⟨gl, 0, none⟩) ln cl (some ⟨gm, 0, none⟩) mn cm (some ⟨gh, 0, none⟩) hn ch) ∧
      OwnSh w' (some ⟨gl, 0, none⟩) ln cl (some ⟨gm, 0, none⟩) mn cm (some ⟨gh, 0, none⟩) hn ch s F ∧ (∀ k ∈ F, w.heap.size ≤ k) ∧ Below w.heap.size w w' := by
  cases ma with
  | none => exact copySh_nil la ln lc mn mc ha hn hc s w h hf hf2 hl1 hl2 hl3
  | some ad => exact copySh_some la ln lc ad mn mc ha hn hc s w h hf hf2 hl1 hl2 hl3
end Go.Proofs.YteniflajiklffaaGreatDoor.recs

namespace Go.Proofs.YteniflajiklffaaGreatDoor.recs
open Go Go.RowKit Go.Proofs.YteniflajiklffaaGreatDoor.base Go.Proofs.YteniflajiklffaaGreatDoor.pairs Go.Proofs.YteniflajiklffaaGreatDoor.ords Go.Proofs.YteniflajiklffaaGreatDoor.helps Go.Proofs.YteniflajiklffaaGreatDoor.help Go.Proofs.YteniflajiklffaaGreatDoor.lay
set_option linter.unusedVariables false
set_option linter.unusedSimpArgs false

def MadePost (w : World) (id sure : Int) (la : Option Addr) (ln lc : Nat) (t : Option St) (e : Ending) (w' : World) : Prop :=
  ∃ (g np cp g2 c2 : Nat) (hs : List Value), e = .returned (.tuple #[aggSh id sure la ln lc (some ⟨g, 0, none⟩) np cp (some ⟨g2, 0, none⟩) (resH t).length c2, .bool t.isSome]) ∧
    OwnP w' w.heap.size g np cp (resM t) ∧ OwnR w' w.heap.size (.slice (some ⟨g2, 0, none⟩) (resH t).length c2) (resH t) hs ∧ ¬ BlkR (.slice (some ⟨g2, 0, none⟩) (resH t).length c2) hs g ∧ Below w.heap.size w w'
set_option maxRecDepth 100000 in
set_option maxHeartbeats 1000000 in
theorem i_shardOf (id sure : Int) (la : Option Addr) (ln lc : Nat) (log : List Rc) (w : World) (h : SlR w la ln log) (hpl : PlainR w la ln) (hf : Few log) (hl : ln ≤ 1099511627776 / 16) :
    Calls Tryz.prog 40 #[.int .i64 id, .slice la ln lc, .int .i64 sure] w fun e w' => MadePost w id sure la ln lc (replay log) e w' := by
  obtain ⟨W, hW⟩ : ∃ W, w.alloc (boxSh 0 0 none 0 0 none 0 0 none 0 0) = W := ⟨_, rfl⟩
  have hB : Below w.heap.size w W := by rw [← hW]; exact (Below.refl _ _).alloc (Nat.le_refl _) _
  have hbx : BoxIn w.heap.size 27 [] (shVals 0 0 none 0 0 none 0 0 none 0 0) [] W := by rw [← hW]; exact boxIn_new w _ _
  have hplW : PlainR W la ln := fun b off e i hi pa pl pc hc => by
    rcases Nat.eq_zero_or_pos ln with e0 | e0
    · omega
    · obtain ⟨b', off', e2, hcl⟩ := h.2.2.2 e0
      rw [e] at e2
      simp only [Option.some.injEq, Addr.mk.injEq, and_true] at e2
      obtain ⟨rfl, rfl⟩ := e2
      have hlt : b < w.heap.size := World.block_lt_of_cell? w _ (hcl i (by have := h.1; omega)).1
      exact hpl b off e i hi pa pl pc ((hB.cell (p := ⟨b, off + i * 3 + 2, none⟩) hlt).symm.trans hc)
  have HRP := Hid.mk' (impl_replay la ln lc log W (h.below hB) hplW hl hf)
  have HW := Hid.mk' hW
  have hXl := hbx.lt
  clear hW
  generalize replay log = t at *
  go_enter Tryz.func40, Tryz.ntmps40
  go_wp2_with fail
  rw [HW.out]
  refine HRP.out.mono ?_
  rintro e w2 ⟨g, np, cp, g2, c2, hs, rfl, hO, hOR, hnb, hb2⟩
  have hR := hbx.below hb2
  have hg := hO.lt
  have z0 := hR.cell 0 _ rfl
  have z1 := hR.cell 1 _ rfl
  have z2 := hR.cell 2 _ rfl
  have z3 := hR.cell 3 _ rfl
  have z4 := hR.cell 4 _ rfl
  simp only [List.length_nil, Nat.zero_add] at z0 z1 z2 z3 z4
  have f0 := hR.fz 0
  have f1 := hR.fz 1
  have f2 := hR.fz 2
  have f3 := hR.fz 3
  have f4 := hR.fz 4
  have hS5 := hR.set5 (.int .i64 id) (.slice la ln lc) (.int .i64 sure) (.slice (some ⟨g, 0, none⟩) np cp) (.slice (some ⟨g2, 0, none⟩) (resH t).length c2)
  simp only [List.length_nil, Nat.zero_add] at hS5
  have hB2 := hB.trans (hb2.mono hB.size)
  have hBz := hB2.grown hS5.2 hB2.size (fun j e => by cases e; exact Nat.le_refl _)
  have hOz := (hO.mono (base' := w.heap.size) hB.size).grown hS5.2 (fun e => by have := Option.some.inj e; omega)
  have hORz := (hOR.mono (base' := w.heap.size) hB.size).grown hS5.2 (fun e => by have := (hOR.lt _ e).1; omega)
  have hzc0 := hS5.1.cell 0 _ rfl
  have hzc1 := hS5.1.cell 1 _ rfl
  have hzc2 := hS5.1.cell 2 _ rfl
  have hzc3 := hS5.1.cell 3 _ rfl
  have hzc4 := hS5.1.cell 4 _ rfl
  simp only [List.length_nil, Nat.zero_add] at hzc0 hzc1 hzc2 hzc3 hzc4
  have HP : Hid (MadePost w id sure la ln lc t (.returned (.tuple #[aggSh id sure la ln lc (some ⟨g, 0, none⟩) np cp (some ⟨g2, 0, none⟩) (resH t).length c2, .bool t.isSome])) _) := ⟨g, np, cp, g2, c2, hs, rfl, hOz, hORz, hnb, hBz⟩
  clear hOz hORz hBz hS5 hO hOR HRP HW
  go_wp2_with fail
  refine bodyPost_ret (v := .tuple #[aggSh id sure la ln lc (some ⟨g, 0, none⟩) np cp (some ⟨g2, 0, none⟩) (resH t).length c2, .bool t.isSome]) ?_ rfl HP.out
  simp [results, Tryz.results40, go_sem, hzc0, hzc1, hzc2, hzc3, hzc4]
theorem plain_below {w w' : World} {a : Option Addr} {n : Nat} {l : List Rc} (h : SlR w a n l) (hp : PlainR w a n) (hB : Below w.heap.size w w') : PlainR w' a n := fun b off e i hi pa pl pc hc => by
  rcases Nat.eq_zero_or_pos n with e0 | e0
  · omega
  · obtain ⟨b', off', e2, hcl⟩ := h.2.2.2 e0
    rw [e] at e2
    simp only [Option.some.injEq, Addr.mk.injEq, and_true] at e2
    obtain ⟨rfl, rfl⟩ := e2
    have hlt : b < w.heap.size := World.block_lt_of_cell? w _ (hcl i (by have := h.1; omega)).1
    exact hp b off e i hi pa pl pc ((hB.cell (p := ⟨b, off + i * 3 + 2, none⟩) hlt).symm.trans hc)
theorem shardOk_few {s : Shd} (h : 300 < s.2.1.length + s.2.2.2.2.length) : shardOk s = false := by
  cases hk : shardOk s with
  | false => rfl
  | true => have := ((shardOk_iff s).1 hk).room; omega
theorem shardOk_all {s : Shd} (h1 : 0 ≤ s.1 ∧ s.1 ≤ 7) (h2 : s.2.1.length + s.2.2.2.2.length ≤ 300) (h3 : 0 ≤ s.2.2.1 ∧ s.2.2.1 ≤ (s.2.1.length : Int)) :
    shardOk s = ((replay s.2.1).isSome && decide (s.2.2.2.1 = resM (replay s.2.1)) && decide (s.2.2.2.2 = resH (replay s.2.1))) := by
  rw [shardOk_yes h1 (by omega) h3, Bool.eq_iff_iff]
  simp only [Bool.and_eq_true, decide_eq_true_iff]
  constructor
  · rintro ⟨⟨⟨a, b⟩, c⟩, d⟩
    exact ⟨⟨a, b.symm⟩, c.symm⟩
  · rintro ⟨⟨a, b⟩, c⟩
    exact ⟨⟨⟨a, b.symm⟩, c.symm⟩, by rw [← c]; exact h2⟩
set_option maxRecDepth 100000 in
set_option maxHeartbeats 2000000 in
theorem impl_shardOk (la : Option Addr) (ln lc : Nat) (ma : Option Addr) (mn mc : Nat) (ha : Option Addr) (hn hc : Nat) (s : Shd) (w : World) (h : SeeSh w la ln lc ma mn mc ha hn hc s) (hpl : PlainR w la ln) (hf : Few s.2.1) (hl1 : ln ≤ 1099511627776) (hl3 : hn ≤ 1099511627776) :
    Calls Tryz.prog 13 #[aggSh s.1 s.2.2.1 la ln lc ma mn mc ha hn hc] w fun e w' => e = .returned (.bool (shardOk s)) ∧ Below w.heap.size w w' := by
  have hll := h.log.1
  have hhl := h.held.1
  obtain ⟨W, hW⟩ : ∃ W, w.alloc (boxSh s.1 s.2.2.1 la ln lc ma mn mc ha hn hc) = W := ⟨_, rfl⟩
  have hB : Below w.heap.size w W := by rw [← hW]; exact (Below.refl _ _).alloc (Nat.le_refl _) _
  have hbx : BoxIn w.heap.size 27 [] (shVals s.1 s.2.2.1 la ln lc ma mn mc ha hn hc) [] W := by rw [← hW]; exact boxIn_new w _ _
  have HI1 := Hid.mk' (fun wx => i_idOk s.1 wx)
  have HW := Hid.mk' hW
  have c0 := hbx.cell 0 _ rfl
  have c1 := hbx.cell 1 _ rfl
  have c2 := hbx.cell 2 _ rfl
  have c4 := hbx.cell 4 _ rfl
  simp only [List.length_nil, Nat.zero_add] at c0 c1 c2 c4
  rw [← hW] at c0 c1 c2 c4
  have hXl := hbx.lt
  generalize hR : shardOk s = R
  by_cases h1 : 0 ≤ s.1 ∧ s.1 ≤ 7
  · rw [decide_eq_true h1] at HI1
    by_cases h2 : s.2.2.1 < 0
    · have HR2 : Hid (R = false) := by show _ = _; rw [← hR]; exact shardOk_no3 (by omega)
      clear hR hW h h1 hll hhl
      go_enter Tryz.func13, Tryz.ntmps13
      go_wp2_with fail
      refine (HI1.out _).mono ?_
      rintro e w1 ⟨rfl, rfl⟩
      go_wp2_with fail
      go_ret
      rw [HR2.out, HW.out]
      exact ⟨rfl, hB⟩
    · by_cases h3 : (ln : Int) < s.2.2.1
      · have HR2 : Hid (R = false) := by show _ = _; rw [← hR]; exact shardOk_no3 (by omega)
        clear hR hW h h1 hll hhl
        go_enter Tryz.func13, Tryz.ntmps13
        go_wp2_with fail
        refine (HI1.out _).mono ?_
        rintro e w1 ⟨rfl, rfl⟩
        go_wp2_with fail
        go_ret
        rw [HR2.out, HW.out]
        exact ⟨rfl, hB⟩
      · by_cases h4 : 300 < ln + hn
        · have HR2 : Hid (R = false) := by show _ = _; rw [← hR]; exact shardOk_few (by omega)
          have h4i : (300 : Int) < (ln : Int) + (hn : Int) := by omega
          clear hR hW h h1 hll hhl h4
          go_enter Tryz.func13, Tryz.ntmps13
          go_wp2_with fail
          refine (HI1.out _).mono ?_
          rintro e w1 ⟨rfl, rfl⟩
          go_wp2_with fail
          go_ret
          rw [HR2.out, HW.out]
          exact ⟨rfl, hB⟩
        · have h4i : ¬ (300 : Int) < (ln : Int) + (hn : Int) := by omega
          have HRR := Hid.mk' (shardOk_all (s := s) h1 (by omega) (by omega))
          have HMK := Hid.mk' (i_shardOf s.1 s.2.2.1 la ln lc s.2.1 W (h.log.below hB) (plain_below h.log hpl hB) hf (by omega))
          have hS := h
          generalize hT : replay s.2.1 = t at *
          have HR : Hid (R = (t.isSome && decide (s.2.2.2.1 = resM t) && decide (s.2.2.2.2 = resH t))) := by show _ = _; rw [← hR]; exact HRR.out
          clear hR HRR hW h h1 hll hhl h4 hT
          go_enter Tryz.func13, Tryz.ntmps13
          go_wp2_with fail
          refine (HI1.out _).mono ?_
          rintro e w1 ⟨rfl, rfl⟩
          go_wp2_with fail
          rw [HW.out]
          refine HMK.out.mono ?_
          rintro e w2 ⟨g, np, cp, g2, c2', hs, rfl, hO, hOR, _, hb2⟩
          obtain ⟨W3, hW3⟩ : ∃ W3, w2.alloc (boxSh s.1 s.2.2.1 la ln lc (some ⟨g, 0, none⟩) np cp (some ⟨g2, 0, none⟩) (resH t).length c2') = W3 := ⟨_, rfl⟩
          have hb3 : Below w2.heap.size w2 W3 := by rw [← hW3]; exact (Below.refl _ _).alloc (Nat.le_refl _) _
          have hbx3 := (hbx.below hb2).below hb3
          have hby3 : BoxIn w2.heap.size 27 [] (shVals s.1 s.2.2.1 la ln lc (some ⟨g, 0, none⟩) np cp (some ⟨g2, 0, none⟩) (resH t).length c2') [] W3 := by rw [← hW3]; exact boxIn_new w2 _ _
          have hB2 := hB.trans (hb2.mono hB.size)
          have hB3 := hB2.trans (hb3.mono hB2.size)
          have d3 := hbx3.cell 3 _ rfl
          have d4 := hbx3.cell 4 _ rfl
          have e3 := hby3.cell 3 _ rfl
          have e4 := hby3.cell 4 _ rfl
          simp only [List.length_nil, Nat.zero_add] at d3 d4 e3 e4
          rw [← hW3] at d3 d4 e3 e4
          have HW3 := Hid.mk' hW3
          have HSP := Hid.mk' (eq_pairs ma (some ⟨g, 0, none⟩) mn mc np cp s.2.2.2.1 (resM t) W3 (hS.map.below hB3) (hO.below hb3).sl)
          have HSR := Hid.mk' (fun wx (hx : Below W3.heap.size W3 wx) => eq_recs ha (some ⟨g2, 0, none⟩) hn hc _ c2' s.2.2.2.2 (resH t) wx ((hS.held.below hB3).below hx) ((hOR.below hb3).sl.below hx))
          clear HMK HI1 HW c0 c1 c2 c4 hO hOR hW3
          cases hts : t.isSome with
          | false =>
            have HR2 : Hid (R = false) := by show _ = _; rw [HR.out, hts]; rfl
            clear HR HSP HSR
            go_wp2_with fail
            go_ret
            rw [HR2.out, HW3.out]
            exact ⟨rfl, hB3⟩
          | true =>
            have hbd : ∀ n, Below W3.heap.size W3 (W3.drewN n) := fun n => below_drewN (Below.refl _ _) n
            by_cases q1 : s.2.2.2.1 = resM t
            · rw [decide_eq_true q1] at HSP
              have HR2 : Hid (R = decide (s.2.2.2.2 = resH t)) := by show _ = _; rw [HR.out, hts, decide_eq_true q1]; rfl
              clear HR q1
              go_wp2_with fail
              rw [HW3.out]
              refine HSP.out.mono ?_
              rintro e w4 ⟨rfl, n4, rfl⟩
              have k4 := (hbx3.below (hbd n4)).cell 4 _ rfl
              have m4 := (hby3.below (hbd n4)).cell 4 _ rfl
              simp only [List.length_nil, Nat.zero_add] at k4 m4
              go_wp2_with fail
              refine (HSR.out _ (hbd n4)).mono ?_
              rintro e w5 ⟨rfl, hb5⟩
              have hB5 := hB3.trans ((hbd n4).mono hB3.size) |>.trans (hb5.mono (Nat.le_trans hB3.size (hbd n4).size))
              clear HSP HSR d3 d4 e3 e4 k4 m4
              go_wp2_with fail
              go_ret
              rw [HR2.out]
              exact ⟨rfl, hB5⟩
            · rw [decide_eq_false q1] at HSP
              have HR2 : Hid (R = false) := by show _ = _; rw [HR.out, decide_eq_false q1]; simp
              clear HR q1
              go_wp2_with fail
              rw [HW3.out]
              refine HSP.out.mono ?_
              rintro e w4 ⟨rfl, n4, rfl⟩
              have hB5 := hB3.trans ((hbd n4).mono hB3.size)
              clear HSP HSR d3 d4 e3 e4
              go_wp2_with fail
              go_ret
              rw [HR2.out]
              exact ⟨rfl, hB5⟩
  · rw [decide_eq_false h1] at HI1
    have HR2 : Hid (R = false) := by show _ = _; rw [← hR]; exact shardOk_no1 h1
    clear hR hW h h1 hll hhl
    go_enter Tryz.func13, Tryz.ntmps13
    go_wp2_with fail
    refine (HI1.out _).mono ?_
    rintro e w1 ⟨rfl, rfl⟩
    go_wp2_with fail
    go_ret
    rw [HR2.out, HW.out]
    exact ⟨rfl, hB⟩
end Go.Proofs.YteniflajiklffaaGreatDoor.recs
