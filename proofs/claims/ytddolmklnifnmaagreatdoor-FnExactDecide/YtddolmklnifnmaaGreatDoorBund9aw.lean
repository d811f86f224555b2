/- The laws' own functions on shards: copies and marks. The specification's shard: how it is with a transaction, and how many keys there are. The program's shard: what is alike, and whether it is right. -/
import Derived.Test.YtddolmklnifnmaaGreatDoorBund9av
import Derived.Test.YtddolmklnifnmaaGreatDoorBund9au
import Derived.Test.YtddolmklnifnmaaGreatDoorBund9al
namespace Go.Proofs.YtddolmklnifnmaaGreatDoor.recs
open Go Go.RowKit Go.Proofs.YtddolmklnifnmaaGreatDoor.base Go.Proofs.YtddolmklnifnmaaGreatDoor.pairs Go.Proofs.YtddolmklnifnmaaGreatDoor.ords Go.Proofs.YtddolmklnifnmaaGreatDoor.helps Go.Proofs.YtddolmklnifnmaaGreatDoor.help Go.Proofs.YtddolmklnifnmaaGreatDoor.lay
set_option linter.unusedVariables false
set_option linter.unusedSimpArgs false

set_option maxRecDepth 100000 in
set_option maxHeartbeats 4000000 in
theorem toShard (la : Option Addr) (ln lc : Nat) (ma : Option Addr) (mn mc : Nat) (ha : Option Addr) (hn hc : Nat) (s : Shd) (w : World) (h : SeeSh w la ln lc ma mn mc ha hn hc s) (hf : Few s.2.1) (hf2 : Few s.2.2.2.2) (hl1 : ln ≤ 1099511627776) (hl2 : mn ≤ 1099511627776) (hl3 : hn ≤ 1099511627776) :
    Calls Tryz.prog 20 #[aggSh s.1 s.2.2.1 la ln lc ma mn mc ha hn hc] w fun e w' => ∃ gl gm gh F, e = .returned (aggSh s.1 s.2.2.1 (some ⟨gl, 0, none⟩) ln ln (some ⟨gm, 0, none⟩) mn mn (some ⟨gh, 0, none⟩) hn hn) ∧
      OwnSh w' (some ⟨gl, 0, none⟩) ln ln (some ⟨gm, 0, none⟩) mn mn (some ⟨gh, 0, none⟩) hn hn s F ∧ (∀ k ∈ F, w.heap.size ≤ k) ∧ Below w.heap.size w w' := by
  obtain ⟨W1, hW1⟩ : ∃ W1, w.alloc (.cells #[.int .i64 s.1, .slice la ln lc, .int .i64 s.2.2.1, .slice ma mn mc, .slice ha hn hc] 46) = W1 := ⟨_, rfl⟩
  have hb1 : Below w.heap.size w W1 := by rw [← hW1]; exact (Below.refl _ _).alloc (Nat.le_refl _) _
  have hA1 : BoxIn w.heap.size 46 [] (shVals s.1 s.2.2.1 la ln lc ma mn mc ha hn hc) [] W1 := by rw [← hW1]; exact boxIn_new w _ _
  have hs1 : W1.heap.size = w.heap.size + 1 := by rw [← hW1]; simp
  obtain ⟨W2, hW2⟩ : ∃ W2, W1.alloc (boxSh 0 0 none 0 0 none 0 0 none 0 0) = W2 := ⟨_, rfl⟩
  have hb2 : Below W1.heap.size W1 W2 := by rw [← hW2]; exact (Below.refl _ _).alloc (Nat.le_refl _) _
  have hR2 : BoxIn (w.heap.size + 1) 27 [] (shVals 0 0 none 0 0 none 0 0 none 0 0) [] W2 := by rw [← hW2, ← hs1]; exact boxIn_new W1 _ _
  have hs2 : W2.heap.size = w.heap.size + 1 + 1 := by rw [← hW2]; simp [hs1]
  obtain ⟨W, hW⟩ : ∃ W, W2.alloc (boxSh s.1 0 none 0 0 none 0 0 none 0 0) = W := ⟨_, rfl⟩
  have hb3 : Below W2.heap.size W2 W := by rw [← hW]; exact (Below.refl _ _).alloc (Nat.le_refl _) _
  have hO3 : BoxIn (w.heap.size + 1 + 1) 27 [] (shVals s.1 0 none 0 0 none 0 0 none 0 0) [] W := by rw [← hW, ← hs2]; exact boxIn_new W2 _ _
  have hA3 := (hA1.below hb2).below hb3
  have hR3 := hR2.below hb3
  have hB := (hb1.trans (hb2.mono hb1.size)).trans (hb3.mono (Nat.le_trans hb1.size hb2.size))
  have HWW : Hid (((w.alloc (.cells #[.int .i64 s.1, .slice la ln lc, .int .i64 s.2.2.1, .slice ma mn mc, .slice ha hn hc] 46)).alloc (boxSh 0 0 none 0 0 none 0 0 none 0 0)).alloc (boxSh s.1 0 none 0 0 none 0 0 none 0 0) = W) := by show _ = _; rw [hW1, hW2, hW]
  have H1 := Hid.mk' (toRecS la ln lc s.2.1 W (h.log.below hB) hl1 (fun r hr => (hf r hr).1))
  have H2 := Hid.mk' (fun wx (hx : Below w.heap.size w wx) => toPairS ma mn mc s.2.2.2.1 wx (h.map.below hx) hl2)
  have H3 := Hid.mk' (fun wx (hx : Below w.heap.size w wx) => toRecS ha hn hc s.2.2.2.2 wx (h.held.below hx) hl3 (fun r hr => (hf2 r hr).1))
  have hid := h.id
  have hsu := h.sure
  have c1 := hA3.cell 1 _ rfl
  simp only [List.length_nil, Nat.zero_add] at c1
  rw [← HWW.out] at c1
  have hOl := hO3.lt
  clear hW1 hW2 hW hb1 hb2 hb3 hA1 hR2 hs1 hs2 h hf hf2
  go_enter Tryz.func20, Tryz.ntmps20
  go_wp2_with fail
  rw [HWW.out]
  refine H1.out.mono ?_
  rintro e w1 ⟨gl, hl, rfl, hOl1, hb1⟩
  have hB1 := hB.trans (hb1.mono hB.size)
  have hO1 := hO3.below hb1
  have hA1 := hA3.below hb1
  have hR1 := hR3.below hb1
  have n1 := hO1.set 1 (by simp [shVals]) (.slice (some ⟨gl, 0, none⟩) ln ln)
  have n2 := n1.1.set 2 (by simp [shVals]) (.int .i64 s.2.2.1)
  simp only [List.length_nil, Nat.zero_add] at n1 n2
  have g12 := grownBy_trans n1.2 n2.2
  have u1 := hO1.cell 1 _ rfl
  have v1 := hO1.fz 1
  have u2 := n1.1.cell 2 _ rfl
  have v2 := n1.1.fz 2
  have t2 := (hA1.grown n1.2 (by simp; omega)).cell 2 _ rfl
  have t3 := (hA1.grown g12 (by simp; omega)).cell 3 _ rfl
  simp only [List.length_nil, Nat.zero_add] at u1 u2 t2 t3
  have hB2 := hB1.grown g12 hB1.size (fun k e => by cases e; omega)
  have hR2 := hR1.grown g12 (by simp)
  have hA2 := hA1.grown g12 (by simp; omega)
  have hOl2 := hOl1.grown g12 (fun e => by have := (hOl1.lt _ e).1; omega)
  have H2' := Hid.mk' (H2.out _ hB2)
  have hO2 : BoxIn (w.heap.size + 1 + 1) 27 [] (shVals s.1 s.2.2.1 (some ⟨gl, 0, none⟩) ln ln none 0 0 none 0 0) [] _ := n2.1
  clear c1 H1 H2
  go_wp2_with fail
  refine H2'.out.mono ?_
  generalize (w1.setCell ⟨w.heap.size + 1 + 1, 1, none⟩ (.slice (some ⟨gl, 0, none⟩) ln ln)).setCell ⟨w.heap.size + 1 + 1, 2, none⟩ (.int .i64 s.2.2.1) = w2 at *
  rintro e w3 ⟨gm, rfl, hOm3, hb3⟩
  clear u1 v1 u2 v2 t2 t3 H2' n1 n2 g12 hOl1 hO1 hA1 hR1 hB1
  have hB3 := hB2.trans (hb3.mono hB2.size)
  have hO3' := hO2.below hb3
  have hA3' := hA2.below hb3
  have hR3' := hR2.below hb3
  have hOl3 := hOl2.below hb3
  have n3 := hO3'.set 3 (by simp [shVals]) (.slice (some ⟨gm, 0, none⟩) mn mn)
  simp only [List.length_nil, Nat.zero_add] at n3
  have u3 := hO3'.cell 3 _ rfl
  have v3 := hO3'.fz 3
  have t4 := (hA3'.grown n3.2 (by simp; omega)).cell 4 _ rfl
  simp only [List.length_nil, Nat.zero_add] at u3 t4
  have hB4 := hB3.grown n3.2 hB3.size (fun k e => by cases e; omega)
  have hs2 := hB2.size
  have hWw2 : W.heap.size ≤ w2.heap.size := by have := hOl2.lt gl (.inl rfl); omega
  have hR4 := hR3'.grown n3.2 (by simp)
  have hOl4 := hOl3.grown n3.2 (fun e => by have := (hOl2.lt _ e).1; omega)
  have hOm4 := hOm3.grown n3.2 (fun e => by have := hOm3.lt.1; have := hO2.lt; have := Option.some.inj e; omega)
  have hO4 : BoxIn (w.heap.size + 1 + 1) 27 [] (shVals s.1 s.2.2.1 (some ⟨gl, 0, none⟩) ln ln (some ⟨gm, 0, none⟩) mn mn none 0 0) [] _ := n3.1
  have H3' := Hid.mk' (H3.out _ hB4)
  clear H3
  go_wp2_with fail
  refine H3'.out.mono ?_
  generalize w3.setCell ⟨w.heap.size + 1 + 1, 3, none⟩ (.slice (some ⟨gm, 0, none⟩) mn mn) = w4 at *
  rintro e w5 ⟨gh, hh, rfl, hOh5, hb5⟩
  clear u3 v3 t4 H3' n3 hO3' hA3' hR3' hOl3 hO2 hA2 hR2
  have hB5 := hB4.trans (hb5.mono hB4.size)
  have hO5 := hO4.below hb5
  have hR5 := hR4.below hb5
  have hOl5 := (hOl4.below hb5).mono (base' := w.heap.size) hB.size
  have hOm5 := (hOm4.below hb5).mono (base' := w.heap.size) hB2.size
  have n4 := hO5.set 4 (by simp [shVals]) (.slice (some ⟨gh, 0, none⟩) hn hn)
  simp only [List.length_nil, Nat.zero_add] at n4
  have u4 := hO5.cell 4 _ rfl
  have v4 := hO5.fz 4
  simp only [List.length_nil, Nat.zero_add] at u4
  have hB6 := hB5.grown n4.2 hB5.size (fun k e => by cases e; omega)
  have hR6 := hR5.grown n4.2 (by simp)
  have hlo : ∀ k, BlkR (.slice (some ⟨gl, 0, none⟩) ln ln) hl k → k < w4.heap.size := fun k hk => (hOl4.lt k hk).2
  have hhi : ∀ k, BlkR (.slice (some ⟨gh, 0, none⟩) hn hn) hh k → w4.heap.size ≤ k := fun k hk => (hOh5.lt k hk).1
  have hO4l := hO4.lt
  have hR4l := hR4.lt
  have hlW : ∀ k, BlkR (.slice (some ⟨gl, 0, none⟩) ln ln) hl k → W.heap.size ≤ k := fun k hk => (hOl4.lt k hk).1
  have hgmW : w2.heap.size ≤ gm := hOm4.lt.1
  have hW4 : W.heap.size ≤ w4.heap.size := Nat.le_trans (hOl4.lt gl (.inl rfl)).1 (Nat.le_of_lt (hOl4.lt gl (.inl rfl)).2)
  obtain ⟨F, hOS, hFW⟩ := ownSh_of (s := s) (B := W.heap.size) hid hsu (hOl4.below hb5) ((hOm4.below hb5).mono hWw2) (hOh5.mono hW4) hlo hhi
  have hFn : ∀ k ∈ F, w.heap.size ≤ k := fun k hk => Nat.le_trans hB.size (hFW k hk)
  have hXo : ∀ k ∈ F, k ≠ w.heap.size + 1 + 1 ∧ k ≠ w.heap.size + 1 := fun k hk => by have := hFW k hk; omega
  have hOS6 := hOS.keep (fun j hj => n4.2.block j (hOS.lt j hj) (fun e => (hXo j hj).1 (Option.some.inj e)))
  have hO6 : BoxIn (w.heap.size + 1 + 1) 27 [] (shVals s.1 s.2.2.1 (some ⟨gl, 0, none⟩) ln ln (some ⟨gm, 0, none⟩) mn mn (some ⟨gh, 0, none⟩) hn hn) [] _ := n4.1
  have q0 := hO6.cell 0 _ rfl
  have q1 := hO6.cell 1 _ rfl
  have q2 := hO6.cell 2 _ rfl
  have q3 := hO6.cell 3 _ rfl
  have q4 := hO6.cell 4 _ rfl
  have z0 := hR6.cell 0 _ rfl
  have z1 := hR6.cell 1 _ rfl
  have z2 := hR6.cell 2 _ rfl
  have z3 := hR6.cell 3 _ rfl
  have z4 := hR6.cell 4 _ rfl
  simp only [List.length_nil, Nat.zero_add] at q0 q1 q2 q3 q4 z0 z1 z2 z3 z4
  have f0 := hR6.fz 0
  have f1 := hR6.fz 1
  have f2 := hR6.fz 2
  have f3 := hR6.fz 3
  have f4 := hR6.fz 4
  have hS5 := hR6.set5 (.int .i64 s.1) (.slice (some ⟨gl, 0, none⟩) ln ln) (.int .i64 s.2.2.1) (.slice (some ⟨gm, 0, none⟩) mn mn) (.slice (some ⟨gh, 0, none⟩) hn hn)
  simp only [List.length_nil, Nat.zero_add] at hS5
  have hOSz := hOS6.keep (fun j hj => hS5.2.block j (hOS6.lt j hj) (fun e => (hXo j hj).2 (Option.some.inj e)))
  have hBz := hB6.grown hS5.2 hB6.size (fun j e => by cases e; omega)
  have hzc0 := hS5.1.cell 0 _ rfl
  have hzc1 := hS5.1.cell 1 _ rfl
  have hzc2 := hS5.1.cell 2 _ rfl
  have hzc3 := hS5.1.cell 3 _ rfl
  have hzc4 := hS5.1.cell 4 _ rfl
  simp only [List.length_nil, Nat.zero_add] at hzc0 hzc1 hzc2 hzc3 hzc4
  have HOSz := Hid.mk' hOSz
  have HBz := Hid.mk' hBz
  clear hOSz hBz hS5 hOS6 hOS hO5 hO6 hR5 hR6 n4
  go_wp2_with fail
  refine bodyPost_ret (v := aggSh s.1 s.2.2.1 (some ⟨gl, 0, none⟩) ln ln (some ⟨gm, 0, none⟩) mn mn (some ⟨gh, 0, none⟩) hn hn) ?_ rfl ⟨_, _, _, F, rfl, HOSz.out, hFn, HBz.out⟩
  simp [results, Tryz.results20, go_sem, hzc0, hzc1, hzc2, hzc3, hzc4]
theorem blkS_split {w : World} {la ma ha : Option Addr} {ln lc mn mc hn hc : Nat} {s : Shd} {F : List Nat} (h : OwnSh w la ln lc ma mn mc ha hn hc s F) : ∃ hl hh, OwnR w 0 (.slice la ln lc) s.2.1 hl ∧ OwnR w 0 (.slice ha hn hc) s.2.2.2.2 hh ∧ F = blkR (.slice la ln lc) hl ++ ((Value.slice ma mn mc).ownBlock.toList ++ blkR (.slice ha hn hc) hh) ∧
    (∀ k, BlkR (.slice la ln lc) hl k → (Value.slice ma mn mc).ownBlock ≠ some k ∧ ¬ BlkR (.slice ha hn hc) hh k) ∧ (∀ k, (Value.slice ma mn mc).ownBlock = some k → ¬ BlkR (.slice ha hn hc) hh k) := by
  obtain ⟨hl, q1, hh, q3, rfl⟩ := h.log
  obtain ⟨n1, n2, n3⟩ := nodup_parts h.nodup
  obtain ⟨m1, m2, m3⟩ := nodup_parts n2
  refine ⟨hl, hh, q1, q3, rfl, fun k hk => ⟨fun e => ?_, fun e => ?_⟩, fun k hk e => ?_⟩
  · exact n3 k (mem_blkR.2 hk) (List.mem_append.2 (.inl (by simp [e])))
  · exact n3 k (mem_blkR.2 hk) (List.mem_append.2 (.inr (mem_blkR.2 e)))
  · exact m3 k (by simp [hk]) (mem_blkR.2 e)
set_option maxRecDepth 100000 in
theorem markPairV (a : Option Addr) (n cap k0 : Nat) (l : List Pr) (w : World) (h : OwnPV w a n cap l) (hk1 : 1 ≤ k0) (hk0 : k0 + 2 * n ≤ 1099511627776) :
    Calls Tryz.prog 62 #[.slice a n cap, .int .i64 (k0 : Nat)] w fun e w' => e = .returned (.int .i64 ((k0 + 2 * n : Nat) : Int)) ∧ OwnPV w' a n cap (marksP k0 n) ∧ w.grownBy w' (Value.slice a n cap).ownBlock := by
  rcases h.shape with ⟨rfl, rfl, rfl, rfl⟩ | ⟨g, rfl, ho⟩
  · have hm : marksP k0 0 = [] := rfl
    rw [hm]
    go_enter Tryz.func62, Tryz.ntmps62
    go_wp2_with fail
    go_loopw [1, 5] (fun kv i wr => kv = .int .i64 (k0 : Int) ∧ i = .int .i64 0 ∧ wr = w) (fun _ i _ => 0)
    case atStart => exact ⟨rfl, rfl, rfl⟩
    case round =>
      obtain ⟨rfl, rfl, rfl⟩ := hrel
      go_wp2_with fail
      go_ret
      exact ⟨rfl, ownPV_nil _, World.grownBy.refl _ _⟩
  · refine (markPairS g n cap k0 0 l w ho hk1 hk0).mono ?_
    rintro e w' ⟨rfl, h1, h2⟩
    exact ⟨rfl, ownPV_of h1, h2⟩
theorem frame_keepR {v : Value} {hs : List Value} {w w' : World} {G : List Nat} (h : KeepR v hs w w') (hG : ∀ k, BlkR v hs k → k ∈ G) : lay.Frame G w w' :=
  ⟨h.os, h.tape, h.output, h.size, fun j hj hn => h.block j hj (fun e => hn (hG j e))⟩
set_option maxRecDepth 100000 in
set_option maxHeartbeats 2000000 in
theorem markShard (la : Option Addr) (ln lc : Nat) (ma : Option Addr) (mn mc : Nat) (ha : Option Addr) (hn hc : Nat) (s : Shd) (F : List Nat) (k0 : Nat) (w : World) (h : OwnSh w la ln lc ma mn mc ha hn hc s F) (hk1 : 1 ≤ k0) (hk0 : k0 + cntS s ≤ 1099511627776) (hl1 : ln ≤ 1099511627776) (hl3 : hn ≤ 1099511627776) (K : Int) (hK : Hid (K = (k0 : Int))) :
    Calls Tryz.prog 24 #[aggSh s.1 s.2.2.1 la ln lc ma mn mc ha hn hc, .int .i64 K] w fun e w' => e = .returned (.int .i64 ((k0 + cntS s : Nat) : Int)) ∧ OwnSh w' la ln lc ma mn mc ha hn hc (mShd k0 s) F ∧ lay.Frame F w w' := by
  obtain ⟨hl, hh, hOL, hOH, hFe, d1, d2⟩ := blkS_split h
  have hOM := h.map
  have hlnl := hOL.nlen
  have hhnl := hOH.nlen
  have hmnl := hOM.1
  obtain ⟨W, hW⟩ : ∃ W, w.alloc (boxSh s.1 s.2.2.1 la ln lc ma mn mc ha hn hc) = W := ⟨_, rfl⟩
  have hB : Below w.heap.size w W := by rw [← hW]; exact (Below.refl _ _).alloc (Nat.le_refl _) _
  have hbx : BoxIn w.heap.size 27 [] (shVals s.1 s.2.2.1 la ln lc ma mn mc ha hn hc) [] W := by rw [← hW]; exact boxIn_new w _ _
  have HW := Hid.mk' hW
  have c1 := hbx.cell 1 _ rfl
  simp only [List.length_nil, Nat.zero_add] at c1
  rw [← hW] at c1
  have hFlt := h.lt
  have hXF : ∀ k ∈ F, k ≠ w.heap.size := fun k hk e => by have := hFlt k hk; omega
  have hLF : ∀ k, BlkR (.slice la ln lc) hl k → k ∈ F := fun k hk => by rw [hFe]; exact List.mem_append.2 (.inl (mem_blkR.2 hk))
  have hMF : ∀ k, (Value.slice ma mn mc).ownBlock = some k → k ∈ F := fun k hk => by rw [hFe]; exact List.mem_append.2 (.inr (List.mem_append.2 (.inl (by simp [hk]))))
  have hHF : ∀ k, BlkR (.slice ha hn hc) hh k → k ∈ F := fun k hk => by rw [hFe]; exact List.mem_append.2 (.inr (List.mem_append.2 (.inr (mem_blkR.2 hk))))
  unfold cntS at hk0
  have H1 := Hid.mk' (markRecS (.slice la ln lc) 0 k0 s.2.1 hl W (hOL.below hB) (Nat.zero_le _) hk1 (by omega) (by omega) K hK)
  have HC : Hid (k0 + cntS s = k0 + cntR s.2.1 + 2 * mn + cntR s.2.2.2.2) := by show _ = _; unfold cntS; omega
  obtain ⟨k2, hk2⟩ : ∃ k2, k2 = k0 + cntR s.2.1 := ⟨_, rfl⟩
  rw [← hk2] at H1 HC
  have hid := h.id
  have hsu := h.sure
  have hnd := h.nodup
  have HM : Hid (mShd k0 s = (s.1, markR k0 s.2.1, s.2.2.1, marksP k2 mn, markR (k2 + 2 * mn) s.2.2.2.2)) := by show _ = _; unfold mShd; rw [hk2, hmnl]
  have hk2' : 1 ≤ k2 := by omega
  have hb2 : k2 + 2 * mn + cntR s.2.2.2.2 ≤ 1099511627776 := by omega
  have hhl : s.2.2.2.2.length ≤ 1099511627776 := by omega
  clear hW h hk2 hk0 hlnl hhnl hmnl
  go_enter Tryz.func24, Tryz.ntmps24
  go_wp2_with fail
  rw [HW.out]
  refine H1.out.mono ?_
  rintro e w1 ⟨rfl, hL1, hk1'⟩
  have hF1 : lay.Frame F w w1 := (lay.Frame.of_below (G := F) hB).trans (frame_keepR hk1' hLF) (Fresh.refl _ _)
  have hbx1 : BoxIn w.heap.size 27 [] (shVals s.1 s.2.2.1 la ln lc ma mn mc ha hn hc) [] w1 := hbx.keep (hk1'.block _ hbx.lt (fun e => hXF _ (hLF _ e) rfl))
  have hM1 := (hOM.below hB).of_block (w' := w1) (fun k hk => hk1'.block k ((hOM.below hB).lt k hk) (fun e => (d1 k e).1 hk))
  have hH1 := (hOH.below hB).of_blocks (w' := w1) (fun k hk => hk1'.block k ((hOH.below hB).lt k hk).2 (fun e => (d1 k e).2 hk))
  have H2 := Hid.mk' (markPairV ma mn mc k2 s.2.2.2.1 w1 hM1 hk2' (by omega))
  have c3 := hbx1.cell 3 _ rfl
  simp only [List.length_nil, Nat.zero_add] at c3
  clear c1 H1 HW hk1' hM1
  go_wp2_with fail
  refine H2.out.mono ?_
  rintro e w2 ⟨rfl, hM2, hg2⟩
  have hF2 : lay.Frame F w w2 := hF1.grown hg2 (fun k e => .inl (hMF k e))
  have hbx2 := hbx1.grown hg2 (fun e => hXF _ (hMF _ e.symm) rfl)
  have hL2 := hL1.of_blocks (w' := w2) (fun k hk => hg2.block k (hL1.lt k hk).2 (fun e => (d1 k hk).1 e.symm))
  have hH2 := hH1.of_blocks (w' := w2) (fun k hk => hg2.block k (hH1.lt k hk).2 (fun e => d2 k e.symm hk))
  have H3 := Hid.mk' (markRecS (.slice ha hn hc) 0 (k2 + 2 * mn) s.2.2.2.2 hh w2 hH2 (Nat.zero_le _) (by omega) hb2 hhl _ (by show _ = _; rfl))
  have c4 := hbx2.cell 4 _ rfl
  simp only [List.length_nil, Nat.zero_add] at c4
  clear c3 H2 hg2 hH1 hL1
  go_wp2_with fail
  refine H3.out.mono ?_
  rintro e w3 ⟨rfl, hH3, hk3⟩
  have hF3 : lay.Frame F w w3 := hF2.trans (frame_keepR hk3 hHF) (Fresh.refl _ _)
  have hL3 := hL2.of_blocks (w' := w3) (fun k hk => hk3.block k (hL2.lt k hk).2 (fun e => (d1 k hk).2 e))
  have hM3 := hM2.of_block (w' := w3) (fun k hk => hk3.block k (hM2.lt k hk) (fun e => d2 k hk e))
  clear c4 H3 hk3 hL2 hM2 hH2
  go_wp2_with fail
  go_ret
  rw [HC.out, HM.out]
  exact ⟨rfl, ⟨hid, hsu, ⟨hl, hL3, hh, hH3, hFe⟩, hM3, hnd⟩, hF3⟩
set_option maxRecDepth 100000 in
set_option maxHeartbeats 2000000 in
theorem heldShard (la : Option Addr) (ln lc : Nat) (ma : Option Addr) (mn mc : Nat) (ha : Option Addr) (hn hc : Nat) (s : Shd) (k0 : Nat) (w : World) (h : SeeSh w la ln lc ma mn mc ha hn hc (mShd k0 s)) (hk1 : 1 ≤ k0) (hk0 : k0 + cntS s ≤ 1099511627776) (hl1 : ln ≤ 1099511627776) (hl3 : hn ≤ 1099511627776) (K : Int) (hK : Hid (K = (k0 : Int))) :
    Calls Tryz.prog 26 #[aggSh s.1 s.2.2.1 la ln lc ma mn mc ha hn hc, .int .i64 K] w fun e w' => e = .returned (.int .i64 ((k0 + cntS s : Nat) : Int)) ∧ Below w.heap.size w w' := by
  have hlnl : ln = s.2.1.length := by have := h.log.1; unfold mShd at this; rw [← this]; exact markR_length _ _
  have hhnl : hn = s.2.2.2.2.length := by have := h.held.1; unfold mShd at this; rw [← this]; exact markR_length _ _
  have hmnl : mn = s.2.2.2.1.length := by have := h.map.1; unfold mShd at this; rw [← this]; exact marksP_length _ _
  obtain ⟨W, hW⟩ : ∃ W, w.alloc (boxSh s.1 s.2.2.1 la ln lc ma mn mc ha hn hc) = W := ⟨_, rfl⟩
  have hB : Below w.heap.size w W := by rw [← hW]; exact (Below.refl _ _).alloc (Nat.le_refl _) _
  have hbx : BoxIn w.heap.size 27 [] (shVals s.1 s.2.2.1 la ln lc ma mn mc ha hn hc) [] W := by rw [← hW]; exact boxIn_new w _ _
  have HW := Hid.mk' hW
  have c1 := hbx.cell 1 _ rfl
  simp only [List.length_nil, Nat.zero_add] at c1
  rw [← hW] at c1
  unfold cntS at hk0
  have hlog : SlR w la ln (markR k0 s.2.1) := h.log
  have hmap : SlP w ma mn (marksP (k0 + cntR s.2.1) mn) := by have := h.map; unfold mShd at this; rw [hmnl] at this ⊢; exact this
  have hheld : SlR w ha hn (markR (k0 + cntR s.2.1 + 2 * mn) s.2.2.2.2) := by have := h.held; unfold mShd at this; rw [hmnl]; exact this
  have H1 := Hid.mk' (heldRecS la ln lc k0 s.2.1 W (hlog.below hB) hk1 (by omega) (by omega) K hK)
  have HC : Hid (k0 + cntS s = k0 + cntR s.2.1 + 2 * mn + cntR s.2.2.2.2) := by show _ = _; unfold cntS; omega
  obtain ⟨k2, hk2⟩ : ∃ k2, k2 = k0 + cntR s.2.1 := ⟨_, rfl⟩
  rw [← hk2] at H1 HC hmap hheld
  have H2 := Hid.mk' (fun wx (hx : Below w.heap.size w wx) => heldPairS ma mn mc k2 wx (hmap.below hx) (by omega) (by omega))
  have H3 := Hid.mk' (fun wx (hx : Below w.heap.size w wx) => heldRecS ha hn hc (k2 + 2 * mn) s.2.2.2.2 wx (hheld.below hx) (by omega) (by omega) (by omega) _ (by show _ = _; rfl))
  have m1 : ¬ (k2 : Int) < 0 := by omega
  have m2 : ¬ ((k2 + 2 * mn : Nat) : Int) < 0 := by omega
  have m3 : ¬ ((k2 + 2 * mn + cntR s.2.2.2.2 : Nat) : Int) < 0 := by omega
  clear hW h hk2 hk0 hlnl hhnl hmnl hlog hmap hheld
  go_enter Tryz.func26, Tryz.ntmps26
  go_wp2_with fail
  rw [HW.out]
  refine H1.out.mono ?_
  rintro e w1 ⟨rfl, hb1⟩
  have hB1 := hB.trans (hb1.mono hB.size)
  have hbx1 := hbx.below hb1
  have c3 := hbx1.cell 3 _ rfl
  simp only [List.length_nil, Nat.zero_add] at c3
  clear c1 H1 HW
  go_wp2_with fail
  refine (H2.out _ hB1).mono ?_
  rintro e w2 ⟨rfl, hb2⟩
  have hB2 := hB1.trans (hb2.mono hB1.size)
  have hbx2 := hbx1.below hb2
  have c4 := hbx2.cell 4 _ rfl
  simp only [List.length_nil, Nat.zero_add] at c4
  clear c3 H2
  go_wp2_with fail
  refine (H3.out _ hB2).mono ?_
  rintro e w3 ⟨rfl, hb3⟩
  have hB3 := hB2.trans (hb3.mono hB2.size)
  clear c4 H3
  go_wp2_with fail
  go_ret
  rw [HC.out]
  exact ⟨rfl, hB3⟩
end Go.Proofs.YtddolmklnifnmaaGreatDoor.recs

namespace Go.Proofs.YtddolmklnifnmaaGreatDoor.recs
open Go Go.RowKit Go.Proofs.YtddolmklnifnmaaGreatDoor.base Go.Proofs.YtddolmklnifnmaaGreatDoor.pairs Go.Proofs.YtddolmklnifnmaaGreatDoor.ords Go.Proofs.YtddolmklnifnmaaGreatDoor.helps Go.Proofs.YtddolmklnifnmaaGreatDoor.help Go.Proofs.YtddolmklnifnmaaGreatDoor.lay
set_option linter.unusedVariables false
set_option linter.unusedSimpArgs false

theorem lastOut_take (tx : Int) (l : List Rc) (k : Nat) (h : k < l.length) : lastOut tx (l.take (k + 1)) = if l[k].2.1 = tx ∧ l[k].1 = 3 then 4 else if l[k].2.1 = tx ∧ l[k].1 = 2 then 3 else lastOut tx (l.take k) := by
  rw [List.take_succ_eq_append_getElem h, lastOut_snoc]
theorem sumOps_take (l : List Rc) (k : Nat) (h : k < l.length) : sumOps (l.take (k + 1)) = sumOps (l.take k) + l[k].2.2.length := by
  rw [List.take_succ_eq_append_getElem h]; unfold sumOps; rw [List.map_append, List.sum_append]; simp
theorem sumOps_le (l : List Rc) (k : Nat) : sumOps (l.take k) ≤ sumOps l := by
  conv => rhs; rw [← List.take_append_drop k l]
  unfold sumOps; rw [List.map_append, List.sum_append]; omega
set_option maxRecDepth 100000 in
set_option maxHeartbeats 2000000 in
theorem spec_l9Outcome (la : Option Addr) (ln lc : Nat) (ma : Option Addr) (mn mc : Nat) (ha : Option Addr) (hn hc : Nat) (s : Shd) (tx : Int) (w : World) (h : SeeSh w la ln lc ma mn mc ha hn hc s) :
    Calls Tryz.prog 83 #[aggSh s.1 s.2.2.1 la ln lc ma mn mc ha hn hc, .int .i64 tx] w fun e w' => e = .returned (.int .i64 (outc s tx)) ∧ Below w.heap.size w w' := by
  obtain ⟨hl, hm, hsm, hc'⟩ := id h.log
  unfold maxLen at hm
  obtain ⟨W, hW⟩ : ∃ W, w.alloc (boxSh s.1 s.2.2.1 la ln lc ma mn mc ha hn hc) = W := ⟨_, rfl⟩
  have hB : Below w.heap.size w W := by rw [← hW]; exact (Below.refl _ _).alloc (Nat.le_refl _) _
  have hbx : BoxIn w.heap.size 27 [] (shVals s.1 s.2.2.1 la ln lc ma mn mc ha hn hc) [] W := by rw [← hW]; exact boxIn_new w _ _
  have HAT := Hid.mk' (spec_l8At ha hn hc s.2.2.2.2 tx W (h.held.below hB))
  have c1 := hbx.cell 1 _ rfl
  have c4 := hbx.cell 4 _ rfl
  simp only [List.length_nil, Nat.zero_add] at c1 c4
  have hlog := h.log.below hB
  have HW := Hid.mk' hW
  rw [← hW] at c1 c4
  have HL := Hid.mk' hl
  clear hW hl
  cases hp : placeTx tx s.2.2.2.2 with
  | some k =>
    have HO : Hid (outc s tx = 1) := by show _ = _; unfold outc; rw [hp]; rfl
    rw [hp, show atRet (some k) = (k : Int) from rfl] at HAT
    have hk0 : (0 : Int) ≤ (k : Int) := by omega
    clear hp
    go_enter Tryz.func83, Tryz.ntmps83
    go_wp2_with fail
    rw [HW.out]
    refine HAT.out.mono ?_
    rintro e w1 ⟨rfl, rfl⟩
    clear c1 c4 HAT HW
    go_wp2_with fail
    go_ret
    rw [HO.out]
    exact ⟨rfl, hB⟩
  | none =>
    have HO : Hid (outc s tx = lastOut tx s.2.1) := by show _ = _; unfold outc; rw [hp]; rfl
    rw [hp, show atRet none = (-1 : Int) from rfl] at HAT
    clear hp
    go_enter Tryz.func83, Tryz.ntmps83
    go_wp2_with fail
    rw [HW.out]
    refine HAT.out.mono ?_
    rintro e w1 ⟨rfl, rfl⟩
    have d1 := hbx.cell 1 _ rfl
    simp only [List.length_nil, Nat.zero_add] at d1
    clear c1 c4 HAT HW
    go_wp2_with fail
    go_loopw [5, 6] (fun o i wr => ∃ k : Nat, k ≤ ln ∧ i = .int .i64 (k : Int) ∧ o = .int .i64 (lastOut tx (s.2.1.take k)) ∧ wr = w1) (fun _ i _ => ln - (intOf i).toNat)
    case atStart => exact ⟨0, Nat.zero_le _, rfl, rfl, rfl⟩
    case round =>
      obtain ⟨k, hk, rfl, rfl, rfl⟩ := hrel
      by_cases hlt : k < ln
      · have hltl : k < s.2.1.length := by have := HL.out; omega
        obtain ⟨b, off, e, _⟩ := hc' (by omega)
        subst e
        obtain ⟨e0, e1, pa, pl, pc, e2, _, _⟩ := hlog.at k hltl
        have hki : (k : Int) < (ln : Int) := by omega
        have HT := Hid.mk' (lastOut_take tx s.2.1 k hltl)
        generalize s.2.1[k] = r at *
        generalize lastOut tx (s.2.1.take k) = o0 at *
        obtain ⟨r1, r2, r3⟩ := r
        simp only [] at e0 e1 e2 HT
        by_cases h1 : r2 = tx
        · subst h1
          have f1 : (r2 == r2) = true := by simp
          by_cases h2 : r1 = 2
          · subst h2
            have HT2 : Hid (lastOut r2 (s.2.1.take (k + 1)) = 3) := by show _ = _; rw [HT.out]; simp
            clear HT
            go_wp2_with fail
            go_roundw
            case rel => exact ⟨k + 1, by omega, by go_num, by rw [HT2.out], by trivial⟩
            case measure => simp [intOf]; omega
          · have g2 : (r1 == 2) = false := beq_eq_false_iff_ne.2 h2
            by_cases h3 : r1 = 3
            · subst h3
              have HT2 : Hid (lastOut r2 (s.2.1.take (k + 1)) = 4) := by show _ = _; rw [HT.out]; simp
              clear HT h2 g2
              go_wp2_with fail
              go_roundw
              case rel => exact ⟨k + 1, by omega, by go_num, by rw [HT2.out], by trivial⟩
              case measure => simp [intOf]; omega
            · have g3 : (r1 == 3) = false := beq_eq_false_iff_ne.2 h3
              have HT2 : Hid (lastOut r2 (s.2.1.take (k + 1)) = o0) := by show _ = _; rw [HT.out]; simp [h2, h3]
              clear HT h2 h3
              go_wp2_with fail
              go_roundw
              case rel => exact ⟨k + 1, by omega, by go_num, by rw [HT2.out], by trivial⟩
              case measure => simp [intOf]; omega
        · have f1 : (r2 == tx) = false := beq_eq_false_iff_ne.2 h1
          have HT2 : Hid (lastOut tx (s.2.1.take (k + 1)) = o0) := by show _ = _; rw [HT.out]; simp [h1]
          clear HT h1
          go_wp2_with fail
          go_roundw
          case rel => exact ⟨k + 1, by omega, by go_num, by rw [HT2.out], by trivial⟩
          case measure => simp [intOf]; omega
      · have HE : Hid (s.2.1.take k = s.2.1) := List.take_of_length_le (by have := HL.out; omega)
        have hnk : ¬ (k : Int) < (ln : Int) := by omega
        go_wp2_with fail
        go_ret
        rw [HO.out, HE.out]
        exact ⟨rfl, hB⟩
set_option maxRecDepth 100000 in
set_option maxHeartbeats 2000000 in
theorem spec_l9Keys (la : Option Addr) (ln lc : Nat) (ma : Option Addr) (mn mc : Nat) (ha : Option Addr) (hn hc : Nat) (s : Shd) (oa : Option Addr) (on oc : Nat) (ops : List Od) (w : World) (h : SeeSh w la ln lc ma mn mc ha hn hc s) (ho : SlO w oa on ops) (hs1 : sumOps s.2.2.2.2 ≤ 1099511627776) (hs2 : mn ≤ 1099511627776) (hs3 : on ≤ 1099511627776) :
    Calls Tryz.prog 86 #[aggSh s.1 s.2.2.1 la ln lc ma mn mc ha hn hc, .slice oa on oc] w fun e w' => e = .returned (.int .i64 (keysOf s ops : Int)) ∧ Below w.heap.size w w' := by
  obtain ⟨hl, hm, hsm, hc'⟩ := id h.held
  unfold maxLen at hm
  obtain ⟨W, hW⟩ : ∃ W, w.alloc (boxSh s.1 s.2.2.1 la ln lc ma mn mc ha hn hc) = W := ⟨_, rfl⟩
  have hB : Below w.heap.size w W := by rw [← hW]; exact (Below.refl _ _).alloc (Nat.le_refl _) _
  have hbx : BoxIn w.heap.size 27 [] (shVals s.1 s.2.2.1 la ln lc ma mn mc ha hn hc) [] W := by rw [← hW]; exact boxIn_new w _ _
  have c3 := hbx.cell 3 _ rfl
  have c4 := hbx.cell 4 _ rfl
  simp only [List.length_nil, Nat.zero_add] at c3 c4
  have hheld := h.held.below hB
  have HW := Hid.mk' hW
  rw [← hW] at c3
  have HL := Hid.mk' hl
  have HK : Hid (keysOf s ops = mn + on + sumOps s.2.2.2.2) := by show _ = _; unfold keysOf; rw [h.map.1, ho.1]
  clear hW hl
  go_enter Tryz.func86, Tryz.ntmps86
  go_wp2_with fail
  go_loopw [5, 6] (fun o i wr => ∃ k : Nat, k ≤ hn ∧ i = .int .i64 (k : Int) ∧ o = .int .i64 ((mn + on + sumOps (s.2.2.2.2.take k) : Nat) : Int) ∧ wr = W) (fun _ i _ => hn - (intOf i).toNat)
  case atStart => exact ⟨0, Nat.zero_le _, rfl, by simp [sumOps], HW.out⟩
  case round =>
    obtain ⟨k, hk, rfl, rfl, rfl⟩ := hrel
    clear c3
    by_cases hlt : k < hn
    · have hltl : k < s.2.2.2.2.length := by have := HL.out; omega
      obtain ⟨b, off, e, _⟩ := hc' (by omega)
      subst e
      obtain ⟨e0, e1, pa, pl, pc, e2, hSo, _⟩ := hheld.at k hltl
      have hki : (k : Int) < (hn : Int) := by omega
      have HT := Hid.mk' (sumOps_take s.2.2.2.2 k hltl)
      have hle := sumOps_le s.2.2.2.2 (k + 1)
      have hpl := hSo.1
      have hS0 : sumOps (s.2.2.2.2.take k) + pl ≤ 1099511627776 := by rw [HT.out] at hle; omega
      have HPL := Hid.mk' hpl
      clear hpl hle hSo
      generalize hA : sumOps (s.2.2.2.2.take k) = A at *
      clear hA
      generalize s.2.2.2.2[k] = r at *
      go_wp2_with fail
      go_roundw
      case rel => exact ⟨k + 1, by omega, by go_num, by rw [HT.out, HPL.out]; go_num, by trivial⟩
      case measure => simp [intOf]; omega
    · have HE : Hid (s.2.2.2.2.take k = s.2.2.2.2) := List.take_of_length_le (by have := HL.out; omega)
      have hnk : ¬ (k : Int) < (hn : Int) := by omega
      go_wp2_with fail
      go_ret
      rw [HK.out, HE.out]
      exact ⟨rfl, hB⟩
end Go.Proofs.YtddolmklnifnmaaGreatDoor.recs

namespace Go.Proofs.YtddolmklnifnmaaGreatDoor.recs
open Go Go.RowKit Go.Proofs.YtddolmklnifnmaaGreatDoor.base Go.Proofs.YtddolmklnifnmaaGreatDoor.pairs Go.Proofs.YtddolmklnifnmaaGreatDoor.ords Go.Proofs.YtddolmklnifnmaaGreatDoor.helps Go.Proofs.YtddolmklnifnmaaGreatDoor.help Go.Proofs.YtddolmklnifnmaaGreatDoor.lay
set_option linter.unusedVariables false
set_option linter.unusedSimpArgs false

set_option maxRecDepth 100000 in
set_option maxHeartbeats 1000000 in
theorem eq_pairs (a a2 : Option Addr) (len cap len2 cap2 : Nat) (l l2 : List Pr) (w : World) (h : SlP w a len l) (h2 : SlP w a2 len2 l2) :
    Calls Tryz.prog 41 #[.slice a len cap, .slice a2 len2 cap2] w fun e w' => e = .returned (.bool (decide (l = l2))) ∧ ∃ n, w' = w.drewN n := by
  obtain ⟨hl, hm, _, hc⟩ := h
  obtain ⟨hl2, hm2, _, hc2⟩ := h2
  subst hl hl2
  unfold maxLen at hm hm2
  by_cases hne : l.length = l2.length
  · have hb : ((l.length : Int) == (l2.length : Int)) = true := by simp; omega
    go_enter Tryz.func41, Tryz.ntmps41
    go_wp2_with fail
    go_loopw [13] (fun i wr => ∃ k : Nat, k ≤ l.length ∧ i = .int .i64 k ∧ l.take k = l2.take k ∧ ∃ n, wr = w.drewN n) (fun i _ => l.length - (intOf i).toNat)
    case atStart => exact ⟨0, Nat.zero_le _, rfl, rfl, 0, rfl⟩
    case round =>
      obtain ⟨k, hk, rfl, htk, n, rfl⟩ := hrel
      by_cases hlt : k < l.length
      · obtain ⟨b, off, ha, hcl⟩ := hc (by omega)
        obtain ⟨b2, off2, ha2, hcl2⟩ := hc2 (by omega)
        subst ha ha2
        have hlt2 : k < l2.length := by omega
        have hi1 : (k : Int) < (l.length : Int) := by omega
        have hi2 : (k : Int) < (l2.length : Int) := by omega
        obtain ⟨c1, c2⟩ := hcl k hlt
        obtain ⟨c3, c4⟩ := hcl2 k hlt2
        by_cases e : l[k] = l2[k]
        · have HE := Hid.mk' (take_eqP htk hlt hlt2 e)
          rw [← e] at c3 c4
          clear hcl hcl2 hc hc2 htk hne e
          generalize l[k] = p at *
          go_wp2_with fail
          go_quiet (fail)
          go_wp2_with fail
          go_roundw
          case rel => exact ⟨k + 1, by omega, by go_num, HE.out, _, rfl⟩
          case measure => simp [intOf]; omega
        · have HE : Hid (¬ l = l2) := by
            show ¬ _
            rintro rfl; exact e rfl
          generalize l[k] = p at *
          generalize l2[k] = q at *
          clear hcl hcl2 hc hc2 htk hne
          by_cases e1 : p.1 = q.1
          · have hq := str_ne (fun e2 : p.2 = q.2 => e (Prod.ext e1 e2))
            rw [← e1] at c3
            generalize p.1 = p1 at *
            generalize p.2 = p2 at *
            generalize q.2 = q2 at *
            clear e e1
            go_wp2_with fail
            go_quiet (fail)
            go_wp2_with fail
            go_ret
            exact ⟨ret_bool (by symm; rw [decide_eq_false_iff_not]; exact HE.out), _, World.drewN_drewN _ _ _⟩
          · have hq := str_ne e1
            generalize p.1 = p1 at *
            generalize p.2 = p2 at *
            generalize q.1 = q1 at *
            generalize q.2 = q2 at *
            clear e e1
            go_wp2_with fail
            go_quiet (fail)
            go_wp2_with fail
            go_ret
            exact ⟨ret_bool (by symm; rw [decide_eq_false_iff_not]; exact HE.out), _, World.drewN_drewN _ _ _⟩
      · have e : k = l.length := by omega
        have hfin : l = l2 := by
          subst e
          rw [List.take_of_length_le (Nat.le_refl _), List.take_of_length_le (by omega)] at htk
          exact htk
        have HF := Hid.mk' hfin
        clear hfin htk
        go_wp2_with fail
        go_ret
        exact ⟨ret_bool (by symm; rw [decide_eq_true_iff]; exact HF.out), _, rfl⟩
  · have hb : ((l.length : Int) == (l2.length : Int)) = false := by simp; omega
    go_enter Tryz.func41, Tryz.ntmps41
    go_wp2
    go_ret
    exact ⟨ret_bool (by symm; rw [decide_eq_false_iff_not]; intro h; exact hne (by rw [h])), 0, rfl⟩
set_option maxRecDepth 100000 in
set_option maxHeartbeats 1000000 in
theorem eq_ops (a a2 : Option Addr) (len cap len2 cap2 : Nat) (l l2 : List Od) (w : World) (h : SlO w a len l) (h2 : SlO w a2 len2 l2) :
    Calls Tryz.prog 90 #[.slice a len cap, .slice a2 len2 cap2] w fun e w' => e = .returned (.bool (decide (l = l2))) ∧ ∃ n, w' = w.drewN n := by
  obtain ⟨hl, hm, _, hc⟩ := h
  obtain ⟨hl2, hm2, _, hc2⟩ := h2
  subst hl hl2
  unfold maxLen at hm hm2
  by_cases hne : l.length = l2.length
  · have hb : ((l.length : Int) == (l2.length : Int)) = true := by simp; omega
    go_enter Tryz.func90, Tryz.ntmps90
    go_wp2_with fail
    go_loopw [13] (fun i wr => ∃ k : Nat, k ≤ l.length ∧ i = .int .i64 k ∧ l.take k = l2.take k ∧ ∃ n, wr = w.drewN n) (fun i _ => l.length - (intOf i).toNat)
    case atStart => exact ⟨0, Nat.zero_le _, rfl, rfl, 0, rfl⟩
    case round =>
      obtain ⟨k, hk, rfl, htk, n, rfl⟩ := hrel
      by_cases hlt : k < l.length
      · obtain ⟨b, off, ha, hcl⟩ := hc (by omega)
        obtain ⟨b2, off2, ha2, hcl2⟩ := hc2 (by omega)
        subst ha ha2
        have hlt2 : k < l2.length := by omega
        have hi1 : (k : Int) < (l.length : Int) := by omega
        have hi2 : (k : Int) < (l2.length : Int) := by omega
        obtain ⟨c0, c1, c2⟩ := hcl k hlt
        obtain ⟨d0, d1, d2⟩ := hcl2 k hlt2
        by_cases e : l[k] = l2[k]
        · have HE := Hid.mk' (take_eqO htk hlt hlt2 e)
          rw [← e] at d0 d1 d2
          clear hcl hcl2 hc hc2 htk hne e
          generalize l[k] = p at *
          go_wp2_with fail
          go_quiet (fail)
          go_wp2_with fail
          go_roundw
          case rel => exact ⟨k + 1, by omega, by go_num, HE.out, _, rfl⟩
          case measure => simp [intOf]; omega
        · have HE : Hid (¬ l = l2) := by
            show ¬ _
            rintro rfl; exact e rfl
          generalize l[k] = p at *
          generalize l2[k] = q at *
          clear hcl hcl2 hc hc2 htk hne
          obtain ⟨p0, p1, p2⟩ := p
          obtain ⟨q0, q1, q2⟩ := q
          simp only [] at c0 c1 c2 d0 d1 d2
          by_cases e0 : p0 = q0
          · subst e0
            have h0 : (p0 == p0) = true := beq_self_eq_true _
            by_cases e1 : p1 = q1
            · subst e1
              have hq := str_ne (fun e2 : p2 = q2 => e (by rw [e2]))
              clear e
              go_wp2_with fail
              go_quiet (fail)
              go_wp2_with fail
              go_ret
              exact ⟨ret_bool (by symm; rw [decide_eq_false_iff_not]; exact HE.out), _, World.drewN_drewN _ _ _⟩
            · have hq := str_ne e1
              clear e e1
              go_wp2_with fail
              go_quiet (fail)
              go_wp2_with fail
              go_ret
              exact ⟨ret_bool (by symm; rw [decide_eq_false_iff_not]; exact HE.out), _, World.drewN_drewN _ _ _⟩
          · have h0 : (p0 == q0) = false := beq_eq_false_iff_ne.2 e0
            clear e e0
            go_wp2_with fail
            go_quiet (fail)
            go_wp2_with fail
            go_ret
            exact ⟨ret_bool (by symm; rw [decide_eq_false_iff_not]; exact HE.out), _, World.drewN_drewN _ _ _⟩
      · have e : k = l.length := by omega
        have hfin : l = l2 := by
          subst e
          rw [List.take_of_length_le (Nat.le_refl _), List.take_of_length_le (by omega)] at htk
          exact htk
        have HF := Hid.mk' hfin
        clear hfin htk
        go_wp2_with fail
        go_ret
        exact ⟨ret_bool (by symm; rw [decide_eq_true_iff]; exact HF.out), _, rfl⟩
  · have hb : ((l.length : Int) == (l2.length : Int)) = false := by simp; omega
    go_enter Tryz.func90, Tryz.ntmps90
    go_wp2
    go_ret
    exact ⟨ret_bool (by symm; rw [decide_eq_false_iff_not]; intro h; exact hne (by rw [h])), 0, rfl⟩
theorem i_idOk (id : Int) (w : World) :
    Calls Tryz.prog 39 #[.int .i64 id] w fun e w' => e = .returned (.bool (decide (0 ≤ id ∧ id ≤ 7))) ∧ w = w' := by
  by_cases h1 : 0 ≤ id
  · by_cases h2 : id ≤ 7
    · go_enter Tryz.func39, Tryz.ntmps39
      go_wp2
      go_ret
      exact ⟨ret_bool (by simp [h1, h2]), rfl⟩
    · go_enter Tryz.func39, Tryz.ntmps39
      go_wp2
      go_ret
      exact ⟨ret_bool (by simp [h1, h2]), rfl⟩
  · go_enter Tryz.func39, Tryz.ntmps39
    go_wp2
    go_ret
    exact ⟨ret_bool (by have h3 : ¬ 0 ≤ id := by omega
                        simp [h3]), rfl⟩
theorem eq_opsB (a a2 : Option Addr) (len cap len2 cap2 : Nat) (l l2 : List Od) (w : World) (h : SlO w a len l) (h2 : SlO w a2 len2 l2) :
    Calls Tryz.prog 90 #[.slice a len cap, .slice a2 len2 cap2] w fun e w' => e = .returned (.bool (decide (l = l2))) ∧ Below w.heap.size w w' := by
  refine (eq_ops a a2 len cap len2 cap2 l l2 w h h2).mono ?_
  rintro e w' ⟨rfl, n, rfl⟩
  exact ⟨rfl, below_drewN (Below.refl _ _) n⟩
set_option maxRecDepth 100000 in
set_option maxHeartbeats 2000000 in
theorem i_sameRec (x y : Rc) (pa qa : Option Addr) (pl pc ql qc : Nat) (w : World) (hx : SlO w pa pl x.2.2) (hy : SlO w qa ql y.2.2) :
    Calls Tryz.prog 43 #[.agg #[.int .i64 x.1, .int .i64 x.2.1, .slice pa pl pc], .agg #[.int .i64 y.1, .int .i64 y.2.1, .slice qa ql qc]] w fun e w' => e = .returned (.bool (decide (x = y))) ∧ Below w.heap.size w w' := by
  obtain ⟨W, hW⟩ : ∃ W, (w.alloc (.cells #[.int .i64 x.1, .int .i64 x.2.1, .slice pa pl pc] 41)).alloc (.cells #[.int .i64 y.1, .int .i64 y.2.1, .slice qa ql qc] 41) = W := ⟨_, rfl⟩
  have hB : Below w.heap.size w W := by rw [← hW]; exact ((Below.refl _ _).alloc (Nat.le_refl _) _).alloc (by simp) _
  have HE := Hid.mk' (eq_opsB pa qa pl pc ql qc x.2.2 y.2.2 W (hx.below hB) (hy.below hB))
  have HW := Hid.mk' hW
  obtain ⟨x1, x2, x3⟩ := x
  obtain ⟨y1, y2, y3⟩ := y
  simp only [] at HE HW
  clear hW hx hy
  by_cases e1 : x1 = y1
  · subst e1
    have hn : (x1 == x1) = true := by simp
    by_cases e2 : x2 = y2
    · subst e2
      have hf : (x2 == x2) = true := by simp
      have HD : Hid (decide ((x1, x2, x3) = (x1, x2, y3)) = decide (x3 = y3)) := by show _ = _; simp
      go_enter Tryz.func43, Tryz.ntmps43
      go_wp2_with fail
      rw [HW.out]
      refine HE.out.mono ?_
      rintro e w1 ⟨rfl, hb1⟩
      have hB1 := hB.trans (hb1.mono hB.size)
      clear HE HW hb1
      go_wp2_with fail
      go_ret
      rw [HD.out]
      exact ⟨rfl, hB1⟩
    · have hf : (x2 == y2) = false := beq_eq_false_iff_ne.2 e2
      have HD : Hid (decide ((x1, x2, x3) = (x1, y2, y3)) = false) := by show _ = _; simp [e2]
      clear e2
      go_enter Tryz.func43, Tryz.ntmps43
      go_wp2_with fail
      go_ret
      rw [HD.out, HW.out]
      exact ⟨rfl, hB⟩
  · have hn : (x1 == y1) = false := beq_eq_false_iff_ne.2 e1
    have HD : Hid (decide ((x1, x2, x3) = (y1, y2, y3)) = false) := by show _ = _; simp [e1]
    clear e1
    go_enter Tryz.func43, Tryz.ntmps43
    go_wp2_with fail
    go_ret
    rw [HD.out, HW.out]
    exact ⟨rfl, hB⟩
set_option maxRecDepth 100000 in
set_option maxHeartbeats 2000000 in
theorem eq_recs (a a2 : Option Addr) (len cap len2 cap2 : Nat) (l l2 : List Rc) (w : World) (h : SlR w a len l) (h2 : SlR w a2 len2 l2) :
    Calls Tryz.prog 42 #[.slice a len cap, .slice a2 len2 cap2, .func (.func 43) #[] #[]] w fun e w' => e = .returned (.bool (decide (l = l2))) ∧ Below w.heap.size w w' := by
  obtain ⟨hl, hm, hsm, hc⟩ := id h
  obtain ⟨hl2, hm2, hsm2, hc2⟩ := id h2
  subst hl hl2
  unfold maxLen at hm hm2
  by_cases hne : l.length = l2.length
  · have hb : ((l.length : Int) == (l2.length : Int)) = true := by simp; omega
    go_enter Tryz.func42, Tryz.ntmps42
    go_wp2_with fail
    go_loopw [17] (fun i wr => ∃ k : Nat, k ≤ l.length ∧ i = .int .i64 k ∧ l.take k = l2.take k ∧ Below w.heap.size w wr) (fun i _ => l.length - (intOf i).toNat)
    case atStart => exact ⟨0, Nat.zero_le _, rfl, rfl, Below.refl _ _⟩
    case round =>
      obtain ⟨k, hk, rfl, htk, hB⟩ := hrel
      by_cases hlt : k < l.length
      · obtain ⟨b, off, ha, hcl⟩ := hc (by omega)
        obtain ⟨b2, off2, ha2, hcl2⟩ := hc2 (by omega)
        subst ha ha2
        have hlt2 : k < l2.length := by omega
        have hki : (k : Int) < (l.length : Int) := by omega
        have hki2 : (k : Int) < (l2.length : Int) := by omega
        have i1 := h.at k hlt
        have i2 := h2.at k hlt2
        obtain ⟨c1, c2, pa, pl, pc, c3, hS1, _⟩ := i1.below hB
        obtain ⟨c4, c5, qa, ql, qc, c6, hS2, _⟩ := i2.below hB
        have hg1 := World.block_lt_of_cell? _ _ c1
        have hg2 := World.block_lt_of_cell? _ _ c4
        obtain ⟨W1, hW1⟩ : ∃ W1, (wr.alloc (.cells #[.int .i64 l[k].1, .int .i64 l[k].2.1, .slice pa pl pc] 41)) = W1 := ⟨_, rfl⟩
        have hb1 : Below wr.heap.size wr W1 := by rw [← hW1]; exact (Below.refl _ _).alloc (Nat.le_refl _) _
        obtain ⟨W2, hW2⟩ : ∃ W2, (W1.alloc (.cells #[.int .i64 l2[k].1, .int .i64 l2[k].2.1, .slice qa ql qc] 41)) = W2 := ⟨_, rfl⟩
        have hb2 : Below W1.heap.size W1 W2 := by rw [← hW2]; exact (Below.refl _ _).alloc (Nat.le_refl _) _
        have hB2 := (hB.trans (hb1.mono hB.size)).trans (hb2.mono (Nat.le_trans hB.size hb1.size))
        have HSA := Hid.mk' (i_sameRec l[k] l2[k] pa qa pl pc ql qc W2 ((hS1.below hb1).below hb2) ((hS2.below hb1).below hb2))
        have HE1 : Hid (l[k] = l2[k] → l.take (k + 1) = l2.take (k + 1)) := fun e => take_eqR htk hlt hlt2 e
        have HE2 : Hid (¬ l[k] = l2[k] → ¬ l = l2) := fun e e2 => e (by subst e2; rfl)
        have HW : Hid ((wr.alloc (.cells #[.int .i64 l[k].1, .int .i64 l[k].2.1, .slice pa pl pc] 41)).alloc (.cells #[.int .i64 l2[k].1, .int .i64 l2[k].2.1, .slice qa ql qc] 41) = W2) := by show _ = _; rw [hW1, hW2]
        clear hcl hcl2 hc hc2 i1 i2 hsm hsm2 h h2 hS1 hS2 htk hne hW1 hW2 hb1 hb2
        cases hd : decide (l[k] = l2[k]) with
        | true =>
          rw [hd] at HSA
          have HE := Hid.mk' (HE1.out (of_decide_eq_true hd))
          clear hd HE1 HE2
          generalize l[k] = p at *
          generalize l2[k] = q at *
          go_wp2_with fail
          rw [HW.out]
          refine HSA.out.mono ?_
          rintro e w5 ⟨rfl, hb5⟩
          have hB5 := hB2.trans (hb5.mono hB2.size)
          clear HSA HW
          go_wp2_with fail
          go_roundw
          case rel => exact ⟨k + 1, by omega, by go_num, HE.out, hB5⟩
          case measure => simp [intOf]; omega
        | false =>
          rw [hd] at HSA
          have HE := Hid.mk' (HE2.out (of_decide_eq_false hd))
          clear hd HE1 HE2
          generalize l[k] = p at *
          generalize l2[k] = q at *
          go_wp2_with fail
          rw [HW.out]
          refine HSA.out.mono ?_
          rintro e w5 ⟨rfl, hb5⟩
          have hB5 := hB2.trans (hb5.mono hB2.size)
          clear HSA HW
          go_wp2_with fail
          go_ret
          exact ⟨ret_bool (by symm; rw [decide_eq_false_iff_not]; exact HE.out), hB5⟩
      · have e : k = l.length := by omega
        have hfin : l = l2 := by
          subst e
          rw [List.take_of_length_le (Nat.le_refl _), List.take_of_length_le (by omega)] at htk
          exact htk
        have HF := Hid.mk' hfin
        clear hfin htk
        go_wp2_with fail
        go_ret
        exact ⟨ret_bool (by symm; rw [decide_eq_true_iff]; exact HF.out), hB⟩
  · have hb : ((l.length : Int) == (l2.length : Int)) = false := by simp; omega
    go_enter Tryz.func42, Tryz.ntmps42
    go_wp2
    go_ret
    exact ⟨ret_bool (by symm; rw [decide_eq_false_iff_not]; intro h; exact hne (by rw [h])), Below.refl _ _⟩
end Go.Proofs.YtddolmklnifnmaaGreatDoor.recs
