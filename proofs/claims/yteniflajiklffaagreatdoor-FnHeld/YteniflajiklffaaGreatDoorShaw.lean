/- A drawn shard with one thing changed. The draw of a shard with one thing changed. The draw of what a shard is asked to hold. Codes that are too long. -/
import Derived.Test.YteniflajiklffaaGreatDoorShau
import Derived.Test.YteniflajiklffaaGreatDoorShav
import Derived.Test.YteniflajiklffaaGreatDoorShaa
namespace Go.Proofs.YteniflajiklffaaGreatDoor.recs
open Go Go.RowKit Go.Proofs.YteniflajiklffaaGreatDoor.base Go.Proofs.YteniflajiklffaaGreatDoor.pairs Go.Proofs.YteniflajiklffaaGreatDoor.ords Go.Proofs.YteniflajiklffaaGreatDoor.helps Go.Proofs.YteniflajiklffaaGreatDoor.help Go.Proofs.YteniflajiklffaaGreatDoor.lay Go.Proofs.YteniflajiklffaaGreatDoor.draw
set_option linter.unusedVariables false
set_option linter.unusedSimpArgs false

structure AnyS (s : Shd) : Prop where
  bd : Bound s
  snug : Right s → Snug s.2.1
  txs : ∀ r ∈ s.2.1, r.2.1 ≤ 6 ∨ 1000000 ≤ r.2.1
  id : (Lit.int .i64 s.1).wf = true
  sure : (Lit.int .i64 s.2.2.1).wf = true
theorem Drawn.any {s : Shd} (h : Drawn s) : AnyS s := by
  have h1 := h.right.id
  have h2 := h.right.sure
  have h3 := h.right.room
  exact ⟨right_bd h.right, fun _ => h.snug, fun r hr => .inl (h.txs r hr).2, WalkArith.wf_i64 (by omega), WalkArith.wf_i64 (by omega)⟩
theorem Drawn.any_id {s : Shd} (h : Drawn s) {z : Int} (hz : -1 ≤ z ∧ z ≤ 8) : AnyS (z, s.2.1, s.2.2.1, s.2.2.2.1, s.2.2.2.2) := by
  have ha := h.any
  have hzw : (Lit.int .i64 z).wf = true := WalkArith.wf_i64 (by omega)
  exact ⟨⟨ha.bd.few, ha.bd.fewH, ha.bd.log, ha.bd.map, ha.bd.held, ha.bd.cnt⟩, fun _ => h.snug, ha.txs, hzw, ha.sure⟩
theorem Drawn.any_sure {s : Shd} (h : Drawn s) {z : Int} (hz : -1 ≤ z ∧ z ≤ 301) : AnyS (s.1, s.2.1, z, s.2.2.2.1, s.2.2.2.2) := by
  have ha := h.any
  have hzw : (Lit.int .i64 z).wf = true := WalkArith.wf_i64 (by omega)
  exact ⟨⟨ha.bd.few, ha.bd.fewH, ha.bd.log, ha.bd.map, ha.bd.held, ha.bd.cnt⟩, fun _ => h.snug, ha.txs, ha.id, hzw⟩
theorem Drawn.small {s : Shd} (h : Drawn s) : s.2.1.length ≤ 300 ∧ s.2.2.2.1.length ≤ 60 ∧ s.2.2.2.2.length ≤ 300 ∧ cntS s ≤ 20000 := by
  have h1 := h.right.room
  obtain ⟨seen, hm⟩ := h.right.made
  have h2 := ((pairsOk_iff _).1 (replay_ok hm).1).2
  have h3 := cntR_26 (fun r hr => (ok_eight (h.right.recOk r hr)).1)
  have h4 := cntR_26 (l := s.2.2.2.2) (fun r hr => (ok_eight (h.right.recOk r (h.right.held_tx r hr).1)).1)
  simp only [] at h2
  refine ⟨by omega, by omega, by omega, ?_⟩
  unfold cntS
  omega
theorem Drawn.any_map {s : Shd} (h : Drawn s) (p : Pr) : AnyS (s.1, s.2.1, s.2.2.1, s.2.2.2.1 ++ [p], s.2.2.2.2) := by
  have ha := h.any
  obtain ⟨_, h2, _, h4⟩ := h.small
  refine ⟨⟨ha.bd.few, ha.bd.fewH, ha.bd.log, ?_, ha.bd.held, ?_⟩, fun _ => h.snug, ha.txs, ha.id, ha.sure⟩
  · show (s.2.2.2.1 ++ [p]).length ≤ 1048576
    rw [List.length_append, List.length_singleton]; omega
  · unfold cntS at h4 ⊢
    show cntR s.2.1 + 2 * (s.2.2.2.1 ++ [p]).length + cntR s.2.2.2.2 ≤ 3145728
    rw [List.length_append, List.length_singleton]; omega
theorem Drawn.any_log {s : Shd} (h : Drawn s) {r : Rc} (hr : tinyR r) (hf : farT r.2.1) : AnyS (s.1, s.2.1 ++ [r], s.2.2.1, s.2.2.2.1, s.2.2.2.2) := by
  have ha := h.any
  obtain ⟨h1, h2, h3, h4⟩ := h.small
  refine ⟨⟨fun x hx => ?_, ha.bd.fewH, ?_, ha.bd.map, ha.bd.held, ?_⟩, fun hR => ?_, fun x hx => ?_, ha.id, ha.sure⟩
  · rcases List.mem_append.1 hx with e | e
    · exact ha.bd.few x e
    · rw [List.mem_singleton.1 e]
      refine ⟨by have := hr.2.2.1; omega, fun p hp => ?_⟩
      have := (hr.2.2.2 p hp).2.2.1
      omega
  · show (s.2.1 ++ [r]).length ≤ 1048576
    rw [List.length_append, List.length_singleton]; omega
  · unfold cntS at h4 ⊢
    show cntR (s.2.1 ++ [r]) + 2 * s.2.2.2.1.length + cntR s.2.2.2.2 ≤ 3145728
    have e : cntR [r] ≤ 26 := by
      have := hr.2.2.1
      simp [cntR]; omega
    rw [cntR_append]; omega
  · obtain ⟨seen, hm⟩ := h.right.made
    refine h.snug.snoc fun t ht => ?_
    obtain ⟨sn, hm2⟩ := hR.made
    have hm2 : replay (s.2.1 ++ [r]) = some (s.2.2.2.1, s.2.2.2.2, sn) := hm2
    rw [hm2] at ht
    cases ht
    have h60 := h.snug.whole hm
    exact h60
  · rcases List.mem_append.1 hx with e | e
    · exact ha.txs x e
    · rw [List.mem_singleton.1 e]
      rcases hf with e | e
      · exact .inl (by omega)
      · exact .inr e
/-! ### what is written into a shard that lies in a block -/
section
variable {w w' : World} {X : Nat} {T : TypeId} {pre post : List Value} {la ma ha : Option Addr} {ln lc mn mc hn hc : Nat} {s : Shd} {F : List Nat}
theorem InSh.putId (h : InSh w X T pre post la ln lc ma mn mc ha hn hc s F) (z : Int) (hz : (Lit.int .i64 z).wf = true) : InSh (w.setCell ⟨X, pre.length, none⟩ (.int .i64 z)) X T pre post la ln lc ma mn mc ha hn hc (z, s.2.1, s.2.2.1, s.2.2.2.1, s.2.2.2.2) F ∧ w.grownBy (w.setCell ⟨X, pre.length, none⟩ (.int .i64 z)) (some X) := by
  have c := h.box.set 0 (by simp [shVals]) (.int .i64 z)
  rw [Nat.add_zero] at c
  have hO := h.own.keep (w' := w.setCell ⟨X, pre.length, none⟩ (.int .i64 z)) (fun j hj => c.2.block j (h.own.lt j hj) (fun e => h.out (by rw [← Option.some.inj e]; exact hj)))
  exact ⟨⟨c.1, ⟨hz, hO.sure, hO.log, hO.map, hO.nodup⟩, h.out⟩, c.2⟩
theorem InSh.putSure (h : InSh w X T pre post la ln lc ma mn mc ha hn hc s F) (z : Int) (hz : (Lit.int .i64 z).wf = true) : InSh (w.setCell ⟨X, pre.length + 2, none⟩ (.int .i64 z)) X T pre post la ln lc ma mn mc ha hn hc (s.1, s.2.1, z, s.2.2.2.1, s.2.2.2.2) F ∧ w.grownBy (w.setCell ⟨X, pre.length + 2, none⟩ (.int .i64 z)) (some X) := by
  have c := h.box.set 2 (by simp [shVals]) (.int .i64 z)
  have hO := h.own.keep (w' := w.setCell ⟨X, pre.length + 2, none⟩ (.int .i64 z)) (fun j hj => c.2.block j (h.own.lt j hj) (fun e => h.out (by rw [← Option.some.inj e]; exact hj)))
  exact ⟨⟨c.1, ⟨hO.id, hz, hO.log, hO.map, hO.nodup⟩, h.out⟩, c.2⟩
theorem InSh.putMap {w8 : World} {g8 n8 c8 : Nat} {m8 : List Pr} (h : InSh w X T pre post la ln lc ma mn mc ha hn hc s F) (hg : w.grownBy w8 (Value.slice ma mn mc).ownBlock) (hO8 : OwnPV w8 (some ⟨g8, 0, none⟩) n8 c8 m8) (hat : (Value.slice ma mn mc).ownBlock = some g8 ∨ (g8 ∉ F ∧ g8 ≠ X)) :
    ∃ F', InSh (w8.setCell ⟨X, pre.length + 3, none⟩ (.slice (some ⟨g8, 0, none⟩) n8 c8)) X T pre post la ln lc (some ⟨g8, 0, none⟩) n8 c8 ha hn hc (s.1, s.2.1, s.2.2.1, m8, s.2.2.2.2) F' ∧ lay.Frame (X :: F) w (w8.setCell ⟨X, pre.length + 3, none⟩ (.slice (some ⟨g8, 0, none⟩) n8 c8)) ∧ ∀ k ∈ F', k ∈ F ∨ k = g8 := by
  obtain ⟨hl, hOL, hh, hOH, hFe⟩ := h.own.log
  have hnd := h.own.nodup
  have hXF := h.out
  have hmF : ∀ k, (Value.slice ma mn mc).ownBlock = some k → k ∈ F := fun k e => by rw [hFe]; exact List.mem_append.2 (.inr (List.mem_append.2 (.inl (by simp [e]))))
  have hLF : ∀ k, BlkR (.slice la ln lc) hl k → k ∈ F := fun k e => by rw [hFe]; exact List.mem_append.2 (.inl (mem_blkR.2 e))
  have hHF : ∀ k, BlkR (.slice ha hn hc) hh k → k ∈ F := fun k e => by rw [hFe]; exact List.mem_append.2 (.inr (List.mem_append.2 (.inr (mem_blkR.2 e))))
  have hnd0 := hnd
  rw [hFe] at hnd
  obtain ⟨n1, n2, n3⟩ := nodup_parts hnd
  obtain ⟨n4, n5, n6⟩ := nodup_parts n2
  have hLm : ∀ k, BlkR (.slice la ln lc) hl k → (Value.slice ma mn mc).ownBlock ≠ some k := fun k e e2 => n3 k (mem_blkR.2 e) (List.mem_append.2 (.inl (by simp [e2])))
  have hHm : ∀ k, BlkR (.slice ha hn hc) hh k → (Value.slice ma mn mc).ownBlock ≠ some k := fun k e e2 => n6 k (by simp [e2]) (mem_blkR.2 e)
  have hb8 := h.box.grown hg (fun e => hXF (hmF X e.symm))
  have hOL8 := hOL.of_blocks fun k hk => hg.block k (hOL.lt k hk).2 (fun e => hLm k hk e.symm)
  have hOH8 := hOH.of_blocks fun k hk => hg.block k (hOH.lt k hk).2 (fun e => hHm k hk e.symm)
  have c := hb8.set 3 (by simp [shVals]) (.slice (some ⟨g8, 0, none⟩) n8 c8)
  have hgX : g8 ≠ X := by
    rcases hat with e | e
    · exact fun e2 => hXF (hmF X (by rw [← e2]; exact e))
    · exact e.2
  have hOL9 := hOL8.of_blocks fun k hk => c.2.block k (hOL8.lt k hk).2 (fun e => hXF (by rw [← Option.some.inj e]; exact hLF k hk))
  have hOH9 := hOH8.of_blocks fun k hk => c.2.block k (hOH8.lt k hk).2 (fun e => hXF (by rw [← Option.some.inj e]; exact hHF k hk))
  have hOM9 := hO8.of_block fun k hk => c.2.block k (hO8.lt k hk) (fun e => hgX (by
    have e2 : g8 = k := by have q := hk; simp [Value.ownBlock] at q; omega
    rw [e2]; exact Option.some.inj e))
  refine ⟨blkR (.slice la ln lc) hl ++ ((Value.slice (some ⟨g8, 0, none⟩) n8 c8).ownBlock.toList ++ blkR (.slice ha hn hc) hh), ⟨c.1, ⟨h.own.id, h.own.sure, ⟨hl, hOL9, hh, hOH9, rfl⟩, hOM9, ?_⟩, ?_⟩, ?_, ?_⟩
  · have hg8n : ∀ k, k ∈ blkR (.slice la ln lc) hl ∨ k ∈ blkR (.slice ha hn hc) hh → k ≠ g8 := fun k hk e => by
      rcases hat with e2 | e2
      · rcases hk with e3 | e3
        · exact hLm k (mem_blkR.1 e3) (by rw [e]; exact e2)
        · exact hHm k (mem_blkR.1 e3) (by rw [e]; exact e2)
      · rcases hk with e3 | e3
        · exact e2.1 (by rw [← e]; exact hLF k (mem_blkR.1 e3))
        · exact e2.1 (by rw [← e]; exact hHF k (mem_blkR.1 e3))
    refine nodup_mk n1 (nodup_mk (by simp [Value.ownBlock]) n5 (fun k hk hk2 => ?_)) (fun k hk hk2 => ?_)
    · have e2 : g8 = k := by have q := hk; simp [Value.ownBlock] at q; omega
      exact hg8n k (.inr hk2) e2.symm
    · rcases List.mem_append.1 hk2 with e3 | e3
      · have e2 : g8 = k := by have q := e3; simp [Value.ownBlock] at q; omega
        exact hg8n k (.inl hk) e2.symm
      · exact n3 k hk (List.mem_append.2 (.inr e3))
  · intro e
    rcases List.mem_append.1 e with e3 | e3
    · exact hXF (hLF X (mem_blkR.1 e3))
    · rcases List.mem_append.1 e3 with e3 | e3
      · have e2 : g8 = X := by have q := e3; simp [Value.ownBlock] at q; omega
        exact hgX e2
      · exact hXF (hHF X (mem_blkR.1 e3))
  · exact ((lay.Frame.refl (X :: F) w).grown hg (fun k e => .inl (List.mem_cons_of_mem _ (hmF k e)))).grown c.2 (fun k e => .inl (by rw [← Option.some.inj e]; exact List.mem_cons_self))
  · intro k hk
    rcases List.mem_append.1 hk with e3 | e3
    · exact .inl (hLF k (mem_blkR.1 e3))
    · rcases List.mem_append.1 e3 with e3 | e3
      · have e2 : g8 = k := by have q := e3; simp [Value.ownBlock] at q; omega
        exact .inr e2.symm
      · exact .inl (hHF k (mem_blkR.1 e3))
theorem InSh.putLog {w8 : World} {g8 n8 c8 : Nat} {v : Value} {r : Rc} {hl hh : List Value} (h : InSh w X T pre post la ln lc ma mn mc ha hn hc s F) (hOL : OwnR w 0 (.slice la ln lc) s.2.1 hl) (hOH : OwnR w 0 (.slice ha hn hc) s.2.2.2.2 hh) (hFe : F = blkR (.slice la ln lc) hl ++ ((Value.slice ma mn mc).ownBlock.toList ++ blkR (.slice ha hn hc) hh))
    (hv : ∀ j, v.ownBlock = some j → j ∉ F ∧ j ≠ X) (hg : w.grownBy w8 (Value.slice la ln lc).ownBlock) (hO8 : OwnR w8 0 (.slice (some ⟨g8, 0, none⟩) n8 c8) (s.2.1 ++ [r]) (hl ++ [v])) (hat : (Value.slice la ln lc).ownBlock = some g8 ∨ g8 = w.heap.size) :
    ∃ F', InSh (w8.setCell ⟨X, pre.length + 1, none⟩ (.slice (some ⟨g8, 0, none⟩) n8 c8)) X T pre post (some ⟨g8, 0, none⟩) n8 c8 ma mn mc ha hn hc (s.1, s.2.1 ++ [r], s.2.2.1, s.2.2.2.1, s.2.2.2.2) F' ∧ lay.Frame (X :: F) w (w8.setCell ⟨X, pre.length + 1, none⟩ (.slice (some ⟨g8, 0, none⟩) n8 c8)) ∧ ∀ k ∈ F', k ∈ F ∨ v.ownBlock = some k ∨ w.heap.size ≤ k := by
  have hOM := h.own.map
  have hnd := h.own.nodup
  have hXF := h.out
  have hFlt := h.own.lt
  have hXl := h.box.lt
  have hmF : ∀ k, (Value.slice ma mn mc).ownBlock = some k → k ∈ F := fun k e => by rw [hFe]; exact List.mem_append.2 (.inr (List.mem_append.2 (.inl (by simp [e]))))
  have hLF : ∀ k, BlkR (.slice la ln lc) hl k → k ∈ F := fun k e => by rw [hFe]; exact List.mem_append.2 (.inl (mem_blkR.2 e))
  have hHF : ∀ k, BlkR (.slice ha hn hc) hh k → k ∈ F := fun k e => by rw [hFe]; exact List.mem_append.2 (.inr (List.mem_append.2 (.inr (mem_blkR.2 e))))
  rw [hFe] at hnd
  obtain ⟨n1, n2, n3⟩ := nodup_parts hnd
  have hLm : ∀ k, (Value.slice la ln lc).ownBlock = some k → (Value.slice ma mn mc).ownBlock ≠ some k := fun k e e2 => n3 k (mem_blkR.2 (.inl e)) (List.mem_append.2 (.inl (by simp [e2])))
  have hLh : ∀ k, (Value.slice la ln lc).ownBlock = some k → ¬ BlkR (.slice ha hn hc) hh k := fun k e e2 => n3 k (mem_blkR.2 (.inl e)) (List.mem_append.2 (.inr (mem_blkR.2 e2)))
  have hb8 := h.box.grown hg (fun e => hXF (hLF X (.inl e.symm)))
  have hOM8 := hOM.of_block fun k hk => hg.block k (hOM.lt k hk) (fun e => hLm k e.symm hk)
  have hOH8 := hOH.of_blocks fun k hk => hg.block k (hOH.lt k hk).2 (fun e => hLh k e.symm hk)
  have c := hb8.set 1 (by simp [shVals]) (.slice (some ⟨g8, 0, none⟩) n8 c8)
  have hg8 : g8 ∈ F ∧ BlkR (.slice la ln lc) hl g8 ∨ g8 = w.heap.size := hat.imp_left (fun e => ⟨hLF g8 (.inl e), .inl e⟩)
  have hL8 : ∀ k, BlkR (.slice (some ⟨g8, 0, none⟩) n8 c8) (hl ++ [v]) k → BlkR (.slice la ln lc) hl k ∨ v.ownBlock = some k ∨ k = w.heap.size := fun k hk => by
    rcases hk with e | ⟨y, hy, e⟩
    · have e2 : g8 = k := by simpa [Value.ownBlock] using e
      rcases hg8 with e3 | e3
      · exact .inl (by rw [← e2]; exact e3.2)
      · exact .inr (.inr (by omega))
    · rcases List.mem_append.1 hy with e2 | e2
      · exact .inl (.inr ⟨y, e2, e⟩)
      · rw [List.mem_singleton.1 e2] at e
        exact .inr (.inl e)
  have hLX : ∀ k, BlkR (.slice (some ⟨g8, 0, none⟩) n8 c8) (hl ++ [v]) k → k ≠ X := fun k hk e => by
    rcases hL8 k hk with e2 | e2 | e2
    · exact hXF (by rw [← e]; exact hLF k e2)
    · exact (hv k e2).2 e
    · omega
  have hOL9 := hO8.of_blocks fun k hk => c.2.block k (hO8.lt k hk).2 (fun e => hLX k hk (Option.some.inj e))
  have hOH9 := hOH8.of_blocks fun k hk => c.2.block k (hOH8.lt k hk).2 (fun e => hXF (by rw [← Option.some.inj e]; exact hHF k hk))
  have hOM9 := hOM8.of_block fun k hk => c.2.block k (hOM8.lt k hk) (fun e => hXF (by rw [← Option.some.inj e]; exact hmF k hk))
  have hnd8 : (blkR (.slice (some ⟨g8, 0, none⟩) n8 c8) (hl ++ [v])).Nodup := by
    have := recs_own.2 ⟨_, hOL9, rfl⟩
    exact recsR.ownNodup this
  refine ⟨blkR (.slice (some ⟨g8, 0, none⟩) n8 c8) (hl ++ [v]) ++ ((Value.slice ma mn mc).ownBlock.toList ++ blkR (.slice ha hn hc) hh), ⟨c.1, ⟨h.own.id, h.own.sure, ⟨_, hOL9, hh, hOH9, rfl⟩, hOM9, ?_⟩, ?_⟩, ?_, ?_⟩
  · refine nodup_mk hnd8 n2 (fun k hk hk2 => ?_)
    have hkF : k ∈ F := by
      rcases List.mem_append.1 hk2 with e3 | e3
      · exact hmF k (by simpa using e3)
      · exact hHF k (mem_blkR.1 e3)
    rcases hL8 k (mem_blkR.1 hk) with e2 | e2 | e2
    · exact n3 k (mem_blkR.2 e2) hk2
    · exact (hv k e2).1 hkF
    · have := hFlt k hkF; omega
  · intro e
    rcases List.mem_append.1 e with e3 | e3
    · exact hLX X (mem_blkR.1 e3) rfl
    · rcases List.mem_append.1 e3 with e3 | e3
      · exact hXF (hmF X (by simpa using e3))
      · exact hXF (hHF X (mem_blkR.1 e3))
  · exact ((lay.Frame.refl (X :: F) w).grown hg (fun k e => .inl (List.mem_cons_of_mem _ (hLF k (.inl e))))).grown c.2 (fun k e => .inl (by rw [← Option.some.inj e]; exact List.mem_cons_self))
  · intro k hk
    rcases List.mem_append.1 hk with e3 | e3
    · rcases hL8 k (mem_blkR.1 e3) with e2 | e2 | e2
      · exact .inl (hLF k e2)
      · exact .inr (.inl e2)
      · exact .inr (.inr (by omega))
    · rcases List.mem_append.1 e3 with e3 | e3
      · exact .inl (hmF k (by simpa using e3))
      · exact .inl (hHF k (mem_blkR.1 e3))
end
structure ASt (w0 w wr : World) (gc : Nat) (a : Option Addr) (len cap : Nat) (code : List UInt8) (RB X : Nat) (la : Option Addr) (ln lc : Nat) (ma : Option Addr) (mn mc : Nat) (ha : Option Addr) (hn hc : Nat) (s : Shd) (F : List Nat) : Prop where
  cur : Cur w0 wr gc a len cap code
  ins : InSh wr X TSh [] [] la ln lc ma mn mc ha hn hc s F
  new : ∀ k ∈ X :: F, w.heap.size ≤ k
  old : gc < w.heap.size
  base : w0.heap.size ≤ w.heap.size
  fr : w.grownBy wr (some gc)
  rb : BoxIn RB TSh [] zeroSh [] wr
  rX : RB ≠ X
  rF : RB ∉ F
  rn : w.heap.size ≤ RB
section
variable {w0 w wr w' : World} {gc : Nat} {a : Option Addr} {len cap : Nat} {code : List UInt8} {RB X : Nat} {la ma ha : Option Addr} {ln lc mn mc hn hc : Nat} {s s' : Shd} {F F' : List Nat} {la' ma' ha' : Option Addr} {ln' lc' mn' mc' hn' hc' : Nat}
theorem ASt.gX (h : ASt w0 w wr gc a len cap code RB X la ln lc ma mn mc ha hn hc s F) : gc ≠ X ∧ gc ∉ F ∧ gc ≠ RB := by
  have h1 := h.old
  have h2 := h.new
  have h3 := h.rn
  refine ⟨fun e => ?_, fun e => ?_, fun e => ?_⟩
  · have := h2 X List.mem_cons_self; omega
  · have := h2 gc (List.mem_cons_of_mem _ e); omega
  · omega
theorem ASt.step (h : ASt w0 w wr gc a len cap code RB X la ln lc ma mn mc ha hn hc s F) (hc' : Cur w0 w' gc a len cap code) (hg : wr.grownBy w' (some gc)) : ASt w0 w w' gc a len cap code RB X la ln lc ma mn mc ha hn hc s F := by
  obtain ⟨g1, g2, g3⟩ := h.gX
  exact ⟨hc', h.ins.keepg hg g1 g2, h.new, h.old, h.base, grownBy_trans h.fr hg, h.rb.grown hg (fun e => g3 (Option.some.inj e).symm), h.rX, h.rF, h.rn⟩
theorem ASt.below (h : ASt w0 w wr gc a len cap code RB X la ln lc ma mn mc ha hn hc s F) (hb : Below wr.heap.size wr w') : ASt w0 w w' gc a len cap code RB X la ln lc ma mn mc ha hn hc s F :=
  ⟨h.cur.below hb, h.ins.below hb, h.new, h.old, h.base, grown_below h.fr hb, h.rb.below hb, h.rX, h.rF, h.rn⟩
theorem ASt.wrote (h : ASt w0 w wr gc a len cap code RB X la ln lc ma mn mc ha hn hc s F) (h1 : InSh w' X TSh [] [] la' ln' lc' ma' mn' mc' ha' hn' hc' s' F') (h2 : lay.Frame (X :: F) wr w') (h3 : ∀ k ∈ F', k ∈ F ∨ (w.heap.size ≤ k ∧ k ≠ RB)) : ASt w0 w w' gc a len cap code RB X la' ln' lc' ma' mn' mc' ha' hn' hc' s' F' := by
  obtain ⟨g1, g2, g3⟩ := h.gX
  refine ⟨cur_frame h.cur h2 (fun e => ?_) (fun k hk => Nat.le_trans h.base (h.new k hk)), h1, fun k hk => ?_, h.old, h.base, ?_, h.rb.frame h2 (fun e => ?_), h.rX, fun e => ?_, h.rn⟩
  · rcases List.mem_cons.1 e with e | e
    · exact g1 e
    · exact g2 e
  · rcases List.mem_cons.1 hk with e | e
    · rw [e]; exact h.new X List.mem_cons_self
    · rcases h3 k e with e2 | e2
      · exact h.new k (List.mem_cons_of_mem _ e2)
      · exact e2.1
  · exact ⟨h2.os.trans h.fr.os, h2.tape.trans h.fr.tape, h2.output.trans h.fr.output, Nat.le_trans h.fr.size h2.size, fun k hk hne => (h2.block k (Nat.lt_of_lt_of_le hk h.fr.size) (fun e => by have := h.new k e; omega)).trans (h.fr.block k hk hne)⟩
  · rcases List.mem_cons.1 e with e | e
    · exact h.rX e
    · exact h.rF e
  · rcases h3 RB e with e | e
    · exact h.rF e
    · exact e.2 rfl
end
def GotAny (w0 w : World) (gc : Nat) (a : Option Addr) (len cap : Nat) (code : List UInt8) (e : Ending) (w' : World) : Prop :=
  ∃ (la : Option Addr) (ln lc : Nat) (ma : Option Addr) (mn mc : Nat) (ha : Option Addr) (hn hc : Nat) (s : Shd) (F : List Nat), AnyS s ∧ e = .returned (aggSh s.1 s.2.2.1 la ln lc ma mn mc ha hn hc) ∧ OwnSh w' la ln lc ma mn mc ha hn hc s F ∧ (∀ k ∈ F, w.heap.size ≤ k) ∧ Cur w0 w' gc a len cap code ∧ w.grownBy w' (some gc)
theorem ASt.set5 {w0 w wr : World} {gc : Nat} {a : Option Addr} {len cap : Nat} {code : List UInt8} {RB X : Nat} {la ma ha : Option Addr} {ln lc mn mc hn hc : Nat} {s : Shd} {F : List Nat} (h : ASt w0 w wr gc a len cap code RB X la ln lc ma mn mc ha hn hc s F) (hA : AnyS s) :
    wr.cell? ⟨X, 0, none⟩ = some (.int .i64 s.1) ∧ wr.cell? ⟨X, 1, none⟩ = some (.slice la ln lc) ∧ wr.cell? ⟨X, 2, none⟩ = some (.int .i64 s.2.2.1) ∧ wr.cell? ⟨X, 3, none⟩ = some (.slice ma mn mc) ∧ wr.cell? ⟨X, 4, none⟩ = some (.slice ha hn hc) ∧
    wr.cell? ⟨RB, 0, none⟩ = some (.int .i64 0) ∧ wr.cell? ⟨RB, 1, none⟩ = some (.slice none 0 0) ∧ wr.cell? ⟨RB, 2, none⟩ = some (.int .i64 0) ∧ wr.cell? ⟨RB, 3, none⟩ = some (.slice none 0 0) ∧ wr.cell? ⟨RB, 4, none⟩ = some (.slice none 0 0) ∧
    wr.frozen? ⟨RB, 0, none⟩ = false ∧ wr.frozen? ⟨RB, 1, none⟩ = false ∧ wr.frozen? ⟨RB, 2, none⟩ = false ∧ wr.frozen? ⟨RB, 3, none⟩ = false ∧ wr.frozen? ⟨RB, 4, none⟩ = false ∧
    ((((((wr.setCell ⟨RB, 0, none⟩ (.int .i64 s.1)).setCell ⟨RB, 1, none⟩ (.slice la ln lc)).setCell ⟨RB, 2, none⟩ (.int .i64 s.2.2.1)).setCell ⟨RB, 3, none⟩ (.slice ma mn mc)).setCell ⟨RB, 4, none⟩ (.slice ha hn hc)).cell? ⟨RB, 0, none⟩ = some (.int .i64 s.1) ∧
    (((((wr.setCell ⟨RB, 0, none⟩ (.int .i64 s.1)).setCell ⟨RB, 1, none⟩ (.slice la ln lc)).setCell ⟨RB, 2, none⟩ (.int .i64 s.2.2.1)).setCell ⟨RB, 3, none⟩ (.slice ma mn mc)).setCell ⟨RB, 4, none⟩ (.slice ha hn hc)).cell? ⟨RB, 1, none⟩ = some (.slice la ln lc) ∧
    (((((wr.setCell ⟨RB, 0, none⟩ (.int .i64 s.1)).setCell ⟨RB, 1, none⟩ (.slice la ln lc)).setCell ⟨RB, 2, none⟩ (.int .i64 s.2.2.1)).setCell ⟨RB, 3, none⟩ (.slice ma mn mc)).setCell ⟨RB, 4, none⟩ (.slice ha hn hc)).cell? ⟨RB, 2, none⟩ = some (.int .i64 s.2.2.1) ∧
    (((((wr.setCell ⟨RB, 0, none⟩ (.int .i64 s.1)).setCell ⟨RB, 1, none⟩ (.slice la ln lc)).setCell ⟨RB, 2, none⟩ (.int .i64 s.2.2.1)).setCell ⟨RB, 3, none⟩ (.slice ma mn mc)).setCell ⟨RB, 4, none⟩ (.slice ha hn hc)).cell? ⟨RB, 3, none⟩ = some (.slice ma mn mc) ∧
    (((((wr.setCell ⟨RB, 0, none⟩ (.int .i64 s.1)).setCell ⟨RB, 1, none⟩ (.slice la ln lc)).setCell ⟨RB, 2, none⟩ (.int .i64 s.2.2.1)).setCell ⟨RB, 3, none⟩ (.slice ma mn mc)).setCell ⟨RB, 4, none⟩ (.slice ha hn hc)).cell? ⟨RB, 4, none⟩ = some (.slice ha hn hc)) ∧
    Hid (GotAny w0 w gc a len cap code (.returned (aggSh s.1 s.2.2.1 la ln lc ma mn mc ha hn hc)) (((((wr.setCell ⟨RB, 0, none⟩ (.int .i64 s.1)).setCell ⟨RB, 1, none⟩ (.slice la ln lc)).setCell ⟨RB, 2, none⟩ (.int .i64 s.2.2.1)).setCell ⟨RB, 3, none⟩ (.slice ma mn mc)).setCell ⟨RB, 4, none⟩ (.slice ha hn hc))) := by
  have b := h.ins.box
  have q0 := b.cell 0 _ rfl
  have q1 := b.cell 1 _ rfl
  have q2 := b.cell 2 _ rfl
  have q3 := b.cell 3 _ rfl
  have q4 := b.cell 4 _ rfl
  have r := h.rb
  have z0 := r.cell 0 _ rfl
  have z1 := r.cell 1 _ rfl
  have z2 := r.cell 2 _ rfl
  have z3 := r.cell 3 _ rfl
  have z4 := r.cell 4 _ rfl
  have hS5 := r.set5 (.int .i64 s.1) (.slice la ln lc) (.int .i64 s.2.2.1) (.slice ma mn mc) (.slice ha hn hc)
  simp only [List.length_nil, Nat.zero_add] at q0 q1 q2 q3 q4 z0 z1 z2 z3 z4 hS5
  obtain ⟨g1, g2, g3⟩ := h.gX
  have hge := Nat.le_trans h.base h.rn
  have hOz := h.ins.own.keep (fun j hj => hS5.2.block j (h.ins.own.lt j hj) (fun e => h.rF (by rw [← Option.some.inj e]; exact hj)))
  have hcz := h.cur.grown hS5.2 (fun e => g3 (Option.some.inj e)) (fun k e => by cases e; exact hge)
  have hGz : w.grownBy _ (some gc) := ⟨hS5.2.os.trans h.fr.os, hS5.2.tape.trans h.fr.tape, hS5.2.output.trans h.fr.output, Nat.le_trans h.fr.size hS5.2.size, fun k hk hne => (hS5.2.block k (Nat.lt_of_lt_of_le hk h.fr.size) (fun e => by have e1 := Option.some.inj e; have e2 := h.rn; omega)).trans (h.fr.block k hk hne)⟩
  have hzc0 := hS5.1.cell 0 _ rfl
  have hzc1 := hS5.1.cell 1 _ rfl
  have hzc2 := hS5.1.cell 2 _ rfl
  have hzc3 := hS5.1.cell 3 _ rfl
  have hzc4 := hS5.1.cell 4 _ rfl
  simp only [List.length_nil, Nat.zero_add] at hzc0 hzc1 hzc2 hzc3 hzc4
  exact ⟨q0, q1, q2, q3, q4, z0, z1, z2, z3, z4, r.fz 0, r.fz 1, r.fz 2, r.fz 3, r.fz 4, ⟨hzc0, hzc1, hzc2, hzc3, hzc4⟩, ⟨la, ln, lc, ma, mn, mc, ha, hn, hc, s, F, hA, rfl, hOz, fun k hk => h.new k (List.mem_cons_of_mem _ hk), hcz, hGz⟩⟩
end Go.Proofs.YteniflajiklffaaGreatDoor.recs

namespace Go.Proofs.YteniflajiklffaaGreatDoor.recs
open Go Go.RowKit Go.Proofs.YteniflajiklffaaGreatDoor.base Go.Proofs.YteniflajiklffaaGreatDoor.pairs Go.Proofs.YteniflajiklffaaGreatDoor.ords Go.Proofs.YteniflajiklffaaGreatDoor.helps Go.Proofs.YteniflajiklffaaGreatDoor.help Go.Proofs.YteniflajiklffaaGreatDoor.lay Go.Proofs.YteniflajiklffaaGreatDoor.draw
set_option linter.unusedVariables false
set_option linter.unusedSimpArgs false

set_option maxRecDepth 100000 in
set_option maxHeartbeats 12000000 in
theorem d_any (w0 w : World) (gc : Nat) (a : Option Addr) (len cap : Nat) (code : List UInt8) (most : Nat) (h : Cur w0 w gc a len cap code) (hm : 0 < most) (hm2 : most ≤ 1000) :
    Calls Tryz.prog 28 #[.pointer (some ⟨gc, 0, none⟩), .int .i64 (most : Int)] w fun e w' => GotAny w0 w gc a len cap code e w' := by
  have hcl := h.lt
  have hge := h.bel.size
  obtain ⟨i0, hi, hz0, hz1, hz2⟩ := info_parts infoRW
  obtain ⟨j0, hjf, hy0, hy1, hy2⟩ := info_parts infoP
  obtain ⟨wa, hwa⟩ : ∃ wa, w.alloc (boxSh 0 0 none 0 0 none 0 0 none 0 0) = wa := ⟨_, rfl⟩
  have hba : Below w.heap.size w wa := by rw [← hwa]; exact below_two
  have hsa : wa.heap.size = w.heap.size + 1 := by rw [← hwa]; simp
  have hRa : BoxIn w.heap.size TSh [] zeroSh [] wa := by rw [← hwa]; exact boxIn_new w _ _
  have HWA := Hid.mk' hwa
  have HDS := Hid.mk' (d_shard w0 wa gc a len cap code most (h.below hba) hm hm2)
  clear hwa
  go_enter Tryz.func28, Tryz.ntmps28
  go_wp2_with fail
  rw [HWA.out]
  refine HDS.out.mono ?_
  rintro e w1 ⟨la, ln, lc, ma, mn, mc, ha, hn, hc, s, F, hD, rfl, hOS, hFn, hc1, hg1⟩
  clear HDS HWA
  obtain ⟨v1, hv1⟩ : ∃ v1, w1.alloc (boxSh s.1 s.2.2.1 la ln lc ma mn mc ha hn hc) = v1 := ⟨_, rfl⟩
  have hb1 : Below w1.heap.size w1 v1 := by rw [← hv1]; exact below_two
  have hX1 := inBox_new hOS
  rw [hv1] at hX1
  have hs1 := hg1.size
  have hA1 : ASt w0 w v1 gc a len cap code w.heap.size w1.heap.size la ln lc ma mn mc ha hn hc s F :=
    ⟨hc1.below hb1, hX1, fun k hk => by
      rcases List.mem_cons.1 hk with e | e
      · omega
      · have := hFn k e; omega, hcl, hge, grown_below (grownBy_trans (grown_below (World.grownBy.refl _ _) hba) hg1) hb1, (hRa.grown hg1 (fun e => by have := Option.some.inj e; omega)).below hb1, by omega, fun e => by have := hFn _ e; omega, Nat.le_refl _⟩
  have HBL := Hid.mk' (below_ w0 v1 gc a len cap code 12 hA1.cur (by omega) (by omega))
  rw [← hv1] at HBL
  have HV1 := Hid.mk' hv1
  obtain ⟨l1, l2, l3⟩ := hX1.lens
  have hsm := hD.small
  have hln : ln ≤ 300 := by omega
  have hmn : mn ≤ 60 := by omega
  have HL1 := Hid.mk' l1
  clear l1 l2 l3 hsm hsa
  clear hv1 hX1 hOS hRa hc1 hg1 hb1 hba
  go_wp2_with fail
  refine HBL.out.mono ?_
  rw [HV1.out]
  rintro e w2 ⟨x, hx, rfl, hc2, hg2⟩
  have hA2 := hA1.step hc2 hg2
  clear HBL HV1 hA1 hc2 hg2
  have hXl2 := hA2.ins.box.lt
  have hnX := hA2.new w1.heap.size List.mem_cons_self
  by_cases x0 : x = 0
  · subst x0
    obtain ⟨w4, hw4⟩ : ∃ w4, w2.alloc (.cells #[.int .i64 (-1), .int .i64 7, .int .i64 8] 3) = w4 := ⟨_, rfl⟩
    have hb4 : Below w2.heap.size w2 w4 := by rw [← hw4]; exact below_two
    have hL4 : w4.heap[w2.heap.size]? = some (.cells #[.int .i64 (-1), .int .i64 7, .int .i64 8] 3) := by rw [← hw4]; exact heap_alloc_new w2 _
    have hA4 := hA2.below hb4
    have HIN := Hid.mk' (int_ w0 w4 gc a len cap code w2.heap.size 3 3 _ _ hA4.cur hL4 rfl (by omega) (by omega) (by omega) (fun z => decide (-1 ≤ z ∧ z ≤ 8) = true) (some_atI _ 3 (fun z => decide (-1 ≤ z ∧ z ≤ 8)) (by kernel_rfl)))
    rw [← hw4] at HIN
    have HW4 := Hid.mk' hw4
    clear hw4 hL4 hA2 hb4
    go_wp2_with fail
    refine HIN.out.mono ?_
    rw [HW4.out]
    rintro e w5 ⟨z, hz, rfl, hc5, hg5⟩
    have hz' := of_decide_eq_true hz
    have hA5 := hA4.step hc5 hg5
    have hAny := hD.any_id hz'
    have hP := hA5.ins.putId z hAny.id
    simp only [List.length_nil] at hP
    have hA6 := hA5.wrote hP.1 ((lay.Frame.refl _ _).grown hP.2 (fun k e => .inl (by rw [← Option.some.inj e]; exact List.mem_cons_self))) (fun k hk => .inl hk)
    have y0 := hA5.ins.box.cell 0 _ rfl
    simp only [List.length_nil, Nat.zero_add] at y0
    have y1 := hA5.ins.box.fz 0
    clear HIN HW4 hP hA4 hc5 hg5 hA5
    obtain ⟨q0, q1, q2, q3, q4, z0, z1, z2, z3, z4, f0, f1, f2, f3, f4, ⟨hzc0, hzc1, hzc2, hzc3, hzc4⟩, HP⟩ := hA6.set5 hAny
    have hXR : w.heap.size ≠ w1.heap.size := hA6.rX
    have hXR2 : w1.heap.size ≠ w.heap.size := fun e => hXR e.symm
    try dsimp only at q0 q1 q2 q3 q4 z0 z1 z2 z3 z4 hzc0 hzc1 hzc2 hzc3 hzc4 HP
    clear hA6 hAny
    go_wp2_with fail
    refine bodyPost_ret (v := aggSh z s.2.2.1 la ln lc ma mn mc ha hn hc) ?_ rfl HP.out
    simp [results, Tryz.results28, go_sem, hzc0, hzc1, hzc2, hzc3, hzc4]
  by_cases x1 : x = 1
  · subst x1
    have k1 := hA2.ins.box.cell 1 _ rfl
    simp only [List.length_nil, Nat.zero_add] at k1
    obtain ⟨w4, hw4⟩ : ∃ w4, w2.alloc (.cells #[.int .i64 (-1), .int .i64 (ln : Int), .int .i64 ((ln : Int) + 1)] 3) = w4 := ⟨_, rfl⟩
    have hb4 : Below w2.heap.size w2 w4 := by rw [← hw4]; exact below_two
    have hL4 : w4.heap[w2.heap.size]? = some (.cells #[.int .i64 (-1), .int .i64 (ln : Int), .int .i64 ((ln : Int) + 1)] 3) := by rw [← hw4]; exact heap_alloc_new w2 _
    have hA4 := hA2.below hb4
    have HIN := Hid.mk' (int_ w0 w4 gc a len cap code w2.heap.size 3 3 _ _ hA4.cur hL4 rfl (by omega) (by omega) (by omega) (fun z => -1 ≤ z ∧ z ≤ 301) (fun i hi => by
      match i, hi with
      | 0, _ => exact ⟨-1, rfl, by omega, by omega⟩
      | 1, _ => exact ⟨(ln : Int), rfl, by omega, by omega⟩
      | 2, _ => exact ⟨(ln : Int) + 1, rfl, by omega, by omega⟩))
    rw [← hw4] at HIN
    have HW4 := Hid.mk' hw4
    clear hw4 hL4 hb4 hA2
    have hwr : IntKind.i64.wrap ((ln : Int) + 1) = (ln : Int) + 1 := wraps_i64 _ (by omega) (by omega)
    go_wp2_with fail
    refine HIN.out.mono ?_
    rw [HW4.out]
    rintro e w5 ⟨z, hz', rfl, hc5, hg5⟩
    have hA5 := hA4.step hc5 hg5
    have hAny := hD.any_sure hz'
    have hP := hA5.ins.putSure z hAny.sure
    simp only [List.length_nil, Nat.zero_add] at hP
    have hA6 := hA5.wrote hP.1 ((lay.Frame.refl _ _).grown hP.2 (fun k e => .inl (by rw [← Option.some.inj e]; exact List.mem_cons_self))) (fun k hk => .inl hk)
    have y0 := hA5.ins.box.cell 2 _ rfl
    simp only [List.length_nil, Nat.zero_add] at y0
    have y1 := hA5.ins.box.fz 2
    clear HIN HW4 hP hA4 hc5 hg5 hA5 k1
    obtain ⟨q0, q1, q2, q3, q4, z0, z1, z2, z3, z4, f0, f1, f2, f3, f4, ⟨hzc0, hzc1, hzc2, hzc3, hzc4⟩, HP⟩ := hA6.set5 hAny
    have hXR : w.heap.size ≠ w1.heap.size := hA6.rX
    have hXR2 : w1.heap.size ≠ w.heap.size := fun e => hXR e.symm
    try dsimp only at q0 q1 q2 q3 q4 z0 z1 z2 z3 z4 hzc0 hzc1 hzc2 hzc3 hzc4 HP
    clear hA6 hAny
    go_wp2_with fail
    refine bodyPost_ret (v := aggSh s.1 z la ln lc ma mn mc ha hn hc) ?_ rfl HP.out
    simp [results, Tryz.results28, go_sem, hzc0, hzc1, hzc2, hzc3, hzc4]
  by_cases x2 : x = 2
  · subst x2
    have k3 := hA2.ins.box.cell 3 _ rfl
    simp only [List.length_nil, Nat.zero_add] at k3
    have hOM := hA2.ins.own.map
    have hm5 : mn + 1 ≤ maxLen := by unfold maxLen; omega
    have hm6 : (mn + 1) * 32 ≤ 140737488355328 := by omega
    obtain ⟨w4, hw4⟩ : ∃ w4, w2.alloc (.cells #[.string ⟨#[122, 122, 122]⟩, .string ⟨#[]⟩] 74) = w4 := ⟨_, rfl⟩
    have hb4 : Below w2.heap.size w2 w4 := by rw [← hw4]; exact below_two
    have HCE : Hid (∀ j u, (pairVals [((⟨#[122, 122, 122]⟩ : ByteArray), (⟨#[]⟩ : ByteArray))])[j]? = some u → w4.cell? ((⟨w2.heap.size, 0, none⟩ : Addr).add j) = some u) := by rw [← hw4]; exact one_pair_cells w2 (⟨#[122, 122, 122]⟩, ⟨#[]⟩) _
    have hA4 := hA2.below hb4
    have hOM4 := hA4.ins.own.map
    have HROW := Hid.mk' hOM4.2.2
    have HW4 := Hid.mk' hw4
    have hs24 := hb4.size
    clear hw4 hA2
    go_wp2_with (at_builtin; rw [HW4.out]; refine wpList_append_lies _ rfl (.tmp 33) (.tmp 35) 25 rfl 0 74 j0 (.agg #[.string ⟨#[]⟩, .string ⟨#[]⟩]) 2 32 Tryz.underlying25 hjf hy0 hy1 hy2 rfl (by decide) (.slice ma mn mc) _ _ (by kernel_rfl) HROW.out ⟨w2.heap.size, 0, none⟩ 1 1 (pairVals [((⟨#[122, 122, 122]⟩ : ByteArray), (⟨#[]⟩ : ByteArray))]) (by kernel_rfl) rfl HCE.out (pairVals_oneCell _) (by decide) hm5 hm6 (Nat.zero_le _) _ rfl ?_)
    intro g8 c8 w8 hown8 hgrow8 hat8 hlt8
    have hO8 : OwnPV w8 (some ⟨g8, 0, none⟩) (mn + 1) c8 (s.2.2.2.1 ++ [((⟨#[122, 122, 122]⟩ : ByteArray), (⟨#[]⟩ : ByteArray))]) := ⟨by simp [hOM.1], fun p hp => by
      rcases List.mem_append.1 hp with e | e
      · exact hOM.2.1 p e
      · rw [List.mem_singleton.1 e]; exact ⟨by decide, by decide⟩, by rw [pairVals_append]; exact hown8⟩
    have hP := hA4.ins.putMap hgrow8 hO8 (hat8.imp_right (fun e => ⟨fun e2 => by have := hA4.ins.own.lt g8 e2; omega, by omega⟩))
    simp only [List.length_nil, Nat.zero_add] at hP
    obtain ⟨F', hP1, hP2, hP3⟩ := hP
    have hRl := hA4.rb.lt
    have hfs := hA4.fr.size
    have hA9 := hA4.wrote hP1 hP2 (fun k hk => by
      rcases hP3 k hk with e | e
      · exact .inl e
      · rcases hat8 with e2 | e2
        · left
          rw [e]
          obtain ⟨hl, hOL, hh, hOH, hFe⟩ := hA4.ins.own.log
          rw [hFe]; exact List.mem_append.2 (.inr (List.mem_append.2 (.inl (by simp [e2]))))
        · exact .inr ⟨by omega, by omega⟩)
    have hAny := hD.any_map ((⟨#[122, 122, 122]⟩ : ByteArray), (⟨#[]⟩ : ByteArray))
    have hb8X : BoxIn w1.heap.size TSh [] (shVals s.1 s.2.2.1 la ln lc ma mn mc ha hn hc) [] w8 := hA4.ins.box.grown hgrow8 (fun e => hA4.ins.out (by
      obtain ⟨hl, hOL, hh, hOH, hFe⟩ := hA4.ins.own.log
      rw [hFe]; exact List.mem_append.2 (.inr (List.mem_append.2 (.inl (by simp [← e]))))))
    have e8 := hb8X.cell 3 _ rfl
    have f8 := hb8X.fz 3
    simp only [List.length_nil, Nat.zero_add] at e8
    clear hb8X hP1 hP2 hP3 hO8 hown8 hgrow8 hat8 hlt8 hOM4 hOM HROW HCE HW4 hA4 k3
    obtain ⟨q0, q1, q2, q3, q4, z0, z1, z2, z3, z4, f0, f1, f2, f3, f4, ⟨hzc0, hzc1, hzc2, hzc3, hzc4⟩, HP⟩ := hA9.set5 hAny
    have hXR : w.heap.size ≠ w1.heap.size := hA9.rX
    have hXR2 : w1.heap.size ≠ w.heap.size := fun e => hXR e.symm
    try dsimp only at q0 q1 q2 q3 q4 z0 z1 z2 z3 z4 hzc0 hzc1 hzc2 hzc3 hzc4 HP
    clear hA9 hAny
    go_wp2_with fail
    refine bodyPost_ret (v := aggSh s.1 s.2.2.1 la ln lc (some ⟨g8, 0, none⟩) (mn + 1) c8 ha hn hc) ?_ rfl HP.out
    simp [results, Tryz.results28, go_sem, hzc0, hzc1, hzc2, hzc3, hzc4]
  by_cases x3 : x = 3
  · subst x3
    obtain ⟨hl, hOL, hh, hOH, hFe⟩ := hA2.ins.own.log
    have hd2 : Below w2.heap.size w2 w2.drew := (Below.refl _ _).drew
    have hAd := hA2.below hd2
    have HAN := Hid.mk' (d_anyT w0 w2.drew gc a len cap code hAd.cur)
    have hc3 : ln + 1 ≤ maxLen := by unfold maxLen; omega
    have hc4 : (ln + 1) * 40 ≤ 140737488355328 := by omega
    go_wp2_with fail
    refine last.wp_region_later (S := fun w' => BoxIn w1.heap.size TSh [] (shVals s.1 s.2.2.1 la ln lc ma mn mc ha hn hc) [] w') 7 (by kernel_rfl) hAd.ins.box (fun hHeld0 => ?_)
    refine last.wpAnyL_take (i := 0) (v := (.pointer (some ⟨w1.heap.size, 1, none⟩))) rfl rfl (by kernel_rfl) (by kernel_rfl) (by kernel_rfl) (by kernel_rfl) (fun _ _ _ h => h) (Or.inl ⟨by rfl, ?_⟩) (by assumption) ?_
    · intro wq hSq; go_simp
    try simp only [Act.put, List.setIfInBounds_toArray, List.set_cons_zero, List.set_cons_succ]
    refine last.wpAnyL_take (i := 1) (v := (.slice la ln lc)) rfl rfl (by kernel_rfl) (by kernel_rfl) (by kernel_rfl) (by kernel_rfl) (fun _ _ _ h => h) (Or.inl ⟨by rfl, ?_⟩) (by assumption) ?_
    · intro wq hSq; have q := hSq.cell 1 _ rfl; simp only [List.length_nil, Nat.zero_add] at q; go_simp
    try simp only [Act.put, List.setIfInBounds_toArray, List.set_cons_zero, List.set_cons_succ]
    refine last.wpAnyL_take (i := 2) (v := (.pointer (some ⟨gc, 0, none⟩))) rfl rfl (by kernel_rfl) (by kernel_rfl) (by kernel_rfl) (by kernel_rfl) (fun _ _ _ h => h) (Or.inl ⟨by rfl, ?_⟩) (by assumption) ?_
    · intro wq hSq; go_simp
    try simp only [Act.put, List.setIfInBounds_toArray, List.set_cons_zero, List.set_cons_succ]
    refine last.wpAnyL_one (i := 3) (o := { dst := some 43, op := Op.call { callee := Callee.value (Operand.func 67), args := #[Operand.tmp 42], argTypes := #[57] }, type := 41, pos := "l09_shard.go:219", after := #[{ on := 2, ground := Ground.data }], guard := none }) (by kernel_rfl) rfl (fun K hK => ?_)
    refine stepc.step_call1 rfl 67 (.tmp 42) _ rfl (fun _ _ => rfl) (.pointer (some ⟨gc, 0, none⟩)) (by kernel_rfl) _ HAN.out ?_
    rintro e w6 ⟨r, v6, ⟨htr, hfr⟩, rfl, hV6, hc6, hg6⟩
    refine ⟨_, rfl, ?_⟩
    have hA6 := hAd.step hc6 hg6
    have hl6 := hV6.lt
    have hs6 := hg6.size
    have hsd : w2.drew.heap.size = w2.heap.size := rfl
    refine hK.out _ _ ?_ (fun hHeld => ?_)
    · exact hA6.ins.box
    clear hK K hHeld0
    have hHeld0 := hHeld
    clear hHeld
    try simp only [Act.put, List.setIfInBounds_toArray, List.set_cons_zero, List.set_cons_succ]
    refine last.wpAnyL_one (i := 4) (o := { dst := some 44, op := Op.buildSlice 24 1 #[(0, Operand.tmp 43)], type := 24, pos := "l09_shard.go:219", after := #[{ on := 3, ground := Ground.data }], guard := none }) (by kernel_rfl) rfl (fun K hK => ?_)
    go_simp
    have hb7 : Below w6.heap.size w6 (w6.alloc (.cells #[.int .i64 r.1, .int .i64 r.2.1, v6] 41)) := below_two
    have hA7 := hA6.below hb7
    refine hK.out _ _ ?_ (fun hHeld => ?_)
    · exact hA7.ins.box
    clear hK K hHeld0
    have hHeld0 := hHeld
    clear hHeld
    try simp only [Act.put, List.setIfInBounds_toArray, List.set_cons_zero, List.set_cons_succ]
    refine last.wpAnyL_one (i := 5) (o := { dst := some 45, op := Op.call { callee := Callee.builtin Builtin.append, args := #[Operand.tmp 41, Operand.tmp 44], argTypes := #[24, 24] }, type := 24, pos := "l09_shard.go:219", after := #[{ on := 1, ground := Ground.data }, { on := 4, ground := Ground.data }, { on := 3, ground := Ground.chain }], guard := none }) (by kernel_rfl) rfl (fun K hK => ?_)
    have hG67 := grown_below (grownBy_trans (grown_below (World.grownBy.refl w2 (some gc)) hd2) hg6) hb7
    obtain ⟨g1, g2, g3⟩ := hA2.gX
    have hOL7 : OwnR _ 0 (.slice la ln lc) s.2.1 hl := hOL.of_blocks fun k hk => hG67.block k (hOL.lt k hk).2 (fun e => g2 (by rw [← Option.some.inj e, hFe]; exact List.mem_append.2 (.inl (mem_blkR.2 hk))))
    have hOH7 : OwnR _ 0 (.slice ha hn hc) s.2.2.2.2 hh := hOH.of_blocks fun k hk => hG67.block k (hOH.lt k hk).2 (fun e => g2 (by rw [← Option.some.inj e, hFe]; exact List.mem_append.2 (.inr (List.mem_append.2 (.inr (mem_blkR.2 hk))))))
    have hV7 := (hV6.mono (base' := 0) (Nat.zero_le _)).below hb7
    refine step_append_lies _ rfl (.tmp 41) (.tmp 44) 24 rfl 0 41 i0 (.agg #[.int .i64 0, .int .i64 0, .slice none 0 0]) 3 40 Tryz.underlying24 hi hz0 hz1 hz2 rfl (by decide) (.slice la ln lc) ln (recVals s.2.1 hl) (by kernel_rfl) (by have q := hOL7.row; rw [← HL1.out] at q; exact q) ⟨w6.heap.size, 0, none⟩ 1 1 [.int .i64 r.1, .int .i64 r.2.1, v6] (by kernel_rfl) rfl (rec_cellsW w6 r.1 r.2.1 _ _) (rec_oneW r.1 r.2.1 hV6.one) (by decide) hc3 hc4 (Nat.zero_le _) _ rfl ?_
    intro g8 c8 w8 hown8 hgrow8 hat8 hlt8
    have hsmr : smallR r := ⟨WalkArith.wf_i64 (by have := htr.1; omega), WalkArith.wf_i64 (by have := htr.2.1; omega), fun o ho => tinyO_small (htr.2.2.2 o ho)⟩
    have hvF : ∀ j, v6.ownBlock = some j → j ∉ F ∧ j ≠ w1.heap.size := fun j hj => by
      have h6 := hl6 j hj
      refine ⟨fun e => ?_, fun e => ?_⟩
      · have := hA2.ins.own.lt j e; omega
      · omega
    have hO8 := hOL7.snoc hV7 hsmr (fun k hk hb => (hvF k hk).1 (by rw [hFe]; exact List.mem_append.2 (.inl (mem_blkR.2 hb)))) (by rw [← HL1.out]; exact hown8) hgrow8
    have hP := hA7.ins.putLog (v := v6) hOL7 hOH7 hFe hvF hgrow8 hO8 hat8
    simp only [List.length_nil, Nat.zero_add] at hP
    obtain ⟨F', hP1, hP2, hP3⟩ := hP
    have hXm : w1.heap.size ≠ w6.heap.size := by have := hA6.ins.box.lt; omega
    have hRl := hA2.rb.lt
    have hA9 := hA7.wrote hP1 hP2 (fun k hk => by
      rcases hP3 k hk with e | e | e
      · exact .inl e
      · have := hl6 k e
        exact .inr ⟨by have := hA2.fr.size; omega, by omega⟩
      · have h1 := hb7.size
        exact .inr ⟨by have := hA2.fr.size; omega, by omega⟩)
    have hAny := hD.any_log htr hfr
    have hb8X : BoxIn w1.heap.size TSh [] (shVals s.1 s.2.2.1 la ln lc ma mn mc ha hn hc) [] w8 := hA7.ins.box.grown hgrow8 (fun e => hA2.ins.out (by rw [hFe]; exact List.mem_append.2 (.inl (mem_blkR.2 (.inl e.symm)))))
    refine hK.out _ _ ?_ (fun hHeld => ?_)
    · exact hb8X
    clear hK K hHeld0
    have hHeld0 := hHeld
    clear hHeld
    try simp only [Act.put, List.setIfInBounds_toArray, List.set_cons_zero, List.set_cons_succ]
    refine last.wpAnyL_take (i := 6) (v := (.pointer (some ⟨w1.heap.size, 1, none⟩))) rfl rfl (by kernel_rfl) (by kernel_rfl) (by kernel_rfl) (by kernel_rfl) (fun _ _ _ h => h) (Or.inl ⟨by rfl, ?_⟩) (by assumption) ?_
    · intro wq hSq; go_simp
    try simp only [Act.put, List.setIfInBounds_toArray, List.set_cons_zero, List.set_cons_succ]
    have e8 := hb8X.cell 1 _ rfl
    have f8 := hb8X.fz 1
    simp only [List.length_nil, Nat.zero_add] at e8
    refine last.wpAnyL_last (o := { dst := none, op := Op.store 24 (Operand.tmp 46) (Operand.tmp 45), type := 0, pos := "l09_shard.go:219", after := #[{ on := 6, ground := Ground.data }, { on := 5, ground := Ground.data }, { on := 5, ground := Ground.chain }, { on := 0, ground := Ground.phase }, { on := 1, ground := Ground.phase }, { on := 2, ground := Ground.phase }, { on := 3, ground := Ground.phase }, { on := 4, ground := Ground.phase }, { on := 5, ground := Ground.phase }], guard := none }) (by kernel_rfl) rfl (by kernel_rfl) (fun K hK => ?_)
    go_simp
    refine hK.out _ _ ?_
    clear hK K
    clear hFe hvF hl6 hs6 hsd htr hfr hsmr hXm hRl hc3 hc4 hFn hs1 g1 g2 g3 hHeld0 e8 f8 hb8X hP1 hP2 hP3 hO8 hown8 hgrow8 hat8 hlt8 hOL7 hOH7 hV7 hG67 hA7 hb7 hA6 hV6 hc6 hg6 HAN hAd hd2 hA2 hOL hOH
    obtain ⟨q0, q1, q2, q3, q4, z0, z1, z2, z3, z4, f0, f1, f2, f3, f4, ⟨hzc0, hzc1, hzc2, hzc3, hzc4⟩, HP⟩ := hA9.set5 hAny
    have hXR : w.heap.size ≠ w1.heap.size := hA9.rX
    have hXR2 : w1.heap.size ≠ w.heap.size := fun e => hXR e.symm
    try dsimp only at q0 q1 q2 q3 q4 z0 z1 z2 z3 z4 hzc0 hzc1 hzc2 hzc3 hzc4 HP
    clear hA9 hAny
    go_wp2_with fail
    refine bodyPost_ret (v := aggSh s.1 s.2.2.1 (some ⟨g8, 0, none⟩) (ln + 1) c8 ma mn mc ha hn hc) ?_ rfl HP.out
    simp [results, Tryz.results28, go_sem, hzc0, hzc1, hzc2, hzc3, hzc4]
  · have y0 : ¬ (x : Int) = 0 := by omega
    have y1 : ¬ (x : Int) = 1 := by omega
    have y2 : ¬ (x : Int) = 2 := by omega
    have y3 : ¬ (x : Int) = 3 := by omega
    have z0' : ((x : Int) == 0) = false := beq_eq_false_iff_ne.2 y0
    have z1' : ((x : Int) == 1) = false := beq_eq_false_iff_ne.2 y1
    have z2' : ((x : Int) == 2) = false := beq_eq_false_iff_ne.2 y2
    have z3' : ((x : Int) == 3) = false := beq_eq_false_iff_ne.2 y3
    have hAny := hD.any
    obtain ⟨q0, q1, q2, q3, q4, z0, z1, z2, z3, z4, f0, f1, f2, f3, f4, ⟨hzc0, hzc1, hzc2, hzc3, hzc4⟩, HP⟩ := hA2.set5 hAny
    have hXR : w.heap.size ≠ w1.heap.size := hA2.rX
    have hXR2 : w1.heap.size ≠ w.heap.size := fun e => hXR e.symm
    try dsimp only at q0 q1 q2 q3 q4 z0 z1 z2 z3 z4 hzc0 hzc1 hzc2 hzc3 hzc4 HP
    clear hA2 hAny
    go_wp2_with fail
    refine bodyPost_ret (v := aggSh s.1 s.2.2.1 la ln lc ma mn mc ha hn hc) ?_ rfl HP.out
    simp [results, Tryz.results28, go_sem, hzc0, hzc1, hzc2, hzc3, hzc4]
end Go.Proofs.YteniflajiklffaaGreatDoor.recs

namespace Go.Proofs.YteniflajiklffaaGreatDoor.recs
open Go Go.RowKit Go.Proofs.YteniflajiklffaaGreatDoor.base Go.Proofs.YteniflajiklffaaGreatDoor.pairs Go.Proofs.YteniflajiklffaaGreatDoor.ords Go.Proofs.YteniflajiklffaaGreatDoor.helps Go.Proofs.YteniflajiklffaaGreatDoor.help Go.Proofs.YteniflajiklffaaGreatDoor.lay Go.Proofs.YteniflajiklffaaGreatDoor.draw
set_option linter.unusedVariables false
set_option linter.unusedSimpArgs false

def GotHS (w : World) (e : Ending) (w' : World) : Prop :=
  ∃ (la : Option Addr) (ln lc : Nat) (ma : Option Addr) (mn mc : Nat) (ha : Option Addr) (hn hc : Nat) (s : Shd) (F : List Nat) (z : Int) (g m cp : Nat) (l : List Od), AnyS s ∧ (0 ≤ z ∧ z ≤ 9) ∧ (m ≤ 8 ∧ ∀ p ∈ l, tinyO p) ∧ e = .returned (.tuple #[aggSh s.1 s.2.2.1 la ln lc ma mn mc ha hn hc, .int .i64 z, .slice (some ⟨g, 0, none⟩) m cp]) ∧ OwnSh w' la ln lc ma mn mc ha hn hc s F ∧ (∀ k ∈ F, w.heap.size ≤ k) ∧ OwnO w' w.heap.size g m cp l ∧ Below w.heap.size w w'
theorem gotHS_mk {w w' : World} {la ma ha : Option Addr} {ln lc mn mc hn hc : Nat} {s : Shd} {F : List Nat} {z : Int} {g m cp : Nat} {l : List Od} (hd : AnyS s) (hz : 0 ≤ z ∧ z ≤ 9) (hl : m ≤ 8 ∧ ∀ p ∈ l, tinyO p) (h : OwnSh w' la ln lc ma mn mc ha hn hc s F) (hF : ∀ k ∈ F, w.heap.size ≤ k) (ho : OwnO w' w.heap.size g m cp l) (hb : Below w.heap.size w w') : GotHS w (.returned (.tuple #[aggSh s.1 s.2.2.1 la ln lc ma mn mc ha hn hc, .int .i64 z, .slice (some ⟨g, 0, none⟩) m cp])) w' :=
  ⟨la, ln, lc, ma, mn, mc, ha, hn, hc, s, F, z, g, m, cp, l, hd, hz, hl, rfl, h, hF, ho, hb⟩
set_option maxRecDepth 100000 in
set_option maxHeartbeats 4000000 in
theorem drawHold (a : Option Addr) (len cap : Nat) (code : List UInt8) (w : World) (h : Sl w a len code) (hln : len ≤ 1099511627776) :
    Calls Tryz.prog 8 #[.slice a len cap] w (GotHS w) := by
  obtain ⟨W, hW⟩ : ∃ W, w.alloc (boxSh 0 0 none 0 0 none 0 0 none 0 0) = W := ⟨_, rfl⟩
  have hB : Below w.heap.size w W := by rw [← hW]; exact below_two
  have hR : BoxIn w.heap.size TSh [] (shVals 0 0 none 0 0 none 0 0 none 0 0) [] W := by rw [← hW]; exact boxIn_new w _ _
  have hXl := hR.lt
  have HW := Hid.mk' hW
  clear hW
  go_enter Tryz.func8, Tryz.ntmps8
  go_wp2_with fail
  rw [HW.out]
  refine (new_ w W a len cap code h hB hln).mono ?_
  rintro e w1 ⟨rfl, hc1, hb1⟩
  have hR1 := hR.below hb1
  have hB1 := hB.trans (hb1.mono hB.size)
  have hgc := hc1.lt
  clear HW
  go_wp2_with fail
  refine (size_ a len cap 16 w1 (by omega) (by omega) hln).mono ?_
  rintro e w2 ⟨n, hn3, hn24, rfl, hw2⟩
  subst hw2
  have HDS := Hid.mk' (d_any w w2 W.heap.size a len cap code n hc1 (by omega) (by omega))
  go_wp2_with fail
  refine HDS.out.mono ?_
  rintro e w3 ⟨la, ln, lc, ma, mn, mc, ha, hn, hc, s, F, hD, rfl, hOS, hFn, hc3, hg3⟩
  have hR3 := hR1.grown hg3 (fun e => by have := Option.some.inj e; omega)
  have hB3 : Below w.heap.size w w3 := hB1.grown hg3 hB1.size (fun k e => by cases e; exact hB.size)
  have hs2 := hB1.size
  have hs3 := hg3.size
  have hs1 := hb1.size
  have hs0 := hB.size
  obtain ⟨w4, hw4⟩ : ∃ w4, w3.alloc (.cells #[.int .i64 1, .int .i64 2, .int .i64 7, .int .i64 8, .int .i64 9, .int .i64 0] 3) = w4 := ⟨_, rfl⟩
  have hb4 : Below w3.heap.size w3 w4 := by rw [← hw4]; exact below_two
  have hL4 : w4.heap[w3.heap.size]? = some (.cells #[.int .i64 1, .int .i64 2, .int .i64 7, .int .i64 8, .int .i64 9, .int .i64 0] 3) := by rw [← hw4]; exact heap_alloc_new w3 _
  have HIN := Hid.mk' (int_ w w4 W.heap.size a len cap code w3.heap.size 6 6 _ _ (hc3.below hb4) hL4 rfl (by omega) (by omega) (by omega) (fun z => decide (0 ≤ z ∧ z ≤ 9) = true) (some_atI _ 6 (fun z => decide (0 ≤ z ∧ z ≤ 9)) (by kernel_rfl)))
  rw [← hw4] at HIN
  have HW4 := Hid.mk' hw4
  have hR4 := hR3.below hb4
  have hB4 := hB3.trans (hb4.mono hB3.size)
  have hO4 := hOS.below hb4
  have hs34 := hb4.size
  clear hw4 hL4 hOS hR3 hR1 hR hc3 hc1 hB1 hb1 HDS
  go_wp2_with fail
  refine HIN.out.mono ?_
  rw [HW4.out]
  rintro e w5 ⟨z, hz, rfl, hc5, hg5⟩
  have hz' := of_decide_eq_true hz
  have hR5 := hR4.grown hg5 (fun e => by have := Option.some.inj e; omega)
  have hB5 : Below w.heap.size w w5 := hB4.grown hg5 hB4.size (fun k e => by cases e; exact hB.size)
  have hO5 := hO4.keep (fun j hj => hg5.block j (hO4.lt j hj) (fun e => by have := hFn j hj; have := Option.some.inj e; omega))
  have HAN := Hid.mk' (d_anyO w w5 W.heap.size a len cap code hc5)
  have hs5 := hg5.size
  clear HIN HW4 hR4 hB4 hO4 hg5 hb4 hB3 hg3
  go_wp2_with fail
  refine HAN.out.mono ?_
  rintro e w6 ⟨go, m, cp, l, hm, htt, rfl, hOo, hc6, hg6⟩
  have hR6 := hR5.grown hg6 (fun e => by have := Option.some.inj e; omega)
  have hB6 : Below w.heap.size w w6 := hB5.grown hg6 hB5.size (fun k e => by cases e; exact hB.size)
  have hO6 := hO5.keep (fun j hj => hg6.block j (hO5.lt j hj) (fun e => by have := hFn j hj; have := Option.some.inj e; omega))
  have hol := hOo.lt
  clear HAN hR5 hB5 hO5 hc5 hc6 hg6
  have z0 := hR6.cell 0 _ rfl
  have z1 := hR6.cell 1 _ rfl
  have z2 := hR6.cell 2 _ rfl
  have z3 := hR6.cell 3 _ rfl
  have z4 := hR6.cell 4 _ rfl
  simp only [List.length_nil, Nat.zero_add] at z0 z1 z2 z3 z4
  have f0 := hR6.fz 0
  have f1 := hR6.fz 1
  have f2 := hR6.fz 2
  have f3 := hR6.fz 3
  have f4 := hR6.fz 4
  have hS5 := hR6.set5 (.int .i64 s.1) (.slice la ln lc) (.int .i64 s.2.2.1) (.slice ma mn mc) (.slice ha hn hc)
  simp only [List.length_nil, Nat.zero_add] at hS5
  have hOz := hO6.keep (fun j hj => hS5.2.block j (hO6.lt j hj) (fun e => by have := hFn j hj; have := Option.some.inj e; omega))
  have hOoz : OwnO _ w.heap.size go m cp l := (hOo.grown hS5.2 (by simp; omega)).mono (by omega)
  have hBz := hB6.grown hS5.2 hB6.size (fun j e => by cases e; exact Nat.le_refl _)
  have hzc0 := hS5.1.cell 0 _ rfl
  have hzc1 := hS5.1.cell 1 _ rfl
  have hzc2 := hS5.1.cell 2 _ rfl
  have hzc3 := hS5.1.cell 3 _ rfl
  have hzc4 := hS5.1.cell 4 _ rfl
  simp only [List.length_nil, Nat.zero_add] at hzc0 hzc1 hzc2 hzc3 hzc4
  have HP := Hid.mk' (gotHS_mk (w := w) hD hz' ⟨by omega, htt⟩ hOz (fun k hk => Nat.le_trans hs2 (hFn k hk)) hOoz hBz)
  clear hOz hBz hS5 hO6 hR6 hB6 hOo hOoz
  go_wp2_with fail
  refine bodyPost_ret (v := .tuple #[aggSh s.1 s.2.2.1 la ln lc ma mn mc ha hn hc, .int .i64 z, .slice (some ⟨go, 0, none⟩) m cp]) ?_ rfl HP.out
  simp [results, Tryz.results8, go_sem, hzc0, hzc1, hzc2, hzc3, hzc4]
end Go.Proofs.YteniflajiklffaaGreatDoor.recs

namespace Go.Proofs.YteniflajiklffaaGreatDoor.base
open Go.RowKit
set_option linter.unusedVariables false
theorem big_ (a0 : Option Addr) (len0 cap0 : Nat) (w : World) (h : len0 ≤ maxLen) :
    Calls Tryz.prog 7 #[.slice a0 len0 cap0] w fun e w' => e = .returned (.bool (decide (1048576 < (len0 : Int)))) ∧ w' = w := by
  unfold maxLen at h
  go_enter Tryz.func7, Tryz.ntmps7
  go_wp2
  go_ret
  exact ⟨rfl, rfl⟩
end Go.Proofs.YteniflajiklffaaGreatDoor.base
