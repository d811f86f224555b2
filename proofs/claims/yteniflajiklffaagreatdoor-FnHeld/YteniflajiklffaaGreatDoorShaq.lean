/- The specification's shard: a record is written. The specification's shard: it holds. -/
import Derived.Test.YteniflajiklffaaGreatDoorShao
import Derived.Test.YteniflajiklffaaGreatDoorShap
namespace Go.Proofs.YteniflajiklffaaGreatDoor.recs
open Go Go.RowKit Go.Proofs.YteniflajiklffaaGreatDoor.base Go.Proofs.YteniflajiklffaaGreatDoor.pairs Go.Proofs.YteniflajiklffaaGreatDoor.ords Go.Proofs.YteniflajiklffaaGreatDoor.helps Go.Proofs.YteniflajiklffaaGreatDoor.help Go.Proofs.YteniflajiklffaaGreatDoor.lay
set_option linter.unusedVariables false
set_option linter.unusedSimpArgs false

structure Fits (m : List Pr) (held : List Rc) (r : Rc) : Prop where
  ok : recOk r = true
  fit : (r.1 = 1 ∧ locked held r.2.2 = false ∧ meets m r.2.2 = true) ∨ (r.1 = 3 ∧ placeTx r.2.1 held = none) ∨ (r.1 ≠ 1 ∧ ∃ k, placeTx r.2.1 held = some k)
  few : m.length ≤ 60
  heldN : held.length ≤ 1099511627776
  eight : ∀ k, k < held.length → (opsAt held k).length ≤ 8
def ForcePost (w : World) (F0 : List Nat) (X : Nat) (m : List Pr) (held : List Rc) (r : Rc) (e : Ending) (w' : World) : Prop :=
  ∃ b am nm cm ah ch vs hs z, e = .returned (.bool b) ∧ Kept False w F0 w' X am nm cm ah ch vs ((forced m held r).1, (forced m held r).2, z) hs
theorem forcePost_some {w w' : World} {F0 : List Nat} {X : Nat} {m : List Pr} {held : List Rc} {r : Rc} {e : Ending} {t : St} (h : OnePost False w F0 X (some t) e w') (e1 : t.1 = (forced m held r).1) (e2 : t.2.1 = (forced m held r).2) : ForcePost w F0 X m held r e w' := by
  obtain ⟨h1, am, nm, cm, ah, ch, vs, hs, hK⟩ := h
  obtain ⟨t1, t2, t3⟩ := t
  simp only [] at e1 e2
  subst e1 e2
  exact ⟨true, am, nm, cm, ah, ch, vs, hs, t3, h1, hK⟩
theorem spec_force (w : World) (F0 : List Nat) (X : Nat) (am : Option Addr) (nm cm : Nat) (ah : Option Addr) (ch : Nat) (m : List Pr) (held : List Rc) (hs : List Value) (kind tx : Int) (a : Option Addr) (len cap : Nat) (ops : List Od)
    (hK : Kept False w F0 w X am nm cm ah ch (.slice none 0 0) (m, held, []) hs) (hSo : SlO w a len ops) (hks : ∀ p ∈ ops, p.2.1.size ≤ 1099511627776) (hsr : smallR (kind, tx, ops)) (hlen : len ≤ 1099511627776) (hF : Fits m held (kind, tx, ops)) :
    Calls Tryz.prog 113 #[.pointer (some ⟨X, 0, none⟩), .agg #[.int .i64 kind, .int .i64 tx, .slice a len cap]] w (ForcePost w F0 X m held (kind, tx, ops)) := by
  have hok := hF.ok
  rcases hF.fit with ⟨h1, h2, h3⟩ | ⟨h1, h2⟩ | ⟨h1, k, h2⟩
  · obtain rfl : kind = 1 := h1
    refine (one_hold False w F0 w X am nm cm ah ch _ (m, held, []) hs tx a len cap ops hK hSo hks hok hsr hlen hF.heldN (Nat.zero_le _) (by simp) h2 h3).mono fun e w' hp => forcePost_some hp ?_ ?_
    · unfold forced; rw [if_pos rfl]
    · unfold forced; rw [if_pos rfl]
  · obtain rfl : kind = 3 := h1
    have h2' : placeTx tx held = none := h2
    refine (one_gone False w F0 w X am nm cm ah ch _ (m, held, []) hs tx a len cap ops hK hSo hks hok (Nat.zero_le _) h2 (by simp)).mono fun e w' hp => forcePost_some hp ?_ ?_
    · unfold forced; rw [if_neg (by simp)]; simp only [h2']
    · unfold forced; rw [if_neg (by simp)]; simp only [h2']
  · have h2' : placeTx tx held = some k := h2
    have hkk : kind = 2 ∨ kind = 3 := by
      rcases ((recOk_iff _).1 hok).2 with ⟨e, _⟩ | ⟨e, _⟩
      · exact absurd e h1
      · exact e
    have hkl := placeTx_lt h2
    rcases hkk with rfl | rfl
    · have hk8 := hF.eight k hkl
      by_cases h60 : (applyAll m (opsAt held k)).length ≤ 60
      · refine (one_done False w F0 w X am nm cm ah ch _ (m, held, []) hs tx a len cap ops hK hSo hks hok k hF.heldN h2 hF.few hk8 h60).mono fun e w' hp => forcePost_some hp ?_ ?_
        · unfold forced; rw [if_neg (by simp)]; simp only [h2']; unfold nextM; rw [if_pos rfl]
        · unfold forced; rw [if_neg (by simp)]; simp only [h2']
      · refine (one_over False w F0 w X am nm cm ah ch _ (m, held, []) hs tx a len cap ops hK hSo hks hok k hF.heldN h2 hF.few hk8 (by show 60 < (applyAll m (opsAt held k)).length; omega)).mono fun e w' hp => ?_
        obtain ⟨h1', am', nm', cm', ah', ch', vs', hs', hK'⟩ := hp
        have e1 : (forced m held (2, tx, ops)).1 = applyAll m (opsAt held k) := by unfold forced; rw [if_neg (by simp)]; simp only [h2']; unfold nextM; rw [if_pos rfl]
        have e2 : (forced m held (2, tx, ops)).2 = held.take k ++ held.drop (k + 1) := by unfold forced; rw [if_neg (by simp)]; simp only [h2']
        exact ⟨false, am', nm', cm', ah', ch', vs', hs', [], h1', by rw [e1, e2]; exact hK'⟩
    · refine (one_end False w F0 w X am nm cm ah ch _ (m, held, []) hs tx a len cap ops hK hSo hks hok k hF.heldN h2 hF.few).mono fun e w' hp => forcePost_some hp ?_ ?_
      · unfold forced; rw [if_neg (by simp)]; simp only [h2']; unfold nextM; rw [if_neg (by simp)]
      · unfold forced; rw [if_neg (by simp)]; simp only [h2']
structure InSh (w : World) (X : Nat) (T : TypeId) (pre post : List Value) (la : Option Addr) (ln lc : Nat) (ma : Option Addr) (mn mc : Nat) (ha : Option Addr) (hn hc : Nat) (s : Shd) (F : List Nat) : Prop where
  box : BoxIn X T pre (shVals s.1 s.2.2.1 la ln lc ma mn mc ha hn hc) post w
  own : OwnSh w la ln lc ma mn mc ha hn hc s F
  out : X ∉ F
def WrotePost (w : World) (X : Nat) (T : TypeId) (pre post : List Value) (F : List Nat) (s' : Shd) (w' : World) : Prop :=
  ∃ la ln lc ma mn mc ha hn hc F', InSh w' X T pre post la ln lc ma mn mc ha hn hc s' F' ∧ lay.Frame (X :: F) w w' ∧ Fresh w F F'
set_option maxRecDepth 100000 in
set_option maxHeartbeats 4000000 in
theorem spec_l9Write (X : Nat) (T : TypeId) (pre post : List Value) (la : Option Addr) (ln lc : Nat) (ma : Option Addr) (mn mc : Nat) (ha : Option Addr) (hn hc : Nat) (s : Shd) (F : List Nat) (kind tx : Int) (a : Option Addr) (len cap : Nat) (ops : List Od) (w : World)
    (h : InSh w X T pre post la ln lc ma mn mc ha hn hc s F) (hst : ∀ w', lay.Frame (X :: F) w w' → SlO w' a len ops) (hks : ∀ p ∈ ops, p.2.1.size ≤ 1099511627776) (hsr : smallR (kind, tx, ops)) (hlen : len ≤ 1099511627776) (hF : Fits s.2.2.2.1 s.2.2.2.2 (kind, tx, ops)) (hll : s.2.1.length ≤ 1099511627776) :
    Calls Tryz.prog 87 #[.pointer (some ⟨X, pre.length, none⟩), .agg #[.int .i64 kind, .int .i64 tx, .slice a len cap]] w fun e w' => e = .returned (.tuple #[]) ∧ WrotePost w X T pre post F (written s (kind, tx, ops)) w' := by
  obtain ⟨i0, hi, hz0, hz1, hz2⟩ := info_parts infoRW
  obtain ⟨hl, hOL, hh, hOH, hFe⟩ := h.own.log
  have hOM := h.own.map
  have hnd := h.own.nodup
  have hXF := h.out
  have hbX := h.box
  have hXw := hbX.lt
  have hlnl : ln = s.2.1.length := hOL.nlen
  have hhnl : hn = s.2.2.2.2.length := hOH.nlen
  subst hlnl hhnl
  have hFlt := h.own.lt
  obtain ⟨W, hW⟩ : ∃ W, W = w.alloc (.cells #[.int .i64 kind, .int .i64 tx, .slice a len cap] 41) := ⟨_, rfl⟩
  have hbW : Below w.heap.size w W := by rw [hW]; exact (Below.refl _ _).alloc (Nat.le_refl _) _
  have hbx : BoxR w.heap.size kind tx (.slice a len cap) W := by rw [hW]; exact boxR_new _ _ _ _
  have hsW : W.heap.size = w.heap.size + 1 := by rw [hW]; simp
  have HW := Hid.mk' hW.symm
  clear hW
  have hbXW := hbX.below hbW
  have hdW : Below W.heap.size W W.drew := (Below.refl _ _).drew
  have HSW := Hid.mk' hsW
  clear hsW
  go_enter Tryz.func87, Tryz.ntmps87
  go_wp2_with fail
  rw [HW.out]
  refine last.wp_region_later (S := fun w' => BoxIn X T pre (shVals s.1 s.2.2.1 la s.2.1.length lc ma mn mc ha s.2.2.2.2.length hc) post w') 10 (by kernel_rfl) (hbXW.below hdW) (fun hHeld0 => ?_)
  refine last.wpAnyL_take (i := 0) (v := (.pointer (some ⟨X, pre.length, none⟩))) rfl rfl (by kernel_rfl) (by kernel_rfl) (by kernel_rfl) (by kernel_rfl) (fun _ _ _ h => h) (Or.inl ⟨by rfl, ?_⟩) (by assumption) ?_
  · intro wq hSq; go_simp
  try simp only [Act.put, List.setIfInBounds_toArray, List.set_cons_zero, List.set_cons_succ]
  refine last.wpAnyL_take (i := 1) (v := (.pointer (some ⟨X, pre.length, none⟩))) rfl rfl (by kernel_rfl) (by kernel_rfl) (by kernel_rfl) (by kernel_rfl) (fun _ _ _ h => h) (Or.inl ⟨by rfl, ?_⟩) (by assumption) ?_
  · intro wq hSq; go_simp
  try simp only [Act.put, List.setIfInBounds_toArray, List.set_cons_zero, List.set_cons_succ]
  refine last.wpAnyL_take (i := 2) (v := (.pointer (some ⟨X, pre.length + 3, none⟩))) rfl rfl (by kernel_rfl) (by kernel_rfl) (by kernel_rfl) (by kernel_rfl) (fun _ _ _ h => h) (Or.inl ⟨by rfl, ?_⟩) (by assumption) ?_
  · intro wq hSq; go_simp
  try simp only [Act.put, List.setIfInBounds_toArray, List.set_cons_zero, List.set_cons_succ]
  refine last.wpAnyL_take (i := 3) (v := (.slice ma mn mc)) rfl rfl (by kernel_rfl) (by kernel_rfl) (by kernel_rfl) (by kernel_rfl) (fun _ _ _ h => h) (Or.inl ⟨by rfl, ?_⟩) (by assumption) ?_
  · intro wq hSq; have q := hSq.cell 3 _ rfl; go_simp
  try simp only [Act.put, List.setIfInBounds_toArray, List.set_cons_zero, List.set_cons_succ]
  refine last.wpAnyL_take (i := 4) (v := (.pointer (some ⟨X, pre.length, none⟩))) rfl rfl (by kernel_rfl) (by kernel_rfl) (by kernel_rfl) (by kernel_rfl) (fun _ _ _ h => h) (Or.inl ⟨by rfl, ?_⟩) (by assumption) ?_
  · intro wq hSq; go_simp
  try simp only [Act.put, List.setIfInBounds_toArray, List.set_cons_zero, List.set_cons_succ]
  refine last.wpAnyL_take (i := 5) (v := (.pointer (some ⟨X, pre.length, none⟩))) rfl rfl (by kernel_rfl) (by kernel_rfl) (by kernel_rfl) (by kernel_rfl) (fun _ _ _ h => h) (Or.inl ⟨by rfl, ?_⟩) (by assumption) ?_
  · intro wq hSq; go_simp
  try simp only [Act.put, List.setIfInBounds_toArray, List.set_cons_zero, List.set_cons_succ]
  refine last.wpAnyL_take (i := 6) (v := (.pointer (some ⟨X, pre.length + 4, none⟩))) rfl rfl (by kernel_rfl) (by kernel_rfl) (by kernel_rfl) (by kernel_rfl) (fun _ _ _ h => h) (Or.inl ⟨by rfl, ?_⟩) (by assumption) ?_
  · intro wq hSq; go_simp
  try simp only [Act.put, List.setIfInBounds_toArray, List.set_cons_zero, List.set_cons_succ]
  refine last.wpAnyL_take (i := 7) (v := (.slice ha s.2.2.2.2.length hc)) rfl rfl (by kernel_rfl) (by kernel_rfl) (by kernel_rfl) (by kernel_rfl) (fun _ _ _ h => h) (Or.inl ⟨by rfl, ?_⟩) (by assumption) ?_
  · intro wq hSq; have q := hSq.cell 4 _ rfl; go_simp
  try simp only [Act.put, List.setIfInBounds_toArray, List.set_cons_zero, List.set_cons_succ]
  refine last.wpAnyL_take (i := 8) (v := (.agg #[.slice ma mn mc, .slice ha s.2.2.2.2.length hc, .slice none 0 0])) rfl rfl (by kernel_rfl) (by kernel_rfl) (by kernel_rfl) (by kernel_rfl) (fun _ _ _ h => h) (Or.inl ⟨by rfl, ?_⟩) (by assumption) ?_
  · intro wq hSq; go_simp
  try simp only [Act.put, List.setIfInBounds_toArray, List.set_cons_zero, List.set_cons_succ]
  refine last.wpAnyL_one (i := 9) (o := { dst := some 14, op := Op.box 146 (Operand.tmp 13), type := 144, pos := "l09_shard.go:62", after := #[{ on := 8, ground := Ground.data }], guard := none }) (by kernel_rfl) rfl (fun K hK => ?_)
  go_simp
  have hb1 : Below W.heap.size W ((W.alloc (.cells #[.slice ma mn mc, .slice ha s.2.2.2.2.length hc, .slice none 0 0] 146)).drew) := ((Below.refl _ _).alloc (Nat.le_refl _) _).drew
  have hbS : BoxS W.heap.size (.slice ma mn mc) (.slice ha s.2.2.2.2.length hc) (.slice none 0 0) ((W.alloc (.cells #[.slice ma mn mc, .slice ha s.2.2.2.2.length hc, .slice none 0 0] 146)).drew) := heap_alloc_new W _
  refine hK.out _ _ ?_ (fun hHeld => ?_)
  · exact hbXW.below hb1
  clear hK K hHeld0
  have hHeld0 := hHeld
  clear hHeld
  try simp only [Act.put, List.setIfInBounds_toArray, List.set_cons_zero, List.set_cons_succ]
  refine last.wpAnyL_last (o := { dst := some 4, op := Op.assign (Operand.tmp 14), type := 144, pos := "l09_shard.go:62", after := #[{ on := 9, ground := Ground.data }, { on := 0, ground := Ground.phase }, { on := 1, ground := Ground.phase }, { on := 2, ground := Ground.phase }, { on := 3, ground := Ground.phase }, { on := 4, ground := Ground.phase }, { on := 5, ground := Ground.phase }, { on := 6, ground := Ground.phase }, { on := 7, ground := Ground.phase }, { on := 8, ground := Ground.phase }, { on := 9, ground := Ground.phase }], guard := none }) (by kernel_rfl) rfl (by kernel_rfl) (fun K hK => ?_)
  go_simp
  refine hK.out _ _ ?_
  clear hK K
  generalize hW1 : (W.alloc (.cells #[.slice ma mn mc, .slice ha s.2.2.2.2.length hc, .slice none 0 0] 146)).drew = W1 at *
  clear hW1 hHeld0
  have hB1 : Below w.heap.size w W1 := hbW.trans (hb1.mono hbW.size)
  have hbx1 := hbx.below hb1
  have hbX1 := hbXW.below hb1
  have hs1 := hb1.size
  obtain ⟨F0, hF0⟩ : ∃ F0, F0 = (Value.slice ma mn mc).ownBlock.toList ++ blkR (.slice ha s.2.2.2.2.length hc) hh := ⟨_, rfl⟩
  have hF0F : ∀ k ∈ F0, k ∈ F := fun k hk => by rw [hFe]; rw [hF0] at hk; exact List.mem_append.2 (.inr hk)
  have hKp : Kept False W1 F0 W1 W.heap.size ma mn mc ha hc (.slice none 0 0) (s.2.2.2.1, s.2.2.2.2, []) hh :=
    ⟨hbS, hOM.below hB1, hOH.below hB1, ownQ_nil _ _, lay.Frame.refl _ _, fun k e => .inl (by rw [hF0]; exact List.mem_append.2 (.inl (by simp [e]))), fun k e => .inl (by rw [hF0]; exact List.mem_append.2 (.inr (mem_blkR.2 e))), fun k e => by simp [Value.ownBlock] at e, fun e => e.elim, fun e => e.elim⟩
  have HFO := Hid.mk' (spec_force W1 F0 W.heap.size ma mn mc ha hc s.2.2.2.1 s.2.2.2.2 hh kind tx a len cap ops hKp (hst W1 (lay.Frame.of_below hB1)) hks hsr hlen hF)
  obtain ⟨d0, d1, d2⟩ := hbx1.cells
  go_wp2_with fail
  refine HFO.out.mono ?_
  rintro e w2 ⟨bb, am, nm, cm, ah, ch, vs, hs, z, rfl, hK2⟩
  clear HFO d0 d1 d2 hKp
  have hWl := HSW.out
  have hXne : X ≠ W.heap.size := by omega
  have hX2 : X ∉ W.heap.size :: F0 := fun e => by
    rcases List.mem_cons.1 e with e | e
    · exact hXne e
    · exact hXF (hF0F X e)
  have hbX2 := hbX1.frame hK2.fr hX2
  have hR2 : w.heap.size ∉ W.heap.size :: F0 := fun e => by
    rcases List.mem_cons.1 e with e | e
    · omega
    · have := hFlt _ (hF0F _ e); omega
  have hbx2 : BoxR w.heap.size kind tx (.slice a len cap) w2 := (hK2.fr.block _ hbx1.lt hR2).trans hbx1
  have hLd : ∀ k, BlkR (.slice la s.2.1.length lc) hl k → k ∈ F ∧ k ∉ F0 ∧ k < w.heap.size := fun k hk => by
    have h1 := mem_blkR.2 hk
    have h2 : k ∈ F := by rw [hFe]; exact List.mem_append.2 (.inl h1)
    rw [hFe, ← hF0] at hnd
    exact ⟨h2, (nodup_parts hnd).2.2 k h1, hFlt k h2⟩
  have hOL2 : OwnR w2 0 (.slice la s.2.1.length lc) s.2.1 hl := (hOL.below hB1).of_blocks fun k hk => hK2.fr.block k ((hOL.below hB1).lt k hk).2 (fun e => by
    have h3 := hLd k hk
    rcases List.mem_cons.1 e with e | e
    · omega
    · exact h3.2.1 e)
  have hFr2 : lay.Frame (X :: F) w w2 := (lay.Frame.of_below (G := X :: F) hB1).trans hK2.fr (fun k hk => by
    rcases List.mem_cons.1 hk with e | e
    · exact .inr (by omega)
    · exact .inl (List.mem_cons_of_mem _ (hF0F k e)))
  have hd2 : Below w2.heap.size w2 w2.drew := (Below.refl _ _).drew
  have HCR := Hid.mk' (spec_copyRec kind tx a len cap ops w2.drew (hst _ (hFr2.below hd2)) hlen)
  have hc3 : s.2.1.length + 1 ≤ maxLen := by unfold maxLen; omega
  have hc4 : (s.2.1.length + 1) * 40 ≤ 140737488355328 := by omega
  have hs2 := hFr2.size
  clear hbX1 hbXW hbW hb1 hB1 hbx1 hbx hdW HW hbS
  go_wp2_with fail
  refine last.wp_region_later (S := fun w' => BoxIn X T pre (shVals s.1 s.2.2.1 la s.2.1.length lc ma mn mc ha s.2.2.2.2.length hc) post w' ∧ BoxR w.heap.size kind tx (.slice a len cap) w') 11 (by kernel_rfl) ⟨hbX2.below hd2, hbx2.below hd2⟩ (fun hHeld0 => ?_)
  refine last.wpAnyL_take (i := 0) (v := (.pointer (some ⟨X, pre.length, none⟩))) rfl rfl (by kernel_rfl) (by kernel_rfl) (by kernel_rfl) (by kernel_rfl) (fun _ _ _ h => h) (Or.inl ⟨by rfl, ?_⟩) (by assumption) ?_
  · intro wq hSq; go_simp
  try simp only [Act.put, List.setIfInBounds_toArray, List.set_cons_zero, List.set_cons_succ]
  refine last.wpAnyL_take (i := 1) (v := (.pointer (some ⟨X, pre.length, none⟩))) rfl rfl (by kernel_rfl) (by kernel_rfl) (by kernel_rfl) (by kernel_rfl) (fun _ _ _ h => h) (Or.inl ⟨by rfl, ?_⟩) (by assumption) ?_
  · intro wq hSq; go_simp
  try simp only [Act.put, List.setIfInBounds_toArray, List.set_cons_zero, List.set_cons_succ]
  refine last.wpAnyL_take (i := 2) (v := (.pointer (some ⟨X, pre.length, none⟩))) rfl rfl (by kernel_rfl) (by kernel_rfl) (by kernel_rfl) (by kernel_rfl) (fun _ _ _ h => h) (Or.inl ⟨by rfl, ?_⟩) (by assumption) ?_
  · intro wq hSq; go_simp
  try simp only [Act.put, List.setIfInBounds_toArray, List.set_cons_zero, List.set_cons_succ]
  refine last.wpAnyL_take (i := 3) (v := (.pointer (some ⟨X, pre.length + 1, none⟩))) rfl rfl (by kernel_rfl) (by kernel_rfl) (by kernel_rfl) (by kernel_rfl) (fun _ _ _ h => h) (Or.inl ⟨by rfl, ?_⟩) (by assumption) ?_
  · intro wq hSq; go_simp
  try simp only [Act.put, List.setIfInBounds_toArray, List.set_cons_zero, List.set_cons_succ]
  refine last.wpAnyL_take (i := 4) (v := (.slice la s.2.1.length lc)) rfl rfl (by kernel_rfl) (by kernel_rfl) (by kernel_rfl) (by kernel_rfl) (fun _ _ _ h => h) (Or.inl ⟨by rfl, ?_⟩) (by assumption) ?_
  · intro wq hSq; have q := hSq.1.cell 1 _ rfl; go_simp
  try simp only [Act.put, List.setIfInBounds_toArray, List.set_cons_zero, List.set_cons_succ]
  refine last.wpAnyL_take (i := 5) (v := (.agg #[.int .i64 kind, .int .i64 tx, .slice a len cap])) rfl rfl (by kernel_rfl) (by kernel_rfl) (by kernel_rfl) (by kernel_rfl) (fun _ _ _ h => h) (Or.inl ⟨by rfl, ?_⟩) (by assumption) ?_
  · intro wq hSq; obtain ⟨q1, q2, q3⟩ := hSq.2.cells; go_simp
  try simp only [Act.put, List.setIfInBounds_toArray, List.set_cons_zero, List.set_cons_succ]
  refine last.wpAnyL_one (i := 6) (o := { dst := some 24, op := Op.call { callee := Callee.value (Operand.func 112), args := #[Operand.tmp 23], argTypes := #[41] }, type := 41, pos := "l09_shard.go:64", after := #[{ on := 5, ground := Ground.data }], guard := none }) (by kernel_rfl) rfl (fun K hK => ?_)
  refine stepc.step_call1 rfl 112 (.tmp 23) _ rfl (fun _ _ => rfl) (.agg #[.int .i64 kind, .int .i64 tx, .slice a len cap]) (by kernel_rfl) _ HCR.out ?_
  rintro e w6 ⟨g6, c6, rfl, hO6, hb6⟩
  refine ⟨_, rfl, ?_⟩
  have hB6 := hd2.trans (hb6.mono hd2.size)
  refine hK.out _ _ ?_ (fun hHeld => ?_)
  · exact ⟨hbX2.below hB6, hbx2.below hB6⟩
  clear hK K hHeld0
  have hHeld0 := hHeld
  clear hHeld
  try simp only [Act.put, List.setIfInBounds_toArray, List.set_cons_zero, List.set_cons_succ]
  refine last.wpAnyL_one (i := 7) (o := { dst := some 25, op := Op.buildSlice 24 1 #[(0, Operand.tmp 24)], type := 24, pos := "l09_shard.go:64", after := #[{ on := 6, ground := Ground.data }], guard := none }) (by kernel_rfl) rfl (fun K hK => ?_)
  go_simp
  have hb7 : Below w6.heap.size w6 (w6.alloc (.cells #[.int .i64 kind, .int .i64 tx, .slice (some ⟨g6, 0, none⟩) len c6] 41)) := (Below.refl _ _).alloc (Nat.le_refl _) _
  have hB7 := hB6.trans (hb7.mono hB6.size)
  refine hK.out _ _ ?_ (fun hHeld => ?_)
  · exact ⟨hbX2.below hB7, hbx2.below hB7⟩
  clear hK K hHeld0
  have hHeld0 := hHeld
  clear hHeld
  try simp only [Act.put, List.setIfInBounds_toArray, List.set_cons_zero, List.set_cons_succ]
  refine last.wpAnyL_one (i := 8) (o := { dst := some 26, op := Op.call { callee := Callee.builtin Builtin.append, args := #[Operand.tmp 22, Operand.tmp 25], argTypes := #[24, 24] }, type := 24, pos := "l09_shard.go:64", after := #[{ on := 4, ground := Ground.data }, { on := 7, ground := Ground.data }, { on := 6, ground := Ground.chain }], guard := none }) (by kernel_rfl) rfl (fun K hK => ?_)
  have hV6 := (ownV_of hO6).mono (base' := 0) (Nat.zero_le _)
  have hV7 := hV6.below hb7
  have hOL7 := hOL2.below hB7
  refine step_append_lies _ rfl (.tmp 22) (.tmp 25) 24 rfl 0 41 i0 (.agg #[.int .i64 0, .int .i64 0, .slice none 0 0]) 3 40 Tryz.underlying24 hi hz0 hz1 hz2 rfl (by decide) (.slice la s.2.1.length lc) _ _ (by kernel_rfl) hOL7.row ⟨w6.heap.size, 0, none⟩ 1 1 [.int .i64 kind, .int .i64 tx, .slice (some ⟨g6, 0, none⟩) len c6] (by kernel_rfl) rfl (rec_cellsW w6 kind tx _ _) (rec_oneW kind tx hV6.one) (by decide) hc3 hc4 (Nat.zero_le _) _ rfl ?_
  intro g8 c8 w8 hown8 hgrow8 hat8 hlt8
  have hout : ∀ j, (Value.slice (some ⟨g6, 0, none⟩) len c6).ownBlock = some j → ¬ BlkR (.slice la s.2.1.length lc) hl j := fun j hj hb => by
    have e1 : g6 = j := by simpa [Value.ownBlock] using hj
    have h1 := (hOL2.lt j hb).2
    have h2 := hO6.lt.1
    have h3 := hd2.size
    omega
  have hOL8 : OwnR w8 0 (.slice (some ⟨g8, 0, none⟩) (s.2.1.length + 1) c8) (s.2.1 ++ [(kind, tx, ops)]) (hl ++ [.slice (some ⟨g6, 0, none⟩) len c6]) := hOL7.snoc hV7 hsr hout hown8 hgrow8
  have hLrow : ∀ k, (Value.slice la s.2.1.length lc).ownBlock = some k → k ∈ F ∧ k ∉ F0 ∧ k < w.heap.size := fun k hk => hLd k (.inl hk)
  have hbX8 := (hbX2.below hB7).grown hgrow8 (fun e => hXF (hLrow X e.symm).1)
  have hbx8 := (hbx2.below hB7).grown hgrow8 (fun e => by have := hLrow _ e.symm; omega)
  have hFr8 : lay.Frame (X :: F) w w8 := (hFr2.below hB7).grown hgrow8 (fun k e => .inl (List.mem_cons_of_mem _ (hLrow k e).1))
  have hKd : ∀ k, ((Value.slice am nm cm).ownBlock = some k ∨ BlkR (.slice ah (forced s.2.2.2.1 s.2.2.2.2 (kind, tx, ops)).2.length ch) hs k) → (k ∈ F0 ∨ w.heap.size < k) ∧ k < w2.heap.size := fun k hk => by
    refine ⟨?_, ?_⟩
    · rcases hk with e | e
      · exact (hK2.newM k e).imp_right (fun _ => by omega)
      · exact (hK2.newH k e).imp_right (fun _ => by omega)
    · rcases hk with e | e
      · exact hK2.m.lt k e
      · exact (hK2.held.lt k e).2
  have hnL : ∀ k, (k ∈ F0 ∨ w.heap.size < k) → some k ≠ (Value.slice la s.2.1.length lc).ownBlock := fun k hk e => by
    have h3 := hLrow k e.symm
    rcases hk with e | e
    · exact h3.2.1 e
    · omega
  have hK7 := hK2.below hB7
  have hm8 : OwnPV w8 am nm cm (forced s.2.2.2.1 s.2.2.2.2 (kind, tx, ops)).1 := hK7.m.of_block fun k hk => hgrow8.block k (hK7.m.lt k hk) (hnL k (hKd k (.inl hk)).1)
  have hh8 : OwnR w8 0 (.slice ah (forced s.2.2.2.1 s.2.2.2.2 (kind, tx, ops)).2.length ch) (forced s.2.2.2.1 s.2.2.2.2 (kind, tx, ops)).2 hs := hK7.held.of_blocks fun k hk => hgrow8.block k (hK7.held.lt k hk).2 (hnL k (hKd k (.inr hk)).1)
  have hS7 : BoxS W.heap.size (.slice am nm cm) (.slice ah (forced s.2.2.2.1 s.2.2.2.2 (kind, tx, ops)).2.length ch) vs w8 := hK7.box.grown hgrow8 (fun e => by have := hLrow _ e.symm; omega)
  have hg8 : g8 ∈ F ∧ g8 ∉ F0 ∧ g8 < w.heap.size ∨ w2.heap.size ≤ g8 := by
    rcases hat8 with e | e
    · exact .inl (hLrow g8 e)
    · right
      have h1 := hB7.size
      omega
  refine hK.out _ _ ?_ (fun hHeld => ?_)
  · exact ⟨hbX8, hbx8⟩
  clear hK K hHeld0
  have hHeld0 := hHeld
  clear hHeld
  try simp only [Act.put, List.setIfInBounds_toArray, List.set_cons_zero, List.set_cons_succ]
  refine last.wpAnyL_one (i := 9) (o := { dst := some 27, op := Op.nilCheck (Operand.tmp 18), type := 0, pos := "l09_shard.go:64", after := #[{ on := 0, ground := Ground.data }, { on := 0, ground := Ground.phase }, { on := 1, ground := Ground.phase }, { on := 2, ground := Ground.phase }, { on := 3, ground := Ground.phase }, { on := 4, ground := Ground.phase }, { on := 5, ground := Ground.phase }, { on := 6, ground := Ground.phase }, { on := 7, ground := Ground.phase }, { on := 8, ground := Ground.phase }], guard := none }) (by kernel_rfl) rfl (fun K hK => ?_)
  go_simp
  refine hK.out _ _ ?_ (fun hHeld => ?_)
  · exact hHeld0
  clear hK K hHeld0
  have hHeld0 := hHeld
  clear hHeld
  try simp only [Act.put, List.setIfInBounds_toArray, List.set_cons_zero, List.set_cons_succ]
  refine last.wpAnyL_take (i := 10) (v := (.pointer (some ⟨X, pre.length + 1, none⟩))) rfl rfl (by kernel_rfl) (by kernel_rfl) (by kernel_rfl) (by kernel_rfl) (fun _ _ _ h => h) (Or.inl ⟨by rfl, ?_⟩) (by assumption) ?_
  · intro wq hSq; go_simp
  try simp only [Act.put, List.setIfInBounds_toArray, List.set_cons_zero, List.set_cons_succ]
  have e8 := hbX8.cell 1 _ rfl
  have f8 := hbX8.fz (pre.length + 1)
  refine last.wpAnyL_last (o := { dst := none, op := Op.store 24 (Operand.tmp 28) (Operand.tmp 26), type := 0, pos := "l09_shard.go:64", after := #[{ on := 10, ground := Ground.data }, { on := 8, ground := Ground.data }, { on := 8, ground := Ground.chain }, { on := 0, ground := Ground.phase }, { on := 1, ground := Ground.phase }, { on := 2, ground := Ground.phase }, { on := 3, ground := Ground.phase }, { on := 4, ground := Ground.phase }, { on := 5, ground := Ground.phase }, { on := 6, ground := Ground.phase }, { on := 7, ground := Ground.phase }, { on := 8, ground := Ground.phase }], guard := none }) (by kernel_rfl) rfl (by kernel_rfl) (fun K hK => ?_)
  go_simp
  refine hK.out _ _ ?_
  clear hK K
  have c9 := hbX8.set 1 (by simp [shVals]) (.slice (some ⟨g8, 0, none⟩) (s.2.1.length + 1) c8)
  have hnX : ∀ k, k ∈ F ∨ w.heap.size ≤ k → k ≠ X := fun k hk e => by
    subst e
    rcases hk with e | e
    · exact hXF e
    · omega
  have hLn : ∀ k, BlkR (.slice (some ⟨g8, 0, none⟩) (s.2.1.length + 1) c8) (hl ++ [.slice (some ⟨g6, 0, none⟩) len c6]) k → (k ∈ F ∧ k ∉ F0 ∧ k < w.heap.size) ∨ w2.heap.size ≤ k := fun k hk => by
    rcases hk with e | ⟨y, hy, e⟩
    · have : g8 = k := by simpa [Value.ownBlock] using e
      subst this
      exact hg8
    · rcases List.mem_append.1 hy with e2 | e2
      · exact .inl (hLd k (.inr ⟨y, e2, e⟩))
      · right
        rw [List.mem_singleton.1 e2] at e
        have e1 : g6 = k := by simpa [Value.ownBlock] using e
        have h1 := hO6.lt.1
        have h2 := hd2.size
        omega
  have hLX : ∀ k, BlkR (.slice (some ⟨g8, 0, none⟩) (s.2.1.length + 1) c8) (hl ++ [.slice (some ⟨g6, 0, none⟩) len c6]) k → some k ≠ some X := fun k hk e => hnX k ((hLn k hk).imp (fun h => h.1) (fun h => by omega)) (Option.some.inj e)
  have hKX : ∀ k, ((Value.slice am nm cm).ownBlock = some k ∨ BlkR (.slice ah (forced s.2.2.2.1 s.2.2.2.2 (kind, tx, ops)).2.length ch) hs k) → some k ≠ some X := fun k hk e => hnX k ((hKd k hk).1.imp (fun h => hF0F k h) (fun h => by omega)) (Option.some.inj e)
  generalize hW9 : w8.setCell ⟨X, pre.length + 1, none⟩ (.slice (some ⟨g8, 0, none⟩) (s.2.1.length + 1) c8) = w9 at *
  have hOL9 := hOL8.of_blocks fun k hk => c9.2.block k (hOL8.lt k hk).2 (hLX k hk)
  have hm9 := hm8.of_block fun k hk => c9.2.block k (hm8.lt k hk) (hKX k (.inl hk))
  have hh9 := hh8.of_blocks fun k hk => c9.2.block k (hh8.lt k hk).2 (hKX k (.inr hk))
  have hS9 := hS7.grown c9.2 (fun e => hXne (Option.some.inj e).symm)
  have hFr9 : lay.Frame (X :: F) w w9 := hFr8.grown c9.2 (fun k e => .inl (by rw [← Option.some.inj e]; exact List.mem_cons_self))
  have hbX9 : BoxIn X T pre (shVals s.1 s.2.2.1 (some ⟨g8, 0, none⟩) (s.2.1.length + 1) c8 ma mn mc ha s.2.2.2.2.length hc) post w9 := c9.1
  clear c9 hW9 e8 f8 hHeld0 hOL8 hm8 hh8 hS7 hFr8 hbX8 hbx8 hgrow8 hown8 hOL7 hV6 hV7 hK7 hb7 hB7 hB6 hO6 hb6 HCR hat8 hlt8
  obtain ⟨v0, v1, v2⟩ := hS9.cells
  have x3 := hbX9.cell 3 _ rfl
  have x4 := hbX9.cell 4 _ rfl
  have y3 := hbX9.fz (pre.length + 3)
  have y4 := hbX9.fz (pre.length + 4)
  have c10 := hbX9.set 3 (by simp [shVals]) (.slice am nm cm)
  have c11 := c10.1.set 4 (by simp [shVals]) (.slice ah (forced s.2.2.2.1 s.2.2.2.2 (kind, tx, ops)).2.length ch)
  have c12 := grownBy_trans c10.2 c11.2
  have hS10 := (hS9.grown c10.2 (fun e => hXne (Option.some.inj e).symm)).cells.2.1
  have z4 := c10.1.cell 4 _ rfl
  have q4 := c10.1.fz (pre.length + 4)
  have HE : Hid (WrotePost w X T pre post F (written s (kind, tx, ops)) ((w9.setCell ⟨X, pre.length + 3, none⟩ (.slice am nm cm)).setCell ⟨X, pre.length + 4, none⟩ (.slice ah (forced s.2.2.2.1 s.2.2.2.2 (kind, tx, ops)).2.length ch))) := by
    have hOLz := hOL9.of_blocks fun k hk => c12.block k (hOL9.lt k hk).2 (hLX k hk)
    have hmz := hm9.of_block fun k hk => c12.block k (hm9.lt k hk) (hKX k (.inl hk))
    have hhz := hh9.of_blocks fun k hk => c12.block k (hh9.lt k hk).2 (hKX k (.inr hk))
    have hFrz := hFr9.grown c12 (fun k e => .inl (by rw [← Option.some.inj e]; exact List.mem_cons_self))
    have d1 := recsR.ownNodup (recs_own.2 ⟨_, hOLz, rfl⟩)
    have d3 := recsR.ownNodup (recs_own.2 ⟨_, hhz, rfl⟩)
    have hmem : ∀ k ∈ (Value.slice am nm cm).ownBlock.toList ++ blkR (.slice ah (forced s.2.2.2.1 s.2.2.2.2 (kind, tx, ops)).2.length ch) hs, (Value.slice am nm cm).ownBlock = some k ∨ BlkR (.slice ah (forced s.2.2.2.1 s.2.2.2.2 (kind, tx, ops)).2.length ch) hs k := fun k hk => by
      rcases List.mem_append.1 hk with e | e
      · exact .inl (by simpa using e)
      · exact .inr (mem_blkR.1 e)
    refine ⟨some ⟨g8, 0, none⟩, s.2.1.length + 1, c8, am, nm, cm, ah, _, ch, _, ⟨c11.1, ⟨h.own.id, h.own.sure, ⟨_, hOLz, hs, hhz, rfl⟩, hmz, ?_⟩, ?_⟩, hFrz, ?_⟩
    · refine nodup_mk d1 (nodup_mk (by cases (Value.slice am nm cm).ownBlock <;> simp) d3 (fun k hk hk2 => ?_)) (fun k hk hk2 => ?_)
      · have h9 : (Value.slice am nm cm).ownBlock = some k := by simpa using hk
        exact hK2.heldRow hK2.m.2.2 (by decide) (by decide) k (mem_blkR.1 hk2) h9.symm
      · have h1 := hLn k (mem_blkR.1 hk)
        have h2 := hKd k (hmem k hk2)
        rcases h1 with h1 | h1
        · rcases h2.1 with h3 | h3
          · exact h1.2.1 h3
          · omega
        · omega
    · intro hk
      rcases List.mem_append.1 hk with e | e
      · exact hLX X (mem_blkR.1 e) rfl
      · exact hKX X (hmem X e) rfl
    · intro k hk
      rcases List.mem_append.1 hk with e | e
      · exact (hLn k (mem_blkR.1 e)).imp (fun h => h.1) (fun h => by omega)
      · exact (hKd k (hmem k e)).1.imp (fun h => hF0F k h) (fun h => by omega)
  rw [hWl] at v0 v1 v2 hS10
  clear hOL9 hm9 hh9 hFr9 hbX9 c10 c11 c12 hK2 hLX hKX hLn hKd
  go_wp2_with fail
  refine bodyPost_end (v := .tuple #[]) ?_ rfl ⟨rfl, HE.out⟩
  simp [results, Tryz.results87, go_sem]
end Go.Proofs.YteniflajiklffaaGreatDoor.recs

namespace Go.Proofs.YteniflajiklffaaGreatDoor.recs
open Go Go.RowKit Go.Proofs.YteniflajiklffaaGreatDoor.base Go.Proofs.YteniflajiklffaaGreatDoor.pairs Go.Proofs.YteniflajiklffaaGreatDoor.ords Go.Proofs.YteniflajiklffaaGreatDoor.helps Go.Proofs.YteniflajiklffaaGreatDoor.help Go.Proofs.YteniflajiklffaaGreatDoor.lay
set_option linter.unusedVariables false
set_option linter.unusedSimpArgs false

theorem Right.tame {s : Shd} (h : Right s) : ∃ seen, replay s.2.1 = some (s.2.2.2.1, s.2.2.2.2, seen) ∧ Tame s.2.1.length (s.2.2.2.1, s.2.2.2.2, seen) := by
  obtain ⟨seen, hm⟩ := h.made
  have := replayGo_tame s.2.1 0 _ _ tame_start hm
  rw [Nat.zero_add] at this
  exact ⟨seen, hm, this⟩
theorem sumOps_8 (l : List Rc) (h : ∀ k, k < l.length → (opsAt l k).length ≤ 8) : sumOps l ≤ 8 * l.length := by
  have : ∀ (l : List Rc), (∀ r ∈ l, r.2.2.length ≤ 8) → sumOps l ≤ 8 * l.length := by
    intro l hl
    induction l with
    | nil => simp [sumOps]
    | cons r l ih =>
      have h1 := ih fun x hx => hl x (List.mem_cons_of_mem _ hx)
      have h2 := hl r List.mem_cons_self
      have e : sumOps (r :: l) = r.2.2.length + sumOps l := by simp [sumOps]
      rw [e, List.length_cons]; omega
  refine this l fun r hr => ?_
  obtain ⟨i, hi, rfl⟩ := List.getElem_of_mem hr
  have := h i hi
  rwa [opsAt_eq hi] at this
section
variable {w w' : World} {X : Nat} {T : TypeId} {pre post : List Value} {la ma ha : Option Addr} {ln lc mn mc hn hc : Nat} {s : Shd} {F : List Nat}
theorem InSh.below (h : InSh w X T pre post la ln lc ma mn mc ha hn hc s F) (hb : Below w.heap.size w w') : InSh w' X T pre post la ln lc ma mn mc ha hn hc s F := ⟨h.box.below hb, h.own.below hb, h.out⟩
theorem InSh.same (h : InSh w X T pre post la ln lc ma mn mc ha hn hc s F) (hb : Below w.heap.size w w') : WrotePost w X T pre post F s w' :=
  ⟨la, ln, lc, ma, mn, mc, ha, hn, hc, F, h.below hb, lay.Frame.of_below hb, Fresh.refl _ _⟩
theorem InSh.lens (h : InSh w X T pre post la ln lc ma mn mc ha hn hc s F) : ln = s.2.1.length ∧ mn = s.2.2.2.1.length ∧ hn = s.2.2.2.2.length := by
  obtain ⟨hl, hOL, hh, hOH, _⟩ := h.own.log
  exact ⟨hOL.nlen, h.own.map.1.symm, hOH.nlen⟩
theorem WrotePost.from {w0 : World} {s' : Shd} (hb : Below w0.heap.size w0 w) (hF : ∀ k ∈ F, k < w0.heap.size) (h : WrotePost w X T pre post F s' w') : WrotePost w0 X T pre post F s' w' := by
  obtain ⟨la, ln, lc, ma, mn, mc, ha, hn, hc, F', h1, h2, h3⟩ := h
  refine ⟨la, ln, lc, ma, mn, mc, ha, hn, hc, F', h1, (lay.Frame.of_below (G := X :: F) hb).trans h2 (Fresh.refl _ _), fun k hk => (h3 k hk).imp_right (fun e => Nat.le_trans hb.size e)⟩
end
theorem Right.fits_hold {s : Shd} {tx : Int} {ops : List Od} (h : Right s) (hok : recOk (1, tx, ops) = true) (hl : locked s.2.2.2.2 ops = false) (hm : meets s.2.2.2.1 ops = true) : Fits s.2.2.2.1 s.2.2.2.2 (1, tx, ops) := by
  obtain ⟨seen, _, ht⟩ := h.tame
  have := h.room
  exact ⟨hok, .inl ⟨rfl, hl, hm⟩, ht.few, by omega, ht.eight⟩
theorem Right.fits_gone {s : Shd} {tx : Int} (h : Right s) (hok : recOk (3, tx, []) = true) (hp : placeTx tx s.2.2.2.2 = none) : Fits s.2.2.2.1 s.2.2.2.2 (3, tx, []) := by
  obtain ⟨seen, _, ht⟩ := h.tame
  have := h.room
  exact ⟨hok, .inr (.inl ⟨rfl, hp⟩), ht.few, by omega, ht.eight⟩
theorem Right.fits_end {s : Shd} {kind tx : Int} {k : Nat} (h : Right s) (hok : recOk (kind, tx, []) = true) (hk : kind ≠ 1) (hp : placeTx tx s.2.2.2.2 = some k) : Fits s.2.2.2.1 s.2.2.2.2 (kind, tx, []) := by
  obtain ⟨seen, _, ht⟩ := h.tame
  have := h.room
  exact ⟨hok, .inr (.inr ⟨hk, k, hp⟩), ht.few, by omega, ht.eight⟩
theorem recOk_hold {tx : Int} {ops : List Od} (h : (txOk tx && opsOk ops) = true) : recOk (1, tx, ops) = true := by
  rw [Bool.and_eq_true] at h
  exact (recOk_iff _).2 ⟨by simpa [txOk] using h.1, .inl ⟨rfl, h.2⟩⟩
set_option maxRecDepth 100000 in
set_option maxHeartbeats 4000000 in
theorem spec_l9Hold (X : Nat) (T : TypeId) (pre post : List Value) (la : Option Addr) (ln lc : Nat) (ma : Option Addr) (mn mc : Nat) (ha : Option Addr) (hn hc : Nat) (s : Shd) (F : List Nat) (tx : Int) (a : Option Addr) (len cap : Nat) (ops : List Od) (w : World)
    (h : InSh w X T pre post la ln lc ma mn mc ha hn hc s F) (hst : ∀ w', lay.Frame (X :: F) w w' → SlO w' a len ops) (hks : ∀ p ∈ ops, p.2.1.size ≤ 1099511627776) (htx : (Lit.int .i64 tx).wf = true) (hlen : len ≤ 1099511627776) (hR : Right s) :
    Calls Tryz.prog 37 #[.pointer (some ⟨X, pre.length, none⟩), .int .i64 tx, .slice a len cap] w fun e w' => e = .returned (.int .i64 (holdS s tx ops).2) ∧ WrotePost w X T pre post F (holdS s tx ops).1 w' := by
  obtain ⟨l1, l2, l3⟩ := h.lens
  obtain ⟨seen, hmade, htame⟩ := hR.tame
  have hroom := hR.room
  have hSo := hst w (lay.Frame.refl _ _)
  have hsmO := hSo.2.2.1
  have hol := hSo.1
  have hsum := sumOps_8 s.2.2.2.2 htame.eight
  have hsee := h.own.see
  have hXl := h.box.lt
  have HI := Hid.mk' (fun wx => (spec_in tx 1 1000000 wx).mono (fun e w' (hp : e = .returned (.bool (decide (1 ≤ tx ∧ tx ≤ 1000000))) ∧ w' = wx) => (⟨hp.1, hp.2.symm⟩ : e = .returned (.bool (decide (1 ≤ tx ∧ tx ≤ 1000000))) ∧ wx = w')))
  have hfw : s.2.2.2.1.length ≤ 60 := htame.few
  by_cases g1 : 1 ≤ tx ∧ tx ≤ 1000000
  · rw [decide_eq_true g1] at HI
    have gt : txOk tx = true := decide_eq_true g1
    have HOK := Hid.mk' (spec_opsOkA a len cap ops w hSo hks)
    cases g2 : opsOk ops with
    | false =>
      have HH : Hid (holdS s tx ops = (s, 5)) := by show _ = _; unfold holdS; rw [g2]; simp
      rw [g2] at HOK
      rw [HH.out]
      clear g2 gt g1 l1 l2 l3 hsum hroom hfw hol
      go_enter Tryz.func37, Tryz.ntmps37
      go_wp2_with fail
      refine (HI.out _).mono ?_
      rintro e w1 ⟨rfl, rfl⟩
      go_wp2_with fail
      refine HOK.out.mono ?_
      rintro e w2 ⟨rfl, hb2⟩
      clear HI HOK
      go_wp2_with fail
      go_ret
      exact ⟨rfl, h.same hb2⟩
    | true =>
      rw [g2] at HOK
      have gg : (txOk tx && opsOk ops) = true := by rw [gt, g2]; rfl
      have hrok := recOk_hold gg
      have HOU := Hid.mk' (fun wx (hx : Below w.heap.size w wx) => spec_l9Outcome la ln lc ma mn mc ha hn hc s tx wx (hsee.below hx))
      have q0 : ∀ wx, Below w.heap.size w wx → BoxIn X T pre (shVals s.1 s.2.2.1 la ln lc ma mn mc ha hn hc) post wx := fun wx hx => h.box.below hx
      by_cases g3 : outc s tx = 2
      · rw [g3] at HOU
        have HLK := Hid.mk' (fun wx (hx : Below w.heap.size w wx) => spec_locked ha hn hc s.2.2.2.2 a len cap ops wx (hsee.held.below hx) (hSo.below hx))
        have HMT := Hid.mk' (fun wx (hx : Below w.heap.size w wx) => spec_meets ma mn mc s.2.2.2.1 a len cap ops wx (hsee.map.below hx) (hSo.below hx))
        have HKY := Hid.mk' (fun wx (hx : Below w.heap.size w wx) => spec_l9Keys la ln lc ma mn mc ha hn hc s a len cap ops wx (hsee.below hx) (hSo.below hx) (by omega) (by omega) (by omega))
        have hkb : keysOf s ops ≤ 1099511627776 + 10000 := by unfold keysOf; omega
        have HHS : Hid (holdS s tx ops = if holdNo s ops = true then (s, 2) else (written s (1, tx, ops), 1)) := by
          show _ = _
          unfold holdS
          rw [gg, if_neg (by simp), if_neg (by simp [g3])]
        have HNO : Hid (holdNo s ops = (locked s.2.2.2.2 ops || !meets s.2.2.2.1 ops || decide (60 < keysOf s ops) || decide (300 < s.2.1.length + s.2.2.2.2.length + 2))) := rfl
        have hln : ln ≤ 300 := by omega
        have hhn : hn ≤ 300 := by omega
        have HLN : Hid (s.2.1.length + s.2.2.2.2.length = ln + hn) := by show _ = _; omega
        have HCO := Hid.mk' (fun wx (hx : Below w.heap.size w wx) => spec_copyOps a len cap ops wx (hSo.below hx) hlen)
        have HWR := Hid.mk' (fun wx (hx : Below w.heap.size w wx) (g0 c0 : Nat) (ho : OwnO wx w.heap.size g0 len c0 ops) (h1 : locked s.2.2.2.2 ops = false) (h2 : meets s.2.2.2.1 ops = true) => spec_l9Write X T pre post la ln lc ma mn mc ha hn hc s F 1 tx (some ⟨g0, 0, none⟩) len c0 ops wx (h.below hx) (fun w' hf => OwnO.sl (base := 0) (by
          have h9 := ho.mono (base' := 0) (Nat.zero_le _)
          refine ⟨h9.1, h9.2.1, rowR_of_block h9.2.2 (fun k e => hf.block k (h9.lt.2 |> fun hh => by simp [Value.ownBlock] at e; omega) (fun e2 => ?_))⟩
          have e3 : g0 = k := by simpa [Value.ownBlock] using e
          have h5 := ho.lt.1
          rcases List.mem_cons.1 e2 with e4 | e4
          · omega
          · have := h.own.lt k e4; omega)) hks ⟨rfl, htx, hsmO⟩ hlen (hR.fits_hold hrok h1 h2) (by omega))
        have hFlt := h.own.lt
        generalize hKK : keysOf s ops = KK at *
        clear hKK hsum hroom hfw hol g1 g2 gt gg hrok hmade htame l1 l2 l3
        have hsame := fun wx (hx : Below w.heap.size w wx) => h.same hx
        have HSM := Hid.mk' hsame
        clear hsame
        go_enter Tryz.func37, Tryz.ntmps37
        go_wp2_with fail
        refine (HI.out _).mono ?_
        rintro e w1 ⟨rfl, rfl⟩
        go_wp2_with fail
        refine HOK.out.mono ?_
        rintro e w2 ⟨rfl, hb2⟩
        clear HI HOK
        have b2 := q0 _ hb2
        have k0 := b2.cell 0 _ rfl
        have k1 := b2.cell 1 _ rfl
        have k2 := b2.cell 2 _ rfl
        have k3 := b2.cell 3 _ rfl
        have k4 := b2.cell 4 _ rfl
        simp only [Nat.add_zero] at k0
        go_wp2_with fail
        refine (HOU.out _ hb2).mono ?_
        rintro e w3 ⟨rfl, hb3'⟩
        have hb3 := hb2.trans (hb3'.mono hb2.size)
        have b3 := q0 _ hb3
        have hX3 := b3.lt
        clear HOU k0 k1 k2 k3 k4 b2 hb3'
        have o0 := last.On.cell (B := w3.heap.size) (b3.cell 0 _ rfl) hX3
        have o1 := last.On.cell (B := w3.heap.size) (b3.cell 1 _ rfl) hX3
        have o2 := last.On.cell (B := w3.heap.size) (b3.cell 2 _ rfl) hX3
        have o3 := last.On.cell (B := w3.heap.size) (b3.cell 3 _ rfl) hX3
        have o4 := last.On.cell (B := w3.heap.size) (b3.cell 4 _ rfl) hX3
        simp only [Nat.add_zero] at o0
        have hinh := last.On.inh w3.heap.size w3
        have cLK : ∀ x9 : last.On w3.heap.size w3, Calls Tryz.prog 84 #[.slice ha hn hc, .slice a len cap] x9.w fun e w' => e = .returned (.bool (locked s.2.2.2.2 ops)) ∧ ∃ y9 : last.On w3.heap.size w3, w' = y9.w := fun x9 => last.Calls.on x9 (Nat.le_refl _) (HLK.out _ (hb3.trans (x9.2.mono hb3.size)))
        have cMT : ∀ x9 : last.On w3.heap.size w3, Calls Tryz.prog 85 #[.slice ma mn mc, .slice a len cap] x9.w fun e w' => e = .returned (.bool (meets s.2.2.2.1 ops)) ∧ ∃ y9 : last.On w3.heap.size w3, w' = y9.w := fun x9 => last.Calls.on x9 (Nat.le_refl _) (HMT.out _ (hb3.trans (x9.2.mono hb3.size)))
        have cKY : ∀ x9 : last.On w3.heap.size w3, Calls Tryz.prog 86 #[aggSh s.1 s.2.2.1 la ln lc ma mn mc ha hn hc, .slice a len cap] x9.w fun e w' => e = .returned (.int .i64 (KK : Int)) ∧ ∃ y9 : last.On w3.heap.size w3, w' = y9.w := fun x9 => last.Calls.on x9 (Nat.le_refl _) (HKY.out _ (hb3.trans (x9.2.mono hb3.size)))
        clear HLK HMT HKY
        cases g4 : locked s.2.2.2.2 ops with
        | true =>
          rw [g4] at cLK
          have HV : Hid (holdS s tx ops = (s, 2)) := by show _ = _; rw [HHS.out, HNO.out, g4]; simp
          clear HHS HNO g4 HWR
          go_wp2_with fail
          refine last.wp_region_on w3.heap.size (by kernel_rfl) (by kernel_rfl) ?_
          repeat (go_big_quiet_step (first | (go_at_call 84; with_reducible exact cLK _) | (go_at_call 85; with_reducible exact cMT _) | (go_at_call 86; with_reducible exact cKY _)))
          refine wpQuiet_nil ?_
          intro w5 hw5
          obtain ⟨x5, hw5⟩ := hw5
          have hb5 : Below w.heap.size w w5 := by rw [hw5]; exact hb3.trans (x5.2.mono hb3.size)
          clear hw5 x5 o0 o1 o2 o3 o4 cLK cMT cKY hinh
          go_wp2_with fail
          go_ret
          rw [HV.out]
          exact ⟨rfl, HSM.out _ hb5⟩
        | false =>
          rw [g4] at cLK
          cases g5 : meets s.2.2.2.1 ops with
          | false =>
            rw [g5] at cMT
            have HV : Hid (holdS s tx ops = (s, 2)) := by show _ = _; rw [HHS.out, HNO.out, g4, g5]; simp
            clear HHS HNO g4 g5 HWR
            go_wp2_with fail
            refine last.wp_region_on w3.heap.size (by kernel_rfl) (by kernel_rfl) ?_
            repeat (go_big_quiet_step (first | (go_at_call 84; with_reducible exact cLK _) | (go_at_call 85; with_reducible exact cMT _) | (go_at_call 86; with_reducible exact cKY _)))
            refine wpQuiet_nil ?_
            intro w5 hw5
            obtain ⟨x5, hw5⟩ := hw5
            have hb5 : Below w.heap.size w w5 := by rw [hw5]; exact hb3.trans (x5.2.mono hb3.size)
            clear hw5 x5 o0 o1 o2 o3 o4 cLK cMT cKY hinh
            go_wp2_with fail
            go_ret
            rw [HV.out]
            exact ⟨rfl, HSM.out _ hb5⟩
          | true =>
            rw [g5] at cMT
            by_cases g6 : 60 < KK
            · have HV : Hid (holdS s tx ops = (s, 2)) := by show _ = _; rw [HHS.out, HNO.out, g4, g5, decide_eq_true g6]; simp
              have g6' : decide ((60 : Int) < (KK : Int)) = true := decide_eq_true (by omega)
              clear HHS HNO g4 g5 HWR
              go_wp2_with fail
              refine last.wp_region_on w3.heap.size (by kernel_rfl) (by kernel_rfl) ?_
              repeat (go_big_quiet_step (first | (go_at_call 84; with_reducible exact cLK _) | (go_at_call 85; with_reducible exact cMT _) | (go_at_call 86; with_reducible exact cKY _)))
              refine wpQuiet_nil ?_
              intro w5 hw5
              obtain ⟨x5, hw5⟩ := hw5
              have hb5 : Below w.heap.size w w5 := by rw [hw5]; exact hb3.trans (x5.2.mono hb3.size)
              clear hw5 x5 o0 o1 o2 o3 o4 cLK cMT cKY hinh
              go_wp2_with fail
              go_ret
              rw [HV.out]
              exact ⟨rfl, HSM.out _ hb5⟩
            · have g6' : decide ((60 : Int) < (KK : Int)) = false := decide_eq_false (by omega)
              by_cases g7 : 300 < ln + hn + 2
              · have HV : Hid (holdS s tx ops = (s, 2)) := by show _ = _; rw [HHS.out, HNO.out, HLN.out, decide_eq_true g7]; simp
                have g7' : decide ((300 : Int) < (ln : Int) + (hn : Int) + 2) = true := decide_eq_true (by omega)
                clear HHS HNO g4 g5 HWR
                go_wp2_with fail
                refine last.wp_region_on w3.heap.size (by kernel_rfl) (by kernel_rfl) ?_
                repeat (go_big_quiet_step (first | (go_at_call 84; with_reducible exact cLK _) | (go_at_call 85; with_reducible exact cMT _) | (go_at_call 86; with_reducible exact cKY _)))
                refine wpQuiet_nil ?_
                intro w5 hw5
                obtain ⟨x5, hw5⟩ := hw5
                have hb5 : Below w.heap.size w w5 := by rw [hw5]; exact hb3.trans (x5.2.mono hb3.size)
                clear hw5 x5 o0 o1 o2 o3 o4 cLK cMT cKY hinh
                go_wp2_with fail
                go_ret
                rw [HV.out]
                exact ⟨rfl, HSM.out _ hb5⟩
              · have HV : Hid (holdS s tx ops = (written s (1, tx, ops), 1)) := by show _ = _; rw [HHS.out, HNO.out, HLN.out, g4, g5, decide_eq_false g6, decide_eq_false g7]; simp
                have g7' : decide ((300 : Int) < (ln : Int) + (hn : Int) + 2) = false := decide_eq_false (by omega)
                have HWR2 := Hid.mk' (fun wx hx g0 c0 ho => HWR.out wx hx g0 c0 ho g4 g5)
                clear HHS HNO g4 g5 HWR
                go_wp2_with fail
                refine last.wp_region_on w3.heap.size (by kernel_rfl) (by kernel_rfl) ?_
                repeat (go_big_quiet_step (first | (go_at_call 84; with_reducible exact cLK _) | (go_at_call 85; with_reducible exact cMT _) | (go_at_call 86; with_reducible exact cKY _)))
                refine wpQuiet_nil ?_
                intro w5 hw5
                obtain ⟨x5, hw5⟩ := hw5
                have hb5 : Below w.heap.size w w5 := by rw [hw5]; exact hb3.trans (x5.2.mono hb3.size)
                clear hw5 x5 o0 o1 o2 o3 o4 cLK cMT cKY hinh
                go_wp2_with fail
                refine (HCO.out _ hb5).mono ?_
                rintro e w6 ⟨g0, c0, rfl, hO6, hb6'⟩
                have hb6 := hb5.trans (hb6'.mono hb5.size)
                have hO6' := hO6.mono (base' := w.heap.size) hb5.size
                clear HCO
                go_wp2_with fail
                refine (HWR2.out _ hb6 _ _ hO6').mono ?_
                rintro e w7 ⟨rfl, hwr⟩
                have hwr' := hwr.from hb6 hFlt
                clear HWR2 hwr
                go_wp2_with fail
                go_ret
                rw [HV.out]
                exact ⟨rfl, hwr'⟩
      · have HV : Hid (holdS s tx ops = (s, outc s tx)) := by show _ = _; unfold holdS; rw [gg, if_neg (by simp), if_pos g3]
        rw [HV.out]
        have g3' : (outc s tx == 2) = false := beq_eq_false_iff_ne.2 g3
        have g3'' : (outc s tx != 2) = true := by simpa using g3
        generalize outc s tx = oo at *
        clear g2 gt g1 l1 l2 l3 hsum hroom hfw hol g3
        go_enter Tryz.func37, Tryz.ntmps37
        go_wp2_with fail
        refine (HI.out _).mono ?_
        rintro e w1 ⟨rfl, rfl⟩
        go_wp2_with fail
        refine HOK.out.mono ?_
        rintro e w2 ⟨rfl, hb2⟩
        clear HI HOK
        have b2 := q0 _ hb2
        have k0 := b2.cell 0 _ rfl
        have k1 := b2.cell 1 _ rfl
        have k2 := b2.cell 2 _ rfl
        have k3 := b2.cell 3 _ rfl
        have k4 := b2.cell 4 _ rfl
        simp only [Nat.add_zero] at k0
        go_wp2_with fail
        refine (HOU.out _ hb2).mono ?_
        rintro e w3 ⟨rfl, hb3'⟩
        have hb3 := hb2.trans (hb3'.mono hb2.size)
        clear HOU k0 k1 k2 k3 k4 b2 hb3'
        go_wp2_with fail
        go_ret
        exact ⟨rfl, h.same hb3⟩
  · rw [decide_eq_false g1] at HI
    have gt : txOk tx = false := decide_eq_false g1
    have HH : Hid (holdS s tx ops = (s, 5)) := by show _ = _; unfold holdS; rw [gt]; simp
    rw [HH.out]
    clear gt g1 l1 l2 l3 hsum hroom hfw hol
    go_enter Tryz.func37, Tryz.ntmps37
    go_wp2_with fail
    refine (HI.out _).mono ?_
    rintro e w1 ⟨rfl, rfl⟩
    clear HI
    go_wp2_with fail
    go_ret
    exact ⟨rfl, h.same (Below.refl _ _)⟩
end Go.Proofs.YteniflajiklffaaGreatDoor.recs
