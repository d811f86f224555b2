/- The specification's shard: a record is written. The specification's shard: it holds. What the exact laws of shards share. A shard: how it stands with a transaction, and the code of it. The program's shard: how many keys are held, how much room there is. The program's shard: copies of records. Shards: what stays right, whatever they do. Plain mathematics. -/
import Derived.Test.YteniflajiklffaaGreatDoorShaq
import Derived.Test.YteniflajiklffaaGreatDoorShar
import Derived.Test.YteniflajiklffaaGreatDoorShas
import Derived.Deep.RegionHeld3
import Derived.Test.YteniflajiklffaaGreatDoorShak
import Derived.Test.YteniflajiklffaaGreatDoorShaj
namespace Go.Proofs.YteniflajiklffaaGreatDoor.recs
open Go Go.RowKit Go.Proofs.YteniflajiklffaaGreatDoor.base Go.Proofs.YteniflajiklffaaGreatDoor.pairs Go.Proofs.YteniflajiklffaaGreatDoor.ords Go.Proofs.YteniflajiklffaaGreatDoor.helps Go.Proofs.YteniflajiklffaaGreatDoor.help Go.Proofs.YteniflajiklffaaGreatDoor.lay
set_option linter.unusedVariables false
set_option linter.unusedSimpArgs false

structure Fits (m : List Pr) (held : List Rc) (r : Rc) : Prop where
  ok : recOk r = true
  fit : (r.1 = 1 ∧ locked held r.2.2 = false ∧ meets m r.2.2 = true) ∨ (r.1 = 3 ∧ placeTx r.2.1 held = none) ∨ (r.1 ≠ 1 ∧ ∃ k, placeTx r.2.1 held = some k)
  few : m.length ≤ 60
  heldN : held.length ≤ 1099511627776
  eight : ∀ k, k < held.length → (opsAt held k).length ≤ 8
def ForcePost (w : World) (F0 : List Nat) (X : Nat) (m : List Pr) (held : List Rc) (r : Rc) (e : Ending) (w' : World) : Prop :=
  ∃ b am nm cm ah ch vs hs z, e = .returned (.bool b) ∧ Kept False w F0 w' X am nm cm ah ch vs ((forced m held r).1, (forced m held r).2, z) hs
theorem forcePost_some {w w' : World} {F0 : List Nat} {X : Nat} {m : List Pr} {held : List Rc} {r : Rc} {e : Ending} {t : St} (h : OnePost False w F0 X (some t) e w') (e1 : t.1 = (forced m held r).1) (e2 : t.2.1 = (forced m held r).2) : ForcePost w F0 X m held r e w' := by
  obtain ⟨h1, am, nm, cm, ah, ch, vs, hs, hK⟩ := h
  obtain ⟨t1, t2, t3⟩ := t
  simp only [] at e1 e2
  subst e1 e2
  exact ⟨true, am, nm, cm, ah, ch, vs, hs, t3, h1, hK⟩
theorem spec_force (w : World) (F0 : List Nat) (X : Nat) (am : Option Addr) (nm cm : Nat) (ah : Option Addr) (ch : Nat) (m : List Pr) (held : List Rc) (hs : List Value) (kind tx : Int) (a : Option Addr) (len cap : Nat) (ops : List Od)
    (hK : Kept False w F0 w X am nm cm ah ch (.slice none 0 0) (m, held, []) hs) (hSo : SlO w a len ops) (hks : ∀ p ∈ ops, p.2.1.size ≤ 1099511627776) (hsr : smallR (kind, tx, ops)) (hlen : len ≤ 1099511627776) (hF : Fits m held (kind, tx, ops)) :
    Calls Tryz.prog 113 #[.pointer (some ⟨X, 0, none⟩), .agg #[.int .i64 kind, .int .i64 tx, .slice a len cap]] w (ForcePost w F0 X m held (kind, tx, ops)) := by
  have hok := hF.ok
  rcases hF.fit with ⟨h1, h2, h3⟩ | ⟨h1, h2⟩ | ⟨h1, k, h2⟩
  · obtain rfl : kind = 1 := h1
    refine (one_hold False w F0 w X am nm cm ah ch _ (m, held, []) hs tx a len cap ops hK hSo hks hok hsr hlen hF.heldN (Nat.zero_le _) (by simp) h2 h3).mono fun e w' hp => forcePost_some hp ?_ ?_
    · unfold forced; rw [if_pos rfl]
    · unfold forced; rw [if_pos rfl]
  · obtain rfl : kind = 3 := h1
    have h2' : placeTx tx held = none := h2
    refine (one_gone False w F0 w X am nm cm ah ch _ (m, held, []) hs tx a len cap ops hK hSo hks hok (Nat.zero_le _) h2 (by simp)).mono fun e w' hp => forcePost_some hp ?_ ?_
    · unfold forced; rw [if_neg (by simp)]; simp only [h2']
    · unfold forced; rw [if_neg (by simp)]; simp only [h2']
  · have h2' : placeTx tx held = some k := h2
    have hkk : kind = 2 ∨ kind = 3 := by
      rcases ((recOk_iff _).1 hok).2 with ⟨e, _⟩ | ⟨e, _⟩
      · exact absurd e h1
      · exact e
    have hkl := placeTx_lt h2
    rcases hkk with rfl | rfl
    · have hk8 := hF.eight k hkl
      by_cases h60 : (applyAll m (opsAt held k)).length ≤ 60
      · refine (one_done False w F0 w X am nm cm ah ch _ (m, held, []) hs tx a len cap ops hK hSo hks hok k hF.heldN h2 hF.few hk8 h60).mono fun e w' hp => forcePost_some hp ?_ ?_
        · unfold forced; rw [if_neg (by simp)]; simp only [h2']; unfold nextM; rw [if_pos rfl]
        · unfold forced; rw [if_neg (by simp)]; simp only [h2']
      · refine (one_over False w F0 w X am nm cm ah ch _ (m, held, []) hs tx a len cap ops hK hSo hks hok k hF.heldN h2 hF.few hk8 (by show 60 < (applyAll m (opsAt held k)).length; omega)).mono fun e w' hp => ?_
        obtain ⟨h1', am', nm', cm', ah', ch', vs', hs', hK'⟩ := hp
        have e1 : (forced m held (2, tx, ops)).1 = applyAll m (opsAt held k) := by unfold forced; rw [if_neg (by simp)]; simp only [h2']; unfold nextM; rw [if_pos rfl]
        have e2 : (forced m held (2, tx, ops)).2 = held.take k ++ held.drop (k + 1) := by unfold forced; rw [if_neg (by simp)]; simp only [h2']
        exact ⟨false, am', nm', cm', ah', ch', vs', hs', [], h1', by rw [e1, e2]; exact hK'⟩
    · refine (one_end False w F0 w X am nm cm ah ch _ (m, held, []) hs tx a len cap ops hK hSo hks hok k hF.heldN h2 hF.few).mono fun e w' hp => forcePost_some hp ?_ ?_
      · unfold forced; rw [if_neg (by simp)]; simp only [h2']; unfold nextM; rw [if_neg (by simp)]
      · unfold forced; rw [if_neg (by simp)]; simp only [h2']
structure InSh (w : World) (X : Nat) (T : TypeId) (pre post : List Value) (la : Option Addr) (ln lc : Nat) (ma : Option Addr) (mn mc : Nat) (ha : Option Addr) (hn hc : Nat) (s : Shd) (F : List Nat) : Prop where
  box : BoxIn X T pre (shVals s.1 s.2.2.1 la ln lc ma mn mc ha hn hc) post w
  own : OwnSh w la ln lc ma mn mc ha hn hc s F
  out : X ∉ F
def WrotePost (w : World) (X : Nat) (T : TypeId) (pre post : List Value) (F : List Nat) (s' : Shd) (w' : World) : Prop :=
  ∃ la ln lc ma mn mc ha hn hc F', InSh w' X T pre post la ln lc ma mn mc ha hn hc s' F' ∧ lay.Frame (X :: F) w w' ∧ Fresh w F F'
set_option maxRecDepth 100000 in
set_option maxHeartbeats 4000000 in
theorem spec_l9Write (X : Nat) (T : TypeId) (pre post : List Value) (la : Option Addr) (ln lc : Nat) (ma : Option Addr) (mn mc : Nat) (ha : Option Addr) (hn hc : Nat) (s : Shd) (F : List Nat) (kind tx : Int) (a : Option Addr) (len cap : Nat) (ops : List Od) (w : World)
    (h : InSh w X T pre post la ln lc ma mn mc ha hn hc s F) (hst : ∀ w', lay.Frame (X :: F) w w' → SlO w' a len ops) (hks : ∀ p ∈ ops, p.2.1.size ≤ 1099511627776) (hsr : smallR (kind, tx, ops)) (hlen : len ≤ 1099511627776) (hF : Fits s.2.2.2.1 s.2.2.2.2 (kind, tx, ops)) (hll : s.2.1.length ≤ 1099511627776) :
    Calls Tryz.prog 87 #[.pointer (some ⟨X, pre.length, none⟩), .agg #[.int .i64 kind, .int .i64 tx, .slice a len cap]] w fun e w' => e = .returned (.tuple #[]) ∧ WrotePost w X T pre post F (written s (kind, tx, ops)) w' := by
  obtain ⟨i0, hi, hz0, hz1, hz2⟩ := info_parts infoRW
  obtain ⟨hl, hOL, hh, hOH, hFe⟩ := h.own.log
  have hOM := h.own.map
  have hnd := h.own.nodup
  have hXF := h.out
  have hbX := h.box
  have hXw := hbX.lt
  have hlnl : ln = s.2.1.length := hOL.nlen
  have hhnl : hn = s.2.2.2.2.length := hOH.nlen
  subst hlnl hhnl
  have hFlt := h.own.lt
  obtain ⟨W, hW⟩ : ∃ W, W = w.alloc (.cells #[.int .i64 kind, .int .i64 tx, .slice a len cap] 41) := ⟨_, rfl⟩
  have hbW : Below w.heap.size w W := by rw [hW]; exact (Below.refl _ _).alloc (Nat.le_refl _) _
  have hbx : BoxR w.heap.size kind tx (.slice a len cap) W := by rw [hW]; exact boxR_new _ _ _ _
  have hsW : W.heap.size = w.heap.size + 1 := by rw [hW]; simp
  have HW := Hid.mk' hW.symm
  clear hW
  have hbXW := hbX.below hbW
  have hdW : Below W.heap.size W W.drew := (Below.refl _ _).drew
  have HSW := Hid.mk' hsW
  clear hsW
  go_enter Tryz.func87, Tryz.ntmps87
  go_wp2_with fail
  rw [HW.out]
  refine last.wp_region_later (S := fun w' => BoxIn X T pre (shVals s.1 s.2.2.1 la s.2.1.length lc ma mn mc ha s.2.2.2.2.length hc) post w') 10 (by kernel_rfl) (hbXW.below hdW) (fun hHeld0 => ?_)
  refine last.wpAnyL_take (i := 0) (v := (.pointer (some ⟨X, pre.length, none⟩))) rfl rfl (by kernel_rfl) (by kernel_rfl) (by kernel_rfl) (by kernel_rfl) (fun _ _ _ h => h) (Or.inl ⟨by rfl, ?_⟩) (by assumption) ?_
  · intro wq hSq; go_simp
  try simp only [Act.put, List.setIfInBounds_toArray, List.set_cons_zero, List.set_cons_succ]
  refine last.wpAnyL_take (i := 1) (v := (.pointer (some ⟨X, pre.length, none⟩))) rfl rfl (by kernel_rfl) (by kernel_rfl) (by kernel_rfl) (by kernel_rfl) (fun _ _ _ h => h) (Or.inl ⟨by rfl, ?_⟩) (by assumption) ?_
  · intro wq hSq; go_simp
  try simp only [Act.put, List.setIfInBounds_toArray, List.set_cons_zero, List.set_cons_succ]
  refine last.wpAnyL_take (i := 2) (v := (.pointer (some ⟨X, pre.length + 3, none⟩))) rfl rfl (by kernel_rfl) (by kernel_rfl) (by kernel_rfl) (by kernel_rfl) (fun _ _ _ h => h) (Or.inl ⟨by rfl, ?_⟩) (by assumption) ?_
  · intro wq hSq; go_simp
  try simp only [Act.put, List.setIfInBounds_toArray, List.set_cons_zero, List.set_cons_succ]
  refine last.wpAnyL_take (i := 3) (v := (.slice ma mn mc)) rfl rfl (by kernel_rfl) (by kernel_rfl) (by kernel_rfl) (by kernel_rfl) (fun _ _ _ h => h) (Or.inl ⟨by rfl, ?_⟩) (by assumption) ?_
  · intro wq hSq; have q := hSq.cell 3 _ rfl; go_simp
  try simp only [Act.put, List.setIfInBounds_toArray, List.set_cons_zero, List.set_cons_succ]
  refine last.wpAnyL_take (i := 4) (v := (.pointer (some ⟨X, pre.length, none⟩))) rfl rfl (by kernel_rfl) (by kernel_rfl) (by kernel_rfl) (by kernel_rfl) (fun _ _ _ h => h) (Or.inl ⟨by rfl, ?_⟩) (by assumption) ?_
  · intro wq hSq; go_simp
  try simp only [Act.put, List.setIfInBounds_toArray, List.set_cons_zero, List.set_cons_succ]
  refine last.wpAnyL_take (i := 5) (v := (.pointer (some ⟨X, pre.length, none⟩))) rfl rfl (by kernel_rfl) (by kernel_rfl) (by kernel_rfl) (by kernel_rfl) (fun _ _ _ h => h) (Or.inl ⟨by rfl, ?_⟩) (by assumption) ?_
  · intro wq hSq; go_simp
  try simp only [Act.put, List.setIfInBounds_toArray, List.set_cons_zero, List.set_cons_succ]
  refine last.wpAnyL_take (i := 6) (v := (.pointer (some ⟨X, pre.length + 4, none⟩))) rfl rfl (by kernel_rfl) (by kernel_rfl) (by kernel_rfl) (by kernel_rfl) (fun _ _ _ h => h) (Or.inl ⟨by rfl, ?_⟩) (by assumption) ?_
  · intro wq hSq; go_simp
  try simp only [Act.put, List.setIfInBounds_toArray, List.set_cons_zero, List.set_cons_succ]
  refine last.wpAnyL_take (i := 7) (v := (.slice ha s.2.2.2.2.length hc)) rfl rfl (by kernel_rfl) (by kernel_rfl) (by kernel_rfl) (by kernel_rfl) (fun _ _ _ h => h) (Or.inl ⟨by rfl, ?_⟩) (by assumption) ?_
  · intro wq hSq; have q := hSq.cell 4 _ rfl; go_simp
  try simp only [Act.put, List.setIfInBounds_toArray, List.set_cons_zero, List.set_cons_succ]
  refine last.wpAnyL_take (i := 8) (v := (.agg #[.slice ma mn mc, .slice ha s.2.2.2.2.length hc, .slice none 0 0])) rfl rfl (by kernel_rfl) (by kernel_rfl) (by kernel_rfl) (by kernel_rfl) (fun _ _ _ h => h) (Or.inl ⟨by rfl, ?_⟩) (by assumption) ?_
  · intro wq hSq; go_simp
  try simp only [Act.put, List.setIfInBounds_toArray, List.set_cons_zero, List.set_cons_succ]
  refine last.wpAnyL_one (i := 9) (o := { dst := some 14, op := Op.box 146 (Operand.tmp 13), type := 144, pos := "l09_shard.go:62", after := #[{ on := 8, ground := Ground.data }], guard := none }) (by kernel_rfl) rfl (fun K hK => ?_)
  go_simp
  have hb1 : Below W.heap.size W ((W.alloc (.cells #[.slice ma mn mc, .slice ha s.2.2.2.2.length hc, .slice none 0 0] 146)).drew) := ((Below.refl _ _).alloc (Nat.le_refl _) _).drew
  have hbS : BoxS W.heap.size (.slice ma mn mc) (.slice ha s.2.2.2.2.length hc) (.slice none 0 0) ((W.alloc (.cells #[.slice ma mn mc, .slice ha s.2.2.2.2.length hc, .slice none 0 0] 146)).drew) := heap_alloc_new W _
  refine hK.out _ _ ?_ (fun hHeld => ?_)
  · exact hbXW.below hb1
  clear hK K hHeld0
  have hHeld0 := hHeld
  clear hHeld
  try simp only [Act.put, List.setIfInBounds_toArray, List.set_cons_zero, List.set_cons_succ]
  refine last.wpAnyL_last (o := { dst := some 4, op := Op.assign (Operand.tmp 14), type := 144, pos := "l09_shard.go:62", after := #[{ on := 9, ground := Ground.data }, { on := 0, ground := Ground.phase }, { on := 1, ground := Ground.phase }, { on := 2, ground := Ground.phase }, { on := 3, ground := Ground.phase }, { on := 4, ground := Ground.phase }, { on := 5, ground := Ground.phase }, { on := 6, ground := Ground.phase }, { on := 7, ground := Ground.phase }, { on := 8, ground := Ground.phase }, { on := 9, ground := Ground.phase }], guard := none }) (by kernel_rfl) rfl (by kernel_rfl) (fun K hK => ?_)
  go_simp
  refine hK.out _ _ ?_
  clear hK K
  generalize hW1 : (W.alloc (.cells #[.slice ma mn mc, .slice ha s.2.2.2.2.length hc, .slice none 0 0] 146)).drew = W1 at *
  clear hW1 hHeld0
  have hB1 : Below w.heap.size w W1 := hbW.trans (hb1.mono hbW.size)
  have hbx1 := hbx.below hb1
  have hbX1 := hbXW.below hb1
  have hs1 := hb1.size
  obtain ⟨F0, hF0⟩ : ∃ F0, F0 = (Value.slice ma mn mc).ownBlock.toList ++ blkR (.slice ha s.2.2.2.2.length hc) hh := ⟨_, rfl⟩
  have hF0F : ∀ k ∈ F0, k ∈ F := fun k hk => by rw [hFe]; rw [hF0] at hk; exact List.mem_append.2 (.inr hk)
  have hKp : Kept False W1 F0 W1 W.heap.size ma mn mc ha hc (.slice none 0 0) (s.2.2.2.1, s.2.2.2.2, []) hh :=
    ⟨hbS, hOM.below hB1, hOH.below hB1, ownQ_nil _ _, lay.Frame.refl _ _, fun k e => .inl (by rw [hF0]; exact List.mem_append.2 (.inl (by simp [e]))), fun k e => .inl (by rw [hF0]; exact List.mem_append.2 (.inr (mem_blkR.2 e))), fun k e => by simp [Value.ownBlock] at e, fun e => e.elim, fun e => e.elim⟩
  have HFO := Hid.mk' (spec_force W1 F0 W.heap.size ma mn mc ha hc s.2.2.2.1 s.2.2.2.2 hh kind tx a len cap ops hKp (hst W1 (lay.Frame.of_below hB1)) hks hsr hlen hF)
  obtain ⟨d0, d1, d2⟩ := hbx1.cells
  go_wp2_with fail
  refine HFO.out.mono ?_
  rintro e w2 ⟨bb, am, nm, cm, ah, ch, vs, hs, z, rfl, hK2⟩
  clear HFO d0 d1 d2 hKp
  have hWl := HSW.out
  have hXne : X ≠ W.heap.size := by omega
  have hX2 : X ∉ W.heap.size :: F0 := fun e => by
    rcases List.mem_cons.1 e with e | e
    · exact hXne e
    · exact hXF (hF0F X e)
  have hbX2 := hbX1.frame hK2.fr hX2
  have hR2 : w.heap.size ∉ W.heap.size :: F0 := fun e => by
    rcases List.mem_cons.1 e with e | e
    · omega
    · have := hFlt _ (hF0F _ e); omega
  have hbx2 : BoxR w.heap.size kind tx (.slice a len cap) w2 := (hK2.fr.block _ hbx1.lt hR2).trans hbx1
  have hLd : ∀ k, BlkR (.slice la s.2.1.length lc) hl k → k ∈ F ∧ k ∉ F0 ∧ k < w.heap.size := fun k hk => by
    have h1 := mem_blkR.2 hk
    have h2 : k ∈ F := by rw [hFe]; exact List.mem_append.2 (.inl h1)
    rw [hFe, ← hF0] at hnd
    exact ⟨h2, (nodup_parts hnd).2.2 k h1, hFlt k h2⟩
  have hOL2 : OwnR w2 0 (.slice la s.2.1.length lc) s.2.1 hl := (hOL.below hB1).of_blocks fun k hk => hK2.fr.block k ((hOL.below hB1).lt k hk).2 (fun e => by
    have h3 := hLd k hk
    rcases List.mem_cons.1 e with e | e
    · omega
    · exact h3.2.1 e)
  have hFr2 : lay.Frame (X :: F) w w2 := (lay.Frame.of_below (G := X :: F) hB1).trans hK2.fr (fun k hk => by
    rcases List.mem_cons.1 hk with e | e
    · exact .inr (by omega)
    · exact .inl (List.mem_cons_of_mem _ (hF0F k e)))
  have hd2 : Below w2.heap.size w2 w2.drew := (Below.refl _ _).drew
  have HCR := Hid.mk' (spec_copyRec kind tx a len cap ops w2.drew (hst _ (hFr2.below hd2)) hlen)
  have hc3 : s.2.1.length + 1 ≤ maxLen := by unfold maxLen; omega
  have hc4 : (s.2.1.length + 1) * 40 ≤ 140737488355328 := by omega
  have hs2 := hFr2.size
  clear hbX1 hbXW hbW hb1 hB1 hbx1 hbx hdW HW hbS
  go_wp2_with fail
  refine last.wp_region_later (S := fun w' => BoxIn X T pre (shVals s.1 s.2.2.1 la s.2.1.length lc ma mn mc ha s.2.2.2.2.length hc) post w' ∧ BoxR w.heap.size kind tx (.slice a len cap) w') 11 (by kernel_rfl) ⟨hbX2.below hd2, hbx2.below hd2⟩ (fun hHeld0 => ?_)
  refine last.wpAnyL_take (i := 0) (v := (.pointer (some ⟨X, pre.length, none⟩))) rfl rfl (by kernel_rfl) (by kernel_rfl) (by kernel_rfl) (by kernel_rfl) (fun _ _ _ h => h) (Or.inl ⟨by rfl, ?_⟩) (by assumption) ?_
  · intro wq hSq; go_simp
  try simp only [Act.put, List.setIfInBounds_toArray, List.set_cons_zero, List.set_cons_succ]
  refine last.wpAnyL_take (i := 1) (v := (.pointer (some ⟨X, pre.length, none⟩))) rfl rfl (by kernel_rfl) (by kernel_rfl) (by kernel_rfl) (by kernel_rfl) (fun _ _ _ h => h) (Or.inl ⟨by rfl, ?_⟩) (by assumption) ?_
  · intro wq hSq; go_simp
  try simp only [Act.put, List.setIfInBounds_toArray, List.set_cons_zero, List.set_cons_succ]
  refine last.wpAnyL_take (i := 2) (v := (.pointer (some ⟨X, pre.length, none⟩))) rfl rfl (by kernel_rfl) (by kernel_rfl) (by kernel_rfl) (by kernel_rfl) (fun _ _ _ h => h) (Or.inl ⟨by rfl, ?_⟩) (by assumption) ?_
  · intro wq hSq; go_simp
  try simp only [Act.put, List.setIfInBounds_toArray, List.set_cons_zero, List.set_cons_succ]
  refine last.wpAnyL_take (i := 3) (v := (.pointer (some ⟨X, pre.length + 1, none⟩))) rfl rfl (by kernel_rfl) (by kernel_rfl) (by kernel_rfl) (by kernel_rfl) (fun _ _ _ h => h) (Or.inl ⟨by rfl, ?_⟩) (by assumption) ?_
  · intro wq hSq; go_simp
  try simp only [Act.put, List.setIfInBounds_toArray, List.set_cons_zero, List.set_cons_succ]
  refine last.wpAnyL_take (i := 4) (v := (.slice la s.2.1.length lc)) rfl rfl (by kernel_rfl) (by kernel_rfl) (by kernel_rfl) (by kernel_rfl) (fun _ _ _ h => h) (Or.inl ⟨by rfl, ?_⟩) (by assumption) ?_
  · intro wq hSq; have q := hSq.1.cell 1 _ rfl; go_simp
  try simp only [Act.put, List.setIfInBounds_toArray, List.set_cons_zero, List.set_cons_succ]
  refine last.wpAnyL_take (i := 5) (v := (.agg #[.int .i64 kind, .int .i64 tx, .slice a len cap])) rfl rfl (by kernel_rfl) (by kernel_rfl) (by kernel_rfl) (by kernel_rfl) (fun _ _ _ h => h) (Or.inl ⟨by rfl, ?_⟩) (by assumption) ?_
  · intro wq hSq; obtain ⟨q1, q2, q3⟩ := hSq.2.cells; go_simp
  try simp only [Act.put, List.setIfInBounds_toArray, List.set_cons_zero, List.set_cons_succ]
  refine last.wpAnyL_one (i := 6) (o := { dst := some 24, op := Op.call { callee := Callee.value (Operand.func 112), args := #[Operand.tmp 23], argTypes := #[41] }, type := 41, pos := "l09_shard.go:64", after := #[{ on := 5, ground := Ground.data }], guard := none }) (by kernel_rfl) rfl (fun K hK => ?_)
  refine stepc.step_call1 rfl 112 (.tmp 23) _ rfl (fun _ _ => rfl) (.agg #[.int .i64 kind, .int .i64 tx, .slice a len cap]) (by kernel_rfl) _ HCR.out ?_
  rintro e w6 ⟨g6, c6, rfl, hO6, hb6⟩
  refine ⟨_, rfl, ?_⟩
  have hB6 := hd2.trans (hb6.mono hd2.size)
  refine hK.out _ _ ?_ (fun hHeld => ?_)
  · exact ⟨hbX2.below hB6, hbx2.below hB6⟩
  clear hK K hHeld0
  have hHeld0 := hHeld
  clear hHeld
  try simp only [Act.put, List.setIfInBounds_toArray, List.set_cons_zero, List.set_cons_succ]
  refine last.wpAnyL_one (i := 7) (o := { dst := some 25, op := Op.buildSlice 24 1 #[(0, Operand.tmp 24)], type := 24, pos := "l09_shard.go:64", after := #[{ on := 6, ground := Ground.data }], guard := none }) (by kernel_rfl) rfl (fun K hK => ?_)
  go_simp
  have hb7 : Below w6.heap.size w6 (w6.alloc (.cells #[.int .i64 kind, .int .i64 tx, .slice (some ⟨g6, 0, none⟩) len c6] 41)) := (Below.refl _ _).alloc (Nat.le_refl _) _
  have hB7 := hB6.trans (hb7.mono hB6.size)
  refine hK.out _ _ ?_ (fun hHeld => ?_)
  · exact ⟨hbX2.below hB7, hbx2.below hB7⟩
  clear hK K hHeld0
  have hHeld0 := hHeld
  clear hHeld
  try simp only [Act.put, List.setIfInBounds_toArray, List.set_cons_zero, List.set_cons_succ]
  refine last.wpAnyL_one (i := 8) (o := { dst := some 26, op := Op.call { callee := Callee.builtin Builtin.append, args := #[Operand.tmp 22, Operand.tmp 25], argTypes := #[24, 24] }, type := 24, pos := "l09_shard.go:64", after := #[{ on := 4, ground := Ground.data }, { on := 7, ground := Ground.data }, { on := 6, ground := Ground.chain }], guard := none }) (by kernel_rfl) rfl (fun K hK => ?_)
  have hV6 := (ownV_of hO6).mono (base' := 0) (Nat.zero_le _)
  have hV7 := hV6.below hb7
  have hOL7 := hOL2.below hB7
  refine step_append_lies _ rfl (.tmp 22) (.tmp 25) 24 rfl 0 41 i0 (.agg #[.int .i64 0, .int .i64 0, .slice none 0 0]) 3 40 Tryz.underlying24 hi hz0 hz1 hz2 rfl (by decide) (.slice la s.2.1.length lc) _ _ (by kernel_rfl) hOL7.row ⟨w6.heap.size, 0, none⟩ 1 1 [.int .i64 kind, .int .i64 tx, .slice (some ⟨g6, 0, none⟩) len c6] (by kernel_rfl) rfl (rec_cellsW w6 kind tx _ _) (rec_oneW kind tx hV6.one) (by decide) hc3 hc4 (Nat.zero_le _) _ rfl ?_
  intro g8 c8 w8 hown8 hgrow8 hat8 hlt8
  have hout : ∀ j, (Value.slice (some ⟨g6, 0, none⟩) len c6).ownBlock = some j → ¬ BlkR (.slice la s.2.1.length lc) hl j := fun j hj hb => by
    have e1 : g6 = j := by simpa [Value.ownBlock] using hj
    have h1 := (hOL2.lt j hb).2
    have h2 := hO6.lt.1
    have h3 := hd2.size
    omega
  have hOL8 : OwnR w8 0 (.slice (some ⟨g8, 0, none⟩) (s.2.1.length + 1) c8) (s.2.1 ++ [(kind, tx, ops)]) (hl ++ [.slice (some ⟨g6, 0, none⟩) len c6]) := hOL7.snoc hV7 hsr hout hown8 hgrow8
  have hLrow : ∀ k, (Value.slice la s.2.1.length lc).ownBlock = some k → k ∈ F ∧ k ∉ F0 ∧ k < w.heap.size := fun k hk => hLd k (.inl hk)
  have hbX8 := (hbX2.below hB7).grown hgrow8 (fun e => hXF (hLrow X e.symm).1)
  have hbx8 := (hbx2.below hB7).grown hgrow8 (fun e => by have := hLrow _ e.symm; omega)
  have hFr8 : lay.Frame (X :: F) w w8 := (hFr2.below hB7).grown hgrow8 (fun k e => .inl (List.mem_cons_of_mem _ (hLrow k e).1))
  have hKd : ∀ k, ((Value.slice am nm cm).ownBlock = some k ∨ BlkR (.slice ah (forced s.2.2.2.1 s.2.2.2.2 (kind, tx, ops)).2.length ch) hs k) → (k ∈ F0 ∨ w.heap.size < k) ∧ k < w2.heap.size := fun k hk => by
    refine ⟨?_, ?_⟩
    · rcases hk with e | e
      · exact (hK2.newM k e).imp_right (fun _ => by omega)
      · exact (hK2.newH k e).imp_right (fun _ => by omega)
    · rcases hk with e | e
      · exact hK2.m.lt k e
      · exact (hK2.held.lt k e).2
  have hnL : ∀ k, (k ∈ F0 ∨ w.heap.size < k) → some k ≠ (Value.slice la s.2.1.length lc).ownBlock := fun k hk e => by
    have h3 := hLrow k e.symm
    rcases hk with e | e
    · exact h3.2.1 e
    · omega
  have hK7 := hK2.below hB7
  have hm8 : OwnPV w8 am nm cm (forced s.2.2.2.1 s.2.2.2.2 (kind, tx, ops)).1 := hK7.m.of_block fun k hk => hgrow8.block k (hK7.m.lt k hk) (hnL k (hKd k (.inl hk)).1)
  have hh8 : OwnR w8 0 (.slice ah (forced s.2.2.2.1 s.2.2.2.2 (kind, tx, ops)).2.length ch) (forced s.2.2.2.1 s.2.2.2.2 (kind, tx, ops)).2 hs := hK7.held.of_blocks fun k hk => hgrow8.block k (hK7.held.lt k hk).2 (hnL k (hKd k (.inr hk)).1)
  have hS7 : BoxS W.heap.size (.slice am nm cm) (.slice ah (forced s.2.2.2.1 s.2.2.2.2 (kind, tx, ops)).2.length ch) vs w8 := hK7.box.grown hgrow8 (fun e => by have := hLrow _ e.symm; omega)
  have hg8 : g8 ∈ F ∧ g8 ∉ F0 ∧ g8 < w.heap.size ∨ w2.heap.size ≤ g8 := by
    rcases hat8 with e | e
    · exact .inl (hLrow g8 e)
    · right
      have h1 := hB7.size
      omega
  refine hK.out _ _ ?_ (fun hHeld => ?_)
  · exact ⟨hbX8, hbx8⟩
  clear hK K hHeld0
  have hHeld0 := hHeld
  clear hHeld
  try simp only [Act.put, List.setIfInBounds_toArray, List.set_cons_zero, List.set_cons_succ]
  refine last.wpAnyL_one (i := 9) (o := { dst := some 27, op := Op.nilCheck (Operand.tmp 18), type := 0, pos := "l09_shard.go:64", after := #[{ on := 0, ground := Ground.data }, { on := 0, ground := Ground.phase }, { on := 1, ground := Ground.phase }, { on := 2, ground := Ground.phase }, { on := 3, ground := Ground.phase }, { on := 4, ground := Ground.phase }, { on := 5, ground := Ground.phase }, { on := 6, ground := Ground.phase }, { on := 7, ground := Ground.phase }, { on := 8, ground := Ground.phase }], guard := none }) (by kernel_rfl) rfl (fun K hK => ?_)
  go_simp
  refine hK.out _ _ ?_ (fun hHeld => ?_)
  · exact hHeld0
  clear hK K hHeld0
  have hHeld0 := hHeld
  clear hHeld
  try simp only [Act.put, List.setIfInBounds_toArray, List.set_cons_zero, List.set_cons_succ]
  refine last.wpAnyL_take (i := 10) (v := (.pointer (some ⟨X, pre.length + 1, none⟩))) rfl rfl (by kernel_rfl) (by kernel_rfl) (by kernel_rfl) (by kernel_rfl) (fun _ _ _ h => h) (Or.inl ⟨by rfl, ?_⟩) (by assumption) ?_
  · intro wq hSq; go_simp
  try simp only [Act.put, List.setIfInBounds_toArray, List.set_cons_zero, List.set_cons_succ]
  have e8 := hbX8.cell 1 _ rfl
  have f8 := hbX8.fz (pre.length + 1)
  refine last.wpAnyL_last (o := { dst := none, op := Op.store 24 (Operand.tmp 28) (Operand.tmp 26), type := 0, pos := "l09_shard.go:64", after := #[{ on := 10, ground := Ground.data }, { on := 8, ground := Ground.data }, { on := 8, ground := Ground.chain }, { on := 0, ground := Ground.phase }, { on := 1, ground := Ground.phase }, { on := 2, ground := Ground.phase }, { on := 3, ground := Ground.phase }, { on := 4, ground := Ground.phase }, { on := 5, ground := Ground.phase }, { on := 6, ground := Ground.phase }, { on := 7, ground := Ground.phase }, { on := 8, ground := Ground.phase }], guard := none }) (by kernel_rfl) rfl (by kernel_rfl) (fun K hK => ?_)
  go_simp
  refine hK.out _ _ ?_
  clear hK K
  have c9 := hbX8.set 1 (by simp [shVals]) (.slice (some ⟨g8, 0, none⟩) (s.2.1.length + 1) c8)
  have hnX : ∀ k, k ∈ F ∨ w.heap.size ≤ k → k ≠ X := fun k hk e => by
    subst e
    rcases hk with e | e
    · exact hXF e
    · omega
  have hLn : ∀ k, BlkR (.slice (some ⟨g8, 0, none⟩) (s.2.1.length + 1) c8) (hl ++ [.slice (some ⟨g6, 0, none⟩) len c6]) k → (k ∈ F ∧ k ∉ F0 ∧ k < w.heap.size) ∨ w2.heap.size ≤ k := fun k hk => by
    rcases hk with e | ⟨y, hy, e⟩
    · have : g8 = k := by simpa [Value.ownBlock] using e
      subst this
      exact hg8
    · rcases List.mem_append.1 hy with e2 | e2
      · exact .inl (hLd k (.inr ⟨y, e2, e⟩))
      · right
        rw [List.mem_singleton.1 e2] at e
        have e1 : g6 = k := by simpa [Value.ownBlock] using e
        have h1 := hO6.lt.1
        have h2 := hd2.size
        omega
  have hLX : ∀ k, BlkR (.slice (some ⟨g8, 0, none⟩) (s.2.1.length + 1) c8) (hl ++ [.slice (some ⟨g6, 0, none⟩) len c6]) k → some k ≠ some X := fun k hk e => hnX k ((hLn k hk).imp (fun h => h.1) (fun h => by omega)) (Option.some.inj e)
  have hKX : ∀ k, ((Value.slice am nm cm).ownBlock = some k ∨ BlkR (.slice ah (forced s.2.2.2.1 s.2.2.2.2 (kind, tx, ops)).2.length ch) hs k) → some k ≠ some X := fun k hk e => hnX k ((hKd k hk).1.imp (fun h => hF0F k h) (fun h => by omega)) (Option.some.inj e)
  generalize hW9 : w8.setCell ⟨X, pre.length + 1, none⟩ (.slice (some ⟨g8, 0, none⟩) (s.2.1.length + 1) c8) = w9 at *
  have hOL9 := hOL8.of_blocks fun k hk => c9.2.block k (hOL8.lt k hk).2 (hLX k hk)
  have hm9 := hm8.of_block fun k hk => c9.2.block k (hm8.lt k hk) (hKX k (.inl hk))
  have hh9 := hh8.of_blocks fun k hk => c9.2.block k (hh8.lt k hk).2 (hKX k (.inr hk))
  have hS9 := hS7.grown c9.2 (fun e => hXne (Option.some.inj e).symm)
  have hFr9 : lay.Frame (X :: F) w w9 := hFr8.grown c9.2 (fun k e => .inl (by rw [← Option.some.inj e]; exact List.mem_cons_self))
  have hbX9 : BoxIn X T pre (shVals s.1 s.2.2.1 (some ⟨g8, 0, none⟩) (s.2.1.length + 1) c8 ma mn mc ha s.2.2.2.2.length hc) post w9 := c9.1
  clear c9 hW9 e8 f8 hHeld0 hOL8 hm8 hh8 hS7 hFr8 hbX8 hbx8 hgrow8 hown8 hOL7 hV6 hV7 hK7 hb7 hB7 hB6 hO6 hb6 HCR hat8 hlt8
  obtain ⟨v0, v1, v2⟩ := hS9.cells
  have x3 := hbX9.cell 3 _ rfl
  have x4 := hbX9.cell 4 _ rfl
  have y3 := hbX9.fz (pre.length + 3)
  have y4 := hbX9.fz (pre.length + 4)
  have c10 := hbX9.set 3 (by simp [shVals]) (.slice am nm cm)
  have c11 := c10.1.set 4 (by simp [shVals]) (.slice ah (forced s.2.2.2.1 s.2.2.2.2 (kind, tx, ops)).2.length ch)
  have c12 := grownBy_trans c10.2 c11.2
  have hS10 := (hS9.grown c10.2 (fun e => hXne (Option.some.inj e).symm)).cells.2.1
  have z4 := c10.1.cell 4 _ rfl
  have q4 := c10.1.fz (pre.length + 4)
  have HE : Hid (WrotePost w X T pre post F (written s (kind, tx, ops)) ((w9.setCell ⟨X, pre.length + 3, none⟩ (.slice am nm cm)).setCell ⟨X, pre.length + 4, none⟩ (.slice ah (forced s.2.2.2.1 s.2.2.2.2 (kind, tx, ops)).2.length ch))) := by
    have hOLz := hOL9.of_blocks fun k hk => c12.block k (hOL9.lt k hk).2 (hLX k hk)
    have hmz := hm9.of_block fun k hk => c12.block k (hm9.lt k hk) (hKX k (.inl hk))
    have hhz := hh9.of_blocks fun k hk => c12.block k (hh9.lt k hk).2 (hKX k (.inr hk))
    have hFrz := hFr9.grown c12 (fun k e => .inl (by rw [← Option.some.inj e]; exact List.mem_cons_self))
    have d1 := recsR.ownNodup (recs_own.2 ⟨_, hOLz, rfl⟩)
    have d3 := recsR.ownNodup (recs_own.2 ⟨_, hhz, rfl⟩)
    have hmem : ∀ k ∈ (Value.slice am nm cm).ownBlock.toList ++ blkR (.slice ah (forced s.2.2.2.1 s.2.2.2.2 (kind, tx, ops)).2.length ch) hs, (Value.slice am nm cm).ownBlock = some k ∨ BlkR (.slice ah (forced s.2.2.2.1 s.2.2.2.2 (kind, tx, ops)).2.length ch) hs k := fun k hk => by
      rcases List.mem_append.1 hk with e | e
      · exact .inl (by simpa using e)
      · exact .inr (mem_blkR.1 e)
    refine ⟨some ⟨g8, 0, none⟩, s.2.1.length + 1, c8, am, nm, cm, ah, _, ch, _, ⟨c11.1, ⟨h.own.id, h.own.sure, ⟨_, hOLz, hs, hhz, rfl⟩, hmz, ?_⟩, ?_⟩, hFrz, ?_⟩
    · refine nodup_mk d1 (nodup_mk (by cases (Value.slice am nm cm).ownBlock <;> simp) d3 (fun k hk hk2 => ?_)) (fun k hk hk2 => ?_)
      · have h9 : (Value.slice am nm cm).ownBlock = some k := by simpa using hk
        exact hK2.heldRow hK2.m.2.2 (by decide) (by decide) k (mem_blkR.1 hk2) h9.symm
      · have h1 := hLn k (mem_blkR.1 hk)
        have h2 := hKd k (hmem k hk2)
        rcases h1 with h1 | h1
        · rcases h2.1 with h3 | h3
          · exact h1.2.1 h3
          · omega
        · omega
    · intro hk
      rcases List.mem_append.1 hk with e | e
      · exact hLX X (mem_blkR.1 e) rfl
      · exact hKX X (hmem X e) rfl
    · intro k hk
      rcases List.mem_append.1 hk with e | e
      · exact (hLn k (mem_blkR.1 e)).imp (fun h => h.1) (fun h => by omega)
      · exact (hKd k (hmem k e)).1.imp (fun h => hF0F k h) (fun h => by omega)
  rw [hWl] at v0 v1 v2 hS10
  clear hOL9 hm9 hh9 hFr9 hbX9 c10 c11 c12 hK2 hLX hKX hLn hKd
  go_wp2_with fail
  refine bodyPost_end (v := .tuple #[]) ?_ rfl ⟨rfl, HE.out⟩
  simp [results, Tryz.results87, go_sem]
end Go.Proofs.YteniflajiklffaaGreatDoor.recs

namespace Go.Proofs.YteniflajiklffaaGreatDoor.recs
open Go Go.RowKit Go.Proofs.YteniflajiklffaaGreatDoor.base Go.Proofs.YteniflajiklffaaGreatDoor.pairs Go.Proofs.YteniflajiklffaaGreatDoor.ords Go.Proofs.YteniflajiklffaaGreatDoor.helps Go.Proofs.YteniflajiklffaaGreatDoor.help Go.Proofs.YteniflajiklffaaGreatDoor.lay
set_option linter.unusedVariables false
set_option linter.unusedSimpArgs false

theorem Right.tame {s : Shd} (h : Right s) : ∃ seen, replay s.2.1 = some (s.2.2.2.1, s.2.2.2.2, seen) ∧ Tame s.2.1.length (s.2.2.2.1, s.2.2.2.2, seen) := by
  obtain ⟨seen, hm⟩ := h.made
  have := replayGo_tame s.2.1 0 _ _ tame_start hm
  rw [Nat.zero_add] at this
  exact ⟨seen, hm, this⟩
section
variable {w w' : World} {X : Nat} {T : TypeId} {pre post : List Value} {la ma ha : Option Addr} {ln lc mn mc hn hc : Nat} {s : Shd} {F : List Nat}
theorem InSh.below (h : InSh w X T pre post la ln lc ma mn mc ha hn hc s F) (hb : Below w.heap.size w w') : InSh w' X T pre post la ln lc ma mn mc ha hn hc s F := ⟨h.box.below hb, h.own.below hb, h.out⟩
theorem InSh.same (h : InSh w X T pre post la ln lc ma mn mc ha hn hc s F) (hb : Below w.heap.size w w') : WrotePost w X T pre post F s w' :=
  ⟨la, ln, lc, ma, mn, mc, ha, hn, hc, F, h.below hb, lay.Frame.of_below hb, Fresh.refl _ _⟩
theorem InSh.lens (h : InSh w X T pre post la ln lc ma mn mc ha hn hc s F) : ln = s.2.1.length ∧ mn = s.2.2.2.1.length ∧ hn = s.2.2.2.2.length := by
  obtain ⟨hl, hOL, hh, hOH, _⟩ := h.own.log
  exact ⟨hOL.nlen, h.own.map.1.symm, hOH.nlen⟩
theorem WrotePost.from {w0 : World} {s' : Shd} (hb : Below w0.heap.size w0 w) (hF : ∀ k ∈ F, k < w0.heap.size) (h : WrotePost w X T pre post F s' w') : WrotePost w0 X T pre post F s' w' := by
  obtain ⟨la, ln, lc, ma, mn, mc, ha, hn, hc, F', h1, h2, h3⟩ := h
  refine ⟨la, ln, lc, ma, mn, mc, ha, hn, hc, F', h1, (lay.Frame.of_below (G := X :: F) hb).trans h2 (Fresh.refl _ _), fun k hk => (h3 k hk).imp_right (fun e => Nat.le_trans hb.size e)⟩
end
theorem Right.fits_gone {s : Shd} {tx : Int} (h : Right s) (hok : recOk (3, tx, []) = true) (hp : placeTx tx s.2.2.2.2 = none) : Fits s.2.2.2.1 s.2.2.2.2 (3, tx, []) := by
  obtain ⟨seen, _, ht⟩ := h.tame
  have := h.room
  exact ⟨hok, .inr (.inl ⟨rfl, hp⟩), ht.few, by omega, ht.eight⟩
theorem Right.fits_end {s : Shd} {kind tx : Int} {k : Nat} (h : Right s) (hok : recOk (kind, tx, []) = true) (hk : kind ≠ 1) (hp : placeTx tx s.2.2.2.2 = some k) : Fits s.2.2.2.1 s.2.2.2.2 (kind, tx, []) := by
  obtain ⟨seen, _, ht⟩ := h.tame
  have := h.room
  exact ⟨hok, .inr (.inr ⟨hk, k, hp⟩), ht.few, by omega, ht.eight⟩
end Go.Proofs.YteniflajiklffaaGreatDoor.recs

namespace Go.Proofs.YteniflajiklffaaGreatDoor.recs
open Go Go.RowKit Go.Proofs.YteniflajiklffaaGreatDoor.base Go.Proofs.YteniflajiklffaaGreatDoor.pairs Go.Proofs.YteniflajiklffaaGreatDoor.ords Go.Proofs.YteniflajiklffaaGreatDoor.helps Go.Proofs.YteniflajiklffaaGreatDoor.help Go.Proofs.YteniflajiklffaaGreatDoor.lay
set_option linter.unusedVariables false
set_option linter.unusedSimpArgs false

theorem below_alloc {w : World} {o : Obj} : Below w.heap.size w (w.alloc o) := (Below.refl _ _).alloc (Nat.le_refl _) _
structure Bound (s : Shd) : Prop where
  few : Few s.2.1
  fewH : Few s.2.2.2.2
  log : s.2.1.length ≤ 1048576
  map : s.2.2.2.1.length ≤ 1048576
  held : s.2.2.2.2.length ≤ 1048576
  cnt : cntS s ≤ 3145728
theorem bound_of {s : Shd} (h : szSh s ≤ 1048576) : Bound s := by
  have hc := cntS_le s
  unfold szSh at h
  exact ⟨few_of (N := 1048576) (by omega) (by omega), few_of (N := 1048576) (by omega) (by omega), by omega, by omega, by omega, by have h2 := cntS_le s; unfold szSh at h2; omega⟩
theorem OwnSh.plain {w : World} {ln lc mn mc hn hc gl : Nat} {ma ha : Option Addr} {s : Shd} {F : List Nat} (h : OwnSh w (some ⟨gl, 0, none⟩) ln lc ma mn mc ha hn hc s F) : PlainR w (some ⟨gl, 0, none⟩) ln := by
  obtain ⟨hl, q1, _⟩ := h.log
  exact q1.plain
theorem SeeSh.few {w : World} {la ma ha : Option Addr} {ln lc mn mc hn hc : Nat} {s : Shd} (h : SeeSh w la ln lc ma mn mc ha hn hc s) (b : Bound s) : ln ≤ 1048576 ∧ mn ≤ 1048576 ∧ hn ≤ 1048576 := by
  obtain ⟨l1, l2, l3⟩ := SeeSh.lens h
  have h1 := b.log
  have h2 := b.map
  have h3 := b.held
  omega
def RetSh (w : World) (r : Shd) (e : Ending) (w' : World) : Prop :=
  ∃ (la : Option Addr) (ln lc : Nat) (ma : Option Addr) (mn mc : Nat) (ha : Option Addr) (hn hc : Nat) (F : List Nat), e = .returned (aggSh r.1 r.2.2.1 la ln lc ma mn mc ha hn hc) ∧ OwnSh w' la ln lc ma mn mc ha hn hc r F ∧ (∀ k ∈ F, w.heap.size ≤ k) ∧ Below w.heap.size w w'
abbrev InBox (w : World) (X : Nat) (la : Option Addr) (ln lc : Nat) (ma : Option Addr) (mn mc : Nat) (ha : Option Addr) (hn hc : Nat) (s : Shd) (F : List Nat) : Prop := InSh w X 27 [] [] la ln lc ma mn mc ha hn hc s F
section
variable {w w' : World} {X : Nat} {la ma ha : Option Addr} {ln lc mn mc hn hc : Nat} {s s' : Shd} {F G : List Nat}
theorem inBox_new (h : OwnSh w la ln lc ma mn mc ha hn hc s F) : InBox (w.alloc (boxSh s.1 s.2.2.1 la ln lc ma mn mc ha hn hc)) w.heap.size la ln lc ma mn mc ha hn hc s F :=
  ⟨boxIn_new w _ _, h.below below_alloc, fun e => by have := h.lt _ e; omega⟩
theorem InSh.framed (h : InBox w X la ln lc ma mn mc ha hn hc s F) (hf : lay.Frame G w w') (hX : X ∉ G) (hF : ∀ k ∈ F, k ∉ G) : InBox w' X la ln lc ma mn mc ha hn hc s F :=
  ⟨h.box.frame hf hX, h.own.frame hf hF, h.out⟩
theorem InSh.cells (h : InBox w X la ln lc ma mn mc ha hn hc s F) : w.cell? ⟨X, 0, none⟩ = some (.int .i64 s.1) ∧ w.cell? ⟨X, 1, none⟩ = some (.slice la ln lc) ∧ w.cell? ⟨X, 2, none⟩ = some (.int .i64 s.2.2.1) ∧ w.cell? ⟨X, 3, none⟩ = some (.slice ma mn mc) ∧ w.cell? ⟨X, 4, none⟩ = some (.slice ha hn hc) := by
  have a0 := h.box.cell 0 _ rfl
  have a1 := h.box.cell 1 _ rfl
  have a2 := h.box.cell 2 _ rfl
  have a3 := h.box.cell 3 _ rfl
  have a4 := h.box.cell 4 _ rfl
  simp only [List.length_nil, Nat.zero_add] at a0 a1 a2 a3 a4
  exact ⟨a0, a1, a2, a3, a4⟩
end
theorem keep10 {w w' : World} {X A : Nat} {x0 x1 x2 x3 x4 a0 a1 a2 a3 a4 : Value} (hb : Below w.heap.size w w') (h : w.cell? ⟨X, 0, none⟩ = some x0 ∧ w.cell? ⟨X, 1, none⟩ = some x1 ∧ w.cell? ⟨X, 2, none⟩ = some x2 ∧ w.cell? ⟨X, 3, none⟩ = some x3 ∧ w.cell? ⟨X, 4, none⟩ = some x4 ∧ w.cell? ⟨A, 0, none⟩ = some a0 ∧ w.cell? ⟨A, 1, none⟩ = some a1 ∧ w.cell? ⟨A, 2, none⟩ = some a2 ∧ w.cell? ⟨A, 3, none⟩ = some a3 ∧ w.cell? ⟨A, 4, none⟩ = some a4) :
    w'.cell? ⟨X, 0, none⟩ = some x0 ∧ w'.cell? ⟨X, 1, none⟩ = some x1 ∧ w'.cell? ⟨X, 2, none⟩ = some x2 ∧ w'.cell? ⟨X, 3, none⟩ = some x3 ∧ w'.cell? ⟨X, 4, none⟩ = some x4 ∧ w'.cell? ⟨A, 0, none⟩ = some a0 ∧ w'.cell? ⟨A, 1, none⟩ = some a1 ∧ w'.cell? ⟨A, 2, none⟩ = some a2 ∧ w'.cell? ⟨A, 3, none⟩ = some a3 ∧ w'.cell? ⟨A, 4, none⟩ = some a4 := by
  have keep : ∀ b o v, w.cell? ⟨b, o, none⟩ = some v → w'.cell? ⟨b, o, none⟩ = some v := fun b o v hv => (hb.cell (p := ⟨b, o, none⟩) (World.block_lt_of_cell? w _ hv)).trans hv
  obtain ⟨h0, h1, h2, h3, h4, k0, k1, k2, k3, k4⟩ := h
  exact ⟨keep _ _ _ h0, keep _ _ _ h1, keep _ _ _ h2, keep _ _ _ h3, keep _ _ _ h4, keep _ _ _ k0, keep _ _ _ k1, keep _ _ _ k2, keep _ _ _ k3, keep _ _ _ k4⟩
end Go.Proofs.YteniflajiklffaaGreatDoor.recs

namespace Go.Proofs.YteniflajiklffaaGreatDoor.recs
open Go Go.RowKit Go.Proofs.YteniflajiklffaaGreatDoor.base Go.Proofs.YteniflajiklffaaGreatDoor.pairs Go.Proofs.YteniflajiklffaaGreatDoor.ords Go.Proofs.YteniflajiklffaaGreatDoor.helps Go.Proofs.YteniflajiklffaaGreatDoor.help Go.Proofs.YteniflajiklffaaGreatDoor.lay Go.Proofs.YteniflajiklffaaGreatDoor.sent
set_option linter.unusedVariables false
set_option linter.unusedSimpArgs false

def senOf (k : Int) : Nat := if k = 1 then 6 else if k = 2 then 0 else if k = 3 then 1 else 3
theorem senOf_mem (k : Int) : senOf k ∈ gs := by
  unfold senOf
  split
  · decide
  · split
    · decide
    · split
      · decide
      · decide
theorem lastKind_take (tx : Int) (l : List Rc) (k : Nat) (h : k < l.length) : lastKind tx (l.take (k + 1)) = if l[k].2.1 = tx then l[k].1 else lastKind tx (l.take k) := by
  rw [List.take_succ_eq_append_getElem h, lastKind_snoc]
set_option maxRecDepth 100000 in
set_option maxHeartbeats 4000000 in
theorem i_standing (G : List Nat) (A : Nat → Addr) (la : Option Addr) (ln lc : Nat) (ma : Option Addr) (mn mc : Nat) (ha : Option Addr) (hn hc : Nat) (s : Shd) (tx : Int) (w : World) (h : SeeSh w la ln lc ma mn mc ha hn hc s) (hK : KS G A w) :
    Calls Tryz.prog 38 #[aggSh s.1 s.2.2.1 la ln lc ma mn mc ha hn hc, .int .i64 tx] w fun e w' => e = .returned (.iface 180 (.pointer (some (A (senOf (lastKind tx s.2.1)))))) ∧ Below w.heap.size w w' := by
  obtain ⟨hl, hm, hsm, hc'⟩ := id h.log
  unfold maxLen at hm
  obtain ⟨W, hW⟩ : ∃ W, w.alloc (boxSh s.1 s.2.2.1 la ln lc ma mn mc ha hn hc) = W := ⟨_, rfl⟩
  have hB : Below w.heap.size w W := by rw [← hW]; exact (Below.refl _ _).alloc (Nat.le_refl _) _
  have hbx : BoxIn w.heap.size 27 [] (shVals s.1 s.2.2.1 la ln lc ma mn mc ha hn hc) [] W := by rw [← hW]; exact boxIn_new w _ _
  have c1 := hbx.cell 1 _ rfl
  simp only [List.length_nil, Nat.zero_add] at c1
  have hlog := h.log.below hB
  have hKW := hK.below hB
  have HW := Hid.mk' hW
  rw [← hW] at c1
  have HL := Hid.mk' hl
  clear hW hl
  go_enter Tryz.func38, Tryz.ntmps38
  go_wp2_with fail
  rw [HW.out]
  clear c1 HW
  go_loopw [5, 11] (fun o i wr => ∃ k : Nat, k ≤ ln ∧ i = .int .i64 (k : Int) ∧ o = .int .i64 (lastKind tx (s.2.1.take k)) ∧ Below W.heap.size W wr) (fun _ i _ => ln - (intOf i).toNat)
  case atStart => exact ⟨0, Nat.zero_le _, rfl, rfl, Below.refl _ _⟩
  case round =>
    obtain ⟨k, hk, rfl, rfl, hb⟩ := hrel
    by_cases hlt : k < ln
    · have hltl : k < s.2.1.length := by have := HL.out; omega
      obtain ⟨b, off, e, _⟩ := hc' (by omega)
      subst e
      obtain ⟨e0, e1, pa, pl, pc, e2, _, _⟩ := (hlog.below hb).at k hltl
      have hki : (k : Int) < (ln : Int) := by omega
      have HT := Hid.mk' (lastKind_take tx s.2.1 k hltl)
      generalize s.2.1[k] = r at *
      generalize lastKind tx (s.2.1.take k) = o0 at *
      obtain ⟨r1, r2, r3⟩ := r
      simp only [] at e0 e1 e2 HT
      have HB2 := Hid.mk' (hb.alloc hb.size (.cells #[.int .i64 r1, .int .i64 r2, .slice pa pl pc] 41))
      clear hb
      by_cases h1 : r2 = tx
      · subst h1
        have f1 : (r2 == r2) = true := by simp
        have HT2 : Hid (lastKind r2 (s.2.1.take (k + 1)) = r1) := by show _ = _; rw [HT.out]; simp
        clear HT
        go_wp2_with fail
        go_roundw
        case rel => exact ⟨k + 1, by omega, by go_num, by rw [HT2.out], HB2.out⟩
        case measure => simp [intOf]; omega
      · have f1 : (r2 == tx) = false := beq_eq_false_iff_ne.2 h1
        have HT2 : Hid (lastKind tx (s.2.1.take (k + 1)) = o0) := by show _ = _; rw [HT.out]; simp [h1]
        clear HT h1
        go_wp2_with fail
        go_roundw
        case rel => exact ⟨k + 1, by omega, by go_num, by rw [HT2.out], HB2.out⟩
        case measure => simp [intOf]; omega
    · have HE : Hid (s.2.1.take k = s.2.1) := List.take_of_length_le (by have := HL.out; omega)
      have hnk : ¬ (k : Int) < (ln : Int) := by omega
      have hBz := hB.trans (hb.mono hB.size)
      have hKr := hKW.below hb
      have g0 := hKr.cell 6 (hK.sub _ (by decide))
      have g1 := hKr.cell 0 (hK.sub _ (by decide))
      have g2 := hKr.cell 1 (hK.sub _ (by decide))
      have g4 := hKr.cell 3 (hK.sub _ (by decide))
      rw [HE.out]
      clear hKr hb HE hKW hK
      obtain ⟨o0, ho0⟩ : ∃ o0, lastKind tx s.2.1 = o0 := ⟨_, rfl⟩
      rw [ho0]
      have HO := Hid.mk' ho0
      clear ho0
      by_cases k1 : o0 = 1
      · have HA : Hid (senOf o0 = 6) := by show _ = _; unfold senOf; rw [if_pos k1]
        have HG := Hid.mk' g0
        rw [show A 6 = A (senOf o0) by rw [HA.out]] at HG
        have g1' := HG.out
        subst k1
        clear g0 g1 g2 g4 HA HG
        go_wp2_with fail
        go_ret
        exact ⟨by rw [HO.out]; rfl, hBz⟩
      have b1 : (o0 == 1) = false := beq_eq_false_iff_ne.2 k1
      by_cases k2 : o0 = 2
      · have HA : Hid (senOf o0 = 0) := by show _ = _; unfold senOf; rw [if_neg k1, if_pos k2]
        have HG := Hid.mk' g1
        rw [show A 0 = A (senOf o0) by rw [HA.out]] at HG
        have g1' := HG.out
        subst k2
        clear k1 g0 g1 g2 g4 HA HG b1
        go_wp2_with fail
        go_ret
        exact ⟨by rw [HO.out]; rfl, hBz⟩
      have b2 : (o0 == 2) = false := beq_eq_false_iff_ne.2 k2
      by_cases k3 : o0 = 3
      · have HA : Hid (senOf o0 = 1) := by show _ = _; unfold senOf; rw [if_neg k1, if_neg k2, if_pos k3]
        have HG := Hid.mk' g2
        rw [show A 1 = A (senOf o0) by rw [HA.out]] at HG
        have g1' := HG.out
        subst k3
        clear k1 k2 g0 g1 g2 g4 HA HG b1 b2
        go_wp2_with fail
        go_ret
        exact ⟨by rw [HO.out]; rfl, hBz⟩
      have b3 : (o0 == 3) = false := beq_eq_false_iff_ne.2 k3
      have HA : Hid (senOf o0 = 3) := by show _ = _; unfold senOf; rw [if_neg k1, if_neg k2, if_neg k3]
      have HG := Hid.mk' g4
      rw [show A 3 = A (senOf o0) by rw [HA.out]] at HG
      have g1' := HG.out
      clear g0 g1 g2 g4 HA HG
      go_wp2_with fail
      go_ret
      exact ⟨by rw [HO.out]; rfl, hBz⟩
end Go.Proofs.YteniflajiklffaaGreatDoor.recs

namespace Go.Proofs.YteniflajiklffaaGreatDoor.recs
open Go Go.RowKit Go.Proofs.YteniflajiklffaaGreatDoor.base Go.Proofs.YteniflajiklffaaGreatDoor.pairs Go.Proofs.YteniflajiklffaaGreatDoor.ords Go.Proofs.YteniflajiklffaaGreatDoor.helps Go.Proofs.YteniflajiklffaaGreatDoor.help Go.Proofs.YteniflajiklffaaGreatDoor.lay Go.Proofs.YteniflajiklffaaGreatDoor.sent
set_option linter.unusedVariables false
set_option linter.unusedSimpArgs false

set_option maxRecDepth 100000 in
theorem i_room (la : Option Addr) (ln lc : Nat) (ma : Option Addr) (mn mc : Nat) (ha : Option Addr) (hn hc : Nat) (s : Shd) (w : World) (hln : ln + hn ≤ 300) :
    Calls Tryz.prog 74 #[aggSh s.1 s.2.2.1 la ln lc ma mn mc ha hn hc] w fun e w' => e = .returned (.int .i64 (300 - (ln : Int) - (hn : Int))) ∧ Below w.heap.size w w' := by
  obtain ⟨W, hW⟩ : ∃ W, w.alloc (boxSh s.1 s.2.2.1 la ln lc ma mn mc ha hn hc) = W := ⟨_, rfl⟩
  have hB : Below w.heap.size w W := by rw [← hW]; exact (Below.refl _ _).alloc (Nat.le_refl _) _
  have hbx : BoxIn w.heap.size 27 [] (shVals s.1 s.2.2.1 la ln lc ma mn mc ha hn hc) [] W := by rw [← hW]; exact boxIn_new w _ _
  have c1 := hbx.cell 1 _ rfl
  have c4 := hbx.cell 4 _ rfl
  simp only [List.length_nil, Nat.zero_add] at c1 c4
  have HW := Hid.mk' hW
  rw [← hW] at c1 c4
  have hw1 : IntKind.i64.wrap (300 - (ln : Int)) = 300 - (ln : Int) := wraps_i64 _ (by omega) (by omega)
  have hw2 : IntKind.i64.wrap (300 - (ln : Int) - (hn : Int)) = 300 - (ln : Int) - (hn : Int) := wraps_i64 _ (by omega) (by omega)
  clear hW
  go_enter Tryz.func74, Tryz.ntmps74
  go_wp2_with fail
  rw [HW.out]
  go_ret
  exact ⟨rfl, hB⟩
end Go.Proofs.YteniflajiklffaaGreatDoor.recs

namespace Go.Proofs.YteniflajiklffaaGreatDoor.recs
open Go Go.RowKit Go.Proofs.YteniflajiklffaaGreatDoor.base Go.Proofs.YteniflajiklffaaGreatDoor.pairs Go.Proofs.YteniflajiklffaaGreatDoor.ords Go.Proofs.YteniflajiklffaaGreatDoor.helps Go.Proofs.YteniflajiklffaaGreatDoor.help Go.Proofs.YteniflajiklffaaGreatDoor.lay
set_option linter.unusedVariables false
set_option linter.unusedSimpArgs false

set_option maxRecDepth 100000 in
set_option maxHeartbeats 2000000 in
theorem i_ownRecs (a : Option Addr) (len cap : Nat) (l : List Rc) (w : World) (h : SlR w a len l) (hsz : len ≤ 1099511627776) (hops : ∀ r ∈ l, r.2.2.length ≤ 1099511627776) :
    Calls Tryz.prog 75 #[.slice a len cap] w fun e w' => ∃ g cp hs, e = .returned (.slice (some ⟨g, 0, none⟩) len cp) ∧ OwnR w' w.heap.size (.slice (some ⟨g, 0, none⟩) len cp) l hs ∧ Below w.heap.size w w' := by
  obtain ⟨i0, hi, hz0, hz1, hz2⟩ := info_parts infoRW
  obtain ⟨hl, hm, hsm, hc⟩ := id h
  subst hl
  have hm' := hm
  unfold maxLen at hm'
  go_enter Tryz.func75, Tryz.ntmps75
  go_wp2_with (at_make; refine wpList_make_own _ rfl _ _ 24 rfl w.heap.size 41 i0 (.agg #[.int .i64 0, .int .i64 0, .slice none 0 0]) 3 Tryz.underlying24 hi hz0 hz1 _ _ _ l.length rfl rfl rfl ?b2 ?b3 ?b4 ?_)
  case b2 => rw [hz2]; omega
  case b3 => exact hm
  case b4 => exact Nat.le_refl _
  intro w1 hown hgrow
  have hO0 : OwnR w1 w.heap.size (.slice (some ⟨w.heap.size, 0, none⟩) 0 l.length) (l.take 0) [] :=
    ⟨rfl, (fun _ h => absurd h (by simp)), hown, fun i hi => absurd hi (by simp), List.Pairwise.nil, fun k _ y hy => absurd hy List.not_mem_nil⟩
  have hB0 : Below w.heap.size w w1 := (Below.refl _ _).grown hgrow (Nat.le_refl _) (fun k e => by cases e)
  clear hown hgrow
  go_wp2_with (at_builtin; fail)
  go_loopw [3, 11] (fun v i wr => ∃ (k g cp : Nat) (hs : List Value), k ≤ l.length ∧ v = .slice (some ⟨g, 0, none⟩) k cp ∧ i = .int .i64 (k : Int) ∧ OwnR wr w.heap.size (.slice (some ⟨g, 0, none⟩) k cp) (l.take k) hs ∧ Below w.heap.size w wr) (fun _ i _ => l.length - (intOf i).toNat)
  case atStart => exact ⟨0, _, _, [], Nat.zero_le _, rfl, rfl, hO0, hB0⟩
  case round =>
    clear hO0 hB0
    obtain ⟨k, g, cp, hs, hk, rfl, rfl, hO, hB⟩ := hrel
    by_cases hlt : k < l.length
    · obtain ⟨b, off, ha, _⟩ := hc (by omega)
      subst ha
      obtain ⟨c0, c1, pa, pl, pc, c2, hSo, _⟩ := (h.at k hlt).below hB
      have hki : (k : Int) < (l.length : Int) := by omega
      have hsr := hsm _ (List.getElem_mem hlt)
      have hol := hops _ (List.getElem_mem hlt)
      have HTK : Hid (l.take (k + 1) = l.take k ++ [l[k]]) := List.take_succ_eq_append_getElem hlt
      have htl : (l.take k).length = k := by rw [List.length_take]; omega
      generalize l[k] = r at *
      generalize l.take k = T at *
      have hpe := hSo.1
      obtain ⟨W, hW⟩ : ∃ W, wr.alloc (.cells #[.int .i64 r.1, .int .i64 r.2.1, .slice pa pl pc] 41) = W := ⟨_, rfl⟩
      have hbW : Below wr.heap.size wr W := by rw [← hW]; exact (Below.refl _ _).alloc (Nat.le_refl _) _
      have HCR := Hid.mk' (i_ownRec r.1 r.2.1 pa pl pc r.2.2 W (hSo.below hbW) (by omega))
      have HW := Hid.mk' hW
      have HTL := Hid.mk' htl
      have HO := Hid.mk' (hO.below hbW)
      have hBW := hB.trans (hbW.mono hB.size)
      clear hO htl hW hbW
      go_wp2_with (at_builtin; fail)
      rw [HW.out]
      refine HCR.out.mono ?_
      rintro e w3 ⟨g3, rfl, hO3, hb3⟩
      have hV3 := (ownV_of hO3).mono (base' := w.heap.size) hBW.size
      have hOa := HO.out.below hb3
      have hB3 := hBW.trans (hb3.mono hBW.size)
      have hg3 := hO3.lt
      have hout : ∀ j, (Value.slice (some ⟨g3, 0, none⟩) pl pl).ownBlock = some j → ¬ BlkR (.slice (some ⟨g, 0, none⟩) k cp) hs j := fun j hj hb => by
        have e1 : g3 = j := by simpa [Value.ownBlock] using hj
        have := (HO.out.lt j hb).2
        omega
      have HOU := Hid.mk' hout
      have hbn : Below w3.heap.size w3 (w3.alloc (.cells #[.int .i64 r.1, .int .i64 r.2.1, .slice (some ⟨g3, 0, none⟩) pl pl] 41)) := (Below.refl _ _).alloc (Nat.le_refl _) _
      have hO4 := hOa.below hbn
      have hV4 := hV3.below hbn
      have hB4 := hB3.trans (hbn.mono hB3.size)
      have HOC := Hid.mk' (rec_cellsW w3 r.1 r.2.1 (.slice (some ⟨g3, 0, none⟩) pl pl) 41)
      have HON := Hid.mk' (rec_oneW r.1 r.2.1 hV3.one)
      have hc3 : T.length + 1 ≤ maxLen := by have := HTL.out; unfold maxLen; omega
      have hc4 : (T.length + 1) * 40 ≤ 140737488355328 := by have := HTL.out; omega
      clear HCR hO3 hb3 hV3 hOa hB3 hbn hout c0 c1 c2 HO
      go_wp2_with (at_builtin; refine wpList_append_own _ rfl (.tmp 15) (.tmp 18) 24 rfl w.heap.size 41 i0 (.agg #[.int .i64 0, .int .i64 0, .slice none 0 0]) 3 40 Tryz.underlying24 hi hz0 hz1 hz2 rfl (by decide) _ _ _ rfl hO4.row ⟨w3.heap.size, 0, none⟩ 1 1 _ rfl rfl HOC.out HON.out hc3 hc4 hB4.size ?_)
      intro v5 w5 hown5 hgrow5 hnn5
      have hnn' : ¬ v5 = .slice none 0 0 := by simpa using hnn5
      have hO5 := hO4.snoc hV4 hsr HOU.out hown5 hgrow5
      have hB5 : Below w.heap.size w w5 := hB4.grown hgrow5 hB4.size (fun j e => (hO4.row.lt j e).1)
      rw [← HTK.out] at hO5
      have htl2 : (l.take (k + 1)).length = k + 1 := by rw [List.length_take]; omega
      rcases hO5.shape with ⟨hv5, _⟩ | ⟨g5, cp5, hv5, _⟩
      · exact absurd hv5 hnn'
      · rw [htl2] at hv5
        subst hv5
        have HO5 := Hid.mk' hO5
        clear hown5 hgrow5 hnn5 hnn' hO5 hO4 hB4 hV4 HOC HON HOU htl2
        go_wp2_with (at_builtin; fail)
        go_roundw
        case rel => exact ⟨k + 1, g5, cp5, _, by omega, rfl, by go_num, HO5.out, hB5⟩
        case measure => simp [intOf]; omega
    · have hke : k = l.length := by omega
      subst hke
      rw [List.take_length] at hO
      have hlt2 : ¬ (l.length : Int) < (l.length : Int) := by omega
      go_wp2_with (at_builtin; fail)
      go_ret
      exact ⟨g, cp, rfl, ⟨hs, hO⟩, hB⟩
end Go.Proofs.YteniflajiklffaaGreatDoor.recs

namespace Go.Proofs.YteniflajiklffaaGreatDoor.recs
open Go Go.RowKit Go.Proofs.YteniflajiklffaaGreatDoor.base Go.Proofs.YteniflajiklffaaGreatDoor.pairs Go.Proofs.YteniflajiklffaaGreatDoor.ords
set_option linter.unusedVariables false

theorem applyAll_length (m : List Pr) (l : List Od) : (applyAll m l).length ≤ m.length + l.length := by
  unfold applyAll
  induction l generalizing m with
  | nil => simp
  | cons o l ih =>
    rw [List.foldl_cons, List.length_cons]
    have h1 := ih (apply1 m o)
    have h2 : (apply1 m o).length ≤ m.length + 1 := by
      unfold apply1
      split
      · exact (putKey_length _ _ _).1
      · split
        · exact Nat.le_trans (List.length_filter_le _ _) (by omega)
        · omega
    omega
theorem go_recOk : ∀ (l : List Rc) (s t : St), replayGo s l = some t → ∀ r ∈ l, recOk r = true
  | [], _, _, _, r, hr => absurd hr List.not_mem_nil
  | x :: l, s, t, e, r, hr => by
    rw [replayGo] at e
    split at e
    · cases e
    · next u hu =>
      rcases List.mem_cons.1 hr with rfl | hr
      · unfold one at hu
        split at hu
        · assumption
        · cases hu
      · exact go_recOk l u t e r hr
theorem Right.recOk {s : Shd} (h : Right s) : ∀ r ∈ s.2.1, recs.recOk r = true := by
  obtain ⟨seen, hm⟩ := h.made
  exact go_recOk _ _ _ hm
theorem decideS_cases (s : Shd) (tx : Int) (yes : Bool) : (decideS s tx yes).1 = s ∨ (decideS s tx yes = (written s (if yes = true then 2 else 3, tx, []), true) ∧ txOk tx = true ∧ outc s tx = 1) ∨ (decideS s tx yes = (written s (3, tx, []), true) ∧ txOk tx = true ∧ yes = false ∧ outc s tx ≠ 1 ∧ outc s tx ≠ 3 ∧ outc s tx ≠ 4 ∧ s.2.1.length + s.2.2.2.2.length < 300) := by
  unfold decideS
  split
  · exact .inl rfl
  · next h1 =>
    have h1' : txOk tx = true := by simpa using h1
    split
    · next h2 => exact .inr (.inl ⟨rfl, h1', h2⟩)
    · next h2 =>
      split
      · exact .inl rfl
      · next h3 =>
        split
        · exact .inl rfl
        · next h4 =>
          split
          · exact .inl rfl
          · next h5 => exact .inr (.inr ⟨rfl, h1', by cases yes <;> simp_all, h2, h3, h4, by omega⟩)
theorem Right.held_tx {s : Shd} (h : Right s) : ∀ r ∈ s.2.2.2.2, r ∈ s.2.1 ∧ r.1 = 1 := fun r hr => by
  obtain ⟨seen, hm⟩ := h.made
  have := (replay_ok hm).2.1 r hr
  exact ⟨this.1, this.2.1⟩
end Go.Proofs.YteniflajiklffaaGreatDoor.recs
