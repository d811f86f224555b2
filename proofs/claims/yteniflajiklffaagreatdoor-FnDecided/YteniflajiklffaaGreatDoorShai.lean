/- Shards: plain mathematics. No function of the program is named here. How pairs, orders, records and shards lie in memory. No function of the program is named here. The specification's replay: one record more. -/
import Derived.Test.YteniflajiklffaaGreatDoorShab
import Derived.Test.YteniflajiklffaaGreatDoorShaa
import Derived.Test.YteniflajiklffaaGreatDoorShah
namespace Go.Proofs.YteniflajiklffaaGreatDoor.recs
open Go Go.RowKit Go.Proofs.YteniflajiklffaaGreatDoor.base Go.Proofs.YteniflajiklffaaGreatDoor.pairs Go.Proofs.YteniflajiklffaaGreatDoor.ords
set_option linter.unusedVariables false

abbrev Shd := Int × List Rc × Int × List Pr × List Rc
def shardOk (s : Shd) : Bool :=
  decide (0 ≤ s.1 ∧ s.1 ≤ 7) && decide (s.2.1.length ≤ 300) && decide (0 ≤ s.2.2.1 ∧ s.2.2.1 ≤ (s.2.1.length : Int)) &&
    (match replay s.2.1 with
     | none => false
     | some t => decide (t.1 = s.2.2.2.1) && decide (t.2.1 = s.2.2.2.2) && decide (s.2.1.length + t.2.1.length ≤ 300))
structure Right (s : Shd) : Prop where
  id : 0 ≤ s.1 ∧ s.1 ≤ 7
  made : ∃ seen, replay s.2.1 = some (s.2.2.2.1, s.2.2.2.2, seen)
  sure : 0 ≤ s.2.2.1 ∧ s.2.2.1 ≤ (s.2.1.length : Int)
  room : s.2.1.length + s.2.2.2.2.length ≤ 300
theorem shardOk_iff (s : Shd) : shardOk s = true ↔ Right s := by
  unfold shardOk
  constructor
  · intro h
    simp only [Bool.and_eq_true, decide_eq_true_iff] at h
    obtain ⟨⟨⟨h1, h2⟩, h3⟩, h4⟩ := h
    cases hr : replay s.2.1 with
    | none => rw [hr] at h4; cases h4
    | some t =>
      rw [hr] at h4
      simp only [Bool.and_eq_true, decide_eq_true_iff] at h4
      obtain ⟨⟨h5, h6⟩, h7⟩ := h4
      exact ⟨h1, ⟨t.2.2, by rw [hr, ← h5, ← h6]⟩, h3, by rw [← h6]; exact h7⟩
  · rintro ⟨h1, ⟨seen, h2⟩, h3, h4⟩
    simp only [Bool.and_eq_true, decide_eq_true_iff]
    refine ⟨⟨⟨h1, by omega⟩, h3⟩, ?_⟩
    rw [h2]
    simp [h4]
/-! ### how it is with a transaction -/
def lastKind (tx : Int) (l : List Rc) : Int := l.foldl (fun k r => if r.2.1 = tx then r.1 else k) 0
theorem lastKind_snoc (tx : Int) (l : List Rc) (r : Rc) : lastKind tx (l ++ [r]) = if r.2.1 = tx then r.1 else lastKind tx l := by
  unfold lastKind; rw [List.foldl_append]; rfl
def lastOut (tx : Int) (l : List Rc) : Int := l.foldl (fun o r => if r.2.1 = tx ∧ r.1 = 3 then 4 else if r.2.1 = tx ∧ r.1 = 2 then 3 else o) 2
theorem lastOut_snoc (tx : Int) (l : List Rc) (r : Rc) : lastOut tx (l ++ [r]) = if r.2.1 = tx ∧ r.1 = 3 then 4 else if r.2.1 = tx ∧ r.1 = 2 then 3 else lastOut tx l := by
  unfold lastOut; rw [List.foldl_append]; rfl
structure Stood (l : List Rc) (s : St) : Prop where
  nd : (s.2.1.map fun r => r.2.1).Nodup
  held : ∀ tx, (∃ r ∈ s.2.1, r.2.1 = tx) ↔ lastKind tx l = 1
  seen : ∀ tx, tx ∈ s.2.2 ↔ lastKind tx l ≠ 0
  kinds : ∀ tx, lastKind tx l = 0 ∨ lastKind tx l = 1 ∨ lastKind tx l = 2 ∨ lastKind tx l = 3
  out : ∀ tx, lastKind tx l ≠ 1 → lastOut tx l = if lastKind tx l = 2 then 3 else if lastKind tx l = 3 then 4 else 2
theorem placeTx_no {tx : Int} : ∀ {l : List Rc}, (∀ r ∈ l, r.2.1 ≠ tx) → placeTx tx l = none
  | [], _ => rfl
  | r :: l, hn => by rw [placeTx, if_neg (hn r (by simp)), placeTx_no (fun x hx => hn x (by simp [hx]))]; rfl
theorem placeTx_isSome {tx : Int} {l : List Rc} : (placeTx tx l).isSome = true ↔ ∃ r ∈ l, r.2.1 = tx := by
  constructor
  · intro h
    cases hp : placeTx tx l with
    | none => rw [hp] at h; cases h
    | some k => obtain ⟨hk, e⟩ := placeTx_some hp; exact ⟨_, List.getElem_mem hk, e⟩
  · rintro ⟨r, hr, e⟩
    cases hp : placeTx tx l with
    | none => exact absurd e (placeTx_none hp r hr)
    | some k => rfl
theorem cut_mem {α : Type} {l : List α} {x : α} {k : Nat} (hk : k < l.length) (h : x ∈ l) : x ∈ l.take k ++ l.drop (k + 1) ∨ x = l[k] := by
  rw [← List.take_append_drop k l, List.drop_eq_getElem_cons hk] at h
  rcases List.mem_append.1 h with e | e
  · exact .inl (List.mem_append.2 (.inl e))
  · rcases List.mem_cons.1 e with e | e
    · exact .inr e
    · exact .inl (List.mem_append.2 (.inr e))
theorem cut_sub {α : Type} (l : List α) (k : Nat) : (l.take k ++ l.drop (k + 1)).Sublist l := by
  rw [← List.eraseIdx_eq_take_drop_succ]; exact List.eraseIdx_sublist _ _
theorem cut_tx {l : List Rc} {k : Nat} (hnd : (l.map fun r => r.2.1).Nodup) (hk : k < l.length) (tx : Int) (htx : l[k].2.1 = tx) : ∀ r ∈ l.take k ++ l.drop (k + 1), r.2.1 ≠ tx := by
  intro r hr e
  have hsplit : l = l.take k ++ l[k] :: l.drop (k + 1) := by rw [← List.drop_eq_getElem_cons hk, List.take_append_drop]
  rw [hsplit, List.map_append, List.map_cons, List.nodup_append] at hnd
  rcases List.mem_append.1 hr with h1 | h1
  · exact hnd.2.2 _ (List.mem_map.2 ⟨r, h1, e⟩) _ (List.mem_cons.2 (.inl htx.symm)) rfl
  · exact (List.nodup_cons.1 hnd.2.1).1 (List.mem_map.2 ⟨r, h1, by rw [e, htx]⟩)
theorem stood_start : Stood [] ([], [], []) :=
  ⟨List.nodup_nil, fun tx => ⟨fun ⟨r, hr, _⟩ => absurd hr List.not_mem_nil, fun h => by simp [lastKind] at h⟩, fun tx => ⟨fun h => absurd h List.not_mem_nil, fun h => absurd rfl h⟩, fun tx => .inl rfl, fun tx _ => by simp [lastOut, lastKind]⟩
theorem stood_step {l : List Rc} {s t : St} {r : Rc} (h : Stood l s) (ho : one s r = some t) : Stood (l ++ [r]) t := by
  have hkk := h.kinds
  unfold one at ho
  split at ho
  · next hok =>
    have hkind := ((recOk_iff r).1 hok).2
    split at ho
    · next h1 =>
      split at ho
      · cases ho
      · next hn =>
        cases ho
        have hns : r.2.1 ∉ s.2.2 := fun e => hn (.inl (by simpa using e))
        have hk0 : lastKind r.2.1 l = 0 := by
          rcases Classical.em (lastKind r.2.1 l = 0) with e | e
          · exact e
          · exact absurd ((h.seen r.2.1).2 e) hns
        refine ⟨?_, fun tx => ?_, fun tx => ?_, fun tx => ?_, fun tx hne => ?_⟩
        · rw [List.map_append, List.nodup_append]
          refine ⟨h.nd, List.nodup_cons.2 ⟨List.not_mem_nil, List.nodup_nil⟩, fun a ha b hb e => ?_⟩
          obtain ⟨x, hx, rfl⟩ := List.mem_map.1 ha
          obtain ⟨y, hy, rfl⟩ := List.mem_map.1 hb
          rw [List.mem_singleton.1 hy] at e
          have := (h.held r.2.1).1 ⟨x, hx, e⟩
          omega
        · rw [lastKind_snoc]
          constructor
          · rintro ⟨x, hx, e⟩
            rcases List.mem_append.1 hx with e2 | e2
            · split
              · exact h1
              · exact (h.held tx).1 ⟨x, e2, e⟩
            · rw [List.mem_singleton.1 e2] at e
              rw [if_pos e]; exact h1
          · intro e
            split at e
            · next e2 => exact ⟨r, List.mem_append.2 (.inr (by simp)), e2⟩
            · obtain ⟨x, hx, e3⟩ := (h.held tx).2 e
              exact ⟨x, List.mem_append.2 (.inl hx), e3⟩
        · rw [lastKind_snoc]
          constructor
          · intro hx
            split
            · omega
            · next e2 =>
              rcases List.mem_append.1 hx with e | e
              · exact (h.seen tx).1 e
              · exact absurd (List.mem_singleton.1 e).symm e2
          · intro e
            split at e
            · next e2 => exact List.mem_append.2 (.inr (by simp [e2]))
            · exact List.mem_append.2 (.inl ((h.seen tx).2 e))
        · rw [lastKind_snoc]
          split
          · exact .inr (.inl h1)
          · exact h.kinds tx
        · rw [lastKind_snoc] at hne ⊢
          rw [lastOut_snoc]
          split at hne
          · exact absurd h1 hne
          · next e2 =>
            rw [if_neg (fun e => e2 e.1), if_neg (fun e => e2 e.1), if_neg e2]
            exact h.out tx hne
    · next h1 =>
      have hk23 : r.1 = 2 ∨ r.1 = 3 := by
        rcases hkind with ⟨e, _⟩ | ⟨e, _⟩
        · exact absurd e h1
        · exact e
      have hout : ∀ tx, lastKind tx (l ++ [r]) ≠ 1 → (lastKind tx l ≠ 1 ∨ r.2.1 = tx) → lastOut tx (l ++ [r]) = if lastKind tx (l ++ [r]) = 2 then 3 else if lastKind tx (l ++ [r]) = 3 then 4 else 2 := by
        intro tx hne hor
        rw [lastKind_snoc, lastOut_snoc]
        by_cases e2 : r.2.1 = tx
        · rw [if_pos e2]
          rcases hk23 with e | e
          · rw [if_neg (fun x => by omega), if_pos ⟨e2, e⟩, if_pos e]
          · rw [if_pos ⟨e2, e⟩, if_neg (by omega), if_pos e]
        · rw [if_neg (fun e => e2 e.1), if_neg (fun e => e2 e.1), if_neg e2]
          exact h.out tx (hor.resolve_right e2)
      have hkinds : ∀ tx, lastKind tx (l ++ [r]) = 0 ∨ lastKind tx (l ++ [r]) = 1 ∨ lastKind tx (l ++ [r]) = 2 ∨ lastKind tx (l ++ [r]) = 3 := fun tx => by
        rw [lastKind_snoc]
        split
        · omega
        · exact h.kinds tx
      split at ho
      · next hp =>
        split at ho
        · next h3 =>
          cases ho
          have hnone := placeTx_none hp
          refine ⟨h.nd, fun tx => ?_, fun tx => ?_, hkinds, fun tx hne => ?_⟩
          · rw [lastKind_snoc]
            constructor
            · rintro ⟨x, hx, e⟩
              rw [if_neg (fun e2 => hnone x hx (by rw [e, e2]))]
              exact (h.held tx).1 ⟨x, hx, e⟩
            · intro e
              split at e
              · omega
              · exact (h.held tx).2 e
          · rw [lastKind_snoc]
            constructor
            · intro hx
              split
              · omega
              · next e2 =>
                rcases List.mem_append.1 hx with e | e
                · exact (h.seen tx).1 e
                · exact absurd (List.mem_singleton.1 e).symm e2
            · intro e
              split at e
              · next e2 => exact List.mem_append.2 (.inr (by simp [e2]))
              · exact List.mem_append.2 (.inl ((h.seen tx).2 e))
          · refine hout tx hne ?_
            by_cases e2 : r.2.1 = tx
            · exact .inr e2
            · rw [lastKind_snoc, if_neg e2] at hne; exact .inl hne
        · cases ho
      · next k hp =>
        obtain ⟨hk, hkt⟩ := placeTx_some hp
        split at ho
        · cases ho
          have hcut := cut_tx h.nd hk r.2.1 hkt
          have hseen : lastKind r.2.1 l ≠ 0 := by
            have := (h.held r.2.1).1 ⟨_, List.getElem_mem hk, hkt⟩
            omega
          refine ⟨?_, fun tx => ?_, fun tx => ?_, hkinds, fun tx hne => ?_⟩
          · exact h.nd.sublist ((cut_sub s.2.1 k).map _)
          · rw [lastKind_snoc]
            constructor
            · rintro ⟨x, hx, e⟩
              rw [if_neg (fun e2 => hcut x hx (by rw [e, e2]))]
              exact (h.held tx).1 ⟨x, (cut_sub s.2.1 k).subset hx, e⟩
            · intro e
              split at e
              · omega
              · next e2 =>
                obtain ⟨x, hx, e3⟩ := (h.held tx).2 e
                rcases cut_mem hk hx with e4 | e4
                · exact ⟨x, e4, e3⟩
                · rw [e4, hkt] at e3; exact absurd e3 e2
          · rw [lastKind_snoc]
            constructor
            · intro hx
              split
              · omega
              · exact (h.seen tx).1 hx
            · intro e
              split at e
              · next e2 => rw [← e2]; exact (h.seen _).2 hseen
              · exact (h.seen tx).2 e
          · refine hout tx hne ?_
            by_cases e2 : r.2.1 = tx
            · exact .inr e2
            · rw [lastKind_snoc, if_neg e2] at hne; exact .inl hne
        · cases ho
  · cases ho
theorem stood_go : ∀ (l pre : List Rc) (s t : St), Stood pre s → replayGo s l = some t → Stood (pre ++ l) t
  | [], pre, s, t, h, e => by cases e; simpa using h
  | r :: l, pre, s, t, h, e => by
    rw [replayGo] at e
    split at e
    · cases e
    · next u hu =>
      have := stood_go l (pre ++ [r]) u t (stood_step h hu) e
      simpa using this
theorem stood_replay {l : List Rc} {t : St} (h : replay l = some t) : Stood l t := by
  have := stood_go l [] _ t stood_start h
  simpa using this
def outc (s : Shd) (tx : Int) : Int := if (placeTx tx s.2.2.2.2).isSome = true then 1 else lastOut tx s.2.1
def standCode (k : Int) : Int := if k = 1 then 1 else if k = 2 then 3 else if k = 3 then 4 else 2
theorem outc_stand {s : Shd} (h : Right s) (tx : Int) : outc s tx = standCode (lastKind tx s.2.1) := by
  obtain ⟨seen, hm⟩ := h.made
  have hS := stood_replay hm
  unfold outc standCode
  by_cases e : lastKind tx s.2.1 = 1
  · rw [if_pos (placeTx_isSome.2 ((hS.held tx).2 e)), if_pos e]
  · rw [if_neg (fun h => e ((hS.held tx).1 (placeTx_isSome.1 h))), if_neg e]
    exact hS.out tx e
theorem replay_snoc (l : List Rc) (r : Rc) : replay (l ++ [r]) = match replay l with | none => none | some t => one t r := by
  unfold replay
  rw [replayGo_append]
  cases replayGo ([], [], []) l with
  | none => rfl
  | some t =>
    simp only [replayGo]
    cases one t r with
    | none => rfl
    | some u => rfl
/-! ### what is written -/
def forced (m : List Pr) (held : List Rc) (r : Rc) : List Pr × List Rc :=
  if r.1 = 1 then (m, held ++ [r]) else match placeTx r.2.1 held with
    | none => (m, held)
    | some k => (nextM (m, held, []) r k, held.take k ++ held.drop (k + 1))
def written (s : Shd) (r : Rc) : Shd := (s.1, s.2.1 ++ [r], s.2.2.1, (forced s.2.2.2.1 s.2.2.2.2 r).1, (forced s.2.2.2.1 s.2.2.2.2 r).2)
theorem one_forced {m : List Pr} {held : List Rc} {seen : List Int} {r : Rc} {t : St} (h : one (m, held, seen) r = some t) : (t.1, t.2.1) = forced m held r := by
  unfold one at h
  unfold forced
  split at h
  · split at h
    · next h1 =>
      rw [if_pos h1]
      split at h
      · cases h
      · cases h; rfl
    · next h1 =>
      rw [if_neg h1]
      split at h
      · next hp =>
        split at h
        · cases h; simp only [hp]
        · cases h
      · next k hp =>
        split at h
        · cases h
          simp only [hp]
          rfl
        · cases h
  · cases h
theorem right_written {s : Shd} {r : Rc} {t : St} (h : Right s) {seen : List Int} (hm : replay s.2.1 = some (s.2.2.2.1, s.2.2.2.2, seen)) (ho : one (s.2.2.2.1, s.2.2.2.2, seen) r = some t) (hroom : s.2.1.length + 1 + t.2.1.length ≤ 300) : Right (written s r) := by
  have e := one_forced ho
  have e1 : (forced s.2.2.2.1 s.2.2.2.2 r).1 = t.1 := by rw [← e]
  have e2 : (forced s.2.2.2.1 s.2.2.2.2 r).2 = t.2.1 := by rw [← e]
  refine ⟨h.id, ⟨t.2.2, ?_⟩, ?_, ?_⟩
  · show replay (s.2.1 ++ [r]) = some ((forced s.2.2.2.1 s.2.2.2.2 r).1, (forced s.2.2.2.1 s.2.2.2.2 r).2, t.2.2)
    rw [replay_snoc, hm, e1, e2]; exact ho
  · have := h.sure
    show 0 ≤ s.2.2.1 ∧ s.2.2.1 ≤ ((s.2.1 ++ [r]).length : Int)
    simp; omega
  · show (s.2.1 ++ [r]).length + (forced s.2.2.2.1 s.2.2.2.2 r).2.length ≤ 300
    rw [e2]; simp; omega
theorem hold_fits {s : Shd} {seen : List Int} {tx : Int} {ops : List Od} (h : Right s) (hm : replay s.2.1 = some (s.2.2.2.1, s.2.2.2.2, seen)) (hok : recOk (1, tx, ops) = true) (ho : outc s tx = 2) (hl : locked s.2.2.2.2 ops = false) (hmt : meets s.2.2.2.1 ops = true) :
    one (s.2.2.2.1, s.2.2.2.2, seen) (1, tx, ops) = some (s.2.2.2.1, s.2.2.2.2 ++ [(1, tx, ops)], seen ++ [tx]) := by
  rw [outc_stand h] at ho
  have hS := stood_replay hm
  have h0 : lastKind tx s.2.1 = 0 := by
    rcases hS.kinds tx with e | e | e | e
    · exact e
    all_goals (rw [e] at ho; simp [standCode] at ho)
  have h1 : tx ∉ seen := fun e => (hS.seen tx).1 e h0
  unfold one
  rw [if_pos hok, if_pos rfl, if_neg (by simp [h1, hl, hmt])]
theorem unheld {s : Shd} {tx : Int} (ho : outc s tx ≠ 1) : placeTx tx s.2.2.2.2 = none := by
  cases hp : placeTx tx s.2.2.2.2 with
  | none => rfl
  | some k => exact absurd (by unfold outc; rw [hp]; rfl) ho
theorem gone_fits {s : Shd} {seen : List Int} {tx : Int} (h : Right s) (hm : replay s.2.1 = some (s.2.2.2.1, s.2.2.2.2, seen)) (hok : recOk (3, tx, []) = true) (ho : outc s tx = 2) :
    one (s.2.2.2.1, s.2.2.2.2, seen) (3, tx, []) = some (s.2.2.2.1, s.2.2.2.2, seen ++ [tx]) := by
  have hp := unheld (s := s) (tx := tx) (by omega)
  rw [outc_stand h] at ho
  have hS := stood_replay hm
  have h0 : lastKind tx s.2.1 = 0 := by
    rcases hS.kinds tx with e | e | e | e
    · exact e
    all_goals (rw [e] at ho; simp [standCode] at ho)
  have h1 : tx ∉ seen := fun e => (hS.seen tx).1 e h0
  unfold one
  rw [if_pos hok, if_neg (by simp)]
  simp only [hp]
  rw [if_pos (by simp [h1])]
theorem outc_held {s : Shd} {tx : Int} (h : Right s) (ho : outc s tx = 1) : ∃ k, placeTx tx s.2.2.2.2 = some k := by
  cases hp : placeTx tx s.2.2.2.2 with
  | some k => exact ⟨k, rfl⟩
  | none =>
    rw [outc_stand h] at ho
    obtain ⟨seen, hm⟩ := h.made
    have hS := stood_replay hm
    have hk : lastKind tx s.2.1 = 1 := by
      rcases hS.kinds tx with e | e | e | e
      · rw [e] at ho; simp [standCode] at ho
      · exact e
      all_goals (rw [e] at ho; simp [standCode] at ho)
    have := placeTx_isSome.2 ((hS.held tx).2 hk)
    rw [hp] at this; cases this
theorem end_fits {s : Shd} {seen : List Int} {tx kind : Int} {k : Nat} (hok : recOk (kind, tx, []) = true) (hk : kind ≠ 1) (hp : placeTx tx s.2.2.2.2 = some k) (h60 : (nextM (s.2.2.2.1, s.2.2.2.2, seen) (kind, tx, []) k).length ≤ 60) :
    one (s.2.2.2.1, s.2.2.2.2, seen) (kind, tx, []) = some (nextM (s.2.2.2.1, s.2.2.2.2, seen) (kind, tx, []) k, s.2.2.2.2.take k ++ s.2.2.2.2.drop (k + 1), seen) := by
  unfold one
  rw [if_pos hok, if_neg hk]
  simp only [hp]
  rw [if_pos h60]
/-! ### what a shard does -/
def txOk (tx : Int) : Bool := decide (1 ≤ tx ∧ tx ≤ 1000000)
def sumOps (l : List Rc) : Nat := (l.map fun r => r.2.2.length).sum
def keysOf (s : Shd) (ops : List Od) : Nat := s.2.2.2.1.length + ops.length + sumOps s.2.2.2.2
def holdNo (s : Shd) (ops : List Od) : Bool := locked s.2.2.2.2 ops || !meets s.2.2.2.1 ops || decide (60 < keysOf s ops) || decide (300 < s.2.1.length + s.2.2.2.2.length + 2)
def holdS (s : Shd) (tx : Int) (ops : List Od) : Shd × Int :=
  if (txOk tx && opsOk ops) = false then (s, 5) else if outc s tx ≠ 2 then (s, outc s tx) else if holdNo s ops = true then (s, 2) else (written s (1, tx, ops), 1)
def decideS (s : Shd) (tx : Int) (yes : Bool) : Shd × Bool :=
  if txOk tx = false then (s, false) else if outc s tx = 1 then (written s (if yes = true then 2 else 3, tx, []), true) else if outc s tx = 3 then (s, yes) else if outc s tx = 4 then (s, !yes)
  else if yes = true ∨ 300 ≤ s.2.1.length + s.2.2.2.2.length then (s, false) else (written s (3, tx, []), true)
def decideR (s : Shd) (tx : Int) (yes : Bool) : Shd × Bool := if shardOk s = true then decideS s tx yes else (s, false)
def leftN (s : Shd) (keep : Int) : Nat := (s.2.2.1 + min (max keep 0) ((s.2.1.length : Int) - s.2.2.1)).toNat
def resM' (r : Option St) : List Pr := match r with | none => [] | some t => t.1
def resH' (r : Option St) : List Rc := match r with | none => [] | some t => t.2.1
def crashS (s : Shd) (keep : Int) : Shd := (s.1, s.2.1.take (leftN s keep), (leftN s keep : Int), resM' (replay (s.2.1.take (leftN s keep))), resH' (replay (s.2.1.take (leftN s keep))))
def outcR (s : Shd) (tx : Int) : Int := if shardOk s = true then outc s tx else 5
theorem leftN_le {s : Shd} (h : Right s) (keep : Int) : s.2.2.1.toNat ≤ leftN s keep ∧ leftN s keep ≤ s.2.1.length := by
  have := h.sure
  unfold leftN
  omega
theorem right_prefix {s : Shd} (h : Right s) (k : Nat) : ∃ t, replay (s.2.1.take k) = some t := by
  obtain ⟨seen, hm⟩ := h.made
  unfold replay at hm ⊢
  rw [← List.take_append_drop k s.2.1, replayGo_append] at hm
  cases e : replayGo ([], [], []) (s.2.1.take k) with
  | none => rw [e] at hm; cases hm
  | some t => exact ⟨t, rfl⟩
theorem one_room {s t : St} {r : Rc} (h : one s r = some t) (l : List Rc) : s.2.1.length ≤ t.2.1.length + 1 := by
  unfold one at h
  split at h
  · split at h
    · split at h
      · cases h
      · cases h; simp; omega
    · split at h
      · split at h
        · cases h; simp
        · cases h
      · next k hp =>
        obtain ⟨hk, _⟩ := placeTx_some hp
        split at h
        · cases h; simp; omega
        · cases h
  · cases h
theorem go_room : ∀ (l : List Rc) (s t : St), replayGo s l = some t → s.2.1.length ≤ t.2.1.length + l.length
  | [], s, t, e => by cases e; simp
  | r :: l, s, t, e => by
    rw [replayGo] at e
    split at e
    · cases e
    · next u hu =>
      have h1 := go_room l u t e
      have h2 := one_room hu l
      simp; omega
theorem right_crash {s : Shd} (h : Right s) (keep : Int) : Right (crashS s keep) := by
  obtain ⟨t, ht⟩ := right_prefix h (leftN s keep)
  obtain ⟨h1, h2⟩ := leftN_le h keep
  have hl : (s.2.1.take (leftN s keep)).length = leftN s keep := by simp; omega
  refine ⟨h.id, ⟨t.2.2, ?_⟩, ?_, ?_⟩
  · show replay (s.2.1.take (leftN s keep)) = some (resM' (replay (s.2.1.take (leftN s keep))), resH' (replay (s.2.1.take (leftN s keep))), t.2.2)
    rw [ht]; rfl
  · show 0 ≤ (leftN s keep : Int) ∧ (leftN s keep : Int) ≤ ((s.2.1.take (leftN s keep)).length : Int)
    omega
  · show (s.2.1.take (leftN s keep)).length + (resH' (replay (s.2.1.take (leftN s keep)))).length ≤ 300
    rw [ht, hl]
    obtain ⟨seen, hm⟩ := h.made
    have hm2 := hm
    unfold replay at hm2 ht
    rw [← List.take_append_drop (leftN s keep) s.2.1, replayGo_append, ht] at hm2
    have := go_room _ _ _ hm2
    have hr := h.room
    simp only [List.length_drop] at this
    show leftN s keep + t.2.1.length ≤ 300
    omega
end Go.Proofs.YteniflajiklffaaGreatDoor.recs

namespace Go.Proofs.YteniflajiklffaaGreatDoor.lay
open Go Go.RowKit Go.Proofs.YteniflajiklffaaGreatDoor.base Go.Proofs.YteniflajiklffaaGreatDoor.pairs Go.Proofs.YteniflajiklffaaGreatDoor.ords Go.Proofs.YteniflajiklffaaGreatDoor.recs
set_option linter.unusedVariables false
set_option linter.unusedSimpArgs false

/-! ### types without slices -/
structure Flat {α : Type} (R : Rd α) (enc : α → List Value) (ok : α → Prop) : Prop where
  own : ∀ {w vs x F}, R.own w vs x F ↔ vs = enc x ∧ ok x ∧ F = []
  see : ∀ {w vs x}, R.see w vs x ↔ vs = enc x ∧ ok x
theorem flat_int : Flat int (fun x => [.int .i64 x]) (fun x => (Lit.int .i64 x).wf = true) :=
  ⟨fun {_ _ _ _} => ⟨fun h => ⟨h.1.1, h.1.2, h.2⟩, fun h => ⟨⟨h.1, h.2.1⟩, h.2.2⟩⟩, fun {_ _ _} => Iff.rfl⟩
theorem flat_str : Flat str (fun x => [.string x]) (fun x => x.size ≤ maxLen) :=
  ⟨fun {_ _ _ _} => ⟨fun h => ⟨h.1.1, h.1.2, h.2⟩, fun h => ⟨⟨h.1, h.2.1⟩, h.2.2⟩⟩, fun {_ _ _} => Iff.rfl⟩
theorem flat_both {α β : Type} {R : Rd α} {S : Rd β} {e1 : α → List Value} {e2 : β → List Value} {o1 : α → Prop} {o2 : β → Prop} (h1 : Flat R e1 o1) (h2 : Flat S e2 o2) : Flat (both R S) (fun x => e1 x.1 ++ e2 x.2) (fun x => o1 x.1 ∧ o2 x.2) := by
  constructor
  · intro w vs x F
    constructor
    · rintro ⟨us, ts, F1, F2, rfl, rfl, h3, h4, _⟩
      obtain ⟨rfl, k1, rfl⟩ := h1.own.1 h3
      obtain ⟨rfl, k2, rfl⟩ := h2.own.1 h4
      exact ⟨rfl, ⟨k1, k2⟩, rfl⟩
    · rintro ⟨rfl, ⟨k1, k2⟩, rfl⟩
      exact ⟨_, _, [], [], rfl, rfl, h1.own.2 ⟨rfl, k1, rfl⟩, h2.own.2 ⟨rfl, k2, rfl⟩, List.nodup_nil⟩
  · intro w vs x
    constructor
    · rintro ⟨us, ts, rfl, h3, h4⟩
      obtain ⟨rfl, k1⟩ := h1.see.1 h3
      obtain ⟨rfl, k2⟩ := h2.see.1 h4
      exact ⟨rfl, k1, k2⟩
    · rintro ⟨rfl, k1, k2⟩
      exact ⟨_, _, rfl, h1.see.2 ⟨rfl, k1⟩, h2.see.2 ⟨rfl, k2⟩⟩
section
variable {α : Type} {R : Rd α} {enc : α → List Value} {ok : α → Prop} {ty : TypeId} {w : World} {v : Value} {l : List α} {q : Parts} {F : List Nat}
theorem Flat.parts (hR : Flat R enc ok) (h : OwnG ty R w v l q) : q = l.map (fun x => (enc x, [])) ∧ (∀ x ∈ l, ok x) ∧ blocksOf q = [] ∧ cellsOf q = l.flatMap enc := by
  have hl := h.len
  have e : q = l.map (fun x => (enc x, [])) := by
    refine List.ext_getElem (by simp [hl]) fun i h1 h2 => ?_
    have h3 := hR.own.1 (h.each i (by omega))
    rw [List.getElem_map]
    exact Prod.ext h3.1 h3.2.2
  refine ⟨e, fun x hx => ?_, ?_, ?_⟩
  · obtain ⟨i, hi, rfl⟩ := List.getElem_of_mem hx
    exact (hR.own.1 (h.each i hi)).2.1
  · rw [e]; unfold blocksOf; rw [List.flatMap_map]; simp
  · rw [e]; unfold cellsOf; rw [List.flatMap_map]
theorem Flat.row (hR : Flat R enc ok) (h : OwnG ty R w v l q) : w.ownsRow 0 ty R.size v l.length (l.flatMap enc) := by
  rw [← (hR.parts h).2.2.2]; exact h.row
theorem Flat.made (hR : Flat R enc ok) (hr : w.ownsRow 0 ty R.size v l.length (l.flatMap enc)) (hok : ∀ x ∈ l, ok x) : OwnG ty R w v l (l.map (fun x => (enc x, []))) := by
  have e1 : cellsOf (l.map (fun x => (enc x, ([] : List Nat)))) = l.flatMap enc := by unfold cellsOf; rw [List.flatMap_map]
  have e2 : blocksOf (l.map (fun x => (enc x, ([] : List Nat)))) = [] := by unfold blocksOf; rw [List.flatMap_map]; simp
  refine ⟨by simp, by rw [e1]; exact hr, fun i hi => ?_, by rw [e2]; cases v.ownBlock <;> simp⟩
  simp only [List.getElem_map]
  exact hR.own.2 ⟨rfl, hok _ (List.getElem_mem _), rfl⟩
theorem Flat.slice (hR : Flat R enc ok) : (lay.slice ty R).own w [v] l F ↔ w.ownsRow 0 ty R.size v l.length (l.flatMap enc) ∧ (∀ x ∈ l, ok x) ∧ F = v.ownBlock.toList := by
  constructor
  · rintro ⟨v', q, e, rfl, h⟩
    cases e
    exact ⟨hR.row h, (hR.parts h).2.1, by rw [(hR.parts h).2.2.1, List.append_nil]⟩
  · rintro ⟨h1, h2, rfl⟩
    have h3 := hR.made h1 h2
    exact ⟨v, _, rfl, by rw [(hR.parts h3).2.2.1, List.append_nil], h3⟩
end
/-! ### pairs, orders, whole numbers -/
def pairR : Rd Pr := both str str
def opR : Rd Od := both int (both str str)
theorem flat_pair : Flat pairR (fun p => [.string p.1, .string p.2]) small := flat_both flat_str flat_str
theorem flat_op : Flat opR (fun o => [.int .i64 o.1, .string o.2.1, .string o.2.2]) smallO := flat_both flat_int (flat_both flat_str flat_str)
def pairsR : Rd (List Pr) := slice 74 pairR
def opsR : Rd (List Od) := slice 85 opR
section
variable {w w' : World} {a : Option Addr} {n cap : Nat} {F : List Nat} {v : Value}
theorem pairs_own {l : List Pr} : pairsR.own w [.slice a n cap] l F ↔ OwnPV w a n cap l ∧ F = (Value.slice a n cap).ownBlock.toList := by
  unfold pairsR
  rw [flat_pair.slice]
  constructor
  · rintro ⟨h1, h2, h3⟩
    have e : l.length = n := by
      rcases h1.2 with ⟨e, h0⟩ | ⟨g, c, cur, e, _⟩
      · cases e; exact h0
      · cases e; rfl
    exact ⟨⟨e, h2, by rw [← e] at h1 ⊢; exact h1⟩, h3⟩
  · rintro ⟨⟨h1, h2, h3⟩, h4⟩
    exact ⟨by rw [h1]; exact h3, h2, h4⟩
theorem ops_own {l : List Od} : opsR.own w [v] l F ↔ OwnV w 0 v l ∧ F = v.ownBlock.toList := by
  unfold opsR
  rw [flat_op.slice]
  constructor
  · rintro ⟨h1, h2, h3⟩
    exact ⟨⟨h2, h1⟩, h3⟩
  · rintro ⟨⟨h1, h2⟩, h4⟩
    exact ⟨h2, h1, h4⟩
end
/-! ### records -/
def recR : Rd Rc := both int (both int opsR)
def recsR : Rd (List Rc) := slice 41 recR
def blkR (v : Value) (hs : List Value) : List Nat := v.ownBlock.toList ++ hs.flatMap fun y => y.ownBlock.toList
section
variable {w w' : World} {a : Option Addr} {n cap : Nat} {F : List Nat} {v : Value}
theorem mem_blkR {hs : List Value} {k : Nat} : k ∈ blkR v hs ↔ BlkR v hs k := by
  unfold blkR BlkR
  rw [List.mem_append, List.mem_flatMap]
  constructor
  · rintro (h | ⟨y, hy, h⟩)
    · exact .inl (by simpa using h)
    · exact .inr ⟨y, hy, by simpa using h⟩
  · rintro (h | ⟨y, hy, h⟩)
    · exact .inl (by simp [h])
    · exact .inr ⟨y, hy, by simp [h]⟩
theorem rec_own {vs : List Value} {r : Rc} : recR.own w vs r F ↔ ∃ y, vs = [.int .i64 r.1, .int .i64 r.2.1, y] ∧ (Lit.int .i64 r.1).wf = true ∧ (Lit.int .i64 r.2.1).wf = true ∧ OwnV w 0 y r.2.2 ∧ F = y.ownBlock.toList := by
  constructor
  · rintro ⟨us, ts, F1, F2, rfl, rfl, h1, ⟨us2, ts2, F3, F4, rfl, rfl, h2, h3, _⟩, _⟩
    obtain ⟨rfl, k1, rfl⟩ := flat_int.own.1 h1
    obtain ⟨rfl, k2, rfl⟩ := flat_int.own.1 h2
    obtain ⟨a, c, q, rfl, _⟩ := own_open h3
    obtain ⟨h4, rfl⟩ := ops_own.1 h3
    exact ⟨_, rfl, k1, k2, h4, rfl⟩
  · rintro ⟨y, rfl, k1, k2, h4, rfl⟩
    have hn : (y.ownBlock.toList).Nodup := by cases y.ownBlock <;> simp
    exact ⟨[_], [_, y], [], _, rfl, rfl, flat_int.own.2 ⟨rfl, k1, rfl⟩, ⟨[_], [y], [], _, rfl, rfl, flat_int.own.2 ⟨rfl, k2, rfl⟩, ops_own.2 ⟨h4, rfl⟩, hn⟩, hn⟩
def recPart (z : Rc × Value) : List Value × List Nat := ([.int .i64 z.1.1, .int .i64 z.1.2.1, z.2], z.2.ownBlock.toList)
theorem parts_cells (l : List Rc) (hs : List Value) : cellsOf ((l.zip hs).map recPart) = recVals l hs := by
  unfold cellsOf recVals recPart; rw [List.flatMap_map]
theorem parts_blocks (l : List Rc) (hs : List Value) (h : hs.length = l.length) : blocksOf ((l.zip hs).map recPart) = hs.flatMap fun y => y.ownBlock.toList := by
  unfold blocksOf recPart
  rw [List.flatMap_map]
  conv => rhs; rw [← List.map_snd_zip (l₁ := l) (l₂ := hs) (by omega)]
  rw [List.flatMap_map]
theorem recs_own {l : List Rc} : recsR.own w [v] l F ↔ ∃ hs, OwnR w 0 v l hs ∧ F = blkR v hs := by
  constructor
  · rintro ⟨v', q, e, rfl, h⟩
    cases e
    have hl := h.len
    obtain ⟨hs, hhl, hq⟩ : ∃ hs : List Value, hs.length = l.length ∧ ∀ i (h1 : i < l.length) (h2 : i < hs.length), (q[i]'(by omega)).1 = [.int .i64 l[i].1, .int .i64 l[i].2.1, hs[i]] := by
      refine ⟨q.map fun p => p.1.getD 2 (.slice none 0 0), by simp [hl], fun i h1 h2 => ?_⟩
      obtain ⟨y, e, _⟩ := rec_own.1 (h.each i h1)
      rw [List.getElem_map, e]; rfl
    have hq2 : ∀ i (h1 : i < l.length), smallR l[i] ∧ OwnV w 0 (hs[i]'(by omega)) l[i].2.2 ∧ (q[i]'(by omega)).2 = (hs[i]'(by omega)).ownBlock.toList := fun i h1 => by
      obtain ⟨y, e, k1, k2, k3, k4⟩ := rec_own.1 (h.each i h1)
      have e2 := hq i h1 (by omega)
      rw [e] at e2
      obtain rfl : y = hs[i]'(by omega) := by simpa using e2
      exact ⟨⟨k1, k2, k3.1⟩, k3, k4⟩
    have eq : q = (l.zip hs).map recPart := by
      refine List.ext_getElem (by simp [hl, hhl]) fun i h1 h2 => ?_
      rw [List.getElem_map, List.getElem_zip]
      exact Prod.ext (hq i (by omega) (by omega)) (hq2 i (by omega)).2.2
    have hnd := h.nodup
    rw [eq, parts_blocks l hs hhl] at hnd
    obtain ⟨n1, n2, n3⟩ := nodup_parts hnd
    refine ⟨hs, ⟨hhl, fun x hx => ?_, by rw [← parts_cells, ← eq]; exact h.row, fun i hi => (hq2 i hi).2.1, ?_, fun k hk y hy e => ?_⟩, ?_⟩
    · obtain ⟨i, hi, rfl⟩ := List.getElem_of_mem hx
      exact (hq2 i hi).1
    · have := (List.pairwise_flatMap.1 n2).2
      refine this.imp fun {a b} hab => ?_
      cases ha : a.ownBlock with
      | none => exact .inl rfl
      | some k =>
        right
        intro e
        exact hab k (by simp [ha]) k (by simp [← e]) rfl
    · exact n3 k (by simp [hk]) (List.mem_flatMap.2 ⟨y, hy, by simp [e]⟩)
    · unfold blkR; rw [eq, parts_blocks l hs hhl]
  · rintro ⟨hs, h, rfl⟩
    have hhl := h.len
    refine ⟨v, (l.zip hs).map recPart, rfl, by rw [parts_blocks l hs hhl]; rfl, ⟨by simp [hhl], by rw [parts_cells]; exact h.row, fun i hi => ?_, ?_⟩⟩
    · simp only [List.getElem_map, List.getElem_zip]
      have hsm := h.sm _ (List.getElem_mem hi)
      exact rec_own.2 ⟨_, rfl, hsm.1, hsm.2.1, h.ops i hi, rfl⟩
    · rw [parts_blocks l hs hhl]
      refine nodup_mk (by cases v.ownBlock <;> simp) ?_ (fun k hk hk2 => ?_)
      · refine List.pairwise_flatMap.2 ⟨fun a _ => by cases a.ownBlock <;> simp, h.apart.imp fun {a b} hab x hx y hy e => ?_⟩
        have ha : a.ownBlock = some x := by simpa using hx
        have hb : b.ownBlock = some y := by simpa using hy
        rcases hab with h1 | h1
        · rw [ha] at h1; cases h1
        · exact h1 (by rw [ha, hb, e])
      · obtain ⟨y, hy, e⟩ := List.mem_flatMap.1 hk2
        exact h.out k (by simpa using hk) y hy (by simpa using e)
end
/-! ### shards -/
def shardR : Rd Shd := both int (both recsR (both int (both pairsR recsR)))
def shVals (id sure : Int) (la : Option Addr) (ln lc : Nat) (ma : Option Addr) (mn mc : Nat) (ha : Option Addr) (hn hc : Nat) : List Value := [.int .i64 id, .slice la ln lc, .int .i64 sure, .slice ma mn mc, .slice ha hn hc]
structure SeeSh (w : World) (la : Option Addr) (ln lc : Nat) (ma : Option Addr) (mn mc : Nat) (ha : Option Addr) (hn hc : Nat) (s : Shd) : Prop where
  id : (Lit.int .i64 s.1).wf = true
  sure : (Lit.int .i64 s.2.2.1).wf = true
  log : SlR w la ln s.2.1
  map : SlP w ma mn s.2.2.2.1
  held : SlR w ha hn s.2.2.2.2
  lc : ln ≤ lc
  mc : mn ≤ mc
  hc : hn ≤ hc
section
variable {w w' : World} {la ma ha : Option Addr} {ln lc mn mc hn hc : Nat} {s : Shd} {vs : List Value} {F : List Nat}
theorem SeeSh.below (h : SeeSh w la ln lc ma mn mc ha hn hc s) (hb : Below w.heap.size w w') : SeeSh w' la ln lc ma mn mc ha hn hc s :=
  ⟨h.id, h.sure, h.log.below hb, h.map.below hb, h.held.below hb, h.lc, h.mc, h.hc⟩
structure OwnSh (w : World) (la : Option Addr) (ln lc : Nat) (ma : Option Addr) (mn mc : Nat) (ha : Option Addr) (hn hc : Nat) (s : Shd) (F : List Nat) : Prop where
  id : (Lit.int .i64 s.1).wf = true
  sure : (Lit.int .i64 s.2.2.1).wf = true
  log : ∃ hl, OwnR w 0 (.slice la ln lc) s.2.1 hl ∧ ∃ hh, OwnR w 0 (.slice ha hn hc) s.2.2.2.2 hh ∧ F = blkR (.slice la ln lc) hl ++ ((Value.slice ma mn mc).ownBlock.toList ++ blkR (.slice ha hn hc) hh)
  map : OwnPV w ma mn mc s.2.2.2.1
  nodup : F.Nodup
theorem shard_own : shardR.own w vs s F ↔ ∃ la ln lc ma mn mc ha hn hc, vs = shVals s.1 s.2.2.1 la ln lc ma mn mc ha hn hc ∧ OwnSh w la ln lc ma mn mc ha hn hc s F := by
  constructor
  · rintro ⟨u1, t1, F1, G1, rfl, rfl, h1, ⟨u2, t2, F2, G2, rfl, rfl, h2, ⟨u3, t3, F3, G3, rfl, rfl, h3, ⟨u4, t4, F4, G4, rfl, rfl, h4, h5, _⟩, _⟩, _⟩, hnd⟩
    obtain ⟨rfl, k1, rfl⟩ := flat_int.own.1 h1
    obtain ⟨rfl, k3, rfl⟩ := flat_int.own.1 h3
    obtain ⟨la, lc, q2, rfl, _⟩ := own_open h2
    obtain ⟨ma, mc, q4, rfl, _⟩ := own_open h4
    obtain ⟨ha, hc, q5, rfl, _⟩ := own_open h5
    obtain ⟨hl, e2, rfl⟩ := recs_own.1 h2
    obtain ⟨e4, rfl⟩ := pairs_own.1 h4
    obtain ⟨hh, e5, rfl⟩ := recs_own.1 h5
    exact ⟨la, _, lc, ma, _, mc, ha, _, hc, rfl, k1, k3, ⟨hl, e2, hh, e5, rfl⟩, e4, hnd⟩
  · rintro ⟨la, ln, lc, ma, mn, mc, ha, hn, hc, rfl, h⟩
    obtain ⟨hl, e2, hh, e5, rfl⟩ := h.log
    have hnd := h.nodup
    have hnd2 := (nodup_parts hnd).2.1
    exact ⟨[_], [_, _, _, _], [], _, rfl, rfl, flat_int.own.2 ⟨rfl, h.id, rfl⟩, ⟨[_], [_, _, _], _, _, rfl, rfl, recs_own.2 ⟨hl, e2, rfl⟩, ⟨[_], [_, _], [], _, rfl, rfl, flat_int.own.2 ⟨rfl, h.sure, rfl⟩, ⟨[_], [_], _, _, rfl, rfl, pairs_own.2 ⟨h.map, rfl⟩, recs_own.2 ⟨hh, e5, rfl⟩, hnd2⟩, hnd2⟩, hnd⟩, hnd⟩
theorem OwnPV.room {l : List Pr} {a : Option Addr} {n cap : Nat} (h : OwnPV w a n cap l) : n ≤ cap ∧ cap ≤ maxLen := by
  rcases h.shape with ⟨rfl, rfl, rfl, _⟩ | ⟨g, rfl, h⟩
  · exact ⟨Nat.le_refl _, Nat.zero_le _⟩
  · exact OwnP.cases h
theorem OwnSh.see (h : OwnSh w la ln lc ma mn mc ha hn hc s F) : SeeSh w la ln lc ma mn mc ha hn hc s := by
  obtain ⟨hl, e2, hh, e5, rfl⟩ := h.log
  exact ⟨h.id, h.sure, e2.sl, h.map.sl, e5.sl, e2.room.1, (OwnPV.room h.map).1, e5.room.1⟩
theorem OwnSh.lt (h : OwnSh w la ln lc ma mn mc ha hn hc s F) : ∀ k ∈ F, k < w.heap.size :=
  shardR.ownLt (shard_own.2 ⟨_, _, _, _, _, _, _, _, _, rfl, h⟩)
theorem OwnSh.keep (h : OwnSh w la ln lc ma mn mc ha hn hc s F) (hk : ∀ k ∈ F, w'.heap[k]? = w.heap[k]?) : OwnSh w' la ln lc ma mn mc ha hn hc s F := by
  obtain ⟨hl, e2, hh, e5, rfl⟩ := h.log
  refine ⟨h.id, h.sure, ⟨hl, e2.of_blocks (fun k e => hk k (List.mem_append.2 (.inl (mem_blkR.2 e)))), hh, e5.of_blocks (fun k e => hk k (List.mem_append.2 (.inr (List.mem_append.2 (.inr (mem_blkR.2 e)))))), rfl⟩, h.map.of_block (fun k e => hk k (List.mem_append.2 (.inr (List.mem_append.2 (.inl (by simp [e])))))), h.nodup⟩
theorem OwnSh.below (h : OwnSh w la ln lc ma mn mc ha hn hc s F) (hb : Below w.heap.size w w') : OwnSh w' la ln lc ma mn mc ha hn hc s F := h.keep fun k hk => hb.block k (h.lt k hk)
theorem OwnSh.frame {G : List Nat} (h : OwnSh w la ln lc ma mn mc ha hn hc s F) (hf : Frame G w w') (hd : ∀ k ∈ F, k ∉ G) : OwnSh w' la ln lc ma mn mc ha hn hc s F := h.keep fun k hk => hf.block k (h.lt k hk) (hd k hk)
end
end Go.Proofs.YteniflajiklffaaGreatDoor.lay

namespace Go.Proofs.YteniflajiklffaaGreatDoor.recs
open Go Go.RowKit Go.Proofs.YteniflajiklffaaGreatDoor.base Go.Proofs.YteniflajiklffaaGreatDoor.pairs Go.Proofs.YteniflajiklffaaGreatDoor.ords
set_option linter.unusedVariables false
set_option linter.unusedSimpArgs false

def OnePost (N : Prop) (w0 : World) (F0 : List Nat) (X : Nat) (r : Option St) (e : Ending) (w' : World) : Prop :=
  match r with
  | none => e = .returned (.bool false) ∧ lay.Frame (X :: F0) w0 w'
  | some t => e = .returned (.bool true) ∧ ∃ am nm cm ah ch vs hs, Kept N w0 F0 w' X am nm cm ah ch vs t hs

def OverPost (N : Prop) (w0 : World) (F0 : List Nat) (X : Nat) (t : St) (e : Ending) (w' : World) : Prop := e = .returned (.bool false) ∧ ∃ am nm cm ah ch vs hs, Kept N w0 F0 w' X am nm cm ah ch vs t hs
theorem OverPost.none {N : Prop} {w0 w' : World} {F0 : List Nat} {X : Nat} {t : St} {e : Ending} (h : OverPost N w0 F0 X t e w') : OnePost N w0 F0 X none e w' := by
  obtain ⟨h1, _, _, _, _, _, _, _, hK⟩ := h
  exact ⟨h1, hK.fr⟩
set_option maxRecDepth 100000 in
set_option maxHeartbeats 4000000 in
theorem one_bad (N : Prop) (w0 : World) (F0 : List Nat) (w : World) (X : Nat) (am : Option Addr) (nm cm : Nat) (ah : Option Addr) (ch : Nat) (vs : Value) (s : St) (hs : List Value) (kind tx : Int) (a : Option Addr) (len cap : Nat) (ops : List Od)
    (hK : Kept N w0 F0 w X am nm cm ah ch vs s hs) (hSo : SlO w a len ops) (hks : ∀ p ∈ ops, p.2.1.size ≤ 1099511627776) (hok : recOk (kind, tx, ops) = false) :
    Calls Tryz.prog 113 #[.pointer (some ⟨X, 0, none⟩), .agg #[.int .i64 kind, .int .i64 tx, .slice a len cap]] w (OnePost N w0 F0 X none) := by
  obtain ⟨V, hV⟩ : ∃ V, V = w.alloc (.cells #[.int .i64 kind, .int .i64 tx, .slice a len cap] 41) := ⟨_, rfl⟩
  have hbV : Below w.heap.size w V := by rw [hV]; exact (Below.refl _ _).alloc (Nat.le_refl _) _
  have hbx : BoxR w.heap.size kind tx (.slice a len cap) V := by rw [hV]; exact boxR_new _ _ _ _
  have hKV := hK.below hbV
  have hXl := hKV.box.lt
  have hRl := hbx.lt
  have y1 := last.On.cell (B := V.heap.size) hKV.box.cells.2.1 hXl
  have y2 := last.On.cell (B := V.heap.size) hbx.cells.2.1 hRl
  have hAt : ∀ x9 : last.On V.heap.size V, Calls Tryz.prog 116 #[.slice ah s.2.1.length ch, .int .i64 tx] x9.w fun e w' => e = .returned (.int .i64 (atRet (placeTx tx s.2.1))) ∧ ∃ y9 : last.On V.heap.size V, w' = y9.w := fun x9 => last.Calls.on x9 (Nat.le_refl _) ((spec_l8At _ _ ch s.2.1 tx x9.w (hKV.held.below x9.2).sl).mono (fun e w' h => ⟨h.1, h.2 ▸ Below.refl _ _⟩))
  have hinh := last.On.inh V.heap.size V
  have HV := Hid.mk' hV.symm
  clear hV
  go_enter Tryz.func113, Tryz.ntmps113
  go_wp2_with fail
  rw [HV.out]
  refine last.wp_region_on V.heap.size (by kernel_rfl) (by kernel_rfl) ?_
  repeat (go_big_quiet_step ((go_at_call 116; with_reducible exact hAt _)))
  refine wpQuiet_nil ?_
  intro w1 hw1
  obtain ⟨x1, hw1⟩ := hw1
  have hb1 : Below V.heap.size V w1 := by rw [hw1]; exact x1.2
  clear hw1 x1
  have hbx1 := hbx.below hb1
  have hK1 := hKV.below hb1
  have HOK := Hid.mk' (spec_recOk kind tx a len cap ops w1 ((hSo.below hbV).below hb1) hks)
  obtain ⟨d0, d1, d2⟩ := hbx1.cells
  clear y1 y2 hAt hinh
  go_wp2_with fail
  refine HOK.out.mono ?_
  rintro e w2 ⟨rfl, hb2⟩
  rw [hok]
  have hK2 := hK1.below hb2
  go_wp2_with fail
  go_ret
  exact ⟨rfl, hK2.fr⟩
end Go.Proofs.YteniflajiklffaaGreatDoor.recs
