/- The specification's replay: one record more, whatever it is; and all of them. The specification's ReplayRecs. What the exact law of ReplayRecs keeps from step to step: the records that were handed in, the answer's pairs and records and the specification's. A slice of records that came in. -/
import Derived.Test.YteniflajiklffaaShaj
import Derived.Test.YteniflajiklffaaShan
import Derived.Test.YteniflajiklffaaShad
import Derived.Test.YteniflajiklffaaShae
import Derived.Test.YteniflajiklffaaShac
namespace Go.Proofs.Yteniflajiklffaa.recs
open Go Go.RowKit Go.Proofs.Yteniflajiklffaa.base Go.Proofs.Yteniflajiklffaa.pairs Go.Proofs.Yteniflajiklffaa.ords
set_option linter.unusedVariables false
set_option linter.unusedSimpArgs false

theorem spec_one (N : Prop) (w0 : World) (F0 : List Nat) (w : World) (X : Nat) (am : Option Addr) (nm cm : Nat) (ah : Option Addr) (ch : Nat) (vs : Value) (s : St) (hs : List Value) (kind tx : Int) (a : Option Addr) (len cap : Nat) (ops : List Od)
    (hK : Kept N w0 F0 w X am nm cm ah ch vs s hs) (hSo : SlO w a len ops) (hks : ∀ p ∈ ops, p.2.1.size ≤ 1099511627776) (hsr : smallR (kind, tx, ops)) (hlen : len ≤ 1099511627776) (hlh : s.2.1.length ≤ 1099511627776) (hls : s.2.2.length ≤ 1099511627776) (hfew : s.1.length ≤ 60)
    (h8 : ∀ k, k < s.2.1.length → (opsAt s.2.1 k).length ≤ 8) :
    Calls Try.prog 42 #[.pointer (some ⟨X, 0, none⟩), .agg #[.int .i64 kind, .int .i64 tx, .slice a len cap]] w (OnePost N w0 F0 X (one s (kind, tx, ops))) := by
  cases hok : recOk (kind, tx, ops) with
  | false =>
    have e : one s (kind, tx, ops) = none := by unfold one; rw [hok]; rfl
    rw [e]
    exact one_bad N w0 F0 w X am nm cm ah ch vs s hs kind tx a len cap ops hK hSo hks hok
  | true =>
    have hkk : kind = 1 ∨ kind = 2 ∨ kind = 3 := by
      obtain ⟨_, ⟨h1, _⟩ | ⟨h1, _⟩⟩ := (recOk_iff _).1 hok
      · exact .inl h1
      · rcases h1 with h1 | h1
        · exact .inr (.inl h1)
        · exact .inr (.inr h1)
    rcases hkk with rfl | rfl | rfl
    · have e0 : one s (1, tx, ops) = if decide (tx ∈ s.2.2) = true ∨ locked s.2.1 ops = true ∨ meets s.1 ops = false then none else some (s.1, s.2.1 ++ [(1, tx, ops)], s.2.2 ++ [tx]) := by
        unfold one; rw [if_pos hok, if_pos rfl]
      rw [e0]
      cases h1 : decide (tx ∈ s.2.2) with
      | true => rw [if_pos (.inl rfl)]; exact one_has N w0 F0 w X am nm cm ah ch vs s hs tx a len cap ops hK hSo hks hok h1
      | false =>
        cases h2 : locked s.2.1 ops with
        | true => rw [if_pos (.inr (.inl rfl))]; exact one_locked N w0 F0 w X am nm cm ah ch vs s hs tx a len cap ops hK hSo hks hok h1 h2
        | false =>
          cases h3 : meets s.1 ops with
          | false => rw [if_pos (.inr (.inr rfl))]; exact one_unmet N w0 F0 w X am nm cm ah ch vs s hs tx a len cap ops hK hSo hks hok h1 h2 h3
          | true => rw [if_neg (by simp)]; exact one_hold N w0 F0 w X am nm cm ah ch vs s hs tx a len cap ops hK hSo hks hok hsr hlen hlh hls h1 h2 h3
    · cases hpl : placeTx tx s.2.1 with
      | none =>
        have e0 : one s (2, tx, ops) = none := by
          unfold one; rw [if_pos hok, if_neg (by simp)]; simp only [hpl]; rw [if_neg (by simp)]
        rw [e0]
        exact one_lost N w0 F0 w X am nm cm ah ch vs s hs tx a len cap ops hK hSo hks hok hls hpl
      | some k =>
        have e0 : one s (2, tx, ops) = if (applyAll s.1 (opsAt s.2.1 k)).length ≤ 60 then some (applyAll s.1 (opsAt s.2.1 k), s.2.1.take k ++ s.2.1.drop (k + 1), s.2.2) else none := by
          unfold one; rw [if_pos hok, if_neg (by simp)]; simp only [hpl]; unfold nextM; simp only [if_true]
        rw [e0]
        have hk8 := h8 k (placeTx_lt hpl)
        by_cases h60 : (applyAll s.1 (opsAt s.2.1 k)).length ≤ 60
        · rw [if_pos h60]; exact one_done N w0 F0 w X am nm cm ah ch vs s hs tx a len cap ops hK hSo hks hok k hlh hpl hfew hk8 h60
        · rw [if_neg h60]; exact (one_over N w0 F0 w X am nm cm ah ch vs s hs tx a len cap ops hK hSo hks hok k hlh hpl hfew hk8 (by omega)).mono fun e w' hp => hp.none
    · cases hpl : placeTx tx s.2.1 with
      | none =>
        by_cases h1 : tx ∈ s.2.2
        · have e0 : one s (3, tx, ops) = none := by
            unfold one; rw [if_pos hok, if_neg (by simp)]; simp only [hpl]; rw [if_neg (by simp [h1])]
          rw [e0]
          exact one_gone_seen N w0 F0 w X am nm cm ah ch vs s hs tx a len cap ops hK hSo hks hok hls hpl (decide_eq_true h1)
        · have e0 : one s (3, tx, ops) = some (s.1, s.2.1, s.2.2 ++ [tx]) := by
            unfold one; rw [if_pos hok, if_neg (by simp)]; simp only [hpl]; rw [if_pos (by simp [h1])]
          rw [e0]
          exact one_gone N w0 F0 w X am nm cm ah ch vs s hs tx a len cap ops hK hSo hks hok hls hpl (decide_eq_false h1)
      | some k =>
        have e0 : one s (3, tx, ops) = some (s.1, s.2.1.take k ++ s.2.1.drop (k + 1), s.2.2) := by
          unfold one; rw [if_pos hok, if_neg (by simp)]; simp only [hpl]; unfold nextM; rw [if_neg (by decide : ¬ (3 : Int) = 2), if_pos hfew]
        rw [e0]
        exact one_end N w0 F0 w X am nm cm ah ch vs s hs tx a len cap ops hK hSo hks hok k hlh hpl hfew
structure Tame (k : Nat) (s : St) : Prop where
  few : s.1.length ≤ 60
  held : s.2.1.length ≤ k
  seen : s.2.2.length ≤ k
  ok : ∀ r ∈ s.2.1, recOk r = true
theorem tame_start : Tame 0 ([], [], []) := ⟨Nat.zero_le _, Nat.le_refl _, Nat.le_refl _, fun _ h => absurd h List.not_mem_nil⟩
theorem Tame.eight {k : Nat} {s : St} (h : Tame k s) : ∀ j, j < s.2.1.length → (opsAt s.2.1 j).length ≤ 8 := by
  intro j hj
  rw [opsAt_eq hj]
  rcases ((recOk_iff _).1 (h.ok _ (List.getElem_mem hj))).2 with ⟨_, h2⟩ | ⟨_, h2⟩
  · exact ((opsOk_iff _).1 h2).2.2
  · rw [h2]; simp
theorem Tame.step {k : Nat} {s t : St} {r : Rc} (h : Tame k s) (ho : one s r = some t) : Tame (k + 1) t := by
  unfold one at ho
  split at ho
  · next hok =>
    split at ho
    · split at ho
      · cases ho
      · cases ho
        refine ⟨h.few, by have := h.held; simp; omega, by have := h.seen; simp; omega, fun x hx => ?_⟩
        rcases List.mem_append.1 hx with h1 | h1
        · exact h.ok x h1
        · rw [List.mem_singleton.1 h1]; exact hok
    · split at ho
      · split at ho
        · cases ho
          exact ⟨h.few, by have := h.held; simp; omega, by have := h.seen; simp; omega, h.ok⟩
        · cases ho
      · split at ho
        · next h60 =>
          cases ho
          refine ⟨h60, by have := h.held; simp; omega, by have := h.seen; simp; omega, fun x hx => ?_⟩
          rcases List.mem_append.1 hx with h1 | h1
          · exact h.ok x (List.mem_of_mem_take h1)
          · exact h.ok x (List.mem_of_mem_drop h1)
        · cases ho
  · cases ho
end Go.Proofs.Yteniflajiklffaa.recs

namespace Go.Proofs.Yteniflajiklffaa.recs
open Go Go.RowKit Go.Proofs.Yteniflajiklffaa.base Go.Proofs.Yteniflajiklffaa.pairs Go.Proofs.Yteniflajiklffaa.ords
set_option linter.unusedVariables false
set_option linter.unusedSimpArgs false

theorem row_lift {w : World} {B : Nat} {e : TypeId} {size n : Nat} {v : Value} {xs : List Value} (h : w.ownsRow 0 e size v n xs) (hB : ∀ k, v.ownBlock = some k → B ≤ k) : w.ownsRow B e size v n xs := by
  refine ⟨h.1, ?_⟩
  rcases h.2 with h' | ⟨g, cap, cur, rfl, h0, r⟩
  · exact .inl h'
  · exact .inr ⟨g, cap, cur, rfl, hB g rfl, r⟩
theorem OwnR.lift {w : World} {B : Nat} {v : Value} {l : List Rc} {hs : List Value} (h : OwnR w 0 v l hs) (hB : ∀ k, BlkR v hs k → B ≤ k) : OwnR w B v l hs :=
  ⟨h.len, h.sm, row_lift h.row (fun k e => hB k (.inl e)), fun i hi => ⟨(h.ops i hi).1, row_lift (h.ops i hi).2 (fun k e => hB k (.inr ⟨_, List.getElem_mem _, e⟩))⟩, h.apart, h.out⟩
theorem OwnPV.lift {w : World} {B : Nat} {a : Option Addr} {n cap : Nat} {l : List Pr} (h : OwnPV w a n cap l) (hn : a ≠ none) (hB : ∀ k, (Value.slice a n cap).ownBlock = some k → B ≤ k) : ∃ g, a = some ⟨g, 0, none⟩ ∧ OwnP w B g n cap l := by
  rcases h.shape with ⟨e, _⟩ | ⟨g, rfl, h⟩
  · exact absurd e hn
  · exact ⟨g, rfl, h.1, h.2.1, row_lift h.2.2 hB⟩
theorem kept_start (w : World) : Kept True w [] (((w.alloc (.cells #[] 102)).alloc (.cells #[] 91)).alloc (.cells #[.slice (some ⟨w.heap.size, 0, none⟩) 0 0, .slice (some ⟨w.heap.size + 1, 0, none⟩) 0 0, .slice none 0 0] 88))
    (w.heap.size + 1 + 1) (some ⟨w.heap.size, 0, none⟩) 0 0 (some ⟨w.heap.size + 1, 0, none⟩) 0 (.slice none 0 0) ([], [], []) [] := by
  obtain ⟨wa, hwa⟩ : ∃ wa, wa = w.alloc (.cells #[] 102) := ⟨_, rfl⟩
  have ba : Below w.heap.size w wa := by rw [hwa]; exact (Below.refl _ _).alloc (Nat.le_refl _) _
  have oa : OwnP wa w.heap.size w.heap.size 0 0 [] := by rw [hwa]; exact ownP_made w _ (Nat.le_refl _)
  have sa : wa.heap.size = w.heap.size + 1 := by rw [hwa]; simp
  rw [← hwa]
  clear hwa
  obtain ⟨wb, hwb⟩ : ∃ wb, wb = wa.alloc (.cells #[] 91) := ⟨_, rfl⟩
  have bb : Below wa.heap.size wa wb := by rw [hwb]; exact (Below.refl _ _).alloc (Nat.le_refl _) _
  have ob : OwnR wb w.heap.size (.slice (some ⟨w.heap.size + 1, 0, none⟩) 0 0) [] [] := by
    have := ownR_made wa w.heap.size ba.size
    rw [sa] at this
    rw [hwb]; exact this
  have sb : wb.heap.size = w.heap.size + 1 + 1 := by rw [hwb]; simp [sa]
  rw [← hwb]
  clear hwb
  have bd := (Below.refl _ wb).alloc (Nat.le_refl _) (.cells #[.slice (some ⟨w.heap.size, 0, none⟩) 0 0, .slice (some ⟨w.heap.size + 1, 0, none⟩) 0 0, .slice none 0 0] 88)
  have xd := heap_alloc_new wb (.cells #[.slice (some ⟨w.heap.size, 0, none⟩) 0 0, .slice (some ⟨w.heap.size + 1, 0, none⟩) 0 0, .slice none 0 0] 88)
  rw [sb] at xd
  have B1 := ba.trans (bb.mono ba.size)
  refine ⟨xd, ownPV_of ((oa.below bb).below bd), (ob.below bd).mono (Nat.zero_le _), ownQ_nil _ _, lay.Frame.of_below (B1.trans (bd.mono B1.size)), fun k e => .inr ?_, fun k e => .inr ?_, fun k e => by simp [Value.ownBlock] at e, (fun _ e => by cases e), (fun _ e => by cases e)⟩
  · have : w.heap.size = k := by simpa [Value.ownBlock] using e
    omega
  · exact (ob.lt k e).1
theorem keptBlk {N : Prop} {w0 w : World} {F0 : List Nat} {X gm nm cm ch : Nat} {ah : Option Addr} {vs : Value} {s : St} {hs : List Value} (h : Kept N w0 F0 w X (some ⟨gm, 0, none⟩) nm cm ah ch vs s hs) : ¬ BlkR (.slice ah s.2.1.length ch) hs gm := by
  intro hk
  exact h.heldRow h.m.2.2 (by decide) (by decide) gm hk rfl

set_option maxRecDepth 100000 in
set_option maxHeartbeats 2000000 in
theorem spec_replay (a : Option Addr) (len cap : Nat) (l : List Rc) (w : World) (h : SlR w a len l) (hsz : len ≤ 1099511627776 / 16) (hops : ∀ r ∈ l, r.2.2.length ≤ 1099511627776 ∧ ∀ p ∈ r.2.2, p.2.1.size ≤ 1099511627776) :
    Calls Try.prog 15 #[.slice a len cap] w fun e w' => RepPost w (replay l) e w' := by
  obtain ⟨hl, hm, hsm, hc⟩ := id h
  subst hl
  unfold maxLen at hm
  generalize hR : replay l = R
  have HR0 : Hid (R = replayGo ([], [], []) (l.drop 0)) := by show _ = _; rw [← hR]; rfl
  clear hR
  go_enter Try.func15, Try.ntmps15
  go_wp2_with (at_builtin; fail)
  go_loopw [6] (fun i wr => ∃ (k nm cm ch : Nat) (am ah : Option Addr) (vs : Value) (hs : List Value) (s : St), k ≤ l.length ∧ i = .int .i64 (k : Int) ∧ Kept True w [] wr (w.heap.size + 1 + 1) am nm cm ah ch vs s hs ∧ Tame k s ∧ Hid (R = replayGo s (l.drop k))) (fun i _ => l.length - (intOf i).toNat)
  case atStart => exact ⟨0, 0, 0, 0, _, _, _, [], ([], [], []), Nat.zero_le _, rfl, kept_start w, tame_start, HR0⟩
  case round =>
    clear HR0
    obtain ⟨k, nm, cm, ch, am, ah, vs, hs, s, hk, rfl, hK, hT, HR⟩ := hrel
    have hbel : Below w.heap.size w wr := hK.fr.bel (Nat.le_refl _) (fun j hj => by simp at hj; omega)
    by_cases hlt : k < l.length
    · obtain ⟨b, off, ha, _⟩ := hc (by omega)
      subst ha
      have hat := h.at k hlt
      obtain ⟨c0', c1', pa, pl, pc, c2', hSo, _⟩ := hat
      have hbw := World.block_lt_of_cell? w _ c0'
      have c0 := (hbel.cell (p := ⟨b, off + k * 3, none⟩) hbw).trans c0'
      have c1 := (hbel.cell (p := ⟨b, off + k * 3 + 1, none⟩) hbw).trans c1'
      have c2 := (hbel.cell (p := ⟨b, off + k * 3 + 2, none⟩) hbw).trans c2'
      have hki : (k : Int) < (l.length : Int) := by omega
      obtain ⟨hol, hks⟩ := hops _ (List.getElem_mem hlt)
      have hsr := hsm _ (List.getElem_mem hlt)
      have HD : Hid (R = match one s l[k] with | none => none | some t => replayGo t (l.drop (k + 1))) := by
        show _ = _
        rw [HR.out, List.drop_eq_getElem_cons hlt]; rfl
      generalize l[k] = r at *
      clear c0' c1' c2' hbw HR
      have hth := hT.held
      have hts := hT.seen
      have hpe := hSo.1
      have HF := Hid.mk' (spec_one True w [] wr (w.heap.size + 1 + 1) am nm cm ah ch vs s hs r.1 r.2.1 pa pl pc r.2.2 hK (hSo.below hbel) hks hsr (by omega) (by omega) (by omega) hT.few hT.eight)
      have HST : Hid (∀ t, one s r = some t → Tame (k + 1) t) := fun t ho => hT.step ho
      cases ho : one s r with
      | none =>
        have HRN : Hid (R = none) := by show _ = _; rw [HD.out, ho]
        rw [show ((r.1, r.2.1, r.2.2) : Rc) = r from rfl, ho] at HF
        clear HD ho HST
        go_wp2_with (at_builtin; fail)
        refine HF.out.mono ?_
        rintro e w2 ⟨rfl, hB2'⟩
        have hB2 : Below w.heap.size w w2 := hB2'.bel (Nat.le_refl _) (fun j hj => by simp at hj; omega)
        clear hB2'
        have HP := Hid.mk' (repPost_none HRN.out hB2)
        clear HF c0 c1 c2
        go_wp2_with (at_builtin; fail)
        go_ret3
        exact HP.out
      | some t =>
        have HRN : Hid (R = replayGo t (l.drop (k + 1))) := by show _ = _; rw [HD.out, ho]
        have hT' := HST.out t ho
        rw [show ((r.1, r.2.1, r.2.2) : Rc) = r from rfl, ho] at HF
        clear HD ho HST
        go_wp2_with (at_builtin; fail)
        refine HF.out.mono ?_
        rintro e w2 ⟨rfl, am2, nm2, cm2, ah2, ch2, vs2, hs2, hK2⟩
        clear HF c0 c1 c2
        go_wp2_with (at_builtin; fail)
        go_roundw
        case rel => exact ⟨k + 1, nm2, cm2, ch2, am2, ah2, vs2, hs2, t, by omega, by go_num, hK2, hT', HRN⟩
        case measure => simp [intOf]; omega
    · have HRN : Hid (R = some s) := by
        show _ = _
        rw [HR.out, List.drop_eq_nil_of_le (by omega)]; rfl
      have hXl := hK.box.lt
      obtain ⟨gm, rfl, hOP0⟩ := hK.m.lift (B := w.heap.size) (hK.nnM trivial) (fun k e => (hK.newM k e).resolve_left List.not_mem_nil)
      obtain ⟨gh, rfl⟩ : ∃ gh, ah = some ⟨gh, 0, none⟩ := by
        rcases hK.held.shape with ⟨e, _⟩ | ⟨g, c, e, _⟩
        · injection e with e1 _ _; exact absurd e1 (hK.nnH trivial)
        · cases e; exact ⟨g, rfl⟩
      clear hOP0
      have o0 := last.On.cell (B := wr.heap.size) hK.box.cells.1 hXl
      have o1 := last.On.cell (B := wr.heap.size) hK.box.cells.2.1 hXl
      have hinh := last.On.inh wr.heap.size wr
      go_wp2_with (at_builtin; fail)
      refine last.wp_region_on wr.heap.size (by kernel_rfl) (by kernel_rfl) ?_
      repeat (go_big_quiet_step (fail))
      refine wpQuiet_nil ?_
      intro w5 hw5
      obtain ⟨x5, hw5⟩ := hw5
      have hb5 : Below wr.heap.size wr w5 := by rw [hw5]; exact x5.2
      have hK5 := hK.below hb5
      have HP : Hid (RepPost w R (.returned (.tuple #[.slice (some ⟨gm, 0, none⟩) nm cm, .slice (some ⟨gh, 0, none⟩) s.2.1.length ch, .bool true])) w5) := by
        rw [HRN.out]
        obtain ⟨gm', e9, hOP⟩ := hK5.m.lift (B := w.heap.size) (hK5.nnM trivial) (fun k e => (hK5.newM k e).resolve_left List.not_mem_nil)
        cases e9
        exact ⟨gm, nm, cm, gh, ch, hs, rfl, hOP, hK5.held.lift (fun k e => (hK5.newH k e).resolve_left List.not_mem_nil), keptBlk hK5, hK5.fr.bel (Nat.le_refl _) (fun j hj => by simp at hj; omega)⟩
      clear hw5 x5 hinh o0 o1
      go_wp2_with (at_builtin; fail)
      go_ret3
      exact HP.out
end Go.Proofs.Yteniflajiklffaa.recs

namespace Go.Proofs.Yteniflajiklffaa.recs
open Go Go.RowKit Go.Proofs.Yteniflajiklffaa.base Go.Proofs.Yteniflajiklffaa.pairs Go.Proofs.Yteniflajiklffaa.ords
set_option linter.unusedVariables false

theorem replayGo_tame : ∀ (l : List Rc) (k : Nat) (s t : St), Tame k s → replayGo s l = some t → Tame (k + l.length) t
  | [], k, s, t, h, e => by cases e; exact h
  | r :: l, k, s, t, h, e => by
    rw [replayGo] at e
    split at e
    · cases e
    · next u hu =>
      have := replayGo_tame l (k + 1) u t (h.step hu) e
      rw [List.length_cons, Nat.add_comm l.length 1, ← Nat.add_assoc]
      exact this
theorem cntR_le8 (l : List Rc) (h : ∀ r ∈ l, recOk r = true) : cntR l ≤ 26 * l.length := by
  induction l with
  | nil => simp [cntR]
  | cons x l ih =>
    rw [cntR_cons, List.length_cons]
    have h1 := ih fun r hr => h r (List.mem_cons_of_mem _ hr)
    have h2 : x.2.2.length ≤ 8 := by
      rcases ((recOk_iff x).1 (h x List.mem_cons_self)).2 with ⟨_, h2⟩ | ⟨_, h2⟩
      · exact ((opsOk_iff _).1 h2).2.2
      · rw [h2]; simp
    omega
theorem replay_sizes (l : List Rc) : (resM (replay l)).length ≤ 60 ∧ (resH (replay l)).length ≤ l.length ∧ cntR (resH (replay l)) ≤ 26 * l.length := by
  cases hr : replay l with
  | none => simp [resM, resH, cntR]
  | some s =>
    have h := replayGo_tame l 0 _ s tame_start hr
    have h2 := cntR_le8 s.2.1 h.ok
    have h3 := h.held
    simp only [resM, resH]
    exact ⟨h.few, by omega, by omega⟩
theorem repPost_open {w w' : World} {r : Option St} {e : Ending} {P : List Pr} {L : List Rc} {bb : Bool} {n m : Nat} (hP : resM r = P) (hL : resH r = L) (hb : r.isSome = bb) (hn : P.length = n) (hm : L.length = m) (h : RepPost w r e w') :
    ∃ g cp g2 c2 hs, e = .returned (.tuple #[.slice (some ⟨g, 0, none⟩) n cp, .slice (some ⟨g2, 0, none⟩) m c2, .bool bb]) ∧ OwnP w' w.heap.size g n cp P ∧ OwnR w' w.heap.size (.slice (some ⟨g2, 0, none⟩) m c2) L hs ∧ ¬ BlkR (.slice (some ⟨g2, 0, none⟩) m c2) hs g ∧ Below w.heap.size w w' := by
  obtain ⟨g, np, cp, g2, c2, hs, rfl, h1, h2, h3, h4⟩ := h
  subst hP hL hb hm
  have e1 : np = n := by have := h1.1; omega
  subst e1
  exact ⟨g, cp, g2, c2, hs, rfl, h1, h2, h3, h4⟩
theorem OwnR.plain {w : World} {base g n cap : Nat} {l : List Rc} {hs : List Value} (h : OwnR w base (.slice (some ⟨g, 0, none⟩) n cap) l hs) : PlainR w (some ⟨g, 0, none⟩) n := by
  intro b off e i hi pa pl pc hc
  obtain rfl := h.nlen
  simp only [Option.some.injEq, Addr.mk.injEq, and_true] at e
  obtain ⟨rfl, rfl⟩ := e
  have h1 := (h.at i hi).2.2
  rw [Nat.zero_add] at hc
  rw [hc] at h1
  have h2 := (h.ops i hi).shape
  rw [← Option.some.inj h1] at h2
  rcases h2 with ⟨h2, _⟩ | ⟨g2, c2, h2, _⟩
  · cases h2; exact .inl rfl
  · cases h2; exact .inr ⟨_, _, rfl⟩
structure HexR (w0 w : World) (B1 B2 gw n cw : Nat) (vs vx : Value) (gg cg : Nat) (vg : Value) (hss hsx hsg : List Value) (P : List Pr) (R X : List Rc) (G : List Pr) (H : List Rc) : Prop where
  bel : Below w0.heap.size w0 w
  wp : OwnP w w0.heap.size gw n cw P
  wr : OwnR w w0.heap.size vs R hss
  x : OwnR w w0.heap.size vx X hsx
  gp : OwnP w w0.heap.size gg n cg G
  gr : OwnR w w0.heap.size vg H hsg
  h1 : gw < B1
  h2 : ∀ k, BlkR vs hss k → k < B1
  h3 : ∀ k, BlkR vx hsx k → B1 ≤ k ∧ k < B2
  h4 : B2 ≤ gg
  h5 : ∀ k, BlkR vg hsg k → B2 ≤ k
  h6 : ¬ BlkR vg hsg gg
  h7 : B1 ≤ B2
section
variable {w0 w w' : World} {B1 B2 gw n cw gg cg : Nat} {vs vx vg : Value} {hss hsx hsg : List Value} {P G : List Pr} {R X H : List Rc}
theorem HexR.below (h : HexR w0 w B1 B2 gw n cw vs vx gg cg vg hss hsx hsg P R X G H) (hb : Below w.heap.size w w') : HexR w0 w' B1 B2 gw n cw vs vx gg cg vg hss hsx hsg P R X G H :=
  ⟨h.bel.trans (hb.mono h.bel.size), h.wp.below hb, h.wr.below hb, h.x.below hb, h.gp.below hb, h.gr.below hb, h.h1, h.h2, h.h3, h.h4, h.h5, h.h6, h.h7⟩
theorem ownP_of_block {base g n c : Nat} {l : List Pr} (h : OwnP w base g n c l) (hk : w'.heap[g]? = w.heap[g]?) : OwnP w' base g n c l :=
  ⟨h.1, h.2.1, rowR_of_block h.2.2 (fun k e => by cases e; exact hk)⟩
theorem HexR.markX (h : HexR w0 w B1 B2 gw n cw vs vx gg cg vg hss hsx hsg P R X G H) {X' : List Rc} (ho : OwnR w' w0.heap.size vx X' hsx) (hk : KeepR vx hsx w w') : HexR w0 w' B1 B2 gw n cw vs vx gg cg vg hss hsx hsg P R X' G H := by
  have h1 := h.h1
  have h4 := h.h4
  have h7 := h.h7
  refine ⟨h.bel.trans (hk.bel h.bel.size (fun k e => (h.x.lt k e).1)), ownP_of_block h.wp (hk.block _ h.wp.lt.2 (fun e => by have := h.h3 _ e; omega)), h.wr.of_blocks (fun k e => hk.block k (h.wr.lt k e).2 (fun e2 => by have := h.h3 _ e2; have := h.h2 _ e; omega)), ho, ownP_of_block h.gp (hk.block _ h.gp.lt.2 (fun e => by have := h.h3 _ e; omega)), h.gr.of_blocks (fun k e => hk.block k (h.gr.lt k e).2 (fun e2 => by have := h.h3 _ e2; have := h.h5 _ e; omega)), h.h1, h.h2, h.h3, h.h4, h.h5, h.h6, h.h7⟩
theorem HexR.markP (h : HexR w0 w B1 B2 gw n cw vs vx gg cg vg hss hsx hsg P R X G H) {G' : List Pr} (ho : OwnP w' w0.heap.size gg n cg G') (hg : w.grownBy w' (some gg)) : HexR w0 w' B1 B2 gw n cw vs vx gg cg vg hss hsx hsg P R X G' H := by
  have h1 := h.h1
  have h4 := h.h4
  have h7 := h.h7
  refine ⟨h.bel.grown hg h.bel.size (fun k e => by cases e; exact h.gp.lt.1), h.wp.grown hg (fun e => by cases e; omega), h.wr.grown hg (fun e => by have := h.h2 _ e; omega), h.x.grown hg (fun e => by have := h.h3 _ e; omega), ho, h.gr.grown hg h.h6, h.h1, h.h2, h.h3, h.h4, h.h5, h.h6, h.h7⟩
theorem HexR.markG (h : HexR w0 w B1 B2 gw n cw vs vx gg cg vg hss hsx hsg P R X G H) {H' : List Rc} (ho : OwnR w' w0.heap.size vg H' hsg) (hk : KeepR vg hsg w w') : HexR w0 w' B1 B2 gw n cw vs vx gg cg vg hss hsx hsg P R X G H' := by
  have h1 := h.h1
  have h4 := h.h4
  have h7 := h.h7
  refine ⟨h.bel.trans (hk.bel h.bel.size (fun k e => (h.gr.lt k e).1)), ownP_of_block h.wp (hk.block _ h.wp.lt.2 (fun e => by have := h.h5 _ e; omega)), h.wr.of_blocks (fun k e => hk.block k (h.wr.lt k e).2 (fun e2 => by have := h.h5 _ e2; have := h.h2 _ e; omega)), h.x.of_blocks (fun k e => hk.block k (h.x.lt k e).2 (fun e2 => by have := h.h5 _ e2; have := h.h3 _ e; omega)), ownP_of_block h.gp (hk.block _ h.gp.lt.2 h.h6), ho, h.h1, h.h2, h.h3, h.h4, h.h5, h.h6, h.h7⟩
end
end Go.Proofs.Yteniflajiklffaa.recs

namespace Go.Proofs.Yteniflajiklffaa.recs
open Go Go.RowKit Go.Proofs.Yteniflajiklffaa.base Go.Proofs.Yteniflajiklffaa.pairs Go.Proofs.Yteniflajiklffaa.ords
set_option linter.unusedVariables false
set_option linter.unusedSimpArgs false

theorem slr_open {W : World} {ad : Addr} {len cap : Nat} (hl : len ≤ cap) (hm : cap ≤ maxLen) (q : Nat → Rc) (hs : ∀ i, i < len → smallR (q i)) (hc : ∀ i, i < len → W.cell? (ad.add (i * 3)) = some (.int .i64 (q i).1) ∧ W.cell? (ad.add (i * 3 + 1)) = some (.int .i64 (q i).2.1) ∧ ∃ pa pl pc, W.cell? (ad.add (i * 3 + 2)) = some (.slice pa pl pc) ∧ SlO W pa pl (q i).2.2 ∧ pl ≤ pc) : ∃ l, SlR W (some ad) len l := by
  obtain ⟨b, off, spot⟩ := ad
  refine ⟨(List.range len).map q, by simp, by omega, ?_, fun h0 => ?_⟩
  · intro x hx
    obtain ⟨i, hi, rfl⟩ := List.mem_map.1 hx
    exact hs i (List.mem_range.1 hi)
  · have hspot : spot = none := by simpa [Addr.add] using World.cell?_spot (hc 0 h0).1
    subst hspot
    refine ⟨b, off, rfl, fun i hi => ?_⟩
    have hi' : i < len := by simpa using hi
    have h1 := hc i hi'
    rw [Addr.add_lit, Addr.add_lit, Addr.add_lit] at h1
    simp only [List.getElem_map, List.getElem_range]
    rw [← Nat.add_assoc, ← Nat.add_assoc] at h1
    exact h1
set_option maxRecDepth 100000 in
theorem slr_arg {H : Type} {enc : TypeId × Value → H} {W : World} {a : Option Addr} {len cap fuel : Nat} {x : DataW H × List MemPlace} (t e : TypeId) (f0 f1 f2 : Field) (ht : Try.prog.underlying t = some (.slice e)) (he : Try.prog.underlying e = some (.struct #[f0, f1, f2]))
    (ce : Try.prog.cellsOf e = 3) (o0 : f0.offset = 0) (o1 : f1.offset = 1) (o2 : f2.offset = 2) (t0 : f0.type = 3) (t1 : f1.type = 3) (t2 : f2.type = 83) (c3 : Try.prog.cellsOf 3 = 1) (cs1 : Try.prog.cellsOf 83 = 1)
    (g0 g1 g2 : Field) (hI : Try.prog.underlying 166 = some (.struct #[g0, g1, g2])) (cI : Try.prog.cellsOf 166 = 3) (i0 : g0.offset = 0) (i1 : g1.offset = 1) (i2 : g2.offset = 2) (u0 : g0.type = 3) (u1 : g1.type = 9) (u2 : g2.type = 9) (c9 : Try.prog.cellsOf 9 = 1)
    (h : DataW.trod enc Try.prog W 0 (fun _ => true) true fuel t (Value.cells (.slice a len cap)).toList = some x) : ∃ l, SlR W a len l := by
  rcases Deep.open_slice ht h with ⟨hcs, _⟩ | ⟨ad, len', cap', m, n, D, Pl, hcs, hb, hl, hm, hmm, _, hx⟩
  · simp [Value.cells] at hcs
    obtain ⟨rfl, rfl, rfl⟩ := hcs
    exact ⟨[], slr_nil _ _⟩
  · simp [Value.cells] at hcs
    obtain ⟨rfl, rfl, rfl⟩ := hcs
    simp at hmm
    have each : ∀ i, i < len → ∃ y : Rc, smallR y ∧ W.cell? (ad.add (i * 3)) = some (.int .i64 y.1) ∧ W.cell? (ad.add (i * 3 + 1)) = some (.int .i64 y.2.1) ∧ ∃ pa pl pc, W.cell? (ad.add (i * 3 + 2)) = some (.slice pa pl pc) ∧ SlO W pa pl y.2.2 ∧ pl ≤ pc := by
      intro i hi
      obtain ⟨cs', h1, h2⟩ := hx i (by omega)
      rw [ce] at h1
      obtain ⟨_, hlen, hcell⟩ := World.cells?_some h1
      obtain ⟨xs, k, hk, _, _, hxl, hf⟩ := DataW.trod_struct he h2
      match xs, hxl, cs', hlen with
      | [y0, y1, y2], _, [v0, v1, v2], _ =>
        have k0 := hf 0 f0 rfl
        have k1 := hf 1 f1 rfl
        have k2 := hf 2 f2 rfl
        rw [t0] at k0
        rw [t1] at k1
        rw [t2] at k2
        simp [o0, o1, o2, c3, cs1] at k0 k1 k2
        obtain ⟨n0, e0, _, w0⟩ := DataW.trod_int Try.underlying3 k0
        obtain ⟨n1, e1, _, w1⟩ := DataW.trod_int Try.underlying3 k1
        simp at e0 e1
        subst e0 e1
        obtain ⟨pa, pl, pc, ops, rfl, hS, hpc⟩ := slo_arg2 g0 g1 g2 hI cI i0 i1 i2 u0 u1 u2 c3 c9 k2
        have d0 := hcell 0 (by omega)
        have d1 := hcell 1 (by omega)
        have d2 := hcell 2 (by omega)
        rw [Deep.add_add] at d0 d1 d2
        exact ⟨(n0, n1, ops), ⟨w0, w1, hS.2.2.1⟩, by simpa using d0, by simpa using d1, pa, pl, pc, by simpa using d2, hS, hpc⟩
    obtain ⟨q, hq⟩ := Deep.choose_lt each
    exact slr_open hl hm q (fun i hi => (hq i hi).1) (fun i hi => (hq i hi).2)
end Go.Proofs.Yteniflajiklffaa.recs
