/- The specification's replay: one record more, whatever it is; and all of them. The specification's ReplayRecs. The laws' own helpers on pairs: what each call does. The laws' marks on pairs, and pairs that are the same. -/
import Derived.Test.YtggdgceglmbaiaaGreatDoorBund9an
import Derived.Test.YtggdgceglmbaiaaGreatDoorBund9aq
import Derived.Test.YtggdgceglmbaiaaGreatDoorBund9ag
import Derived.Test.YtggdgceglmbaiaaGreatDoorBund9ac
namespace Go.Proofs.YtggdgceglmbaiaaGreatDoor.recs
open Go Go.RowKit Go.Proofs.YtggdgceglmbaiaaGreatDoor.base Go.Proofs.YtggdgceglmbaiaaGreatDoor.pairs Go.Proofs.YtggdgceglmbaiaaGreatDoor.ords
set_option linter.unusedVariables false
set_option linter.unusedSimpArgs false

theorem spec_one (N : Prop) (w0 : World) (F0 : List Nat) (w : World) (X : Nat) (am : Option Addr) (nm cm : Nat) (ah : Option Addr) (ch : Nat) (vs : Value) (s : St) (hs : List Value) (kind tx : Int) (a : Option Addr) (len cap : Nat) (ops : List Od)
    (hK : Kept N w0 F0 w X am nm cm ah ch vs s hs) (hSo : SlO w a len ops) (hks : ∀ p ∈ ops, p.2.1.size ≤ 1099511627776) (hsr : smallR (kind, tx, ops)) (hlen : len ≤ 1099511627776) (hlh : s.2.1.length ≤ 1099511627776) (hls : s.2.2.length ≤ 1099511627776) (hfew : s.1.length ≤ 60)
    (h8 : ∀ k, k < s.2.1.length → (opsAt s.2.1 k).length ≤ 8) :
    Calls Tryz.prog 67 #[.pointer (some ⟨X, 0, none⟩), .agg #[.int .i64 kind, .int .i64 tx, .slice a len cap]] w (OnePost N w0 F0 X (one s (kind, tx, ops))) := by
  cases hok : recOk (kind, tx, ops) with
  | false =>
    have e : one s (kind, tx, ops) = none := by unfold one; rw [hok]; rfl
    rw [e]
    exact one_bad N w0 F0 w X am nm cm ah ch vs s hs kind tx a len cap ops hK hSo hks hok
  | true =>
    have hkk : kind = 1 ∨ kind = 2 ∨ kind = 3 := by
      obtain ⟨_, ⟨h1, _⟩ | ⟨h1, _⟩⟩ := (recOk_iff _).1 hok
      · exact .inl h1
      · rcases h1 with h1 | h1
        · exact .inr (.inl h1)
        · exact .inr (.inr h1)
    rcases hkk with rfl | rfl | rfl
    · have e0 : one s (1, tx, ops) = if decide (tx ∈ s.2.2) = true ∨ locked s.2.1 ops = true ∨ meets s.1 ops = false then none else some (s.1, s.2.1 ++ [(1, tx, ops)], s.2.2 ++ [tx]) := by
        unfold one; rw [if_pos hok, if_pos rfl]
      rw [e0]
      cases h1 : decide (tx ∈ s.2.2) with
      | true => rw [if_pos (.inl rfl)]; exact one_has N w0 F0 w X am nm cm ah ch vs s hs tx a len cap ops hK hSo hks hok h1
      | false =>
        cases h2 : locked s.2.1 ops with
        | true => rw [if_pos (.inr (.inl rfl))]; exact one_locked N w0 F0 w X am nm cm ah ch vs s hs tx a len cap ops hK hSo hks hok h1 h2
        | false =>
          cases h3 : meets s.1 ops with
          | false => rw [if_pos (.inr (.inr rfl))]; exact one_unmet N w0 F0 w X am nm cm ah ch vs s hs tx a len cap ops hK hSo hks hok h1 h2 h3
          | true => rw [if_neg (by simp)]; exact one_hold N w0 F0 w X am nm cm ah ch vs s hs tx a len cap ops hK hSo hks hok hsr hlen hlh hls h1 h2 h3
    · cases hpl : placeTx tx s.2.1 with
      | none =>
        have e0 : one s (2, tx, ops) = none := by
          unfold one; rw [if_pos hok, if_neg (by simp)]; simp only [hpl]; rw [if_neg (by simp)]
        rw [e0]
        exact one_lost N w0 F0 w X am nm cm ah ch vs s hs tx a len cap ops hK hSo hks hok hls hpl
      | some k =>
        have e0 : one s (2, tx, ops) = if (applyAll s.1 (opsAt s.2.1 k)).length ≤ 60 then some (applyAll s.1 (opsAt s.2.1 k), s.2.1.take k ++ s.2.1.drop (k + 1), s.2.2) else none := by
          unfold one; rw [if_pos hok, if_neg (by simp)]; simp only [hpl]; unfold nextM; simp only [if_true]
        rw [e0]
        have hk8 := h8 k (placeTx_lt hpl)
        by_cases h60 : (applyAll s.1 (opsAt s.2.1 k)).length ≤ 60
        · rw [if_pos h60]; exact one_done N w0 F0 w X am nm cm ah ch vs s hs tx a len cap ops hK hSo hks hok k hlh hpl hfew hk8 h60
        · rw [if_neg h60]; exact (one_over N w0 F0 w X am nm cm ah ch vs s hs tx a len cap ops hK hSo hks hok k hlh hpl hfew hk8 (by omega)).mono fun e w' hp => hp.none
    · cases hpl : placeTx tx s.2.1 with
      | none =>
        by_cases h1 : tx ∈ s.2.2
        · have e0 : one s (3, tx, ops) = none := by
            unfold one; rw [if_pos hok, if_neg (by simp)]; simp only [hpl]; rw [if_neg (by simp [h1])]
          rw [e0]
          exact one_gone_seen N w0 F0 w X am nm cm ah ch vs s hs tx a len cap ops hK hSo hks hok hls hpl (decide_eq_true h1)
        · have e0 : one s (3, tx, ops) = some (s.1, s.2.1, s.2.2 ++ [tx]) := by
            unfold one; rw [if_pos hok, if_neg (by simp)]; simp only [hpl]; rw [if_pos (by simp [h1])]
          rw [e0]
          exact one_gone N w0 F0 w X am nm cm ah ch vs s hs tx a len cap ops hK hSo hks hok hls hpl (decide_eq_false h1)
      | some k =>
        have e0 : one s (3, tx, ops) = some (s.1, s.2.1.take k ++ s.2.1.drop (k + 1), s.2.2) := by
          unfold one; rw [if_pos hok, if_neg (by simp)]; simp only [hpl]; unfold nextM; rw [if_neg (by decide : ¬ (3 : Int) = 2), if_pos hfew]
        rw [e0]
        exact one_end N w0 F0 w X am nm cm ah ch vs s hs tx a len cap ops hK hSo hks hok k hlh hpl hfew
/-- what holds of the specification's state from record to record -/
structure Tame (k : Nat) (s : St) : Prop where
  few : s.1.length ≤ 60
  held : s.2.1.length ≤ k
  seen : s.2.2.length ≤ k
  ok : ∀ r ∈ s.2.1, recOk r = true
theorem tame_start : Tame 0 ([], [], []) := ⟨Nat.zero_le _, Nat.le_refl _, Nat.le_refl _, fun _ h => absurd h List.not_mem_nil⟩
theorem Tame.eight {k : Nat} {s : St} (h : Tame k s) : ∀ j, j < s.2.1.length → (opsAt s.2.1 j).length ≤ 8 := by
  intro j hj
  rw [opsAt_eq hj]
  rcases ((recOk_iff _).1 (h.ok _ (List.getElem_mem hj))).2 with ⟨_, h2⟩ | ⟨_, h2⟩
  · exact ((opsOk_iff _).1 h2).2.2
  · rw [h2]; simp
theorem Tame.step {k : Nat} {s t : St} {r : Rc} (h : Tame k s) (ho : one s r = some t) : Tame (k + 1) t := by
  unfold one at ho
  split at ho
  · next hok =>
    split at ho
    · split at ho
      · cases ho
      · cases ho
        refine ⟨h.few, by have := h.held; simp; omega, by have := h.seen; simp; omega, fun x hx => ?_⟩
        rcases List.mem_append.1 hx with h1 | h1
        · exact h.ok x h1
        · rw [List.mem_singleton.1 h1]; exact hok
    · split at ho
      · split at ho
        · cases ho
          exact ⟨h.few, by have := h.held; simp; omega, by have := h.seen; simp; omega, h.ok⟩
        · cases ho
      · split at ho
        · next h60 =>
          cases ho
          refine ⟨h60, by have := h.held; simp; omega, by have := h.seen; simp; omega, fun x hx => ?_⟩
          rcases List.mem_append.1 hx with h1 | h1
          · exact h.ok x (List.mem_of_mem_take h1)
          · exact h.ok x (List.mem_of_mem_drop h1)
        · cases ho
  · cases ho
end Go.Proofs.YtggdgceglmbaiaaGreatDoor.recs

namespace Go.Proofs.YtggdgceglmbaiaaGreatDoor.recs
open Go Go.RowKit Go.Proofs.YtggdgceglmbaiaaGreatDoor.base Go.Proofs.YtggdgceglmbaiaaGreatDoor.pairs Go.Proofs.YtggdgceglmbaiaaGreatDoor.ords
set_option linter.unusedVariables false
set_option linter.unusedSimpArgs false

theorem row_lift {w : World} {B : Nat} {e : TypeId} {size n : Nat} {v : Value} {xs : List Value} (h : w.ownsRow 0 e size v n xs) (hB : ∀ k, v.ownBlock = some k → B ≤ k) : w.ownsRow B e size v n xs := by
  refine ⟨h.1, ?_⟩
  rcases h.2 with h' | ⟨g, cap, cur, rfl, h0, r⟩
  · exact .inl h'
  · exact .inr ⟨g, cap, cur, rfl, hB g rfl, r⟩
theorem OwnR.lift {w : World} {B : Nat} {v : Value} {l : List Rc} {hs : List Value} (h : OwnR w 0 v l hs) (hB : ∀ k, BlkR v hs k → B ≤ k) : OwnR w B v l hs :=
  ⟨h.len, h.sm, row_lift h.row (fun k e => hB k (.inl e)), fun i hi => ⟨(h.ops i hi).1, row_lift (h.ops i hi).2 (fun k e => hB k (.inr ⟨_, List.getElem_mem _, e⟩))⟩, h.apart, h.out⟩
theorem OwnPV.lift {w : World} {B : Nat} {a : Option Addr} {n cap : Nat} {l : List Pr} (h : OwnPV w a n cap l) (hn : a ≠ none) (hB : ∀ k, (Value.slice a n cap).ownBlock = some k → B ≤ k) : ∃ g, a = some ⟨g, 0, none⟩ ∧ OwnP w B g n cap l := by
  rcases h.shape with ⟨e, _⟩ | ⟨g, rfl, h⟩
  · exact absurd e hn
  · exact ⟨g, rfl, h.1, h.2.1, row_lift h.2.2 hB⟩
theorem kept_start (w : World) : Kept True w [] (((w.alloc (.cells #[] 61)).alloc (.cells #[] 36)).alloc (.cells #[.slice (some ⟨w.heap.size, 0, none⟩) 0 0, .slice (some ⟨w.heap.size + 1, 0, none⟩) 0 0, .slice none 0 0] 114))
    (w.heap.size + 1 + 1) (some ⟨w.heap.size, 0, none⟩) 0 0 (some ⟨w.heap.size + 1, 0, none⟩) 0 (.slice none 0 0) ([], [], []) [] := by
  obtain ⟨wa, hwa⟩ : ∃ wa, wa = w.alloc (.cells #[] 61) := ⟨_, rfl⟩
  have ba : Below w.heap.size w wa := by rw [hwa]; exact (Below.refl _ _).alloc (Nat.le_refl _) _
  have oa : OwnP wa w.heap.size w.heap.size 0 0 [] := by rw [hwa]; exact ownP_made w _ (Nat.le_refl _)
  have sa : wa.heap.size = w.heap.size + 1 := by rw [hwa]; simp
  rw [← hwa]
  clear hwa
  obtain ⟨wb, hwb⟩ : ∃ wb, wb = wa.alloc (.cells #[] 36) := ⟨_, rfl⟩
  have bb : Below wa.heap.size wa wb := by rw [hwb]; exact (Below.refl _ _).alloc (Nat.le_refl _) _
  have ob : OwnR wb w.heap.size (.slice (some ⟨w.heap.size + 1, 0, none⟩) 0 0) [] [] := by
    have := ownR_made wa w.heap.size ba.size
    rw [sa] at this
    rw [hwb]; exact this
  have sb : wb.heap.size = w.heap.size + 1 + 1 := by rw [hwb]; simp [sa]
  rw [← hwb]
  clear hwb
  have bd := (Below.refl _ wb).alloc (Nat.le_refl _) (.cells #[.slice (some ⟨w.heap.size, 0, none⟩) 0 0, .slice (some ⟨w.heap.size + 1, 0, none⟩) 0 0, .slice none 0 0] 114)
  have xd := heap_alloc_new wb (.cells #[.slice (some ⟨w.heap.size, 0, none⟩) 0 0, .slice (some ⟨w.heap.size + 1, 0, none⟩) 0 0, .slice none 0 0] 114)
  rw [sb] at xd
  have B1 := ba.trans (bb.mono ba.size)
  refine ⟨xd, ownPV_of ((oa.below bb).below bd), (ob.below bd).mono (Nat.zero_le _), ownQ_nil _ _, lay.Frame.of_below (B1.trans (bd.mono B1.size)), fun k e => .inr ?_, fun k e => .inr ?_, fun k e => by simp [Value.ownBlock] at e, (fun _ e => by cases e), (fun _ e => by cases e)⟩
  · have : w.heap.size = k := by simpa [Value.ownBlock] using e
    omega
  · exact (ob.lt k e).1
theorem keptBlk {N : Prop} {w0 w : World} {F0 : List Nat} {X gm nm cm ch : Nat} {ah : Option Addr} {vs : Value} {s : St} {hs : List Value} (h : Kept N w0 F0 w X (some ⟨gm, 0, none⟩) nm cm ah ch vs s hs) : ¬ BlkR (.slice ah s.2.1.length ch) hs gm := by
  intro hk
  exact h.heldRow h.m.2.2 (by decide) (by decide) gm hk rfl

set_option maxRecDepth 100000 in
set_option maxHeartbeats 2000000 in
theorem spec_replay (a : Option Addr) (len cap : Nat) (l : List Rc) (w : World) (h : SlR w a len l) (hsz : len ≤ 1099511627776 / 16) (hops : ∀ r ∈ l, r.2.2.length ≤ 1099511627776 ∧ ∀ p ∈ r.2.2, p.2.1.size ≤ 1099511627776) :
    Calls Tryz.prog 46 #[.slice a len cap] w fun e w' => RepPost w (replay l) e w' := by
  obtain ⟨hl, hm, hsm, hc⟩ := id h
  subst hl
  unfold maxLen at hm
  generalize hR : replay l = R
  have HR0 : Hid (R = replayGo ([], [], []) (l.drop 0)) := by show _ = _; rw [← hR]; rfl
  clear hR
  go_enter Tryz.func46, Tryz.ntmps46
  go_wp2_with (at_builtin; fail)
  go_loopw [6] (fun i wr => ∃ (k nm cm ch : Nat) (am ah : Option Addr) (vs : Value) (hs : List Value) (s : St), k ≤ l.length ∧ i = .int .i64 (k : Int) ∧ Kept True w [] wr (w.heap.size + 1 + 1) am nm cm ah ch vs s hs ∧ Tame k s ∧ Hid (R = replayGo s (l.drop k))) (fun i _ => l.length - (intOf i).toNat)
  case atStart => exact ⟨0, 0, 0, 0, _, _, _, [], ([], [], []), Nat.zero_le _, rfl, kept_start w, tame_start, HR0⟩
  case round =>
    clear HR0
    obtain ⟨k, nm, cm, ch, am, ah, vs, hs, s, hk, rfl, hK, hT, HR⟩ := hrel
    have hbel : Below w.heap.size w wr := hK.fr.bel (Nat.le_refl _) (fun j hj => by simp at hj; omega)
    by_cases hlt : k < l.length
    · obtain ⟨b, off, ha, _⟩ := hc (by omega)
      subst ha
      have hat := h.at k hlt
      obtain ⟨c0', c1', pa, pl, pc, c2', hSo, _⟩ := hat
      have hbw := World.block_lt_of_cell? w _ c0'
      have c0 := (hbel.cell (p := ⟨b, off + k * 3, none⟩) hbw).trans c0'
      have c1 := (hbel.cell (p := ⟨b, off + k * 3 + 1, none⟩) hbw).trans c1'
      have c2 := (hbel.cell (p := ⟨b, off + k * 3 + 2, none⟩) hbw).trans c2'
      have hki : (k : Int) < (l.length : Int) := by omega
      obtain ⟨hol, hks⟩ := hops _ (List.getElem_mem hlt)
      have hsr := hsm _ (List.getElem_mem hlt)
      have HD : Hid (R = match one s l[k] with | none => none | some t => replayGo t (l.drop (k + 1))) := by
        show _ = _
        rw [HR.out, List.drop_eq_getElem_cons hlt]; rfl
      generalize l[k] = r at *
      clear c0' c1' c2' hbw HR
      have hth := hT.held
      have hts := hT.seen
      have hpe := hSo.1
      have HF := Hid.mk' (spec_one True w [] wr (w.heap.size + 1 + 1) am nm cm ah ch vs s hs r.1 r.2.1 pa pl pc r.2.2 hK (hSo.below hbel) hks hsr (by omega) (by omega) (by omega) hT.few hT.eight)
      have HST : Hid (∀ t, one s r = some t → Tame (k + 1) t) := fun t ho => hT.step ho
      cases ho : one s r with
      | none =>
        have HRN : Hid (R = none) := by show _ = _; rw [HD.out, ho]
        rw [show ((r.1, r.2.1, r.2.2) : Rc) = r from rfl, ho] at HF
        clear HD ho HST
        go_wp2_with (at_builtin; fail)
        refine HF.out.mono ?_
        rintro e w2 ⟨rfl, hB2'⟩
        have hB2 : Below w.heap.size w w2 := hB2'.bel (Nat.le_refl _) (fun j hj => by simp at hj; omega)
        clear hB2'
        have HP := Hid.mk' (repPost_none HRN.out hB2)
        clear HF c0 c1 c2
        go_wp2_with (at_builtin; fail)
        go_ret3
        exact HP.out
      | some t =>
        have HRN : Hid (R = replayGo t (l.drop (k + 1))) := by show _ = _; rw [HD.out, ho]
        have hT' := HST.out t ho
        rw [show ((r.1, r.2.1, r.2.2) : Rc) = r from rfl, ho] at HF
        clear HD ho HST
        go_wp2_with (at_builtin; fail)
        refine HF.out.mono ?_
        rintro e w2 ⟨rfl, am2, nm2, cm2, ah2, ch2, vs2, hs2, hK2⟩
        clear HF c0 c1 c2
        go_wp2_with (at_builtin; fail)
        go_roundw
        case rel => exact ⟨k + 1, nm2, cm2, ch2, am2, ah2, vs2, hs2, t, by omega, by go_num, hK2, hT', HRN⟩
        case measure => simp [intOf]; omega
    · have HRN : Hid (R = some s) := by
        show _ = _
        rw [HR.out, List.drop_eq_nil_of_le (by omega)]; rfl
      have hXl := hK.box.lt
      obtain ⟨gm, rfl, hOP0⟩ := hK.m.lift (B := w.heap.size) (hK.nnM trivial) (fun k e => (hK.newM k e).resolve_left List.not_mem_nil)
      obtain ⟨gh, rfl⟩ : ∃ gh, ah = some ⟨gh, 0, none⟩ := by
        rcases hK.held.shape with ⟨e, _⟩ | ⟨g, c, e, _⟩
        · injection e with e1 _ _; exact absurd e1 (hK.nnH trivial)
        · cases e; exact ⟨g, rfl⟩
      clear hOP0
      have o0 := last.On.cell (B := wr.heap.size) hK.box.cells.1 hXl
      have o1 := last.On.cell (B := wr.heap.size) hK.box.cells.2.1 hXl
      have hinh := last.On.inh wr.heap.size wr
      go_wp2_with (at_builtin; fail)
      refine last.wp_region_on wr.heap.size (by kernel_rfl) (by kernel_rfl) ?_
      repeat (go_big_quiet_step (fail))
      refine wpQuiet_nil ?_
      intro w5 hw5
      obtain ⟨x5, hw5⟩ := hw5
      have hb5 : Below wr.heap.size wr w5 := by rw [hw5]; exact x5.2
      have hK5 := hK.below hb5
      have HP : Hid (RepPost w R (.returned (.tuple #[.slice (some ⟨gm, 0, none⟩) nm cm, .slice (some ⟨gh, 0, none⟩) s.2.1.length ch, .bool true])) w5) := by
        rw [HRN.out]
        obtain ⟨gm', e9, hOP⟩ := hK5.m.lift (B := w.heap.size) (hK5.nnM trivial) (fun k e => (hK5.newM k e).resolve_left List.not_mem_nil)
        cases e9
        exact ⟨gm, nm, cm, gh, ch, hs, rfl, hOP, hK5.held.lift (fun k e => (hK5.newH k e).resolve_left List.not_mem_nil), keptBlk hK5, hK5.fr.bel (Nat.le_refl _) (fun j hj => by simp at hj; omega)⟩
      clear hw5 x5 hinh o0 o1
      go_wp2_with (at_builtin; fail)
      go_ret3
      exact HP.out
end Go.Proofs.YtggdgceglmbaiaaGreatDoor.recs

namespace Go.Proofs.YtggdgceglmbaiaaGreatDoor.pairs
open Go Go.RowKit Go.Proofs.YtggdgceglmbaiaaGreatDoor.base Go.Proofs.YtggdgceglmbaiaaGreatDoor.helps
set_option linter.unusedVariables false
set_option linter.unusedSimpArgs false


def szR (L t : Nat) : Int := if t ≤ L then (L : Int) - (t : Int) else -1
theorem szR_neg {L t : Nat} (h : L < t) : szR L t = -1 := by unfold szR; rw [if_neg (by omega)]
theorem szR_pos {L t : Nat} (h : t ≤ L) : szR L t = (L : Int) - (t : Int) := by unfold szR; rw [if_pos h]
def psz (p : Pr) : Nat := p.1.size + p.2.size
def sumP (l : List Pr) : Nat := (l.map psz).sum
theorem sumP_take (l : List Pr) (k : Nat) (h : k < l.length) : sumP (l.take (k + 1)) = sumP (l.take k) + psz l[k] := by
  unfold sumP; rw [take_snocP l k h, List.map_append, List.sum_append]; simp
theorem sumP_le (l : List Pr) (k : Nat) : sumP (l.take k) ≤ sumP l := by
  have e : sumP l = sumP (l.take k) + sumP (l.drop k) := by
    unfold sumP; rw [← List.sum_append, ← List.map_append, List.take_append_drop]
  omega
theorem psz_le (l : List Pr) : ∀ p ∈ l, psz p ≤ sumP l := by
  induction l with
  | nil => intro s h; exact absurd h List.not_mem_nil
  | cons x l ih =>
    intro s h
    simp only [sumP, List.map_cons, List.sum_cons] at *
    rcases List.mem_cons.1 h with h | h
    · subst h; omega
    · have := ih s h; omega



def zeroP : Pr := (⟨#[]⟩, ⟨#[]⟩)
def copyP (l : List Pr) (k : Nat) : List Pr := l.take k ++ List.replicate (l.length - k) zeroP
theorem copyP_length (l : List Pr) (k : Nat) (h : k ≤ l.length) : (copyP l k).length = l.length := by simp [copyP]; omega
theorem copyP_zero (l : List Pr) : copyP l 0 = List.replicate l.length zeroP := by simp [copyP]
theorem copyP_all (l : List Pr) : copyP l l.length = l := by simp [copyP]
theorem copyP_small (l : List Pr) (k : Nat) (h : ∀ p ∈ l, small p) : ∀ p ∈ copyP l k, small p := by
  intro p hp
  rcases List.mem_append.1 hp with h1 | h1
  · exact h p (List.mem_of_mem_take h1)
  · obtain rfl := (List.mem_replicate.1 h1).2; exact ⟨Nat.zero_le _, Nat.zero_le _⟩
theorem copyP_set (l : List Pr) (k : Nat) (h : k < l.length) : (copyP l k).set k l[k] = copyP l (k + 1) := by
  unfold copyP
  rw [List.set_append_right _ _ (by simp; omega), take_snocP l k h, List.append_assoc]
  congr 1
  rw [List.length_take_of_le (by omega), Nat.sub_self, show l.length - k = l.length - (k + 1) + 1 by omega, List.replicate_succ]
  rfl
theorem pairVals_rep (n : Nat) : pairVals (List.replicate n zeroP) = (madeCells #[.string ⟨#[]⟩, .string ⟨#[]⟩] (n * 2)).toList := by
  have e1 : pairVals (List.replicate n zeroP) = List.replicate (n * 2) (.string ⟨#[]⟩) := by
    induction n with
    | zero => rfl
    | succ n ih => rw [List.replicate_succ, pairVals_cons, ih, show (n + 1) * 2 = n * 2 + 1 + 1 by omega, List.replicate_succ, List.replicate_succ]; rfl
  rw [e1]
  apply List.ext_getElem
  · simp [madeCells]
  · intro j h1 h2
    have hm : j % 2 = 0 ∨ j % 2 = 1 := by omega
    rcases hm with hm | hm <;> simp [madeCells, hm]



theorem take_eqP {l l2 : List Pr} {k : Nat} (h : l.take k = l2.take k) (h1 : k < l.length) (h2 : k < l2.length) (e : l[k] = l2[k]) : l.take (k + 1) = l2.take (k + 1) := by
  rw [take_snocP l k h1, take_snocP l2 k h2, h, e]

end Go.Proofs.YtggdgceglmbaiaaGreatDoor.pairs

namespace Go.Proofs.YtggdgceglmbaiaaGreatDoor.pairs
open Go Go.RowKit Go.Proofs.YtggdgceglmbaiaaGreatDoor.base Go.Proofs.YtggdgceglmbaiaaGreatDoor.helps
set_option linter.unusedVariables false
set_option linter.unusedSimpArgs false

def marksP (k0 n : Nat) : List Pr := (List.range n).map fun j => (markBytes (k0 + 2 * j), markBytes (k0 + 2 * j + 1))
def markPTo (l : List Pr) (k0 i : Nat) : List Pr := marksP k0 i ++ l.drop i
theorem marksP_length (k0 n : Nat) : (marksP k0 n).length = n := by simp [marksP]
theorem marksP_get (k0 n i : Nat) (h : i < n) : (marksP k0 n)[i]'(by rw [marksP_length]; exact h) = (markBytes (k0 + 2 * i), markBytes (k0 + 2 * i + 1)) := by simp [marksP]
theorem markPTo_length (l : List Pr) (k0 i : Nat) (h : i ≤ l.length) : (markPTo l k0 i).length = l.length := by simp [markPTo, marksP]; omega
theorem markPTo_zero (l : List Pr) (k0 : Nat) : markPTo l k0 0 = l := by simp [markPTo, marksP]
theorem markPTo_all (l : List Pr) (k0 : Nat) : markPTo l k0 l.length = marksP k0 l.length := by simp [markPTo]
theorem markPTo_set (l : List Pr) (k0 i : Nat) (h : i < l.length) : (markPTo l k0 i).set i (markBytes (k0 + 2 * i), markBytes (k0 + 2 * i + 1)) = markPTo l k0 (i + 1) := by
  unfold markPTo marksP
  rw [List.set_append_right _ _ (by simp)]
  simp only [List.length_map, List.length_range, Nat.sub_self, List.range_succ, List.map_append, List.map_cons, List.map_nil, List.append_assoc]
  congr 1
  rw [List.drop_eq_getElem_cons h]
  rfl



set_option maxRecDepth 100000 in
set_option maxHeartbeats 1000000 in
theorem samePairs (a a2 : Option Addr) (len cap len2 cap2 : Nat) (l l2 : List Pr) (w : World) (h : SlP w a len l) (h2 : SlP w a2 len2 l2) :
    Calls Tryz.prog 10 #[.slice a len cap, .slice a2 len2 cap2] w fun e w' => e = .returned (.bool (decide (l = l2))) ∧ ∃ n, w' = w.drewN n := by
  obtain ⟨hl, hm, _, hc⟩ := h
  obtain ⟨hl2, hm2, _, hc2⟩ := h2
  subst hl hl2
  unfold maxLen at hm hm2
  by_cases hne : l.length = l2.length
  · have hb : ((l.length : Int) == (l2.length : Int)) = true := by simp; omega
    go_enter Tryz.func10, Tryz.ntmps10
    go_wp2_with fail
    go_loopw [5] (fun i wr => ∃ k : Nat, k ≤ l.length ∧ i = .int .i64 k ∧ l.take k = l2.take k ∧ ∃ n, wr = w.drewN n) (fun i _ => l.length - (intOf i).toNat)
    case atStart => exact ⟨0, Nat.zero_le _, rfl, rfl, 0, rfl⟩
    case round =>
      obtain ⟨k, hk, rfl, htk, n, rfl⟩ := hrel
      by_cases hlt : k < l.length
      · obtain ⟨b, off, ha, hcl⟩ := hc (by omega)
        obtain ⟨b2, off2, ha2, hcl2⟩ := hc2 (by omega)
        subst ha ha2
        have hlt2 : k < l2.length := by omega
        have hi1 : (k : Int) < (l.length : Int) := by omega
        have hi2 : (k : Int) < (l2.length : Int) := by omega
        obtain ⟨c1, c2⟩ := hcl k hlt
        obtain ⟨c3, c4⟩ := hcl2 k hlt2
        by_cases e : l[k] = l2[k]
        · have HE := Hid.mk' (take_eqP htk hlt hlt2 e)
          rw [← e] at c3 c4
          clear hcl hcl2 hc hc2 htk hne e
          generalize l[k] = p at *
          go_wp2_with fail
          go_quiet (fail)
          go_wp2_with fail
          go_roundw
          case rel => exact ⟨k + 1, by omega, by go_num, HE.out, _, rfl⟩
          case measure => simp [intOf]; omega
        · have HE : Hid (¬ l = l2) := by
            show ¬ _
            rintro rfl; exact e rfl
          generalize l[k] = p at *
          generalize l2[k] = q at *
          clear hcl hcl2 hc hc2 htk hne
          by_cases e1 : p.1 = q.1
          · have hq := str_ne (fun e2 : p.2 = q.2 => e (Prod.ext e1 e2))
            rw [← e1] at c3
            generalize p.1 = p1 at *
            generalize p.2 = p2 at *
            generalize q.2 = q2 at *
            clear e e1
            go_wp2_with fail
            go_quiet (fail)
            go_wp2_with fail
            go_ret
            exact ⟨ret_bool (by symm; rw [decide_eq_false_iff_not]; exact HE.out), _, World.drewN_drewN _ _ _⟩
          · have hq := str_ne e1
            generalize p.1 = p1 at *
            generalize p.2 = p2 at *
            generalize q.1 = q1 at *
            generalize q.2 = q2 at *
            clear e e1
            go_wp2_with fail
            go_quiet (fail)
            go_wp2_with fail
            go_ret
            exact ⟨ret_bool (by symm; rw [decide_eq_false_iff_not]; exact HE.out), _, World.drewN_drewN _ _ _⟩
      · have e : k = l.length := by omega
        have hfin : l = l2 := by
          subst e
          rw [List.take_of_length_le (Nat.le_refl _), List.take_of_length_le (by omega)] at htk
          exact htk
        have HF := Hid.mk' hfin
        clear hfin htk
        go_wp2_with fail
        go_ret
        exact ⟨ret_bool (by symm; rw [decide_eq_true_iff]; exact HF.out), _, rfl⟩
  · have hb : ((l.length : Int) == (l2.length : Int)) = false := by simp; omega
    go_enter Tryz.func10, Tryz.ntmps10
    go_wp2
    go_ret
    exact ⟨ret_bool (by symm; rw [decide_eq_false_iff_not]; intro h; exact hne (by rw [h])), 0, rfl⟩

end Go.Proofs.YtggdgceglmbaiaaGreatDoor.pairs
