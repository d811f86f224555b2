/- The specification's replay: one record more, whatever it is; and all of them. The specification's ReplayRecs. The laws' own helpers on pairs: what each call does. The laws' marks on pairs, and pairs that are the same. -/
import Derived.Test.YtddolmklnifnmaaGreatDoorBund9an
import Derived.Test.YtddolmklnifnmaaGreatDoorBund9aq
import Derived.Test.YtddolmklnifnmaaGreatDoorBund9ag
import Derived.Test.YtddolmklnifnmaaGreatDoorBund9ac
namespace Go.Proofs.YtddolmklnifnmaaGreatDoor.recs
open Go Go.RowKit Go.Proofs.YtddolmklnifnmaaGreatDoor.base Go.Proofs.YtddolmklnifnmaaGreatDoor.pairs Go.Proofs.YtddolmklnifnmaaGreatDoor.ords
set_option linter.unusedVariables false
set_option linter.unusedSimpArgs false

theorem spec_one (N : Prop) (w0 : World) (F0 : List Nat) (w : World) (X : Nat) (am : Option Addr) (nm cm : Nat) (ah : Option Addr) (ch : Nat) (vs : Value) (s : St) (hs : List Value) (kind tx : Int) (a : Option Addr) (len cap : Nat) (ops : List Od)
    (hK : Kept N w0 F0 w X am nm cm ah ch vs s hs) (hSo : SlO w a len ops) (hks : ∀ p ∈ ops, p.2.1.size ≤ 1099511627776) (hsr : smallR (kind, tx, ops)) (hlen : len ≤ 1099511627776) (hlh : s.2.1.length ≤ 1099511627776) (hls : s.2.2.length ≤ 1099511627776) (hfew : s.1.length ≤ 60)
    (h8 : ∀ k, k < s.2.1.length → (opsAt s.2.1 k).length ≤ 8) :
    Calls Tryz.prog 113 #[.pointer (some ⟨X, 0, none⟩), .agg #[.int .i64 kind, .int .i64 tx, .slice a len cap]] w (OnePost N w0 F0 X (one s (kind, tx, ops))) := by
  cases hok : recOk (kind, tx, ops) with
  | false =>
    have e : one s (kind, tx, ops) = none := by unfold one; rw [hok]; rfl
    rw [e]
    exact one_bad N w0 F0 w X am nm cm ah ch vs s hs kind tx a len cap ops hK hSo hks hok
  | true =>
    have hkk : kind = 1 ∨ kind = 2 ∨ kind = 3 := by
      obtain ⟨_, ⟨h1, _⟩ | ⟨h1, _⟩⟩ := (recOk_iff _).1 hok
      · exact .inl h1
      · rcases h1 with h1 | h1
        · exact .inr (.inl h1)
        · exact .inr (.inr h1)
    rcases hkk with rfl | rfl | rfl
    · have e0 : one s (1, tx, ops) = if decide (tx ∈ s.2.2) = true ∨ locked s.2.1 ops = true ∨ meets s.1 ops = false then none else some (s.1, s.2.1 ++ [(1, tx, ops)], s.2.2 ++ [tx]) := by
        unfold one; rw [if_pos hok, if_pos rfl]
      rw [e0]
      cases h1 : decide (tx ∈ s.2.2) with
      | true => rw [if_pos (.inl rfl)]; exact one_has N w0 F0 w X am nm cm ah ch vs s hs tx a len cap ops hK hSo hks hok h1
      | false =>
        cases h2 : locked s.2.1 ops with
        | true => rw [if_pos (.inr (.inl rfl))]; exact one_locked N w0 F0 w X am nm cm ah ch vs s hs tx a len cap ops hK hSo hks hok h1 h2
        | false =>
          cases h3 : meets s.1 ops with
          | false => rw [if_pos (.inr (.inr rfl))]; exact one_unmet N w0 F0 w X am nm cm ah ch vs s hs tx a len cap ops hK hSo hks hok h1 h2 h3
          | true => rw [if_neg (by simp)]; exact one_hold N w0 F0 w X am nm cm ah ch vs s hs tx a len cap ops hK hSo hks hok hsr hlen hlh hls h1 h2 h3
    · cases hpl : placeTx tx s.2.1 with
      | none =>
        have e0 : one s (2, tx, ops) = none := by
          unfold one; rw [if_pos hok, if_neg (by simp)]; simp only [hpl]; rw [if_neg (by simp)]
        rw [e0]
        exact one_lost N w0 F0 w X am nm cm ah ch vs s hs tx a len cap ops hK hSo hks hok hls hpl
      | some k =>
        have e0 : one s (2, tx, ops) = if (applyAll s.1 (opsAt s.2.1 k)).length ≤ 60 then some (applyAll s.1 (opsAt s.2.1 k), s.2.1.take k ++ s.2.1.drop (k + 1), s.2.2) else none := by
          unfold one; rw [if_pos hok, if_neg (by simp)]; simp only [hpl]; unfold nextM; simp only [if_true]
        rw [e0]
        have hk8 := h8 k (placeTx_lt hpl)
        by_cases h60 : (applyAll s.1 (opsAt s.2.1 k)).length ≤ 60
        · rw [if_pos h60]; exact one_done N w0 F0 w X am nm cm ah ch vs s hs tx a len cap ops hK hSo hks hok k hlh hpl hfew hk8 h60
        · rw [if_neg h60]; exact (one_over N w0 F0 w X am nm cm ah ch vs s hs tx a len cap ops hK hSo hks hok k hlh hpl hfew hk8 (by omega)).mono fun e w' hp => hp.none
    · cases hpl : placeTx tx s.2.1 with
      | none =>
        by_cases h1 : tx ∈ s.2.2
        · have e0 : one s (3, tx, ops) = none := by
            unfold one; rw [if_pos hok, if_neg (by simp)]; simp only [hpl]; rw [if_neg (by simp [h1])]
          rw [e0]
          exact one_gone_seen N w0 F0 w X am nm cm ah ch vs s hs tx a len cap ops hK hSo hks hok hls hpl (decide_eq_true h1)
        · have e0 : one s (3, tx, ops) = some (s.1, s.2.1, s.2.2 ++ [tx]) := by
            unfold one; rw [if_pos hok, if_neg (by simp)]; simp only [hpl]; rw [if_pos (by simp [h1])]
          rw [e0]
          exact one_gone N w0 F0 w X am nm cm ah ch vs s hs tx a len cap ops hK hSo hks hok hls hpl (decide_eq_false h1)
      | some k =>
        have e0 : one s (3, tx, ops) = some (s.1, s.2.1.take k ++ s.2.1.drop (k + 1), s.2.2) := by
          unfold one; rw [if_pos hok, if_neg (by simp)]; simp only [hpl]; unfold nextM; rw [if_neg (by decide : ¬ (3 : Int) = 2), if_pos hfew]
        rw [e0]
        exact one_end N w0 F0 w X am nm cm ah ch vs s hs tx a len cap ops hK hSo hks hok k hlh hpl hfew
/-- what holds of the specification's state from record to record -/
structure Tame (k : Nat) (s : St) : Prop where
  few : s.1.length ≤ 60
  held : s.2.1.length ≤ k
  seen : s.2.2.length ≤ k
  ok : ∀ r ∈ s.2.1, recOk r = true
theorem tame_start : Tame 0 ([], [], []) := ⟨Nat.zero_le _, Nat.le_refl _, Nat.le_refl _, fun _ h => absurd h List.not_mem_nil⟩
theorem Tame.eight {k : Nat} {s : St} (h : Tame k s) : ∀ j, j < s.2.1.length → (opsAt s.2.1 j).length ≤ 8 := by
  intro j hj
  rw [opsAt_eq hj]
  rcases ((recOk_iff _).1 (h.ok _ (List.getElem_mem hj))).2 with ⟨_, h2⟩ | ⟨_, h2⟩
  · exact ((opsOk_iff _).1 h2).2.2
  · rw [h2]; simp
theorem Tame.step {k : Nat} {s t : St} {r : Rc} (h : Tame k s) (ho : one s r = some t) : Tame (k + 1) t := by
  unfold one at ho
  split at ho
  · next hok =>
    split at ho
    · split at ho
      · cases ho
      · cases ho
        refine ⟨h.few, by have := h.held; simp; omega, by have := h.seen; simp; omega, fun x hx => ?_⟩
        rcases List.mem_append.1 hx with h1 | h1
        · exact h.ok x h1
        · rw [List.mem_singleton.1 h1]; exact hok
    · split at ho
      · split at ho
        · cases ho
          exact ⟨h.few, by have := h.held; simp; omega, by have := h.seen; simp; omega, h.ok⟩
        · cases ho
      · split at ho
        · next h60 =>
          cases ho
          refine ⟨h60, by have := h.held; simp; omega, by have := h.seen; simp; omega, fun x hx => ?_⟩
          rcases List.mem_append.1 hx with h1 | h1
          · exact h.ok x (List.mem_of_mem_take h1)
          · exact h.ok x (List.mem_of_mem_drop h1)
        · cases ho
  · cases ho
end Go.Proofs.YtddolmklnifnmaaGreatDoor.recs

namespace Go.Proofs.YtddolmklnifnmaaGreatDoor.recs
open Go Go.RowKit Go.Proofs.YtddolmklnifnmaaGreatDoor.base Go.Proofs.YtddolmklnifnmaaGreatDoor.pairs Go.Proofs.YtddolmklnifnmaaGreatDoor.ords
set_option linter.unusedVariables false
set_option linter.unusedSimpArgs false

theorem row_lift {w : World} {B : Nat} {e : TypeId} {size n : Nat} {v : Value} {xs : List Value} (h : w.ownsRow 0 e size v n xs) (hB : ∀ k, v.ownBlock = some k → B ≤ k) : w.ownsRow B e size v n xs := by
  refine ⟨h.1, ?_⟩
  rcases h.2 with h' | ⟨g, cap, cur, rfl, h0, r⟩
  · exact .inl h'
  · exact .inr ⟨g, cap, cur, rfl, hB g rfl, r⟩
theorem OwnR.lift {w : World} {B : Nat} {v : Value} {l : List Rc} {hs : List Value} (h : OwnR w 0 v l hs) (hB : ∀ k, BlkR v hs k → B ≤ k) : OwnR w B v l hs :=
  ⟨h.len, h.sm, row_lift h.row (fun k e => hB k (.inl e)), fun i hi => ⟨(h.ops i hi).1, row_lift (h.ops i hi).2 (fun k e => hB k (.inr ⟨_, List.getElem_mem _, e⟩))⟩, h.apart, h.out⟩
theorem OwnPV.lift {w : World} {B : Nat} {a : Option Addr} {n cap : Nat} {l : List Pr} (h : OwnPV w a n cap l) (hn : a ≠ none) (hB : ∀ k, (Value.slice a n cap).ownBlock = some k → B ≤ k) : ∃ g, a = some ⟨g, 0, none⟩ ∧ OwnP w B g n cap l := by
  rcases h.shape with ⟨e, _⟩ | ⟨g, rfl, h⟩
  · exact absurd e hn
  · exact ⟨g, rfl, h.1, h.2.1, row_lift h.2.2 hB⟩
theorem kept_start (w : World) : Kept True w [] (((w.alloc (.cells #[] 74)).alloc (.cells #[] 41)).alloc (.cells #[.slice (some ⟨w.heap.size, 0, none⟩) 0 0, .slice (some ⟨w.heap.size + 1, 0, none⟩) 0 0, .slice none 0 0] 146))
    (w.heap.size + 1 + 1) (some ⟨w.heap.size, 0, none⟩) 0 0 (some ⟨w.heap.size + 1, 0, none⟩) 0 (.slice none 0 0) ([], [], []) [] := by
  obtain ⟨wa, hwa⟩ : ∃ wa, wa = w.alloc (.cells #[] 74) := ⟨_, rfl⟩
  have ba : Below w.heap.size w wa := by rw [hwa]; exact (Below.refl _ _).alloc (Nat.le_refl _) _
  have oa : OwnP wa w.heap.size w.heap.size 0 0 [] := by rw [hwa]; exact ownP_made w _ (Nat.le_refl _)
  have sa : wa.heap.size = w.heap.size + 1 := by rw [hwa]; simp
  rw [← hwa]
  clear hwa
  obtain ⟨wb, hwb⟩ : ∃ wb, wb = wa.alloc (.cells #[] 41) := ⟨_, rfl⟩
  have bb : Below wa.heap.size wa wb := by rw [hwb]; exact (Below.refl _ _).alloc (Nat.le_refl _) _
  have ob : OwnR wb w.heap.size (.slice (some ⟨w.heap.size + 1, 0, none⟩) 0 0) [] [] := by
    have := ownR_made wa w.heap.size ba.size
    rw [sa] at this
    rw [hwb]; exact this
  have sb : wb.heap.size = w.heap.size + 1 + 1 := by rw [hwb]; simp [sa]
  rw [← hwb]
  clear hwb
  have bd := (Below.refl _ wb).alloc (Nat.le_refl _) (.cells #[.slice (some ⟨w.heap.size, 0, none⟩) 0 0, .slice (some ⟨w.heap.size + 1, 0, none⟩) 0 0, .slice none 0 0] 146)
  have xd := heap_alloc_new wb (.cells #[.slice (some ⟨w.heap.size, 0, none⟩) 0 0, .slice (some ⟨w.heap.size + 1, 0, none⟩) 0 0, .slice none 0 0] 146)
  rw [sb] at xd
  have B1 := ba.trans (bb.mono ba.size)
  refine ⟨xd, ownPV_of ((oa.below bb).below bd), (ob.below bd).mono (Nat.zero_le _), ownQ_nil _ _, lay.Frame.of_below (B1.trans (bd.mono B1.size)), fun k e => .inr ?_, fun k e => .inr ?_, fun k e => by simp [Value.ownBlock] at e, (fun _ e => by cases e), (fun _ e => by cases e)⟩
  · have : w.heap.size = k := by simpa [Value.ownBlock] using e
    omega
  · exact (ob.lt k e).1
theorem keptBlk {N : Prop} {w0 w : World} {F0 : List Nat} {X gm nm cm ch : Nat} {ah : Option Addr} {vs : Value} {s : St} {hs : List Value} (h : Kept N w0 F0 w X (some ⟨gm, 0, none⟩) nm cm ah ch vs s hs) : ¬ BlkR (.slice ah s.2.1.length ch) hs gm := by
  intro hk
  exact h.heldRow h.m.2.2 (by decide) (by decide) gm hk rfl

set_option maxRecDepth 100000 in
set_option maxHeartbeats 2000000 in
theorem spec_replay (a : Option Addr) (len cap : Nat) (l : List Rc) (w : World) (h : SlR w a len l) (hsz : len ≤ 1099511627776 / 16) (hops : ∀ r ∈ l, r.2.2.length ≤ 1099511627776 ∧ ∀ p ∈ r.2.2, p.2.1.size ≤ 1099511627776) :
    Calls Tryz.prog 79 #[.slice a len cap] w fun e w' => RepPost w (replay l) e w' := by
  obtain ⟨hl, hm, hsm, hc⟩ := id h
  subst hl
  unfold maxLen at hm
  generalize hR : replay l = R
  have HR0 : Hid (R = replayGo ([], [], []) (l.drop 0)) := by show _ = _; rw [← hR]; rfl
  clear hR
  go_enter Tryz.func79, Tryz.ntmps79
  go_wp2_with (at_builtin; fail)
  go_loopw [6] (fun i wr => ∃ (k nm cm ch : Nat) (am ah : Option Addr) (vs : Value) (hs : List Value) (s : St), k ≤ l.length ∧ i = .int .i64 (k : Int) ∧ Kept True w [] wr (w.heap.size + 1 + 1) am nm cm ah ch vs s hs ∧ Tame k s ∧ Hid (R = replayGo s (l.drop k))) (fun i _ => l.length - (intOf i).toNat)
  case atStart => exact ⟨0, 0, 0, 0, _, _, _, [], ([], [], []), Nat.zero_le _, rfl, kept_start w, tame_start, HR0⟩
  case round =>
    clear HR0
    obtain ⟨k, nm, cm, ch, am, ah, vs, hs, s, hk, rfl, hK, hT, HR⟩ := hrel
    have hbel : Below w.heap.size w wr := hK.fr.bel (Nat.le_refl _) (fun j hj => by simp at hj; omega)
    by_cases hlt : k < l.length
    · obtain ⟨b, off, ha, _⟩ := hc (by omega)
      subst ha
      have hat := h.at k hlt
      obtain ⟨c0', c1', pa, pl, pc, c2', hSo, _⟩ := hat
      have hbw := World.block_lt_of_cell? w _ c0'
      have c0 := (hbel.cell (p := ⟨b, off + k * 3, none⟩) hbw).trans c0'
      have c1 := (hbel.cell (p := ⟨b, off + k * 3 + 1, none⟩) hbw).trans c1'
      have c2 := (hbel.cell (p := ⟨b, off + k * 3 + 2, none⟩) hbw).trans c2'
      have hki : (k : Int) < (l.length : Int) := by omega
      obtain ⟨hol, hks⟩ := hops _ (List.getElem_mem hlt)
      have hsr := hsm _ (List.getElem_mem hlt)
      have HD : Hid (R = match one s l[k] with | none => none | some t => replayGo t (l.drop (k + 1))) := by
        show _ = _
        rw [HR.out, List.drop_eq_getElem_cons hlt]; rfl
      generalize l[k] = r at *
      clear c0' c1' c2' hbw HR
      have hth := hT.held
      have hts := hT.seen
      have hpe := hSo.1
      have HF := Hid.mk' (spec_one True w [] wr (w.heap.size + 1 + 1) am nm cm ah ch vs s hs r.1 r.2.1 pa pl pc r.2.2 hK (hSo.below hbel) hks hsr (by omega) (by omega) (by omega) hT.few hT.eight)
      have HST : Hid (∀ t, one s r = some t → Tame (k + 1) t) := fun t ho => hT.step ho
      cases ho : one s r with
      | none =>
        have HRN : Hid (R = none) := by show _ = _; rw [HD.out, ho]
        rw [show ((r.1, r.2.1, r.2.2) : Rc) = r from rfl, ho] at HF
        clear HD ho HST
        go_wp2_with (at_builtin; fail)
        refine HF.out.mono ?_
        rintro e w2 ⟨rfl, hB2'⟩
        have hB2 : Below w.heap.size w w2 := hB2'.bel (Nat.le_refl _) (fun j hj => by simp at hj; omega)
        clear hB2'
        have HP := Hid.mk' (repPost_none HRN.out hB2)
        clear HF c0 c1 c2
        go_wp2_with (at_builtin; fail)
        go_ret3
        exact HP.out
      | some t =>
        have HRN : Hid (R = replayGo t (l.drop (k + 1))) := by show _ = _; rw [HD.out, ho]
        have hT' := HST.out t ho
        rw [show ((r.1, r.2.1, r.2.2) : Rc) = r from rfl, ho] at HF
        clear HD ho HST
        go_wp2_with (at_builtin; fail)
        refine HF.out.mono ?_
        rintro e w2 ⟨rfl, am2, nm2, cm2, ah2, ch2, vs2, hs2, hK2⟩
        clear HF c0 c1 c2
        go_wp2_with (at_builtin; fail)
        go_roundw
        case rel => exact ⟨k + 1, nm2, cm2, ch2, am2, ah2, vs2, hs2, t, by omega, by go_num, hK2, hT', HRN⟩
        case measure => simp [intOf]; omega
    · have HRN : Hid (R = some s) := by
        show _ = _
        rw [HR.out, List.drop_eq_nil_of_le (by omega)]; rfl
      have hXl := hK.box.lt
      obtain ⟨gm, rfl, hOP0⟩ := hK.m.lift (B := w.heap.size) (hK.nnM trivial) (fun k e => (hK.newM k e).resolve_left List.not_mem_nil)
      obtain ⟨gh, rfl⟩ : ∃ gh, ah = some ⟨gh, 0, none⟩ := by
        rcases hK.held.shape with ⟨e, _⟩ | ⟨g, c, e, _⟩
        · injection e with e1 _ _; exact absurd e1 (hK.nnH trivial)
        · cases e; exact ⟨g, rfl⟩
      clear hOP0
      have o0 := last.On.cell (B := wr.heap.size) hK.box.cells.1 hXl
      have o1 := last.On.cell (B := wr.heap.size) hK.box.cells.2.1 hXl
      have hinh := last.On.inh wr.heap.size wr
      go_wp2_with (at_builtin; fail)
      refine last.wp_region_on wr.heap.size (by kernel_rfl) (by kernel_rfl) ?_
      repeat (go_big_quiet_step (fail))
      refine wpQuiet_nil ?_
      intro w5 hw5
      obtain ⟨x5, hw5⟩ := hw5
      have hb5 : Below wr.heap.size wr w5 := by rw [hw5]; exact x5.2
      have hK5 := hK.below hb5
      have HP : Hid (RepPost w R (.returned (.tuple #[.slice (some ⟨gm, 0, none⟩) nm cm, .slice (some ⟨gh, 0, none⟩) s.2.1.length ch, .bool true])) w5) := by
        rw [HRN.out]
        obtain ⟨gm', e9, hOP⟩ := hK5.m.lift (B := w.heap.size) (hK5.nnM trivial) (fun k e => (hK5.newM k e).resolve_left List.not_mem_nil)
        cases e9
        exact ⟨gm, nm, cm, gh, ch, hs, rfl, hOP, hK5.held.lift (fun k e => (hK5.newH k e).resolve_left List.not_mem_nil), keptBlk hK5, hK5.fr.bel (Nat.le_refl _) (fun j hj => by simp at hj; omega)⟩
      clear hw5 x5 hinh o0 o1
      go_wp2_with (at_builtin; fail)
      go_ret3
      exact HP.out
end Go.Proofs.YtddolmklnifnmaaGreatDoor.recs

namespace Go.Proofs.YtddolmklnifnmaaGreatDoor.pairs
open Go Go.RowKit Go.Proofs.YtddolmklnifnmaaGreatDoor.base Go.Proofs.YtddolmklnifnmaaGreatDoor.helps
set_option linter.unusedVariables false
set_option linter.unusedSimpArgs false

set_option maxHeartbeats 400000 in
theorem toPair (k v : ByteArray) (w : World) :
    Calls Tryz.prog 101 #[.agg #[.string k, .string v]] w fun e w' => e = .returned (.agg #[.string k, .string v]) ∧ Below w.heap.size w w' := by
  go_enter Tryz.func101, Tryz.ntmps101
  have hB : Below w.heap.size w (((w.alloc (.cells #[.string k, .string v] 135)).alloc (.cells #[.string k, .string v] 74)).alloc (.cells #[.string k, .string v] 74)) :=
    (((Below.refl _ _).alloc (Nat.le_refl _) _).alloc (by simp) _).alloc (by simp; omega) _
  go_wp2
  refine bodyPost_ret (v := .agg #[.string k, .string v]) ?h1 rfl ⟨rfl, hB⟩
  simp [results, Tryz.results101, go_sem]

def szR (L t : Nat) : Int := if t ≤ L then (L : Int) - (t : Int) else -1
theorem szR_neg {L t : Nat} (h : L < t) : szR L t = -1 := by unfold szR; rw [if_neg (by omega)]
theorem szR_pos {L t : Nat} (h : t ≤ L) : szR L t = (L : Int) - (t : Int) := by unfold szR; rw [if_pos h]
def psz (p : Pr) : Nat := p.1.size + p.2.size
def sumP (l : List Pr) : Nat := (l.map psz).sum
theorem sumP_take (l : List Pr) (k : Nat) (h : k < l.length) : sumP (l.take (k + 1)) = sumP (l.take k) + psz l[k] := by
  unfold sumP; rw [take_snocP l k h, List.map_append, List.sum_append]; simp
theorem sumP_le (l : List Pr) (k : Nat) : sumP (l.take k) ≤ sumP l := by
  have e : sumP l = sumP (l.take k) + sumP (l.drop k) := by
    unfold sumP; rw [← List.sum_append, ← List.map_append, List.take_append_drop]
  omega
theorem psz_le (l : List Pr) : ∀ p ∈ l, psz p ≤ sumP l := by
  induction l with
  | nil => intro s h; exact absurd h List.not_mem_nil
  | cons x l ih =>
    intro s h
    simp only [sumP, List.map_cons, List.sum_cons] at *
    rcases List.mem_cons.1 h with h | h
    · subst h; omega
    · have := ih s h; omega

set_option maxHeartbeats 400000 in
theorem szPair (p : Pr) (L : Nat) (w : World) (hp : small p) (hL : L ≤ 1099511627776) :
    Calls Tryz.prog 99 #[.agg #[.string p.1, .string p.2], .int .i64 (L : Int)] w fun e w' => e = .returned (.int .i64 (szR L (psz p))) ∧ Below w.heap.size w w' := by
  have h1 := hp.1
  have h2 := hp.2
  unfold maxLen at h1 h2
  have hB : Below w.heap.size w (w.alloc (.cells #[.string p.1, .string p.2] 135)) := (Below.refl _ _).alloc (Nat.le_refl _) _
  by_cases a1 : L < p.1.size
  · have a2 : (L : Int) - (p.1.size : Int) < 0 := by omega
    have HZ : Hid (szR L (psz p) = -1) := szR_neg (by unfold psz; omega)
    go_enter Tryz.func99, Tryz.ntmps99
    go_wp2
    go_ret
    exact ⟨ret_int HZ.out.symm, hB⟩
  · have a2 : ¬ (L : Int) - (p.1.size : Int) < 0 := by omega
    by_cases a3 : L < p.1.size + p.2.size
    · have a4 : (L : Int) - (p.1.size : Int) - (p.2.size : Int) < 0 := by omega
      have HZ : Hid (szR L (psz p) = -1) := szR_neg (by unfold psz; omega)
      go_enter Tryz.func99, Tryz.ntmps99
      go_wp2
      go_ret
      exact ⟨ret_int HZ.out.symm, hB⟩
    · have a4 : ¬ (L : Int) - (p.1.size : Int) - (p.2.size : Int) < 0 := by omega
      have HZ : Hid (szR L (psz p) = (L : Int) - (p.1.size : Int) - (p.2.size : Int)) := by show _ = _; rw [szR_pos (by unfold psz; omega)]; unfold psz; omega
      go_enter Tryz.func99, Tryz.ntmps99
      go_wp2
      go_ret
      exact ⟨ret_int HZ.out.symm, hB⟩

set_option maxHeartbeats 400000 in
theorem eqPair (p q : Pr) (w : World) :
    Calls Tryz.prog 103 #[.agg #[.string p.1, .string p.2], .agg #[.string q.1, .string q.2]] w fun e w' => e = .returned (.bool (decide (p = q))) ∧ Below w.heap.size w w' := by
  have hB : Below w.heap.size w ((w.alloc (.cells #[.string p.1, .string p.2] 74)).alloc (.cells #[.string q.1, .string q.2] 74)) := ((Below.refl _ _).alloc (Nat.le_refl _) _).alloc (by simp) _
  obtain ⟨p1, p2⟩ := p
  obtain ⟨q1, q2⟩ := q
  by_cases e1 : p1 = q1
  · subst e1
    by_cases e2 : p2 = q2
    · subst e2
      go_enter Tryz.func103, Tryz.ntmps103
      go_wp2
      go_ret
      exact ⟨ret_bool (by simp), hB⟩
    · have hq := str_ne e2
      have HE := Hid.mk' e2
      clear e2
      go_enter Tryz.func103, Tryz.ntmps103
      go_wp2
      go_ret
      exact ⟨ret_bool (by have := HE.out; simp [this]), hB⟩
  · have hq := str_ne e1
    have HE := Hid.mk' e1
    clear e1
    go_enter Tryz.func103, Tryz.ntmps103
    go_wp2
    go_ret
    exact ⟨ret_bool (by have := HE.out; simp [this]), hB⟩

def zeroP : Pr := (⟨#[]⟩, ⟨#[]⟩)
def copyP (l : List Pr) (k : Nat) : List Pr := l.take k ++ List.replicate (l.length - k) zeroP
theorem copyP_length (l : List Pr) (k : Nat) (h : k ≤ l.length) : (copyP l k).length = l.length := by simp [copyP]; omega
theorem copyP_zero (l : List Pr) : copyP l 0 = List.replicate l.length zeroP := by simp [copyP]
theorem copyP_all (l : List Pr) : copyP l l.length = l := by simp [copyP]
theorem copyP_small (l : List Pr) (k : Nat) (h : ∀ p ∈ l, small p) : ∀ p ∈ copyP l k, small p := by
  intro p hp
  rcases List.mem_append.1 hp with h1 | h1
  · exact h p (List.mem_of_mem_take h1)
  · obtain rfl := (List.mem_replicate.1 h1).2; exact ⟨Nat.zero_le _, Nat.zero_le _⟩
theorem copyP_set (l : List Pr) (k : Nat) (h : k < l.length) : (copyP l k).set k l[k] = copyP l (k + 1) := by
  unfold copyP
  rw [List.set_append_right _ _ (by simp; omega), take_snocP l k h, List.append_assoc]
  congr 1
  rw [List.length_take_of_le (by omega), Nat.sub_self, show l.length - k = l.length - (k + 1) + 1 by omega, List.replicate_succ]
  rfl
theorem pairVals_rep (n : Nat) : pairVals (List.replicate n zeroP) = (madeCells #[.string ⟨#[]⟩, .string ⟨#[]⟩] (n * 2)).toList := by
  have e1 : pairVals (List.replicate n zeroP) = List.replicate (n * 2) (.string ⟨#[]⟩) := by
    induction n with
    | zero => rfl
    | succ n ih => rw [List.replicate_succ, pairVals_cons, ih, show (n + 1) * 2 = n * 2 + 1 + 1 by omega, List.replicate_succ, List.replicate_succ]; rfl
  rw [e1]
  apply List.ext_getElem
  · simp [madeCells]
  · intro j h1 h2
    have hm : j % 2 = 0 ∨ j % 2 = 1 := by omega
    rcases hm with hm | hm <;> simp [madeCells, hm]

set_option maxRecDepth 100000 in
set_option maxHeartbeats 1000000 in
theorem toPairS (a : Option Addr) (len cap : Nat) (l : List Pr) (w : World) (h : SlP w a len l) (hsz : len ≤ 1099511627776) :
    Calls Tryz.prog 56 #[.slice a len cap] w fun e w' => ∃ g, e = .returned (.slice (some ⟨g, 0, none⟩) len len) ∧ OwnP w' w.heap.size g len len l ∧ Below w.heap.size w w' := by
  obtain ⟨hl, hm, hsm, hc⟩ := h
  subst hl
  have hm' := hm
  unfold maxLen at hm'
  obtain ⟨i0, hif, hz0, hz1, hz2⟩ := info_parts infoP
  go_enter Tryz.func56, Tryz.ntmps56
  go_wp2_with (at_make; refine wpList_make_full _ rfl _ _ 25 rfl w.heap.size 74 i0 (.agg #[.string ⟨#[]⟩, .string ⟨#[]⟩]) 2 Tryz.underlying25 hif hz0 hz1 _ _ _ _ l.length rfl rfl rfl rfl ?b2 ?b3 ?b4 ?_)
  case b2 => rw [hz2]; omega
  case b3 => exact hm
  case b4 => exact Nat.le_refl _
  intro w1 hown hgrow
  have hOwn : OwnP w1 w.heap.size w.heap.size l.length l.length (copyP l 0) := by
    refine ⟨copyP_length l 0 (Nat.zero_le _), copyP_small l 0 hsm, ?_⟩
    rw [copyP_zero, pairVals_rep]; exact hown
  have hbel : Below w.heap.size w w1 := (Below.refl _ _).grown hgrow (Nat.le_refl _) (fun k e => by cases e)
  clear hown hgrow hif hz0 hz1 hz2
  go_wp2_with fail
  go_loopw [4] (fun i wr => ∃ k : Nat, k ≤ l.length ∧ i = .int .i64 k ∧ OwnP wr w.heap.size w.heap.size l.length l.length (copyP l k) ∧ Below w.heap.size w wr) (fun i _ => l.length - (intOf i).toNat)
  case atStart => exact ⟨0, Nat.zero_le _, rfl, hOwn, hbel⟩
  case round =>
    clear hOwn hbel
    obtain ⟨k, hk, rfl, hO, hB⟩ := hrel
    by_cases hlt : k < l.length
    · obtain ⟨b, off, ha, hcl⟩ := hc (by omega)
      subst ha
      have hbb : b < w.heap.size := World.block_lt_of_cell? w _ (hcl k hlt).1
      have c1 : wr.cell? ⟨b, off + k * 2, none⟩ = some (.string l[k].1) := (hB.cell (p := ⟨b, off + k * 2, none⟩) hbb).trans (hcl k hlt).1
      have c2 : wr.cell? ⟨b, off + k * 2 + 1, none⟩ = some (.string l[k].2) := (hB.cell (p := ⟨b, off + k * 2 + 1, none⟩) hbb).trans (hcl k hlt).2
      have hpk := hsm _ (List.getElem_mem hlt)
      have hki : (k : Int) < (l.length : Int) := by omega
      have HS := Hid.mk' (copyP_set l k hlt)
      generalize l[k] = p at *
      clear hcl hc
      go_wp2_with fail
      refine (toPair p.1 p.2 _).mono ?_
      rintro e w2 ⟨rfl, hB2⟩
      have hO2 := hO.below hB2
      have hB3 := hB.trans (hB2.mono hB.size)
      have hkl : k < (copyP l k).length := by rw [copyP_length l k hk]; exact hlt
      have d1 := hO2.key k hkl
      have d2 := hO2.val k hkl
      have f1 := hO2.frozen (k * 2)
      have f2 := hO2.frozen (k * 2 + 1)
      have R := hO2.setBoth k hkl p.1 p.2 hpk.1 hpk.2
      rw [HS.out] at R
      have HR := Hid.mk' R
      generalize (copyP l k)[k].1 = z1 at *
      generalize (copyP l k)[k].2 = z2 at *
      clear R hO hO2 hB hB2 c1 c2
      go_wp2_with fail
      go_roundw
      case rel => exact ⟨k + 1, by omega, by go_num, HR.out.1, hB3.trans (below_grown HR.out.2 (Nat.le_refl _) hB3.size)⟩
      case measure => simp [intOf]; omega
    · go_wp2_with fail
      go_ret
      have e : k = l.length := by omega
      subst e
      rw [copyP_all] at hO
      exact ⟨_, rfl, hO, hB⟩

set_option maxRecDepth 100000 in
set_option maxHeartbeats 1000000 in
theorem szPairS (a : Option Addr) (len cap : Nat) (l : List Pr) (L : Nat) (w : World) (h : SlP w a len l) (hL : L ≤ 1099511627776) :
    Calls Tryz.prog 53 #[.slice a len cap, .int .i64 (L : Int)] w fun e w' => e = .returned (.int .i64 (szR L (l.length + sumP l))) ∧ Below w.heap.size w w' := by
  obtain ⟨hl, hm, hsm, hc⟩ := h
  subst hl
  unfold maxLen at hm
  by_cases hneg : L < l.length
  · rw [szR_neg (by omega)]
    have h1 : (L : Int) - (l.length : Int) < 0 := by omega
    go_enter Tryz.func53, Tryz.ntmps53
    go_wp2
    go_ret
    exact ⟨rfl, Below.refl _ _⟩
  · have h1 : ¬ (L : Int) - (l.length : Int) < 0 := by omega
    go_enter Tryz.func53, Tryz.ntmps53
    go_wp2_with fail
    go_loopw [1, 5] (fun lv i wr => ∃ k m : Nat, k ≤ l.length ∧ i = .int .i64 (k : Int) ∧ lv = .int .i64 (m : Int) ∧ m + (l.length + sumP (l.take k)) = L ∧ Below w.heap.size w wr) (fun _ i _ => l.length - (intOf i).toNat)
    case atStart => exact ⟨0, L - l.length, Nat.zero_le _, rfl, by go_num, by simp [sumP]; omega, Below.refl _ _⟩
    case round =>
      obtain ⟨k, m, hk, rfl, rfl, hmL, hB⟩ := hrel
      by_cases hlt : k < l.length
      · obtain ⟨b, off, ha, hcl⟩ := hc (by omega)
        subst ha
        have hst := sumP_take l k hlt
        have hle := sumP_le l (k + 1)
        have hbb : b < w.heap.size := World.block_lt_of_cell? w _ (hcl k hlt).1
        have c1 : wr.cell? ⟨b, off + k * 2, none⟩ = some (.string l[k].1) := (hB.cell (p := ⟨b, off + k * 2, none⟩) hbb).trans (hcl k hlt).1
        have c2 : wr.cell? ⟨b, off + k * 2 + 1, none⟩ = some (.string l[k].2) := (hB.cell (p := ⟨b, off + k * 2 + 1, none⟩) hbb).trans (hcl k hlt).2
        have hpk := hsm _ (List.getElem_mem hlt)
        have hi1 : (k : Int) < (l.length : Int) := by omega
        have hmB : m ≤ 1099511627776 := by omega
        have HML := Hid.mk' hmL
        have HST := Hid.mk' hst
        have HLE := Hid.mk' hle
        generalize l[k] = p at *
        clear hcl hc hsm hmL hst hle
        have hcall := szPair p m wr hpk hmB
        by_cases hover : m < psz p
        · rw [szR_neg hover] at hcall
          have HC := Hid.mk' hcall
          clear hcall
          go_wp2_with fail
          refine HC.out.mono ?_
          rintro e w2 ⟨rfl, hB2⟩
          go_wp2_with fail
          go_ret
          have e1 := HML.out
          have e2 := HST.out
          have e3 := HLE.out
          rw [szR_neg (by omega)]
          exact ⟨rfl, hB.trans (hB2.mono hB.size)⟩
        · rw [szR_pos (by omega), show (m : Int) - (psz p : Int) = ((m - psz p : Nat) : Int) by omega] at hcall
          have HC := Hid.mk' hcall
          obtain ⟨m2, hm2⟩ : ∃ m2, m - psz p = m2 := ⟨_, rfl⟩
          rw [hm2] at HC
          have HM2 := Hid.mk' hm2
          have hm2b : m2 ≤ 1099511627776 := by omega
          clear hcall hm2
          go_wp2_with fail
          refine HC.out.mono ?_
          rintro e w2 ⟨rfl, hB2⟩
          go_wp2_with fail
          go_roundw
          case rel => exact ⟨k + 1, m2, by omega, by go_num, rfl, by have e1 := HML.out; have e2 := HST.out; have e3 := HM2.out; omega, hB.trans (hB2.mono hB.size)⟩
          case measure => simp [intOf]; omega
      · have e : k = l.length := by omega
        have HML := Hid.mk' hmL
        clear hmL
        go_wp2_with fail
        go_ret
        have e1 := HML.out
        rw [e, List.take_length] at e1
        rw [szR_pos (by omega)]
        exact ⟨ret_int (by omega), hB⟩

theorem take_eqP {l l2 : List Pr} {k : Nat} (h : l.take k = l2.take k) (h1 : k < l.length) (h2 : k < l2.length) (e : l[k] = l2[k]) : l.take (k + 1) = l2.take (k + 1) := by
  rw [take_snocP l k h1, take_snocP l2 k h2, h, e]
set_option maxRecDepth 100000 in
set_option maxHeartbeats 1000000 in
theorem eqPairS (a a2 : Option Addr) (len cap len2 cap2 : Nat) (l l2 : List Pr) (w : World) (h : SlP w a len l) (h2 : SlP w a2 len2 l2) :
    Calls Tryz.prog 59 #[.slice a len cap, .slice a2 len2 cap2] w fun e w' => e = .returned (.bool (decide (l = l2))) ∧ Below w.heap.size w w' := by
  obtain ⟨hl, hm, _, hc⟩ := h
  obtain ⟨hl2, hm2, _, hc2⟩ := h2
  subst hl hl2
  unfold maxLen at hm hm2
  by_cases hne : l.length = l2.length
  · have hb : ((l.length : Int) == (l2.length : Int)) = true := by simp; omega
    go_enter Tryz.func59, Tryz.ntmps59
    go_wp2_with fail
    go_loopw [5] (fun i wr => ∃ k : Nat, k ≤ l.length ∧ i = .int .i64 k ∧ l.take k = l2.take k ∧ Below w.heap.size w wr) (fun i _ => l.length - (intOf i).toNat)
    case atStart => exact ⟨0, Nat.zero_le _, rfl, rfl, Below.refl _ _⟩
    case round =>
      obtain ⟨k, hk, rfl, htk, hB⟩ := hrel
      by_cases hlt : k < l.length
      · obtain ⟨b, off, ha, hcl⟩ := hc (by omega)
        obtain ⟨b2, off2, ha2, hcl2⟩ := hc2 (by omega)
        subst ha ha2
        have hlt2 : k < l2.length := by omega
        have hi1 : (k : Int) < (l.length : Int) := by omega
        have hi2 : (k : Int) < (l2.length : Int) := by omega
        have HT := Hid.mk' htk
        have hb1 : b < w.heap.size := World.block_lt_of_cell? w _ (hcl k hlt).1
        have hb2 : b2 < w.heap.size := World.block_lt_of_cell? w _ (hcl2 k hlt2).1
        have c1 := (hB.cell (p := ⟨b, off + k * 2, none⟩) hb1).trans (hcl k hlt).1
        have c2 := (hB.cell (p := ⟨b, off + k * 2 + 1, none⟩) hb1).trans (hcl k hlt).2
        have c3 := (hB.cell (p := ⟨b2, off2 + k * 2, none⟩) hb2).trans (hcl2 k hlt2).1
        have c4 := (hB.cell (p := ⟨b2, off2 + k * 2 + 1, none⟩) hb2).trans (hcl2 k hlt2).2
        have o1 := last.On.cell (B := wr.heap.size) c1 (by have := hB.size; omega)
        have o2 := last.On.cell (B := wr.heap.size) c2 (by have := hB.size; omega)
        have o3 := last.On.cell (B := wr.heap.size) c3 (by have := hB.size; omega)
        have o4 := last.On.cell (B := wr.heap.size) c4 (by have := hB.size; omega)
        have hinh := last.On.inh wr.heap.size wr
        have hcall : ∀ x : last.On wr.heap.size wr, Calls Tryz.prog 103 #[.agg #[.string l[k].1, .string l[k].2], .agg #[.string l2[k].1, .string l2[k].2]] x.w fun e w' => e = .returned (.bool (decide (l[k] = l2[k]))) ∧ ∃ y : last.On wr.heap.size wr, w' = y.w := fun x => last.Calls.on x (Nat.le_refl _) (eqPair l[k] l2[k] x.w)
        by_cases e : l[k] = l2[k]
        · rw [decide_eq_true e] at hcall
          have HE := Hid.mk' (take_eqP htk hlt hlt2 e)
          clear hcl hcl2 hc hc2 htk hne e
          generalize l[k] = p at *
          generalize l2[k] = q at *
          go_wp2_with fail
          refine last.wp_region_on wr.heap.size (by kernel_rfl) (by kernel_rfl) ?_
          repeat (go_big_quiet_step ((go_at_call 103; exact hcall _)))
          refine wpQuiet_nil ?_
          intro w5 hw5
          obtain ⟨x5, hw5⟩ := hw5
          subst hw5
          have hB5 : Below w.heap.size w x5.w := hB.trans (x5.2.mono hB.size)
          go_wp2_with fail
          go_roundw
          case rel => exact ⟨k + 1, by omega, by go_num, HE.out, hB5⟩
          case measure => simp [intOf]; omega
        · rw [decide_eq_false e] at hcall
          have HE : Hid (¬ l = l2) := by
            show ¬ _
            rintro rfl; exact e rfl
          clear hcl hcl2 hc hc2 htk hne e
          generalize l[k] = p at *
          generalize l2[k] = q at *
          go_wp2_with fail
          refine last.wp_region_on wr.heap.size (by kernel_rfl) (by kernel_rfl) ?_
          repeat (go_big_quiet_step ((go_at_call 103; exact hcall _)))
          refine wpQuiet_nil ?_
          intro w5 hw5
          obtain ⟨x5, hw5⟩ := hw5
          subst hw5
          have hB5 : Below w.heap.size w x5.w := hB.trans (x5.2.mono hB.size)
          go_wp2_with fail
          go_ret
          exact ⟨ret_bool (by symm; rw [decide_eq_false_iff_not]; exact HE.out), hB5⟩
      · have e : k = l.length := by omega
        have hfin : l = l2 := by
          subst e
          rw [List.take_of_length_le (Nat.le_refl _), List.take_of_length_le (by omega)] at htk
          exact htk
        have HF := Hid.mk' hfin
        clear hfin htk
        go_wp2_with fail
        go_ret
        exact ⟨ret_bool (by symm; rw [decide_eq_true_iff]; exact HF.out), hB⟩
  · have hb : ((l.length : Int) == (l2.length : Int)) = false := by simp; omega
    go_enter Tryz.func59, Tryz.ntmps59
    go_wp2
    go_ret
    exact ⟨ret_bool (by symm; rw [decide_eq_false_iff_not]; intro h; exact hne (by rw [h])), Below.refl _ _⟩

end Go.Proofs.YtddolmklnifnmaaGreatDoor.pairs

namespace Go.Proofs.YtddolmklnifnmaaGreatDoor.pairs
open Go Go.RowKit Go.Proofs.YtddolmklnifnmaaGreatDoor.base Go.Proofs.YtddolmklnifnmaaGreatDoor.helps
set_option linter.unusedVariables false
set_option linter.unusedSimpArgs false

def marksP (k0 n : Nat) : List Pr := (List.range n).map fun j => (markBytes (k0 + 2 * j), markBytes (k0 + 2 * j + 1))
def markPTo (l : List Pr) (k0 i : Nat) : List Pr := marksP k0 i ++ l.drop i
theorem marksP_length (k0 n : Nat) : (marksP k0 n).length = n := by simp [marksP]
theorem marksP_get (k0 n i : Nat) (h : i < n) : (marksP k0 n)[i]'(by rw [marksP_length]; exact h) = (markBytes (k0 + 2 * i), markBytes (k0 + 2 * i + 1)) := by simp [marksP]
theorem markPTo_length (l : List Pr) (k0 i : Nat) (h : i ≤ l.length) : (markPTo l k0 i).length = l.length := by simp [markPTo, marksP]; omega
theorem markPTo_zero (l : List Pr) (k0 : Nat) : markPTo l k0 0 = l := by simp [markPTo, marksP]
theorem markPTo_all (l : List Pr) (k0 : Nat) : markPTo l k0 l.length = marksP k0 l.length := by simp [markPTo]
theorem markPTo_set (l : List Pr) (k0 i : Nat) (h : i < l.length) : (markPTo l k0 i).set i (markBytes (k0 + 2 * i), markBytes (k0 + 2 * i + 1)) = markPTo l k0 (i + 1) := by
  unfold markPTo marksP
  rw [List.set_append_right _ _ (by simp)]
  simp only [List.length_map, List.length_range, Nat.sub_self, List.range_succ, List.map_append, List.map_cons, List.map_nil, List.append_assoc]
  congr 1
  rw [List.drop_eq_getElem_cons h]
  rfl

set_option maxRecDepth 100000 in
set_option maxHeartbeats 1000000 in
theorem markPairS (g len cap k0 base : Nat) (l : List Pr) (w : World) (h : OwnP w base g len cap l) (hk1 : 1 ≤ k0) (hk0 : k0 + 2 * len ≤ 1099511627776) :
    Calls Tryz.prog 62 #[.slice (some ⟨g, 0, none⟩) len cap, .int .i64 (k0 : Nat)] w fun e w' => e = .returned (.int .i64 ((k0 + 2 * len : Nat) : Int)) ∧ OwnP w' base g len cap (marksP k0 len) ∧ w.grownBy w' (some g) := by
  have hl := h.1
  subst hl
  go_enter Tryz.func62, Tryz.ntmps62
  go_wp2_with fail
  go_loopw [1, 5] (fun kv i wr => ∃ k : Nat, k ≤ l.length ∧ i = .int .i64 k ∧ kv = .int .i64 ((k0 + 2 * k : Nat) : Int) ∧ OwnP wr base g l.length cap (markPTo l k0 k) ∧ w.grownBy wr (some g)) (fun _ i _ => l.length - (intOf i).toNat)
  case atStart => exact ⟨0, Nat.zero_le _, rfl, rfl, by rw [markPTo_zero]; exact h, World.grownBy.refl _ _⟩
  case round =>
    obtain ⟨k, hk, rfl, rfl, hO, hG⟩ := hrel
    by_cases hlt : k < l.length
    · have hlen : k < (markPTo l k0 k).length := by rw [markPTo_length l k0 k hk]; exact hlt
      have HS := Hid.mk' (markPTo_set l k0 k hlt)
      have hki : (k : Int) < (l.length : Int) := by omega
      go_wp2_with fail
      refine (markTextI _ (k0 + 2 * k) _ (by show _ = _; omega) (by omega) (by omega)).mono ?_
      rintro e w1 ⟨rfl, hB1⟩
      have hO1 := hO.below hB1
      have hG1 := grown_below hG hB1
      have d1 := hO1.key k hlen
      have f1 := hO1.frozen (k * 2)
      have R := hO1.setKey k hlen (markBytes (k0 + 2 * k)) (mark_max _)
      have HR := Hid.mk' R
      have hG2 := grownBy_trans hG1 R.2
      clear R hO hG hO1 hG1
      go_wp2_with fail
      refine (markTextI _ (k0 + 2 * k + 1) _ (by show _ = _; omega) (by omega) (by omega)).mono ?_
      rintro e w2 ⟨rfl, hB2⟩
      have hO2 := HR.out.1.below hB2
      have hG3 := grown_below hG2 hB2
      have hlen2 : k < ((markPTo l k0 k).set k (markBytes (k0 + 2 * k), (markPTo l k0 k)[k].2)).length := by simpa using hlen
      have d2 := hO2.val k hlen2
      have f2 := hO2.frozen (k * 2 + 1)
      have R2 := hO2.setVal k hlen2 (markBytes (k0 + 2 * k + 1)) (mark_max _)
      simp only [List.getElem_set_self, List.set_set] at R2
      rw [HS.out] at R2
      have HR2 := Hid.mk' R2
      have hG4 := grownBy_trans hG3 R2.2
      clear R2 hO2 hG3 hG2 HR d1 f1
      go_wp2_with fail
      go_roundw
      case rel => exact ⟨k + 1, by omega, by go_num, by go_num, HR2.out.1, hG4⟩
      case measure => simp [intOf]; omega
    · go_wp2_with fail
      go_ret
      have e : k = l.length := by omega
      subst e
      rw [markPTo_all] at hO
      exact ⟨rfl, hO, hG⟩

set_option maxRecDepth 100000 in
set_option maxHeartbeats 1000000 in
theorem heldPairS (a : Option Addr) (len cap k0 : Nat) (w : World) (h : SlP w a len (marksP k0 len)) (hk1 : 1 ≤ k0) (hk0 : k0 + 2 * len ≤ 1099511627776) :
    Calls Tryz.prog 65 #[.slice a len cap, .int .i64 (k0 : Nat)] w fun e w' => e = .returned (.int .i64 ((k0 + 2 * len : Nat) : Int)) ∧ Below w.heap.size w w' := by
  obtain ⟨hl, hm, _, hc⟩ := h
  go_enter Tryz.func65, Tryz.ntmps65
  go_wp2_with fail
  go_loopw [1, 5] (fun kv i wr => ∃ k : Nat, k ≤ len ∧ i = .int .i64 k ∧ kv = .int .i64 ((k0 + 2 * k : Nat) : Int) ∧ Below w.heap.size w wr) (fun _ i _ => len - (intOf i).toNat)
  case atStart => exact ⟨0, Nat.zero_le _, rfl, rfl, Below.refl _ _⟩
  case round =>
    obtain ⟨k, hk, rfl, rfl, hB⟩ := hrel
    by_cases hlt : k < len
    · obtain ⟨b, off, ha, hcl⟩ := hc (by omega)
      subst ha
      have hkl : k < (marksP k0 len).length := by omega
      obtain ⟨d1, d2⟩ := hcl k hkl
      rw [marksP_get k0 len k hlt] at d1 d2
      have hbb : b < w.heap.size := World.block_lt_of_cell? w _ d1
      have c1 := (hB.cell (p := ⟨b, off + k * 2, none⟩) hbb).trans d1
      have c2 := (hB.cell (p := ⟨b, off + k * 2 + 1, none⟩) hbb).trans d2
      have hbw := hB.size
      have o1 := last.On.cell (B := wr.heap.size) c1 (by omega)
      have hinh := last.On.inh wr.heap.size wr
      have hki : (k : Int) < (len : Int) := by omega
      have hm1 : ∀ x : last.On wr.heap.size wr, Calls Tryz.prog 63 #[.int .i64 ((k0 : Int) + 2 * (k : Int))] x.w fun e w' => e = .returned (.string (markBytes (k0 + 2 * k))) ∧ ∃ y : last.On wr.heap.size wr, w' = y.w := fun x => last.Calls.on x (Nat.le_refl _) (markTextI _ (k0 + 2 * k) x.w (by show _ = _; omega) (by omega) (by omega))
      clear hcl hc d1 d2 hkl
      generalize hM1 : markBytes (k0 + 2 * k) = M1 at *
      generalize hM2 : markBytes (k0 + 2 * k + 1) = M2 at *
      have HM2 := Hid.mk' hM2
      clear hM1 hM2
      go_wp2_with fail
      refine last.wp_region_on wr.heap.size (by kernel_rfl) (by kernel_rfl) ?_
      repeat (go_big_quiet_step ((go_at_call 63; exact hm1 _)))
      refine wpQuiet_nil ?_
      intro w5 hw5
      obtain ⟨x5, hw5⟩ := hw5
      subst hw5
      have hB5 : Below w.heap.size w x5.w := hB.trans (x5.2.mono hB.size)
      have c2' : x5.w.cell? ⟨b, off + k * 2 + 1, none⟩ = some (.string M2) := (x5.2.cell (p := ⟨b, off + k * 2 + 1, none⟩) (by show b < _; omega)).trans c2
      generalize x5.w = w6 at *
      clear o1 hinh hm1 c1 c2
      have hbw6 := hB5.size
      have o2 := last.On.cell (B := w6.heap.size) c2' (by omega)
      have hinh := last.On.inh w6.heap.size w6
      have hm2 : ∀ x : last.On w6.heap.size w6, Calls Tryz.prog 63 #[.int .i64 ((k0 : Int) + 2 * (k : Int) + 1)] x.w fun e w' => e = .returned (.string M2) ∧ ∃ y : last.On w6.heap.size w6, w' = y.w := fun x => last.Calls.on x (Nat.le_refl _) (by rw [← HM2.out]; exact markTextI _ (k0 + 2 * k + 1) x.w (by show _ = _; omega) (by omega) (by omega))
      clear HM2
      go_wp2_with fail
      refine last.wp_region_on w6.heap.size (by kernel_rfl) (by kernel_rfl) ?_
      repeat (go_big_quiet_step ((go_at_call 63; exact hm2 _)))
      refine wpQuiet_nil ?_
      intro w7 hw7
      obtain ⟨x7, hw7⟩ := hw7
      subst hw7
      have hB7 : Below w.heap.size w x7.w := hB5.trans (x7.2.mono hB5.size)
      go_wp2_with fail
      go_roundw
      case rel => exact ⟨k + 1, by omega, by go_num, by go_num, hB7⟩
      case measure => simp [intOf]; omega
    · go_wp2_with fail
      go_ret
      have e : k = len := by omega
      subst e
      exact ⟨rfl, hB⟩

set_option maxRecDepth 100000 in
set_option maxHeartbeats 1000000 in
theorem samePairs (a a2 : Option Addr) (len cap len2 cap2 : Nat) (l l2 : List Pr) (w : World) (h : SlP w a len l) (h2 : SlP w a2 len2 l2) :
    Calls Tryz.prog 11 #[.slice a len cap, .slice a2 len2 cap2] w fun e w' => e = .returned (.bool (decide (l = l2))) ∧ ∃ n, w' = w.drewN n := by
  obtain ⟨hl, hm, _, hc⟩ := h
  obtain ⟨hl2, hm2, _, hc2⟩ := h2
  subst hl hl2
  unfold maxLen at hm hm2
  by_cases hne : l.length = l2.length
  · have hb : ((l.length : Int) == (l2.length : Int)) = true := by simp; omega
    go_enter Tryz.func11, Tryz.ntmps11
    go_wp2_with fail
    go_loopw [5] (fun i wr => ∃ k : Nat, k ≤ l.length ∧ i = .int .i64 k ∧ l.take k = l2.take k ∧ ∃ n, wr = w.drewN n) (fun i _ => l.length - (intOf i).toNat)
    case atStart => exact ⟨0, Nat.zero_le _, rfl, rfl, 0, rfl⟩
    case round =>
      obtain ⟨k, hk, rfl, htk, n, rfl⟩ := hrel
      by_cases hlt : k < l.length
      · obtain ⟨b, off, ha, hcl⟩ := hc (by omega)
        obtain ⟨b2, off2, ha2, hcl2⟩ := hc2 (by omega)
        subst ha ha2
        have hlt2 : k < l2.length := by omega
        have hi1 : (k : Int) < (l.length : Int) := by omega
        have hi2 : (k : Int) < (l2.length : Int) := by omega
        obtain ⟨c1, c2⟩ := hcl k hlt
        obtain ⟨c3, c4⟩ := hcl2 k hlt2
        by_cases e : l[k] = l2[k]
        · have HE := Hid.mk' (take_eqP htk hlt hlt2 e)
          rw [← e] at c3 c4
          clear hcl hcl2 hc hc2 htk hne e
          generalize l[k] = p at *
          go_wp2_with fail
          go_quiet (fail)
          go_wp2_with fail
          go_roundw
          case rel => exact ⟨k + 1, by omega, by go_num, HE.out, _, rfl⟩
          case measure => simp [intOf]; omega
        · have HE : Hid (¬ l = l2) := by
            show ¬ _
            rintro rfl; exact e rfl
          generalize l[k] = p at *
          generalize l2[k] = q at *
          clear hcl hcl2 hc hc2 htk hne
          by_cases e1 : p.1 = q.1
          · have hq := str_ne (fun e2 : p.2 = q.2 => e (Prod.ext e1 e2))
            rw [← e1] at c3
            generalize p.1 = p1 at *
            generalize p.2 = p2 at *
            generalize q.2 = q2 at *
            clear e e1
            go_wp2_with fail
            go_quiet (fail)
            go_wp2_with fail
            go_ret
            exact ⟨ret_bool (by symm; rw [decide_eq_false_iff_not]; exact HE.out), _, World.drewN_drewN _ _ _⟩
          · have hq := str_ne e1
            generalize p.1 = p1 at *
            generalize p.2 = p2 at *
            generalize q.1 = q1 at *
            generalize q.2 = q2 at *
            clear e e1
            go_wp2_with fail
            go_quiet (fail)
            go_wp2_with fail
            go_ret
            exact ⟨ret_bool (by symm; rw [decide_eq_false_iff_not]; exact HE.out), _, World.drewN_drewN _ _ _⟩
      · have e : k = l.length := by omega
        have hfin : l = l2 := by
          subst e
          rw [List.take_of_length_le (Nat.le_refl _), List.take_of_length_le (by omega)] at htk
          exact htk
        have HF := Hid.mk' hfin
        clear hfin htk
        go_wp2_with fail
        go_ret
        exact ⟨ret_bool (by symm; rw [decide_eq_true_iff]; exact HF.out), _, rfl⟩
  · have hb : ((l.length : Int) == (l2.length : Int)) = false := by simp; omega
    go_enter Tryz.func11, Tryz.ntmps11
    go_wp2
    go_ret
    exact ⟨ret_bool (by symm; rw [decide_eq_false_iff_not]; intro h; exact hne (by rw [h])), 0, rfl⟩

end Go.Proofs.YtddolmklnifnmaaGreatDoor.pairs
