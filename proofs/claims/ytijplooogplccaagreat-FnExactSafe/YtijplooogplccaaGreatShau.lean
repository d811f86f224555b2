/- RecZk RecZl ShA LayB RecHA RecHB RowV PairTrio OrdArg RecHC -/
import Derived.Test.YtijplooogplccaaGreatShaq
import Derived.Test.YtijplooogplccaaGreatShat
import Derived.Test.YtijplooogplccaaGreatShap
import Derived.Test.YtijplooogplccaaGreatShag
import Derived.Test.YtijplooogplccaaGreatShah
import Derived.Test.YtijplooogplccaaGreatShai
import Derived.Test.YtijplooogplccaaGreatShaj
import Derived.Test.YtijplooogplccaaGreatShab
import Derived.Test.YtijplooogplccaaGreatShad
import Derived.Deep.SlicePairs
import Derived.ChangeArms
set_option linter.unusedVariables false
set_option linter.unusedSimpArgs false
namespace Go.Proofs.YtijplooogplccaaGreat
namespace recs
open Go Go.RowKit base pairs ords
theorem spec_one (N : Prop) (w0 : World) (F0 : List Nat) (w : World) (X : Nat) (am : Option Addr) (nm cm : Nat) (ah : Option Addr) (ch : Nat) (vs : Value) (s : St) (hs : List Value) (kind tx : Int) (a : Option Addr) (len cap : Nat) (ops : List Od)
 (hK : Kept N w0 F0 w X am nm cm ah ch vs s hs) (hSo : SlO w a len ops) (hks : ∀ p ∈ ops, p.2.1.size ≤ 1099511627776) (hsr : smallR (kind, tx, ops)) (hlen : len ≤ 1099511627776) (hlh : s.2.1.length ≤ 1099511627776) (hls : s.2.2.length ≤ 1099511627776) (hfew : s.1.length ≤ 60)
 (h8 : ∀ k, k < s.2.1.length → (opsAt s.2.1 k).length ≤ 8) :
 Calls Tryz.prog 85 #[.pointer (some ⟨X, 0, none⟩), .agg #[.int .i64 kind, .int .i64 tx, .slice a len cap]] w (OnePost N w0 F0 X (one s (kind, tx, ops))) := by
 cases hok : recOk (kind, tx, ops) with
 | false =>
  have e : one s (kind, tx, ops) = none := by unfold one; rw [hok]; rfl
  rw [e]
  exact one_bad N w0 F0 w X am nm cm ah ch vs s hs kind tx a len cap ops hK hSo hks hok
 | true =>
  have hkk : kind = 1 ∨ kind = 2 ∨ kind = 3 := by
   obtain ⟨_, ⟨h1, _⟩ | ⟨h1, _⟩⟩ := (recOk_iff _).1 hok
   · exact .inl h1
   · rcases h1 with h1 | h1
     · exact .inr (.inl h1)
     · exact .inr (.inr h1)
  rcases hkk with rfl | rfl | rfl
  · have e0 : one s (1, tx, ops) = if decide (tx ∈ s.2.2) = true ∨ locked s.2.1 ops = true ∨ meets s.1 ops = false then none else some (s.1, s.2.1 ++ [(1, tx, ops)], s.2.2 ++ [tx]) := by
     unfold one; rw [if_pos hok, if_pos rfl]
    rw [e0]
    cases h1 : decide (tx ∈ s.2.2) with
    | true => rw [if_pos (.inl rfl)]; exact one_has N w0 F0 w X am nm cm ah ch vs s hs tx a len cap ops hK hSo hks hok h1
    | false =>
     cases h2 : locked s.2.1 ops with
     | true => rw [if_pos (.inr (.inl rfl))]; exact one_locked N w0 F0 w X am nm cm ah ch vs s hs tx a len cap ops hK hSo hks hok h1 h2
     | false =>
      cases h3 : meets s.1 ops with
      | false => rw [if_pos (.inr (.inr rfl))]; exact one_unmet N w0 F0 w X am nm cm ah ch vs s hs tx a len cap ops hK hSo hks hok h1 h2 h3
      | true => rw [if_neg (by simp)]; exact one_hold N w0 F0 w X am nm cm ah ch vs s hs tx a len cap ops hK hSo hks hok hsr hlen hlh hls h1 h2 h3
  · cases hpl : placeTx tx s.2.1 with
    | none =>
     have e0 : one s (2, tx, ops) = none := by
      unfold one; rw [if_pos hok, if_neg (by simp)]; simp only [hpl]; rw [if_neg (by simp)]
     rw [e0]
     exact one_lost N w0 F0 w X am nm cm ah ch vs s hs tx a len cap ops hK hSo hks hok hls hpl
    | some k =>
     have e0 : one s (2, tx, ops) = if (applyAll s.1 (opsAt s.2.1 k)).length ≤ 60 then some (applyAll s.1 (opsAt s.2.1 k), s.2.1.take k ++ s.2.1.drop (k + 1), s.2.2) else none := by
      unfold one; rw [if_pos hok, if_neg (by simp)]; simp only [hpl]; unfold nextM; simp only [if_true]
     rw [e0]
     have hk8 := h8 k (placeTx_lt hpl)
     by_cases h60 : (applyAll s.1 (opsAt s.2.1 k)).length ≤ 60
     · rw [if_pos h60]; exact one_done N w0 F0 w X am nm cm ah ch vs s hs tx a len cap ops hK hSo hks hok k hlh hpl hfew hk8 h60
     · rw [if_neg h60]; exact (one_over N w0 F0 w X am nm cm ah ch vs s hs tx a len cap ops hK hSo hks hok k hlh hpl hfew hk8 (by omega)).mono fun e w' hp => hp.none
  · cases hpl : placeTx tx s.2.1 with
    | none =>
     by_cases h1 : tx ∈ s.2.2
     · have e0 : one s (3, tx, ops) = none := by
        unfold one; rw [if_pos hok, if_neg (by simp)]; simp only [hpl]; rw [if_neg (by simp [h1])]
       rw [e0]
       exact one_gone_seen N w0 F0 w X am nm cm ah ch vs s hs tx a len cap ops hK hSo hks hok hls hpl (decide_eq_true h1)
     · have e0 : one s (3, tx, ops) = some (s.1, s.2.1, s.2.2 ++ [tx]) := by
        unfold one; rw [if_pos hok, if_neg (by simp)]; simp only [hpl]; rw [if_pos (by simp [h1])]
       rw [e0]
       exact one_gone N w0 F0 w X am nm cm ah ch vs s hs tx a len cap ops hK hSo hks hok hls hpl (decide_eq_false h1)
    | some k =>
     have e0 : one s (3, tx, ops) = some (s.1, s.2.1.take k ++ s.2.1.drop (k + 1), s.2.2) := by
      unfold one; rw [if_pos hok, if_neg (by simp)]; simp only [hpl]; unfold nextM; rw [if_neg (by decide : ¬ (3 : Int) = 2), if_pos hfew]
     rw [e0]
     exact one_end N w0 F0 w X am nm cm ah ch vs s hs tx a len cap ops hK hSo hks hok k hlh hpl hfew
structure Tame (k : Nat) (s : St) : Prop where
 few : s.1.length ≤ 60
 held : s.2.1.length ≤ k
 seen : s.2.2.length ≤ k
 ok : ∀ r ∈ s.2.1, recOk r = true
theorem tame_start : Tame 0 ([], [], []) := ⟨Nat.zero_le _, Nat.le_refl _, Nat.le_refl _, fun _ h => absurd h List.not_mem_nil⟩
theorem Tame.eight {k : Nat} {s : St} (h : Tame k s) : ∀ j, j < s.2.1.length → (opsAt s.2.1 j).length ≤ 8 := by
 intro j hj
 rw [opsAt_eq hj]
 rcases ((recOk_iff _).1 (h.ok _ (List.getElem_mem hj))).2 with ⟨_, h2⟩ | ⟨_, h2⟩
 · exact ((opsOk_iff _).1 h2).2.2
 · rw [h2]; simp
theorem Tame.step {k : Nat} {s t : St} {r : Rc} (h : Tame k s) (ho : one s r = some t) : Tame (k + 1) t := by
 unfold one at ho
 split at ho
 · next hok =>
   split at ho
   · split at ho
     · cases ho
     · cases ho
       refine ⟨h.few, by have := h.held; simp; omega, by have := h.seen; simp; omega, fun x hx => ?_⟩
       rcases List.mem_append.1 hx with h1 | h1
       · exact h.ok x h1
       · rw [List.mem_singleton.1 h1]; exact hok
   · split at ho
     · split at ho
       · cases ho
         exact ⟨h.few, by have := h.held; simp; omega, by have := h.seen; simp; omega, h.ok⟩
       · cases ho
     · split at ho
       · next h60 =>
         cases ho
         refine ⟨h60, by have := h.held; simp; omega, by have := h.seen; simp; omega, fun x hx => ?_⟩
         rcases List.mem_append.1 hx with h1 | h1
         · exact h.ok x (List.mem_of_mem_take h1)
         · exact h.ok x (List.mem_of_mem_drop h1)
       · cases ho
 · cases ho
end recs
namespace recs
open Go Go.RowKit base pairs ords
theorem row_lift {w : World} {B : Nat} {e : TypeId} {size n : Nat} {v : Value} {xs : List Value} (h : w.ownsRow 0 e size v n xs) (hB : ∀ k, v.ownBlock = some k → B ≤ k) : w.ownsRow B e size v n xs := by
 refine ⟨h.1, ?_⟩
 rcases h.2 with h' | ⟨g, cap, cur, rfl, h0, r⟩
 · exact .inl h'
 · exact .inr ⟨g, cap, cur, rfl, hB g rfl, r⟩
theorem OwnR.lift {w : World} {B : Nat} {v : Value} {l : List Rc} {hs : List Value} (h : OwnR w 0 v l hs) (hB : ∀ k, BlkR v hs k → B ≤ k) : OwnR w B v l hs :=
 ⟨h.len, h.sm, row_lift h.row (fun k e => hB k (.inl e)), fun i hi => ⟨(h.ops i hi).1, row_lift (h.ops i hi).2 (fun k e => hB k (.inr ⟨_, List.getElem_mem _, e⟩))⟩, h.apart, h.out⟩
theorem OwnPV.lift {w : World} {B : Nat} {a : Option Addr} {n cap : Nat} {l : List Pr} (h : OwnPV w a n cap l) (hn : a ≠ none) (hB : ∀ k, (Value.slice a n cap).ownBlock = some k → B ≤ k) : ∃ g, a = some ⟨g, 0, none⟩ ∧ OwnP w B g n cap l := by
 rcases h.shape with ⟨e, _⟩ | ⟨g, rfl, h⟩
 · exact absurd e hn
 · exact ⟨g, rfl, h.1, h.2.1, row_lift h.2.2 hB⟩
theorem kept_start (w : World) : Kept True w [] (((w.alloc (.cells #[] 151)).alloc (.cells #[] 133)).alloc (.cells #[.slice (some ⟨w.heap.size, 0, none⟩) 0 0, .slice (some ⟨w.heap.size + 1, 0, none⟩) 0 0, .slice none 0 0] 148))
 (w.heap.size + 1 + 1) (some ⟨w.heap.size, 0, none⟩) 0 0 (some ⟨w.heap.size + 1, 0, none⟩) 0 (.slice none 0 0) ([], [], []) [] := by
 obtain ⟨wa, hwa⟩ : ∃ wa, wa = w.alloc (.cells #[] 151) := ⟨_, rfl⟩
 have ba : Below w.heap.size w wa := by rw [hwa]; exact (Below.refl _ _).alloc (Nat.le_refl _) _
 have oa : OwnP wa w.heap.size w.heap.size 0 0 [] := by rw [hwa]; exact ownP_made w _ (Nat.le_refl _)
 have sa : wa.heap.size = w.heap.size + 1 := by rw [hwa]; simp
 rw [← hwa]
 clear hwa
 obtain ⟨wb, hwb⟩ : ∃ wb, wb = wa.alloc (.cells #[] 133) := ⟨_, rfl⟩
 have bb : Below wa.heap.size wa wb := by rw [hwb]; exact (Below.refl _ _).alloc (Nat.le_refl _) _
 have ob : OwnR wb w.heap.size (.slice (some ⟨w.heap.size + 1, 0, none⟩) 0 0) [] [] := by
  have := ownR_made wa w.heap.size ba.size
  rw [sa] at this
  rw [hwb]; exact this
 have sb : wb.heap.size = w.heap.size + 1 + 1 := by rw [hwb]; simp [sa]
 rw [← hwb]
 clear hwb
 have bd := (Below.refl _ wb).alloc (Nat.le_refl _) (.cells #[.slice (some ⟨w.heap.size, 0, none⟩) 0 0, .slice (some ⟨w.heap.size + 1, 0, none⟩) 0 0, .slice none 0 0] 148)
 have xd := heap_alloc_new wb (.cells #[.slice (some ⟨w.heap.size, 0, none⟩) 0 0, .slice (some ⟨w.heap.size + 1, 0, none⟩) 0 0, .slice none 0 0] 148)
 rw [sb] at xd
 have B1 := ba.trans (bb.mono ba.size)
 refine ⟨xd, ownPV_of ((oa.below bb).below bd), (ob.below bd).mono (Nat.zero_le _), ownQ_nil _ _, lay.Frame.of_below (B1.trans (bd.mono B1.size)), fun k e => .inr ?_, fun k e => .inr ?_, fun k e => by simp [Value.ownBlock] at e, (fun _ e => by cases e), (fun _ e => by cases e)⟩
 · have : w.heap.size = k := by simpa [Value.ownBlock] using e
   omega
 · exact (ob.lt k e).1
theorem keptBlk {N : Prop} {w0 w : World} {F0 : List Nat} {X gm nm cm ch : Nat} {ah : Option Addr} {vs : Value} {s : St} {hs : List Value} (h : Kept N w0 F0 w X (some ⟨gm, 0, none⟩) nm cm ah ch vs s hs) : ¬ BlkR (.slice ah s.2.1.length ch) hs gm := by
 intro hk
 exact h.heldRow h.m.2.2 (by decide) (by decide) gm hk rfl
set_option maxRecDepth 100000 in
set_option maxHeartbeats 2000000 in
theorem spec_replay (a : Option Addr) (len cap : Nat) (l : List Rc) (w : World) (h : SlR w a len l) (hsz : len ≤ 1099511627776 / 16) (hops : ∀ r ∈ l, r.2.2.length ≤ 1099511627776 ∧ ∀ p ∈ r.2.2, p.2.1.size ≤ 1099511627776) :
 Calls Tryz.prog 50 #[.slice a len cap] w fun e w' => RepPost w (replay l) e w' := by
 obtain ⟨hl, hm, hsm, hc⟩ := id h
 subst hl
 unfold maxLen at hm
 generalize hR : replay l = R
 have HR0 : Hid (R = replayGo ([], [], []) (l.drop 0)) := by show _ = _; rw [← hR]; rfl
 clear hR
 go_enter Tryz.func50, Tryz.ntmps50
 go_wp2_with (at_builtin; fail)
 go_loopw [6] (fun i wr => ∃ (k nm cm ch : Nat) (am ah : Option Addr) (vs : Value) (hs : List Value) (s : St), k ≤ l.length ∧ i = .int .i64 (k : Int) ∧ Kept True w [] wr (w.heap.size + 1 + 1) am nm cm ah ch vs s hs ∧ Tame k s ∧ Hid (R = replayGo s (l.drop k))) (fun i _ => l.length - (intOf i).toNat)
 case atStart => exact ⟨0, 0, 0, 0, _, _, _, [], ([], [], []), Nat.zero_le _, rfl, kept_start w, tame_start, HR0⟩
 case round =>
  clear HR0
  obtain ⟨k, nm, cm, ch, am, ah, vs, hs, s, hk, rfl, hK, hT, HR⟩ := hrel
  have hbel : Below w.heap.size w wr := hK.fr.bel (Nat.le_refl _) (fun j hj => by simp at hj; omega)
  by_cases hlt : k < l.length
  · obtain ⟨b, off, ha, _⟩ := hc (by omega)
    subst ha
    have hat := h.at k hlt
    obtain ⟨c0', c1', pa, pl, pc, c2', hSo, _⟩ := hat
    have hbw := World.block_lt_of_cell? w _ c0'
    have c0 := (hbel.cell (p := ⟨b, off + k * 3, none⟩) hbw).trans c0'
    have c1 := (hbel.cell (p := ⟨b, off + k * 3 + 1, none⟩) hbw).trans c1'
    have c2 := (hbel.cell (p := ⟨b, off + k * 3 + 2, none⟩) hbw).trans c2'
    have hki : (k : Int) < (l.length : Int) := by omega
    obtain ⟨hol, hks⟩ := hops _ (List.getElem_mem hlt)
    have hsr := hsm _ (List.getElem_mem hlt)
    have HD : Hid (R = match one s l[k] with | none => none | some t => replayGo t (l.drop (k + 1))) := by
     show _ = _
     rw [HR.out, List.drop_eq_getElem_cons hlt]; rfl
    generalize l[k] = r at *
    clear c0' c1' c2' hbw HR
    have hth := hT.held
    have hts := hT.seen
    have hpe := hSo.1
    have HF := Hid.mk' (spec_one True w [] wr (w.heap.size + 1 + 1) am nm cm ah ch vs s hs r.1 r.2.1 pa pl pc r.2.2 hK (hSo.below hbel) hks hsr (by omega) (by omega) (by omega) hT.few hT.eight)
    have HST : Hid (∀ t, one s r = some t → Tame (k + 1) t) := fun t ho => hT.step ho
    cases ho : one s r with
    | none =>
     have HRN : Hid (R = none) := by show _ = _; rw [HD.out, ho]
     rw [show ((r.1, r.2.1, r.2.2) : Rc) = r from rfl, ho] at HF
     clear HD ho HST
     go_wp2_with (at_builtin; fail)
     refine HF.out.mono ?_
     rintro e w2 ⟨rfl, hB2'⟩
     have hB2 : Below w.heap.size w w2 := hB2'.bel (Nat.le_refl _) (fun j hj => by simp at hj; omega)
     clear hB2'
     have HP := Hid.mk' (repPost_none HRN.out hB2)
     clear HF c0 c1 c2
     go_wp2_with (at_builtin; fail)
     go_ret3
     exact HP.out
    | some t =>
     have HRN : Hid (R = replayGo t (l.drop (k + 1))) := by show _ = _; rw [HD.out, ho]
     have hT' := HST.out t ho
     rw [show ((r.1, r.2.1, r.2.2) : Rc) = r from rfl, ho] at HF
     clear HD ho HST
     go_wp2_with (at_builtin; fail)
     refine HF.out.mono ?_
     rintro e w2 ⟨rfl, am2, nm2, cm2, ah2, ch2, vs2, hs2, hK2⟩
     clear HF c0 c1 c2
     go_wp2_with (at_builtin; fail)
     go_roundw
     case rel => exact ⟨k + 1, nm2, cm2, ch2, am2, ah2, vs2, hs2, t, by omega, by go_num, hK2, hT', HRN⟩
     case measure => simp [intOf]; omega
  · have HRN : Hid (R = some s) := by
     show _ = _
     rw [HR.out, List.drop_eq_nil_of_le (by omega)]; rfl
    have hXl := hK.box.lt
    obtain ⟨gm, rfl, hOP0⟩ := hK.m.lift (B := w.heap.size) (hK.nnM trivial) (fun k e => (hK.newM k e).resolve_left List.not_mem_nil)
    obtain ⟨gh, rfl⟩ : ∃ gh, ah = some ⟨gh, 0, none⟩ := by
     rcases hK.held.shape with ⟨e, _⟩ | ⟨g, c, e, _⟩
     · injection e with e1 _ _; exact absurd e1 (hK.nnH trivial)
     · cases e; exact ⟨g, rfl⟩
    clear hOP0
    have o0 := last.On.cell (B := wr.heap.size) hK.box.cells.1 hXl
    have o1 := last.On.cell (B := wr.heap.size) hK.box.cells.2.1 hXl
    have hinh := last.On.inh wr.heap.size wr
    go_wp2_with (at_builtin; fail)
    refine last.wp_region_on wr.heap.size (by kernel_rfl) (by kernel_rfl) ?_
    repeat (go_big_quiet_step (fail))
    refine wpQuiet_nil ?_
    intro w5 hw5
    obtain ⟨x5, hw5⟩ := hw5
    have hb5 : Below wr.heap.size wr w5 := by rw [hw5]; exact x5.2
    have hK5 := hK.below hb5
    have HP : Hid (RepPost w R (.returned (.tuple #[.slice (some ⟨gm, 0, none⟩) nm cm, .slice (some ⟨gh, 0, none⟩) s.2.1.length ch, .bool true])) w5) := by
     rw [HRN.out]
     obtain ⟨gm', e9, hOP⟩ := hK5.m.lift (B := w.heap.size) (hK5.nnM trivial) (fun k e => (hK5.newM k e).resolve_left List.not_mem_nil)
     cases e9
     exact ⟨gm, nm, cm, gh, ch, hs, rfl, hOP, hK5.held.lift (fun k e => (hK5.newH k e).resolve_left List.not_mem_nil), keptBlk hK5, hK5.fr.bel (Nat.le_refl _) (fun j hj => by simp at hj; omega)⟩
    clear hw5 x5 hinh o0 o1
    go_wp2_with (at_builtin; fail)
    go_ret3
    exact HP.out
end recs
namespace recs
open Go Go.RowKit base pairs ords helps help
theorem spec_in (x a b : Int) (w : World) :
    Calls Tryz.prog 43 #[.int .i64 x, .int .i64 a, .int .i64 b] w fun e w' => e = .returned (.bool (decide (a ≤ x ∧ x ≤ b))) ∧ w' = w := by
  by_cases h1 : a ≤ x
  · by_cases h2 : x ≤ b
    · go_enter Tryz.func43, Tryz.ntmps43
      go_wp2
      go_ret
      exact ⟨ret_bool (by simp [h1, h2]), rfl⟩
    · go_enter Tryz.func43, Tryz.ntmps43
      go_wp2
      go_ret
      exact ⟨ret_bool (by simp [h1, h2]), rfl⟩
  · go_enter Tryz.func43, Tryz.ntmps43
    go_wp2
    go_ret
    exact ⟨ret_bool (by have h3 : ¬ a ≤ x := by omega
                        simp [h3]), rfl⟩
set_option maxRecDepth 100000 in
set_option maxHeartbeats 1000000 in
theorem spec_samePairs (a a2 : Option Addr) (len cap len2 cap2 : Nat) (l l2 : List Pr) (w : World) (h : SlP w a len l) (h2 : SlP w a2 len2 l2) :
 Calls Tryz.prog 51 #[.slice a len cap, .slice a2 len2 cap2] w fun e w' => e = .returned (.bool (decide (l = l2))) ∧ ∃ n, w' = w.drewN n := by
 obtain ⟨hl, hm, _, hc⟩ := h
 obtain ⟨hl2, hm2, _, hc2⟩ := h2
 subst hl hl2
 unfold maxLen at hm hm2
 by_cases hne : l.length = l2.length
 · have hb : ((l.length : Int) == (l2.length : Int)) = true := by simp; omega
   go_enter Tryz.func51, Tryz.ntmps51
   go_wp2_with fail
   go_loopw [5] (fun i wr => ∃ k : Nat, k ≤ l.length ∧ i = .int .i64 k ∧ l.take k = l2.take k ∧ ∃ n, wr = w.drewN n) (fun i _ => l.length - (intOf i).toNat)
   case atStart => exact ⟨0, Nat.zero_le _, rfl, rfl, 0, rfl⟩
   case round =>
    obtain ⟨k, hk, rfl, htk, n, rfl⟩ := hrel
    by_cases hlt : k < l.length
    · obtain ⟨b, off, ha, hcl⟩ := hc (by omega)
      obtain ⟨b2, off2, ha2, hcl2⟩ := hc2 (by omega)
      subst ha ha2
      have hlt2 : k < l2.length := by omega
      have hi1 : (k : Int) < (l.length : Int) := by omega
      have hi2 : (k : Int) < (l2.length : Int) := by omega
      obtain ⟨c1, c2⟩ := hcl k hlt
      obtain ⟨c3, c4⟩ := hcl2 k hlt2
      by_cases e : l[k] = l2[k]
      · have HE := Hid.mk' (take_eqP htk hlt hlt2 e)
        rw [← e] at c3 c4
        clear hcl hcl2 hc hc2 htk hne e
        generalize l[k] = p at *
        go_wp2_with fail
        go_quiet (fail)
        go_wp2_with fail
        go_roundw
        case rel => exact ⟨k + 1, by omega, by go_num, HE.out, _, rfl⟩
        case measure => simp [intOf]; omega
      · have HE : Hid (¬ l = l2) := by
         show ¬ _
         rintro rfl; exact e rfl
        generalize l[k] = p at *
        generalize l2[k] = q at *
        clear hcl hcl2 hc hc2 htk hne
        by_cases e1 : p.1 = q.1
        · have hq := str_ne (fun e2 : p.2 = q.2 => e (Prod.ext e1 e2))
          rw [← e1] at c3
          generalize p.1 = p1 at *
          generalize p.2 = p2 at *
          generalize q.2 = q2 at *
          clear e e1
          go_wp2_with fail
          go_quiet (fail)
          go_wp2_with fail
          go_ret
          exact ⟨ret_bool (by symm; rw [decide_eq_false_iff_not]; exact HE.out), _, World.drewN_drewN _ _ _⟩
        · have hq := str_ne e1
          generalize p.1 = p1 at *
          generalize p.2 = p2 at *
          generalize q.1 = q1 at *
          generalize q.2 = q2 at *
          clear e e1
          go_wp2_with fail
          go_quiet (fail)
          go_wp2_with fail
          go_ret
          exact ⟨ret_bool (by symm; rw [decide_eq_false_iff_not]; exact HE.out), _, World.drewN_drewN _ _ _⟩
    · have e : k = l.length := by omega
      have hfin : l = l2 := by
       subst e
       rw [List.take_of_length_le (Nat.le_refl _), List.take_of_length_le (by omega)] at htk
       exact htk
      have HF := Hid.mk' hfin
      clear hfin htk
      go_wp2_with fail
      go_ret
      exact ⟨ret_bool (by symm; rw [decide_eq_true_iff]; exact HF.out), _, rfl⟩
 · have hb : ((l.length : Int) == (l2.length : Int)) = false := by simp; omega
   go_enter Tryz.func51, Tryz.ntmps51
   go_wp2
   go_ret
   exact ⟨ret_bool (by symm; rw [decide_eq_false_iff_not]; intro h; exact hne (by rw [h])), 0, rfl⟩
set_option maxRecDepth 100000 in
set_option maxHeartbeats 1000000 in
theorem spec_sameOps (a a2 : Option Addr) (len cap len2 cap2 : Nat) (l l2 : List Od) (w : World) (h : SlO w a len l) (h2 : SlO w a2 len2 l2) :
 Calls Tryz.prog 49 #[.slice a len cap, .slice a2 len2 cap2] w fun e w' => e = .returned (.bool (decide (l = l2))) ∧ ∃ n, w' = w.drewN n := by
 obtain ⟨hl, hm, _, hc⟩ := h
 obtain ⟨hl2, hm2, _, hc2⟩ := h2
 subst hl hl2
 unfold maxLen at hm hm2
 by_cases hne : l.length = l2.length
 · have hb : ((l.length : Int) == (l2.length : Int)) = true := by simp; omega
   go_enter Tryz.func49, Tryz.ntmps49
   go_wp2_with fail
   go_loopw [5] (fun i wr => ∃ k : Nat, k ≤ l.length ∧ i = .int .i64 k ∧ l.take k = l2.take k ∧ ∃ n, wr = w.drewN n) (fun i _ => l.length - (intOf i).toNat)
   case atStart => exact ⟨0, Nat.zero_le _, rfl, rfl, 0, rfl⟩
   case round =>
    obtain ⟨k, hk, rfl, htk, n, rfl⟩ := hrel
    by_cases hlt : k < l.length
    · obtain ⟨b, off, ha, hcl⟩ := hc (by omega)
      obtain ⟨b2, off2, ha2, hcl2⟩ := hc2 (by omega)
      subst ha ha2
      have hlt2 : k < l2.length := by omega
      have hi1 : (k : Int) < (l.length : Int) := by omega
      have hi2 : (k : Int) < (l2.length : Int) := by omega
      obtain ⟨c0, c1, c2⟩ := hcl k hlt
      obtain ⟨d0, d1, d2⟩ := hcl2 k hlt2
      by_cases e : l[k] = l2[k]
      · have HE := Hid.mk' (take_eqO htk hlt hlt2 e)
        rw [← e] at d0 d1 d2
        clear hcl hcl2 hc hc2 htk hne e
        generalize l[k] = p at *
        go_wp2_with fail
        go_quiet (fail)
        go_wp2_with fail
        go_roundw
        case rel => exact ⟨k + 1, by omega, by go_num, HE.out, _, rfl⟩
        case measure => simp [intOf]; omega
      · have HE : Hid (¬ l = l2) := by
         show ¬ _
         rintro rfl; exact e rfl
        generalize l[k] = p at *
        generalize l2[k] = q at *
        clear hcl hcl2 hc hc2 htk hne
        obtain ⟨p0, p1, p2⟩ := p
        obtain ⟨q0, q1, q2⟩ := q
        simp only [] at c0 c1 c2 d0 d1 d2
        by_cases e0 : p0 = q0
        · subst e0
          have h0 : (p0 == p0) = true := beq_self_eq_true _
          by_cases e1 : p1 = q1
          · subst e1
            have hq := str_ne (fun e2 : p2 = q2 => e (by rw [e2]))
            clear e
            go_wp2_with fail
            go_quiet (fail)
            go_wp2_with fail
            go_ret
            exact ⟨ret_bool (by symm; rw [decide_eq_false_iff_not]; exact HE.out), _, World.drewN_drewN _ _ _⟩
          · have hq := str_ne e1
            clear e e1
            go_wp2_with fail
            go_quiet (fail)
            go_wp2_with fail
            go_ret
            exact ⟨ret_bool (by symm; rw [decide_eq_false_iff_not]; exact HE.out), _, World.drewN_drewN _ _ _⟩
        · have h0 : (p0 == q0) = false := beq_eq_false_iff_ne.2 e0
          clear e e0
          go_wp2_with fail
          go_quiet (fail)
          go_wp2_with fail
          go_ret
          exact ⟨ret_bool (by symm; rw [decide_eq_false_iff_not]; exact HE.out), _, World.drewN_drewN _ _ _⟩
    · have e : k = l.length := by omega
      have hfin : l = l2 := by
       subst e
       rw [List.take_of_length_le (Nat.le_refl _), List.take_of_length_le (by omega)] at htk
       exact htk
      have HF := Hid.mk' hfin
      clear hfin htk
      go_wp2_with fail
      go_ret
      exact ⟨ret_bool (by symm; rw [decide_eq_true_iff]; exact HF.out), _, rfl⟩
 · have hb : ((l.length : Int) == (l2.length : Int)) = false := by simp; omega
   go_enter Tryz.func49, Tryz.ntmps49
   go_wp2
   go_ret
   exact ⟨ret_bool (by symm; rw [decide_eq_false_iff_not]; intro h; exact hne (by rw [h])), 0, rfl⟩
theorem take_eqR {l l2 : List Rc} {k : Nat} (h : l.take k = l2.take k) (h1 : k < l.length) (h2 : k < l2.length) (e : l[k] = l2[k]) : l.take (k + 1) = l2.take (k + 1) := by
 rw [List.take_succ_eq_append_getElem h1, List.take_succ_eq_append_getElem h2, h, e]
set_option maxRecDepth 100000 in
set_option maxHeartbeats 2000000 in
theorem spec_sameRecs (a a2 : Option Addr) (len cap len2 cap2 : Nat) (l l2 : List Rc) (w : World) (h : SlR w a len l) (h2 : SlR w a2 len2 l2) :
 Calls Tryz.prog 52 #[.slice a len cap, .slice a2 len2 cap2] w fun e w' => e = .returned (.bool (decide (l = l2))) ∧ Below w.heap.size w w' := by
 obtain ⟨hl, hm, hsm, hc⟩ := id h
 obtain ⟨hl2, hm2, hsm2, hc2⟩ := id h2
 subst hl hl2
 unfold maxLen at hm hm2
 by_cases hne : l.length = l2.length
 · have hb : ((l.length : Int) == (l2.length : Int)) = true := by simp; omega
   go_enter Tryz.func52, Tryz.ntmps52
   go_wp2_with fail
   go_loopw [5] (fun i wr => ∃ k : Nat, k ≤ l.length ∧ i = .int .i64 k ∧ l.take k = l2.take k ∧ Below w.heap.size w wr) (fun i _ => l.length - (intOf i).toNat)
   case atStart => exact ⟨0, Nat.zero_le _, rfl, rfl, Below.refl _ _⟩
   case round =>
    obtain ⟨k, hk, rfl, htk, hB⟩ := hrel
    by_cases hlt : k < l.length
    · obtain ⟨b, off, ha, hcl⟩ := hc (by omega)
      obtain ⟨b2, off2, ha2, hcl2⟩ := hc2 (by omega)
      subst ha ha2
      have hlt2 : k < l2.length := by omega
      have hki : (k : Int) < (l.length : Int) := by omega
      have hki2 : (k : Int) < (l2.length : Int) := by omega
      have i1 := h.at k hlt
      have i2 := h2.at k hlt2
      have hb1 : b < w.heap.size := World.block_lt_of_cell? w _ i1.1
      have hb2 : b2 < w.heap.size := World.block_lt_of_cell? w _ i2.1
      have hbs := hB.size
      obtain ⟨c1, c2, pa, pl, pc, c3, hS1, _⟩ := i1.below hB
      obtain ⟨c4, c5, qa, ql, qc, c6, hS2, _⟩ := i2.below hB
      have hinh := last.On.inh wr.heap.size wr
      have hcall : ∀ x : last.On wr.heap.size wr, Calls Tryz.prog 49 #[.slice pa pl pc, .slice qa ql qc] x.w fun e w' => e = .returned (.bool (decide (l[k].2.2 = l2[k].2.2))) ∧ ∃ y : last.On wr.heap.size wr, w' = y.w := fun x => last.Calls.on x (Nat.le_refl _) ((spec_sameOps pa qa pl pc ql qc l[k].2.2 l2[k].2.2 x.w (hS1.below x.2) (hS2.below x.2)).mono (fun e w' h => ⟨h.1, by obtain ⟨n, rfl⟩ := h.2; exact below_drewN (Below.refl _ _) n⟩))
      have HE1 : Hid (l[k] = l2[k] → l.take (k + 1) = l2.take (k + 1)) := fun e => take_eqR htk hlt hlt2 e
      have HE2 : Hid (¬ l[k] = l2[k] → ¬ l = l2) := fun e e2 => e (by subst e2; rfl)
      clear hcl hcl2 hc hc2 i1 i2 hsm hsm2 h h2 hS1 hS2 htk hne
      generalize l[k] = p at *
      generalize l2[k] = q at *
      have hbad : ¬ p = q → (last.On wr.heap.size wr → True) := fun _ _ => trivial
      clear hbad
      obtain ⟨p1, p2, p3⟩ := p
      obtain ⟨q1, q2, q3⟩ := q
      simp only [] at c1 c2 c3 c4 c5 c6 hcall
      by_cases e1 : p1 = q1
      · subst e1
        have f1 : (p1 == p1) = true := by simp
        by_cases e2 : p2 = q2
        · subst e2
          have f2 : (p2 == p2) = true := by simp
          by_cases e3 : p3 = q3
          · rw [decide_eq_true e3] at hcall
            have HE := Hid.mk' (HE1.out (by rw [e3]))
            clear HE1 HE2 e3
            have o1 := last.On.cell (B := wr.heap.size) c1 (by omega)
            have o2 := last.On.cell (B := wr.heap.size) c2 (by omega)
            have o3 := last.On.cell (B := wr.heap.size) c3 (by omega)
            have o4 := last.On.cell (B := wr.heap.size) c4 (by omega)
            have o5 := last.On.cell (B := wr.heap.size) c5 (by omega)
            have o6 := last.On.cell (B := wr.heap.size) c6 (by omega)
            go_wp2_with fail
            refine last.wp_region_on wr.heap.size (by kernel_rfl) (by kernel_rfl) ?_
            repeat (go_big_quiet_step ((go_at_call 49; with_reducible exact hcall _)))
            refine wpQuiet_nil ?_
            intro w5 hw5
            obtain ⟨x5, hw5⟩ := hw5
            have hB5 : Below w.heap.size w w5 := by rw [hw5]; exact hB.trans (x5.2.mono hB.size)
            clear hw5 x5 o1 o2 o3 o4 o5 o6 hcall hinh
            go_wp2_with fail
            go_roundw
            case rel => exact ⟨k + 1, by omega, by go_num, HE.out, hB5⟩
            case measure => simp [intOf]; omega
          · rw [decide_eq_false e3] at hcall
            have HE := Hid.mk' (HE2.out (fun e => e3 (by cases e; rfl)))
            clear HE1 HE2 e3
            have o1 := last.On.cell (B := wr.heap.size) c1 (by omega)
            have o2 := last.On.cell (B := wr.heap.size) c2 (by omega)
            have o3 := last.On.cell (B := wr.heap.size) c3 (by omega)
            have o4 := last.On.cell (B := wr.heap.size) c4 (by omega)
            have o5 := last.On.cell (B := wr.heap.size) c5 (by omega)
            have o6 := last.On.cell (B := wr.heap.size) c6 (by omega)
            go_wp2_with fail
            refine last.wp_region_on wr.heap.size (by kernel_rfl) (by kernel_rfl) ?_
            repeat (go_big_quiet_step ((go_at_call 49; with_reducible exact hcall _)))
            refine wpQuiet_nil ?_
            intro w5 hw5
            obtain ⟨x5, hw5⟩ := hw5
            have hB5 : Below w.heap.size w w5 := by rw [hw5]; exact hB.trans (x5.2.mono hB.size)
            clear hw5 x5 o1 o2 o3 o4 o5 o6 hcall hinh
            go_wp2_with fail
            go_ret
            exact ⟨ret_bool (by symm; rw [decide_eq_false_iff_not]; exact HE.out), hB5⟩
        · have f2 : (p2 != q2) = true := by simpa using e2
          have HE := Hid.mk' (HE2.out (fun e => e2 (by cases e; rfl)))
          clear HE1 HE2 e2
          have o1 := last.On.cell (B := wr.heap.size) c1 (by omega)
          have o2 := last.On.cell (B := wr.heap.size) c2 (by omega)
          have o3 := last.On.cell (B := wr.heap.size) c3 (by omega)
          have o4 := last.On.cell (B := wr.heap.size) c4 (by omega)
          have o5 := last.On.cell (B := wr.heap.size) c5 (by omega)
          have o6 := last.On.cell (B := wr.heap.size) c6 (by omega)
          go_wp2_with fail
          refine last.wp_region_on wr.heap.size (by kernel_rfl) (by kernel_rfl) ?_
          repeat (go_big_quiet_step ((go_at_call 49; with_reducible exact hcall _)))
          refine wpQuiet_nil ?_
          intro w5 hw5
          obtain ⟨x5, hw5⟩ := hw5
          have hB5 : Below w.heap.size w w5 := by rw [hw5]; exact hB.trans (x5.2.mono hB.size)
          clear hw5 x5 o1 o2 o3 o4 o5 o6 hcall hinh
          go_wp2_with fail
          go_ret
          exact ⟨ret_bool (by symm; rw [decide_eq_false_iff_not]; exact HE.out), hB5⟩
      · have f1 : (p1 != q1) = true := by simpa using e1
        have HE := Hid.mk' (HE2.out (fun e => e1 (by cases e; rfl)))
        clear HE1 HE2 e1
        have o1 := last.On.cell (B := wr.heap.size) c1 (by omega)
        have o2 := last.On.cell (B := wr.heap.size) c2 (by omega)
        have o3 := last.On.cell (B := wr.heap.size) c3 (by omega)
        have o4 := last.On.cell (B := wr.heap.size) c4 (by omega)
        have o5 := last.On.cell (B := wr.heap.size) c5 (by omega)
        have o6 := last.On.cell (B := wr.heap.size) c6 (by omega)
        go_wp2_with fail
        refine last.wp_region_on wr.heap.size (by kernel_rfl) (by kernel_rfl) ?_
        repeat (go_big_quiet_step ((go_at_call 49; with_reducible exact hcall _)))
        refine wpQuiet_nil ?_
        intro w5 hw5
        obtain ⟨x5, hw5⟩ := hw5
        have hB5 : Below w.heap.size w w5 := by rw [hw5]; exact hB.trans (x5.2.mono hB.size)
        clear hw5 x5 o1 o2 o3 o4 o5 o6 hcall hinh
        go_wp2_with fail
        go_ret
        exact ⟨ret_bool (by symm; rw [decide_eq_false_iff_not]; exact HE.out), hB5⟩
    · have e : k = l.length := by omega
      have hfin : l = l2 := by
       subst e
       rw [List.take_of_length_le (Nat.le_refl _), List.take_of_length_le (by omega)] at htk
       exact htk
      have HF := Hid.mk' hfin
      clear hfin htk
      go_wp2_with fail
      go_ret
      exact ⟨ret_bool (by symm; rw [decide_eq_true_iff]; exact HF.out), hB⟩
 · have hb : ((l.length : Int) == (l2.length : Int)) = false := by simp; omega
   go_enter Tryz.func52, Tryz.ntmps52
   go_wp2
   go_ret
   exact ⟨ret_bool (by symm; rw [decide_eq_false_iff_not]; intro h; exact hne (by rw [h])), Below.refl _ _⟩
end recs

namespace recs
open Go Go.RowKit base pairs ords helps
set_option maxRecDepth 100000 in
set_option maxHeartbeats 1000000 in
theorem szRec (kind tx : Int) (a : Option Addr) (len cap : Nat) (l : List Od) (L : Nat) (w : World) (h : SlO w a len l) (hL : L ≤ 1099511627776) :
 Calls Tryz.prog 118 #[.agg #[.int .i64 kind, .int .i64 tx, .slice a len cap], .int .i64 (L : Int)] w fun e w' => e = .returned (.int .i64 (pairs.szR L (l.length + sumO l))) ∧ Below w.heap.size w w' := by
 have hba : Below w.heap.size w (w.alloc (.cells #[.int .i64 kind, .int .i64 tx, .slice a len cap] 184)) := (Below.refl _ _).alloc (Nat.le_refl _) _
 have HS := Hid.mk' (szOpS a len cap l L _ (h.below hba) hL)
 by_cases hc : l.length + sumO l ≤ L
 · rw [pairs.szR_pos hc] at HS ⊢
   have hn : ¬ (L : Int) - ((l.length + sumO l : Nat) : Int) < 0 := by omega
   generalize (L : Int) - ((l.length + sumO l : Nat) : Int) = S at *
   go_enter Tryz.func118, Tryz.ntmps118
   go_wp2_with fail
   refine HS.out.mono ?_
   rintro e w1 ⟨rfl, hb1⟩
   go_wp2_with fail
   go_ret
   exact ⟨rfl, hba.trans (hb1.mono hba.size)⟩
 · rw [pairs.szR_neg (by omega)] at HS ⊢
   go_enter Tryz.func118, Tryz.ntmps118
   go_wp2_with fail
   refine HS.out.mono ?_
   rintro e w1 ⟨rfl, hb1⟩
   go_wp2_with fail
   go_ret
   exact ⟨rfl, hba.trans (hb1.mono hba.size)⟩
set_option maxRecDepth 100000 in
set_option maxHeartbeats 1000000 in
theorem eqRecT (kind tx : Int) (pa qa : Option Addr) (pl pc ql qc : Nat) (l : List Od) (w : World) (hx : SlO w pa pl l) (hy : SlO w qa ql l) :
 Calls Tryz.prog 140 #[.agg #[.int .i64 kind, .int .i64 tx, .slice pa pl pc], .agg #[.int .i64 kind, .int .i64 tx, .slice qa ql qc]] w fun e w' => e = .returned (.bool true) ∧ Below w.heap.size w w' := by
 obtain ⟨W, hW⟩ : ∃ W, (w.alloc (.cells #[.int .i64 kind, .int .i64 tx, .slice pa pl pc] 133)).alloc (.cells #[.int .i64 kind, .int .i64 tx, .slice qa ql qc] 133) = W := ⟨_, rfl⟩
 have hB : Below w.heap.size w W := by rw [← hW]; exact ((Below.refl _ _).alloc (Nat.le_refl _) _).alloc (by simp) _
 have HE := Hid.mk' (eqO pa qa pl pc ql qc l l W (hx.below hB) (hy.below hB) rfl)
 have HW := Hid.mk' hW
 clear hW
 have hn : (kind == kind) = true := by simp
 have hf : (tx == tx) = true := by simp
 go_enter Tryz.func140, Tryz.ntmps140
 go_wp2_with fail
 rw [HW.out]
 refine HE.out.mono ?_
 rintro e w1 ⟨rfl, hb1⟩
 have hB1 := hB.trans (hb1.mono hB.size)
 clear HE HW hb1
 go_wp2_with fail
 go_ret
 exact ⟨rfl, hB1⟩
end recs
namespace recs
open Go Go.RowKit base pairs ords helps
set_option maxRecDepth 100000 in
set_option maxHeartbeats 2000000 in
theorem eqRecsT (a a2 : Option Addr) (len cap cap2 : Nat) (l : List Rc) (w : World) (h : SlR w a len l) (h2 : SlR w a2 len l) :
 Calls Tryz.prog 106 #[.slice a len cap, .slice a2 len cap2] w fun e w' => e = .returned (.bool true) ∧ Below w.heap.size w w' := by
 obtain ⟨hl, hm, hsm, hc⟩ := id h
 obtain ⟨_, _, _, hc2⟩ := id h2
 subst hl
 unfold maxLen at hm
 have hb : ((l.length : Int) == (l.length : Int)) = true := by simp
 go_enter Tryz.func106, Tryz.ntmps106
 go_wp2_with fail
 go_loopw [5] (fun i wr => ∃ k : Nat, k ≤ l.length ∧ i = .int .i64 k ∧ Below w.heap.size w wr) (fun i _ => l.length - (intOf i).toNat)
 case atStart => exact ⟨0, Nat.zero_le _, rfl, Below.refl _ _⟩
 case round =>
  obtain ⟨k, hk, rfl, hB⟩ := hrel
  by_cases hlt : k < l.length
  · obtain ⟨b, off, ha, hcl⟩ := hc (by omega)
    obtain ⟨b2, off2, ha2, hcl2⟩ := hc2 (by omega)
    subst ha ha2
    have hki : (k : Int) < (l.length : Int) := by omega
    have i1 := h.at k hlt
    have i2 := h2.at k hlt
    have hb1 : b < w.heap.size := World.block_lt_of_cell? w _ i1.1
    have hb2 : b2 < w.heap.size := World.block_lt_of_cell? w _ i2.1
    have hbs := hB.size
    obtain ⟨c1, c2, pa, pl, pc, c3, hS1, _⟩ := i1.below hB
    obtain ⟨c4, c5, qa, ql, qc, c6, hS2, _⟩ := i2.below hB
    have o1 := last.On.cell (B := wr.heap.size) c1 (by omega)
    have o2 := last.On.cell (B := wr.heap.size) c2 (by omega)
    have o3 := last.On.cell (B := wr.heap.size) c3 (by omega)
    have o4 := last.On.cell (B := wr.heap.size) c4 (by omega)
    have o5 := last.On.cell (B := wr.heap.size) c5 (by omega)
    have o6 := last.On.cell (B := wr.heap.size) c6 (by omega)
    have hinh := last.On.inh wr.heap.size wr
    have hcall : ∀ x : last.On wr.heap.size wr, Calls Tryz.prog 140 #[.agg #[.int .i64 l[k].1, .int .i64 l[k].2.1, .slice pa pl pc], .agg #[.int .i64 l[k].1, .int .i64 l[k].2.1, .slice qa ql qc]] x.w fun e w' => e = .returned (.bool true) ∧ ∃ y : last.On wr.heap.size wr, w' = y.w := fun x => last.Calls.on x (Nat.le_refl _) (eqRecT l[k].1 l[k].2.1 pa qa pl pc ql qc l[k].2.2 x.w (hS1.below x.2) (hS2.below x.2))
    clear hcl hcl2 hc hc2 i1 i2 hsm h h2 hS1 hS2
    generalize l[k] = p at *
    go_wp2_with fail
    refine last.wp_region_on wr.heap.size (by kernel_rfl) (by kernel_rfl) ?_
    repeat (go_big_quiet_step ((go_at_call 140; exact hcall _)))
    refine wpQuiet_nil ?_
    intro w5 hw5
    obtain ⟨x5, hw5⟩ := hw5
    subst hw5
    have hB5 : Below w.heap.size w x5.w := hB.trans (x5.2.mono hB.size)
    go_wp2_with fail
    go_roundw
    case rel => exact ⟨k + 1, by omega, by go_num, hB5⟩
    case measure => simp [intOf]; omega
  · go_wp2_with fail
    go_ret
    exact ⟨rfl, hB⟩
/-! ### marks -/
def cntR (l : List Rc) : Nat := (l.map fun x => 2 + 3 * x.2.2.length).sum
theorem cntR_cons (x : Rc) (l : List Rc) : cntR (x :: l) = 2 + 3 * x.2.2.length + cntR l := by simp [cntR]
end recs
namespace ords
open Go Go.RowKit base pairs
def V3 (w : World) (g : Nat) (t : TypeId) (x y z : Value) : Prop := w.heap[g]? = some (.cells #[x, y, z] t (0, 0))
section
variable {w w' : World} {g : Nat} {t : TypeId} {x y z : Value}
theorem V3.c0 (h : V3 w g t x y z) : w.cell? ⟨g, 0, none⟩ = some x := cell_cur h 0 _ rfl
theorem V3.c1 (h : V3 w g t x y z) : w.cell? ⟨g, 1, none⟩ = some y := cell_cur h 1 _ rfl
theorem V3.c2 (h : V3 w g t x y z) : w.cell? ⟨g, 2, none⟩ = some z := cell_cur h 2 _ rfl
theorem V3.lt (h : V3 w g t x y z) : g < w.heap.size := (Array.getElem?_eq_some_iff.1 h).1
theorem V3.below (h : V3 w g t x y z) (hb : Below w.heap.size w w') : V3 w' g t x y z := (hb.block g h.lt).trans h
end
theorem v3_grown {w w' : World} {g : Nat} {t : TypeId} {x y z : Value} {row : Option Nat} (h : V3 w g t x y z) (hg : w.grownBy w' row) (hne : some g ≠ row) : V3 w' g t x y z := (hg.block g h.lt hne).trans h
theorem v3_fz {w : World} {g : Nat} {t : TypeId} {x y z : Value} (h : V3 w g t x y z) (j : Nat) : w.frozen? ⟨g, j, none⟩ = false := by
 unfold V3 at h; simp [World.frozen?, h]
theorem v3_set {w : World} {g : Nat} {t : TypeId} {x y z : Value} (h : V3 w g t x y z) : (∀ u, V3 (w.setCell ⟨g, 0, none⟩ u) g t u y z ∧ w.grownBy (w.setCell ⟨g, 0, none⟩ u) (some g)) ∧ (∀ u, V3 (w.setCell ⟨g, 1, none⟩ u) g t x u z ∧ w.grownBy (w.setCell ⟨g, 1, none⟩ u) (some g)) ∧ (∀ u, V3 (w.setCell ⟨g, 2, none⟩ u) g t x y u ∧ w.grownBy (w.setCell ⟨g, 2, none⟩ u) (some g)) :=
 ⟨fun u => ⟨(set_cur h 0 u).1, (set_cur h 0 u).2⟩, fun u => ⟨(set_cur h 1 u).1, (set_cur h 1 u).2⟩, fun u => ⟨(set_cur h 2 u).1, (set_cur h 2 u).2⟩⟩
theorem v3_all {w : World} {g : Nat} {t : TypeId} {x y z : Value} (h : V3 w g t x y z) (a b c : Value) : V3 (((w.setCell ⟨g, 0, none⟩ a).setCell ⟨g, 1, none⟩ b).setCell ⟨g, 2, none⟩ c) g t a b c ∧ w.grownBy (((w.setCell ⟨g, 0, none⟩ a).setCell ⟨g, 1, none⟩ b).setCell ⟨g, 2, none⟩ c) (some g) := by
 have h1 := (v3_set h).1 a
 have h2 := (v3_set h1.1).2.1 b
 have h3 := (v3_set h2.1).2.2 c
 exact ⟨h3.1, grownBy_trans (grownBy_trans h1.2 h2.2) h3.2⟩
end ords
namespace pairs
open Go Go.RowKit base helps
section
variable {w0 w w' : World} {gx lx cx gg lg cg gw lw cw : Nat} {X G W : List Pr}
end
/-! ### arguments -/
end pairs
namespace ords
open Go Go.RowKit base pairs
end ords
namespace recs
open Go Go.RowKit base pairs ords helps
theorem v3n (w : World) (t : TypeId) (x y z : Value) : V3 (w.alloc (.cells #[x, y, z] t)) w.heap.size t x y z := heap_alloc_new w _
theorem v3a {w : World} {g : Nat} {t : TypeId} {x y z : Value} (h : V3 w g t x y z) (o : Obj) : V3 (w.alloc o) g t x y z := h.below ((Below.refl _ _).alloc (Nat.le_refl _) _)
theorem v3n1 (w : World) (o : Obj) (t : TypeId) (x y z : Value) : V3 ((w.alloc o).alloc (.cells #[x, y, z] t)) (w.heap.size + 1) t x y z := by
 have := v3n (w.alloc o) t x y z
 have e : (w.alloc o).heap.size = w.heap.size + 1 := by simp
 rw [e] at this; exact this
theorem v3n2 (w : World) (o o2 : Obj) (t : TypeId) (x y z : Value) : V3 (((w.alloc o).alloc o2).alloc (.cells #[x, y, z] t)) (w.heap.size + 2) t x y z := by
 have := v3n1 (w.alloc o) o2 t x y z
 have e : (w.alloc o).heap.size = w.heap.size + 1 := by simp
 rw [e] at this; exact this
set_option maxRecDepth 100000 in
set_option maxHeartbeats 2000000 in
theorem toRec (kind tx : Int) (pa : Option Addr) (pl pc : Nat) (l : List Od) (w : World) (h : SlO w pa pl l) (hsz : pl ≤ 1099511627776) :
 Calls Tryz.prog 130 #[.agg #[.int .i64 kind, .int .i64 tx, .slice pa pl pc]] w fun e w' =>
  ∃ g, e = .returned (.agg #[.int .i64 kind, .int .i64 tx, .slice (some ⟨g, 0, none⟩) pl pl]) ∧ OwnO w' w.heap.size g pl pl l ∧ Below w.heap.size w w' := by
 obtain ⟨W0, hW0⟩ : ∃ W, ((w.alloc (.cells #[.int .i64 kind, .int .i64 tx, .slice pa pl pc] 184)).alloc (.cells #[.int .i64 0, .int .i64 0, .slice none 0 0] 133)).alloc (.cells #[.int .i64 kind, .int .i64 tx, .slice none 0 0] 133) = W := ⟨_, rfl⟩
 have hB : Below w.heap.size w W0 := by rw [← hW0]; exact (((Below.refl _ _).alloc (Nat.le_refl _) _).alloc (by simp) _).alloc (by simp; omega) _
 have v1 : V3 W0 (w.heap.size + 1) 133 (.int .i64 0) (.int .i64 0) (.slice none 0 0) := by
  rw [← hW0]; exact v3a (v3n1 w _ _ _ _ _) _
 have v2 : V3 W0 (w.heap.size + 1 + 1) 133 (.int .i64 kind) (.int .i64 tx) (.slice none 0 0) := by
  rw [← hW0]; exact v3n2 w _ _ _ _ _ _
 have HW := Hid.mk' hW0
 have HT := Hid.mk' (toOpS pa pl pc l W0 (h.below hB) hsz)
 clear hW0
 go_enter Tryz.func130, Tryz.ntmps130
 go_wp2_with fail
 rw [HW.out]
 refine HT.out.mono ?_
 rintro e w2 ⟨g, rfl, hO, hb2⟩
 have u1 := v1.below hb2
 have u2 := v2.below hb2
 have hB2 := hB.trans (hb2.mono hB.size)
 have hgl := hO.lt
 have hl2 := v2.lt
 have s2 := (v3_set u2).2.2 (.slice (some ⟨g, 0, none⟩) pl pl)
 have t1 := v3_grown u1 s2.2 (by simp)
 have hO2 := hO.grown s2.2 (by simp; omega)
 have hB3 := hB2.grown s2.2 hB2.size (fun j e => by cases e; omega)
 have z := v3_all t1 (.int .i64 kind) (.int .i64 tx) (.slice (some ⟨g, 0, none⟩) pl pl)
 have HO := Hid.mk' ((hO2.grown z.2 (by simp; omega)).mono (base' := w.heap.size) hB.size)
 have HBz := Hid.mk' (hB3.grown z.2 hB3.size (fun j e => by cases e; omega))
 have z0 := z.1.c0
 have z1 := z.1.c1
 have z2 := z.1.c2
 have m2 := u2.c2
 have q2 := v3_fz u2 2
 have a0 := s2.1.c0
 have a1 := s2.1.c1
 have a2 := s2.1.c2
 have b0 := t1.c0
 have b1 := t1.c1
 have b2 := t1.c2
 have k0 := v3_fz t1 0
 have k1 := v3_fz t1 1
 have k2 := v3_fz t1 2
 clear v1 v2 u1 u2 s2 t1 z hO hO2 hb2 hB hB2 hB3 HW HT
 go_wp2_with fail
 refine bodyPost_ret (v := .agg #[.int .i64 kind, .int .i64 tx, .slice (some ⟨g, 0, none⟩) pl pl]) ?h1 rfl ⟨g, rfl, HO.out, HBz.out⟩
 simp [results, Tryz.results130, go_sem, z0, z1, z2]
/-! ### arguments -/
end recs
end Go.Proofs.YtijplooogplccaaGreat
