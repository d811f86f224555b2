/- What the exact law of ReplayRecs keeps from step to step: the records that were handed in, the answer's pairs and records and the specification's. The specification's shard: whether it is right. The specification's shard: how it is with a transaction, and how many keys there are. The specification's copy of records. -/
import Derived.Test.YteniflajiklffaaGreatDoorShan
import Derived.Test.YteniflajiklffaaGreatDoorShad
import Derived.Test.YteniflajiklffaaGreatDoorShag
namespace Go.Proofs.YteniflajiklffaaGreatDoor.recs
open Go Go.RowKit Go.Proofs.YteniflajiklffaaGreatDoor.base Go.Proofs.YteniflajiklffaaGreatDoor.pairs Go.Proofs.YteniflajiklffaaGreatDoor.ords
set_option linter.unusedVariables false

theorem replayGo_tame : ∀ (l : List Rc) (k : Nat) (s t : St), Tame k s → replayGo s l = some t → Tame (k + l.length) t
  | [], k, s, t, h, e => by cases e; exact h
  | r :: l, k, s, t, h, e => by
    rw [replayGo] at e
    split at e
    · cases e
    · next u hu =>
      have := replayGo_tame l (k + 1) u t (h.step hu) e
      rw [List.length_cons, Nat.add_comm l.length 1, ← Nat.add_assoc]
      exact this
theorem cntR_le8 (l : List Rc) (h : ∀ r ∈ l, recOk r = true) : cntR l ≤ 26 * l.length := by
  induction l with
  | nil => simp [cntR]
  | cons x l ih =>
    rw [cntR_cons, List.length_cons]
    have h1 := ih fun r hr => h r (List.mem_cons_of_mem _ hr)
    have h2 : x.2.2.length ≤ 8 := by
      rcases ((recOk_iff x).1 (h x List.mem_cons_self)).2 with ⟨_, h2⟩ | ⟨_, h2⟩
      · exact ((opsOk_iff _).1 h2).2.2
      · rw [h2]; simp
    omega
theorem replay_sizes (l : List Rc) : (resM (replay l)).length ≤ 60 ∧ (resH (replay l)).length ≤ l.length ∧ cntR (resH (replay l)) ≤ 26 * l.length := by
  cases hr : replay l with
  | none => simp [resM, resH, cntR]
  | some s =>
    have h := replayGo_tame l 0 _ s tame_start hr
    have h2 := cntR_le8 s.2.1 h.ok
    have h3 := h.held
    simp only [resM, resH]
    exact ⟨h.few, by omega, by omega⟩
theorem OwnR.plain {w : World} {base g n cap : Nat} {l : List Rc} {hs : List Value} (h : OwnR w base (.slice (some ⟨g, 0, none⟩) n cap) l hs) : PlainR w (some ⟨g, 0, none⟩) n := by
  intro b off e i hi pa pl pc hc
  obtain rfl := h.nlen
  simp only [Option.some.injEq, Addr.mk.injEq, and_true] at e
  obtain ⟨rfl, rfl⟩ := e
  have h1 := (h.at i hi).2.2
  rw [Nat.zero_add] at hc
  rw [hc] at h1
  have h2 := (h.ops i hi).shape
  rw [← Option.some.inj h1] at h2
  rcases h2 with ⟨h2, _⟩ | ⟨g2, c2, h2, _⟩
  · cases h2; exact .inl rfl
  · cases h2; exact .inr ⟨_, _, rfl⟩
section
variable {w0 w w' : World} {B1 B2 gw n cw gg cg : Nat} {vs vx vg : Value} {hss hsx hsg : List Value} {P G : List Pr} {R X H : List Rc}
end
end Go.Proofs.YteniflajiklffaaGreatDoor.recs

namespace Go.Proofs.YteniflajiklffaaGreatDoor.recs
open Go Go.RowKit Go.Proofs.YteniflajiklffaaGreatDoor.base Go.Proofs.YteniflajiklffaaGreatDoor.pairs Go.Proofs.YteniflajiklffaaGreatDoor.ords Go.Proofs.YteniflajiklffaaGreatDoor.helps Go.Proofs.YteniflajiklffaaGreatDoor.help Go.Proofs.YteniflajiklffaaGreatDoor.lay
set_option linter.unusedVariables false
set_option linter.unusedSimpArgs false

def Few (l : List Rc) : Prop := ∀ r ∈ l, r.2.2.length ≤ 1099511627776 ∧ ∀ p ∈ r.2.2, p.2.1.size ≤ 1099511627776
abbrev aggSh (id sure : Int) (la : Option Addr) (ln lc : Nat) (ma : Option Addr) (mn mc : Nat) (ha : Option Addr) (hn hc : Nat) : Value := .agg #[.int .i64 id, .slice la ln lc, .int .i64 sure, .slice ma mn mc, .slice ha hn hc]
abbrev boxSh (id sure : Int) (la : Option Addr) (ln lc : Nat) (ma : Option Addr) (mn mc : Nat) (ha : Option Addr) (hn hc : Nat) : Obj := .cells #[.int .i64 id, .slice la ln lc, .int .i64 sure, .slice ma mn mc, .slice ha hn hc] 27
theorem shardOk_no1 {s : Shd} (h : ¬ (0 ≤ s.1 ∧ s.1 ≤ 7)) : shardOk s = false := by unfold shardOk; rw [decide_eq_false h]; rfl
theorem shardOk_no2 {s : Shd} (h : 300 < s.2.1.length) : shardOk s = false := by unfold shardOk; rw [decide_eq_false (p := s.2.1.length ≤ 300) (by omega)]; simp
theorem shardOk_no3 {s : Shd} (h : ¬ (0 ≤ s.2.2.1 ∧ s.2.2.1 ≤ (s.2.1.length : Int))) : shardOk s = false := by unfold shardOk; rw [decide_eq_false h]; simp
theorem shardOk_yes {s : Shd} (h1 : 0 ≤ s.1 ∧ s.1 ≤ 7) (h2 : s.2.1.length ≤ 300) (h3 : 0 ≤ s.2.2.1 ∧ s.2.2.1 ≤ (s.2.1.length : Int)) :
    shardOk s = ((replay s.2.1).isSome && decide (resM (replay s.2.1) = s.2.2.2.1) && decide (resH (replay s.2.1) = s.2.2.2.2) && decide (s.2.1.length + (resH (replay s.2.1)).length ≤ 300)) := by
  unfold shardOk
  rw [decide_eq_true h1, decide_eq_true h2, decide_eq_true h3]
  cases replay s.2.1 with
  | none => rfl
  | some t =>
    rw [Bool.eq_iff_iff]
    simp only [Bool.and_eq_true, decide_eq_true_iff, resM, resH, Option.isSome_some, true_and]
    exact ⟨fun ⟨⟨a, b⟩, c⟩ => ⟨⟨decide_eq_true a, decide_eq_true b⟩, decide_eq_true c⟩, fun ⟨⟨a, b⟩, c⟩ => ⟨⟨of_decide_eq_true a, of_decide_eq_true b⟩, of_decide_eq_true c⟩⟩
set_option maxRecDepth 100000 in
set_option maxHeartbeats 2000000 in
theorem spec_shardOk (la : Option Addr) (ln lc : Nat) (ma : Option Addr) (mn mc : Nat) (ha : Option Addr) (hn hc : Nat) (s : Shd) (w : World) (h : SeeSh w la ln lc ma mn mc ha hn hc s) (hf : Few s.2.1) :
    Calls Tryz.prog 36 #[aggSh s.1 s.2.2.1 la ln lc ma mn mc ha hn hc] w fun e w' => e = .returned (.bool (shardOk s)) ∧ Below w.heap.size w w' := by
  have hll := h.log.1
  have hmx := h.log.2.1
  unfold maxLen at hmx
  obtain ⟨W, hW⟩ : ∃ W, w.alloc (boxSh s.1 s.2.2.1 la ln lc ma mn mc ha hn hc) = W := ⟨_, rfl⟩
  have hB : Below w.heap.size w W := by rw [← hW]; exact (Below.refl _ _).alloc (Nat.le_refl _) _
  have hbx : BoxIn w.heap.size 27 [] (shVals s.1 s.2.2.1 la ln lc ma mn mc ha hn hc) [] W := by rw [← hW]; exact boxIn_new w _ _
  have HI1 := Hid.mk' (fun wx => spec_in s.1 0 7 wx)
  have HI2 := Hid.mk' (fun wx => spec_in s.2.2.1 0 ln wx)
  have HW := Hid.mk' hW
  have HHL := Hid.mk' h.held.1
  have hhm := h.held.2.1
  unfold maxLen at hhm
  have HLL := Hid.mk' hll
  generalize hR : shardOk s = R
  have c0 := hbx.cell 0 _ rfl
  have c1 := hbx.cell 1 _ rfl
  have c2 := hbx.cell 2 _ rfl
  simp only [List.length_nil, Nat.zero_add] at c0 c1 c2
  have hXl := hbx.lt
  by_cases h1 : 0 ≤ s.1 ∧ s.1 ≤ 7
  · rw [decide_eq_true h1] at HI1
    by_cases h2 : s.2.1.length ≤ 300
    · have hn2 : ¬ (300 : Int) < (ln : Int) := by omega
      by_cases h3 : 0 ≤ s.2.2.1 ∧ s.2.2.1 ≤ (s.2.1.length : Int)
      · rw [decide_eq_true (show 0 ≤ s.2.2.1 ∧ s.2.2.1 ≤ (ln : Int) by omega)] at HI2
        rw [shardOk_yes h1 h2 h3] at hR
        have HRP := Hid.mk' (spec_replay la ln lc s.2.1 W (h.log.below hB) (by omega) hf)
        have hlt : (resH (replay s.2.1)).length ≤ 300 := by have := (replay_sizes s.2.1).2.1; omega
        have hln : ln ≤ 300 := by omega
        generalize replay s.2.1 = t at *
        have HR := Hid.mk' hR
        have hS := h
        clear hR hW h h1 h2 h3 hll
        go_enter Tryz.func36, Tryz.ntmps36
        go_wp2_with fail
        refine (HI1.out _).mono ?_
        rintro e w1 ⟨rfl, rfl⟩
        go_wp2_with fail
        refine (HI2.out _).mono ?_
        rintro e w1 ⟨rfl, rfl⟩
        go_wp2_with fail
        rw [HW.out]
        refine HRP.out.mono ?_
        rintro e w2 ⟨g, np, cp, g2, c2', hs, rfl, hO, hOR, _, hb2⟩
        have hbx2 := hbx.below hb2
        have d1 := hbx2.cell 1 _ rfl
        have d3 := hbx2.cell 3 _ rfl
        have d4 := hbx2.cell 4 _ rfl
        simp only [List.length_nil, Nat.zero_add] at d1 d3 d4
        have hB2 := hB.trans (hb2.mono hB.size)
        have HSP := Hid.mk' (spec_samePairs (some ⟨g, 0, none⟩) ma np cp mn mc (resM t) s.2.2.2.1 w2 hO.sl (hS.map.below hB2))
        have HSR := Hid.mk' (fun wx (hx : Below w2.heap.size w2 wx) => spec_sameRecs (some ⟨g2, 0, none⟩) ha _ c2' hn hc (resH t) s.2.2.2.2 wx (hOR.sl.below hx) ((hS.held.below hB2).below hx))
        have hlh : (resH t).length ≤ maxLen := hOR.sl.2.1
        unfold maxLen at hlh
        clear HRP HI1 HI2 HW c0 c1 c2 hbx hO
        cases hts : t.isSome with
        | false =>
          have HR2 : Hid (R = false) := by show _ = _; rw [← HR.out, hts]; rfl
          clear HR HSP HSR
          go_wp2_with fail
          go_ret
          rw [HR2.out]
          exact ⟨rfl, hB2⟩
        | true =>
          by_cases e1 : resM t = s.2.2.2.1
          · rw [decide_eq_true e1] at HSP
            have hbd : ∀ n, Below w2.heap.size w2 (w2.drewN n) := fun n => below_drewN (Below.refl _ _) n
            by_cases e2 : resH t = s.2.2.2.2
            · rw [decide_eq_true e2] at HSR
              have HR2 : Hid (R = decide (s.2.1.length + (resH t).length ≤ 300)) := by show _ = _; rw [← HR.out, hts, decide_eq_true e1, decide_eq_true e2]; simp
              clear HR
              have hes : (resH t).length = hn := by rw [e2]; exact HHL.out
              have HES := Hid.mk' hes
              clear hes e1 e2
              go_wp2_with fail
              refine HSP.out.mono ?_
              rintro e w3 ⟨rfl, n3, rfl⟩
              have hbx3 := hbx2.below (hbd n3)
              have f1 := hbx3.cell 1 _ rfl
              have f4 := hbx3.cell 4 _ rfl
              simp only [List.length_nil, Nat.zero_add] at f1 f4
              go_wp2_with fail
              refine (HSR.out _ (hbd n3)).mono ?_
              rintro e w4 ⟨rfl, hb4⟩
              have hbx4 := hbx3.below hb4
              have k1 := hbx4.cell 1 _ rfl
              simp only [List.length_nil, Nat.zero_add] at k1
              have hB4 := hB2.trans ((hbd n3).mono hB2.size) |>.trans (hb4.mono (Nat.le_trans hB2.size (hbd n3).size))
              clear HSP HSR d1 d3 d4 f1 f4
              go_wp2_with fail
              go_ret
              rw [HR2.out]
              exact ⟨ret_bool (by rw [Bool.eq_iff_iff, decide_eq_true_iff, decide_eq_true_iff]; have := HES.out; have := HLL.out; omega), hB4⟩
            · rw [decide_eq_false e2] at HSR
              have HR2 : Hid (R = false) := by show _ = _; rw [← HR.out, decide_eq_false e2]; simp
              clear HR
              go_wp2_with fail
              refine HSP.out.mono ?_
              rintro e w3 ⟨rfl, n3, rfl⟩
              have hbx3 := hbx2.below (hbd n3)
              have f1 := hbx3.cell 1 _ rfl
              have f4 := hbx3.cell 4 _ rfl
              simp only [List.length_nil, Nat.zero_add] at f1 f4
              go_wp2_with fail
              refine (HSR.out _ (hbd n3)).mono ?_
              rintro e w4 ⟨rfl, hb4⟩
              have hB4 := hB2.trans ((hbd n3).mono hB2.size) |>.trans (hb4.mono (Nat.le_trans hB2.size (hbd n3).size))
              clear HSP HSR d1 d3 d4 f1 f4
              go_wp2_with fail
              go_ret
              rw [HR2.out]
              exact ⟨rfl, hB4⟩
          · rw [decide_eq_false e1] at HSP
            have HR2 : Hid (R = false) := by show _ = _; rw [← HR.out, decide_eq_false e1]; simp
            clear HR
            go_wp2_with fail
            refine HSP.out.mono ?_
            rintro e w3 ⟨rfl, n3, rfl⟩
            have hB4 := hB2.trans ((below_drewN (Below.refl _ _) n3 : Below w2.heap.size w2 (w2.drewN n3)).mono hB2.size)
            clear HSP HSR d1 d3 d4
            go_wp2_with fail
            go_ret
            rw [HR2.out]
            exact ⟨rfl, hB4⟩
      · rw [decide_eq_false (show ¬ (0 ≤ s.2.2.1 ∧ s.2.2.1 ≤ (ln : Int)) by omega)] at HI2
        have HR2 : Hid (R = false) := by show _ = _; rw [← hR]; exact shardOk_no3 h3
        clear hR hW h h1 h2 h3 hll
        go_enter Tryz.func36, Tryz.ntmps36
        go_wp2_with fail
        refine (HI1.out _).mono ?_
        rintro e w1 ⟨rfl, rfl⟩
        go_wp2_with fail
        refine (HI2.out _).mono ?_
        rintro e w1 ⟨rfl, rfl⟩
        go_wp2_with fail
        go_ret
        rw [HR2.out, HW.out]
        exact ⟨rfl, hB⟩
    · have hn2 : (300 : Int) < (ln : Int) := by omega
      have HR2 : Hid (R = false) := by show _ = _; rw [← hR]; exact shardOk_no2 (by omega)
      clear hR hW h h1 h2 HI2 hll
      go_enter Tryz.func36, Tryz.ntmps36
      go_wp2_with fail
      refine (HI1.out _).mono ?_
      rintro e w1 ⟨rfl, rfl⟩
      go_wp2_with fail
      go_ret
      rw [HR2.out, HW.out]
      exact ⟨rfl, hB⟩
  · rw [decide_eq_false h1] at HI1
    have HR2 : Hid (R = false) := by show _ = _; rw [← hR]; exact shardOk_no1 h1
    clear hR hW h h1 HI2 hll
    go_enter Tryz.func36, Tryz.ntmps36
    go_wp2_with fail
    refine (HI1.out _).mono ?_
    rintro e w1 ⟨rfl, rfl⟩
    go_wp2_with fail
    go_ret
    rw [HR2.out, HW.out]
    exact ⟨rfl, hB⟩
end Go.Proofs.YteniflajiklffaaGreatDoor.recs

namespace Go.Proofs.YteniflajiklffaaGreatDoor.recs
open Go Go.RowKit Go.Proofs.YteniflajiklffaaGreatDoor.base Go.Proofs.YteniflajiklffaaGreatDoor.pairs Go.Proofs.YteniflajiklffaaGreatDoor.ords Go.Proofs.YteniflajiklffaaGreatDoor.helps Go.Proofs.YteniflajiklffaaGreatDoor.help Go.Proofs.YteniflajiklffaaGreatDoor.lay
set_option linter.unusedVariables false
set_option linter.unusedSimpArgs false

theorem lastOut_take (tx : Int) (l : List Rc) (k : Nat) (h : k < l.length) : lastOut tx (l.take (k + 1)) = if l[k].2.1 = tx ∧ l[k].1 = 3 then 4 else if l[k].2.1 = tx ∧ l[k].1 = 2 then 3 else lastOut tx (l.take k) := by
  rw [List.take_succ_eq_append_getElem h, lastOut_snoc]
theorem sumOps_take (l : List Rc) (k : Nat) (h : k < l.length) : sumOps (l.take (k + 1)) = sumOps (l.take k) + l[k].2.2.length := by
  rw [List.take_succ_eq_append_getElem h]; unfold sumOps; rw [List.map_append, List.sum_append]; simp
theorem sumOps_le (l : List Rc) (k : Nat) : sumOps (l.take k) ≤ sumOps l := by
  conv => rhs; rw [← List.take_append_drop k l]
  unfold sumOps; rw [List.map_append, List.sum_append]; omega
set_option maxRecDepth 100000 in
set_option maxHeartbeats 2000000 in
theorem spec_l9Outcome (la : Option Addr) (ln lc : Nat) (ma : Option Addr) (mn mc : Nat) (ha : Option Addr) (hn hc : Nat) (s : Shd) (tx : Int) (w : World) (h : SeeSh w la ln lc ma mn mc ha hn hc s) :
    Calls Tryz.prog 83 #[aggSh s.1 s.2.2.1 la ln lc ma mn mc ha hn hc, .int .i64 tx] w fun e w' => e = .returned (.int .i64 (outc s tx)) ∧ Below w.heap.size w w' := by
  obtain ⟨hl, hm, hsm, hc'⟩ := id h.log
  unfold maxLen at hm
  obtain ⟨W, hW⟩ : ∃ W, w.alloc (boxSh s.1 s.2.2.1 la ln lc ma mn mc ha hn hc) = W := ⟨_, rfl⟩
  have hB : Below w.heap.size w W := by rw [← hW]; exact (Below.refl _ _).alloc (Nat.le_refl _) _
  have hbx : BoxIn w.heap.size 27 [] (shVals s.1 s.2.2.1 la ln lc ma mn mc ha hn hc) [] W := by rw [← hW]; exact boxIn_new w _ _
  have HAT := Hid.mk' (spec_l8At ha hn hc s.2.2.2.2 tx W (h.held.below hB))
  have c1 := hbx.cell 1 _ rfl
  have c4 := hbx.cell 4 _ rfl
  simp only [List.length_nil, Nat.zero_add] at c1 c4
  have hlog := h.log.below hB
  have HW := Hid.mk' hW
  rw [← hW] at c1 c4
  have HL := Hid.mk' hl
  clear hW hl
  cases hp : placeTx tx s.2.2.2.2 with
  | some k =>
    have HO : Hid (outc s tx = 1) := by show _ = _; unfold outc; rw [hp]; rfl
    rw [hp, show atRet (some k) = (k : Int) from rfl] at HAT
    have hk0 : (0 : Int) ≤ (k : Int) := by omega
    clear hp
    go_enter Tryz.func83, Tryz.ntmps83
    go_wp2_with fail
    rw [HW.out]
    refine HAT.out.mono ?_
    rintro e w1 ⟨rfl, rfl⟩
    clear c1 c4 HAT HW
    go_wp2_with fail
    go_ret
    rw [HO.out]
    exact ⟨rfl, hB⟩
  | none =>
    have HO : Hid (outc s tx = lastOut tx s.2.1) := by show _ = _; unfold outc; rw [hp]; rfl
    rw [hp, show atRet none = (-1 : Int) from rfl] at HAT
    clear hp
    go_enter Tryz.func83, Tryz.ntmps83
    go_wp2_with fail
    rw [HW.out]
    refine HAT.out.mono ?_
    rintro e w1 ⟨rfl, rfl⟩
    have d1 := hbx.cell 1 _ rfl
    simp only [List.length_nil, Nat.zero_add] at d1
    clear c1 c4 HAT HW
    go_wp2_with fail
    go_loopw [5, 6] (fun o i wr => ∃ k : Nat, k ≤ ln ∧ i = .int .i64 (k : Int) ∧ o = .int .i64 (lastOut tx (s.2.1.take k)) ∧ wr = w1) (fun _ i _ => ln - (intOf i).toNat)
    case atStart => exact ⟨0, Nat.zero_le _, rfl, rfl, rfl⟩
    case round =>
      obtain ⟨k, hk, rfl, rfl, rfl⟩ := hrel
      by_cases hlt : k < ln
      · have hltl : k < s.2.1.length := by have := HL.out; omega
        obtain ⟨b, off, e, _⟩ := hc' (by omega)
        subst e
        obtain ⟨e0, e1, pa, pl, pc, e2, _, _⟩ := hlog.at k hltl
        have hki : (k : Int) < (ln : Int) := by omega
        have HT := Hid.mk' (lastOut_take tx s.2.1 k hltl)
        generalize s.2.1[k] = r at *
        generalize lastOut tx (s.2.1.take k) = o0 at *
        obtain ⟨r1, r2, r3⟩ := r
        simp only [] at e0 e1 e2 HT
        by_cases h1 : r2 = tx
        · subst h1
          have f1 : (r2 == r2) = true := by simp
          by_cases h2 : r1 = 2
          · subst h2
            have HT2 : Hid (lastOut r2 (s.2.1.take (k + 1)) = 3) := by show _ = _; rw [HT.out]; simp
            clear HT
            go_wp2_with fail
            go_roundw
            case rel => exact ⟨k + 1, by omega, by go_num, by rw [HT2.out], by trivial⟩
            case measure => simp [intOf]; omega
          · have g2 : (r1 == 2) = false := beq_eq_false_iff_ne.2 h2
            by_cases h3 : r1 = 3
            · subst h3
              have HT2 : Hid (lastOut r2 (s.2.1.take (k + 1)) = 4) := by show _ = _; rw [HT.out]; simp
              clear HT h2 g2
              go_wp2_with fail
              go_roundw
              case rel => exact ⟨k + 1, by omega, by go_num, by rw [HT2.out], by trivial⟩
              case measure => simp [intOf]; omega
            · have g3 : (r1 == 3) = false := beq_eq_false_iff_ne.2 h3
              have HT2 : Hid (lastOut r2 (s.2.1.take (k + 1)) = o0) := by show _ = _; rw [HT.out]; simp [h2, h3]
              clear HT h2 h3
              go_wp2_with fail
              go_roundw
              case rel => exact ⟨k + 1, by omega, by go_num, by rw [HT2.out], by trivial⟩
              case measure => simp [intOf]; omega
        · have f1 : (r2 == tx) = false := beq_eq_false_iff_ne.2 h1
          have HT2 : Hid (lastOut tx (s.2.1.take (k + 1)) = o0) := by show _ = _; rw [HT.out]; simp [h1]
          clear HT h1
          go_wp2_with fail
          go_roundw
          case rel => exact ⟨k + 1, by omega, by go_num, by rw [HT2.out], by trivial⟩
          case measure => simp [intOf]; omega
      · have HE : Hid (s.2.1.take k = s.2.1) := List.take_of_length_le (by have := HL.out; omega)
        have hnk : ¬ (k : Int) < (ln : Int) := by omega
        go_wp2_with fail
        go_ret
        rw [HO.out, HE.out]
        exact ⟨rfl, hB⟩
set_option maxRecDepth 100000 in
set_option maxHeartbeats 2000000 in
theorem spec_l9Keys (la : Option Addr) (ln lc : Nat) (ma : Option Addr) (mn mc : Nat) (ha : Option Addr) (hn hc : Nat) (s : Shd) (oa : Option Addr) (on oc : Nat) (ops : List Od) (w : World) (h : SeeSh w la ln lc ma mn mc ha hn hc s) (ho : SlO w oa on ops) (hs1 : sumOps s.2.2.2.2 ≤ 1099511627776) (hs2 : mn ≤ 1099511627776) (hs3 : on ≤ 1099511627776) :
    Calls Tryz.prog 86 #[aggSh s.1 s.2.2.1 la ln lc ma mn mc ha hn hc, .slice oa on oc] w fun e w' => e = .returned (.int .i64 (keysOf s ops : Int)) ∧ Below w.heap.size w w' := by
  obtain ⟨hl, hm, hsm, hc'⟩ := id h.held
  unfold maxLen at hm
  obtain ⟨W, hW⟩ : ∃ W, w.alloc (boxSh s.1 s.2.2.1 la ln lc ma mn mc ha hn hc) = W := ⟨_, rfl⟩
  have hB : Below w.heap.size w W := by rw [← hW]; exact (Below.refl _ _).alloc (Nat.le_refl _) _
  have hbx : BoxIn w.heap.size 27 [] (shVals s.1 s.2.2.1 la ln lc ma mn mc ha hn hc) [] W := by rw [← hW]; exact boxIn_new w _ _
  have c3 := hbx.cell 3 _ rfl
  have c4 := hbx.cell 4 _ rfl
  simp only [List.length_nil, Nat.zero_add] at c3 c4
  have hheld := h.held.below hB
  have HW := Hid.mk' hW
  rw [← hW] at c3
  have HL := Hid.mk' hl
  have HK : Hid (keysOf s ops = mn + on + sumOps s.2.2.2.2) := by show _ = _; unfold keysOf; rw [h.map.1, ho.1]
  clear hW hl
  go_enter Tryz.func86, Tryz.ntmps86
  go_wp2_with fail
  go_loopw [5, 6] (fun o i wr => ∃ k : Nat, k ≤ hn ∧ i = .int .i64 (k : Int) ∧ o = .int .i64 ((mn + on + sumOps (s.2.2.2.2.take k) : Nat) : Int) ∧ wr = W) (fun _ i _ => hn - (intOf i).toNat)
  case atStart => exact ⟨0, Nat.zero_le _, rfl, by simp [sumOps], HW.out⟩
  case round =>
    obtain ⟨k, hk, rfl, rfl, rfl⟩ := hrel
    clear c3
    by_cases hlt : k < hn
    · have hltl : k < s.2.2.2.2.length := by have := HL.out; omega
      obtain ⟨b, off, e, _⟩ := hc' (by omega)
      subst e
      obtain ⟨e0, e1, pa, pl, pc, e2, hSo, _⟩ := hheld.at k hltl
      have hki : (k : Int) < (hn : Int) := by omega
      have HT := Hid.mk' (sumOps_take s.2.2.2.2 k hltl)
      have hle := sumOps_le s.2.2.2.2 (k + 1)
      have hpl := hSo.1
      have hS0 : sumOps (s.2.2.2.2.take k) + pl ≤ 1099511627776 := by rw [HT.out] at hle; omega
      have HPL := Hid.mk' hpl
      clear hpl hle hSo
      generalize hA : sumOps (s.2.2.2.2.take k) = A at *
      clear hA
      generalize s.2.2.2.2[k] = r at *
      go_wp2_with fail
      go_roundw
      case rel => exact ⟨k + 1, by omega, by go_num, by rw [HT.out, HPL.out]; go_num, by trivial⟩
      case measure => simp [intOf]; omega
    · have HE : Hid (s.2.2.2.2.take k = s.2.2.2.2) := List.take_of_length_le (by have := HL.out; omega)
      have hnk : ¬ (k : Int) < (hn : Int) := by omega
      go_wp2_with fail
      go_ret
      rw [HK.out, HE.out]
      exact ⟨rfl, hB⟩
end Go.Proofs.YteniflajiklffaaGreatDoor.recs

namespace Go.Proofs.YteniflajiklffaaGreatDoor.recs
open Go Go.RowKit Go.Proofs.YteniflajiklffaaGreatDoor.base Go.Proofs.YteniflajiklffaaGreatDoor.pairs Go.Proofs.YteniflajiklffaaGreatDoor.ords
set_option linter.unusedVariables false
set_option linter.unusedSimpArgs false

set_option maxRecDepth 100000 in
set_option maxHeartbeats 1000000 in
theorem spec_copyRecs (a : Option Addr) (len cap : Nat) (l : List Rc) (w : World) (h : SlR w a len l) (hsz : len ≤ 1099511627776) (hops : ∀ r ∈ l, r.2.2.length ≤ 1099511627776) :
    Calls Tryz.prog 77 #[.slice a len cap] w fun e w' => ∃ g cp hs, e = .returned (.slice (some ⟨g, 0, none⟩) len cp) ∧ OwnR w' w.heap.size (.slice (some ⟨g, 0, none⟩) len cp) l hs ∧ Below w.heap.size w w' := by
  obtain ⟨i0, hi, hz0, hz1, hz2⟩ := info_parts infoRW
  obtain ⟨hl, hm, hsm, hc⟩ := id h
  subst hl
  unfold maxLen at hm
  have hB0 : Below w.heap.size w (w.alloc (.cells #[] 41)) := (Below.refl _ _).alloc (Nat.le_refl _) _
  have hO0 := ownR_made w w.heap.size (Nat.le_refl _)
  go_enter Tryz.func77, Tryz.ntmps77
  go_wp2_with (at_builtin; fail)
  go_loopw [3, 4] (fun v i wr => ∃ (k g cp : Nat) (hs : List Value), k ≤ l.length ∧ v = .slice (some ⟨g, 0, none⟩) k cp ∧ i = .int .i64 (k : Int) ∧ OwnR wr w.heap.size (.slice (some ⟨g, 0, none⟩) k cp) (l.take k) hs ∧ Below w.heap.size w wr) (fun _ i _ => l.length - (intOf i).toNat)
  case atStart => exact ⟨0, _, 0, [], Nat.zero_le _, rfl, rfl, hO0, hB0⟩
  case round =>
    clear hO0 hB0
    obtain ⟨k, g, cp, hs, hk, rfl, rfl, hO, hB⟩ := hrel
    by_cases hlt : k < l.length
    · obtain ⟨b, off, ha, _⟩ := hc (by omega)
      subst ha
      obtain ⟨c0', c1', pa, pl, pc, c2', hSo, _⟩ := h.at k hlt
      have hbw := World.block_lt_of_cell? w _ c0'
      have c0 := (hB.cell (p := ⟨b, off + k * 3, none⟩) hbw).trans c0'
      have c1 := (hB.cell (p := ⟨b, off + k * 3 + 1, none⟩) hbw).trans c1'
      have c2 := (hB.cell (p := ⟨b, off + k * 3 + 2, none⟩) hbw).trans c2'
      have hki : (k : Int) < (l.length : Int) := by omega
      have hsr := hsm _ (List.getElem_mem hlt)
      have hol := hops _ (List.getElem_mem hlt)
      have HTK : Hid (l.take (k + 1) = l.take k ++ [l[k]]) := List.take_succ_eq_append_getElem hlt
      have htl : (l.take k).length = k := by rw [List.length_take]; omega
      generalize l[k] = r at *
      generalize l.take k = T at *
      clear c0' c1' c2' hbw
      have hpe := hSo.1
      have HCR := Hid.mk' (spec_copyRec r.1 r.2.1 pa pl pc r.2.2 wr (hSo.below hB) (by omega))
      have HTL := Hid.mk' htl
      have HO := Hid.mk' hO
      clear hO htl
      go_wp2_with (at_builtin; fail)
      refine HCR.out.mono ?_
      rintro e w3 ⟨g3, c3, rfl, hO3, hb3⟩
      have hV3 := (ownV_of hO3).mono (base' := w.heap.size) hB.size
      have hOa := HO.out.below hb3
      have hB3 := hB.trans (hb3.mono hB.size)
      have hg3 := hO3.lt
      have hout : ∀ j, (Value.slice (some ⟨g3, 0, none⟩) pl c3).ownBlock = some j → ¬ BlkR (.slice (some ⟨g, 0, none⟩) k cp) hs j := fun j hj hb => by
        have e1 : g3 = j := by simpa [Value.ownBlock] using hj
        have := (HO.out.lt j hb).2
        omega
      have HOU := Hid.mk' hout
      have hbn : Below w3.heap.size w3 (w3.alloc (.cells #[.int .i64 r.1, .int .i64 r.2.1, .slice (some ⟨g3, 0, none⟩) pl c3] 41)) := (Below.refl _ _).alloc (Nat.le_refl _) _
      have hO4 := hOa.below hbn
      have hV4 := hV3.below hbn
      have hB4 := hB3.trans (hbn.mono hB3.size)
      have HOC := Hid.mk' (rec_cellsW w3 r.1 r.2.1 (.slice (some ⟨g3, 0, none⟩) pl c3) 41)
      have HON := Hid.mk' (rec_oneW r.1 r.2.1 hV3.one)
      have hc3 : T.length + 1 ≤ maxLen := by have := HTL.out; unfold maxLen; omega
      have hc4 : (T.length + 1) * 40 ≤ 140737488355328 := by have := HTL.out; omega
      clear HCR hO3 hb3 hV3 hOa hB3 hbn hout c0 c1 c2 HO
      go_wp2_with (at_builtin; refine wpList_append_own _ rfl (.tmp 12) (.tmp 18) 24 rfl w.heap.size 41 i0 (.agg #[.int .i64 0, .int .i64 0, .slice none 0 0]) 3 40 Tryz.underlying24 hi hz0 hz1 hz2 rfl (by decide) _ _ _ rfl hO4.row ⟨w3.heap.size, 0, none⟩ 1 1 _ rfl rfl HOC.out HON.out hc3 hc4 hB4.size ?_)
      intro v5 w5 hown5 hgrow5 hnn5
      have hnn' : ¬ v5 = .slice none 0 0 := by simpa using hnn5
      have hO5 := hO4.snoc hV4 hsr HOU.out hown5 hgrow5
      have hB5 : Below w.heap.size w w5 := hB4.grown hgrow5 hB4.size (fun j e => (hO4.row.lt j e).1)
      rw [← HTK.out] at hO5
      have htl2 : (l.take (k + 1)).length = k + 1 := by rw [List.length_take]; omega
      rcases hO5.shape with ⟨hv5, _⟩ | ⟨g5, cp5, hv5, _⟩
      · exact absurd hv5 hnn'
      · rw [htl2] at hv5
        subst hv5
        have HO5 := Hid.mk' hO5
        clear hown5 hgrow5 hnn5 hnn' hO5 hO4 hB4 hV4 HOC HON HOU htl2
        go_wp2_with (at_builtin; fail)
        go_roundw
        case rel => exact ⟨k + 1, g5, cp5, _, by omega, rfl, by go_num, HO5.out, hB5⟩
        case measure => simp [intOf]; omega
    · have hke : k = l.length := by omega
      subst hke
      rw [List.take_length] at hO
      have hlt2 : ¬ (l.length : Int) < (l.length : Int) := by omega
      go_wp2_with (at_builtin; fail)
      go_ret
      exact ⟨g, cp, rfl, ⟨hs, hO⟩, hB⟩
end Go.Proofs.YteniflajiklffaaGreatDoor.recs
