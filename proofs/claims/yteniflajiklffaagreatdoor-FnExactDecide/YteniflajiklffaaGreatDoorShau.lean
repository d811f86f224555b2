/- Shards: what is right is no greater than the laws take. Plain mathematics. The program's shard holds a transaction. The specification's shard: it does, or lets go. The specification's shard: it holds, does and lets go, whatever it is. The program's shard: a copy of it. -/
import Derived.Test.YteniflajiklffaaGreatDoorShat
import Derived.Test.YteniflajiklffaaGreatDoorShar
namespace Go.Proofs.YteniflajiklffaaGreatDoor.recs
open Go Go.RowKit Go.Proofs.YteniflajiklffaaGreatDoor.base Go.Proofs.YteniflajiklffaaGreatDoor.pairs Go.Proofs.YteniflajiklffaaGreatDoor.ords Go.Proofs.YteniflajiklffaaGreatDoor.helps Go.Proofs.YteniflajiklffaaGreatDoor.help Go.Proofs.YteniflajiklffaaGreatDoor.lay
set_option linter.unusedVariables false
set_option linter.unusedSimpArgs false

theorem ok_eight {r : Rc} (h : recOk r = true) : r.2.2.length ≤ 8 ∧ ∀ p ∈ r.2.2, p.2.1.size ≤ 1099511627776 := by
  rcases ((recOk_iff r).1 h).2 with ⟨_, h2⟩ | ⟨_, h2⟩
  · refine ⟨((opsOk_iff _).1 h2).2.2, fun p hp => ?_⟩
    have h3 := ((opsOk_iff _).1 h2).1.1 p hp
    have h5 := keyOk_size ((odOk_iff p).1 h3).2.2.1
    omega
  · rw [h2]; exact ⟨by simp, fun p hp => absurd hp List.not_mem_nil⟩
theorem cntR_26 {l : List Rc} (h : ∀ r ∈ l, r.2.2.length ≤ 8) : cntR l ≤ 26 * l.length := by
  induction l with
  | nil => simp [cntR]
  | cons r l ih =>
    have h1 := h r List.mem_cons_self
    have h2 := ih (fun x hx => h x (List.mem_cons_of_mem _ hx))
    unfold cntR at h2 ⊢
    simp only [List.map_cons, List.sum_cons, List.length_cons]
    omega
theorem few_ok {l : List Rc} (h : ∀ r ∈ l, recOk r = true) : Few l := fun r hr => ⟨by have := (ok_eight (h r hr)).1; omega, (ok_eight (h r hr)).2⟩
theorem right_bd {s : Shd} (h : Right s) : Bound s := by
  have h1 := h.room
  obtain ⟨seen, hm⟩ := h.made
  have h2 := ((pairsOk_iff _).1 (replay_ok hm).1).2
  have h3 := cntR_26 (fun r hr => (ok_eight (h.recOk r hr)).1)
  have h4 := cntR_26 (l := s.2.2.2.2) (fun r hr => (ok_eight (h.recOk r (h.held_tx r hr).1)).1)
  simp only [] at h2
  refine ⟨few_ok h.recOk, few_ok (fun r hr => h.recOk r (h.held_tx r hr).1), by omega, by omega, by omega, ?_⟩
  unfold cntS
  omega
end Go.Proofs.YteniflajiklffaaGreatDoor.recs

namespace Go.Proofs.YteniflajiklffaaGreatDoor.recs
open Go Go.RowKit Go.Proofs.YteniflajiklffaaGreatDoor.base Go.Proofs.YteniflajiklffaaGreatDoor.pairs Go.Proofs.YteniflajiklffaaGreatDoor.ords Go.Proofs.YteniflajiklffaaGreatDoor.helps Go.Proofs.YteniflajiklffaaGreatDoor.help Go.Proofs.YteniflajiklffaaGreatDoor.lay Go.Proofs.YteniflajiklffaaGreatDoor.sent
set_option linter.unusedVariables false
set_option linter.unusedSimpArgs false

def DoPost (A : Nat → Addr) (t : Shd) (g : Option Nat) (w : World) (e : Ending) (w' : World) : Prop :=
  match g with
  | some k => e = .returned (.tuple #[.agg #[.int .i64 0, .slice none 0 0, .int .i64 0, .slice none 0 0, .slice none 0 0], .iface 180 (.pointer (some (A k)))]) ∧ Below w.heap.size w w'
  | none => ∃ (la : Option Addr) (ln lc : Nat) (ma : Option Addr) (mn mc : Nat) (ha : Option Addr) (hn hc : Nat) (F : List Nat), e = .returned (.tuple #[aggSh t.1 t.2.2.1 la ln lc ma mn mc ha hn hc, .nilIface]) ∧ OwnSh w' la ln lc ma mn mc ha hn hc t F ∧ (∀ k ∈ F, w.heap.size ≤ k) ∧ Below w.heap.size w w'
end Go.Proofs.YteniflajiklffaaGreatDoor.recs

namespace Go.Proofs.YteniflajiklffaaGreatDoor.recs
open Go Go.RowKit Go.Proofs.YteniflajiklffaaGreatDoor.base Go.Proofs.YteniflajiklffaaGreatDoor.pairs Go.Proofs.YteniflajiklffaaGreatDoor.ords Go.Proofs.YteniflajiklffaaGreatDoor.helps Go.Proofs.YteniflajiklffaaGreatDoor.help Go.Proofs.YteniflajiklffaaGreatDoor.lay
set_option linter.unusedVariables false
set_option linter.unusedSimpArgs false

theorem standCode_of {k : Int} : standCode k = 1 ∨ standCode k = 2 ∨ standCode k = 3 ∨ standCode k = 4 := by
  unfold standCode
  split
  · exact .inl rfl
  · split
    · exact .inr (.inr (.inl rfl))
    · split
      · exact .inr (.inr (.inr rfl))
      · exact .inr (.inl rfl)
theorem recOk_end {tx : Int} (h : txOk tx = true) (kind : Int) (hk : kind = 2 ∨ kind = 3) : recOk (kind, tx, []) = true :=
  (recOk_iff _).2 ⟨by simpa [txOk] using h, .inr ⟨hk, rfl⟩⟩
theorem ints_wf (k : Int) (h : k = 2 ∨ k = 3) : (Lit.int .i64 k).wf = true := by rcases h with rfl | rfl <;> rfl
set_option maxRecDepth 100000 in
set_option maxHeartbeats 4000000 in
theorem spec_l9Decide (X : Nat) (T : TypeId) (pre post : List Value) (la : Option Addr) (ln lc : Nat) (ma : Option Addr) (mn mc : Nat) (ha : Option Addr) (hn hc : Nat) (s : Shd) (F : List Nat) (tx : Int) (yes : Bool) (w : World)
    (h : InSh w X T pre post la ln lc ma mn mc ha hn hc s F) (htx : (Lit.int .i64 tx).wf = true) (hR : Right s) :
    Calls Tryz.prog 49 #[.pointer (some ⟨X, pre.length, none⟩), .int .i64 tx, .bool yes] w fun e w' => e = .returned (.bool (decideS s tx yes).2) ∧ WrotePost w X T pre post F (decideS s tx yes).1 w' := by
  obtain ⟨l1, l2, l3⟩ := h.lens
  have hroom := hR.room
  have hsee := h.own.see
  have hXl := h.box.lt
  have hFlt := h.own.lt
  have HI := Hid.mk' (fun wx => (spec_in tx 1 1000000 wx).mono (fun e w' (hp : e = .returned (.bool (decide (1 ≤ tx ∧ tx ≤ 1000000))) ∧ w' = wx) => (⟨hp.1, hp.2.symm⟩ : e = .returned (.bool (decide (1 ≤ tx ∧ tx ≤ 1000000))) ∧ wx = w')))
  by_cases g1 : 1 ≤ tx ∧ tx ≤ 1000000
  · rw [decide_eq_true g1] at HI
    have gt : txOk tx = true := decide_eq_true g1
    obtain ⟨kd, hkd, hkd2⟩ : ∃ kd : Int, kd = (if yes = true then 2 else 3) ∧ (kd = 2 ∨ kd = 3) := by
      refine ⟨_, rfl, ?_⟩
      split
      · exact .inl rfl
      · exact .inr rfl
    have hkdw := ints_wf kd hkd2
    obtain ⟨W, hW⟩ : ∃ W, w.alloc (.cells #[.int .i64 kd, .int .i64 tx, .slice none 0 0] 41) = W := ⟨_, rfl⟩
    have hB : Below w.heap.size w W := by rw [← hW]; exact (Below.refl _ _).alloc (Nat.le_refl _) _
    have hbr : BoxR w.heap.size kd tx (.slice none 0 0) W := by rw [← hW]; exact boxR_new _ _ _ _
    have HOU := Hid.mk' (spec_l9Outcome la ln lc ma mn mc ha hn hc s tx W (hsee.below hB))
    have hbX := h.box.below hB
    have k0 := hbX.cell 0 _ rfl
    have k1 := hbX.cell 1 _ rfl
    have k2 := hbX.cell 2 _ rfl
    have k3 := hbX.cell 3 _ rfl
    have k4 := hbX.cell 4 _ rfl
    simp only [Nat.add_zero] at k0
    have hln : ln ≤ 300 := by omega
    have hhn : hn ≤ 300 := by omega
    have HLN : Hid (s.2.1.length + s.2.2.2.2.length = ln + hn) := by show _ = _; omega
    have HWR := Hid.mk' (fun wx (hx : Below w.heap.size w wx) (hf : Fits s.2.2.2.1 s.2.2.2.2 (kd, tx, [])) => (spec_l9Write X T pre post la ln lc ma mn mc ha hn hc s F kd tx none 0 0 [] wx (h.below hx) (fun w' _ => slo_nil _ _) (fun p hp => absurd hp List.not_mem_nil) ⟨hkdw, htx, fun o ho => absurd ho List.not_mem_nil⟩ (Nat.zero_le _) hf (by omega)).mono (fun e w' hp => (⟨hp.1, hp.2.from hx hFlt⟩ : e = .returned (.tuple #[]) ∧ WrotePost w X T pre post F (written s (kd, tx, [])) w')))
    have HSM := Hid.mk' (fun wx (hx : Below w.heap.size w wx) => h.same hx)
    have HD : Hid (decideS s tx yes = if outc s tx = 1 then (written s (kd, tx, []), true) else if outc s tx = 3 then (s, yes) else if outc s tx = 4 then (s, !yes) else if yes = true ∨ 300 ≤ s.2.1.length + s.2.2.2.2.length then (s, false) else (written s (3, tx, []), true)) := by
      show _ = _
      unfold decideS
      rw [gt, if_neg (by simp), ← hkd]
    have hoc : outc s tx = 1 ∨ outc s tx = 2 ∨ outc s tx = 3 ∨ outc s tx = 4 := by rw [outc_stand hR]; exact standCode_of
    have HF1 : Hid (outc s tx = 1 → Fits s.2.2.2.1 s.2.2.2.2 (kd, tx, [])) := fun e => by
      obtain ⟨k, hk⟩ := outc_held hR e
      exact hR.fits_end (recOk_end gt kd hkd2) (by omega) hk
    have HF2 : Hid (outc s tx = 2 → yes = false → Fits s.2.2.2.1 s.2.2.2.2 (kd, tx, [])) := fun e e2 => by
      have : kd = 3 := by rw [hkd, e2]; rfl
      subst this
      exact hR.fits_gone (recOk_end gt 3 (.inr rfl)) (unheld (by omega))
    have HK3 : Hid (yes = false → kd = 3) := fun e2 => by rw [hkd, e2]; rfl
    have HW := Hid.mk' hW
    generalize hoo : outc s tx = oo at *
    clear hoo g1 gt l1 l2 l3 hroom hkd2 hkdw
    have HKD := Hid.mk' hkd
    have HWK : Hid (yes = true → w.alloc (.cells #[.int .i64 2, .int .i64 tx, .slice none 0 0] 41) = W) := fun e => by rw [← hW, hkd, e]; rfl
    have HWN : Hid (yes = false → w.alloc (.cells #[.int .i64 3, .int .i64 tx, .slice none 0 0] 41) = W) := fun e => by rw [← hW, hkd, e]; rfl
    clear hW hkd
    go_enter Tryz.func49, Tryz.ntmps49
    go_wp2_with fail
    refine (HI.out _).mono ?_
    rintro e w1 ⟨rfl, rfl⟩
    clear HI
    cases yes with
    | true =>
      have HW2 := Hid.mk' (HWK.out rfl)
      clear HWK HWN HF2 HK3
      rw [← HW2.out] at k0 k1 k2 k3 k4
      go_wp2_with fail
      rw [HW2.out]
      refine HOU.out.mono ?_
      rintro e w3 ⟨rfl, hb3'⟩
      have hb3 := hB.trans (hb3'.mono hB.size)
      have hbr3 := hbr.below hb3'
      obtain ⟨e0, e1, e2⟩ := hbr3.cells
      have b3 := h.box.below hb3
      have hX3 := b3.lt
      clear HOU k0 k1 k2 k3 k4 HW2 HW
      rcases hoc with rfl | rfl | rfl | rfl
      · have HV : Hid (decideS s tx true = (written s (kd, tx, []), true)) := by show _ = _; rw [HD.out, if_pos rfl]
        have HWR2 := Hid.mk' (HWR.out _ hb3 (HF1.out rfl))
        clear HD HF1 HWR
        go_wp2_with fail
        refine HWR2.out.mono ?_
        rintro e w7 ⟨rfl, hwr⟩
        clear HWR2 e0 e1 e2
        go_wp2_with fail
        go_ret
        rw [HV.out]
        exact ⟨rfl, hwr⟩
      · have HV : Hid (decideS s tx true = (s, false)) := by show _ = _; rw [HD.out, if_neg (by decide), if_neg (by decide), if_neg (by decide), if_pos (.inl (by trivial))]
        clear HD HF1 HWR
        have o1 := last.On.cell (B := w3.heap.size) (b3.cell 1 _ rfl) hX3
        have o4 := last.On.cell (B := w3.heap.size) (b3.cell 4 _ rfl) hX3
        have hinh := last.On.inh w3.heap.size w3
        go_wp2_with fail
        refine last.wp_region_on w3.heap.size (by kernel_rfl) (by kernel_rfl) ?_
        repeat (go_big_quiet_step (fail))
        refine wpQuiet_nil ?_
        intro w5 hw5
        obtain ⟨x5, hw5⟩ := hw5
        have hb5 : Below w.heap.size w w5 := by rw [hw5]; exact hb3.trans (x5.2.mono hb3.size)
        have hbr5 : BoxR w.heap.size kd tx (.slice none 0 0) w5 := by rw [hw5]; exact hbr3.below x5.2
        clear hw5 x5 o1 o4 hinh e0 e1 e2
        go_wp2_with fail
        go_ret
        rw [HV.out]
        exact ⟨rfl, HSM.out _ hb5⟩
      · have HV : Hid (decideS s tx true = (s, true)) := by show _ = _; rw [HD.out, if_neg (by decide), if_pos rfl]
        clear HD HF1 HWR
        go_wp2_with fail
        go_ret
        rw [HV.out]
        exact ⟨rfl, HSM.out _ hb3⟩
      · have HV : Hid (decideS s tx true = (s, !true)) := by show _ = _; rw [HD.out, if_neg (by decide), if_neg (by decide), if_pos rfl]
        clear HD HF1 HWR
        go_wp2_with fail
        go_ret
        rw [HV.out]
        exact ⟨rfl, HSM.out _ hb3⟩
    | false =>
      have HW2 := Hid.mk' (HWN.out rfl)
      clear HWK HWN
      rw [← HW2.out] at k0 k1 k2 k3 k4
      go_wp2_with fail
      rw [HW2.out]
      refine HOU.out.mono ?_
      rintro e w3 ⟨rfl, hb3'⟩
      have hb3 := hB.trans (hb3'.mono hB.size)
      have hbr3 := hbr.below hb3'
      obtain ⟨e0, e1, e2⟩ := hbr3.cells
      have b3 := h.box.below hb3
      have hX3 := b3.lt
      clear HOU k0 k1 k2 k3 k4 HW2 HW
      rcases hoc with rfl | rfl | rfl | rfl
      · have HV : Hid (decideS s tx false = (written s (kd, tx, []), true)) := by show _ = _; rw [HD.out, if_pos rfl]
        have HWR2 := Hid.mk' (HWR.out _ hb3 (HF1.out rfl))
        clear HD HF1 HWR
        go_wp2_with fail
        refine HWR2.out.mono ?_
        rintro e w7 ⟨rfl, hwr⟩
        clear HWR2 e0 e1 e2
        go_wp2_with fail
        go_ret
        rw [HV.out]
        exact ⟨rfl, hwr⟩
      · by_cases g7 : 300 ≤ ln + hn
        · have HV : Hid (decideS s tx false = (s, false)) := by show _ = _; rw [HD.out, if_neg (by decide), if_neg (by decide), if_neg (by decide), if_pos (.inr (by rw [HLN.out]; exact g7))]
          have g7' : decide ((300 : Int) ≤ (ln : Int) + (hn : Int)) = true := decide_eq_true (by omega)
          clear HD HF1 HWR
          have o1 := last.On.cell (B := w3.heap.size) (b3.cell 1 _ rfl) hX3
          have o4 := last.On.cell (B := w3.heap.size) (b3.cell 4 _ rfl) hX3
          have hinh := last.On.inh w3.heap.size w3
          go_wp2_with fail
          refine last.wp_region_on w3.heap.size (by kernel_rfl) (by kernel_rfl) ?_
          repeat (go_big_quiet_step (fail))
          refine wpQuiet_nil ?_
          intro w5 hw5
          obtain ⟨x5, hw5⟩ := hw5
          have hb5 : Below w.heap.size w w5 := by rw [hw5]; exact hb3.trans (x5.2.mono hb3.size)
          have hbr5 : BoxR w.heap.size kd tx (.slice none 0 0) w5 := by rw [hw5]; exact hbr3.below x5.2
          clear hw5 x5 o1 o4 hinh e0 e1 e2
          go_wp2_with fail
          go_ret
          rw [HV.out]
          exact ⟨rfl, HSM.out _ hb5⟩
        · have HV : Hid (decideS s tx false = (written s (3, tx, []), true)) := by show _ = _; rw [HD.out, if_neg (by decide), if_neg (by decide), if_neg (by decide), if_neg (by rw [HLN.out]; simp; omega)]
          have g7' : decide ((300 : Int) ≤ (ln : Int) + (hn : Int)) = false := decide_eq_false (by omega)
          have hkd3 := HK3.out (by trivial)
          subst hkd3
          have HWR2 := Hid.mk' (fun wx hx => HWR.out wx hx (HF2.out rfl (by trivial)))
          clear HD HF1 HWR
          have o1 := last.On.cell (B := w3.heap.size) (b3.cell 1 _ rfl) hX3
          have o4 := last.On.cell (B := w3.heap.size) (b3.cell 4 _ rfl) hX3
          have hinh := last.On.inh w3.heap.size w3
          go_wp2_with fail
          refine last.wp_region_on w3.heap.size (by kernel_rfl) (by kernel_rfl) ?_
          repeat (go_big_quiet_step (fail))
          refine wpQuiet_nil ?_
          intro w5 hw5
          obtain ⟨x5, hw5⟩ := hw5
          have hb5 : Below w.heap.size w w5 := by rw [hw5]; exact hb3.trans (x5.2.mono hb3.size)
          have hbr5 : BoxR w.heap.size 3 tx (.slice none 0 0) w5 := by rw [hw5]; exact hbr3.below x5.2
          clear hw5 x5 o1 o4 hinh e0 e1 e2
          obtain ⟨e0, e1, e2⟩ := hbr5.cells
          go_wp2_with fail
          refine (HWR2.out _ hb5).mono ?_
          rintro e w7 ⟨rfl, hwr⟩
          clear HWR2 e0 e1 e2
          go_wp2_with fail
          go_ret
          rw [HV.out]
          exact ⟨rfl, hwr⟩
      · have HV : Hid (decideS s tx false = (s, false)) := by show _ = _; rw [HD.out, if_neg (by decide), if_pos rfl]
        clear HD HF1 HWR
        go_wp2_with fail
        go_ret
        rw [HV.out]
        exact ⟨rfl, HSM.out _ hb3⟩
      · have HV : Hid (decideS s tx false = (s, !false)) := by show _ = _; rw [HD.out, if_neg (by decide), if_neg (by decide), if_pos rfl]
        clear HD HF1 HWR
        go_wp2_with fail
        go_ret
        rw [HV.out]
        exact ⟨rfl, HSM.out _ hb3⟩
  · rw [decide_eq_false g1] at HI
    have gt : txOk tx = false := decide_eq_false g1
    have HH : Hid (decideS s tx yes = (s, false)) := by show _ = _; unfold decideS; rw [gt]; simp
    clear gt g1 l1 l2 l3 hroom
    go_enter Tryz.func49, Tryz.ntmps49
    go_wp2_with fail
    refine (HI.out _).mono ?_
    rintro e w1 ⟨rfl, rfl⟩
    clear HI
    go_wp2_with fail
    go_ret
    rw [HH.out]
    exact ⟨rfl, h.same (Below.refl _ _)⟩
end Go.Proofs.YteniflajiklffaaGreatDoor.recs

namespace Go.Proofs.YteniflajiklffaaGreatDoor.recs
open Go Go.RowKit Go.Proofs.YteniflajiklffaaGreatDoor.base Go.Proofs.YteniflajiklffaaGreatDoor.pairs Go.Proofs.YteniflajiklffaaGreatDoor.ords Go.Proofs.YteniflajiklffaaGreatDoor.helps Go.Proofs.YteniflajiklffaaGreatDoor.help Go.Proofs.YteniflajiklffaaGreatDoor.lay
set_option linter.unusedVariables false
set_option linter.unusedSimpArgs false

def Ret2 (w : World) (r : Shd) (v : Value) (e : Ending) (w' : World) : Prop :=
  ∃ (la : Option Addr) (ln lc : Nat) (ma : Option Addr) (mn mc : Nat) (ha : Option Addr) (hn hc : Nat) (F : List Nat), e = .returned (.tuple #[aggSh r.1 r.2.2.1 la ln lc ma mn mc ha hn hc, v]) ∧ OwnSh w' la ln lc ma mn mc ha hn hc r F ∧ (∀ k ∈ F, w.heap.size ≤ k) ∧ Below w.heap.size w w'
theorem ret2_mk {w w' : World} {la ma ha : Option Addr} {ln lc mn mc hn hc : Nat} {s : Shd} {F : List Nat} {v : Value} (h : OwnSh w' la ln lc ma mn mc ha hn hc s F) (hF : ∀ k ∈ F, w.heap.size ≤ k) (hb : Below w.heap.size w w') : Ret2 w s v (.returned (.tuple #[aggSh s.1 s.2.2.1 la ln lc ma mn mc ha hn hc, v])) w' :=
  ⟨la, ln, lc, ma, mn, mc, ha, hn, hc, F, rfl, h, hF, hb⟩
end Go.Proofs.YteniflajiklffaaGreatDoor.recs

namespace Go.Proofs.YteniflajiklffaaGreatDoor.recs
open Go Go.RowKit Go.Proofs.YteniflajiklffaaGreatDoor.base Go.Proofs.YteniflajiklffaaGreatDoor.pairs Go.Proofs.YteniflajiklffaaGreatDoor.ords Go.Proofs.YteniflajiklffaaGreatDoor.helps Go.Proofs.YteniflajiklffaaGreatDoor.help Go.Proofs.YteniflajiklffaaGreatDoor.lay
set_option linter.unusedVariables false
set_option linter.unusedSimpArgs false

set_option maxRecDepth 100000 in
set_option maxHeartbeats 4000000 in
theorem ownSh_inil (la : Option Addr) (ln lc : Nat) (mn mc : Nat) (ha : Option Addr) (hn hc : Nat) (s : Shd) (w : World) (h : SeeSh w la ln lc none mn mc ha hn hc s) (hf : Few s.2.1) (hf2 : Few s.2.2.2.2) (hl1 : ln ≤ 1099511627776) (hl2 : mn ≤ 1099511627776) (hl3 : hn ≤ 1099511627776) :
    Calls Tryz.prog 72 #[aggSh s.1 s.2.2.1 la ln lc none mn mc ha hn hc] w fun e w' => ∃ gl cl gm cm gh ch F, e = .returned (aggSh s.1 s.2.2.1 (some ⟨gl, 0, none⟩) ln cl (some ⟨gm, 0, none⟩) mn cm (some ⟨gh, 0, none⟩) hn ch) ∧
      OwnSh w' (some ⟨gl, 0, none⟩) ln cl (some ⟨gm, 0, none⟩) mn cm (some ⟨gh, 0, none⟩) hn ch s F ∧ (∀ k ∈ F, w.heap.size ≤ k) ∧ Below w.heap.size w w' := by
  obtain ⟨i0, hif, hz0, hz1, hz2⟩ := info_parts infoP
  obtain ⟨W, hW⟩ : ∃ W, W = (w.alloc (boxSh s.1 s.2.2.1 la ln lc none mn mc ha hn hc)).alloc (boxSh 0 0 none 0 0 none 0 0 none 0 0) := ⟨_, rfl⟩
  have hba : Below w.heap.size w (w.alloc (boxSh s.1 s.2.2.1 la ln lc none mn mc ha hn hc)) := (Below.refl _ _).alloc (Nat.le_refl _) _
  have hB : Below w.heap.size w W := by rw [hW]; exact hba.alloc hba.size _
  have hT : BoxIn w.heap.size 27 [] (shVals s.1 s.2.2.1 la ln lc none mn mc ha hn hc) [] W := by rw [hW]; exact (boxIn_new w _ _).below ((Below.refl _ _).alloc (Nat.le_refl _) _)
  have hR : BoxIn (w.heap.size + 1) 27 [] (shVals 0 0 none 0 0 none 0 0 none 0 0) [] W := by
    rw [hW]
    have := boxIn_new (w.alloc (boxSh s.1 s.2.2.1 la ln lc none mn mc ha hn hc)) (shVals 0 0 none 0 0 none 0 0 none 0 0) 27
    rwa [show (w.alloc (boxSh s.1 s.2.2.1 la ln lc none mn mc ha hn hc)).heap.size = w.heap.size + 1 by simp] at this
  have hsW : w.heap.size + 1 < W.heap.size := hR.lt
  have HW := Hid.mk' hW.symm
  clear hW
  have HCL := Hid.mk' (fun wx (hx : Below W.heap.size W wx) => i_ownRecs la ln lc s.2.1 wx ((h.log.below hB).below hx) hl1 (fun r hr => (hf r hr).1))
  have HCH := Hid.mk' (fun wx (hx : Below W.heap.size W wx) => i_ownRecs ha hn hc s.2.2.2.2 wx ((h.held.below hB).below hx) hl3 (fun r hr => (hf2 r hr).1))
  have hml := h.map.1
  have hsm := h.map.2.2.1
  have h0 : mn = 0 := by
    rcases Nat.eq_zero_or_pos mn with e | e
    · exact e
    · obtain ⟨b, off, ha, _⟩ := h.map.2.2.2 e; cases ha
  subst h0
  have HME : Hid (s.2.2.2.1 = []) := List.eq_nil_of_length_eq_zero hml
  have han := append_nothingP
  have hid := h.id
  have hsu := h.sure
  have HML := Hid.mk' hml
  clear h hf hf2 hml
  have hdW : Below W.heap.size W W.drew := (Below.refl _ _).drew
  go_enter Tryz.func72, Tryz.ntmps72
  go_wp2_with fail
  rw [HW.out]
  refine last.wp_region_later (S := fun w' => BoxIn w.heap.size 27 [] (shVals s.1 s.2.2.1 la ln lc none 0 mc ha hn hc) [] w' ∧ BoxIn (w.heap.size + 1) 27 [] (shVals 0 0 none 0 0 none 0 0 none 0 0) [] w') 15 (by kernel_rfl) ⟨hT.below hdW, hR.below hdW⟩ (fun hHeld0 => ?_)
  refine last.wpAnyL_take (i := 0) (v := (.pointer (some ⟨w.heap.size, 0, none⟩))) rfl rfl (by kernel_rfl) (by kernel_rfl) (by kernel_rfl) (by kernel_rfl) (fun _ _ _ h => h) (Or.inl ⟨by rfl, ?_⟩) (by assumption) ?_
  · intro wq hSq; go_simp
  try simp only [Act.put, List.setIfInBounds_toArray, List.set_cons_zero, List.set_cons_succ]
  refine last.wpAnyL_take (i := 1) (v := (.int .i64 s.1)) rfl rfl (by kernel_rfl) (by kernel_rfl) (by kernel_rfl) (by kernel_rfl) (fun _ _ _ h => h) (Or.inl ⟨by rfl, ?_⟩) (by assumption) ?_
  · intro wq hSq; have q := hSq.1.cell 0 _ rfl; simp only [List.length_nil, Nat.zero_add] at q; go_simp
  try simp only [Act.put, List.setIfInBounds_toArray, List.set_cons_zero, List.set_cons_succ]
  refine last.wpAnyL_take (i := 2) (v := (.pointer (some ⟨w.heap.size, 1, none⟩))) rfl rfl (by kernel_rfl) (by kernel_rfl) (by kernel_rfl) (by kernel_rfl) (fun _ _ _ h => h) (Or.inl ⟨by rfl, ?_⟩) (by assumption) ?_
  · intro wq hSq; go_simp
  try simp only [Act.put, List.setIfInBounds_toArray, List.set_cons_zero, List.set_cons_succ]
  refine last.wpAnyL_take (i := 3) (v := (.slice la ln lc)) rfl rfl (by kernel_rfl) (by kernel_rfl) (by kernel_rfl) (by kernel_rfl) (fun _ _ _ h => h) (Or.inl ⟨by rfl, ?_⟩) (by assumption) ?_
  · intro wq hSq; have q := hSq.1.cell 1 _ rfl; simp only [List.length_nil, Nat.zero_add] at q; go_simp
  try simp only [Act.put, List.setIfInBounds_toArray, List.set_cons_zero, List.set_cons_succ]
  refine last.wpAnyL_take (i := 5) (v := (.pointer (some ⟨w.heap.size, 2, none⟩))) rfl rfl (by kernel_rfl) (by kernel_rfl) (by kernel_rfl) (by kernel_rfl) (fun _ _ _ h => h) (Or.inl ⟨by rfl, ?_⟩) (by assumption) ?_
  · intro wq hSq; go_simp
  try simp only [Act.put, List.setIfInBounds_toArray, List.set_cons_zero, List.set_cons_succ]
  refine last.wpAnyL_take (i := 6) (v := (.int .i64 s.2.2.1)) rfl rfl (by kernel_rfl) (by kernel_rfl) (by kernel_rfl) (by kernel_rfl) (fun _ _ _ h => h) (Or.inl ⟨by rfl, ?_⟩) (by assumption) ?_
  · intro wq hSq; have q := hSq.1.cell 2 _ rfl; simp only [List.length_nil, Nat.zero_add] at q; go_simp
  try simp only [Act.put, List.setIfInBounds_toArray, List.set_cons_zero, List.set_cons_succ]
  refine last.wpAnyL_take (i := 8) (v := (.pointer (some ⟨w.heap.size, 3, none⟩))) rfl rfl (by kernel_rfl) (by kernel_rfl) (by kernel_rfl) (by kernel_rfl) (fun _ _ _ h => h) (Or.inl ⟨by rfl, ?_⟩) (by assumption) ?_
  · intro wq hSq; go_simp
  try simp only [Act.put, List.setIfInBounds_toArray, List.set_cons_zero, List.set_cons_succ]
  refine last.wpAnyL_take (i := 9) (v := (.slice none 0 mc)) rfl rfl (by kernel_rfl) (by kernel_rfl) (by kernel_rfl) (by kernel_rfl) (fun _ _ _ h => h) (Or.inl ⟨by rfl, ?_⟩) (by assumption) ?_
  · intro wq hSq; have q := hSq.1.cell 3 _ rfl; simp only [List.length_nil, Nat.zero_add] at q; go_simp
  try simp only [Act.put, List.setIfInBounds_toArray, List.set_cons_zero, List.set_cons_succ]
  refine last.wpAnyL_take (i := 11) (v := (.pointer (some ⟨w.heap.size, 4, none⟩))) rfl rfl (by kernel_rfl) (by kernel_rfl) (by kernel_rfl) (by kernel_rfl) (fun _ _ _ h => h) (Or.inl ⟨by rfl, ?_⟩) (by assumption) ?_
  · intro wq hSq; go_simp
  try simp only [Act.put, List.setIfInBounds_toArray, List.set_cons_zero, List.set_cons_succ]
  refine last.wpAnyL_take (i := 12) (v := (.slice ha hn hc)) rfl rfl (by kernel_rfl) (by kernel_rfl) (by kernel_rfl) (by kernel_rfl) (fun _ _ _ h => h) (Or.inl ⟨by rfl, ?_⟩) (by assumption) ?_
  · intro wq hSq; have q := hSq.1.cell 4 _ rfl; simp only [List.length_nil, Nat.zero_add] at q; go_simp
  try simp only [Act.put, List.setIfInBounds_toArray, List.set_cons_zero, List.set_cons_succ]
  refine last.wpAnyL_two (i := 4) (j := 7) (o := { dst := some 7, op := Op.call { callee := Callee.value (Operand.func 75), args := #[Operand.tmp 6], argTypes := #[24] }, type := 24, pos := "l09_shard.go:125", after := #[{ on := 3, ground := Ground.data }], guard := none }) (o' := { dst := some 10, op := Op.buildSlice 25 0 #[], type := 25, pos := "l09_shard.go:125", after := #[], guard := none }) (by kernel_rfl) rfl rfl (fun K hK => ?wayA) (fun K hK => ?wayB)
  case' wayA =>
    refine stepc.step_call1 rfl 75 (.tmp 6) _ rfl (fun _ _ => rfl) (.slice la ln lc) (by kernel_rfl) _ (HCL.out _ hdW) ?_
    rintro e w4 ⟨gl, cl, hl, rfl, hOl, hb4⟩
    refine ⟨_, rfl, ?_⟩
    have hB4 := hdW.trans (hb4.mono hdW.size)
    refine hK.out _ _ ?_ (fun hHeld => ?_)
    · exact ⟨hT.below hB4, hR.below hB4⟩
    clear hK K hHeld0
    have hHeld0 := hHeld
    clear hHeld
    try simp only [Act.put, List.setIfInBounds_toArray, List.set_cons_zero, List.set_cons_succ]
    refine last.wpAnyL_one (i := 7) (o := { dst := some 10, op := Op.buildSlice 25 0 #[], type := 25, pos := "l09_shard.go:125", after := #[], guard := none }) (by kernel_rfl) rfl (fun K hK => ?_)
    go_simp
    have hb7 : Below w4.heap.size w4 (w4.alloc (.cells #[] 74)) := (Below.refl _ _).alloc (Nat.le_refl _) _
    have hBA := hB4.trans (hb7.mono hB4.size)
    have hOlA := (hOl.below hb7).mono (base' := W.heap.size) hdW.size
    have hOmA := ownP_made w4 W.heap.size hB4.size
    refine hK.out _ _ ?_ (fun hHeld => ?_)
    · exact ⟨hT.below hBA, hR.below hBA⟩
    clear hK K hHeld0
    have hHeld0 := hHeld
    clear hHeld
    generalize hwA : w4.alloc (.cells #[] 74) = wA at *
    generalize hgm : w4.heap.size = g0 at *
    clear hwA hgm hOl hb4 hB4 hb7
  case' wayB =>
    go_simp
    have hb7 : Below W.heap.size W (W.drew.alloc (.cells #[] 74)) := hdW.alloc hdW.size _
    have hOm := ownP_made W.drew W.heap.size (Nat.le_refl _)
    refine hK.out _ _ ?_ (fun hHeld => ?_)
    · exact ⟨hT.below hb7, hR.below hb7⟩
    clear hK K hHeld0
    have hHeld0 := hHeld
    clear hHeld
    try simp only [Act.put, List.setIfInBounds_toArray, List.set_cons_zero, List.set_cons_succ]
    refine last.wpAnyL_one (i := 4) (o := { dst := some 7, op := Op.call { callee := Callee.value (Operand.func 75), args := #[Operand.tmp 6], argTypes := #[24] }, type := 24, pos := "l09_shard.go:125", after := #[{ on := 3, ground := Ground.data }], guard := none }) (by kernel_rfl) rfl (fun K hK => ?_)
    refine stepc.step_call1 rfl 75 (.tmp 6) _ rfl (fun _ _ => rfl) (.slice la ln lc) (by kernel_rfl) _ (HCL.out _ hb7) ?_
    rintro e wA ⟨gl, cl, hl, rfl, hOl, hb4⟩
    refine ⟨_, rfl, ?_⟩
    have hBA := hb7.trans (hb4.mono hb7.size)
    have hOlA := hOl.mono (base' := W.heap.size) hb7.size
    have hOmA := hOm.below hb4
    refine hK.out _ _ ?_ (fun hHeld => ?_)
    · exact ⟨hT.below hBA, hR.below hBA⟩
    clear hK K hHeld0
    have hHeld0 := hHeld
    clear hHeld
    obtain ⟨g0, hg0⟩ : ∃ g0, g0 = W.heap.size := ⟨_, rfl⟩
    have hOmA : OwnP wA W.heap.size g0 0 0 [] := by rw [hg0]; exact hOmA
    rw [← hg0]
    clear hOm hOl hb4 hb7 hg0
  all_goals
    try simp only [Act.put, List.setIfInBounds_toArray, List.set_cons_zero, List.set_cons_succ]
    refine last.wpAnyL_one (i := 10) (o := { dst := some 13, op := Op.call { callee := Callee.builtin Builtin.append, args := #[Operand.tmp 10, Operand.tmp 12], argTypes := #[25, 25] }, type := 25, pos := "l09_shard.go:125", after := #[{ on := 7, ground := Ground.data }, { on := 9, ground := Ground.data }, { on := 4, ground := Ground.chain }], guard := none }) (by kernel_rfl) rfl (fun K hK => ?_)
    go_simp
    have hO10 : OwnP wA W.heap.size g0 0 0 s.2.2.2.1 := by rw [HME.out]; exact hOmA
    have hB10 := hBA
    have hOl10 := hOlA
    refine hK.out _ _ ?_ (fun hHeld => ?_)
    · exact ⟨hT.below hB10, hR.below hB10⟩
    clear hK K hHeld0
    have hHeld0 := hHeld
    clear hHeld
    try simp only [Act.put, List.setIfInBounds_toArray, List.set_cons_zero, List.set_cons_succ]
    refine last.wpAnyL_one (i := 13) (o := { dst := some 16, op := Op.call { callee := Callee.value (Operand.func 75), args := #[Operand.tmp 15], argTypes := #[24] }, type := 24, pos := "l09_shard.go:125", after := #[{ on := 12, ground := Ground.data }, { on := 10, ground := Ground.chain }], guard := none }) (by kernel_rfl) rfl (fun K hK => ?_)
    refine stepc.step_call1 rfl 75 (.tmp 15) _ rfl (fun _ _ => rfl) (.slice ha hn hc) (by kernel_rfl) _ (HCH.out _ hB10) ?_
    rintro e w13 ⟨gh, ch, hh, rfl, hOh, hb13⟩
    refine ⟨_, rfl, ?_⟩
    have hB13 := hB10.trans (hb13.mono hB10.size)
    have hR13 := hR.below hB13
    refine hK.out _ _ ?_ (fun hHeld => ?_)
    · exact ⟨hT.below hB13, hR13⟩
    clear hK K hHeld0
    have hHeld0 := hHeld
    clear hHeld
    try simp only [Act.put, List.setIfInBounds_toArray, List.set_cons_zero, List.set_cons_succ]
    refine last.wpAnyL_take (i := 14) (v := (aggSh s.1 s.2.2.1 (some ⟨gl, 0, none⟩) ln cl (some ⟨g0, 0, none⟩) 0 0 (some ⟨gh, 0, none⟩) hn ch)) rfl rfl (by kernel_rfl) (by kernel_rfl) (by kernel_rfl) (by kernel_rfl) (fun _ _ _ h => h) (Or.inl ⟨by rfl, ?_⟩) (by assumption) ?_
    · intro wq hSq; go_simp
    try simp only [Act.put, List.setIfInBounds_toArray, List.set_cons_zero, List.set_cons_succ]
    have z0 := hR13.cell 0 _ rfl
    have z1 := hR13.cell 1 _ rfl
    have z2 := hR13.cell 2 _ rfl
    have z3 := hR13.cell 3 _ rfl
    have z4 := hR13.cell 4 _ rfl
    simp only [List.length_nil, Nat.zero_add] at z0 z1 z2 z3 z4
    have f0 := hR13.fz 0
    have f1 := hR13.fz 1
    have f2 := hR13.fz 2
    have f3 := hR13.fz 3
    have f4 := hR13.fz 4
    refine last.wpAnyL_last (o := { dst := none, op := Op.store 27 (Operand.tmp 2) (Operand.tmp 17), type := 0, pos := "l09_shard.go:125", after := #[{ on := 14, ground := Ground.data }, { on := 13, ground := Ground.chain }, { on := 0, ground := Ground.phase }, { on := 1, ground := Ground.phase }, { on := 2, ground := Ground.phase }, { on := 3, ground := Ground.phase }, { on := 4, ground := Ground.phase }, { on := 5, ground := Ground.phase }, { on := 6, ground := Ground.phase }, { on := 7, ground := Ground.phase }, { on := 8, ground := Ground.phase }, { on := 9, ground := Ground.phase }, { on := 10, ground := Ground.phase }, { on := 11, ground := Ground.phase }, { on := 12, ground := Ground.phase }, { on := 13, ground := Ground.phase }, { on := 14, ground := Ground.phase }], guard := none }) (by kernel_rfl) rfl (by kernel_rfl) (fun K hK => ?_)
    go_simp
    refine hK.out _ _ ?_
    clear hK K
    have hS5 := hR13.set5 (.int .i64 s.1) (.slice (some ⟨gl, 0, none⟩) ln cl) (.int .i64 s.2.2.1) (.slice (some ⟨g0, 0, none⟩) 0 0) (.slice (some ⟨gh, 0, none⟩) hn ch)
    simp only [List.length_nil, Nat.zero_add] at hS5
    have hlo : ∀ k, BlkR (.slice (some ⟨gl, 0, none⟩) ln cl) hl k → k < wA.heap.size := fun k hk => (hOl10.lt k hk).2
    have hhi : ∀ k, BlkR (.slice (some ⟨gh, 0, none⟩) hn ch) hh k → wA.heap.size ≤ k := fun k hk => (hOh.lt k hk).1
    obtain ⟨F, hOS, hFn⟩ := ownSh_of (B := W.heap.size) hid hsu (hOl10.below hb13) (hO10.below hb13) (hOh.mono hB10.size) hlo hhi
    have hOS2 := hOS.keep (w' := _) (fun k hk => hS5.2.block k (hOS.lt k hk) (fun e => by have := hFn k hk; have := Option.some.inj e; omega))
    have hBz := (hB.trans (hB13.mono hB.size)).grown hS5.2 (hB.trans (hB13.mono hB.size)).size (fun j e => by cases e; omega)
    have hzc0 := hS5.1.cell 0 _ rfl
    have hzc1 := hS5.1.cell 1 _ rfl
    have hzc2 := hS5.1.cell 2 _ rfl
    have hzc3 := hS5.1.cell 3 _ rfl
    have hzc4 := hS5.1.cell 4 _ rfl
    simp only [List.length_nil, Nat.zero_add] at hzc0 hzc1 hzc2 hzc3 hzc4
    have hFn2 : ∀ k ∈ F, w.heap.size ≤ k := fun k hk => by have := hFn k hk; omega
    clear z0 z1 z2 z3 z4 f0 f1 f2 f3 f4
    go_wp2_with fail
    refine bodyPost_ret (v := aggSh s.1 s.2.2.1 (some ⟨gl, 0, none⟩) ln cl (some ⟨g0, 0, none⟩) 0 0 (some ⟨gh, 0, none⟩) hn ch) ?_ rfl ⟨_, _, _, _, _, _, F, rfl, hOS2, hFn2, hBz⟩
    simp [results, Tryz.results72, go_sem, hzc0, hzc1, hzc2, hzc3, hzc4]
set_option maxRecDepth 100000 in
set_option maxHeartbeats 4000000 in
theorem ownSh_isome (la : Option Addr) (ln lc : Nat) (ad : Addr) (mn mc : Nat) (ha : Option Addr) (hn hc : Nat) (s : Shd) (w : World) (h : SeeSh w la ln lc (some ad) mn mc ha hn hc s) (hf : Few s.2.1) (hf2 : Few s.2.2.2.2) (hl1 : ln ≤ 1099511627776) (hl2 : mn ≤ 1099511627776) (hl3 : hn ≤ 1099511627776) :
    Calls Tryz.prog 72 #[aggSh s.1 s.2.2.1 la ln lc (some ad) mn mc ha hn hc] w fun e w' => ∃ gl cl gm cm gh ch F, e = .returned (aggSh s.1 s.2.2.1 (some ⟨gl, 0, none⟩) ln cl (some ⟨gm, 0, none⟩) mn cm (some ⟨gh, 0, none⟩) hn ch) ∧
      OwnSh w' (some ⟨gl, 0, none⟩) ln cl (some ⟨gm, 0, none⟩) mn cm (some ⟨gh, 0, none⟩) hn ch s F ∧ (∀ k ∈ F, w.heap.size ≤ k) ∧ Below w.heap.size w w' := by
  obtain ⟨i0, hif, hz0, hz1, hz2⟩ := info_parts infoP
  obtain ⟨W, hW⟩ : ∃ W, W = (w.alloc (boxSh s.1 s.2.2.1 la ln lc (some ad) mn mc ha hn hc)).alloc (boxSh 0 0 none 0 0 none 0 0 none 0 0) := ⟨_, rfl⟩
  have hba : Below w.heap.size w (w.alloc (boxSh s.1 s.2.2.1 la ln lc (some ad) mn mc ha hn hc)) := (Below.refl _ _).alloc (Nat.le_refl _) _
  have hB : Below w.heap.size w W := by rw [hW]; exact hba.alloc hba.size _
  have hT : BoxIn w.heap.size 27 [] (shVals s.1 s.2.2.1 la ln lc (some ad) mn mc ha hn hc) [] W := by rw [hW]; exact (boxIn_new w _ _).below ((Below.refl _ _).alloc (Nat.le_refl _) _)
  have hR : BoxIn (w.heap.size + 1) 27 [] (shVals 0 0 none 0 0 none 0 0 none 0 0) [] W := by
    rw [hW]
    have := boxIn_new (w.alloc (boxSh s.1 s.2.2.1 la ln lc (some ad) mn mc ha hn hc)) (shVals 0 0 none 0 0 none 0 0 none 0 0) 27
    rwa [show (w.alloc (boxSh s.1 s.2.2.1 la ln lc (some ad) mn mc ha hn hc)).heap.size = w.heap.size + 1 by simp] at this
  have hsW : w.heap.size + 1 < W.heap.size := hR.lt
  have HW := Hid.mk' hW.symm
  clear hW
  have HCL := Hid.mk' (fun wx (hx : Below W.heap.size W wx) => i_ownRecs la ln lc s.2.1 wx ((h.log.below hB).below hx) hl1 (fun r hr => (hf r hr).1))
  have HCH := Hid.mk' (fun wx (hx : Below W.heap.size W wx) => i_ownRecs ha hn hc s.2.2.2.2 wx ((h.held.below hB).below hx) hl3 (fun r hr => (hf2 r hr).1))
  have hml := h.map.1
  have hsm := h.map.2.2.1
  have HCM : Hid (∀ wx, Below W.heap.size W wx → ∀ j u, (pairVals s.2.2.2.1)[j]? = some u → wx.cell? (ad.add j) = some u) := by
    intro wx hx
    rcases Nat.eq_zero_or_pos mn with e | e
    · intro j u hj
      have e1 : s.2.2.2.1 = [] := List.eq_nil_of_length_eq_zero (by omega)
      rw [e1] at hj; simp [pairVals] at hj
    · obtain ⟨b, off, ha, _⟩ := h.map.2.2.2 e
      cases ha
      exact cells_pairs ((h.map.below hB).below hx).cells
  have hc3 : 0 + mn ≤ maxLen := by unfold maxLen; omega
  have hc4 : (0 + mn) * 32 ≤ 140737488355328 := by omega
  have hlp : (pairVals s.2.2.2.1).length = mn * 2 := by rw [pairVals_length]; omega
  have hid := h.id
  have hsu := h.sure
  have HML := Hid.mk' hml
  clear h hf hf2 hml
  have hdW : Below W.heap.size W W.drew := (Below.refl _ _).drew
  go_enter Tryz.func72, Tryz.ntmps72
  go_wp2_with fail
  rw [HW.out]
  refine last.wp_region_later (S := fun w' => BoxIn w.heap.size 27 [] (shVals s.1 s.2.2.1 la ln lc (some ad) mn mc ha hn hc) [] w' ∧ BoxIn (w.heap.size + 1) 27 [] (shVals 0 0 none 0 0 none 0 0 none 0 0) [] w') 15 (by kernel_rfl) ⟨hT.below hdW, hR.below hdW⟩ (fun hHeld0 => ?_)
  refine last.wpAnyL_take (i := 0) (v := (.pointer (some ⟨w.heap.size, 0, none⟩))) rfl rfl (by kernel_rfl) (by kernel_rfl) (by kernel_rfl) (by kernel_rfl) (fun _ _ _ h => h) (Or.inl ⟨by rfl, ?_⟩) (by assumption) ?_
  · intro wq hSq; go_simp
  try simp only [Act.put, List.setIfInBounds_toArray, List.set_cons_zero, List.set_cons_succ]
  refine last.wpAnyL_take (i := 1) (v := (.int .i64 s.1)) rfl rfl (by kernel_rfl) (by kernel_rfl) (by kernel_rfl) (by kernel_rfl) (fun _ _ _ h => h) (Or.inl ⟨by rfl, ?_⟩) (by assumption) ?_
  · intro wq hSq; have q := hSq.1.cell 0 _ rfl; simp only [List.length_nil, Nat.zero_add] at q; go_simp
  try simp only [Act.put, List.setIfInBounds_toArray, List.set_cons_zero, List.set_cons_succ]
  refine last.wpAnyL_take (i := 2) (v := (.pointer (some ⟨w.heap.size, 1, none⟩))) rfl rfl (by kernel_rfl) (by kernel_rfl) (by kernel_rfl) (by kernel_rfl) (fun _ _ _ h => h) (Or.inl ⟨by rfl, ?_⟩) (by assumption) ?_
  · intro wq hSq; go_simp
  try simp only [Act.put, List.setIfInBounds_toArray, List.set_cons_zero, List.set_cons_succ]
  refine last.wpAnyL_take (i := 3) (v := (.slice la ln lc)) rfl rfl (by kernel_rfl) (by kernel_rfl) (by kernel_rfl) (by kernel_rfl) (fun _ _ _ h => h) (Or.inl ⟨by rfl, ?_⟩) (by assumption) ?_
  · intro wq hSq; have q := hSq.1.cell 1 _ rfl; simp only [List.length_nil, Nat.zero_add] at q; go_simp
  try simp only [Act.put, List.setIfInBounds_toArray, List.set_cons_zero, List.set_cons_succ]
  refine last.wpAnyL_take (i := 5) (v := (.pointer (some ⟨w.heap.size, 2, none⟩))) rfl rfl (by kernel_rfl) (by kernel_rfl) (by kernel_rfl) (by kernel_rfl) (fun _ _ _ h => h) (Or.inl ⟨by rfl, ?_⟩) (by assumption) ?_
  · intro wq hSq; go_simp
  try simp only [Act.put, List.setIfInBounds_toArray, List.set_cons_zero, List.set_cons_succ]
  refine last.wpAnyL_take (i := 6) (v := (.int .i64 s.2.2.1)) rfl rfl (by kernel_rfl) (by kernel_rfl) (by kernel_rfl) (by kernel_rfl) (fun _ _ _ h => h) (Or.inl ⟨by rfl, ?_⟩) (by assumption) ?_
  · intro wq hSq; have q := hSq.1.cell 2 _ rfl; simp only [List.length_nil, Nat.zero_add] at q; go_simp
  try simp only [Act.put, List.setIfInBounds_toArray, List.set_cons_zero, List.set_cons_succ]
  refine last.wpAnyL_take (i := 8) (v := (.pointer (some ⟨w.heap.size, 3, none⟩))) rfl rfl (by kernel_rfl) (by kernel_rfl) (by kernel_rfl) (by kernel_rfl) (fun _ _ _ h => h) (Or.inl ⟨by rfl, ?_⟩) (by assumption) ?_
  · intro wq hSq; go_simp
  try simp only [Act.put, List.setIfInBounds_toArray, List.set_cons_zero, List.set_cons_succ]
  refine last.wpAnyL_take (i := 9) (v := (.slice (some ad) mn mc)) rfl rfl (by kernel_rfl) (by kernel_rfl) (by kernel_rfl) (by kernel_rfl) (fun _ _ _ h => h) (Or.inl ⟨by rfl, ?_⟩) (by assumption) ?_
  · intro wq hSq; have q := hSq.1.cell 3 _ rfl; simp only [List.length_nil, Nat.zero_add] at q; go_simp
  try simp only [Act.put, List.setIfInBounds_toArray, List.set_cons_zero, List.set_cons_succ]
  refine last.wpAnyL_take (i := 11) (v := (.pointer (some ⟨w.heap.size, 4, none⟩))) rfl rfl (by kernel_rfl) (by kernel_rfl) (by kernel_rfl) (by kernel_rfl) (fun _ _ _ h => h) (Or.inl ⟨by rfl, ?_⟩) (by assumption) ?_
  · intro wq hSq; go_simp
  try simp only [Act.put, List.setIfInBounds_toArray, List.set_cons_zero, List.set_cons_succ]
  refine last.wpAnyL_take (i := 12) (v := (.slice ha hn hc)) rfl rfl (by kernel_rfl) (by kernel_rfl) (by kernel_rfl) (by kernel_rfl) (fun _ _ _ h => h) (Or.inl ⟨by rfl, ?_⟩) (by assumption) ?_
  · intro wq hSq; have q := hSq.1.cell 4 _ rfl; simp only [List.length_nil, Nat.zero_add] at q; go_simp
  try simp only [Act.put, List.setIfInBounds_toArray, List.set_cons_zero, List.set_cons_succ]
  refine last.wpAnyL_two (i := 4) (j := 7) (o := { dst := some 7, op := Op.call { callee := Callee.value (Operand.func 75), args := #[Operand.tmp 6], argTypes := #[24] }, type := 24, pos := "l09_shard.go:125", after := #[{ on := 3, ground := Ground.data }], guard := none }) (o' := { dst := some 10, op := Op.buildSlice 25 0 #[], type := 25, pos := "l09_shard.go:125", after := #[], guard := none }) (by kernel_rfl) rfl rfl (fun K hK => ?wayA) (fun K hK => ?wayB)
  case' wayA =>
    refine stepc.step_call1 rfl 75 (.tmp 6) _ rfl (fun _ _ => rfl) (.slice la ln lc) (by kernel_rfl) _ (HCL.out _ hdW) ?_
    rintro e w4 ⟨gl, cl, hl, rfl, hOl, hb4⟩
    refine ⟨_, rfl, ?_⟩
    have hB4 := hdW.trans (hb4.mono hdW.size)
    refine hK.out _ _ ?_ (fun hHeld => ?_)
    · exact ⟨hT.below hB4, hR.below hB4⟩
    clear hK K hHeld0
    have hHeld0 := hHeld
    clear hHeld
    try simp only [Act.put, List.setIfInBounds_toArray, List.set_cons_zero, List.set_cons_succ]
    refine last.wpAnyL_one (i := 7) (o := { dst := some 10, op := Op.buildSlice 25 0 #[], type := 25, pos := "l09_shard.go:125", after := #[], guard := none }) (by kernel_rfl) rfl (fun K hK => ?_)
    go_simp
    have hb7 : Below w4.heap.size w4 (w4.alloc (.cells #[] 74)) := (Below.refl _ _).alloc (Nat.le_refl _) _
    have hBA := hB4.trans (hb7.mono hB4.size)
    have hOlA := (hOl.below hb7).mono (base' := W.heap.size) hdW.size
    have hOmA := ownP_made w4 W.heap.size hB4.size
    refine hK.out _ _ ?_ (fun hHeld => ?_)
    · exact ⟨hT.below hBA, hR.below hBA⟩
    clear hK K hHeld0
    have hHeld0 := hHeld
    clear hHeld
    generalize hwA : w4.alloc (.cells #[] 74) = wA at *
    generalize hgm : w4.heap.size = g0 at *
    clear hwA hgm hOl hb4 hB4 hb7
  case' wayB =>
    go_simp
    have hb7 : Below W.heap.size W (W.drew.alloc (.cells #[] 74)) := hdW.alloc hdW.size _
    have hOm := ownP_made W.drew W.heap.size (Nat.le_refl _)
    refine hK.out _ _ ?_ (fun hHeld => ?_)
    · exact ⟨hT.below hb7, hR.below hb7⟩
    clear hK K hHeld0
    have hHeld0 := hHeld
    clear hHeld
    try simp only [Act.put, List.setIfInBounds_toArray, List.set_cons_zero, List.set_cons_succ]
    refine last.wpAnyL_one (i := 4) (o := { dst := some 7, op := Op.call { callee := Callee.value (Operand.func 75), args := #[Operand.tmp 6], argTypes := #[24] }, type := 24, pos := "l09_shard.go:125", after := #[{ on := 3, ground := Ground.data }], guard := none }) (by kernel_rfl) rfl (fun K hK => ?_)
    refine stepc.step_call1 rfl 75 (.tmp 6) _ rfl (fun _ _ => rfl) (.slice la ln lc) (by kernel_rfl) _ (HCL.out _ hb7) ?_
    rintro e wA ⟨gl, cl, hl, rfl, hOl, hb4⟩
    refine ⟨_, rfl, ?_⟩
    have hBA := hb7.trans (hb4.mono hb7.size)
    have hOlA := hOl.mono (base' := W.heap.size) hb7.size
    have hOmA := hOm.below hb4
    refine hK.out _ _ ?_ (fun hHeld => ?_)
    · exact ⟨hT.below hBA, hR.below hBA⟩
    clear hK K hHeld0
    have hHeld0 := hHeld
    clear hHeld
    obtain ⟨g0, hg0⟩ : ∃ g0, g0 = W.heap.size := ⟨_, rfl⟩
    have hOmA : OwnP wA W.heap.size g0 0 0 [] := by rw [hg0]; exact hOmA
    rw [← hg0]
    clear hOm hOl hb4 hb7 hg0
  all_goals
    try simp only [Act.put, List.setIfInBounds_toArray, List.set_cons_zero, List.set_cons_succ]
    refine last.wpAnyL_one (i := 10) (o := { dst := some 13, op := Op.call { callee := Callee.builtin Builtin.append, args := #[Operand.tmp 10, Operand.tmp 12], argTypes := #[25, 25] }, type := 25, pos := "l09_shard.go:125", after := #[{ on := 7, ground := Ground.data }, { on := 9, ground := Ground.data }, { on := 4, ground := Ground.chain }], guard := none }) (by kernel_rfl) rfl (fun K hK => ?_)
    refine step_append_own rfl (.tmp 10) (.tmp 12) 25 rfl W.heap.size 74 i0 (.agg #[.string ⟨#[]⟩, .string ⟨#[]⟩]) 2 32 Tryz.underlying25 hif hz0 hz1 hz2 rfl (by decide) _ _ _ rfl hOmA.2.2 ad mn mc (pairVals s.2.2.2.1) rfl hlp (HCM.out _ hBA) (pairVals_oneCell _) hc3 hc4 hBA.size ?_
    intro v10 w10 hown hgrow hnn
    have hnn' : ¬ v10 = .slice none 0 0 := fun e => by have := (hnn.1 e).1; cases this
    obtain ⟨g10, c10, hv, hO10⟩ := ownP_val HML.out hsm hnn' (by have h9 := hown; simp only [pairVals, List.flatMap_nil, List.nil_append, Nat.zero_add] at h9; exact h9)
    subst hv
    have hgr : wA.grownBy w10 (some g0) := hgrow
    have hB10 := hBA.grown hgr hBA.size (fun k e => by cases e; exact hOmA.lt.1)
    have hOl10 := hOlA.grown hgr (hOlA.notPair hOmA)
    refine hK.out _ _ ?_ (fun hHeld => ?_)
    · exact ⟨hT.below hB10, hR.below hB10⟩
    clear hK K hHeld0
    have hHeld0 := hHeld
    clear hHeld
    clear hown hgrow hgr hnn hnn'
    try simp only [Act.put, List.setIfInBounds_toArray, List.set_cons_zero, List.set_cons_succ]
    refine last.wpAnyL_one (i := 13) (o := { dst := some 16, op := Op.call { callee := Callee.value (Operand.func 75), args := #[Operand.tmp 15], argTypes := #[24] }, type := 24, pos := "l09_shard.go:125", after := #[{ on := 12, ground := Ground.data }, { on := 10, ground := Ground.chain }], guard := none }) (by kernel_rfl) rfl (fun K hK => ?_)
    refine stepc.step_call1 rfl 75 (.tmp 15) _ rfl (fun _ _ => rfl) (.slice ha hn hc) (by kernel_rfl) _ (HCH.out _ hB10) ?_
    rintro e w13 ⟨gh, ch, hh, rfl, hOh, hb13⟩
    refine ⟨_, rfl, ?_⟩
    have hB13 := hB10.trans (hb13.mono hB10.size)
    have hR13 := hR.below hB13
    refine hK.out _ _ ?_ (fun hHeld => ?_)
    · exact ⟨hT.below hB13, hR13⟩
    clear hK K hHeld0
    have hHeld0 := hHeld
    clear hHeld
    try simp only [Act.put, List.setIfInBounds_toArray, List.set_cons_zero, List.set_cons_succ]
    refine last.wpAnyL_take (i := 14) (v := (aggSh s.1 s.2.2.1 (some ⟨gl, 0, none⟩) ln cl (some ⟨g10, 0, none⟩) mn c10 (some ⟨gh, 0, none⟩) hn ch)) rfl rfl (by kernel_rfl) (by kernel_rfl) (by kernel_rfl) (by kernel_rfl) (fun _ _ _ h => h) (Or.inl ⟨by rfl, ?_⟩) (by assumption) ?_
    · intro wq hSq; go_simp
    try simp only [Act.put, List.setIfInBounds_toArray, List.set_cons_zero, List.set_cons_succ]
    have z0 := hR13.cell 0 _ rfl
    have z1 := hR13.cell 1 _ rfl
    have z2 := hR13.cell 2 _ rfl
    have z3 := hR13.cell 3 _ rfl
    have z4 := hR13.cell 4 _ rfl
    simp only [List.length_nil, Nat.zero_add] at z0 z1 z2 z3 z4
    have f0 := hR13.fz 0
    have f1 := hR13.fz 1
    have f2 := hR13.fz 2
    have f3 := hR13.fz 3
    have f4 := hR13.fz 4
    refine last.wpAnyL_last (o := { dst := none, op := Op.store 27 (Operand.tmp 2) (Operand.tmp 17), type := 0, pos := "l09_shard.go:125", after := #[{ on := 14, ground := Ground.data }, { on := 13, ground := Ground.chain }, { on := 0, ground := Ground.phase }, { on := 1, ground := Ground.phase }, { on := 2, ground := Ground.phase }, { on := 3, ground := Ground.phase }, { on := 4, ground := Ground.phase }, { on := 5, ground := Ground.phase }, { on := 6, ground := Ground.phase }, { on := 7, ground := Ground.phase }, { on := 8, ground := Ground.phase }, { on := 9, ground := Ground.phase }, { on := 10, ground := Ground.phase }, { on := 11, ground := Ground.phase }, { on := 12, ground := Ground.phase }, { on := 13, ground := Ground.phase }, { on := 14, ground := Ground.phase }], guard := none }) (by kernel_rfl) rfl (by kernel_rfl) (fun K hK => ?_)
    go_simp
    refine hK.out _ _ ?_
    clear hK K
    have hS5 := hR13.set5 (.int .i64 s.1) (.slice (some ⟨gl, 0, none⟩) ln cl) (.int .i64 s.2.2.1) (.slice (some ⟨g10, 0, none⟩) mn c10) (.slice (some ⟨gh, 0, none⟩) hn ch)
    simp only [List.length_nil, Nat.zero_add] at hS5
    have hlo : ∀ k, BlkR (.slice (some ⟨gl, 0, none⟩) ln cl) hl k → k < w10.heap.size := fun k hk => (hOl10.lt k hk).2
    have hhi : ∀ k, BlkR (.slice (some ⟨gh, 0, none⟩) hn ch) hh k → w10.heap.size ≤ k := fun k hk => (hOh.lt k hk).1
    obtain ⟨F, hOS, hFn⟩ := ownSh_of (B := W.heap.size) hid hsu (hOl10.below hb13) (hO10.below hb13) (hOh.mono hB10.size) hlo hhi
    have hOS2 := hOS.keep (w' := _) (fun k hk => hS5.2.block k (hOS.lt k hk) (fun e => by have := hFn k hk; have := Option.some.inj e; omega))
    have hBz := (hB.trans (hB13.mono hB.size)).grown hS5.2 (hB.trans (hB13.mono hB.size)).size (fun j e => by cases e; omega)
    have hzc0 := hS5.1.cell 0 _ rfl
    have hzc1 := hS5.1.cell 1 _ rfl
    have hzc2 := hS5.1.cell 2 _ rfl
    have hzc3 := hS5.1.cell 3 _ rfl
    have hzc4 := hS5.1.cell 4 _ rfl
    simp only [List.length_nil, Nat.zero_add] at hzc0 hzc1 hzc2 hzc3 hzc4
    have hFn2 : ∀ k ∈ F, w.heap.size ≤ k := fun k hk => by have := hFn k hk; omega
    clear z0 z1 z2 z3 z4 f0 f1 f2 f3 f4
    go_wp2_with fail
    refine bodyPost_ret (v := aggSh s.1 s.2.2.1 (some ⟨gl, 0, none⟩) ln cl (some ⟨g10, 0, none⟩) mn c10 (some ⟨gh, 0, none⟩) hn ch) ?_ rfl ⟨_, _, _, _, _, _, F, rfl, hOS2, hFn2, hBz⟩
    simp [results, Tryz.results72, go_sem, hzc0, hzc1, hzc2, hzc3, hzc4]
theorem i_ownSh (la : Option Addr) (ln lc : Nat) (ma : Option Addr) (mn mc : Nat) (ha : Option Addr) (hn hc : Nat) (s : Shd) (w : World) (h : SeeSh w la ln lc ma mn mc ha hn hc s) (hf : Few s.2.1) (hf2 : Few s.2.2.2.2) (hl1 : ln ≤ 1099511627776) (hl2 : mn ≤ 1099511627776) (hl3 : hn ≤ 1099511627776) :
    Calls Tryz.prog 72 #[aggSh s.1 s.2.2.1 la ln lc ma mn mc ha hn hc] w fun e w' => ∃ gl cl gm cm gh ch F, e = .returned (aggSh s.1 s.2.2.1 (some ⟨gl, 0, none⟩) ln cl (some ⟨gm, 0, none⟩) mn cm (some ⟨gh, 0, none⟩) hn ch) ∧
      OwnSh w' (some ⟨gl, 0, none⟩) ln cl (some ⟨gm, 0, none⟩) mn cm (some ⟨gh, 0, none⟩) hn ch s F ∧ (∀ k ∈ F, w.heap.size ≤ k) ∧ Below w.heap.size w w' := by
  cases ma with
  | none => exact ownSh_inil la ln lc mn mc ha hn hc s w h hf hf2 hl1 hl2 hl3
  | some ad => exact ownSh_isome la ln lc ad mn mc ha hn hc s w h hf hf2 hl1 hl2 hl3
end Go.Proofs.YteniflajiklffaaGreatDoor.recs
