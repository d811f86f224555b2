/- The specification's shard: it does, or lets go. The specification's shard: it crashes. -/
import Derived.Test.YteniflajiklffaaGreatDoorShaq
namespace Go.Proofs.YteniflajiklffaaGreatDoor.recs
open Go Go.RowKit Go.Proofs.YteniflajiklffaaGreatDoor.base Go.Proofs.YteniflajiklffaaGreatDoor.pairs Go.Proofs.YteniflajiklffaaGreatDoor.ords Go.Proofs.YteniflajiklffaaGreatDoor.helps Go.Proofs.YteniflajiklffaaGreatDoor.help Go.Proofs.YteniflajiklffaaGreatDoor.lay
set_option linter.unusedVariables false
set_option linter.unusedSimpArgs false

theorem standCode_of {k : Int} : standCode k = 1 ∨ standCode k = 2 ∨ standCode k = 3 ∨ standCode k = 4 := by
  unfold standCode
  split
  · exact .inl rfl
  · split
    · exact .inr (.inr (.inl rfl))
    · split
      · exact .inr (.inr (.inr rfl))
      · exact .inr (.inl rfl)
theorem recOk_end {tx : Int} (h : txOk tx = true) (kind : Int) (hk : kind = 2 ∨ kind = 3) : recOk (kind, tx, []) = true :=
  (recOk_iff _).2 ⟨by simpa [txOk] using h, .inr ⟨hk, rfl⟩⟩
theorem ints_wf (k : Int) (h : k = 2 ∨ k = 3) : (Lit.int .i64 k).wf = true := by rcases h with rfl | rfl <;> rfl
set_option maxRecDepth 100000 in
set_option maxHeartbeats 4000000 in
theorem spec_l9Decide (X : Nat) (T : TypeId) (pre post : List Value) (la : Option Addr) (ln lc : Nat) (ma : Option Addr) (mn mc : Nat) (ha : Option Addr) (hn hc : Nat) (s : Shd) (F : List Nat) (tx : Int) (yes : Bool) (w : World)
    (h : InSh w X T pre post la ln lc ma mn mc ha hn hc s F) (htx : (Lit.int .i64 tx).wf = true) (hR : Right s) :
    Calls Tryz.prog 49 #[.pointer (some ⟨X, pre.length, none⟩), .int .i64 tx, .bool yes] w fun e w' => e = .returned (.bool (decideS s tx yes).2) ∧ WrotePost w X T pre post F (decideS s tx yes).1 w' := by
  obtain ⟨l1, l2, l3⟩ := h.lens
  have hroom := hR.room
  have hsee := h.own.see
  have hXl := h.box.lt
  have hFlt := h.own.lt
  have HI := Hid.mk' (fun wx => (spec_in tx 1 1000000 wx).mono (fun e w' (hp : e = .returned (.bool (decide (1 ≤ tx ∧ tx ≤ 1000000))) ∧ w' = wx) => (⟨hp.1, hp.2.symm⟩ : e = .returned (.bool (decide (1 ≤ tx ∧ tx ≤ 1000000))) ∧ wx = w')))
  by_cases g1 : 1 ≤ tx ∧ tx ≤ 1000000
  · rw [decide_eq_true g1] at HI
    have gt : txOk tx = true := decide_eq_true g1
    obtain ⟨kd, hkd, hkd2⟩ : ∃ kd : Int, kd = (if yes = true then 2 else 3) ∧ (kd = 2 ∨ kd = 3) := by
      refine ⟨_, rfl, ?_⟩
      split
      · exact .inl rfl
      · exact .inr rfl
    have hkdw := ints_wf kd hkd2
    obtain ⟨W, hW⟩ : ∃ W, w.alloc (.cells #[.int .i64 kd, .int .i64 tx, .slice none 0 0] 41) = W := ⟨_, rfl⟩
    have hB : Below w.heap.size w W := by rw [← hW]; exact (Below.refl _ _).alloc (Nat.le_refl _) _
    have hbr : BoxR w.heap.size kd tx (.slice none 0 0) W := by rw [← hW]; exact boxR_new _ _ _ _
    have HOU := Hid.mk' (spec_l9Outcome la ln lc ma mn mc ha hn hc s tx W (hsee.below hB))
    have hbX := h.box.below hB
    have k0 := hbX.cell 0 _ rfl
    have k1 := hbX.cell 1 _ rfl
    have k2 := hbX.cell 2 _ rfl
    have k3 := hbX.cell 3 _ rfl
    have k4 := hbX.cell 4 _ rfl
    simp only [Nat.add_zero] at k0
    have hln : ln ≤ 300 := by omega
    have hhn : hn ≤ 300 := by omega
    have HLN : Hid (s.2.1.length + s.2.2.2.2.length = ln + hn) := by show _ = _; omega
    have HWR := Hid.mk' (fun wx (hx : Below w.heap.size w wx) (hf : Fits s.2.2.2.1 s.2.2.2.2 (kd, tx, [])) => (spec_l9Write X T pre post la ln lc ma mn mc ha hn hc s F kd tx none 0 0 [] wx (h.below hx) (fun w' _ => slo_nil _ _) (fun p hp => absurd hp List.not_mem_nil) ⟨hkdw, htx, fun o ho => absurd ho List.not_mem_nil⟩ (Nat.zero_le _) hf (by omega)).mono (fun e w' hp => (⟨hp.1, hp.2.from hx hFlt⟩ : e = .returned (.tuple #[]) ∧ WrotePost w X T pre post F (written s (kd, tx, [])) w')))
    have HSM := Hid.mk' (fun wx (hx : Below w.heap.size w wx) => h.same hx)
    have HD : Hid (decideS s tx yes = if outc s tx = 1 then (written s (kd, tx, []), true) else if outc s tx = 3 then (s, yes) else if outc s tx = 4 then (s, !yes) else if yes = true ∨ 300 ≤ s.2.1.length + s.2.2.2.2.length then (s, false) else (written s (3, tx, []), true)) := by
      show _ = _
      unfold decideS
      rw [gt, if_neg (by simp), ← hkd]
    have hoc : outc s tx = 1 ∨ outc s tx = 2 ∨ outc s tx = 3 ∨ outc s tx = 4 := by rw [outc_stand hR]; exact standCode_of
    have HF1 : Hid (outc s tx = 1 → Fits s.2.2.2.1 s.2.2.2.2 (kd, tx, [])) := fun e => by
      obtain ⟨k, hk⟩ := outc_held hR e
      exact hR.fits_end (recOk_end gt kd hkd2) (by omega) hk
    have HF2 : Hid (outc s tx = 2 → yes = false → Fits s.2.2.2.1 s.2.2.2.2 (kd, tx, [])) := fun e e2 => by
      have : kd = 3 := by rw [hkd, e2]; rfl
      subst this
      exact hR.fits_gone (recOk_end gt 3 (.inr rfl)) (unheld (by omega))
    have HK3 : Hid (yes = false → kd = 3) := fun e2 => by rw [hkd, e2]; rfl
    have HW := Hid.mk' hW
    generalize hoo : outc s tx = oo at *
    clear hoo g1 gt l1 l2 l3 hroom hkd2 hkdw
    have HKD := Hid.mk' hkd
    have HWK : Hid (yes = true → w.alloc (.cells #[.int .i64 2, .int .i64 tx, .slice none 0 0] 41) = W) := fun e => by rw [← hW, hkd, e]; rfl
    have HWN : Hid (yes = false → w.alloc (.cells #[.int .i64 3, .int .i64 tx, .slice none 0 0] 41) = W) := fun e => by rw [← hW, hkd, e]; rfl
    clear hW hkd
    go_enter Tryz.func49, Tryz.ntmps49
    go_wp2_with fail
    refine (HI.out _).mono ?_
    rintro e w1 ⟨rfl, rfl⟩
    clear HI
    cases yes with
    | true =>
      have HW2 := Hid.mk' (HWK.out rfl)
      clear HWK HWN HF2 HK3
      rw [← HW2.out] at k0 k1 k2 k3 k4
      go_wp2_with fail
      rw [HW2.out]
      refine HOU.out.mono ?_
      rintro e w3 ⟨rfl, hb3'⟩
      have hb3 := hB.trans (hb3'.mono hB.size)
      have hbr3 := hbr.below hb3'
      obtain ⟨e0, e1, e2⟩ := hbr3.cells
      have b3 := h.box.below hb3
      have hX3 := b3.lt
      clear HOU k0 k1 k2 k3 k4 HW2 HW
      rcases hoc with rfl | rfl | rfl | rfl
      · have HV : Hid (decideS s tx true = (written s (kd, tx, []), true)) := by show _ = _; rw [HD.out, if_pos rfl]
        have HWR2 := Hid.mk' (HWR.out _ hb3 (HF1.out rfl))
        clear HD HF1 HWR
        go_wp2_with fail
        refine HWR2.out.mono ?_
        rintro e w7 ⟨rfl, hwr⟩
        clear HWR2 e0 e1 e2
        go_wp2_with fail
        go_ret
        rw [HV.out]
        exact ⟨rfl, hwr⟩
      · have HV : Hid (decideS s tx true = (s, false)) := by show _ = _; rw [HD.out, if_neg (by decide), if_neg (by decide), if_neg (by decide), if_pos (.inl (by trivial))]
        clear HD HF1 HWR
        have o1 := last.On.cell (B := w3.heap.size) (b3.cell 1 _ rfl) hX3
        have o4 := last.On.cell (B := w3.heap.size) (b3.cell 4 _ rfl) hX3
        have hinh := last.On.inh w3.heap.size w3
        go_wp2_with fail
        refine last.wp_region_on w3.heap.size (by kernel_rfl) (by kernel_rfl) ?_
        repeat (go_big_quiet_step (fail))
        refine wpQuiet_nil ?_
        intro w5 hw5
        obtain ⟨x5, hw5⟩ := hw5
        have hb5 : Below w.heap.size w w5 := by rw [hw5]; exact hb3.trans (x5.2.mono hb3.size)
        have hbr5 : BoxR w.heap.size kd tx (.slice none 0 0) w5 := by rw [hw5]; exact hbr3.below x5.2
        clear hw5 x5 o1 o4 hinh e0 e1 e2
        go_wp2_with fail
        go_ret
        rw [HV.out]
        exact ⟨rfl, HSM.out _ hb5⟩
      · have HV : Hid (decideS s tx true = (s, true)) := by show _ = _; rw [HD.out, if_neg (by decide), if_pos rfl]
        clear HD HF1 HWR
        go_wp2_with fail
        go_ret
        rw [HV.out]
        exact ⟨rfl, HSM.out _ hb3⟩
      · have HV : Hid (decideS s tx true = (s, !true)) := by show _ = _; rw [HD.out, if_neg (by decide), if_neg (by decide), if_pos rfl]
        clear HD HF1 HWR
        go_wp2_with fail
        go_ret
        rw [HV.out]
        exact ⟨rfl, HSM.out _ hb3⟩
    | false =>
      have HW2 := Hid.mk' (HWN.out rfl)
      clear HWK HWN
      rw [← HW2.out] at k0 k1 k2 k3 k4
      go_wp2_with fail
      rw [HW2.out]
      refine HOU.out.mono ?_
      rintro e w3 ⟨rfl, hb3'⟩
      have hb3 := hB.trans (hb3'.mono hB.size)
      have hbr3 := hbr.below hb3'
      obtain ⟨e0, e1, e2⟩ := hbr3.cells
      have b3 := h.box.below hb3
      have hX3 := b3.lt
      clear HOU k0 k1 k2 k3 k4 HW2 HW
      rcases hoc with rfl | rfl | rfl | rfl
      · have HV : Hid (decideS s tx false = (written s (kd, tx, []), true)) := by show _ = _; rw [HD.out, if_pos rfl]
        have HWR2 := Hid.mk' (HWR.out _ hb3 (HF1.out rfl))
        clear HD HF1 HWR
        go_wp2_with fail
        refine HWR2.out.mono ?_
        rintro e w7 ⟨rfl, hwr⟩
        clear HWR2 e0 e1 e2
        go_wp2_with fail
        go_ret
        rw [HV.out]
        exact ⟨rfl, hwr⟩
      · by_cases g7 : 300 ≤ ln + hn
        · have HV : Hid (decideS s tx false = (s, false)) := by show _ = _; rw [HD.out, if_neg (by decide), if_neg (by decide), if_neg (by decide), if_pos (.inr (by rw [HLN.out]; exact g7))]
          have g7' : decide ((300 : Int) ≤ (ln : Int) + (hn : Int)) = true := decide_eq_true (by omega)
          clear HD HF1 HWR
          have o1 := last.On.cell (B := w3.heap.size) (b3.cell 1 _ rfl) hX3
          have o4 := last.On.cell (B := w3.heap.size) (b3.cell 4 _ rfl) hX3
          have hinh := last.On.inh w3.heap.size w3
          go_wp2_with fail
          refine last.wp_region_on w3.heap.size (by kernel_rfl) (by kernel_rfl) ?_
          repeat (go_big_quiet_step (fail))
          refine wpQuiet_nil ?_
          intro w5 hw5
          obtain ⟨x5, hw5⟩ := hw5
          have hb5 : Below w.heap.size w w5 := by rw [hw5]; exact hb3.trans (x5.2.mono hb3.size)
          have hbr5 : BoxR w.heap.size kd tx (.slice none 0 0) w5 := by rw [hw5]; exact hbr3.below x5.2
          clear hw5 x5 o1 o4 hinh e0 e1 e2
          go_wp2_with fail
          go_ret
          rw [HV.out]
          exact ⟨rfl, HSM.out _ hb5⟩
        · have HV : Hid (decideS s tx false = (written s (3, tx, []), true)) := by show _ = _; rw [HD.out, if_neg (by decide), if_neg (by decide), if_neg (by decide), if_neg (by rw [HLN.out]; simp; omega)]
          have g7' : decide ((300 : Int) ≤ (ln : Int) + (hn : Int)) = false := decide_eq_false (by omega)
          have hkd3 := HK3.out (by trivial)
          subst hkd3
          have HWR2 := Hid.mk' (fun wx hx => HWR.out wx hx (HF2.out rfl (by trivial)))
          clear HD HF1 HWR
          have o1 := last.On.cell (B := w3.heap.size) (b3.cell 1 _ rfl) hX3
          have o4 := last.On.cell (B := w3.heap.size) (b3.cell 4 _ rfl) hX3
          have hinh := last.On.inh w3.heap.size w3
          go_wp2_with fail
          refine last.wp_region_on w3.heap.size (by kernel_rfl) (by kernel_rfl) ?_
          repeat (go_big_quiet_step (fail))
          refine wpQuiet_nil ?_
          intro w5 hw5
          obtain ⟨x5, hw5⟩ := hw5
          have hb5 : Below w.heap.size w w5 := by rw [hw5]; exact hb3.trans (x5.2.mono hb3.size)
          have hbr5 : BoxR w.heap.size 3 tx (.slice none 0 0) w5 := by rw [hw5]; exact hbr3.below x5.2
          clear hw5 x5 o1 o4 hinh e0 e1 e2
          obtain ⟨e0, e1, e2⟩ := hbr5.cells
          go_wp2_with fail
          refine (HWR2.out _ hb5).mono ?_
          rintro e w7 ⟨rfl, hwr⟩
          clear HWR2 e0 e1 e2
          go_wp2_with fail
          go_ret
          rw [HV.out]
          exact ⟨rfl, hwr⟩
      · have HV : Hid (decideS s tx false = (s, false)) := by show _ = _; rw [HD.out, if_neg (by decide), if_pos rfl]
        clear HD HF1 HWR
        go_wp2_with fail
        go_ret
        rw [HV.out]
        exact ⟨rfl, HSM.out _ hb3⟩
      · have HV : Hid (decideS s tx false = (s, !false)) := by show _ = _; rw [HD.out, if_neg (by decide), if_neg (by decide), if_pos rfl]
        clear HD HF1 HWR
        go_wp2_with fail
        go_ret
        rw [HV.out]
        exact ⟨rfl, HSM.out _ hb3⟩
  · rw [decide_eq_false g1] at HI
    have gt : txOk tx = false := decide_eq_false g1
    have HH : Hid (decideS s tx yes = (s, false)) := by show _ = _; unfold decideS; rw [gt]; simp
    clear gt g1 l1 l2 l3 hroom
    go_enter Tryz.func49, Tryz.ntmps49
    go_wp2_with fail
    refine (HI.out _).mono ?_
    rintro e w1 ⟨rfl, rfl⟩
    clear HI
    go_wp2_with fail
    go_ret
    rw [HH.out]
    exact ⟨rfl, h.same (Below.refl _ _)⟩
end Go.Proofs.YteniflajiklffaaGreatDoor.recs

namespace Go.Proofs.YteniflajiklffaaGreatDoor.recs
open Go Go.RowKit Go.Proofs.YteniflajiklffaaGreatDoor.base Go.Proofs.YteniflajiklffaaGreatDoor.pairs Go.Proofs.YteniflajiklffaaGreatDoor.ords Go.Proofs.YteniflajiklffaaGreatDoor.helps Go.Proofs.YteniflajiklffaaGreatDoor.help Go.Proofs.YteniflajiklffaaGreatDoor.lay
set_option linter.unusedVariables false
set_option linter.unusedSimpArgs false

theorem resM_eq (r : Option St) : resM' r = resM r := by cases r <;> rfl
theorem resH_eq (r : Option St) : resH' r = resH r := by cases r <;> rfl
theorem OwnR.firsts {w : World} {a : Option Addr} {n cap : Nat} {l : List Rc} {hs : List Value} (h : OwnR w 0 (.slice a n cap) l hs) (k : Nat) (hk : k ≤ n) : ∃ hs', OwnR w 0 (.slice a k cap) (l.take k) hs' ∧ ∀ j, BlkR (.slice a k cap) hs' j → BlkR (.slice a n cap) hs j := by
  have hn := h.nlen
  obtain ⟨v, q, e, hq, hG⟩ := recs_own.2 ⟨hs, h, rfl⟩
  cases e
  obtain ⟨hs', ho, hF⟩ := recs_own.1 (own_mk (hG.take k (by omega)))
  refine ⟨hs', ho, fun j hj => ?_⟩
  have h1 := mem_blkR.2 hj
  rw [← hF] at h1
  refine mem_blkR.1 ?_
  rw [hq]
  rcases List.mem_append.1 h1 with e | e
  · exact List.mem_append.2 (.inl (by cases a with
      | none => simp [Value.ownBlock] at e
      | some ad => simpa [Value.ownBlock] using e))
  · obtain ⟨p, hp, e⟩ := List.mem_flatMap.1 e
    exact List.mem_append.2 (.inr (List.mem_flatMap.2 ⟨p, List.mem_of_mem_take hp, e⟩))
set_option maxRecDepth 100000 in
set_option maxHeartbeats 4000000 in
theorem spec_l9Crash (X : Nat) (T : TypeId) (pre post : List Value) (la : Option Addr) (ln lc : Nat) (ma : Option Addr) (mn mc : Nat) (ha : Option Addr) (hn hc : Nat) (s0 : Shd) (F : List Nat) (keep : Int) (w : World)
    (h0 : InSh w X T pre post la ln lc ma mn mc ha hn hc s0 F) (hR : Right s0) (hf : Few s0.2.1) :
    Calls Tryz.prog 106 #[.pointer (some ⟨X, pre.length, none⟩), .int .i64 keep] w fun e w' => e = .returned (.tuple #[]) ∧ WrotePost w X T pre post F (crashS s0 keep) w' := by
  obtain ⟨sid, log, sure, m, held⟩ := s0
  obtain ⟨l1, l2, l3⟩ := h0.lens
  have hroom := hR.room
  have hsu := hR.sure
  simp only [] at l1 l2 l3 hroom hsu hf
  obtain ⟨sn, rfl⟩ : ∃ sn : Nat, sure = (sn : Int) := ⟨sure.toNat, by omega⟩
  have hsee := h0.own.see
  have hroomL := hsee.lc
  obtain ⟨hl, hOL, hh, hOH, hFe⟩ := h0.own.log
  simp only [] at hOL hOH
  have hlcm := hOL.room.2
  unfold maxLen at hlcm
  have hXF := h0.out
  have hFlt := h0.own.lt
  have hid := h0.own.id
  have hbX := h0.box
  have hXl := hbX.lt
  have hs1 : sn ≤ ln := by omega
  have hln3 : ln ≤ 300 := by omega
  obtain ⟨kk, hkk⟩ : ∃ kk : Nat, (kk : Int) = min (max keep 0) ((ln : Int) - (sn : Int)) := ⟨(min (max keep 0) ((ln : Int) - (sn : Int))).toNat, by omega⟩
  have hLE : leftN (sid, log, (sn : Int), m, held) keep = sn + kk := by
    unfold leftN
    show ((sn : Int) + min (max keep 0) ((log.length : Int) - (sn : Int))).toNat = _
    rw [← l1, ← hkk]; omega
  have hkl : sn + kk ≤ ln := by omega
  obtain ⟨lf, hlf⟩ : ∃ lf, lf = sn + kk := ⟨_, rfl⟩
  obtain ⟨hl', hOT, hsub⟩ := hOL.firsts lf (by omega)
  have hlfl : (log.take lf).length = lf := by simp; omega
  have HCR : Hid (crashS (sid, log, (sn : Int), m, held) keep = (sid, log.take lf, (lf : Int), resM (replay (log.take lf)), resH (replay (log.take lf)))) := by
    show _ = _
    unfold crashS
    rw [hLE, ← hlf, resM_eq, resH_eq]
  have hlfw : (Lit.int .i64 (lf : Int)).wf = true := by
    simp [Lit.wf, IntKind.min, IntKind.max, IntKind.signed, IntKind.bits]; omega
  have hfT : Few (log.take lf) := fun r hr => hf r (List.mem_of_mem_take hr)
  have HRP := Hid.mk' (fun wx (hS : SlR wx la lf (log.take lf)) => spec_replay la lf lc (log.take lf) wx hS (by omega) hfT)
  have hlfc : lf ≤ lc := by omega
  have hlfn : lf ≤ ln := by omega
  have hwrap : IntKind.i64.wrap (lf : Int) = (lf : Int) := wraps_i64 _ (by omega) (by omega)
  generalize log.take lf = LT at *
  have hboxes : ∀ k ∈ F, k ≠ X := fun k hk e => hXF (e ▸ hk)
  have HLF := Hid.mk' hlfl
  clear hlfl
  have HLT : Hid (∀ k, BlkR (.slice la lf lc) hl' k → k ∈ F ∧ k < w.heap.size) := fun k hk => by
    have h1 : k ∈ F := by rw [hFe]; exact List.mem_append.2 (.inl (mem_blkR.2 (hsub k hk)))
    exact ⟨h1, hFlt k h1⟩
  clear hsub hOH hFe l1 l2 l3 hroom hLE hOL hf hfT
  have o1 := last.On.cell (B := w.heap.size) (hbX.cell 1 _ rfl) hXl
  have o2 := last.On.cell (B := w.heap.size) (hbX.cell 2 _ rfl) hXl
  have hinh := last.On.inh w.heap.size w
  by_cases g1 : keep < 0
  · obtain rfl : kk = 0 := by omega
    obtain rfl : lf = sn := by omega
    have hq : decide ((ln : Int) - (lf : Int) < 0) = false := decide_eq_false (by omega)
    have hq' : ¬ (ln : Int) - (lf : Int) < 0 := by omega
    clear hkk hlf
    go_enter Tryz.func106, Tryz.ntmps106
    go_wp2_with fail
    refine last.wp_region_on w.heap.size (by kernel_rfl) (by kernel_rfl) ?_
    repeat (go_big_quiet_step (fail))
    refine wpQuiet_nil ?_
    intro w2 hw2
    obtain ⟨x2, hw2⟩ := hw2
    have hb2 : Below w.heap.size w w2 := by rw [hw2]; exact x2.2
    clear hw2 x2
    have hdn : Below w.heap.size w w2.drew := hb2.drew
    have hbX3 := hbX.below hdn
    clear o1 o2 hinh
    go_wp2_with fail
    refine last.wp_region_later (S := fun w' => BoxIn X T pre (shVals sid (lf : Int) la ln lc ma mn mc ha hn hc) post w') 14 (by kernel_rfl) hbX3 (fun hHeld0 => ?_)
    refine last.wpAnyL_take (i := 0) (v := (.pointer (some ⟨X, pre.length, none⟩))) rfl rfl (by kernel_rfl) (by kernel_rfl) (by kernel_rfl) (by kernel_rfl) (fun _ _ _ h => h) (Or.inl ⟨by rfl, ?_⟩) (by assumption) ?_
    · intro wq hSq; go_simp
    try simp only [Act.put, List.setIfInBounds_toArray, List.set_cons_zero, List.set_cons_succ]
    refine last.wpAnyL_take (i := 1) (v := (.pointer (some ⟨X, pre.length, none⟩))) rfl rfl (by kernel_rfl) (by kernel_rfl) (by kernel_rfl) (by kernel_rfl) (fun _ _ _ h => h) (Or.inl ⟨by rfl, ?_⟩) (by assumption) ?_
    · intro wq hSq; go_simp
    try simp only [Act.put, List.setIfInBounds_toArray, List.set_cons_zero, List.set_cons_succ]
    refine last.wpAnyL_take (i := 2) (v := (.pointer (some ⟨X, pre.length, none⟩))) rfl rfl (by kernel_rfl) (by kernel_rfl) (by kernel_rfl) (by kernel_rfl) (fun _ _ _ h => h) (Or.inl ⟨by rfl, ?_⟩) (by assumption) ?_
    · intro wq hSq; go_simp
    try simp only [Act.put, List.setIfInBounds_toArray, List.set_cons_zero, List.set_cons_succ]
    refine last.wpAnyL_take (i := 3) (v := (.pointer (some ⟨X, pre.length + 1, none⟩))) rfl rfl (by kernel_rfl) (by kernel_rfl) (by kernel_rfl) (by kernel_rfl) (fun _ _ _ h => h) (Or.inl ⟨by rfl, ?_⟩) (by assumption) ?_
    · intro wq hSq; go_simp
    try simp only [Act.put, List.setIfInBounds_toArray, List.set_cons_zero, List.set_cons_succ]
    refine last.wpAnyL_take (i := 4) (v := (.slice la ln lc)) rfl rfl (by kernel_rfl) (by kernel_rfl) (by kernel_rfl) (by kernel_rfl) (fun _ _ _ h => h) (Or.inl ⟨by rfl, ?_⟩) (by assumption) ?_
    · intro wq hSq; have q := hSq.cell 1 _ rfl; go_simp
    try simp only [Act.put, List.setIfInBounds_toArray, List.set_cons_zero, List.set_cons_succ]
    refine last.wpAnyL_take (i := 5) (v := (.pointer (some ⟨X, pre.length, none⟩))) rfl rfl (by kernel_rfl) (by kernel_rfl) (by kernel_rfl) (by kernel_rfl) (fun _ _ _ h => h) (Or.inl ⟨by rfl, ?_⟩) (by assumption) ?_
    · intro wq hSq; go_simp
    try simp only [Act.put, List.setIfInBounds_toArray, List.set_cons_zero, List.set_cons_succ]
    refine last.wpAnyL_take (i := 6) (v := (.pointer (some ⟨X, pre.length, none⟩))) rfl rfl (by kernel_rfl) (by kernel_rfl) (by kernel_rfl) (by kernel_rfl) (fun _ _ _ h => h) (Or.inl ⟨by rfl, ?_⟩) (by assumption) ?_
    · intro wq hSq; go_simp
    try simp only [Act.put, List.setIfInBounds_toArray, List.set_cons_zero, List.set_cons_succ]
    refine last.wpAnyL_take (i := 7) (v := (.pointer (some ⟨X, pre.length + 2, none⟩))) rfl rfl (by kernel_rfl) (by kernel_rfl) (by kernel_rfl) (by kernel_rfl) (fun _ _ _ h => h) (Or.inl ⟨by rfl, ?_⟩) (by assumption) ?_
    · intro wq hSq; go_simp
    try simp only [Act.put, List.setIfInBounds_toArray, List.set_cons_zero, List.set_cons_succ]
    refine last.wpAnyL_take (i := 8) (v := (.int .i64 (lf : Int))) rfl rfl (by kernel_rfl) (by kernel_rfl) (by kernel_rfl) (by kernel_rfl) (fun _ _ _ h => h) (Or.inl ⟨by rfl, ?_⟩) (by assumption) ?_
    · intro wq hSq; have q := hSq.cell 2 _ rfl; go_simp
    try simp only [Act.put, List.setIfInBounds_toArray, List.set_cons_zero, List.set_cons_succ]
    refine last.wpAnyL_take (i := 9) (v := (.int .i64 0)) rfl rfl (by kernel_rfl) (by kernel_rfl) (by kernel_rfl) (by kernel_rfl) (fun _ _ _ h => h) (Or.inl ⟨by rfl, ?_⟩) (by assumption) ?_
    · intro wq hSq; go_simp
    try simp only [Act.put, List.setIfInBounds_toArray, List.set_cons_zero, List.set_cons_succ]
    refine last.wpAnyL_take (i := 10) (v := (.int .i64 (lf : Int))) rfl rfl (by kernel_rfl) (by kernel_rfl) (by kernel_rfl) (by kernel_rfl) (fun _ _ _ h => h) (Or.inl ⟨by rfl, ?_⟩) (by assumption) ?_
    · intro wq hSq; go_simp
    try simp only [Act.put, List.setIfInBounds_toArray, List.set_cons_zero, List.set_cons_succ]
    refine last.wpAnyL_take (i := 11) (v := (.slice la lf lc)) rfl rfl (by kernel_rfl) (by kernel_rfl) (by kernel_rfl) (by kernel_rfl) (fun _ _ _ h => h) (Or.inl ⟨by rfl, ?_⟩) (by assumption) ?_
    · intro wq hSq; go_simp
    try simp only [Act.put, List.setIfInBounds_toArray, List.set_cons_zero, List.set_cons_succ]
    refine last.wpAnyL_one (i := 12) (o := { dst := some 40, op := Op.nilCheck (Operand.tmp 28), type := 0, pos := "l09_shard.go:175", after := #[{ on := 0, ground := Ground.data }, { on := 0, ground := Ground.phase }, { on := 1, ground := Ground.phase }, { on := 2, ground := Ground.phase }, { on := 3, ground := Ground.phase }, { on := 4, ground := Ground.phase }, { on := 5, ground := Ground.phase }, { on := 6, ground := Ground.phase }, { on := 7, ground := Ground.phase }, { on := 8, ground := Ground.phase }, { on := 9, ground := Ground.phase }, { on := 10, ground := Ground.phase }, { on := 11, ground := Ground.phase }], guard := none }) (by kernel_rfl) rfl (fun K hK => ?_)
    go_simp
    refine hK.out _ _ ?_ (fun hHeld => ?_)
    · exact hHeld0
    clear hK K hHeld0
    have hHeld0 := hHeld
    clear hHeld
    try simp only [Act.put, List.setIfInBounds_toArray, List.set_cons_zero, List.set_cons_succ]
    refine last.wpAnyL_take (i := 13) (v := (.pointer (some ⟨X, pre.length + 1, none⟩))) rfl rfl (by kernel_rfl) (by kernel_rfl) (by kernel_rfl) (by kernel_rfl) (fun _ _ _ h => h) (Or.inl ⟨by rfl, ?_⟩) (by assumption) ?_
    · intro wq hSq; go_simp
    try simp only [Act.put, List.setIfInBounds_toArray, List.set_cons_zero, List.set_cons_succ]
    have e8 := hbX3.cell 1 _ rfl
    have f8 := hbX3.fz (pre.length + 1)
    refine last.wpAnyL_last (o := { dst := none, op := Op.store 24 (Operand.tmp 41) (Operand.tmp 39), type := 0, pos := "l09_shard.go:175", after := #[{ on := 13, ground := Ground.data }, { on := 11, ground := Ground.data }, { on := 0, ground := Ground.phase }, { on := 1, ground := Ground.phase }, { on := 2, ground := Ground.phase }, { on := 3, ground := Ground.phase }, { on := 4, ground := Ground.phase }, { on := 5, ground := Ground.phase }, { on := 6, ground := Ground.phase }, { on := 7, ground := Ground.phase }, { on := 8, ground := Ground.phase }, { on := 9, ground := Ground.phase }, { on := 10, ground := Ground.phase }, { on := 11, ground := Ground.phase }], guard := none }) (by kernel_rfl) rfl (by kernel_rfl) (fun K hK => ?_)
    go_simp
    refine hK.out _ _ ?_
    clear hK K
    have c4 : BoxIn X T pre (shVals sid (lf : Int) la lf lc ma mn mc ha hn hc) post (w2.setCell ⟨X, pre.length + 1, none⟩ (.slice la lf lc)).drew ∧ w2.drew.grownBy (w2.setCell ⟨X, pre.length + 1, none⟩ (.slice la lf lc)).drew (some X) := hbX3.set 1 (by simp [shVals]) (.slice la lf lc)
    generalize hW4 : (w2.setCell ⟨X, pre.length + 1, none⟩ (.slice la lf lc)).drew = w4 at *
    have hbX4 : BoxIn X T pre (shVals sid (lf : Int) la lf lc ma mn mc ha hn hc) post w4 := c4.1
    have hF4 : lay.Frame [X] w w4 := (lay.Frame.of_below hdn).grown c4.2 (fun k e => .inl (by rw [← Option.some.inj e]; exact List.mem_cons_self))
    have c5 := hbX4.set 2 (by simp [shVals]) (.int .i64 (lf : Int))
    have x1 := hbX4.cell 1 _ rfl
    have x2' := hbX4.cell 2 _ rfl
    have y2 := hbX4.fz (pre.length + 2)
    have hF5 : lay.Frame [X] w (w4.setCell ⟨X, pre.length + 2, none⟩ (.int .i64 (lf : Int))) := hF4.grown c5.2 (fun k e => .inl (by rw [← Option.some.inj e]; exact List.mem_cons_self))
    have hOT5 := hOT.of_blocks (w' := w4.setCell ⟨X, pre.length + 2, none⟩ (.int .i64 (lf : Int))) (fun k hk => hF5.block k (HLT.out k hk).2 (fun e => hboxes k (HLT.out k hk).1 (List.mem_singleton.1 e)))
    have HRP5 := Hid.mk' (HRP.out _ hOT5.sl)
    have z1 := c5.1.cell 1 _ rfl
    clear HRP hW4 c4 e8 f8 hHeld0
    go_wp2_with fail
    refine HRP5.out.mono ?_
    rintro e w7 ⟨g, np, cp, g2, c2', hs, rfl, hO, hOR, hnb, hb7⟩
    have hbX7 := c5.1.below hb7
    have hF7 := hF5.below hb7
    have hOT7 := hOT5.below hb7
    have hs5 := hF5.size
    have c8 := hbX7.set 3 (by simp [shVals]) (.slice (some ⟨g, 0, none⟩) np cp)
    have c9 := c8.1.set 4 (by simp [shVals]) (.slice (some ⟨g2, 0, none⟩) (resH (replay LT)).length c2')
    have c10 := grownBy_trans c8.2 c9.2
    have a3 := hbX7.cell 3 _ rfl
    have a4 := hbX7.cell 4 _ rfl
    have b3 := hbX7.fz (pre.length + 3)
    have b4 := hbX7.fz (pre.length + 4)
    have a4' := c8.1.cell 4 _ rfl
    have b4' := c8.1.fz (pre.length + 4)
    have hgl := hO.lt
    have hX5 := hXl
    have HE : Hid (WrotePost w X T pre post F (crashS (sid, log, (lf : Int), m, held) keep) ((w7.setCell ⟨X, pre.length + 3, none⟩ (.slice (some ⟨g, 0, none⟩) np cp)).setCell ⟨X, pre.length + 4, none⟩ (.slice (some ⟨g2, 0, none⟩) (resH (replay LT)).length c2'))) := by
      rw [HCR.out]
      have hHn : ∀ k, BlkR (.slice (some ⟨g2, 0, none⟩) (resH (replay LT)).length c2') hs k → w.heap.size ≤ k := fun k hk => Nat.le_trans hs5 (hOR.lt k hk).1
      have hgn : w.heap.size ≤ g := Nat.le_trans hs5 hgl.1
      have q1 := hOT7.of_blocks fun k hk => c10.block k (hOT7.lt k hk).2 (fun e => hboxes k (HLT.out k hk).1 (Option.some.inj e))
      have q2 := (ownPV_of hO).of_block fun k hk => c10.block k ((ownPV_of hO).lt k hk) (fun e => by
        have e1 : g = k := by simpa [Value.ownBlock] using hk
        have := Option.some.inj e
        omega)
      have q3 := (hOR.mono (base' := 0) (Nat.zero_le _)).of_blocks fun k hk => c10.block k (hOR.lt k hk).2 (fun e => by have := hHn k hk; have := Option.some.inj e; omega)
      have d1 := recsR.ownNodup (recs_own.2 ⟨_, q1, rfl⟩)
      have d3 := recsR.ownNodup (recs_own.2 ⟨_, q3, rfl⟩)
      refine ⟨la, lf, lc, some ⟨g, 0, none⟩, np, cp, some ⟨g2, 0, none⟩, _, c2', _, ⟨c9.1, ⟨hid, hlfw, ⟨hl', q1, hs, q3, rfl⟩, q2, ?_⟩, ?_⟩, ?_, ?_⟩
      · refine nodup_mk d1 (nodup_mk (by simp [Value.ownBlock]) d3 (fun k hk hk2 => ?_)) (fun k hk hk2 => ?_)
        · have : k = g := by simpa [Value.ownBlock] using hk
          subst this
          exact hnb (mem_blkR.1 hk2)
        · have h1 := (HLT.out k (mem_blkR.1 hk)).2
          rcases List.mem_append.1 hk2 with e | e
          · have : k = g := by simpa [Value.ownBlock] using e
            omega
          · have := hHn k (mem_blkR.1 e)
            omega
      · intro hk
        rcases List.mem_append.1 hk with e | e
        · exact hXF (HLT.out X (mem_blkR.1 e)).1
        · rcases List.mem_append.1 e with e | e
          · have : X = g := by simpa [Value.ownBlock] using e
            omega
          · have := hHn X (mem_blkR.1 e)
            omega
      · exact (hF7.grown c10 (fun k e => .inl (by rw [← Option.some.inj e]; exact List.mem_cons_self))).mono (fun k hk => by rw [List.mem_singleton.1 hk]; exact List.mem_cons_self)
      · intro k hk
        rcases List.mem_append.1 hk with e | e
        · exact .inl (HLT.out k (mem_blkR.1 e)).1
        · rcases List.mem_append.1 e with e | e
          · have : k = g := by simpa [Value.ownBlock] using e
            exact .inr (by omega)
          · exact .inr (hHn k (mem_blkR.1 e))
    clear HRP5 z1 x1 x2' y2 hO hOR hnb c8 c9 c10 hbX7 hOT7 hOT5 hF5 hF4
    go_wp2_with fail
    refine bodyPost_end (v := .tuple #[]) ?_ rfl ⟨rfl, HE.out⟩
    simp [results, Tryz.results106, go_sem]
  · by_cases g2 : (ln : Int) - (sn : Int) < keep
    · have hkd : (ln : Int) - (sn : Int) = (kk : Int) := by omega
      have hsum : (sn : Int) + (kk : Int) = (lf : Int) := by omega
      clear hkk hlf
      go_enter Tryz.func106, Tryz.ntmps106
      go_wp2_with fail
      refine last.wp_region_on w.heap.size (by kernel_rfl) (by kernel_rfl) ?_
      repeat (go_big_quiet_step (fail))
      refine wpQuiet_nil ?_
      intro w2 hw2
      obtain ⟨x2, hw2⟩ := hw2
      have hb2 : Below w.heap.size w w2 := by rw [hw2]; exact x2.2
      clear hw2 x2
      have hX2 := (hbX.below hb2).lt
      have p1 := last.On.cell (B := w2.heap.size) ((hbX.below hb2).cell 1 _ rfl) hX2
      have p2 := last.On.cell (B := w2.heap.size) ((hbX.below hb2).cell 2 _ rfl) hX2
      have hinh2 := last.On.inh w2.heap.size w2
      go_wp2_with fail
      refine last.wp_region_on w2.heap.size (by kernel_rfl) (by kernel_rfl) ?_
      repeat (go_big_quiet_step (fail))
      refine wpQuiet_nil ?_
      intro w3 hw3
      obtain ⟨x3, hw3⟩ := hw3
      have hb3 : Below w.heap.size w w3 := by rw [hw3]; exact hb2.trans (x3.2.mono hb2.size)
      clear hw3 x3 p1 p2 hinh2
      have hdn : Below w.heap.size w w3.drew := hb3.drew
      have hbX3 := hbX.below hdn
      clear o1 o2 hinh
      go_wp2_with fail
      refine last.wp_region_later (S := fun w' => BoxIn X T pre (shVals sid (sn : Int) la ln lc ma mn mc ha hn hc) post w') 14 (by kernel_rfl) hbX3 (fun hHeld0 => ?_)
      refine last.wpAnyL_take (i := 0) (v := (.pointer (some ⟨X, pre.length, none⟩))) rfl rfl (by kernel_rfl) (by kernel_rfl) (by kernel_rfl) (by kernel_rfl) (fun _ _ _ h => h) (Or.inl ⟨by rfl, ?_⟩) (by assumption) ?_
      · intro wq hSq; go_simp
      try simp only [Act.put, List.setIfInBounds_toArray, List.set_cons_zero, List.set_cons_succ]
      refine last.wpAnyL_take (i := 1) (v := (.pointer (some ⟨X, pre.length, none⟩))) rfl rfl (by kernel_rfl) (by kernel_rfl) (by kernel_rfl) (by kernel_rfl) (fun _ _ _ h => h) (Or.inl ⟨by rfl, ?_⟩) (by assumption) ?_
      · intro wq hSq; go_simp
      try simp only [Act.put, List.setIfInBounds_toArray, List.set_cons_zero, List.set_cons_succ]
      refine last.wpAnyL_take (i := 2) (v := (.pointer (some ⟨X, pre.length, none⟩))) rfl rfl (by kernel_rfl) (by kernel_rfl) (by kernel_rfl) (by kernel_rfl) (fun _ _ _ h => h) (Or.inl ⟨by rfl, ?_⟩) (by assumption) ?_
      · intro wq hSq; go_simp
      try simp only [Act.put, List.setIfInBounds_toArray, List.set_cons_zero, List.set_cons_succ]
      refine last.wpAnyL_take (i := 3) (v := (.pointer (some ⟨X, pre.length + 1, none⟩))) rfl rfl (by kernel_rfl) (by kernel_rfl) (by kernel_rfl) (by kernel_rfl) (fun _ _ _ h => h) (Or.inl ⟨by rfl, ?_⟩) (by assumption) ?_
      · intro wq hSq; go_simp
      try simp only [Act.put, List.setIfInBounds_toArray, List.set_cons_zero, List.set_cons_succ]
      refine last.wpAnyL_take (i := 4) (v := (.slice la ln lc)) rfl rfl (by kernel_rfl) (by kernel_rfl) (by kernel_rfl) (by kernel_rfl) (fun _ _ _ h => h) (Or.inl ⟨by rfl, ?_⟩) (by assumption) ?_
      · intro wq hSq; have q := hSq.cell 1 _ rfl; go_simp
      try simp only [Act.put, List.setIfInBounds_toArray, List.set_cons_zero, List.set_cons_succ]
      refine last.wpAnyL_take (i := 5) (v := (.pointer (some ⟨X, pre.length, none⟩))) rfl rfl (by kernel_rfl) (by kernel_rfl) (by kernel_rfl) (by kernel_rfl) (fun _ _ _ h => h) (Or.inl ⟨by rfl, ?_⟩) (by assumption) ?_
      · intro wq hSq; go_simp
      try simp only [Act.put, List.setIfInBounds_toArray, List.set_cons_zero, List.set_cons_succ]
      refine last.wpAnyL_take (i := 6) (v := (.pointer (some ⟨X, pre.length, none⟩))) rfl rfl (by kernel_rfl) (by kernel_rfl) (by kernel_rfl) (by kernel_rfl) (fun _ _ _ h => h) (Or.inl ⟨by rfl, ?_⟩) (by assumption) ?_
      · intro wq hSq; go_simp
      try simp only [Act.put, List.setIfInBounds_toArray, List.set_cons_zero, List.set_cons_succ]
      refine last.wpAnyL_take (i := 7) (v := (.pointer (some ⟨X, pre.length + 2, none⟩))) rfl rfl (by kernel_rfl) (by kernel_rfl) (by kernel_rfl) (by kernel_rfl) (fun _ _ _ h => h) (Or.inl ⟨by rfl, ?_⟩) (by assumption) ?_
      · intro wq hSq; go_simp
      try simp only [Act.put, List.setIfInBounds_toArray, List.set_cons_zero, List.set_cons_succ]
      refine last.wpAnyL_take (i := 8) (v := (.int .i64 (sn : Int))) rfl rfl (by kernel_rfl) (by kernel_rfl) (by kernel_rfl) (by kernel_rfl) (fun _ _ _ h => h) (Or.inl ⟨by rfl, ?_⟩) (by assumption) ?_
      · intro wq hSq; have q := hSq.cell 2 _ rfl; go_simp
      try simp only [Act.put, List.setIfInBounds_toArray, List.set_cons_zero, List.set_cons_succ]
      refine last.wpAnyL_take (i := 9) (v := (.int .i64 (kk : Int))) rfl rfl (by kernel_rfl) (by kernel_rfl) (by kernel_rfl) (by kernel_rfl) (fun _ _ _ h => h) (Or.inl ⟨by rfl, ?_⟩) (by assumption) ?_
      · intro wq hSq; go_simp
      try simp only [Act.put, List.setIfInBounds_toArray, List.set_cons_zero, List.set_cons_succ]
      refine last.wpAnyL_take (i := 10) (v := (.int .i64 (lf : Int))) rfl rfl (by kernel_rfl) (by kernel_rfl) (by kernel_rfl) (by kernel_rfl) (fun _ _ _ h => h) (Or.inl ⟨by rfl, ?_⟩) (by assumption) ?_
      · intro wq hSq; go_simp
      try simp only [Act.put, List.setIfInBounds_toArray, List.set_cons_zero, List.set_cons_succ]
      refine last.wpAnyL_take (i := 11) (v := (.slice la lf lc)) rfl rfl (by kernel_rfl) (by kernel_rfl) (by kernel_rfl) (by kernel_rfl) (fun _ _ _ h => h) (Or.inl ⟨by rfl, ?_⟩) (by assumption) ?_
      · intro wq hSq; go_simp
      try simp only [Act.put, List.setIfInBounds_toArray, List.set_cons_zero, List.set_cons_succ]
      refine last.wpAnyL_one (i := 12) (o := { dst := some 40, op := Op.nilCheck (Operand.tmp 28), type := 0, pos := "l09_shard.go:175", after := #[{ on := 0, ground := Ground.data }, { on := 0, ground := Ground.phase }, { on := 1, ground := Ground.phase }, { on := 2, ground := Ground.phase }, { on := 3, ground := Ground.phase }, { on := 4, ground := Ground.phase }, { on := 5, ground := Ground.phase }, { on := 6, ground := Ground.phase }, { on := 7, ground := Ground.phase }, { on := 8, ground := Ground.phase }, { on := 9, ground := Ground.phase }, { on := 10, ground := Ground.phase }, { on := 11, ground := Ground.phase }], guard := none }) (by kernel_rfl) rfl (fun K hK => ?_)
      go_simp
      refine hK.out _ _ ?_ (fun hHeld => ?_)
      · exact hHeld0
      clear hK K hHeld0
      have hHeld0 := hHeld
      clear hHeld
      try simp only [Act.put, List.setIfInBounds_toArray, List.set_cons_zero, List.set_cons_succ]
      refine last.wpAnyL_take (i := 13) (v := (.pointer (some ⟨X, pre.length + 1, none⟩))) rfl rfl (by kernel_rfl) (by kernel_rfl) (by kernel_rfl) (by kernel_rfl) (fun _ _ _ h => h) (Or.inl ⟨by rfl, ?_⟩) (by assumption) ?_
      · intro wq hSq; go_simp
      try simp only [Act.put, List.setIfInBounds_toArray, List.set_cons_zero, List.set_cons_succ]
      have e8 := hbX3.cell 1 _ rfl
      have f8 := hbX3.fz (pre.length + 1)
      refine last.wpAnyL_last (o := { dst := none, op := Op.store 24 (Operand.tmp 41) (Operand.tmp 39), type := 0, pos := "l09_shard.go:175", after := #[{ on := 13, ground := Ground.data }, { on := 11, ground := Ground.data }, { on := 0, ground := Ground.phase }, { on := 1, ground := Ground.phase }, { on := 2, ground := Ground.phase }, { on := 3, ground := Ground.phase }, { on := 4, ground := Ground.phase }, { on := 5, ground := Ground.phase }, { on := 6, ground := Ground.phase }, { on := 7, ground := Ground.phase }, { on := 8, ground := Ground.phase }, { on := 9, ground := Ground.phase }, { on := 10, ground := Ground.phase }, { on := 11, ground := Ground.phase }], guard := none }) (by kernel_rfl) rfl (by kernel_rfl) (fun K hK => ?_)
      go_simp
      refine hK.out _ _ ?_
      clear hK K
      have c4 : BoxIn X T pre (shVals sid (sn : Int) la lf lc ma mn mc ha hn hc) post (w3.setCell ⟨X, pre.length + 1, none⟩ (.slice la lf lc)).drew ∧ w3.drew.grownBy (w3.setCell ⟨X, pre.length + 1, none⟩ (.slice la lf lc)).drew (some X) := hbX3.set 1 (by simp [shVals]) (.slice la lf lc)
      generalize hW4 : (w3.setCell ⟨X, pre.length + 1, none⟩ (.slice la lf lc)).drew = w4 at *
      have hbX4 : BoxIn X T pre (shVals sid (sn : Int) la lf lc ma mn mc ha hn hc) post w4 := c4.1
      have hF4 : lay.Frame [X] w w4 := (lay.Frame.of_below hdn).grown c4.2 (fun k e => .inl (by rw [← Option.some.inj e]; exact List.mem_cons_self))
      have c5 := hbX4.set 2 (by simp [shVals]) (.int .i64 (lf : Int))
      have x1 := hbX4.cell 1 _ rfl
      have x2' := hbX4.cell 2 _ rfl
      have y2 := hbX4.fz (pre.length + 2)
      have hF5 : lay.Frame [X] w (w4.setCell ⟨X, pre.length + 2, none⟩ (.int .i64 (lf : Int))) := hF4.grown c5.2 (fun k e => .inl (by rw [← Option.some.inj e]; exact List.mem_cons_self))
      have hOT5 := hOT.of_blocks (w' := w4.setCell ⟨X, pre.length + 2, none⟩ (.int .i64 (lf : Int))) (fun k hk => hF5.block k (HLT.out k hk).2 (fun e => hboxes k (HLT.out k hk).1 (List.mem_singleton.1 e)))
      have HRP5 := Hid.mk' (HRP.out _ hOT5.sl)
      have z1 := c5.1.cell 1 _ rfl
      clear HRP hW4 c4 e8 f8 hHeld0
      go_wp2_with fail
      refine HRP5.out.mono ?_
      rintro e w7 ⟨g, np, cp, g2, c2', hs, rfl, hO, hOR, hnb, hb7⟩
      have hbX7 := c5.1.below hb7
      have hF7 := hF5.below hb7
      have hOT7 := hOT5.below hb7
      have hs5 := hF5.size
      have c8 := hbX7.set 3 (by simp [shVals]) (.slice (some ⟨g, 0, none⟩) np cp)
      have c9 := c8.1.set 4 (by simp [shVals]) (.slice (some ⟨g2, 0, none⟩) (resH (replay LT)).length c2')
      have c10 := grownBy_trans c8.2 c9.2
      have a3 := hbX7.cell 3 _ rfl
      have a4 := hbX7.cell 4 _ rfl
      have b3 := hbX7.fz (pre.length + 3)
      have b4 := hbX7.fz (pre.length + 4)
      have a4' := c8.1.cell 4 _ rfl
      have b4' := c8.1.fz (pre.length + 4)
      have hgl := hO.lt
      have hX5 := hXl
      have HE : Hid (WrotePost w X T pre post F (crashS (sid, log, (sn : Int), m, held) keep) ((w7.setCell ⟨X, pre.length + 3, none⟩ (.slice (some ⟨g, 0, none⟩) np cp)).setCell ⟨X, pre.length + 4, none⟩ (.slice (some ⟨g2, 0, none⟩) (resH (replay LT)).length c2'))) := by
        rw [HCR.out]
        have hHn : ∀ k, BlkR (.slice (some ⟨g2, 0, none⟩) (resH (replay LT)).length c2') hs k → w.heap.size ≤ k := fun k hk => Nat.le_trans hs5 (hOR.lt k hk).1
        have hgn : w.heap.size ≤ g := Nat.le_trans hs5 hgl.1
        have q1 := hOT7.of_blocks fun k hk => c10.block k (hOT7.lt k hk).2 (fun e => hboxes k (HLT.out k hk).1 (Option.some.inj e))
        have q2 := (ownPV_of hO).of_block fun k hk => c10.block k ((ownPV_of hO).lt k hk) (fun e => by
          have e1 : g = k := by simpa [Value.ownBlock] using hk
          have := Option.some.inj e
          omega)
        have q3 := (hOR.mono (base' := 0) (Nat.zero_le _)).of_blocks fun k hk => c10.block k (hOR.lt k hk).2 (fun e => by have := hHn k hk; have := Option.some.inj e; omega)
        have d1 := recsR.ownNodup (recs_own.2 ⟨_, q1, rfl⟩)
        have d3 := recsR.ownNodup (recs_own.2 ⟨_, q3, rfl⟩)
        refine ⟨la, lf, lc, some ⟨g, 0, none⟩, np, cp, some ⟨g2, 0, none⟩, _, c2', _, ⟨c9.1, ⟨hid, hlfw, ⟨hl', q1, hs, q3, rfl⟩, q2, ?_⟩, ?_⟩, ?_, ?_⟩
        · refine nodup_mk d1 (nodup_mk (by simp [Value.ownBlock]) d3 (fun k hk hk2 => ?_)) (fun k hk hk2 => ?_)
          · have : k = g := by simpa [Value.ownBlock] using hk
            subst this
            exact hnb (mem_blkR.1 hk2)
          · have h1 := (HLT.out k (mem_blkR.1 hk)).2
            rcases List.mem_append.1 hk2 with e | e
            · have : k = g := by simpa [Value.ownBlock] using e
              omega
            · have := hHn k (mem_blkR.1 e)
              omega
        · intro hk
          rcases List.mem_append.1 hk with e | e
          · exact hXF (HLT.out X (mem_blkR.1 e)).1
          · rcases List.mem_append.1 e with e | e
            · have : X = g := by simpa [Value.ownBlock] using e
              omega
            · have := hHn X (mem_blkR.1 e)
              omega
        · exact (hF7.grown c10 (fun k e => .inl (by rw [← Option.some.inj e]; exact List.mem_cons_self))).mono (fun k hk => by rw [List.mem_singleton.1 hk]; exact List.mem_cons_self)
        · intro k hk
          rcases List.mem_append.1 hk with e | e
          · exact .inl (HLT.out k (mem_blkR.1 e)).1
          · rcases List.mem_append.1 e with e | e
            · have : k = g := by simpa [Value.ownBlock] using e
              exact .inr (by omega)
            · exact .inr (hHn k (mem_blkR.1 e))
      clear HRP5 z1 x1 x2' y2 hO hOR hnb c8 c9 c10 hbX7 hOT7 hOT5 hF5 hF4
      go_wp2_with fail
      refine bodyPost_end (v := .tuple #[]) ?_ rfl ⟨rfl, HE.out⟩
      simp [results, Tryz.results106, go_sem]
    · obtain rfl : keep = (kk : Int) := by omega
      have hsum : (sn : Int) + (kk : Int) = (lf : Int) := by omega
      clear hkk hlf
      go_enter Tryz.func106, Tryz.ntmps106
      go_wp2_with fail
      refine last.wp_region_on w.heap.size (by kernel_rfl) (by kernel_rfl) ?_
      repeat (go_big_quiet_step (fail))
      refine wpQuiet_nil ?_
      intro w2 hw2
      obtain ⟨x2, hw2⟩ := hw2
      have hb2 : Below w.heap.size w w2 := by rw [hw2]; exact x2.2
      clear hw2 x2
      have hdn : Below w.heap.size w w2.drew := hb2.drew
      have hbX3 := hbX.below hdn
      clear o1 o2 hinh
      go_wp2_with fail
      refine last.wp_region_later (S := fun w' => BoxIn X T pre (shVals sid (sn : Int) la ln lc ma mn mc ha hn hc) post w') 14 (by kernel_rfl) hbX3 (fun hHeld0 => ?_)
      refine last.wpAnyL_take (i := 0) (v := (.pointer (some ⟨X, pre.length, none⟩))) rfl rfl (by kernel_rfl) (by kernel_rfl) (by kernel_rfl) (by kernel_rfl) (fun _ _ _ h => h) (Or.inl ⟨by rfl, ?_⟩) (by assumption) ?_
      · intro wq hSq; go_simp
      try simp only [Act.put, List.setIfInBounds_toArray, List.set_cons_zero, List.set_cons_succ]
      refine last.wpAnyL_take (i := 1) (v := (.pointer (some ⟨X, pre.length, none⟩))) rfl rfl (by kernel_rfl) (by kernel_rfl) (by kernel_rfl) (by kernel_rfl) (fun _ _ _ h => h) (Or.inl ⟨by rfl, ?_⟩) (by assumption) ?_
      · intro wq hSq; go_simp
      try simp only [Act.put, List.setIfInBounds_toArray, List.set_cons_zero, List.set_cons_succ]
      refine last.wpAnyL_take (i := 2) (v := (.pointer (some ⟨X, pre.length, none⟩))) rfl rfl (by kernel_rfl) (by kernel_rfl) (by kernel_rfl) (by kernel_rfl) (fun _ _ _ h => h) (Or.inl ⟨by rfl, ?_⟩) (by assumption) ?_
      · intro wq hSq; go_simp
      try simp only [Act.put, List.setIfInBounds_toArray, List.set_cons_zero, List.set_cons_succ]
      refine last.wpAnyL_take (i := 3) (v := (.pointer (some ⟨X, pre.length + 1, none⟩))) rfl rfl (by kernel_rfl) (by kernel_rfl) (by kernel_rfl) (by kernel_rfl) (fun _ _ _ h => h) (Or.inl ⟨by rfl, ?_⟩) (by assumption) ?_
      · intro wq hSq; go_simp
      try simp only [Act.put, List.setIfInBounds_toArray, List.set_cons_zero, List.set_cons_succ]
      refine last.wpAnyL_take (i := 4) (v := (.slice la ln lc)) rfl rfl (by kernel_rfl) (by kernel_rfl) (by kernel_rfl) (by kernel_rfl) (fun _ _ _ h => h) (Or.inl ⟨by rfl, ?_⟩) (by assumption) ?_
      · intro wq hSq; have q := hSq.cell 1 _ rfl; go_simp
      try simp only [Act.put, List.setIfInBounds_toArray, List.set_cons_zero, List.set_cons_succ]
      refine last.wpAnyL_take (i := 5) (v := (.pointer (some ⟨X, pre.length, none⟩))) rfl rfl (by kernel_rfl) (by kernel_rfl) (by kernel_rfl) (by kernel_rfl) (fun _ _ _ h => h) (Or.inl ⟨by rfl, ?_⟩) (by assumption) ?_
      · intro wq hSq; go_simp
      try simp only [Act.put, List.setIfInBounds_toArray, List.set_cons_zero, List.set_cons_succ]
      refine last.wpAnyL_take (i := 6) (v := (.pointer (some ⟨X, pre.length, none⟩))) rfl rfl (by kernel_rfl) (by kernel_rfl) (by kernel_rfl) (by kernel_rfl) (fun _ _ _ h => h) (Or.inl ⟨by rfl, ?_⟩) (by assumption) ?_
      · intro wq hSq; go_simp
      try simp only [Act.put, List.setIfInBounds_toArray, List.set_cons_zero, List.set_cons_succ]
      refine last.wpAnyL_take (i := 7) (v := (.pointer (some ⟨X, pre.length + 2, none⟩))) rfl rfl (by kernel_rfl) (by kernel_rfl) (by kernel_rfl) (by kernel_rfl) (fun _ _ _ h => h) (Or.inl ⟨by rfl, ?_⟩) (by assumption) ?_
      · intro wq hSq; go_simp
      try simp only [Act.put, List.setIfInBounds_toArray, List.set_cons_zero, List.set_cons_succ]
      refine last.wpAnyL_take (i := 8) (v := (.int .i64 (sn : Int))) rfl rfl (by kernel_rfl) (by kernel_rfl) (by kernel_rfl) (by kernel_rfl) (fun _ _ _ h => h) (Or.inl ⟨by rfl, ?_⟩) (by assumption) ?_
      · intro wq hSq; have q := hSq.cell 2 _ rfl; go_simp
      try simp only [Act.put, List.setIfInBounds_toArray, List.set_cons_zero, List.set_cons_succ]
      refine last.wpAnyL_take (i := 9) (v := (.int .i64 (kk : Int))) rfl rfl (by kernel_rfl) (by kernel_rfl) (by kernel_rfl) (by kernel_rfl) (fun _ _ _ h => h) (Or.inl ⟨by rfl, ?_⟩) (by assumption) ?_
      · intro wq hSq; go_simp
      try simp only [Act.put, List.setIfInBounds_toArray, List.set_cons_zero, List.set_cons_succ]
      refine last.wpAnyL_take (i := 10) (v := (.int .i64 (lf : Int))) rfl rfl (by kernel_rfl) (by kernel_rfl) (by kernel_rfl) (by kernel_rfl) (fun _ _ _ h => h) (Or.inl ⟨by rfl, ?_⟩) (by assumption) ?_
      · intro wq hSq; go_simp
      try simp only [Act.put, List.setIfInBounds_toArray, List.set_cons_zero, List.set_cons_succ]
      refine last.wpAnyL_take (i := 11) (v := (.slice la lf lc)) rfl rfl (by kernel_rfl) (by kernel_rfl) (by kernel_rfl) (by kernel_rfl) (fun _ _ _ h => h) (Or.inl ⟨by rfl, ?_⟩) (by assumption) ?_
      · intro wq hSq; go_simp
      try simp only [Act.put, List.setIfInBounds_toArray, List.set_cons_zero, List.set_cons_succ]
      refine last.wpAnyL_one (i := 12) (o := { dst := some 40, op := Op.nilCheck (Operand.tmp 28), type := 0, pos := "l09_shard.go:175", after := #[{ on := 0, ground := Ground.data }, { on := 0, ground := Ground.phase }, { on := 1, ground := Ground.phase }, { on := 2, ground := Ground.phase }, { on := 3, ground := Ground.phase }, { on := 4, ground := Ground.phase }, { on := 5, ground := Ground.phase }, { on := 6, ground := Ground.phase }, { on := 7, ground := Ground.phase }, { on := 8, ground := Ground.phase }, { on := 9, ground := Ground.phase }, { on := 10, ground := Ground.phase }, { on := 11, ground := Ground.phase }], guard := none }) (by kernel_rfl) rfl (fun K hK => ?_)
      go_simp
      refine hK.out _ _ ?_ (fun hHeld => ?_)
      · exact hHeld0
      clear hK K hHeld0
      have hHeld0 := hHeld
      clear hHeld
      try simp only [Act.put, List.setIfInBounds_toArray, List.set_cons_zero, List.set_cons_succ]
      refine last.wpAnyL_take (i := 13) (v := (.pointer (some ⟨X, pre.length + 1, none⟩))) rfl rfl (by kernel_rfl) (by kernel_rfl) (by kernel_rfl) (by kernel_rfl) (fun _ _ _ h => h) (Or.inl ⟨by rfl, ?_⟩) (by assumption) ?_
      · intro wq hSq; go_simp
      try simp only [Act.put, List.setIfInBounds_toArray, List.set_cons_zero, List.set_cons_succ]
      have e8 := hbX3.cell 1 _ rfl
      have f8 := hbX3.fz (pre.length + 1)
      refine last.wpAnyL_last (o := { dst := none, op := Op.store 24 (Operand.tmp 41) (Operand.tmp 39), type := 0, pos := "l09_shard.go:175", after := #[{ on := 13, ground := Ground.data }, { on := 11, ground := Ground.data }, { on := 0, ground := Ground.phase }, { on := 1, ground := Ground.phase }, { on := 2, ground := Ground.phase }, { on := 3, ground := Ground.phase }, { on := 4, ground := Ground.phase }, { on := 5, ground := Ground.phase }, { on := 6, ground := Ground.phase }, { on := 7, ground := Ground.phase }, { on := 8, ground := Ground.phase }, { on := 9, ground := Ground.phase }, { on := 10, ground := Ground.phase }, { on := 11, ground := Ground.phase }], guard := none }) (by kernel_rfl) rfl (by kernel_rfl) (fun K hK => ?_)
      go_simp
      refine hK.out _ _ ?_
      clear hK K
      have c4 : BoxIn X T pre (shVals sid (sn : Int) la lf lc ma mn mc ha hn hc) post (w2.setCell ⟨X, pre.length + 1, none⟩ (.slice la lf lc)).drew ∧ w2.drew.grownBy (w2.setCell ⟨X, pre.length + 1, none⟩ (.slice la lf lc)).drew (some X) := hbX3.set 1 (by simp [shVals]) (.slice la lf lc)
      generalize hW4 : (w2.setCell ⟨X, pre.length + 1, none⟩ (.slice la lf lc)).drew = w4 at *
      have hbX4 : BoxIn X T pre (shVals sid (sn : Int) la lf lc ma mn mc ha hn hc) post w4 := c4.1
      have hF4 : lay.Frame [X] w w4 := (lay.Frame.of_below hdn).grown c4.2 (fun k e => .inl (by rw [← Option.some.inj e]; exact List.mem_cons_self))
      have c5 := hbX4.set 2 (by simp [shVals]) (.int .i64 (lf : Int))
      have x1 := hbX4.cell 1 _ rfl
      have x2' := hbX4.cell 2 _ rfl
      have y2 := hbX4.fz (pre.length + 2)
      have hF5 : lay.Frame [X] w (w4.setCell ⟨X, pre.length + 2, none⟩ (.int .i64 (lf : Int))) := hF4.grown c5.2 (fun k e => .inl (by rw [← Option.some.inj e]; exact List.mem_cons_self))
      have hOT5 := hOT.of_blocks (w' := w4.setCell ⟨X, pre.length + 2, none⟩ (.int .i64 (lf : Int))) (fun k hk => hF5.block k (HLT.out k hk).2 (fun e => hboxes k (HLT.out k hk).1 (List.mem_singleton.1 e)))
      have HRP5 := Hid.mk' (HRP.out _ hOT5.sl)
      have z1 := c5.1.cell 1 _ rfl
      clear HRP hW4 c4 e8 f8 hHeld0
      go_wp2_with fail
      refine HRP5.out.mono ?_
      rintro e w7 ⟨g, np, cp, g2, c2', hs, rfl, hO, hOR, hnb, hb7⟩
      have hbX7 := c5.1.below hb7
      have hF7 := hF5.below hb7
      have hOT7 := hOT5.below hb7
      have hs5 := hF5.size
      have c8 := hbX7.set 3 (by simp [shVals]) (.slice (some ⟨g, 0, none⟩) np cp)
      have c9 := c8.1.set 4 (by simp [shVals]) (.slice (some ⟨g2, 0, none⟩) (resH (replay LT)).length c2')
      have c10 := grownBy_trans c8.2 c9.2
      have a3 := hbX7.cell 3 _ rfl
      have a4 := hbX7.cell 4 _ rfl
      have b3 := hbX7.fz (pre.length + 3)
      have b4 := hbX7.fz (pre.length + 4)
      have a4' := c8.1.cell 4 _ rfl
      have b4' := c8.1.fz (pre.length + 4)
      have hgl := hO.lt
      have hX5 := hXl
      have HE : Hid (WrotePost w X T pre post F (crashS (sid, log, (sn : Int), m, held) (kk : Int)) ((w7.setCell ⟨X, pre.length + 3, none⟩ (.slice (some ⟨g, 0, none⟩) np cp)).setCell ⟨X, pre.length + 4, none⟩ (.slice (some ⟨g2, 0, none⟩) (resH (replay LT)).length c2'))) := by
        rw [HCR.out]
        have hHn : ∀ k, BlkR (.slice (some ⟨g2, 0, none⟩) (resH (replay LT)).length c2') hs k → w.heap.size ≤ k := fun k hk => Nat.le_trans hs5 (hOR.lt k hk).1
        have hgn : w.heap.size ≤ g := Nat.le_trans hs5 hgl.1
        have q1 := hOT7.of_blocks fun k hk => c10.block k (hOT7.lt k hk).2 (fun e => hboxes k (HLT.out k hk).1 (Option.some.inj e))
        have q2 := (ownPV_of hO).of_block fun k hk => c10.block k ((ownPV_of hO).lt k hk) (fun e => by
          have e1 : g = k := by simpa [Value.ownBlock] using hk
          have := Option.some.inj e
          omega)
        have q3 := (hOR.mono (base' := 0) (Nat.zero_le _)).of_blocks fun k hk => c10.block k (hOR.lt k hk).2 (fun e => by have := hHn k hk; have := Option.some.inj e; omega)
        have d1 := recsR.ownNodup (recs_own.2 ⟨_, q1, rfl⟩)
        have d3 := recsR.ownNodup (recs_own.2 ⟨_, q3, rfl⟩)
        refine ⟨la, lf, lc, some ⟨g, 0, none⟩, np, cp, some ⟨g2, 0, none⟩, _, c2', _, ⟨c9.1, ⟨hid, hlfw, ⟨hl', q1, hs, q3, rfl⟩, q2, ?_⟩, ?_⟩, ?_, ?_⟩
        · refine nodup_mk d1 (nodup_mk (by simp [Value.ownBlock]) d3 (fun k hk hk2 => ?_)) (fun k hk hk2 => ?_)
          · have : k = g := by simpa [Value.ownBlock] using hk
            subst this
            exact hnb (mem_blkR.1 hk2)
          · have h1 := (HLT.out k (mem_blkR.1 hk)).2
            rcases List.mem_append.1 hk2 with e | e
            · have : k = g := by simpa [Value.ownBlock] using e
              omega
            · have := hHn k (mem_blkR.1 e)
              omega
        · intro hk
          rcases List.mem_append.1 hk with e | e
          · exact hXF (HLT.out X (mem_blkR.1 e)).1
          · rcases List.mem_append.1 e with e | e
            · have : X = g := by simpa [Value.ownBlock] using e
              omega
            · have := hHn X (mem_blkR.1 e)
              omega
        · exact (hF7.grown c10 (fun k e => .inl (by rw [← Option.some.inj e]; exact List.mem_cons_self))).mono (fun k hk => by rw [List.mem_singleton.1 hk]; exact List.mem_cons_self)
        · intro k hk
          rcases List.mem_append.1 hk with e | e
          · exact .inl (HLT.out k (mem_blkR.1 e)).1
          · rcases List.mem_append.1 e with e | e
            · have : k = g := by simpa [Value.ownBlock] using e
              exact .inr (by omega)
            · exact .inr (hHn k (mem_blkR.1 e))
      clear HRP5 z1 x1 x2' y2 hO hOR hnb c8 c9 c10 hbX7 hOT7 hOT5 hF5 hF4
      go_wp2_with fail
      refine bodyPost_end (v := .tuple #[]) ?_ rfl ⟨rfl, HE.out⟩
      simp [results, Tryz.results106, go_sem]
end Go.Proofs.YteniflajiklffaaGreatDoor.recs
