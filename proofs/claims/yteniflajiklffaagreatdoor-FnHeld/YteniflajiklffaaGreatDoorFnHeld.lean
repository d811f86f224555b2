/- The statement FnHeldCardSaid: at every code FnHeld answers true, and the code reads afterwards as before. No condition besides the row's own: the program's named errors lie as its text lays them. -/
import Derived.Test.YteniflajiklffaaGreatDoorRows
import Derived.Test.YteniflajiklffaaGreatDoorCards
import Derived.Test.YteniflajiklffaaGreatDoorTie
import Derived.Test.YteniflajiklffaaGreatDoorShaw
import Derived.Test.YteniflajiklffaaGreatDoorShbd
import Derived.Test.YteniflajiklffaaGreatDoorShan
import Derived.ProofKit
import Derived.OpenShut
import Derived.ShutString
import Derived.ChangeOld
import Derived.Below
import Derived.ChangeVars
import Derived.OpenVars
import Derived.LaidMore
import Derived.Lay
import Derived.LaidOnce
import Derived.SevenTiedAt
namespace Go.Proofs.YteniflajiklffaaGreatDoor.fnHeld
open Go.ChangeShapes Go.WideShapes Go.ChangeAt Go.RowKit
open Go.ChangeMaps (open_string shut_string)
set_option linter.unusedVariables false
open Go.Proofs.YteniflajiklffaaGreatDoor.base Go.Proofs.YteniflajiklffaaGreatDoor.pairs Go.Proofs.YteniflajiklffaaGreatDoor.ords Go.Proofs.YteniflajiklffaaGreatDoor.help Go.Proofs.YteniflajiklffaaGreatDoor.helps Go.Proofs.YteniflajiklffaaGreatDoor.recs Go.Proofs.YteniflajiklffaaGreatDoor.lay Go.Proofs.YteniflajiklffaaGreatDoor.draw

theorem hold_same {s : Shd} {tx : Int} {ops : List Od} (h : (holdR s tx ops).2 ≠ 1) : (holdR s tx ops).1 = s := by
  unfold holdR at h ⊢
  split at h
  · next e =>
    rw [if_pos e]
    rcases holdS_cases s tx ops with e2 | ⟨e2, _⟩
    · exact e2
    · rw [e2] at h; exact absurd rfl h
  · next e => rw [if_neg e]
theorem hold_yes {s : Shd} {tx : Int} {ops : List Od} (h : (holdR s tx ops).2 = 1) : Right s ∧ (txOk tx && opsOk ops) = true ∧ ((outc s tx = 1 ∧ (holdR s tx ops).1 = s) ∨ (outc s tx = 2 ∧ (holdR s tx ops).1 = recs.written s (1, tx, ops))) := by
  unfold holdR at h ⊢
  split at h
  · next e =>
    have hR := (shardOk_iff s).1 e
    rw [if_pos e]
    unfold holdS at h ⊢
    split at h
    · simp at h
    · next h1 =>
      rw [if_neg h1]
      have h1' : (txOk tx && opsOk ops) = true := by simpa using h1
      split at h
      · next h2 =>
        rw [if_pos h2]
        exact ⟨hR, h1', .inl ⟨h, rfl⟩⟩
      · next h2 =>
        rw [if_neg h2]
        split at h
        · simp at h
        · next h3 =>
          rw [if_neg h3]
          exact ⟨hR, h1', .inr ⟨by omega, rfl⟩⟩
  · simp at h
theorem hold_again {x : Shd} {tx : Int} {ops : List Od} (hR : Right x) (h1 : (txOk tx && opsOk ops) = true) (h2 : outc x tx = 1) : holdR x tx ops = (x, 1) := by
  unfold holdR holdS
  rw [if_pos ((shardOk_iff x).2 hR), if_neg (by rw [h1]; simp), if_pos (by omega), h2]
theorem outc_written {s : Shd} {tx : Int} {ops : List Od} : outc (recs.written s (1, tx, ops)) tx = 1 := by
  have e : (recs.written s (1, tx, ops)).2.2.2.2 = s.2.2.2.2 ++ [(1, tx, ops)] := by
    show (forced s.2.2.2.1 s.2.2.2.2 (1, tx, ops)).2 = _
    unfold forced; rw [if_pos rfl]
  unfold outc
  rw [e, if_pos (placeTx_isSome.2 ⟨(1, tx, ops), by simp, rfl⟩)]
theorem map_written {s : Shd} {tx : Int} {ops : List Od} : (recs.written s (1, tx, ops)).2.2.2.1 = s.2.2.2.1 := by
  show (forced s.2.2.2.1 s.2.2.2.2 (1, tx, ops)).1 = _
  unfold forced; rw [if_pos rfl]
theorem hold_other {s : Shd} {tx : Int} {ops : List Od} (hR : Right (recs.written s (1, tx, ops))) (ho : opsOk ops = true) (ht : ∀ r ∈ s.2.1, r.2.1 ≤ 6 ∨ 1000000 ≤ r.2.1) (htx : tx ≤ 9) : holdR (recs.written s (1, tx, ops)) 999999 ops = (recs.written s (1, tx, ops), 2) := by
  have e : (recs.written s (1, tx, ops)).2.2.2.2 = s.2.2.2.2 ++ [(1, tx, ops)] := by
    show (forced s.2.2.2.1 s.2.2.2.2 (1, tx, ops)).2 = _
    unfold forced; rw [if_pos rfl]
  have hout : outc (recs.written s (1, tx, ops)) 999999 = 2 := outc_out hR fun r hr e2 => by
    have hr : r ∈ s.2.1 ++ [((1 : Int), tx, ops)] := hr
    rcases List.mem_append.1 hr with e3 | e3
    · have := ht r e3; omega
    · rw [List.mem_singleton.1 e3] at e2
      simp only [] at e2
      omega
  have hlk : locked (recs.written s (1, tx, ops)).2.2.2.2 ops = true := by
    rw [e]
    have h1 := ((opsOk_iff ops).1 ho).2.1
    obtain ⟨p, hp⟩ : ∃ p, p ∈ ops := by
      cases ops with
      | nil => simp at h1
      | cons p l => exact ⟨p, List.mem_cons_self⟩
    unfold locked
    rw [List.any_eq_true]
    refine ⟨(1, tx, ops), by simp, ?_⟩
    rw [List.any_eq_true]
    refine ⟨p, hp, ?_⟩
    rw [List.any_eq_true]
    exact ⟨p, hp, by simp⟩
  unfold holdR holdS
  rw [if_pos ((shardOk_iff _).2 hR), if_neg (by rw [ho]; decide), if_neg (by omega), if_pos (by unfold holdNo; rw [hlk]; simp)]
theorem same_pairs (a a2 : Option Addr) (len cap len2 cap2 : Nat) (l : List Pr) (w : World) (h : SlP w a len l) (h2 : SlP w a2 len2 l) :
    Calls Tryz.prog 11 #[.slice a len cap, .slice a2 len2 cap2] w fun e w' => e = .returned (.bool true) ∧ Below w.heap.size w w' := by
  refine (samePairs a a2 len cap len2 cap2 l l w h h2).mono ?_
  rintro e w' ⟨rfl, n, rfl⟩
  exact ⟨by simp, below_drewN (Below.refl _ _) _⟩
set_option maxRecDepth 100000 in
set_option maxHeartbeats 16000000 in
theorem walk (G : List Nat) (A : Nat → Addr) (a0 : Option Addr) (len0 cap0 : Nat) (b0 : List UInt8) (w : World) (w0 : Sl w a0 len0 b0) (hK : sent.KS G A w) (hGm : 4 ∈ G ∧ 5 ∈ G) :
    Calls Tryz.prog 3 #[.slice a0 len0 cap0] w fun e w' => e = .returned (.bool true) ∧ Below w.heap.size w w' := by
  have hm := w0.2.1
  have hb := big_ a0 len0 cap0 w hm
  by_cases hbig : 1048576 < len0
  · rw [decide_eq_true (by omega)] at hb
    have HB := Hid.mk' hb
    clear hb
    go_enter Tryz.func3, Tryz.ntmps3
    go_wp2_with fail
    refine HB.out.mono ?_
    rintro e w1 ⟨rfl, rfl⟩
    go_wp2_with fail
    go_ret
    exact ⟨rfl, Below.refl _ _⟩
  rw [decide_eq_false (by omega)] at hb
  have HB := Hid.mk' (hb.mono (fun e w' (hp : e = .returned (.bool false) ∧ w' = w) => (⟨hp.1, hp.2.symm⟩ : e = .returned (.bool false) ∧ w = w')))
  have HDR := Hid.mk' (drawHold a0 len0 cap0 b0 w w0 (by omega))
  clear hb
  go_enter Tryz.func3, Tryz.ntmps3
  go_wp2_with fail
  refine HB.out.mono ?_
  rintro e w1 ⟨rfl, rfl⟩
  go_wp2_with fail
  refine HDR.out.mono ?_
  rintro e w2 ⟨la, ln, lc, ma, mn, mc, ha, hn, hc, s, F, tx, g, m, cp, ops, hD, htx, ⟨hm8, htt⟩, rfl, hOS, hF, hOo, hb2⟩
  clear HB HDR
  have hbd := hD.bd
  have hks : ∀ p ∈ ops, p.2.1.size ≤ 1099511627776 := fun p hp => by have := (htt p hp).2.2.1; omega
  have htw : (Lit.int .i64 tx).wf = true := WalkArith.wf_i64 (by omega)
  obtain ⟨W, hW⟩ : ∃ W, w2.alloc (boxSh s.1 s.2.2.1 la ln lc ma mn mc ha hn hc) = W := ⟨_, rfl⟩
  have hbW : Below w2.heap.size w2 W := by rw [← hW]; exact below_two
  have hbx := inBox_new hOS
  rw [hW] at hbx
  have hBW := hb2.trans (hbW.mono hb2.size)
  have hKW := hK.below hBW
  have HOP := Hid.mk' (fun wx (hx : Below W.heap.size W wx) => (((hOo.mono (base' := 0) (Nat.zero_le _)).below hbW).below hx).sl)
  have HCL := Hid.mk' (fun wx (hx : Below W.heap.size W wx) => (hbx.below hx).cells)
  have HSE := Hid.mk' (fun wx (hx : Below W.heap.size W wx) => (hbx.below hx).own.see)
  obtain ⟨x0, x1, x2, x3, x4⟩ := HCL.out W (Below.refl _ _)
  rw [← hW] at x0 x1 x2 x3 x4
  have HW := Hid.mk' hW
  have HIH : Hid (∀ wx, Below W.heap.size W wx → Calls Tryz.prog 9 #[.agg #[.int .i64 s.1, .slice la ln lc, .int .i64 s.2.2.1, .slice ma mn mc, .slice ha hn hc], .int .i64 tx, .slice (some ⟨g, 0, none⟩) m cp] wx (Ret2 wx (holdR s tx ops).1 (.int .i64 (holdR s tx ops).2))) := fun wx hx => impl_hold G A la ln lc ma mn mc ha hn hc s tx (some ⟨g, 0, none⟩) m cp ops wx (HSE.out wx hx) (recs.OwnSh.plainV (hbx.below hx).own).1 hbd (HOP.out wx hx) hks htw (by omega) (hKW.below hx) hGm.1 hGm.2
  have HSH : Hid (∀ wx, Below W.heap.size W wx → Calls Tryz.prog 10 #[.agg #[.int .i64 s.1, .slice la ln lc, .int .i64 s.2.2.1, .slice ma mn mc, .slice ha hn hc], .int .i64 tx, .slice (some ⟨g, 0, none⟩) m cp] wx (Ret2 wx (holdR s tx ops).1 (.int .i64 (holdR s tx ops).2))) := fun wx hx => spec_hold la ln lc ma mn mc ha hn hc s tx (some ⟨g, 0, none⟩) m cp ops wx (HSE.out wx hx) hbd (HOP.out wx hx) hks htw (by omega)
  have HIO : Hid (∀ wx, Below W.heap.size W wx → Calls Tryz.prog 12 #[.agg #[.int .i64 s.1, .slice la ln lc, .int .i64 s.2.2.1, .slice ma mn mc, .slice ha hn hc], .int .i64 tx] wx fun e w' => e = .returned (.int .i64 (outcR s tx)) ∧ Below wx.heap.size wx w') := fun wx hx => impl_outcome G A la ln lc ma mn mc ha hn hc s tx wx (HSE.out wx hx) (recs.OwnSh.plainV (hbx.below hx).own).1 hbd (hKW.below hx)
  have HSM := Hid.mk' (fun (h : (holdR s tx ops).2 ≠ 1) => hold_same (s := s) (tx := tx) (ops := ops) h)
  have HYS := Hid.mk' (fun (h : (holdR s tx ops).2 = 1) => hold_yes (s := s) (tx := tx) (ops := ops) h)
  have htxs := hD.txs
  have HBD := Hid.mk' hbd
  clear hW hOS hF hm hbd
  generalize hQ : (holdR s tx ops).2 = c at *
  generalize hRr : (holdR s tx ops).1 = R at *
  have HIW := Hid.mk' (HIH.out W (Below.refl _ _))
  go_wp2_with fail
  rw [HW.out]
  refine HIW.out.mono ?_
  rintro e w4 ⟨ia, na, ca, ja, mna, mca, ka, hnaa, hca, FA, rfl, hOA, hFA, hb4⟩
  clear HIW HIH HW x0 x1 x2 x3 x4
  obtain ⟨V, hV⟩ : ∃ V, w4.alloc (boxSh R.1 R.2.2.1 ia na ca ja mna mca ka hnaa hca) = V := ⟨_, rfl⟩
  have hbV : Below w4.heap.size w4 V := by rw [← hV]; exact below_two
  have hax := inBox_new hOA
  rw [hV] at hax
  have hWV := hb4.trans (hbV.mono hb4.size)
  obtain ⟨x0, x1, x2, x3, x4⟩ := HCL.out V hWV
  rw [← hV] at x0 x1 x2 x3 x4
  have HV := Hid.mk' hV
  have HSV := Hid.mk' (HSH.out V hWV)
  clear hV hOA
  go_wp2_with fail
  rw [HV.out]
  refine HSV.out.mono ?_
  rintro e w5 ⟨ib, nb, cb, jb, mnb, mcb, kb, hnb, hcb, FB, rfl, hOB, hFB, hb5⟩
  clear HSV HSH HV x0 x1 x2 x3 x4
  obtain ⟨V5, hV5⟩ : ∃ V5, w5.alloc (boxSh R.1 R.2.2.1 ib nb cb jb mnb mcb kb hnb hcb) = V5 := ⟨_, rfl⟩
  have hbV5 : Below w5.heap.size w5 V5 := by rw [← hV5]; exact below_two
  have hVV5 := hb5.trans (hbV5.mono hb5.size)
  have hW5 := hWV.trans (hVV5.mono hWV.size)
  have hcc : (c != c) = false := by simp
  have HV5 := Hid.mk' hV5
  have HAX := Hid.mk' (fun wx (hx : Below V5.heap.size V5 wx) => (hax.below hVV5).below hx)
  clear hV5 hOB hax
  by_cases hc1 : c = 1
  · obtain ⟨hR, hgg, hcase⟩ := HYS.out hc1
    subst hc1
    have hx : Right R ∧ outc R tx = 1 ∧ R.2.2.2.1 = s.2.2.2.1 ∧ (outc s tx = 1 ∨ (outc s tx = 2 ∧ holdR R 999999 ops = (R, 2))) := by
      rcases hcase with ⟨e1, e2⟩ | ⟨e1, e2⟩
      · rw [e2]; exact ⟨hR, e1, rfl, .inl e1⟩
      · have hRx : Right R := by
          have h2 : R = (holdS s tx ops).1 := by rw [← hRr]; unfold holdR; rw [if_pos ((shardOk_iff s).2 hR)]
          rw [h2]; exact right_hold hR
        rw [e2] at hRx ⊢
        rw [Bool.and_eq_true] at hgg
        exact ⟨hRx, outc_written, map_written, .inr ⟨e1, hold_other hRx hgg.2 htxs htx.2⟩⟩
    obtain ⟨hRx, hox, hmx, hfin⟩ := hx
    have hbr := right_bd hRx
    have hag := hold_again hRx hgg hox
    have HIX : Hid (∀ wx, Below V5.heap.size V5 wx → Calls Tryz.prog 9 #[.agg #[.int .i64 R.1, .slice ia na ca, .int .i64 R.2.2.1, .slice ja mna mca, .slice ka hnaa hca], .int .i64 tx, .slice (some ⟨g, 0, none⟩) m cp] wx (Ret2 wx R (.int .i64 1))) := fun wx hx => by
      have h1 := impl_hold G A ia na ca ja mna mca ka hnaa hca R tx (some ⟨g, 0, none⟩) m cp ops wx (HAX.out wx hx).own.see (recs.OwnSh.plainV (HAX.out wx hx).own).1 hbr (HOP.out wx (hW5.trans (hx.mono hW5.size))) hks htw (by omega) (hKW.below (hW5.trans (hx.mono hW5.size))) hGm.1 hGm.2
      rw [hag] at h1
      exact h1
    have HIY : Hid (∀ wx, Below V5.heap.size V5 wx → Calls Tryz.prog 9 #[.agg #[.int .i64 R.1, .slice ia na ca, .int .i64 R.2.2.1, .slice ja mna mca, .slice ka hnaa hca], .int .i64 999999, .slice (some ⟨g, 0, none⟩) m cp] wx (Ret2 wx (holdR R 999999 ops).1 (.int .i64 (holdR R 999999 ops).2))) := fun wx hx => impl_hold G A ia na ca ja mna mca ka hnaa hca R 999999 (some ⟨g, 0, none⟩) m cp ops wx (HAX.out wx hx).own.see (recs.OwnSh.plainV (HAX.out wx hx).own).1 hbr (HOP.out wx (hW5.trans (hx.mono hW5.size))) hks rfl (by omega) (hKW.below (hW5.trans (hx.mono hW5.size))) hGm.1 hGm.2
    have HOX : Hid (∀ wx, Below V5.heap.size V5 wx → Calls Tryz.prog 12 #[.agg #[.int .i64 R.1, .slice ia na ca, .int .i64 R.2.2.1, .slice ja mna mca, .slice ka hnaa hca], .int .i64 tx] wx fun e w' => e = .returned (.int .i64 1) ∧ Below wx.heap.size wx w') := fun wx hx => by
      have h1 := impl_outcome G A ia na ca ja mna mca ka hnaa hca R tx wx (HAX.out wx hx).own.see (recs.OwnSh.plainV (HAX.out wx hx).own).1 hbr (hKW.below (hW5.trans (hx.mono hW5.size)))
      have h2 : outcR R tx = 1 := by unfold outcR; rw [if_pos ((shardOk_iff R).2 hRx), hox]
      rw [h2] at h1
      exact h1
    obtain ⟨t1, t2, t3⟩ := SeeSh.few (HAX.out V5 (Below.refl _ _)).own.see hbr
    have HKX : Hid (∀ wx, Below V5.heap.size V5 wx → Calls Tryz.prog 13 #[.agg #[.int .i64 R.1, .slice ia na ca, .int .i64 R.2.2.1, .slice ja mna mca, .slice ka hnaa hca]] wx fun e w' => e = .returned (.bool true) ∧ Below wx.heap.size wx w') := fun wx hx => by
      have h1 := impl_shardOk ia na ca ja mna mca ka hnaa hca R wx (HAX.out wx hx).own.see (recs.OwnSh.plainV (HAX.out wx hx).own).1 hbr.few (by omega) (by omega)
      rw [(shardOk_iff R).2 hRx] at h1
      exact h1
    have HPX : Hid (∀ wx, Below V5.heap.size V5 wx → Calls Tryz.prog 11 #[.slice ja mna mca, .slice ma mn mc] wx fun e w' => e = .returned (.bool true) ∧ Below wx.heap.size wx w') := fun wx hx => by
      have h1 := (HAX.out wx hx).own.see.map
      rw [hmx] at h1
      exact same_pairs ja ma mna mca mn mc s.2.2.2.1 wx h1 (HSE.out wx (hW5.trans (hx.mono hW5.size))).map
    have hRs : outcR s tx = outc s tx := by unfold outcR; rw [if_pos ((shardOk_iff s).2 hR)]
    rw [hRs] at HIO
    have HLA := Hid.mk' ((HAX.out V5 (Below.refl _ _)).own.see.log.1)
    have HFN := Hid.mk' hfin
    clear hcase hRx hox hmx hfin hbr hag hR hgg HSM HYS htxs t1 t2 t3 hRs hRr hQ HBD hks htt hD hOo hbx hKW hK hm8 htx htw
    have HIXV := Hid.mk' (HIX.out V5 (Below.refl _ _))
    obtain ⟨y0, y1, y2, y3, y4⟩ := (HAX.out V5 (Below.refl _ _)).cells
    rw [← HV5.out] at y0 y1 y2 y3 y4
    go_wp2_with fail
    rw [HV5.out]
    refine HIXV.out.mono ?_
    rintro e w6 ⟨ic, nc, cc, jc, mnc, mcc, kc, hnc, hcc2, FC, rfl, hOC, hFC, hb6⟩
    clear HIXV y0 y1 y2 y3 y4 HV5
    obtain ⟨V6, hV6⟩ : ∃ V6, w6.alloc (boxSh R.1 R.2.2.1 ic nc cc jc mnc mcc kc hnc hcc2) = V6 := ⟨_, rfl⟩
    have hbV6 : Below w6.heap.size w6 V6 := by rw [← hV6]; exact below_two
    have hcx := inBox_new hOC
    rw [hV6] at hcx
    have h56 := hb6.trans (hbV6.mono hb6.size)
    have hnn : nc = na := by
      have h1 := hcx.own.see.log.1
      rw [← h1]; exact HLA.out
    subst hnn
    have hne : ((nc : Int) != (nc : Int)) = false := by simp
    obtain ⟨y0, y1, y2, y3, y4⟩ := (HAX.out V6 h56).cells
    have z1 := hcx.cells.2.1
    have HOXV := Hid.mk' (HOX.out V6 h56)
    have HV6 := Hid.mk' hV6
    rw [← HV6.out] at y0 y1 y2 y3 y4 z1
    clear hV6 hOC hcx
    go_wp2_with fail
    rw [HV6.out]
    refine HOXV.out.mono ?_
    rintro e w7 ⟨rfl, hb7⟩
    have h57 := h56.trans (hb7.mono h56.size)
    clear y0 y1 y2 y3 y4 z1 HV6 HOXV
    obtain ⟨y0, y1, y2, y3, y4⟩ := (HAX.out w7 h57).cells
    have HKXV := Hid.mk' (HKX.out w7 h57)
    go_wp2_with fail
    refine HKXV.out.mono ?_
    rintro e w8 ⟨rfl, hb8⟩
    have h58 := h57.trans (hb8.mono h57.size)
    clear y0 y1 y2 y3 y4 HKXV
    obtain ⟨y0, y1, y2, y3, y4⟩ := (HAX.out w8 h58).cells
    have x3 := (HCL.out w8 (hW5.trans (h58.mono hW5.size))).2.2.2.1
    have HPXV := Hid.mk' (HPX.out w8 h58)
    go_wp2_with fail
    refine HPXV.out.mono ?_
    rintro e w9 ⟨rfl, hb9⟩
    have h59 := h58.trans (hb9.mono h58.size)
    clear y0 y1 y2 y3 y4 x3 HPXV
    obtain ⟨y0, y1, y2, y3, y4⟩ := (HAX.out w9 h59).cells
    have HIYV := Hid.mk' (HIY.out w9 h59)
    go_wp2_with fail
    refine HIYV.out.mono ?_
    rintro e w10 ⟨id, nd, cd, jd, mnd, mcd, kd, hnd, hcd, FD, rfl, hOD, hFD, hb10⟩
    clear HIYV y0 y1 y2 y3 y4
    obtain ⟨V10, hV10⟩ : ∃ V10, w10.alloc (boxSh (holdR R 999999 ops).1.1 (holdR R 999999 ops).1.2.2.1 id nd cd jd mnd mcd kd hnd hcd) = V10 := ⟨_, rfl⟩
    have hbV10 : Below w10.heap.size w10 V10 := by rw [← hV10]; exact below_two
    have hdx := inBox_new hOD
    rw [hV10] at hdx
    have h910 := hb10.trans (hbV10.mono hb10.size)
    have h510 := h59.trans (h910.mono h59.size)
    have hW10 := hW5.trans (h510.mono hW5.size)
    have HIOV := Hid.mk' (HIO.out V10 hW10)
    obtain ⟨x0, x1, x2, x3, x4⟩ := HCL.out V10 hW10
    have HV10 := Hid.mk' hV10
    rw [← HV10.out] at x0 x1 x2 x3 x4
    clear hV10 hOD
    rcases HFN.out with hf | ⟨hf, hf2⟩
    · rw [hf] at HIOV
      clear hf
      go_wp2_with fail
      rw [HV10.out]
      refine HIOV.out.mono ?_
      rintro e w11 ⟨rfl, hb11⟩
      have h511 := h510.trans (hb11.mono h510.size)
      have hBz := hBW.trans ((hW5.trans (h511.mono hW5.size)).mono hBW.size)
      clear x0 x1 x2 x3 x4 HIOV HV10
      go_wp2_with fail
      go_ret
      exact ⟨rfl, hBz⟩
    · rw [hf] at HIOV
      have hnd2 : nd = nc := by
        have h1 := hdx.own.see.log.1
        rw [hf2] at h1
        exact h1.symm.trans HLA.out
      have e2 : (holdR R 999999 ops).2 = 2 := by rw [hf2]
      clear hf hf2
      subst hnd2
      rw [e2]
      clear e2
      have hff : ((nd : Int) == (nd : Int)) = true := by simp
      have h_dx := Hid.mk' (fun wx (hx : Below V10.heap.size V10 wx) => (hdx.below hx).cells.2.1)
      clear hdx
      go_wp2_with fail
      rw [HV10.out]
      refine HIOV.out.mono ?_
      rintro e w11 ⟨rfl, hb11⟩
      have h511 := h510.trans (hb11.mono h510.size)
      have hBz := hBW.trans ((hW5.trans (h511.mono hW5.size)).mono hBW.size)
      clear x0 x1 x2 x3 x4 HIOV HV10
      have d1 := h_dx.out w11 hb11
      have y1 := (HAX.out w11 h511).cells.2.1
      go_wp2_with fail
      go_ret
      exact ⟨rfl, hBz⟩
  · have hRS := HSM.out hc1
    have hcn : (c != 1) = true := by simpa using hc1
    subst hRS
    have hnn : na = ln := by
      have h1 := (HAX.out V5 (Below.refl _ _)).own.see.log.1
      have h2 := (HSE.out W (Below.refl _ _)).log.1
      exact h1.symm.trans h2
    subst hnn
    have hff : ((na : Int) == (na : Int)) = true := by simp
    have HPX : Hid (Calls Tryz.prog 11 #[.slice ja mna mca, .slice ma mn mc] V5 fun e w' => e = .returned (.bool true) ∧ Below V5.heap.size V5 w') := same_pairs ja ma mna mca mn mc _ V5 (HAX.out V5 (Below.refl _ _)).own.see.map (HSE.out V5 hW5).map
    obtain ⟨y0, y1, y2, y3, y4⟩ := (HAX.out V5 (Below.refl _ _)).cells
    obtain ⟨x0, x1, x2, x3, x4⟩ := HCL.out V5 hW5
    rw [← HV5.out] at y0 y1 y2 y3 y4 x0 x1 x2 x3 x4
    clear HSM HYS htxs HBD hks htt hD hOo hbx hKW hK HIO hRr hQ hm8 htx htw
    go_wp2_with fail
    rw [HV5.out]
    refine HPX.out.mono ?_
    rintro e w6 ⟨rfl, hb6⟩
    have hBz := hBW.trans ((hW5.trans (hb6.mono hW5.size)).mono hBW.size)
    clear y0 y1 y2 y3 y4 x0 x1 x2 x3 x4 HPX HV5
    go_wp2_with fail
    go_ret
    exact ⟨rfl, hBz⟩

abbrev laidS : List (String × DataW Unit) := [("loop.example/g00244/impl.errForm", Rows.laid_loop_example_g00244_impl_errForm), ("loop.example/g00244/impl.errHeld", Rows.laid_loop_example_g00244_impl_errHeld), ("loop.example/g00244/impl.errDone", Rows.laid_loop_example_g00244_impl_errDone), ("loop.example/g00244/impl.errGone", Rows.laid_loop_example_g00244_impl_errGone), ("loop.example/g00244/impl.errNone", Rows.laid_loop_example_g00244_impl_errNone), ("loop.example/g00244/impl.errRoom", Rows.laid_loop_example_g00244_impl_errRoom), ("loop.example/g00244/impl.errFit", Rows.laid_loop_example_g00244_impl_errFit)]
abbrev lst : List (String × Nat × List UInt8) := [("loop.example/g00244/impl.errForm", 2, [110, 111, 116, 32, 97, 115, 32, 105, 116, 32, 109, 117, 115, 116, 32, 98, 101]), ("loop.example/g00244/impl.errHeld", 6, [104, 101, 108, 100, 32, 97, 108, 114, 101, 97, 100, 121]), ("loop.example/g00244/impl.errDone", 0, [100, 111, 110, 101, 32, 97, 108, 114, 101, 97, 100, 121]), ("loop.example/g00244/impl.errGone", 1, [103, 111, 110, 101, 32, 97, 108, 114, 101, 97, 100, 121]), ("loop.example/g00244/impl.errNone", 3, [110, 111, 32, 114, 101, 99, 111, 114, 100, 32, 104, 97, 115, 32, 105, 116]), ("loop.example/g00244/impl.errRoom", 4, [110, 111, 32, 114, 111, 111, 109, 32, 102, 111, 114, 32, 105, 116]), ("loop.example/g00244/impl.errFit", 5, [105, 116, 115, 32, 114, 101, 99, 111, 114, 100, 32, 100, 111, 101, 115, 32, 110, 111, 116, 32, 102, 105, 116, 32, 98, 101, 104, 105, 110, 100, 32, 116, 104, 101, 32, 111, 116, 104, 101, 114, 115])]
theorem known {W : World} (h : laidMetH Tryz.prog laidS W) : ∃ A, sent.KS (lst.map fun x => x.2.1) A W := by
  rw [MakeChecks.laidMetH_plain _ _ _ (by kernel_rfl)] at h
  refine sent.ks_of_laid lst h (fun x hx => ?_) (by decide) (by decide)
  have hm : ([("loop.example/g00244/impl.errForm", 2, [110, 111, 116, 32, 97, 115, 32, 105, 116, 32, 109, 117, 115, 116, 32, 98, 101]), ("loop.example/g00244/impl.errHeld", 6, [104, 101, 108, 100, 32, 97, 108, 114, 101, 97, 100, 121]), ("loop.example/g00244/impl.errDone", 0, [100, 111, 110, 101, 32, 97, 108, 114, 101, 97, 100, 121]), ("loop.example/g00244/impl.errGone", 1, [103, 111, 110, 101, 32, 97, 108, 114, 101, 97, 100, 121]), ("loop.example/g00244/impl.errNone", 3, [110, 111, 32, 114, 101, 99, 111, 114, 100, 32, 104, 97, 115, 32, 105, 116]), ("loop.example/g00244/impl.errRoom", 4, [110, 111, 32, 114, 111, 111, 109, 32, 102, 111, 114, 32, 105, 116]), ("loop.example/g00244/impl.errFit", 5, [105, 116, 115, 32, 114, 101, 99, 111, 114, 100, 32, 100, 111, 101, 115, 32, 110, 111, 116, 32, 102, 105, 116, 32, 98, 101, 104, 105, 110, 100, 32, 116, 104, 101, 32, 111, 116, 104, 101, 114, 115])] : List (String × Nat × List UInt8)).all (fun x => decide (Tryz.prog.globalNamed x.1 = some x.2.1) && decide ((Tryz.prog.globals[x.2.1]?).map (·.type) = some 65)) = true := by kernel_rfl
  have := List.all_eq_true.1 hm x hx
  simp only [Bool.and_eq_true, decide_eq_true_iff] at this
  exact this
theorem own : ownKnob Tryz.prog.godebug = none := by kernel_rfl
theorem laidOut : laidOutB Tryz.prog = true := by kernel_rfl
set_option maxRecDepth 100000 in
theorem lifted (os : Os) (started : os.Started) (H : Type) (enc : TypeId × Value → H) :
    ReturnsInHanded {} Tryz.checked os 3 .any (fun w args => (Rows.fnHeldSpec.pre enc Tryz.prog Tryz.f3 [] false w args ∧ laidMetH Tryz.prog laidS w) ∧ sizedMet enc Tryz.prog Tryz.f3 (OpenSpec.ofChange Rows.fnHeldSpec) false w args)
      (Rows.fnHeldSpec.post enc Tryz.prog Tryz.f3 false true false false) := by
  refine returnsInHanded_of_change_and (C := Tryz.checked) (X := fun w _ => laidMetH Tryz.prog laidS w) (fun _ _ _ hh h => h.of_heap hh) own started (by kernel_rfl) Tryz.func3
    (ChangeSpec.witness_shaped (enc := enc) (C := Tryz.checked) (os := os) (X := fun w _ => laidMetH Tryz.prog laidS w) false (World.laidAll Tryz.prog os laidS) #[.slice none 0 0] 70 (World.laidAll_os _ _ _) (World.shaped_of_ZipB (by kernel_rfl) (by kernel_rfl)) (by kernel_rfl) (by kernel_rfl) (by kernel_rfl)
      (by rw [MakeChecks.laidMetH_plain _ _ _ (by kernel_rfl)]; exact laidMet_laidAll _ (by kernel_rfl) (by kernel_rfl))) ?_
  intro W base args ds gs before hval0 hW _ _ hL _
  have hval : ∀ (j : Nat) t v, Tryz.f3.params[j]? = some t → args[j]? = some v → Value.okWide Tryz.prog W .any base t v := hval0
  have hW' := hW
  obtain ⟨p, q, hA0, hV, rfl, hfz, hnd⟩ := hW
  have hA : DataW.TrodAll enc Tryz.prog W 0 (fun _ => true) true Tryz.f3.params.toList args.toList ds p := hA0
  rw [Tryz.params3] at hA hval
  obtain ⟨v0, vs0, d0, ds0, p0, q0, hargs, rfl, rfl, h0, r0⟩ := trodAll_cons hA
  obtain ⟨rfl, rfl, rfl⟩ := trodAll_nil r0
  obtain rfl : args = #[v0] := by cases args; simp_all
  obtain ⟨gv0, gv1, gv2, gv3, gv4, gv5, gv6, rfl⟩ : ∃ gv0 gv1 gv2 gv3 gv4 gv5 gv6, gs = [gv0, gv1, gv2, gv3, gv4, gv5, gv6] := by
    have hl := sent.vars_len _ _ _ hV
    match gs, hl with
    | [gv0, gv1, gv2, gv3, gv4, gv5, gv6], _ => exact ⟨gv0, gv1, gv2, gv3, gv4, gv5, gv6, rfl⟩
  obtain ⟨a0, len0, cap0, rfl⟩ := okWide_slice Tryz.underlying22 (hval 0 22 v0 rfl rfl)
  have k0 := h0
  have lt0 : ∀ x ∈ p0, x.block < W.heap.size := by obtain ⟨m, hm⟩ := k0; exact DataW.trod_lt m _ _ _ hm
  obtain ⟨b0, w0⟩ : ∃ bs, Sl W a0 len0 bs := by
    obtain ⟨fuel, hf⟩ := h0
    rcases open_ints Tryz.underlying22 Tryz.underlying5 (by kernel_rfl) hf with ⟨hcs, _⟩ | ⟨x, l, c, zs, hcs, _, hl, hm, hz, _, hcell, hwz⟩
    · simp [Value.cells] at hcs
      obtain ⟨rfl, rfl, rfl⟩ := hcs
      exact ⟨[], sl_nil _ _⟩
    · simp [Value.cells] at hcs
      obtain ⟨rfl, rfl, rfl⟩ := hcs
      exact ⟨_, sl_of_ints hl hm (by simpa using hz) hcell hwz⟩
  clear hA0 hval0
  obtain ⟨A, hKS⟩ := known hL
  refine (walk _ A a0 len0 cap0 b0 W w0 hKS (by decide)).mono fun e W' ⟨he, bel⟩ => ?_
  subst he
  exact ⟨_, rfl, _, _, _, [], _, _, hW', trodAll_mk1 (shut_bool Tryz.underlying4 _), (trodAll_cons_mk (Below.trod laidOut (by kernel_rfl) (of_decide_eq_true (by kernel_rfl)) k0 bel lt0) trodAll_mk0), bel.trodVars laidOut (by kernel_rfl) hV, bel.frame _, fun h => by cases h⟩

theorem over : Rows.fnHeldRow.holds Tryz.pinned (OpenSpec.ofChange Rows.fnHeldSpec) :=
  OpenClaim.holds_of_wide 3 Tryz.f3 rfl rfl rfl rfl rfl rfl rfl ⟨rfl, rfl, rfl, rfl, rfl⟩ rfl rfl rfl rfl rfl (by kernel_rfl) Tryz.func3 (by kernel_rfl)
    (of_decide_eq_true (by kernel_rfl)) (by unfold Func.isWrapper; first | (rw [if_pos (by decide +kernel)]; kernel_rfl) | (rw [if_neg (by decide +kernel)]; exact ⟨rfl, rfl⟩))
    (fun os started H enc _ => lifted os started H enc)

theorem proved : Rows.FnHeldCardSaid :=
  Claim7.holds_tied_plain_at .later [] [.sentinel, .sentinel, .sentinel, .sentinel, .sentinel, .sentinel, .sentinel] true (true, "a9f3674d40d76233e7d890a81897f4caed00ec5ecb9068bc00f18ba4f1df9bde") true
    over (fun _ h => by cases h) (by kernel_rfl) (fun _ h => by cases h) fnHeld_row_tie rfl ⟨rfl, rfl⟩ (by kernel_rfl) rfl
    (fun f fn hf hfn => by
      obtain rfl : f = 3 := Option.some.inj ((show Tryz.prog.funcNamed "loop.example/g00244/laws.FnHeld" = some 3 by kernel_rfl).symm.trans hf) |>.symm
      obtain rfl : fn = Tryz.f3 := (Option.some.inj (Tryz.func3.symm.trans hfn)).symm
      exact ⟨by kernel_rfl, fun j t ht => by
        rw [Tryz.params3] at ht
        have hm : t ∈ [22] := by simpa using Array.mem_of_getElem? ht
        have hall : ([22].all fun u => !Tryz.prog.wantsStandIn u) = true := by kernel_rfl
        exact (show Tryz.prog.wantsStandIn t = false by simpa using List.all_eq_true.1 hall t hm)⟩)
    (by kernel_rfl)
end Go.Proofs.YteniflajiklffaaGreatDoor.fnHeld
