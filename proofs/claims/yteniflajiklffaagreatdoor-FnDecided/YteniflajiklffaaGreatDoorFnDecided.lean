/- The statement FnDecidedCardSaid: at every code FnDecided answers true, and the code reads afterwards as before. No condition besides the row's own: the program's named errors lie as its text lays them. -/
import Derived.Test.YteniflajiklffaaGreatDoorRows
import Derived.Test.YteniflajiklffaaGreatDoorCards
import Derived.Test.YteniflajiklffaaGreatDoorTie
import Derived.Test.YteniflajiklffaaGreatDoorShax
import Derived.Test.YteniflajiklffaaGreatDoorShbe
import Derived.Test.YteniflajiklffaaGreatDoorShbd
import Derived.Test.YteniflajiklffaaGreatDoorShan
import Derived.ProofKit
import Derived.OpenShut
import Derived.ShutString
import Derived.ChangeOld
import Derived.Below
import Derived.ChangeVars
import Derived.OpenVars
import Derived.LaidMore
import Derived.Lay
import Derived.LaidOnce
import Derived.SevenTiedAt
namespace Go.Proofs.YteniflajiklffaaGreatDoor.fnDecided
open Go.ChangeShapes Go.WideShapes Go.ChangeAt Go.RowKit
open Go.ChangeMaps (open_string shut_string)
set_option linter.unusedVariables false
open Go.Proofs.YteniflajiklffaaGreatDoor.base Go.Proofs.YteniflajiklffaaGreatDoor.pairs Go.Proofs.YteniflajiklffaaGreatDoor.ords Go.Proofs.YteniflajiklffaaGreatDoor.help Go.Proofs.YteniflajiklffaaGreatDoor.helps Go.Proofs.YteniflajiklffaaGreatDoor.recs Go.Proofs.YteniflajiklffaaGreatDoor.lay Go.Proofs.YteniflajiklffaaGreatDoor.draw

theorem same_pairs (a a2 : Option Addr) (len cap len2 cap2 : Nat) (l : List Pr) (w : World) (h : SlP w a len l) (h2 : SlP w a2 len2 l) :
    Calls Tryz.prog 11 #[.slice a len cap, .slice a2 len2 cap2] w fun e w' => e = .returned (.bool true) ∧ Below w.heap.size w w' := by
  refine (samePairs a a2 len cap len2 cap2 l l w h h2).mono ?_
  rintro e w' ⟨rfl, n, rfl⟩
  exact ⟨by simp, below_drewN (Below.refl _ _) _⟩
set_option maxRecDepth 100000 in
set_option maxHeartbeats 16000000 in
theorem walk (G : List Nat) (A : Nat → Addr) (a0 : Option Addr) (len0 cap0 : Nat) (b0 : List UInt8) (w : World) (w0 : Sl w a0 len0 b0) (hK : sent.KS G A w) (hGm : 4 ∈ G) :
    Calls Tryz.prog 4 #[.slice a0 len0 cap0] w fun e w' => e = .returned (.bool true) ∧ Below w.heap.size w w' := by
  have hm := w0.2.1
  have hb := big_ a0 len0 cap0 w hm
  by_cases hbig : 1048576 < len0
  · rw [decide_eq_true (by omega)] at hb
    have HB := Hid.mk' hb
    clear hb
    go_enter Tryz.func4, Tryz.ntmps4
    go_wp2_with fail
    refine HB.out.mono ?_
    rintro e w1 ⟨rfl, rfl⟩
    go_wp2_with fail
    go_ret
    exact ⟨rfl, Below.refl _ _⟩
  rw [decide_eq_false (by omega)] at hb
  have HB := Hid.mk' (hb.mono (fun e w' (hp : e = .returned (.bool false) ∧ w' = w) => (⟨hp.1, hp.2.symm⟩ : e = .returned (.bool false) ∧ w = w')))
  have HDR := Hid.mk' (drawDecide a0 len0 cap0 b0 w w0 (by omega))
  clear hb
  go_enter Tryz.func4, Tryz.ntmps4
  go_wp2_with fail
  refine HB.out.mono ?_
  rintro e w1 ⟨rfl, rfl⟩
  go_wp2_with fail
  refine HDR.out.mono ?_
  rintro e w2 ⟨la, ln, lc, ma, mn, mc, ha, hn, hc, s, F, tx, y, hD, htw, rfl, hOS, hF, hb2⟩
  clear HB HDR
  have hbd := hD.bd
  obtain ⟨W, hW⟩ : ∃ W, w2.alloc (boxSh s.1 s.2.2.1 la ln lc ma mn mc ha hn hc) = W := ⟨_, rfl⟩
  have hbW : Below w2.heap.size w2 W := by rw [← hW]; exact below_two
  have hbx := inBox_new hOS
  rw [hW] at hbx
  have hBW := hb2.trans (hbW.mono hb2.size)
  have hKW := hK.below hBW
  have HCL := Hid.mk' (fun wx (hx : Below W.heap.size W wx) => (hbx.below hx).cells)
  have HSE := Hid.mk' (fun wx (hx : Below W.heap.size W wx) => (hbx.below hx).own.see)
  obtain ⟨x0, x1, x2, x3, x4⟩ := HCL.out W (Below.refl _ _)
  rw [← hW] at x0 x1 x2 x3 x4
  have HW := Hid.mk' hW
  have HIH : Hid (∀ wx, Below W.heap.size W wx → Calls Tryz.prog 15 #[.agg #[.int .i64 s.1, .slice la ln lc, .int .i64 s.2.2.1, .slice ma mn mc, .slice ha hn hc], .int .i64 tx, .bool y] wx (Ret2 wx (decideR s tx y).1 (.bool (decideR s tx y).2))) := fun wx hx => impl_decide G A la ln lc ma mn mc ha hn hc s tx y wx (HSE.out wx hx) (recs.OwnSh.plainV (hbx.below hx).own).1 hbd htw hbx.own.map.hma (hKW.below hx) hGm
  have HSH : Hid (∀ wx, Below W.heap.size W wx → Calls Tryz.prog 16 #[.agg #[.int .i64 s.1, .slice la ln lc, .int .i64 s.2.2.1, .slice ma mn mc, .slice ha hn hc], .int .i64 tx, .bool y] wx (Ret2 wx (decideR s tx y).1 (.bool (decideR s tx y).2))) := fun wx hx => spec_decide la ln lc ma mn mc ha hn hc s tx y wx (HSE.out wx hx) hbd htw
  have HNO := Hid.mk' (fun (h : (decideR s tx y).2 = false) => decide_no h)
  have HRI := Hid.mk' (fun (h : (decideR s tx y).2 = true) => decide_right hD.snug h)
  have HAG := Hid.mk' (fun (h : (decideR s tx y).2 = true) => decide_again hD.snug h)
  have HTX := Hid.mk' (fun (h : (decideR s tx y).2 = true) => (decide_tx h).1)
  have HEL := Hid.mk' (fun (h : y = false ∨ ∀ r ∈ s.2.2.2.2, r.2.1 ≠ tx) => decide_else (s := s) h)
  have HHE := Hid.mk' (fun (hy : y = true) (h : (decideR s tx y).2 = true) (k : Nat) (hk : k < s.2.2.2.2.length) (hkt : s.2.2.2.2[k].2.1 = tx) (hnd : (s.2.2.2.2.map fun r => r.2.1).Nodup) => (show (decideR s tx y).1.2.2.2.1 = applyAll s.2.2.2.1 s.2.2.2.2[k].2.2 ∧ (decideR s tx y).1.2.2.2.2.length + 1 = s.2.2.2.2.length from by subst hy; exact decide_held h k hk hkt hnd))
  clear hW hOS hF hm
  generalize hQ : (decideR s tx y).2 = c at *
  generalize hRr : (decideR s tx y).1 = R at *
  have HIW := Hid.mk' (HIH.out W (Below.refl _ _))
  go_wp2_with fail
  rw [HW.out]
  refine HIW.out.mono ?_
  rintro e w4 ⟨ia, na, ca, ja, mna, mca, ka, hnaa, hca, FA, rfl, hOA, hFA, hb4⟩
  clear HIW HIH HW x0 x1 x2 x3 x4
  obtain ⟨V, hV⟩ : ∃ V, w4.alloc (boxSh R.1 R.2.2.1 ia na ca ja mna mca ka hnaa hca) = V := ⟨_, rfl⟩
  have hbV : Below w4.heap.size w4 V := by rw [← hV]; exact below_two
  have hax := inBox_new hOA
  rw [hV] at hax
  have hWV := hb4.trans (hbV.mono hb4.size)
  obtain ⟨x0, x1, x2, x3, x4⟩ := HCL.out V hWV
  rw [← hV] at x0 x1 x2 x3 x4
  have HV := Hid.mk' hV
  have HSV := Hid.mk' (HSH.out V hWV)
  clear hV hOA
  go_wp2_with fail
  rw [HV.out]
  refine HSV.out.mono ?_
  rintro e w5 ⟨ib, nb, cb, jb, mnb, mcb, kb, hnb, hcb, FB, rfl, hOB, hFB, hb5⟩
  clear HSV HSH HV x0 x1 x2 x3 x4
  obtain ⟨V5, hV5⟩ : ∃ V5, w5.alloc (boxSh R.1 R.2.2.1 ib nb cb jb mnb mcb kb hnb hcb) = V5 := ⟨_, rfl⟩
  have hbV5 : Below w5.heap.size w5 V5 := by rw [← hV5]; exact below_two
  have hVV5 := hb5.trans (hbV5.mono hb5.size)
  have hW5 := hWV.trans (hVV5.mono hWV.size)
  have HV5 := Hid.mk' hV5
  have HAX := Hid.mk' (fun wx (hx : Below V5.heap.size V5 wx) => (hax.below hVV5).below hx)
  clear hV5 hOB hax
  cases c with
  | false =>
    have hRS := HNO.out rfl
    subst hRS
    have hnn : na = ln := by
      have h1 := (HAX.out V5 (Below.refl _ _)).own.see.log.1
      have h2 := (HSE.out W (Below.refl _ _)).log.1
      exact h1.symm.trans h2
    subst hnn
    have hff : ((na : Int) == (na : Int)) = true := by simp
    obtain ⟨y0, y1, y2, y3, y4⟩ := (HAX.out V5 (Below.refl _ _)).cells
    obtain ⟨x0, x1, x2, x3, x4⟩ := HCL.out V5 hW5
    rw [← HV5.out] at y0 y1 y2 y3 y4 x0 x1 x2 x3 x4
    have hBz := hBW.trans (hW5.mono hBW.size)
    clear HNO HRI HAG HTX HEL HHE hD hbx hKW hK hRr hQ htw
    go_wp2_with fail
    rw [HV5.out]
    go_ret
    exact ⟨rfl, hBz⟩
  | true =>
    cases y with
    | false =>
      have hRx := HRI.out rfl
      have hag := HAG.out rfl
      have hR := HTX.out rfl
      have hbr := right_bd hRx
      have e1 : (decideR R tx false).2 = true := hag.1
      have e2 : (decideR R tx true).2 = false := hag.2.1
      have e3 : outcR R tx = 4 := hag.2.2
      have HIX : Hid (∀ wx, Below V5.heap.size V5 wx → Calls Tryz.prog 15 #[.agg #[.int .i64 R.1, .slice ia na ca, .int .i64 R.2.2.1, .slice ja mna mca, .slice ka hnaa hca], .int .i64 tx, .bool false] wx (Ret2 wx (decideR R tx false).1 (.bool true))) := fun wx hx => by
        have h1 := impl_decide G A ia na ca ja mna mca ka hnaa hca R tx false wx (HAX.out wx hx).own.see (recs.OwnSh.plainV (HAX.out wx hx).own).1 hbr htw (HAX.out wx hx).own.map.hma (hKW.below (hW5.trans (hx.mono hW5.size))) hGm
        rw [e1] at h1
        exact h1
      have HIT : Hid (∀ wx, Below V5.heap.size V5 wx → Calls Tryz.prog 15 #[.agg #[.int .i64 R.1, .slice ia na ca, .int .i64 R.2.2.1, .slice ja mna mca, .slice ka hnaa hca], .int .i64 tx, .bool true] wx (Ret2 wx (decideR R tx true).1 (.bool false))) := fun wx hx => by
        have h1 := impl_decide G A ia na ca ja mna mca ka hnaa hca R tx true wx (HAX.out wx hx).own.see (recs.OwnSh.plainV (HAX.out wx hx).own).1 hbr htw (HAX.out wx hx).own.map.hma (hKW.below (hW5.trans (hx.mono hW5.size))) hGm
        rw [e2] at h1
        exact h1
      have HOX : Hid (∀ wx, Below V5.heap.size V5 wx → Calls Tryz.prog 12 #[.agg #[.int .i64 R.1, .slice ia na ca, .int .i64 R.2.2.1, .slice ja mna mca, .slice ka hnaa hca], .int .i64 tx] wx fun e w' => e = .returned (.int .i64 4) ∧ Below wx.heap.size wx w') := fun wx hx => by
        have h1 := impl_outcome G A ia na ca ja mna mca ka hnaa hca R tx wx (HAX.out wx hx).own.see (recs.OwnSh.plainV (HAX.out wx hx).own).1 hbr (hKW.below (hW5.trans (hx.mono hW5.size)))
        rw [e3] at h1
        exact h1
      obtain ⟨t1, t2, t3⟩ := SeeSh.few (HAX.out V5 (Below.refl _ _)).own.see hbr
      have HKX : Hid (∀ wx, Below V5.heap.size V5 wx → Calls Tryz.prog 13 #[.agg #[.int .i64 R.1, .slice ia na ca, .int .i64 R.2.2.1, .slice ja mna mca, .slice ka hnaa hca]] wx fun e w' => e = .returned (.bool true) ∧ Below wx.heap.size wx w') := fun wx hx => by
        have h1 := impl_shardOk ia na ca ja mna mca ka hnaa hca R wx (HAX.out wx hx).own.see (recs.OwnSh.plainV (HAX.out wx hx).own).1 hbr.few (by omega) (by omega)
        rw [(shardOk_iff R).2 hRx] at h1
        exact h1
      have HND : Hid ((s.2.2.2.2.map fun r => r.2.1).Nodup) := by
        obtain ⟨seen, hm⟩ := hR.made
        exact (stood_replay hm).nd
      have hhl := (SeeSh.lens (HSE.out W (Below.refl _ _))).2.2
      have HNE : Hid (∀ k (hk : k < s.2.2.2.2.length), 1 ≤ s.2.2.2.2[k].2.2.length ∧ s.2.2.2.2[k].2.2.length ≤ 8) := fun k hk => by
        have h1 := hR.held_tx _ (List.getElem_mem hk)
        rcases ((recOk_iff _).1 (hR.recOk _ h1.1)).2 with ⟨_, h3⟩ | ⟨h3, _⟩
        · exact ((opsOk_iff _).1 h3).2
        · have := h1.2; omega
      obtain ⟨u1, u2, u3⟩ := SeeSh.few (HSE.out W (Below.refl _ _)) hbd
      have hma := hbx.own.map.hma
      have HAP : Hid (∀ wx, Below W.heap.size W wx → ∀ (l : List Od) (pa : Option Addr) (pl pc : Nat), 1 ≤ l.length → l.length ≤ 8 → SlO wx pa pl l → Calls Tryz.prog 17 #[.slice ma mn mc, .slice pa pl pc] wx fun e w' => ∃ g' n' cap', e = .returned (.slice (some ⟨g', 0, none⟩) n' cap') ∧ OwnP w' wx.heap.size g' n' cap' (applyAll s.2.2.2.1 l) ∧ Below wx.heap.size wx w') := fun wx hx l pa pl pc hl1 hl8 hS => by
        have h1 := hS.1
        obtain ⟨b2, off2, e2, _⟩ := hS.2.2.2 (by omega)
        subst e2
        have hm2 := (HSE.out wx hx).map
        have hmc := (HSE.out wx hx).mc
        rcases hma with ⟨e1, e2⟩ | ⟨mb, mo, e1⟩
        · have hn0 : mn = 0 := Nat.eq_zero_of_not_pos fun hp => by
            obtain ⟨_, _, e3, _⟩ := hm2.2.2.2 hp
            rw [e1] at e3
            cases e3
          have hm0 : s.2.2.2.1 = [] := List.length_eq_zero_iff.1 (by have := hm2.1; omega)
          rw [e1, e2, hn0, hm0]
          exact impl_apply_nil b2 off2 pl pc _ wx hS (by omega)
        · rw [e1] at hm2 ⊢
          exact impl_apply mb mo mn mc s.2.2.2.1 b2 off2 pl pc _ wx hm2 hS hmc (by omega)
      have hhb := hbd.held
      clear hRx hag e1 e2 e3 hbr hR HRI HAG HTX HNO t1 t2 t3 hRr hQ hbd hD hKW hK htw u1 u2 u3 hma
      have HOXV := Hid.mk' (HOX.out V5 (Below.refl _ _))
      obtain ⟨y0, y1, y2, y3, y4⟩ := (HAX.out V5 (Below.refl _ _)).cells
      rw [← HV5.out] at y0 y1 y2 y3 y4
      go_wp2_with fail
      rw [HV5.out]
      refine HOXV.out.mono ?_
      rintro e w6 ⟨rfl, hb6⟩
      clear HOXV HOX y0 y1 y2 y3 y4 HV5
      obtain ⟨y0, y1, y2, y3, y4⟩ := (HAX.out w6 hb6).cells
      have HITV := Hid.mk' (HIT.out w6 hb6)
      go_wp2_with fail
      refine HITV.out.mono ?_
      rintro e w7 ⟨ic, nc, cc, jc, mnc, mcc, kc, hnc, hcc2, FC, rfl, hOC, hFC, hb7⟩
      clear HITV HIT y0 y1 y2 y3 y4 hOC hFC
      generalize (decideR R tx true).1 = R7 at *
      obtain ⟨V7, hV7⟩ : ∃ V7, w7.alloc (boxSh R7.1 R7.2.2.1 ic nc cc jc mnc mcc kc hnc hcc2) = V7 := ⟨_, rfl⟩
      have hbV7 : Below w7.heap.size w7 V7 := by rw [← hV7]; exact below_two
      have h57 := hb6.trans ((hb7.trans (hbV7.mono hb7.size)).mono hb6.size)
      obtain ⟨y0, y1, y2, y3, y4⟩ := (HAX.out V7 h57).cells
      rw [← hV7] at y0 y1 y2 y3 y4
      have HV7 := Hid.mk' hV7
      have HIXV := Hid.mk' (HIX.out V7 h57)
      clear hV7
      go_wp2_with fail
      rw [HV7.out]
      refine HIXV.out.mono ?_
      rintro e w8 ⟨id, nd, cd, jd, mnd, mcd, kd, hnd8, hcd, FD, rfl, hOD, hFD, hb8⟩
      clear HIXV HIX y0 y1 y2 y3 y4 HV7 hOD hFD
      generalize (decideR R tx false).1 = R8 at *
      obtain ⟨V8, hV8⟩ : ∃ V8, w8.alloc (boxSh R8.1 R8.2.2.1 id nd cd jd mnd mcd kd hnd8 hcd) = V8 := ⟨_, rfl⟩
      have hbV8 : Below w8.heap.size w8 V8 := by rw [← hV8]; exact below_two
      have h58 := h57.trans ((hb8.trans (hbV8.mono hb8.size)).mono h57.size)
      obtain ⟨y0, y1, y2, y3, y4⟩ := (HAX.out V8 h58).cells
      rw [← hV8] at y0 y1 y2 y3 y4
      have HV8 := Hid.mk' hV8
      have HKXV := Hid.mk' (HKX.out V8 h58)
      clear hV8 HKX
      go_wp2_with fail
      rw [HV8.out]
      refine HKXV.out.mono ?_
      rintro e w9 ⟨rfl, hb9⟩
      have h59 := h58.trans (hb9.mono h58.size)
      have hW9 := hW5.trans (h59.mono hW5.size)
      clear HKXV y0 y1 y2 y3 y4 HV8
      go_wp2_with fail
      have HPE := Hid.mk' (HEL.out (.inl (by first | rfl | trivial)))
      clear HEL HHE HND HNE HAP
      go_loopw [15] (fun i wr => ∃ k : Nat, k ≤ hn ∧ i = .int .i64 (k : Int) ∧ wr = w9) (fun i _ => hn - (intOf i).toNat)
      case atStart => exact ⟨0, Nat.zero_le _, rfl, rfl⟩
      case round =>
        obtain ⟨k, hk, rfl, hwr⟩ := hrel
        subst hwr
        obtain ⟨x0, x1, x2, x3, x4⟩ := HCL.out wr hW9
        by_cases hlt : k < hn
        · have hltl : k < s.2.2.2.2.length := by omega
          have hhd := (HSE.out wr hW9).held
          obtain ⟨b, off, e, _⟩ := hhd.2.2.2 (by omega)
          subst e
          have hki : (k : Int) < (hn : Int) := by omega
          have hat := (hhd.at k hltl).2.1
          clear hhd
          generalize s.2.2.2.2[k].2.1 = txk at *
          by_cases htk : txk = tx
          · have htb : (txk == tx) = true := by simp [htk]
            go_wp2_with fail
            go_roundw
            case rel => exact ⟨k + 1, by omega, by go_num, by first | rfl | trivial⟩
            case measure => simp [intOf]; omega
          · have htb : (txk == tx) = false := by simp [htk]
            go_wp2_with fail
            go_roundw
            case rel => exact ⟨k + 1, by omega, by go_num, by first | rfl | trivial⟩
            case measure => simp [intOf]; omega
        · have hnk : ¬ (k : Int) < (hn : Int) := by omega
          obtain ⟨y0, y1, y2, y3, y4⟩ := (HAX.out wr h59).cells
          have HSP := Hid.mk' (same_pairs ja ma mna mca mn mc s.2.2.2.1 wr (by have h1 := (HAX.out wr h59).own.see.map; rw [HPE.out] at h1; exact h1) (HSE.out wr hW9).map)
          have hBz := hBW.trans (hW9.mono hBW.size)
          go_wp2_with fail
          refine HSP.out.mono ?_
          rintro e wz ⟨rfl, hbz⟩
          have hBy := hBz.trans (hbz.mono hBz.size)
          clear HSP x0 x1 x2 x3 x4 y0 y1 y2 y3 y4
          go_wp2_with fail
          go_ret
          exact ⟨rfl, hBy⟩

    | true =>
      have hRx := HRI.out rfl
      have hag := HAG.out rfl
      have hR := HTX.out rfl
      have hbr := right_bd hRx
      have e1 : (decideR R tx true).2 = true := hag.1
      have e2 : (decideR R tx false).2 = false := hag.2.1
      have e3 : outcR R tx = 3 := hag.2.2
      have HIX : Hid (∀ wx, Below V5.heap.size V5 wx → Calls Tryz.prog 15 #[.agg #[.int .i64 R.1, .slice ia na ca, .int .i64 R.2.2.1, .slice ja mna mca, .slice ka hnaa hca], .int .i64 tx, .bool true] wx (Ret2 wx (decideR R tx true).1 (.bool true))) := fun wx hx => by
        have h1 := impl_decide G A ia na ca ja mna mca ka hnaa hca R tx true wx (HAX.out wx hx).own.see (recs.OwnSh.plainV (HAX.out wx hx).own).1 hbr htw (HAX.out wx hx).own.map.hma (hKW.below (hW5.trans (hx.mono hW5.size))) hGm
        rw [e1] at h1
        exact h1
      have HIT : Hid (∀ wx, Below V5.heap.size V5 wx → Calls Tryz.prog 15 #[.agg #[.int .i64 R.1, .slice ia na ca, .int .i64 R.2.2.1, .slice ja mna mca, .slice ka hnaa hca], .int .i64 tx, .bool false] wx (Ret2 wx (decideR R tx false).1 (.bool false))) := fun wx hx => by
        have h1 := impl_decide G A ia na ca ja mna mca ka hnaa hca R tx false wx (HAX.out wx hx).own.see (recs.OwnSh.plainV (HAX.out wx hx).own).1 hbr htw (HAX.out wx hx).own.map.hma (hKW.below (hW5.trans (hx.mono hW5.size))) hGm
        rw [e2] at h1
        exact h1
      have HOX : Hid (∀ wx, Below V5.heap.size V5 wx → Calls Tryz.prog 12 #[.agg #[.int .i64 R.1, .slice ia na ca, .int .i64 R.2.2.1, .slice ja mna mca, .slice ka hnaa hca], .int .i64 tx] wx fun e w' => e = .returned (.int .i64 3) ∧ Below wx.heap.size wx w') := fun wx hx => by
        have h1 := impl_outcome G A ia na ca ja mna mca ka hnaa hca R tx wx (HAX.out wx hx).own.see (recs.OwnSh.plainV (HAX.out wx hx).own).1 hbr (hKW.below (hW5.trans (hx.mono hW5.size)))
        rw [e3] at h1
        exact h1
      obtain ⟨t1, t2, t3⟩ := SeeSh.few (HAX.out V5 (Below.refl _ _)).own.see hbr
      have HKX : Hid (∀ wx, Below V5.heap.size V5 wx → Calls Tryz.prog 13 #[.agg #[.int .i64 R.1, .slice ia na ca, .int .i64 R.2.2.1, .slice ja mna mca, .slice ka hnaa hca]] wx fun e w' => e = .returned (.bool true) ∧ Below wx.heap.size wx w') := fun wx hx => by
        have h1 := impl_shardOk ia na ca ja mna mca ka hnaa hca R wx (HAX.out wx hx).own.see (recs.OwnSh.plainV (HAX.out wx hx).own).1 hbr.few (by omega) (by omega)
        rw [(shardOk_iff R).2 hRx] at h1
        exact h1
      have HND : Hid ((s.2.2.2.2.map fun r => r.2.1).Nodup) := by
        obtain ⟨seen, hm⟩ := hR.made
        exact (stood_replay hm).nd
      have hhl := (SeeSh.lens (HSE.out W (Below.refl _ _))).2.2
      have HNE : Hid (∀ k (hk : k < s.2.2.2.2.length), 1 ≤ s.2.2.2.2[k].2.2.length ∧ s.2.2.2.2[k].2.2.length ≤ 8) := fun k hk => by
        have h1 := hR.held_tx _ (List.getElem_mem hk)
        rcases ((recOk_iff _).1 (hR.recOk _ h1.1)).2 with ⟨_, h3⟩ | ⟨h3, _⟩
        · exact ((opsOk_iff _).1 h3).2
        · have := h1.2; omega
      obtain ⟨u1, u2, u3⟩ := SeeSh.few (HSE.out W (Below.refl _ _)) hbd
      have hma := hbx.own.map.hma
      have HAP : Hid (∀ wx, Below W.heap.size W wx → ∀ (l : List Od) (pa : Option Addr) (pl pc : Nat), 1 ≤ l.length → l.length ≤ 8 → SlO wx pa pl l → Calls Tryz.prog 17 #[.slice ma mn mc, .slice pa pl pc] wx fun e w' => ∃ g' n' cap', e = .returned (.slice (some ⟨g', 0, none⟩) n' cap') ∧ OwnP w' wx.heap.size g' n' cap' (applyAll s.2.2.2.1 l) ∧ Below wx.heap.size wx w') := fun wx hx l pa pl pc hl1 hl8 hS => by
        have h1 := hS.1
        obtain ⟨b2, off2, e2, _⟩ := hS.2.2.2 (by omega)
        subst e2
        have hm2 := (HSE.out wx hx).map
        have hmc := (HSE.out wx hx).mc
        rcases hma with ⟨e1, e2⟩ | ⟨mb, mo, e1⟩
        · have hn0 : mn = 0 := Nat.eq_zero_of_not_pos fun hp => by
            obtain ⟨_, _, e3, _⟩ := hm2.2.2.2 hp
            rw [e1] at e3
            cases e3
          have hm0 : s.2.2.2.1 = [] := List.length_eq_zero_iff.1 (by have := hm2.1; omega)
          rw [e1, e2, hn0, hm0]
          exact impl_apply_nil b2 off2 pl pc _ wx hS (by omega)
        · rw [e1] at hm2 ⊢
          exact impl_apply mb mo mn mc s.2.2.2.1 b2 off2 pl pc _ wx hm2 hS hmc (by omega)
      have hhb := hbd.held
      clear hRx hag e1 e2 e3 hbr hR HRI HAG HTX HNO t1 t2 t3 hRr hQ hbd hD hKW hK htw u1 u2 u3 hma
      have HOXV := Hid.mk' (HOX.out V5 (Below.refl _ _))
      obtain ⟨y0, y1, y2, y3, y4⟩ := (HAX.out V5 (Below.refl _ _)).cells
      rw [← HV5.out] at y0 y1 y2 y3 y4
      go_wp2_with fail
      rw [HV5.out]
      refine HOXV.out.mono ?_
      rintro e w6 ⟨rfl, hb6⟩
      clear HOXV HOX y0 y1 y2 y3 y4 HV5
      obtain ⟨y0, y1, y2, y3, y4⟩ := (HAX.out w6 hb6).cells
      have HITV := Hid.mk' (HIT.out w6 hb6)
      go_wp2_with fail
      refine HITV.out.mono ?_
      rintro e w7 ⟨ic, nc, cc, jc, mnc, mcc, kc, hnc, hcc2, FC, rfl, hOC, hFC, hb7⟩
      clear HITV HIT y0 y1 y2 y3 y4 hOC hFC
      generalize (decideR R tx false).1 = R7 at *
      obtain ⟨V7, hV7⟩ : ∃ V7, w7.alloc (boxSh R7.1 R7.2.2.1 ic nc cc jc mnc mcc kc hnc hcc2) = V7 := ⟨_, rfl⟩
      have hbV7 : Below w7.heap.size w7 V7 := by rw [← hV7]; exact below_two
      have h57 := hb6.trans ((hb7.trans (hbV7.mono hb7.size)).mono hb6.size)
      obtain ⟨y0, y1, y2, y3, y4⟩ := (HAX.out V7 h57).cells
      rw [← hV7] at y0 y1 y2 y3 y4
      have HV7 := Hid.mk' hV7
      have HIXV := Hid.mk' (HIX.out V7 h57)
      clear hV7
      go_wp2_with fail
      rw [HV7.out]
      refine HIXV.out.mono ?_
      rintro e w8 ⟨id, nd, cd, jd, mnd, mcd, kd, hnd8, hcd, FD, rfl, hOD, hFD, hb8⟩
      clear HIXV HIX y0 y1 y2 y3 y4 HV7 hOD hFD
      generalize (decideR R tx true).1 = R8 at *
      obtain ⟨V8, hV8⟩ : ∃ V8, w8.alloc (boxSh R8.1 R8.2.2.1 id nd cd jd mnd mcd kd hnd8 hcd) = V8 := ⟨_, rfl⟩
      have hbV8 : Below w8.heap.size w8 V8 := by rw [← hV8]; exact below_two
      have h58 := h57.trans ((hb8.trans (hbV8.mono hb8.size)).mono h57.size)
      obtain ⟨y0, y1, y2, y3, y4⟩ := (HAX.out V8 h58).cells
      rw [← hV8] at y0 y1 y2 y3 y4
      have HV8 := Hid.mk' hV8
      have HKXV := Hid.mk' (HKX.out V8 h58)
      clear hV8 HKX
      go_wp2_with fail
      rw [HV8.out]
      refine HKXV.out.mono ?_
      rintro e w9 ⟨rfl, hb9⟩
      have h59 := h58.trans (hb9.mono h58.size)
      have hW9 := hW5.trans (h59.mono hW5.size)
      clear HKXV y0 y1 y2 y3 y4 HV8
      go_wp2_with fail
      go_loopw [15] (fun i wr => ∃ k : Nat, k ≤ hn ∧ i = .int .i64 (k : Int) ∧ wr = w9 ∧ ∀ r ∈ s.2.2.2.2.take k, r.2.1 ≠ tx) (fun i _ => hn - (intOf i).toNat)
      case atStart => exact ⟨0, Nat.zero_le _, rfl, rfl, fun r hr => by simp at hr⟩
      case round =>
        obtain ⟨k, hk, rfl, hwr, hall⟩ := hrel
        subst hwr
        have HALL := Hid.mk' hall
        clear hall
        obtain ⟨x0, x1, x2, x3, x4⟩ := HCL.out wr hW9
        by_cases hlt : k < hn
        · have hltl : k < s.2.2.2.2.length := by omega
          have hhd := (HSE.out wr hW9).held
          obtain ⟨b, off, e, _⟩ := hhd.2.2.2 (by omega)
          subst e
          have hki : (k : Int) < (hn : Int) := by omega
          have hat := (hhd.at k hltl).2.1
          obtain ⟨opa, opn, opc, hop, hopS, hopc⟩ := (hhd.at k hltl).2.2
          have HNX : Hid (s.2.2.2.2[k].2.1 ≠ tx → ∀ r ∈ s.2.2.2.2.take (k + 1), r.2.1 ≠ tx) := fun h r hr => by
            rw [List.take_succ_eq_append_getElem hltl, List.mem_append] at hr
            rcases hr with hr | hr
            · exact HALL.out r hr
            · rw [List.mem_singleton.1 hr]; exact h
          have HHK : Hid (s.2.2.2.2[k].2.1 = tx → R.2.2.2.1 = applyAll s.2.2.2.1 s.2.2.2.2[k].2.2 ∧ R.2.2.2.2.length + 1 = s.2.2.2.2.length) := fun h => HHE.out (by first | rfl | trivial) (by first | rfl | trivial) k hltl h HND.out
          have hne := HNE.out k hltl
          have HHH := Hid.mk' (fun wx (hx : Below W.heap.size W wx) => ((HSE.out wx hx).held.at k hltl).2.2)
          clear hhd HNE
          generalize s.2.2.2.2[k] = rk at *
          obtain ⟨kk, txk, opk⟩ := rk
          simp only [] at hat hop hopS HNX HHK hne
          by_cases htk : txk = tx
          · have htb : (txk == tx) = true := by simp [htk]
            have HE2 := Hid.mk' (HHK.out htk)
            clear HNX HHK HALL HEL HHE HND
            subst htk
            have HKP : Hid (∀ wx, Below wr.heap.size wr wx → wx.cell? ⟨w4.heap.size, 3, none⟩ = some (.slice ja mna mca) ∧ wx.cell? ⟨w4.heap.size, 4, none⟩ = some (.slice ka hnaa hca) ∧ wx.cell? ⟨w2.heap.size, 3, none⟩ = some (.slice ma mn mc) ∧ wx.cell? ⟨w2.heap.size, 4, none⟩ = some (.slice (some ⟨b, off, none⟩) hn hc) ∧ wx.cell? ⟨b, off + k * 3 + 2, none⟩ = some (.slice opa opn opc)) := fun wx hx => by
              have h1 := (HAX.out wx (h59.trans (hx.mono h59.size))).cells
              have h2 := HCL.out wx (hW9.trans (hx.mono hW9.size))
              exact ⟨h1.2.2.2.1, h1.2.2.2.2, h2.2.2.2.1, h2.2.2.2.2, (hx.cell (World.block_lt_of_cell? wr _ hop)).trans hop⟩
            have HAPk : Hid (∀ wx, Below wr.heap.size wr wx → Calls Tryz.prog 17 #[.slice ma mn mc, .slice opa opn opc] wx fun e w' => ∃ g' n' cap', e = .returned (.slice (some ⟨g', 0, none⟩) n' cap') ∧ OwnP w' wx.heap.size g' n' cap' (applyAll s.2.2.2.1 opk) ∧ Below wx.heap.size wx w') := fun wx hx => HAP.out wx (hW9.trans (hx.mono hW9.size)) opk opa opn opc hne.1 hne.2 (hopS.below hx)
            have HSPk : Hid (∀ wx, Below wr.heap.size wr wx → ∀ gA nA cA, SlP wx (some ⟨gA, 0, none⟩) nA (applyAll s.2.2.2.1 opk) → Calls Tryz.prog 11 #[.slice ja mna mca, .slice (some ⟨gA, 0, none⟩) nA cA] wx fun e w' => e = .returned (.bool true) ∧ Below wx.heap.size wx w') := fun wx hx gA nA cA hs => same_pairs ja (some ⟨gA, 0, none⟩) mna mca nA cA (applyAll s.2.2.2.1 opk) wx (by have h1 := (HAX.out wx (h59.trans (hx.mono h59.size))).own.see.map; rw [HE2.out.1] at h1; exact h1) hs
            have hln : hnaa + 1 = hn := by
              have h1 := (HAX.out wr h59).own.see.held.1
              have h2 := HE2.out.2
              omega
            have hwr1 : IntKind.i64.wrap ((hn : Int) - 1) = (hn : Int) - 1 := wraps_i64 _ (by omega) (by omega)
            have hlb : ((hnaa : Int) == (hn : Int) - 1) = true := by simp; omega
            obtain ⟨z3, z4, _, _, _⟩ := HKP.out wr (Below.refl _ _)
            have hd : Below wr.heap.size wr wr.drew := (Below.refl _ _).drew
            have hBr := hBW.trans (hW9.mono hBW.size)
            clear HAP HHH HE2 hopS hln HCL HSE HAX
            go_wp2_with fail
            go_region_held3 (fun w' => w'.cell? ⟨w4.heap.size, 3, none⟩ = some (.slice ja mna mca) ∧ w'.cell? ⟨w4.heap.size, 4, none⟩ = some (.slice ka hnaa hca) ∧ w'.cell? ⟨w2.heap.size, 3, none⟩ = some (.slice ma mn mc) ∧ w'.cell? ⟨w2.heap.size, 4, none⟩ = some (.slice (some ⟨b, off, none⟩) hn hc) ∧ w'.cell? ⟨b, off + k * 3 + 2, none⟩ = some (.slice opa opn opc)) (first | (with_reducible exact HKP.out _ hB) | (with_reducible exact HKP.out _ hA) | (with_reducible exact HKP.out _ hd) | fail "keepH") (first | (go_at_call 11; (with_reducible refine (HSPk.out _ hA _ _ _ hOA.sl).mono ?_); rintro e wB ⟨rfl, hbB⟩; have hB := hA.trans (hbB.mono hA.size)) | (go_at_call 17; (with_reducible refine (HAPk.out _ hd).mono ?_); rintro e wA ⟨gA, nA, cA, rfl, hOA, hbA⟩; have hA := hd.trans (hbA.mono hd.size)) | fail "armH")
            all_goals
              have hBy := hBr.trans (hB.mono hBr.size)
              clear x0 x1 x2 x3 x4 hat
              go_wp2_with fail
              go_ret
              first
                | exact ⟨rfl, hBy⟩
                | exact ⟨ret_bool (by rw [hwr1]; exact hlb), hBy⟩
                | exact ⟨ret_bool hlb, hBy⟩
          · have htb : (txk == tx) = false := by simp [htk]
            have HN2 := Hid.mk' (HNX.out htk)
            clear HNX HHK hop hopS HHH HAP hne
            go_wp2_with fail
            go_roundw
            case rel => exact ⟨k + 1, by omega, by go_num, by first | rfl | trivial, HN2.out⟩
            case measure => simp [intOf]; omega
        · have hnk : ¬ (k : Int) < (hn : Int) := by omega
          have HPE := Hid.mk' (HEL.out (.inr (by have := HALL.out; rwa [List.take_of_length_le (by omega)] at this)))
          clear HEL HHE HND HALL HNE HAP
          obtain ⟨y0, y1, y2, y3, y4⟩ := (HAX.out wr h59).cells
          have HSP := Hid.mk' (same_pairs ja ma mna mca mn mc s.2.2.2.1 wr (by have h1 := (HAX.out wr h59).own.see.map; rw [HPE.out] at h1; exact h1) (HSE.out wr hW9).map)
          have hBz := hBW.trans (hW9.mono hBW.size)
          go_wp2_with fail
          refine HSP.out.mono ?_
          rintro e wz ⟨rfl, hbz⟩
          have hBy := hBz.trans (hbz.mono hBz.size)
          clear HSP x0 x1 x2 x3 x4 y0 y1 y2 y3 y4
          go_wp2_with fail
          go_ret
          exact ⟨rfl, hBy⟩


abbrev laidS : List (String × DataW Unit) := [("loop.example/g00244/impl.errForm", Rows.laid_loop_example_g00244_impl_errForm), ("loop.example/g00244/impl.errHeld", Rows.laid_loop_example_g00244_impl_errHeld), ("loop.example/g00244/impl.errDone", Rows.laid_loop_example_g00244_impl_errDone), ("loop.example/g00244/impl.errGone", Rows.laid_loop_example_g00244_impl_errGone), ("loop.example/g00244/impl.errNone", Rows.laid_loop_example_g00244_impl_errNone), ("loop.example/g00244/impl.errRoom", Rows.laid_loop_example_g00244_impl_errRoom)]
abbrev lst : List (String × Nat × List UInt8) := [("loop.example/g00244/impl.errForm", 2, [110, 111, 116, 32, 97, 115, 32, 105, 116, 32, 109, 117, 115, 116, 32, 98, 101]), ("loop.example/g00244/impl.errHeld", 6, [104, 101, 108, 100, 32, 97, 108, 114, 101, 97, 100, 121]), ("loop.example/g00244/impl.errDone", 0, [100, 111, 110, 101, 32, 97, 108, 114, 101, 97, 100, 121]), ("loop.example/g00244/impl.errGone", 1, [103, 111, 110, 101, 32, 97, 108, 114, 101, 97, 100, 121]), ("loop.example/g00244/impl.errNone", 3, [110, 111, 32, 114, 101, 99, 111, 114, 100, 32, 104, 97, 115, 32, 105, 116]), ("loop.example/g00244/impl.errRoom", 4, [110, 111, 32, 114, 111, 111, 109, 32, 102, 111, 114, 32, 105, 116])]
theorem known {W : World} (h : laidMetH Tryz.prog laidS W) : ∃ A, sent.KS (lst.map fun x => x.2.1) A W := by
  rw [MakeChecks.laidMetH_plain _ _ _ (by kernel_rfl)] at h
  refine sent.ks_of_laid lst h (fun x hx => ?_) (by decide) (by decide)
  have hm : ([("loop.example/g00244/impl.errForm", 2, [110, 111, 116, 32, 97, 115, 32, 105, 116, 32, 109, 117, 115, 116, 32, 98, 101]), ("loop.example/g00244/impl.errHeld", 6, [104, 101, 108, 100, 32, 97, 108, 114, 101, 97, 100, 121]), ("loop.example/g00244/impl.errDone", 0, [100, 111, 110, 101, 32, 97, 108, 114, 101, 97, 100, 121]), ("loop.example/g00244/impl.errGone", 1, [103, 111, 110, 101, 32, 97, 108, 114, 101, 97, 100, 121]), ("loop.example/g00244/impl.errNone", 3, [110, 111, 32, 114, 101, 99, 111, 114, 100, 32, 104, 97, 115, 32, 105, 116]), ("loop.example/g00244/impl.errRoom", 4, [110, 111, 32, 114, 111, 111, 109, 32, 102, 111, 114, 32, 105, 116])] : List (String × Nat × List UInt8)).all (fun x => decide (Tryz.prog.globalNamed x.1 = some x.2.1) && decide ((Tryz.prog.globals[x.2.1]?).map (·.type) = some 65)) = true := by kernel_rfl
  have := List.all_eq_true.1 hm x hx
  simp only [Bool.and_eq_true, decide_eq_true_iff] at this
  exact this
theorem own : ownKnob Tryz.prog.godebug = none := by kernel_rfl
theorem laidOut : laidOutB Tryz.prog = true := by kernel_rfl
set_option maxRecDepth 100000 in
theorem lifted (os : Os) (started : os.Started) (H : Type) (enc : TypeId × Value → H) :
    ReturnsInHanded {} Tryz.checked os 4 .any (fun w args => (Rows.fnDecidedSpec.pre enc Tryz.prog Tryz.f4 [] false w args ∧ laidMetH Tryz.prog laidS w) ∧ sizedMet enc Tryz.prog Tryz.f4 (OpenSpec.ofChange Rows.fnDecidedSpec) false w args)
      (Rows.fnDecidedSpec.post enc Tryz.prog Tryz.f4 false true false false) := by
  refine returnsInHanded_of_change_and (C := Tryz.checked) (X := fun w _ => laidMetH Tryz.prog laidS w) (fun _ _ _ hh h => h.of_heap hh) own started (by kernel_rfl) Tryz.func4
    (ChangeSpec.witness_shaped (enc := enc) (C := Tryz.checked) (os := os) (X := fun w _ => laidMetH Tryz.prog laidS w) false (World.laidAll Tryz.prog os laidS) #[.slice none 0 0] 70 (World.laidAll_os _ _ _) (World.shaped_of_ZipB (by kernel_rfl) (by kernel_rfl)) (by kernel_rfl) (by kernel_rfl) (by kernel_rfl)
      (by rw [MakeChecks.laidMetH_plain _ _ _ (by kernel_rfl)]; exact laidMet_laidAll _ (by kernel_rfl) (by kernel_rfl))) ?_
  intro W base args ds gs before hval0 hW _ _ hL _
  have hval : ∀ (j : Nat) t v, Tryz.f4.params[j]? = some t → args[j]? = some v → Value.okWide Tryz.prog W .any base t v := hval0
  have hW' := hW
  obtain ⟨p, q, hA0, hV, rfl, hfz, hnd⟩ := hW
  have hA : DataW.TrodAll enc Tryz.prog W 0 (fun _ => true) true Tryz.f4.params.toList args.toList ds p := hA0
  rw [Tryz.params4] at hA hval
  obtain ⟨v0, vs0, d0, ds0, p0, q0, hargs, rfl, rfl, h0, r0⟩ := trodAll_cons hA
  obtain ⟨rfl, rfl, rfl⟩ := trodAll_nil r0
  obtain rfl : args = #[v0] := by cases args; simp_all
  obtain ⟨gv0, gv1, gv2, gv3, gv4, gv5, rfl⟩ : ∃ gv0 gv1 gv2 gv3 gv4 gv5, gs = [gv0, gv1, gv2, gv3, gv4, gv5] := by
    have hl := sent.vars_len _ _ _ hV
    match gs, hl with
    | [gv0, gv1, gv2, gv3, gv4, gv5], _ => exact ⟨gv0, gv1, gv2, gv3, gv4, gv5, rfl⟩
  obtain ⟨a0, len0, cap0, rfl⟩ := okWide_slice Tryz.underlying22 (hval 0 22 v0 rfl rfl)
  have k0 := h0
  have lt0 : ∀ x ∈ p0, x.block < W.heap.size := by obtain ⟨m, hm⟩ := k0; exact DataW.trod_lt m _ _ _ hm
  obtain ⟨b0, w0⟩ : ∃ bs, Sl W a0 len0 bs := by
    obtain ⟨fuel, hf⟩ := h0
    rcases open_ints Tryz.underlying22 Tryz.underlying5 (by kernel_rfl) hf with ⟨hcs, _⟩ | ⟨x, l, c, zs, hcs, _, hl, hm, hz, _, hcell, hwz⟩
    · simp [Value.cells] at hcs
      obtain ⟨rfl, rfl, rfl⟩ := hcs
      exact ⟨[], sl_nil _ _⟩
    · simp [Value.cells] at hcs
      obtain ⟨rfl, rfl, rfl⟩ := hcs
      exact ⟨_, sl_of_ints hl hm (by simpa using hz) hcell hwz⟩
  clear hA0 hval0
  obtain ⟨A, hKS⟩ := known hL
  refine (walk _ A a0 len0 cap0 b0 W w0 hKS (by decide)).mono fun e W' ⟨he, bel⟩ => ?_
  subst he
  exact ⟨_, rfl, _, _, _, [], _, _, hW', trodAll_mk1 (shut_bool Tryz.underlying4 _), (trodAll_cons_mk (Below.trod laidOut (by kernel_rfl) (of_decide_eq_true (by kernel_rfl)) k0 bel lt0) trodAll_mk0), bel.trodVars laidOut (by kernel_rfl) hV, bel.frame _, fun h => by cases h⟩

theorem over : Rows.fnDecidedRow.holds Tryz.pinned (OpenSpec.ofChange Rows.fnDecidedSpec) :=
  OpenClaim.holds_of_wide 4 Tryz.f4 rfl rfl rfl rfl rfl rfl rfl ⟨rfl, rfl, rfl, rfl, rfl⟩ rfl rfl rfl rfl rfl (by kernel_rfl) Tryz.func4 (by kernel_rfl)
    (of_decide_eq_true (by kernel_rfl)) (by unfold Func.isWrapper; first | (rw [if_pos (by decide +kernel)]; kernel_rfl) | (rw [if_neg (by decide +kernel)]; exact ⟨rfl, rfl⟩))
    (fun os started H enc _ => lifted os started H enc)

theorem proved : Rows.FnDecidedCardSaid :=
  Claim7.holds_tied_plain_at .later [] [.sentinel, .sentinel, .sentinel, .sentinel, .sentinel, .sentinel] true (true, "a9f3674d40d76233e7d890a81897f4caed00ec5ecb9068bc00f18ba4f1df9bde") true
    over (fun _ h => by cases h) (by kernel_rfl) (fun _ h => by cases h) fnDecided_row_tie rfl ⟨rfl, rfl⟩ (by kernel_rfl) rfl
    (fun f fn hf hfn => by
      obtain rfl : f = 4 := Option.some.inj ((show Tryz.prog.funcNamed "loop.example/g00244/laws.FnDecided" = some 4 by kernel_rfl).symm.trans hf) |>.symm
      obtain rfl : fn = Tryz.f4 := (Option.some.inj (Tryz.func4.symm.trans hfn)).symm
      exact ⟨by kernel_rfl, fun j t ht => by
        rw [Tryz.params4] at ht
        have hm : t ∈ [22] := by simpa using Array.mem_of_getElem? ht
        have hall : ([22].all fun u => !Tryz.prog.wantsStandIn u) = true := by kernel_rfl
        exact (show Tryz.prog.wantsStandIn t = false by simpa using List.all_eq_true.1 hall t hm)⟩)
    (by kernel_rfl)
end Go.Proofs.YteniflajiklffaaGreatDoor.fnDecided
