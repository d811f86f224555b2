/- The statement FnCrashedSaid: at every code FnCrashed answers true, and the code reads afterwards as before. No condition besides the row's own. -/
import Derived.Test.YtpnmijalpbllnaaRows
import Derived.Test.YtpnmijalpbllnaaBund9bl
import Derived.Test.YtpnmijalpbllnaaBund9be
import Derived.Test.YtpnmijalpbllnaaBund9bf
import Derived.Test.YtpnmijalpbllnaaBund9ar
import Derived.ProofKit
import Derived.OpenShut
import Derived.ShutString
import Derived.ChangeOld
import Derived.Below
namespace Go.Proofs.Ytpnmijalpbllnaa.fnCrashed
open Go.ChangeShapes Go.WideShapes Go.ChangeAt Go.RowKit
open Go.ChangeMaps (open_string shut_string)
set_option linter.unusedVariables false
open Go.Proofs.Ytpnmijalpbllnaa.base Go.Proofs.Ytpnmijalpbllnaa.pairs Go.Proofs.Ytpnmijalpbllnaa.ords Go.Proofs.Ytpnmijalpbllnaa.help Go.Proofs.Ytpnmijalpbllnaa.helps Go.Proofs.Ytpnmijalpbllnaa.recs Go.Proofs.Ytpnmijalpbllnaa.lay Go.Proofs.Ytpnmijalpbllnaa.draw

theorem sure_of {s : Shd} (h : Right s) : sureR s = (s.1, s.2.1, (s.2.1.length : Int), s.2.2.2.1, s.2.2.2.2) := by unfold sureR; rw [if_pos ((shardOk_iff s).2 h)]
theorem crash_of {s : Shd} (h : Right s) (k : Int) : crashR s k = crashS s k := by unfold crashR; rw [if_pos ((shardOk_iff s).2 h)]
theorem lost_none {s : Shd} (h : Right s) : crashR (sureR s) 0 = (s.1, s.2.1, (s.2.1.length : Int), s.2.2.2.1, s.2.2.2.2) := by
  rw [sure_of h, crash_of (right_sure h)]
  obtain ⟨seen, hm⟩ := h.made
  have e : leftN (s.1, s.2.1, (s.2.1.length : Int), s.2.2.2.1, s.2.2.2.2) 0 = s.2.1.length := by
    unfold leftN
    show ((s.2.1.length : Int) + min (max 0 0) ((s.2.1.length : Int) - (s.2.1.length : Int))).toNat = _
    omega
  unfold crashS
  rw [e]
  simp only [List.take_length]
  rw [hm]
  rfl
theorem same_pairs (a a2 : Option Addr) (len cap len2 cap2 : Nat) (l : List Pr) (w : World) (h : SlP w a len l) (h2 : SlP w a2 len2 l) :
    Calls Try.prog 12 #[.slice a len cap, .slice a2 len2 cap2] w fun e w' => e = .returned (.bool true) ∧ Below w.heap.size w w' := by
  refine (samePairs a a2 len cap len2 cap2 l l w h h2).mono ?_
  rintro e w' ⟨rfl, n, rfl⟩
  exact ⟨by simp, below_drewN (Below.refl _ _) _⟩
theorem field1 (i su : Int) (x : Option Addr) (n c : Nat) (b d : Value) (w : World) : (Instr.field 27 (.agg #[.int .i64 i, .slice x n c, .int .i64 su, b, d]) 1).run Try.prog w = .ok (.slice x n c) w := by kernel_rfl
set_option maxRecDepth 100000 in
set_option maxHeartbeats 8000000 in
theorem walk (a0 : Option Addr) (len0 cap0 : Nat) (b0 : List UInt8) (w : World) (w0 : Sl w a0 len0 b0) :
    Calls Try.prog 3 #[.slice a0 len0 cap0] w fun e w' => e = .returned (.bool true) ∧ Below w.heap.size w w' := by
  have hm := w0.2.1
  have hb := big_ a0 len0 cap0 w hm
  by_cases hbig : 1048576 < len0
  · rw [decide_eq_true (by omega)] at hb
    have HB := Hid.mk' hb
    clear hb
    go_enter Try.func3, Try.ntmps3
    go_wp2_with fail
    refine HB.out.mono ?_
    rintro e w1 ⟨rfl, rfl⟩
    go_wp2_with fail
    go_ret
    exact ⟨rfl, Below.refl _ _⟩
  rw [decide_eq_false (by omega)] at hb
  have HB := Hid.mk' (hb.mono (fun e w' (hp : e = .returned (.bool false) ∧ w' = w) => (⟨hp.1, hp.2.symm⟩ : e = .returned (.bool false) ∧ w = w')))
  have HDR := Hid.mk' (drawCrash a0 len0 cap0 b0 w w0 (by omega))
  clear hb
  go_enter Try.func3, Try.ntmps3
  go_wp2_with fail
  refine HB.out.mono ?_
  rintro e w1 ⟨rfl, rfl⟩
  go_wp2_with fail
  refine HDR.out.mono ?_
  rintro e w2 ⟨la, ln, lc, ma, mn, mc, ha, hn, hc, s, F, kp, hD, hkp, rfl, hOS, hF, hb2⟩
  clear HB HDR
  have hbd := hD.bd
  obtain ⟨W, hW⟩ : ∃ W, w2.alloc (boxSh s.1 s.2.2.1 la ln lc ma mn mc ha hn hc) = W := ⟨_, rfl⟩
  have hbW : Below w2.heap.size w2 W := by rw [← hW]; exact below_two
  have hbx := inBox_new hOS
  rw [hW] at hbx
  have hBW := hb2.trans (hbW.mono hb2.size)
  have HSE := Hid.mk' (fun wx (hx : Below W.heap.size W wx) => (hbx.below hx).own.see)
  have HPL := Hid.mk' (fun wx (hx : Below W.heap.size W wx) => (recs.OwnSh.plainV (hbx.below hx).own).1)
  have HCL := Hid.mk' (fun wx (hx : Below W.heap.size W wx) => (hbx.below hx).cells)
  obtain ⟨u1, u2, u3⟩ := SeeSh.few hbx.own.see hbd
  obtain ⟨x0, x1, x2, x3, x4⟩ := HCL.out W (Below.refl _ _)
  rw [← hW] at x0 x1 x2 x3 x4
  have HW := Hid.mk' hW
  have HC1 : Hid (Calls Try.prog 7 #[.agg #[.int .i64 s.1, .slice la ln lc, .int .i64 s.2.2.1, .slice ma mn mc, .slice ha hn hc], .int .i64 kp] W (RetSh W (crashR s kp))) := impl_crash la ln lc ma mn mc ha hn hc s kp W (HSE.out W (Below.refl _ _)) (HPL.out W (Below.refl _ _)) hbd
  have HMS : Hid (∀ wx, Below W.heap.size W wx → Calls Try.prog 8 #[.agg #[.int .i64 s.1, .slice la ln lc, .int .i64 s.2.2.1, .slice ma mn mc, .slice ha hn hc]] wx (RetSh wx (sureR s))) := fun wx hx => impl_makeSure la ln lc ma mn mc ha hn hc s wx (HSE.out wx hx) (HPL.out wx hx) hbd
  have HSO : Hid (∀ wx, Below W.heap.size W wx → Calls Try.prog 9 #[.agg #[.int .i64 s.1, .slice la ln lc, .int .i64 s.2.2.1, .slice ma mn mc, .slice ha hn hc]] wx fun e w' => e = .returned (.bool (shardOk s)) ∧ Below wx.heap.size wx w') := fun wx hx => spec_shardOk la ln lc ma mn mc ha hn hc s wx (HSE.out wx hx) hbd.few
  have HIO : Hid (∀ wx, Below W.heap.size W wx → Calls Try.prog 10 #[.agg #[.int .i64 s.1, .slice la ln lc, .int .i64 s.2.2.1, .slice ma mn mc, .slice ha hn hc]] wx fun e w' => e = .returned (.bool (shardOk s)) ∧ Below wx.heap.size wx w') := fun wx hx => impl_shardOk la ln lc ma mn mc ha hn hc s wx (HSE.out wx hx) (HPL.out wx hx) hbd.few (by omega) (by omega)
  have HSC : Hid (∀ wx, Below W.heap.size W wx → Calls Try.prog 13 #[.agg #[.int .i64 s.1, .slice la ln lc, .int .i64 s.2.2.1, .slice ma mn mc, .slice ha hn hc], .int .i64 kp] wx (RetSh wx (crashR s kp))) := fun wx hx => spec_crash la ln lc ma mn mc ha hn hc s kp wx (HSE.out wx hx) hbd
  have hln : ln = s.2.1.length := (HSE.out W (Below.refl _ _)).log.1.symm
  have HLN := Hid.mk' hln
  have HB : Hid (Bound (sureR s)) := by
    show Bound _
    unfold sureR
    split
    · exact ⟨hbd.few, hbd.fewH, hbd.log, hbd.map, hbd.held, hbd.cnt⟩
    · exact hbd
  have HBD := Hid.mk' hbd
  clear hW hOS hF hD hm hln hbd hkp
  go_wp2_with fail
  rw [HW.out]
  refine HC1.out.mono ?_
  rintro e w4 ⟨ia, na, ca, ja, mna, mca, ka, hnaa, hca, FA, rfl, hOA, hFA, hb4⟩
  clear HC1 x0 x1 x2 x3 x4 HW
  obtain ⟨V, hV⟩ : ∃ V, w4.alloc (boxSh (crashR s kp).1 (crashR s kp).2.2.1 ia na ca ja mna mca ka hnaa hca) = V := ⟨_, rfl⟩
  have hbV : Below w4.heap.size w4 V := by rw [← hV]; exact below_two
  have hax := inBox_new hOA
  rw [hV] at hax
  have hWV := hb4.trans (hbV.mono hb4.size)
  have HAC := Hid.mk' (fun wx (hx : Below V.heap.size V wx) => (hax.below hx).cells)
  obtain ⟨x0, x1, x2, x3, x4⟩ := HCL.out V hWV
  rw [← hV] at x0 x1 x2 x3 x4
  have HV := Hid.mk' hV
  have HMSV := Hid.mk' (HMS.out V hWV)
  clear hV hOA
  go_wp2_with fail
  rw [HV.out]
  refine HMSV.out.mono ?_
  rintro e w5 ⟨ib, nb, cb, jb, mnb, mcb, kb, hnb, hcb, FB, rfl, hOB, hFB, hb5⟩
  have hWV5 := hWV.trans (hb5.mono hWV.size)
  have HC2 : Hid (Calls Try.prog 7 #[aggSh (sureR s).1 (sureR s).2.2.1 ib nb cb jb mnb mcb kb hnb hcb, .int .i64 0] w5 (RetSh w5 (crashR (sureR s) 0))) := impl_crash ib nb cb jb mnb mcb kb hnb hcb (sureR s) 0 w5 hOB.see (recs.OwnSh.plainV hOB).1 HB.out
  clear HMSV HV x0 x1 x2 x3 x4
  go_wp2_with fail
  refine HC2.out.mono ?_
  rintro e w6 ⟨ic, nc, cc, jc, mnc, mcc, kc, hnc, hcc, FC, rfl, hOC, hFC, hb6⟩
  obtain ⟨V7, hV7⟩ : ∃ V7, w6.alloc (boxSh (crashR (sureR s) 0).1 (crashR (sureR s) 0).2.2.1 ic nc cc jc mnc mcc kc hnc hcc) = V7 := ⟨_, rfl⟩
  have hbV7 : Below w6.heap.size w6 V7 := by rw [← hV7]; exact below_two
  have hcx := inBox_new hOC
  rw [hV7] at hcx
  have hV56 := hb5.trans (hb6.mono hb5.size)
  have hV57 := hV56.trans (hbV7.mono hV56.size)
  have hW7 := hWV.trans (hV57.mono hWV.size)
  have hax7 := hax.below hV57
  have HCC := Hid.mk' (fun wx (hx : Below V7.heap.size V7 wx) => (hcx.below hx).cells)
  obtain ⟨x0, x1, x2, x3, x4⟩ := HCL.out V7 hW7
  rw [← hV7] at x0 x1 x2 x3 x4
  have HV7 := Hid.mk' hV7
  have HSO7 := Hid.mk' (HSO.out V7 hW7)
  clear hV7 hOC hOB HC2
  cases hok : shardOk s with
  | false =>
    rw [hok] at HSO7 HIO
    have HNC : Hid (na = ln) := by
      show _ = _
      have h1 := hax.own.see.log.1
      have h2 : crashR s kp = s := by unfold crashR; rw [hok]; rfl
      rw [h2] at h1
      rw [HLN.out]; exact h1.symm
    clear hok
    go_wp2_with fail
    rw [HV7.out]
    refine HSO7.out.mono ?_
    rintro e w8 ⟨rfl, hb8⟩
    have hW8 := hW7.trans (hb8.mono hW7.size)
    have HIO8 := Hid.mk' (HIO.out w8 hW8)
    clear HSO7 HV7 x0 x1 x2 x3 x4
    obtain ⟨x0, x1, x2, x3, x4⟩ := HCL.out w8 hW8
    go_wp2_with fail
    refine HIO8.out.mono ?_
    rintro e w9 ⟨rfl, hb9⟩
    have hW9 := hW8.trans (hb9.mono hW8.size)
    have hBz := hBW.trans (hW9.mono hBW.size)
    have y1 := ((hax7.below hb8).below hb9).cells.2.1
    have hnn : ((na : Int) == (ln : Int)) = true := by rw [HNC.out]; simp
    clear HIO8 x0 x1 x2 x3 x4
    have x1 := (HCL.out w9 hW9).2.1
    go_wp2_with fail
    go_ret
    exact ⟨rfl, hBz⟩
  | true =>
    have hR := (shardOk_iff s).1 hok
    rw [hok] at HSO7
    have hcrs := crash_of hR kp
    have hRx : Right (crashR s kp) := by rw [hcrs]; exact right_crash hR kp
    have hlost := lost_none hR
    obtain ⟨lf1, lf2⟩ := leftN_le hR kp
    have hsu := hR.sure
    clear hok
    have hna : na = leftN s kp := by
      have h1 := hax.own.see.log.1
      rw [hcrs] at h1
      have h2 : (crashS s kp).2.1.length = leftN s kp := by show (s.2.1.take (leftN s kp)).length = _; rw [List.length_take]; omega
      rw [← h1, h2]
    have hnale : na ≤ ln := by have := HLN.out; omega
    have hsua : s.2.2.1 ≤ (na : Int) := by omega
    have hlcl := (HSE.out W (Below.refl _ _)).lc
    have hnalc : na ≤ lc := by omega
    have hxs : (crashR s kp).2.2.1 = (na : Int) := by rw [hcrs, hna]; rfl
    have hid : (crashR s kp).1 = s.1 := by rw [hcrs]; rfl
    have hxb := right_bd hRx
    obtain ⟨t1, t2, t3⟩ := SeeSh.few hax.own.see hxb
    have HS1 : Hid (∀ v, Below V7.heap.size V7 v → Calls Try.prog 11 #[.slice ia na ca, .slice la na lc] v fun e w' => e = .returned (.bool true) ∧ Below v.heap.size v w') := fun v hv => by
      have hA := (hax7.below hv).own.see.log
      have e1 : (crashR s kp).2.1 = s.2.1.take na := by rw [hcrs, hna]; rfl
      rw [e1] at hA
      refine sameRecsT ia la na ca lc (s.2.1.take na) v hA ?_
      have hL := (HSE.out v (hW7.trans (hv.mono hW7.size))).log
      rcases Nat.eq_zero_or_pos na with e | e
      · rw [e, List.take_zero]; exact slr_nil _ _
      · obtain ⟨b, off, ea, _⟩ := hL.2.2.2 (by omega)
        subst ea
        exact hL.cut na hnale
    have HO1 : Hid (∀ v, Below V7.heap.size V7 v → Calls Try.prog 10 #[.agg #[.int .i64 s.1, .slice ia na ca, .int .i64 (na : Int), .slice ja mna mca, .slice ka hnaa hca]] v fun e w' => e = .returned (.bool true) ∧ Below v.heap.size v w') := fun v hv => by
      have h3 := impl_shardOk ia na ca ja mna mca ka hnaa hca (crashR s kp) v (hax7.below hv).own.see (recs.OwnSh.plainV (hax7.below hv).own).1 hxb.few (by omega) (by omega)
      have h2 : aggSh (crashR s kp).1 (crashR s kp).2.2.1 ia na ca ja mna mca ka hnaa hca = .agg #[.int .i64 s.1, .slice ia na ca, .int .i64 (na : Int), .slice ja mna mca, .slice ka hnaa hca] := by rw [hid, hxs]
      rw [(shardOk_iff _).2 hRx, h2] at h3
      exact h3
    have HCX : Hid (∀ v, Below V7.heap.size V7 v → v.cell? ⟨w4.heap.size, 0, none⟩ = some (.int .i64 s.1) ∧ v.cell? ⟨w4.heap.size, 1, none⟩ = some (.slice ia na ca) ∧ v.cell? ⟨w4.heap.size, 2, none⟩ = some (.int .i64 (na : Int)) ∧ v.cell? ⟨w4.heap.size, 3, none⟩ = some (.slice ja mna mca) ∧ v.cell? ⟨w4.heap.size, 4, none⟩ = some (.slice ka hnaa hca) ∧ v.cell? ⟨w2.heap.size, 1, none⟩ = some (.slice la ln lc) ∧ v.cell? ⟨w2.heap.size, 2, none⟩ = some (.int .i64 s.2.2.1)) := fun v hv => by
      obtain ⟨p0, p1, p2, p3, p4⟩ := (hax7.below hv).cells
      rw [hid] at p0
      rw [hxs] at p2
      obtain ⟨q0, q1, q2, q3, q4⟩ := HCL.out v (hW7.trans (hv.mono hW7.size))
      exact ⟨p0, p1, p2, p3, p4, q1, q2⟩
    have HY : Hid (∀ v, Below V7.heap.size V7 v → OwnSh v ic nc cc jc mnc mcc kc hnc hcc (s.1, s.2.1, (s.2.1.length : Int), s.2.2.2.1, s.2.2.2.2) FC) := fun v hv => by
      have := (hcx.below hv).own
      rwa [hlost] at this
    have HCY : Hid (∀ v, Below V7.heap.size V7 v → v.cell? ⟨w6.heap.size, 1, none⟩ = some (.slice ic nc cc) ∧ v.cell? ⟨w6.heap.size, 2, none⟩ = some (.int .i64 (ln : Int)) ∧ v.cell? ⟨w6.heap.size, 3, none⟩ = some (.slice jc mnc mcc) ∧ v.cell? ⟨w6.heap.size, 4, none⟩ = some (.slice kc hnc hcc)) := fun v hv => by
      obtain ⟨p0, p1, p2, p3, p4⟩ := (hcx.below hv).cells
      rw [hlost] at p2
      exact ⟨p1, by rw [HLN.out]; exact p2, p3, p4⟩
    have hncl : nc = ln := by have := (HY.out V7 (Below.refl _ _)).see.log.1; rw [HLN.out]; exact this.symm
    have HS2 : Hid (∀ v, Below V7.heap.size V7 v → Calls Try.prog 11 #[.slice ic ln cc, .slice la ln lc] v fun e w' => e = .returned (.bool true) ∧ Below v.heap.size v w') := fun v hv => by
      have h1 := (HY.out v hv).see.log
      rw [hncl] at h1
      exact sameRecsT ic la ln cc lc s.2.1 v h1 (HSE.out v (hW7.trans (hv.mono hW7.size))).log
    have hhn : hnc = hn := by
      have h1 := (HY.out V7 (Below.refl _ _)).see.held.1
      have h2 := (HSE.out V7 hW7).held.1
      exact h1.symm.trans h2
    have HS3 : Hid (∀ v, Below V7.heap.size V7 v → Calls Try.prog 11 #[.slice kc hn hcc, .slice ha hn hc] v fun e w' => e = .returned (.bool true) ∧ Below v.heap.size v w') := fun v hv => by
      have h1 := (HY.out v hv).see.held
      rw [hhn] at h1
      exact sameRecsT kc ha hn hcc hc s.2.2.2.2 v h1 (HSE.out v (hW7.trans (hv.mono hW7.size))).held
    have HS4 : Hid (∀ v, Below V7.heap.size V7 v → Calls Try.prog 12 #[.slice jc mnc mcc, .slice ma mn mc] v fun e w' => e = .returned (.bool true) ∧ Below v.heap.size v w') := fun v hv => same_pairs jc ma mnc mcc mn mc s.2.2.2.1 v (HY.out v hv).see.map (HSE.out v (hW7.trans (hv.mono hW7.size))).map
    have hW7' := hW7
    have HAL := Hid.mk' (hax.own.see.log.1)
    subst hncl hhn
    clear hcrs hRx hlost lf1 lf2 hsu hR hna hxs hid hxb t1 t2 t3 hlcl hax hax7 hcx HIO HMS HB HBD u1 u2 u3 HY HAC HCC
    go_wp2_with fail
    rw [HV7.out]
    refine HSO7.out.mono ?_
    rintro e w8 ⟨rfl, hb8⟩
    clear HSO7 HV7 x0 x1 x2 x3 x4
    obtain ⟨y0, y1, y2, y3, y4, x1, x2⟩ := HCX.out w8 hb8
    have hd8 : Below w8.heap.size w8 w8.drew := (Below.refl _ _).drew
    have h8 := hb8.trans (hd8.mono hb8.size)
    have hge : ¬ (na : Int) < s.2.2.1 := by omega
    have hge2 : decide ((na : Int) < s.2.2.1) = false := decide_eq_false hge
    have hle2 : decide (nc < na) = false := decide_eq_false (by omega)
    have hqq : ((na : Int) != (na : Int)) = false := by simp
    go_wp2_with fail
    go_region_held3 (fun w' => w'.cell? ⟨w4.heap.size, 0, none⟩ = some (.int .i64 s.1) ∧ w'.cell? ⟨w4.heap.size, 1, none⟩ = some (.slice ia na ca) ∧ w'.cell? ⟨w4.heap.size, 2, none⟩ = some (.int .i64 (na : Int)) ∧ w'.cell? ⟨w4.heap.size, 3, none⟩ = some (.slice ja mna mca) ∧ w'.cell? ⟨w4.heap.size, 4, none⟩ = some (.slice ka hnaa hca) ∧ w'.cell? ⟨w2.heap.size, 1, none⟩ = some (.slice la nc lc) ∧ w'.cell? ⟨w2.heap.size, 2, none⟩ = some (.int .i64 s.2.2.1)) (first | (with_reducible exact HCX.out _ h11) | (with_reducible exact HCX.out _ h10) | (with_reducible exact HCX.out _ h8) | fail "keep9") (first | (go_at_call 11; (with_reducible refine (HS1.out _ h8).mono ?_); rintro e w10 ⟨rfl, hb10⟩; have h10 := h8.trans (hb10.mono h8.size)) | (go_at_call 10; (with_reducible refine (HO1.out _ h10).mono ?_); rintro e w11 ⟨rfl, hb11⟩; have h11 := h10.trans (hb11.mono h10.size)) | fail "arm9")
    have z := h11
    obtain ⟨p1, p2, p3, p4⟩ := HCY.out w11 h11
    obtain ⟨r0, r1, r2, r3, r4⟩ := HCL.out w11 (hW7'.trans (h11.mono hW7'.size))
    have HS2b := Hid.mk' (HS2.out w11 h11)
    clear y0 y1 y2 y3 y4 x1 x2
    go_wp2_with fail
    refine HS2b.out.mono ?_
    rintro e w12 ⟨rfl, hb12⟩
    have h12 := h11.trans (hb12.mono h11.size)
    clear p1 p2 p3 p4 r0 r1 r2 r3 r4 HS2b
    obtain ⟨p1, p2, p3, p4⟩ := HCY.out w12 h12
    obtain ⟨r0, r1, r2, r3, r4⟩ := HCL.out w12 (hW7'.trans (h12.mono hW7'.size))
    have HS4b := Hid.mk' (HS4.out w12 h12)
    go_wp2_with fail
    refine HS4b.out.mono ?_
    rintro e w13 ⟨rfl, hb13⟩
    have h13 := h12.trans (hb13.mono h12.size)
    clear p1 p2 p3 p4 r0 r1 r2 r3 r4 HS4b
    obtain ⟨p1, p2, p3, p4⟩ := HCY.out w13 h13
    obtain ⟨r0, r1, r2, r3, r4⟩ := HCL.out w13 (hW7'.trans (h13.mono hW7'.size))
    have HS3b := Hid.mk' (HS3.out w13 h13)
    go_wp2_with fail
    refine HS3b.out.mono ?_
    rintro e w14 ⟨rfl, hb14⟩
    have h14 := h13.trans (hb14.mono h13.size)
    clear p1 p2 p3 p4 r0 r1 r2 r3 r4 HS3b
    obtain ⟨p1, p2, p3, p4⟩ := HCY.out w14 h14
    have hW14 := hW7'.trans (h14.mono hW7'.size)
    obtain ⟨r0, r1, r2, r3, r4⟩ := HCL.out w14 hW14
    have HSC14 := Hid.mk' (HSC.out w14 hW14)
    have hee : ((nc : Int) == (nc : Int)) = true := by simp
    go_wp2_with fail
    refine HSC14.out.mono ?_
    rintro e w15 ⟨id, nd, cd, jd, mnd, mcd, kd, hnd, hcd, FD, he15, hOD, hFD, hb15⟩
    have he16 : e = .returned (.agg #[.int .i64 (crashR s kp).1, .slice id nd cd, .int .i64 (crashR s kp).2.2.1, .slice jd mnd mcd, .slice kd hnd hcd]) := he15
    clear he15
    subst he16
    have hW15 := hW14.trans (hb15.mono hW14.size)
    have hBz := hBW.trans (hW15.mono hBW.size)
    have hnd2 : nd = na := by
      have h1 := hOD.see.log.1
      exact h1.symm.trans HAL.out
    subst hnd2
    have hff : ((nd : Int) == (nd : Int)) = true := by simp
    have hfl := field1 (crashR s kp).1 (crashR s kp).2.2.1 id nd cd (.slice jd mnd mcd) (.slice kd hnd hcd) w15
    clear HSC14 p1 p2 p3 p4 r0 r1 r2 r3 r4 hOD
    go_wp2_with fail
    go_ret
    exact ⟨rfl, hBz⟩

theorem own : ownKnob Try.prog.godebug = none := by kernel_rfl
theorem laidOut : laidOutB Try.prog = true := by kernel_rfl

set_option maxRecDepth 100000 in
theorem lifted (os : Os) (started : os.Started) (H : Type) (enc : TypeId × Value → H) :
    ReturnsInHanded {} Try.checked os 3 .any (Rows.fnCrashedSpec.pre6 enc Try.prog Try.f3 Rows.fnCrashedRow.domain false) (Rows.fnCrashedSpec.post enc Try.prog Try.f3 false true false false) := by
  refine returnsInHanded_of_change (C := Try.checked) own started (by kernel_rfl) Try.func3
    (ChangeSpec.witness6 (enc := enc) (C := Try.checked) false ⟨#[], #[.slice none 0 0], []⟩ 8 (by kernel_rfl) (by kernel_rfl) (by kernel_rfl) (by kernel_rfl)) ?_
  intro W base args ds gs before hval0 hW hcnd _
  have hval : ∀ (j : Nat) t v, Try.f3.params[j]? = some t → args[j]? = some v → Value.okWide Try.prog W .any base t v := hval0
  have hW' := hW
  obtain ⟨p, q, hA0, hV, rfl, hfz, hnd⟩ := hW
  have hA : DataW.TrodAll enc Try.prog W 0 (fun _ => true) true Try.f3.params.toList args.toList ds p := hA0
  rw [Try.params3] at hA hval
  obtain ⟨v0, vs0, d0, ds0, p0, q0, hargs, rfl, rfl, h0, r0⟩ := trodAll_cons hA
  obtain ⟨rfl, rfl, rfl⟩ := trodAll_nil r0
  obtain rfl : args = #[v0] := by cases args; simp_all
  obtain ⟨rfl, rfl⟩ := trodVars_none hV
  obtain ⟨a0, len0, cap0, rfl⟩ := okWide_slice Try.underlying22 (hval 0 22 v0 rfl rfl)
  have k0 := h0
  have lt0 : ∀ x ∈ p0, x.block < W.heap.size := by obtain ⟨m, hm⟩ := k0; exact DataW.trod_lt m _ _ _ hm
  obtain ⟨b0, w0⟩ : ∃ bs, Sl W a0 len0 bs := by
    obtain ⟨fuel, hf⟩ := h0
    rcases open_ints Try.underlying22 Try.underlying5 (by kernel_rfl) hf with ⟨hcs, _⟩ | ⟨x, l, c, zs, hcs, _, hl, hm, hz, _, hcell, hwz⟩
    · simp [Value.cells] at hcs
      obtain ⟨rfl, rfl, rfl⟩ := hcs
      exact ⟨[], sl_nil _ _⟩
    · simp [Value.cells] at hcs
      obtain ⟨rfl, rfl, rfl⟩ := hcs
      exact ⟨_, sl_of_ints hl hm (by simpa using hz) hcell hwz⟩
  clear hA0 hval0
  refine (walk a0 len0 cap0 b0 W w0).mono fun e W' ⟨he, bel⟩ => ?_
  subst he
  exact ⟨_, rfl, _, _, _, [], _, [], hW', trodAll_mk1 (shut_bool Try.underlying4 _), (trodAll_cons_mk (Below.trod laidOut (by kernel_rfl) (of_decide_eq_true (by kernel_rfl)) k0 bel lt0) trodAll_mk0), rfl, bel.frame _, fun h => by cases h⟩

theorem over : Rows.fnCrashedRow.holds Try.pinned (OpenSpec.ofChange Rows.fnCrashedSpec) :=
  OpenClaim.holds_of_wide 3 Try.f3 rfl rfl rfl rfl rfl rfl rfl ⟨rfl, rfl, rfl, rfl, rfl⟩ rfl rfl rfl rfl rfl (by kernel_rfl) Try.func3 (by kernel_rfl)
    (of_decide_eq_true (by kernel_rfl)) (by unfold Func.isWrapper; first | (rw [if_pos (by decide +kernel)]; kernel_rfl) | (rw [if_neg (by decide +kernel)]; exact ⟨rfl, rfl⟩))
    (fun os started H enc _ => lifted os started H enc)

theorem proved : Rows.FnCrashedSaid := over
end Go.Proofs.Ytpnmijalpbllnaa.fnCrashed
