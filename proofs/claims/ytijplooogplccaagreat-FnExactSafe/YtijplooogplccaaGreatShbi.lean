/- WoWi ShE ShF ShEx -/
import Derived.Test.YtijplooogplccaaGreatShbc
import Derived.Test.YtijplooogplccaaGreatShbb
import Derived.Test.YtijplooogplccaaGreatShav
import Derived.Test.YtijplooogplccaaGreatShay
import Derived.Test.YtijplooogplccaaGreatShbf
import Derived.Deep.RegionHeld3
set_option linter.unusedVariables false
set_option linter.unusedSimpArgs false
namespace Go.Proofs.YtijplooogplccaaGreat
namespace wos
open Go Go.RowKit base pairs ords lay
theorem eq_opsW (a a2 : Option Addr) (len cap len2 cap2 : Nat) (l l2 : List Od) (w : World) (h : SlO w a len l) (h2 : SlO w a2 len2 l2) :
 Calls Tryz.prog 64 #[.slice a len cap, .slice a2 len2 cap2] w fun e w' => e = .returned (.bool (decide (l = l2))) ∧ Below w.heap.size w w' := by
 refine (recs.eq_ops a a2 len cap len2 cap2 l l2 w h h2).mono ?_
 rintro e w' ⟨rfl, n, rfl⟩
 exact ⟨rfl, below_drewN (Below.refl _ _) n⟩
theorem fieldO1 (t : Int) (a : Option Addr) (n c : Nat) (w : World) : (Instr.field 103 (.agg #[.int .i64 t, .slice a n c]) 1).run Tryz.prog w = .ok (.slice a n c) w := by kernel_rfl
set_option maxRecDepth 100000 in
set_option maxHeartbeats 8000000 in
theorem i_wholeAt (w0 : World) (B m : Nat) (l : List Orr) (n : Int) (la : Option Addr) (ln lc : Nat) (ma : Option Addr) (mn mc : Nat) (ha : Option Addr) (hn hc : Nat) (s : recs.Shd) (w : World) (hM : OrdM w0 w B m (firstO l)) (hb0 : Below w0.heap.size w0 w) (h : SeeSh w la ln lc ma mn mc ha hn hc s) (hnw : (Lit.int .i64 n).wf = true) (hfit : ∀ y ∈ l, y.2.length ≤ 1048576 ∧ ∀ p ∈ y.2, p.2.1.size ≤ 1048576) :
 Calls Tryz.prog 115 #[.map (some B), .agg #[.int .i64 s.1, .slice la ln lc, .int .i64 s.2.2.1, .slice ma mn mc, .slice ha hn hc], .int .i64 n] w fun e w' => e = .returned (.bool (s.2.1.all (wholeA l s.1 n))) ∧ Below w.heap.size w w' := by
 obtain ⟨W, hW⟩ : ∃ W, w.alloc (.cells #[.int .i64 s.1, .slice la ln lc, .int .i64 s.2.2.1, .slice ma mn mc, .slice ha hn hc] 55) = W := ⟨_, rfl⟩
 have hB : Below w.heap.size w W := by rw [← hW]; exact below_make
 have hX : BoxIn w.heap.size 55 [] [.int .i64 s.1, .slice la ln lc, .int .i64 s.2.2.1, .slice ma mn mc, .slice ha hn hc] [] W := by rw [← hW]; exact boxIn_new w _ _
 have hlog := h.log.below hB
 have hidw := h.id
 have hlm := h.log.2.1
 unfold maxLen at hlm
 have HLG := Hid.mk' h.log.1
 have hMW := hM.below hB
 have hb0W := hb0.trans (hB.mono hb0.size)
 have HW := Hid.mk' hW
 have k1 := hX.cell 1 _ rfl
 simp only [List.length_nil, Nat.zero_add] at k1
 rw [← hW] at k1
 clear hW h hM hb0
 go_enter Tryz.func115, Tryz.ntmps115
 go_wp2_with fail
 rw [HW.out]
 clear k1
 go_loopw [12] (fun i wr => ∃ q : Nat, q ≤ ln ∧ i = .int .i64 (q : Int) ∧ Below W.heap.size W wr ∧ ∀ j (hj : j < q) (hl : j < s.2.1.length), wholeA l s.1 n s.2.1[j] = true) (fun i _ => ln - (intOf i).toNat)
 case atStart => exact ⟨0, Nat.zero_le _, rfl, Below.refl _ _, fun j hj => absurd hj (Nat.not_lt_zero _)⟩
 case round =>
  obtain ⟨q, hq, rfl, hb, hyes⟩ := hrel
  have HY2 := Hid.mk' hyes
  have hBw := hB.trans (hb.mono hB.size)
  clear hyes
  by_cases hlt : q < ln
  · have hqi : (q : Int) < (ln : Int) := by omega
    have hql : q < s.2.1.length := by have := HLG.out; omega
    obtain ⟨rb, roff, hra⟩ := slr_some hlog (by omega)
    subst hra
    obtain ⟨c0, c1, pa, pl, pc, c2, hSo, _⟩ := rec_at (hlog.below hb) q hql
    have htw : (Lit.int .i64 s.2.1[q].2.1).wf = true := (hlog.2.2.1 _ (List.getElem_mem hql)).2.1
    have HV : Hid (wholeA l s.1 n s.2.1[q] = (!decide (s.2.1[q].1 = 1) || (match firstO l s.2.1[q].2.1 with | none => false | some o => decide (s.2.1[q].2.2 = opsFor s.1 n o.2)))) := rfl
    have HP : Hid (∀ v, wholeA l s.1 n s.2.1[q] = v → (v = false → s.2.1.all (wholeA l s.1 n) = false) ∧ (v = true → ∀ j (hj : j < q + 1) (hl : j < s.2.1.length), wholeA l s.1 n s.2.1[j] = true)) := fun v hv => ⟨fun e => all_miss hql (hv.trans e), fun e j hj hl => by
     by_cases hjk : j = q
     · subst hjk; exact hv.trans e
     · exact HY2.out j (by omega) hl⟩
    generalize s.2.1[q] = r at *
    obtain ⟨u1, hu1⟩ : ∃ u1, wr.alloc (.cells #[.int .i64 r.1, .int .i64 r.2.1, .slice pa pl pc] 133) = u1 := ⟨_, rfl⟩
    have hbu : Below wr.heap.size wr u1 := by rw [← hu1]; exact below_make
    have hC := boxIn_new wr [.int .i64 r.1, .int .i64 r.2.1, .slice pa pl pc] 133
    rw [hu1] at hC
    obtain ⟨x0, x1, x2⟩ := cells3 hC
    rw [← hu1] at x0 x1 x2
    have HU := Hid.mk' hu1
    have hbw := hb.trans (hbu.mono hb.size)
    have hBu := hB.trans (hbw.mono hB.size)
    clear hu1
    by_cases e1 : r.1 = 1
    · have d1 : (r.1 != 1) = false := by simp [e1]
      have hMu := hMW.below hbw
      have hSu := hSo.below hbu
      have hb0u := hb0W.trans (hbw.mono hb0W.size)
      have HH := Hid.mk' (fun wx (hx : Below u1.heap.size u1 wx) => i_ohas w0 B m (firstO l) r.2.1 wx (hMu.below hx) htw)
      have hd : Below u1.heap.size u1 u1.drew := (Below.refl _ _).drew
      cases hsm : firstO l r.2.1 with
      | none =>
       have HF := Hid.mk' ((HP.out false (by rw [HV.out, hsm]; simp [e1])).1 rfl)
       rw [hsm] at HH
       have hcall0 : ∀ xx : last.On u1.heap.size u1, Calls Tryz.prog 62 #[.map (some B), .int .i64 r.2.1] xx.w fun e w' => e = .returned (.bool false) ∧ ∃ yv : last.On u1.heap.size u1, w' = yv.w := fun xx => last.Calls.on xx (Nat.le_refl _) (HH.out xx.w xx.2)
       have hinh := last.On.inh u1.heap.size u1
       obtain ⟨y0, y1, y2⟩ := cells3 hC
       have o1 := last.On.cell (B := u1.heap.size) y1 (World.block_lt_of_cell? _ _ y1)
       clear HP HV hsm e1 HH y0 y1 y2
       go_wp2_with fail
       rw [HU.out]
       clear x0 x1 x2 c0 c1 c2
       refine last.wp_region_on u1.heap.size (by kernel_rfl) (by kernel_rfl) ?_
       repeat (go_big_quiet_step ((go_at_call 62; exact hcall0 _)))
       refine wpQuiet_nil ?_
       intro wq hwq
       obtain ⟨xq, hwq⟩ := hwq
       subst hwq
       have hbq : Below u1.heap.size u1 xq.w := xq.2
       go_wp2_with fail
       go_ret
       exact ⟨by rw [HF.out]; rfl, hBu.trans (hbq.mono hBu.size)⟩
      | some o =>
       have hmem : o ∈ l := List.mem_of_find?_eq_some (by unfold firstO at hsm; exact hsm)
       have hfo := hfit o hmem
       rw [hsm] at HH
       obtain ⟨oa, om, oc, hpl, hSo0, hmc, hlk⟩ := hMu.look htw
       rw [hsm] at hSo0 hlk
       change SlO w0 oa om o.2 at hSo0
       have HLK : Hid (∀ wx, Below u1.heap.size u1 wx → (Instr.lookup 64 (.map (some B)) (.int .i64 r.2.1) false).run Tryz.prog wx = .ok (.agg #[.int .i64 o.1, .slice oa om oc]) wx) := fun wx hx => hlk wx (hx.block B hMu.lt)
       have HWV : Hid (wholeA l s.1 n r = decide (r.2.2 = opsFor s.1 n o.2)) := by show _ = _; rw [HV.out, hsm]; simp [e1]
       have HOF := Hid.mk' (fun wx (hx : Below u1.heap.size u1 wx) => impl_opsForA oa om oc o.2 s.1 n wx (hSo0.below (hb0u.trans (hx.mono hb0u.size))) (fun p hp => by have := hfo.2 p hp; omega) (by have := hSo0.1; omega) hnw hidw)
       have HSA := Hid.mk' (fun (g k c : Nat) (wy wx : World) (hx : Below u1.heap.size u1 wx) (ho : OwnO wx wy.heap.size g k c (opsFor s.1 n o.2)) => eq_opsW pa (some ⟨g, 0, none⟩) pl pc k c r.2.2 (opsFor s.1 n o.2) wx (hSu.below hx) ho.sl)
       have HALL : Hid (∀ wx, Below u1.heap.size u1 wx → Below u1.heap.size u1 wx ∧ wx.cell? ⟨wr.heap.size, 1, none⟩ = some (.int .i64 r.2.1) ∧ wx.cell? ⟨wr.heap.size, 2, none⟩ = some (.slice pa pl pc) ∧ wx.cell? ⟨w.heap.size, 0, none⟩ = some (.int .i64 s.1) ∧ (Instr.lookup 64 (.map (some B)) (.int .i64 r.2.1) false).run Tryz.prog wx = .ok (.agg #[.int .i64 o.1, .slice oa om oc]) wx) := fun wx hx => by
        obtain ⟨y0, y1, y2⟩ := cells3 (hC.below hx)
        have z0 := (hX.below (hbw.trans (hx.mono hbw.size))).cell 0 _ rfl
        simp only [List.length_nil, Nat.zero_add] at z0
        exact ⟨hx, y1, y2, z0, HLK.out wx hx⟩
       have hf1 := fieldO1
       generalize opsFor s.1 n o.2 = fo at *
       by_cases heq : r.2.2 = fo
       · have HF := Hid.mk' ((HP.out true (by rw [HWV.out]; simp [heq])).2 rfl)
         rw [decide_eq_true heq] at HSA
         clear HP HV HWV hsm e1 heq hlk HLK hfo hmem hSo0 hpl
         go_wp2_with fail
         rw [HU.out]
         clear x0 x1 x2 c0 c1 c2
         go_region_held3 (fun w' => Below u1.heap.size u1 w' ∧ w'.cell? ⟨wr.heap.size, 1, none⟩ = some (.int .i64 r.2.1) ∧ w'.cell? ⟨wr.heap.size, 2, none⟩ = some (.slice pa pl pc) ∧ w'.cell? ⟨w.heap.size, 0, none⟩ = some (.int .i64 s.1) ∧ (Instr.lookup 64 (.map (some B)) (.int .i64 r.2.1) false).run Tryz.prog w' = .ok (.agg #[.int .i64 o.1, .slice oa om oc]) w') (first | (with_reducible exact HALL.out _ hq6) | (with_reducible exact HALL.out _ hq5) | (with_reducible exact HALL.out _ hq4) | (with_reducible exact HALL.out _ hd) | fail "keepI") (first | (go_at_call 64; (with_reducible refine (HSA.out _ _ _ _ _ hq5 hO5).mono ?_); rintro e w6 ⟨rfl, hb6⟩; have hq6 := hq5.trans (hb6.mono hq5.size)) | (go_at_call 147; (with_reducible refine (HOF.out _ hq4).mono ?_); rintro e w5 ⟨g5, n5, cp5, rfl, hO5, hb5⟩; have hq5 := hq4.trans (hb5.mono hq4.size)) | (go_at_call 62; (with_reducible refine (HH.out _ hd).mono ?_); rintro e w4 ⟨rfl, hb4⟩; have hq4 := hd.trans (hb4.mono hd.size)) | fail "armI")
         have hz := hq6
         go_wp2_with fail
         go_roundw
         case rel => exact ⟨q + 1, by omega, by go_num, hbw.trans (hz.mono hbw.size), HF.out⟩
         case measure => simp [intOf]; omega
       · have HF := Hid.mk' ((HP.out false (by rw [HWV.out]; simp [heq])).1 rfl)
         rw [decide_eq_false heq] at HSA
         clear HP HV HWV hsm e1 heq hlk HLK hfo hmem hSo0 hpl
         go_wp2_with fail
         rw [HU.out]
         clear x0 x1 x2 c0 c1 c2
         go_region_held3 (fun w' => Below u1.heap.size u1 w' ∧ w'.cell? ⟨wr.heap.size, 1, none⟩ = some (.int .i64 r.2.1) ∧ w'.cell? ⟨wr.heap.size, 2, none⟩ = some (.slice pa pl pc) ∧ w'.cell? ⟨w.heap.size, 0, none⟩ = some (.int .i64 s.1) ∧ (Instr.lookup 64 (.map (some B)) (.int .i64 r.2.1) false).run Tryz.prog w' = .ok (.agg #[.int .i64 o.1, .slice oa om oc]) w') (first | (with_reducible exact HALL.out _ hq6) | (with_reducible exact HALL.out _ hq5) | (with_reducible exact HALL.out _ hq4) | (with_reducible exact HALL.out _ hd) | fail "keepI") (first | (go_at_call 64; (with_reducible refine (HSA.out _ _ _ _ _ hq5 hO5).mono ?_); rintro e w6 ⟨rfl, hb6⟩; have hq6 := hq5.trans (hb6.mono hq5.size)) | (go_at_call 147; (with_reducible refine (HOF.out _ hq4).mono ?_); rintro e w5 ⟨g5, n5, cp5, rfl, hO5, hb5⟩; have hq5 := hq4.trans (hb5.mono hq4.size)) | (go_at_call 62; (with_reducible refine (HH.out _ hd).mono ?_); rintro e w4 ⟨rfl, hb4⟩; have hq4 := hd.trans (hb4.mono hd.size)) | fail "armI")
         have hz := hq6
         go_wp2_with fail
         go_ret
         exact ⟨by rw [HF.out]; rfl, hBu.trans (hz.mono hBu.size)⟩
    · have d1 : (r.1 != 1) = true := by simp [e1]
      have HF := Hid.mk' ((HP.out true (by rw [HV.out]; simp [e1])).2 rfl)
      clear HP HV e1
      go_wp2_with fail
      rw [HU.out]
      go_roundw
      case rel => exact ⟨q + 1, by omega, by go_num, hbw, HF.out⟩
      case measure => simp [intOf]; omega
  · have hqi : ¬ (q : Int) < (ln : Int) := by omega
    have HF : Hid (s.2.1.all (wholeA l s.1 n) = true) := all_every fun j hj => HY2.out j (by have := HLG.out; omega) hj
    go_wp2_with fail
    go_ret
    exact ⟨by rw [HF.out]; rfl, hBw⟩
set_option maxRecDepth 100000 in
set_option maxHeartbeats 8000000 in
theorem impl_whole (ja : Option Addr) (jn jc : Nat) (la : Option Addr) (ln lc : Nat) (sa : Option Addr) (sn sc : Nat) (na : Option Addr) (nn nc : Nat) (oa : Option Addr) (on oc : Nat) (ba : Option Addr) (bn bc : Nat) (x : Wo) (w : World) (h : SeeWo w ja jn jc la ln lc sa sn sc na nn nc oa on oc ba bn bc x) (hp : PlainO w ba bn) (hsm : SmallB x) :
 Calls Tryz.prog 76 #[.agg #[.int .i64 x.1.1, .int .i64 x.1.2.1, .int .i64 x.1.2.2.1, .slice ja jn jc, .slice la ln lc, .int .i64 x.1.2.2.2.2.2, .slice sa sn sc, .slice na nn nc, .slice oa on oc, .slice ba bn bc]] w fun e w' => e = .returned (.bool (wholeR x)) ∧ Below w.heap.size w w' := by
 obtain ⟨W, hW⟩ : ∃ W, w.alloc (.cells #[.int .i64 x.1.1, .int .i64 x.1.2.1, .int .i64 x.1.2.2.1, .slice ja jn jc, .slice la ln lc, .int .i64 x.1.2.2.2.2.2, .slice sa sn sc, .slice na nn nc, .slice oa on oc, .slice ba bn bc] 41) = W := ⟨_, rfl⟩
 have hB : Below w.heap.size w W := by rw [← hW]; exact below_make
 have hX : BoxIn w.heap.size 41 [] [.int .i64 x.1.1, .int .i64 x.1.2.1, .int .i64 x.1.2.2.1, .slice ja jn jc, .slice la ln lc, .int .i64 x.1.2.2.2.2.2, .slice sa sn sc, .slice na nn nc, .slice oa on oc, .slice ba bn bc] [] W := by rw [← hW]; exact boxIn_new w _ _
 have hS := h.sh.below hB
 have hnw := h.co.n
 have hpW : PlainO W ba bn := fun b off e i hi pa pl pc hc => by
  subst e
  have hbl : b < w.heap.size := by
   obtain ⟨b', off', e', hi'⟩ := h.begun.2.2.2 (by omega)
   simp only [Option.some.injEq, Addr.mk.injEq, and_true] at e'
   obtain ⟨rfl, rfl⟩ := e'
   have hil : i < x.2.2.2.2.length := by have := h.begun.1; omega
   exact World.block_lt_of_cell? _ _ (ord_at h.begun i hil).1
  exact hp b off rfl i hi pa pl pc ((hB.cell (p := ⟨b, off + i * 2 + 1, none⟩) hbl).symm.trans hc)
 have HFO := Hid.mk' (i_firstOrders ba bn bc x.2.2.2.2 W (h.begun.below hB) hpW (by have := h.begun.1; have := hsm.n; omega))
 have hm := h.sh.2.1
 unfold maxLen at hm
 have HSL := Hid.mk' h.sh.1
 have HW := Hid.mk' hW
 obtain ⟨a0, a1, a2, a3, a4, a5, a6, a7, a8, a9⟩ := cells10 hX
 rw [← hW] at a9
 clear hW h a0 a1 a2 a3 a4 a5 a6 a7 a8 hp hpW
 go_enter Tryz.func76, Tryz.ntmps76
 go_wp2_with fail
 rw [HW.out]
 refine HFO.out.mono ?_
 rintro e W1 ⟨B, m, rfl, hM, hb1⟩
 clear HFO HW a9
 obtain ⟨a0, a1, a2, a3, a4, a5, a6, a7, a8, a9⟩ := cells10 (hX.below hb1)
 go_wp2_with fail
 clear a0 a1 a2 a3 a4 a5 a6 a7 a8 a9
 go_loopw [12] (fun i wr => ∃ k : Nat, k ≤ sn ∧ i = .int .i64 (k : Int) ∧ Below W1.heap.size W1 wr ∧ ∀ j (hj : j < k) (hl : j < x.2.1.length), wholeS x x.2.1[j] = true) (fun i _ => sn - (intOf i).toNat)
 case atStart => exact ⟨0, Nat.zero_le _, rfl, Below.refl _ _, fun j hj => absurd hj (Nat.not_lt_zero _)⟩
 case round =>
  obtain ⟨k, hk, rfl, hb, hyes⟩ := hrel
  have HYES := Hid.mk' hyes
  have hbw := hb1.trans (hb.mono hb1.size)
  have hBw := hB.trans (hbw.mono hB.size)
  clear hyes
  by_cases hlt : k < sn
  · have hki : (k : Int) < (sn : Int) := by omega
    have hkl : k < x.2.1.length := by have := HSL.out; omega
    obtain ⟨b, off, hsa⟩ := cos.slg_some hS (by omega)
    subst hsa
    obtain ⟨rla, rln, rlc, rma, rmn, rmc, rha, rhn, rhc, s0, s1, s2, s3, s4, hsee⟩ := shard_at (hS.below hbw) k hkl
    have HP : Hid (∀ v, wholeS x x.2.1[k] = v → (v = false → wholeR x = false) ∧ (v = true → ∀ j (hj : j < k + 1) (hl : j < x.2.1.length), wholeS x x.2.1[j] = true)) := fun v hv => ⟨fun e => all_miss (p := wholeS x) hkl (hv.trans e), fun e j hj hl => by
     by_cases hjk : j = k
     · subst hjk; exact hv.trans e
     · exact HYES.out j (by omega) hl⟩
    generalize x.2.1[k] = s at *
    obtain ⟨u1, hu1⟩ : ∃ u1, wr.alloc (.cells #[.int .i64 s.1, .slice rla rln rlc, .int .i64 s.2.2.1, .slice rma rmn rmc, .slice rha rhn rhc] 55) = u1 := ⟨_, rfl⟩
    have hbu : Below wr.heap.size wr u1 := by rw [← hu1]; exact below_make
    have hC := boxIn_new wr [.int .i64 s.1, .slice rla rln rlc, .int .i64 s.2.2.1, .slice rma rmn rmc, .slice rha rhn rhc] 55
    rw [hu1] at hC
    obtain ⟨y0, y1, y2, y3, y4⟩ := cells5 hC
    have hbv := hbw.trans (hbu.mono hbw.size)
    have hb1u := hb.trans (hbu.mono hb.size)
    have z0 := (hX.below hbv).cell 0 _ rfl
    simp only [List.length_nil, Nat.zero_add] at z0
    rw [← hu1] at y0 y1 y2 y3 y4 z0
    have HCA := Hid.mk' (i_wholeAt W B m x.2.2.2.2 x.1.1 rla rln rlc rma rmn rmc rha rhn rhc s u1 (hM.below hb1u) hbv (hsee.below hbu) hnw hsm.ops)
    have HU := Hid.mk' hu1
    rw [show s.2.1.all (wholeA x.2.2.2.2 s.1 x.1.1) = wholeS x s from rfl] at HCA
    generalize wholeS x s = bv at *
    have hBu := hBw.trans (hbu.mono hBw.size)
    clear hu1 hsee hC
    cases bv
    · have HF := Hid.mk' ((HP.out false rfl).1 rfl)
      clear HP
      go_wp2_with fail
      rw [HU.out]
      refine HCA.out.mono ?_
      rintro e w2 ⟨rfl, hb2⟩
      clear HCA HU y0 y1 y2 y3 y4 z0
      go_wp2_with fail
      go_ret
      exact ⟨by rw [HF.out]; rfl, hBu.trans (hb2.mono hBu.size)⟩
    · have HF := Hid.mk' ((HP.out true rfl).2 rfl)
      clear HP
      go_wp2_with fail
      rw [HU.out]
      refine HCA.out.mono ?_
      rintro e w2 ⟨rfl, hb2⟩
      clear HCA HU y0 y1 y2 y3 y4 z0
      go_wp2_with fail
      go_roundw
      case rel => exact ⟨k + 1, by omega, by go_num, hb1u.trans (hb2.mono hb1u.size), HF.out⟩
      case measure => simp [intOf]; omega
  · have hki : ¬ (k : Int) < (sn : Int) := by omega
    have HF : Hid (wholeR x = true) := all_every (p := wholeS x) fun j hj => HYES.out j (by have := HSL.out; omega) hj
    go_wp2_with fail
    go_ret
    exact ⟨by rw [HF.out]; rfl, hBw⟩
theorem plain_own {w : World} {a : Option Addr} {n c : Nat} {l : List Orr} {F : List Nat} (h : ordsR.own w [.slice a n c] l F) : PlainO w a n := fun b off e i hi pa pl pc hc => by
 subst e
 obtain ⟨v, q, e, _, hO⟩ := h
 simp only [List.cons.injEq, and_true] at e
 subst e
 have hl := hO.len
 have hn : n = l.length := by
  rcases hO.shape with ⟨e, _⟩ | ⟨g, cap, e, _⟩
  · cases e
  · cases e; rfl
 have h0 : off = 0 := by
  rcases hO.shape with ⟨e, _⟩ | ⟨g, cap, e, _⟩
  · cases e
  · cases e; rfl
 subst h0
 have hil : i < l.length := by omega
 have hce := hO.cells i hil
 obtain ⟨v, e, k1, hop⟩ := ord_own.1 (hO.each i hil)
 have h1 := hce 1 v (by rw [e]; rfl)
 rw [show i * ordR.size + 1 = 0 + i * 2 + 1 from by rw [Nat.zero_add]; rfl] at h1
 rw [hc] at h1
 have hv := Option.some.inj h1
 rcases (cos.ops_own.1 hop).1.2.2 with ⟨e2, _⟩ | ⟨g, cap, cur, e2, _⟩
 · rw [e2] at hv; cases hv; exact .inl rfl
 · rw [e2] at hv; cases hv; exact .inr ⟨g, 0, rfl⟩
theorem plain_world (ja : Option Addr) (jn jc : Nat) (la : Option Addr) (ln lc : Nat) (sa : Option Addr) (sn sc : Nat) (na : Option Addr) (nn nc : Nat) (oa : Option Addr) (on oc : Nat) (ba : Option Addr) (bn bc : Nat) {x : Wo} {w : World} {F : List Nat} (h : worldR.own w [.int .i64 x.1.1, .int .i64 x.1.2.1, .int .i64 x.1.2.2.1, .slice ja jn jc, .slice la ln lc, .int .i64 x.1.2.2.2.2.2, .slice sa sn sc, .slice na nn nc, .slice oa on oc, .slice ba bn bc] x F) : PlainO w ba bn := by
 obtain ⟨us, v1, v2, v3, v4, F0, F1, F2, F3, F4, e, _, h0, h1, h2, h3, h4, _⟩ := world_own.1 h
 have hl : us.length = 6 := cos.coordR.ownLen h0
 match us, hl with
 | [u0, u1, u2, u3, u4, u5], _ =>
  simp only [List.cons_append, List.nil_append, List.cons.injEq, and_true] at e
  obtain ⟨_, _, _, _, _, _, _, _, _, rfl⟩ := e
  exact plain_own h4
end wos
namespace recs
open Go Go.RowKit base pairs ords helps help lay
end recs
namespace recs
open Go Go.RowKit base pairs ords helps help lay
section
variable {w w' : World} {X : Nat} {T : TypeId} {pre post : List Value} {la ma ha : Option Addr} {ln lc mn mc hn hc : Nat} {s : Shd} {F : List Nat}
end
end recs
namespace recs
open Go Go.RowKit base pairs ords helps help lay
structure Bound (s : Shd) : Prop where
 few : Few s.2.1
 fewH : Few s.2.2.2.2
 log : s.2.1.length ≤ 1048576
 map : s.2.2.2.1.length ≤ 1048576
 held : s.2.2.2.2.length ≤ 1048576
 cnt : cntS s ≤ 3145728
theorem OwnSh.plain {w : World} {ln lc mn mc hn hc gl : Nat} {ma ha : Option Addr} {s : Shd} {F : List Nat} (h : OwnSh w (some ⟨gl, 0, none⟩) ln lc ma mn mc ha hn hc s F) : PlainR w (some ⟨gl, 0, none⟩) ln := by
 obtain ⟨hl, q1, _⟩ := h.log
 exact q1.plain
theorem OwnSh.plainV {w : World} {la ma ha : Option Addr} {ln lc mn mc hn hc : Nat} {s : Shd} {F : List Nat} (h : OwnSh w la ln lc ma mn mc ha hn hc s F) : PlainR w la ln ∧ PlainR w ha hn := by
 obtain ⟨hl, q1, hh, q3, _⟩ := h.log
 refine ⟨?_, ?_⟩
 · rcases q1.shape with ⟨e, _⟩ | ⟨g, c, e, _⟩
   · cases e; intro b off e; cases e
   · cases e; exact q1.plain
 · rcases q3.shape with ⟨e, _⟩ | ⟨g, c, e, _⟩
   · cases e; intro b off e; cases e
   · cases e; exact q3.plain
theorem SeeSh.few {w : World} {la ma ha : Option Addr} {ln lc mn mc hn hc : Nat} {s : Shd} (h : SeeSh w la ln lc ma mn mc ha hn hc s) (b : Bound s) : ln ≤ 1048576 ∧ mn ≤ 1048576 ∧ hn ≤ 1048576 := by
 obtain ⟨l1, l2, l3⟩ := SeeSh.lens h
 have h1 := b.log
 have h2 := b.map
 have h3 := b.held
 omega
section
variable {w w' : World} {X : Nat} {la ma ha : Option Addr} {ln lc mn mc hn hc : Nat} {s s' : Shd} {F G : List Nat}
end
end recs
end Go.Proofs.YtijplooogplccaaGreat
