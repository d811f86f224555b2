/- WoPt WoBl -/
import Derived.Test.YtijplooogplccaaGreatShbl
import Derived.Test.YtijplooogplccaaGreatShbi
import Derived.Test.YtijplooogplccaaGreatShbb
import Derived.Deep.RegionHeld3
import Derived.Test.YtijplooogplccaaGreatShba
set_option linter.unusedVariables false
set_option linter.unusedSimpArgs false
namespace Go.Proofs.YtijplooogplccaaGreat
namespace wos
open Go Go.RowKit base pairs ords lay
set_option maxRecDepth 100000 in
set_option maxHeartbeats 4000000 in
theorem i_keepsW (ja : Option Addr) (jn jc : Nat) (la : Option Addr) (ln lc : Nat) (sa : Option Addr) (sn sc : Nat) (na : Option Addr) (nn nc : Nat) (oa : Option Addr) (on oc : Nat) (ba : Option Addr) (bn bc : Nat) (X : Nat) (x : Wo) (qa : Option Addr) (ql qc : Nat) (o : Orr) (w : World) (hX : BoxIn X 41 [] [.int .i64 x.1.1, .int .i64 x.1.2.1, .int .i64 x.1.2.2.1, .slice ja jn jc, .slice la ln lc, .int .i64 x.1.2.2.2.2.2, .slice sa sn sc, .slice na nn nc, .slice oa on oc, .slice ba bn bc] [] w) (h : SeeWo w ja jn jc la ln lc sa sn sc na nn nc oa on oc ba bn bc x) (ho : SlO w qa ql o.2) (hql : ql ≤ 1048576) (hks : ∀ p ∈ o.2, p.2.1.size ≤ 1048576) :
 Calls Tryz.prog 116 #[.pointer (some ⟨X, 0, none⟩), .agg #[.int .i64 o.1, .slice qa ql qc]] w fun e w' => e = .returned (.bool (heldO x o)) ∧ Below w.heap.size w w' := by
 obtain ⟨W, hW⟩ : ∃ W, w.alloc (.cells #[.int .i64 o.1, .slice qa ql qc] 103) = W := ⟨_, rfl⟩
 have hB : Below w.heap.size w W := by rw [← hW]; exact below_make
 have hR : BoxIn w.heap.size 103 [] [.int .i64 o.1, .slice qa ql qc] [] W := by rw [← hW]; exact boxIn_new w _ _
 have hXW := hX.below hB
 have hS := h.sh.below hB
 have hnw := h.co.n
 have hm := h.sh.2.1
 unfold maxLen at hm
 have HSL := Hid.mk' h.sh.1
 have hd : Below W.heap.size W W.drew := (Below.refl _ _).drew
 have HSO := Hid.mk' (fun wx (hx : Below W.heap.size W wx) => impl_shardsOfA qa ql qc o.2 x.1.1 wx ((ho.below hB).below hx) (fun p hp => by have := hks p hp; omega) (by omega) hnw)
 have HALL : Hid (∀ wx, Below W.heap.size W wx → Below W.heap.size W wx ∧ wx.cell? ⟨w.heap.size, 1, none⟩ = some (.slice qa ql qc) ∧ wx.cell? ⟨X, 0, none⟩ = some (.int .i64 x.1.1)) := fun wx hx => by
  obtain ⟨b0, b1⟩ := cells2 (hR.below hx)
  obtain ⟨a0, a1, a2, a3, a4, a5, a6, a7, a8, a9⟩ := cells10 (hXW.below hx)
  exact ⟨hx, b1, a0⟩
 have HMEM : Hid (∀ z ∈ shardsOf x.1.1 o.2, ∃ K : Nat, z = (K : Int)) := fun z hz => shards_nat hz
 have HHO : Hid (heldO x o = (shardsOf x.1.1 o.2).all (heldA x o.1)) := rfl
 generalize shardsOf x.1.1 o.2 = zs at *
 have HW := Hid.mk' hW
 clear hW h ho hks hX
 go_enter Tryz.func116, Tryz.ntmps116
 go_wp2_with fail
 rw [HW.out]
 clear HW
 go_region_held3 (fun w' => Below W.heap.size W w' ∧ w'.cell? ⟨w.heap.size, 1, none⟩ = some (.slice qa ql qc) ∧ w'.cell? ⟨X, 0, none⟩ = some (.int .i64 x.1.1)) (first | (with_reducible exact HALL.out _ hq4) | (with_reducible exact HALL.out _ hd) | fail "keepP") (first | (go_at_call 148; (with_reducible refine (HSO.out _ hd).mono ?_); rintro e w4 ⟨g, n, cap, rfl, hZ, hb4⟩; have hq4 := hd.trans (hb4.mono hd.size)) | fail "armP")
 have hb1 := hq4
 have HZL := Hid.mk' hZ.1
 have hnm : n ≤ 9223372036854775807 := by have := hZ.sl.2.1; unfold maxLen at this; omega
 clear HSO HALL hq4 hb4 hd
 go_wp2_with fail
 go_loopw [16] (fun i wr => ∃ k : Nat, k ≤ n ∧ i = .int .i64 (k : Int) ∧ Below w4.heap.size w4 wr ∧ ∀ j (hj : j < k) (hl : j < zs.length), heldA x o.1 zs[j] = true) (fun i _ => n - (intOf i).toNat)
 case atStart => exact ⟨0, Nat.zero_le _, rfl, Below.refl _ _, fun j hj => absurd hj (Nat.not_lt_zero _)⟩
 case round =>
  obtain ⟨k, hk, rfl, hb, hyes⟩ := hrel
  have HYES := Hid.mk' hyes
  have hbw := hb1.trans (hb.mono hb1.size)
  have hBw := hB.trans (hbw.mono hB.size)
  clear hyes
  by_cases hlt : k < n
  · have hki : (k : Int) < (n : Int) := by omega
    have hkl : k < zs.length := by have := HZL.out; omega
    have z0 := (hZ.below hb).at k hkl
    obtain ⟨K, hK⟩ := HMEM.out _ (List.getElem_mem hkl)
    have HP : Hid (∀ v, heldA x o.1 (K : Int) = v → (v = false → heldO x o = false) ∧ (v = true → ∀ j (hj : j < k + 1) (hl : j < zs.length), heldA x o.1 zs[j] = true)) := fun v hv => ⟨fun e => HHO.out.trans (all_miss hkl (by rw [hK]; exact hv.trans e)), fun e j hj hl => by
     by_cases hjk : j = k
     · subst hjk; rw [hK]; exact hv.trans e
     · exact HYES.out j (by omega) hl⟩
    rw [hK] at z0
    clear hK
    obtain ⟨a0, a1, a2, a3, a4, a5, a6, a7, a8, a9⟩ := cells10 (hXW.below hbw)
    obtain ⟨b0, b1⟩ := cells2 (hR.below hbw)
    have p6 := last.On.cell (B := wr.heap.size) a6 (World.block_lt_of_cell? _ _ a6)
    have q0 := last.On.cell (B := wr.heap.size) b0 (World.block_lt_of_cell? _ _ b0)
    have hinh := last.On.inh wr.heap.size wr
    clear a0 a1 a2 a3 a4 a5 a6 a7 a8 a9 b0 b1
    by_cases hKs : K < sn
    · have hKi : ¬ (K : Int) ≥ (sn : Int) := by omega
      have hKd : decide (sn ≤ K) = false := decide_eq_false (by omega)
      have hKj : (K : Int) < (sn : Int) := by omega
      have hKl : K < x.2.1.length := by have := HSL.out; omega
      obtain ⟨b, off, hsa⟩ := cos.slg_some hS (by omega)
      subst hsa
      obtain ⟨rla, rln, rlc, rma, rmn, rmc, rha, rhn, rhc, s0, s1, s2, s3, s4, hsee⟩ := shard_at (hS.below hbw) K hKl
      have HKE := Hid.mk' (heldA_in (tx := o.1) hKl)
      generalize x.2.1[K] = s at *
      have hcall0 : ∀ xx : last.On wr.heap.size wr, Calls Tryz.prog 149 #[.agg #[.int .i64 s.1, .slice rla rln rlc, .int .i64 s.2.2.1, .slice rma rmn rmc, .slice rha rhn rhc], .int .i64 o.1] xx.w fun e w' => e = .returned (.bool (keepS s o.1)) ∧ ∃ yv : last.On wr.heap.size wr, w' = yv.w := fun xx => last.Calls.on xx (Nat.le_refl _) (i_keepsSh rla rln rlc rma rmn rmc rha rhn rhc s o.1 xx.w (hsee.below xx.2))
      have o0 := last.On.cell (B := wr.heap.size) s0 (World.block_lt_of_cell? _ _ s0)
      have o1 := last.On.cell (B := wr.heap.size) s1 (World.block_lt_of_cell? _ _ s1)
      have o2 := last.On.cell (B := wr.heap.size) s2 (World.block_lt_of_cell? _ _ s2)
      have o3 := last.On.cell (B := wr.heap.size) s3 (World.block_lt_of_cell? _ _ s3)
      have o4 := last.On.cell (B := wr.heap.size) s4 (World.block_lt_of_cell? _ _ s4)
      generalize keepS s o.1 = bv at *
      clear s0 s1 s2 s3 s4 hsee hKi
      cases bv
      · have HF := Hid.mk' ((HP.out false HKE.out).1 rfl)
        clear HP HKE
        go_wp2_with fail
        clear z0
        refine last.wp_region_on wr.heap.size (by kernel_rfl) (by kernel_rfl) ?_
        repeat (go_big_quiet_step ((go_at_call 149; exact hcall0 _)))
        refine wpQuiet_nil ?_
        intro wq hwq
        obtain ⟨xq, hwq⟩ := hwq
        subst hwq
        have hbq : Below wr.heap.size wr xq.w := xq.2
        go_wp2_with fail
        go_ret
        exact ⟨by rw [HF.out]; rfl, hBw.trans (hbq.mono hBw.size)⟩
      · have HF := Hid.mk' ((HP.out true HKE.out).2 rfl)
        clear HP HKE
        go_wp2_with fail
        clear z0
        refine last.wp_region_on wr.heap.size (by kernel_rfl) (by kernel_rfl) ?_
        repeat (go_big_quiet_step ((go_at_call 149; exact hcall0 _)))
        refine wpQuiet_nil ?_
        intro wq hwq
        obtain ⟨xq, hwq⟩ := hwq
        subst hwq
        have hbq : Below wr.heap.size wr xq.w := xq.2
        go_wp2_with fail
        go_roundw
        case rel => exact ⟨k + 1, by omega, by go_num, hb.trans (hbq.mono hb.size), HF.out⟩
        case measure => simp [intOf]; omega
    · have hKi : (K : Int) ≥ (sn : Int) := by omega
      have hKd : decide (sn ≤ K) = true := decide_eq_true (by omega)
      have HF := Hid.mk' ((HP.out false (heldA_out (by have := HSL.out; omega))).1 rfl)
      clear HP
      go_wp2_with fail
      clear z0
      refine last.wp_region_on wr.heap.size (by kernel_rfl) (by kernel_rfl) ?_
      repeat (go_big_quiet_step (fail))
      refine wpQuiet_nil ?_
      intro wq hwq
      obtain ⟨xq, hwq⟩ := hwq
      subst hwq
      have hbq : Below wr.heap.size wr xq.w := xq.2
      go_wp2_with fail
      go_ret
      exact ⟨by rw [HF.out]; rfl, hBw.trans (hbq.mono hBw.size)⟩
  · have hki : ¬ (k : Int) < (n : Int) := by omega
    have HF : Hid (heldO x o = true) := HHO.out.trans (all_every fun j hj => HYES.out j (by have := HZL.out; omega) hj)
    go_wp2_with fail
    go_ret
    exact ⟨by rw [HF.out]; rfl, hBw⟩
set_option maxRecDepth 100000 in
set_option maxHeartbeats 8000000 in
theorem impl_promised (ja : Option Addr) (jn jc : Nat) (la : Option Addr) (ln lc : Nat) (sa : Option Addr) (sn sc : Nat) (na : Option Addr) (nn nc : Nat) (oa : Option Addr) (on oc : Nat) (ba : Option Addr) (bn bc : Nat) (x : Wo) (w : World) (h : SeeWo w ja jn jc la ln lc sa sn sc na nn nc oa on oc ba bn bc x) (hp : PlainO w ba bn) (hsm : SmallB x) :
 Calls Tryz.prog 77 #[.agg #[.int .i64 x.1.1, .int .i64 x.1.2.1, .int .i64 x.1.2.2.1, .slice ja jn jc, .slice la ln lc, .int .i64 x.1.2.2.2.2.2, .slice sa sn sc, .slice na nn nc, .slice oa on oc, .slice ba bn bc]] w fun e w' => e = .returned (.bool (promR x)) ∧ Below w.heap.size w w' := by
 obtain ⟨W, hW⟩ : ∃ W, w.alloc (.cells #[.int .i64 x.1.1, .int .i64 x.1.2.1, .int .i64 x.1.2.2.1, .slice ja jn jc, .slice la ln lc, .int .i64 x.1.2.2.2.2.2, .slice sa sn sc, .slice na nn nc, .slice oa on oc, .slice ba bn bc] 41) = W := ⟨_, rfl⟩
 have hB : Below w.heap.size w W := by rw [← hW]; exact below_make
 have hX : BoxIn w.heap.size 41 [] [.int .i64 x.1.1, .int .i64 x.1.2.1, .int .i64 x.1.2.2.1, .slice ja jn jc, .slice la ln lc, .int .i64 x.1.2.2.2.2.2, .slice sa sn sc, .slice na nn nc, .slice oa on oc, .slice ba bn bc] [] W := by rw [← hW]; exact boxIn_new w _ _
 have hL := h.co.log.below hB
 have hpW : PlainO W ba bn := fun b off e i hi pa pl pc hc => by
  subst e
  have hbl : b < w.heap.size := by
   obtain ⟨b', off', e', hi'⟩ := h.begun.2.2.2 (by omega)
   simp only [Option.some.injEq, Addr.mk.injEq, and_true] at e'
   obtain ⟨rfl, rfl⟩ := e'
   have hil : i < x.2.2.2.2.length := by have := h.begun.1; omega
   exact World.block_lt_of_cell? _ _ (ord_at h.begun i hil).1
  exact hp b off rfl i hi pa pl pc ((hB.cell (p := ⟨b, off + i * 2 + 1, none⟩) hbl).symm.trans hc)
 have HFO := Hid.mk' (i_firstOrders ba bn bc x.2.2.2.2 W (h.begun.below hB) hpW (by have := h.begun.1; have := hsm.n; omega))
 have HKW := Hid.mk' (fun qa ql qc o wx (hb : Below W.heap.size W wx) (ho : SlO wx qa ql o.2) (hq : ql ≤ 1048576) (hks : ∀ p ∈ o.2, p.2.1.size ≤ 1048576) => i_keepsW ja jn jc la ln lc sa sn sc na nn nc oa on oc ba bn bc w.heap.size x qa ql qc o wx (hX.below hb) ((h.below hB).below hb) ho hq hks)
 have hm := h.co.log.2.1
 unfold maxLen at hm
 have HLL := Hid.mk' h.co.log.1
 have hlw : Hid (∀ c ∈ x.1.2.2.2.2.1, (Lit.int .i64 c.1).wf = true) := fun c hc => by
  obtain ⟨vs, us, ts, _, h1, _⟩ := h.co.log.2.2.1 c hc
  exact h1.2
 have HW := Hid.mk' hW
 obtain ⟨a0, a1, a2, a3, a4, a5, a6, a7, a8, a9⟩ := cells10 hX
 rw [← hW] at a9
 clear hW h a0 a1 a2 a3 a4 a5 a6 a7 a8 hp hpW
 go_enter Tryz.func77, Tryz.ntmps77
 go_wp2_with fail
 rw [HW.out]
 refine HFO.out.mono ?_
 rintro e W1 ⟨B, m, rfl, hM, hb1⟩
 clear HFO HW a9
 obtain ⟨a0, a1, a2, a3, a4, a5, a6, a7, a8, a9⟩ := cells10 (hX.below hb1)
 go_wp2_with fail
 clear a0 a1 a2 a3 a4 a5 a6 a7 a8 a9
 go_loopw [13] (fun i wr => ∃ k : Nat, k ≤ ln ∧ i = .int .i64 (k : Int) ∧ Below W1.heap.size W1 wr ∧ ∀ j (hj : j < k) (hl : j < x.1.2.2.2.2.1.length), promA x x.1.2.2.2.2.1[j] = true) (fun i _ => ln - (intOf i).toNat)
 case atStart => exact ⟨0, Nat.zero_le _, rfl, Below.refl _ _, fun j hj => absurd hj (Nat.not_lt_zero _)⟩
 case round =>
  obtain ⟨k, hk, rfl, hb, hyes⟩ := hrel
  have HYES := Hid.mk' hyes
  have hbw := hb1.trans (hb.mono hb1.size)
  have hBw := hB.trans (hbw.mono hB.size)
  clear hyes
  by_cases hlt : k < ln
  · have hki : (k : Int) < (ln : Int) := by omega
    have hkl : k < x.1.2.2.2.2.1.length := by have := HLL.out; omega
    obtain ⟨b, off, hla⟩ := cos.slg_some hL (by omega)
    subst hla
    obtain ⟨c0, c1⟩ := cos.ch_at (hL.below hbw) k hkl
    have htw := hlw.out _ (List.getElem_mem hkl)
    have HV : Hid (promA x x.1.2.2.2.2.1[k] = (!x.1.2.2.2.2.1[k].2 || (match firstO x.2.2.2.2 x.1.2.2.2.2.1[k].1 with | none => false | some o => heldO x o))) := rfl
    have HP : Hid (∀ v, promA x x.1.2.2.2.2.1[k] = v → (v = false → promR x = false) ∧ (v = true → ∀ j (hj : j < k + 1) (hl : j < x.1.2.2.2.2.1.length), promA x x.1.2.2.2.2.1[j] = true)) := fun v hv => ⟨fun e => all_miss hkl (hv.trans e), fun e j hj hl => by
     by_cases hjk : j = k
     · subst hjk; exact hv.trans e
     · exact HYES.out j (by omega) hl⟩
    generalize x.1.2.2.2.2.1[k] = ch at *
    obtain ⟨t, y⟩ := ch
    simp only [] at c0 c1 HV htw
    obtain ⟨u1, hu1⟩ : ∃ u1, wr.alloc (.cells #[.int .i64 t, .bool y] 94) = u1 := ⟨_, rfl⟩
    have hbu : Below wr.heap.size wr u1 := by rw [← hu1]; exact below_make
    have hC := boxIn_new wr [.int .i64 t, .bool y] 94
    rw [hu1] at hC
    obtain ⟨x0, x1⟩ := cells2 hC
    rw [← hu1] at x0 x1
    have HU := Hid.mk' hu1
    have hbv := hbw.trans (hbu.mono hbw.size)
    have hb1u := hb.trans (hbu.mono hb.size)
    have hBu := hBw.trans (hbu.mono hBw.size)
    clear hu1
    cases y
    · have HF := Hid.mk' ((HP.out true (by rw [HV.out]; rfl)).2 rfl)
      clear HP HV
      go_wp2_with fail
      rw [HU.out]
      go_roundw
      case rel => exact ⟨k + 1, by omega, by go_num, hb1u, HF.out⟩
      case measure => simp [intOf]; omega
    · have hMu := hM.below hb1u
      have HH := Hid.mk' (i_ohas W B m (firstO x.2.2.2.2) t u1 hMu htw)
      cases hfm : firstO x.2.2.2.2 t with
      | none =>
       have HF := Hid.mk' ((HP.out false (by rw [HV.out, hfm]; rfl)).1 rfl)
       rw [hfm] at HH
       clear HP HV hfm
       go_wp2_with fail
       rw [HU.out]
       refine HH.out.mono ?_
       rintro e w2 ⟨rfl, hb2⟩
       clear x0 x1 c0 c1 HU HH
       go_wp2_with fail
       go_ret
       exact ⟨by rw [HF.out]; rfl, hBu.trans (hb2.mono hBu.size)⟩
      | some o =>
       have hmem : o ∈ x.2.2.2.2 := List.mem_of_find?_eq_some (by unfold firstO at hfm; exact hfm)
       have hfo := hsm.ops o hmem
       have HWV : Hid (promA x (t, true) = heldO x o) := by show _ = _; rw [HV.out, hfm]; rfl
       rw [hfm] at HH
       obtain ⟨qa, ql, qc, hpl, hSo0, hmc, hlk⟩ := hMu.look htw
       rw [hfm] at hSo0 hlk
       change SlO W qa ql o.2 at hSo0
       change ∀ w2 : World, w2.heap[B]? = u1.heap[B]? → (Instr.lookup 64 (.map (some B)) (.int .i64 t) false).run Tryz.prog w2 = .ok (.agg #[.int .i64 o.1, .slice qa ql qc]) w2 at hlk
       have HLK : Hid (∀ wx, Below u1.heap.size u1 wx → (Instr.lookup 64 (.map (some B)) (.int .i64 t) false).run Tryz.prog wx = .ok (.agg #[.int .i64 o.1, .slice qa ql qc]) wx) := fun wx hx => hlk wx (hx.block B hMu.lt)
       have hqm : ql ≤ 1048576 := by have := hSo0.1; have := hfo.1; omega
       have HCA := Hid.mk' (fun wx (hx : Below u1.heap.size u1 wx) => HKW.out qa ql qc o wx (hbv.trans (hx.mono hbv.size)) (hSo0.below (hbv.trans (hx.mono hbv.size))) hqm hfo.2)
       generalize heldO x o = bv at *
       clear hfm HV hlk hSo0 hpl hmem hfo hMu
       cases bv
       · have HF := Hid.mk' ((HP.out false HWV.out).1 rfl)
         clear HP HWV
         go_wp2_with fail
         rw [HU.out]
         refine HH.out.mono ?_
         rintro e w2 ⟨rfl, hb2⟩
         clear x0 x1 c0 c1 HU HH
         obtain ⟨x0, x1⟩ := cells2 (hC.below hb2)
         have hl2 := HLK.out w2 hb2
         go_wp2_with fail
         refine (HCA.out _ hb2).mono ?_
         rintro e w3 ⟨rfl, hb3⟩
         clear x0 x1 hl2
         go_wp2_with fail
         go_ret
         have hq := hBu.trans (hb2.mono hBu.size)
         exact ⟨by rw [HF.out]; rfl, hq.trans (hb3.mono hq.size)⟩
       · have HF := Hid.mk' ((HP.out true HWV.out).2 rfl)
         clear HP HWV
         go_wp2_with fail
         rw [HU.out]
         refine HH.out.mono ?_
         rintro e w2 ⟨rfl, hb2⟩
         clear x0 x1 c0 c1 HU HH
         obtain ⟨x0, x1⟩ := cells2 (hC.below hb2)
         have hl2 := HLK.out w2 hb2
         go_wp2_with fail
         refine (HCA.out _ hb2).mono ?_
         rintro e w3 ⟨rfl, hb3⟩
         clear x0 x1 hl2
         have hq := hb1u.trans (hb2.mono hb1u.size)
         go_wp2_with fail
         go_roundw
         case rel => exact ⟨k + 1, by omega, by go_num, hq.trans (hb3.mono hq.size), HF.out⟩
         case measure => simp [intOf]; omega
  · have hki : ¬ (k : Int) < (ln : Int) := by omega
    have HF : Hid (promR x = true) := all_every (p := promA x) fun j hj => HYES.out j (by have := HLL.out; omega) hj
    go_wp2_with fail
    go_ret
    exact ⟨by rw [HF.out]; rfl, hBw⟩
end wos
namespace wos
open Go Go.RowKit base pairs ords lay
def isYes (tx : Int) (c : cos.Ch) : Bool := decide (c.1 = tx) && c.2
def yesS (c : cos.Co) (tx : Int) : Bool := (c.2.2.2.2.1.take (sureN c.2.2.2.2.2 c.2.2.2.2.1.length)).any (isYes tx)
def backA (l : List cos.Ch) (r : recs.Rc) : Bool := !decide (r.1 = 2) || l.any (isYes r.2.1)
def backL (c : cos.Co) (l : List recs.Rc) : Bool := l.all (backA (c.2.2.2.2.1.take (sureN c.2.2.2.2.2 c.2.2.2.2.1.length)))
def backR (x : Wo) : Bool := x.2.1.all fun s => backL x.1 s.2.1
theorem slg_take {α : Type} {R : Rd α} {w : World} {a : Option Addr} {n N : Nat} {l : List α} (h : SlG R w a n l) (hN : N ≤ n) : SlG R w a N (l.take N) := by
 obtain ⟨h1, h2, h3, h4⟩ := h
 refine ⟨by simp; omega, by omega, fun x hx => h3 x (List.mem_of_mem_take hx), fun h0 => ?_⟩
 obtain ⟨b, off, e, hi⟩ := h4 (by omega)
 refine ⟨b, off, e, fun i hl => ?_⟩
 obtain ⟨vs, hv, hc⟩ := hi i (by simp at hl; omega)
 rw [List.getElem_take]
 exact ⟨vs, hv, hc⟩
set_option maxRecDepth 100000 in
set_option maxHeartbeats 2000000 in
theorem spec_l13Yes (ja : Option Addr) (jn jc : Nat) (la : Option Addr) (ln lc : Nat) (c : cos.Co) (tx : Int) (w : World) (h : cos.SeeCo w ja jn jc la ln lc c) :
 Calls Tryz.prog 71 #[.agg #[.int .i64 c.1, .int .i64 c.2.1, .int .i64 c.2.2.1, .slice ja jn jc, .slice la ln lc, .int .i64 c.2.2.2.2.2], .int .i64 tx] w fun e w' => e = .returned (.bool (yesS c tx)) ∧ Below w.heap.size w w' := by
 obtain ⟨W, hW⟩ : ∃ W, w.alloc (.cells #[.int .i64 c.1, .int .i64 c.2.1, .int .i64 c.2.2.1, .slice ja jn jc, .slice la ln lc, .int .i64 c.2.2.2.2.2] 36) = W := ⟨_, rfl⟩
 have hB : Below w.heap.size w W := by rw [← hW]; exact below_make
 have hX : BoxIn w.heap.size 36 [] [.int .i64 c.1, .int .i64 c.2.1, .int .i64 c.2.2.1, .slice ja jn jc, .slice la ln lc, .int .i64 c.2.2.2.2.2] [] W := by rw [← hW]; exact boxIn_new w _ _
 have hL := h.log.below hB
 have hll := h.log.1
 have hm := h.log.2.1
 unfold maxLen at hm
 have HW := Hid.mk' hW
 have HY : Hid (yesS c tx = (c.2.2.2.2.1.take (sureN c.2.2.2.2.2 ln)).any (isYes tx)) := by show _ = _; unfold yesS; rw [hll]
 have HLL := Hid.mk' hll
 clear hW h hll
 go_enter Tryz.func71, Tryz.ntmps71
 go_wp2_with fail
 rw [HW.out]
 go_loopw [5] (fun i wr => ∃ k : Nat, k ≤ sureN c.2.2.2.2.2 ln ∧ i = .int .i64 (k : Int) ∧ Below W.heap.size W wr ∧ ∀ j (hj : j < k) (hl : j < c.2.2.2.2.1.length), isYes tx c.2.2.2.2.1[j] = false) (fun i _ => ln - (intOf i).toNat)
 case atStart => exact ⟨0, Nat.zero_le _, rfl, Below.refl _ _, fun j hj => absurd hj (Nat.not_lt_zero _)⟩
 case round =>
  obtain ⟨k, hk, rfl, hb, hno⟩ := hrel
  have HNO := Hid.mk' hno
  have hBw := hB.trans (hb.mono hB.size)
  obtain ⟨a0, a1, a2, a3, a4, a5⟩ := cells6 (hX.below hb)
  have hle := sureN_le c.2.2.2.2.2 ln
  clear hno
  by_cases hlt : k < sureN c.2.2.2.2.2 ln
  · obtain ⟨h1, h2⟩ := sureN_lt.1 hlt
    have h1i : (k : Int) < (ln : Int) := by omega
    have hkl : k < c.2.2.2.2.1.length := by have := HLL.out; omega
    obtain ⟨b, off, hla⟩ := cos.slg_some hL (by omega)
    subst hla
    obtain ⟨c0, c1⟩ := cos.ch_at (hL.below hb) k hkl
    have HP : Hid (∀ v, isYes tx c.2.2.2.2.1[k] = v → (v = true → (c.2.2.2.2.1.take (sureN c.2.2.2.2.2 ln)).any (isYes tx) = true) ∧ (v = false → ∀ j (hj : j < k + 1) (hl : j < c.2.2.2.2.1.length), isYes tx c.2.2.2.2.1[j] = false)) := fun v hv => ⟨fun e => any_hit hkl hlt (hv.trans e), fun e j hj hl => by
     by_cases hjk : j = k
     · subst hjk; exact hv.trans e
     · exact HNO.out j (by omega) hl⟩
    have HV : Hid (isYes tx c.2.2.2.2.1[k] = (decide (c.2.2.2.2.1[k].1 = tx) && c.2.2.2.2.1[k].2)) := rfl
    generalize c.2.2.2.2.1[k] = ch at *
    obtain ⟨t, y⟩ := ch
    simp only [] at c0 c1 HV
    clear a0 a1 a2 a3
    by_cases e1 : t = tx
    · have d1 : (t == tx) = true := beq_iff_eq.2 e1
      cases y
      · have HF := Hid.mk' ((HP.out false (by rw [HV.out]; simp)).2 rfl)
        clear HP HV e1
        go_wp2_with fail
        go_roundw
        case rel => exact ⟨k + 1, by omega, by go_num, hb, HF.out⟩
        case measure => simp [intOf]; omega
      · have HT := Hid.mk' ((HP.out true (by rw [HV.out]; simp [e1])).1 rfl)
        clear HP HV e1
        go_wp2_with fail
        go_ret
        exact ⟨by rw [HY.out, HT.out]; rfl, hBw⟩
    · have d1 : (t == tx) = false := beq_eq_false_iff_ne.2 e1
      have HF := Hid.mk' ((HP.out false (by rw [HV.out]; simp [e1])).2 rfl)
      clear HP HV e1
      go_wp2_with fail
      go_roundw
      case rel => exact ⟨k + 1, by omega, by go_num, hb, HF.out⟩
      case measure => simp [intOf]; omega
  · have HT : Hid ((c.2.2.2.2.1.take (sureN c.2.2.2.2.2 ln)).any (isYes tx) = false) := any_none fun j hj hl => HNO.out j (by omega) hl
    have hor : ¬ (k < ln ∧ (k : Int) < c.2.2.2.2.2) := fun e => hlt (sureN_lt.2 e)
    clear hlt
    by_cases h1 : k < ln
    · have h1i : (k : Int) < (ln : Int) := by omega
      have h2 : ¬ (k : Int) < c.2.2.2.2.2 := fun e => hor ⟨h1, e⟩
      clear hor
      go_wp2_with fail
      go_ret
      exact ⟨by rw [HY.out, HT.out]; rfl, hBw⟩
    · have h1i : ¬ (k : Int) < (ln : Int) := by omega
      clear hor
      go_wp2_with fail
      go_ret
      exact ⟨by rw [HY.out, HT.out]; rfl, hBw⟩
set_option maxRecDepth 100000 in
set_option maxHeartbeats 4000000 in
theorem spec_backed (ja : Option Addr) (jn jc : Nat) (la : Option Addr) (ln lc : Nat) (sa : Option Addr) (sn sc : Nat) (na : Option Addr) (nn nc : Nat) (oa : Option Addr) (on oc : Nat) (ba : Option Addr) (bn bc : Nat) (x : Wo) (w : World) (h : SeeWo w ja jn jc la ln lc sa sn sc na nn nc oa on oc ba bn bc x) :
 Calls Tryz.prog 34 #[.agg #[.int .i64 x.1.1, .int .i64 x.1.2.1, .int .i64 x.1.2.2.1, .slice ja jn jc, .slice la ln lc, .int .i64 x.1.2.2.2.2.2, .slice sa sn sc, .slice na nn nc, .slice oa on oc, .slice ba bn bc]] w fun e w' => e = .returned (.bool (backR x)) ∧ Below w.heap.size w w' := by
 obtain ⟨W, hW⟩ : ∃ W, w.alloc (.cells #[.int .i64 x.1.1, .int .i64 x.1.2.1, .int .i64 x.1.2.2.1, .slice ja jn jc, .slice la ln lc, .int .i64 x.1.2.2.2.2.2, .slice sa sn sc, .slice na nn nc, .slice oa on oc, .slice ba bn bc] 41) = W := ⟨_, rfl⟩
 have hB : Below w.heap.size w W := by rw [← hW]; exact below_make
 have hX : BoxIn w.heap.size 41 [] [.int .i64 x.1.1, .int .i64 x.1.2.1, .int .i64 x.1.2.2.1, .slice ja jn jc, .slice la ln lc, .int .i64 x.1.2.2.2.2.2, .slice sa sn sc, .slice na nn nc, .slice oa on oc, .slice ba bn bc] [] W := by rw [← hW]; exact boxIn_new w _ _
 have hS := h.sh.below hB
 have HCO := Hid.mk' (fun tx wx (hb : Below W.heap.size W wx) => spec_l13Yes ja jn jc la ln lc x.1 tx wx ((h.co.below hB).below hb))
 have hsl := h.sh.1
 have hm := h.sh.2.1
 unfold maxLen at hm
 have HSL := Hid.mk' hsl
 have HW := Hid.mk' hW
 clear hW h hsl
 go_enter Tryz.func34, Tryz.ntmps34
 go_wp2_with fail
 rw [HW.out]
 go_loopw [3] (fun i wr => ∃ k : Nat, k ≤ sn ∧ i = .int .i64 (k : Int) ∧ Below W.heap.size W wr ∧ ∀ j (hj : j < k) (hl : j < x.2.1.length), backL x.1 x.2.1[j].2.1 = true) (fun i _ => sn - (intOf i).toNat)
 case atStart => exact ⟨0, Nat.zero_le _, rfl, Below.refl _ _, fun j hj => absurd hj (Nat.not_lt_zero _)⟩
 case round =>
  obtain ⟨k, hk, rfl, hb, hyes⟩ := hrel
  have HYES := Hid.mk' hyes
  have hBw := hB.trans (hb.mono hB.size)
  obtain ⟨a0, a1, a2, a3, a4, a5, a6, a7, a8, a9⟩ := cells10 (hX.below hb)
  clear hyes
  by_cases hlt : k < sn
  · have hki : (k : Int) < (sn : Int) := by omega
    have hkl : k < x.2.1.length := by have := HSL.out; omega
    obtain ⟨b, off, hsa⟩ := cos.slg_some hS (by omega)
    subst hsa
    obtain ⟨rla, rln, rlc, rma, rmn, rmc, rha, rhn, rhc, s0, s1, s2, s3, s4, hsee⟩ := shard_at (hS.below hb) k hkl
    have hlog := hsee.log
    have hlg := hlog.1
    have hlm := hlog.2.1
    unfold maxLen at hlm
    have HBL : Hid (∀ v, backL x.1 x.2.1[k].2.1 = v → (v = false → backR x = false) ∧ (v = true → ∀ j (hj : j < k + 1) (hl : j < x.2.1.length), backL x.1 x.2.1[j].2.1 = true)) := fun v hv => ⟨fun e => all_miss (p := fun s : recs.Shd => backL x.1 s.2.1) hkl (hv.trans e), fun e j hj hl => by
     by_cases hjk : j = k
     · subst hjk; exact hv.trans e
     · exact HYES.out j (by omega) hl⟩
    generalize x.2.1[k] = s at *
    clear hsee s0 s2 s3 s4 a0 a1 a2 a3 a4 a5
    have HLG := Hid.mk' hlg
    clear hlg
    go_wp2_with fail
    clear a6 a7 a8 a9 s1
    obtain ⟨v0, hv0⟩ : ∃ v0, v0 = wr := ⟨_, rfl⟩
    subst hv0
    go_loopw [5] (fun i wr => ∃ q : Nat, q ≤ rln ∧ i = .int .i64 (q : Int) ∧ Below v0.heap.size v0 wr ∧ ∀ j (hj : j < q) (hl : j < s.2.1.length), backA (x.1.2.2.2.2.1.take (sureN x.1.2.2.2.2.2 x.1.2.2.2.2.1.length)) s.2.1[j] = true) (fun i _ => rln - (intOf i).toNat)
    case atStart => exact ⟨0, Nat.zero_le _, rfl, Below.refl _ _, fun j hj => absurd hj (Nat.not_lt_zero _)⟩
    case round =>
     obtain ⟨q, hq, rfl, hb2, hyes⟩ := hrel
     have HY2 := Hid.mk' hyes
     have hbw2 := hb.trans (hb2.mono hb.size)
     have hBw2 := hB.trans (hbw2.mono hB.size)
     clear hyes
     by_cases hlt2 : q < rln
     · have hqi : (q : Int) < (rln : Int) := by omega
       have hql : q < s.2.1.length := by have := HLG.out; omega
       obtain ⟨rb, roff, hra⟩ := slr_some hlog (by omega)
       subst hra
       obtain ⟨c0, c1, _⟩ := rec_at (hlog.below hb2) q hql
       obtain ⟨a0, a1, a2, a3, a4, a5, a6, a7, a8, a9⟩ := cells10 (hX.below hbw2)
       have HV : Hid (backA (x.1.2.2.2.2.1.take (sureN x.1.2.2.2.2.2 x.1.2.2.2.2.1.length)) s.2.1[q] = (!decide (s.2.1[q].1 = 2) || yesS x.1 s.2.1[q].2.1)) := rfl
       have HP : Hid (∀ v, backA (x.1.2.2.2.2.1.take (sureN x.1.2.2.2.2.2 x.1.2.2.2.2.1.length)) s.2.1[q] = v → (v = false → backL x.1 s.2.1 = false) ∧ (v = true → ∀ j (hj : j < q + 1) (hl : j < s.2.1.length), backA (x.1.2.2.2.2.1.take (sureN x.1.2.2.2.2.2 x.1.2.2.2.2.1.length)) s.2.1[j] = true)) := fun v hv => ⟨fun e => all_miss hql (hv.trans e), fun e j hj hl => by
        by_cases hjk : j = q
        · subst hjk; exact hv.trans e
        · exact HY2.out j (by omega) hl⟩
       have hcall0 : ∀ xx : last.On wr.heap.size wr, Calls Tryz.prog 71 #[.agg #[.int .i64 x.1.1, .int .i64 x.1.2.1, .int .i64 x.1.2.2.1, .slice ja jn jc, .slice la ln lc, .int .i64 x.1.2.2.2.2.2], .int .i64 s.2.1[q].2.1] xx.w fun e w' => e = .returned (.bool (yesS x.1 s.2.1[q].2.1)) ∧ ∃ yv : last.On wr.heap.size wr, w' = yv.w := fun xx => last.Calls.on xx (Nat.le_refl _) (HCO.out _ xx.w (hbw2.trans (xx.2.mono hbw2.size)))
       generalize yesS x.1 s.2.1[q].2.1 = yv at *
       generalize s.2.1[q] = r at *
       have o0 := last.On.cell (B := wr.heap.size) c0 (World.block_lt_of_cell? _ _ c0)
       have o1 := last.On.cell (B := wr.heap.size) c1 (World.block_lt_of_cell? _ _ c1)
       have p0 := last.On.cell (B := wr.heap.size) a0 (World.block_lt_of_cell? _ _ a0)
       have p1 := last.On.cell (B := wr.heap.size) a1 (World.block_lt_of_cell? _ _ a1)
       have p2 := last.On.cell (B := wr.heap.size) a2 (World.block_lt_of_cell? _ _ a2)
       have p3 := last.On.cell (B := wr.heap.size) a3 (World.block_lt_of_cell? _ _ a3)
       have p4 := last.On.cell (B := wr.heap.size) a4 (World.block_lt_of_cell? _ _ a4)
       have p5 := last.On.cell (B := wr.heap.size) a5 (World.block_lt_of_cell? _ _ a5)
       have hinh := last.On.inh wr.heap.size wr
       clear c0 c1 a0 a1 a2 a3 a4 a5 a6 a7 a8 a9
       by_cases e2 : r.1 = 2
       · have d2 : (r.1 == 2) = true := beq_iff_eq.2 e2
         cases yv
         · have HF := Hid.mk' ((HBL.out false ((HP.out false (by rw [HV.out]; simp [e2])).1 rfl)).1 rfl)
           clear HP HV e2 HBL
           go_wp2_with fail
           refine last.wp_region_on wr.heap.size (by kernel_rfl) (by kernel_rfl) ?_
           repeat (go_big_quiet_step ((go_at_call 71; exact hcall0 _)))
           refine wpQuiet_nil ?_
           intro wq hwq
           obtain ⟨xq, hwq⟩ := hwq
           subst hwq
           have hbq : Below wr.heap.size wr xq.w := xq.2
           go_wp2_with fail
           go_ret
           exact ⟨by rw [HF.out]; rfl, hBw2.trans (hbq.mono hBw2.size)⟩
         · have HF := Hid.mk' ((HP.out true (by rw [HV.out]; simp)).2 rfl)
           clear HP HV e2
           go_wp2_with fail
           refine last.wp_region_on wr.heap.size (by kernel_rfl) (by kernel_rfl) ?_
           repeat (go_big_quiet_step ((go_at_call 71; exact hcall0 _)))
           refine wpQuiet_nil ?_
           intro wq hwq
           obtain ⟨xq, hwq⟩ := hwq
           subst hwq
           have hbq : Below wr.heap.size wr xq.w := xq.2
           go_wp2_with fail
           go_roundw
           case rel => exact ⟨q + 1, by omega, by go_num, hb2.trans (hbq.mono hb2.size), HF.out⟩
           case measure => simp [intOf]; omega
       · have d2 : (r.1 == 2) = false := beq_eq_false_iff_ne.2 e2
         have HF := Hid.mk' ((HP.out true (by rw [HV.out]; simp [e2])).2 rfl)
         clear HP HV e2
         go_wp2_with fail
         refine last.wp_region_on wr.heap.size (by kernel_rfl) (by kernel_rfl) ?_
         repeat (go_big_quiet_step ((go_at_call 71; exact hcall0 _)))
         refine wpQuiet_nil ?_
         intro wq hwq
         obtain ⟨xq, hwq⟩ := hwq
         subst hwq
         have hbq : Below wr.heap.size wr xq.w := xq.2
         go_wp2_with fail
         go_roundw
         case rel => exact ⟨q + 1, by omega, by go_num, hb2.trans (hbq.mono hb2.size), HF.out⟩
         case measure => simp [intOf]; omega
     · have hqi : ¬ (q : Int) < (rln : Int) := by omega
       have HF : Hid (∀ j (hj : j < k + 1) (hl : j < x.2.1.length), backL x.1 x.2.1[j].2.1 = true) := (HBL.out true (all_every fun j hj => HY2.out j (by have := HLG.out; omega) hj)).2 rfl
       clear HBL
       go_wp2_with fail
       go_roundw
       case rel => exact ⟨k + 1, by omega, by go_num, hbw2, HF.out⟩
       case measure => simp [intOf]; omega
  · have hki : ¬ (k : Int) < (sn : Int) := by omega
    have HF : Hid (backR x = true) := all_every (p := fun s : recs.Shd => backL x.1 s.2.1) fun j hj => HYES.out j (by have := HSL.out; omega) hj
    clear a0 a1 a2 a3 a4 a5
    go_wp2_with fail
    go_ret
    exact ⟨by rw [HF.out]; rfl, hBw⟩
set_option maxRecDepth 100000 in
set_option maxHeartbeats 4000000 in
theorem i_backedBy (a : Option Addr) (n cap : Nat) (l : List cos.Ch) (ra : Option Addr) (rn rc : Nat) (rs : List recs.Rc) (w : World) (h : SlG cos.chR w a n l) (hR : recs.SlR w ra rn rs) :
 Calls Tryz.prog 113 #[.slice a n cap, .slice ra rn rc] w fun e w' => e = .returned (.bool (rs.all (backA l))) ∧ Below w.heap.size w w' := by
 have hl := h.1
 have hm := h.2.1
 have hrl := hR.1
 have hrm := hR.2.1
 unfold maxLen at hm hrm
 have HL := Hid.mk' hl
 have HRL := Hid.mk' hrl
 clear hl hrl
 go_enter Tryz.func113, Tryz.ntmps113
 go_wp2_with fail
 go_step3
 go_wp2_with fail
 go_step3
 go_wp2_with fail
 go_loopw [11] (fun i wr => ∃ k : Nat, k ≤ rn ∧ i = .int .i64 (k : Int) ∧ Below w.heap.size w wr ∧ ∀ j (hj : j < k) (hl : j < rs.length), backA l rs[j] = true) (fun i _ => rn - (intOf i).toNat)
 case atStart => exact ⟨0, Nat.zero_le _, rfl, Below.refl _ _, fun j hj => absurd hj (Nat.not_lt_zero _)⟩
 case round =>
  obtain ⟨k, hk, rfl, hb, hyes⟩ := hrel
  have HYES := Hid.mk' hyes
  clear hyes
  by_cases hlt : k < rn
  · have hki : (k : Int) < (rn : Int) := by omega
    have hkl : k < rs.length := by have := HRL.out; omega
    obtain ⟨rb, roff, hra⟩ := slr_some hR (by omega)
    subst hra
    obtain ⟨c0, c1, pa, pl, pc, c2, _, _⟩ := rec_at (hR.below hb) k hkl
    have HV : Hid (backA l rs[k] = (!decide (rs[k].1 = 2) || l.any (isYes rs[k].2.1))) := rfl
    have HP : Hid (∀ v, backA l rs[k] = v → (v = false → rs.all (backA l) = false) ∧ (v = true → ∀ j (hj : j < k + 1) (hl : j < rs.length), backA l rs[j] = true)) := fun v hv => ⟨fun e => all_miss hkl (hv.trans e), fun e j hj hl => by
     by_cases hjk : j = k
     · subst hjk; exact hv.trans e
     · exact HYES.out j (by omega) hl⟩
    generalize rs[k] = r at *
    obtain ⟨u1, hu1⟩ : ∃ u1, wr.alloc (.cells #[.int .i64 r.1, .int .i64 r.2.1, .slice pa pl pc] 133) = u1 := ⟨_, rfl⟩
    have hbu : Below wr.heap.size wr u1 := by rw [← hu1]; exact below_make
    have hX := boxIn_new wr [.int .i64 r.1, .int .i64 r.2.1, .slice pa pl pc] 133
    rw [hu1] at hX
    obtain ⟨x0, x1, x2⟩ := cells3 hX
    rw [← hu1] at x0 x1 x2
    have HU := Hid.mk' hu1
    have hbw := hb.trans (hbu.mono hb.size)
    clear hu1
    by_cases e2 : r.1 = 2
    · have d2 : (r.1 != 2) = false := by simp [e2]
      have HV2 : Hid (backA l r = l.any (isYes r.2.1)) := by show _ = _; rw [HV.out]; simp [e2]
      obtain ⟨v0, hv0⟩ : ∃ v0, v0 = wr := ⟨_, rfl⟩
      subst hv0
      clear HV e2
      go_wp2_with fail
      rw [HU.out]
      clear x0 x1 x2 c0 c1 c2
      go_loopw [20] (fun i wr => ∃ q : Nat, q ≤ n ∧ i = .int .i64 (q : Int) ∧ Below u1.heap.size u1 wr ∧ ∀ j (hj : j < q) (hl : j < l.length), isYes r.2.1 l[j] = false) (fun i _ => n - (intOf i).toNat)
      case atStart => exact ⟨0, Nat.zero_le _, rfl, Below.refl _ _, fun j hj => absurd hj (Nat.not_lt_zero _)⟩
      case round =>
       obtain ⟨q, hq, rfl, hb2, hno⟩ := hrel
       have HNO := Hid.mk' hno
       have hbw2 := hbw.trans (hb2.mono hbw.size)
       clear hno
       by_cases hlt2 : q < n
       · have hqi : (q : Int) < (n : Int) := by omega
         have hql : q < l.length := by have := HL.out; omega
         obtain ⟨cb, coff, hca⟩ := cos.slg_some h (by omega)
         subst hca
         obtain ⟨d0, d1⟩ := cos.ch_at (h.below hbw2) q hql
         have HV3 : Hid (isYes r.2.1 l[q] = (decide (l[q].1 = r.2.1) && l[q].2)) := rfl
         have HP2 : Hid (∀ v, isYes r.2.1 l[q] = v → (v = true → l.any (isYes r.2.1) = true) ∧ (v = false → ∀ j (hj : j < q + 1) (hl : j < l.length), isYes r.2.1 l[j] = false)) := fun v hv => ⟨fun e => List.any_eq_true.2 ⟨l[q], List.getElem_mem hql, hv.trans e⟩, fun e j hj hl => by
          by_cases hjk : j = q
          · subst hjk; exact hv.trans e
          · exact HNO.out j (by omega) hl⟩
         generalize l[q] = ch at *
         obtain ⟨t, y⟩ := ch
         simp only [] at d0 d1 HV3
         obtain ⟨u2, hu2⟩ : ∃ u2, wr.alloc (.cells #[.int .i64 t, .bool y] 94) = u2 := ⟨_, rfl⟩
         have hbu2 : Below wr.heap.size wr u2 := by rw [← hu2]; exact below_make
         have hC := boxIn_new wr [.int .i64 t, .bool y] 94
         rw [hu2] at hC
         obtain ⟨y0, y1⟩ := cells2 hC
         obtain ⟨x0, x1, x2⟩ := cells3 ((hX.below hb2).below hbu2)
         rw [← hu2] at y0 y1 x0 x1 x2
         have HU2 := Hid.mk' hu2
         have hbv := hb2.trans (hbu2.mono hb2.size)
         clear hu2
         cases y
         · have HF := Hid.mk' ((HP2.out false (by rw [HV3.out]; simp)).2 rfl)
           clear HP2 HV3
           go_wp2_with fail
           rw [HU2.out]
           go_roundw
           case rel => exact ⟨q + 1, by omega, by go_num, hbv, HF.out⟩
           case measure => simp [intOf]; omega
         · by_cases e3 : t = r.2.1
           · have d3 : (t == r.2.1) = true := beq_iff_eq.2 e3
             have HF := Hid.mk' ((HP.out true (by rw [HV2.out]; exact (HP2.out true (by rw [HV3.out]; simp [e3])).1 rfl)).2 rfl)
             clear HP2 HV3 HP HV2 e3
             generalize r.2.1 = rt at *
             go_wp2_with fail
             rw [HU2.out]
             go_roundw
             case rel => exact ⟨k + 1, by omega, by go_num, hbw.trans (hbv.mono hbw.size), HF.out⟩
             case measure => simp [intOf]; omega
           · have d3 : (t == r.2.1) = false := beq_eq_false_iff_ne.2 e3
             have HF := Hid.mk' ((HP2.out false (by rw [HV3.out]; simp [e3])).2 rfl)
             clear HP2 HV3 e3
             go_wp2_with fail
             rw [HU2.out]
             go_roundw
             case rel => exact ⟨q + 1, by omega, by go_num, hbv, HF.out⟩
             case measure => simp [intOf]; omega
       · have hqi : ¬ (q : Int) < (n : Int) := by omega
         have HF : Hid (rs.all (backA l) = false) := (HP.out false (by
          rw [HV2.out, List.any_eq_false]
          intro c hc
          obtain ⟨j, hj, rfl⟩ := List.getElem_of_mem hc
          rw [HNO.out j (by have := HL.out; omega) hj]
          decide)).1 rfl
         clear HP HV2
         go_wp2_with fail
         try rw [Exit.noGoto_ret]
         go_ret
         exact ⟨by rw [HF.out]; rfl, hbw2⟩
    · have d2 : (r.1 != 2) = true := by simp [e2]
      have HF := Hid.mk' ((HP.out true (by rw [HV.out]; simp [e2])).2 rfl)
      clear HP HV e2
      go_wp2_with fail
      rw [HU.out]
      go_roundw
      case rel => exact ⟨k + 1, by omega, by go_num, hbw, HF.out⟩
      case measure => simp [intOf]; omega
  · have hki : ¬ (k : Int) < (rn : Int) := by omega
    have HF : Hid (rs.all (backA l) = true) := all_every fun j hj => HYES.out j (by have := HRL.out; omega) hj
    go_wp2_with fail
    try rw [Exit.noGoto_ret]
    go_ret
    exact ⟨by rw [HF.out]; rfl, hb⟩
set_option maxRecDepth 100000 in
set_option maxHeartbeats 2000000 in
theorem i_sureChoices (X : Nat) (n life next : Int) (ja : Option Addr) (jn jc : Nat) (la : Option Addr) (ln lc : Nat) (sure : Int) (w : World) (a4 : w.cell? ⟨X, 4, none⟩ = some (.slice la ln lc)) (a5 : w.cell? ⟨X, 5, none⟩ = some (.int .i64 sure)) (hsw : (Lit.int .i64 sure).wf = true) (hlm : ln ≤ 9223372036854775807) (hlc : ln ≤ lc) :
 Calls Tryz.prog 112 #[.pointer (some ⟨X, 0, none⟩)] w fun e w' => e = .returned (.slice la (sureN sure ln) lc) ∧ Below w.heap.size w w' := by
 have hN := sureN_le sure ln
 have p4 := last.On.cell (B := w.heap.size) a4 (World.block_lt_of_cell? _ _ a4)
 have p5 := last.On.cell (B := w.heap.size) a5 (World.block_lt_of_cell? _ _ a5)
 have hinh := last.On.inh w.heap.size w
 have hcall0 : ∀ xx : last.On w.heap.size w, Calls Tryz.prog 146 #[.int .i64 sure, .int .i64 (ln : Int)] xx.w fun e w' => e = .returned (.int .i64 ((sureN sure ln : Nat) : Int)) ∧ ∃ yv : last.On w.heap.size w, w' = yv.w := fun xx => (i_sureCount sure ln xx.w hsw (by omega)).mono (fun e w' ⟨he, hw⟩ => ⟨he, xx, hw⟩)
 generalize sureN sure ln = N at *
 have hNi : (N : Int) ≤ (lc : Int) := by omega
 clear a4 a5
 go_enter Tryz.func112, Tryz.ntmps112
 go_wp2_with fail
 refine last.wp_region_on w.heap.size (by kernel_rfl) (by kernel_rfl) ?_
 repeat (go_big_quiet_step ((go_at_call 146; exact hcall0 _)))
 refine wpQuiet_nil ?_
 intro wq hwq
 obtain ⟨xq, hwq⟩ := hwq
 subst hwq
 have hbq : Below w.heap.size w xq.w := xq.2
 go_wp2_with fail
 go_ret
 exact ⟨rfl, hbq⟩
set_option maxRecDepth 100000 in
set_option maxHeartbeats 4000000 in
theorem impl_backed (ja : Option Addr) (jn jc : Nat) (la : Option Addr) (ln lc : Nat) (sa : Option Addr) (sn sc : Nat) (na : Option Addr) (nn nc : Nat) (oa : Option Addr) (on oc : Nat) (ba : Option Addr) (bn bc : Nat) (x : Wo) (w : World) (h : SeeWo w ja jn jc la ln lc sa sn sc na nn nc oa on oc ba bn bc x) :
 Calls Tryz.prog 75 #[.agg #[.int .i64 x.1.1, .int .i64 x.1.2.1, .int .i64 x.1.2.2.1, .slice ja jn jc, .slice la ln lc, .int .i64 x.1.2.2.2.2.2, .slice sa sn sc, .slice na nn nc, .slice oa on oc, .slice ba bn bc]] w fun e w' => e = .returned (.bool (backR x)) ∧ Below w.heap.size w w' := by
 obtain ⟨W, hW⟩ : ∃ W, w.alloc (.cells #[.int .i64 x.1.1, .int .i64 x.1.2.1, .int .i64 x.1.2.2.1, .slice ja jn jc, .slice la ln lc, .int .i64 x.1.2.2.2.2.2, .slice sa sn sc, .slice na nn nc, .slice oa on oc, .slice ba bn bc] 41) = W := ⟨_, rfl⟩
 have hB : Below w.heap.size w W := by rw [← hW]; exact below_make
 have hX : BoxIn w.heap.size 41 [] [.int .i64 x.1.1, .int .i64 x.1.2.1, .int .i64 x.1.2.2.1, .slice ja jn jc, .slice la ln lc, .int .i64 x.1.2.2.2.2.2, .slice sa sn sc, .slice na nn nc, .slice oa on oc, .slice ba bn bc] [] W := by rw [← hW]; exact boxIn_new w _ _
 have hS := h.sh.below hB
 have hll := h.co.log.1
 have hlm := h.co.log.2.1
 have hlc := h.co.lc
 have hsw := h.co.sure
 have hsl := h.sh.1
 have hm := h.sh.2.1
 unfold maxLen at hm hlm
 have hN := sureN_le x.1.2.2.2.2.2 ln
 have hTK := slg_take (h.co.log.below hB) hN
 have HBL : Hid (∀ s : recs.Shd, backL x.1 s.2.1 = s.2.1.all (backA (x.1.2.2.2.2.1.take (sureN x.1.2.2.2.2.2 ln)))) := fun s => by unfold backL; rw [hll]
 have HSL := Hid.mk' hsl
 have HW := Hid.mk' hW
 obtain ⟨a0, a1, a2, a3, a4, a5, a6, a7, a8, a9⟩ := cells10 hX
 have HSC := Hid.mk' (i_sureChoices w.heap.size x.1.1 x.1.2.1 x.1.2.2.1 ja jn jc la ln lc x.1.2.2.2.2.2 W a4 a5 hsw (by omega) hlc)
 generalize sureN x.1.2.2.2.2.2 ln = N at *
 have hNi : (N : Int) ≤ (lc : Int) := by omega
 clear hW h hsl hll a0 a1 a2 a3 a4 a5 a6 a7 a8 a9
 go_enter Tryz.func75, Tryz.ntmps75
 go_wp2_with fail
 rw [HW.out]
 refine HSC.out.mono ?_
 rintro e W1 ⟨rfl, hbq⟩
 clear HSC
 obtain ⟨a0, a1, a2, a3, a4, a5, a6, a7, a8, a9⟩ := cells10 (hX.below hbq)
 go_wp2_with fail
 clear a0 a1 a2 a3 a4 a5 a6 a7 a8 a9
 go_loopw [11] (fun i wr => ∃ k : Nat, k ≤ sn ∧ i = .int .i64 (k : Int) ∧ Below W1.heap.size W1 wr ∧ ∀ j (hj : j < k) (hl : j < x.2.1.length), backL x.1 x.2.1[j].2.1 = true) (fun i _ => sn - (intOf i).toNat)
 case atStart => exact ⟨0, Nat.zero_le _, rfl, Below.refl _ _, fun j hj => absurd hj (Nat.not_lt_zero _)⟩
 case round =>
  obtain ⟨k, hk, rfl, hb, hyes⟩ := hrel
  have HYES := Hid.mk' hyes
  have hbw := hbq.trans (hb.mono hbq.size)
  have hBw := hB.trans (hbw.mono hB.size)
  clear hyes
  by_cases hlt : k < sn
  · have hki : (k : Int) < (sn : Int) := by omega
    have hkl : k < x.2.1.length := by have := HSL.out; omega
    obtain ⟨b, off, hsa⟩ := cos.slg_some hS (by omega)
    subst hsa
    obtain ⟨rla, rln, rlc, rma, rmn, rmc, rha, rhn, rhc, s0, s1, s2, s3, s4, hsee⟩ := shard_at (hS.below hbw) k hkl
    have HP : Hid (∀ v, backL x.1 x.2.1[k].2.1 = v → (v = false → backR x = false) ∧ (v = true → ∀ j (hj : j < k + 1) (hl : j < x.2.1.length), backL x.1 x.2.1[j].2.1 = true)) := fun v hv => ⟨fun e => all_miss (p := fun s : recs.Shd => backL x.1 s.2.1) hkl (hv.trans e), fun e j hj hl => by
     by_cases hjk : j = k
     · subst hjk; exact hv.trans e
     · exact HYES.out j (by omega) hl⟩
    generalize x.2.1[k] = s at *
    obtain ⟨u1, hu1⟩ : ∃ u1, wr.alloc (.cells #[.int .i64 s.1, .slice rla rln rlc, .int .i64 s.2.2.1, .slice rma rmn rmc, .slice rha rhn rhc] 55) = u1 := ⟨_, rfl⟩
    have hbu : Below wr.heap.size wr u1 := by rw [← hu1]; exact below_make
    have hC := boxIn_new wr [.int .i64 s.1, .slice rla rln rlc, .int .i64 s.2.2.1, .slice rma rmn rmc, .slice rha rhn rhc] 55
    rw [hu1] at hC
    have y1 := hC.cell 1 _ rfl
    simp only [List.length_nil, Nat.zero_add] at y1
    rw [← hu1] at y1
    have hbv := hbw.trans (hbu.mono hbw.size)
    have HCA := Hid.mk' (i_backedBy la N lc (x.1.2.2.2.2.1.take N) rla rln rlc s.2.1 u1 (hTK.below hbv) (hsee.log.below hbu))
    have HU := Hid.mk' hu1
    rw [← HBL.out s] at HCA
    generalize backL x.1 s.2.1 = bv at *
    have hBu := hBw.trans (hbu.mono hBw.size)
    have hbu1 := hb.trans (hbu.mono hb.size)
    clear hu1 hsee hC
    cases bv
    · have HF := Hid.mk' ((HP.out false rfl).1 rfl)
      clear HP
      go_wp2_with fail
      rw [HU.out]
      refine HCA.out.mono ?_
      rintro e w2 ⟨rfl, hb2⟩
      clear HCA HU
      go_wp2_with fail
      go_ret
      exact ⟨by rw [HF.out]; rfl, hBu.trans (hb2.mono hBu.size)⟩
    · have HF := Hid.mk' ((HP.out true rfl).2 rfl)
      clear HP
      go_wp2_with fail
      rw [HU.out]
      refine HCA.out.mono ?_
      rintro e w2 ⟨rfl, hb2⟩
      clear HCA HU
      go_wp2_with fail
      go_roundw
      case rel => exact ⟨k + 1, by omega, by go_num, hbu1.trans (hb2.mono hbu1.size), HF.out⟩
      case measure => simp [intOf]; omega
  · have hki : ¬ (k : Int) < (sn : Int) := by omega
    have HF : Hid (backR x = true) := all_every (p := fun s : recs.Shd => backL x.1 s.2.1) fun j hj => HYES.out j (by have := HSL.out; omega) hj
    go_wp2_with fail
    go_ret
    exact ⟨by rw [HF.out]; rfl, hBw⟩
end wos
end Go.Proofs.YtijplooogplccaaGreat
