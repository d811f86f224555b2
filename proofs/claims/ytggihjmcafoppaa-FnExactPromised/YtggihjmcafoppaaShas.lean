/- The specification's Promised. The program's Whole. The program's Promised. -/
import Derived.Test.YtggihjmcafoppaaShar
import Derived.Deep.RegionHeld3
namespace Go.Proofs.Ytggihjmcafoppaa.wos
open Go Go.RowKit Go.Proofs.Ytggihjmcafoppaa.base Go.Proofs.Ytggihjmcafoppaa.pairs Go.Proofs.Ytggihjmcafoppaa.ords Go.Proofs.Ytggihjmcafoppaa.lay
set_option linter.unusedVariables false
set_option linter.unusedSimpArgs false

set_option maxRecDepth 100000 in
set_option maxHeartbeats 8000000 in
theorem spec_promised (ja : Option Addr) (jn jc : Nat) (la : Option Addr) (ln lc : Nat) (sa : Option Addr) (sn sc : Nat) (na : Option Addr) (nn nc : Nat) (oa : Option Addr) (on oc : Nat) (ba : Option Addr) (bn bc : Nat) (x : Wo) (w : World) (h : SeeWo w ja jn jc la ln lc sa sn sc na nn nc oa on oc ba bn bc x) (hsm : SmallB x) :
    Calls Try.prog 18 #[.agg #[.int .i64 x.1.1, .int .i64 x.1.2.1, .int .i64 x.1.2.2.1, .slice ja jn jc, .slice la ln lc, .int .i64 x.1.2.2.2.2.2, .slice sa sn sc, .slice na nn nc, .slice oa on oc, .slice ba bn bc]] w fun e w' => e = .returned (.bool (promR x)) ∧ Below w.heap.size w w' := by
  obtain ⟨W, hW⟩ : ∃ W, w.alloc (.cells #[.int .i64 x.1.1, .int .i64 x.1.2.1, .int .i64 x.1.2.2.1, .slice ja jn jc, .slice la ln lc, .int .i64 x.1.2.2.2.2.2, .slice sa sn sc, .slice na nn nc, .slice oa on oc, .slice ba bn bc] 30) = W := ⟨_, rfl⟩
  have hB : Below w.heap.size w W := by rw [← hW]; exact below_make
  have hX : BoxIn w.heap.size 30 [] [.int .i64 x.1.1, .int .i64 x.1.2.1, .int .i64 x.1.2.2.1, .slice ja jn jc, .slice la ln lc, .int .i64 x.1.2.2.2.2.2, .slice sa sn sc, .slice na nn nc, .slice oa on oc, .slice ba bn bc] [] W := by rw [← hW]; exact boxIn_new w _ _
  have hL := h.co.log.below hB
  have hBg := h.begun.below hB
  have HBE := Hid.mk' (fun tx wx (hb : Below W.heap.size W wx) => spec_l12Begun ja jn jc la ln lc sa sn sc na nn nc oa on oc ba bn bc x tx wx ((h.below hB).below hb))
  have HHE := Hid.mk' (fun qa ql qc o wx (hb : Below W.heap.size W wx) (ho : SlO wx qa ql o.2) (hq : ql ≤ 1048576) => spec_l13Held ja jn jc la ln lc sa sn sc na nn nc oa on oc ba bn bc x qa ql qc o wx ((h.below hB).below hb) ho hq)
  have hm := h.co.log.2.1
  unfold maxLen at hm
  have HLL := Hid.mk' h.co.log.1
  have HBN := Hid.mk' h.begun.1
  have HW := Hid.mk' hW
  clear hW h
  go_enter Try.func18, Try.ntmps18
  go_wp2_with fail
  rw [HW.out]
  go_loopw [3] (fun i wr => ∃ k : Nat, k ≤ ln ∧ i = .int .i64 (k : Int) ∧ Below W.heap.size W wr ∧ ∀ j (hj : j < k) (hl : j < x.1.2.2.2.2.1.length), promA x x.1.2.2.2.2.1[j] = true) (fun i _ => ln - (intOf i).toNat)
  case atStart => exact ⟨0, Nat.zero_le _, rfl, Below.refl _ _, fun j hj => absurd hj (Nat.not_lt_zero _)⟩
  case round =>
    obtain ⟨k, hk, rfl, hb, hyes⟩ := hrel
    have HYES := Hid.mk' hyes
    have hBw := hB.trans (hb.mono hB.size)
    obtain ⟨a0, a1, a2, a3, a4, a5, a6, a7, a8, a9⟩ := cells10 (hX.below hb)
    clear hyes
    by_cases hlt : k < ln
    · have hki : (k : Int) < (ln : Int) := by omega
      have hkl : k < x.1.2.2.2.2.1.length := by have := HLL.out; omega
      obtain ⟨b, off, hla⟩ := cos.slg_some hL (by omega)
      subst hla
      obtain ⟨c0, c1⟩ := cos.ch_at (hL.below hb) k hkl
      have HV : Hid (promA x x.1.2.2.2.2.1[k] = (!x.1.2.2.2.2.1[k].2 || (match firstO x.2.2.2.2 x.1.2.2.2.2.1[k].1 with | none => false | some o => heldO x o))) := rfl
      have HP : Hid (∀ v, promA x x.1.2.2.2.2.1[k] = v → (v = false → promR x = false) ∧ (v = true → ∀ j (hj : j < k + 1) (hl : j < x.1.2.2.2.2.1.length), promA x x.1.2.2.2.2.1[j] = true)) := fun v hv => ⟨fun e => all_miss hkl (hv.trans e), fun e j hj hl => by
        by_cases hjk : j = k
        · subst hjk; exact hv.trans e
        · exact HYES.out j (by omega) hl⟩
      generalize x.1.2.2.2.2.1[k] = ch at *
      obtain ⟨t, y⟩ := ch
      simp only [] at c0 c1 HV
      cases y
      · have HF := Hid.mk' ((HP.out true (by rw [HV.out]; rfl)).2 rfl)
        clear HP HV
        go_wp2_with fail
        go_roundw
        case rel => exact ⟨k + 1, by omega, by go_num, hb, HF.out⟩
        case measure => simp [intOf]; omega
      · have hcall0 : ∀ xx : last.On wr.heap.size wr, Calls Try.prog 49 #[.agg #[.int .i64 x.1.1, .int .i64 x.1.2.1, .int .i64 x.1.2.2.1, .slice ja jn jc, .slice (some ⟨b, off, none⟩) ln lc, .int .i64 x.1.2.2.2.2.2, .slice sa sn sc, .slice na nn nc, .slice oa on oc, .slice ba bn bc], .int .i64 t] xx.w fun e w' => e = .returned (.int .i64 (begZ x.2.2.2.2 t)) ∧ ∃ yv : last.On wr.heap.size wr, w' = yv.w := fun xx => last.Calls.on xx (Nat.le_refl _) (HBE.out _ xx.w (hb.trans (xx.2.mono hb.size)))
        have HBC := Hid.mk' (beg_cases x.2.2.2.2 t)
        generalize begZ x.2.2.2.2 t = bz at *
        have o0 := last.On.cell (B := wr.heap.size) c0 (World.block_lt_of_cell? _ _ c0)
        have p0 := last.On.cell (B := wr.heap.size) a0 (World.block_lt_of_cell? _ _ a0)
        have p1 := last.On.cell (B := wr.heap.size) a1 (World.block_lt_of_cell? _ _ a1)
        have p2 := last.On.cell (B := wr.heap.size) a2 (World.block_lt_of_cell? _ _ a2)
        have p3 := last.On.cell (B := wr.heap.size) a3 (World.block_lt_of_cell? _ _ a3)
        have p4 := last.On.cell (B := wr.heap.size) a4 (World.block_lt_of_cell? _ _ a4)
        have p5 := last.On.cell (B := wr.heap.size) a5 (World.block_lt_of_cell? _ _ a5)
        have p6 := last.On.cell (B := wr.heap.size) a6 (World.block_lt_of_cell? _ _ a6)
        have p7 := last.On.cell (B := wr.heap.size) a7 (World.block_lt_of_cell? _ _ a7)
        have p8 := last.On.cell (B := wr.heap.size) a8 (World.block_lt_of_cell? _ _ a8)
        have p9 := last.On.cell (B := wr.heap.size) a9 (World.block_lt_of_cell? _ _ a9)
        have hinh := last.On.inh wr.heap.size wr
        clear c0 a0 a1 a2 a3 a5 a6 a7 a8 a9
        go_wp2_with fail
        clear c1 a4
        refine last.wp_region_on wr.heap.size (by kernel_rfl) (by kernel_rfl) ?_
        repeat (go_big_quiet_step ((go_at_call 49; exact hcall0 _)))
        refine wpQuiet_nil ?_
        intro wq hwq
        obtain ⟨xq, hwq⟩ := hwq
        subst hwq
        have hbq : Below wr.heap.size wr xq.w := xq.2
        generalize xq.w = W3 at *
        clear o0 p0 p1 p2 p3 p4 p5 p6 p7 p8 p9 hinh hcall0
        have hb3 := hb.trans (hbq.mono hb.size)
        have hBw3 := hB.trans (hb3.mono hB.size)
        rcases HBC.out with ⟨rfl, hnone⟩ | ⟨K, hK, rfl, hsome⟩
        · have HF := Hid.mk' ((HP.out false (by rw [HV.out, hnone]; rfl)).1 rfl)
          have hinh := last.On.inh W3.heap.size W3
          clear HP HV HBC hnone
          go_wp2_with fail
          refine last.wp_region_on W3.heap.size (by kernel_rfl) (by kernel_rfl) ?_
          repeat (go_big_quiet_step (fail))
          refine wpQuiet_nil ?_
          intro wq hwq
          obtain ⟨xq, hwq⟩ := hwq
          subst hwq
          have hbq4 : Below W3.heap.size W3 xq.w := xq.2
          go_wp2_with fail
          go_ret
          exact ⟨by rw [HF.out]; rfl, hBw3.trans (hbq4.mono hBw3.size)⟩
        · have hKn : K < bn := by have := HBN.out; omega
          have hKi : (K : Int) < (bn : Int) := by omega
          have hK0 : ¬ (K : Int) < 0 := by omega
          have hK1 : decide ((K : Int) < 0) = false := decide_eq_false hK0
          obtain ⟨bb, boff, hba⟩ := cos.slg_some hBg (by omega)
          subst hba
          obtain ⟨q0, qa, ql, qc, q1, hSq, hqc⟩ := ord_at (hBg.below hb3) K hK
          have hfit := hsm.ops _ (List.getElem_mem hK)
          have HWV : Hid (promA x (t, true) = heldO x x.2.2.2.2[K]) := by show _ = _; rw [HV.out, hsome]; rfl
          have hqm : ql ≤ 1048576 := by have := hSq.1; omega
          generalize x.2.2.2.2[K] = o at *
          have hcall1 : ∀ xx : last.On W3.heap.size W3, Calls Try.prog 54 #[.agg #[.int .i64 x.1.1, .int .i64 x.1.2.1, .int .i64 x.1.2.2.1, .slice ja jn jc, .slice (some ⟨b, off, none⟩) ln lc, .int .i64 x.1.2.2.2.2.2, .slice sa sn sc, .slice na nn nc, .slice oa on oc, .slice (some ⟨bb, boff, none⟩) bn bc], .agg #[.int .i64 o.1, .slice qa ql qc]] xx.w fun e w' => e = .returned (.bool (heldO x o)) ∧ ∃ yv : last.On W3.heap.size W3, w' = yv.w := fun xx => last.Calls.on xx (Nat.le_refl _) (HHE.out qa ql qc o xx.w (hb3.trans (xx.2.mono hb3.size)) (hSq.below xx.2) hqm)
          obtain ⟨a0, a1, a2, a3, a4, a5, a6, a7, a8, a9⟩ := cells10 (hX.below hb3)
          have o0 := last.On.cell (B := W3.heap.size) q0 (World.block_lt_of_cell? _ _ q0)
          have o1 := last.On.cell (B := W3.heap.size) q1 (World.block_lt_of_cell? _ _ q1)
          have p0 := last.On.cell (B := W3.heap.size) a0 (World.block_lt_of_cell? _ _ a0)
          have p1 := last.On.cell (B := W3.heap.size) a1 (World.block_lt_of_cell? _ _ a1)
          have p2 := last.On.cell (B := W3.heap.size) a2 (World.block_lt_of_cell? _ _ a2)
          have p3 := last.On.cell (B := W3.heap.size) a3 (World.block_lt_of_cell? _ _ a3)
          have p4 := last.On.cell (B := W3.heap.size) a4 (World.block_lt_of_cell? _ _ a4)
          have p5 := last.On.cell (B := W3.heap.size) a5 (World.block_lt_of_cell? _ _ a5)
          have p6 := last.On.cell (B := W3.heap.size) a6 (World.block_lt_of_cell? _ _ a6)
          have p7 := last.On.cell (B := W3.heap.size) a7 (World.block_lt_of_cell? _ _ a7)
          have p8 := last.On.cell (B := W3.heap.size) a8 (World.block_lt_of_cell? _ _ a8)
          have p9 := last.On.cell (B := W3.heap.size) a9 (World.block_lt_of_cell? _ _ a9)
          have hinh := last.On.inh W3.heap.size W3
          generalize heldO x o = bv at *
          clear a0 a1 a2 a3 a4 a5 a6 a7 a8 a9 q0 q1 hSq hfit HV HBC hsome hK0
          cases bv
          · have HF := Hid.mk' ((HP.out false HWV.out).1 rfl)
            clear HP HWV
            go_wp2_with fail
            refine last.wp_region_on W3.heap.size (by kernel_rfl) (by kernel_rfl) ?_
            repeat (go_big_quiet_step ((go_at_call 54; exact hcall1 _)))
            refine wpQuiet_nil ?_
            intro wq hwq
            obtain ⟨xq, hwq⟩ := hwq
            subst hwq
            have hbq4 : Below W3.heap.size W3 xq.w := xq.2
            go_wp2_with fail
            go_ret
            exact ⟨by rw [HF.out]; rfl, hBw3.trans (hbq4.mono hBw3.size)⟩
          · have HF := Hid.mk' ((HP.out true HWV.out).2 rfl)
            clear HP HWV
            go_wp2_with fail
            refine last.wp_region_on W3.heap.size (by kernel_rfl) (by kernel_rfl) ?_
            repeat (go_big_quiet_step ((go_at_call 54; exact hcall1 _)))
            refine wpQuiet_nil ?_
            intro wq hwq
            obtain ⟨xq, hwq⟩ := hwq
            subst hwq
            have hbq4 : Below W3.heap.size W3 xq.w := xq.2
            go_wp2_with fail
            go_roundw
            case rel => exact ⟨k + 1, by omega, by go_num, hb3.trans (hbq4.mono hb3.size), HF.out⟩
            case measure => simp [intOf]; omega
    · have hki : ¬ (k : Int) < (ln : Int) := by omega
      have HF : Hid (promR x = true) := all_every (p := promA x) fun j hj => HYES.out j (by have := HLL.out; omega) hj
      clear a0 a1 a2 a3 a5
      go_wp2_with fail
      go_ret
      exact ⟨by rw [HF.out]; rfl, hBw⟩
end Go.Proofs.Ytggihjmcafoppaa.wos

namespace Go.Proofs.Ytggihjmcafoppaa.wos
open Go Go.RowKit Go.Proofs.Ytggihjmcafoppaa.base Go.Proofs.Ytggihjmcafoppaa.pairs Go.Proofs.Ytggihjmcafoppaa.ords Go.Proofs.Ytggihjmcafoppaa.lay
set_option linter.unusedVariables false
set_option linter.unusedSimpArgs false

theorem plain_own {w : World} {a : Option Addr} {n c : Nat} {l : List Orr} {F : List Nat} (h : ordsR.own w [.slice a n c] l F) : PlainO w a n := fun b off e i hi pa pl pc hc => by
  subst e
  obtain ⟨v, q, e, _, hO⟩ := h
  simp only [List.cons.injEq, and_true] at e
  subst e
  have hl := hO.len
  have hn : n = l.length := by
    rcases hO.shape with ⟨e, _⟩ | ⟨g, cap, e, _⟩
    · cases e
    · cases e; rfl
  have h0 : off = 0 := by
    rcases hO.shape with ⟨e, _⟩ | ⟨g, cap, e, _⟩
    · cases e
    · cases e; rfl
  subst h0
  have hil : i < l.length := by omega
  have hce := hO.cells i hil
  obtain ⟨v, e, k1, hop⟩ := ord_own.1 (hO.each i hil)
  have h1 := hce 1 v (by rw [e]; rfl)
  rw [show i * ordR.size + 1 = 0 + i * 2 + 1 from by rw [Nat.zero_add]; rfl] at h1
  rw [hc] at h1
  have hv := Option.some.inj h1
  rcases (cos.ops_own.1 hop).1.2.2 with ⟨e2, _⟩ | ⟨g, cap, cur, e2, _⟩
  · rw [e2] at hv; cases hv; exact .inl rfl
  · rw [e2] at hv; cases hv; exact .inr ⟨g, 0, rfl⟩
theorem plain_world (ja : Option Addr) (jn jc : Nat) (la : Option Addr) (ln lc : Nat) (sa : Option Addr) (sn sc : Nat) (na : Option Addr) (nn nc : Nat) (oa : Option Addr) (on oc : Nat) (ba : Option Addr) (bn bc : Nat) {x : Wo} {w : World} {F : List Nat} (h : worldR.own w [.int .i64 x.1.1, .int .i64 x.1.2.1, .int .i64 x.1.2.2.1, .slice ja jn jc, .slice la ln lc, .int .i64 x.1.2.2.2.2.2, .slice sa sn sc, .slice na nn nc, .slice oa on oc, .slice ba bn bc] x F) : PlainO w ba bn := by
  obtain ⟨us, v1, v2, v3, v4, F0, F1, F2, F3, F4, e, _, h0, h1, h2, h3, h4, _⟩ := world_own.1 h
  have hl : us.length = 6 := cos.coordR.ownLen h0
  match us, hl with
  | [u0, u1, u2, u3, u4, u5], _ =>
    simp only [List.cons_append, List.nil_append, List.cons.injEq, and_true] at e
    obtain ⟨_, _, _, _, _, _, _, _, _, rfl⟩ := e
    exact plain_own h4
end Go.Proofs.Ytggihjmcafoppaa.wos

namespace Go.Proofs.Ytggihjmcafoppaa.wos
open Go Go.RowKit Go.Proofs.Ytggihjmcafoppaa.base Go.Proofs.Ytggihjmcafoppaa.pairs Go.Proofs.Ytggihjmcafoppaa.ords Go.Proofs.Ytggihjmcafoppaa.lay
set_option linter.unusedVariables false
set_option linter.unusedSimpArgs false

set_option maxRecDepth 100000 in
set_option maxHeartbeats 4000000 in
theorem i_keepsW (ja : Option Addr) (jn jc : Nat) (la : Option Addr) (ln lc : Nat) (sa : Option Addr) (sn sc : Nat) (na : Option Addr) (nn nc : Nat) (oa : Option Addr) (on oc : Nat) (ba : Option Addr) (bn bc : Nat) (X : Nat) (x : Wo) (qa : Option Addr) (ql qc : Nat) (o : Orr) (w : World) (hX : BoxIn X 30 [] [.int .i64 x.1.1, .int .i64 x.1.2.1, .int .i64 x.1.2.2.1, .slice ja jn jc, .slice la ln lc, .int .i64 x.1.2.2.2.2.2, .slice sa sn sc, .slice na nn nc, .slice oa on oc, .slice ba bn bc] [] w) (h : SeeWo w ja jn jc la ln lc sa sn sc na nn nc oa on oc ba bn bc x) (ho : SlO w qa ql o.2) (hql : ql ≤ 1048576) (hks : ∀ p ∈ o.2, p.2.1.size ≤ 1048576) :
    Calls Try.prog 56 #[.pointer (some ⟨X, 0, none⟩), .agg #[.int .i64 o.1, .slice qa ql qc]] w fun e w' => e = .returned (.bool (heldO x o)) ∧ Below w.heap.size w w' := by
  obtain ⟨W, hW⟩ : ∃ W, w.alloc (.cells #[.int .i64 o.1, .slice qa ql qc] 80) = W := ⟨_, rfl⟩
  have hB : Below w.heap.size w W := by rw [← hW]; exact below_make
  have hR : BoxIn w.heap.size 80 [] [.int .i64 o.1, .slice qa ql qc] [] W := by rw [← hW]; exact boxIn_new w _ _
  have hXW := hX.below hB
  have hS := h.sh.below hB
  have hnw := h.co.n
  have hm := h.sh.2.1
  unfold maxLen at hm
  have HSL := Hid.mk' h.sh.1
  have hd : Below W.heap.size W W.drew := (Below.refl _ _).drew
  have HSO := Hid.mk' (fun wx (hx : Below W.heap.size W wx) => impl_shardsOfA qa ql qc o.2 x.1.1 wx ((ho.below hB).below hx) (fun p hp => by have := hks p hp; omega) (by omega) hnw)
  have HALL : Hid (∀ wx, Below W.heap.size W wx → Below W.heap.size W wx ∧ wx.cell? ⟨w.heap.size, 1, none⟩ = some (.slice qa ql qc) ∧ wx.cell? ⟨X, 0, none⟩ = some (.int .i64 x.1.1)) := fun wx hx => by
    obtain ⟨b0, b1⟩ := cells2 (hR.below hx)
    obtain ⟨a0, a1, a2, a3, a4, a5, a6, a7, a8, a9⟩ := cells10 (hXW.below hx)
    exact ⟨hx, b1, a0⟩
  have HMEM : Hid (∀ z ∈ shardsOf x.1.1 o.2, ∃ K : Nat, z = (K : Int)) := fun z hz => shards_nat hz
  have HHO : Hid (heldO x o = (shardsOf x.1.1 o.2).all (heldA x o.1)) := rfl
  generalize shardsOf x.1.1 o.2 = zs at *
  have HW := Hid.mk' hW
  clear hW h ho hks hX
  go_enter Try.func56, Try.ntmps56
  go_wp2_with fail
  rw [HW.out]
  clear HW
  go_region_held3 (fun w' => Below W.heap.size W w' ∧ w'.cell? ⟨w.heap.size, 1, none⟩ = some (.slice qa ql qc) ∧ w'.cell? ⟨X, 0, none⟩ = some (.int .i64 x.1.1)) (first | (with_reducible exact HALL.out _ hq4) | (with_reducible exact HALL.out _ hd) | fail "keepP") (first | (go_at_call 88; (with_reducible refine (HSO.out _ hd).mono ?_); rintro e w4 ⟨g, n, cap, rfl, hZ, hb4⟩; have hq4 := hd.trans (hb4.mono hd.size)) | fail "armP")
  have hb1 := hq4
  have HZL := Hid.mk' hZ.1
  have hnm : n ≤ 9223372036854775807 := by have := hZ.sl.2.1; unfold maxLen at this; omega
  clear HSO HALL hq4 hb4 hd
  go_wp2_with fail
  go_loopw [16] (fun i wr => ∃ k : Nat, k ≤ n ∧ i = .int .i64 (k : Int) ∧ Below w4.heap.size w4 wr ∧ ∀ j (hj : j < k) (hl : j < zs.length), heldA x o.1 zs[j] = true) (fun i _ => n - (intOf i).toNat)
  case atStart => exact ⟨0, Nat.zero_le _, rfl, Below.refl _ _, fun j hj => absurd hj (Nat.not_lt_zero _)⟩
  case round =>
    obtain ⟨k, hk, rfl, hb, hyes⟩ := hrel
    have HYES := Hid.mk' hyes
    have hbw := hb1.trans (hb.mono hb1.size)
    have hBw := hB.trans (hbw.mono hB.size)
    clear hyes
    by_cases hlt : k < n
    · have hki : (k : Int) < (n : Int) := by omega
      have hkl : k < zs.length := by have := HZL.out; omega
      have z0 := (hZ.below hb).at k hkl
      obtain ⟨K, hK⟩ := HMEM.out _ (List.getElem_mem hkl)
      have HP : Hid (∀ v, heldA x o.1 (K : Int) = v → (v = false → heldO x o = false) ∧ (v = true → ∀ j (hj : j < k + 1) (hl : j < zs.length), heldA x o.1 zs[j] = true)) := fun v hv => ⟨fun e => HHO.out.trans (all_miss hkl (by rw [hK]; exact hv.trans e)), fun e j hj hl => by
        by_cases hjk : j = k
        · subst hjk; rw [hK]; exact hv.trans e
        · exact HYES.out j (by omega) hl⟩
      rw [hK] at z0
      clear hK
      obtain ⟨a0, a1, a2, a3, a4, a5, a6, a7, a8, a9⟩ := cells10 (hXW.below hbw)
      obtain ⟨b0, b1⟩ := cells2 (hR.below hbw)
      have p6 := last.On.cell (B := wr.heap.size) a6 (World.block_lt_of_cell? _ _ a6)
      have q0 := last.On.cell (B := wr.heap.size) b0 (World.block_lt_of_cell? _ _ b0)
      have hinh := last.On.inh wr.heap.size wr
      clear a0 a1 a2 a3 a4 a5 a6 a7 a8 a9 b0 b1
      by_cases hKs : K < sn
      · have hKi : ¬ (K : Int) ≥ (sn : Int) := by omega
        have hKd : decide (sn ≤ K) = false := decide_eq_false (by omega)
        have hKj : (K : Int) < (sn : Int) := by omega
        have hKl : K < x.2.1.length := by have := HSL.out; omega
        obtain ⟨b, off, hsa⟩ := cos.slg_some hS (by omega)
        subst hsa
        obtain ⟨rla, rln, rlc, rma, rmn, rmc, rha, rhn, rhc, s0, s1, s2, s3, s4, hsee⟩ := shard_at (hS.below hbw) K hKl
        have HKE := Hid.mk' (heldA_in (tx := o.1) hKl)
        generalize x.2.1[K] = s at *
        have hcall0 : ∀ xx : last.On wr.heap.size wr, Calls Try.prog 89 #[.agg #[.int .i64 s.1, .slice rla rln rlc, .int .i64 s.2.2.1, .slice rma rmn rmc, .slice rha rhn rhc], .int .i64 o.1] xx.w fun e w' => e = .returned (.bool (keepS s o.1)) ∧ ∃ yv : last.On wr.heap.size wr, w' = yv.w := fun xx => last.Calls.on xx (Nat.le_refl _) (i_keepsSh rla rln rlc rma rmn rmc rha rhn rhc s o.1 xx.w (hsee.below xx.2))
        have o0 := last.On.cell (B := wr.heap.size) s0 (World.block_lt_of_cell? _ _ s0)
        have o1 := last.On.cell (B := wr.heap.size) s1 (World.block_lt_of_cell? _ _ s1)
        have o2 := last.On.cell (B := wr.heap.size) s2 (World.block_lt_of_cell? _ _ s2)
        have o3 := last.On.cell (B := wr.heap.size) s3 (World.block_lt_of_cell? _ _ s3)
        have o4 := last.On.cell (B := wr.heap.size) s4 (World.block_lt_of_cell? _ _ s4)
        generalize keepS s o.1 = bv at *
        clear s0 s1 s2 s3 s4 hsee hKi
        cases bv
        · have HF := Hid.mk' ((HP.out false HKE.out).1 rfl)
          clear HP HKE
          go_wp2_with fail
          clear z0
          refine last.wp_region_on wr.heap.size (by kernel_rfl) (by kernel_rfl) ?_
          repeat (go_big_quiet_step ((go_at_call 89; exact hcall0 _)))
          refine wpQuiet_nil ?_
          intro wq hwq
          obtain ⟨xq, hwq⟩ := hwq
          subst hwq
          have hbq : Below wr.heap.size wr xq.w := xq.2
          go_wp2_with fail
          go_ret
          exact ⟨by rw [HF.out]; rfl, hBw.trans (hbq.mono hBw.size)⟩
        · have HF := Hid.mk' ((HP.out true HKE.out).2 rfl)
          clear HP HKE
          go_wp2_with fail
          clear z0
          refine last.wp_region_on wr.heap.size (by kernel_rfl) (by kernel_rfl) ?_
          repeat (go_big_quiet_step ((go_at_call 89; exact hcall0 _)))
          refine wpQuiet_nil ?_
          intro wq hwq
          obtain ⟨xq, hwq⟩ := hwq
          subst hwq
          have hbq : Below wr.heap.size wr xq.w := xq.2
          go_wp2_with fail
          go_roundw
          case rel => exact ⟨k + 1, by omega, by go_num, hb.trans (hbq.mono hb.size), HF.out⟩
          case measure => simp [intOf]; omega
      · have hKi : (K : Int) ≥ (sn : Int) := by omega
        have hKd : decide (sn ≤ K) = true := decide_eq_true (by omega)
        have HF := Hid.mk' ((HP.out false (heldA_out (by have := HSL.out; omega))).1 rfl)
        clear HP
        go_wp2_with fail
        clear z0
        refine last.wp_region_on wr.heap.size (by kernel_rfl) (by kernel_rfl) ?_
        repeat (go_big_quiet_step (fail))
        refine wpQuiet_nil ?_
        intro wq hwq
        obtain ⟨xq, hwq⟩ := hwq
        subst hwq
        have hbq : Below wr.heap.size wr xq.w := xq.2
        go_wp2_with fail
        go_ret
        exact ⟨by rw [HF.out]; rfl, hBw.trans (hbq.mono hBw.size)⟩
    · have hki : ¬ (k : Int) < (n : Int) := by omega
      have HF : Hid (heldO x o = true) := HHO.out.trans (all_every fun j hj => HYES.out j (by have := HZL.out; omega) hj)
      go_wp2_with fail
      go_ret
      exact ⟨by rw [HF.out]; rfl, hBw⟩
set_option maxRecDepth 100000 in
set_option maxHeartbeats 8000000 in
theorem impl_promised (ja : Option Addr) (jn jc : Nat) (la : Option Addr) (ln lc : Nat) (sa : Option Addr) (sn sc : Nat) (na : Option Addr) (nn nc : Nat) (oa : Option Addr) (on oc : Nat) (ba : Option Addr) (bn bc : Nat) (x : Wo) (w : World) (h : SeeWo w ja jn jc la ln lc sa sn sc na nn nc oa on oc ba bn bc x) (hp : PlainO w ba bn) (hsm : SmallB x) :
    Calls Try.prog 19 #[.agg #[.int .i64 x.1.1, .int .i64 x.1.2.1, .int .i64 x.1.2.2.1, .slice ja jn jc, .slice la ln lc, .int .i64 x.1.2.2.2.2.2, .slice sa sn sc, .slice na nn nc, .slice oa on oc, .slice ba bn bc]] w fun e w' => e = .returned (.bool (promR x)) ∧ Below w.heap.size w w' := by
  obtain ⟨W, hW⟩ : ∃ W, w.alloc (.cells #[.int .i64 x.1.1, .int .i64 x.1.2.1, .int .i64 x.1.2.2.1, .slice ja jn jc, .slice la ln lc, .int .i64 x.1.2.2.2.2.2, .slice sa sn sc, .slice na nn nc, .slice oa on oc, .slice ba bn bc] 30) = W := ⟨_, rfl⟩
  have hB : Below w.heap.size w W := by rw [← hW]; exact below_make
  have hX : BoxIn w.heap.size 30 [] [.int .i64 x.1.1, .int .i64 x.1.2.1, .int .i64 x.1.2.2.1, .slice ja jn jc, .slice la ln lc, .int .i64 x.1.2.2.2.2.2, .slice sa sn sc, .slice na nn nc, .slice oa on oc, .slice ba bn bc] [] W := by rw [← hW]; exact boxIn_new w _ _
  have hL := h.co.log.below hB
  have hpW : PlainO W ba bn := fun b off e i hi pa pl pc hc => by
    subst e
    have hbl : b < w.heap.size := by
      obtain ⟨b', off', e', hi'⟩ := h.begun.2.2.2 (by omega)
      simp only [Option.some.injEq, Addr.mk.injEq, and_true] at e'
      obtain ⟨rfl, rfl⟩ := e'
      have hil : i < x.2.2.2.2.length := by have := h.begun.1; omega
      exact World.block_lt_of_cell? _ _ (ord_at h.begun i hil).1
    exact hp b off rfl i hi pa pl pc ((hB.cell (p := ⟨b, off + i * 2 + 1, none⟩) hbl).symm.trans hc)
  have HFO := Hid.mk' (i_firstOrders ba bn bc x.2.2.2.2 W (h.begun.below hB) hpW (by have := h.begun.1; have := hsm.n; omega))
  have HKW := Hid.mk' (fun qa ql qc o wx (hb : Below W.heap.size W wx) (ho : SlO wx qa ql o.2) (hq : ql ≤ 1048576) (hks : ∀ p ∈ o.2, p.2.1.size ≤ 1048576) => i_keepsW ja jn jc la ln lc sa sn sc na nn nc oa on oc ba bn bc w.heap.size x qa ql qc o wx (hX.below hb) ((h.below hB).below hb) ho hq hks)
  have hm := h.co.log.2.1
  unfold maxLen at hm
  have HLL := Hid.mk' h.co.log.1
  have hlw : Hid (∀ c ∈ x.1.2.2.2.2.1, (Lit.int .i64 c.1).wf = true) := fun c hc => by
    obtain ⟨vs, us, ts, _, h1, _⟩ := h.co.log.2.2.1 c hc
    exact h1.2
  have HW := Hid.mk' hW
  obtain ⟨a0, a1, a2, a3, a4, a5, a6, a7, a8, a9⟩ := cells10 hX
  rw [← hW] at a9
  clear hW h a0 a1 a2 a3 a4 a5 a6 a7 a8 hp hpW
  go_enter Try.func19, Try.ntmps19
  go_wp2_with fail
  rw [HW.out]
  refine HFO.out.mono ?_
  rintro e W1 ⟨B, m, rfl, hM, hb1⟩
  clear HFO HW a9
  obtain ⟨a0, a1, a2, a3, a4, a5, a6, a7, a8, a9⟩ := cells10 (hX.below hb1)
  go_wp2_with fail
  clear a0 a1 a2 a3 a4 a5 a6 a7 a8 a9
  go_loopw [13] (fun i wr => ∃ k : Nat, k ≤ ln ∧ i = .int .i64 (k : Int) ∧ Below W1.heap.size W1 wr ∧ ∀ j (hj : j < k) (hl : j < x.1.2.2.2.2.1.length), promA x x.1.2.2.2.2.1[j] = true) (fun i _ => ln - (intOf i).toNat)
  case atStart => exact ⟨0, Nat.zero_le _, rfl, Below.refl _ _, fun j hj => absurd hj (Nat.not_lt_zero _)⟩
  case round =>
    obtain ⟨k, hk, rfl, hb, hyes⟩ := hrel
    have HYES := Hid.mk' hyes
    have hbw := hb1.trans (hb.mono hb1.size)
    have hBw := hB.trans (hbw.mono hB.size)
    clear hyes
    by_cases hlt : k < ln
    · have hki : (k : Int) < (ln : Int) := by omega
      have hkl : k < x.1.2.2.2.2.1.length := by have := HLL.out; omega
      obtain ⟨b, off, hla⟩ := cos.slg_some hL (by omega)
      subst hla
      obtain ⟨c0, c1⟩ := cos.ch_at (hL.below hbw) k hkl
      have htw := hlw.out _ (List.getElem_mem hkl)
      have HV : Hid (promA x x.1.2.2.2.2.1[k] = (!x.1.2.2.2.2.1[k].2 || (match firstO x.2.2.2.2 x.1.2.2.2.2.1[k].1 with | none => false | some o => heldO x o))) := rfl
      have HP : Hid (∀ v, promA x x.1.2.2.2.2.1[k] = v → (v = false → promR x = false) ∧ (v = true → ∀ j (hj : j < k + 1) (hl : j < x.1.2.2.2.2.1.length), promA x x.1.2.2.2.2.1[j] = true)) := fun v hv => ⟨fun e => all_miss hkl (hv.trans e), fun e j hj hl => by
        by_cases hjk : j = k
        · subst hjk; exact hv.trans e
        · exact HYES.out j (by omega) hl⟩
      generalize x.1.2.2.2.2.1[k] = ch at *
      obtain ⟨t, y⟩ := ch
      simp only [] at c0 c1 HV htw
      obtain ⟨u1, hu1⟩ : ∃ u1, wr.alloc (.cells #[.int .i64 t, .bool y] 86) = u1 := ⟨_, rfl⟩
      have hbu : Below wr.heap.size wr u1 := by rw [← hu1]; exact below_make
      have hC := boxIn_new wr [.int .i64 t, .bool y] 86
      rw [hu1] at hC
      obtain ⟨x0, x1⟩ := cells2 hC
      rw [← hu1] at x0 x1
      have HU := Hid.mk' hu1
      have hbv := hbw.trans (hbu.mono hbw.size)
      have hb1u := hb.trans (hbu.mono hb.size)
      have hBu := hBw.trans (hbu.mono hBw.size)
      clear hu1
      cases y
      · have HF := Hid.mk' ((HP.out true (by rw [HV.out]; rfl)).2 rfl)
        clear HP HV
        go_wp2_with fail
        rw [HU.out]
        go_roundw
        case rel => exact ⟨k + 1, by omega, by go_num, hb1u, HF.out⟩
        case measure => simp [intOf]; omega
      · have hMu := hM.below hb1u
        have HH := Hid.mk' (i_ohas W B m (firstO x.2.2.2.2) t u1 hMu htw)
        cases hfm : firstO x.2.2.2.2 t with
        | none =>
          have HF := Hid.mk' ((HP.out false (by rw [HV.out, hfm]; rfl)).1 rfl)
          rw [hfm] at HH
          clear HP HV hfm
          go_wp2_with fail
          rw [HU.out]
          refine HH.out.mono ?_
          rintro e w2 ⟨rfl, hb2⟩
          clear x0 x1 c0 c1 HU HH
          go_wp2_with fail
          go_ret
          exact ⟨by rw [HF.out]; rfl, hBu.trans (hb2.mono hBu.size)⟩
        | some o =>
          have hmem : o ∈ x.2.2.2.2 := List.mem_of_find?_eq_some (by unfold firstO at hfm; exact hfm)
          have hfo := hsm.ops o hmem
          have HWV : Hid (promA x (t, true) = heldO x o) := by show _ = _; rw [HV.out, hfm]; rfl
          rw [hfm] at HH
          obtain ⟨qa, ql, qc, hpl, hSo0, hmc, hlk⟩ := hMu.look htw
          rw [hfm] at hSo0 hlk
          change SlO W qa ql o.2 at hSo0
          change ∀ w2 : World, w2.heap[B]? = u1.heap[B]? → (Instr.lookup 82 (.map (some B)) (.int .i64 t) false).run Try.prog w2 = .ok (.agg #[.int .i64 o.1, .slice qa ql qc]) w2 at hlk
          have HLK : Hid (∀ wx, Below u1.heap.size u1 wx → (Instr.lookup 82 (.map (some B)) (.int .i64 t) false).run Try.prog wx = .ok (.agg #[.int .i64 o.1, .slice qa ql qc]) wx) := fun wx hx => hlk wx (hx.block B hMu.lt)
          have hqm : ql ≤ 1048576 := by have := hSo0.1; have := hfo.1; omega
          have HCA := Hid.mk' (fun wx (hx : Below u1.heap.size u1 wx) => HKW.out qa ql qc o wx (hbv.trans (hx.mono hbv.size)) (hSo0.below (hbv.trans (hx.mono hbv.size))) hqm hfo.2)
          generalize heldO x o = bv at *
          clear hfm HV hlk hSo0 hpl hmem hfo hMu
          cases bv
          · have HF := Hid.mk' ((HP.out false HWV.out).1 rfl)
            clear HP HWV
            go_wp2_with fail
            rw [HU.out]
            refine HH.out.mono ?_
            rintro e w2 ⟨rfl, hb2⟩
            clear x0 x1 c0 c1 HU HH
            obtain ⟨x0, x1⟩ := cells2 (hC.below hb2)
            have hl2 := HLK.out w2 hb2
            go_wp2_with fail
            refine (HCA.out _ hb2).mono ?_
            rintro e w3 ⟨rfl, hb3⟩
            clear x0 x1 hl2
            go_wp2_with fail
            go_ret
            have hq := hBu.trans (hb2.mono hBu.size)
            exact ⟨by rw [HF.out]; rfl, hq.trans (hb3.mono hq.size)⟩
          · have HF := Hid.mk' ((HP.out true HWV.out).2 rfl)
            clear HP HWV
            go_wp2_with fail
            rw [HU.out]
            refine HH.out.mono ?_
            rintro e w2 ⟨rfl, hb2⟩
            clear x0 x1 c0 c1 HU HH
            obtain ⟨x0, x1⟩ := cells2 (hC.below hb2)
            have hl2 := HLK.out w2 hb2
            go_wp2_with fail
            refine (HCA.out _ hb2).mono ?_
            rintro e w3 ⟨rfl, hb3⟩
            clear x0 x1 hl2
            have hq := hb1u.trans (hb2.mono hb1u.size)
            go_wp2_with fail
            go_roundw
            case rel => exact ⟨k + 1, by omega, by go_num, hq.trans (hb3.mono hq.size), HF.out⟩
            case measure => simp [intOf]; omega
    · have hki : ¬ (k : Int) < (ln : Int) := by omega
      have HF : Hid (promR x = true) := all_every (p := promA x) fun j hj => HYES.out j (by have := HLL.out; omega) hj
      go_wp2_with fail
      go_ret
      exact ⟨by rw [HF.out]; rfl, hBw⟩
end Go.Proofs.Ytggihjmcafoppaa.wos
