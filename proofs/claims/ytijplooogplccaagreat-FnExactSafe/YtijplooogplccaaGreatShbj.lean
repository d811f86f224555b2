/- WoOj -/
import Derived.Test.YtijplooogplccaaGreatShbf
import Derived.Test.YtijplooogplccaaGreatShbh
import Derived.Test.YtijplooogplccaaGreatShbi
set_option linter.unusedVariables false
set_option linter.unusedSimpArgs false
namespace Go.Proofs.YtijplooogplccaaGreat
namespace wos
open Go Go.RowKit base pairs ords lay
def RetBg (w : World) (r : Bool) (f : Int → Option Orr) (e : Ending) (w' : World) : Prop := Below w.heap.size w w' ∧ match r with
 | false => e = .returned (.tuple #[.map none, .bool false])
 | true => ∃ B m, e = .returned (.tuple #[.map (some B), .bool true]) ∧ OrdM w w' B m f
theorem box_part {X : Nat} {T : TypeId} {u v : List Value} {w : World} (h : BoxIn X T [] (u ++ v) [] w) : BoxIn X T [] u v w := by
 unfold BoxIn at h ⊢
 simpa using h
theorem world_co (ja : Option Addr) (jn jc : Nat) (la : Option Addr) (ln lc : Nat) (sa : Option Addr) (sn sc : Nat) (na : Option Addr) (nn nc : Nat) (oa : Option Addr) (on oc : Nat) (ba : Option Addr) (bn bc : Nat) {X : Nat} {x : Wo} {w : World} (h : BoxIn X 41 [] [.int .i64 x.1.1, .int .i64 x.1.2.1, .int .i64 x.1.2.2.1, .slice ja jn jc, .slice la ln lc, .int .i64 x.1.2.2.2.2.2, .slice sa sn sc, .slice na nn nc, .slice oa on oc, .slice ba bn bc] [] w) : BoxIn X 41 [] (cos.coVals x.1.1 x.1.2.1 x.1.2.2.1 x.1.2.2.2.2.2 ja jn jc la ln lc) [.slice sa sn sc, .slice na nn nc, .slice oa on oc, .slice ba bn bc] w := box_part (u := cos.coVals x.1.1 x.1.2.1 x.1.2.2.1 x.1.2.2.2.2.2 ja jn jc la ln lc) h
theorem job_tx {w : World} {vs : List Value} {j : cos.Jb} (h : cos.jobR.see w vs j) : (Lit.int .i64 j.1).wf = true := by
 obtain ⟨u1, t1, rfl, h1, h2⟩ := h
 exact (cos.flat_int.see.1 h1).2
set_option maxRecDepth 100000 in
set_option maxHeartbeats 8000000 in
theorem i_begunOf (ja : Option Addr) (jn jc : Nat) (la : Option Addr) (ln lc : Nat) (sa : Option Addr) (sn sc : Nat) (na : Option Addr) (nn nc : Nat) (oa : Option Addr) (on oc : Nat) (ba : Option Addr) (bn bc : Nat) (X : Nat) (x : Wo) (w : World) (hX : BoxIn X 41 [] [.int .i64 x.1.1, .int .i64 x.1.2.1, .int .i64 x.1.2.2.1, .slice ja jn jc, .slice la ln lc, .int .i64 x.1.2.2.2.2.2, .slice sa sn sc, .slice na nn nc, .slice oa on oc, .slice ba bn bc] [] w) (h : SlG ordR w ba bn x.2.2.2.2) (hp : PlainO w ba bn) (hl : 1 ≤ x.1.2.1 ∧ x.1.2.1 ≤ 900) (hn : 0 ≤ x.1.2.2.1 ∧ x.1.2.2.1 ≤ 999) (hsm : SmallB x) :
 Calls Tryz.prog 27 #[.pointer (some ⟨X, 0, none⟩)] w (RetBg w (begO (x.1.2.1 * 1000 + x.1.2.2.1) x.2.2.2.2) (firstO x.2.2.2.2)) := by
 have HLL := Hid.mk' h.1
 have hm := h.2.1
 unfold maxLen at hm
 have HR : Hid (begO (x.1.2.1 * 1000 + x.1.2.2.1) x.2.2.2.2 = (decide (bn ≤ 1000) && (List.range bn).all (begA (x.1.2.1 * 1000 + x.1.2.2.1) x.2.2.2.2))) := by show _ = _; unfold begO; rw [h.1]
 have HNX := Hid.mk' (fun wx (hx : Below w.heap.size w wx) => cos.i_nextTx X 41 [] [.slice sa sn sc, .slice na nn nc, .slice oa on oc, .slice ba bn bc] x.1.1 x.1.2.1 x.1.2.2.1 x.1.2.2.2.2.2 ja jn jc la ln lc wx (world_co ja jn jc la ln lc sa sn sc na nn nc oa on oc ba bn bc (hX.below hx)) hl hn)
 have hm0 := ordM_made w w
 have hb0 : Below w.heap.size w (w.alloc (.map #[] 0)) := below_make
 have HF0 : Hid (firstO (x.2.2.2.2.take 0) = fun _ => none) := by show _ = _; funext s; rfl
 have hmm : ∀ wx : World, (Instr.makeMap 64 none).run Tryz.prog wx = .ok (.map (some wx.heap.size)) (wx.alloc (.map #[] 0)) := fun wx => by kernel_rfl
 have HFW := Hid.mk' hsm.ops
 generalize hhi : x.1.2.1 * 1000 + x.1.2.2.1 = hi at *
 generalize begO hi x.2.2.2.2 = R at *
 obtain ⟨a0, a1, a2, a3, a4, a5, a6, a7, a8, a9⟩ := cells10 hX
 have hXl := hX.lt
 clear hl hn hsm hhi a0 a1 a2 a3 a4 a5 a6 a7 a8
 by_cases eN : bn ≤ 1000
 · have HR5 : Hid (R = (List.range bn).all (begA hi x.2.2.2.2)) := by show _ = _; rw [HR.out]; simp [eN]
   have eNi : ¬ (1000 : Int) < (bn : Int) := by omega
   have c9 := (hb0.cell (p := ⟨X, 9, none⟩) hXl).trans a9
   clear HR eN
   go_enter Tryz.func27, Tryz.ntmps27
   go_wp2_with (at_builtin; fail)
   clear a9 c9
   go_loopw [19] (fun i wr => ∃ k m : Nat, k ≤ bn ∧ m ≤ k ∧ i = .int .i64 (k : Int) ∧ Below w.heap.size w wr ∧ OrdM w wr w.heap.size m (firstO (x.2.2.2.2.take k)) ∧ ∀ j, j < k → begA hi x.2.2.2.2 j = true) (fun i _ => bn - (intOf i).toNat)
   case atStart => exact ⟨0, 0, Nat.zero_le _, Nat.le_refl _, rfl, hb0, by rw [HF0.out]; exact hm0, fun j hj => absurd hj (Nat.not_lt_zero _)⟩
   case round =>
    clear hm0 hb0
    obtain ⟨k, m, hk, hmk, rfl, hb, hM, hno⟩ := hrel
    have HNO := Hid.mk' hno
    clear hno
    by_cases hlt : k < bn
    · have hki : (k : Int) < (bn : Int) := by omega
      have hkl : k < x.2.2.2.2.length := by have := HLL.out; omega
      obtain ⟨b, off, ha⟩ := cos.slg_some h (by omega)
      subst ha
      obtain ⟨c0, oa', ol', oc', c1, hSo, hoc⟩ := ord_at h k hkl
      have hpl := hp b off rfl k hlt oa' ol' oc' c1
      have hw1 : (Lit.int .i64 x.2.2.2.2[k].1).wf = true := by
       obtain ⟨vs, hv⟩ := h.2.2.1 _ (List.getElem_mem hkl)
       obtain ⟨_, _, _, _, k1, _⟩ := ord_see.1 hv
       exact k1
      have d0 := (hb.cell (p := ⟨b, off + k * 2, none⟩) (World.block_lt_of_cell? _ _ c0)).trans c0
      have d1 := (hb.cell (p := ⟨b, off + k * 2 + 1, none⟩) (World.block_lt_of_cell? _ _ c1)).trans c1
      have HT := Hid.mk' (firstO_take hkl)
      have HV : Hid (begA hi x.2.2.2.2 k = (opsOk x.2.2.2.2[k].2 && (firstO (x.2.2.2.2.take k) x.2.2.2.2[k].1).isNone && decide (1000 ≤ x.2.2.2.2[k].1 ∧ x.2.2.2.2[k].1 < hi))) := begA_at hkl
      have HP : Hid ((begA hi x.2.2.2.2 k = false → R = false) ∧ (begA hi x.2.2.2.2 k = true → ∀ j, j < k + 1 → begA hi x.2.2.2.2 j = true)) := ⟨fun e => by rw [HR5.out, range_miss hlt e], upto_next HNO.out⟩
      have HFK := Hid.mk' (HFW.out _ (List.getElem_mem hkl))
      generalize begA hi x.2.2.2.2 k = hv at *
      generalize x.2.2.2.2[k] = od at *
      obtain ⟨u1, hu1⟩ : ∃ u1, wr.alloc (.cells #[.int .i64 od.1, .slice oa' ol' oc'] 103) = u1 := ⟨_, rfl⟩
      have hbu : Below wr.heap.size wr u1 := by rw [← hu1]; exact below_make
      have hY := boxIn_new wr [.int .i64 od.1, .slice oa' ol' oc'] 103
      rw [hu1] at hY
      have hMu := hM.below hbu
      have hbw := hb.trans (hbu.mono hb.size)
      have hSu := hSo.below hbw
      have HH := Hid.mk' (fun wx (hx : Below u1.heap.size u1 wx) => i_ohas w w.heap.size m (firstO (x.2.2.2.2.take k)) od.1 wx (hMu.below hx) hw1)
      have HOK := Hid.mk' (fun wx (hx : Below u1.heap.size u1 wx) => wds.impl_opsOkA oa' ol' oc' od.2 wx (hSu.below hx) (fun p hp => by have := HFK.out.2 p hp; omega))
      have HN2 := Hid.mk' (fun wx (hx : Below u1.heap.size u1 wx) => HNX.out wx (hbw.trans (hx.mono hbw.size)))
      obtain ⟨x0, x1⟩ := cells2 hY
      have px0 := last.On.cell (B := u1.heap.size) x0 (World.block_lt_of_cell? _ _ x0)
      have px1 := last.On.cell (B := u1.heap.size) x1 (World.block_lt_of_cell? _ _ x1)
      rw [← hu1] at x0 x1
      have HU := Hid.mk' hu1
      have hBlt := hMu.lt
      have hinh := last.On.inh u1.heap.size u1
      clear hu1 c0 c1
      cases hs : firstO (x.2.2.2.2.take k) od.1 with
      | some o' =>
       rw [hs] at HH HT HV
       generalize opsOk od.2 = r at *
       have hc1 : ∀ xx : last.On u1.heap.size u1, Calls Tryz.prog 61 #[.pointer (some ⟨X, 0, none⟩)] xx.w fun e w' => e = .returned (.int .i64 hi) ∧ ∃ yv : last.On u1.heap.size u1, w' = yv.w := fun xx => last.Calls.on xx (Nat.le_refl _) (HN2.out xx.w xx.2)
       have hc2 : ∀ xx : last.On u1.heap.size u1, Calls Tryz.prog 62 #[.map (some w.heap.size), .int .i64 od.1] xx.w fun e w' => e = .returned (.bool true) ∧ ∃ yv : last.On u1.heap.size u1, w' = yv.w := fun xx => last.Calls.on xx (Nat.le_refl _) (HH.out xx.w xx.2)
       have hc3 : ∀ xx : last.On u1.heap.size u1, Calls Tryz.prog 63 #[.slice oa' ol' oc'] xx.w fun e w' => e = .returned (.bool r) ∧ ∃ yv : last.On u1.heap.size u1, w' = yv.w := fun xx => last.Calls.on xx (Nat.le_refl _) (HOK.out xx.w xx.2)
       clear HH HOK HN2 hs
       by_cases e1 : od.1 < 1000
       · have HF := Hid.mk' (HP.out.1 (by rw [HV.out, decide_eq_false (fun e => by omega), Bool.and_false]))
         have g1 : decide (od.1 < 1000) = true := decide_eq_true e1
         clear HP HV e1
         go_wp2_with fail
         rw [HU.out]
         clear x0 x1 d0 d1
         refine last.wp_region_on u1.heap.size (by kernel_rfl) (by kernel_rfl) ?_
         repeat (go_big_quiet_step ((first | (go_at_call 61; with_reducible exact hc1 _) | (go_at_call 62; with_reducible exact hc2 _) | (go_at_call 63; with_reducible exact hc3 _))))
         refine wpQuiet_nil ?_
         intro wq hwq
         obtain ⟨xq, hwq⟩ := hwq
         subst hwq
         have hbq : Below u1.heap.size u1 xq.w := xq.2
         go_wp2_with fail
         go_ret2
         refine ⟨hbw.trans (hbq.mono hbw.size), ?_⟩
         rw [HF.out]
         rfl
       have g1 : decide (od.1 < 1000) = false := decide_eq_false e1
       by_cases e2 : hi ≤ od.1
       · have HF := Hid.mk' (HP.out.1 (by rw [HV.out, decide_eq_false (fun e => by omega), Bool.and_false]))
         have g2 : decide (hi ≤ od.1) = true := decide_eq_true e2
         clear HP HV e1 e2
         go_wp2_with fail
         rw [HU.out]
         clear x0 x1 d0 d1
         refine last.wp_region_on u1.heap.size (by kernel_rfl) (by kernel_rfl) ?_
         repeat (go_big_quiet_step ((first | (go_at_call 61; with_reducible exact hc1 _) | (go_at_call 62; with_reducible exact hc2 _) | (go_at_call 63; with_reducible exact hc3 _))))
         refine wpQuiet_nil ?_
         intro wq hwq
         obtain ⟨xq, hwq⟩ := hwq
         subst hwq
         have hbq : Below u1.heap.size u1 xq.w := xq.2
         go_wp2_with fail
         go_ret2
         refine ⟨hbw.trans (hbq.mono hbw.size), ?_⟩
         rw [HF.out]
         rfl
       have g2 : decide (hi ≤ od.1) = false := decide_eq_false e2
       have HF := Hid.mk' (HP.out.1 (by rw [HV.out]; simp))
       clear HP HV e1 e2
       go_wp2_with fail
       rw [HU.out]
       clear x0 x1 d0 d1
       refine last.wp_region_on u1.heap.size (by kernel_rfl) (by kernel_rfl) ?_
       repeat (go_big_quiet_step ((first | (go_at_call 61; with_reducible exact hc1 _) | (go_at_call 62; with_reducible exact hc2 _) | (go_at_call 63; with_reducible exact hc3 _))))
       refine wpQuiet_nil ?_
       intro wq hwq
       obtain ⟨xq, hwq⟩ := hwq
       subst hwq
       have hbq : Below u1.heap.size u1 xq.w := xq.2
       go_wp2_with fail
       go_ret2
       refine ⟨hbw.trans (hbq.mono hbw.size), ?_⟩
       rw [HF.out]
       rfl
      | none =>
       rw [hs] at HH HT HV
       generalize opsOk od.2 = r at *
       have hc1 : ∀ xx : last.On u1.heap.size u1, Calls Tryz.prog 61 #[.pointer (some ⟨X, 0, none⟩)] xx.w fun e w' => e = .returned (.int .i64 hi) ∧ ∃ yv : last.On u1.heap.size u1, w' = yv.w := fun xx => last.Calls.on xx (Nat.le_refl _) (HN2.out xx.w xx.2)
       have hc2 : ∀ xx : last.On u1.heap.size u1, Calls Tryz.prog 62 #[.map (some w.heap.size), .int .i64 od.1] xx.w fun e w' => e = .returned (.bool false) ∧ ∃ yv : last.On u1.heap.size u1, w' = yv.w := fun xx => last.Calls.on xx (Nat.le_refl _) (HH.out xx.w xx.2)
       have hc3 : ∀ xx : last.On u1.heap.size u1, Calls Tryz.prog 63 #[.slice oa' ol' oc'] xx.w fun e w' => e = .returned (.bool r) ∧ ∃ yv : last.On u1.heap.size u1, w' = yv.w := fun xx => last.Calls.on xx (Nat.le_refl _) (HOK.out xx.w xx.2)
       clear HH HOK HN2 hs
       by_cases e1 : od.1 < 1000
       · have HF := Hid.mk' (HP.out.1 (by rw [HV.out, decide_eq_false (fun e => by omega), Bool.and_false]))
         have g1 : decide (od.1 < 1000) = true := decide_eq_true e1
         clear HP HV e1
         go_wp2_with fail
         rw [HU.out]
         clear x0 x1 d0 d1
         refine last.wp_region_on u1.heap.size (by kernel_rfl) (by kernel_rfl) ?_
         repeat (go_big_quiet_step ((first | (go_at_call 61; with_reducible exact hc1 _) | (go_at_call 62; with_reducible exact hc2 _) | (go_at_call 63; with_reducible exact hc3 _))))
         refine wpQuiet_nil ?_
         intro wq hwq
         obtain ⟨xq, hwq⟩ := hwq
         subst hwq
         have hbq : Below u1.heap.size u1 xq.w := xq.2
         go_wp2_with fail
         go_ret2
         refine ⟨hbw.trans (hbq.mono hbw.size), ?_⟩
         rw [HF.out]
         rfl
       have g1 : decide (od.1 < 1000) = false := decide_eq_false e1
       by_cases e2 : hi ≤ od.1
       · have HF := Hid.mk' (HP.out.1 (by rw [HV.out, decide_eq_false (fun e => by omega), Bool.and_false]))
         have g2 : decide (hi ≤ od.1) = true := decide_eq_true e2
         clear HP HV e1 e2
         go_wp2_with fail
         rw [HU.out]
         clear x0 x1 d0 d1
         refine last.wp_region_on u1.heap.size (by kernel_rfl) (by kernel_rfl) ?_
         repeat (go_big_quiet_step ((first | (go_at_call 61; with_reducible exact hc1 _) | (go_at_call 62; with_reducible exact hc2 _) | (go_at_call 63; with_reducible exact hc3 _))))
         refine wpQuiet_nil ?_
         intro wq hwq
         obtain ⟨xq, hwq⟩ := hwq
         subst hwq
         have hbq : Below u1.heap.size u1 xq.w := xq.2
         go_wp2_with fail
         go_ret2
         refine ⟨hbw.trans (hbq.mono hbw.size), ?_⟩
         rw [HF.out]
         rfl
       have g2 : decide (hi ≤ od.1) = false := decide_eq_false e2
       cases r
       · have HF := Hid.mk' (HP.out.1 (by rw [HV.out]; simp))
         clear HP HV e1 e2
         go_wp2_with fail
         rw [HU.out]
         clear x0 x1 d0 d1
         refine last.wp_region_on u1.heap.size (by kernel_rfl) (by kernel_rfl) ?_
         repeat (go_big_quiet_step ((first | (go_at_call 61; with_reducible exact hc1 _) | (go_at_call 62; with_reducible exact hc2 _) | (go_at_call 63; with_reducible exact hc3 _))))
         refine wpQuiet_nil ?_
         intro wq hwq
         obtain ⟨xq, hwq⟩ := hwq
         subst hwq
         have hbq : Below u1.heap.size u1 xq.w := xq.2
         go_wp2_with fail
         go_ret2
         refine ⟨hbw.trans (hbq.mono hbw.size), ?_⟩
         rw [HF.out]
         rfl
       · have HF := Hid.mk' (HP.out.2 (by rw [HV.out, decide_eq_true ⟨by omega, by omega⟩]; rfl))
         clear HP HV e1 e2
         go_wp2_with fail
         rw [HU.out]
         clear x0 x1 d0 d1
         refine last.wp_region_on u1.heap.size (by kernel_rfl) (by kernel_rfl) ?_
         repeat (go_big_quiet_step ((first | (go_at_call 61; with_reducible exact hc1 _) | (go_at_call 62; with_reducible exact hc2 _) | (go_at_call 63; with_reducible exact hc3 _))))
         refine wpQuiet_nil ?_
         intro wq hwq
         obtain ⟨xq, hwq⟩ := hwq
         subst hwq
         have hbq : Below u1.heap.size u1 xq.w := xq.2
         generalize xq.w = w2 at *
         have hM2 := hMu.below hbq
         have hbw2 := hbw.trans (hbq.mono hbw.size)
         clear px0 px1 hc1 hc2 hc3 hinh
         obtain ⟨x0, x1⟩ := cells2 (hY.below hbq)
         go_wp2_with (refine wpList_store_ord rfl _ _ _ rfl rfl hM2 (by unfold maxLen; omega) rfl hw1 (r := od) rfl hpl hSo hoc ?_)
         intro w3 hM3 hg3
         have hb3 : Below w.heap.size w w3 := hbw2.grown hg3 hbw2.size (fun j e => by cases e; exact Nat.le_refl _)
         go_wp2_with fail
         go_roundw
         case rel => exact ⟨k + 1, m + 1, by omega, by omega, by go_num, hb3, by rw [HT.out]; exact hM3, HF.out⟩
         case measure => simp [intOf]; omega
    · have hki : ¬ (k : Int) < (bn : Int) := by omega
      have HE : Hid (x.2.2.2.2.take k = x.2.2.2.2) := List.take_of_length_le (by have := HLL.out; omega)
      have HF : Hid (R = true) := by show _ = _; rw [HR5.out, range_every (fun j hj => HNO.out j (by omega))]
      go_wp2_with fail
      go_ret2
      refine ⟨hb, ?_⟩
      rw [HF.out]
      exact ⟨_, m, rfl, by rw [HE.out] at hM; exact hM⟩
 · have HF : Hid (R = false) := by show _ = _; rw [HR.out]; simp [eN]
   have eNi : (1000 : Int) < (bn : Int) := by omega
   clear HR eN hm0 hb0
   go_enter Tryz.func27, Tryz.ntmps27
   go_wp2_with fail
   go_ret2
   refine ⟨Below.refl _ _, ?_⟩
   rw [HF.out]
   rfl
set_option maxRecDepth 100000 in
set_option maxHeartbeats 8000000 in
theorem i_haveAll (w0 : World) (B m X : Nat) (T : TypeId) (post : List Value) (l : List Orr) (ja : Option Addr) (jn jc : Nat) (la : Option Addr) (ln lc : Nat) (c : cos.Co) (w : World) (hM : OrdM w0 w B m (firstO l)) (hw0 : Below w0.heap.size w0 w) (hX : BoxIn X T [] (cos.coVals c.1 c.2.1 c.2.2.1 c.2.2.2.2.2 ja jn jc la ln lc) post w) (h : cos.SeeCo w ja jn jc la ln lc c) :
 Calls Tryz.prog 28 #[.map (some B), .pointer (some ⟨X, 0, none⟩)] w fun e w' => e = .returned (.bool (c.2.2.2.1.all (jobA l) && c.2.2.2.2.1.all (logA l))) ∧ Below w.heap.size w w' := by
 have hJ := h.jobs
 have hL := h.log
 have hjm := h.jobs.2.1
 have hlm := h.log.2.1
 unfold maxLen at hjm hlm
 have HJL := Hid.mk' h.jobs.1
 have HLL := Hid.mk' h.log.1
 have HR : Hid ((c.2.2.2.1.all (jobA l) && c.2.2.2.2.1.all (logA l)) = ((List.range jn).all (holdsAt (jobA l) c.2.2.2.1) && (List.range ln).all (holdsAt (logA l) c.2.2.2.2.1))) := by show _ = _; rw [all_at (p := jobA l), all_at (p := logA l), h.jobs.1, h.log.1]
 generalize (c.2.2.2.1.all (jobA l) && c.2.2.2.2.1.all (logA l)) = R at *
 have k3 := hX.cell 3 _ rfl
 have k4 := hX.cell 4 _ rfl
 simp only [List.length_nil, Nat.zero_add] at k3 k4
 have hXl := hX.lt
 have hMl := hM.lt
 clear h
 go_enter Tryz.func28, Tryz.ntmps28
 go_wp2_with fail
 go_loopw [14] (fun i wr => ∃ k : Nat, k ≤ ln ∧ i = .int .i64 (k : Int) ∧ Below w.heap.size w wr ∧ ∀ j, j < k → (holdsAt (logA l) c.2.2.2.2.1) j = true) (fun i _ => ln - (intOf i).toNat)
 case atStart => exact ⟨0, Nat.zero_le _, rfl, Below.refl _ _, fun j hj => absurd hj (Nat.not_lt_zero _)⟩
 case round =>
  obtain ⟨k, hk, rfl, hb, hno⟩ := hrel
  have HNO := Hid.mk' hno
  clear hno
  by_cases hlt : k < ln
  · have hki : (k : Int) < (ln : Int) := by omega
    have hkl : k < c.2.2.2.2.1.length := by have := HLL.out; omega
    obtain ⟨b, off, hba⟩ := cos.slg_some hL (by omega)
    subst hba
    have htw := cos.ch_wf hL k hkl
    obtain ⟨c0, c1⟩ := cos.ch_at (hL.below hb) k hkl
    have HV : Hid ((holdsAt (logA l) c.2.2.2.2.1) k = (firstO l c.2.2.2.2.1[k].1).isSome) := holdsAt_at hkl
    have HP : Hid (((holdsAt (logA l) c.2.2.2.2.1) k = false → R = false) ∧ ((holdsAt (logA l) c.2.2.2.2.1) k = true → ∀ j, j < k + 1 → (holdsAt (logA l) c.2.2.2.2.1) j = true)) := ⟨fun e => by rw [HR.out, range_miss (f := (holdsAt (logA l) c.2.2.2.2.1)) hlt e, Bool.and_false], upto_next HNO.out⟩
    generalize (holdsAt (logA l) c.2.2.2.2.1) k = hv at *
    generalize c.2.2.2.2.1[k] = ch at *
    obtain ⟨t, y⟩ := ch
    simp only [] at c0 c1 HV htw
    obtain ⟨u1, hu1⟩ : ∃ u1, wr.alloc (.cells #[.int .i64 t, .bool y] 94) = u1 := ⟨_, rfl⟩
    have hbu : Below wr.heap.size wr u1 := by rw [← hu1]; exact below_make
    have hbw := hb.trans (hbu.mono hb.size)
    have hY := boxIn_new wr [.int .i64 t, .bool y] 94
    rw [hu1] at hY
    obtain ⟨x0, x1⟩ := cells2 hY
    rw [← hu1] at x0 x1
    have HU := Hid.mk' hu1
    have HH := Hid.mk' (i_ohas w0 B m (firstO l) t u1 (hM.below hbw) htw)
    generalize (firstO l t).isSome = r at *
    clear hu1
    cases r
    · have HF := Hid.mk' (HP.out.1 HV.out)
      clear HP HV
      go_wp2_with fail
      rw [HU.out]
      refine HH.out.mono ?_
      rintro e w9 ⟨rfl, hb9⟩
      clear x0 x1 c0 c1 HH HU
      go_wp2_with fail
      go_ret
      exact ⟨by rw [HF.out]; rfl, hbw.trans (hb9.mono hbw.size)⟩
    · have HF := Hid.mk' (HP.out.2 HV.out)
      clear HP HV
      go_wp2_with fail
      rw [HU.out]
      refine HH.out.mono ?_
      rintro e w9 ⟨rfl, hb9⟩
      clear x0 x1 c0 c1 HH HU
      go_wp2_with fail
      go_roundw
      case rel => exact ⟨k + 1, by omega, by go_num, hbw.trans (hb9.mono hbw.size), HF.out⟩
      case measure => simp [intOf]; omega
  · have hki : ¬ (k : Int) < (ln : Int) := by omega
    have HR5 : Hid (R = (List.range jn).all (holdsAt (jobA l) c.2.2.2.1)) := by show _ = _; rw [HR.out, range_every (f := (holdsAt (logA l) c.2.2.2.2.1)) (fun j hj => HNO.out j (by omega)), Bool.and_true]
    have d3 := (hb.cell (p := ⟨X, 3, none⟩) hXl).trans k3
    go_wp2_with fail
    clear HNO HR d3
    obtain ⟨v0, hv0⟩ : ∃ v0, v0 = wr := ⟨_, rfl⟩
    subst hv0
    go_loopw [29] (fun i wr => ∃ k : Nat, k ≤ jn ∧ i = .int .i64 (k : Int) ∧ Below v0.heap.size v0 wr ∧ ∀ j, j < k → (holdsAt (jobA l) c.2.2.2.1) j = true) (fun i _ => jn - (intOf i).toNat)
    case atStart => exact ⟨0, Nat.zero_le _, rfl, Below.refl _ _, fun j hj => absurd hj (Nat.not_lt_zero _)⟩
    case round =>
     clear hki hlt hk
     obtain ⟨k, hk, rfl, hb0, hno⟩ := hrel
     have HNO := Hid.mk' hno
     have hbw := hb.trans (hb0.mono hb.size)
     have d3 := (hbw.cell (p := ⟨X, 3, none⟩) hXl).trans k3
     clear hno
     by_cases hlt : k < jn
     · have hki : (k : Int) < (jn : Int) := by omega
       have hkl : k < c.2.2.2.1.length := by have := HJL.out; omega
       obtain ⟨b, off, hba⟩ := cos.slg_some hJ (by omega)
       subst hba
       have htw : (Lit.int .i64 c.2.2.2.1[k].1).wf = true := by
        obtain ⟨vs, hv⟩ := hJ.2.2.1 _ (List.getElem_mem hkl)
        exact job_tx hv
       obtain ⟨c0, _, ⟨oa', ol', oc', c1, hSo, _⟩, _⟩ := cos.job_at (hJ.below hbw) k hkl
       have HV : Hid ((holdsAt (jobA l) c.2.2.2.1) k = (match firstO l c.2.2.2.1[k].1 with | none => false | some o => decide (o.2 = c.2.2.2.1[k].2.1))) := holdsAt_at hkl
       have HP : Hid (((holdsAt (jobA l) c.2.2.2.1) k = false → R = false) ∧ ((holdsAt (jobA l) c.2.2.2.1) k = true → ∀ j, j < k + 1 → (holdsAt (jobA l) c.2.2.2.1) j = true)) := ⟨fun e => by rw [HR5.out, range_miss (f := (holdsAt (jobA l) c.2.2.2.1)) hlt e], upto_next HNO.out⟩
       generalize (holdsAt (jobA l) c.2.2.2.1) k = hv at *
       generalize c.2.2.2.1[k] = jb at *
       have hMw := hM.below hbw
       have HH := Hid.mk' (fun wx (hx : Below wr.heap.size wr wx) => i_ohas w0 B m (firstO l) jb.1 wx (hMw.below hx) htw)
       have hinh := last.On.inh wr.heap.size wr
       have pc0 := last.On.cell (B := wr.heap.size) c0 (World.block_lt_of_cell? _ _ c0)
       have pc1 := last.On.cell (B := wr.heap.size) c1 (World.block_lt_of_cell? _ _ c1)
       cases hs : firstO l jb.1 with
       | none =>
        rw [hs] at HH HV
        have HF := Hid.mk' (HP.out.1 HV.out)
        have hc1 : ∀ xx : last.On wr.heap.size wr, Calls Tryz.prog 62 #[.map (some B), .int .i64 jb.1] xx.w fun e w' => e = .returned (.bool false) ∧ ∃ yv : last.On wr.heap.size wr, w' = yv.w := fun xx => last.Calls.on xx (Nat.le_refl _) (HH.out xx.w xx.2)
        clear HP HV hs HH c0 c1
        go_wp2_with fail
        refine last.wp_region_on wr.heap.size (by kernel_rfl) (by kernel_rfl) ?_
        repeat (go_big_quiet_step ((go_at_call 62; with_reducible exact hc1 _)))
        refine wpQuiet_nil ?_
        intro wq hwq
        obtain ⟨xq, hwq⟩ := hwq
        subst hwq
        have hbq : Below wr.heap.size wr xq.w := xq.2
        go_wp2_with fail
        go_ret
        exact ⟨by rw [HF.out]; rfl, hbw.trans (hbq.mono hbw.size)⟩
       | some od =>
        rw [hs] at HH HV
        simp only [] at HV
        obtain ⟨qa, qm, qc, _, hSq0, _, hlk⟩ := hMw.look htw
        rw [hs] at hSq0 hlk
        change SlO w0 qa qm od.2 at hSq0
        have hw0w := hw0.trans (hbw.mono hw0.size)
        have HEQ := Hid.mk' (fun wx (hx : Below wr.heap.size wr wx) => eq_opsW qa oa' qm qc ol' oc' od.2 jb.2.1 wx (hSq0.below (hw0w.trans (hx.mono hw0w.size))) (hSo.below hx))
        have hc1 : ∀ xx : last.On wr.heap.size wr, Calls Tryz.prog 62 #[.map (some B), .int .i64 jb.1] xx.w fun e w' => e = .returned (.bool true) ∧ ∃ yv : last.On wr.heap.size wr, w' = yv.w := fun xx => last.Calls.on xx (Nat.le_refl _) (HH.out xx.w xx.2)
        have hf1 := fieldO1
        have plk : ∀ xx : last.On wr.heap.size wr, (Instr.lookup 64 (.map (some B)) (.int .i64 jb.1) false).run Tryz.prog xx.w = .ok (.agg #[.int .i64 od.1, .slice qa qm qc]) xx.w := fun xx => hlk xx.w (xx.2.block B hMw.lt)
        cases hd : decide (od.2 = jb.2.1)
        · rw [hd] at HV HEQ
          have HF := Hid.mk' (HP.out.1 HV.out)
          have hc2 : ∀ xx : last.On wr.heap.size wr, Calls Tryz.prog 64 #[.slice qa qm qc, .slice oa' ol' oc'] xx.w fun e w' => e = .returned (.bool false) ∧ ∃ yv : last.On wr.heap.size wr, w' = yv.w := fun xx => last.Calls.on xx (Nat.le_refl _) (HEQ.out xx.w xx.2)
          clear HP HV hs HH c0 c1 hd HEQ hlk hSq0
          go_wp2_with fail
          refine last.wp_region_on wr.heap.size (by kernel_rfl) (by kernel_rfl) ?_
          repeat (go_big_quiet_step ((first | (go_at_call 62; with_reducible exact hc1 _) | (go_at_call 64; with_reducible exact hc2 _))))
          refine wpQuiet_nil ?_
          intro wq hwq
          obtain ⟨xq, hwq⟩ := hwq
          subst hwq
          have hbq : Below wr.heap.size wr xq.w := xq.2
          go_wp2_with fail
          go_ret
          exact ⟨by rw [HF.out]; rfl, hbw.trans (hbq.mono hbw.size)⟩
        · rw [hd] at HV HEQ
          have HF := Hid.mk' (HP.out.2 HV.out)
          have hc2 : ∀ xx : last.On wr.heap.size wr, Calls Tryz.prog 64 #[.slice qa qm qc, .slice oa' ol' oc'] xx.w fun e w' => e = .returned (.bool true) ∧ ∃ yv : last.On wr.heap.size wr, w' = yv.w := fun xx => last.Calls.on xx (Nat.le_refl _) (HEQ.out xx.w xx.2)
          clear HP HV hs HH c0 c1 hd HEQ hlk hSq0
          go_wp2_with fail
          refine last.wp_region_on wr.heap.size (by kernel_rfl) (by kernel_rfl) ?_
          repeat (go_big_quiet_step ((first | (go_at_call 62; with_reducible exact hc1 _) | (go_at_call 64; with_reducible exact hc2 _))))
          refine wpQuiet_nil ?_
          intro wq hwq
          obtain ⟨xq, hwq⟩ := hwq
          subst hwq
          have hbq : Below wr.heap.size wr xq.w := xq.2
          go_wp2_with fail
          go_roundw
          case rel => exact ⟨k + 1, by omega, by go_num, hb0.trans (hbq.mono hb0.size), HF.out⟩
          case measure => simp [intOf]; omega
     · have hki : ¬ (k : Int) < (jn : Int) := by omega
       have HF : Hid (R = true) := by show _ = _; rw [HR5.out, range_every (f := (holdsAt (jobA l) c.2.2.2.1)) (fun j hj => HNO.out j (by omega))]
       go_wp2_with fail
       go_ret
       exact ⟨by rw [HF.out]; rfl, hbw⟩
theorem plain_ownS {w : World} {a : Option Addr} {n c : Nat} {l : List recs.Shd} {F : List Nat} (h : shsR.own w [.slice a n c] l F) : PlainS w a n := fun b off ea i hi la ln lc hc => by
 subst ea
 obtain ⟨v, q, e, _, hO⟩ := h
 simp only [List.cons.injEq, and_true] at e
 subst e
 have hl := hO.len
 have hn : n = l.length := by
  rcases hO.shape with ⟨e, _⟩ | ⟨g, cap, e, _⟩
  · cases e
  · cases e; rfl
 have h0 : off = 0 := by
  rcases hO.shape with ⟨e, _⟩ | ⟨g, cap, e, _⟩
  · cases e
  · cases e; rfl
 subst h0
 have hil : i < l.length := by omega
 have hce := hO.cells i hil
 obtain ⟨la', ln', lc', ma', mn', mc', ha', hn', hc', e, hown⟩ := shard_own.1 (hO.each i hil)
 have h1 := hce 1 (.slice la' ln' lc') (by rw [e]; rfl)
 rw [show i * shardR.size + 1 = 0 + i * 5 + 1 from by rw [Nat.zero_add]; rfl] at h1
 rw [hc] at h1
 have hv := Option.some.inj h1
 simp only [Value.slice.injEq] at hv
 obtain ⟨rfl, rfl, rfl⟩ := hv
 exact (recs.OwnSh.plainV hown).1
theorem plain_worldS (ja : Option Addr) (jn jc : Nat) (la : Option Addr) (ln lc : Nat) (sa : Option Addr) (sn sc : Nat) (na : Option Addr) (nn nc : Nat) (oa : Option Addr) (on oc : Nat) (ba : Option Addr) (bn bc : Nat) {x : Wo} {w : World} {F : List Nat} (h : worldR.own w [.int .i64 x.1.1, .int .i64 x.1.2.1, .int .i64 x.1.2.2.1, .slice ja jn jc, .slice la ln lc, .int .i64 x.1.2.2.2.2.2, .slice sa sn sc, .slice na nn nc, .slice oa on oc, .slice ba bn bc] x F) : PlainS w sa sn := by
 obtain ⟨us, v1, v2, v3, v4, F0, F1, F2, F3, F4, e, _, h0, h1, h2, h3, h4, _⟩ := world_own.1 h
 have hl : us.length = 6 := cos.coordR.ownLen h0
 match us, hl with
 | [u0, u1, u2, u3, u4, u5], _ =>
  simp only [List.cons_append, List.nil_append, List.cons.injEq, and_true] at e
  obtain ⟨_, _, _, _, _, _, rfl, _, _, _⟩ := e
  exact plain_ownS h1
theorem plainO_below {w w' : World} {a : Option Addr} {n : Nat} {l : List Orr} (h : SlG ordR w a n l) (hp : PlainO w a n) (hB : Below w.heap.size w w') : PlainO w' a n := fun b off e i hi pa pl pc hc => by
 subst e
 have hil : i < l.length := by have := h.1; omega
 have hlt : b < w.heap.size := World.block_lt_of_cell? _ _ (ord_at h i hil).1
 exact hp b off rfl i hi pa pl pc ((hB.cell (p := ⟨b, off + i * 2 + 1, none⟩) hlt).symm.trans hc)
theorem plainS_below {w w' : World} {a : Option Addr} {n : Nat} {l : List recs.Shd} (h : SlG shardR w a n l) (hp : PlainS w a n) (hB : Below w.heap.size w w') : PlainS w' a n := fun b off e i hi la ln lc hc => by
 subst e
 have hil : i < l.length := by have := h.1; omega
 obtain ⟨la', ln', lc', ma', mn', mc', ha', hn', hc', q0, q1, _, _, _, hs⟩ := shard_at h i hil
 have h1 := (hB.cell (p := ⟨b, off + i * 5 + 1, none⟩) (World.block_lt_of_cell? _ _ q1)).trans q1
 rw [hc] at h1
 have hv := Option.some.inj h1
 simp only [Value.slice.injEq] at hv
 obtain ⟨rfl, rfl, rfl⟩ := hv
 exact recs.plain_below hs.log (hp b off rfl i hi _ _ _ q1) hB
set_option maxRecDepth 100000 in
set_option maxHeartbeats 8000000 in
theorem impl_worldOk (ja : Option Addr) (jn jc : Nat) (la : Option Addr) (ln lc : Nat) (sa : Option Addr) (sn sc : Nat) (na : Option Addr) (nn nc : Nat) (oa : Option Addr) (on oc : Nat) (ba : Option Addr) (bn bc : Nat) (x : Wo) (w : World) (h : SeeWo w ja jn jc la ln lc sa sn sc na nn nc oa on oc ba bn bc x) (hp : PlainO w ba bn) (hps : PlainS w sa sn) (hf : FitW x) :
 Calls Tryz.prog 8 #[.agg #[.int .i64 x.1.1, .int .i64 x.1.2.1, .int .i64 x.1.2.2.1, .slice ja jn jc, .slice la ln lc, .int .i64 x.1.2.2.2.2.2, .slice sa sn sc, .slice na nn nc, .slice oa on oc, .slice ba bn bc]] w fun e w' => e = .returned (.bool (worldOk x)) ∧ Below w.heap.size w w' := by
 obtain ⟨W, hW⟩ : ∃ W, w.alloc (.cells #[.int .i64 x.1.1, .int .i64 x.1.2.1, .int .i64 x.1.2.2.1, .slice ja jn jc, .slice la ln lc, .int .i64 x.1.2.2.2.2.2, .slice sa sn sc, .slice na nn nc, .slice oa on oc, .slice ba bn bc] 41) = W := ⟨_, rfl⟩
 have hB : Below w.heap.size w W := by rw [← hW]; exact below_make
 have hX : BoxIn w.heap.size 41 [] [.int .i64 x.1.1, .int .i64 x.1.2.1, .int .i64 x.1.2.2.1, .slice ja jn jc, .slice la ln lc, .int .i64 x.1.2.2.2.2.2, .slice sa sn sc, .slice na nn nc, .slice oa on oc, .slice ba bn bc] [] W := by rw [← hW]; exact boxIn_new w _ _
 have HR : Hid (worldOk x = (cos.coordOk x.1 && (decide ((sn : Int) = x.1.1) && shsO x.2.1) && wordsO x.1.1 x.2.2.1 && wordsO x.1.1 x.2.2.2.1 && begO (x.1.2.1 * 1000 + x.1.2.2.1) x.2.2.2.2 && (x.1.2.2.2.1.all (jobA x.2.2.2.2) && x.1.2.2.2.2.1.all (logA x.2.2.2.2)))) := by
  show _ = _
  unfold worldOk allO
  rw [h.sh.1]
  simp only [Bool.and_assoc, Bool.and_left_comm, Bool.and_comm]
 have HC0 := Hid.mk' (cos.impl_coordOk ja jn jc la ln lc x.1 W (h.co.below hB) hf.co)
 have HC1 := Hid.mk' (fun wx (hx : Below W.heap.size W wx) => i_shardsOk sa sn sc x.2.1 x.1.1 wx ((h.sh.below hB).below hx) (plainS_below (h.sh.below hB) (plainS_below h.sh hps hB) hx) hf.sh)
 have HC2 := Hid.mk' (fun wx (hx : Below W.heap.size W wx) => i_wordsOk na nn nc x.2.2.1 x.1.1 wx ((h.net.below hB).below hx) hf.net)
 have HC3 := Hid.mk' (fun wx (hx : Below W.heap.size W wx) => i_wordsOk oa on oc x.2.2.2.1 x.1.1 wx ((h.outs.below hB).below hx) hf.outs)
 have HC4 := Hid.mk' (fun (hl : cos.coordOk x.1 = true) wx (hx : Below W.heap.size W wx) => i_begunOf ja jn jc la ln lc sa sn sc na nn nc oa on oc ba bn bc w.heap.size x wx (hX.below hx) ((h.begun.below hB).below hx) (plainO_below (h.begun.below hB) (plainO_below h.begun hp hB) hx) (coord_bounds hl).1 (coord_bounds hl).2 hf.beg)
 have HC5 := Hid.mk' (fun (w0 wx : World) (B m : Nat) (hM : OrdM w0 wx B m (firstO x.2.2.2.2)) (h0 : Below w0.heap.size w0 wx) (hx : Below W.heap.size W wx) => i_haveAll w0 B m w.heap.size 41 [.slice sa sn sc, .slice na nn nc, .slice oa on oc, .slice ba bn bc] x.2.2.2.2 ja jn jc la ln lc x.1 wx hM h0 (world_co ja jn jc la ln lc sa sn sc na nn nc oa on oc ba bn bc (hX.below hx)) ((h.co.below hB).below hx))
 have HW := Hid.mk' hW
 generalize worldOk x = R at *
 generalize (x.1.2.2.2.1.all (jobA x.2.2.2.2) && x.1.2.2.2.2.1.all (logA x.2.2.2.2)) = r5 at *
 generalize begO (x.1.2.1 * 1000 + x.1.2.2.1) x.2.2.2.2 = r4 at *
 generalize wordsO x.1.1 x.2.2.2.1 = r3 at *
 generalize wordsO x.1.1 x.2.2.1 = r2 at *
 generalize (decide ((sn : Int) = x.1.1) && shsO x.2.1) = r1 at *
 generalize cos.coordOk x.1 = r0 at *
 obtain ⟨a0, a1, a2, a3, a4, a5, a6, a7, a8, a9⟩ := cells10 hX
 rw [← hW] at a0 a1 a2 a3 a4 a5 a6 a7 a8 a9
 clear hW h hf hp hps
 go_enter Tryz.func8, Tryz.ntmps8
 go_wp2_with fail
 rw [HW.out]
 refine HC0.out.mono ?_
 rintro e w1 ⟨rfl, hb1⟩
 have hB1 := hB.trans (hb1.mono hB.size)
 clear a0 a1 a2 a3 a4 a5 a6 a7 a8 a9 HC0 HW
 obtain ⟨a0, a1, a2, a3, a4, a5, a6, a7, a8, a9⟩ := cells10 (hX.below hb1)
 cases r0
 · have HF : Hid (R = false) := by show _ = _; rw [HR.out]; simp
   clear HR
   go_wp2_with fail
   go_ret
   exact ⟨by rw [HF.out]; rfl, hB1⟩
 have HC6 := Hid.mk' (HC4.out rfl)
 clear HC4
 go_wp2_with fail
 refine (HC1.out _ hb1).mono ?_
 rintro e w2 ⟨rfl, hc2⟩
 have hb2 := hb1.trans (hc2.mono hb1.size)
 have hB2 := hB.trans (hb2.mono hB.size)
 clear a0 a1 a2 a3 a4 a5 a6 a7 a8 a9 HC1
 obtain ⟨a0, a1, a2, a3, a4, a5, a6, a7, a8, a9⟩ := cells10 (hX.below hb2)
 cases r1
 · have HF : Hid (R = false) := by show _ = _; rw [HR.out]; simp
   clear HR
   go_wp2_with fail
   go_ret
   exact ⟨by rw [HF.out]; rfl, hB2⟩
 go_wp2_with fail
 refine (HC2.out _ hb2).mono ?_
 rintro e w3 ⟨rfl, hc3⟩
 have hb3 := hb2.trans (hc3.mono hb2.size)
 have hB3 := hB.trans (hb3.mono hB.size)
 clear a0 a1 a2 a3 a4 a5 a6 a7 a8 a9 HC2
 obtain ⟨a0, a1, a2, a3, a4, a5, a6, a7, a8, a9⟩ := cells10 (hX.below hb3)
 cases r2
 · have HF : Hid (R = false) := by show _ = _; rw [HR.out]; simp
   clear HR
   go_wp2_with fail
   go_ret
   exact ⟨by rw [HF.out]; rfl, hB3⟩
 go_wp2_with fail
 refine (HC3.out _ hb3).mono ?_
 rintro e w4 ⟨rfl, hc4⟩
 have hb4 := hb3.trans (hc4.mono hb3.size)
 have hB4 := hB.trans (hb4.mono hB.size)
 clear a0 a1 a2 a3 a4 a5 a6 a7 a8 a9 HC3
 obtain ⟨a0, a1, a2, a3, a4, a5, a6, a7, a8, a9⟩ := cells10 (hX.below hb4)
 cases r3
 · have HF : Hid (R = false) := by show _ = _; rw [HR.out]; simp
   clear HR
   go_wp2_with fail
   go_ret
   exact ⟨by rw [HF.out]; rfl, hB4⟩
 go_wp2_with fail
 refine (HC6.out _ hb4).mono ?_
 intro e w5 hpost
 clear a0 a1 a2 a3 a4 a5 a6 a7 a8 a9 HC6
 cases r4
 · obtain ⟨hc5, rfl⟩ := hpost
   have HF : Hid (R = false) := by show _ = _; rw [HR.out]; simp
   clear HR
   go_wp2_with fail
   go_ret
   exact ⟨by rw [HF.out]; rfl, hB4.trans (hc5.mono hB4.size)⟩
 · obtain ⟨hc5, B, m, rfl, hM⟩ := hpost
   have HF : Hid (R = r5) := by show _ = _; rw [HR.out]; simp
   have hb5 := hb4.trans (hc5.mono hb4.size)
   have hB5 := hB.trans (hb5.mono hB.size)
   clear HR
   go_wp2_with fail
   refine (HC5.out w4 _ B m hM hc5 hb5).mono ?_
   rintro e w6 ⟨rfl, hc6⟩
   go_wp2_with fail
   go_ret
   exact ⟨by rw [HF.out]; rfl, hB5.trans (hc6.mono hB5.size)⟩
end wos
end Go.Proofs.YtijplooogplccaaGreat
