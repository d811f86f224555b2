/- CoQ CoR -/
import Derived.Test.YtijplooogplccaaGreatShbg
import Derived.Test.YtijplooogplccaaGreatShag
set_option linter.unusedVariables false
set_option linter.unusedSimpArgs false
namespace Go.Proofs.YtijplooogplccaaGreat
namespace cos
open Go Go.RowKit base pairs ords lay wds
def fromOf (life : Int) (p : Option Int) : Int := match p with | none => life * 1000 | some q => q + 1
def jobI (n life next : Int) (log : List Ch) (fr : Int) (j : Jb) : Bool := !decide (j.1 < fr) && (!decide (life * 1000 + next ≤ j.1) && (opsOk j.2.1 && (yesOk (shardsOf n j.2.1) none j.2.2.2 && stateI log j.1 j.2.2.1)))
theorem jobI_eq {n life next : Int} {log : List Ch} (hn : (log.map fun c => c.1).Nodup) (p : Option Int) (hp : ∀ q, p = some q → life * 1000 ≤ q) (j : Jb) : jobI n life next log (fromOf life p) j = jobOk n life next log p j := by
 have bool : ∀ a b d b2 b3 b4 b5 b6 : Bool, (a && b) = (d && b2) → (a && (b && (b3 && (b4 && (b5 && b6))))) = (d && b2 && b3 && b5 && b4 && b6) := by decide
 unfold jobI jobOk
 rw [stateI_eq hn]
 refine bool _ _ _ _ _ _ _ _ ?_
 cases p with
 | none =>
  rw [show fromOf life none = life * 1000 from rfl]
  show _ = (_ && true)
  rw [Bool.and_true]
  by_cases h1 : j.1 < life * 1000
  · rw [decide_eq_true h1, decide_eq_false (p := life * 1000 ≤ j.1 ∧ j.1 ≤ life * 1000 + next - 1) (by omega)]; rfl
  · rw [decide_eq_false h1]
    by_cases h2 : life * 1000 + next ≤ j.1
    · rw [decide_eq_true h2, decide_eq_false (p := life * 1000 ≤ j.1 ∧ j.1 ≤ life * 1000 + next - 1) (by omega)]; rfl
    · rw [decide_eq_false h2, decide_eq_true (p := life * 1000 ≤ j.1 ∧ j.1 ≤ life * 1000 + next - 1) (by omega)]; rfl
 | some q =>
  have hq := hp q rfl
  rw [show fromOf life (some q) = q + 1 from rfl]
  show _ = (_ && decide (q < j.1))
  by_cases h1 : j.1 < q + 1
  · rw [decide_eq_true h1, decide_eq_false (show ¬ q < j.1 by omega)]; simp
  · rw [decide_eq_false h1, decide_eq_true (show q < j.1 by omega)]
    by_cases h2 : life * 1000 + next ≤ j.1
    · rw [decide_eq_true h2, decide_eq_false (p := life * 1000 ≤ j.1 ∧ j.1 ≤ life * 1000 + next - 1) (by omega)]; rfl
    · rw [decide_eq_false h2, decide_eq_true (p := life * 1000 ≤ j.1 ∧ j.1 ≤ life * 1000 + next - 1) (by omega)]; rfl
set_option maxRecDepth 100000 in
set_option maxHeartbeats 4000000 in
theorem i_jobsOk (X : Nat) (T : TypeId) (pre post : List Value) (n life next sure : Int) (ja : Option Addr) (jn jc : Nat) (la : Option Addr) (ln lc : Nat) (jobs : List Jb) (log : List Ch) (B m : Nat) (w : World) (hbx : BoxIn X T pre (coVals n life next sure ja jn jc la ln lc) post w) (hj : SlG jobR w ja jn jobs) (hM : Made w B m log) (hnd : (log.map fun c => c.1).Nodup) (hnw : 1 ≤ n ∧ n ≤ 8) (hlf : 1 ≤ life ∧ life ≤ 900) (hnx0 : 0 ≤ next ∧ next ≤ 999)
 (hfj : ∀ j ∈ jobs, j.2.1.length ≤ 1099511627776 ∧ (∀ p ∈ j.2.1, p.2.1.size ≤ 1099511627776)) :
 Calls Tryz.prog 93 #[.pointer (some ⟨X, pre.length, none⟩), .map (some B)] w fun e w' => e = .returned (.bool (jobsOk n life next log none jobs)) ∧ Below w.heap.size w w' := by
 have hjl := hj.1
 have hjm := hj.2.1
 unfold maxLen at hjm
 have c3 := hbx.cell 3 _ rfl
 have hnwf : (Lit.int .i64 n).wf = true := WalkArith.wf_i64 (by omega)
 have HFT := Hid.mk' (i_firstTx X T pre post n life next sure ja jn jc la ln lc w hbx hlf)
 generalize hR : jobsOk n life next log none jobs = R
 have HR := Hid.mk' hR
 have HFJ := Hid.mk' hfj
 clear hR hfj
 go_enter Tryz.func93, Tryz.ntmps93
 go_wp2_with fail
 refine HFT.out.mono ?_
 rintro e w1 ⟨rfl, hw1⟩
 replace hw1 := hw1.symm
 subst hw1
 go_wp2_with fail
 go_loopw [15, 5] (fun i f wr => ∃ k : Nat, k ≤ jn ∧ i = .int .i64 (k : Int) ∧ f = .int .i64 (fromOf life (prevTx jobs k)) ∧ (∀ q, prevTx jobs k = some q → life * 1000 ≤ q ∧ q < life * 1000 + next) ∧ jobsOk n life next log (prevTx jobs k) (jobs.drop k) = R ∧ Below w.heap.size w wr) (fun i _ _ => jn - (intOf i).toNat)
 case atStart => exact ⟨0, Nat.zero_le _, rfl, rfl, fun q hq => (by cases hq), HR.out, Below.refl _ _⟩
 case round =>
  obtain ⟨k, hk, rfl, rfl, hpr, hres, hB⟩ := hrel
  clear c3 HFT
  by_cases hlt : k < jn
  · have hltl : k < jobs.length := by omega
    obtain ⟨jb, joff, e⟩ := slg_some hj (by omega)
    subst e
    have hS := hj.below hB
    obtain ⟨y0, y2, ⟨oa, ol, oc, y1, hO, hoc⟩, ya, yl, yc, y3, hY, hyc⟩ := job_at hS k hltl
    have hki : (k : Int) < (jn : Int) := by omega
    obtain ⟨hf1, hf2⟩ := HFJ.out _ (List.getElem_mem hltl)
    have hwf : (Lit.int .i64 jobs[k].1).wf = true := by
     obtain ⟨vs, hv⟩ := hS.2.2.1 jobs[k] (List.getElem_mem hltl)
     obtain ⟨_, _, _, _, _, _, _, k1, _⟩ := job_see.1 hv
     exact k1
    rw [jobs_step hltl, ← jobI_eq hnd _ (fun q hq => (hpr q hq).1)] at hres
    have HRES := Hid.mk' hres
    have HPS := Hid.mk' (prevTx_succ hltl)
    have HPR := Hid.mk' hpr
    clear hres hpr
    generalize jobs[k] = j at *
    obtain ⟨tx, ops, st, yes⟩ := j
    simp only [] at *
    have hxw := hbx.below hB
    have hMw := hM.below hB
    obtain ⟨fr, hfr⟩ : ∃ fr, fromOf life (prevTx jobs k) = fr := ⟨_, rfl⟩
    rw [hfr] at HRES
    simp only [hfr]
    have x0 := hxw.cell 0 _ rfl
    rw [Nat.add_zero] at x0
    have x3 := hxw.cell 3 _ rfl
    have o0 := last.On.cell (B := wr.heap.size) x0 (World.block_lt_of_cell? _ _ x0)
    have o1 := last.On.cell (B := wr.heap.size) x3 (World.block_lt_of_cell? _ _ x3)
    have p0 := last.On.cell (B := wr.heap.size) y0 (World.block_lt_of_cell? _ _ y0)
    have p1 := last.On.cell (B := wr.heap.size) y1 (World.block_lt_of_cell? _ _ y1)
    have p2 := last.On.cell (B := wr.heap.size) y2 (World.block_lt_of_cell? _ _ y2)
    have p3 := last.On.cell (B := wr.heap.size) y3 (World.block_lt_of_cell? _ _ y3)
    have hinh := last.On.inh wr.heap.size wr
    have hnx : ∀ x : last.On wr.heap.size wr, Calls Tryz.prog 61 #[.pointer (some ⟨X, pre.length, none⟩)] x.w fun e w' => e = .returned (.int .i64 (life * 1000 + next)) ∧ ∃ y : last.On wr.heap.size wr, w' = y.w := fun x => last.Calls.on x (Nat.le_refl _) (i_nextTx X T pre post n life next sure _ jn jc la ln lc x.w (hxw.below x.2) hlf hnx0)
    have hops : ∀ x : last.On wr.heap.size wr, Calls Tryz.prog 63 #[.slice oa ol oc] x.w fun e w' => e = .returned (.bool (opsOk ops)) ∧ ∃ y : last.On wr.heap.size wr, w' = y.w := fun x => last.Calls.on x (Nat.le_refl _) (impl_opsOkA oa ol oc ops x.w (hO.below x.2) hf2)
    have hst : ∀ x : last.On wr.heap.size wr, Calls Tryz.prog 135 #[.pointer (some ⟨jb, joff + k * 4, none⟩), .map (some B)] x.w fun e w' => e = .returned (.bool (stateI log tx st)) ∧ ∃ y : last.On wr.heap.size wr, w' = y.w := fun x => last.Calls.on x (Nat.le_refl _) (i_stateOk jb (joff + k * 4) tx st B m log x.w (p0 x) (p2 x) (hMw.below x.2) hwf)
    have HO := Hid.mk' hO
    have HY := Hid.mk' hY
    have HJI : Hid (jobI n life next log fr (tx, ops, st, yes) = (!decide (tx < fr) && (!decide (life * 1000 + next ≤ tx) && (opsOk ops && (yesOk (shardsOf n ops) none yes && stateI log tx st))))) := rfl
    clear hO hY hxw hMw x0 y0 y1 y2 y3 hS
    cases hd1 : decide (tx < fr)
    rotate_left
    · have HF : Hid (R = false) := by show _ = _; rw [← HRES.out, HJI.out, hd1]; rfl
      clear HRES HJI hst
      go_wp2_with fail
      refine last.wp_region_on wr.heap.size (by kernel_rfl) (by kernel_rfl) ?_
      repeat (go_big_quiet_step ((first | (go_at_call 61; with_reducible exact hnx _) | (go_at_call 63; with_reducible exact hops _))))
      refine wpQuiet_nil ?_
      intro wq hwq
      obtain ⟨xq, hwq⟩ := hwq
      subst hwq
      have hbq : Below wr.heap.size wr xq.w := xq.2
      generalize xq.w = w4 at *
      clear o0 o1 p0 p1 p2 p3 hnx hops hinh
      go_wp2_with fail
      go_ret
      exact ⟨ret_bool HF.out.symm, hB.trans (hbq.mono hB.size)⟩
    cases hd2 : decide (life * 1000 + next ≤ tx)
    rotate_left
    · have HF : Hid (R = false) := by show _ = _; rw [← HRES.out, HJI.out, hd1, hd2]; rfl
      clear HRES HJI hst
      go_wp2_with fail
      refine last.wp_region_on wr.heap.size (by kernel_rfl) (by kernel_rfl) ?_
      repeat (go_big_quiet_step ((first | (go_at_call 61; with_reducible exact hnx _) | (go_at_call 63; with_reducible exact hops _))))
      refine wpQuiet_nil ?_
      intro wq hwq
      obtain ⟨xq, hwq⟩ := hwq
      subst hwq
      have hbq : Below wr.heap.size wr xq.w := xq.2
      generalize xq.w = w4 at *
      clear o0 o1 p0 p1 p2 p3 hnx hops hinh
      go_wp2_with fail
      go_ret
      exact ⟨ret_bool HF.out.symm, hB.trans (hbq.mono hB.size)⟩
    cases hd3 : opsOk ops
    · have HF : Hid (R = false) := by show _ = _; rw [← HRES.out, HJI.out, hd1, hd2, hd3]; rfl
      rw [hd3] at hops
      clear HRES HJI hst hd3
      go_wp2_with fail
      refine last.wp_region_on wr.heap.size (by kernel_rfl) (by kernel_rfl) ?_
      repeat (go_big_quiet_step ((first | (go_at_call 61; with_reducible exact hnx _) | (go_at_call 63; with_reducible exact hops _))))
      refine wpQuiet_nil ?_
      intro wq hwq
      obtain ⟨xq, hwq⟩ := hwq
      subst hwq
      have hbq : Below wr.heap.size wr xq.w := xq.2
      generalize xq.w = w4 at *
      clear o0 o1 p0 p1 p2 p3 hnx hops hinh
      go_wp2_with fail
      go_ret
      exact ⟨ret_bool HF.out.symm, hB.trans (hbq.mono hB.size)⟩
    have hop8 := (opsOk_iff _).1 hd3
    have hol : ol = ops.length := HO.out.1.symm
    obtain ⟨ob, ooff, e, _⟩ := HO.out.2.2.2 (by omega)
    subst e
    have hyes : ∀ x : last.On wr.heap.size wr, Calls Tryz.prog 134 #[.pointer (some ⟨jb, joff + k * 4, none⟩), .int .i64 n] x.w fun e w' => e = .returned (.bool (yesOk (shardsOf n ops) none yes)) ∧ ∃ y : last.On wr.heap.size wr, w' = y.w := fun x => last.Calls.on x (Nat.le_refl _) (i_yesOk jb (joff + k * 4) tx st n ob ooff ol oc ya yl yc ops yes x.w (p1 x) (p3 x) (HO.out.below x.2) (HY.out.below x.2) hf2 (by omega) hnwf)
    rw [hd3] at hops
    have HD1 := Hid.mk' (of_decide_eq_false hd1)
    have HD2 := Hid.mk' (of_decide_eq_false hd2)
    clear hol hop8
    cases hd4 : yesOk (shardsOf n ops) none yes
    · have HF : Hid (R = false) := by show _ = _; rw [← HRES.out, HJI.out, hd1, hd2, hd3, hd4]; rfl
      rw [hd4] at hyes
      clear HRES HJI hst hd3 hd4
      go_wp2_with fail
      refine last.wp_region_on wr.heap.size (by kernel_rfl) (by kernel_rfl) ?_
      repeat (go_big_quiet_step ((first | (go_at_call 61; with_reducible exact hnx _) | (go_at_call 63; with_reducible exact hops _) | (go_at_call 134; with_reducible exact hyes _))))
      refine wpQuiet_nil ?_
      intro wq hwq
      obtain ⟨xq, hwq⟩ := hwq
      subst hwq
      have hbq : Below wr.heap.size wr xq.w := xq.2
      generalize xq.w = w4 at *
      clear o0 o1 p0 p1 p2 p3 hnx hops hinh hyes
      go_wp2_with fail
      go_ret
      exact ⟨ret_bool HF.out.symm, hB.trans (hbq.mono hB.size)⟩
    rw [hd4] at hyes
    cases hd5 : stateI log tx st
    · have HF : Hid (R = false) := by show _ = _; rw [← HRES.out, HJI.out, hd1, hd2, hd3, hd4, hd5]; rfl
      rw [hd5] at hst
      clear HRES HJI hd3 hd4 hd5
      go_wp2_with fail
      refine last.wp_region_on wr.heap.size (by kernel_rfl) (by kernel_rfl) ?_
      repeat (go_big_quiet_step ((first | (go_at_call 61; with_reducible exact hnx _) | (go_at_call 63; with_reducible exact hops _) | (go_at_call 134; with_reducible exact hyes _) | (go_at_call 135; with_reducible exact hst _))))
      refine wpQuiet_nil ?_
      intro wq hwq
      obtain ⟨xq, hwq⟩ := hwq
      subst hwq
      have hbq : Below wr.heap.size wr xq.w := xq.2
      generalize xq.w = w4 at *
      clear o0 o1 p0 p1 p2 p3 hnx hops hinh hyes hst
      go_wp2_with fail
      go_ret
      exact ⟨ret_bool HF.out.symm, hB.trans (hbq.mono hB.size)⟩
    · have HF : Hid (jobsOk n life next log (some tx) (jobs.drop (k + 1)) = R) := by show _ = _; rw [← HRES.out, HJI.out, hd1, hd2, hd3, hd4, hd5]; rfl
      rw [hd5] at hst
      have HLO : Hid (life * 1000 ≤ tx ∧ tx < life * 1000 + next) := by
       have h1 := HD1.out
       have h2 := HD2.out
       refine ⟨?_, by omega⟩
       rw [← hfr] at h1
       cases hpt : prevTx jobs k with
       | none => rw [hpt] at h1; unfold fromOf at h1; simp only [] at h1; omega
       | some q => rw [hpt] at h1; have := (HPR.out q hpt).1; unfold fromOf at h1; simp only [] at h1; omega
      clear HRES HJI hd3 hd4 hd5
      go_wp2_with fail
      refine last.wp_region_on wr.heap.size (by kernel_rfl) (by kernel_rfl) ?_
      repeat (go_big_quiet_step ((first | (go_at_call 61; with_reducible exact hnx _) | (go_at_call 63; with_reducible exact hops _) | (go_at_call 134; with_reducible exact hyes _) | (go_at_call 135; with_reducible exact hst _))))
      refine wpQuiet_nil ?_
      intro wq hwq
      obtain ⟨xq, hwq⟩ := hwq
      subst hwq
      have hbq : Below wr.heap.size wr xq.w := xq.2
      have t0 := p0 xq
      generalize xq.w = w4 at *
      clear p0
      clear o0 o1 p1 p2 p3 hnx hops hinh hyes hst
      have htl := HLO.out
      have w1 : IntKind.i64.wrap (tx + 1) = tx + 1 := by rw [IntKind.wrap_i64]; omega
      go_wp2_with fail
      go_roundw
      case rel => exact ⟨k + 1, by omega, by go_num, by rw [HPS.out]; rfl, fun q hq => by rw [HPS.out] at hq; cases hq; exact HLO.out, by rw [HPS.out]; exact HF.out, hB.trans (hbq.mono hB.size)⟩
      case measure => simp [intOf]; omega
  · have hke : jobs.drop k = [] := List.drop_eq_nil_of_le (by omega)
    rw [hke] at hres
    have HRE : Hid (R = true) := by show _ = _; rw [← hres]; cases prevTx jobs k <;> rfl
    have hki : ¬ (k : Int) < (jn : Int) := by omega
    clear hres hbx hj hM
    go_wp2_with fail
    go_ret
    exact ⟨ret_bool HRE.out.symm, hB⟩
end cos
namespace cos
open Go Go.RowKit base pairs ords lay wds
theorem i_countOk (n : Int) (w : World) : Calls Tryz.prog 91 #[.int .i64 n] w fun e w' => e = .returned (.bool (decide (1 ≤ n ∧ n ≤ 8))) ∧ w' = w := by
 by_cases h1 : 1 ≤ n
 · by_cases h2 : n ≤ 8
   · rw [decide_eq_true ⟨h1, h2⟩]
     go_enter Tryz.func91, Tryz.ntmps91
     go_wp2
     go_ret
     exact ⟨by simp [h2], rfl⟩
   · rw [decide_eq_false (fun h => h2 h.2)]
     go_enter Tryz.func91, Tryz.ntmps91
     go_wp2
     go_ret
     exact ⟨by simp [h2], rfl⟩
 · rw [decide_eq_false (fun h => h1 h.1)]
   go_enter Tryz.func91, Tryz.ntmps91
   go_wp2
   go_ret
   exact ⟨rfl, rfl⟩
def CkPost (w : World) (c : Co) (e : Ending) (w' : World) : Prop :=
 Below w.heap.size w w' ∧ ((coordOk c = false ∧ ∃ v, e = .returned (.tuple #[v, .bool false])) ∨ (coordOk c = true ∧ ∃ B m, e = .returned (.tuple #[.map (some B), .bool true]) ∧ Made w' B m c.2.2.2.2.1))
theorem ckPost_no {w w' : World} {c : Co} {v : Value} (hb : Below w.heap.size w w') (h : coordOk c = false) : CkPost w c (.returned (.tuple #[v, .bool false])) w' := ⟨hb, .inl ⟨h, v, rfl⟩⟩
theorem ckPost_yes {w w' : World} {c : Co} {B m : Nat} (hb : Below w.heap.size w w') (h : coordOk c = true) (hM : Made w' B m c.2.2.2.2.1) : CkPost w c (.returned (.tuple #[.map (some B), .bool true])) w' := ⟨hb, .inr ⟨h, B, m, rfl, hM⟩⟩
set_option maxRecDepth 100000 in
set_option maxHeartbeats 4000000 in
theorem i_checked (X : Nat) (T : TypeId) (pre post : List Value) (n life next sure : Int) (ja : Option Addr) (jn jc : Nat) (la : Option Addr) (ln lc : Nat) (jobs : List Jb) (log : List Ch) (w : World) (hbx : BoxIn X T pre (coVals n life next sure ja jn jc la ln lc) post w) (hj : SlG jobR w ja jn jobs) (hl : SlG chR w la ln log)
 (hfj : ∀ j ∈ jobs, j.2.1.length ≤ 1099511627776 ∧ (∀ p ∈ j.2.1, p.2.1.size ≤ 1099511627776)) :
 Calls Tryz.prog 58 #[.pointer (some ⟨X, pre.length, none⟩)] w (CkPost w (n, life, next, jobs, log, sure)) := by
 have hll := hl.1
 have hlm := hl.2.1
 unfold maxLen at hlm
 have HR : Hid (coordOk (n, life, next, jobs, log, sure) = (decide (1 ≤ n ∧ n ≤ 8) && decide (1 ≤ life ∧ life ≤ 900) && decide (0 ≤ next ∧ next ≤ 999) && decide (ln ≤ 1000) && decide (0 ≤ sure ∧ sure ≤ (ln : Int)) && logOk (life * 1000 + next - 1) log && jobsOk n life next log none jobs)) := by
  show _ = _
  rw [← hll]; rfl
 have x0 := hbx.cell 0 _ rfl
 rw [Nat.add_zero] at x0
 have x1 := hbx.cell 1 _ rfl
 have x2 := hbx.cell 2 _ rfl
 have x4 := hbx.cell 4 _ rfl
 have x5 := hbx.cell 5 _ rfl
 have o0 := last.On.cell (B := w.heap.size) x0 (World.block_lt_of_cell? _ _ x0)
 have o1 := last.On.cell (B := w.heap.size) x1 (World.block_lt_of_cell? _ _ x1)
 have o2 := last.On.cell (B := w.heap.size) x2 (World.block_lt_of_cell? _ _ x2)
 have o4 := last.On.cell (B := w.heap.size) x4 (World.block_lt_of_cell? _ _ x4)
 have o5 := last.On.cell (B := w.heap.size) x5 (World.block_lt_of_cell? _ _ x5)
 have hinh := last.On.inh w.heap.size w
 have hco : ∀ x : last.On w.heap.size w, Calls Tryz.prog 91 #[.int .i64 n] x.w fun e w' => e = .returned (.bool (decide (1 ≤ n ∧ n ≤ 8))) ∧ ∃ y : last.On w.heap.size w, w' = y.w := fun x => last.Calls.on x (Nat.le_refl _) ((i_countOk n x.w).mono fun e w' ⟨he, hw⟩ => ⟨he, by rw [hw]; exact Below.refl _ _⟩)
 clear x0 x1 x2 x4 x5
 cases hd0 : decide (1 ≤ n ∧ n ≤ 8)
 · have HF : Hid (coordOk (n, life, next, jobs, log, sure) = false) := by show _ = _; rw [HR.out, hd0]; rfl
   rw [hd0] at hco
   clear HR hd0 hbx hj hl hfj
   go_enter Tryz.func58, Tryz.ntmps58
   go_wp2_with fail
   refine last.wp_region_on w.heap.size (by kernel_rfl) (by kernel_rfl) ?_
   repeat (go_big_quiet_step ((first | (go_at_call 91; with_reducible exact hco _))))
   refine wpQuiet_nil ?_
   intro wq hwq
   obtain ⟨xq, hwq⟩ := hwq
   subst hwq
   have hbq : Below w.heap.size w xq.w := xq.2
   generalize xq.w = w4 at *
   clear o0 o1 o2 o4 o5 hinh hco
   go_wp2_with fail
   go_returns
   exact ckPost_no hbq HF.out
 rw [hd0] at hco
 cases he0 : decide (life < 1)
 rotate_left
 · have HF : Hid (coordOk (n, life, next, jobs, log, sure) = false) := by
    show _ = _
    have hq := of_decide_eq_true he0
    rw [HR.out, decide_eq_false (show ¬ (1 ≤ life ∧ life ≤ 900) by omega)]; simp
   clear HR hbx hj hl hfj
   go_enter Tryz.func58, Tryz.ntmps58
   go_wp2_with fail
   refine last.wp_region_on w.heap.size (by kernel_rfl) (by kernel_rfl) ?_
   repeat (go_big_quiet_step ((first | (go_at_call 91; with_reducible exact hco _))))
   refine wpQuiet_nil ?_
   intro wq hwq
   obtain ⟨xq, hwq⟩ := hwq
   subst hwq
   have hbq : Below w.heap.size w xq.w := xq.2
   generalize xq.w = w4 at *
   clear o0 o1 o2 o4 o5 hinh hco
   go_wp2_with fail
   go_returns
   exact ckPost_no hbq HF.out
 cases he1 : decide (900 < life)
 rotate_left
 · have HF : Hid (coordOk (n, life, next, jobs, log, sure) = false) := by
    show _ = _
    have hq := of_decide_eq_true he1
    rw [HR.out, decide_eq_false (show ¬ (1 ≤ life ∧ life ≤ 900) by omega)]; simp
   clear HR hbx hj hl hfj
   go_enter Tryz.func58, Tryz.ntmps58
   go_wp2_with fail
   refine last.wp_region_on w.heap.size (by kernel_rfl) (by kernel_rfl) ?_
   repeat (go_big_quiet_step ((first | (go_at_call 91; with_reducible exact hco _))))
   refine wpQuiet_nil ?_
   intro wq hwq
   obtain ⟨xq, hwq⟩ := hwq
   subst hwq
   have hbq : Below w.heap.size w xq.w := xq.2
   generalize xq.w = w4 at *
   clear o0 o1 o2 o4 o5 hinh hco
   go_wp2_with fail
   go_returns
   exact ckPost_no hbq HF.out
 cases he2 : decide (next < 0)
 rotate_left
 · have HF : Hid (coordOk (n, life, next, jobs, log, sure) = false) := by
    show _ = _
    have hq := of_decide_eq_true he2
    rw [HR.out, decide_eq_false (show ¬ (0 ≤ next ∧ next ≤ 999) by omega)]; simp
   clear HR hbx hj hl hfj
   go_enter Tryz.func58, Tryz.ntmps58
   go_wp2_with fail
   refine last.wp_region_on w.heap.size (by kernel_rfl) (by kernel_rfl) ?_
   repeat (go_big_quiet_step ((first | (go_at_call 91; with_reducible exact hco _))))
   refine wpQuiet_nil ?_
   intro wq hwq
   obtain ⟨xq, hwq⟩ := hwq
   subst hwq
   have hbq : Below w.heap.size w xq.w := xq.2
   generalize xq.w = w4 at *
   clear o0 o1 o2 o4 o5 hinh hco
   go_wp2_with fail
   go_returns
   exact ckPost_no hbq HF.out
 cases he3 : decide (999 < next)
 rotate_left
 · have HF : Hid (coordOk (n, life, next, jobs, log, sure) = false) := by
    show _ = _
    have hq := of_decide_eq_true he3
    rw [HR.out, decide_eq_false (show ¬ (0 ≤ next ∧ next ≤ 999) by omega)]; simp
   clear HR hbx hj hl hfj
   go_enter Tryz.func58, Tryz.ntmps58
   go_wp2_with fail
   refine last.wp_region_on w.heap.size (by kernel_rfl) (by kernel_rfl) ?_
   repeat (go_big_quiet_step ((first | (go_at_call 91; with_reducible exact hco _))))
   refine wpQuiet_nil ?_
   intro wq hwq
   obtain ⟨xq, hwq⟩ := hwq
   subst hwq
   have hbq : Below w.heap.size w xq.w := xq.2
   generalize xq.w = w4 at *
   clear o0 o1 o2 o4 o5 hinh hco
   go_wp2_with fail
   go_returns
   exact ckPost_no hbq HF.out
 cases he4 : decide (sure < 0)
 rotate_left
 · have HF : Hid (coordOk (n, life, next, jobs, log, sure) = false) := by
    show _ = _
    have hq := of_decide_eq_true he4
    rw [HR.out, decide_eq_false (show ¬ (0 ≤ sure ∧ sure ≤ (ln : Int)) by omega)]; simp
   clear HR hbx hj hl hfj
   go_enter Tryz.func58, Tryz.ntmps58
   go_wp2_with fail
   refine last.wp_region_on w.heap.size (by kernel_rfl) (by kernel_rfl) ?_
   repeat (go_big_quiet_step ((first | (go_at_call 91; with_reducible exact hco _))))
   refine wpQuiet_nil ?_
   intro wq hwq
   obtain ⟨xq, hwq⟩ := hwq
   subst hwq
   have hbq : Below w.heap.size w xq.w := xq.2
   generalize xq.w = w4 at *
   clear o0 o1 o2 o4 o5 hinh hco
   go_wp2_with fail
   go_returns
   exact ckPost_no hbq HF.out
 cases he5 : decide ((ln : Int) < sure)
 rotate_left
 · have HF : Hid (coordOk (n, life, next, jobs, log, sure) = false) := by
    show _ = _
    have hq := of_decide_eq_true he5
    rw [HR.out, decide_eq_false (show ¬ (0 ≤ sure ∧ sure ≤ (ln : Int)) by omega)]; simp
   clear HR hbx hj hl hfj
   go_enter Tryz.func58, Tryz.ntmps58
   go_wp2_with fail
   refine last.wp_region_on w.heap.size (by kernel_rfl) (by kernel_rfl) ?_
   repeat (go_big_quiet_step ((first | (go_at_call 91; with_reducible exact hco _))))
   refine wpQuiet_nil ?_
   intro wq hwq
   obtain ⟨xq, hwq⟩ := hwq
   subst hwq
   have hbq : Below w.heap.size w xq.w := xq.2
   generalize xq.w = w4 at *
   clear o0 o1 o2 o4 o5 hinh hco
   go_wp2_with fail
   go_returns
   exact ckPost_no hbq HF.out
 have hr0 := of_decide_eq_true hd0
 have hlf : 1 ≤ life ∧ life ≤ 900 := ⟨by have := of_decide_eq_false he0; omega, by have := of_decide_eq_false he1; omega⟩
 have hnx : 0 ≤ next ∧ next ≤ 999 := ⟨by have := of_decide_eq_false he2; omega, by have := of_decide_eq_false he3; omega⟩
 have hsu : 0 ≤ sure ∧ sure ≤ (ln : Int) := ⟨by have := of_decide_eq_false he4; omega, by have := of_decide_eq_false he5; omega⟩
 rw [hd0, decide_eq_true hlf, decide_eq_true hnx, decide_eq_true hsu] at HR
 have HCH := Hid.mk' (fun wx (hx : Below w.heap.size w wx) => i_choicesOf X T pre post n life next sure ja jn jc la ln lc log wx (hbx.below hx) (hl.below hx) hlf hnx)
 have HJB := Hid.mk' (fun B m wx (hx : Below w.heap.size w wx) (hM : Made wx B m log) (hn : (log.map fun c => c.1).Nodup) => i_jobsOk X T pre post n life next sure ja jn jc la ln lc jobs log B m wx (hbx.below hx) (hj.below hx) hM hn hr0 hlf hnx hfj)
 clear hbx hj hl hfj hr0 hlf hnx hsu
 go_enter Tryz.func58, Tryz.ntmps58
 go_wp2_with fail
 refine last.wp_region_on w.heap.size (by kernel_rfl) (by kernel_rfl) ?_
 repeat (go_big_quiet_step ((first | (go_at_call 91; with_reducible exact hco _))))
 refine wpQuiet_nil ?_
 intro wq hwq
 obtain ⟨xq, hwq⟩ := hwq
 subst hwq
 have hbq : Below w.heap.size w xq.w := xq.2
 generalize xq.w = w4 at *
 clear o0 o1 o2 o4 o5 hinh hco hd0 he0 he1 he2 he3 he4 he5
 go_wp2_with fail
 refine (HCH.out _ hbq).mono ?_
 rintro e w5 ⟨hb5, ⟨hno, rfl⟩ | ⟨hyes, B, m, rfl, hM⟩⟩
 · have hB5 := hbq.trans (hb5.mono hbq.size)
   have HF : Hid (coordOk (n, life, next, jobs, log, sure) = false) := by
    show _ = _
    rw [HR.out]
    revert hno
    generalize decide (ln ≤ 1000) = b1
    generalize logOk (life * 1000 + next - 1) log = b2
    generalize jobsOk n life next log none jobs = b3
    intro hno
    cases b1 <;> cases b2 <;> cases b3 <;> first | rfl | cases hno
   clear HR hno HCH HJB
   go_wp2_with fail
   go_returns
   exact ckPost_no hB5 HF.out
 · have hB5 := hbq.trans (hb5.mono hbq.size)
   have hnd : (log.map fun c => c.1).Nodup := logOk_nodup (by rw [Bool.and_eq_true] at hyes; exact hyes.2)
   have HJ5 := Hid.mk' (HJB.out B m w5 hB5 hM hnd)
   have HRJ : Hid (coordOk (n, life, next, jobs, log, sure) = jobsOk n life next log none jobs) := by
    show _ = _
    rw [HR.out]
    revert hyes
    generalize decide (ln ≤ 1000) = b1
    generalize logOk (life * 1000 + next - 1) log = b2
    generalize jobsOk n life next log none jobs = b3
    intro hno
    cases b1 <;> cases b2 <;> cases b3 <;> first | rfl | cases hno
   have HM := Hid.mk' hM
   clear HR hyes HCH HJB hM hnd
   cases hjo : jobsOk n life next log none jobs
   · rw [hjo] at HJ5 HRJ
     clear hjo
     go_wp2_with fail
     refine HJ5.out.mono ?_
     rintro e w6 ⟨rfl, hb6⟩
     go_wp2_with fail
     go_returns
     exact ckPost_no (hB5.trans (hb6.mono hB5.size)) HRJ.out
   · rw [hjo] at HJ5 HRJ
     clear hjo
     go_wp2_with fail
     refine HJ5.out.mono ?_
     rintro e w6 ⟨rfl, hb6⟩
     go_wp2_with fail
     go_returns
     exact ckPost_yes (hB5.trans (hb6.mono hB5.size)) HRJ.out (HM.out.below hb6)
theorem boxIn_co (w : World) (n life next sure : Int) (ja : Option Addr) (jn jc : Nat) (la : Option Addr) (ln lc : Nat) : BoxIn w.heap.size 36 [] (coVals n life next sure ja jn jc la ln lc) [] (w.alloc (coO n life next sure ja jn jc la ln lc)) := boxIn_new w _ _
theorem impl_coordOk (ja : Option Addr) (jn jc : Nat) (la : Option Addr) (ln lc : Nat) (c : Co) (w : World) (h : SeeCo w ja jn jc la ln lc c) (hf : FitsCo c) :
 Calls Tryz.prog 24 #[coV c.1 c.2.1 c.2.2.1 c.2.2.2.2.2 ja jn jc la ln lc] w fun e w' => e = .returned (.bool (coordOk c)) ∧ Below w.heap.size w w' := by
 obtain ⟨n, life, next, jobs, log, sure⟩ := c
 simp only [] at *
 have hb := below_new w (coO n life next sure ja jn jc la ln lc)
 have hS := h.below hb
 have HC := Hid.mk' (i_checked _ _ [] [] n life next sure ja jn jc la ln lc jobs log _ (boxIn_co w n life next sure ja jn jc la ln lc) hS.jobs hS.log hf.2.2)
 clear h hS hf
 go_enter Tryz.func24, Tryz.ntmps24
 go_wp2_with fail
 refine HC.out.mono ?_
 rintro e w1 ⟨hb1, ⟨hno, v, rfl⟩ | ⟨hyes, B, m, rfl, hM⟩⟩
 · go_wp2_with fail
   go_ret
   exact ⟨ret_bool hno.symm, hb.trans (hb1.mono hb.size)⟩
 · go_wp2_with fail
   go_ret
   exact ⟨ret_bool hyes.symm, hb.trans (hb1.mono hb.size)⟩
end cos
end Go.Proofs.YtijplooogplccaaGreat
