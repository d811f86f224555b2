/- CoU CoA OrdCopy CoC HelpP HelpQ -/
import Derived.Test.YtijplooogplccaaGreatShaf
import Derived.Handy
import Derived.Test.YtijplooogplccaaGreatShab
import Derived.Deep.Onto
import Derived.Test.YtijplooogplccaaGreatShad
import Derived.Test.YtijplooogplccaaGreatShaa
set_option linter.unusedVariables false
set_option linter.unusedSimpArgs false
namespace Go.Proofs.YtijplooogplccaaGreat
namespace cos
open Go Go.RowKit base pairs ords lay wds
theorem jobs_step {n life next : Int} {log : List Ch} {jobs : List Jb} {k : Nat} {p : Option Int} (hk : k < jobs.length) : jobsOk n life next log p (jobs.drop k) = (jobOk n life next log p jobs[k] && jobsOk n life next log (some jobs[k].1) (jobs.drop (k + 1))) := by
 rw [List.drop_eq_getElem_cons hk]; rfl
theorem prevTx_succ {jobs : List Jb} {k : Nat} (hk : k < jobs.length) : prevTx jobs (k + 1) = some jobs[k].1 := by
 unfold prevTx; simp [List.getElem?_eq_getElem hk]
theorem logOk_all {hi : Int} {log : List Ch} (h : ∀ j (hj : j < log.length), (1000 ≤ log[j].1 ∧ log[j].1 ≤ hi) ∧ chosen log log[j].1 = some j) : logOk hi log = true := by
 unfold logOk
 rw [Bool.and_eq_true, List.all_eq_true, decide_eq_true_iff]
 refine ⟨fun c hc => ?_, nodup_iff.2 fun i hi => (h i hi).2⟩
 obtain ⟨i, hi, rfl⟩ := List.getElem_of_mem hc
 exact decide_eq_true (h i hi).1
theorem logOk_no {hi : Int} {log : List Ch} {k : Nat} (hk : k < log.length) (h : ¬ ((1000 ≤ log[k].1 ∧ log[k].1 ≤ hi) ∧ chosen log log[k].1 = some k)) : logOk hi log = false := by
 cases e : logOk hi log
 · rfl
 · exfalso
   unfold logOk at e
   rw [Bool.and_eq_true, List.all_eq_true, decide_eq_true_iff] at e
   exact h ⟨of_decide_eq_true (e.1 _ (List.getElem_mem hk)), nodup_iff.1 e.2 k hk⟩
theorem idx_eq {r : Option Nat} {k : Nat} : idx r = (k : Int) ↔ r = some k := by
  cases r with
  | none => rw [idx_none]; constructor <;> intro h; omega; cases h
  | some j => rw [idx_some]; constructor
              · intro h; congr 1; omega
              · intro h; cases h; rfl
def FitsCo (c : Co) : Prop := c.2.2.2.1.length ≤ 1099511627776 ∧ c.2.2.2.2.1.length ≤ 1099511627776 ∧ ∀ j ∈ c.2.2.2.1, j.2.1.length ≤ 1099511627776 ∧ (∀ p ∈ j.2.1, p.2.1.size ≤ 1099511627776)
set_option maxRecDepth 100000 in
set_option maxHeartbeats 4000000 in
theorem spec_coordOk (ja : Option Addr) (jn jc : Nat) (la : Option Addr) (ln lc : Nat) (c : Co) (w : World) (h : SeeCo w ja jn jc la ln lc c) (hf : FitsCo c) :
 Calls Tryz.prog 16 #[coV c.1 c.2.1 c.2.2.1 c.2.2.2.2.2 ja jn jc la ln lc] w fun e w' => e = .returned (.bool (coordOk c)) ∧ Below w.heap.size w w' := by
 obtain ⟨n, life, next, jobs, log, sure⟩ := c
 simp only [] at *
 have hjl : jobs.length = jn := h.jobs.1
 have hll : log.length = ln := h.log.1
 have hjf : jobs.length ≤ 1099511627776 := hf.1
 have hlf2 : log.length ≤ 1099511627776 := hf.2.1
 have HFJ : Hid (∀ j ∈ jobs, j.2.1.length ≤ 1099511627776 ∧ (∀ p ∈ j.2.1, p.2.1.size ≤ 1099511627776)) := hf.2.2
 obtain ⟨W, hW⟩ : ∃ W, w.alloc (coO n life next sure ja jn jc la ln lc) = W := ⟨_, rfl⟩
 have hB : Below w.heap.size w W := by rw [← hW]; exact below_new _ _
 have hbx : BoxC w.heap.size n life next sure ja jn jc la ln lc W := by rw [← hW]; exact boxC_new _ _ _ _ _ _ _ _ _ _ _
 have HS := Hid.mk' (h.below hB)
 have HBX := Hid.mk' hbx
 obtain ⟨x0, x1, x2, x3, x4, x5⟩ := hbx.cells
 have HW := Hid.mk' hW
 have HI1 := Hid.mk' (s_inZ n 1 8 W)
 have HI2 := Hid.mk' (s_inZ life 1 900 W)
 have HI3 := Hid.mk' (s_inZ next 0 999 W)
 have HI5 := Hid.mk' (s_inZ sure 0 (ln : Int) W)
 have HR : Hid (coordOk (n, life, next, jobs, log, sure) = (decide (1 ≤ n ∧ n ≤ 8) && decide (1 ≤ life ∧ life ≤ 900) && decide (0 ≤ next ∧ next ≤ 999) && decide (ln ≤ 1000) && decide (0 ≤ sure ∧ sure ≤ (ln : Int)) && logOk (life * 1000 + next - 1) log && jobsOk n life next log none jobs)) := by
  show _ = _
  rw [← hll]; rfl
 clear h hf hW hbx
 rw [← HW.out] at x0 x1 x2 x3 x4 x5
 cases hd0 : decide (1 ≤ n ∧ n ≤ 8)
 · rw [hd0] at HR HI1
   clear hd0
   have HF : Hid (coordOk (n, life, next, jobs, log, sure) = false) := by show _ = _; rw [HR.out]; simp
   go_enter Tryz.func16, Tryz.ntmps16
   go_wp2_with fail
   rw [HW.out]
   refine HI1.out.mono ?_
   rintro e w1 ⟨rfl, hw1⟩
   replace hw1 := hw1.symm
   subst hw1
   rw [HW.out] at x0 x1 x2 x3 x4 x5
   go_wp2_with fail
   go_ret
   exact ⟨ret_bool HF.out.symm, hB⟩
 · have hr0 := of_decide_eq_true hd0
   rw [hd0] at HR HI1
   clear hd0
   cases hd1 : decide (1 ≤ life ∧ life ≤ 900)
   · rw [hd1] at HR HI2
     clear hd1
     have HF : Hid (coordOk (n, life, next, jobs, log, sure) = false) := by show _ = _; rw [HR.out]; simp
     go_enter Tryz.func16, Tryz.ntmps16
     go_wp2_with fail
     rw [HW.out]
     refine HI1.out.mono ?_
     rintro e w1 ⟨rfl, hw1⟩
     replace hw1 := hw1.symm
     subst hw1
     rw [HW.out] at x0 x1 x2 x3 x4 x5
     go_wp2_with fail
     refine HI2.out.mono ?_
     rintro e w1 ⟨rfl, hw1⟩
     replace hw1 := hw1.symm
     subst hw1
     go_wp2_with fail
     go_ret
     exact ⟨ret_bool HF.out.symm, hB⟩
   · have hr1 := of_decide_eq_true hd1
     rw [hd1] at HR HI2
     clear hd1
     cases hd2 : decide (0 ≤ next ∧ next ≤ 999)
     · rw [hd2] at HR HI3
       clear hd2
       have HF : Hid (coordOk (n, life, next, jobs, log, sure) = false) := by show _ = _; rw [HR.out]; simp
       go_enter Tryz.func16, Tryz.ntmps16
       go_wp2_with fail
       rw [HW.out]
       refine HI1.out.mono ?_
       rintro e w1 ⟨rfl, hw1⟩
       replace hw1 := hw1.symm
       subst hw1
       rw [HW.out] at x0 x1 x2 x3 x4 x5
       go_wp2_with fail
       refine HI2.out.mono ?_
       rintro e w1 ⟨rfl, hw1⟩
       replace hw1 := hw1.symm
       subst hw1
       go_wp2_with fail
       refine HI3.out.mono ?_
       rintro e w1 ⟨rfl, hw1⟩
       replace hw1 := hw1.symm
       subst hw1
       go_wp2_with fail
       go_ret
       exact ⟨ret_bool HF.out.symm, hB⟩
     · have hr2 := of_decide_eq_true hd2
       rw [hd2] at HR HI3
       clear hd2
       cases hd4 : decide (ln ≤ 1000)
       · have hl4 : (1000 : Int) < (ln : Int) := by have := of_decide_eq_false hd4; omega
         rw [hd4] at HR
         clear hd4
         have HF : Hid (coordOk (n, life, next, jobs, log, sure) = false) := by show _ = _; rw [HR.out]; simp
         go_enter Tryz.func16, Tryz.ntmps16
         go_wp2_with fail
         rw [HW.out]
         refine HI1.out.mono ?_
         rintro e w1 ⟨rfl, hw1⟩
         replace hw1 := hw1.symm
         subst hw1
         rw [HW.out] at x0 x1 x2 x3 x4 x5
         go_wp2_with fail
         refine HI2.out.mono ?_
         rintro e w1 ⟨rfl, hw1⟩
         replace hw1 := hw1.symm
         subst hw1
         go_wp2_with fail
         refine HI3.out.mono ?_
         rintro e w1 ⟨rfl, hw1⟩
         replace hw1 := hw1.symm
         subst hw1
         go_wp2_with fail
         go_ret
         exact ⟨ret_bool HF.out.symm, hB⟩
       · have hl4 : ¬ (1000 : Int) < (ln : Int) := by have := of_decide_eq_true hd4; omega
         rw [hd4] at HR
         clear hd4
         cases hd5 : decide (0 ≤ sure ∧ sure ≤ (ln : Int))
         · rw [hd5] at HR HI5
           clear hd5
           have HF : Hid (coordOk (n, life, next, jobs, log, sure) = false) := by show _ = _; rw [HR.out]; simp
           go_enter Tryz.func16, Tryz.ntmps16
           go_wp2_with fail
           rw [HW.out]
           refine HI1.out.mono ?_
           rintro e w1 ⟨rfl, hw1⟩
           replace hw1 := hw1.symm
           subst hw1
           rw [HW.out] at x0 x1 x2 x3 x4 x5
           go_wp2_with fail
           refine HI2.out.mono ?_
           rintro e w1 ⟨rfl, hw1⟩
           replace hw1 := hw1.symm
           subst hw1
           go_wp2_with fail
           refine HI3.out.mono ?_
           rintro e w1 ⟨rfl, hw1⟩
           replace hw1 := hw1.symm
           subst hw1
           go_wp2_with fail
           refine HI5.out.mono ?_
           rintro e w1 ⟨rfl, hw1⟩
           replace hw1 := hw1.symm
           subst hw1
           go_wp2_with fail
           go_ret
           exact ⟨ret_bool HF.out.symm, hB⟩
         · rw [hd5] at HR HI5
           clear hd5
           simp only [Bool.and_true, Bool.true_and] at HR
           go_enter Tryz.func16, Tryz.ntmps16
           go_wp2_with fail
           rw [HW.out]
           refine HI1.out.mono ?_
           rintro e w1 ⟨rfl, hw1⟩
           replace hw1 := hw1.symm
           subst hw1
           rw [HW.out] at x0 x1 x2 x3 x4 x5
           go_wp2_with fail
           refine HI2.out.mono ?_
           rintro e w1 ⟨rfl, hw1⟩
           replace hw1 := hw1.symm
           subst hw1
           go_wp2_with fail
           refine HI3.out.mono ?_
           rintro e w1 ⟨rfl, hw1⟩
           replace hw1 := hw1.symm
           subst hw1
           go_wp2_with fail
           refine HI5.out.mono ?_
           rintro e w1 ⟨rfl, hw1⟩
           replace hw1 := hw1.symm
           subst hw1
           clear x0 x1 x2 x3 x4 x5 HI1 HI2 HI3 HI5
           go_wp2_with fail
           have w1 : IntKind.i64.wrap (life * 1000) = life * 1000 := by rw [IntKind.wrap_i64]; omega
           have w2 : IntKind.i64.wrap (life * 1000 + next) = life * 1000 + next := by rw [IntKind.wrap_i64]; omega
           have w3 : IntKind.i64.wrap (life * 1000 + next - 1) = life * 1000 + next - 1 := by rw [IntKind.wrap_i64]; omega
           go_loopw [3] (fun i wr => ∃ k : Nat, k ≤ ln ∧ i = .int .i64 (k : Int) ∧ Below W.heap.size W wr ∧ ∀ j (hj : j < k) (hjl : j < log.length), (1000 ≤ log[j].1 ∧ log[j].1 ≤ life * 1000 + next - 1) ∧ chosen log log[j].1 = some j) (fun i _ => ln - (intOf i).toNat)
           case atStart => exact ⟨0, Nat.zero_le _, rfl, Below.refl _ _, fun j hj => absurd hj (by omega)⟩
           case round =>
            obtain ⟨k, hk, rfl, hbr, hall⟩ := hrel
            have HALL := Hid.mk' hall
            clear hall
            have hSr := HS.out.below hbr
            obtain ⟨x0, x1, x2, x3, x4, x5⟩ := (HBX.out.below hbr).cells
            have hBr := hB.trans (hbr.mono hB.size)
            by_cases hlt : k < ln
            · have hltl : k < log.length := by omega
              obtain ⟨b, off, e⟩ := slg_some hSr.log (by omega)
              subst e
              have hki : (k : Int) < (ln : Int) := by omega
              have hlog : SlG chR wr (some ⟨b, off, none⟩) ln log := hSr.log
              have hat := (ch_at hlog k hltl).1
              have o0 := last.On.cell (B := wr.heap.size) x0 (World.block_lt_of_cell? _ _ x0)
              have o1 := last.On.cell (B := wr.heap.size) x1 (World.block_lt_of_cell? _ _ x1)
              have o2 := last.On.cell (B := wr.heap.size) x2 (World.block_lt_of_cell? _ _ x2)
              have o3 := last.On.cell (B := wr.heap.size) x3 (World.block_lt_of_cell? _ _ x3)
              have o4 := last.On.cell (B := wr.heap.size) x4 (World.block_lt_of_cell? _ _ x4)
              have o5 := last.On.cell (B := wr.heap.size) x5 (World.block_lt_of_cell? _ _ x5)
              have ok := last.On.cell (B := wr.heap.size) hat (World.block_lt_of_cell? _ _ hat)
              have hinr := last.On.inh wr.heap.size wr
              have hin : ∀ x : last.On wr.heap.size wr, Calls Tryz.prog 43 #[.int .i64 log[k].1, .int .i64 1000, .int .i64 (life * 1000 + next - 1)] x.w fun e w' => e = .returned (.bool (decide (1000 ≤ log[k].1 ∧ log[k].1 ≤ life * 1000 + next - 1))) ∧ ∃ y : last.On wr.heap.size wr, w' = y.w := fun x => last.Calls.on x (Nat.le_refl _) ((s_inZ log[k].1 1000 (life * 1000 + next - 1) x.w).mono fun e w' ⟨he, hw⟩ => ⟨he, by rw [hw]; exact Below.refl _ _⟩)
              have hch : ∀ x : last.On wr.heap.size wr, Calls Tryz.prog 44 #[.agg #[.int .i64 n, .int .i64 life, .int .i64 next, .slice ja jn jc, .slice (some ⟨b, off, none⟩) ln lc, .int .i64 sure], .int .i64 log[k].1] x.w fun e w' => e = .returned (.int .i64 (idx (chosen log log[k].1))) ∧ ∃ y : last.On wr.heap.size wr, w' = y.w := fun x => last.Calls.on x (Nat.le_refl _) ((spec_chosen n life next sure ja jn jc (some ⟨b, off, none⟩) ln lc log log[k].1 x.w (hlog.below x.2)).mono fun e w' ⟨he, hw⟩ => ⟨he, by rw [hw]; exact below_new _ _⟩)
              have HNO := Hid.mk' (fun hx => logOk_no (hi := life * 1000 + next - 1) hltl hx)
              have HNX : Hid ((1000 ≤ log[k].1 ∧ log[k].1 ≤ life * 1000 + next - 1) → chosen log log[k].1 = some k → ∀ j (hj : j < k + 1) (hjl : j < log.length), (1000 ≤ log[j].1 ∧ log[j].1 ≤ life * 1000 + next - 1) ∧ chosen log log[j].1 = some j) := fun h1 h2 j hj hjl => by
               rcases Nat.lt_succ_iff_lt_or_eq.1 hj with e | e
               · exact HALL.out j e hjl
               · subst e; exact ⟨h1, h2⟩
              have HIX : Hid (idx (chosen log log[k].1) = (k : Int) ↔ chosen log log[k].1 = some k) := idx_eq
              clear hlog hSr HALL
              generalize idx (chosen log log[k].1) = Z at *
              generalize log[k].1 = txk at *
              cases hg : decide (1000 ≤ txk ∧ txk ≤ life * 1000 + next - 1)
              · have HLN := Hid.mk' (HNO.out (fun hx => of_decide_eq_false hg hx.1))
                rw [hg] at hin
                clear hg
                have HF : Hid (coordOk (n, life, next, jobs, log, sure) = false) := by show _ = _; rw [HR.out, HLN.out]; rfl
                clear HNO HNX HLN
                go_wp2_with fail
                refine last.wp_region_on wr.heap.size (by kernel_rfl) (by kernel_rfl) ?_
                repeat (go_big_quiet_step ((first | (go_at_call 44; with_reducible exact hch _) | (go_at_call 43; with_reducible exact hin _))))
                refine wpQuiet_nil ?_
                intro wq hwq
                obtain ⟨xq, hwq⟩ := hwq
                subst hwq
                have hbq : Below wr.heap.size wr xq.w := xq.2
                generalize xq.w = w7 at *
                clear o0 o1 o2 o3 o4 o5 ok hinr hin hch x0 x1 x2 x3 x4 x5 hat
                go_wp2_with fail
                go_ret
                exact ⟨ret_bool HF.out.symm, hBr.trans (hbq.mono hBr.size)⟩
              · have hg2 := of_decide_eq_true hg
                rw [hg] at hin
                clear hg
                by_cases hz : Z = (k : Int)
                · have HN2 := Hid.mk' (HNX.out hg2 (HIX.out.1 hz))
                  rw [hz] at hch
                  clear HNO HNX HIX hz
                  go_wp2_with fail
                  refine last.wp_region_on wr.heap.size (by kernel_rfl) (by kernel_rfl) ?_
                  repeat (go_big_quiet_step ((first | (go_at_call 44; with_reducible exact hch _) | (go_at_call 43; with_reducible exact hin _))))
                  refine wpQuiet_nil ?_
                  intro wq hwq
                  obtain ⟨xq, hwq⟩ := hwq
                  subst hwq
                  have hbq : Below wr.heap.size wr xq.w := xq.2
                  generalize xq.w = w7 at *
                  clear o0 o1 o2 o3 o4 o5 ok hinr hin hch x0 x1 x2 x3 x4 x5 hat
                  have hbz := hbr.trans (hbq.mono hbr.size)
                  go_wp2_with fail
                  go_roundw
                  case rel => exact ⟨k + 1, by omega, by go_num, hbz, HN2.out⟩
                  case measure => simp [intOf]; omega
                · have HLN := Hid.mk' (HNO.out (fun hx => hz (HIX.out.2 hx.2)))
                  have hzb : (Z == (k : Int)) = false := beq_eq_false_iff_ne.2 hz
                  have HF : Hid (coordOk (n, life, next, jobs, log, sure) = false) := by show _ = _; rw [HR.out, HLN.out]; rfl
                  clear HNO HNX HLN
                  go_wp2_with fail
                  refine last.wp_region_on wr.heap.size (by kernel_rfl) (by kernel_rfl) ?_
                  repeat (go_big_quiet_step ((first | (go_at_call 44; with_reducible exact hch _) | (go_at_call 43; with_reducible exact hin _))))
                  refine wpQuiet_nil ?_
                  intro wq hwq
                  obtain ⟨xq, hwq⟩ := hwq
                  subst hwq
                  have hbq : Below wr.heap.size wr xq.w := xq.2
                  generalize xq.w = w7 at *
                  clear o0 o1 o2 o3 o4 o5 ok hinr hin hch x0 x1 x2 x3 x4 x5 hat
                  go_wp2_with fail
                  go_ret
                  exact ⟨ret_bool HF.out.symm, hBr.trans (hbq.mono hBr.size)⟩
            · have hnk : ¬ (k : Int) < (ln : Int) := by omega
              have HL : Hid (logOk (life * 1000 + next - 1) log = true) := logOk_all fun j hj => HALL.out j (by omega) hj
              clear HALL x1 x2 x5 w1 w2 w3
              rw [HL.out, Bool.true_and] at HR
              clear HL
              go_wp2_with fail
              clear x0 x3 x4 hnk hk
              have hBr0 := hBr
              have hbr0 := hbr
              clear hBr hSr
              go_loopw [4] (fun i w2 => ∃ k : Nat, k ≤ jn ∧ i = .int .i64 (k : Int) ∧ Below W.heap.size W w2 ∧ jobsOk n life next log none jobs = jobsOk n life next log (prevTx jobs k) (jobs.drop k)) (fun i _ => jn - (intOf i).toNat)
              case atStart => exact ⟨0, Nat.zero_le _, rfl, hbr0, rfl⟩
              case round =>
               clear hbr hbr0 hBr0
               obtain ⟨k, hk, rfl, hbr, hye⟩ := hrel
               have hSr := HS.out.below hbr
               obtain ⟨x0, x1, x2, x3, x4, x5⟩ := (HBX.out.below hbr).cells
               have hBr := hB.trans (hbr.mono hB.size)
               by_cases hlt : k < jn
               · have hltl : k < jobs.length := by omega
                 obtain ⟨jb, joff, e⟩ := slg_some hSr.jobs (by omega)
                 subst e
                 have hki : (k : Int) < (jn : Int) := by omega
                 rw [jobs_step hltl] at hye
                 have hjs : SlG jobR wr (some ⟨jb, joff, none⟩) jn jobs := hSr.jobs
                 have hlg : SlG chR wr la ln log := hSr.log
                 obtain ⟨a0, a2, ⟨oa, ol, oc, a1, hOo, hoc⟩, ya, yl, yc, a3, hYy, hyc⟩ := job_at hjs k hltl
                 have hfk := HFJ.out _ (List.getElem_mem hltl)
                 have hol : ol ≤ 1099511627776 := by have h1 := hOo.1; have h2 := hfk.1; omega
                 have HJ : Hid (Calls Tryz.prog 45 #[.agg #[.int .i64 n, .int .i64 life, .int .i64 next, .slice (some ⟨jb, joff, none⟩) jn jc, .slice la ln lc, .int .i64 sure], .int .i64 (k : Int)] wr fun e w' => e = .returned (.bool (jobOk n life next log (prevTx jobs k) jobs[k])) ∧ Below wr.heap.size wr w') := by
                  cases k with
                  | zero =>
                   simp only [Nat.zero_mul, Nat.add_zero] at a0 a1 a2 a3
                   exact specJobZ n life next sure jb joff jn jc la ln lc jobs[0].1 jobs[0].2.2.1 oa ol oc ya yl yc jobs[0].2.1 jobs[0].2.2.2 log wr hr0 hr1 hr2 hlt (by omega) hol hfk.2 a0 a1 a2 a3 hOo hYy hlg
                  | succ k' =>
                   have b0 := (job_at hjs k' (by omega)).1
                   rw [prevTx_succ (jobs := jobs) (k := k') (by omega), show ((k' + 1 : Nat) : Int) = (k' : Int) + 1 from by omega]
                   exact specJobS n life next sure jb joff jn jc la ln lc jobs[k' + 1].1 jobs[k' + 1].2.2.1 oa ol oc ya yl yc jobs[k' + 1].2.1 jobs[k' + 1].2.2.2 log k' _ wr hr0 hr1 hr2 hlt (by omega) hol hfk.2 a0 a1 a2 a3 b0 hOo hYy hlg
                 have HPV : Hid (prevTx jobs (k + 1) = some jobs[k].1) := prevTx_succ hltl
                 have HYE := Hid.mk' hye
                 clear hye hjs hlg hSr a0 a1 a2 a3 hOo hYy hfk hol hoc hyc
                 generalize jobOk n life next log (prevTx jobs k) jobs[k] = Q at *
                 generalize jobs[k].1 = txk at *
                 cases Q
                 · have HF : Hid (coordOk (n, life, next, jobs, log, sure) = false) := by show _ = _; rw [HR.out, HYE.out]; simp
                   clear HYE HPV
                   go_wp2_with fail
                   refine HJ.out.mono ?_
                   rintro e w6 ⟨rfl, hb6⟩
                   have hB6 := hBr.trans (hb6.mono hBr.size)
                   clear x0 x1 x2 x3 x4 x5 HJ
                   go_wp2_with fail
                   go_ret
                   exact ⟨ret_bool HF.out.symm, hB6⟩
                 · have HY2 : Hid (jobsOk n life next log none jobs = jobsOk n life next log (prevTx jobs (k + 1)) (jobs.drop (k + 1))) := by show _ = _; rw [HYE.out, HPV.out]; simp
                   clear HYE HPV
                   go_wp2_with fail
                   refine HJ.out.mono ?_
                   rintro e w6 ⟨rfl, hb6⟩
                   have hb7 := hbr.trans (hb6.mono hbr.size)
                   clear x0 x1 x2 x3 x4 x5 HJ
                   go_wp2_with fail
                   go_roundw
                   case rel => exact ⟨k + 1, by omega, by go_num, hb7, HY2.out⟩
                   case measure => simp [intOf]; omega
               · have hnk : ¬ (k : Int) < (jn : Int) := by omega
                 have HF : Hid (coordOk (n, life, next, jobs, log, sure) = true) := by show _ = _; rw [HR.out, hye, List.drop_of_length_le (by omega)]; cases prevTx jobs k <;> rfl
                 clear hye
                 go_wp2_with fail
                 go_ret
                 exact ⟨ret_bool HF.out.symm, hBr⟩
end cos
namespace cos
open Go Go.RowKit base pairs ords lay wds
end cos
namespace wds
open Go Go.RowKit base pairs ords
theorem append_nothing (w : World) (g c : Nat) (ty : TypeId) : (Builtin.append_ #[98, 98] ty #[.slice (some ⟨g, 0, none⟩) 0 0, .slice none 0 c]).run Tryz.prog w = .ok (.slice (some ⟨g, 0, none⟩) 0 0) w := by kernel_rfl
set_option maxRecDepth 100000 in
set_option maxHeartbeats 2000000 in
theorem spec_copyOps (a : Option Addr) (len cap : Nat) (l : List Od) (w : World) (h : SlO w a len l) (hsz : len ≤ 1099511627776) :
 Calls Tryz.prog 151 #[.slice a len cap] w fun e w' => ∃ g' cp', e = .returned (.slice (some ⟨g', 0, none⟩) len cp') ∧ OwnO w' w.heap.size g' len cp' l ∧ Below w.heap.size w w' := by
 obtain ⟨i0, hi, hz0, hz1, hz2⟩ := info_parts infoO
 have hl := h.1
 have hsm := h.2.2.1
 have hba : Below w.heap.size w (w.alloc (.cells #[] 126)) := (Below.refl _ _).alloc (Nat.le_refl _) _
 have hOm := ownO_made w w.heap.size (Nat.le_refl _)
 cases a with
 | none =>
  have h0 : len = 0 := by
   rcases Nat.eq_zero_or_pos len with e | e
   · exact e
   · obtain ⟨b, off, ha, _⟩ := h.2.2.2 e; cases ha
  subst h0
  have e1 : l = [] := List.eq_nil_of_length_eq_zero hl
  subst e1
  have han := append_nothing
  go_enter Tryz.func151, Tryz.ntmps151
  go_wp2_with fail
  go_ret
  exact ⟨_, _, rfl, hOm, hba⟩
 | some ad =>
  have hcell : Hid (∀ j u, (ordVals l)[j]? = some u → (w.alloc (.cells #[] 126)).cell? (ad.add j) = some u) := by
   rcases Nat.eq_zero_or_pos len with e | e
   · intro j u hj
     have e1 : l = [] := List.eq_nil_of_length_eq_zero (by omega)
     rw [e1] at hj; simp [ordVals] at hj
   · obtain ⟨b, off, ha, _⟩ := h.2.2.2 e
     cases ha
     exact cells_ords (h.below hba).cells
  have hc3 : 0 + len ≤ maxLen := by unfold maxLen; omega
  have hc4 : (0 + len) * 40 ≤ 140737488355328 := by omega
  have hl2 : (ordVals l).length = len * 3 := by rw [ordVals_length]; omega
  go_enter Tryz.func151, Tryz.ntmps151
  go_wp2_with (at_builtin; refine wpList_append_own _ rfl (.tmp 3) (.tmp 4) 98 rfl w.heap.size 126 i0 (.agg #[.int .i64 0, .string ⟨#[]⟩, .string ⟨#[]⟩]) 3 40 Tryz.underlying98 hi hz0 hz1 hz2 rfl (by decide) _ _ _ rfl hOm.2.2 ad len cap (ordVals l) rfl hl2 hcell.out (ordVals_oneCell l) hc3 hc4 hba.size ?_)
  intro v1 w1 hown hgrow hnn
  have hnn' : ¬ v1 = .slice none 0 0 := by simpa using hnn
  obtain ⟨g1, c1, hv1, hO1⟩ := ownO_val hl hsm hnn' (by have h9 := hown; rwa [show ordVals [] ++ ordVals l = ordVals l from rfl] at h9)
  subst hv1
  have hgr : (w.alloc (.cells #[] 126)).grownBy w1 (some w.heap.size) := hgrow
  have hB1 := hba.grown hgr hba.size (fun k e => by cases e; exact Nat.le_refl _)
  clear hown hgrow hnn hnn' hgr
  go_wp2_with fail
  go_ret
  exact ⟨g1, c1, rfl, hO1, hB1⟩
end wds
namespace cos
open Go Go.RowKit base pairs ords lay wds
theorem BoxJ.fz {X : Nat} {tx st : Int} {v y : Value} {w : World} (h : BoxJ X tx st v y w) (j : Nat) : w.frozen? ⟨X, j, none⟩ = false := by unfold BoxJ at h; simp [World.frozen?, h]
section
variable {w V V' : World} {n life next sure : Int} {ja : Option Addr} {jn jc : Nat} {la : Option Addr} {ln lc k gj jcap gl lcap : Nat} {jobs : List Jb} {log : List Ch} {q ql : Parts}
end
end cos
namespace pairs
open Go Go.RowKit base helps
set_option maxHeartbeats 400000 in
theorem toPair (k v : ByteArray) (w : World) :
 Calls Tryz.prog 131 #[.agg #[.string k, .string v]] w fun e w' => e = .returned (.agg #[.string k, .string v]) ∧ Below w.heap.size w w' := by
 go_enter Tryz.func131, Tryz.ntmps131
 have hB : Below w.heap.size w (((w.alloc (.cells #[.string k, .string v] 186)).alloc (.cells #[.string k, .string v] 151)).alloc (.cells #[.string k, .string v] 151)) :=
  (((Below.refl _ _).alloc (Nat.le_refl _) _).alloc (by simp) _).alloc (by simp; omega) _
 go_wp2
 refine bodyPost_ret (v := .agg #[.string k, .string v]) ?h1 rfl ⟨rfl, hB⟩
 simp [results, Tryz.results131, go_sem]
def szR (L t : Nat) : Int := if t ≤ L then (L : Int) - (t : Int) else -1
theorem szR_neg {L t : Nat} (h : L < t) : szR L t = -1 := by unfold szR; rw [if_neg (by omega)]
theorem szR_pos {L t : Nat} (h : t ≤ L) : szR L t = (L : Int) - (t : Int) := by unfold szR; rw [if_pos h]
def psz (p : Pr) : Nat := p.1.size + p.2.size
def sumP (l : List Pr) : Nat := (l.map psz).sum
theorem sumP_take (l : List Pr) (k : Nat) (h : k < l.length) : sumP (l.take (k + 1)) = sumP (l.take k) + psz l[k] := by
 unfold sumP; rw [take_snocP l k h, List.map_append, List.sum_append]; simp
theorem sumP_le (l : List Pr) (k : Nat) : sumP (l.take k) ≤ sumP l := by
 have e : sumP l = sumP (l.take k) + sumP (l.drop k) := by
  unfold sumP; rw [← List.sum_append, ← List.map_append, List.take_append_drop]
 omega
set_option maxHeartbeats 400000 in
theorem szPair (p : Pr) (L : Nat) (w : World) (hp : small p) (hL : L ≤ 1099511627776) :
 Calls Tryz.prog 119 #[.agg #[.string p.1, .string p.2], .int .i64 (L : Int)] w fun e w' => e = .returned (.int .i64 (szR L (psz p))) ∧ Below w.heap.size w w' := by
 have h1 := hp.1
 have h2 := hp.2
 unfold maxLen at h1 h2
 have hB : Below w.heap.size w (w.alloc (.cells #[.string p.1, .string p.2] 186)) := (Below.refl _ _).alloc (Nat.le_refl _) _
 by_cases a1 : L < p.1.size
 · have a2 : (L : Int) - (p.1.size : Int) < 0 := by omega
   have HZ : Hid (szR L (psz p) = -1) := szR_neg (by unfold psz; omega)
   go_enter Tryz.func119, Tryz.ntmps119
   go_wp2
   go_ret
   exact ⟨ret_int HZ.out.symm, hB⟩
 · have a2 : ¬ (L : Int) - (p.1.size : Int) < 0 := by omega
   by_cases a3 : L < p.1.size + p.2.size
   · have a4 : (L : Int) - (p.1.size : Int) - (p.2.size : Int) < 0 := by omega
     have HZ : Hid (szR L (psz p) = -1) := szR_neg (by unfold psz; omega)
     go_enter Tryz.func119, Tryz.ntmps119
     go_wp2
     go_ret
     exact ⟨ret_int HZ.out.symm, hB⟩
   · have a4 : ¬ (L : Int) - (p.1.size : Int) - (p.2.size : Int) < 0 := by omega
     have HZ : Hid (szR L (psz p) = (L : Int) - (p.1.size : Int) - (p.2.size : Int)) := by show _ = _; rw [szR_pos (by unfold psz; omega)]; unfold psz; omega
     go_enter Tryz.func119, Tryz.ntmps119
     go_wp2
     go_ret
     exact ⟨ret_int HZ.out.symm, hB⟩
set_option maxHeartbeats 400000 in
theorem eqPair (p q : Pr) (w : World) :
 Calls Tryz.prog 141 #[.agg #[.string p.1, .string p.2], .agg #[.string q.1, .string q.2]] w fun e w' => e = .returned (.bool (decide (p = q))) ∧ Below w.heap.size w w' := by
 have hB : Below w.heap.size w ((w.alloc (.cells #[.string p.1, .string p.2] 151)).alloc (.cells #[.string q.1, .string q.2] 151)) := ((Below.refl _ _).alloc (Nat.le_refl _) _).alloc (by simp) _
 obtain ⟨p1, p2⟩ := p
 obtain ⟨q1, q2⟩ := q
 by_cases e1 : p1 = q1
 · subst e1
   by_cases e2 : p2 = q2
   · subst e2
     go_enter Tryz.func141, Tryz.ntmps141
     go_wp2
     go_ret
     exact ⟨ret_bool (by simp), hB⟩
   · have hq := str_ne e2
     have HE := Hid.mk' e2
     clear e2
     go_enter Tryz.func141, Tryz.ntmps141
     go_wp2
     go_ret
     exact ⟨ret_bool (by have := HE.out; simp [this]), hB⟩
 · have hq := str_ne e1
   have HE := Hid.mk' e1
   clear e1
   go_enter Tryz.func141, Tryz.ntmps141
   go_wp2
   go_ret
   exact ⟨ret_bool (by have := HE.out; simp [this]), hB⟩
def zeroP : Pr := (⟨#[]⟩, ⟨#[]⟩)
def copyP (l : List Pr) (k : Nat) : List Pr := l.take k ++ List.replicate (l.length - k) zeroP
theorem copyP_length (l : List Pr) (k : Nat) (h : k ≤ l.length) : (copyP l k).length = l.length := by simp [copyP]; omega
theorem copyP_zero (l : List Pr) : copyP l 0 = List.replicate l.length zeroP := by simp [copyP]
theorem copyP_all (l : List Pr) : copyP l l.length = l := by simp [copyP]
theorem copyP_small (l : List Pr) (k : Nat) (h : ∀ p ∈ l, small p) : ∀ p ∈ copyP l k, small p := by
 intro p hp
 rcases List.mem_append.1 hp with h1 | h1
 · exact h p (List.mem_of_mem_take h1)
 · obtain rfl := (List.mem_replicate.1 h1).2; exact ⟨Nat.zero_le _, Nat.zero_le _⟩
theorem copyP_set (l : List Pr) (k : Nat) (h : k < l.length) : (copyP l k).set k l[k] = copyP l (k + 1) := by
 unfold copyP
 rw [List.set_append_right _ _ (by simp; omega), take_snocP l k h, List.append_assoc]
 congr 1
 rw [List.length_take_of_le (by omega), Nat.sub_self, show l.length - k = l.length - (k + 1) + 1 by omega, List.replicate_succ]
 rfl
theorem pairVals_rep (n : Nat) : pairVals (List.replicate n zeroP) = (madeCells #[.string ⟨#[]⟩, .string ⟨#[]⟩] (n * 2)).toList := by
 have e1 : pairVals (List.replicate n zeroP) = List.replicate (n * 2) (.string ⟨#[]⟩) := by
  induction n with
  | zero => rfl
  | succ n ih => rw [List.replicate_succ, pairVals_cons, ih, show (n + 1) * 2 = n * 2 + 1 + 1 by omega, List.replicate_succ, List.replicate_succ]; rfl
 rw [e1]
 apply List.ext_getElem
 · simp [madeCells]
 · intro j h1 h2
   have hm : j % 2 = 0 ∨ j % 2 = 1 := by omega
   rcases hm with hm | hm <;> simp [madeCells, hm]
set_option maxRecDepth 100000 in
set_option maxHeartbeats 1000000 in
theorem toPairS (a : Option Addr) (len cap : Nat) (l : List Pr) (w : World) (h : SlP w a len l) (hsz : len ≤ 1099511627776) :
 Calls Tryz.prog 89 #[.slice a len cap] w fun e w' => ∃ g, e = .returned (.slice (some ⟨g, 0, none⟩) len len) ∧ OwnP w' w.heap.size g len len l ∧ Below w.heap.size w w' := by
 obtain ⟨hl, hm, hsm, hc⟩ := h
 subst hl
 have hm' := hm
 unfold maxLen at hm'
 obtain ⟨i0, hif, hz0, hz1, hz2⟩ := info_parts infoP
 go_enter Tryz.func89, Tryz.ntmps89
 go_wp2_with (at_make; refine wpList_make_full _ rfl _ _ 53 rfl w.heap.size 151 i0 (.agg #[.string ⟨#[]⟩, .string ⟨#[]⟩]) 2 Tryz.underlying53 hif hz0 hz1 _ _ _ _ l.length rfl rfl rfl rfl ?b2 ?b3 ?b4 ?_)
 case b2 => rw [hz2]; omega
 case b3 => exact hm
 case b4 => exact Nat.le_refl _
 intro w1 hown hgrow
 have hOwn : OwnP w1 w.heap.size w.heap.size l.length l.length (copyP l 0) := by
  refine ⟨copyP_length l 0 (Nat.zero_le _), copyP_small l 0 hsm, ?_⟩
  rw [copyP_zero, pairVals_rep]; exact hown
 have hbel : Below w.heap.size w w1 := (Below.refl _ _).grown hgrow (Nat.le_refl _) (fun k e => by cases e)
 clear hown hgrow hif hz0 hz1 hz2
 go_wp2_with fail
 go_loopw [4] (fun i wr => ∃ k : Nat, k ≤ l.length ∧ i = .int .i64 k ∧ OwnP wr w.heap.size w.heap.size l.length l.length (copyP l k) ∧ Below w.heap.size w wr) (fun i _ => l.length - (intOf i).toNat)
 case atStart => exact ⟨0, Nat.zero_le _, rfl, hOwn, hbel⟩
 case round =>
  clear hOwn hbel
  obtain ⟨k, hk, rfl, hO, hB⟩ := hrel
  by_cases hlt : k < l.length
  · obtain ⟨b, off, ha, hcl⟩ := hc (by omega)
    subst ha
    have hbb : b < w.heap.size := World.block_lt_of_cell? w _ (hcl k hlt).1
    have c1 : wr.cell? ⟨b, off + k * 2, none⟩ = some (.string l[k].1) := (hB.cell (p := ⟨b, off + k * 2, none⟩) hbb).trans (hcl k hlt).1
    have c2 : wr.cell? ⟨b, off + k * 2 + 1, none⟩ = some (.string l[k].2) := (hB.cell (p := ⟨b, off + k * 2 + 1, none⟩) hbb).trans (hcl k hlt).2
    have hpk := hsm _ (List.getElem_mem hlt)
    have hki : (k : Int) < (l.length : Int) := by omega
    have HS := Hid.mk' (copyP_set l k hlt)
    generalize l[k] = p at *
    clear hcl hc
    go_wp2_with fail
    refine (toPair p.1 p.2 _).mono ?_
    rintro e w2 ⟨rfl, hB2⟩
    have hO2 := hO.below hB2
    have hB3 := hB.trans (hB2.mono hB.size)
    have hkl : k < (copyP l k).length := by rw [copyP_length l k hk]; exact hlt
    have d1 := hO2.key k hkl
    have d2 := hO2.val k hkl
    have f1 := hO2.frozen (k * 2)
    have f2 := hO2.frozen (k * 2 + 1)
    have R := hO2.setBoth k hkl p.1 p.2 hpk.1 hpk.2
    rw [HS.out] at R
    have HR := Hid.mk' R
    generalize (copyP l k)[k].1 = z1 at *
    generalize (copyP l k)[k].2 = z2 at *
    clear R hO hO2 hB hB2 c1 c2
    go_wp2_with fail
    go_roundw
    case rel => exact ⟨k + 1, by omega, by go_num, HR.out.1, hB3.trans (below_grown HR.out.2 (Nat.le_refl _) hB3.size)⟩
    case measure => simp [intOf]; omega
  · go_wp2_with fail
    go_ret
    have e : k = l.length := by omega
    subst e
    rw [copyP_all] at hO
    exact ⟨_, rfl, hO, hB⟩
set_option maxRecDepth 100000 in
set_option maxHeartbeats 1000000 in
theorem szPairS (a : Option Addr) (len cap : Nat) (l : List Pr) (L : Nat) (w : World) (h : SlP w a len l) (hL : L ≤ 1099511627776) :
 Calls Tryz.prog 80 #[.slice a len cap, .int .i64 (L : Int)] w fun e w' => e = .returned (.int .i64 (szR L (l.length + sumP l))) ∧ Below w.heap.size w w' := by
 obtain ⟨hl, hm, hsm, hc⟩ := h
 subst hl
 unfold maxLen at hm
 by_cases hneg : L < l.length
 · rw [szR_neg (by omega)]
   have h1 : (L : Int) - (l.length : Int) < 0 := by omega
   go_enter Tryz.func80, Tryz.ntmps80
   go_wp2
   go_ret
   exact ⟨rfl, Below.refl _ _⟩
 · have h1 : ¬ (L : Int) - (l.length : Int) < 0 := by omega
   go_enter Tryz.func80, Tryz.ntmps80
   go_wp2_with fail
   go_loopw [1, 5] (fun lv i wr => ∃ k m : Nat, k ≤ l.length ∧ i = .int .i64 (k : Int) ∧ lv = .int .i64 (m : Int) ∧ m + (l.length + sumP (l.take k)) = L ∧ Below w.heap.size w wr) (fun _ i _ => l.length - (intOf i).toNat)
   case atStart => exact ⟨0, L - l.length, Nat.zero_le _, rfl, by go_num, by simp [sumP]; omega, Below.refl _ _⟩
   case round =>
    obtain ⟨k, m, hk, rfl, rfl, hmL, hB⟩ := hrel
    by_cases hlt : k < l.length
    · obtain ⟨b, off, ha, hcl⟩ := hc (by omega)
      subst ha
      have hst := sumP_take l k hlt
      have hle := sumP_le l (k + 1)
      have hbb : b < w.heap.size := World.block_lt_of_cell? w _ (hcl k hlt).1
      have c1 : wr.cell? ⟨b, off + k * 2, none⟩ = some (.string l[k].1) := (hB.cell (p := ⟨b, off + k * 2, none⟩) hbb).trans (hcl k hlt).1
      have c2 : wr.cell? ⟨b, off + k * 2 + 1, none⟩ = some (.string l[k].2) := (hB.cell (p := ⟨b, off + k * 2 + 1, none⟩) hbb).trans (hcl k hlt).2
      have hpk := hsm _ (List.getElem_mem hlt)
      have hi1 : (k : Int) < (l.length : Int) := by omega
      have hmB : m ≤ 1099511627776 := by omega
      have HML := Hid.mk' hmL
      have HST := Hid.mk' hst
      have HLE := Hid.mk' hle
      generalize l[k] = p at *
      clear hcl hc hsm hmL hst hle
      have hcall := szPair p m wr hpk hmB
      by_cases hover : m < psz p
      · rw [szR_neg hover] at hcall
        have HC := Hid.mk' hcall
        clear hcall
        go_wp2_with fail
        refine HC.out.mono ?_
        rintro e w2 ⟨rfl, hB2⟩
        go_wp2_with fail
        go_ret
        have e1 := HML.out
        have e2 := HST.out
        have e3 := HLE.out
        rw [szR_neg (by omega)]
        exact ⟨rfl, hB.trans (hB2.mono hB.size)⟩
      · rw [szR_pos (by omega), show (m : Int) - (psz p : Int) = ((m - psz p : Nat) : Int) by omega] at hcall
        have HC := Hid.mk' hcall
        obtain ⟨m2, hm2⟩ : ∃ m2, m - psz p = m2 := ⟨_, rfl⟩
        rw [hm2] at HC
        have HM2 := Hid.mk' hm2
        have hm2b : m2 ≤ 1099511627776 := by omega
        clear hcall hm2
        go_wp2_with fail
        refine HC.out.mono ?_
        rintro e w2 ⟨rfl, hB2⟩
        go_wp2_with fail
        go_roundw
        case rel => exact ⟨k + 1, m2, by omega, by go_num, rfl, by have e1 := HML.out; have e2 := HST.out; have e3 := HM2.out; omega, hB.trans (hB2.mono hB.size)⟩
        case measure => simp [intOf]; omega
    · have e : k = l.length := by omega
      have HML := Hid.mk' hmL
      clear hmL
      go_wp2_with fail
      go_ret
      have e1 := HML.out
      rw [e, List.take_length] at e1
      rw [szR_pos (by omega)]
      exact ⟨ret_int (by omega), hB⟩
theorem take_eqP {l l2 : List Pr} {k : Nat} (h : l.take k = l2.take k) (h1 : k < l.length) (h2 : k < l2.length) (e : l[k] = l2[k]) : l.take (k + 1) = l2.take (k + 1) := by
 rw [take_snocP l k h1, take_snocP l2 k h2, h, e]
set_option maxRecDepth 100000 in
set_option maxHeartbeats 1000000 in
theorem eqPairS (a a2 : Option Addr) (len cap len2 cap2 : Nat) (l l2 : List Pr) (w : World) (h : SlP w a len l) (h2 : SlP w a2 len2 l2) :
 Calls Tryz.prog 107 #[.slice a len cap, .slice a2 len2 cap2] w fun e w' => e = .returned (.bool (decide (l = l2))) ∧ Below w.heap.size w w' := by
 obtain ⟨hl, hm, _, hc⟩ := h
 obtain ⟨hl2, hm2, _, hc2⟩ := h2
 subst hl hl2
 unfold maxLen at hm hm2
 by_cases hne : l.length = l2.length
 · have hb : ((l.length : Int) == (l2.length : Int)) = true := by simp; omega
   go_enter Tryz.func107, Tryz.ntmps107
   go_wp2_with fail
   go_loopw [5] (fun i wr => ∃ k : Nat, k ≤ l.length ∧ i = .int .i64 k ∧ l.take k = l2.take k ∧ Below w.heap.size w wr) (fun i _ => l.length - (intOf i).toNat)
   case atStart => exact ⟨0, Nat.zero_le _, rfl, rfl, Below.refl _ _⟩
   case round =>
    obtain ⟨k, hk, rfl, htk, hB⟩ := hrel
    by_cases hlt : k < l.length
    · obtain ⟨b, off, ha, hcl⟩ := hc (by omega)
      obtain ⟨b2, off2, ha2, hcl2⟩ := hc2 (by omega)
      subst ha ha2
      have hlt2 : k < l2.length := by omega
      have hi1 : (k : Int) < (l.length : Int) := by omega
      have hi2 : (k : Int) < (l2.length : Int) := by omega
      have HT := Hid.mk' htk
      have hb1 : b < w.heap.size := World.block_lt_of_cell? w _ (hcl k hlt).1
      have hb2 : b2 < w.heap.size := World.block_lt_of_cell? w _ (hcl2 k hlt2).1
      have c1 := (hB.cell (p := ⟨b, off + k * 2, none⟩) hb1).trans (hcl k hlt).1
      have c2 := (hB.cell (p := ⟨b, off + k * 2 + 1, none⟩) hb1).trans (hcl k hlt).2
      have c3 := (hB.cell (p := ⟨b2, off2 + k * 2, none⟩) hb2).trans (hcl2 k hlt2).1
      have c4 := (hB.cell (p := ⟨b2, off2 + k * 2 + 1, none⟩) hb2).trans (hcl2 k hlt2).2
      have o1 := last.On.cell (B := wr.heap.size) c1 (by have := hB.size; omega)
      have o2 := last.On.cell (B := wr.heap.size) c2 (by have := hB.size; omega)
      have o3 := last.On.cell (B := wr.heap.size) c3 (by have := hB.size; omega)
      have o4 := last.On.cell (B := wr.heap.size) c4 (by have := hB.size; omega)
      have hinh := last.On.inh wr.heap.size wr
      have hcall : ∀ x : last.On wr.heap.size wr, Calls Tryz.prog 141 #[.agg #[.string l[k].1, .string l[k].2], .agg #[.string l2[k].1, .string l2[k].2]] x.w fun e w' => e = .returned (.bool (decide (l[k] = l2[k]))) ∧ ∃ y : last.On wr.heap.size wr, w' = y.w := fun x => last.Calls.on x (Nat.le_refl _) (eqPair l[k] l2[k] x.w)
      by_cases e : l[k] = l2[k]
      · rw [decide_eq_true e] at hcall
        have HE := Hid.mk' (take_eqP htk hlt hlt2 e)
        clear hcl hcl2 hc hc2 htk hne e
        generalize l[k] = p at *
        generalize l2[k] = q at *
        go_wp2_with fail
        refine last.wp_region_on wr.heap.size (by kernel_rfl) (by kernel_rfl) ?_
        repeat (go_big_quiet_step ((go_at_call 141; exact hcall _)))
        refine wpQuiet_nil ?_
        intro w5 hw5
        obtain ⟨x5, hw5⟩ := hw5
        subst hw5
        have hB5 : Below w.heap.size w x5.w := hB.trans (x5.2.mono hB.size)
        go_wp2_with fail
        go_roundw
        case rel => exact ⟨k + 1, by omega, by go_num, HE.out, hB5⟩
        case measure => simp [intOf]; omega
      · rw [decide_eq_false e] at hcall
        have HE : Hid (¬ l = l2) := by
         show ¬ _
         rintro rfl; exact e rfl
        clear hcl hcl2 hc hc2 htk hne e
        generalize l[k] = p at *
        generalize l2[k] = q at *
        go_wp2_with fail
        refine last.wp_region_on wr.heap.size (by kernel_rfl) (by kernel_rfl) ?_
        repeat (go_big_quiet_step ((go_at_call 141; exact hcall _)))
        refine wpQuiet_nil ?_
        intro w5 hw5
        obtain ⟨x5, hw5⟩ := hw5
        subst hw5
        have hB5 : Below w.heap.size w x5.w := hB.trans (x5.2.mono hB.size)
        go_wp2_with fail
        go_ret
        exact ⟨ret_bool (by symm; rw [decide_eq_false_iff_not]; exact HE.out), hB5⟩
    · have e : k = l.length := by omega
      have hfin : l = l2 := by
       subst e
       rw [List.take_of_length_le (Nat.le_refl _), List.take_of_length_le (by omega)] at htk
       exact htk
      have HF := Hid.mk' hfin
      clear hfin htk
      go_wp2_with fail
      go_ret
      exact ⟨ret_bool (by symm; rw [decide_eq_true_iff]; exact HF.out), hB⟩
 · have hb : ((l.length : Int) == (l2.length : Int)) = false := by simp; omega
   go_enter Tryz.func107, Tryz.ntmps107
   go_wp2
   go_ret
   exact ⟨ret_bool (by symm; rw [decide_eq_false_iff_not]; intro h; exact hne (by rw [h])), Below.refl _ _⟩
end pairs
namespace pairs
open Go Go.RowKit base helps
end pairs
end Go.Proofs.YtijplooogplccaaGreat
