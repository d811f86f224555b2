/- The specification's one who decides: whether it is right. The specification's answers of one who decides, and a new one. The specification's copy of orders. -/
import Derived.Test.YteniflajiklffaaShad
import Derived.Handy
import Derived.Test.YteniflajiklffaaShab
namespace Go.Proofs.Yteniflajiklffaa.cos
open Go Go.RowKit Go.Proofs.Yteniflajiklffaa.base Go.Proofs.Yteniflajiklffaa.pairs Go.Proofs.Yteniflajiklffaa.ords Go.Proofs.Yteniflajiklffaa.lay Go.Proofs.Yteniflajiklffaa.wds
set_option linter.unusedVariables false
set_option linter.unusedSimpArgs false

theorem jobs_step {n life next : Int} {log : List Ch} {jobs : List Jb} {k : Nat} {p : Option Int} (hk : k < jobs.length) : jobsOk n life next log p (jobs.drop k) = (jobOk n life next log p jobs[k] && jobsOk n life next log (some jobs[k].1) (jobs.drop (k + 1))) := by
  rw [List.drop_eq_getElem_cons hk]; rfl
theorem prevTx_succ {jobs : List Jb} {k : Nat} (hk : k < jobs.length) : prevTx jobs (k + 1) = some jobs[k].1 := by
  unfold prevTx; simp [List.getElem?_eq_getElem hk]
theorem logOk_all {hi : Int} {log : List Ch} (h : ∀ j (hj : j < log.length), (1000 ≤ log[j].1 ∧ log[j].1 ≤ hi) ∧ chosen log log[j].1 = some j) : logOk hi log = true := by
  unfold logOk
  rw [Bool.and_eq_true, List.all_eq_true, decide_eq_true_iff]
  refine ⟨fun c hc => ?_, nodup_iff.2 fun i hi => (h i hi).2⟩
  obtain ⟨i, hi, rfl⟩ := List.getElem_of_mem hc
  exact decide_eq_true (h i hi).1
theorem logOk_no {hi : Int} {log : List Ch} {k : Nat} (hk : k < log.length) (h : ¬ ((1000 ≤ log[k].1 ∧ log[k].1 ≤ hi) ∧ chosen log log[k].1 = some k)) : logOk hi log = false := by
  cases e : logOk hi log
  · rfl
  · exfalso
    unfold logOk at e
    rw [Bool.and_eq_true, List.all_eq_true, decide_eq_true_iff] at e
    exact h ⟨of_decide_eq_true (e.1 _ (List.getElem_mem hk)), nodup_iff.1 e.2 k hk⟩
theorem idx_eq {r : Option Nat} {k : Nat} : idx r = (k : Int) ↔ r = some k := by
  cases r with
  | none => rw [idx_none]; constructor <;> intro h; omega; cases h
  | some j => rw [idx_some]; constructor
              · intro h; congr 1; omega
              · intro h; cases h; rfl
def FitsCo (c : Co) : Prop := c.2.2.2.1.length ≤ 1099511627776 ∧ c.2.2.2.2.1.length ≤ 1099511627776 ∧ ∀ j ∈ c.2.2.2.1, j.2.1.length ≤ 1099511627776 ∧ (∀ p ∈ j.2.1, p.2.1.size ≤ 1099511627776)

set_option maxRecDepth 100000 in
set_option maxHeartbeats 4000000 in
theorem spec_coordOk (ja : Option Addr) (jn jc : Nat) (la : Option Addr) (ln lc : Nat) (c : Co) (w : World) (h : SeeCo w ja jn jc la ln lc c) (hf : FitsCo c) :
    Calls Try.prog 34 #[coV c.1 c.2.1 c.2.2.1 c.2.2.2.2.2 ja jn jc la ln lc] w fun e w' => e = .returned (.bool (coordOk c)) ∧ Below w.heap.size w w' := by
  obtain ⟨n, life, next, jobs, log, sure⟩ := c
  simp only [] at *
  have hjl : jobs.length = jn := h.jobs.1
  have hll : log.length = ln := h.log.1
  have hjf : jobs.length ≤ 1099511627776 := hf.1
  have hlf2 : log.length ≤ 1099511627776 := hf.2.1
  have HFJ : Hid (∀ j ∈ jobs, j.2.1.length ≤ 1099511627776 ∧ (∀ p ∈ j.2.1, p.2.1.size ≤ 1099511627776)) := hf.2.2
  obtain ⟨W, hW⟩ : ∃ W, w.alloc (coO n life next sure ja jn jc la ln lc) = W := ⟨_, rfl⟩
  have hB : Below w.heap.size w W := by rw [← hW]; exact below_new _ _
  have hbx : BoxC w.heap.size n life next sure ja jn jc la ln lc W := by rw [← hW]; exact boxC_new _ _ _ _ _ _ _ _ _ _ _
  have HS := Hid.mk' (h.below hB)
  have HBX := Hid.mk' hbx
  obtain ⟨x0, x1, x2, x3, x4, x5⟩ := hbx.cells
  have HW := Hid.mk' hW
  have HI1 := Hid.mk' (s_inZ n 1 8 W)
  have HI2 := Hid.mk' (s_inZ life 1 900 W)
  have HI3 := Hid.mk' (s_inZ next 0 999 W)
  have HI5 := Hid.mk' (s_inZ sure 0 (ln : Int) W)
  have HR : Hid (coordOk (n, life, next, jobs, log, sure) = (decide (1 ≤ n ∧ n ≤ 8) && decide (1 ≤ life ∧ life ≤ 900) && decide (0 ≤ next ∧ next ≤ 999) && decide (ln ≤ 1000) && decide (0 ≤ sure ∧ sure ≤ (ln : Int)) && logOk (life * 1000 + next - 1) log && jobsOk n life next log none jobs)) := by
    show _ = _
    rw [← hll]; rfl
  clear h hf hW hbx
  rw [← HW.out] at x0 x1 x2 x3 x4 x5
  cases hd0 : decide (1 ≤ n ∧ n ≤ 8)
  · rw [hd0] at HR HI1
    clear hd0
    have HF : Hid (coordOk (n, life, next, jobs, log, sure) = false) := by show _ = _; rw [HR.out]; simp
    go_enter Try.func34, Try.ntmps34
    go_wp2_with fail
    rw [HW.out]
    refine HI1.out.mono ?_
    rintro e w1 ⟨rfl, hw1⟩
    replace hw1 := hw1.symm
    subst hw1
    rw [HW.out] at x0 x1 x2 x3 x4 x5
    go_wp2_with fail
    go_ret
    exact ⟨ret_bool HF.out.symm, hB⟩
  · have hr0 := of_decide_eq_true hd0
    rw [hd0] at HR HI1
    clear hd0
    cases hd1 : decide (1 ≤ life ∧ life ≤ 900)
    · rw [hd1] at HR HI2
      clear hd1
      have HF : Hid (coordOk (n, life, next, jobs, log, sure) = false) := by show _ = _; rw [HR.out]; simp
      go_enter Try.func34, Try.ntmps34
      go_wp2_with fail
      rw [HW.out]
      refine HI1.out.mono ?_
      rintro e w1 ⟨rfl, hw1⟩
      replace hw1 := hw1.symm
      subst hw1
      rw [HW.out] at x0 x1 x2 x3 x4 x5
      go_wp2_with fail
      refine HI2.out.mono ?_
      rintro e w1 ⟨rfl, hw1⟩
      replace hw1 := hw1.symm
      subst hw1
      go_wp2_with fail
      go_ret
      exact ⟨ret_bool HF.out.symm, hB⟩
    · have hr1 := of_decide_eq_true hd1
      rw [hd1] at HR HI2
      clear hd1
      cases hd2 : decide (0 ≤ next ∧ next ≤ 999)
      · rw [hd2] at HR HI3
        clear hd2
        have HF : Hid (coordOk (n, life, next, jobs, log, sure) = false) := by show _ = _; rw [HR.out]; simp
        go_enter Try.func34, Try.ntmps34
        go_wp2_with fail
        rw [HW.out]
        refine HI1.out.mono ?_
        rintro e w1 ⟨rfl, hw1⟩
        replace hw1 := hw1.symm
        subst hw1
        rw [HW.out] at x0 x1 x2 x3 x4 x5
        go_wp2_with fail
        refine HI2.out.mono ?_
        rintro e w1 ⟨rfl, hw1⟩
        replace hw1 := hw1.symm
        subst hw1
        go_wp2_with fail
        refine HI3.out.mono ?_
        rintro e w1 ⟨rfl, hw1⟩
        replace hw1 := hw1.symm
        subst hw1
        go_wp2_with fail
        go_ret
        exact ⟨ret_bool HF.out.symm, hB⟩
      · have hr2 := of_decide_eq_true hd2
        rw [hd2] at HR HI3
        clear hd2
        cases hd4 : decide (ln ≤ 1000)
        · have hl4 : (1000 : Int) < (ln : Int) := by have := of_decide_eq_false hd4; omega
          rw [hd4] at HR
          clear hd4
          have HF : Hid (coordOk (n, life, next, jobs, log, sure) = false) := by show _ = _; rw [HR.out]; simp
          go_enter Try.func34, Try.ntmps34
          go_wp2_with fail
          rw [HW.out]
          refine HI1.out.mono ?_
          rintro e w1 ⟨rfl, hw1⟩
          replace hw1 := hw1.symm
          subst hw1
          rw [HW.out] at x0 x1 x2 x3 x4 x5
          go_wp2_with fail
          refine HI2.out.mono ?_
          rintro e w1 ⟨rfl, hw1⟩
          replace hw1 := hw1.symm
          subst hw1
          go_wp2_with fail
          refine HI3.out.mono ?_
          rintro e w1 ⟨rfl, hw1⟩
          replace hw1 := hw1.symm
          subst hw1
          go_wp2_with fail
          go_ret
          exact ⟨ret_bool HF.out.symm, hB⟩
        · have hl4 : ¬ (1000 : Int) < (ln : Int) := by have := of_decide_eq_true hd4; omega
          rw [hd4] at HR
          clear hd4
          cases hd5 : decide (0 ≤ sure ∧ sure ≤ (ln : Int))
          · rw [hd5] at HR HI5
            clear hd5
            have HF : Hid (coordOk (n, life, next, jobs, log, sure) = false) := by show _ = _; rw [HR.out]; simp
            go_enter Try.func34, Try.ntmps34
            go_wp2_with fail
            rw [HW.out]
            refine HI1.out.mono ?_
            rintro e w1 ⟨rfl, hw1⟩
            replace hw1 := hw1.symm
            subst hw1
            rw [HW.out] at x0 x1 x2 x3 x4 x5
            go_wp2_with fail
            refine HI2.out.mono ?_
            rintro e w1 ⟨rfl, hw1⟩
            replace hw1 := hw1.symm
            subst hw1
            go_wp2_with fail
            refine HI3.out.mono ?_
            rintro e w1 ⟨rfl, hw1⟩
            replace hw1 := hw1.symm
            subst hw1
            go_wp2_with fail
            refine HI5.out.mono ?_
            rintro e w1 ⟨rfl, hw1⟩
            replace hw1 := hw1.symm
            subst hw1
            go_wp2_with fail
            go_ret
            exact ⟨ret_bool HF.out.symm, hB⟩
          · rw [hd5] at HR HI5
            clear hd5
            simp only [Bool.and_true, Bool.true_and] at HR
            go_enter Try.func34, Try.ntmps34
            go_wp2_with fail
            rw [HW.out]
            refine HI1.out.mono ?_
            rintro e w1 ⟨rfl, hw1⟩
            replace hw1 := hw1.symm
            subst hw1
            rw [HW.out] at x0 x1 x2 x3 x4 x5
            go_wp2_with fail
            refine HI2.out.mono ?_
            rintro e w1 ⟨rfl, hw1⟩
            replace hw1 := hw1.symm
            subst hw1
            go_wp2_with fail
            refine HI3.out.mono ?_
            rintro e w1 ⟨rfl, hw1⟩
            replace hw1 := hw1.symm
            subst hw1
            go_wp2_with fail
            refine HI5.out.mono ?_
            rintro e w1 ⟨rfl, hw1⟩
            replace hw1 := hw1.symm
            subst hw1
            clear x0 x1 x2 x3 x4 x5 HI1 HI2 HI3 HI5
            go_wp2_with fail
            have w1 : IntKind.i64.wrap (life * 1000) = life * 1000 := by rw [IntKind.wrap_i64]; omega
            have w2 : IntKind.i64.wrap (life * 1000 + next) = life * 1000 + next := by rw [IntKind.wrap_i64]; omega
            have w3 : IntKind.i64.wrap (life * 1000 + next - 1) = life * 1000 + next - 1 := by rw [IntKind.wrap_i64]; omega
            go_loopw [3] (fun i wr => ∃ k : Nat, k ≤ ln ∧ i = .int .i64 (k : Int) ∧ Below W.heap.size W wr ∧ ∀ j (hj : j < k) (hjl : j < log.length), (1000 ≤ log[j].1 ∧ log[j].1 ≤ life * 1000 + next - 1) ∧ chosen log log[j].1 = some j) (fun i _ => ln - (intOf i).toNat)
            case atStart => exact ⟨0, Nat.zero_le _, rfl, Below.refl _ _, fun j hj => absurd hj (by omega)⟩
            case round =>
              obtain ⟨k, hk, rfl, hbr, hall⟩ := hrel
              have HALL := Hid.mk' hall
              clear hall
              have hSr := HS.out.below hbr
              obtain ⟨x0, x1, x2, x3, x4, x5⟩ := (HBX.out.below hbr).cells
              have hBr := hB.trans (hbr.mono hB.size)
              by_cases hlt : k < ln
              · have hltl : k < log.length := by omega
                obtain ⟨b, off, e⟩ := slg_some hSr.log (by omega)
                subst e
                have hki : (k : Int) < (ln : Int) := by omega
                have hlog : SlG chR wr (some ⟨b, off, none⟩) ln log := hSr.log
                have hat := (ch_at hlog k hltl).1
                have o0 := last.On.cell (B := wr.heap.size) x0 (World.block_lt_of_cell? _ _ x0)
                have o1 := last.On.cell (B := wr.heap.size) x1 (World.block_lt_of_cell? _ _ x1)
                have o2 := last.On.cell (B := wr.heap.size) x2 (World.block_lt_of_cell? _ _ x2)
                have o3 := last.On.cell (B := wr.heap.size) x3 (World.block_lt_of_cell? _ _ x3)
                have o4 := last.On.cell (B := wr.heap.size) x4 (World.block_lt_of_cell? _ _ x4)
                have o5 := last.On.cell (B := wr.heap.size) x5 (World.block_lt_of_cell? _ _ x5)
                have ok := last.On.cell (B := wr.heap.size) hat (World.block_lt_of_cell? _ _ hat)
                have hinr := last.On.inh wr.heap.size wr
                have hin : ∀ x : last.On wr.heap.size wr, Calls Try.prog 63 #[.int .i64 log[k].1, .int .i64 1000, .int .i64 (life * 1000 + next - 1)] x.w fun e w' => e = .returned (.bool (decide (1000 ≤ log[k].1 ∧ log[k].1 ≤ life * 1000 + next - 1))) ∧ ∃ y : last.On wr.heap.size wr, w' = y.w := fun x => last.Calls.on x (Nat.le_refl _) ((s_inZ log[k].1 1000 (life * 1000 + next - 1) x.w).mono fun e w' ⟨he, hw⟩ => ⟨he, by rw [hw]; exact Below.refl _ _⟩)
                have hch : ∀ x : last.On wr.heap.size wr, Calls Try.prog 64 #[.agg #[.int .i64 n, .int .i64 life, .int .i64 next, .slice ja jn jc, .slice (some ⟨b, off, none⟩) ln lc, .int .i64 sure], .int .i64 log[k].1] x.w fun e w' => e = .returned (.int .i64 (idx (chosen log log[k].1))) ∧ ∃ y : last.On wr.heap.size wr, w' = y.w := fun x => last.Calls.on x (Nat.le_refl _) ((spec_chosen n life next sure ja jn jc (some ⟨b, off, none⟩) ln lc log log[k].1 x.w (hlog.below x.2)).mono fun e w' ⟨he, hw⟩ => ⟨he, by rw [hw]; exact below_new _ _⟩)
                have HNO := Hid.mk' (fun hx => logOk_no (hi := life * 1000 + next - 1) hltl hx)
                have HNX : Hid ((1000 ≤ log[k].1 ∧ log[k].1 ≤ life * 1000 + next - 1) → chosen log log[k].1 = some k → ∀ j (hj : j < k + 1) (hjl : j < log.length), (1000 ≤ log[j].1 ∧ log[j].1 ≤ life * 1000 + next - 1) ∧ chosen log log[j].1 = some j) := fun h1 h2 j hj hjl => by
                  rcases Nat.lt_succ_iff_lt_or_eq.1 hj with e | e
                  · exact HALL.out j e hjl
                  · subst e; exact ⟨h1, h2⟩
                have HIX : Hid (idx (chosen log log[k].1) = (k : Int) ↔ chosen log log[k].1 = some k) := idx_eq
                clear hlog hSr HALL
                generalize idx (chosen log log[k].1) = Z at *
                generalize log[k].1 = txk at *
                cases hg : decide (1000 ≤ txk ∧ txk ≤ life * 1000 + next - 1)
                · have HLN := Hid.mk' (HNO.out (fun hx => of_decide_eq_false hg hx.1))
                  rw [hg] at hin
                  clear hg
                  have HF : Hid (coordOk (n, life, next, jobs, log, sure) = false) := by show _ = _; rw [HR.out, HLN.out]; rfl
                  clear HNO HNX HLN
                  go_wp2_with fail
                  refine last.wp_region_on wr.heap.size (by kernel_rfl) (by kernel_rfl) ?_
                  repeat (go_big_quiet_step ((first | (go_at_call 64; with_reducible exact hch _) | (go_at_call 63; with_reducible exact hin _))))
                  refine wpQuiet_nil ?_
                  intro wq hwq
                  obtain ⟨xq, hwq⟩ := hwq
                  subst hwq
                  have hbq : Below wr.heap.size wr xq.w := xq.2
                  generalize xq.w = w7 at *
                  clear o0 o1 o2 o3 o4 o5 ok hinr hin hch x0 x1 x2 x3 x4 x5 hat
                  go_wp2_with fail
                  go_ret
                  exact ⟨ret_bool HF.out.symm, hBr.trans (hbq.mono hBr.size)⟩
                · have hg2 := of_decide_eq_true hg
                  rw [hg] at hin
                  clear hg
                  by_cases hz : Z = (k : Int)
                  · have HN2 := Hid.mk' (HNX.out hg2 (HIX.out.1 hz))
                    rw [hz] at hch
                    clear HNO HNX HIX hz
                    go_wp2_with fail
                    refine last.wp_region_on wr.heap.size (by kernel_rfl) (by kernel_rfl) ?_
                    repeat (go_big_quiet_step ((first | (go_at_call 64; with_reducible exact hch _) | (go_at_call 63; with_reducible exact hin _))))
                    refine wpQuiet_nil ?_
                    intro wq hwq
                    obtain ⟨xq, hwq⟩ := hwq
                    subst hwq
                    have hbq : Below wr.heap.size wr xq.w := xq.2
                    generalize xq.w = w7 at *
                    clear o0 o1 o2 o3 o4 o5 ok hinr hin hch x0 x1 x2 x3 x4 x5 hat
                    have hbz := hbr.trans (hbq.mono hbr.size)
                    go_wp2_with fail
                    go_roundw
                    case rel => exact ⟨k + 1, by omega, by go_num, hbz, HN2.out⟩
                    case measure => simp [intOf]; omega
                  · have HLN := Hid.mk' (HNO.out (fun hx => hz (HIX.out.2 hx.2)))
                    have hzb : (Z == (k : Int)) = false := beq_eq_false_iff_ne.2 hz
                    have HF : Hid (coordOk (n, life, next, jobs, log, sure) = false) := by show _ = _; rw [HR.out, HLN.out]; rfl
                    clear HNO HNX HLN
                    go_wp2_with fail
                    refine last.wp_region_on wr.heap.size (by kernel_rfl) (by kernel_rfl) ?_
                    repeat (go_big_quiet_step ((first | (go_at_call 64; with_reducible exact hch _) | (go_at_call 63; with_reducible exact hin _))))
                    refine wpQuiet_nil ?_
                    intro wq hwq
                    obtain ⟨xq, hwq⟩ := hwq
                    subst hwq
                    have hbq : Below wr.heap.size wr xq.w := xq.2
                    generalize xq.w = w7 at *
                    clear o0 o1 o2 o3 o4 o5 ok hinr hin hch x0 x1 x2 x3 x4 x5 hat
                    go_wp2_with fail
                    go_ret
                    exact ⟨ret_bool HF.out.symm, hBr.trans (hbq.mono hBr.size)⟩
              · have hnk : ¬ (k : Int) < (ln : Int) := by omega
                have HL : Hid (logOk (life * 1000 + next - 1) log = true) := logOk_all fun j hj => HALL.out j (by omega) hj
                clear HALL x1 x2 x5 w1 w2 w3
                rw [HL.out, Bool.true_and] at HR
                clear HL
                go_wp2_with fail
                clear x0 x3 x4 hnk hk
                have hBr0 := hBr
                have hbr0 := hbr
                clear hBr hSr
                go_loopw [4] (fun i w2 => ∃ k : Nat, k ≤ jn ∧ i = .int .i64 (k : Int) ∧ Below W.heap.size W w2 ∧ jobsOk n life next log none jobs = jobsOk n life next log (prevTx jobs k) (jobs.drop k)) (fun i _ => jn - (intOf i).toNat)
                case atStart => exact ⟨0, Nat.zero_le _, rfl, hbr0, rfl⟩
                case round =>
                  clear hbr hbr0 hBr0
                  obtain ⟨k, hk, rfl, hbr, hye⟩ := hrel
                  have hSr := HS.out.below hbr
                  obtain ⟨x0, x1, x2, x3, x4, x5⟩ := (HBX.out.below hbr).cells
                  have hBr := hB.trans (hbr.mono hB.size)
                  by_cases hlt : k < jn
                  · have hltl : k < jobs.length := by omega
                    obtain ⟨jb, joff, e⟩ := slg_some hSr.jobs (by omega)
                    subst e
                    have hki : (k : Int) < (jn : Int) := by omega
                    rw [jobs_step hltl] at hye
                    have hjs : SlG jobR wr (some ⟨jb, joff, none⟩) jn jobs := hSr.jobs
                    have hlg : SlG chR wr la ln log := hSr.log
                    obtain ⟨a0, a2, ⟨oa, ol, oc, a1, hOo, hoc⟩, ya, yl, yc, a3, hYy, hyc⟩ := job_at hjs k hltl
                    have hfk := HFJ.out _ (List.getElem_mem hltl)
                    have hol : ol ≤ 1099511627776 := by have h1 := hOo.1; have h2 := hfk.1; omega
                    have HJ : Hid (Calls Try.prog 65 #[.agg #[.int .i64 n, .int .i64 life, .int .i64 next, .slice (some ⟨jb, joff, none⟩) jn jc, .slice la ln lc, .int .i64 sure], .int .i64 (k : Int)] wr fun e w' => e = .returned (.bool (jobOk n life next log (prevTx jobs k) jobs[k])) ∧ Below wr.heap.size wr w') := by
                      cases k with
                      | zero =>
                        simp only [Nat.zero_mul, Nat.add_zero] at a0 a1 a2 a3
                        exact specJobZ n life next sure jb joff jn jc la ln lc jobs[0].1 jobs[0].2.2.1 oa ol oc ya yl yc jobs[0].2.1 jobs[0].2.2.2 log wr hr0 hr1 hr2 hlt (by omega) hol hfk.2 a0 a1 a2 a3 hOo hYy hlg
                      | succ k' =>
                        have b0 := (job_at hjs k' (by omega)).1
                        rw [prevTx_succ (jobs := jobs) (k := k') (by omega), show ((k' + 1 : Nat) : Int) = (k' : Int) + 1 from by omega]
                        exact specJobS n life next sure jb joff jn jc la ln lc jobs[k' + 1].1 jobs[k' + 1].2.2.1 oa ol oc ya yl yc jobs[k' + 1].2.1 jobs[k' + 1].2.2.2 log k' _ wr hr0 hr1 hr2 hlt (by omega) hol hfk.2 a0 a1 a2 a3 b0 hOo hYy hlg
                    have HPV : Hid (prevTx jobs (k + 1) = some jobs[k].1) := prevTx_succ hltl
                    have HYE := Hid.mk' hye
                    clear hye hjs hlg hSr a0 a1 a2 a3 hOo hYy hfk hol hoc hyc
                    generalize jobOk n life next log (prevTx jobs k) jobs[k] = Q at *
                    generalize jobs[k].1 = txk at *
                    cases Q
                    · have HF : Hid (coordOk (n, life, next, jobs, log, sure) = false) := by show _ = _; rw [HR.out, HYE.out]; simp
                      clear HYE HPV
                      go_wp2_with fail
                      refine HJ.out.mono ?_
                      rintro e w6 ⟨rfl, hb6⟩
                      have hB6 := hBr.trans (hb6.mono hBr.size)
                      clear x0 x1 x2 x3 x4 x5 HJ
                      go_wp2_with fail
                      go_ret
                      exact ⟨ret_bool HF.out.symm, hB6⟩
                    · have HY2 : Hid (jobsOk n life next log none jobs = jobsOk n life next log (prevTx jobs (k + 1)) (jobs.drop (k + 1))) := by show _ = _; rw [HYE.out, HPV.out]; simp
                      clear HYE HPV
                      go_wp2_with fail
                      refine HJ.out.mono ?_
                      rintro e w6 ⟨rfl, hb6⟩
                      have hb7 := hbr.trans (hb6.mono hbr.size)
                      clear x0 x1 x2 x3 x4 x5 HJ
                      go_wp2_with fail
                      go_roundw
                      case rel => exact ⟨k + 1, by omega, by go_num, hb7, HY2.out⟩
                      case measure => simp [intOf]; omega
                  · have hnk : ¬ (k : Int) < (jn : Int) := by omega
                    have HF : Hid (coordOk (n, life, next, jobs, log, sure) = true) := by show _ = _; rw [HR.out, hye, List.drop_of_length_le (by omega)]; cases prevTx jobs k <;> rfl
                    clear hye
                    go_wp2_with fail
                    go_ret
                    exact ⟨ret_bool HF.out.symm, hBr⟩
end Go.Proofs.Yteniflajiklffaa.cos

namespace Go.Proofs.Yteniflajiklffaa.cos
open Go Go.RowKit Go.Proofs.Yteniflajiklffaa.base Go.Proofs.Yteniflajiklffaa.pairs Go.Proofs.Yteniflajiklffaa.ords Go.Proofs.Yteniflajiklffaa.lay Go.Proofs.Yteniflajiklffaa.wds
set_option linter.unusedVariables false
set_option linter.unusedSimpArgs false

def answerS (life sure : Int) (log : List Ch) (tx : Int) : Bool × Bool :=
  if tx < 1000 then (false, false) else
    match chosen log tx with
    | some k => ((choice log tx).getD false && decide ((k : Int) < sure), decide ((k : Int) < sure))
    | none => (false, decide (tx < life * 1000))
def answerR (c : Co) (tx : Int) : Bool × Bool := if coordOk c = true then answerS c.2.1 c.2.2.2.2.2 c.2.2.2.2.1 tx else (false, false)
def newR (n : Int) : Co := if 1 ≤ n ∧ n ≤ 8 then (n, 1, 0, [], [], 0) else (0, 0, 0, [], [], 0)
theorem coordOk_head {c : Co} (h : coordOk c = true) : (1 ≤ c.1 ∧ c.1 ≤ 8) ∧ (1 ≤ c.2.1 ∧ c.2.1 ≤ 900) ∧ (0 ≤ c.2.2.1 ∧ c.2.2.1 ≤ 999) ∧ c.2.2.2.2.1.length ≤ 1000 ∧ (0 ≤ c.2.2.2.2.2 ∧ c.2.2.2.2.2 ≤ (c.2.2.2.2.1.length : Int)) := by
  unfold coordOk headOk at h
  simp only [Bool.and_eq_true, decide_eq_true_eq] at h
  exact ⟨h.1.1.1.1.1.1, h.1.1.1.1.1.2, h.1.1.1.1.2, h.1.1.1.2, h.1.1.2⟩

set_option maxRecDepth 100000 in
set_option maxHeartbeats 2000000 in
theorem spec_coordNew (n : Int) (w : World) :
    Calls Try.prog 91 #[.int .i64 n] w fun e w' => e = .returned (coV (newR n).1 (newR n).2.1 (newR n).2.2.1 (newR n).2.2.2.2.2 none 0 0 none 0 0) ∧ Below w.heap.size w w' := by
  have hin := s_inZ n 1 8 (w.alloc (coO 0 0 0 0 none 0 0 none 0 0))
  by_cases hn : 1 ≤ n ∧ n ≤ 8
  · have HR : Hid (newR n = (n, 1, 0, [], [], 0)) := if_pos hn
    rw [decide_eq_true hn] at hin
    have HI := Hid.mk' hin
    clear hin
    go_enter Try.func91, Try.ntmps91
    go_wp2_with fail
    refine HI.out.mono ?_
    rintro e w1 ⟨rfl, hw1⟩
    subst hw1
    go_wp2_with fail
    go_returns
    exact ⟨by rw [HR.out], below_new _ _⟩
  · have HR : Hid (newR n = (0, 0, 0, [], [], 0)) := if_neg hn
    rw [decide_eq_false hn] at hin
    have HI := Hid.mk' hin
    clear hin
    go_enter Try.func91, Try.ntmps91
    go_wp2_with fail
    refine HI.out.mono ?_
    rintro e w1 ⟨rfl, hw1⟩
    subst hw1
    go_wp2_with fail
    go_returns
    exact ⟨by rw [HR.out], below_new _ _⟩
end Go.Proofs.Yteniflajiklffaa.cos

namespace Go.Proofs.Yteniflajiklffaa.wds
open Go Go.RowKit Go.Proofs.Yteniflajiklffaa.base Go.Proofs.Yteniflajiklffaa.pairs Go.Proofs.Yteniflajiklffaa.ords
set_option linter.unusedVariables false
set_option linter.unusedSimpArgs false

theorem append_nothing (w : World) (g c : Nat) (ty : TypeId) : (Builtin.append_ #[28, 28] ty #[.slice (some ⟨g, 0, none⟩) 0 0, .slice none 0 c]).run Try.prog w = .ok (.slice (some ⟨g, 0, none⟩) 0 0) w := by kernel_rfl

set_option maxRecDepth 100000 in
set_option maxHeartbeats 2000000 in
theorem spec_copyOps (a : Option Addr) (len cap : Nat) (l : List Od) (w : World) (h : SlO w a len l) (hsz : len ≤ 1099511627776) :
    Calls Try.prog 62 #[.slice a len cap] w fun e w' => ∃ g' cp', e = .returned (.slice (some ⟨g', 0, none⟩) len cp') ∧ OwnO w' w.heap.size g' len cp' l ∧ Below w.heap.size w w' := by
  obtain ⟨i0, hi, hz0, hz1, hz2⟩ := info_parts infoO
  have hl := h.1
  have hsm := h.2.2.1
  have hba : Below w.heap.size w (w.alloc (.cells #[] 111)) := (Below.refl _ _).alloc (Nat.le_refl _) _
  have hOm := ownO_made w w.heap.size (Nat.le_refl _)
  cases a with
  | none =>
    have h0 : len = 0 := by
      rcases Nat.eq_zero_or_pos len with e | e
      · exact e
      · obtain ⟨b, off, ha, _⟩ := h.2.2.2 e; cases ha
    subst h0
    have e1 : l = [] := List.eq_nil_of_length_eq_zero hl
    subst e1
    have han := append_nothing
    go_enter Try.func62, Try.ntmps62
    go_wp2_with fail
    go_ret
    exact ⟨_, _, rfl, hOm, hba⟩
  | some ad =>
    have hcell : Hid (∀ j u, (ordVals l)[j]? = some u → (w.alloc (.cells #[] 111)).cell? (ad.add j) = some u) := by
      rcases Nat.eq_zero_or_pos len with e | e
      · intro j u hj
        have e1 : l = [] := List.eq_nil_of_length_eq_zero (by omega)
        rw [e1] at hj; simp [ordVals] at hj
      · obtain ⟨b, off, ha, _⟩ := h.2.2.2 e
        cases ha
        exact cells_ords (h.below hba).cells
    have hc3 : 0 + len ≤ maxLen := by unfold maxLen; omega
    have hc4 : (0 + len) * 40 ≤ 140737488355328 := by omega
    have hl2 : (ordVals l).length = len * 3 := by rw [ordVals_length]; omega
    go_enter Try.func62, Try.ntmps62
    go_wp2_with (at_builtin; refine wpList_append_own _ rfl (.tmp 3) (.tmp 4) 28 rfl w.heap.size 111 i0 (.agg #[.int .i64 0, .string ⟨#[]⟩, .string ⟨#[]⟩]) 3 40 Try.underlying28 hi hz0 hz1 hz2 rfl (by decide) _ _ _ rfl hOm.2.2 ad len cap (ordVals l) rfl hl2 hcell.out (ordVals_oneCell l) hc3 hc4 hba.size ?_)
    intro v1 w1 hown hgrow hnn
    have hnn' : ¬ v1 = .slice none 0 0 := by simpa using hnn
    obtain ⟨g1, c1, hv1, hO1⟩ := ownO_val hl hsm hnn' (by have h9 := hown; rwa [show ordVals [] ++ ordVals l = ordVals l from rfl] at h9)
    subst hv1
    have hgr : (w.alloc (.cells #[] 111)).grownBy w1 (some w.heap.size) := hgrow
    have hB1 := hba.grown hgr hba.size (fun k e => by cases e; exact Nat.le_refl _)
    clear hown hgrow hnn hnn' hgr
    go_wp2_with fail
    go_ret
    exact ⟨g1, c1, rfl, hO1, hB1⟩
end Go.Proofs.Yteniflajiklffaa.wds
