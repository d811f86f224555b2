/- The program's one who decides: whether it is right, and its answers. What the exact laws of those who decide share. The specification's SureAll. The program's copy of one who decides; all choices sure; a new life. The program's one who decides: a new life. -/
import Derived.Test.YteniflajiklffaaShaj
import Derived.Test.YteniflajiklffaaShag
import Derived.Deep.RegionHeld3
import Derived.Test.YteniflajiklffaaShaf
import Derived.Test.YteniflajiklffaaShah
import Derived.Deep.RegionHeldLaw
namespace Go.Proofs.Yteniflajiklffaa.cos
open Go Go.RowKit Go.Proofs.Yteniflajiklffaa.base Go.Proofs.Yteniflajiklffaa.pairs Go.Proofs.Yteniflajiklffaa.ords Go.Proofs.Yteniflajiklffaa.lay Go.Proofs.Yteniflajiklffaa.wds
set_option linter.unusedVariables false
set_option linter.unusedSimpArgs false

theorem i_countOk (n : Int) (w : World) : Calls Try.prog 71 #[.int .i64 n] w fun e w' => e = .returned (.bool (decide (1 ≤ n ∧ n ≤ 8))) ∧ w' = w := by
  by_cases h1 : 1 ≤ n
  · by_cases h2 : n ≤ 8
    · rw [decide_eq_true ⟨h1, h2⟩]
      go_enter Try.func71, Try.ntmps71
      go_wp2
      go_ret
      exact ⟨by simp [h2], rfl⟩
    · rw [decide_eq_false (fun h => h2 h.2)]
      go_enter Try.func71, Try.ntmps71
      go_wp2
      go_ret
      exact ⟨by simp [h2], rfl⟩
  · rw [decide_eq_false (fun h => h1 h.1)]
    go_enter Try.func71, Try.ntmps71
    go_wp2
    go_ret
    exact ⟨rfl, rfl⟩
def CkPost (w : World) (c : Co) (e : Ending) (w' : World) : Prop :=
  Below w.heap.size w w' ∧ ((coordOk c = false ∧ ∃ v, e = .returned (.tuple #[v, .bool false])) ∨ (coordOk c = true ∧ ∃ B m, e = .returned (.tuple #[.map (some B), .bool true]) ∧ Made w' B m c.2.2.2.2.1))
theorem ckPost_no {w w' : World} {c : Co} {v : Value} (hb : Below w.heap.size w w') (h : coordOk c = false) : CkPost w c (.returned (.tuple #[v, .bool false])) w' := ⟨hb, .inl ⟨h, v, rfl⟩⟩
theorem ckPost_yes {w w' : World} {c : Co} {B m : Nat} (hb : Below w.heap.size w w') (h : coordOk c = true) (hM : Made w' B m c.2.2.2.2.1) : CkPost w c (.returned (.tuple #[.map (some B), .bool true])) w' := ⟨hb, .inr ⟨h, B, m, rfl, hM⟩⟩
set_option maxRecDepth 100000 in
set_option maxHeartbeats 4000000 in
theorem i_checked (X : Nat) (T : TypeId) (pre post : List Value) (n life next sure : Int) (ja : Option Addr) (jn jc : Nat) (la : Option Addr) (ln lc : Nat) (jobs : List Jb) (log : List Ch) (w : World) (hbx : BoxIn X T pre (coVals n life next sure ja jn jc la ln lc) post w) (hj : SlG jobR w ja jn jobs) (hl : SlG chR w la ln log)
    (hfj : ∀ j ∈ jobs, j.2.1.length ≤ 1099511627776 ∧ (∀ p ∈ j.2.1, p.2.1.size ≤ 1099511627776)) :
    Calls Try.prog 38 #[.pointer (some ⟨X, pre.length, none⟩)] w (CkPost w (n, life, next, jobs, log, sure)) := by
  have hll := hl.1
  have hlm := hl.2.1
  unfold maxLen at hlm
  have HR : Hid (coordOk (n, life, next, jobs, log, sure) = (decide (1 ≤ n ∧ n ≤ 8) && decide (1 ≤ life ∧ life ≤ 900) && decide (0 ≤ next ∧ next ≤ 999) && decide (ln ≤ 1000) && decide (0 ≤ sure ∧ sure ≤ (ln : Int)) && logOk (life * 1000 + next - 1) log && jobsOk n life next log none jobs)) := by
    show _ = _
    rw [← hll]; rfl
  have x0 := hbx.cell 0 _ rfl
  rw [Nat.add_zero] at x0
  have x1 := hbx.cell 1 _ rfl
  have x2 := hbx.cell 2 _ rfl
  have x4 := hbx.cell 4 _ rfl
  have x5 := hbx.cell 5 _ rfl
  have o0 := last.On.cell (B := w.heap.size) x0 (World.block_lt_of_cell? _ _ x0)
  have o1 := last.On.cell (B := w.heap.size) x1 (World.block_lt_of_cell? _ _ x1)
  have o2 := last.On.cell (B := w.heap.size) x2 (World.block_lt_of_cell? _ _ x2)
  have o4 := last.On.cell (B := w.heap.size) x4 (World.block_lt_of_cell? _ _ x4)
  have o5 := last.On.cell (B := w.heap.size) x5 (World.block_lt_of_cell? _ _ x5)
  have hinh := last.On.inh w.heap.size w
  have hco : ∀ x : last.On w.heap.size w, Calls Try.prog 71 #[.int .i64 n] x.w fun e w' => e = .returned (.bool (decide (1 ≤ n ∧ n ≤ 8))) ∧ ∃ y : last.On w.heap.size w, w' = y.w := fun x => last.Calls.on x (Nat.le_refl _) ((i_countOk n x.w).mono fun e w' ⟨he, hw⟩ => ⟨he, by rw [hw]; exact Below.refl _ _⟩)
  clear x0 x1 x2 x4 x5
  cases hd0 : decide (1 ≤ n ∧ n ≤ 8)
  · have HF : Hid (coordOk (n, life, next, jobs, log, sure) = false) := by show _ = _; rw [HR.out, hd0]; rfl
    rw [hd0] at hco
    clear HR hd0 hbx hj hl hfj
    go_enter Try.func38, Try.ntmps38
    go_wp2_with fail
    refine last.wp_region_on w.heap.size (by kernel_rfl) (by kernel_rfl) ?_
    repeat (go_big_quiet_step ((first | (go_at_call 71; with_reducible exact hco _))))
    refine wpQuiet_nil ?_
    intro wq hwq
    obtain ⟨xq, hwq⟩ := hwq
    subst hwq
    have hbq : Below w.heap.size w xq.w := xq.2
    generalize xq.w = w4 at *
    clear o0 o1 o2 o4 o5 hinh hco
    go_wp2_with fail
    go_returns
    exact ckPost_no hbq HF.out
  rw [hd0] at hco
  cases he0 : decide (life < 1)
  rotate_left
  · have HF : Hid (coordOk (n, life, next, jobs, log, sure) = false) := by
      show _ = _
      have hq := of_decide_eq_true he0
      rw [HR.out, decide_eq_false (show ¬ (1 ≤ life ∧ life ≤ 900) by omega)]; simp
    clear HR hbx hj hl hfj
    go_enter Try.func38, Try.ntmps38
    go_wp2_with fail
    refine last.wp_region_on w.heap.size (by kernel_rfl) (by kernel_rfl) ?_
    repeat (go_big_quiet_step ((first | (go_at_call 71; with_reducible exact hco _))))
    refine wpQuiet_nil ?_
    intro wq hwq
    obtain ⟨xq, hwq⟩ := hwq
    subst hwq
    have hbq : Below w.heap.size w xq.w := xq.2
    generalize xq.w = w4 at *
    clear o0 o1 o2 o4 o5 hinh hco
    go_wp2_with fail
    go_returns
    exact ckPost_no hbq HF.out
  cases he1 : decide (900 < life)
  rotate_left
  · have HF : Hid (coordOk (n, life, next, jobs, log, sure) = false) := by
      show _ = _
      have hq := of_decide_eq_true he1
      rw [HR.out, decide_eq_false (show ¬ (1 ≤ life ∧ life ≤ 900) by omega)]; simp
    clear HR hbx hj hl hfj
    go_enter Try.func38, Try.ntmps38
    go_wp2_with fail
    refine last.wp_region_on w.heap.size (by kernel_rfl) (by kernel_rfl) ?_
    repeat (go_big_quiet_step ((first | (go_at_call 71; with_reducible exact hco _))))
    refine wpQuiet_nil ?_
    intro wq hwq
    obtain ⟨xq, hwq⟩ := hwq
    subst hwq
    have hbq : Below w.heap.size w xq.w := xq.2
    generalize xq.w = w4 at *
    clear o0 o1 o2 o4 o5 hinh hco
    go_wp2_with fail
    go_returns
    exact ckPost_no hbq HF.out
  cases he2 : decide (next < 0)
  rotate_left
  · have HF : Hid (coordOk (n, life, next, jobs, log, sure) = false) := by
      show _ = _
      have hq := of_decide_eq_true he2
      rw [HR.out, decide_eq_false (show ¬ (0 ≤ next ∧ next ≤ 999) by omega)]; simp
    clear HR hbx hj hl hfj
    go_enter Try.func38, Try.ntmps38
    go_wp2_with fail
    refine last.wp_region_on w.heap.size (by kernel_rfl) (by kernel_rfl) ?_
    repeat (go_big_quiet_step ((first | (go_at_call 71; with_reducible exact hco _))))
    refine wpQuiet_nil ?_
    intro wq hwq
    obtain ⟨xq, hwq⟩ := hwq
    subst hwq
    have hbq : Below w.heap.size w xq.w := xq.2
    generalize xq.w = w4 at *
    clear o0 o1 o2 o4 o5 hinh hco
    go_wp2_with fail
    go_returns
    exact ckPost_no hbq HF.out
  cases he3 : decide (999 < next)
  rotate_left
  · have HF : Hid (coordOk (n, life, next, jobs, log, sure) = false) := by
      show _ = _
      have hq := of_decide_eq_true he3
      rw [HR.out, decide_eq_false (show ¬ (0 ≤ next ∧ next ≤ 999) by omega)]; simp
    clear HR hbx hj hl hfj
    go_enter Try.func38, Try.ntmps38
    go_wp2_with fail
    refine last.wp_region_on w.heap.size (by kernel_rfl) (by kernel_rfl) ?_
    repeat (go_big_quiet_step ((first | (go_at_call 71; with_reducible exact hco _))))
    refine wpQuiet_nil ?_
    intro wq hwq
    obtain ⟨xq, hwq⟩ := hwq
    subst hwq
    have hbq : Below w.heap.size w xq.w := xq.2
    generalize xq.w = w4 at *
    clear o0 o1 o2 o4 o5 hinh hco
    go_wp2_with fail
    go_returns
    exact ckPost_no hbq HF.out
  cases he4 : decide (sure < 0)
  rotate_left
  · have HF : Hid (coordOk (n, life, next, jobs, log, sure) = false) := by
      show _ = _
      have hq := of_decide_eq_true he4
      rw [HR.out, decide_eq_false (show ¬ (0 ≤ sure ∧ sure ≤ (ln : Int)) by omega)]; simp
    clear HR hbx hj hl hfj
    go_enter Try.func38, Try.ntmps38
    go_wp2_with fail
    refine last.wp_region_on w.heap.size (by kernel_rfl) (by kernel_rfl) ?_
    repeat (go_big_quiet_step ((first | (go_at_call 71; with_reducible exact hco _))))
    refine wpQuiet_nil ?_
    intro wq hwq
    obtain ⟨xq, hwq⟩ := hwq
    subst hwq
    have hbq : Below w.heap.size w xq.w := xq.2
    generalize xq.w = w4 at *
    clear o0 o1 o2 o4 o5 hinh hco
    go_wp2_with fail
    go_returns
    exact ckPost_no hbq HF.out
  cases he5 : decide ((ln : Int) < sure)
  rotate_left
  · have HF : Hid (coordOk (n, life, next, jobs, log, sure) = false) := by
      show _ = _
      have hq := of_decide_eq_true he5
      rw [HR.out, decide_eq_false (show ¬ (0 ≤ sure ∧ sure ≤ (ln : Int)) by omega)]; simp
    clear HR hbx hj hl hfj
    go_enter Try.func38, Try.ntmps38
    go_wp2_with fail
    refine last.wp_region_on w.heap.size (by kernel_rfl) (by kernel_rfl) ?_
    repeat (go_big_quiet_step ((first | (go_at_call 71; with_reducible exact hco _))))
    refine wpQuiet_nil ?_
    intro wq hwq
    obtain ⟨xq, hwq⟩ := hwq
    subst hwq
    have hbq : Below w.heap.size w xq.w := xq.2
    generalize xq.w = w4 at *
    clear o0 o1 o2 o4 o5 hinh hco
    go_wp2_with fail
    go_returns
    exact ckPost_no hbq HF.out
  have hr0 := of_decide_eq_true hd0
  have hlf : 1 ≤ life ∧ life ≤ 900 := ⟨by have := of_decide_eq_false he0; omega, by have := of_decide_eq_false he1; omega⟩
  have hnx : 0 ≤ next ∧ next ≤ 999 := ⟨by have := of_decide_eq_false he2; omega, by have := of_decide_eq_false he3; omega⟩
  have hsu : 0 ≤ sure ∧ sure ≤ (ln : Int) := ⟨by have := of_decide_eq_false he4; omega, by have := of_decide_eq_false he5; omega⟩
  rw [hd0, decide_eq_true hlf, decide_eq_true hnx, decide_eq_true hsu] at HR
  have HCH := Hid.mk' (fun wx (hx : Below w.heap.size w wx) => i_choicesOf X T pre post n life next sure ja jn jc la ln lc log wx (hbx.below hx) (hl.below hx) hlf hnx)
  have HJB := Hid.mk' (fun B m wx (hx : Below w.heap.size w wx) (hM : Made wx B m log) (hn : (log.map fun c => c.1).Nodup) => i_jobsOk X T pre post n life next sure ja jn jc la ln lc jobs log B m wx (hbx.below hx) (hj.below hx) hM hn hr0 hlf hnx hfj)
  clear hbx hj hl hfj hr0 hlf hnx hsu
  go_enter Try.func38, Try.ntmps38
  go_wp2_with fail
  refine last.wp_region_on w.heap.size (by kernel_rfl) (by kernel_rfl) ?_
  repeat (go_big_quiet_step ((first | (go_at_call 71; with_reducible exact hco _))))
  refine wpQuiet_nil ?_
  intro wq hwq
  obtain ⟨xq, hwq⟩ := hwq
  subst hwq
  have hbq : Below w.heap.size w xq.w := xq.2
  generalize xq.w = w4 at *
  clear o0 o1 o2 o4 o5 hinh hco hd0 he0 he1 he2 he3 he4 he5
  go_wp2_with fail
  refine (HCH.out _ hbq).mono ?_
  rintro e w5 ⟨hb5, ⟨hno, rfl⟩ | ⟨hyes, B, m, rfl, hM⟩⟩
  · have hB5 := hbq.trans (hb5.mono hbq.size)
    have HF : Hid (coordOk (n, life, next, jobs, log, sure) = false) := by
      show _ = _
      rw [HR.out]
      revert hno
      generalize decide (ln ≤ 1000) = b1
      generalize logOk (life * 1000 + next - 1) log = b2
      generalize jobsOk n life next log none jobs = b3
      intro hno
      cases b1 <;> cases b2 <;> cases b3 <;> first | rfl | cases hno
    clear HR hno HCH HJB
    go_wp2_with fail
    go_returns
    exact ckPost_no hB5 HF.out
  · have hB5 := hbq.trans (hb5.mono hbq.size)
    have hnd : (log.map fun c => c.1).Nodup := logOk_nodup (by rw [Bool.and_eq_true] at hyes; exact hyes.2)
    have HJ5 := Hid.mk' (HJB.out B m w5 hB5 hM hnd)
    have HRJ : Hid (coordOk (n, life, next, jobs, log, sure) = jobsOk n life next log none jobs) := by
      show _ = _
      rw [HR.out]
      revert hyes
      generalize decide (ln ≤ 1000) = b1
      generalize logOk (life * 1000 + next - 1) log = b2
      generalize jobsOk n life next log none jobs = b3
      intro hno
      cases b1 <;> cases b2 <;> cases b3 <;> first | rfl | cases hno
    have HM := Hid.mk' hM
    clear HR hyes HCH HJB hM hnd
    cases hjo : jobsOk n life next log none jobs
    · rw [hjo] at HJ5 HRJ
      clear hjo
      go_wp2_with fail
      refine HJ5.out.mono ?_
      rintro e w6 ⟨rfl, hb6⟩
      go_wp2_with fail
      go_returns
      exact ckPost_no (hB5.trans (hb6.mono hB5.size)) HRJ.out
    · rw [hjo] at HJ5 HRJ
      clear hjo
      go_wp2_with fail
      refine HJ5.out.mono ?_
      rintro e w6 ⟨rfl, hb6⟩
      go_wp2_with fail
      go_returns
      exact ckPost_yes (hB5.trans (hb6.mono hB5.size)) HRJ.out (HM.out.below hb6)
theorem boxIn_co (w : World) (n life next sure : Int) (ja : Option Addr) (jn jc : Nat) (la : Option Addr) (ln lc : Nat) : BoxIn w.heap.size 27 [] (coVals n life next sure ja jn jc la ln lc) [] (w.alloc (coO n life next sure ja jn jc la ln lc)) := boxIn_new w _ _
theorem impl_coordOk (ja : Option Addr) (jn jc : Nat) (la : Option Addr) (ln lc : Nat) (c : Co) (w : World) (h : SeeCo w ja jn jc la ln lc c) (hf : FitsCo c) :
    Calls Try.prog 10 #[coV c.1 c.2.1 c.2.2.1 c.2.2.2.2.2 ja jn jc la ln lc] w fun e w' => e = .returned (.bool (coordOk c)) ∧ Below w.heap.size w w' := by
  obtain ⟨n, life, next, jobs, log, sure⟩ := c
  simp only [] at *
  have hb := below_new w (coO n life next sure ja jn jc la ln lc)
  have hS := h.below hb
  have HC := Hid.mk' (i_checked _ _ [] [] n life next sure ja jn jc la ln lc jobs log _ (boxIn_co w n life next sure ja jn jc la ln lc) hS.jobs hS.log hf.2.2)
  clear h hS hf
  go_enter Try.func10, Try.ntmps10
  go_wp2_with fail
  refine HC.out.mono ?_
  rintro e w1 ⟨hb1, ⟨hno, v, rfl⟩ | ⟨hyes, B, m, rfl, hM⟩⟩
  · go_wp2_with fail
    go_ret
    exact ⟨ret_bool hno.symm, hb.trans (hb1.mono hb.size)⟩
  · go_wp2_with fail
    go_ret
    exact ⟨ret_bool hyes.symm, hb.trans (hb1.mono hb.size)⟩
set_option maxRecDepth 100000 in
set_option maxHeartbeats 2000000 in
theorem i_answer (X : Nat) (T : TypeId) (pre post : List Value) (n life next sure : Int) (ja : Option Addr) (jn jc : Nat) (la : Option Addr) (ln lc : Nat) (log : List Ch) (B m : Nat) (tx : Int) (w : World) (hbx : BoxIn X T pre (coVals n life next sure ja jn jc la ln lc) post w) (hM : Made w B m log) (hnd : (log.map fun c => c.1).Nodup) (h0 : ∀ c ∈ log, (1000 : Int) ≤ c.1) (hlf : 1 ≤ life ∧ life ≤ 900) (hw : (Lit.int .i64 tx).wf = true) :
    Calls Try.prog 40 #[.pointer (some ⟨X, pre.length, none⟩), .map (some B), .int .i64 tx] w fun e w' => e = .returned (.tuple #[.bool (answerS life sure log tx).1, .bool (answerS life sure log tx).2]) ∧ Below w.heap.size w w' := by
  have HR : Hid ((if decided log tx = true then (sureB log (tx, true) sure, sureB log (tx, true) sure || sureB log (tx, false) sure) else (false, decide (1000 ≤ tx) && decide (tx < life * 1000))) = answerS life sure log tx) := answer_way hnd h0 life sure tx
  have HX := Hid.mk' hbx
  have HD := Hid.mk' (i_decided B m log tx w hM hw)
  have HS := Hid.mk' (fun y wx (hx : Below w.heap.size w wx) => i_sure B m log tx sure y wx (hM.below hx) hw)
  have HT := Hid.mk' (fun wx (hx : Below w.heap.size w wx) => i_firstTx X T pre post n life next sure ja jn jc la ln lc wx (hbx.below hx) hlf)
  clear hM hnd h0 hw hbx
  generalize answerS life sure log tx = R at *
  cases hd : decided log tx
  · rw [hd] at HD HR
    clear hd HS
    by_cases ht : 1000 ≤ tx
    · have HF : Hid (R = (false, decide (tx < life * 1000))) := by show _ = _; rw [← HR.out, if_neg (by decide), decide_eq_true ht, Bool.true_and]
      clear HR
      go_enter Try.func40, Try.ntmps40
      go_wp2_with fail
      refine HD.out.mono ?_
      rintro e w1 ⟨rfl, hb1⟩
      go_wp2_with fail
      refine (HT.out _ hb1).mono ?_
      rintro e w2 ⟨rfl, hw2⟩
      replace hw2 := hw2.symm
      subst hw2
      go_wp2_with fail
      go_returns
      exact ⟨by rw [HF.out]; try rfl, hb1⟩
    · have HF : Hid (R = (false, false)) := by show _ = _; rw [← HR.out, if_neg (by decide), decide_eq_false ht]; rfl
      clear HR
      go_enter Try.func40, Try.ntmps40
      go_wp2_with fail
      refine HD.out.mono ?_
      rintro e w1 ⟨rfl, hb1⟩
      go_wp2_with fail
      go_returns
      exact ⟨by rw [HF.out]; try rfl, hb1⟩
  · rw [hd] at HD HR
    have HF : Hid (R = (sureB log (tx, true) sure, sureB log (tx, true) sure || sureB log (tx, false) sure)) := by show _ = _; rw [← HR.out, if_pos rfl]
    clear hd HT HR
    have HS1 := Hid.mk' (fun wx hx => HS.out true wx hx)
    have HS2 := Hid.mk' (fun wx hx => HS.out false wx hx)
    clear HS
    generalize sureB log (tx, true) sure = s1 at *
    generalize sureB log (tx, false) sure = s2 at *
    cases s1
    · go_enter Try.func40, Try.ntmps40
      go_wp2_with fail
      refine HD.out.mono ?_
      rintro e w1 ⟨rfl, hb1⟩
      have x5 := (HX.out.below hb1).cell 5 _ rfl
      go_wp2_with fail
      refine (HS1.out _ hb1).mono ?_
      rintro e w2 ⟨rfl, hb2⟩
      have hB2 := hb1.trans (hb2.mono hb1.size)
      clear x5
      have x5 := (HX.out.below hB2).cell 5 _ rfl
      go_wp2_with fail
      refine (HS2.out _ hB2).mono ?_
      rintro e w3 ⟨rfl, hb3⟩
      clear x5
      go_wp2_with fail
      go_returns
      exact ⟨by rw [HF.out]; try rfl, hB2.trans (hb3.mono hB2.size)⟩
    · go_enter Try.func40, Try.ntmps40
      go_wp2_with fail
      refine HD.out.mono ?_
      rintro e w1 ⟨rfl, hb1⟩
      have x5 := (HX.out.below hb1).cell 5 _ rfl
      go_wp2_with fail
      refine (HS1.out _ hb1).mono ?_
      rintro e w2 ⟨rfl, hb2⟩
      have hB2 := hb1.trans (hb2.mono hb1.size)
      clear x5
      go_wp2_with fail
      go_returns
      exact ⟨by rw [HF.out]; try rfl, hB2⟩
theorem logOk_thousand {hi : Int} {log : List Ch} (h : logOk hi log = true) : ∀ c ∈ log, (1000 : Int) ≤ c.1 := by
  unfold logOk at h
  rw [Bool.and_eq_true, List.all_eq_true] at h
  exact fun c hc => (of_decide_eq_true (h.1 c hc)).1
theorem coordOk_log {c : Co} (h : coordOk c = true) : logOk (c.2.1 * 1000 + c.2.2.1 - 1) c.2.2.2.2.1 = true := by
  unfold coordOk at h
  simp only [Bool.and_eq_true] at h
  exact h.1.2
set_option maxRecDepth 100000 in
set_option maxHeartbeats 2000000 in
theorem impl_answer (ja : Option Addr) (jn jc : Nat) (la : Option Addr) (ln lc : Nat) (c : Co) (tx : Int) (w : World) (h : SeeCo w ja jn jc la ln lc c) (hf : FitsCo c) (hw : (Lit.int .i64 tx).wf = true) :
    Calls Try.prog 13 #[coV c.1 c.2.1 c.2.2.1 c.2.2.2.2.2 ja jn jc la ln lc, .int .i64 tx] w fun e w' => e = .returned (.tuple #[.bool (answerR c tx).1, .bool (answerR c tx).2]) ∧ Below w.heap.size w w' := by
  obtain ⟨n, life, next, jobs, log, sure⟩ := c
  simp only [] at *
  have hb := below_new w (coO n life next sure ja jn jc la ln lc)
  have hS := h.below hb
  have hbx := boxIn_co w n life next sure ja jn jc la ln lc
  have HC := Hid.mk' (i_checked _ _ [] [] n life next sure ja jn jc la ln lc jobs log _ hbx hS.jobs hS.log hf.2.2)
  have HX := Hid.mk' hbx
  have HW := Hid.mk' hw
  clear h hS hf hbx hw
  go_enter Try.func13, Try.ntmps13
  go_wp2_with fail
  refine HC.out.mono ?_
  rintro e w1 ⟨hb1, ⟨hno, v, rfl⟩ | ⟨hyes, B, m, rfl, hM⟩⟩
  · have HR : Hid (answerR (n, life, next, jobs, log, sure) tx = (false, false)) := if_neg (by rw [hno]; decide)
    clear hno
    go_wp2_with fail
    go_returns
    exact ⟨by rw [HR.out]; try rfl, hb.trans (hb1.mono hb.size)⟩
  · have HR : Hid (answerR (n, life, next, jobs, log, sure) tx = answerS life sure log tx) := if_pos hyes
    have hlo := coordOk_log hyes
    have HA := Hid.mk' (i_answer _ _ [] [] n life next sure ja jn jc la ln lc log B m tx w1 (HX.out.below hb1) hM (logOk_nodup hlo) (logOk_thousand hlo) (coordOk_head hyes).2.1 HW.out)
    clear hyes hlo hM HC HX
    go_wp2_with fail
    refine HA.out.mono ?_
    rintro e w2 ⟨rfl, hb2⟩
    have hB1 := hb.trans (hb1.mono hb.size)
    go_wp2_with fail
    go_returns
    exact ⟨by rw [HR.out]; try rfl, hB1.trans (hb2.mono hB1.size)⟩
end Go.Proofs.Yteniflajiklffaa.cos

namespace Go.Proofs.Yteniflajiklffaa.cos
open Go Go.RowKit Go.Proofs.Yteniflajiklffaa.base Go.Proofs.Yteniflajiklffaa.pairs Go.Proofs.Yteniflajiklffaa.ords Go.Proofs.Yteniflajiklffaa.lay Go.Proofs.Yteniflajiklffaa.wds
set_option linter.unusedVariables false
set_option linter.unusedSimpArgs false

section
variable {w w' : World} {vs : List Value} {c : Co} {F : List Nat}
theorem coord_shape (h : coordR.own w vs c F) : ∃ ja jn jc la ln lc, vs = [.int .i64 c.1, .int .i64 c.2.1, .int .i64 c.2.2.1, .slice ja jn jc, .slice la ln lc, .int .i64 c.2.2.2.2.2] := by
  obtain ⟨ja, jn, jc, la, ln, lc, e, _⟩ := coord_see.1 (coordR.ownSee h)
  exact ⟨ja, jn, jc, la, ln, lc, e⟩
theorem see_co {ja la : Option Addr} {jn jc ln lc : Nat} (h : coordR.see w [.int .i64 c.1, .int .i64 c.2.1, .int .i64 c.2.2.1, .slice ja jn jc, .slice la ln lc, .int .i64 c.2.2.2.2.2] c) : SeeCo w ja jn jc la ln lc c := by
  obtain ⟨ja', jn', jc', la', ln', lc', e, h⟩ := coord_see.1 h
  unfold coVals at e
  simp only [List.cons.injEq, Value.slice.injEq, true_and, and_true] at e
  obtain ⟨⟨rfl, rfl, rfl⟩, rfl, rfl, rfl⟩ := e
  exact h
def cntJ (j : Jb) : Nat := 2 + 3 * j.2.1.length + j.2.2.2.length
def cntC (c : Co) : Nat := (c.2.2.2.1.map cntJ).sum + 2 * c.2.2.2.2.1.length
theorem sum_cnt (l : List Jb) : (l.map cntJ).sum ≤ 2 * l.length + 3 * sumJ l := by
  induction l with
  | nil => simp
  | cons j l ih =>
    simp only [List.map_cons, List.sum_cons, List.length_cons, sumJ] at ih ⊢
    have : cntJ j ≤ 2 + 3 * jsz j := by unfold cntJ jsz; omega
    omega
theorem BoundCo.cnt (h : BoundCo c) : cntC c ≤ 7340032 := by
  have h1 := sum_cnt c.2.2.2.1
  have h2 := h.jobs
  have h3 := h.log
  have h4 := h.sum
  unfold cntC
  omega
end
end Go.Proofs.Yteniflajiklffaa.cos

namespace Go.Proofs.Yteniflajiklffaa.cos
open Go Go.RowKit Go.Proofs.Yteniflajiklffaa.base Go.Proofs.Yteniflajiklffaa.pairs Go.Proofs.Yteniflajiklffaa.ords Go.Proofs.Yteniflajiklffaa.lay Go.Proofs.Yteniflajiklffaa.wds
set_option linter.unusedVariables false
set_option linter.unusedSimpArgs false

end Go.Proofs.Yteniflajiklffaa.cos

namespace Go.Proofs.Yteniflajiklffaa.cos
open Go Go.RowKit Go.Proofs.Yteniflajiklffaa.base Go.Proofs.Yteniflajiklffaa.pairs Go.Proofs.Yteniflajiklffaa.ords Go.Proofs.Yteniflajiklffaa.lay Go.Proofs.Yteniflajiklffaa.wds
set_option linter.unusedVariables false
set_option linter.unusedSimpArgs false

theorem infoJb : (Try.prog.info? 65).map (fun i => (i.zero, i.size, i.bytes)) = some (some (.agg #[.int .i64 0, .slice none 0 0, .int .i64 0, .slice none 0 0]), 4, 64) := by kernel_rfl
theorem ownG_row {α : Type} {R : Rd α} {ty : TypeId} {w : World} {g n : Nat} {k : Nat} (h : w.ownsRow k ty R.size (.slice (some ⟨g, 0, none⟩) 0 n) 0 []) : OwnG ty R w (.slice (some ⟨g, 0, none⟩) 0 n) [] [] := by
  refine ⟨rfl, ?_, fun i hi => absurd hi (by simp), by simp [blocksOf, Value.ownBlock]⟩
  obtain ⟨h1, h2⟩ := h
  refine ⟨h1, ?_⟩
  rcases h2 with h2 | ⟨g', c', cur, h2, h3, h4⟩
  · exact .inl h2
  · exact .inr ⟨g', c', cur, h2, Nat.zero_le _, h4⟩
set_option maxRecDepth 100000 in
set_option maxHeartbeats 4000000 in
theorem i_ownCoord (ja : Option Addr) (jn jc : Nat) (la : Option Addr) (ln lc : Nat) (c : Co) (w : World) (h : SeeCo w ja jn jc la ln lc c) (hbd : BoundCo c) :
    Calls Try.prog 28 #[coV c.1 c.2.1 c.2.2.1 c.2.2.2.2.2 ja jn jc la ln lc] w (RetR coordR w c) := by
  obtain ⟨i0, hif, hz0, hz1, hz2⟩ := info_parts infoJb
  have hwf := h.wf
  have hjl := h.jobs.1
  have hll := h.log.1
  have hj8 := hbd.jobs
  have hl8 := hbd.log
  obtain ⟨W, hW⟩ : ∃ W, (w.alloc (.cells #[.int .i64 c.1, .int .i64 c.2.1, .int .i64 c.2.2.1, .slice ja jn jc, .slice la ln lc, .int .i64 c.2.2.2.2.2] 27)).alloc (.cells #[.int .i64 0, .int .i64 0, .int .i64 0, .slice none 0 0, .slice none 0 0, .int .i64 0] 27) = W := ⟨_, rfl⟩
  have hB : Below w.heap.size w W := by rw [← hW]; exact ((Below.refl _ _).alloc (Nat.le_refl _) _).alloc (by simp) _
  have hA : BoxIn w.heap.size 27 [] [.int .i64 c.1, .int .i64 c.2.1, .int .i64 c.2.2.1, .slice ja jn jc, .slice la ln lc, .int .i64 c.2.2.2.2.2] [] W := by rw [← hW]; exact (boxIn_new w _ _).below below_make
  have hR : BoxIn (w.heap.size + 1) 27 [] [.int .i64 0, .int .i64 0, .int .i64 0, .slice none 0 0, .slice none 0 0, .int .i64 0] [] W := by
    rw [← hW]
    have := boxIn_new (w.alloc (.cells #[.int .i64 c.1, .int .i64 c.2.1, .int .i64 c.2.2.1, .slice ja jn jc, .slice la ln lc, .int .i64 c.2.2.2.2.2] 27)) [.int .i64 0, .int .i64 0, .int .i64 0, .slice none 0 0, .slice none 0 0, .int .i64 0] 27
    rwa [show (w.alloc (.cells #[.int .i64 c.1, .int .i64 c.2.1, .int .i64 c.2.2.1, .slice ja jn jc, .slice la ln lc, .int .i64 c.2.2.2.2.2] 27)).heap.size = w.heap.size + 1 by simp] at this
  have hRl := hR.lt
  have HW := Hid.mk' hW
  have HJ := Hid.mk' (h.jobs.below hB)
  have HL := Hid.mk' (h.log.below hB)
  have HYS := Hid.mk' hbd.yes
  have HFT := Hid.mk' hbd.fits
  obtain ⟨a0, a1, a2, a3, a4, a5⟩ := cells6 hA
  rw [← hW] at a0 a1 a2 a3 a4 a5
  clear hW h
  go_enter Try.func28, Try.ntmps28
  go_wp2_with (at_make; rw [HW.out]; refine wpList_make_own _ rfl _ _ 24 rfl 0 65 i0 (.agg #[.int .i64 0, .slice none 0 0, .int .i64 0, .slice none 0 0]) 4 Try.underlying24 hif hz0 hz1 _ _ _ jn rfl rfl rfl ?b2 ?b3 ?b4 ?_)
  case b2 => rw [hz2]; omega
  case b3 => unfold maxLen; omega
  case b4 => exact Nat.zero_le _
  intro w1 hown hgrow
  have hb1 : Below W.heap.size W w1 := (Below.refl _ _).grown hgrow (Nat.le_refl _) (fun k e => by cases e)
  have hOw0 := ownG_row (R := jobR) hown
  have hAl := hA.lt
  clear hown hgrow a0 a1 a2 a3 a4 a5 hif hz0 hz1 hz2
  obtain ⟨a0, a1, a2, a3, a4, a5⟩ := cells6 (hA.below hb1)
  go_wp2_with fail
  go_loopw [12, 3] (fun i s wr => ∃ (k g cap : Nat) (q : Parts), k ≤ jn ∧ i = .int .i64 (k : Int) ∧ s = .slice (some ⟨g, 0, none⟩) k cap ∧ OwnG 65 jobR wr (.slice (some ⟨g, 0, none⟩) k cap) (c.2.2.2.1.take k) q ∧ (∀ b ∈ g :: blocksOf q, W.heap.size ≤ b) ∧ Below W.heap.size W wr) (fun i _ _ => jn - (intOf i).toNat)
  case atStart => exact ⟨0, _, _, [], Nat.zero_le _, rfl, rfl, hOw0, fun b hb => by simp [blocksOf] at hb; omega, hb1⟩
  case round =>
    obtain ⟨k, g, cap, q, hk, rfl, rfl, hO, hq, hBw⟩ := hrel
    clear a0 a1 a2 a3 a4 a5 hOw0
    have hAw := hA.below hBw
    obtain ⟨a0, a1, a2, a3, a4, a5⟩ := cells6 hAw
    by_cases hlt : k < jn
    · have hltl : k < c.2.2.2.1.length := by omega
      have hki : (k : Int) < (jn : Int) := by omega
      obtain ⟨jb, joff, e⟩ := slg_some HJ.out (by omega)
      subst e
      have hS := HJ.out.below hBw
      obtain ⟨y0, y2, ⟨oa, ol, oc, y1, hOo, hoc⟩, ya, yl, yc, y3, hY, hyc⟩ := job_at hS k hltl
      have hjw := job_wf hS k hltl
      have hyl := HYS.out _ (List.getElem_mem hltl)
      have hol := (HFT.out.2.2 _ (List.getElem_mem hltl)).1
      have HTK : Hid (c.2.2.2.1.take (k + 1) = c.2.2.2.1.take k ++ [c.2.2.2.1[k]]) := List.take_succ_eq_append_getElem hltl
      have HTL : Hid ((c.2.2.2.1.take k).length = k) := by show _ = _; simp; omega
      have HOJ := Hid.mk' (i_ownJob jb (joff + k * 4) c.2.2.2.1[k].1 c.2.2.2.1[k].2.2.1 oa ol oc ya yl yc c.2.2.2.1[k].2.1 c.2.2.2.1[k].2.2.2 wr y0 y1 y2 y3 hjw.1 hjw.2.1 hOo hoc hY hyc hjw.2.2.2 (by have := hOo.1; omega) (by have := hY.1; omega))
      have HO := Hid.mk' hO
      generalize c.2.2.2.1[k] = j at *
      clear hS hOo hY hjw hol hyl y0 y1 y2 y3 hO
      go_wp2_with fail
      refine HOJ.out.mono ?_
      rintro e w2 ⟨us, F, rfl, hOx, hF, hb2⟩
      obtain ⟨ra, rn, rc, sa, sn, sc, rfl⟩ := job_vals hOx
      have hOk := HO.out.below hb2
      have hlts := HO.out.lts
      have hB2 := hBw.trans (hb2.mono hBw.size)
      obtain ⟨V, hV⟩ : ∃ V, w2.alloc (.cells #[.int .i64 j.1, .slice ra rn rc, .int .i64 j.2.2.1, .slice sa sn sc] 65) = V := ⟨_, rfl⟩
      have hbv : Below w2.heap.size w2 V := by rw [← hV]; exact below_make
      have hX : BoxIn w2.heap.size 65 [] [.int .i64 j.1, .slice ra rn rc, .int .i64 j.2.2.1, .slice sa sn sc] [] V := by rw [← hV]; exact boxIn_new w2 _ _
      have hBV := hB2.trans (hbv.mono hB2.size)
      obtain ⟨g', cap', w3, hrun, hO3, hgr, hat⟩ := OwnG.appRun (P := Try.prog) (z := .agg #[.int .i64 0, .slice none 0 0, .int .i64 0, .slice none 0 0]) Try.underlying24 infoJb rfl (by decide) (hOk.below hbv) (jobR.ownBelow hOx hbv) (fun b hb hc => by
        have h1 := hF b hb
        have h2 := hlts b (by simpa [Value.ownBlock] using hc)
        omega) hX (by rw [HTL.out]; unfold maxLen; omega) (by rw [HTL.out]; omega) 24
      rw [HTL.out] at hrun hO3
      rw [← HTK.out] at hO3
      have hwr2 := hb2.size
      have hB3 := hBV.grown hgr hBV.size (fun b e => by have : g = b := by simpa [Value.ownBlock] using e
                                                        have := hq g (by simp); omega)
      have hq3 : ∀ b ∈ g' :: blocksOf (q ++ [([.int .i64 j.1, .slice ra rn rc, .int .i64 j.2.2.1, .slice sa sn sc], F)]), W.heap.size ≤ b := fun b hb => by
        have hs1 := hBw.size
        have hs2 := hBV.size
        rw [blocksOf_append] at hb
        rcases List.mem_cons.1 hb with e | e
        · rcases hat with e2 | e2
          · have : g = g' := by simpa [Value.ownBlock] using e2
            have := hq g (by simp); omega
          · omega
        · rcases List.mem_append.1 e with e | e
          · exact hq b (List.mem_cons_of_mem _ e)
          · have := hF b (by simpa [blocksOf] using e); omega
      have HV := Hid.mk' hV
      have HO3 := Hid.mk' hO3
      have HQ3 := Hid.mk' hq3
      clear hV hX hOk hO3 hq3 hOx hlts HOJ HO hgr
      clear a0 a1 a2 a3 a4 a5
      go_wp2_with (at_builtin; rw [HV.out]; refine wpList_append_run rfl _ _ 24 rfl (by kernel_rfl) (by kernel_rfl) hrun ?_)
      go_wp2_with fail
      go_roundw
      case rel => exact ⟨k + 1, g', cap', _, by omega, by go_num, rfl, HO3.out, HQ3.out, hB3⟩
      case measure => simp [intOf]; omega
    · have hke : k = jn := by omega
      subst hke
      have hki : ¬ (k : Int) < (k : Int) := by omega
      rw [List.take_of_length_le (by omega)] at hO
      go_wp2_with fail
      have hAlt := hAw.lt
      have hRw := hR.below hBw
      have HO := Hid.mk' hO
      have HLw := Hid.mk' (HL.out.below hBw)
      have hdW : Below wr.heap.size wr wr.drew := (Below.refl _ _).drew
      refine last.wp_region_later (S := fun w' => Below wr.heap.size wr w') 14 (by kernel_rfl) hdW (fun hHeld0 => ?_)
      generalize hD : wr.drew = D at *
      clear hD
      refine last.wpAnyL_take (i := 0) (v := (.pointer (some ⟨w.heap.size, 0, none⟩))) rfl rfl (by kernel_rfl) (by kernel_rfl) (by kernel_rfl) (by kernel_rfl) (fun _ _ _ h => h) (Or.inl ⟨by rfl, ?_⟩) (by assumption) ?_
      · intro wq hSq; go_simp
      try simp only [Act.put, List.setIfInBounds_toArray, List.set_cons_zero, List.set_cons_succ]
      refine last.wpAnyL_take (i := 1) (v := (.int .i64 c.1)) rfl rfl (by kernel_rfl) (by kernel_rfl) (by kernel_rfl) (by kernel_rfl) (fun _ _ _ h => h) (Or.inl ⟨by rfl, ?_⟩) (by assumption) ?_
      · intro wq hSq; have q := (hSq.cell (p := ⟨w.heap.size, 0, none⟩) hAlt).trans a0; go_simp
      try simp only [Act.put, List.setIfInBounds_toArray, List.set_cons_zero, List.set_cons_succ]
      refine last.wpAnyL_take (i := 2) (v := (.pointer (some ⟨w.heap.size, 1, none⟩))) rfl rfl (by kernel_rfl) (by kernel_rfl) (by kernel_rfl) (by kernel_rfl) (fun _ _ _ h => h) (Or.inl ⟨by rfl, ?_⟩) (by assumption) ?_
      · intro wq hSq; go_simp
      try simp only [Act.put, List.setIfInBounds_toArray, List.set_cons_zero, List.set_cons_succ]
      refine last.wpAnyL_take (i := 3) (v := (.int .i64 c.2.1)) rfl rfl (by kernel_rfl) (by kernel_rfl) (by kernel_rfl) (by kernel_rfl) (fun _ _ _ h => h) (Or.inl ⟨by rfl, ?_⟩) (by assumption) ?_
      · intro wq hSq; have q := (hSq.cell (p := ⟨w.heap.size, 1, none⟩) hAlt).trans a1; go_simp
      try simp only [Act.put, List.setIfInBounds_toArray, List.set_cons_zero, List.set_cons_succ]
      refine last.wpAnyL_take (i := 4) (v := (.pointer (some ⟨w.heap.size, 2, none⟩))) rfl rfl (by kernel_rfl) (by kernel_rfl) (by kernel_rfl) (by kernel_rfl) (fun _ _ _ h => h) (Or.inl ⟨by rfl, ?_⟩) (by assumption) ?_
      · intro wq hSq; go_simp
      try simp only [Act.put, List.setIfInBounds_toArray, List.set_cons_zero, List.set_cons_succ]
      refine last.wpAnyL_take (i := 5) (v := (.int .i64 c.2.2.1)) rfl rfl (by kernel_rfl) (by kernel_rfl) (by kernel_rfl) (by kernel_rfl) (fun _ _ _ h => h) (Or.inl ⟨by rfl, ?_⟩) (by assumption) ?_
      · intro wq hSq; have q := (hSq.cell (p := ⟨w.heap.size, 2, none⟩) hAlt).trans a2; go_simp
      try simp only [Act.put, List.setIfInBounds_toArray, List.set_cons_zero, List.set_cons_succ]
      refine last.wpAnyL_take (i := 6) (v := (.slice (some ⟨g, 0, none⟩) k cap)) rfl rfl (by kernel_rfl) (by kernel_rfl) (by kernel_rfl) (by kernel_rfl) (fun _ _ _ h => h) (Or.inl ⟨by rfl, ?_⟩) (by assumption) ?_
      · intro wq hSq; go_simp
      try simp only [Act.put, List.setIfInBounds_toArray, List.set_cons_zero, List.set_cons_succ]
      refine last.wpAnyL_take (i := 8) (v := (.pointer (some ⟨w.heap.size, 4, none⟩))) rfl rfl (by kernel_rfl) (by kernel_rfl) (by kernel_rfl) (by kernel_rfl) (fun _ _ _ h => h) (Or.inl ⟨by rfl, ?_⟩) (by assumption) ?_
      · intro wq hSq; go_simp
      try simp only [Act.put, List.setIfInBounds_toArray, List.set_cons_zero, List.set_cons_succ]
      refine last.wpAnyL_take (i := 9) (v := (.slice la ln lc)) rfl rfl (by kernel_rfl) (by kernel_rfl) (by kernel_rfl) (by kernel_rfl) (fun _ _ _ h => h) (Or.inl ⟨by rfl, ?_⟩) (by assumption) ?_
      · intro wq hSq; have q := (hSq.cell (p := ⟨w.heap.size, 4, none⟩) hAlt).trans a4; go_simp
      try simp only [Act.put, List.setIfInBounds_toArray, List.set_cons_zero, List.set_cons_succ]
      refine last.wpAnyL_take (i := 11) (v := (.pointer (some ⟨w.heap.size, 5, none⟩))) rfl rfl (by kernel_rfl) (by kernel_rfl) (by kernel_rfl) (by kernel_rfl) (fun _ _ _ h => h) (Or.inl ⟨by rfl, ?_⟩) (by assumption) ?_
      · intro wq hSq; go_simp
      try simp only [Act.put, List.setIfInBounds_toArray, List.set_cons_zero, List.set_cons_succ]
      refine last.wpAnyL_take (i := 12) (v := (.int .i64 c.2.2.2.2.2)) rfl rfl (by kernel_rfl) (by kernel_rfl) (by kernel_rfl) (by kernel_rfl) (fun _ _ _ h => h) (Or.inl ⟨by rfl, ?_⟩) (by assumption) ?_
      · intro wq hSq; have q := (hSq.cell (p := ⟨w.heap.size, 5, none⟩) hAlt).trans a5; go_simp
      try simp only [Act.put, List.setIfInBounds_toArray, List.set_cons_zero, List.set_cons_succ]
      refine last.wpAnyL_one (i := 7) (o := { dst := some 31, op := Op.buildSlice 25 0 #[], type := 25, pos := "l11_coord.go:167", after := #[], guard := none }) (by kernel_rfl) rfl (fun K hK => ?_)
      go_simp
      have hbB : Below wr.heap.size wr (D.alloc (.cells #[] 42)) := hdW.alloc hdW.size _
      have hr1 := row_new D 42 2
      have hDs := hdW.size
      refine hK.out _ _ ?_ (fun hHeld => ?_)
      · exact hbB
      clear hK K hHeld0
      have hHeld0 := hHeld
      clear hHeld
      try simp only [Act.put, List.setIfInBounds_toArray, List.set_cons_zero, List.set_cons_succ]
      generalize hwB : D.alloc (.cells #[] 42) = wB at *
      clear hwB
      refine last.wpAnyL_one (i := 10) (o := { dst := some 34, op := Op.call { callee := Callee.builtin Builtin.append, args := #[Operand.tmp 31, Operand.tmp 33], argTypes := #[25, 25] }, type := 25, pos := "l11_coord.go:167", after := #[{ on := 7, ground := Ground.data }, { on := 9, ground := Ground.data }], guard := none }) (by kernel_rfl) rfl (fun K hK => ?_)
      obtain ⟨gl, lcap, wC, hrun, hlo, hgr, hloc⟩ := copy_chs _ la ln lc 25 hr1 (HLw.out.below hbB) (by omega)
      refine step_append_run rfl (.tmp 31) (.tmp 33) 25 rfl (by kernel_rfl) (by kernel_rfl) hrun ?_
      have hbC : Below wr.heap.size wr wC := hbB.grown hgr hbB.size (fun k e => by cases e; omega)
      have hglb : wr.heap.size ≤ gl := by
        have := hbB.size
        rcases hloc with e | e <;> omega
      refine hK.out _ _ ?_ (fun hHeld => ?_)
      · exact hbC
      clear hK K hHeld0
      have hHeld0 := hHeld
      clear hHeld
      try simp only [Act.put, List.setIfInBounds_toArray, List.set_cons_zero, List.set_cons_succ]
      clear hrun hr1 hgr hloc
      refine last.wpAnyL_take (i := 13) (v := (.agg #[.int .i64 c.1, .int .i64 c.2.1, .int .i64 c.2.2.1, .slice (some ⟨g, 0, none⟩) k cap, .slice (some ⟨gl, 0, none⟩) ln lcap, .int .i64 c.2.2.2.2.2])) rfl rfl (by kernel_rfl) (by kernel_rfl) (by kernel_rfl) (by kernel_rfl) (fun _ _ _ h => h) (Or.inl ⟨by rfl, ?_⟩) (by assumption) ?_
      · intro wq hSq; go_simp
      try simp only [Act.put, List.setIfInBounds_toArray, List.set_cons_zero, List.set_cons_succ]
      have hRC := hRw.below hbC
      obtain ⟨z0, z1, z2, z3, z4, z5⟩ := cells6 hRC
      have f0 := hRC.fz 0
      have f1 := hRC.fz 1
      have f2 := hRC.fz 2
      have f3 := hRC.fz 3
      have f4 := hRC.fz 4
      have f5 := hRC.fz 5
      have hS := hRC.whole [.int .i64 c.1, .int .i64 c.2.1, .int .i64 c.2.2.1, .slice (some ⟨g, 0, none⟩) k cap, .slice (some ⟨gl, 0, none⟩) ln lcap, .int .i64 c.2.2.2.2.2] rfl
      obtain ⟨y0, y1, y2, y3, y4, y5⟩ := cells6 hS.1
      simp only [putAll, Nat.zero_add, Nat.reduceAdd] at y0 y1 y2 y3 y4 y5
      have hBW := hB.trans (hBw.mono hB.size)
      have hsw := hBw.size
      have hBC := hBW.trans (hbC.mono hBW.size)
      have hBz := hBC.grown hS.2 hBC.size (fun j e => by cases e; omega)
      have hltq := HO.out.lts
      have hjr : jobsR.own wr [.slice (some ⟨g, 0, none⟩) k cap] c.2.2.2.1 (g :: blocksOf q) := ⟨_, q, rfl, by simp [Value.ownBlock], HO.out⟩
      have hj2 := jobsR.ownGrown (jobsR.ownBelow hjr hbC) hS.2 (fun b hb e => by have := hq b hb; cases e; omega)
      have hl2 := logR.ownGrown hlo hS.2 (fun b hb e => by simp only [List.mem_singleton] at hb; subst hb; cases e; omega)
      have HOW := Hid.mk' (coord_own.2 ⟨_, _, _, _, rfl, hwf, hj2, hl2, rfl, nodup_new (jobsR.ownNodup hj2) (by simp) hltq (fun b hb => by simp only [List.mem_singleton] at hb; omega)⟩)
      have HBz := Hid.mk' hBz
      have HFN : Hid (∀ b ∈ (g :: blocksOf q) ++ [gl], w.heap.size ≤ b) := fun b hb => by
        have hs := hB.size
        have hs2 := hBW.size
        rcases List.mem_append.1 hb with e | e
        · have := hq b e; omega
        · simp only [List.mem_singleton] at e; omega
      clear hjr hj2 hl2 hlo hBz hS
      refine last.wpAnyL_last (o := { dst := none, op := Op.store 27 (Operand.tmp 2) (Operand.tmp 37), type := 0, pos := "l11_coord.go:167", after := #[{ on := 13, ground := Ground.data }, { on := 10, ground := Ground.chain }, { on := 0, ground := Ground.phase }, { on := 1, ground := Ground.phase }, { on := 2, ground := Ground.phase }, { on := 3, ground := Ground.phase }, { on := 4, ground := Ground.phase }, { on := 5, ground := Ground.phase }, { on := 6, ground := Ground.phase }, { on := 7, ground := Ground.phase }, { on := 8, ground := Ground.phase }, { on := 9, ground := Ground.phase }, { on := 10, ground := Ground.phase }, { on := 11, ground := Ground.phase }, { on := 12, ground := Ground.phase }, { on := 13, ground := Ground.phase }], guard := none }) (by kernel_rfl) rfl (by kernel_rfl) (fun K hK => ?_)
      go_simp
      refine hK.out _ _ ?_
      clear hK K
      go_wp2_with fail
      refine bodyPost_ret (v := .agg #[.int .i64 c.1, .int .i64 c.2.1, .int .i64 c.2.2.1, .slice (some ⟨g, 0, none⟩) k cap, .slice (some ⟨gl, 0, none⟩) ln lcap, .int .i64 c.2.2.2.2.2]) ?_ rfl ⟨_, _, rfl, HOW.out, HFN.out, HBz.out⟩
      simp [results, Try.results28, go_sem, y0, y1, y2, y3, y4, y5]
end Go.Proofs.Yteniflajiklffaa.cos

namespace Go.Proofs.Yteniflajiklffaa.cos
open Go Go.RowKit Go.Proofs.Yteniflajiklffaa.base Go.Proofs.Yteniflajiklffaa.pairs Go.Proofs.Yteniflajiklffaa.ords Go.Proofs.Yteniflajiklffaa.lay Go.Proofs.Yteniflajiklffaa.wds
set_option linter.unusedVariables false
set_option linter.unusedSimpArgs false

def leftC (ln : Nat) (sure keep : Int) : Nat := (sure + min (max keep 0) ((ln : Int) - sure)).toNat
theorem leftC_le {ln : Nat} {sure keep : Int} (h : 0 ≤ sure ∧ sure ≤ (ln : Int)) : leftC ln sure keep ≤ ln ∧ ((leftC ln sure keep : Nat) : Int) = sure + min (max keep 0) ((ln : Int) - sure) := by
  unfold leftC; omega
end Go.Proofs.Yteniflajiklffaa.cos
