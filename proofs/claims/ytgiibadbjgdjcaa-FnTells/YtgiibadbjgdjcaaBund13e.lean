/- The program's words of all jobs. -/
import Derived.Test.YtgiibadbjgdjcaaBund13d
import Derived.Test.YtgiibadbjgdjcaaBund12bc
namespace Go.Proofs.Ytgiibadbjgdjcaa.cos
open Go Go.RowKit Go.Proofs.Ytgiibadbjgdjcaa.base Go.Proofs.Ytgiibadbjgdjcaa.pairs Go.Proofs.Ytgiibadbjgdjcaa.ords Go.Proofs.Ytgiibadbjgdjcaa.lay Go.Proofs.Ytgiibadbjgdjcaa.wds
set_option linter.unusedVariables false
set_option linter.unusedSimpArgs false

theorem asks_unknown {life sure st tx : Int} {log : List Ch} (h : stateOk st (choice log tx) = true) (hst : st = 1) (htx : life * 1000 ≤ tx) : (answerS life sure log tx).2 = false := by
  subst hst
  unfold answerS
  cases e : chosen log tx with
  | some k =>
    obtain ⟨hk, e2⟩ := choice_some e
    rw [e2] at h
    cases hb : log[k].2 <;> rw [hb] at h <;> exact absurd h (by decide)
  | none =>
    split
    · rfl
    · simp; omega
theorem jobW_im {n life sure : Int} {log : List Ch} {j : Jb} (h : stateOk j.2.2.1 (choice log j.1) = true) (htx : life * 1000 ≤ j.1) :
    jobW n life sure log j = if (answerS life sure log j.1).2 = true then tellsW j.1 (answerS life sure log j.1).1 (shardsOf n j.2.1) else if j.2.2.1 = 1 then holdsW n j.1 j.2.1 j.2.2.2 (shardsOf n j.2.1) else [] := by
  unfold jobW
  by_cases hst : j.2.2.1 = 1
  · rw [if_pos hst, if_pos hst, if_neg (by rw [asks_unknown h hst htx]; decide)]
  · rw [if_neg hst, if_neg hst]
theorem made_ne {w : World} {B m : Nat} {log : List Ch} {g n cap : Nat} {l : List Wd} {q : Parts} (hM : Made w B m log) (h : OwnG 39 wordR w (.slice (some ⟨g, 0, none⟩) n cap) l q) : B ≠ g := by
  intro e
  subst e
  rcases h.row.2 with ⟨e, _⟩ | ⟨g', c', cur, e, _, h5, _⟩
  · cases e
  · cases e
    obtain ⟨D, ⟨es, clock, hb, _⟩, _⟩ := hM
    rw [h5] at hb
    cases hb
set_option maxRecDepth 100000 in
set_option maxHeartbeats 2000000 in
theorem impl_tellAll (ja : Option Addr) (jn jc : Nat) (la : Option Addr) (ln lc : Nat) (c : Co) (w : World) (h : SeeCo w ja jn jc la ln lc c) (hbd : BoundCo c) :
    Calls Try.prog 27 #[coV c.1 c.2.1 c.2.2.1 c.2.2.2.2.2 ja jn jc la ln lc] w (RetW w (tellR c)) := by
  obtain ⟨n, life, next, jobs, log, sure⟩ := c
  simp only [] at *
  have hjl : jobs.length = jn := h.jobs.1
  have hjm : jobs.length ≤ 1048576 := hbd.jobs
  have hjc := h.jc
  have hnw := h.n
  obtain ⟨W0, hW0⟩ : ∃ W, w.alloc (.cells #[.int .i64 n, .int .i64 life, .int .i64 next, .slice ja jn jc, .slice la ln lc, .int .i64 sure] 27) = W := ⟨_, rfl⟩
  have hB0 : Below w.heap.size w W0 := by rw [← hW0]; exact below_make
  have hC0 : BoxIn w.heap.size 27 [] [.int .i64 n, .int .i64 life, .int .i64 next, .slice ja jn jc, .slice la ln lc, .int .i64 sure] [] W0 := by rw [← hW0]; exact boxIn_new w _ _
  obtain ⟨W, hW⟩ : ∃ W, W0.alloc (.cells #[] 39) = W := ⟨_, rfl⟩
  have hb0 : Below W0.heap.size W0 W := by rw [← hW]; exact below_make
  have hB := hB0.trans (hb0.mono hB0.size)
  have hr0 := row_new0 W0
  rw [hW] at hr0
  have hs0 : W0.heap.size = w.heap.size + 1 := by rw [← hW0]; simp
  have hC := hC0.below hb0
  have hS := h.below hB
  have HC := Hid.mk' (i_checked _ _ [] [] n life next sure ja jn jc la ln lc jobs log _ hC hS.jobs hS.log hbd.fits.2.2)
  have HFJ := Hid.mk' hbd.fits.2.2
  have HW : Hid ((w.alloc (.cells #[.int .i64 n, .int .i64 life, .int .i64 next, .slice ja jn jc, .slice la ln lc, .int .i64 sure] 27)).alloc (.cells #[] 39) = W) := by show _ = _; rw [hW0, hW]
  have hO1 := ownG_row0 (R := wordR) (ty := 39) hr0
  rw [hs0] at hO1
  have HJS := Hid.mk' h.jobs
  have HO1 := Hid.mk' hO1
  clear hW0 hW hr0 h hbd hS hO1
  unfold coV
  go_enter Try.func27, Try.ntmps27
  go_wp2_with fail
  rw [HW.out]
  refine HC.out.mono ?_
  rintro e w1 ⟨hb1, ⟨hno, v, rfl⟩ | ⟨hyes, B, mm, rfl, hM⟩⟩
  · have HR : Hid (tellR (n, life, next, jobs, log, sure) = []) := if_neg (by rw [hno]; decide)
    clear hno
    have hB1 := hB.trans (hb1.mono hB.size)
    go_wp2_with fail
    go_ret
    rw [HR.out]
    exact ⟨_, _, _, [], rfl, HO1.out.below hb1, fun bb hb => by have : bb = w.heap.size + 1 := (by simpa [blocksOf] using hb); omega, hB1⟩
  · have HR : Hid (tellR (n, life, next, jobs, log, sure) = wordsOf n life sure log jobs) := if_pos hyes
    have hlo := coordOk_log hyes
    have HJB := Hid.mk' (coordOk_jobs hyes)
    have HND := Hid.mk' (logOk_nodup hlo)
    have HTH := Hid.mk' (logOk_thousand hlo)
    have hlf : 1 ≤ life ∧ life ≤ 900 := (coordOk_head hyes).2.1
    have HJ8 : Hid (∀ j ∈ jobs, j.2.1.length ≤ 8) := fun j hj => (opsOk_len (HJB.out j hj).1).2
    have hB1 := hB.trans (hb1.mono hB.size)
    have hC1 := hC.below hb1
    clear hyes hlo HC
    generalize tellR (n, life, next, jobs, log, sure) = tr at *
    obtain ⟨a0, a1, a2, a3, a4, a5⟩ := cells6 hC1
    go_wp2_with fail
    clear a0 a1 a2 a3 a4 a5
    go_loopw [21, 3] (fun i v wr => ∃ (k g m cap : Nat) (q : Parts), k ≤ jn ∧ i = .int .i64 (k : Int) ∧ v = .slice (some ⟨g, 0, none⟩) m cap ∧ OwnG 39 wordR wr (.slice (some ⟨g, 0, none⟩) m cap) (wordsOf n life sure log (jobs.take k)) q ∧ (∀ bb ∈ g :: blocksOf q, w.heap.size + 1 ≤ bb) ∧ Below w.heap.size w wr ∧ BoxIn w.heap.size 27 [] [.int .i64 n, .int .i64 life, .int .i64 next, .slice ja jn jc, .slice la ln lc, .int .i64 sure] [] wr ∧ Made wr B mm log) (fun i _ _ => jn - (intOf i).toNat)
    case atStart => exact ⟨0, w.heap.size + 1, 0, 0, [], Nat.zero_le _, rfl, rfl, HO1.out.below hb1, fun bb hb => by simp [blocksOf] at hb; omega, hB1, hC1, hM⟩
    case round =>
      obtain ⟨k, g, m, cap, q, hk, rfl, rfl, hO, hq, hBw, hCw, hMw⟩ := hrel
      clear hC hC1 hM HO1
      by_cases hlt : k < jn
      · have hltl : k < jobs.length := by omega
        have hki : (k : Int) < (jn : Int) := by omega
        obtain ⟨b, off, hja, _⟩ := HJS.out.2.2.2 (by omega)
        subst hja
        obtain ⟨u0, u1, u2, u3, hsee, c0, c1, c2, c3⟩ := slg_at4 rfl HJS.out k hltl
        obtain ⟨oa, ol, oc, ya, yl, yc, e, htw, hstw, hOo, hYo, hyc⟩ := job_see.1 hsee
        simp only [List.cons.injEq, and_true] at e
        obtain ⟨rfl, rfl, rfl, rfl⟩ := e
        have hjo := HJB.out _ (List.getElem_mem hltl)
        have hjf := (HFJ.out _ (List.getElem_mem hltl)).2
        have HTK : Hid (wordsOf n life sure log (jobs.take (k + 1)) = wordsOf n life sure log (jobs.take k) ++ jobW n life sure log jobs[k]) := by
          show _ = _
          rw [List.take_succ_eq_append_getElem hltl, wordsOf_snoc]
        have h8 := HJ8.out _ (List.getElem_mem hltl)
        have HL : Hid ((wordsOf n life sure log (jobs.take k)).length + (jobW n life sure log jobs[k]).length ≤ 16777216) := by
          have h1 := wordsOf_len n life sure log (jobs.take k) (fun j hj => HJ8.out j (List.mem_of_mem_take hj))
          have h2 := jobW_len n life sure log jobs[k] h8
          rw [List.length_take] at h1
          show _ ≤ _
          omega
        have HJW := Hid.mk' (jobW_im (n := n) (life := life) (sure := sure) (log := log) (j := jobs[k]) hjo.2.1 hjo.2.2)
        generalize jobs[k] = j at *
        obtain ⟨tx, ops, st, yes⟩ := j
        simp only [] at *
        have hol : ol ≤ 8 := by have := hOo.1.1; omega
        have ho1 := (opsOk_len hjo.1).1
        obtain ⟨ob, ooff, hoa, _⟩ := hOo.1.2.2.2 (by have := hOo.1.1; omega)
        subst hoa
        have hbl := World.block_lt_of_cell? _ _ c0
        have HAN := Hid.mk' (i_answer _ _ [] [] n life next sure (some ⟨b, off, none⟩) jn jc la ln lc log B mm tx wr hCw hMw HND.out HTH.out hlf htw)
        have HT := Hid.mk' (fun y wx (hx : Below w.heap.size w wx) => i_tells b (off + k * 4) tx n y ob ooff ol oc ops wx ((hx.cell (p := ⟨b, off + k * 4, none⟩) hbl).trans c0) ((hx.cell (p := ⟨b, off + k * 4 + 1, none⟩) hbl).trans c1) htw (hOo.1.below hx) hjf hol hnw)
        have HH := Hid.mk' (fun wx (hx : Below w.heap.size w wx) => i_holds b (off + k * 4) tx st n ob ooff ol oc ya yl yc ops yes wx ((hx.cell (p := ⟨b, off + k * 4, none⟩) hbl).trans c0) ((hx.cell (p := ⟨b, off + k * 4 + 1, none⟩) hbl).trans c1) ((hx.cell (p := ⟨b, off + k * 4 + 3, none⟩) hbl).trans c3) htw (hOo.1.below hx) (hYo.1.below hx) hjf hol hnw)
        have K0 := Hid.mk' c0
        have K2 := Hid.mk' c2
        have HO := Hid.mk' hO
        have HM := Hid.mk' hMw
        clear hO c0 c1 c2 c3 hsee hOo hYo htw hstw h8 hjo hjf hMw ho1
        generalize answerS life sure log tx = an at *
        obtain ⟨y, kn⟩ := an
        obtain ⟨a0, a1, a2, a3, a4, a5⟩ := cells6 hCw
        have d0 := (hBw.cell (p := ⟨b, off + k * 4, none⟩) hbl).trans K0.out
        go_wp2_with fail
        refine HAN.out.mono ?_
        rintro e w2 ⟨rfl, hb2⟩
        have hB2 := hBw.trans (hb2.mono hBw.size)
        have hC2 := hCw.below hb2
        have d2 := (hB2.cell (p := ⟨b, off + k * 4 + 2, none⟩) hbl).trans K2.out
        have HO2 := Hid.mk' (HO.out.below hb2)
        have HM2 := Hid.mk' (HM.out.below hb2)
        clear a0 a1 a2 a3 a4 a5 d0 HAN HO HM
        obtain ⟨a0, a1, a2, a3, a4, a5⟩ := cells6 hC2
        cases kn
        · by_cases hst : st = 1
          · have hd : (st == 1) = true := by rw [hst]; rfl
            have HE : Hid (jobW n life sure log (tx, ops, st, yes) = holdsW n tx ops yes (shardsOf n ops)) := by show _ = _; rw [HJW.out]; rw [if_neg (by decide), if_pos hst]
            clear hst HJW HT
            go_wp2_with fail
            refine (HH.out w2 hB2).mono ?_
            rintro e w3 ⟨g2, m2, cap2, q2, rfl, hO2, hq2, hb3⟩
            rw [← HE.out] at hO2
            have hB3 := hB2.trans (hb3.mono hB2.size)
            obtain ⟨g', cap', w4, hrun, hO4, hgr, hat4⟩ := words_more HO2.out hb3 hO2 hq2 HL.out 31
            rw [← HTK.out] at hO4
            have hqg := hq g (by simp)
            have hws := hB2.size
            have hB4 : Below w.heap.size w w4 := hB3.grown hgr hB3.size (fun bb e => by cases e; omega)
            have hC4 := (hC2.below hb3).grown hgr (fun e => by have := Option.some.inj e; omega)
            have hMB := HM2.out.below hb3
            have hne := made_ne hMB (HO2.out.below hb3)
            have hM4 := hMB.keep (hgr.block B hMB.lt (fun e => hne (Option.some.inj e)))
            have hq4 : ∀ bb ∈ g' :: blocksOf (q ++ q2), w.heap.size + 1 ≤ bb := fun bb hb => by
              rw [blocksOf_append] at hb
              have hlg := HO2.out.lts g (by simp)
              have hs4 := hb3.size
              rcases List.mem_cons.1 hb with e | e
              · rcases hat4 with e2 | e2 <;> omega
              · rcases List.mem_append.1 e with e | e
                · exact hq bb (List.mem_cons_of_mem _ e)
                · have := hq2 bb (List.mem_cons_of_mem _ e); omega
            have HO4 := Hid.mk' hO4
            have HQ4 := Hid.mk' hq4
            have HM4 := Hid.mk' hM4
            clear hO4 hq4 hgr hO2 hq2 hMB hM4 hne a0 a1 a2 a3 a4 a5 d2
            go_wp2_with (at_builtin; refine wpList_append_run rfl _ _ 31 rfl (by kernel_rfl) (by kernel_rfl) hrun ?_)
            go_wp2_with fail
            go_roundw
            case rel => exact ⟨k + 1, g', m + m2, cap', q ++ q2, by omega, by go_num, rfl, HO4.out, HQ4.out, hB4, hC4, HM4.out⟩
            case measure => simp [intOf]; omega
          · have hd : (st == 1) = false := beq_false_of_ne hst
            have HE : Hid (jobW n life sure log (tx, ops, st, yes) = []) := by show _ = _; rw [HJW.out]; rw [if_neg (by decide), if_neg hst]
            have hO4 := HO2.out
            have e4 := HTK.out
            rw [HE.out, List.append_nil] at e4
            rw [← e4] at hO4
            have HO4 := Hid.mk' hO4
            clear hst HJW HT HH hO4 e4
            go_wp2_with fail
            go_roundw
            case rel => exact ⟨k + 1, g, m, cap, q, by omega, by go_num, rfl, HO4.out, hq, hB2, hC2, HM2.out⟩
            case measure => simp [intOf]; omega
        · have HE : Hid (jobW n life sure log (tx, ops, st, yes) = tellsW tx y (shardsOf n ops)) := by show _ = _; rw [HJW.out]; rw [if_pos rfl]
          clear HJW HH
          go_wp2_with fail
          refine (HT.out y w2 hB2).mono ?_
          rintro e w3 ⟨g2, m2, cap2, q2, rfl, hO2, hq2, hb3⟩
          rw [← HE.out] at hO2
          have hB3 := hB2.trans (hb3.mono hB2.size)
          obtain ⟨g', cap', w4, hrun, hO4, hgr, hat4⟩ := words_more HO2.out hb3 hO2 hq2 HL.out 31
          rw [← HTK.out] at hO4
          have hqg := hq g (by simp)
          have hws := hB2.size
          have hB4 : Below w.heap.size w w4 := hB3.grown hgr hB3.size (fun bb e => by cases e; omega)
          have hC4 := (hC2.below hb3).grown hgr (fun e => by have := Option.some.inj e; omega)
          have hMB := HM2.out.below hb3
          have hne := made_ne hMB (HO2.out.below hb3)
          have hM4 := hMB.keep (hgr.block B hMB.lt (fun e => hne (Option.some.inj e)))
          have hq4 : ∀ bb ∈ g' :: blocksOf (q ++ q2), w.heap.size + 1 ≤ bb := fun bb hb => by
            rw [blocksOf_append] at hb
            have hlg := HO2.out.lts g (by simp)
            have hs4 := hb3.size
            rcases List.mem_cons.1 hb with e | e
            · rcases hat4 with e2 | e2 <;> omega
            · rcases List.mem_append.1 e with e | e
              · exact hq bb (List.mem_cons_of_mem _ e)
              · have := hq2 bb (List.mem_cons_of_mem _ e); omega
          have HO4 := Hid.mk' hO4
          have HQ4 := Hid.mk' hq4
          have HM4 := Hid.mk' hM4
          clear hO4 hq4 hgr hO2 hq2 hMB hM4 hne a0 a1 a2 a3 a4 a5 d2
          go_wp2_with (at_builtin; refine wpList_append_run rfl _ _ 31 rfl (by kernel_rfl) (by kernel_rfl) hrun ?_)
          go_wp2_with fail
          go_roundw
          case rel => exact ⟨k + 1, g', m + m2, cap', q ++ q2, by omega, by go_num, rfl, HO4.out, HQ4.out, hB4, hC4, HM4.out⟩
          case measure => simp [intOf]; omega
      · have hke : jobs.take k = jobs := List.take_of_length_le (by omega)
        rw [hke] at hO
        have hki : ¬ (k : Int) < (jn : Int) := by omega
        go_wp2_with fail
        go_ret
        rw [HR.out]
        exact ⟨_, _, _, q, rfl, hO, fun bb hb => by have := hq bb hb; omega, hBw⟩
end Go.Proofs.Ytgiibadbjgdjcaa.cos
