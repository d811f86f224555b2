/- The statement FnAnsweredSaid: at every code FnAnswered answers true, and the code reads afterwards as before. No condition besides the row's own. -/
import Derived.Test.YtgiibadbjgdjcaaRows
import Derived.Test.YtgiibadbjgdjcaaBund13x
import Derived.Test.YtgiibadbjgdjcaaBund12bh
import Derived.Test.YtgiibadbjgdjcaaBund12bg
import Derived.BigQuiet
import Derived.ProofKit
import Derived.OpenShut
import Derived.ShutString
import Derived.ChangeOld
import Derived.Below
namespace Go.Proofs.Ytgiibadbjgdjcaa.fnAnswered
open Go.ChangeShapes Go.WideShapes Go.ChangeAt Go.RowKit
open Go.ChangeMaps (open_string shut_string)
set_option linter.unusedVariables false
open Go.Proofs.Ytgiibadbjgdjcaa.base Go.Proofs.Ytgiibadbjgdjcaa.pairs Go.Proofs.Ytgiibadbjgdjcaa.ords Go.Proofs.Ytgiibadbjgdjcaa.cos Go.Proofs.Ytgiibadbjgdjcaa.lay Go.Proofs.Ytgiibadbjgdjcaa.wds Go.Proofs.Ytgiibadbjgdjcaa.draw

theorem chosen_here {log : List Ch} (hn : (log.map fun c => c.1).Nodup) (i : Nat) (hi : i < log.length) : chosen log log[i].1 = some i ∧ choice log log[i].1 = some log[i].2 := ⟨nodup_iff.1 hn i hi, choice_of_mem hn (List.getElem_mem hi)⟩
theorem answer_log {c : Co} (h : RightCo c) (i : Nat) (hi : i < c.2.2.2.2.1.length) : answerR c c.2.2.2.2.1[i].1 = (c.2.2.2.2.1[i].2 && decide ((i : Int) < c.2.2.2.2.2), decide ((i : Int) < c.2.2.2.2.2)) := by
  unfold answerR
  rw [if_pos (coordOk_iff.2 h)]
  unfold answerS
  have h1 := h.range _ (List.getElem_mem hi)
  rw [if_neg (by omega), (chosen_here h.nodup i hi).1, (chosen_here h.nodup i hi).2]
  rfl
theorem chosen_take {log : List Ch} (hn : (log.map fun c => c.1).Nodup) (k : Nat) (t : Int) : chosen (log.take k) t = match chosen log t with | none => none | some i => if i < k then some i else none := by
  cases e : chosen log t with
  | none =>
    refine findIdx_none fun i hi => ?_
    rw [List.getElem_take]
    have hi2 : i < log.length := by simp at hi; omega
    refine decide_eq_false fun e2 => ?_
    have := (chosen_here hn i hi2).1
    rw [e2, e] at this
    cases this
  | some i =>
    obtain ⟨hi, h1, h2⟩ := findIdx_some e
    by_cases hik : i < k
    · simp only [hik, if_true]
      refine findIdx_hit (by simp; omega) (fun j hj => ?_) ?_
      · rw [List.getElem_take]; exact h2 j hj
      · rw [List.getElem_take]; exact h1
    · simp only [hik, if_false]
      refine findIdx_none fun j hj => ?_
      rw [List.getElem_take]
      exact h2 j (by simp at hj; omega)
theorem answer_next {c : Co} (h : RightCo c) (hl : c.2.1 ≤ 100) (j : Jb) (hj : j ∈ c.2.2.2.1) : (answerR (crashR c 0) j.1).2 = true ∧ ((answerR c j.1).2 = true → (answerR (crashR c 0) j.1).1 = (answerR c j.1).1) ∧ ((answerR c j.1).2 = false → (answerR (crashR c 0) j.1).1 = false) := by
  have hok := coordOk_iff.2 h
  have e : crashR c 0 = crashS c 0 := by rw [crashR_eq, if_pos hok]
  have hok2 : coordOk (crashS c 0) = true := coordOk_iff.2 (right_crash h 0)
  have h9 : ¬ c.2.1 = 900 := by omega
  have hf := h.jobs j hj
  have hlf := h.life
  have hnx := h.next
  have hlo := hf.lo
  have hhi := hf.hi
  have hsu := h.sure
  have hk : leftC c.2.2.2.2.1.length c.2.2.2.2.2 0 = c.2.2.2.2.2.toNat := by unfold leftC; omega
  have hc : crashS c 0 = (c.1, c.2.1 + 1, 0, [], c.2.2.2.2.1.take c.2.2.2.2.2.toNat, (c.2.2.2.2.2.toNat : Int)) := by unfold crashS; rw [if_neg h9, hk]
  rw [e]
  have e1 : answerR c j.1 = answerS c.2.1 c.2.2.2.2.2 c.2.2.2.2.1 j.1 := by unfold answerR; rw [if_pos hok]
  have e2 : answerR (crashS c 0) j.1 = answerS (c.2.1 + 1) (c.2.2.2.2.2.toNat : Int) (c.2.2.2.2.1.take c.2.2.2.2.2.toNat) j.1 := by
    show (if coordOk (crashS c 0) = true then answerS (crashS c 0).2.1 (crashS c 0).2.2.2.2.2 (crashS c 0).2.2.2.2.1 j.1 else (false, false)) = _
    rw [if_pos hok2, hc]
  rw [e1, e2]
  unfold answerS
  rw [if_neg (by omega), if_neg (by omega), chosen_take h.nodup]
  cases e3 : chosen c.2.2.2.2.1 j.1 with
  | none =>
    simp only []
    rw [decide_eq_true (by omega), decide_eq_false (by omega)]
    exact ⟨by first | trivial | rfl, fun h => (by first | trivial | rfl | cases h), fun _ => by first | trivial | rfl⟩
  | some i =>
    obtain ⟨hi, h1, _⟩ := findIdx_some e3
    by_cases hik : i < c.2.2.2.2.2.toNat
    · have hd : decide ((i : Int) < c.2.2.2.2.2) = true := decide_eq_true (by omega)
      have hd2 : decide ((i : Int) < (c.2.2.2.2.2.toNat : Int)) = true := decide_eq_true (by omega)
      have hct : chosen (c.2.2.2.2.1.take c.2.2.2.2.2.toNat) j.1 = some i := by rw [chosen_take h.nodup, e3]; simp [hik]
      obtain ⟨hi2, c2⟩ := choice_some hct
      obtain ⟨_, c1⟩ := choice_some e3
      simp only [hik, if_true, hd, hd2, c1, c2, List.getElem_take]
      exact ⟨by first | trivial | rfl, fun _ => by first | trivial | rfl, fun h => (by first | trivial | rfl | cases h)⟩
    · have hd : decide ((i : Int) < c.2.2.2.2.2) = false := decide_eq_false (by omega)
      simp only [hik, if_false, hd]
      rw [decide_eq_true (by omega)]
      exact ⟨by first | trivial | rfl, fun h => (by first | trivial | rfl | cases h), fun _ => by first | trivial | rfl⟩
set_option maxRecDepth 100000 in
set_option maxHeartbeats 8000000 in
theorem walk (a0 : Option Addr) (len0 cap0 : Nat) (code : List UInt8) (w : World) (h : Sl w a0 len0 code) :
    Calls Try.prog 5 #[.slice a0 len0 cap0] w fun e w' => e = .returned (.bool true) ∧ Below w.heap.size w w' := by
  have HBG := Hid.mk' (big_ a0 len0 cap0 w h.2.1)
  by_cases hbig : 1048576 < (len0 : Int)
  · rw [decide_eq_true hbig] at HBG
    clear h
    go_enter Try.func5, Try.ntmps5
    go_wp2_with fail
    refine HBG.out.mono ?_
    rintro e w1 ⟨rfl, rfl⟩
    go_wp2_with fail
    go_ret
    exact ⟨rfl, Below.refl _ _⟩
  rw [decide_eq_false hbig] at HBG
  have HDR := Hid.mk' (drawCoord a0 len0 cap0 code w h (by omega))
  clear h hbig
  go_enter Try.func5, Try.ntmps5
  go_wp2_with fail
  refine HBG.out.mono ?_
  rintro e w0 ⟨rfl, hw0⟩
  replace hw0 := hw0.symm
  subst hw0
  clear HBG
  go_wp2_with fail
  refine HDR.out.mono ?_
  rintro e w1 ⟨ja, jn, jc, la, ln, lc, c, F, ⟨hR, hl100⟩, rfl, hO1, hF1, hB1⟩
  clear HDR
  have hbd := hR.bound
  have hok := coordOk_iff.2 hR
  obtain ⟨v1, hv1⟩ : ∃ V, w1.alloc (.cells #[.int .i64 c.1, .int .i64 c.2.1, .int .i64 c.2.2.1, .slice ja jn jc, .slice la ln lc, .int .i64 c.2.2.2.2.2] 27) = V := ⟨_, rfl⟩
  have hb1 : Below w1.heap.size w1 v1 := by rw [← hv1]; exact below_make
  have hC1 := inR_new (T := 27) hO1
  rw [hv1] at hC1
  have HVv1 := Hid.mk' hv1
  have hBv1 := hB1.trans (hb1.mono hB1.size)
  have HI1 := Hid.mk' (impl_sureAll ja jn jc la ln lc c v1 (see_co hC1.see) hbd)
  have HSE : Hid (sureR c = (c.1, c.2.1, c.2.2.1, c.2.2.2.1, c.2.2.2.2.1, (c.2.2.2.2.1.length : Int))) := by show _ = _; unfold sureR; rw [if_pos hok]
  have hRs : RightCo (sureR c) := by rw [HSE.out]; exact right_sure hR
  have hbs := hRs.bound
  have HSS : Hid ((sureR c).2.2.2.2.2 = (c.2.2.2.2.1.length : Int)) := by show _ = _; rw [HSE.out]
  have HSL : Hid (∀ i (hi : i < c.2.2.2.2.1.length), answerR (sureR c) c.2.2.2.2.1[i].1 = (c.2.2.2.2.1[i].2, true)) := fun i hi => by
    have h1 : (sureR c).2.2.2.2.1 = c.2.2.2.2.1 := by rw [HSE.out]
    have h2 := answer_log hRs i (by rw [h1]; exact hi)
    simp only [h1] at h2
    rw [h2, HSS.out, decide_eq_true (by omega), Bool.and_true]
  have HAC : Hid (∀ i (hi : i < c.2.2.2.2.1.length), _) := fun i hi => answer_log hR i hi
  have HAX : Hid (∀ j (hj : j ∈ c.2.2.2.1), _) := fun j hj => answer_next hR hl100 j hj
  have HRX := right_crash hR 0
  have hcr : crashR c 0 = crashS c 0 := by rw [crashR_eq, if_pos hok]
  rw [← hcr] at HRX
  have HXL : Hid ((crashR c 0).2.1 = c.2.1 + 1 ∧ (crashR c 0).2.2.2.1 = []) := by
    show _ ∧ _
    rw [hcr]
    unfold crashS
    rw [if_neg (by omega)]
    exact ⟨rfl, rfl⟩
  have HKI := Hid.mk' (fun wx (hx : SeeCo wx ja jn jc la ln lc c) => impl_coordOk ja jn jc la ln lc c wx hx hbd.fits)
  rw [hok] at HKI
  have HAN := Hid.mk' (fun tx wx (ht : (Lit.int .i64 tx).wf = true) (hx : SeeCo wx ja jn jc la ln lc c) => impl_answer ja jn jc la ln lc c tx wx hx hbd.fits ht)
  have HCR := Hid.mk' (fun wx (hx : SeeCo wx ja jn jc la ln lc c) => impl_crashCoord ja jn jc la ln lc c 0 wx hx hbd (by decide))
  have HTL : Hid (∀ x ∈ c.2.2.2.2.1, (Lit.int .i64 x.1).wf = true) := fun x hx => WalkArith.wf_i64 (by have := hR.range x hx; have := hR.life; have := hR.next; omega)
  have HTJ : Hid (∀ j ∈ c.2.2.2.1, (Lit.int .i64 j.1).wf = true) := fun j hj => WalkArith.wf_i64 (by have := (hR.jobs j hj).lo; have := (hR.jobs j hj).hi; have := hR.life; have := hR.next; omega)
  have hlw : IntKind.i64.wrap (c.2.1 + 1) = c.2.1 + 1 := by rw [IntKind.wrap_i64]; have := hR.life; omega
  have hfew := hR.few
  have hjobs := hR.jobsLen
  have HJN := Hid.mk' (see_co hC1.see).jobs.1
  have HLNN := Hid.mk' (see_co hC1.see).log.1
  generalize hS0 : sureR c = S at *
  generalize hX0 : crashR c 0 = R at *
  clear hS0 hX0 hcr hok
  have hRok := coordOk_iff.2 HRX
  have hbR := HRX.bound
  obtain ⟨a0, a1, a2, a3, a4, a5⟩ := cells6 hC1.box
  rw [← hv1] at a0 a1 a2 a3 a4 a5
  clear hv1 hO1 hF1
  go_wp2_with fail
  rw [HVv1.out]
  refine HI1.out.mono ?_
  rintro e w2 ⟨vs2, F2, rfl, hO2, hF2, hb2⟩
  obtain ⟨sja, sjn, sjc, sla, sln, slc, rfl⟩ := coord_shape hO2
  clear a0 a1 a2 a3 a4 a5 HI1 HVv1
  obtain ⟨v2, hv2⟩ : ∃ V, w2.alloc (.cells #[.int .i64 S.1, .int .i64 S.2.1, .int .i64 S.2.2.1, .slice sja sjn sjc, .slice sla sln slc, .int .i64 S.2.2.2.2.2] 27) = V := ⟨_, rfl⟩
  have hb2b : Below w2.heap.size w2 v2 := by rw [← hv2]; exact below_make
  have hS2 := inR_new (T := 27) hO2
  rw [hv2] at hS2
  have HVv2 := Hid.mk' hv2
  have hb22 := hb2.trans (hb2b.mono hb2.size)
  have hC2 := hC1.below hb22
  have hBv2 := hBv1.trans (hb22.mono hBv1.size)
  have HK2 := Hid.mk' (HKI.out v2 (see_co hC2.see))
  have HANS := Hid.mk' (fun tx wx (ht : (Lit.int .i64 tx).wf = true) (hx : SeeCo wx sja sjn sjc sla sln slc S) => impl_answer sja sjn sjc sla sln slc S tx wx hx hbs.fits ht)
  have hln : ln = c.2.2.2.2.1.length := (see_co hC2.see).log.1.symm
  have hjn : jn = c.2.2.2.1.length := (see_co hC2.see).jobs.1.symm
  have HS5 : Hid (S.2.2.2.2.2 = (ln : Int)) := by show _ = _; rw [HSS.out, hln]
  have hl9 : ln ≤ 1000 := by omega
  have hj9 : jn ≤ 999 := by omega
  have HLN := Hid.mk' hln
  have HJNN := Hid.mk' hjn
  obtain ⟨a0, a1, a2, a3, a4, a5⟩ := cells6 hC2.box
  rw [← hv2] at a0 a1 a2 a3 a4 a5
  have HVV := Hid.mk' hv2
  clear hv2 hO2 hF2 HKI hln hjn
  go_wp2_with fail
  rw [HVV.out]
  refine HK2.out.mono ?_
  rintro e w3 ⟨rfl, hb3⟩
  have hC3 := hC2.below hb3
  have hS3 := hS2.below hb3
  have hB3 := hBv2.trans (hb3.mono hBv2.size)
  clear a0 a1 a2 a3 a4 a5 HK2 HVV HVv2 hC2 hS2 hC1 hBv2 hb3 hb2 hb22 hb2b
  obtain ⟨a0, a1, a2, a3, a4, a5⟩ := cells6 hC3.box
  obtain ⟨s0, s1, s2, s3, s4, s5⟩ := cells6 hS3.box
  rw [HS5.out] at s5
  have hne : ((ln : Int) != (ln : Int)) = false := by simp
  go_wp2_with fail
  clear a0 a1 a2 a3 a4 a5 s0 s1 s2 s3 s4 s5 hne
  go_loopw [5] (fun i wr => ∃ k : Nat, k ≤ ln ∧ i = .int .i64 (k : Int) ∧ Below w3.heap.size w3 wr) (fun i _ => ln - (intOf i).toNat)
  case atStart => exact ⟨0, Nat.zero_le _, rfl, Below.refl _ _⟩
  case round =>
    obtain ⟨k, hk, rfl, hbr⟩ := hrel
    have hCr := hC3.below hbr
    have hSr := hS3.below hbr
    have hBr := hB3.trans (hbr.mono hB3.size)
    by_cases hlt : k < ln
    · have hki : (k : Int) < (ln : Int) := by omega
      have hkl : k < c.2.2.2.2.1.length := by rw [← HLN.out]; exact hlt
      obtain ⟨b, off, hla, _⟩ := (see_co hCr.see).log.2.2.2 (by omega)
      subst hla
      obtain ⟨c1, c2⟩ := ch_at (see_co hCr.see).log k hkl
      have htw := HTL.out _ (List.getElem_mem hkl)
      have hA1 := HAC.out k hkl
      have hA2 := HSL.out k hkl
      generalize c.2.2.2.2.1[k] = ch at *
      obtain ⟨t, y⟩ := ch
      simp only [] at c1 c2 htw hA1 hA2
      have hcall0 : ∀ xx : last.On wr.heap.size wr, Calls Try.prog 16 #[.agg #[.int .i64 c.1, .int .i64 c.2.1, .int .i64 c.2.2.1, .slice ja jn jc, .slice (some ⟨b, off, none⟩) ln lc, .int .i64 c.2.2.2.2.2], .int .i64 t] xx.w fun e w' => e = .returned (.tuple #[.bool (y && decide ((k : Int) < c.2.2.2.2.2)), .bool (decide ((k : Int) < c.2.2.2.2.2))]) ∧ ∃ yy : last.On wr.heap.size wr, w' = yy.w := fun xx => last.Calls.on xx (Nat.le_refl _) ((HAN.out t xx.w htw (see_co (hCr.below xx.2).see)).mono fun e w' ⟨he, hw⟩ => ⟨by rw [he, hA1], hw⟩)
      have HANS1 := Hid.mk' (fun wx (hx : SeeCo wx sja sjn sjc sla sln slc S) => HANS.out t wx htw hx)
      rw [hA2] at HANS1
      have hbl := World.block_lt_of_cell? _ _ c1
      have K1 := Hid.mk' c1
      have K2 := Hid.mk' c2
      obtain ⟨a0, a1, a2, a3, a4, a5⟩ := cells6 hCr.box
      have oa0 := last.On.cell (B := wr.heap.size) a0 hCr.box.lt
      have oa1 := last.On.cell (B := wr.heap.size) a1 hCr.box.lt
      have oa2 := last.On.cell (B := wr.heap.size) a2 hCr.box.lt
      have oa3 := last.On.cell (B := wr.heap.size) a3 hCr.box.lt
      have oa4 := last.On.cell (B := wr.heap.size) a4 hCr.box.lt
      have oa5 := last.On.cell (B := wr.heap.size) a5 hCr.box.lt
      have oc1 := last.On.cell (B := wr.heap.size) c1 hbl
      have hinh := last.On.inh wr.heap.size wr
      clear a0 a1 a2 a5 c1 c2 hA1 hA2
      by_cases hsu : (k : Int) < c.2.2.2.2.2
      · rw [decide_eq_true hsu, Bool.and_true] at hcall0
        go_wp2_with fail
        clear a3 a4
        refine last.wp_region_on wr.heap.size (by kernel_rfl) (by kernel_rfl) ?_
        repeat (go_big_quiet_step ((first | (go_at_call 16; with_reducible exact hcall0 _))))
        refine wpQuiet_nil ?_
        intro wq hwq
        obtain ⟨xq, hwq⟩ := hwq
        subst hwq
        have hbq : Below wr.heap.size wr xq.w := xq.2
        generalize xq.w = w4 at *
        clear oa0 oa1 oa2 oa3 oa4 oa5 oc1 hinh hcall0
        have hCq := hCr.below hbq
        have hSq := hSr.below hbq
        have c1 := (hbq.cell (p := ⟨b, off + k * 2, none⟩) hbl).trans K1.out
        obtain ⟨a0, a1, a2, a3, a4, a5⟩ := cells6 hCq.box
        obtain ⟨s0, s1, s2, s3, s4, s5⟩ := cells6 hSq.box
        have os0 := last.On.cell (B := w4.heap.size) s0 hSq.box.lt
        have os1 := last.On.cell (B := w4.heap.size) s1 hSq.box.lt
        have os2 := last.On.cell (B := w4.heap.size) s2 hSq.box.lt
        have os3 := last.On.cell (B := w4.heap.size) s3 hSq.box.lt
        have os4 := last.On.cell (B := w4.heap.size) s4 hSq.box.lt
        have os5 := last.On.cell (B := w4.heap.size) s5 hSq.box.lt
        have oa4 := last.On.cell (B := w4.heap.size) a4 hCq.box.lt
        have oc1 := last.On.cell (B := w4.heap.size) c1 (World.block_lt_of_cell? _ _ c1)
        have hinh := last.On.inh w4.heap.size w4
        have hcall1 : ∀ xx : last.On w4.heap.size w4, Calls Try.prog 16 #[.agg #[.int .i64 S.1, .int .i64 S.2.1, .int .i64 S.2.2.1, .slice sja sjn sjc, .slice sla sln slc, .int .i64 S.2.2.2.2.2], .int .i64 t] xx.w fun e w' => e = .returned (.tuple #[.bool y, .bool true]) ∧ ∃ yy : last.On w4.heap.size w4, w' = yy.w := fun xx => last.Calls.on xx (Nat.le_refl _) ((HANS1.out xx.w (see_co (hSq.below xx.2).see)).mono fun e w' ⟨he, hw⟩ => ⟨he, hw⟩)
        clear c1 a0 a1 a2 a3 a4 a5 s0 s1 s2 s3 s4 s5
        go_wp2_with fail
        refine last.wp_region_on w4.heap.size (by kernel_rfl) (by kernel_rfl) ?_
        repeat (go_big_quiet_step ((first | (go_at_call 16; with_reducible exact hcall1 _))))
        refine wpQuiet_nil ?_
        intro wq hwq
        obtain ⟨xq, hwq⟩ := hwq
        subst hwq
        have hbq2 : Below w4.heap.size w4 xq.w := xq.2
        generalize xq.w = w5 at *
        clear os0 os1 os2 os3 os4 os5 oa4 oc1 hinh hcall1
        have hb5 := hbq.trans (hbq2.mono hbq.size)
        have c2 := (hb5.cell (p := ⟨b, off + k * 2 + 1, none⟩) hbl).trans K2.out
        obtain ⟨a0, a1, a2, a3, a4, a5⟩ := cells6 (hCr.below hb5).box
        have hyy : (y != y) = false := by cases y <;> rfl
        go_wp2_with fail
        go_roundw
        case rel => exact ⟨k + 1, by omega, by go_num, hbr.trans (hb5.mono hbr.size)⟩
        case measure => simp [intOf]; omega
      · rw [decide_eq_false hsu, Bool.and_false] at hcall0
        go_wp2_with fail
        clear a3 a4
        refine last.wp_region_on wr.heap.size (by kernel_rfl) (by kernel_rfl) ?_
        repeat (go_big_quiet_step ((first | (go_at_call 16; with_reducible exact hcall0 _))))
        refine wpQuiet_nil ?_
        intro wq hwq
        obtain ⟨xq, hwq⟩ := hwq
        subst hwq
        have hbq : Below wr.heap.size wr xq.w := xq.2
        generalize xq.w = w4 at *
        clear oa0 oa1 oa2 oa3 oa4 oa5 oc1 hinh hcall0
        have hCq := hCr.below hbq
        have hSq := hSr.below hbq
        have c1 := (hbq.cell (p := ⟨b, off + k * 2, none⟩) hbl).trans K1.out
        obtain ⟨a0, a1, a2, a3, a4, a5⟩ := cells6 hCq.box
        obtain ⟨s0, s1, s2, s3, s4, s5⟩ := cells6 hSq.box
        have os0 := last.On.cell (B := w4.heap.size) s0 hSq.box.lt
        have os1 := last.On.cell (B := w4.heap.size) s1 hSq.box.lt
        have os2 := last.On.cell (B := w4.heap.size) s2 hSq.box.lt
        have os3 := last.On.cell (B := w4.heap.size) s3 hSq.box.lt
        have os4 := last.On.cell (B := w4.heap.size) s4 hSq.box.lt
        have os5 := last.On.cell (B := w4.heap.size) s5 hSq.box.lt
        have oa4 := last.On.cell (B := w4.heap.size) a4 hCq.box.lt
        have oc1 := last.On.cell (B := w4.heap.size) c1 (World.block_lt_of_cell? _ _ c1)
        have hinh := last.On.inh w4.heap.size w4
        have hcall1 : ∀ xx : last.On w4.heap.size w4, Calls Try.prog 16 #[.agg #[.int .i64 S.1, .int .i64 S.2.1, .int .i64 S.2.2.1, .slice sja sjn sjc, .slice sla sln slc, .int .i64 S.2.2.2.2.2], .int .i64 t] xx.w fun e w' => e = .returned (.tuple #[.bool y, .bool true]) ∧ ∃ yy : last.On w4.heap.size w4, w' = yy.w := fun xx => last.Calls.on xx (Nat.le_refl _) ((HANS1.out xx.w (see_co (hSq.below xx.2).see)).mono fun e w' ⟨he, hw⟩ => ⟨he, hw⟩)
        clear c1 a0 a1 a2 a3 a4 a5 s0 s1 s2 s3 s4 s5
        go_wp2_with fail
        refine last.wp_region_on w4.heap.size (by kernel_rfl) (by kernel_rfl) ?_
        repeat (go_big_quiet_step ((first | (go_at_call 16; with_reducible exact hcall1 _))))
        refine wpQuiet_nil ?_
        intro wq hwq
        obtain ⟨xq, hwq⟩ := hwq
        subst hwq
        have hbq2 : Below w4.heap.size w4 xq.w := xq.2
        generalize xq.w = w5 at *
        clear os0 os1 os2 os3 os4 os5 oa4 oc1 hinh hcall1
        have hb5 := hbq.trans (hbq2.mono hbq.size)
        have c2 := (hb5.cell (p := ⟨b, off + k * 2 + 1, none⟩) hbl).trans K2.out
        obtain ⟨a0, a1, a2, a3, a4, a5⟩ := cells6 (hCr.below hb5).box
        have hyy : (y != y) = false := by cases y <;> rfl
        go_wp2_with fail
        go_roundw
        case rel => exact ⟨k + 1, by omega, by go_num, hbr.trans (hb5.mono hbr.size)⟩
        case measure => simp [intOf]; omega
    · have hki : ¬ (k : Int) < (ln : Int) := by omega
      have HCr := Hid.mk' (HCR.out wr (see_co hCr.see))
      obtain ⟨a0, a1, a2, a3, a4, a5⟩ := cells6 hCr.box
      clear hC3 hS3 hSr
      go_wp2_with fail
      refine HCr.out.mono ?_
      rintro e w4 ⟨vs4, F4, rfl, hO4, hF4, hb4⟩
      obtain ⟨xja, xjn, xjc, xla, xln, xlc, rfl⟩ := coord_shape hO4
      clear a0 a1 a2 a3 a4 a5 HCr
      obtain ⟨v4, hv4⟩ : ∃ V, w4.alloc (.cells #[.int .i64 R.1, .int .i64 R.2.1, .int .i64 R.2.2.1, .slice xja xjn xjc, .slice xla xln xlc, .int .i64 R.2.2.2.2.2] 27) = V := ⟨_, rfl⟩
      have hb4b : Below w4.heap.size w4 v4 := by rw [← hv4]; exact below_make
      have hX4 := inR_new (T := 27) hO4
      rw [hv4] at hX4
      have HVv4 := Hid.mk' hv4
      have hb44 := hb4.trans (hb4b.mono hb4.size)
      have hC4 := hCr.below hb44
      have hB4 := hBr.trans (hb44.mono hBr.size)
      have HANX := Hid.mk' (fun tx wx (ht : (Lit.int .i64 tx).wf = true) (hx : SeeCo wx xja xjn xjc xla xln xlc R) => impl_answer xja xjn xjc xla xln xlc R tx wx hx hbR.fits ht)
      have HKX := Hid.mk' (fun wx (hx : SeeCo wx xja xjn xjc xla xln xlc R) => impl_coordOk xja xjn xjc xla xln xlc R wx hx hbR.fits)
      rw [hRok] at HKX
      obtain ⟨a0, a1, a2, a3, a4, a5⟩ := cells6 hC4.box
      rw [← hv4] at a0 a1 a2 a3 a4 a5
      clear hv4 hO4 hF4
      go_wp2_with fail
      rw [HVv4.out]
      clear a0 a1 a2 a3 a4 a5 HVv4 hb4 hb4b hb44 hBr hCr hB3 hbr
      go_loopw [11] (fun i wr => ∃ k : Nat, k ≤ jn ∧ i = .int .i64 (k : Int) ∧ Below v4.heap.size v4 wr) (fun i _ => jn - (intOf i).toNat)
      case atStart => exact ⟨0, Nat.zero_le _, rfl, Below.refl _ _⟩
      case round =>
        obtain ⟨k, hk, rfl, hbr⟩ := hrel
        have hCr := hC4.below hbr
        have hXr := hX4.below hbr
        have hBr := hB4.trans (hbr.mono hB4.size)
        by_cases hlt : k < jn
        · have hki : (k : Int) < (jn : Int) := by omega
          have hkl : k < c.2.2.2.1.length := by rw [← HJNN.out]; exact hlt
          obtain ⟨b, off, hja, _⟩ := (see_co hCr.see).jobs.2.2.2 (by omega)
          subst hja
          have c1 := (job_at (see_co hCr.see).jobs k hkl).1
          have htw := HTJ.out _ (List.getElem_mem hkl)
          have hA := HAX.out _ (List.getElem_mem hkl)
          generalize c.2.2.2.1[k].1 = t at *
          have hcx : ∀ wx (hx : SeeCo wx xja xjn xjc xla xln xlc R), _ := fun wx hx => HANX.out t wx htw hx
          have hcc : ∀ wx (hx : SeeCo wx (some ⟨b, off, none⟩) jn jc la ln lc c), _ := fun wx hx => HAN.out t wx htw hx
          generalize answerR R t = ar at *
          generalize answerR c t = ac at *
          obtain ⟨y2, k2⟩ := ar
          obtain ⟨y1, k1⟩ := ac
          simp only [] at hA hcx hcc
          obtain ⟨hk2, hk1, hk0⟩ := hA
          subst hk2
          have HCC := Hid.mk' hcc
          have hcall0 : ∀ xx : last.On wr.heap.size wr, Calls Try.prog 16 #[.agg #[.int .i64 R.1, .int .i64 R.2.1, .int .i64 R.2.2.1, .slice xja xjn xjc, .slice xla xln xlc, .int .i64 R.2.2.2.2.2], .int .i64 t] xx.w fun e w' => e = .returned (.tuple #[.bool y2, .bool true]) ∧ ∃ yy : last.On wr.heap.size wr, w' = yy.w := fun xx => last.Calls.on xx (Nat.le_refl _) ((hcx xx.w (see_co (hXr.below xx.2).see)).mono fun e w' ⟨he, hw⟩ => ⟨he, hw⟩)
          have hbl := World.block_lt_of_cell? _ _ c1
          have K1 := Hid.mk' c1
          obtain ⟨a0, a1, a2, a3, a4, a5⟩ := cells6 hCr.box
          obtain ⟨x0, x1, x2, x3, x4, x5⟩ := cells6 hXr.box
          have ox0 := last.On.cell (B := wr.heap.size) x0 hXr.box.lt
          have ox1 := last.On.cell (B := wr.heap.size) x1 hXr.box.lt
          have ox2 := last.On.cell (B := wr.heap.size) x2 hXr.box.lt
          have ox3 := last.On.cell (B := wr.heap.size) x3 hXr.box.lt
          have ox4 := last.On.cell (B := wr.heap.size) x4 hXr.box.lt
          have ox5 := last.On.cell (B := wr.heap.size) x5 hXr.box.lt
          have oa3 := last.On.cell (B := wr.heap.size) a3 hCr.box.lt
          have oc1 := last.On.cell (B := wr.heap.size) c1 hbl
          have hinh := last.On.inh wr.heap.size wr
          clear a0 a1 a2 a5 x0 x1 x2 x3 x4 x5 c1 hcx hcc
          go_wp2_with fail
          clear a3 a4
          refine last.wp_region_on wr.heap.size (by kernel_rfl) (by kernel_rfl) ?_
          repeat (go_big_quiet_step ((first | (go_at_call 16; with_reducible exact hcall0 _))))
          refine wpQuiet_nil ?_
          intro wq hwq
          obtain ⟨xq, hwq⟩ := hwq
          subst hwq
          have hbq : Below wr.heap.size wr xq.w := xq.2
          generalize xq.w = w5 at *
          clear ox0 ox1 ox2 ox3 ox4 ox5 oa3 oc1 hinh hcall0
          have hCq := hCr.below hbq
          have c1 := (hbq.cell (p := ⟨b, off + k * 4, none⟩) hbl).trans K1.out
          obtain ⟨a0, a1, a2, a3, a4, a5⟩ := cells6 hCq.box
          have oa0 := last.On.cell (B := w5.heap.size) a0 hCq.box.lt
          have oa1 := last.On.cell (B := w5.heap.size) a1 hCq.box.lt
          have oa2 := last.On.cell (B := w5.heap.size) a2 hCq.box.lt
          have oa3 := last.On.cell (B := w5.heap.size) a3 hCq.box.lt
          have oa4 := last.On.cell (B := w5.heap.size) a4 hCq.box.lt
          have oa5 := last.On.cell (B := w5.heap.size) a5 hCq.box.lt
          have oc1 := last.On.cell (B := w5.heap.size) c1 (World.block_lt_of_cell? _ _ c1)
          have hinh := last.On.inh w5.heap.size w5
          have hcall1 : ∀ xx : last.On w5.heap.size w5, Calls Try.prog 16 #[.agg #[.int .i64 c.1, .int .i64 c.2.1, .int .i64 c.2.2.1, .slice (some ⟨b, off, none⟩) jn jc, .slice la ln lc, .int .i64 c.2.2.2.2.2], .int .i64 t] xx.w fun e w' => e = .returned (.tuple #[.bool y1, .bool k1]) ∧ ∃ yy : last.On w5.heap.size w5, w' = yy.w := fun xx => last.Calls.on xx (Nat.le_refl _) ((HCC.out xx.w (see_co (hCq.below xx.2).see)).mono fun e w' ⟨he, hw⟩ => ⟨he, hw⟩)
          clear c1 a0 a1 a2 a3 a4 a5
          cases k1
          · have hy2 : y2 = false := hk0 rfl
            subst hy2
            clear hk0 hk1
            go_wp2_with fail
            refine last.wp_region_on w5.heap.size (by kernel_rfl) (by kernel_rfl) ?_
            repeat (go_big_quiet_step ((first | (go_at_call 16; with_reducible exact hcall1 _))))
            refine wpQuiet_nil ?_
            intro wq hwq
            obtain ⟨xq, hwq⟩ := hwq
            subst hwq
            have hbq2 : Below w5.heap.size w5 xq.w := xq.2
            generalize xq.w = w6 at *
            clear oa0 oa1 oa2 oa3 oa4 oa5 oc1 hinh hcall1
            have hb6 := hbq.trans (hbq2.mono hbq.size)
            go_wp2_with fail
            go_roundw
            case rel => exact ⟨k + 1, by omega, by go_num, hbr.trans (hb6.mono hbr.size)⟩
            case measure => simp [intOf]; omega
          · have hy2 : y2 = y1 := hk1 rfl
            subst hy2
            clear hk0 hk1
            have hyy : (y2 != y2) = false := by cases y2 <;> rfl
            go_wp2_with fail
            refine last.wp_region_on w5.heap.size (by kernel_rfl) (by kernel_rfl) ?_
            repeat (go_big_quiet_step ((first | (go_at_call 16; with_reducible exact hcall1 _))))
            refine wpQuiet_nil ?_
            intro wq hwq
            obtain ⟨xq, hwq⟩ := hwq
            subst hwq
            have hbq2 : Below w5.heap.size w5 xq.w := xq.2
            generalize xq.w = w6 at *
            clear oa0 oa1 oa2 oa3 oa4 oa5 oc1 hinh hcall1
            have hb6 := hbq.trans (hbq2.mono hbq.size)
            go_wp2_with fail
            go_roundw
            case rel => exact ⟨k + 1, by omega, by go_num, hbr.trans (hb6.mono hbr.size)⟩
            case measure => simp [intOf]; omega
        · have hki : ¬ (k : Int) < (jn : Int) := by omega
          have HKr := Hid.mk' (HKX.out wr (see_co hXr.see))
          have hxj := (see_co hXr.see).jobs.1
          rw [HXL.out.2] at hxj
          have HXJ0 : Hid (xjn = 0) := hxj.symm
          clear hxj
          obtain ⟨x0, x1, x2, x3, x4, x5⟩ := cells6 hXr.box
          obtain ⟨a0, a1, a2, a3, a4, a5⟩ := cells6 hCr.box
          go_wp2_with fail
          refine HKr.out.mono ?_
          rintro e w5 ⟨rfl, hb5⟩
          clear x0 x1 x2 x3 x4 x5 a0 a1 a2 a3 a4 a5 HKr
          obtain ⟨x0, x1, x2, x3, x4, x5⟩ := cells6 (hXr.below hb5).box
          obtain ⟨a0, a1, a2, a3, a4, a5⟩ := cells6 (hCr.below hb5).box
          rw [HXL.out.1] at x1
          rw [HXJ0.out] at x3
          have heq : (c.2.1 + 1 == c.2.1 + 1) = true := by simp
          go_wp2_with fail
          go_ret
          exact ⟨rfl, hBr.trans (hb5.mono hBr.size)⟩

theorem own : ownKnob Try.prog.godebug = none := by kernel_rfl
theorem laidOut : laidOutB Try.prog = true := by kernel_rfl

set_option maxRecDepth 100000 in
theorem lifted (os : Os) (started : os.Started) (H : Type) (enc : TypeId × Value → H) :
    ReturnsInHanded {} Try.checked os 5 .any (Rows.fnAnsweredSpec.pre6 enc Try.prog Try.f5 Rows.fnAnsweredRow.domain false) (Rows.fnAnsweredSpec.post enc Try.prog Try.f5 false true false false) := by
  refine returnsInHanded_of_change (C := Try.checked) own started (by kernel_rfl) Try.func5
    (ChangeSpec.witness6 (enc := enc) (C := Try.checked) false ⟨#[], #[.slice none 0 0], []⟩ 8 (by kernel_rfl) (by kernel_rfl) (by kernel_rfl) (by kernel_rfl)) ?_
  intro W base args ds gs before hval0 hW hcnd _
  have hval : ∀ (j : Nat) t v, Try.f5.params[j]? = some t → args[j]? = some v → Value.okWide Try.prog W .any base t v := hval0
  have hW' := hW
  obtain ⟨p, q, hA0, hV, rfl, hfz, hnd⟩ := hW
  have hA : DataW.TrodAll enc Try.prog W 0 (fun _ => true) true Try.f5.params.toList args.toList ds p := hA0
  rw [Try.params5] at hA hval
  obtain ⟨v0, vs0, d0, ds0, p0, q0, hargs, rfl, rfl, h0, r0⟩ := trodAll_cons hA
  obtain ⟨rfl, rfl, rfl⟩ := trodAll_nil r0
  obtain rfl : args = #[v0] := by cases args; simp_all
  obtain ⟨rfl, rfl⟩ := trodVars_none hV
  obtain ⟨a0, len0, cap0, rfl⟩ := okWide_slice Try.underlying22 (hval 0 22 v0 rfl rfl)
  have k0 := h0
  have lt0 : ∀ x ∈ p0, x.block < W.heap.size := by obtain ⟨m, hm⟩ := k0; exact DataW.trod_lt m _ _ _ hm
  obtain ⟨b0, w0⟩ : ∃ bs, Sl W a0 len0 bs := by
    obtain ⟨fuel, hf⟩ := h0
    rcases open_ints Try.underlying22 Try.underlying5 (by kernel_rfl) hf with ⟨hcs, _⟩ | ⟨x, l, c, zs, hcs, _, hl, hm, hz, _, hcell, hwz⟩
    · simp [Value.cells] at hcs
      obtain ⟨rfl, rfl, rfl⟩ := hcs
      exact ⟨[], sl_nil _ _⟩
    · simp [Value.cells] at hcs
      obtain ⟨rfl, rfl, rfl⟩ := hcs
      exact ⟨_, sl_of_ints hl hm (by simpa using hz) hcell hwz⟩
  clear hA0 hval0
  refine (walk a0 len0 cap0 b0 W w0).mono fun e W' ⟨he, bel⟩ => ?_
  subst he
  exact ⟨_, rfl, _, _, _, [], _, [], hW', trodAll_mk1 (shut_bool Try.underlying4 _), (trodAll_cons_mk (Below.trod laidOut (by kernel_rfl) (of_decide_eq_true (by kernel_rfl)) k0 bel lt0) trodAll_mk0), rfl, bel.frame _, fun h => by cases h⟩

theorem over : Rows.fnAnsweredRow.holds Try.pinned (OpenSpec.ofChange Rows.fnAnsweredSpec) :=
  OpenClaim.holds_of_wide 5 Try.f5 rfl rfl rfl rfl rfl rfl rfl ⟨rfl, rfl, rfl, rfl, rfl⟩ rfl rfl rfl rfl rfl (by kernel_rfl) Try.func5 (by kernel_rfl)
    (of_decide_eq_true (by kernel_rfl)) (by unfold Func.isWrapper; first | (rw [if_pos (by decide +kernel)]; kernel_rfl) | (rw [if_neg (by decide +kernel)]; exact ⟨rfl, rfl⟩))
    (fun os started H enc _ => lifted os started H enc)

theorem proved : Rows.FnAnsweredSaid := over
end Go.Proofs.Ytgiibadbjgdjcaa.fnAnswered
