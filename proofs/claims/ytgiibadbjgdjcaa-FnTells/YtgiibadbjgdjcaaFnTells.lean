/- The statement FnTellsSaid: at every code FnTells answers true, and the code reads afterwards as before. No condition besides the row's own. -/
import Derived.Test.YtgiibadbjgdjcaaRows
import Derived.Test.YtgiibadbjgdjcaaBund13x
import Derived.Test.YtgiibadbjgdjcaaBund13d
import Derived.Test.YtgiibadbjgdjcaaBund13e
import Derived.Test.YtgiibadbjgdjcaaBund13y
import Derived.BigQuiet
import Derived.ProofKit
import Derived.OpenShut
import Derived.ShutString
import Derived.ChangeOld
import Derived.Below
namespace Go.Proofs.Ytgiibadbjgdjcaa.fnTells
open Go.ChangeShapes Go.WideShapes Go.ChangeAt Go.RowKit
open Go.ChangeMaps (open_string shut_string)
set_option linter.unusedVariables false
open Go.Proofs.Ytgiibadbjgdjcaa.base Go.Proofs.Ytgiibadbjgdjcaa.pairs Go.Proofs.Ytgiibadbjgdjcaa.ords Go.Proofs.Ytgiibadbjgdjcaa.cos Go.Proofs.Ytgiibadbjgdjcaa.lay Go.Proofs.Ytgiibadbjgdjcaa.wds Go.Proofs.Ytgiibadbjgdjcaa.draw

theorem opsFor_ok {n s : Int} {ops : List Od} (h : opsOk ops = true) (hs : s ∈ shardsOf n ops) : opsOk (opsFor s n ops) = true := by
  obtain ⟨⟨h1, h2⟩, h3, h4⟩ := (opsOk_iff _).1 h
  obtain ⟨o, ho, he⟩ := (shards_mem n ops s).1 hs
  refine (opsOk_iff _).2 ⟨⟨fun p hp => h1 p ((List.mem_filter.1 hp).1), List.Pairwise.filter _ h2⟩, List.length_pos_of_mem (List.mem_filter.2 ⟨ho, decide_eq_true he⟩), Nat.le_trans (List.length_filter_le _ _) h4⟩
theorem tell_word {c : Co} (h : RightCo c) : ∀ x ∈ tellR c, wordOk x = true ∧ ((x.1 = 3 ∧ answerR c x.2.2.1 = (x.2.2.2.2, true)) ∨ (x.1 = 1 ∧ (answerR c x.2.2.1).2 = false)) := by
  intro x hx
  have hok := coordOk_iff.2 h
  unfold tellR at hx
  rw [if_pos hok] at hx
  unfold wordsOf at hx
  obtain ⟨j, hj, hx⟩ := List.mem_flatMap.1 hx
  have hf := h.jobs j hj
  have hlf := h.life
  have hnx := h.next
  have hlo := hf.lo
  have hhi := hf.hi
  have hA : answerR c j.1 = answerS c.2.1 c.2.2.2.2.2 c.2.2.2.2.1 j.1 := by unfold answerR; rw [if_pos hok]
  have hpl : ∀ s ∈ shardsOf c.1 j.2.1, placeOk s j.1 = true := fun s hs => by
    obtain ⟨o, _, rfl⟩ := (shards_mem c.1 j.2.1 s).1 hs
    have h3 := shardOf_range o.2.1 c.1
    have h4 := h.n
    have := h3.2 (by omega)
    unfold placeOk
    rw [decide_eq_true (by omega), decide_eq_true (by omega)]; rfl
  unfold jobW at hx
  split at hx
  · rename_i hst
    unfold holdsW at hx
    obtain ⟨s, hs, rfl⟩ := List.mem_map.1 hx
    have hs1 := (List.mem_filter.1 hs).1
    refine ⟨?_, .inr ⟨rfl, ?_⟩⟩
    · have h1 := hpl s hs1
      have h2 := opsFor_ok hf.ops hs1
      simp [wordOk, wds.kindOk, h1, h2]
    · simp only []
      rw [hA]
      unfold answerS
      rw [if_neg (by omega)]
      cases e : chosen c.2.2.2.2.1 j.1 with
      | none => exact decide_eq_false (by omega)
      | some k =>
        obtain ⟨hk, hc⟩ := choice_some e
        have h9 := hf.said
        generalize c.2.2.2.2.1[k].2 = b at hc
        rw [hst, hc] at h9
        cases b <;> simp [stateOk] at h9
  · split at hx
    · rename_i hkn
      unfold tellsW at hx
      obtain ⟨s, hs, rfl⟩ := List.mem_map.1 hx
      refine ⟨?_, .inl ⟨rfl, ?_⟩⟩
      · have h1 := hpl s hs
        simp [wordOk, wds.kindOk, h1]
      · simp only []
        rw [hA]
        exact Prod.ext rfl hkn
    · exact absurd hx List.not_mem_nil
set_option maxRecDepth 100000 in
set_option maxHeartbeats 8000000 in
theorem walk (a0 : Option Addr) (len0 cap0 : Nat) (code : List UInt8) (w : World) (h : Sl w a0 len0 code) :
    Calls Try.prog 7 #[.slice a0 len0 cap0] w fun e w' => e = .returned (.bool true) ∧ Below w.heap.size w w' := by
  have HBG := Hid.mk' (big_ a0 len0 cap0 w h.2.1)
  by_cases hbig : 1048576 < (len0 : Int)
  · rw [decide_eq_true hbig] at HBG
    clear h
    go_enter Try.func7, Try.ntmps7
    go_wp2_with fail
    refine HBG.out.mono ?_
    rintro e w1 ⟨rfl, rfl⟩
    go_wp2_with fail
    go_ret
    exact ⟨rfl, Below.refl _ _⟩
  rw [decide_eq_false hbig] at HBG
  have HDR := Hid.mk' (drawTellAll a0 len0 cap0 code w h (by omega))
  clear h hbig
  go_enter Try.func7, Try.ntmps7
  go_wp2_with fail
  refine HBG.out.mono ?_
  rintro e w0 ⟨rfl, hw0⟩
  replace hw0 := hw0.symm
  subst hw0
  clear HBG
  go_wp2_with fail
  refine HDR.out.mono ?_
  rintro e w1 ⟨ja, jn, jc, la, ln, lc, c, F, hcz, rfl, hO1, hF1, hB1⟩
  clear HDR
  have hbd := bound_co (c := c) (by omega)
  obtain ⟨v1, hv1⟩ : ∃ V, w1.alloc (.cells #[.int .i64 c.1, .int .i64 c.2.1, .int .i64 c.2.2.1, .slice ja jn jc, .slice la ln lc, .int .i64 c.2.2.2.2.2] 27) = V := ⟨_, rfl⟩
  have hb1 : Below w1.heap.size w1 v1 := by rw [← hv1]; exact below_make
  have hC1 := inR_new (T := 27) hO1
  rw [hv1] at hC1
  have HVv1 := Hid.mk' hv1
  have hBv1 := hB1.trans (hb1.mono hB1.size)
  have hlen8 : (tellR c).length ≤ 16777216 := by
    unfold tellR
    split
    · rename_i hok
      have h1 := wordsOf_len c.1 c.2.1 c.2.2.2.2.2 c.2.2.2.2.1 c.2.2.2.1 (fun j hj => (opsOk_len (coordOk_jobs hok j hj).1).2)
      have := hbd.jobs
      omega
    · exact Nat.zero_le _
  have hsmall : Hid (∀ x ∈ tellR c, x.2.2.2.1.length ≤ 8) := by
    intro x hx
    unfold tellR at hx
    split at hx
    · rename_i hok
      unfold wordsOf at hx
      obtain ⟨j, hm, hx⟩ := List.mem_flatMap.1 hx
      exact jobW_small _ _ _ _ j (opsOk_len (coordOk_jobs hok j hm).1).2 x hx
    · exact absurd hx List.not_mem_nil
  have HTW : Hid (coordOk c = true → ∀ x ∈ tellR c, _) := fun hok => tell_word (coordOk_iff.1 hok)
  have HI1 := Hid.mk' (impl_tellAll ja jn jc la ln lc c v1 (see_co hC1.see) hbd)
  have HS := Hid.mk' (fun wx (hx : SeeCo wx ja jn jc la ln lc c) => spec_tellAll ja jn jc la ln lc c wx hx hbd)
  have HK := Hid.mk' (fun wx (hx : SeeCo wx ja jn jc la ln lc c) => spec_coordOk ja jn jc la ln lc c wx hx hbd.fits)
  have HKI := Hid.mk' (fun wx (hx : SeeCo wx ja jn jc la ln lc c) => impl_coordOk ja jn jc la ln lc c wx hx hbd.fits)
  have HAN := Hid.mk' (fun tx wx (ht : (Lit.int .i64 tx).wf = true) (hx : SeeCo wx ja jn jc la ln lc c) => impl_answer ja jn jc la ln lc c tx wx hx hbd.fits ht)
  generalize tellR c = R at *
  generalize hAnR : answerR c = AR at *
  clear hAnR
  obtain ⟨a0, a1, a2, a3, a4, a5⟩ := cells6 hC1.box
  rw [← hv1] at a0 a1 a2 a3 a4 a5
  clear hv1 hO1 hF1
  go_wp2_with fail
  rw [HVv1.out]
  refine HI1.out.mono ?_
  rintro e w2 ⟨g, m, cap, q, rfl, hW2, hq2, hb2⟩
  have hm := hW2.nlen
  have hC2 := hC1.below hb2
  have hB2 := hBv1.trans (hb2.mono hBv1.size)
  have HS2 := Hid.mk' (HS.out w2 (see_co hC2.see))
  have HM := Hid.mk' hm
  have hm8 : m ≤ 16777216 := by omega
  clear a0 a1 a2 a3 a4 a5 HI1 HVv1 hq2 hC1 hBv1 hb2 hm
  obtain ⟨a0, a1, a2, a3, a4, a5⟩ := cells6 hC2.box
  go_wp2_with fail
  refine HS2.out.mono ?_
  rintro e w3 ⟨g3, m3, cap3, q3, rfl, hW3, hq3, hb3⟩
  obtain rfl : m3 = m := hW3.nlen.trans HM.out.symm
  have hne : ((m3 : Int) != (m3 : Int)) = false := by simp
  have hC3 := hC2.below hb3
  have hWw3 := hW2.below hb3
  have hB3 := hB2.trans (hb3.mono hB2.size)
  have HK3 := Hid.mk' (HK.out w3 (see_co hC3.see))
  clear a0 a1 a2 a3 a4 a5 HS2 hW3 hq3 hC2 hB2 hb3 hW2 HK
  obtain ⟨a0, a1, a2, a3, a4, a5⟩ := cells6 hC3.box
  cases hok : coordOk c
  · rw [hok] at HK3 HKI
    clear hok HTW
    go_wp2_with fail
    refine HK3.out.mono ?_
    rintro e w4 ⟨rfl, hb4⟩
    have hC4 := hC3.below hb4
    have hB4 := hB3.trans (hb4.mono hB3.size)
    have HS4 := Hid.mk' (HS.out w4 (see_co hC4.see))
    clear a0 a1 a2 a3 a4 a5 HK3 hne
    obtain ⟨a0, a1, a2, a3, a4, a5⟩ := cells6 hC4.box
    go_wp2_with fail
    refine HS4.out.mono ?_
    rintro e w5 ⟨g5, m5, cap5, q5, rfl, hW5, hq5, hb5⟩
    obtain rfl : m5 = m3 := hW5.nlen.trans HM.out.symm
    have hC5 := hC4.below hb5
    have hB5 := hB4.trans (hb5.mono hB4.size)
    have heq : ((m5 : Int) == (m5 : Int)) = true := by simp
    have HK5 := Hid.mk' (HKI.out w5 (see_co hC5.see))
    clear a0 a1 a2 a3 a4 a5 HS4 hW5 hq5
    obtain ⟨a0, a1, a2, a3, a4, a5⟩ := cells6 hC5.box
    go_wp2_with fail
    refine HK5.out.mono ?_
    rintro e w6 ⟨rfl, hb6⟩
    clear a0 a1 a2 a3 a4 a5 HK5
    go_wp2_with fail
    go_ret
    exact ⟨rfl, hB5.trans (hb6.mono hB5.size)⟩
  · rw [hok] at HK3 HKI
    have HTW2 := Hid.mk' (HTW.out hok)
    clear hok HTW
    go_wp2_with fail
    refine HK3.out.mono ?_
    rintro e w4 ⟨rfl, hb4⟩
    have hC4 := hC3.below hb4
    have hW4 := hWw3.below hb4
    have hB4 := hB3.trans (hb4.mono hB3.size)
    clear a0 a1 a2 a3 a4 a5 HK3 hne hC3 hB3 hb4 hWw3 HS
    go_wp2_with fail
    go_loopw [5] (fun i wr => ∃ k : Nat, k ≤ m3 ∧ i = .int .i64 (k : Int) ∧ Below w4.heap.size w4 wr) (fun i _ => m3 - (intOf i).toNat)
    case atStart => exact ⟨0, Nat.zero_le _, rfl, Below.refl _ _⟩
    case round =>
      obtain ⟨k, hk, rfl, hbr⟩ := hrel
      have hCr := hC4.below hbr
      have hWr := hW4.below hbr
      have hBr := hB4.trans (hbr.mono hB4.size)
      by_cases hlt : k < m3
      · have hki : (k : Int) < (m3 : Int) := by omega
        have hkl : k < R.length := by rw [← HM.out]; exact hlt
        obtain ⟨oa, ol, oc, c0, c1, c2, c3, c4, hSo, hoc⟩ := word_at hWr.sl k hkl
        simp only [Nat.zero_add] at c0 c1 c2 c3 c4
        have htw := HTW2.out _ (List.getElem_mem hkl)
        have hs8 := hsmall.out _ (List.getElem_mem hkl)
        obtain ⟨us, Fk, hu, _, _, _⟩ := hWr.open k hkl
        obtain ⟨_, _, _, _, k1, k2, k3, _⟩ := word_parts hu
        generalize R[k] = x at *
        obtain ⟨kd, s, tx, ops, y⟩ := x
        simp only [] at c0 c1 c2 c3 c4 hSo htw hs8 k3
        obtain ⟨hwo, hcase⟩ := htw
        have hks : ∀ p ∈ ops, p.2.1.size ≤ 1099511627776 := fun p hp => by
          rcases hcase with ⟨hkd, _⟩ | ⟨hkd, _⟩
          · subst hkd
            unfold wordOk wds.kindOk at hwo
            simp at hwo
            rw [hwo.2] at hp; exact absurd hp List.not_mem_nil
          · subst hkd
            unfold wordOk wds.kindOk at hwo
            simp at hwo
            have := (tinyO_ok (((opsOk_iff _).1 hwo.2.1).1.1 p hp)).2.2.1
            omega
        have HWO := Hid.mk' (fun wx (hx : Below wr.heap.size wr wx) => impl_wordOk kd s tx oa ol oc ops y wx (hSo.below hx) hks)
        rw [hwo] at HWO
        have hcall0 : ∀ xx : last.On wr.heap.size wr, Calls Try.prog 16 #[.agg #[.int .i64 c.1, .int .i64 c.2.1, .int .i64 c.2.2.1, .slice ja jn jc, .slice la ln lc, .int .i64 c.2.2.2.2.2], .int .i64 tx] xx.w fun e w' => e = .returned (.tuple #[.bool (AR tx).1, .bool (AR tx).2]) ∧ ∃ yy : last.On wr.heap.size wr, w' = yy.w := fun xx => last.Calls.on xx (Nat.le_refl _) ((HAN.out tx xx.w k3 (see_co (hCr.below xx.2).see)).mono fun e w' ⟨he, hw⟩ => ⟨he, hw⟩)
        obtain ⟨a0, a1, a2, a3, a4, a5⟩ := cells6 hCr.box
        have hCl := hCr.box.lt
        have o0 := last.On.cell (B := wr.heap.size) a0 hCl
        have o1 := last.On.cell (B := wr.heap.size) a1 hCl
        have o2 := last.On.cell (B := wr.heap.size) a2 hCl
        have o3 := last.On.cell (B := wr.heap.size) a3 hCl
        have o4 := last.On.cell (B := wr.heap.size) a4 hCl
        have o5 := last.On.cell (B := wr.heap.size) a5 hCl
        have ot := last.On.cell (B := wr.heap.size) c2 (World.block_lt_of_cell? _ _ c2)
        have hinh := last.On.inh wr.heap.size wr
        have C0 := Hid.mk' c0
        have C4 := Hid.mk' c4
        have CC := Hid.mk' (And.intro c1 (And.intro c2 c3))
        have hgl := World.block_lt_of_cell? _ _ c0
        clear c0 c1 c2 c3 c4 a0 a1 a2 a3 a4 a5 hSo hu k1 k2 hwo
        rcases hcase with ⟨hkd, han⟩ | ⟨hkd, han⟩
        · subst hkd
          rw [han] at hcall0
          clear han
          simp only [] at hcall0
          go_wp2_with fail
          refine last.wp_region_on wr.heap.size (by kernel_rfl) (by kernel_rfl) ?_
          repeat (go_big_quiet_step ((first | (go_at_call 16; with_reducible exact hcall0 _))))
          refine wpQuiet_nil ?_
          intro wq hwq
          obtain ⟨xq, hwq⟩ := hwq
          subst hwq
          have hbq : Below wr.heap.size wr xq.w := xq.2
          generalize xq.w = w5 at *
          clear o0 o1 o2 o3 o4 o5 ot hinh hcall0
          have c0 := (hbq.cell (p := ⟨g, k * 5, none⟩) hgl).trans C0.out
          have c1 := (hbq.cell (p := ⟨g, k * 5 + 1, none⟩) hgl).trans CC.out.1
          have c2 := (hbq.cell (p := ⟨g, k * 5 + 2, none⟩) hgl).trans CC.out.2.1
          have c3 := (hbq.cell (p := ⟨g, k * 5 + 3, none⟩) hgl).trans CC.out.2.2
          have c4 := (hbq.cell (p := ⟨g, k * 5 + 4, none⟩) hgl).trans C4.out
          have HW5 := Hid.mk' (HWO.out w5 hbq)
          have hyy : (y != y) = false := by cases y <;> rfl
          go_wp2_with fail
          refine HW5.out.mono ?_
          rintro e w6 ⟨rfl, hb6⟩
          have hbq6 := hbq.trans (hb6.mono hbq.size)
          clear c0 c1 c2 c3 c4 HW5
          have c0 := (hbq6.cell (p := ⟨g, k * 5, none⟩) hgl).trans C0.out
          have c4 := (hbq6.cell (p := ⟨g, k * 5 + 4, none⟩) hgl).trans C4.out
          go_wp2_with fail
          go_roundw
          case rel => exact ⟨k + 1, by omega, by go_num, hbr.trans (hbq6.mono hbr.size)⟩
          case measure => simp [intOf]; omega
        · subst hkd
          generalize AR tx = an at *
          obtain ⟨yy, kn⟩ := an
          simp only [] at han hcall0
          subst han
          go_wp2_with fail
          refine last.wp_region_on wr.heap.size (by kernel_rfl) (by kernel_rfl) ?_
          repeat (go_big_quiet_step ((first | (go_at_call 16; with_reducible exact hcall0 _))))
          refine wpQuiet_nil ?_
          intro wq hwq
          obtain ⟨xq, hwq⟩ := hwq
          subst hwq
          have hbq : Below wr.heap.size wr xq.w := xq.2
          generalize xq.w = w5 at *
          clear o0 o1 o2 o3 o4 o5 ot hinh hcall0
          have c0 := (hbq.cell (p := ⟨g, k * 5, none⟩) hgl).trans C0.out
          have c1 := (hbq.cell (p := ⟨g, k * 5 + 1, none⟩) hgl).trans CC.out.1
          have c2 := (hbq.cell (p := ⟨g, k * 5 + 2, none⟩) hgl).trans CC.out.2.1
          have c3 := (hbq.cell (p := ⟨g, k * 5 + 3, none⟩) hgl).trans CC.out.2.2
          have c4 := (hbq.cell (p := ⟨g, k * 5 + 4, none⟩) hgl).trans C4.out
          have HW5 := Hid.mk' (HWO.out w5 hbq)
          go_wp2_with fail
          refine HW5.out.mono ?_
          rintro e w6 ⟨rfl, hb6⟩
          have hbq6 := hbq.trans (hb6.mono hbq.size)
          clear c0 c1 c2 c3 c4 HW5
          have c0 := (hbq6.cell (p := ⟨g, k * 5, none⟩) hgl).trans C0.out
          have c4 := (hbq6.cell (p := ⟨g, k * 5 + 4, none⟩) hgl).trans C4.out
          go_wp2_with fail
          go_roundw
          case rel => exact ⟨k + 1, by omega, by go_num, hbr.trans (hbq6.mono hbr.size)⟩
          case measure => simp [intOf]; omega
      · have hki : ¬ (k : Int) < (m3 : Int) := by omega
        have HKr := Hid.mk' (HKI.out wr (see_co hCr.see))
        obtain ⟨a0, a1, a2, a3, a4, a5⟩ := cells6 hCr.box
        go_wp2_with fail
        refine HKr.out.mono ?_
        rintro e w5 ⟨rfl, hb5⟩
        clear a0 a1 a2 a3 a4 a5
        go_wp2_with fail
        go_ret
        exact ⟨rfl, hBr.trans (hb5.mono hBr.size)⟩

theorem own : ownKnob Try.prog.godebug = none := by kernel_rfl
theorem laidOut : laidOutB Try.prog = true := by kernel_rfl

set_option maxRecDepth 100000 in
theorem lifted (os : Os) (started : os.Started) (H : Type) (enc : TypeId × Value → H) :
    ReturnsInHanded {} Try.checked os 7 .any (Rows.fnTellsSpec.pre6 enc Try.prog Try.f7 Rows.fnTellsRow.domain false) (Rows.fnTellsSpec.post enc Try.prog Try.f7 false true false false) := by
  refine returnsInHanded_of_change (C := Try.checked) own started (by kernel_rfl) Try.func7
    (ChangeSpec.witness6 (enc := enc) (C := Try.checked) false ⟨#[], #[.slice none 0 0], []⟩ 8 (by kernel_rfl) (by kernel_rfl) (by kernel_rfl) (by kernel_rfl)) ?_
  intro W base args ds gs before hval0 hW hcnd _
  have hval : ∀ (j : Nat) t v, Try.f7.params[j]? = some t → args[j]? = some v → Value.okWide Try.prog W .any base t v := hval0
  have hW' := hW
  obtain ⟨p, q, hA0, hV, rfl, hfz, hnd⟩ := hW
  have hA : DataW.TrodAll enc Try.prog W 0 (fun _ => true) true Try.f7.params.toList args.toList ds p := hA0
  rw [Try.params7] at hA hval
  obtain ⟨v0, vs0, d0, ds0, p0, q0, hargs, rfl, rfl, h0, r0⟩ := trodAll_cons hA
  obtain ⟨rfl, rfl, rfl⟩ := trodAll_nil r0
  obtain rfl : args = #[v0] := by cases args; simp_all
  obtain ⟨rfl, rfl⟩ := trodVars_none hV
  obtain ⟨a0, len0, cap0, rfl⟩ := okWide_slice Try.underlying22 (hval 0 22 v0 rfl rfl)
  have k0 := h0
  have lt0 : ∀ x ∈ p0, x.block < W.heap.size := by obtain ⟨m, hm⟩ := k0; exact DataW.trod_lt m _ _ _ hm
  obtain ⟨b0, w0⟩ : ∃ bs, Sl W a0 len0 bs := by
    obtain ⟨fuel, hf⟩ := h0
    rcases open_ints Try.underlying22 Try.underlying5 (by kernel_rfl) hf with ⟨hcs, _⟩ | ⟨x, l, c, zs, hcs, _, hl, hm, hz, _, hcell, hwz⟩
    · simp [Value.cells] at hcs
      obtain ⟨rfl, rfl, rfl⟩ := hcs
      exact ⟨[], sl_nil _ _⟩
    · simp [Value.cells] at hcs
      obtain ⟨rfl, rfl, rfl⟩ := hcs
      exact ⟨_, sl_of_ints hl hm (by simpa using hz) hcell hwz⟩
  clear hA0 hval0
  refine (walk a0 len0 cap0 b0 W w0).mono fun e W' ⟨he, bel⟩ => ?_
  subst he
  exact ⟨_, rfl, _, _, _, [], _, [], hW', trodAll_mk1 (shut_bool Try.underlying4 _), (trodAll_cons_mk (Below.trod laidOut (by kernel_rfl) (of_decide_eq_true (by kernel_rfl)) k0 bel lt0) trodAll_mk0), rfl, bel.frame _, fun h => by cases h⟩

theorem over : Rows.fnTellsRow.holds Try.pinned (OpenSpec.ofChange Rows.fnTellsSpec) :=
  OpenClaim.holds_of_wide 7 Try.f7 rfl rfl rfl rfl rfl rfl rfl ⟨rfl, rfl, rfl, rfl, rfl⟩ rfl rfl rfl rfl rfl (by kernel_rfl) Try.func7 (by kernel_rfl)
    (of_decide_eq_true (by kernel_rfl)) (by unfold Func.isWrapper; first | (rw [if_pos (by decide +kernel)]; kernel_rfl) | (rw [if_neg (by decide +kernel)]; exact ⟨rfl, rfl⟩))
    (fun os started H enc _ => lifted os started H enc)

theorem proved : Rows.FnTellsSaid := over
end Go.Proofs.Ytgiibadbjgdjcaa.fnTells
