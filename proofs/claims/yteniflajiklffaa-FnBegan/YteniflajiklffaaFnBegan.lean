/- The statement FnBeganSaid: at every code FnBegan answers true, and the code reads afterwards as before. No condition besides the row's own. -/
import Derived.Test.YteniflajiklffaaRows
import Derived.Test.YteniflajiklffaaShau
import Derived.Test.YteniflajiklffaaShap
import Derived.Test.YteniflajiklffaaShar
import Derived.BigQuiet
import Derived.ProofKit
import Derived.OpenShut
import Derived.ShutString
import Derived.ChangeOld
import Derived.Below
namespace Go.Proofs.Yteniflajiklffaa.fnBegan
open Go.ChangeShapes Go.WideShapes Go.ChangeAt Go.RowKit
open Go.ChangeMaps (open_string shut_string)
set_option linter.unusedVariables false
open Go.Proofs.Yteniflajiklffaa.base Go.Proofs.Yteniflajiklffaa.pairs Go.Proofs.Yteniflajiklffaa.ords Go.Proofs.Yteniflajiklffaa.cos Go.Proofs.Yteniflajiklffaa.lay Go.Proofs.Yteniflajiklffaa.wds Go.Proofs.Yteniflajiklffaa.draw

set_option linter.unusedSimpArgs false
theorem holds_all (n tx : Int) (ops : List Od) (l : List Int) : holdsW n tx ops [] l = l.map fun s => (1, s, tx, opsFor s n ops, false) := by
  unfold holdsW
  rw [List.filter_eq_self.2 (fun s _ => by simp)]
theorem begin_told {c : Co} {ops : List Od} : ((beginR c ops).2.2 = 0 ∧ (beginR c ops).2.1 = [] ∧ (beginR c ops).1.2.2.1 = c.2.2.1) ∨ ((beginR c ops).2.2 ≠ 0 ∧ RightCo c ∧ opsOk ops = true ∧ (beginR c ops).2.1 = (shardsOf c.1 ops).map (fun s => (1, s, (beginR c ops).2.2, opsFor s c.1 ops, false)) ∧ (beginR c ops).1.2.2.1 = c.2.2.1 + 1 ∧ RightCo (beginR c ops).1 ∧ (∀ x ∈ c.2.2.2.2.1, x.1 ≠ (beginR c ops).2.2) ∧ (answerR (beginR c ops).1 (beginR c ops).2.2).2 = false) := by
  unfold beginR
  split
  · rename_i hok
    have hR := coordOk_iff.1 hok
    unfold beginS
    split
    · rename_i hm
      have hb := begun_right hR hm
      have hl := hR.life
      have hn := hR.next
      unfold mayBegin at hm
      simp only [Bool.and_eq_true, decide_eq_true_eq] at hm
      have hlog : ∀ x ∈ c.2.2.2.2.1, x.1 ≠ nextTx c := fun x hx e => by
        have := (hR.range x hx).2
        unfold nextTx at e
        omega
      refine .inr ⟨by show nextTx c ≠ 0; unfold nextTx; omega, hR, hm.1.1, holds_all _ _ _ _, rfl, hb, hlog, ?_⟩
      show (answerR (begunC c ops) (nextTx c)).2 = false
      unfold answerR
      rw [if_pos (coordOk_iff.2 hb)]
      unfold answerS
      rw [if_neg (by unfold nextTx; omega)]
      cases e : chosen (begunC c ops).2.2.2.2.1 (nextTx c) with
      | none => exact decide_eq_false (by show ¬ nextTx c < c.2.1 * 1000; unfold nextTx; omega)
      | some k =>
        obtain ⟨hk, h1, _⟩ := findIdx_some e
        exact absurd (of_decide_eq_true h1) (hlog _ (List.getElem_mem hk))
    · exact .inl ⟨rfl, rfl, rfl⟩
  · exact .inl ⟨rfl, rfl, rfl⟩
set_option maxRecDepth 100000 in
set_option maxHeartbeats 8000000 in
theorem walk (a0 : Option Addr) (len0 cap0 : Nat) (code : List UInt8) (w : World) (h : Sl w a0 len0 code) :
    Calls Try.prog 3 #[.slice a0 len0 cap0] w fun e w' => e = .returned (.bool true) ∧ Below w.heap.size w w' := by
  have HBG := Hid.mk' (big_ a0 len0 cap0 w h.2.1)
  by_cases hbig : 1048576 < (len0 : Int)
  · rw [decide_eq_true hbig] at HBG
    clear h
    go_enter Try.func3, Try.ntmps3
    go_wp2_with fail
    refine HBG.out.mono ?_
    rintro e w1 ⟨rfl, rfl⟩
    go_wp2_with fail
    go_ret
    exact ⟨rfl, Below.refl _ _⟩
  rw [decide_eq_false hbig] at HBG
  have HDR := Hid.mk' (drawBegin a0 len0 cap0 code w h (by omega))
  clear h hbig
  go_enter Try.func3, Try.ntmps3
  go_wp2_with fail
  refine HBG.out.mono ?_
  rintro e w0 ⟨rfl, hw0⟩
  replace hw0 := hw0.symm
  subst hw0
  clear HBG
  go_wp2_with fail
  refine HDR.out.mono ?_
  rintro e w1 ⟨go, mo, cpo, ops, hm8, htt, hOo, ja, jn, jc, la, ln, lc, c, F, hcz, rfl, hO1, hF1, hB1⟩
  clear HDR
  have hbd := bound_co (c := c) (by omega)
  have hwf : WfCo c := by obtain ⟨_, _, _, _, _, hw, _⟩ := coord_own.1 hO1; exact hw
  have hks : ∀ p ∈ ops, p.2.1.size ≤ 1099511627776 := fun p hp => by have := (htt p hp).2.2.1; omega
  have hcp := (OwnO.cases hOo).1
  obtain ⟨v1, hv1⟩ : ∃ V, w1.alloc (.cells #[.int .i64 c.1, .int .i64 c.2.1, .int .i64 c.2.2.1, .slice ja jn jc, .slice la ln lc, .int .i64 c.2.2.2.2.2] 27) = V := ⟨_, rfl⟩
  have hb1 : Below w1.heap.size w1 v1 := by rw [← hv1]; exact below_make
  have hC1 := inR_new (T := 27) hO1
  rw [hv1] at hC1
  have HVv1 := Hid.mk' hv1
  have hBv1 := hB1.trans (hb1.mono hB1.size)
  have hOo1 := hOo.below hb1
  have HI1 := Hid.mk' (impl_begin ja jn jc la ln lc c (some ⟨go, 0, none⟩) mo cpo ops v1 (see_co hC1.see) hbd hOo1.sl hcp hks)
  have HS := Hid.mk' (fun wx (hx : SeeCo wx ja jn jc la ln lc c) (ho : SlO wx (some ⟨go, 0, none⟩) mo ops) => spec_begin ja jn jc la ln lc c (some ⟨go, 0, none⟩) mo cpo ops wx hx hbd ho hks)
  have HTOLD := Hid.mk' (begin_told (c := c) (ops := ops))
  have hRb : BoundCo (beginR c ops).1 ∨ (beginR c ops).2.2 = 0 := by
    rcases HTOLD.out with h | h
    · exact .inr h.1
    · exact .inl h.2.2.2.2.2.1.bound
  generalize beginR c ops = RR at *
  obtain ⟨RC, RW, rt⟩ := RR
  unfold RetB at HI1 HS
  simp only [] at HI1 HS HTOLD hRb
  obtain ⟨a0, a1, a2, a3, a4, a5⟩ := cells6 hC1.box
  rw [← hv1] at a0 a1 a2 a3 a4 a5
  clear hv1 hO1 hF1
  go_wp2_with fail
  rw [HVv1.out]
  refine HI1.out.mono ?_
  rintro e w2 ⟨vs2, F2, gw, mw, capw, qw, rfl, hO2, hW2, hF2, hqw, hb2⟩
  obtain ⟨xja, xjn, xjc, xla, xln, xlc, rfl⟩ := coord_shape hO2
  clear a0 a1 a2 a3 a4 a5 HI1 HVv1 hF2 hqw
  obtain ⟨v2, hv2⟩ : ∃ V, w2.alloc (.cells #[.int .i64 RC.1, .int .i64 RC.2.1, .int .i64 RC.2.2.1, .slice xja xjn xjc, .slice xla xln xlc, .int .i64 RC.2.2.2.2.2] 27) = V := ⟨_, rfl⟩
  have hb2b : Below w2.heap.size w2 v2 := by rw [← hv2]; exact below_make
  have hX2 := inR_new (T := 27) hO2
  rw [hv2] at hX2
  have HVv2 := Hid.mk' hv2
  have hb22 := hb2.trans (hb2b.mono hb2.size)
  have hC2 := hC1.below hb22
  have hOo2 := hOo1.below hb22
  have hWw2 := hW2.below hb2b
  have hBv2 := hBv1.trans (hb22.mono hBv1.size)
  have HS2 := Hid.mk' (HS.out v2 (see_co hC2.see) hOo2.sl)
  obtain ⟨a0, a1, a2, a3, a4, a5⟩ := cells6 hC2.box
  rw [← hv2] at a0 a1 a2 a3 a4 a5
  clear hv2 hO2 HS hW2
  go_wp2_with fail
  rw [HVv2.out]
  refine HS2.out.mono ?_
  rintro e w3 ⟨vs3, F3, gw3, mw3, capw3, qw3, rfl, hO3, hW3, hF3, hqw3, hb3⟩
  obtain ⟨yja, yjn, yjc, yla, yln, ylc, rfl⟩ := coord_shape hO3
  clear a0 a1 a2 a3 a4 a5 HS2 HVv2 hF3 hqw3 hW3
  obtain ⟨v3, hv3⟩ : ∃ V, w3.alloc (.cells #[.int .i64 RC.1, .int .i64 RC.2.1, .int .i64 RC.2.2.1, .slice yja yjn yjc, .slice yla yln ylc, .int .i64 RC.2.2.2.2.2] 27) = V := ⟨_, rfl⟩
  have hb3b : Below w3.heap.size w3 v3 := by rw [← hv3]; exact below_make
  have hY3 := inR_new (T := 27) hO3
  rw [hv3] at hY3
  have HVv3 := Hid.mk' hv3
  have hb33 := hb3.trans (hb3b.mono hb3.size)
  have hC3 := hC2.below hb33
  have hX3 := hX2.below hb33
  have hOo3 := hOo2.below hb33
  have hW3 := hWw2.below hb33
  have hBv3 := hBv2.trans (hb33.mono hBv2.size)
  have hmw := hW3.nlen
  have hrr : (rt != rt) = false := by simp
  have hrq : (rt == rt) = true := by simp
  obtain ⟨a0, a1, a2, a3, a4, a5⟩ := cells6 hC3.box
  obtain ⟨x0, x1, x2, x3, x4, x5⟩ := cells6 hX3.box
  rw [← hv3] at a0 a1 a2 a3 a4 a5 x0 x1 x2 x3 x4 x5
  have HV3 := Hid.mk' hv3
  clear hv3 hO3 hY3 hC1 hC2 hX2 hOo1 hOo2 hWw2 hb2 hb2b hb22 hb3 hb3b hb33 hBv1 hBv2 HVv3
  rcases HTOLD.out with ⟨h0, hw0, hnx⟩ | ⟨h0, hR, hop, hRW, hnx, hRX, hlog, hans⟩
  · have hmw0 : mw = 0 := by rw [hmw, hw0]; rfl
    have hq0 : (rt == 0) = true := beq_iff_eq.2 h0
    have hnn : (RC.2.2.1 == c.2.2.1) = true := beq_iff_eq.2 hnx
    subst hmw0
    clear h0 hw0 hnx hmw HTOLD hRb
    go_wp2_with fail
    rw [HV3.out]
    go_ret
    exact ⟨rfl, hBv3⟩
  have hq0 : (rt == 0) = false := beq_eq_false_iff_ne.2 h0
  have hbR : BoundCo RC := hRb.resolve_right h0
  have hRok := coordOk_iff.2 hRX
  have HSH := Hid.mk' (impl_shardsOf go 0 mo cpo ops c.1 v3 hOo3.sl hks (by omega) hwf.n)
  have hshl : mw = (shardsOf c.1 ops).length := by rw [hmw, hRW, List.length_map]
  have hs8 : (shardsOf c.1 ops).length ≤ 8 := shards_len c.1 ops (by have := hOo3.1; omega)
  have HWR : Hid (∀ k (h1 : k < RW.length) (h2 : k < (shardsOf c.1 ops).length), RW[k] = (1, (shardsOf c.1 ops)[k], rt, opsFor (shardsOf c.1 ops)[k] c.1 ops, false)) := fun k h1 h2 => by
    simp only [hRW, List.getElem_map]
  have HSW : Hid (∀ s ∈ shardsOf c.1 ops, (Lit.int .i64 s).wf = true) := fun s hs => by
    obtain ⟨o, _, rfl⟩ := (shards_mem c.1 ops s).1 hs
    exact shardOf_wf _ _
  have HOF := Hid.mk' (fun s (hs : (Lit.int .i64 s).wf = true) wx (hx : SlO wx (some ⟨go, 0, none⟩) mo ops) => impl_opsFor go 0 mo cpo ops s c.1 wx hx hks (by omega) hwf.n hs)
  have HKX := Hid.mk' (fun wx (hx : SeeCo wx xja xjn xjc xla xln xlc RC) => impl_coordOk xja xjn xjc xla xln xlc RC wx hx hbR.fits)
  rw [hRok] at HKX
  have hpos : 0 < RW.length := by
    rw [hRW, List.length_map]
    obtain ⟨o, ho⟩ : ∃ o, o ∈ ops := ⟨ops[0]'(by have := (opsOk_len hop).1; omega), List.getElem_mem _⟩
    exact List.length_pos_of_mem ((shards_mem c.1 ops (shardOf o.2.1 c.1)).2 ⟨o, ho, rfl⟩)
  have hrtw : (Lit.int .i64 rt).wf = true := by
    obtain ⟨us, Fk, hu, _, _, _⟩ := hW3.open 0 hpos
    obtain ⟨_, _, _, _, _, _, h3, _⟩ := word_parts hu
    rw [HWR.out 0 hpos (by rw [← hshl, hmw]; exact hpos)] at h3
    exact h3
  have HANX := Hid.mk' (fun wx (hx : SeeCo wx xja xjn xjc xla xln xlc RC) => impl_answer xja xjn xjc xla xln xlc RC rt wx hx hbR.fits hrtw)
  have HANS := Hid.mk' hans
  generalize answerR RC rt = ar at *
  obtain ⟨ay, ak⟩ := ar
  have hak : ak = false := HANS.out
  subst hak
  simp only [] at HANX
  have HLOG := Hid.mk' hlog
  have HNX := Hid.mk' hnx
  have hnxw : IntKind.i64.wrap (c.2.2.1 + 1) = c.2.2.1 + 1 := by rw [IntKind.wrap_i64]; have := hR.next; omega
  have hfew := hR.few
  have HSHL := Hid.mk' hshl
  have HMW := Hid.mk' hmw
  have hmw8 : mw ≤ 8 := by omega
  clear hRW hnx hRX hlog hans hRok hRb HTOLD hmw hshl h0 hop hR HANS
  generalize shardsOf c.1 ops = sh at *
  go_wp2_with fail
  rw [HV3.out]
  clear a0 a1 a2 a3 a4 a5 x0 x1 x2 x3 x4 x5 HV3
  refine HSH.out.mono ?_
  rintro e w4 ⟨gs, ns, cs, rfl, hZ, hb4⟩
  have hC4 := hC3.below hb4
  have hX4 := hX3.below hb4
  have hOo4 := hOo3.below hb4
  have hW4 := hW3.below hb4
  have hB4 := hBv3.trans (hb4.mono hBv3.size)
  have hzl := hZ.1
  obtain rfl : ns = mw := by have := HSHL.out; omega
  have hne : ((ns : Int) != (ns : Int)) = false := by simp
  have HK4 := Hid.mk' (HKX.out w4 (see_co hX4.see))
  unfold coV at HK4
  rw [HNX.out] at HK4
  obtain ⟨a0, a1, a2, a3, a4, a5⟩ := cells6 hC4.box
  obtain ⟨x0, x1, x2, x3, x4, x5⟩ := cells6 hX4.box
  have x2' := x2
  rw [HNX.out] at x2'
  have hnn2 : (c.2.2.1 + 1 != c.2.2.1 + 1) = false := by simp
  have HX2e := Hid.mk' (cells6 hX4.box).2.2.1
  clear HSH hC3 hX3 hOo3 hW3 hBv3 HKX hzl
  go_wp2_with fail
  refine HK4.out.mono ?_
  rintro e w5 ⟨rfl, hb5⟩
  have hC5 := hC4.below hb5
  have hX5 := hX4.below hb5
  have hOo5 := hOo4.below hb5
  have hW5 := hW4.below hb5
  have hZ5 := hZ.below hb5
  have hB5 := hB4.trans (hb5.mono hB4.size)
  clear a0 a1 a2 a3 a4 a5 x0 x1 x2 x3 x4 x5 x2' HX2e HK4 hC4 hX4 hOo4 hW4 hZ hB4 hb4 hb5 hne hnn2
  go_wp2_with fail
  go_loopw [12] (fun i wr => ∃ k : Nat, k ≤ ns ∧ i = .int .i64 (k : Int) ∧ Below w5.heap.size w5 wr) (fun i _ => ns - (intOf i).toNat)
  case atStart => exact ⟨0, Nat.zero_le _, rfl, Below.refl _ _⟩
  case round =>
    obtain ⟨k, hk, rfl, hbr⟩ := hrel
    have hCr := hC5.below hbr
    have hXr := hX5.below hbr
    have hOor := hOo5.below hbr
    have hWr := hW5.below hbr
    have hZr := hZ5.below hbr
    have hBr := hB5.trans (hbr.mono hB5.size)
    by_cases hlt : k < ns
    · have hki : (k : Int) < (ns : Int) := by omega
      have hkw : k < RW.length := by rw [← HMW.out]; exact hlt
      have hks' : k < sh.length := by rw [← HSHL.out]; exact hlt
      obtain ⟨oa, ol, oc, c0, c1, c2, c3, c4, hSo, hoc⟩ := word_at hWr.sl k hkw
      simp only [Nat.zero_add] at c0 c1 c2 c3 c4
      have z0 := hZr.at k hks'
      have hsw := HSW.out _ (List.getElem_mem hks')
      rw [HWR.out k hkw hks'] at c0 c1 c2 c4 hSo
      simp only [] at c0 c1 c2 c4 hSo
      generalize sh[k] = s at *
      have HOFr := Hid.mk' (fun wx (hx : Below wr.heap.size wr wx) => HOF.out s hsw wx (hOor.sl.below hx))
      have hdW : Below wr.heap.size wr wr.drew := (Below.refl _ _).drew
      obtain ⟨a0, a1, a2, a3, a4, a5⟩ := cells6 hCr.box
      have hgl := World.block_lt_of_cell? _ _ c0
      have hzl := World.block_lt_of_cell? _ _ z0
      have hal := World.block_lt_of_cell? _ _ a0
      have HC := Hid.mk' (And.intro c0 (And.intro c1 (And.intro c2 (And.intro c3 c4))))
      have HZ0 := Hid.mk' z0
      have HA0 := Hid.mk' a0
      have HSO := Hid.mk' hSo
      clear c0 c1 c2 c3 c4 z0 a0 a1 a2 a3 a4 a5 hSo hoc
      go_wp2_with fail
      refine last.wp_region_later (S := fun w' => Below wr.heap.size wr w') 19 (by kernel_rfl) hdW (fun hHeld0 => ?_)
      generalize hD : wr.drew = D at *
      clear hD
      refine last.wpAnyL_via [2, 3, 18] (i := 0) (v := (.slice (some ⟨gw, 0, none⟩) ns capw)) rfl (by kernel_rfl) (by kernel_rfl) (by kernel_rfl) (by kernel_rfl) (fun _ _ _ h => h) (Or.inl ⟨by rfl, ?_⟩) (by assumption) ?_
      · intro wq hSq; go_simp
      try simp only [Act.put, List.setIfInBounds_toArray, List.set_cons_zero, List.set_cons_succ]
      refine last.wpAnyL_via [2, 3, 18] (i := 1) (v := (.int .i64 (k : Int))) rfl (by kernel_rfl) (by kernel_rfl) (by kernel_rfl) (by kernel_rfl) (fun _ _ _ h => h) (Or.inl ⟨by rfl, ?_⟩) (by assumption) ?_
      · intro wq hSq; go_simp
      try simp only [Act.put, List.setIfInBounds_toArray, List.set_cons_zero, List.set_cons_succ]
      refine last.wpAnyL_via [3, 18] (i := 2) (v := (.pointer (some ⟨gw, k * 5, none⟩))) rfl (by kernel_rfl) (by kernel_rfl) (by kernel_rfl) (by kernel_rfl) (fun _ _ _ h => h) (Or.inl ⟨by rfl, ?_⟩) (by assumption) ?_
      · intro wq hSq; go_simp
      try simp only [Act.put, List.setIfInBounds_toArray, List.set_cons_zero, List.set_cons_succ]
      refine last.wpAnyL_via [18] (i := 3) (v := (.agg #[.int .i64 1, .int .i64 s, .int .i64 rt, .slice oa ol oc, .bool false])) rfl (by kernel_rfl) (by kernel_rfl) (by kernel_rfl) (by kernel_rfl) (fun _ _ _ h => h) (Or.inl ⟨by rfl, ?_⟩) (by assumption) ?_
      · intro wq hSq; have q0 := (hSq.cell (p := ⟨gw, k * 5, none⟩) hgl).trans HC.out.1; have q1 := (hSq.cell (p := ⟨gw, k * 5 + 1, none⟩) hgl).trans HC.out.2.1; have q2 := (hSq.cell (p := ⟨gw, k * 5 + 2, none⟩) hgl).trans HC.out.2.2.1; have q3 := (hSq.cell (p := ⟨gw, k * 5 + 3, none⟩) hgl).trans HC.out.2.2.2.1; have q4 := (hSq.cell (p := ⟨gw, k * 5 + 4, none⟩) hgl).trans HC.out.2.2.2.2; go_simp
      try simp only [Act.put, List.setIfInBounds_toArray, List.set_cons_zero, List.set_cons_succ]
      refine last.wpAnyL_via [6, 7, 17, 18] (i := 4) (v := (.slice (some ⟨gs, 0, none⟩) ns cs)) rfl (by kernel_rfl) (by kernel_rfl) (by kernel_rfl) (by kernel_rfl) (fun _ _ _ h => h) (Or.inl ⟨by rfl, ?_⟩) (by assumption) ?_
      · intro wq hSq; go_simp
      try simp only [Act.put, List.setIfInBounds_toArray, List.set_cons_zero, List.set_cons_succ]
      refine last.wpAnyL_via [6, 7, 17, 18] (i := 5) (v := (.int .i64 (k : Int))) rfl (by kernel_rfl) (by kernel_rfl) (by kernel_rfl) (by kernel_rfl) (fun _ _ _ h => h) (Or.inl ⟨by rfl, ?_⟩) (by assumption) ?_
      · intro wq hSq; go_simp
      try simp only [Act.put, List.setIfInBounds_toArray, List.set_cons_zero, List.set_cons_succ]
      refine last.wpAnyL_via [7, 17, 18] (i := 6) (v := (.pointer (some ⟨gs, k, none⟩))) rfl (by kernel_rfl) (by kernel_rfl) (by kernel_rfl) (by kernel_rfl) (fun _ _ _ h => h) (Or.inl ⟨by rfl, ?_⟩) (by assumption) ?_
      · intro wq hSq; go_simp
      try simp only [Act.put, List.setIfInBounds_toArray, List.set_cons_zero, List.set_cons_succ]
      refine last.wpAnyL_via [17, 18] (i := 7) (v := (.int .i64 s)) rfl (by kernel_rfl) (by kernel_rfl) (by kernel_rfl) (by kernel_rfl) (fun _ _ _ h => h) (Or.inl ⟨by rfl, ?_⟩) (by assumption) ?_
      · intro wq hSq; have q := (hSq.cell (p := ⟨gs, k, none⟩) hzl).trans HZ0.out; go_simp
      try simp only [Act.put, List.setIfInBounds_toArray, List.set_cons_zero, List.set_cons_succ]
      refine last.wpAnyL_via [17, 18] (i := 8) (v := (.int .i64 rt)) rfl (by kernel_rfl) (by kernel_rfl) (by kernel_rfl) (by kernel_rfl) (fun _ _ _ h => h) (Or.inl ⟨by rfl, ?_⟩) (by assumption) ?_
      · intro wq hSq; go_simp
      try simp only [Act.put, List.setIfInBounds_toArray, List.set_cons_zero, List.set_cons_succ]
      refine last.wpAnyL_via [16, 17, 18] (i := 9) (v := (.slice (some ⟨go, 0, none⟩) mo cpo)) rfl (by kernel_rfl) (by kernel_rfl) (by kernel_rfl) (by kernel_rfl) (fun _ _ _ h => h) (Or.inl ⟨by rfl, ?_⟩) (by assumption) ?_
      · intro wq hSq; go_simp
      try simp only [Act.put, List.setIfInBounds_toArray, List.set_cons_zero, List.set_cons_succ]
      refine last.wpAnyL_via [12, 13, 16, 17, 18] (i := 10) (v := (.slice (some ⟨gs, 0, none⟩) ns cs)) rfl (by kernel_rfl) (by kernel_rfl) (by kernel_rfl) (by kernel_rfl) (fun _ _ _ h => h) (Or.inl ⟨by rfl, ?_⟩) (by assumption) ?_
      · intro wq hSq; go_simp
      try simp only [Act.put, List.setIfInBounds_toArray, List.set_cons_zero, List.set_cons_succ]
      refine last.wpAnyL_via [12, 13, 16, 17, 18] (i := 11) (v := (.int .i64 (k : Int))) rfl (by kernel_rfl) (by kernel_rfl) (by kernel_rfl) (by kernel_rfl) (fun _ _ _ h => h) (Or.inl ⟨by rfl, ?_⟩) (by assumption) ?_
      · intro wq hSq; go_simp
      try simp only [Act.put, List.setIfInBounds_toArray, List.set_cons_zero, List.set_cons_succ]
      refine last.wpAnyL_via [13, 16, 17, 18] (i := 12) (v := (.pointer (some ⟨gs, k, none⟩))) rfl (by kernel_rfl) (by kernel_rfl) (by kernel_rfl) (by kernel_rfl) (fun _ _ _ h => h) (Or.inl ⟨by rfl, ?_⟩) (by assumption) ?_
      · intro wq hSq; go_simp
      try simp only [Act.put, List.setIfInBounds_toArray, List.set_cons_zero, List.set_cons_succ]
      refine last.wpAnyL_via [16, 17, 18] (i := 13) (v := (.int .i64 s)) rfl (by kernel_rfl) (by kernel_rfl) (by kernel_rfl) (by kernel_rfl) (fun _ _ _ h => h) (Or.inl ⟨by rfl, ?_⟩) (by assumption) ?_
      · intro wq hSq; have q := (hSq.cell (p := ⟨gs, k, none⟩) hzl).trans HZ0.out; go_simp
      try simp only [Act.put, List.setIfInBounds_toArray, List.set_cons_zero, List.set_cons_succ]
      refine last.wpAnyL_via [15, 16, 17, 18] (i := 14) (v := (.pointer (some ⟨w1.heap.size, 0, none⟩))) rfl (by kernel_rfl) (by kernel_rfl) (by kernel_rfl) (by kernel_rfl) (fun _ _ _ h => h) (Or.inl ⟨by rfl, ?_⟩) (by assumption) ?_
      · intro wq hSq; go_simp
      try simp only [Act.put, List.setIfInBounds_toArray, List.set_cons_zero, List.set_cons_succ]
      refine last.wpAnyL_via [16, 17, 18] (i := 15) (v := (.int .i64 c.1)) rfl (by kernel_rfl) (by kernel_rfl) (by kernel_rfl) (by kernel_rfl) (fun _ _ _ h => h) (Or.inl ⟨by rfl, ?_⟩) (by assumption) ?_
      · intro wq hSq; have q := (hSq.cell (p := ⟨w1.heap.size, 0, none⟩) hal).trans HA0.out; go_simp
      try simp only [Act.put, List.setIfInBounds_toArray, List.set_cons_zero, List.set_cons_succ]
      refine last.wpAnyL_one (i := 16) (o := { dst := some 103, op := Op.call { callee := Callee.value (Operand.func 12), args := #[Operand.tmp 96, Operand.tmp 100, Operand.tmp 102], argTypes := #[28, 3, 3] }, type := 28, pos := "laws.go:678", after := #[{ on := 9, ground := Ground.data }, { on := 13, ground := Ground.data }, { on := 15, ground := Ground.data }], guard := none }) (by kernel_rfl) rfl (fun K hK => ?_)
      refine stepg.call3 rfl 12 (.tmp 96) (.tmp 100) (.tmp 102) _ rfl (fun _ _ => rfl) (.slice (some ⟨go, 0, none⟩) mo cpo) (.int .i64 s) (.int .i64 c.1) (by kernel_rfl) (by kernel_rfl) (by kernel_rfl) _ (HOFr.out _ hdW) ?_
      rintro e w6 ⟨g6, n6, cap6, rfl, hO6, hb6⟩
      refine ⟨_, rfl, ?_⟩
      have hb66 := hdW.trans (hb6.mono hdW.size)
      refine hK.out _ _ ?_ (fun hHeld => ?_)
      · exact hb66
      clear hK K hHeld0
      have hHeld0 := hHeld
      clear hHeld
      try simp only [Act.put, List.setIfInBounds_toArray, List.set_cons_zero, List.set_cons_succ]
      refine last.wpAnyL_via [18] (i := 17) (v := (.agg #[.int .i64 1, .int .i64 s, .int .i64 rt, .slice (some ⟨g6, 0, none⟩) n6 cap6, .bool false])) rfl (by kernel_rfl) (by kernel_rfl) (by kernel_rfl) (by kernel_rfl) (fun _ _ _ h => h) (Or.inl ⟨by rfl, ?_⟩) (by assumption) ?_
      · intro wq hSq; go_simp
      try simp only [Act.put, List.setIfInBounds_toArray, List.set_cons_zero, List.set_cons_succ]
      refine last.wpAnyL_one (i := 18) (o := { dst := some 105, op := Op.call { callee := Callee.value (Operand.func 11), args := #[Operand.tmp 90, Operand.tmp 104], argTypes := #[39, 39] }, type := 4, pos := "laws.go:678", after := #[{ on := 3, ground := Ground.data }, { on := 17, ground := Ground.data }, { on := 16, ground := Ground.chain }], guard := none }) (by kernel_rfl) rfl (fun K hK => ?_)
      refine stepg.call2 rfl 11 (.tmp 90) (.tmp 104) _ rfl (fun _ _ => rfl) (.agg #[.int .i64 1, .int .i64 s, .int .i64 rt, .slice oa ol oc, .bool false]) (.agg #[.int .i64 1, .int .i64 s, .int .i64 rt, .slice (some ⟨g6, 0, none⟩) n6 cap6, .bool false]) (by kernel_rfl) (by kernel_rfl) _ (sameWordT 1 s rt false oa (some ⟨g6, 0, none⟩) ol oc n6 cap6 _ w6 (HSO.out.below hb66) hO6.sl) ?_
      rintro e w7 ⟨rfl, hb7⟩
      refine ⟨_, rfl, ?_⟩
      have hb77 := hb66.trans (hb7.mono hb66.size)
      refine hK.out _ _ ?_ (fun hHeld => ?_)
      · exact hb77
      clear hK K hHeld0
      have hHeld0 := hHeld
      clear hHeld
      try simp only [Act.put, List.setIfInBounds_toArray, List.set_cons_zero, List.set_cons_succ]
      refine last.wpAnyL_last (o := { dst := some 106, op := Op.unOp UnOp.not 4 (Operand.tmp 105), type := 4, pos := "laws.go:678", after := #[{ on := 18, ground := Ground.data }], guard := none }) (by kernel_rfl) rfl (by kernel_rfl) (fun K hK => ?_)
      go_simp
      refine hK.out _ _ ?_
      clear hK K
      go_wp2_with fail
      go_roundw
      case rel => exact ⟨k + 1, by omega, by go_num, hbr.trans (hb77.mono hbr.size)⟩
      case measure => simp [intOf]; omega
    · have hki : ¬ (k : Int) < (ns : Int) := by omega
      have hln : ln = c.2.2.2.2.1.length := (see_co hCr.see).log.1.symm
      have hlnS : ln ≤ 16777216 := by have := hfew; omega
      clear hC5 hX5 hOo5 hW5 hZ5 hB5 hbr hOor hWr hZr
      go_wp2_with fail
      go_loopw [13] (fun i wx => ∃ k : Nat, k ≤ ln ∧ i = .int .i64 (k : Int) ∧ Below wr.heap.size wr wx) (fun i _ => ln - (intOf i).toNat)
      case atStart => exact ⟨0, Nat.zero_le _, rfl, Below.refl _ _⟩
      case round =>
        obtain ⟨j, hj, rfl, hbx⟩ := hrel
        rename World => wx
        have hCx := hCr.below hbx
        have hXx := hXr.below hbx
        have hBx := hBr.trans (hbx.mono hBr.size)
        by_cases hjl : j < ln
        · have hji : (j : Int) < (ln : Int) := by omega
          have hjk : j < c.2.2.2.2.1.length := by rw [← hln]; exact hjl
          obtain ⟨b, off, hla, _⟩ := (see_co hCx.see).log.2.2.2 (by omega)
          subst hla
          obtain ⟨c1, c2⟩ := ch_at (see_co hCx.see).log j hjk
          have hne1 := HLOG.out _ (List.getElem_mem hjk)
          generalize c.2.2.2.2.1[j] = ch at *
          have hq1 : (ch.1 == rt) = false := beq_eq_false_iff_ne.2 hne1
          obtain ⟨a0, a1, a2, a3, a4, a5⟩ := cells6 hCx.box
          clear c2
          go_wp2_with fail
          go_roundw
          case rel => exact ⟨j + 1, by omega, by go_num, hbx⟩
          case measure => simp [intOf]; omega
        · have hji : ¬ (j : Int) < (ln : Int) := by omega
          have HAr := Hid.mk' (HANX.out wx (see_co hXx.see))
          unfold coV at HAr
          rw [HNX.out] at HAr
          obtain ⟨a0, a1, a2, a3, a4, a5⟩ := cells6 hCx.box
          obtain ⟨x0, x1, x2, x3, x4, x5⟩ := cells6 hXx.box
          go_wp2_with fail
          refine HAr.out.mono ?_
          rintro e w9 ⟨rfl, hb9⟩
          clear a0 a1 a2 a3 a4 a5 x0 x1 x2 x3 x4 x5 HAr
          go_wp2_with fail
          go_ret
          exact ⟨rfl, hBx.trans (hb9.mono hBx.size)⟩

theorem own : ownKnob Try.prog.godebug = none := by kernel_rfl
theorem laidOut : laidOutB Try.prog = true := by kernel_rfl

set_option maxRecDepth 100000 in
theorem lifted (os : Os) (started : os.Started) (H : Type) (enc : TypeId × Value → H) :
    ReturnsInHanded {} Try.checked os 3 .any (Rows.fnBeganSpec.pre6 enc Try.prog Try.f3 Rows.fnBeganRow.domain false) (Rows.fnBeganSpec.post enc Try.prog Try.f3 false true false false) := by
  refine returnsInHanded_of_change (C := Try.checked) own started (by kernel_rfl) Try.func3
    (ChangeSpec.witness6 (enc := enc) (C := Try.checked) false ⟨#[], #[.slice none 0 0], []⟩ 8 (by kernel_rfl) (by kernel_rfl) (by kernel_rfl) (by kernel_rfl)) ?_
  intro W base args ds gs before hval0 hW hcnd _
  have hval : ∀ (j : Nat) t v, Try.f3.params[j]? = some t → args[j]? = some v → Value.okWide Try.prog W .any base t v := hval0
  have hW' := hW
  obtain ⟨p, q, hA0, hV, rfl, hfz, hnd⟩ := hW
  have hA : DataW.TrodAll enc Try.prog W 0 (fun _ => true) true Try.f3.params.toList args.toList ds p := hA0
  rw [Try.params3] at hA hval
  obtain ⟨v0, vs0, d0, ds0, p0, q0, hargs, rfl, rfl, h0, r0⟩ := trodAll_cons hA
  obtain ⟨rfl, rfl, rfl⟩ := trodAll_nil r0
  obtain rfl : args = #[v0] := by cases args; simp_all
  obtain ⟨rfl, rfl⟩ := trodVars_none hV
  obtain ⟨a0, len0, cap0, rfl⟩ := okWide_slice Try.underlying22 (hval 0 22 v0 rfl rfl)
  have k0 := h0
  have lt0 : ∀ x ∈ p0, x.block < W.heap.size := by obtain ⟨m, hm⟩ := k0; exact DataW.trod_lt m _ _ _ hm
  obtain ⟨b0, w0⟩ : ∃ bs, Sl W a0 len0 bs := by
    obtain ⟨fuel, hf⟩ := h0
    rcases open_ints Try.underlying22 Try.underlying5 (by kernel_rfl) hf with ⟨hcs, _⟩ | ⟨x, l, c, zs, hcs, _, hl, hm, hz, _, hcell, hwz⟩
    · simp [Value.cells] at hcs
      obtain ⟨rfl, rfl, rfl⟩ := hcs
      exact ⟨[], sl_nil _ _⟩
    · simp [Value.cells] at hcs
      obtain ⟨rfl, rfl, rfl⟩ := hcs
      exact ⟨_, sl_of_ints hl hm (by simpa using hz) hcell hwz⟩
  clear hA0 hval0
  refine (walk a0 len0 cap0 b0 W w0).mono fun e W' ⟨he, bel⟩ => ?_
  subst he
  exact ⟨_, rfl, _, _, _, [], _, [], hW', trodAll_mk1 (shut_bool Try.underlying4 _), (trodAll_cons_mk (Below.trod laidOut (by kernel_rfl) (of_decide_eq_true (by kernel_rfl)) k0 bel lt0) trodAll_mk0), rfl, bel.frame _, fun h => by cases h⟩

theorem over : Rows.fnBeganRow.holds Try.pinned (OpenSpec.ofChange Rows.fnBeganSpec) :=
  OpenClaim.holds_of_wide 3 Try.f3 rfl rfl rfl rfl rfl rfl rfl ⟨rfl, rfl, rfl, rfl, rfl⟩ rfl rfl rfl rfl rfl (by kernel_rfl) Try.func3 (by kernel_rfl)
    (of_decide_eq_true (by kernel_rfl)) (by unfold Func.isWrapper; first | (rw [if_pos (by decide +kernel)]; kernel_rfl) | (rw [if_neg (by decide +kernel)]; exact ⟨rfl, rfl⟩))
    (fun os started H enc _ => lifted os started H enc)

theorem proved : Rows.FnBeganSaid := over
end Go.Proofs.Yteniflajiklffaa.fnBegan
