/- The specification's Vote. -/
import Derived.Test.YtdeaiefhegjalaaGreatBund13k
import Derived.Test.YtdeaiefhegjalaaGreatBund12bf
namespace Go.Proofs.YtdeaiefhegjalaaGreat.cos
open Go Go.RowKit Go.Proofs.YtdeaiefhegjalaaGreat.base Go.Proofs.YtdeaiefhegjalaaGreat.pairs Go.Proofs.YtdeaiefhegjalaaGreat.ords Go.Proofs.YtdeaiefhegjalaaGreat.lay Go.Proofs.YtdeaiefhegjalaaGreat.wds
set_option linter.unusedVariables false
set_option linter.unusedSimpArgs false

def voteR (c : Co) (shard tx : Int) (yes : Bool) : Co := if coordOk c = true then voteS c shard tx yes else c
set_option maxRecDepth 100000 in
set_option maxHeartbeats 1000000 in
theorem spec_vote (ja : Option Addr) (jn jc : Nat) (la : Option Addr) (ln lc : Nat) (c : Co) (shard tx : Int) (yes : Bool) (w : World) (h : SeeCo w ja jn jc la ln lc c) (hbd : BoundCo c) (hsw : (Lit.int .i64 shard).wf = true) (htw : (Lit.int .i64 tx).wf = true) :
    Calls Tryz.prog 19 #[coV c.1 c.2.1 c.2.2.1 c.2.2.2.2.2 ja jn jc la ln lc, .int .i64 shard, .int .i64 tx, .bool yes] w (RetR coordR w (voteR c shard tx yes)) := by
  have hwf := h.wf
  have hl8 := hbd.log
  obtain ⟨W, hW⟩ : ∃ W, (w.alloc (.cells #[.int .i64 c.1, .int .i64 c.2.1, .int .i64 c.2.2.1, .slice ja jn jc, .slice la ln lc, .int .i64 c.2.2.2.2.2] 33)).alloc (.cells #[.int .i64 0, .int .i64 0, .int .i64 0, .slice none 0 0, .slice none 0 0, .int .i64 0] 33) = W := ⟨_, rfl⟩
  have hB : Below w.heap.size w W := by rw [← hW]; exact ((Below.refl _ _).alloc (Nat.le_refl _) _).alloc (by simp) _
  have hA : BoxIn w.heap.size 33 [] [.int .i64 c.1, .int .i64 c.2.1, .int .i64 c.2.2.1, .slice ja jn jc, .slice la ln lc, .int .i64 c.2.2.2.2.2] [] W := by rw [← hW]; exact (boxIn_new w _ _).below below_make
  have hR : BoxIn (w.heap.size + 1) 33 [] [.int .i64 0, .int .i64 0, .int .i64 0, .slice none 0 0, .slice none 0 0, .int .i64 0] [] W := by
    rw [← hW]
    have := boxIn_new (w.alloc (.cells #[.int .i64 c.1, .int .i64 c.2.1, .int .i64 c.2.2.1, .slice ja jn jc, .slice la ln lc, .int .i64 c.2.2.2.2.2] 33)) [.int .i64 0, .int .i64 0, .int .i64 0, .slice none 0 0, .slice none 0 0, .int .i64 0] 33
    rwa [show (w.alloc (.cells #[.int .i64 c.1, .int .i64 c.2.1, .int .i64 c.2.2.1, .slice ja jn jc, .slice la ln lc, .int .i64 c.2.2.2.2.2] 33)).heap.size = w.heap.size + 1 by simp] at this
  have hRl := hR.lt
  have HOC : Hid (Calls Tryz.prog 32 #[coV c.1 c.2.1 c.2.2.1 c.2.2.2.2.2 ja jn jc la ln lc] W (RetR coordR W c)) := (spec_copy ja jn jc la ln lc c W (h.below hB) hbd.fits hbd.yes).mono fun e w' hp => copy_ret hwf hp
  have HCK := Hid.mk' (fun wx (hx : Below w.heap.size w wx) => spec_coordOk ja jn jc la ln lc c wx (h.below hx) hbd.fits)
  have HW := Hid.mk' hW
  obtain ⟨a0, a1, a2, a3, a4, a5⟩ := cells6 hA
  rw [← hW] at a0 a1 a2 a3 a4 a5
  clear hW h
  go_enter Tryz.func19, Tryz.ntmps19
  go_wp2_with fail
  rw [HW.out]
  refine HOC.out.mono ?_
  rintro e w1 ⟨vs, F, rfl, hO, hF, hb1⟩
  obtain ⟨xja, xjn, xjc, xla, xln, xlc, rfl⟩ := coord_shape hO
  have hB1 := hB.trans (hb1.mono hB.size)
  obtain ⟨V, hV⟩ : ∃ V, w1.alloc (.cells #[.int .i64 c.1, .int .i64 c.2.1, .int .i64 c.2.2.1, .slice xja xjn xjc, .slice xla xln xlc, .int .i64 c.2.2.2.2.2] 33) = V := ⟨_, rfl⟩
  have hbv : Below w1.heap.size w1 V := by rw [← hV]; exact below_make
  have hBV := hB1.trans (hbv.mono hB1.size)
  have hX := inR_new (T := 33) hO
  rw [hV] at hX
  have hRV := (hR.below hb1).below hbv
  have hw1 := hb1.size
  have HOK := Hid.mk' (HCK.out V hBV)
  have HV := Hid.mk' hV
  clear a0 a1 a2 a3 a4 a5 HOC HCK hO
  obtain ⟨a0, a1, a2, a3, a4, a5⟩ := cells6 ((hA.below hb1).below hbv)
  rw [← hV] at a0 a1 a2 a3 a4 a5
  clear hV
  cases hok : coordOk c
  · rw [hok] at HOK
    have HE : Hid (voteR c shard tx yes = c) := by show _ = _; unfold voteR; rw [if_neg (by rw [hok]; decide)]
    clear hok
    go_wp2_with fail
    rw [HV.out]
    refine HOK.out.mono ?_
    rintro e w2 ⟨rfl, hb2⟩
    have hR2 := hRV.below hb2
    have hX2 := hX.below hb2
    have hB2 := hBV.trans (hb2.mono hBV.size)
    clear a0 a1 a2 a3 a4 a5
    obtain ⟨q0, q1, q2, q3, q4, q5⟩ := cells6 hX2.box
    obtain ⟨z0, z1, z2, z3, z4, z5⟩ := cells6 hR2
    have f0 := hR2.fz 0
    have f1 := hR2.fz 1
    have f2 := hR2.fz 2
    have f3 := hR2.fz 3
    have f4 := hR2.fz 4
    have f5 := hR2.fz 5
    have hS := hR2.whole [.int .i64 c.1, .int .i64 c.2.1, .int .i64 c.2.2.1, .slice xja xjn xjc, .slice xla xln xlc, .int .i64 c.2.2.2.2.2] rfl
    obtain ⟨y0, y1, y2, y3, y4, y5⟩ := cells6 hS.1
    simp only [putAll, Nat.zero_add, Nat.reduceAdd] at y0 y1 y2 y3 y4 y5
    have hO2 := coordR.ownGrown hX2.own hS.2 (fun b hb e => by have := hF b hb; cases e; omega)
    have hBz := hB2.grown hS.2 hB2.size (fun j e => by cases e; omega)
    have hFN : ∀ b ∈ _, w.heap.size ≤ b := fun b hb => by have := hF b hb; have := hB.size; omega
    have HRET := Hid.mk' (show RetR coordR w (voteR c shard tx yes) (.returned (.agg #[.int .i64 c.1, .int .i64 c.2.1, .int .i64 c.2.2.1, .slice xja xjn xjc, .slice xla xln xlc, .int .i64 c.2.2.2.2.2])) _ from by rw [HE.out]; exact ⟨_, _, rfl, hO2, hFN, hBz⟩)
    clear hO2 hS hBz hFN
    go_wp2_with fail
    refine bodyPost_ret (v := .agg #[.int .i64 c.1, .int .i64 c.2.1, .int .i64 c.2.2.1, .slice xja xjn xjc, .slice xla xln xlc, .int .i64 c.2.2.2.2.2]) ?_ rfl HRET.out
    simp [results, Tryz.results19, go_sem, y0, y1, y2, y3, y4, y5]
  · rw [hok] at HOK
    have HE : Hid (voteR c shard tx yes = voteS c shard tx yes) := by show _ = _; unfold voteR; rw [if_pos hok]
    have hR0 := coordOk_iff.1 hok
    have HCR := Hid.mk' (fun wx (hx : InR coordR 33 wx w1.heap.size [.int .i64 c.1, .int .i64 c.2.1, .int .i64 c.2.2.1, .slice xja xjn xjc, .slice xla xln xlc, .int .i64 c.2.2.2.2.2] c F) => spec_l11Vote w1.heap.size 33 [] [] xja xjn xjc xla xln xlc c F shard tx yes wx ⟨hx.box, hx.own, hx.out⟩ hR0 hsw htw hbd.jobs)
    generalize voteS c shard tx yes = R at *
    clear hok hR0
    go_wp2_with fail
    rw [HV.out]
    refine HOK.out.mono ?_
    rintro e w2 ⟨rfl, hb2⟩
    have hR2 := hRV.below hb2
    have hX2 := hX.below hb2
    have hB2 := hBV.trans (hb2.mono hBV.size)
    have HC2 := Hid.mk' (HCR.out w2 hX2)
    have hXlt := hX2.lt
    have hFl2 := coordR.ownLt hX2.own
    clear a0 a1 a2 a3 a4 a5 HCR
    go_wp2_with fail
    refine HC2.out.mono ?_
    rintro e w3 ⟨rfl, yja, yjn, yjc, yla, yln, ylc, F3, hI3, hf3, hfr3⟩
    have hR3 := hR2.frame hf3 (fun e => by
      rcases List.mem_cons.1 e with e | e
      · omega
      · have := hF _ e; omega)
    have hb1s := hB1.size
    have hF3 : ∀ b ∈ F3, W.heap.size ≤ b := fun b hb => by
      have h2 := hb2.size
      have h3 := hbv.size
      rcases hfr3 b hb with e | e
      · exact hF b e
      · omega
    have hB3 : Below w.heap.size w w3 := hB2.trans (hf3.bel hB2.size fun b hb => by
      have := hB.size
      rcases List.mem_cons.1 hb with e | e
      · omega
      · have := hF b e; omega)
    clear HC2
    obtain ⟨q0, q1, q2, q3, q4, q5⟩ := cells6 hI3.box
    obtain ⟨z0, z1, z2, z3, z4, z5⟩ := cells6 hR3
    have f0 := hR3.fz 0
    have f1 := hR3.fz 1
    have f2 := hR3.fz 2
    have f3 := hR3.fz 3
    have f4 := hR3.fz 4
    have f5 := hR3.fz 5
    have hS := hR3.whole [.int .i64 R.1, .int .i64 R.2.1, .int .i64 R.2.2.1, .slice yja yjn yjc, .slice yla yln ylc, .int .i64 R.2.2.2.2.2] rfl
    obtain ⟨y0, y1, y2, y3, y4, y5⟩ := cells6 hS.1
    simp only [putAll, Nat.zero_add, Nat.reduceAdd] at y0 y1 y2 y3 y4 y5
    have hO2 := coordR.ownGrown hI3.own hS.2 (fun b hb e => by have := hF3 b hb; cases e; omega)
    have hBz := hB3.grown hS.2 hB3.size (fun j e => by cases e; omega)
    have hFN : ∀ b ∈ _, w.heap.size ≤ b := fun b hb => by have := hF3 b hb; have := hB.size; omega
    have HRET := Hid.mk' (show RetR coordR w (voteR c shard tx yes) (.returned (.agg #[.int .i64 R.1, .int .i64 R.2.1, .int .i64 R.2.2.1, .slice yja yjn yjc, .slice yla yln ylc, .int .i64 R.2.2.2.2.2])) _ from by rw [HE.out]; exact ⟨_, _, rfl, hO2, hFN, hBz⟩)
    clear hO2 hS hBz hFN
    go_wp2_with fail
    refine bodyPost_ret (v := .agg #[.int .i64 R.1, .int .i64 R.2.1, .int .i64 R.2.2.1, .slice yja yjn yjc, .slice yla yln ylc, .int .i64 R.2.2.2.2.2]) ?_ rfl HRET.out
    simp [results, Tryz.results19, go_sem, y0, y1, y2, y3, y4, y5]
end Go.Proofs.YtdeaiefhegjalaaGreat.cos
