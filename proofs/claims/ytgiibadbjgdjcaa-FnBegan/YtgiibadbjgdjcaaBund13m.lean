/- The specification's Begin. -/
import Derived.Test.YtgiibadbjgdjcaaBund13j
import Derived.Test.YtgiibadbjgdjcaaBund12bf
namespace Go.Proofs.Ytgiibadbjgdjcaa.cos
open Go Go.RowKit Go.Proofs.Ytgiibadbjgdjcaa.base Go.Proofs.Ytgiibadbjgdjcaa.pairs Go.Proofs.Ytgiibadbjgdjcaa.ords Go.Proofs.Ytgiibadbjgdjcaa.lay Go.Proofs.Ytgiibadbjgdjcaa.wds
set_option linter.unusedVariables false
set_option linter.unusedSimpArgs false

def beginR (c : Co) (ops : List Od) : Co × List Wd × Int := if coordOk c = true then beginS c ops else (c, [], 0)
/-- one who decides, words and a number: all new, each apart from the other -/
def RetB (w : World) (r : Co × List Wd × Int) (e : Ending) (w' : World) : Prop := ∃ vs F g m cap q, e = .returned (.tuple #[.agg vs.toArray, .slice (some ⟨g, 0, none⟩) m cap, .int .i64 r.2.2]) ∧ coordR.own w' vs r.1 F ∧ OwnG 39 wordR w' (.slice (some ⟨g, 0, none⟩) m cap) r.2.1 q ∧ (∀ k ∈ F, w.heap.size ≤ k) ∧ (∀ k ∈ g :: blocksOf q, w.heap.size ≤ k ∧ k ∉ F) ∧ Below w.heap.size w w'
set_option maxRecDepth 100000 in
set_option maxHeartbeats 1000000 in
theorem spec_begin (ja : Option Addr) (jn jc : Nat) (la : Option Addr) (ln lc : Nat) (c : Co) (a : Option Addr) (len cap : Nat) (ops : List Od) (w : World) (h : SeeCo w ja jn jc la ln lc c) (hbd : BoundCo c) (hSo : SlO w a len ops) (hks : ∀ p ∈ ops, p.2.1.size ≤ 1099511627776) :
    Calls Try.prog 11 #[coV c.1 c.2.1 c.2.2.1 c.2.2.2.2.2 ja jn jc la ln lc, .slice a len cap] w (RetB w (beginR c ops)) := by
  have hwf := h.wf
  have hl8 := hbd.log
  obtain ⟨W, hW⟩ : ∃ W, (w.alloc (.cells #[.int .i64 c.1, .int .i64 c.2.1, .int .i64 c.2.2.1, .slice ja jn jc, .slice la ln lc, .int .i64 c.2.2.2.2.2] 27)).alloc (.cells #[.int .i64 0, .int .i64 0, .int .i64 0, .slice none 0 0, .slice none 0 0, .int .i64 0] 27) = W := ⟨_, rfl⟩
  have hB : Below w.heap.size w W := by rw [← hW]; exact ((Below.refl _ _).alloc (Nat.le_refl _) _).alloc (by simp) _
  have hA : BoxIn w.heap.size 27 [] [.int .i64 c.1, .int .i64 c.2.1, .int .i64 c.2.2.1, .slice ja jn jc, .slice la ln lc, .int .i64 c.2.2.2.2.2] [] W := by rw [← hW]; exact (boxIn_new w _ _).below below_make
  have hR : BoxIn (w.heap.size + 1) 27 [] [.int .i64 0, .int .i64 0, .int .i64 0, .slice none 0 0, .slice none 0 0, .int .i64 0] [] W := by
    rw [← hW]
    have := boxIn_new (w.alloc (.cells #[.int .i64 c.1, .int .i64 c.2.1, .int .i64 c.2.2.1, .slice ja jn jc, .slice la ln lc, .int .i64 c.2.2.2.2.2] 27)) [.int .i64 0, .int .i64 0, .int .i64 0, .slice none 0 0, .slice none 0 0, .int .i64 0] 27
    rwa [show (w.alloc (.cells #[.int .i64 c.1, .int .i64 c.2.1, .int .i64 c.2.2.1, .slice ja jn jc, .slice la ln lc, .int .i64 c.2.2.2.2.2] 27)).heap.size = w.heap.size + 1 by simp] at this
  have hRl := hR.lt
  have HOC : Hid (Calls Try.prog 39 #[coV c.1 c.2.1 c.2.2.1 c.2.2.2.2.2 ja jn jc la ln lc] W (RetR coordR W c)) := (spec_copy ja jn jc la ln lc c W (h.below hB) hbd.fits hbd.yes).mono fun e w' hp => copy_ret hwf hp
  have HCK := Hid.mk' (fun wx (hx : Below w.heap.size w wx) => spec_coordOk ja jn jc la ln lc c wx (h.below hx) hbd.fits)
  have HW := Hid.mk' hW
  obtain ⟨a0, a1, a2, a3, a4, a5⟩ := cells6 hA
  rw [← hW] at a0 a1 a2 a3 a4 a5
  clear hW h
  go_enter Try.func11, Try.ntmps11
  go_wp2_with fail
  rw [HW.out]
  refine HOC.out.mono ?_
  rintro e w1 ⟨vs, F, rfl, hO, hF, hb1⟩
  obtain ⟨xja, xjn, xjc, xla, xln, xlc, rfl⟩ := coord_shape hO
  have hB1 := hB.trans (hb1.mono hB.size)
  obtain ⟨V, hV⟩ : ∃ V, w1.alloc (.cells #[.int .i64 c.1, .int .i64 c.2.1, .int .i64 c.2.2.1, .slice xja xjn xjc, .slice xla xln xlc, .int .i64 c.2.2.2.2.2] 27) = V := ⟨_, rfl⟩
  have hbv : Below w1.heap.size w1 V := by rw [← hV]; exact below_make
  have hBV := hB1.trans (hbv.mono hB1.size)
  have hX := inR_new (T := 27) hO
  rw [hV] at hX
  have hRV := (hR.below hb1).below hbv
  have hw1 := hb1.size
  have HOK := Hid.mk' (HCK.out V hBV)
  have HV := Hid.mk' hV
  clear a0 a1 a2 a3 a4 a5 HOC HCK hO
  obtain ⟨a0, a1, a2, a3, a4, a5⟩ := cells6 ((hA.below hb1).below hbv)
  rw [← hV] at a0 a1 a2 a3 a4 a5
  clear hV
  cases hok : coordOk c
  · rw [hok] at HOK
    have HE : Hid (beginR c ops = (c, [], 0)) := by show _ = _; unfold beginR; rw [if_neg (by rw [hok]; decide)]
    clear hok
    go_wp2_with fail
    rw [HV.out]
    refine HOK.out.mono ?_
    rintro e w2 ⟨rfl, hb2⟩
    have hR2 := hRV.below hb2
    have hX2 := hX.below hb2
    have hB2 := hBV.trans (hb2.mono hBV.size)
    have hXlt := hX2.lt
    clear a0 a1 a2 a3 a4 a5
    obtain ⟨q0, q1, q2, q3, q4, q5⟩ := cells6 hX2.box
    have hbm : Below w2.heap.size w2 (w2.alloc (.cells #[] 39)) := below_make
    have hRa := hR2.below hbm
    have hXa := hX2.below hbm
    have hBa := hB2.trans (hbm.mono hB2.size)
    have hFl := coordR.ownLt hX2.own
    have hom := lay.ownG_made 39 wordR w2
    have hB2s := hB2.size
    obtain ⟨z0, z1, z2, z3, z4, z5⟩ := cells6 hRa
    have f0 := hRa.fz 0
    have f1 := hRa.fz 1
    have f2 := hRa.fz 2
    have f3 := hRa.fz 3
    have f4 := hRa.fz 4
    have f5 := hRa.fz 5
    have hS := hRa.whole [.int .i64 c.1, .int .i64 c.2.1, .int .i64 c.2.2.1, .slice xja xjn xjc, .slice xla xln xlc, .int .i64 c.2.2.2.2.2] rfl
    obtain ⟨y0, y1, y2, y3, y4, y5⟩ := cells6 hS.1
    have hO2 := coordR.ownGrown hXa.own hS.2 (fun b hb e => by have := hF b hb; cases e; omega)
    have hWk := hom.keep fun k hk => hS.2.block k (hom.at_ k hk) (fun e => by
      have h1 : k = w2.heap.size := by simpa [Value.ownBlock, blocksOf] using hk
      have h2 := Option.some.inj e
      omega)
    have hBz := hBa.grown hS.2 hBa.size (fun j e => by cases e; omega)
    have hFN : ∀ b ∈ F, w.heap.size ≤ b := fun b hb => by have := hF b hb; have := hB.size; omega
    have HRET : Hid (RetB w (beginR c ops) (.returned (.tuple #[.agg #[.int .i64 c.1, .int .i64 c.2.1, .int .i64 c.2.2.1, .slice xja xjn xjc, .slice xla xln xlc, .int .i64 c.2.2.2.2.2], .slice (some ⟨w2.heap.size, 0, none⟩) 0 0, .int .i64 0])) (putAll (w2.alloc (.cells #[] 39)) (w.heap.size + 1) 0 [.int .i64 c.1, .int .i64 c.2.1, .int .i64 c.2.2.1, .slice xja xjn xjc, .slice xla xln xlc, .int .i64 c.2.2.2.2.2])) := by
      show RetB _ _ _ _
      rw [HE.out]
      refine ⟨_, F, w2.heap.size, 0, 0, [], rfl, hO2, hWk, hFN, fun k hk => ?_, hBz⟩
      have e : k = w2.heap.size := by simpa [blocksOf] using hk
      exact ⟨by omega, fun hm => by have := hFl k hm; omega⟩
    simp only [putAll, Nat.zero_add, Nat.reduceAdd] at y0 y1 y2 y3 y4 y5 HRET
    have HY := Hid.mk' (And.intro y0 (And.intro y1 (And.intro y2 (And.intro y3 (And.intro y4 y5)))))
    clear hO2 hS hBz hFN hWk hom hXa hBa hRa HE y0 y1 y2 y3 y4 y5
    go_wp2_with fail
    obtain ⟨y0, y1, y2, y3, y4, y5⟩ := HY.out
    refine bodyPost_ret (v := .tuple #[.agg #[.int .i64 c.1, .int .i64 c.2.1, .int .i64 c.2.2.1, .slice xja xjn xjc, .slice xla xln xlc, .int .i64 c.2.2.2.2.2], .slice (some ⟨w2.heap.size, 0, none⟩) 0 0, .int .i64 0]) ?_ rfl HRET.out
    simp [results, Try.results11, go_sem, y0, y1, y2, y3, y4, y5]
  · rw [hok] at HOK
    have HE : Hid (beginR c ops = beginS c ops) := by show _ = _; unfold beginR; rw [if_pos hok]
    have hhd := coordOk_head hok
    have HCR := Hid.mk' (fun wx (hx : InR coordR 27 wx w1.heap.size [.int .i64 c.1, .int .i64 c.2.1, .int .i64 c.2.2.1, .slice xja xjn xjc, .slice xla xln xlc, .int .i64 c.2.2.2.2.2] c F) (hw : Below w.heap.size w wx) => spec_l11Begin w1.heap.size 27 [] [] xja xjn xjc xla xln xlc c F a len cap ops wx ⟨hx.box, hx.own, hx.out⟩ (fun w' hf => hSo.below (hw.trans (hf.bel hw.size (fun k hk => by
      have := hB1.size
      have := hB.size
      rcases List.mem_cons.1 hk with e | e
      · omega
      · have := hF k e; omega)))) hks hhd.2.1 hhd.2.2.1 hbd.jobs hbd.log)
    generalize beginS c ops = R at *
    obtain ⟨R, words, tx⟩ := R
    clear hok hhd
    go_wp2_with fail
    rw [HV.out]
    refine HOK.out.mono ?_
    rintro e w2 ⟨rfl, hb2⟩
    have hR2 := hRV.below hb2
    have hX2 := hX.below hb2
    have hB2 := hBV.trans (hb2.mono hBV.size)
    have HC2 := Hid.mk' (HCR.out w2 hX2 hB2)
    have hXlt := hX2.lt
    have hFl2 := coordR.ownLt hX2.own
    clear a0 a1 a2 a3 a4 a5 HCR
    go_wp2_with fail
    refine HC2.out.mono ?_
    rintro e w3 ⟨gw, mw, capw, qw, yja, yjn, yjc, yla, yln, ylc, F3, rfl, hW3, hqw, hI3, hf3, hfr3⟩
    have hR3 := hR2.frame hf3 (fun e => by
      rcases List.mem_cons.1 e with e | e
      · omega
      · have := hF _ e; omega)
    have hb1s := hB1.size
    have hB2s := hB2.size
    have hF3 : ∀ b ∈ F3, W.heap.size ≤ b := fun b hb => by
      have h2 := hb2.size
      have h3 := hbv.size
      rcases hfr3 b hb with e | e
      · exact hF b e
      · omega
    have hB3 : Below w.heap.size w w3 := hB2.trans (hf3.bel hB2.size fun b hb => by
      have := hB.size
      rcases List.mem_cons.1 hb with e | e
      · omega
      · have := hF b e; omega)
    clear HC2
    simp only [] at hI3 hW3
    obtain ⟨q0, q1, q2, q3, q4, q5⟩ := cells6 hI3.box
    obtain ⟨z0, z1, z2, z3, z4, z5⟩ := cells6 hR3
    have f0 := hR3.fz 0
    have f1 := hR3.fz 1
    have f2 := hR3.fz 2
    have f3 := hR3.fz 3
    have f4 := hR3.fz 4
    have f5 := hR3.fz 5
    have hS := hR3.whole [.int .i64 R.1, .int .i64 R.2.1, .int .i64 R.2.2.1, .slice yja yjn yjc, .slice yla yln ylc, .int .i64 R.2.2.2.2.2] rfl
    obtain ⟨y0, y1, y2, y3, y4, y5⟩ := cells6 hS.1
    simp only [putAll, Nat.zero_add, Nat.reduceAdd] at y0 y1 y2 y3 y4 y5
    have hO2 := coordR.ownGrown hI3.own hS.2 (fun b hb e => by have := hF3 b hb; cases e; omega)
    have hW4 := hW3.keep fun k hk => hS.2.block k (hW3.at_ k hk) (fun e => by
      have h1 := (hqw k (by simpa [Value.ownBlock] using hk)).1
      have h2 := Option.some.inj e
      have := hb2.size
      have := hbv.size
      omega)
    have hBz := hB3.grown hS.2 hB3.size (fun j e => by cases e; omega)
    have hFN : ∀ b ∈ F3, w.heap.size ≤ b := fun b hb => by have := hF3 b hb; have := hB.size; omega
    have HRET : Hid (RetB w (beginR c ops) (.returned (.tuple #[.agg #[.int .i64 R.1, .int .i64 R.2.1, .int .i64 R.2.2.1, .slice yja yjn yjc, .slice yla yln ylc, .int .i64 R.2.2.2.2.2], .slice (some ⟨gw, 0, none⟩) mw capw, .int .i64 tx])) (putAll w3 (w.heap.size + 1) 0 [.int .i64 R.1, .int .i64 R.2.1, .int .i64 R.2.2.1, .slice yja yjn yjc, .slice yla yln ylc, .int .i64 R.2.2.2.2.2])) := by
      show RetB _ _ _ _
      rw [HE.out]
      exact ⟨_, F3, gw, mw, capw, qw, rfl, hO2, hW4, hFN, fun k hk => ⟨by have := (hqw k hk).1; omega, (hqw k hk).2⟩, hBz⟩
    simp only [putAll, Nat.zero_add, Nat.reduceAdd] at HRET
    clear hO2 hS hBz hFN hW3 hW4 HE
    go_wp2_with fail
    refine bodyPost_ret (v := .tuple #[.agg #[.int .i64 R.1, .int .i64 R.2.1, .int .i64 R.2.2.1, .slice yja yjn yjc, .slice yla yln ylc, .int .i64 R.2.2.2.2.2], .slice (some ⟨gw, 0, none⟩) mw capw, .int .i64 tx]) ?_ rfl HRET.out
    simp [results, Try.results11, go_sem, y0, y1, y2, y3, y4, y5]
end Go.Proofs.Ytgiibadbjgdjcaa.cos
