/- The draws of those who decide, as the laws call them. Codes that are too long. The program's one who decides: all choices sure. The program's Begin. Two words that are alike: sameWord answers true. The laws' helpers for rows of words: alike. The laws' marks on those who decide. The laws' marks on rows of words: whether they are held. The laws' marks on rows of words. -/
import Derived.Test.YteniflajiklffaaShat
import Derived.Test.YteniflajiklffaaShaa
import Derived.Test.YteniflajiklffaaShak
import Derived.Deep.RegionHeldLaw
import Derived.Test.YteniflajiklffaaShap
import Derived.Test.YteniflajiklffaaSham
import Derived.Test.YteniflajiklffaaShaj
import Derived.Test.YteniflajiklffaaShag
import Derived.Test.YteniflajiklffaaShal
import Derived.Test.YteniflajiklffaaShao
namespace Go.Proofs.Yteniflajiklffaa.cos
open Go Go.RowKit Go.Proofs.Yteniflajiklffaa.base Go.Proofs.Yteniflajiklffaa.pairs Go.Proofs.Yteniflajiklffaa.ords Go.Proofs.Yteniflajiklffaa.lay Go.Proofs.Yteniflajiklffaa.wds Go.Proofs.Yteniflajiklffaa.draw
set_option linter.unusedVariables false
set_option linter.unusedSimpArgs false

def GotC (P : Co → Prop) (w : World) (v : Value → Value) (e : Ending) (w' : World) : Prop :=
  ∃ (ja : Option Addr) (jn jc : Nat) (la : Option Addr) (ln lc : Nat) (c : Co) (F : List Nat), P c ∧ e = .returned (v (.agg #[.int .i64 c.1, .int .i64 c.2.1, .int .i64 c.2.2.1, .slice ja jn jc, .slice la ln lc, .int .i64 c.2.2.2.2.2])) ∧ coordR.own w' [.int .i64 c.1, .int .i64 c.2.1, .int .i64 c.2.2.1, .slice ja jn jc, .slice la ln lc, .int .i64 c.2.2.2.2.2] c F ∧ (∀ k ∈ F, w.heap.size ≤ k) ∧ Below w.heap.size w w'
set_option maxRecDepth 100000 in
set_option maxHeartbeats 4000000 in
theorem drawBegin (a : Option Addr) (len cap : Nat) (code : List UInt8) (w : World) (h : Sl w a len code) (hln : len ≤ 1099511627776) :
    Calls Try.prog 6 #[.slice a len cap] w (fun e w' => ∃ (go m cp : Nat) (l : List Od), m ≤ 8 ∧ (∀ p ∈ l, tinyO p) ∧ OwnO w' w.heap.size go m cp l ∧ GotC (fun c => csz c ≤ 400000) w (fun v => .tuple #[v, .slice (some ⟨go, 0, none⟩) m cp]) e w') := by
  obtain ⟨W, hW⟩ : ∃ W, w.alloc (.cells #[.int .i64 0, .int .i64 0, .int .i64 0, .slice none 0 0, .slice none 0 0, .int .i64 0] 27) = W := ⟨_, rfl⟩
  have hB : Below w.heap.size w W := by rw [← hW]; exact below_make
  have hR : BoxIn w.heap.size TCo [] [.int .i64 0, .int .i64 0, .int .i64 0, .slice none 0 0, .slice none 0 0, .int .i64 0] [] W := by rw [← hW]; exact boxIn_new w _ _
  have hXl := hR.lt
  have HW := Hid.mk' hW
  clear hW
  go_enter Try.func6, Try.ntmps6
  go_wp2_with fail
  rw [HW.out]
  refine (new_ w W a len cap code h hB hln).mono ?_
  rintro e w1 ⟨rfl, hc1, hb1⟩
  have hR1 := hR.below hb1
  have hB1 := hB.trans (hb1.mono hB.size)
  have hgc := hc1.lt
  clear HW
  go_wp2_with fail
  refine (sizeC a len cap 16 w1 (by omega) (by omega) hln).mono ?_
  rintro e w2 ⟨n, hn3, hn24, rfl, hw2⟩
  subst hw2
  have HDS := Hid.mk' (d_anyC w w2 W.heap.size a len cap code n hc1 (by omega) (by omega))
  go_wp2_with fail
  refine HDS.out.mono ?_
  rintro e w3 ⟨ja, jn, jc, la, ln, lc, c, F, hD, rfl, hOS, hFn, hc3, hg3⟩
  clear HDS
  have hR3 := hR1.grown hg3 (fun e => by have := Option.some.inj e; omega)
  have hB3 : Below w.heap.size w w3 := hB1.grown hg3 hB1.size (fun k e => by cases e; exact hB.size)
  have hs2 := hB1.size
  have hs1 := hb1.size
  have hs0 := hB.size
  have hs3 := hg3.size
  have HAN := Hid.mk' (d_anyO w w3 W.heap.size a len cap code hc3)
  clear hR1 hR hc1 hB1 hb1
  go_wp2_with fail
  refine HAN.out.mono ?_
  rintro e w5 ⟨go, m, cp, l, hm, htt, rfl, hOo, hc5, hg5⟩
  have hR5 := hR3.grown hg5 (fun e => by have := Option.some.inj e; omega)
  have hB5 : Below w.heap.size w w5 := hB3.grown hg5 hB3.size (fun k e => by cases e; exact hB.size)
  have hFl3 := coordR.ownLt hOS
  have hO5 := coordR.ownGrown hOS hg5 (fun j hj e => by have := hFn j hj; have := Option.some.inj e; omega)
  have hol := hOo.lt
  clear HAN hR3 hB3 hOS hc3 hg3 hc5 hg5
  obtain ⟨z0, z1, z2, z3, z4, z5⟩ := cells6 hR5
  have f0 := hR5.fz 0
  have f1 := hR5.fz 1
  have f2 := hR5.fz 2
  have f3 := hR5.fz 3
  have f4 := hR5.fz 4
  have f5 := hR5.fz 5
  have hS := hR5.whole [.int .i64 c.1, .int .i64 c.2.1, .int .i64 c.2.2.1, .slice ja jn jc, .slice la ln lc, .int .i64 c.2.2.2.2.2] rfl
  obtain ⟨y0, y1, y2, y3, y4, y5⟩ := cells6 hS.1
  have hOz := coordR.ownGrown hO5 hS.2 (fun j hj e => by have := hFn j hj; have := Option.some.inj e; omega)
  have hBz := hB5.grown hS.2 hB5.size (fun j e => by cases e; exact Nat.le_refl _)
  have hOoz := (hOo.grown hS.2 (by simp; omega)).mono (base' := w.heap.size) (by omega)
  have HP : Hid (∃ (go' m' cp' : Nat) (l' : List Od), m' ≤ 8 ∧ (∀ p ∈ l', tinyO p) ∧ OwnO (putAll w5 w.heap.size 0 [.int .i64 c.1, .int .i64 c.2.1, .int .i64 c.2.2.1, .slice ja jn jc, .slice la ln lc, .int .i64 c.2.2.2.2.2]) w.heap.size go' m' cp' l' ∧ GotC (fun c => csz c ≤ 400000) w (fun v => .tuple #[v, .slice (some ⟨go', 0, none⟩) m' cp']) (.returned (.tuple #[.agg #[.int .i64 c.1, .int .i64 c.2.1, .int .i64 c.2.2.1, .slice ja jn jc, .slice la ln lc, .int .i64 c.2.2.2.2.2], .slice (some ⟨go, 0, none⟩) m cp])) (putAll w5 w.heap.size 0 [.int .i64 c.1, .int .i64 c.2.1, .int .i64 c.2.2.1, .slice ja jn jc, .slice la ln lc, .int .i64 c.2.2.2.2.2])) := ⟨go, m, cp, l, by omega, htt, hOoz, ja, jn, jc, la, ln, lc, c, F, hD, rfl, hOz, fun k hk => Nat.le_trans hs2 (hFn k hk), hBz⟩
  clear hBz hO5 hR5 hOo hOoz
  simp only [putAll, Nat.zero_add, Nat.reduceAdd] at HP y0 y1 y2 y3 y4 y5
  have HY := Hid.mk' (And.intro y0 (And.intro y1 (And.intro y2 (And.intro y3 (And.intro y4 y5)))))
  clear hOz hS y0 y1 y2 y3 y4 y5
  go_wp2_with fail
  obtain ⟨y0, y1, y2, y3, y4, y5⟩ := HY.out
  refine bodyPost_ret (v := .tuple #[.agg #[.int .i64 c.1, .int .i64 c.2.1, .int .i64 c.2.2.1, .slice ja jn jc, .slice la ln lc, .int .i64 c.2.2.2.2.2], .slice (some ⟨go, 0, none⟩) m cp]) ?_ rfl HP.out
  simp [results, Try.results6, go_sem, y0, y1, y2, y3, y4, y5]
end Go.Proofs.Yteniflajiklffaa.cos

namespace Go.Proofs.Yteniflajiklffaa.base
open Go.RowKit
set_option linter.unusedVariables false
theorem big_ (a0 : Option Addr) (len0 cap0 : Nat) (w : World) (h : len0 ≤ maxLen) :
    Calls Try.prog 5 #[.slice a0 len0 cap0] w fun e w' => e = .returned (.bool (decide (1048576 < (len0 : Int)))) ∧ w' = w := by
  unfold maxLen at h
  go_enter Try.func5, Try.ntmps5
  go_wp2
  go_ret
  exact ⟨rfl, rfl⟩
end Go.Proofs.Yteniflajiklffaa.base

namespace Go.Proofs.Yteniflajiklffaa.cos
open Go Go.RowKit Go.Proofs.Yteniflajiklffaa.base Go.Proofs.Yteniflajiklffaa.pairs Go.Proofs.Yteniflajiklffaa.ords Go.Proofs.Yteniflajiklffaa.lay Go.Proofs.Yteniflajiklffaa.wds
set_option linter.unusedVariables false
set_option linter.unusedSimpArgs false

end Go.Proofs.Yteniflajiklffaa.cos

namespace Go.Proofs.Yteniflajiklffaa.cos
open Go Go.RowKit Go.Proofs.Yteniflajiklffaa.base Go.Proofs.Yteniflajiklffaa.pairs Go.Proofs.Yteniflajiklffaa.ords Go.Proofs.Yteniflajiklffaa.lay Go.Proofs.Yteniflajiklffaa.wds
set_option linter.unusedVariables false
set_option linter.unusedSimpArgs false

set_option maxRecDepth 100000 in
set_option maxHeartbeats 4000000 in
theorem impl_begin (ja : Option Addr) (jn jc : Nat) (la : Option Addr) (ln lc : Nat) (c : Co) (a : Option Addr) (len cap : Nat) (ops : List Od) (w : World) (h : SeeCo w ja jn jc la ln lc c) (hbd : BoundCo c) (hSo : SlO w a len ops) (hcap : len ≤ cap) (hks : ∀ p ∈ ops, p.2.1.size ≤ 1099511627776) :
    Calls Try.prog 7 #[coV c.1 c.2.1 c.2.2.1 c.2.2.2.2.2 ja jn jc la ln lc, .slice a len cap] w (RetB w (beginR c ops)) := by
  have hwf := h.wf
  have hll := h.log.1
  have hl8 := hbd.log
  obtain ⟨W, hW⟩ : ∃ W, (w.alloc (.cells #[.int .i64 c.1, .int .i64 c.2.1, .int .i64 c.2.2.1, .slice ja jn jc, .slice la ln lc, .int .i64 c.2.2.2.2.2] 27)).alloc (.cells #[.int .i64 0, .int .i64 0, .int .i64 0, .slice none 0 0, .slice none 0 0, .int .i64 0] 27) = W := ⟨_, rfl⟩
  have hB : Below w.heap.size w W := by rw [← hW]; exact ((Below.refl _ _).alloc (Nat.le_refl _) _).alloc (by simp) _
  have hA : BoxIn w.heap.size 27 [] [.int .i64 c.1, .int .i64 c.2.1, .int .i64 c.2.2.1, .slice ja jn jc, .slice la ln lc, .int .i64 c.2.2.2.2.2] [] W := by rw [← hW]; exact (boxIn_new w _ _).below below_make
  have hR : BoxIn (w.heap.size + 1) 27 [] [.int .i64 0, .int .i64 0, .int .i64 0, .slice none 0 0, .slice none 0 0, .int .i64 0] [] W := by
    rw [← hW]
    have := boxIn_new (w.alloc (.cells #[.int .i64 c.1, .int .i64 c.2.1, .int .i64 c.2.2.1, .slice ja jn jc, .slice la ln lc, .int .i64 c.2.2.2.2.2] 27)) [.int .i64 0, .int .i64 0, .int .i64 0, .slice none 0 0, .slice none 0 0, .int .i64 0] 27
    rwa [show (w.alloc (.cells #[.int .i64 c.1, .int .i64 c.2.1, .int .i64 c.2.2.1, .slice ja jn jc, .slice la ln lc, .int .i64 c.2.2.2.2.2] 27)).heap.size = w.heap.size + 1 by simp] at this
  have hRl := hR.lt
  have HOC := Hid.mk' (i_ownCoord ja jn jc la ln lc c W (h.below hB) hbd)
  have HCK := Hid.mk' (fun wx (hx : Below w.heap.size w wx) => impl_coordOk ja jn jc la ln lc c wx (h.below hx) hbd.fits)
  have HW := Hid.mk' hW
  obtain ⟨a0, a1, a2, a3, a4, a5⟩ := cells6 hA
  rw [← hW] at a0 a1 a2 a3 a4 a5
  clear hW h
  go_enter Try.func7, Try.ntmps7
  go_wp2_with fail
  rw [HW.out]
  refine HOC.out.mono ?_
  rintro e w1 ⟨vs, F, rfl, hO, hF, hb1⟩
  obtain ⟨xja, xjn, xjc, xla, xln, xlc, rfl⟩ := coord_shape hO
  have hB1 := hB.trans (hb1.mono hB.size)
  obtain ⟨V, hV⟩ : ∃ V, w1.alloc (.cells #[.int .i64 c.1, .int .i64 c.2.1, .int .i64 c.2.2.1, .slice xja xjn xjc, .slice xla xln xlc, .int .i64 c.2.2.2.2.2] 27) = V := ⟨_, rfl⟩
  have hbv : Below w1.heap.size w1 V := by rw [← hV]; exact below_make
  have hBV := hB1.trans (hbv.mono hB1.size)
  have hX := inR_new (T := 27) hO
  rw [hV] at hX
  have hFlO : ∀ k ∈ F, k < w1.heap.size := coordR.ownLt hO
  have hRV := (hR.below hb1).below hbv
  have hAV := (hA.below hb1).below hbv
  have hw1 := hb1.size
  have HOK := Hid.mk' (HCK.out V hBV)
  have HV := Hid.mk' hV
  have HA := Hid.mk' hAV
  clear a0 a1 a2 a3 a4 a5 HOC HCK hO hV
  obtain ⟨a0, a1, a2, a3, a4, a5⟩ := cells6 hAV
  rw [← HV.out] at a0 a1 a2 a3 a4 a5
  clear hAV
  have HOPS := Hid.mk' (fun wx (hx : Below w.heap.size w wx) => impl_opsOkA a len cap ops wx (hSo.below hx) hks)
  cases hok : coordOk c
  · rw [hok] at HOK
    have HE : Hid (beginR c ops = (c, [], 0)) := by show _ = _; unfold beginR; rw [if_neg (by rw [hok]; decide)]
    clear hok
    go_wp2_with fail
    rw [HV.out]
    refine HOK.out.mono ?_
    rintro e w2 ⟨rfl, hb2⟩
    clear a0 a1 a2 a3 a4 a5 HOPS
    have hR2 := hRV.below hb2
    have hX2 := hX.below hb2
    have hB2 := hBV.trans (hb2.mono hBV.size)
    have hXlt := hX2.lt
    obtain ⟨q0, q1, q2, q3, q4, q5⟩ := cells6 hX2.box
    have hbm : Below w2.heap.size w2 (w2.alloc (.cells #[] 39)) := below_make
    have hRa := hR2.below hbm
    have hXa := hX2.below hbm
    have hBa := hB2.trans (hbm.mono hB2.size)
    have hFl := coordR.ownLt hX2.own
    have hom := lay.ownG_made 39 wordR w2
    have hB2s := hB2.size
    obtain ⟨z0, z1, z2, z3, z4, z5⟩ := cells6 hRa
    have f0 := hRa.fz 0
    have f1 := hRa.fz 1
    have f2 := hRa.fz 2
    have f3 := hRa.fz 3
    have f4 := hRa.fz 4
    have f5 := hRa.fz 5
    have hS := hRa.whole [.int .i64 c.1, .int .i64 c.2.1, .int .i64 c.2.2.1, .slice xja xjn xjc, .slice xla xln xlc, .int .i64 c.2.2.2.2.2] rfl
    obtain ⟨y0, y1, y2, y3, y4, y5⟩ := cells6 hS.1
    have hO2 := coordR.ownGrown hXa.own hS.2 (fun b hb e => by have := hF b hb; cases e; omega)
    have hWk := hom.keep fun k hk => hS.2.block k (hom.at_ k hk) (fun e => by
      have h1 : k = w2.heap.size := by simpa [Value.ownBlock, blocksOf] using hk
      have h2 := Option.some.inj e
      omega)
    have hBz := hBa.grown hS.2 hBa.size (fun j e => by cases e; omega)
    have hFN : ∀ b ∈ F, w.heap.size ≤ b := fun b hb => by have := hF b hb; have := hB.size; omega
    have HRET : Hid (RetB w (beginR c ops) (.returned (.tuple #[.agg #[.int .i64 c.1, .int .i64 c.2.1, .int .i64 c.2.2.1, .slice xja xjn xjc, .slice xla xln xlc, .int .i64 c.2.2.2.2.2], .slice (some ⟨w2.heap.size, 0, none⟩) 0 0, .int .i64 0])) (putAll (w2.alloc (.cells #[] 39)) (w.heap.size + 1) 0 [.int .i64 c.1, .int .i64 c.2.1, .int .i64 c.2.2.1, .slice xja xjn xjc, .slice xla xln xlc, .int .i64 c.2.2.2.2.2])) := by
      show RetB _ _ _ _
      rw [HE.out]
      refine ⟨_, F, w2.heap.size, 0, 0, [], rfl, hO2, hWk, hFN, fun k hk => ?_, hBz⟩
      have e : k = w2.heap.size := by simpa [blocksOf] using hk
      exact ⟨by omega, fun hm => by have := hFl k hm; omega⟩
    simp only [putAll, Nat.zero_add, Nat.reduceAdd] at y0 y1 y2 y3 y4 y5 HRET
    have HY := Hid.mk' (And.intro y0 (And.intro y1 (And.intro y2 (And.intro y3 (And.intro y4 y5)))))
    clear hO2 hS hBz hFN hWk hom hXa hBa hRa HE y0 y1 y2 y3 y4 y5
    go_wp2_with fail
    obtain ⟨y0, y1, y2, y3, y4, y5⟩ := HY.out
    refine bodyPost_ret (v := .tuple #[.agg #[.int .i64 c.1, .int .i64 c.2.1, .int .i64 c.2.2.1, .slice xja xjn xjc, .slice xla xln xlc, .int .i64 c.2.2.2.2.2], .slice (some ⟨w2.heap.size, 0, none⟩) 0 0, .int .i64 0]) ?_ rfl HRET.out
    simp [results, Try.results7, go_sem, y0, y1, y2, y3, y4, y5]
  rw [hok] at HOK
  have hRt := coordOk_iff.1 hok
  have hBeq : beginR c ops = beginS c ops := by unfold beginR; rw [if_pos hok]
  clear hok
  cases hop : opsOk ops
  · have HE : Hid (beginR c ops = (c, [], 0)) := by show _ = _; rw [hBeq]; unfold beginS mayBegin; rw [hop]; rfl
    rw [hop] at HOPS
    clear hop hBeq hRt
    go_wp2_with fail
    rw [HV.out]
    refine HOK.out.mono ?_
    rintro e w2 ⟨rfl, hb2⟩
    have HO2 := Hid.mk' (HOPS.out w2 (hBV.trans (hb2.mono hBV.size)))
    clear a0 a1 a2 a3 a4 a5 HOPS
    go_wp2_with fail
    refine HO2.out.mono ?_
    rintro e w3 ⟨rfl, hb3⟩
    have hb23 := hb2.trans (hb3.mono hb2.size)
    have hR2 := hRV.below hb23
    have hX2 := hX.below hb23
    have hB2 := hBV.trans (hb23.mono hBV.size)
    have hXlt := hX2.lt
    obtain ⟨q0, q1, q2, q3, q4, q5⟩ := cells6 hX2.box
    have hbm : Below w3.heap.size w3 (w3.alloc (.cells #[] 39)) := below_make
    have hRa := hR2.below hbm
    have hXa := hX2.below hbm
    have hBa := hB2.trans (hbm.mono hB2.size)
    have hFl := coordR.ownLt hX2.own
    have hom := lay.ownG_made 39 wordR w3
    have hB2s := hB2.size
    obtain ⟨z0, z1, z2, z3, z4, z5⟩ := cells6 hRa
    have f0 := hRa.fz 0
    have f1 := hRa.fz 1
    have f2 := hRa.fz 2
    have f3 := hRa.fz 3
    have f4 := hRa.fz 4
    have f5 := hRa.fz 5
    have hS := hRa.whole [.int .i64 c.1, .int .i64 c.2.1, .int .i64 c.2.2.1, .slice xja xjn xjc, .slice xla xln xlc, .int .i64 c.2.2.2.2.2] rfl
    obtain ⟨y0, y1, y2, y3, y4, y5⟩ := cells6 hS.1
    have hO2 := coordR.ownGrown hXa.own hS.2 (fun b hb e => by have := hF b hb; cases e; omega)
    have hWk := hom.keep fun k hk => hS.2.block k (hom.at_ k hk) (fun e => by
      have h1 : k = w3.heap.size := by simpa [Value.ownBlock, blocksOf] using hk
      have h2 := Option.some.inj e
      omega)
    have hBz := hBa.grown hS.2 hBa.size (fun j e => by cases e; omega)
    have hFN : ∀ b ∈ F, w.heap.size ≤ b := fun b hb => by have := hF b hb; have := hB.size; omega
    have HRET : Hid (RetB w (beginR c ops) (.returned (.tuple #[.agg #[.int .i64 c.1, .int .i64 c.2.1, .int .i64 c.2.2.1, .slice xja xjn xjc, .slice xla xln xlc, .int .i64 c.2.2.2.2.2], .slice (some ⟨w3.heap.size, 0, none⟩) 0 0, .int .i64 0])) (putAll (w3.alloc (.cells #[] 39)) (w.heap.size + 1) 0 [.int .i64 c.1, .int .i64 c.2.1, .int .i64 c.2.2.1, .slice xja xjn xjc, .slice xla xln xlc, .int .i64 c.2.2.2.2.2])) := by
      show RetB _ _ _ _
      rw [HE.out]
      refine ⟨_, F, w3.heap.size, 0, 0, [], rfl, hO2, hWk, hFN, fun k hk => ?_, hBz⟩
      have e : k = w3.heap.size := by simpa [blocksOf] using hk
      exact ⟨by omega, fun hm => by have := hFl k hm; omega⟩
    simp only [putAll, Nat.zero_add, Nat.reduceAdd] at y0 y1 y2 y3 y4 y5 HRET
    have HY := Hid.mk' (And.intro y0 (And.intro y1 (And.intro y2 (And.intro y3 (And.intro y4 y5)))))
    clear hO2 hS hBz hFN hWk hom hXa hBa hRa HE y0 y1 y2 y3 y4 y5
    go_wp2_with fail
    obtain ⟨y0, y1, y2, y3, y4, y5⟩ := HY.out
    refine bodyPost_ret (v := .tuple #[.agg #[.int .i64 c.1, .int .i64 c.2.1, .int .i64 c.2.2.1, .slice xja xjn xjc, .slice xla xln xlc, .int .i64 c.2.2.2.2.2], .slice (some ⟨w3.heap.size, 0, none⟩) 0 0, .int .i64 0]) ?_ rfl HRET.out
    simp [results, Try.results7, go_sem, y0, y1, y2, y3, y4, y5]
  rw [hop] at HOPS
  have hnx := hRt.next
  by_cases h9 : c.2.2.1 = 999
  · have HE : Hid (beginR c ops = (c, [], 0)) := by show _ = _; rw [hBeq]; unfold beginS mayBegin; rw [hop]; simp [h9]
    have hq9 : ¬ c.2.2.1 < 999 := by omega
    have hq99 : (999 : Int) ≤ c.2.2.1 := by omega
    clear hop hBeq hRt hnx h9
    go_wp2_with fail
    rw [HV.out]
    refine HOK.out.mono ?_
    rintro e w2 ⟨rfl, hb2⟩
    have HO2 := Hid.mk' (HOPS.out w2 (hBV.trans (hb2.mono hBV.size)))
    clear a0 a1 a2 a3 a4 a5 HOPS
    go_wp2_with fail
    refine HO2.out.mono ?_
    rintro e w3 ⟨rfl, hb3⟩
    have hb23 := hb2.trans (hb3.mono hb2.size)
    have a2 := ((HA.out.below hb23).cell 2 _ rfl)
    simp only [List.length_nil, Nat.zero_add] at a2
    have hR2 := hRV.below hb23
    have hX2 := hX.below hb23
    have hB2 := hBV.trans (hb23.mono hBV.size)
    have hXlt := hX2.lt
    obtain ⟨q0, q1, q2, q3, q4, q5⟩ := cells6 hX2.box
    have hbm : Below w3.heap.size w3 (w3.alloc (.cells #[] 39)) := below_make
    have hRa := hR2.below hbm
    have hXa := hX2.below hbm
    have hBa := hB2.trans (hbm.mono hB2.size)
    have hFl := coordR.ownLt hX2.own
    have hom := lay.ownG_made 39 wordR w3
    have hB2s := hB2.size
    obtain ⟨z0, z1, z2, z3, z4, z5⟩ := cells6 hRa
    have f0 := hRa.fz 0
    have f1 := hRa.fz 1
    have f2 := hRa.fz 2
    have f3 := hRa.fz 3
    have f4 := hRa.fz 4
    have f5 := hRa.fz 5
    have hS := hRa.whole [.int .i64 c.1, .int .i64 c.2.1, .int .i64 c.2.2.1, .slice xja xjn xjc, .slice xla xln xlc, .int .i64 c.2.2.2.2.2] rfl
    obtain ⟨y0, y1, y2, y3, y4, y5⟩ := cells6 hS.1
    have hO2 := coordR.ownGrown hXa.own hS.2 (fun b hb e => by have := hF b hb; cases e; omega)
    have hWk := hom.keep fun k hk => hS.2.block k (hom.at_ k hk) (fun e => by
      have h1 : k = w3.heap.size := by simpa [Value.ownBlock, blocksOf] using hk
      have h2 := Option.some.inj e
      omega)
    have hBz := hBa.grown hS.2 hBa.size (fun j e => by cases e; omega)
    have hFN : ∀ b ∈ F, w.heap.size ≤ b := fun b hb => by have := hF b hb; have := hB.size; omega
    have HRET : Hid (RetB w (beginR c ops) (.returned (.tuple #[.agg #[.int .i64 c.1, .int .i64 c.2.1, .int .i64 c.2.2.1, .slice xja xjn xjc, .slice xla xln xlc, .int .i64 c.2.2.2.2.2], .slice (some ⟨w3.heap.size, 0, none⟩) 0 0, .int .i64 0])) (putAll (w3.alloc (.cells #[] 39)) (w.heap.size + 1) 0 [.int .i64 c.1, .int .i64 c.2.1, .int .i64 c.2.2.1, .slice xja xjn xjc, .slice xla xln xlc, .int .i64 c.2.2.2.2.2])) := by
      show RetB _ _ _ _
      rw [HE.out]
      refine ⟨_, F, w3.heap.size, 0, 0, [], rfl, hO2, hWk, hFN, fun k hk => ?_, hBz⟩
      have e : k = w3.heap.size := by simpa [blocksOf] using hk
      exact ⟨by omega, fun hm => by have := hFl k hm; omega⟩
    simp only [putAll, Nat.zero_add, Nat.reduceAdd] at y0 y1 y2 y3 y4 y5 HRET
    have HY := Hid.mk' (And.intro y0 (And.intro y1 (And.intro y2 (And.intro y3 (And.intro y4 y5)))))
    clear hO2 hS hBz hFN hWk hom hXa hBa hRa HE y0 y1 y2 y3 y4 y5
    go_wp2_with fail
    obtain ⟨y0, y1, y2, y3, y4, y5⟩ := HY.out
    refine bodyPost_ret (v := .tuple #[.agg #[.int .i64 c.1, .int .i64 c.2.1, .int .i64 c.2.2.1, .slice xja xjn xjc, .slice xla xln xlc, .int .i64 c.2.2.2.2.2], .slice (some ⟨w3.heap.size, 0, none⟩) 0 0, .int .i64 0]) ?_ rfl HRET.out
    simp [results, Try.results7, go_sem, y0, y1, y2, y3, y4, y5]
  have hq9 : c.2.2.1 < 999 := by omega
  have hq99 : ¬ (999 : Int) ≤ c.2.2.1 := by omega
  have hlnl : ln = c.2.2.2.2.1.length := hll.symm
  by_cases hfull : 1000 ≤ ln
  · have HE : Hid (beginR c ops = (c, [], 0)) := by show _ = _; rw [hBeq]; unfold beginS mayBegin; rw [hop]; simp; omega
    have hfi : ¬ (ln : Int) < 1000 := by omega
    have hfi2 : (1000 : Int) ≤ (ln : Int) := by omega
    clear hop hBeq hRt hnx h9 hlnl hll
    go_wp2_with fail
    rw [HV.out]
    refine HOK.out.mono ?_
    rintro e w2 ⟨rfl, hb2⟩
    have HO2 := Hid.mk' (HOPS.out w2 (hBV.trans (hb2.mono hBV.size)))
    clear a0 a1 a2 a3 a4 a5 HOPS
    go_wp2_with fail
    refine HO2.out.mono ?_
    rintro e w3 ⟨rfl, hb3⟩
    have hb23 := hb2.trans (hb3.mono hb2.size)
    have a2 := ((HA.out.below hb23).cell 2 _ rfl)
    have a4 := ((HA.out.below hb23).cell 4 _ rfl)
    simp only [List.length_nil, Nat.zero_add] at a2 a4
    have hR2 := hRV.below hb23
    have hX2 := hX.below hb23
    have hB2 := hBV.trans (hb23.mono hBV.size)
    have hXlt := hX2.lt
    obtain ⟨q0, q1, q2, q3, q4, q5⟩ := cells6 hX2.box
    have hbm : Below w3.heap.size w3 (w3.alloc (.cells #[] 39)) := below_make
    have hRa := hR2.below hbm
    have hXa := hX2.below hbm
    have hBa := hB2.trans (hbm.mono hB2.size)
    have hFl := coordR.ownLt hX2.own
    have hom := lay.ownG_made 39 wordR w3
    have hB2s := hB2.size
    obtain ⟨z0, z1, z2, z3, z4, z5⟩ := cells6 hRa
    have f0 := hRa.fz 0
    have f1 := hRa.fz 1
    have f2 := hRa.fz 2
    have f3 := hRa.fz 3
    have f4 := hRa.fz 4
    have f5 := hRa.fz 5
    have hS := hRa.whole [.int .i64 c.1, .int .i64 c.2.1, .int .i64 c.2.2.1, .slice xja xjn xjc, .slice xla xln xlc, .int .i64 c.2.2.2.2.2] rfl
    obtain ⟨y0, y1, y2, y3, y4, y5⟩ := cells6 hS.1
    have hO2 := coordR.ownGrown hXa.own hS.2 (fun b hb e => by have := hF b hb; cases e; omega)
    have hWk := hom.keep fun k hk => hS.2.block k (hom.at_ k hk) (fun e => by
      have h1 : k = w3.heap.size := by simpa [Value.ownBlock, blocksOf] using hk
      have h2 := Option.some.inj e
      omega)
    have hBz := hBa.grown hS.2 hBa.size (fun j e => by cases e; omega)
    have hFN : ∀ b ∈ F, w.heap.size ≤ b := fun b hb => by have := hF b hb; have := hB.size; omega
    have HRET : Hid (RetB w (beginR c ops) (.returned (.tuple #[.agg #[.int .i64 c.1, .int .i64 c.2.1, .int .i64 c.2.2.1, .slice xja xjn xjc, .slice xla xln xlc, .int .i64 c.2.2.2.2.2], .slice (some ⟨w3.heap.size, 0, none⟩) 0 0, .int .i64 0])) (putAll (w3.alloc (.cells #[] 39)) (w.heap.size + 1) 0 [.int .i64 c.1, .int .i64 c.2.1, .int .i64 c.2.2.1, .slice xja xjn xjc, .slice xla xln xlc, .int .i64 c.2.2.2.2.2])) := by
      show RetB _ _ _ _
      rw [HE.out]
      refine ⟨_, F, w3.heap.size, 0, 0, [], rfl, hO2, hWk, hFN, fun k hk => ?_, hBz⟩
      have e : k = w3.heap.size := by simpa [blocksOf] using hk
      exact ⟨by omega, fun hm => by have := hFl k hm; omega⟩
    simp only [putAll, Nat.zero_add, Nat.reduceAdd] at y0 y1 y2 y3 y4 y5 HRET
    have HY := Hid.mk' (And.intro y0 (And.intro y1 (And.intro y2 (And.intro y3 (And.intro y4 y5)))))
    clear hO2 hS hBz hFN hWk hom hXa hBa hRa HE y0 y1 y2 y3 y4 y5
    go_wp2_with fail
    obtain ⟨y0, y1, y2, y3, y4, y5⟩ := HY.out
    refine bodyPost_ret (v := .tuple #[.agg #[.int .i64 c.1, .int .i64 c.2.1, .int .i64 c.2.2.1, .slice xja xjn xjc, .slice xla xln xlc, .int .i64 c.2.2.2.2.2], .slice (some ⟨w3.heap.size, 0, none⟩) 0 0, .int .i64 0]) ?_ rfl HRET.out
    simp [results, Try.results7, go_sem, y0, y1, y2, y3, y4, y5]
  have hfi : (ln : Int) < 1000 := by omega
  have hfi2 : ¬ (1000 : Int) ≤ (ln : Int) := by omega
  have hlf := hRt.life
  have HE : Hid (beginR c ops = ((c.1, c.2.1, c.2.2.1 + 1, c.2.2.2.1 ++ [(c.2.1 * 1000 + c.2.2.1, ops, 1, [])], c.2.2.2.2.1, c.2.2.2.2.2), holdsW c.1 (c.2.1 * 1000 + c.2.2.1) ops [] (shardsOf c.1 ops), c.2.1 * 1000 + c.2.2.1)) := by
    show _ = _
    rw [hBeq]
    unfold beginS mayBegin
    rw [hop, if_pos (by simp; omega)]
    rfl
  have hol8 : len ≤ 8 := by have := hSo.1; have := (opsOk_len hop).2; omega
  have hol1 : 1 ≤ len := by have := hSo.1; have := (opsOk_len hop).1; omega
  have htw : (Lit.int .i64 (c.2.1 * 1000 + c.2.2.1)).wf = true := WalkArith.wf_i64 (by omega)
  have hxw : (Lit.int .i64 (c.2.2.1 + 1)).wf = true := WalkArith.wf_i64 (by omega)
  have wr3 : IntKind.i64.wrap (c.2.2.1 + 1) = c.2.2.1 + 1 := by rw [IntKind.wrap_i64]; omega
  have hj8 := hRt.jobsLen
  have hnw := hwf.n
  have HSo := Hid.mk' hSo
  have HKS := Hid.mk' hks
  clear hop hBeq hRt h9 hlnl hll hfull hSo hks
  go_wp2_with fail
  rw [HV.out]
  refine HOK.out.mono ?_
  rintro e w2 ⟨rfl, hb2⟩
  have HO2 := Hid.mk' (HOPS.out w2 (hBV.trans (hb2.mono hBV.size)))
  clear a0 a1 a2 a3 a4 a5 HOPS
  go_wp2_with fail
  refine HO2.out.mono ?_
  rintro e w3 ⟨rfl, hb3⟩
  have hb23 := hb2.trans (hb3.mono hb2.size)
  have hB3 := hBV.trans (hb23.mono hBV.size)
  have hA3 := HA.out.below hb23
  have a2 := hA3.cell 2 _ rfl
  have a4 := hA3.cell 4 _ rfl
  simp only [List.length_nil, Nat.zero_add] at a2 a4
  have HNT := Hid.mk' (i_nextTx w.heap.size 27 [] [] c.1 c.2.1 c.2.2.1 c.2.2.2.2.2 ja jn jc la ln lc w3 hA3 hlf hnx)
  clear HO2 HOK
  go_wp2_with fail
  refine HNT.out.mono ?_
  rintro e w4 ⟨rfl, hb4⟩
  have hB4 := hB3.trans (hb4.mono hB3.size)
  obtain ⟨B, hBB⟩ : ∃ B, w4.alloc (.cells #[.int .i64 (c.2.1 * 1000 + c.2.2.1), .slice a len cap, .int .i64 1, .slice none 0 0] 65) = B := ⟨_, rfl⟩
  have hbB : Below w4.heap.size w4 B := by rw [← hBB]; exact below_make
  have hJB : BoxIn w4.heap.size 65 [] [.int .i64 (c.2.1 * 1000 + c.2.2.1), .slice a len cap, .int .i64 1, .slice none 0 0] [] B := by rw [← hBB]; exact boxIn_new _ _ _
  have hBB4 := hB4.trans (hbB.mono hB4.size)
  obtain ⟨j0, j1, j2, j3⟩ := cells4 hJB
  have HOJ := Hid.mk' (i_ownJob w4.heap.size 0 (c.2.1 * 1000 + c.2.2.1) 1 a len cap none 0 0 ops [] B j0 j1 j2 j3 htw (by decide) (HSo.out.below hBB4) hcap slz_none (Nat.le_refl _) (fun _ h => absurd h List.not_mem_nil) (by omega) (by omega))
  have HBB := Hid.mk' hBB
  clear hBB j0 j1 j2 j3 HNT a2 a4
  go_wp2_with fail
  rw [HBB.out]
  refine HOJ.out.mono ?_
  rintro e w5 ⟨us, FJ, rfl, hOj, hFJ, hb5⟩
  obtain ⟨ra, rn, rc, sa, sn, sc, rfl⟩ := job_vals hOj
  have hB5 := hBB4.trans (hb5.mono hBB4.size)
  obtain ⟨vo, vy, e, k1, k3, hov, hyv, hFjE, hFjN⟩ := job_own.1 hOj
  simp only [List.cons.injEq, and_true, true_and] at e
  obtain ⟨rfl, rfl⟩ := e
  have hOsee := ops_see.1 (opsR.ownSee (ops_own.2 ⟨hov, rfl⟩))
  have hYsee := ints_see.1 (intsR.ownSee (ints_own.2 ⟨hyv, rfl⟩))
  have hrn : rn = len := by have h1 : ops.length = rn := hOsee.1.1; have h2 := HSo.out.1; omega
  obtain ⟨go, rfl⟩ : ∃ go, ra = some ⟨go, 0, none⟩ := by
    rcases hov.2.2 with ⟨e, e2⟩ | ⟨g, cp, cur, e, _⟩
    · cases e; omega
    · cases e; exact ⟨g, rfl⟩
  have hsz45 : w1.heap.size ≤ B.heap.size := by have := hbv.size; have := hb23.size; have := hb4.size; have := hbB.size; omega
  have hFJw : ∀ k ∈ FJ, w1.heap.size ≤ k := fun k hk => by have := hFJ k hk; omega
  have hBV5 : Below V.heap.size V w5 := (hb23.trans (hb4.mono hb23.size)).trans ((hbB.trans (hb5.mono hbB.size)).mono (hb23.trans (hb4.mono hb23.size)).size)
  have hX5 := hX.below hBV5
  have hR5 := hRV.below hBV5
  have hA5 := HA.out.below hBV5
  -- the new job's box
  obtain ⟨U, hU⟩ : ∃ U, w5.alloc (.cells #[.int .i64 (c.2.1 * 1000 + c.2.2.1), .slice (some ⟨go, 0, none⟩) rn rc, .int .i64 1, .slice sa sn sc] 65) = U := ⟨_, rfl⟩
  have hbU : Below w5.heap.size w5 U := by rw [← hU]; exact below_make
  have hJU : BoxIn w5.heap.size 65 [] [.int .i64 (c.2.1 * 1000 + c.2.2.1), .slice (some ⟨go, 0, none⟩) rn rc, .int .i64 1, .slice sa sn sc] [] U := by rw [← hU]; exact boxIn_new _ _ _
  have hXU := hX5.below hbU
  -- what is appended
  obtain ⟨V2, hV2⟩ : ∃ V2, U.alloc (.cells #[.int .i64 (c.2.1 * 1000 + c.2.2.1), .slice (some ⟨go, 0, none⟩) rn rc, .int .i64 1, .slice sa sn sc] 65) = V2 := ⟨_, rfl⟩
  have hbV2 : Below U.heap.size U V2 := by rw [← hV2]; exact below_make
  have hNb : BoxIn U.heap.size 65 [] [.int .i64 (c.2.1 * 1000 + c.2.2.1), .slice (some ⟨go, 0, none⟩) rn rc, .int .i64 1, .slice sa sn sc] [] V2 := by rw [← hV2]; exact boxIn_new _ _ _
  obtain ⟨vx, vy2, F1, F2, e, _, hj, hl, hFe, hnd⟩ := coord_own.1 (hXU.below hbV2).own
  simp only [List.cons.injEq, and_true, true_and] at e
  obtain ⟨rfl, rfl⟩ := e
  obtain ⟨⟨ql, hL⟩, hF2⟩ := logs_own.1 hl
  obtain ⟨vj, qj, e, hF1, hJ⟩ := hj
  simp only [List.cons.injEq, and_true] at e
  subst e
  have hjl : xjn = c.2.2.2.1.length := hJ.sl.1.symm
  have hxj : jobR.own V2 [.int .i64 (c.2.1 * 1000 + c.2.2.1), .slice (some ⟨go, 0, none⟩) rn rc, .int .i64 1, .slice sa sn sc] (c.2.1 * 1000 + c.2.2.1, ops, 1, []) FJ := jobR.ownBelow (jobR.ownBelow hOj hbU) hbV2
  have hFl1 := coordR.ownLt hX.own
  have hFlw : ∀ k ∈ F, k < w1.heap.size ∨ False := fun k hk => .inl (hFlO k hk)
  have hJat : ∀ k ∈ (Value.slice xja xjn xjc).ownBlock.toList ++ blocksOf qj, k ∈ F := fun k hk => by rw [hFe, hF1]; exact List.mem_append.2 (.inl hk)
  obtain ⟨g', cap', w6, hrun, hO6, hgr, hat⟩ := OwnG.appRun (P := Try.prog) (z := .agg #[.int .i64 0, .slice none 0 0, .int .i64 0, .slice none 0 0]) Try.underlying24 infoJ rfl (by decide) hJ hxj (fun b hb hc => by
    have h1 := hFJw b hb
    rcases hFlw b (hJat b hc) with h2 | h2
    · omega
    · exact h2) hNb (by unfold maxLen; omega) (by omega) 24
  rw [← hjl] at hrun hO6
  have hvb : ∀ k, (Value.slice xja xjn xjc).ownBlock = some k → k ∈ F := fun k e => hJat k (List.mem_append.2 (.inl (by rw [e]; simp)))
  have hszU : U.heap.size = w5.heap.size + 1 := by rw [← hU]; simp
  have hszV : V2.heap.size = w5.heap.size + 1 + 1 := by rw [← hV2]; simp [hszU]
  have hs5 : w1.heap.size < w5.heap.size := by have := hX5.lt; omega
  rw [hszU] at hrun hNb
  have hX6 := (hXU.below hbV2).box.grown hgr (fun e => by rcases hFlw _ (hvb _ e.symm) with h2 | h2; omega; exact h2)
  have hJ6 := (hJU.below hbV2).grown hgr (fun e => by rcases hFlw _ (hvb _ e.symm) with h2 | h2; omega; exact h2)
  have hA6 := ((hA5.below hbU).below hbV2).grown hgr (fun e => by have h1 := hF _ (hvb _ e.symm); have := hB.size; omega)
  have hR6 := ((hR5.below hbU).below hbV2).grown hgr (fun e => by have h1 := hF _ (hvb _ e.symm); omega)
  have hB6 : Below w.heap.size w w6 := by
    have h1 := hB5.trans (hbU.mono hB5.size)
    have h2 := h1.trans (hbV2.mono h1.size)
    exact h2.grown hgr h2.size (fun k e => by have h3 := hF _ (hvb k e); have := hB.size; omega)
  have hFjn : ∀ k ∈ FJ, some k ≠ (Value.slice xja xjn xjc).ownBlock := fun k hk e => by
    have h1 := hFJw k hk
    rcases hFlw k (hvb k e.symm) with h2 | h2
    · omega
    · exact h2
  have hOj6 := jobR.ownGrown hxj hgr hFjn
  have hL6 := hL.keep fun k hk => hgr.block k (hL.at_ k hk) (fun e => by
    rw [(flat_ch.parts hL).2.2.1, List.append_nil] at hk
    have h2 : k ∈ F1 := by rw [hF1]; exact List.mem_append.2 (.inl (by rw [← e]; simp))
    rw [hFe] at hnd
    exact (nodup_parts hnd).2.2 k h2 (by rw [hF2]; exact hk))
  have hg6 : ∀ k ∈ g' :: blocksOf (qj ++ [([.int .i64 (c.2.1 * 1000 + c.2.2.1), .slice (some ⟨go, 0, none⟩) rn rc, .int .i64 1, .slice sa sn sc], FJ)]), (k ∈ F1 ∨ w1.heap.size ≤ k) ∧ k ≠ w1.heap.size ∧ k ≠ w5.heap.size := fun k hk => by
    rw [blocksOf_append] at hk
    rcases List.mem_cons.1 hk with e | e
    · rcases hat with e2 | e2
      · have h1 : k ∈ F1 := by rw [hF1, e]; exact List.mem_append.2 (.inl (by rw [e2]; simp))
        have h2 : k ∈ F := by rw [hFe]; exact List.mem_append.2 (.inl h1)
        rcases hFlw k h2 with h3 | h3
        · exact ⟨.inl h1, by omega, by omega⟩
        · exact h3.elim
      · exact ⟨.inr (by omega), by omega, by omega⟩
    · rcases List.mem_append.1 e with e | e
      · have h1 : k ∈ F1 := by rw [hF1]; exact List.mem_append.2 (.inr e)
        have h2 : k ∈ F := by rw [hFe]; exact List.mem_append.2 (.inl h1)
        rcases hFlw k h2 with h3 | h3
        · exact ⟨.inl h1, by omega, by omega⟩
        · exact h3.elim
      · have h1 : k ∈ FJ := by simpa [blocksOf] using e
        have h2 := hFJ k h1
        have h3 := jobR.ownLt hOj k h1
        have := hb4.size
        have := hbB.size
        have := hX.lt
        have := hb23.size
        exact ⟨.inr (hFJw k h1), by omega, by omega⟩
  -- the stores
  have hS7 := hX6.set 3 (by simp) (.slice (some ⟨g', 0, none⟩) (xjn + 1) cap')
  obtain ⟨W7, hW7⟩ : ∃ W7, w6.setCell ⟨w1.heap.size, 3, none⟩ (.slice (some ⟨g', 0, none⟩) (xjn + 1) cap') = W7 := ⟨_, rfl⟩
  simp only [List.length_nil, Nat.zero_add] at hS7
  rw [hW7] at hS7
  have hX7 : BoxIn w1.heap.size 27 [] [.int .i64 c.1, .int .i64 c.2.1, .int .i64 c.2.2.1, .slice (some ⟨g', 0, none⟩) (xjn + 1) cap', .slice xla xln xlc, .int .i64 c.2.2.2.2.2] [] W7 := hS7.1
  have hS8 := hX7.set 2 (by simp) (.int .i64 (c.2.2.1 + 1))
  obtain ⟨W8, hW8⟩ : ∃ W8, W7.setCell ⟨w1.heap.size, 2, none⟩ (.int .i64 (c.2.2.1 + 1)) = W8 := ⟨_, rfl⟩
  simp only [List.length_nil, Nat.zero_add] at hS8
  rw [hW8] at hS8
  have hX8 : BoxIn w1.heap.size 27 [] [.int .i64 c.1, .int .i64 c.2.1, .int .i64 (c.2.2.1 + 1), .slice (some ⟨g', 0, none⟩) (xjn + 1) cap', .slice xla xln xlc, .int .i64 c.2.2.2.2.2] [] W8 := hS8.1
  have hg8 : w6.grownBy W8 (some w1.heap.size) := grownBy_trans hS7.2 hS8.2
  have hJ8 := hJ6.grown hg8 (by simp; omega)
  have hA8 := hA6.grown hg8 (by simp; omega)
  have hR8 := hR6.grown hg8 (by simp; omega)
  have hB8 := hB6.grown hg8 hB6.size (fun k e => by cases e; have := hB1.size; omega)
  have hO8 := hO6.keep fun k hk => hg8.block k (hO6.at_ k hk) (fun e => (hg6 k (by simpa [Value.ownBlock] using hk)).2.1 (Option.some.inj e))
  have hL8 := hL6.keep fun k hk => hg8.block k (hL6.at_ k hk) (fun e => by
    rw [(flat_ch.parts hL).2.2.1, List.append_nil] at hk
    have h2 : k ∈ F := by rw [hFe, hF2]; exact List.mem_append.2 (.inr hk)
    have h4 := Option.some.inj e
    rcases hFlw k h2 with h3 | h3
    · omega
    · exact h3)
  have hOj8 := jobR.ownGrown hOj6 hg8 (fun k hk e => by
    have h1 := Option.some.inj e
    have h2 := hFJ k hk
    have := hb4.size
    have := hbB.size
    have := hX.lt
    have := hb23.size
    omega)
  have x3 := hX6.cell 3 _ rfl
  have x2 := hX6.cell 2 _ rfl
  have f3 := hX6.fz 3
  have f2 := hX6.fz 2
  simp only [List.length_nil, Nat.zero_add] at x3 x2
  have u3 := hXU.box.cell 3 _ rfl
  simp only [List.length_nil, Nat.zero_add] at u3
  obtain ⟨j0, j1, j2, j3⟩ := cells4 hJU
  rw [← hU] at u3 j0 j1 j2 j3
  have HU := Hid.mk' hU
  have HV2 := Hid.mk' hV2
  have HW7 := Hid.mk' hW7
  have HW8 := Hid.mk' hW8
  have HO8 := Hid.mk' hO8
  have HL8 := Hid.mk' hL8
  have HG6 := Hid.mk' hg6
  have HX8 := Hid.mk' hX8
  have HJ8 := Hid.mk' hJ8
  have HA8 := Hid.mk' hA8
  have HR8 := Hid.mk' hR8
  have HF2 := Hid.mk' hF2
  have HFe := Hid.mk' hFe
  have HFlw := Hid.mk' hFlw
  have hov8 : SlO W8 (some ⟨go, 0, none⟩) rn ops := by
    obtain ⟨vo, vy, e, _, _, hov, _⟩ := job_own.1 hOj8
    simp only [List.cons.injEq, and_true, true_and] at e
    obtain ⟨rfl, rfl⟩ := e
    exact (ops_see.1 (opsR.ownSee (ops_own.2 ⟨hov, rfl⟩))).1
  have hyv8 : SlZ W8 sa sn [] := by
    obtain ⟨vo, vy, e, _, _, _, hyv, _⟩ := job_own.1 hOj8
    simp only [List.cons.injEq, and_true, true_and] at e
    obtain ⟨rfl, rfl⟩ := e
    exact (ints_see.1 (intsR.ownSee (ints_own.2 ⟨hyv, rfl⟩))).1.1
  have hdW : Below W8.heap.size W8 W8.drew := (Below.refl _ _).drew
  have HHO := Hid.mk' (fun wx (hx : Below W8.heap.size W8 wx) => by
    obtain ⟨c0, c1, c2, c3⟩ := cells4 (HJ8.out.below hx)
    exact i_holds w5.heap.size 0 (c.2.1 * 1000 + c.2.2.1) 1 c.1 go 0 rn rc sa sn sc ops [] wx c0 c1 c3 htw (hov8.below hx) (hyv8.below hx) HKS.out (by omega) hnw)
  have hjlb : ∀ k ∈ F1, k ∉ F2 := fun k hk hk2 => by
    rw [hFe] at hnd
    exact (nodup_parts hnd).2.2 k hk hk2
  clear hU hV2 hW7 hW8 hO8 hL8 hg6 hX8 hJ8 hA8 hR8 hX7 hS7 hS8 hg8 hOj6 hOj8 hL6 hO6 hR6 hA6 hJ6 hgr hat hxj hL hl hJ hFe hF2 hNb hJU hXU hA5 hR5 hX5 hBV5 hov hyv hOj HOJ HBB hjl hrn hOsee hYsee hFjE hFjN hFlw hF1 hszU hszV hX6 hov8 hyv8 hnd
  go_wp2_with (at_builtin; rw [HU.out, HV2.out]; refine wpList_append_run rfl _ _ 24 rfl (by kernel_rfl) (by kernel_rfl) hrun ?_)
  rw [HW7.out, HW8.out]
  refine last.wp_region_later (S := fun w' => BoxIn w1.heap.size 27 [] [.int .i64 c.1, .int .i64 c.2.1, .int .i64 (c.2.2.1 + 1), .slice (some ⟨g', 0, none⟩) (xjn + 1) cap', .slice xla xln xlc, .int .i64 c.2.2.2.2.2] [] w' ∧ BoxIn w5.heap.size 65 [] [.int .i64 (c.2.1 * 1000 + c.2.2.1), .slice (some ⟨go, 0, none⟩) rn rc, .int .i64 1, .slice sa sn sc] [] w' ∧ BoxIn w.heap.size 27 [] [.int .i64 c.1, .int .i64 c.2.1, .int .i64 c.2.2.1, .slice ja jn jc, .slice la ln lc, .int .i64 c.2.2.2.2.2] [] w') 8 (by kernel_rfl) ⟨HX8.out.below hdW, HJ8.out.below hdW, HA8.out.below hdW⟩ (fun hHeld0 => ?_)
  generalize hD : W8.drew = D at *
  clear hD
  refine last.wpAnyL_take (i := 0) (v := (.agg #[.int .i64 c.1, .int .i64 c.2.1, .int .i64 (c.2.2.1 + 1), .slice (some ⟨g', 0, none⟩) (xjn + 1) cap', .slice xla xln xlc, .int .i64 c.2.2.2.2.2])) rfl rfl (by kernel_rfl) (by kernel_rfl) (by kernel_rfl) (by kernel_rfl) (fun _ _ _ h => h) (Or.inl ⟨by rfl, ?_⟩) (by assumption) ?_
  · intro wq hSq; obtain ⟨q0, q1, q2, q3, q4, q5⟩ := cells6 hSq.1; go_simp
  try simp only [Act.put, List.setIfInBounds_toArray, List.set_cons_zero, List.set_cons_succ]
  refine last.wpAnyL_take (i := 1) (v := (.pointer (some ⟨w.heap.size, 0, none⟩))) rfl rfl (by kernel_rfl) (by kernel_rfl) (by kernel_rfl) (by kernel_rfl) (fun _ _ _ h => h) (Or.inl ⟨by rfl, ?_⟩) (by assumption) ?_
  · intro wq hSq; go_simp
  try simp only [Act.put, List.setIfInBounds_toArray, List.set_cons_zero, List.set_cons_succ]
  refine last.wpAnyL_take (i := 2) (v := (.int .i64 c.1)) rfl rfl (by kernel_rfl) (by kernel_rfl) (by kernel_rfl) (by kernel_rfl) (fun _ _ _ h => h) (Or.inl ⟨by rfl, ?_⟩) (by assumption) ?_
  · intro wq hSq; obtain ⟨q0, q1, q2, q3, q4, q5⟩ := cells6 hSq.2.2; go_simp
  try simp only [Act.put, List.setIfInBounds_toArray, List.set_cons_zero, List.set_cons_succ]
  refine last.wpAnyL_take (i := 4) (v := (.pointer (some ⟨w5.heap.size, 0, none⟩))) rfl rfl (by kernel_rfl) (by kernel_rfl) (by kernel_rfl) (by kernel_rfl) (fun _ _ _ h => h) (Or.inl ⟨by rfl, ?_⟩) (by assumption) ?_
  · intro wq hSq; go_simp
  try simp only [Act.put, List.setIfInBounds_toArray, List.set_cons_zero, List.set_cons_succ]
  refine last.wpAnyL_take (i := 5) (v := (.int .i64 (c.2.1 * 1000 + c.2.2.1))) rfl rfl (by kernel_rfl) (by kernel_rfl) (by kernel_rfl) (by kernel_rfl) (fun _ _ _ h => h) (Or.inl ⟨by rfl, ?_⟩) (by assumption) ?_
  · intro wq hSq; obtain ⟨q0, q1, q2, q3⟩ := cells4 hSq.2.1; go_simp
  try simp only [Act.put, List.setIfInBounds_toArray, List.set_cons_zero, List.set_cons_succ]
  refine last.wpAnyL_one (i := 3) (o := { dst := some 50, op := Op.call { callee := Callee.value (Operand.func 32), args := #[Operand.tmp 8, Operand.tmp 49], argTypes := #[65, 3] }, type := 31, pos := "l11_coord.go:63", after := #[{ on := 2, ground := Ground.data }], guard := none }) (by kernel_rfl) rfl (fun K hK => ?_)
  refine stepg.call2 rfl 32 (.tmp 8) (.tmp 49) _ rfl (fun _ _ => rfl) (.pointer (some ⟨w5.heap.size, 0, none⟩)) (.int .i64 c.1) (by kernel_rfl) (by kernel_rfl) _ (HHO.out _ hdW) ?_
  rintro e w9 ⟨gw, mw, capw, qw, rfl, hW9, hqw, hb9⟩
  refine ⟨_, rfl, ?_⟩
  have hb89 := hdW.trans (hb9.mono hdW.size)
  have hX9 := HX8.out.below hb89
  have hJ9 := HJ8.out.below hb89
  have hA9 := HA8.out.below hb89
  have hR9 := HR8.out.below hb89
  have hO9 := HO8.out.below hb89
  have hL9 := HL8.out.below hb89
  have hB9 := hB8.trans (hb89.mono hB8.size)
  have hs8 := HX8.out.lt
  have hd8 := hdW.size
  refine hK.out _ _ ?_ (fun hHeld => ?_)
  · exact ⟨hX9, hJ9, hA9⟩
  clear hK K hHeld0
  have hHeld0 := hHeld
  clear hHeld
  try simp only [Act.put, List.setIfInBounds_toArray, List.set_cons_zero, List.set_cons_succ]
  obtain ⟨z0, z1, z2, z3, z4, z5⟩ := cells6 hR9
  have f0 := hR9.fz 0
  have f1 := hR9.fz 1
  have f2' := hR9.fz 2
  have f3' := hR9.fz 3
  have f4 := hR9.fz 4
  have f5 := hR9.fz 5
  have hS := hR9.whole [.int .i64 c.1, .int .i64 c.2.1, .int .i64 (c.2.2.1 + 1), .slice (some ⟨g', 0, none⟩) (xjn + 1) cap', .slice xla xln xlc, .int .i64 c.2.2.2.2.2] rfl
  obtain ⟨U9, hU9⟩ : ∃ U9, putAll w9 (w.heap.size + 1) 0 [.int .i64 c.1, .int .i64 c.2.1, .int .i64 (c.2.2.1 + 1), .slice (some ⟨g', 0, none⟩) (xjn + 1) cap', .slice xla xln xlc, .int .i64 c.2.2.2.2.2] = U9 := ⟨_, rfl⟩
  rw [hU9] at hS
  simp only [putAll, Nat.zero_add, Nat.reduceAdd] at hU9
  obtain ⟨y0, y1, y2, y3, y4, y5⟩ := cells6 hS.1
  have hXe := hX9.grown hS.2 (by simp; omega)
  have hJe := hJ9.grown hS.2 (by simp; omega)
  have hAe := hA9.grown hS.2 (by simp)
  have hRw : w.heap.size + 1 < W.heap.size := hRl
  have hwW := hB1.size
  have hFge : ∀ k ∈ F, W.heap.size ≤ k := hF
  have hOe := hO9.keep fun k hk => hS.2.block k (hO9.at_ k hk) (fun e => by
    have h1 := HG6.out k (by simpa [Value.ownBlock] using hk)
    have h2 := Option.some.inj e
    rcases h1.1 with h3 | h3
    · have := hFge k (by rw [HFe.out]; exact List.mem_append.2 (.inl h3)); omega
    · omega)
  have hLe := hL9.keep fun k hk => hS.2.block k (hL9.at_ k hk) (fun e => by
    rw [(flat_ch.parts HL8.out).2.2.1, List.append_nil] at hk
    have := hFge k (by rw [HFe.out, HF2.out]; exact List.mem_append.2 (.inr hk))
    have h2 := Option.some.inj e
    omega)
  have hWe := hW9.keep fun k hk => hS.2.block k (hW9.at_ k hk) (fun e => by
    have h1 := hqw k (by simpa [Value.ownBlock] using hk)
    have h2 := Option.some.inj e
    omega)
  have hBe := hB9.grown hS.2 hB9.size (fun j e => by cases e; omega)
  have hll : logR.own U9 [.slice xla xln xlc] c.2.2.2.2.1 F2 := logs_own.2 ⟨⟨_, hLe⟩, HF2.out⟩
  have hOn : (g' :: blocksOf (qj ++ [([.int .i64 (c.2.1 * 1000 + c.2.2.1), .slice (some ⟨go, 0, none⟩) rn rc, .int .i64 1, .slice sa sn sc], FJ)])).Nodup := by simpa [Value.ownBlock] using hOe.nodup
  have hF2w : ∀ k ∈ F2, k < w1.heap.size := fun k hk => by
    rcases HFlw.out k (by rw [HFe.out]; exact List.mem_append.2 (.inr hk)) with h | h
    · exact h
    · exact h.elim
  have hdis : ∀ k ∈ g' :: blocksOf (qj ++ [([.int .i64 (c.2.1 * 1000 + c.2.2.1), .slice (some ⟨go, 0, none⟩) rn rc, .int .i64 1, .slice sa sn sc], FJ)]), k ∉ F2 := fun k hk h2 => by
    rcases (HG6.out k hk).1 with e | e
    · exact hjlb k e h2
    · have := hF2w k h2; omega
  have hown : coordR.own U9 [.int .i64 c.1, .int .i64 c.2.1, .int .i64 (c.2.2.1 + 1), .slice (some ⟨g', 0, none⟩) (xjn + 1) cap', .slice xla xln xlc, .int .i64 c.2.2.2.2.2] (c.1, c.2.1, c.2.2.1 + 1, c.2.2.2.1 ++ [(c.2.1 * 1000 + c.2.2.1, ops, 1, [])], c.2.2.2.2.1, c.2.2.2.2.2) ((g' :: blocksOf (qj ++ [([.int .i64 (c.2.1 * 1000 + c.2.2.1), .slice (some ⟨go, 0, none⟩) rn rc, .int .i64 1, .slice sa sn sc], FJ)])) ++ F2) :=
    coord_own.2 ⟨_, _, g' :: blocksOf (qj ++ [([.int .i64 (c.2.1 * 1000 + c.2.2.1), .slice (some ⟨go, 0, none⟩) rn rc, .int .i64 1, .slice sa sn sc], FJ)]), _, rfl, ⟨hnw, hwf.life, hxw, hwf.sure⟩, ⟨_, _, rfl, by simp [Value.ownBlock], hOe⟩, hll, rfl, nodup_mk hOn (logR.ownNodup hll) hdis⟩
  have hlt8 : ∀ k ∈ (g' :: blocksOf (qj ++ [([.int .i64 (c.2.1 * 1000 + c.2.2.1), .slice (some ⟨go, 0, none⟩) rn rc, .int .i64 1, .slice sa sn sc], FJ)])) ++ F2, k < W8.heap.size := fun k hk => by
    rcases List.mem_append.1 hk with e | e
    · exact HO8.out.at_ k (by simpa [Value.ownBlock] using e)
    · have := hF2w k e; omega
  have HRET : Hid (RetB w (beginR c ops) (.returned (.tuple #[.agg #[.int .i64 c.1, .int .i64 c.2.1, .int .i64 (c.2.2.1 + 1), .slice (some ⟨g', 0, none⟩) (xjn + 1) cap', .slice xla xln xlc, .int .i64 c.2.2.2.2.2], .slice (some ⟨gw, 0, none⟩) mw capw, .int .i64 (c.2.1 * 1000 + c.2.2.1)])) U9) := by
    show RetB _ _ _ _
    rw [HE.out]
    refine ⟨_, _, gw, mw, capw, qw, rfl, hown, hWe, fun k hk => ?_, fun k hk => ⟨by have := hqw k hk; have := hB8.size; omega, fun hm => ?_⟩, hBe⟩
    · have := hB.size
      rcases List.mem_append.1 hk with e | e
      · rcases (HG6.out k e).1 with h3 | h3
        · have := hFge k (by rw [HFe.out]; exact List.mem_append.2 (.inl h3)); omega
        · omega
      · have := hFge k (by rw [HFe.out]; exact List.mem_append.2 (.inr e)); omega
    · have := hlt8 k hm
      have := hqw k hk
      omega
  have HU9 := Hid.mk' hU9
  have HY := Hid.mk' (And.intro y0 (And.intro y1 (And.intro y2 (And.intro y3 (And.intro y4 y5)))))
  clear hU9 y0 y1 y2 y3 y4 y5 hown hll hOe hLe hWe hO9 hL9 hW9
  refine last.wpAnyL_one (i := 6) (o := { dst := none, op := Op.store 27 (Operand.tmp 4) (Operand.tmp 47), type := 0, pos := "l11_coord.go:63", after := #[{ on := 0, ground := Ground.data }, { on := 3, ground := Ground.chain }, { on := 0, ground := Ground.phase }, { on := 1, ground := Ground.textOnly Departure.lateStores }, { on := 2, ground := Ground.textOnly Departure.lateStores }, { on := 3, ground := Ground.textOnly Departure.lateStoresUnsure }, { on := 4, ground := Ground.textOnly Departure.lateStores }, { on := 5, ground := Ground.textOnly Departure.lateStores }], guard := none }) (by kernel_rfl) rfl (fun K hK => ?_)
  go_simp
  rw [HU9.out]
  refine hK.out _ _ ?_ (fun hHeld => ?_)
  · exact ⟨hXe, hJe, hAe⟩
  clear hK K hHeld0
  have hHeld0 := hHeld
  clear hHeld
  try simp only [Act.put, List.setIfInBounds_toArray, List.set_cons_zero, List.set_cons_succ]
  refine last.wpAnyL_take (i := 7) (v := (.slice (some ⟨gw, 0, none⟩) mw capw)) rfl rfl (by kernel_rfl) (by kernel_rfl) (by kernel_rfl) (by kernel_rfl) (fun _ _ _ h => h) (Or.inl ⟨by rfl, ?_⟩) (by assumption) ?_
  · intro wq hSq; go_simp
  try simp only [Act.put, List.setIfInBounds_toArray, List.set_cons_zero, List.set_cons_succ]
  refine last.wpAnyL_last (o := { dst := some 6, op := Op.assign (Operand.tmp 52), type := 3, pos := "l11_coord.go:63", after := #[{ on := 5, ground := Ground.data }, { on := 7, ground := Ground.chain }, { on := 0, ground := Ground.phase }, { on := 1, ground := Ground.phase }, { on := 2, ground := Ground.phase }, { on := 3, ground := Ground.phase }, { on := 4, ground := Ground.phase }, { on := 5, ground := Ground.phase }, { on := 6, ground := Ground.phase }, { on := 7, ground := Ground.phase }], guard := none }) (by kernel_rfl) rfl (by kernel_rfl) (fun K hK => ?_)
  go_simp
  refine hK.out _ _ ?_
  clear hK K
  go_wp2_with fail
  obtain ⟨y0, y1, y2, y3, y4, y5⟩ := HY.out
  refine bodyPost_ret (v := .tuple #[.agg #[.int .i64 c.1, .int .i64 c.2.1, .int .i64 (c.2.2.1 + 1), .slice (some ⟨g', 0, none⟩) (xjn + 1) cap', .slice xla xln xlc, .int .i64 c.2.2.2.2.2], .slice (some ⟨gw, 0, none⟩) mw capw, .int .i64 (c.2.1 * 1000 + c.2.2.1)]) ?_ rfl HRET.out
  simp [results, Try.results7, go_sem, y0, y1, y2, y3, y4, y5]
end Go.Proofs.Yteniflajiklffaa.cos

namespace Go.Proofs.Yteniflajiklffaa.wds
open Go Go.RowKit Go.Proofs.Yteniflajiklffaa.base Go.Proofs.Yteniflajiklffaa.pairs Go.Proofs.Yteniflajiklffaa.ords
set_option linter.unusedVariables false
set_option linter.unusedSimpArgs false

set_option maxRecDepth 100000 in
set_option maxHeartbeats 1000000 in
theorem sameWordT (k s t : Int) (y : Bool) (pa qa : Option Addr) (pl pc ql qc : Nat) (l : List Od) (w : World) (hx : SlO w pa pl l) (hy : SlO w qa ql l) :
    Calls Try.prog 11 #[.agg #[.int .i64 k, .int .i64 s, .int .i64 t, .slice pa pl pc, .bool y], .agg #[.int .i64 k, .int .i64 s, .int .i64 t, .slice qa ql qc, .bool y]] w fun e w' => e = .returned (.bool true) ∧ Below w.heap.size w w' := by
  obtain ⟨W, hW⟩ : ∃ W, (w.alloc (.cells #[.int .i64 k, .int .i64 s, .int .i64 t, .slice pa pl pc, .bool y] 39)).alloc (.cells #[.int .i64 k, .int .i64 s, .int .i64 t, .slice qa ql qc, .bool y] 39) = W := ⟨_, rfl⟩
  have hB : Below w.heap.size w W := by rw [← hW]; exact ((Below.refl _ _).alloc (Nat.le_refl _) _).alloc (by simp) _
  have HE := Hid.mk' (sameOps pa qa pl pc ql qc l l W (hx.below hB) (hy.below hB))
  rw [decide_eq_true rfl] at HE
  have HW := Hid.mk' hW
  clear hW
  cases y
  all_goals
    have hn1 : (k == k) = true := by simp
    have hn2 : (s == s) = true := by simp
    have hn3 : (t == t) = true := by simp
    go_enter Try.func11, Try.ntmps11
    go_wp2_with fail
    rw [HW.out]
    refine HE.out.mono ?_
    rintro e w1 ⟨rfl, kq, hw1⟩
    have hB1 : Below w.heap.size w w1 := by rw [hw1]; exact below_drewN hB _
    clear HE HW hw1
    go_wp2_with fail
    go_ret
    exact ⟨rfl, hB1⟩
end Go.Proofs.Yteniflajiklffaa.wds

namespace Go.Proofs.Yteniflajiklffaa.cos
open Go Go.RowKit Go.Proofs.Yteniflajiklffaa.base Go.Proofs.Yteniflajiklffaa.pairs Go.Proofs.Yteniflajiklffaa.ords Go.Proofs.Yteniflajiklffaa.lay Go.Proofs.Yteniflajiklffaa.wds
set_option linter.unusedVariables false
set_option linter.unusedSimpArgs false

theorem word_at {w : World} {b off len : Nat} {l : List Wd} (h : SlG wordR w (some ⟨b, off, none⟩) len l) (i : Nat) (hi : i < l.length) :
    ∃ oa ol oc, w.cell? ⟨b, off + i * 5, none⟩ = some (.int .i64 l[i].1) ∧ w.cell? ⟨b, off + i * 5 + 1, none⟩ = some (.int .i64 l[i].2.1) ∧ w.cell? ⟨b, off + i * 5 + 2, none⟩ = some (.int .i64 l[i].2.2.1) ∧ w.cell? ⟨b, off + i * 5 + 3, none⟩ = some (.slice oa ol oc) ∧ w.cell? ⟨b, off + i * 5 + 4, none⟩ = some (.bool l[i].2.2.2.2) ∧ SlO w oa ol l[i].2.2.2.1 ∧ ol ≤ oc := by
  obtain ⟨u0, u1, u2, u3, u4, hs, c0, c1, c2, c3, c4⟩ := slg_at5 rfl h i hi
  obtain ⟨oa, ol, oc, e, _, _, _, h4, h5⟩ := word_see.1 hs
  simp only [List.cons.injEq, and_true] at e
  obtain ⟨rfl, rfl, rfl, rfl, rfl⟩ := e
  exact ⟨oa, ol, oc, c0, c1, c2, c3, c4, h4, h5⟩
end Go.Proofs.Yteniflajiklffaa.cos

namespace Go.Proofs.Yteniflajiklffaa.cos
open Go Go.RowKit Go.Proofs.Yteniflajiklffaa.base Go.Proofs.Yteniflajiklffaa.pairs Go.Proofs.Yteniflajiklffaa.ords Go.Proofs.Yteniflajiklffaa.lay Go.Proofs.Yteniflajiklffaa.wds
set_option linter.unusedVariables false
set_option linter.unusedSimpArgs false

end Go.Proofs.Yteniflajiklffaa.cos

namespace Go.Proofs.Yteniflajiklffaa.cos
open Go Go.RowKit Go.Proofs.Yteniflajiklffaa.base Go.Proofs.Yteniflajiklffaa.pairs Go.Proofs.Yteniflajiklffaa.ords Go.Proofs.Yteniflajiklffaa.lay Go.Proofs.Yteniflajiklffaa.wds
set_option linter.unusedVariables false
set_option linter.unusedSimpArgs false

end Go.Proofs.Yteniflajiklffaa.cos

namespace Go.Proofs.Yteniflajiklffaa.cos
open Go Go.RowKit Go.Proofs.Yteniflajiklffaa.base Go.Proofs.Yteniflajiklffaa.pairs Go.Proofs.Yteniflajiklffaa.ords Go.Proofs.Yteniflajiklffaa.lay Go.Proofs.Yteniflajiklffaa.wds
set_option linter.unusedVariables false
set_option linter.unusedSimpArgs false

section
variable {w : World} {vs : List Value} {x : Wd} {F : List Nat} {k : Int}
theorem word_parts (h : wordR.own w vs x F) : ∃ oa ol oc, vs = [.int .i64 x.1, .int .i64 x.2.1, .int .i64 x.2.2.1, .slice oa ol oc, .bool x.2.2.2.2] ∧ (Lit.int .i64 x.1).wf = true ∧ (Lit.int .i64 x.2.1).wf = true ∧ (Lit.int .i64 x.2.2.1).wf = true ∧ opsR.own w [.slice oa ol oc] x.2.2.2.1 F := by
  obtain ⟨v, e, k1, k2, k3, h4⟩ := word_own.1 h
  obtain ⟨oa, ol, oc, e1⟩ := slice_shape h4
  subst e1
  exact ⟨oa, ol, oc, e, k1, k2, k3, h4⟩
end
end Go.Proofs.Yteniflajiklffaa.cos
