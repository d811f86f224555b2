/- The program's words, read of bytes. -/
import Derived.Test.YtjodbijcgcjndaaBund10bh
import Derived.Test.YtjodbijcgcjndaaBund10bi
import Derived.Test.YtjodbijcgcjndaaBund10aj
namespace Go.Proofs.Ytjodbijcgcjndaa.wds
open Go Go.RowKit Go.Proofs.Ytjodbijcgcjndaa.base Go.Proofs.Ytjodbijcgcjndaa.pairs Go.Proofs.Ytjodbijcgcjndaa.ords Go.Proofs.Ytjodbijcgcjndaa.putnum Go.Proofs.Ytjodbijcgcjndaa.puttext Go.Proofs.Ytjodbijcgcjndaa.getnum Go.Proofs.Ytjodbijcgcjndaa.gettext Go.Proofs.Ytjodbijcgcjndaa.gettexts
set_option linter.unusedVariables false
set_option linter.unusedSimpArgs false

/-- a box of four numbers -/
def BoxA (X : Nat) (a b c d : Int) (w : World) : Prop := w.heap[X]? = some (.cells #[.int .i64 a, .int .i64 b, .int .i64 c, .int .i64 d] 88 (0, 0))
section
variable {X : Nat} {a b c d : Int} {w w' : World}
theorem BoxA.cells (h : BoxA X a b c d w) : w.cell? ⟨X, 0, none⟩ = some (.int .i64 a) ∧ w.cell? ⟨X, 1, none⟩ = some (.int .i64 b) ∧ w.cell? ⟨X, 2, none⟩ = some (.int .i64 c) ∧ w.cell? ⟨X, 3, none⟩ = some (.int .i64 d) := by
  unfold BoxA at h
  simp [World.cell?, h]
theorem BoxA.lt (h : BoxA X a b c d w) : X < w.heap.size := (Array.getElem?_eq_some_iff.1 h).1
theorem BoxA.fz (h : BoxA X a b c d w) (j : Nat) : w.frozen? ⟨X, j, none⟩ = false := by unfold BoxA at h; simp [World.frozen?, h]
theorem BoxA.set0 (h : BoxA X a b c d w) (z : Int) : BoxA X z b c d (w.setCell ⟨X, 0, none⟩ (.int .i64 z)) ∧ w.grownBy (w.setCell ⟨X, 0, none⟩ (.int .i64 z)) (some X) := set_cur h 0 _
theorem BoxA.set1 (h : BoxA X a b c d w) (z : Int) : BoxA X a z c d (w.setCell ⟨X, 1, none⟩ (.int .i64 z)) ∧ w.grownBy (w.setCell ⟨X, 1, none⟩ (.int .i64 z)) (some X) := set_cur h 1 _
theorem BoxA.set2 (h : BoxA X a b c d w) (z : Int) : BoxA X a b z d (w.setCell ⟨X, 2, none⟩ (.int .i64 z)) ∧ w.grownBy (w.setCell ⟨X, 2, none⟩ (.int .i64 z)) (some X) := set_cur h 2 _
theorem BoxA.set3 (h : BoxA X a b c d w) (z : Int) : BoxA X a b c z (w.setCell ⟨X, 3, none⟩ (.int .i64 z)) ∧ w.grownBy (w.setCell ⟨X, 3, none⟩ (.int .i64 z)) (some X) := set_cur h 3 _
end
/-- what getHead answers -/
def headV (r : Option ((Nat × Nat × Nat × Bool) × Nat)) : Value := match r with | none => .tuple #[.agg #[.int .i64 0, .int .i64 0, .int .i64 0, .slice none 0 0, .bool false], .int .i64 0, .bool false] | some ((k, s, t, y), p) => .tuple #[wdV (k : Int) (s : Int) (t : Int) (.slice none 0 0) y, .int .i64 (p : Int), .bool true]
theorem hd_no1 {bs : List UInt8} (h : getNum bs 0 = none) : getHead bs = none := by unfold getHead; rw [h]
theorem hd_no2 {bs : List UInt8} {k a : Nat} (h : getNum bs 0 = some (k, a)) (h2 : getNum bs ((a : Nat) : Int) = none) : getHead bs = none := by unfold getHead; rw [h]; simp only []; rw [h2]
theorem hd_no3 {bs : List UInt8} {k a s b : Nat} (h : getNum bs 0 = some (k, a)) (h2 : getNum bs ((a : Nat) : Int) = some (s, b)) (h3 : getNum bs ((a + b : Nat) : Int) = none) : getHead bs = none := by unfold getHead; rw [h]; simp only []; rw [h2]; simp only []; rw [h3]
theorem hd_no4 {bs : List UInt8} {k a s b t c : Nat} (h : getNum bs 0 = some (k, a)) (h2 : getNum bs ((a : Nat) : Int) = some (s, b)) (h3 : getNum bs ((a + b : Nat) : Int) = some (t, c)) (h4 : getNum bs ((a + b + c : Nat) : Int) = none) : getHead bs = none := by unfold getHead; rw [h]; simp only []; rw [h2]; simp only []; rw [h3]; simp only []; rw [h4]
set_option maxRecDepth 100000 in
set_option maxHeartbeats 4000000 in
theorem i_getHead (a : Option Addr) (len cap : Nat) (bs : List UInt8) (w : World) (h : Sl w a len bs) (hsz : len ≤ 1099511627776) :
    Calls Try.prog 35 #[.slice a len cap] w fun e w' => e = .returned (headV (getHead bs)) ∧ Below w.heap.size w w' := by
  have hl := h.1
  obtain ⟨W, hW⟩ : ∃ W, W = (w.alloc (.cells #[.int .i64 0, .int .i64 0, .int .i64 0, .slice none 0 0, .bool false] 26)).alloc (.cells #[.int .i64 0, .int .i64 0, .int .i64 0, .int .i64 0] 88) := ⟨_, rfl⟩
  have hba0 : Below w.heap.size w (w.alloc (.cells #[.int .i64 0, .int .i64 0, .int .i64 0, .slice none 0 0, .bool false] 26)) := (Below.refl _ _).alloc (Nat.le_refl _) _
  have hB : Below w.heap.size w W := by rw [hW]; exact hba0.alloc hba0.size _
  have hR : BoxW w.heap.size 0 0 0 (.slice none 0 0) false W := by rw [hW]; exact (boxW_new w 0 0 0 (.slice none 0 0) false).below ((Below.refl _ _).alloc (Nat.le_refl _) _)
  have hA : BoxA (w.heap.size + 1) 0 0 0 0 W := by
    rw [hW]
    have := heap_alloc_new (w.alloc (.cells #[.int .i64 0, .int .i64 0, .int .i64 0, .slice none 0 0, .bool false] 26)) (.cells #[.int .i64 0, .int .i64 0, .int .i64 0, .int .i64 0] 88)
    have e : (w.alloc (.cells #[.int .i64 0, .int .i64 0, .int .i64 0, .slice none 0 0, .bool false] 26)).heap.size = w.heap.size + 1 := by simp
    rw [e] at this; exact this
  have HW := Hid.mk' hW.symm
  clear hW hba0
  have hgn : ∀ (p : Int), 0 ≤ p ∧ p ≤ len → ∀ wx, Below w.heap.size w wx → Calls Try.prog 58 #[.slice a len cap, .int .i64 p] wx fun e w' => e = .returned (numRet p (getNum bs p)) ∧ w' = wx := fun p hp wx hx => impl_get a len cap p bs wx (h.below hx) (WalkArith.wf_i64 (by omega))
  have HGN := Hid.mk' hgn
  clear hgn
  have HG1 := Hid.mk' (HGN.out 0 (by omega) W hB)
  rcases h1 : getNum bs 0 with _ | ⟨k, ka⟩
  · have HF := Hid.mk' (hd_no1 h1)
    rw [h1, numRet] at HG1
    clear h1
    go_enter Try.func35, Try.ntmps35
    go_wp2_with fail
    refine wp_loop_rounds 5 ?_
    rw [rounds_succ]
    go_wp2_with fail
    rw [HW.out]
    refine HG1.out.mono ?_
    rintro e w1 ⟨rfl, hw1⟩
    replace hw1 := hw1.symm
    subst hw1
    obtain ⟨z, zg⟩ := boxW_set hR (.int .i64 0) (.int .i64 0) (.int .i64 0) (.slice none 0 0) (.bool false)
    have hz : BoxW w.heap.size 0 0 0 (.slice none 0 0) false _ := z
    have hzc := hz.cells
    have HBz := Hid.mk' (hB.grown zg hB.size (fun j e => by cases e; exact Nat.le_refl _))
    obtain ⟨r0, r1, r2, r3, r4⟩ := hR.cells
    have f0 := hR.fz 0
    have f1 := hR.fz 1
    have f2 := hR.fz 2
    have f3 := hR.fz 3
    have f4 := hR.fz 4
    go_wp2_with fail
    refine bodyPost_ret (v := .tuple #[.agg #[.int .i64 0, .int .i64 0, .int .i64 0, .slice none 0 0, .bool false], .int .i64 0, .bool false]) ?_ rfl ⟨by rw [HF.out]; rfl, HBz.out⟩
    simp [results, Try.results35, go_sem, hzc.1, hzc.2.1, hzc.2.2.1, hzc.2.2.2.1, hzc.2.2.2.2]
  · have s1 := getNum_some h1
    rw [h1, numRet] at HG1
    rw [Int.zero_add] at HG1
    simp only [Int.toNat_zero, Nat.zero_add] at s1
    have hs1 := hA.set0 (k : Int)
    obtain ⟨W1, hW1⟩ : ∃ W1, W1 = W.setCell ⟨w.heap.size + 1, 0, none⟩ (.int .i64 (k : Int)) := ⟨_, rfl⟩
    rw [← hW1] at hs1
    obtain ⟨hA1, hgA1⟩ := hs1
    have hR1 := hR.grown hgA1 (by simp)
    have hB1 := hB.grown hgA1 hB.size (fun j e => by cases e; exact Nat.le_succ _)
    have HW1 := Hid.mk' hW1.symm
    have fA1 := hA.fz 0
    obtain ⟨ca1, cb1, cc1, cd1⟩ := hA.cells
    clear hW1 hgA1
    have HG2 := Hid.mk' (HGN.out ((ka : Nat) : Int) (by omega) W1 hB1)
    rcases h2 : getNum bs ((ka : Nat) : Int) with _ | ⟨s, kb⟩
    · have HF := Hid.mk' (hd_no2 h1 h2)
      rw [h2, numRet] at HG2
      clear h1 h2
      go_enter Try.func35, Try.ntmps35
      go_wp2_with fail
      refine wp_loop_rounds 5 ?_
      rw [rounds_succ]
      go_wp2_with fail
      rw [HW.out]
      refine HG1.out.mono ?_
      rintro e w1 ⟨rfl, hw1⟩
      replace hw1 := hw1.symm
      subst hw1
      go_wp2_with fail
      rw [HW1.out]
      rw [rounds_succ]
      go_wp2_with fail
      refine HG2.out.mono ?_
      rintro e w1 ⟨rfl, hw1⟩
      replace hw1 := hw1.symm
      subst hw1
      obtain ⟨z, zg⟩ := boxW_set hR1 (.int .i64 0) (.int .i64 0) (.int .i64 0) (.slice none 0 0) (.bool false)
      have hz : BoxW w.heap.size 0 0 0 (.slice none 0 0) false _ := z
      have hzc := hz.cells
      have HBz := Hid.mk' (hB1.grown zg hB1.size (fun j e => by cases e; exact Nat.le_refl _))
      obtain ⟨r0, r1, r2, r3, r4⟩ := hR1.cells
      have f0 := hR1.fz 0
      have f1 := hR1.fz 1
      have f2 := hR1.fz 2
      have f3 := hR1.fz 3
      have f4 := hR1.fz 4
      go_wp2_with fail
      refine bodyPost_ret (v := .tuple #[.agg #[.int .i64 0, .int .i64 0, .int .i64 0, .slice none 0 0, .bool false], .int .i64 0, .bool false]) ?_ rfl ⟨by rw [HF.out]; rfl, HBz.out⟩
      simp [results, Try.results35, go_sem, hzc.1, hzc.2.1, hzc.2.2.1, hzc.2.2.2.1, hzc.2.2.2.2]
    · have s2 := getNum_some h2
      rw [h2, numRet] at HG2
      rw [← Int.natCast_add] at HG2
      simp only [Int.toNat_natCast] at s2
      have hs2 := hA1.set1 (s : Int)
      obtain ⟨W2, hW2⟩ : ∃ W2, W2 = W1.setCell ⟨w.heap.size + 1, 1, none⟩ (.int .i64 (s : Int)) := ⟨_, rfl⟩
      rw [← hW2] at hs2
      obtain ⟨hA2, hgA2⟩ := hs2
      have hR2 := hR1.grown hgA2 (by simp)
      have hB2 := hB1.grown hgA2 hB1.size (fun j e => by cases e; exact Nat.le_succ _)
      have HW2 := Hid.mk' hW2.symm
      have fA2 := hA1.fz 1
      obtain ⟨ca2, cb2, cc2, cd2⟩ := hA1.cells
      clear hW2 hgA2
      have HG3 := Hid.mk' (HGN.out ((ka + kb : Nat) : Int) (by omega) W2 hB2)
      rcases h3 : getNum bs ((ka + kb : Nat) : Int) with _ | ⟨t, kc⟩
      · have HF := Hid.mk' (hd_no3 h1 h2 h3)
        rw [h3, numRet] at HG3
        clear h1 h2 h3
        go_enter Try.func35, Try.ntmps35
        go_wp2_with fail
        refine wp_loop_rounds 5 ?_
        rw [rounds_succ]
        go_wp2_with fail
        rw [HW.out]
        refine HG1.out.mono ?_
        rintro e w1 ⟨rfl, hw1⟩
        replace hw1 := hw1.symm
        subst hw1
        go_wp2_with fail
        rw [HW1.out]
        rw [rounds_succ]
        go_wp2_with fail
        refine HG2.out.mono ?_
        rintro e w1 ⟨rfl, hw1⟩
        replace hw1 := hw1.symm
        subst hw1
        go_wp2_with fail
        rw [HW2.out]
        rw [rounds_succ]
        go_wp2_with fail
        refine HG3.out.mono ?_
        rintro e w1 ⟨rfl, hw1⟩
        replace hw1 := hw1.symm
        subst hw1
        obtain ⟨z, zg⟩ := boxW_set hR2 (.int .i64 0) (.int .i64 0) (.int .i64 0) (.slice none 0 0) (.bool false)
        have hz : BoxW w.heap.size 0 0 0 (.slice none 0 0) false _ := z
        have hzc := hz.cells
        have HBz := Hid.mk' (hB2.grown zg hB2.size (fun j e => by cases e; exact Nat.le_refl _))
        obtain ⟨r0, r1, r2, r3, r4⟩ := hR2.cells
        have f0 := hR2.fz 0
        have f1 := hR2.fz 1
        have f2 := hR2.fz 2
        have f3 := hR2.fz 3
        have f4 := hR2.fz 4
        go_wp2_with fail
        refine bodyPost_ret (v := .tuple #[.agg #[.int .i64 0, .int .i64 0, .int .i64 0, .slice none 0 0, .bool false], .int .i64 0, .bool false]) ?_ rfl ⟨by rw [HF.out]; rfl, HBz.out⟩
        simp [results, Try.results35, go_sem, hzc.1, hzc.2.1, hzc.2.2.1, hzc.2.2.2.1, hzc.2.2.2.2]
      · have s3 := getNum_some h3
        rw [h3, numRet] at HG3
        rw [← Int.natCast_add] at HG3
        simp only [Int.toNat_natCast] at s3
        have hs3 := hA2.set2 (t : Int)
        obtain ⟨W3, hW3⟩ : ∃ W3, W3 = W2.setCell ⟨w.heap.size + 1, 2, none⟩ (.int .i64 (t : Int)) := ⟨_, rfl⟩
        rw [← hW3] at hs3
        obtain ⟨hA3, hgA3⟩ := hs3
        have hR3 := hR2.grown hgA3 (by simp)
        have hB3 := hB2.grown hgA3 hB2.size (fun j e => by cases e; exact Nat.le_succ _)
        have HW3 := Hid.mk' hW3.symm
        have fA3 := hA2.fz 2
        obtain ⟨ca3, cb3, cc3, cd3⟩ := hA2.cells
        clear hW3 hgA3
        have HG4 := Hid.mk' (HGN.out ((ka + kb + kc : Nat) : Int) (by omega) W3 hB3)
        rcases h4 : getNum bs ((ka + kb + kc : Nat) : Int) with _ | ⟨y, kd⟩
        · have HF := Hid.mk' (hd_no4 h1 h2 h3 h4)
          rw [h4, numRet] at HG4
          clear h1 h2 h3 h4
          go_enter Try.func35, Try.ntmps35
          go_wp2_with fail
          refine wp_loop_rounds 5 ?_
          rw [rounds_succ]
          go_wp2_with fail
          rw [HW.out]
          refine HG1.out.mono ?_
          rintro e w1 ⟨rfl, hw1⟩
          replace hw1 := hw1.symm
          subst hw1
          go_wp2_with fail
          rw [HW1.out]
          rw [rounds_succ]
          go_wp2_with fail
          refine HG2.out.mono ?_
          rintro e w1 ⟨rfl, hw1⟩
          replace hw1 := hw1.symm
          subst hw1
          go_wp2_with fail
          rw [HW2.out]
          rw [rounds_succ]
          go_wp2_with fail
          refine HG3.out.mono ?_
          rintro e w1 ⟨rfl, hw1⟩
          replace hw1 := hw1.symm
          subst hw1
          go_wp2_with fail
          rw [HW3.out]
          rw [rounds_succ]
          go_wp2_with fail
          refine HG4.out.mono ?_
          rintro e w1 ⟨rfl, hw1⟩
          replace hw1 := hw1.symm
          subst hw1
          obtain ⟨z, zg⟩ := boxW_set hR3 (.int .i64 0) (.int .i64 0) (.int .i64 0) (.slice none 0 0) (.bool false)
          have hz : BoxW w.heap.size 0 0 0 (.slice none 0 0) false _ := z
          have hzc := hz.cells
          have HBz := Hid.mk' (hB3.grown zg hB3.size (fun j e => by cases e; exact Nat.le_refl _))
          obtain ⟨r0, r1, r2, r3, r4⟩ := hR3.cells
          have f0 := hR3.fz 0
          have f1 := hR3.fz 1
          have f2 := hR3.fz 2
          have f3 := hR3.fz 3
          have f4 := hR3.fz 4
          go_wp2_with fail
          refine bodyPost_ret (v := .tuple #[.agg #[.int .i64 0, .int .i64 0, .int .i64 0, .slice none 0 0, .bool false], .int .i64 0, .bool false]) ?_ rfl ⟨by rw [HF.out]; rfl, HBz.out⟩
          simp [results, Try.results35, go_sem, hzc.1, hzc.2.1, hzc.2.2.1, hzc.2.2.2.1, hzc.2.2.2.2]
        · have hH := head_all h1 h2 h3 h4
          rw [h4, numRet] at HG4
          rw [← Int.natCast_add] at HG4
          clear h1 h2 h3 h4
          have hs4 := hA3.set3 (y : Int)
          obtain ⟨W4, hW4⟩ : ∃ W4, W4 = W3.setCell ⟨w.heap.size + 1, 3, none⟩ (.int .i64 (y : Int)) := ⟨_, rfl⟩
          rw [← hW4] at hs4
          obtain ⟨hA4, hgA4⟩ := hs4
          have hR4 := hR3.grown hgA4 (by simp)
          have hB4 := hB3.grown hgA4 hB3.size (fun j e => by cases e; exact Nat.le_succ _)
          have HW4 := Hid.mk' hW4.symm
          have fA4 := hA3.fz 3
          obtain ⟨ca4, cb4, cc4, cd4⟩ := hA3.cells
          clear hW4 hgA4
          obtain ⟨x0, x1, x2, x3⟩ := hA4.cells
          by_cases hy : 1 < y
          · rw [if_pos hy] at hH
            have HF := Hid.mk' hH
            have hyi : (1 : Int) < (y : Int) := by omega
            clear hH hy
            go_enter Try.func35, Try.ntmps35
            go_wp2_with fail
            refine wp_loop_rounds 5 ?_
            rw [rounds_succ]
            go_wp2_with fail
            rw [HW.out]
            refine HG1.out.mono ?_
            rintro e w1 ⟨rfl, hw1⟩
            replace hw1 := hw1.symm
            subst hw1
            go_wp2_with fail
            rw [HW1.out]
            rw [rounds_succ]
            go_wp2_with fail
            refine HG2.out.mono ?_
            rintro e w1 ⟨rfl, hw1⟩
            replace hw1 := hw1.symm
            subst hw1
            go_wp2_with fail
            rw [HW2.out]
            rw [rounds_succ]
            go_wp2_with fail
            refine HG3.out.mono ?_
            rintro e w1 ⟨rfl, hw1⟩
            replace hw1 := hw1.symm
            subst hw1
            go_wp2_with fail
            rw [HW3.out]
            rw [rounds_succ]
            go_wp2_with fail
            refine HG4.out.mono ?_
            rintro e w1 ⟨rfl, hw1⟩
            replace hw1 := hw1.symm
            subst hw1
            go_wp2_with fail
            rw [HW4.out]
            rw [rounds_succ]
            obtain ⟨z, zg⟩ := boxW_set hR4 (.int .i64 0) (.int .i64 0) (.int .i64 0) (.slice none 0 0) (.bool false)
            have hz : BoxW w.heap.size 0 0 0 (.slice none 0 0) false _ := z
            have hzc := hz.cells
            have HBz := Hid.mk' (hB4.grown zg hB4.size (fun j e => by cases e; exact Nat.le_refl _))
            obtain ⟨r0, r1, r2, r3, r4⟩ := hR4.cells
            have f0 := hR4.fz 0
            have f1 := hR4.fz 1
            have f2 := hR4.fz 2
            have f3 := hR4.fz 3
            have f4 := hR4.fz 4
            go_wp2_with fail
            refine bodyPost_ret (v := .tuple #[.agg #[.int .i64 0, .int .i64 0, .int .i64 0, .slice none 0 0, .bool false], .int .i64 0, .bool false]) ?_ rfl ⟨by rw [HF.out]; rfl, HBz.out⟩
            simp [results, Try.results35, go_sem, hzc.1, hzc.2.1, hzc.2.2.1, hzc.2.2.2.1, hzc.2.2.2.2]
          · rw [if_neg hy] at hH
            have hyi : ¬ (1 : Int) < (y : Int) := by omega
            have hyb : ((y : Int) == 1) = decide (y = 1) := by rw [Bool.eq_iff_iff]; simp; omega
            generalize decide (y = 1) = Y at *
            have HF := Hid.mk' hH
            clear hH hy
            go_enter Try.func35, Try.ntmps35
            go_wp2_with fail
            refine wp_loop_rounds 5 ?_
            rw [rounds_succ]
            go_wp2_with fail
            rw [HW.out]
            refine HG1.out.mono ?_
            rintro e w1 ⟨rfl, hw1⟩
            replace hw1 := hw1.symm
            subst hw1
            go_wp2_with fail
            rw [HW1.out]
            rw [rounds_succ]
            go_wp2_with fail
            refine HG2.out.mono ?_
            rintro e w1 ⟨rfl, hw1⟩
            replace hw1 := hw1.symm
            subst hw1
            go_wp2_with fail
            rw [HW2.out]
            rw [rounds_succ]
            go_wp2_with fail
            refine HG3.out.mono ?_
            rintro e w1 ⟨rfl, hw1⟩
            replace hw1 := hw1.symm
            subst hw1
            go_wp2_with fail
            rw [HW3.out]
            rw [rounds_succ]
            go_wp2_with fail
            refine HG4.out.mono ?_
            rintro e w1 ⟨rfl, hw1⟩
            replace hw1 := hw1.symm
            subst hw1
            go_wp2_with fail
            rw [HW4.out]
            rw [rounds_succ]
            obtain ⟨z, zg⟩ := boxW_set hR4 (.int .i64 (k : Int)) (.int .i64 (s : Int)) (.int .i64 (t : Int)) (.slice none 0 0) (.bool Y)
            have hz : BoxW w.heap.size (k : Int) (s : Int) (t : Int) (.slice none 0 0) Y _ := z
            have hzc := hz.cells
            have HBz := Hid.mk' (hB4.grown zg hB4.size (fun j e => by cases e; exact Nat.le_refl _))
            obtain ⟨r0, r1, r2, r3, r4⟩ := hR4.cells
            have f0 := hR4.fz 0
            have f1 := hR4.fz 1
            have f2 := hR4.fz 2
            have f3 := hR4.fz 3
            have f4 := hR4.fz 4
            go_wp2_with fail
            refine bodyPost_ret (v := .tuple #[.agg #[.int .i64 (k : Int), .int .i64 (s : Int), .int .i64 (t : Int), .slice none 0 0, .bool Y], .int .i64 ((ka + kb + kc + kd : Nat) : Int), .bool true]) ?_ rfl ⟨by rw [HF.out]; rfl, HBz.out⟩
            simp [results, Try.results35, go_sem, hzc.1, hzc.2.1, hzc.2.2.1, hzc.2.2.2.1, hzc.2.2.2.2]
end Go.Proofs.Ytjodbijcgcjndaa.wds
