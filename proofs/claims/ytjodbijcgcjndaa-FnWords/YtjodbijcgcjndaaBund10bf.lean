/- The specification's words, read of bytes. -/
import Derived.Test.YtjodbijcgcjndaaBund10ay
namespace Go.Proofs.Ytjodbijcgcjndaa.wds
open Go Go.RowKit Go.Proofs.Ytjodbijcgcjndaa.base Go.Proofs.Ytjodbijcgcjndaa.pairs Go.Proofs.Ytjodbijcgcjndaa.ords Go.Proofs.Ytjodbijcgcjndaa.putnum Go.Proofs.Ytjodbijcgcjndaa.puttext Go.Proofs.Ytjodbijcgcjndaa.getnum Go.Proofs.Ytjodbijcgcjndaa.gettext Go.Proofs.Ytjodbijcgcjndaa.gettexts
set_option linter.unusedVariables false
set_option linter.unusedSimpArgs false

set_option maxRecDepth 100000 in
set_option maxHeartbeats 4000000 in
theorem spec_getWord (a : Option Addr) (len cap : Nat) (bs : List UInt8) (w : World) (h : Sl w a len bs) (hcap : len ≤ cap) (hsz : len ≤ 1099511627776) :
    Calls Try.prog 12 #[.slice a len cap] w fun e w' => WordPost w (getWord bs) e w' := by
  obtain ⟨i0, hi, hz0, hz1, hz2⟩ := info_parts info8
  have hl := h.1
  obtain ⟨W, hW⟩ : ∃ W, W = (w.alloc (.cells #[.int .i64 0, .int .i64 0, .int .i64 0, .slice none 0 0, .bool false] 26)).alloc (.cells #[.int .i64 0, .int .i64 0, .int .i64 0, .slice none 0 0, .bool false] 26) := ⟨_, rfl⟩
  have hba0 : Below w.heap.size w (w.alloc (.cells #[.int .i64 0, .int .i64 0, .int .i64 0, .slice none 0 0, .bool false] 26)) := (Below.refl _ _).alloc (Nat.le_refl _) _
  have hB : Below w.heap.size w W := by rw [hW]; exact hba0.alloc hba0.size _
  have hR : BoxW w.heap.size 0 0 0 (.slice none 0 0) false W := by rw [hW]; exact (boxW_new w 0 0 0 (.slice none 0 0) false).below ((Below.refl _ _).alloc (Nat.le_refl _) _)
  have hN : BoxW (w.heap.size + 1) 0 0 0 (.slice none 0 0) false W := by
    rw [hW]
    have := boxW_new (w.alloc (.cells #[.int .i64 0, .int .i64 0, .int .i64 0, .slice none 0 0, .bool false] 26)) 0 0 0 (.slice none 0 0) false
    have e : (w.alloc (.cells #[.int .i64 0, .int .i64 0, .int .i64 0, .slice none 0 0, .bool false] 26)).heap.size = w.heap.size + 1 := by simp
    rwa [e] at this
  have HW := Hid.mk' hW.symm
  clear hW hba0
  have hSW := h.below hB
  obtain ⟨z1, p1, b1, q1, ⟨l1, u1⟩, no1, yes1⟩ := num_parts bs 0 (by omega)
  obtain ⟨z2, p2, b2, q2, ⟨l2, u2⟩, no2, yes2⟩ := num_parts bs p1 l1
  obtain ⟨z3, p3, b3, q3, ⟨l3, u3⟩, no3, yes3⟩ := num_parts bs p2 l2
  obtain ⟨z4, p4, b4, q4, ⟨l4, u4⟩, no4, yes4⟩ := num_parts bs p3 l3
  have HG1 := Hid.mk' (spec_get a len cap 0 bs W hSW (by rfl))
  have HG2 := Hid.mk' (spec_get a len cap p1 bs W hSW (WalkArith.wf_i64 (by omega)))
  have HG3 := Hid.mk' (spec_get a len cap p2 bs W hSW (WalkArith.wf_i64 (by omega)))
  have HG4 := Hid.mk' (spec_get a len cap p3 bs W hSW (WalkArith.wf_i64 (by omega)))
  rw [q1] at HG1
  rw [q2] at HG2
  rw [q3] at HG3
  rw [q4] at HG4
  clear q1 q2 q3 q4
  cases b1
  · have HF := Hid.mk' (head_no1 (no1 rfl))
    clear no1 no2 no3 no4 yes1 yes2 yes3 yes4 u1 u2 u3 u4 l1 l2 l3 l4
    go_enter Try.func12, Try.ntmps12
    go_wp2_with (at_builtin; fail)
    rw [HW.out]
    refine HG1.out.mono ?_
    rintro e w1 ⟨rfl, hw1⟩
    replace hw1 := hw1.symm
    subst hw1
    go_wp2_with (at_builtin; fail)
    refine HG2.out.mono ?_
    rintro e w1 ⟨rfl, hw1⟩
    replace hw1 := hw1.symm
    subst hw1
    go_wp2_with (at_builtin; fail)
    refine HG3.out.mono ?_
    rintro e w1 ⟨rfl, hw1⟩
    replace hw1 := hw1.symm
    subst hw1
    go_wp2_with (at_builtin; fail)
    refine HG4.out.mono ?_
    rintro e w1 ⟨rfl, hw1⟩
    replace hw1 := hw1.symm
    subst hw1
    obtain ⟨z, zg⟩ := boxW_set hR (.int .i64 0) (.int .i64 0) (.int .i64 0) (.slice none 0 0) (.bool false)
    have hz : BoxW w.heap.size 0 0 0 (.slice none 0 0) false _ := z
    have hzc := hz.cells
    have HBz := Hid.mk' (hB.grown zg hB.size (fun j e => by cases e; exact Nat.le_refl _))
    obtain ⟨n0, n1, n2, n3, n4⟩ := hN.cells
    obtain ⟨r0, r1, r2, r3, r4⟩ := hR.cells
    have f0 := hR.fz 0
    have f1 := hR.fz 1
    have f2 := hR.fz 2
    have f3 := hR.fz 3
    have f4 := hR.fz 4
    go_wp2_with fail
    refine bodyPost_ret (v := .tuple #[.agg #[.int .i64 0, .int .i64 0, .int .i64 0, .slice none 0 0, .bool false], .bool false]) ?_ rfl (wordPost_none HF.out HBz.out)
    simp [results, Try.results12, go_sem, hzc.1, hzc.2.1, hzc.2.2.1, hzc.2.2.2.1, hzc.2.2.2.2]
  · obtain ⟨k, ka, g1, rfl, e1, k9⟩ := yes1 rfl
    rw [Int.zero_add] at e1
    subst e1
    cases b2
    · have HF := Hid.mk' (head_no2 g1 (no2 rfl))
      clear g1
      clear no1 no2 no3 no4 yes1 yes2 yes3 yes4 u1 u2 u3 u4 l1 l2 l3 l4
      go_enter Try.func12, Try.ntmps12
      go_wp2_with (at_builtin; fail)
      rw [HW.out]
      refine HG1.out.mono ?_
      rintro e w1 ⟨rfl, hw1⟩
      replace hw1 := hw1.symm
      subst hw1
      go_wp2_with (at_builtin; fail)
      refine HG2.out.mono ?_
      rintro e w1 ⟨rfl, hw1⟩
      replace hw1 := hw1.symm
      subst hw1
      go_wp2_with (at_builtin; fail)
      refine HG3.out.mono ?_
      rintro e w1 ⟨rfl, hw1⟩
      replace hw1 := hw1.symm
      subst hw1
      go_wp2_with (at_builtin; fail)
      refine HG4.out.mono ?_
      rintro e w1 ⟨rfl, hw1⟩
      replace hw1 := hw1.symm
      subst hw1
      obtain ⟨z, zg⟩ := boxW_set hR (.int .i64 0) (.int .i64 0) (.int .i64 0) (.slice none 0 0) (.bool false)
      have hz : BoxW w.heap.size 0 0 0 (.slice none 0 0) false _ := z
      have hzc := hz.cells
      have HBz := Hid.mk' (hB.grown zg hB.size (fun j e => by cases e; exact Nat.le_refl _))
      obtain ⟨n0, n1, n2, n3, n4⟩ := hN.cells
      obtain ⟨r0, r1, r2, r3, r4⟩ := hR.cells
      have f0 := hR.fz 0
      have f1 := hR.fz 1
      have f2 := hR.fz 2
      have f3 := hR.fz 3
      have f4 := hR.fz 4
      go_wp2_with fail
      refine bodyPost_ret (v := .tuple #[.agg #[.int .i64 0, .int .i64 0, .int .i64 0, .slice none 0 0, .bool false], .bool false]) ?_ rfl (wordPost_none HF.out HBz.out)
      simp [results, Try.results12, go_sem, hzc.1, hzc.2.1, hzc.2.2.1, hzc.2.2.2.1, hzc.2.2.2.2]
    · obtain ⟨s, kb, g2, rfl, e2, s9⟩ := yes2 rfl
      rw [← Int.natCast_add] at e2
      subst e2
      cases b3
      · have HF := Hid.mk' (head_no3 g1 g2 (no3 rfl))
        clear g1 g2
        clear no1 no2 no3 no4 yes1 yes2 yes3 yes4 u1 u2 u3 u4 l1 l2 l3 l4
        go_enter Try.func12, Try.ntmps12
        go_wp2_with (at_builtin; fail)
        rw [HW.out]
        refine HG1.out.mono ?_
        rintro e w1 ⟨rfl, hw1⟩
        replace hw1 := hw1.symm
        subst hw1
        go_wp2_with (at_builtin; fail)
        refine HG2.out.mono ?_
        rintro e w1 ⟨rfl, hw1⟩
        replace hw1 := hw1.symm
        subst hw1
        go_wp2_with (at_builtin; fail)
        refine HG3.out.mono ?_
        rintro e w1 ⟨rfl, hw1⟩
        replace hw1 := hw1.symm
        subst hw1
        go_wp2_with (at_builtin; fail)
        refine HG4.out.mono ?_
        rintro e w1 ⟨rfl, hw1⟩
        replace hw1 := hw1.symm
        subst hw1
        obtain ⟨z, zg⟩ := boxW_set hR (.int .i64 0) (.int .i64 0) (.int .i64 0) (.slice none 0 0) (.bool false)
        have hz : BoxW w.heap.size 0 0 0 (.slice none 0 0) false _ := z
        have hzc := hz.cells
        have HBz := Hid.mk' (hB.grown zg hB.size (fun j e => by cases e; exact Nat.le_refl _))
        obtain ⟨n0, n1, n2, n3, n4⟩ := hN.cells
        obtain ⟨r0, r1, r2, r3, r4⟩ := hR.cells
        have f0 := hR.fz 0
        have f1 := hR.fz 1
        have f2 := hR.fz 2
        have f3 := hR.fz 3
        have f4 := hR.fz 4
        go_wp2_with fail
        refine bodyPost_ret (v := .tuple #[.agg #[.int .i64 0, .int .i64 0, .int .i64 0, .slice none 0 0, .bool false], .bool false]) ?_ rfl (wordPost_none HF.out HBz.out)
        simp [results, Try.results12, go_sem, hzc.1, hzc.2.1, hzc.2.2.1, hzc.2.2.2.1, hzc.2.2.2.2]
      · obtain ⟨t, kc, g3, rfl, e3, t9⟩ := yes3 rfl
        rw [← Int.natCast_add] at e3
        subst e3
        cases b4
        · have HF := Hid.mk' (head_no4 g1 g2 g3 (no4 rfl))
          clear g1 g2 g3
          clear no1 no2 no3 no4 yes1 yes2 yes3 yes4 u1 u2 u3 u4 l1 l2 l3 l4
          go_enter Try.func12, Try.ntmps12
          go_wp2_with (at_builtin; fail)
          rw [HW.out]
          refine HG1.out.mono ?_
          rintro e w1 ⟨rfl, hw1⟩
          replace hw1 := hw1.symm
          subst hw1
          go_wp2_with (at_builtin; fail)
          refine HG2.out.mono ?_
          rintro e w1 ⟨rfl, hw1⟩
          replace hw1 := hw1.symm
          subst hw1
          go_wp2_with (at_builtin; fail)
          refine HG3.out.mono ?_
          rintro e w1 ⟨rfl, hw1⟩
          replace hw1 := hw1.symm
          subst hw1
          go_wp2_with (at_builtin; fail)
          refine HG4.out.mono ?_
          rintro e w1 ⟨rfl, hw1⟩
          replace hw1 := hw1.symm
          subst hw1
          obtain ⟨z, zg⟩ := boxW_set hR (.int .i64 0) (.int .i64 0) (.int .i64 0) (.slice none 0 0) (.bool false)
          have hz : BoxW w.heap.size 0 0 0 (.slice none 0 0) false _ := z
          have hzc := hz.cells
          have HBz := Hid.mk' (hB.grown zg hB.size (fun j e => by cases e; exact Nat.le_refl _))
          obtain ⟨n0, n1, n2, n3, n4⟩ := hN.cells
          obtain ⟨r0, r1, r2, r3, r4⟩ := hR.cells
          have f0 := hR.fz 0
          have f1 := hR.fz 1
          have f2 := hR.fz 2
          have f3 := hR.fz 3
          have f4 := hR.fz 4
          go_wp2_with fail
          refine bodyPost_ret (v := .tuple #[.agg #[.int .i64 0, .int .i64 0, .int .i64 0, .slice none 0 0, .bool false], .bool false]) ?_ rfl (wordPost_none HF.out HBz.out)
          simp [results, Try.results12, go_sem, hzc.1, hzc.2.1, hzc.2.2.1, hzc.2.2.2.1, hzc.2.2.2.2]
        · obtain ⟨y, kd, g4, rfl, e4, y9⟩ := yes4 rfl
          rw [← Int.natCast_add] at e4
          subst e4
          have hH := head_all g1 g2 g3 g4
          clear g1 g2 g3 g4 no1 no2 no3 no4 yes1 yes2 yes3 yes4 u1 u2 u3 l1 l2 l3
          generalize ka + kb + kc + kd = P at *
          by_cases hy : 1 < y
          · rw [if_pos hy] at hH
            have HF := Hid.mk' (head_big hH)
            have hyi : (1 : Int) < (y : Int) := by omega
            clear hH
            go_enter Try.func12, Try.ntmps12
            go_wp2_with (at_builtin; fail)
            rw [HW.out]
            refine HG1.out.mono ?_
            rintro e w1 ⟨rfl, hw1⟩
            replace hw1 := hw1.symm
            subst hw1
            go_wp2_with (at_builtin; fail)
            refine HG2.out.mono ?_
            rintro e w1 ⟨rfl, hw1⟩
            replace hw1 := hw1.symm
            subst hw1
            go_wp2_with (at_builtin; fail)
            refine HG3.out.mono ?_
            rintro e w1 ⟨rfl, hw1⟩
            replace hw1 := hw1.symm
            subst hw1
            go_wp2_with (at_builtin; fail)
            refine HG4.out.mono ?_
            rintro e w1 ⟨rfl, hw1⟩
            replace hw1 := hw1.symm
            subst hw1
            obtain ⟨z, zg⟩ := boxW_set hR (.int .i64 0) (.int .i64 0) (.int .i64 0) (.slice none 0 0) (.bool false)
            have hz : BoxW w.heap.size 0 0 0 (.slice none 0 0) false _ := z
            have hzc := hz.cells
            have HBz := Hid.mk' (hB.grown zg hB.size (fun j e => by cases e; exact Nat.le_refl _))
            obtain ⟨n0, n1, n2, n3, n4⟩ := hN.cells
            obtain ⟨r0, r1, r2, r3, r4⟩ := hR.cells
            have f0 := hR.fz 0
            have f1 := hR.fz 1
            have f2 := hR.fz 2
            have f3 := hR.fz 3
            have f4 := hR.fz 4
            go_wp2_with fail
            refine bodyPost_ret (v := .tuple #[.agg #[.int .i64 0, .int .i64 0, .int .i64 0, .slice none 0 0, .bool false], .bool false]) ?_ rfl (wordPost_none HF.out HBz.out)
            simp [results, Try.results12, go_sem, hzc.1, hzc.2.1, hzc.2.2.1, hzc.2.2.2.1, hzc.2.2.2.2]
          · rw [if_neg hy] at hH
            have hyi : ¬ (1 : Int) < (y : Int) := by omega
            have hyb : ((y : Int) == 1) = decide (y = 1) := by rw [Bool.eq_iff_iff]; simp; omega
            generalize decide (y = 1) = Y at *
            have hb6 : Below W.heap.size W (W.alloc (.cells #[.int .i64 (k : Int), .int .i64 (s : Int), .int .i64 (t : Int), .slice none 0 0, .bool Y] 26)) := (Below.refl _ _).alloc (Nat.le_refl _) _
            have hB6 := hB.trans (hb6.mono hB.size)
            have hR6 := hR.below hb6
            have hN6 := hN.below hb6
            have hT6 := boxW_new W (k : Int) (s : Int) (t : Int) (.slice none 0 0) Y
            have hWs := hN.lt
            by_cases hP : bs.length ≤ P
            · have HRC := Hid.mk' (word_bare hH hP)
              have hPi : ¬ ((P : Nat) : Int) < (len : Int) := by omega
              have HRK := Hid.mk' (spec_wordOk (k : Int) (s : Int) (t : Int) none 0 0 [] Y _ (slo_nil (W.alloc (.cells #[.int .i64 (k : Int), .int .i64 (s : Int), .int .i64 (t : Int), .slice none 0 0, .bool Y] 26)) none) (fun p hp => absurd hp List.not_mem_nil))
              clear hH hP
              cases hok : wordOk ((k : Int), (s : Int), (t : Int), [], Y)
              · rw [hok] at HRK
                have HF : Hid (getWord bs = none) := by show _ = _; rw [HRC.out, okWord_no hok]
                clear hok HRC
                go_enter Try.func12, Try.ntmps12
                go_wp2_with (at_builtin; fail)
                rw [HW.out]
                refine HG1.out.mono ?_
                rintro e w1 ⟨rfl, hw1⟩
                replace hw1 := hw1.symm
                subst hw1
                go_wp2_with (at_builtin; fail)
                refine HG2.out.mono ?_
                rintro e w1 ⟨rfl, hw1⟩
                replace hw1 := hw1.symm
                subst hw1
                go_wp2_with (at_builtin; fail)
                refine HG3.out.mono ?_
                rintro e w1 ⟨rfl, hw1⟩
                replace hw1 := hw1.symm
                subst hw1
                go_wp2_with (at_builtin; fail)
                refine HG4.out.mono ?_
                rintro e w1 ⟨rfl, hw1⟩
                replace hw1 := hw1.symm
                subst hw1
                go_wp2_with (at_builtin; fail)

                refine HRK.out.mono ?_
                rintro e w9 ⟨rfl, hb9⟩
                have hB9 := hB6.trans (hb9.mono hB6.size)
                have hR9 := hR6.below hb9
                have hN9 := hN6.below hb9
                obtain ⟨z, zg⟩ := boxW_set hR9 (.int .i64 0) (.int .i64 0) (.int .i64 0) (.slice none 0 0) (.bool false)
                have hz : BoxW w.heap.size 0 0 0 (.slice none 0 0) false _ := z
                have hzc := hz.cells
                have HBz := Hid.mk' (hB9.grown zg hB9.size (fun j e => by cases e; exact Nat.le_refl _))
                obtain ⟨n0, n1, n2, n3, n4⟩ := hN9.cells
                obtain ⟨r0, r1, r2, r3, r4⟩ := hR9.cells
                have f0 := hR9.fz 0
                have f1 := hR9.fz 1
                have f2 := hR9.fz 2
                have f3 := hR9.fz 3
                have f4 := hR9.fz 4
                go_wp2_with fail
                refine bodyPost_ret (v := .tuple #[.agg #[.int .i64 0, .int .i64 0, .int .i64 0, .slice none 0 0, .bool false], .bool false]) ?_ rfl (wordPost_none HF.out HBz.out)
                simp [results, Try.results12, go_sem, hzc.1, hzc.2.1, hzc.2.2.1, hzc.2.2.2.1, hzc.2.2.2.2]
              · rw [hok] at HRK
                have HF : Hid (getWord bs = some ((k : Int), (s : Int), (t : Int), [], Y)) := by show _ = _; rw [HRC.out, okWord_ok hok]
                clear hok HRC
                go_enter Try.func12, Try.ntmps12
                go_wp2_with (at_builtin; fail)
                rw [HW.out]
                refine HG1.out.mono ?_
                rintro e w1 ⟨rfl, hw1⟩
                replace hw1 := hw1.symm
                subst hw1
                go_wp2_with (at_builtin; fail)
                refine HG2.out.mono ?_
                rintro e w1 ⟨rfl, hw1⟩
                replace hw1 := hw1.symm
                subst hw1
                go_wp2_with (at_builtin; fail)
                refine HG3.out.mono ?_
                rintro e w1 ⟨rfl, hw1⟩
                replace hw1 := hw1.symm
                subst hw1
                go_wp2_with (at_builtin; fail)
                refine HG4.out.mono ?_
                rintro e w1 ⟨rfl, hw1⟩
                replace hw1 := hw1.symm
                subst hw1
                go_wp2_with (at_builtin; fail)

                refine HRK.out.mono ?_
                rintro e w9 ⟨rfl, hb9⟩
                have hB9 := hB6.trans (hb9.mono hB6.size)
                have hR9 := hR6.below hb9
                have hT9 := hT6.below hb9
                obtain ⟨z, zg⟩ := boxW_set hR9 (.int .i64 (k : Int)) (.int .i64 (s : Int)) (.int .i64 (t : Int)) (.slice none 0 0) (.bool Y)
                have hz : BoxW w.heap.size (k : Int) (s : Int) (t : Int) (.slice none 0 0) Y _ := z
                have hzc := hz.cells
                have HBz := Hid.mk' (hB9.grown zg hB9.size (fun j e => by cases e; exact Nat.le_refl _))
                have HOz := Hid.mk' (fun wx => ownV_nil wx w.heap.size)
                obtain ⟨t0, t1, t2, t3, t4⟩ := hT9.cells
                obtain ⟨r0, r1, r2, r3, r4⟩ := hR9.cells
                have f0 := hR9.fz 0
                have f1 := hR9.fz 1
                have f2 := hR9.fz 2
                have f3 := hR9.fz 3
                have f4 := hR9.fz 4
                go_wp2_with fail
                refine bodyPost_ret (v := .tuple #[.agg #[.int .i64 (k : Int), .int .i64 (s : Int), .int .i64 (t : Int), .slice none 0 0, .bool Y], .bool true]) ?_ rfl (wordPost_some HF.out (HOz.out _) HBz.out)
                simp [results, Try.results12, go_sem, hzc.1, hzc.2.1, hzc.2.2.1, hzc.2.2.2.1, hzc.2.2.2.2]
            · have HRC := Hid.mk' (word_ops hH hP)
              have hPi : ((P : Nat) : Int) < (len : Int) := by omega
              obtain ⟨b, off, ha, _⟩ := h.2.2 (by omega)
              subst ha
              have hpart := sl_part (h.below hB6) P (len - P) (by omega)
              have etk : (bs.drop P).take (len - P) = bs.drop P := List.take_of_length_le (by simp; omega)
              rw [etk] at hpart
              obtain ⟨W6, hW6⟩ : ∃ W6, W6 = W.alloc (.cells #[.int .i64 (k : Int), .int .i64 (s : Int), .int .i64 (t : Int), .slice none 0 0, .bool Y] 26) := ⟨_, rfl⟩
              have hs6 : W6.heap.size = W.heap.size + 1 := by rw [hW6]; simp
              rw [← hW6] at hB6 hR6 hN6 hT6 hb6 hpart
              have HW6 := Hid.mk' hW6.symm
              have hO1 := own_made W6 w.heap.size hB6.size
              rw [hs6] at hO1
              have hB7 : Below w.heap.size w (W6.alloc (.cells #[] 5)) := hB6.alloc hB6.size _
              have hR7 := hR6.below ((Below.refl _ W6).alloc (Nat.le_refl _) (.cells #[] 5))
              have hN7 := hN6.below ((Below.refl _ W6).alloc (Nat.le_refl _) (.cells #[] 5))
              have hT7 := hT6.below ((Below.refl _ W6).alloc (Nat.le_refl _) (.cells #[] 5))
              have hpa := hpart.below ((Below.refl _ W6).alloc (Nat.le_refl _) (.cells #[] 5))
              have HSL := Hid.mk' (sl_cells hpa)
              generalize hBY : bs.drop P = body at *
              generalize hnn : len - P = n at *
              have hbl : body.length = n := by rw [← hBY]; simp; omega
              have hl2 : (byteVals body).length = n * 1 := by rw [byteVals_length]; omega
              have hc3 : 0 + n ≤ maxLen := by unfold maxLen; omega
              have hc4 : (0 + n) * 1 ≤ 140737488355328 := by omega
              have hi1 : (P : Int) ≤ (cap : Int) := by omega
              have hcp : ¬ cap = P := by omega
              clear hH hP hpart hpa etk hBY hW6
              go_enter Try.func12, Try.ntmps12
              go_wp2_with (at_builtin; fail)
              rw [HW.out]
              refine HG1.out.mono ?_
              rintro e w1 ⟨rfl, hw1⟩
              replace hw1 := hw1.symm
              subst hw1
              go_wp2_with (at_builtin; fail)
              refine HG2.out.mono ?_
              rintro e w1 ⟨rfl, hw1⟩
              replace hw1 := hw1.symm
              subst hw1
              go_wp2_with (at_builtin; fail)
              refine HG3.out.mono ?_
              rintro e w1 ⟨rfl, hw1⟩
              replace hw1 := hw1.symm
              subst hw1
              go_wp2_with (at_builtin; fail)
              refine HG4.out.mono ?_
              rintro e w1 ⟨rfl, hw1⟩
              replace hw1 := hw1.symm
              subst hw1
              go_wp2_with (at_builtin; rw [HW6.out]; refine wpList_append_own _ rfl (.tmp 78) (.tmp 81) 22 rfl w.heap.size 5 i0 (.int .u8 0) 1 1 Try.underlying22 hi hz0 hz1 hz2 rfl (by decide) _ _ _ rfl hO1.2 ⟨b, off + P, none⟩ n (cap - P) (byteVals body) ?e1 hl2 HSL.out (byteVals_oneCell _) hc3 hc4 hB7.size ?_)
              case e1 => simp [Act.eval]
              intro v2 w2 hown2 hgrow2 hnn2
              have hnn' : ¬ v2 = .slice none 0 0 := by simpa using hnn2
              obtain ⟨g2, cp2, hv2, hO2⟩ := own_cat (n := 0) (bs := []) (ns := body) rfl hbl hnn' (by simpa using hown2)
              rw [Nat.zero_add] at hv2 hO2
              rw [List.nil_append] at hO2
              subst hv2
              have hgr : (W6.alloc (.cells #[] 5)).grownBy w2 (some (W.heap.size + 1)) := hgrow2
              have hB2 : Below w.heap.size w w2 := hB7.grown hgr hB7.size (fun j e => by cases e; omega)
              have hR2 := hR7.grown hgr (by simp <;> omega)
              have hN2 := hN7.grown hgr (by simp <;> omega)
              have hT2 := hT7.grown hgr (by simp <;> omega)
              have hmx := hO2.max
              have HGO := Hid.mk' (spec_getOps (some ⟨g2, 0, none⟩) n cp2 body w2 hO2.sl (by omega) (by omega))
              clear hown2 hgrow2 hnn2 hnn' hgr hR7 hN7 hT7 hB7 HSL hl2 hO1 HW6 HG1 HG2 HG3 HG4 HW hR6 hN6 hT6 hB6 hb6 hR hN hO2
              rcases hGo : getOps body with _ | ops
              · have HF : Hid (getWord bs = none) := by show _ = _; rw [HRC.out, hGo]
                rw [hGo] at HGO
                clear hGo HRC
                go_wp2_with (at_builtin; fail)
                refine HGO.out.mono ?_
                rintro e w7 ⟨g8, n8, cp8, rfl, hO8, hb7⟩
                simp only [Option.isSome_none]
                have hB7 := hB2.trans (hb7.mono hB2.size)
                have hR7 := hR2.below hb7
                have hN7 := hN2.below hb7
                obtain ⟨z, zg⟩ := boxW_set hR7 (.int .i64 0) (.int .i64 0) (.int .i64 0) (.slice none 0 0) (.bool false)
                have hz : BoxW w.heap.size 0 0 0 (.slice none 0 0) false _ := z
                have hzc := hz.cells
                have HBz := Hid.mk' (hB7.grown zg hB7.size (fun j e => by cases e; exact Nat.le_refl _))
                obtain ⟨n0, n1, n2, n3, n4⟩ := hN7.cells
                obtain ⟨r0, r1, r2, r3, r4⟩ := hR7.cells
                have f0 := hR7.fz 0
                have f1 := hR7.fz 1
                have f2 := hR7.fz 2
                have f3 := hR7.fz 3
                have f4 := hR7.fz 4
                go_wp2_with fail
                refine bodyPost_ret (v := .tuple #[.agg #[.int .i64 0, .int .i64 0, .int .i64 0, .slice none 0 0, .bool false], .bool false]) ?_ rfl (wordPost_none HF.out HBz.out)
                simp [results, Try.results12, go_sem, hzc.1, hzc.2.1, hzc.2.2.1, hzc.2.2.2.1, hzc.2.2.2.2]
              · obtain ⟨hopk, _⟩ := getOps_some hGo
                have hkeys : Hid (∀ p ∈ ops, p.2.1.size ≤ 1099511627776) := fun p hp => by have := keyOk_size ((odOk_iff p).1 (((opsOk_iff _).1 hopk).1.1 p hp)).2.2.1; omega
                have HRC2 : Hid (getWord bs = okWord ((k : Int), (s : Int), (t : Int), ops, Y)) := by show _ = _; rw [HRC.out, hGo]
                rw [hGo] at HGO
                clear hGo HRC hopk
                go_wp2_with (at_builtin; fail)
                refine HGO.out.mono ?_
                rintro e w7 ⟨g8, n8, cp8, he8, hO8, hb7⟩
                simp only [Option.isSome_some, Option.getD_some] at he8 hO8
                subst he8
                have hB7 := hB2.trans (hb7.mono hB2.size)
                have hR7 := hR2.below hb7
                have hN7 := hN2.below hb7
                have hT7 := hT2.below hb7
                have hT8 := boxW_ops hT7 (.slice (some ⟨g8, 0, none⟩) n8 cp8)
                have hg8 := hO8.lt
                have hT2l := hT2.lt
                have hg8w : W.heap.size < g8 := by omega
                have hO8' := (hO8.mono (base' := w.heap.size) (by omega)).grown hT8.2 (by simp; omega)
                have hB8 : Below w.heap.size w (w7.setCell ⟨W.heap.size, 3, none⟩ (.slice (some ⟨g8, 0, none⟩) n8 cp8)) := hB7.grown hT8.2 hB7.size (fun j e => by cases e; omega)
                have hR8 := hR7.grown hT8.2 (by simp; omega)
                have hN8 := hN7.grown hT8.2 (by simp; omega)
                have HRK := Hid.mk' (spec_wordOk (k : Int) (s : Int) (t : Int) (some ⟨g8, 0, none⟩) n8 cp8 ops Y _ hO8'.sl hkeys.out)
                obtain ⟨u0, u1, u2, u3, u4⟩ := hT7.cells
                have v3 := hT7.fz 3
                have hTb := hT8.1
                obtain ⟨y0, y1, y2, y3, y4⟩ := hTb.cells
                obtain ⟨W8, hW8⟩ : ∃ W8, W8 = w7.setCell ⟨W.heap.size, 3, none⟩ (.slice (some ⟨g8, 0, none⟩) n8 cp8) := ⟨_, rfl⟩
                rw [← hW8] at HRK y0 y1 y2 y3 y4 hTb hR8 hN8 hB8 hO8'
                have HW8 := Hid.mk' hW8.symm
                clear hW8 hT8 hO8 hR7 hN7 hT7 hB7 hb7
                cases hok : wordOk ((k : Int), (s : Int), (t : Int), ops, Y)
                · rw [hok] at HRK
                  have HF : Hid (getWord bs = none) := by show _ = _; rw [HRC2.out, okWord_no hok]
                  clear hok HRC2
                  go_wp2_with (at_builtin; fail)
                  rw [HW8.out]
                  refine HRK.out.mono ?_
                  rintro e w9 ⟨rfl, hb9⟩
                  have hB9 := hB8.trans (hb9.mono hB8.size)
                  have hR9 := hR8.below hb9
                  have hN9 := hN8.below hb9
                  obtain ⟨z, zg⟩ := boxW_set hR9 (.int .i64 0) (.int .i64 0) (.int .i64 0) (.slice none 0 0) (.bool false)
                  have hz : BoxW w.heap.size 0 0 0 (.slice none 0 0) false _ := z
                  have hzc := hz.cells
                  have HBz := Hid.mk' (hB9.grown zg hB9.size (fun j e => by cases e; exact Nat.le_refl _))
                  obtain ⟨n0, n1, n2, n3, n4⟩ := hN9.cells
                  obtain ⟨r0, r1, r2, r3, r4⟩ := hR9.cells
                  have f0 := hR9.fz 0
                  have f1 := hR9.fz 1
                  have f2 := hR9.fz 2
                  have f3 := hR9.fz 3
                  have f4 := hR9.fz 4
                  go_wp2_with fail
                  refine bodyPost_ret (v := .tuple #[.agg #[.int .i64 0, .int .i64 0, .int .i64 0, .slice none 0 0, .bool false], .bool false]) ?_ rfl (wordPost_none HF.out HBz.out)
                  simp [results, Try.results12, go_sem, hzc.1, hzc.2.1, hzc.2.2.1, hzc.2.2.2.1, hzc.2.2.2.2]
                · rw [hok] at HRK
                  have HF : Hid (getWord bs = some ((k : Int), (s : Int), (t : Int), ops, Y)) := by show _ = _; rw [HRC2.out, okWord_ok hok]
                  clear hok HRC2
                  go_wp2_with (at_builtin; fail)
                  rw [HW8.out]
                  refine HRK.out.mono ?_
                  rintro e w9 ⟨rfl, hb9⟩
                  have hB9 := hB8.trans (hb9.mono hB8.size)
                  have hR9 := hR8.below hb9
                  have hT9 := hTb.below hb9
                  have hO9 := hO8'.below hb9
                  clear y0 y1 y2 y3 y4 u0 u1 u2 u3 u4 v3
                  obtain ⟨z, zg⟩ := boxW_set hR9 (.int .i64 (k : Int)) (.int .i64 (s : Int)) (.int .i64 (t : Int)) (.slice (some ⟨g8, 0, none⟩) n8 cp8) (.bool Y)
                  have hz : BoxW w.heap.size (k : Int) (s : Int) (t : Int) (.slice (some ⟨g8, 0, none⟩) n8 cp8) Y _ := z
                  have hzc := hz.cells
                  have HBz := Hid.mk' (hB9.grown zg hB9.size (fun j e => by cases e; exact Nat.le_refl _))
                  have HOz := Hid.mk' (ownV_of (hO9.grown zg (by simp; omega)))
                  obtain ⟨t0, t1, t2, t3, t4⟩ := hT9.cells
                  obtain ⟨r0, r1, r2, r3, r4⟩ := hR9.cells
                  have f0 := hR9.fz 0
                  have f1 := hR9.fz 1
                  have f2 := hR9.fz 2
                  have f3 := hR9.fz 3
                  have f4 := hR9.fz 4
                  go_wp2_with fail
                  refine bodyPost_ret (v := .tuple #[.agg #[.int .i64 (k : Int), .int .i64 (s : Int), .int .i64 (t : Int), .slice (some ⟨g8, 0, none⟩) n8 cp8, .bool Y], .bool true]) ?_ rfl (wordPost_some HF.out (HOz.out) HBz.out)
                  simp [results, Try.results12, go_sem, hzc.1, hzc.2.1, hzc.2.2.1, hzc.2.2.2.1, hzc.2.2.2.2]
end Go.Proofs.Ytjodbijcgcjndaa.wds
