/- The program's words, read of bytes: GetWord. Three rows of bytes that a law made (the argument's copy, the answer, the specification's answer), kept from step to step. What the exact law of GetWord keeps from step to step: the bytes that were handed in, the answer's word and the specification's, each in its box. The laws' own comparison of bytes, where they are alike. -/
import Derived.Test.YtjodbijcgcjndaaBund10bj
import Derived.Test.YtjodbijcgcjndaaRows
import Derived.Test.YtjodbijcgcjndaaBund10aa
import Derived.Test.YtjodbijcgcjndaaBund10ab
import Derived.Test.YtjodbijcgcjndaaBund10aj
import Derived.Test.YtjodbijcgcjndaaBund10bc
namespace Go.Proofs.Ytjodbijcgcjndaa.wds
open Go Go.RowKit Go.Proofs.Ytjodbijcgcjndaa.base Go.Proofs.Ytjodbijcgcjndaa.pairs Go.Proofs.Ytjodbijcgcjndaa.ords Go.Proofs.Ytjodbijcgcjndaa.putnum Go.Proofs.Ytjodbijcgcjndaa.puttext Go.Proofs.Ytjodbijcgcjndaa.getnum Go.Proofs.Ytjodbijcgcjndaa.gettext Go.Proofs.Ytjodbijcgcjndaa.gettexts
set_option linter.unusedVariables false
set_option linter.unusedSimpArgs false

set_option maxRecDepth 100000 in
set_option maxHeartbeats 8000000 in
theorem impl_getWord (a : Option Addr) (len cap : Nat) (bs : List UInt8) (w : World) (h : Sl w a len bs) (hcap : len ≤ cap) (hsz : len ≤ 1099511627776) :
    Calls Try.prog 11 #[.slice a len cap] w fun e w' => WordPost w (getWord bs) e w' := by
  have hl := h.1
  obtain ⟨W, hW⟩ : ∃ W, W = w.alloc (.cells #[.int .i64 0, .int .i64 0, .int .i64 0, .slice none 0 0, .bool false] 26) := ⟨_, rfl⟩
  have hB : Below w.heap.size w W := by rw [hW]; exact (Below.refl _ _).alloc (Nat.le_refl _) _
  have hR : BoxW w.heap.size 0 0 0 (.slice none 0 0) false W := by rw [hW]; exact boxW_new w 0 0 0 (.slice none 0 0) false
  have HW := Hid.mk' hW.symm
  clear hW
  have HHD := Hid.mk' (i_getHead a len cap bs W (h.below hB) hsz)
  rcases hH : getHead bs with _ | ⟨⟨k, s, t, Y⟩, P⟩
  · have HF := Hid.mk' (head_big hH)
    rw [hH, headV] at HHD
    clear hH
    go_enter Try.func11, Try.ntmps11
    go_wp2_with fail
    rw [HW.out]
    refine HHD.out.mono ?_
    rintro e w1 ⟨rfl, hb1⟩
    have hB1 := hB.trans (hb1.mono hB.size)
    have hR1 := hR.below hb1
    have hRl := hR1.lt
    clear HHD hR
    have hne : ¬ w.heap.size = w1.heap.size := by omega
    have hne2 : ¬ w1.heap.size = w.heap.size := by omega
    obtain ⟨r0, r1, r2, r3, r4⟩ := hR1.cells
    have f0 := hR1.fz 0
    have f1 := hR1.fz 1
    have f2 := hR1.fz 2
    have f3 := hR1.fz 3
    have f4 := hR1.fz 4
    obtain ⟨z, zg⟩ := boxW_set hR1 (.int .i64 0) (.int .i64 0) (.int .i64 0) (.slice none 0 0) (.bool false)
    have hz0 : BoxW w.heap.size 0 0 0 (.slice none 0 0) false _ := z
    have hz := hz0.below ((Below.refl _ _).alloc (Nat.le_refl _) (.cells #[.int .i64 0, .int .i64 0, .int .i64 0, .slice none 0 0, .bool false] 26))
    have hzc := hz.cells
    have hBz0 := hB1.grown zg hB1.size (fun j e => by cases e; exact Nat.le_refl _)
    have HBz := Hid.mk' (hBz0.alloc hBz0.size (.cells #[.int .i64 0, .int .i64 0, .int .i64 0, .slice none 0 0, .bool false] 26))
    clear hz0 hz z zg hBz0
    have HZC := Hid.mk' hzc
    clear hzc
    go_wp2_with fail
    have hzc := HZC.out
    refine bodyPost_ret (v := .tuple #[.agg #[.int .i64 0, .int .i64 0, .int .i64 0, .slice none 0 0, .bool false], .bool false]) ?_ rfl (wordPost_none HF.out HBz.out)
    simp [results, Try.results11, go_sem, hzc.1, hzc.2.1, hzc.2.2.1, hzc.2.2.2.1, hzc.2.2.2.2]
  · obtain ⟨_, hPl, hP1, hP20, _⟩ := getHead_some hH
    rw [hH, headV] at HHD
    by_cases hP : bs.length ≤ P
    · have HRC := Hid.mk' (word_bare hH hP)
      have hPi : ¬ ((P : Nat) : Int) < (len : Int) := by omega
      have HRK : Hid (∀ wx, Calls Try.prog 15 #[wdV (k : Int) (s : Int) (t : Int) (.slice none 0 0) Y] wx fun e w' => e = .returned (.bool (wordOk ((k : Int), (s : Int), (t : Int), [], Y))) ∧ Below wx.heap.size wx w') := fun wx => impl_wordOk (k : Int) (s : Int) (t : Int) none 0 0 [] Y wx (slo_nil wx none) (fun p hp => absurd hp List.not_mem_nil)
      clear hH hP
      cases hok : wordOk ((k : Int), (s : Int), (t : Int), [], Y)
      · rw [hok] at HRK
        have HF : Hid (getWord bs = none) := by show _ = _; rw [HRC.out, okWord_no hok]
        clear hok HRC
        go_enter Try.func11, Try.ntmps11
        go_wp2_with fail
        rw [HW.out]
        refine HHD.out.mono ?_
        rintro e w1 ⟨rfl, hb1⟩
        have hB1 := hB.trans (hb1.mono hB.size)
        have hR1 := hR.below hb1
        have hb6 : Below w1.heap.size w1 (w1.alloc (.cells #[.int .i64 (k : Int), .int .i64 (s : Int), .int .i64 (t : Int), .slice none 0 0, .bool Y] 26)) := (Below.refl _ _).alloc (Nat.le_refl _) _
        have hB6 := hB1.trans (hb6.mono hB1.size)
        have hR6 := hR1.below hb6
        have hT6 := boxW_new w1 (k : Int) (s : Int) (t : Int) (.slice none 0 0) Y
        have hRl := hR1.lt
        go_wp2_with fail
        refine (HRK.out _).mono ?_
        rintro e w9 ⟨rfl, hb9⟩
        have hB9 := hB6.trans (hb9.mono hB6.size)
        have hR9 := hR6.below hb9
        clear HRK HHD
        obtain ⟨z, zg⟩ := boxW_set hR9 (.int .i64 0) (.int .i64 0) (.int .i64 0) (.slice none 0 0) (.bool false)
        have hz : BoxW w.heap.size 0 0 0 (.slice none 0 0) false _ := z
        have hzc := hz.cells
        have HBz := Hid.mk' (hB9.grown zg hB9.size (fun j e => by cases e; exact Nat.le_refl _))
        obtain ⟨r0, r1, r2, r3, r4⟩ := hR9.cells
        have f0 := hR9.fz 0
        have f1 := hR9.fz 1
        have f2 := hR9.fz 2
        have f3 := hR9.fz 3
        have f4 := hR9.fz 4
        go_wp2_with fail
        refine bodyPost_ret (v := .tuple #[.agg #[.int .i64 0, .int .i64 0, .int .i64 0, .slice none 0 0, .bool false], .bool false]) ?_ rfl (wordPost_none HF.out HBz.out)
        simp [results, Try.results11, go_sem, hzc.1, hzc.2.1, hzc.2.2.1, hzc.2.2.2.1, hzc.2.2.2.2]
      · rw [hok] at HRK
        have HF : Hid (getWord bs = some ((k : Int), (s : Int), (t : Int), [], Y)) := by show _ = _; rw [HRC.out, okWord_ok hok]
        clear hok HRC
        go_enter Try.func11, Try.ntmps11
        go_wp2_with fail
        rw [HW.out]
        refine HHD.out.mono ?_
        rintro e w1 ⟨rfl, hb1⟩
        have hB1 := hB.trans (hb1.mono hB.size)
        have hR1 := hR.below hb1
        have hb6 : Below w1.heap.size w1 (w1.alloc (.cells #[.int .i64 (k : Int), .int .i64 (s : Int), .int .i64 (t : Int), .slice none 0 0, .bool Y] 26)) := (Below.refl _ _).alloc (Nat.le_refl _) _
        have hB6 := hB1.trans (hb6.mono hB1.size)
        have hR6 := hR1.below hb6
        have hT6 := boxW_new w1 (k : Int) (s : Int) (t : Int) (.slice none 0 0) Y
        have hRl := hR1.lt
        go_wp2_with fail
        refine (HRK.out _).mono ?_
        rintro e w9 ⟨rfl, hb9⟩
        have hB9 := hB6.trans (hb9.mono hB6.size)
        have hR9 := hR6.below hb9
        have hT9 := hT6.below hb9
        clear HRK HHD
        obtain ⟨z, zg⟩ := boxW_set hR9 (.int .i64 (k : Int)) (.int .i64 (s : Int)) (.int .i64 (t : Int)) (.slice none 0 0) (.bool Y)
        have hz : BoxW w.heap.size (k : Int) (s : Int) (t : Int) (.slice none 0 0) Y _ := z
        have hzc := hz.cells
        have HBz := Hid.mk' (hB9.grown zg hB9.size (fun j e => by cases e; exact Nat.le_refl _))
        have HOz := Hid.mk' (fun wx => ownV_nil wx w.heap.size)
        obtain ⟨t0, t1, t2, t3, t4⟩ := hT9.cells
        obtain ⟨r0, r1, r2, r3, r4⟩ := hR9.cells
        have f0 := hR9.fz 0
        have f1 := hR9.fz 1
        have f2 := hR9.fz 2
        have f3 := hR9.fz 3
        have f4 := hR9.fz 4
        go_wp2_with fail
        refine bodyPost_ret (v := .tuple #[.agg #[.int .i64 (k : Int), .int .i64 (s : Int), .int .i64 (t : Int), .slice none 0 0, .bool Y], .bool true]) ?_ rfl (wordPost_some HF.out (HOz.out _) HBz.out)
        simp [results, Try.results11, go_sem, hzc.1, hzc.2.1, hzc.2.2.1, hzc.2.2.2.1, hzc.2.2.2.2]
    · have HRC := Hid.mk' (word_ops hH hP)
      have hPi : ((P : Nat) : Int) < (len : Int) := by omega
      obtain ⟨b, off, ha, _⟩ := h.2.2 (by omega)
      subst ha
      have hi1 : (P : Int) ≤ (cap : Int) := by omega
      have hcp : ¬ cap = P := by omega
      have HGO : Hid (∀ wx, Below w.heap.size w wx → Calls Try.prog 36 #[.slice (some ⟨b, off + P, none⟩) (len - P) (cap - P)] wx fun e w' => GetPost wx (getOps (bs.drop P)) e w') := fun wx hx => by
        have hpart := sl_part (h.below hx) P (len - P) (by omega)
        rw [show (bs.drop P).take (len - P) = bs.drop P from List.take_of_length_le (by simp; omega)] at hpart
        exact impl_getOps (some ⟨b, off + P, none⟩) (len - P) (cap - P) (bs.drop P) wx hpart (by omega) (by omega)
      clear hH hP
      generalize bs.drop P = body at *
      rcases hGo : getOps body with _ | ops
      · have HF : Hid (getWord bs = none) := by show _ = _; rw [HRC.out, hGo]
        rw [hGo] at HGO
        clear hGo HRC
        go_enter Try.func11, Try.ntmps11
        go_wp2_with fail
        rw [HW.out]
        refine HHD.out.mono ?_
        rintro e w1 ⟨rfl, hb1⟩
        have hB1 := hB.trans (hb1.mono hB.size)
        have hR1 := hR.below hb1
        have hb6 : Below w1.heap.size w1 (w1.alloc (.cells #[.int .i64 (k : Int), .int .i64 (s : Int), .int .i64 (t : Int), .slice none 0 0, .bool Y] 26)) := (Below.refl _ _).alloc (Nat.le_refl _) _
        have hB6 := hB1.trans (hb6.mono hB1.size)
        have hR6 := hR1.below hb6
        have hT6 := boxW_new w1 (k : Int) (s : Int) (t : Int) (.slice none 0 0) Y
        have hRl := hR1.lt
        go_wp2_with fail
        refine (HGO.out _ hB6).mono ?_
        rintro e w7 ⟨g8, n8, cp8, rfl, hO8, hb7⟩
        simp only [Option.isSome_none]
        have hB7 := hB6.trans (hb7.mono hB6.size)
        have hR7 := hR6.below hb7
        have hT7 := hT6.below hb7
        have hT8 := boxW_ops hT7 (.slice (some ⟨g8, 0, none⟩) n8 cp8)
        have hB8 : Below w.heap.size w (w7.setCell ⟨w1.heap.size, 3, none⟩ (.slice (some ⟨g8, 0, none⟩) n8 cp8)) := hB7.grown hT8.2 hB7.size (fun j e => by cases e; exact hB1.size)
        have hR8 := hR7.grown hT8.2 (by simp; omega)
        obtain ⟨u0, u1, u2, u3, u4⟩ := hT7.cells
        have v3 := hT7.fz 3
        clear HGO HHD
        obtain ⟨z, zg⟩ := boxW_set hR8 (.int .i64 0) (.int .i64 0) (.int .i64 0) (.slice none 0 0) (.bool false)
        have hz : BoxW w.heap.size 0 0 0 (.slice none 0 0) false _ := z
        have hzc := hz.cells
        have HBz := Hid.mk' (hB8.grown zg hB8.size (fun j e => by cases e; exact Nat.le_refl _))
        obtain ⟨r0, r1, r2, r3, r4⟩ := hR8.cells
        have f0 := hR8.fz 0
        have f1 := hR8.fz 1
        have f2 := hR8.fz 2
        have f3 := hR8.fz 3
        have f4 := hR8.fz 4
        go_wp2_with fail
        refine bodyPost_ret (v := .tuple #[.agg #[.int .i64 0, .int .i64 0, .int .i64 0, .slice none 0 0, .bool false], .bool false]) ?_ rfl (wordPost_none HF.out HBz.out)
        simp [results, Try.results11, go_sem, hzc.1, hzc.2.1, hzc.2.2.1, hzc.2.2.2.1, hzc.2.2.2.2]
      · obtain ⟨hopk, _⟩ := getOps_some hGo
        have hkeys : Hid (∀ p ∈ ops, p.2.1.size ≤ 1099511627776) := fun p hp => by have := keyOk_size ((odOk_iff p).1 (((opsOk_iff _).1 hopk).1.1 p hp)).2.2.1; omega
        have HRC2 : Hid (getWord bs = okWord ((k : Int), (s : Int), (t : Int), ops, Y)) := by show _ = _; rw [HRC.out, hGo]
        rw [hGo] at HGO
        clear hGo HRC hopk
        go_enter Try.func11, Try.ntmps11
        go_wp2_with fail
        rw [HW.out]
        refine HHD.out.mono ?_
        rintro e w1 ⟨rfl, hb1⟩
        have hB1 := hB.trans (hb1.mono hB.size)
        have hR1 := hR.below hb1
        have hb6 : Below w1.heap.size w1 (w1.alloc (.cells #[.int .i64 (k : Int), .int .i64 (s : Int), .int .i64 (t : Int), .slice none 0 0, .bool Y] 26)) := (Below.refl _ _).alloc (Nat.le_refl _) _
        have hB6 := hB1.trans (hb6.mono hB1.size)
        have hR6 := hR1.below hb6
        have hT6 := boxW_new w1 (k : Int) (s : Int) (t : Int) (.slice none 0 0) Y
        have hRl := hR1.lt
        go_wp2_with fail
        refine (HGO.out _ hB6).mono ?_
        rintro e w7 ⟨g8, n8, cp8, he8, hO8, hb7⟩
        simp only [Option.isSome_some, Option.getD_some] at he8 hO8
        subst he8
        have hB7 := hB6.trans (hb7.mono hB6.size)
        have hR7 := hR6.below hb7
        have hT7 := hT6.below hb7
        have hT8 := boxW_ops hT7 (.slice (some ⟨g8, 0, none⟩) n8 cp8)
        have hg8 := hO8.lt
        have hT6l := hT6.lt
        have hg8w : w1.heap.size < g8 := by omega
        have hO8' := (hO8.mono (base' := w.heap.size) (by omega)).grown hT8.2 (by simp; omega)
        have hB8 : Below w.heap.size w (w7.setCell ⟨w1.heap.size, 3, none⟩ (.slice (some ⟨g8, 0, none⟩) n8 cp8)) := hB7.grown hT8.2 hB7.size (fun j e => by cases e; exact hB1.size)
        have hR8 := hR7.grown hT8.2 (by simp; omega)
        have HRK := Hid.mk' (impl_wordOk (k : Int) (s : Int) (t : Int) (some ⟨g8, 0, none⟩) n8 cp8 ops Y _ hO8'.sl hkeys.out)
        obtain ⟨u0, u1, u2, u3, u4⟩ := hT7.cells
        have v3 := hT7.fz 3
        have hTb := hT8.1
        obtain ⟨y0, y1, y2, y3, y4⟩ := hTb.cells
        obtain ⟨W8, hW8⟩ : ∃ W8, W8 = w7.setCell ⟨w1.heap.size, 3, none⟩ (.slice (some ⟨g8, 0, none⟩) n8 cp8) := ⟨_, rfl⟩
        rw [← hW8] at HRK y0 y1 y2 y3 y4 hTb hR8 hB8 hO8'
        have HW8 := Hid.mk' hW8.symm
        clear hW8 hT8 hO8 hR7 hT7 hB7 hb7 HGO HHD
        cases hok : wordOk ((k : Int), (s : Int), (t : Int), ops, Y)
        · rw [hok] at HRK
          have HF : Hid (getWord bs = none) := by show _ = _; rw [HRC2.out, okWord_no hok]
          clear hok HRC2
          go_wp2_with fail
          rw [HW8.out]
          refine HRK.out.mono ?_
          rintro e w9 ⟨rfl, hb9⟩
          have hB9 := hB8.trans (hb9.mono hB8.size)
          have hR9 := hR8.below hb9
          obtain ⟨z, zg⟩ := boxW_set hR9 (.int .i64 0) (.int .i64 0) (.int .i64 0) (.slice none 0 0) (.bool false)
          have hz : BoxW w.heap.size 0 0 0 (.slice none 0 0) false _ := z
          have hzc := hz.cells
          have HBz := Hid.mk' (hB9.grown zg hB9.size (fun j e => by cases e; exact Nat.le_refl _))
          obtain ⟨r0, r1, r2, r3, r4⟩ := hR9.cells
          have f0 := hR9.fz 0
          have f1 := hR9.fz 1
          have f2 := hR9.fz 2
          have f3 := hR9.fz 3
          have f4 := hR9.fz 4
          go_wp2_with fail
          refine bodyPost_ret (v := .tuple #[.agg #[.int .i64 0, .int .i64 0, .int .i64 0, .slice none 0 0, .bool false], .bool false]) ?_ rfl (wordPost_none HF.out HBz.out)
          simp [results, Try.results11, go_sem, hzc.1, hzc.2.1, hzc.2.2.1, hzc.2.2.2.1, hzc.2.2.2.2]
        · rw [hok] at HRK
          have HF : Hid (getWord bs = some ((k : Int), (s : Int), (t : Int), ops, Y)) := by show _ = _; rw [HRC2.out, okWord_ok hok]
          clear hok HRC2
          go_wp2_with fail
          rw [HW8.out]
          refine HRK.out.mono ?_
          rintro e w9 ⟨rfl, hb9⟩
          have hB9 := hB8.trans (hb9.mono hB8.size)
          have hR9 := hR8.below hb9
          have hT9 := hTb.below hb9
          have hO9 := hO8'.below hb9
          clear y0 y1 y2 y3 y4 u0 u1 u2 u3 u4 v3
          obtain ⟨z, zg⟩ := boxW_set hR9 (.int .i64 (k : Int)) (.int .i64 (s : Int)) (.int .i64 (t : Int)) (.slice (some ⟨g8, 0, none⟩) n8 cp8) (.bool Y)
          have hz : BoxW w.heap.size (k : Int) (s : Int) (t : Int) (.slice (some ⟨g8, 0, none⟩) n8 cp8) Y _ := z
          have hzc := hz.cells
          have HBz := Hid.mk' (hB9.grown zg hB9.size (fun j e => by cases e; exact Nat.le_refl _))
          have HOz := Hid.mk' (ownV_of (hO9.grown zg (by simp; omega)))
          obtain ⟨t0, t1, t2, t3, t4⟩ := hT9.cells
          obtain ⟨r0, r1, r2, r3, r4⟩ := hR9.cells
          have f0 := hR9.fz 0
          have f1 := hR9.fz 1
          have f2 := hR9.fz 2
          have f3 := hR9.fz 3
          have f4 := hR9.fz 4
          go_wp2_with fail
          refine bodyPost_ret (v := .tuple #[.agg #[.int .i64 (k : Int), .int .i64 (s : Int), .int .i64 (t : Int), .slice (some ⟨g8, 0, none⟩) n8 cp8, .bool Y], .bool true]) ?_ rfl (wordPost_some HF.out (HOz.out) HBz.out)
          simp [results, Try.results11, go_sem, hzc.1, hzc.2.1, hzc.2.2.1, hzc.2.2.2.1, hzc.2.2.2.2]
end Go.Proofs.Ytjodbijcgcjndaa.wds

namespace Go.Proofs.Ytjodbijcgcjndaa.help
open Go.RowKit Go.Proofs.Ytjodbijcgcjndaa.base
set_option linter.unusedVariables false

theorem eqB (a a2 : Option Addr) (len cap len2 cap2 : Nat) (bs bs2 : List UInt8) (w : World) (h : Sl w a len bs) (h2 : Sl w a2 len2 bs2) (he : bs = bs2) :
    Calls Try.prog 21 #[.slice a len cap, .slice a2 len2 cap2] w fun e w' => e = .returned (.bool true) ∧ Below w.heap.size w w' := by
  refine (eqByteS a a2 len cap len2 cap2 bs bs2 w h h2).mono ?_
  rintro e w' ⟨rfl, n, rfl⟩
  exact ⟨ret_bool (decide_eq_true he), below_drewN (Below.refl _ _) _⟩

theorem mark1 (g len cap base : Nat) (bs : List UInt8) (w : World) (h : Own w base g len cap bs) (hk0 : len ≤ 1099511627775) :
    Calls Try.prog 23 #[.slice (some ⟨g, 0, none⟩) len cap, .int .i64 1] w fun e w' => e = .returned (.int .i64 (1 + (len : Int))) ∧ Own w' base g len cap (marks 1 len) ∧ w.grownBy w' (some g) := by
  refine (show Calls Try.prog 23 #[.slice (some ⟨g, 0, none⟩) len cap, .int .i64 ((1 : Nat) : Int)] w _ from markByteS g len cap 1 base bs w h (by omega)).mono ?_
  rintro e w' ⟨rfl, h1, h2⟩
  exact ⟨ret_int (by omega), h1, h2⟩
theorem held1 (a : Option Addr) (len cap : Nat) (w : World) (h : Sl w a len (marks 1 len)) (hk0 : len ≤ 1099511627775) :
    Calls Try.prog 24 #[.slice a len cap, .int .i64 1] w fun e w' => e = .returned (.int .i64 (1 + (len : Int))) ∧ Below w.heap.size w w' := by
  refine (show Calls Try.prog 24 #[.slice a len cap, .int .i64 ((1 : Nat) : Int)] w _ from heldByteS a len cap 1 w h (by omega)).mono ?_
  rintro e w' ⟨rfl, rfl⟩
  exact ⟨ret_int (by omega), Below.refl _ _⟩

structure Trio (w0 w : World) (gx lx cx : Nat) (X : List UInt8) (gg lg cg : Nat) (G : List UInt8) (gw lw cw : Nat) (W : List UInt8) : Prop where
  bel : Below w0.heap.size w0 w
  x : Own w w0.heap.size gx lx cx X
  g : Own w w0.heap.size gg lg cg G
  s : Own w w0.heap.size gw lw cw W
  xg : gx ≠ gg
  xs : gx ≠ gw
  gs : gg ≠ gw
section
variable {w0 w w' : World} {gx lx cx gg lg cg gw lw cw : Nat} {X G W : List UInt8}
theorem Trio.below (h : Trio w0 w gx lx cx X gg lg cg G gw lw cw W) (hb : Below w.heap.size w w') : Trio w0 w' gx lx cx X gg lg cg G gw lw cw W :=
  ⟨h.bel.trans (hb.mono h.bel.size), h.x.below hb, h.g.below hb, h.s.below hb, h.xg, h.xs, h.gs⟩
theorem Trio.markX (h : Trio w0 w gx lx cx X gg lg cg G gw lw cw W) {X' : List UInt8} (ho : Own w' w0.heap.size gx lx cx X') (hg : w.grownBy w' (some gx)) : Trio w0 w' gx lx cx X' gg lg cg G gw lw cw W :=
  ⟨h.bel.grown hg h.bel.size (fun k e => by cases e; exact h.x.lt.1), ho, h.g.grown hg (by simpa using h.xg.symm), h.s.grown hg (by simpa using h.xs.symm), h.xg, h.xs, h.gs⟩
theorem Trio.markG (h : Trio w0 w gx lx cx X gg lg cg G gw lw cw W) {G' : List UInt8} (ho : Own w' w0.heap.size gg lg cg G') (hg : w.grownBy w' (some gg)) : Trio w0 w' gx lx cx X gg lg cg G' gw lw cw W :=
  ⟨h.bel.grown hg h.bel.size (fun k e => by cases e; exact h.g.lt.1), h.x.grown hg (by simpa using h.xg), ho, h.s.grown hg (by simpa using h.gs.symm), h.xg, h.xs, h.gs⟩
end
end Go.Proofs.Ytjodbijcgcjndaa.help

namespace Go.Proofs.Ytjodbijcgcjndaa.wds
open Go Go.RowKit Go.Proofs.Ytjodbijcgcjndaa.base Go.Proofs.Ytjodbijcgcjndaa.pairs Go.Proofs.Ytjodbijcgcjndaa.ords Go.Proofs.Ytjodbijcgcjndaa.helps
set_option linter.unusedVariables false

theorem resW_len (bs : List UInt8) : (resW (getWord bs)).2.2.2.1.length ≤ 8 := by
  cases h : getWord bs with
  | none => simp [resW]
  | some x =>
    obtain ⟨k, s, t, l, y⟩ := x
    obtain ⟨h1, _⟩ := getWord_some h
    rw [wordOk_iff] at h1
    show l.length ≤ 8
    rcases h1.2 with ⟨_, h2, _⟩ | ⟨_, h2⟩ | ⟨_, h2, _⟩
    · exact ((opsOk_iff _).1 h2).2.2
    · rw [h2]; simp
    · rw [h2]; simp
theorem wordPost_open {w w' : World} {r : Option Wd} {e : Ending} {k s t : Int} {L : List Od} {y ok : Bool} (hR : resW r = (k, s, t, L, y)) (hok : r.isSome = ok) (h : WordPost w r e w') :
    ∃ a n cap, e = .returned (.tuple #[.agg #[.int .i64 k, .int .i64 s, .int .i64 t, .slice a n cap, .bool y], .bool ok]) ∧ OwnV w' w.heap.size (.slice a n cap) L ∧ Below w.heap.size w w' := by
  obtain ⟨v, rfl, hv, hb⟩ := h
  rw [hR] at hv
  obtain ⟨a, c, rfl, _, _⟩ := hv.sl
  exact ⟨a, _, c, by rw [hR, hok], hv, hb⟩
structure PentG (w0 w : World) (k s t : Int) (y : Bool) (vs vg : Value) (bw gx len bg : Nat) (X : List UInt8) (S G : List Od) : Prop where
  bel : Below w0.heap.size w0 w
  x : Own w w0.heap.size gx len len X
  sp : OwnV w w0.heap.size vs S
  g : OwnV w w0.heap.size vg G
  us : V5 w bw 26 (.int .i64 k) (.int .i64 s) (.int .i64 t) vs (.bool y)
  ug : V5 w bg 26 (.int .i64 k) (.int .i64 s) (.int .i64 t) vg (.bool y)
  hs : ∀ k, vs.ownBlock = some k → k < bw
  hw : bw < gx
  hg : ∀ k, vg.ownBlock = some k → gx < k ∧ k < bg
  hx : gx < bg
section
variable {w0 w w' : World} {k s t : Int} {y : Bool} {vs vg : Value} {bw gx len bg : Nat} {X : List UInt8} {S G : List Od}
theorem PentG.below (h : PentG w0 w k s t y vs vg bw gx len bg X S G) (hb : Below w.heap.size w w') : PentG w0 w' k s t y vs vg bw gx len bg X S G :=
  ⟨h.bel.trans (hb.mono h.bel.size), h.x.below hb, h.sp.below hb, h.g.below hb, h.us.below hb, h.ug.below hb, h.hs, h.hw, h.hg, h.hx⟩
theorem PentG.markX (h : PentG w0 w k s t y vs vg bw gx len bg X S G) {X' : List UInt8} (ho : Own w' w0.heap.size gx len len X') (hg : w.grownBy w' (some gx)) : PentG w0 w' k s t y vs vg bw gx len bg X' S G :=
  ⟨h.bel.grown hg h.bel.size (fun k e => by cases e; exact h.x.lt.1), ho,
    h.sp.grown hg (.inr fun e => by have := h.hs gx e; have := h.hw; omega),
    h.g.grown hg (.inr fun e => by have := h.hg gx e; omega),
    (hg.block _ h.us.lt (by have := h.hw; simp; omega)).trans h.us, (hg.block _ h.ug.lt (by have := h.hx; simp; omega)).trans h.ug, h.hs, h.hw, h.hg, h.hx⟩
theorem PentG.markG (h : PentG w0 w k s t y vs vg bw gx len bg X S G) {G' : List Od} (ho : OwnV w' w0.heap.size vg G') (hg : w.grownBy w' vg.ownBlock) : PentG w0 w' k s t y vs vg bw gx len bg X S G' := by
  have hne : ∀ b, (b ≤ gx ∨ bg ≤ b) → some b ≠ vg.ownBlock := fun b hb e => by have := h.hg b e.symm; omega
  have h1 := h.hw
  have h2 := h.hx
  refine ⟨h.bel.grown hg h.bel.size (fun k e => (h.g.lt k e).1), h.x.grown hg (hne gx (by omega)), ?_, ho, (hg.block _ h.us.lt (hne _ (by omega))).trans h.us, (hg.block _ h.ug.lt (hne _ (by omega))).trans h.ug, h.hs, h.hw, h.hg, h.hx⟩
  cases hv : vs.ownBlock with
  | none => exact h.sp.grown hg (.inl hv)
  | some k => exact h.sp.grown hg (.inr (by rw [hv]; exact hne k (by have := h.hs k hv; omega)))
theorem PentG.cells (h : PentG w0 w k s t y vs vg bw gx len bg X S G) :
    w.cell? ⟨bg, 0, none⟩ = some (.int .i64 k) ∧ w.cell? ⟨bg, 1, none⟩ = some (.int .i64 s) ∧ w.cell? ⟨bg, 2, none⟩ = some (.int .i64 t) ∧ w.cell? ⟨bg, 3, none⟩ = some vg ∧ w.cell? ⟨bg, 4, none⟩ = some (.bool y) ∧ w.cell? ⟨bw, 0, none⟩ = some (.int .i64 k) ∧ w.cell? ⟨bw, 1, none⟩ = some (.int .i64 s) ∧ w.cell? ⟨bw, 2, none⟩ = some (.int .i64 t) ∧ w.cell? ⟨bw, 3, none⟩ = some vs ∧ w.cell? ⟨bw, 4, none⟩ = some (.bool y) :=
  ⟨h.ug.c0, h.ug.c1, h.ug.c2, h.ug.c3, h.ug.c4, h.us.c0, h.us.c1, h.us.c2, h.us.c3, h.us.c4⟩
end
end Go.Proofs.Ytjodbijcgcjndaa.wds

namespace Go.Proofs.Ytjodbijcgcjndaa.base
open Go Go.RowKit
set_option linter.unusedVariables false
set_option linter.unusedSimpArgs false

set_option maxRecDepth 100000 in
set_option maxHeartbeats 1000000 in
theorem sameBytes (a a2 : Option Addr) (len cap cap2 : Nat) (bs : List UInt8) (w : World) (h : Sl w a len bs) (h2 : Sl w a2 len bs) :
    Calls Try.prog 13 #[.slice a len cap, .slice a2 len cap2] w fun e w' => e = .returned (.bool true) ∧ ∃ n, w' = w.drewN n := by
  obtain ⟨hl, hm, hc⟩ := h
  obtain ⟨hl2, hm2, hc2⟩ := h2
  subst hl
  unfold maxLen at hm
  clear hl2 hm2
  go_enter Try.func13, Try.ntmps13
  go_wp2_with fail
  go_loopw [5] (fun i wr => ∃ k : Nat, k ≤ bs.length ∧ i = .int .i64 k ∧ ∃ n, wr = w.drewN n) (fun i _ => bs.length - (intOf i).toNat)
  case atStart => exact ⟨0, Nat.zero_le _, rfl, 0, rfl⟩
  case round =>
    obtain ⟨k, hk, rfl, n, rfl⟩ := hrel
    by_cases hlt : k < bs.length
    · obtain ⟨b, off, ha, hcl⟩ := hc (by omega)
      obtain ⟨b2, off2, ha2, hcl2⟩ := hc2 (by omega)
      subst ha ha2
      have hi1 : (k : Int) < (bs.length : Int) := by omega
      have c1 : w.cell? ⟨b, off + k, none⟩ = some (.int .u8 bs[k].toNat) := hcl k hlt
      have c2 : w.cell? ⟨b2, off2 + k, none⟩ = some (.int .u8 bs[k].toNat) := hcl2 k hlt
      clear hcl hcl2 hc hc2
      go_wp2_with fail
      go_quiet (fail)
      go_wp2_with fail
      go_roundw
      case rel => exact ⟨k + 1, by omega, by go_num, _, rfl⟩
      case measure => simp [intOf]; omega
    · go_wp2_with fail
      go_ret
      exact ⟨rfl, n, rfl⟩
end Go.Proofs.Ytjodbijcgcjndaa.base
