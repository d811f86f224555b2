/- The specification's words: what is right; a box of a word. -/
import Derived.Test.YtjodbijcgcjndaaWdMath
import Derived.Test.YtjodbijcgcjndaaOrdT
import Derived.Test.YtjodbijcgcjndaaOrdJ
namespace Go.Proofs.Ytjodbijcgcjndaa.wds
open Go Go.RowKit Go.Proofs.Ytjodbijcgcjndaa.base Go.Proofs.Ytjodbijcgcjndaa.pairs Go.Proofs.Ytjodbijcgcjndaa.ords
set_option linter.unusedVariables false
set_option linter.unusedSimpArgs false

set_option maxRecDepth 100000 in
set_option maxHeartbeats 1000000 in
theorem spec_opsNil (a : Option Addr) (cap : Nat) (w : World) :
    Calls Try.prog 40 #[.slice a 0 cap] w fun e w' => e = .returned (.bool false) ∧ w' = w := by
  go_enter Try.func40, Try.ntmps40
  go_wp2_with fail
  refine wp_loop_rounds 1 ?_
  rw [rounds_succ]
  go_wp2_with fail
  refine (s_inZ 0 1 8 _).mono ?_
  rintro e w9 ⟨rfl, rfl⟩
  go_wp2_with fail
  go_ret
  exact ⟨ret_bool (by decide), rfl⟩
theorem spec_opsOkA (a : Option Addr) (len cap : Nat) (l : List Od) (w : World) (h : SlO w a len l) (hks : ∀ p ∈ l, p.2.1.size ≤ 1099511627776) :
    Calls Try.prog 40 #[.slice a len cap] w fun e w' => e = .returned (.bool (opsOk l)) ∧ Below w.heap.size w w' := by
  by_cases h0 : len = 0
  · subst h0
    obtain rfl : l = [] := List.eq_nil_of_length_eq_zero h.1
    refine (spec_opsNil a cap w).mono ?_
    rintro e w' ⟨rfl, rfl⟩
    exact ⟨rfl, Below.refl _ _⟩
  · obtain ⟨b, off, ha, _⟩ := h.2.2.2 (by omega)
    subst ha
    exact spec_opsOk b off len cap l w h hks
theorem impl_opsOkA (a : Option Addr) (len cap : Nat) (l : List Od) (w : World) (h : SlO w a len l) (hks : ∀ p ∈ l, p.2.1.size ≤ 1099511627776) :
    Calls Try.prog 51 #[.slice a len cap] w fun e w' => e = .returned (.bool (opsOk l)) ∧ Below w.heap.size w w' := by
  by_cases h0 : len = 0
  · subst h0
    obtain rfl : l = [] := List.eq_nil_of_length_eq_zero h.1
    go_enter Try.func51, Try.ntmps51
    go_wp2_with fail
    go_ret
    exact ⟨ret_bool (by decide), Below.refl _ _⟩
  · obtain ⟨b, off, ha, _⟩ := h.2.2.2 (by omega)
    subst ha
    exact impl_opsOk b off len cap l w h hks

/-- the value of a word, and its cells -/
abbrev wdV (k s t : Int) (v : Value) (y : Bool) : Value := .agg #[.int .i64 k, .int .i64 s, .int .i64 t, v, .bool y]
/-- a box of a word -/
def BoxW (X : Nat) (k s t : Int) (v : Value) (y : Bool) (w : World) : Prop := w.heap[X]? = some (.cells #[.int .i64 k, .int .i64 s, .int .i64 t, v, .bool y] 26 (0, 0))
theorem boxW_new (w : World) (k s t : Int) (v : Value) (y : Bool) : BoxW w.heap.size k s t v y (w.alloc (.cells #[.int .i64 k, .int .i64 s, .int .i64 t, v, .bool y] 26)) := heap_alloc_new w _
section
variable {X : Nat} {k s t : Int} {v : Value} {y : Bool} {w w' : World}
theorem BoxW.cells (h : BoxW X k s t v y w) : w.cell? ⟨X, 0, none⟩ = some (.int .i64 k) ∧ w.cell? ⟨X, 1, none⟩ = some (.int .i64 s) ∧ w.cell? ⟨X, 2, none⟩ = some (.int .i64 t) ∧ w.cell? ⟨X, 3, none⟩ = some v ∧ w.cell? ⟨X, 4, none⟩ = some (.bool y) := by
  unfold BoxW at h
  simp [World.cell?, h]
theorem BoxW.lt (h : BoxW X k s t v y w) : X < w.heap.size := (Array.getElem?_eq_some_iff.1 h).1
theorem BoxW.below (h : BoxW X k s t v y w) (hb : Below w.heap.size w w') : BoxW X k s t v y w' := by
  have h' := h.lt
  unfold BoxW at h ⊢
  rw [hb.block X h', h]
theorem BoxW.grown {row : Option Nat} (h : BoxW X k s t v y w) (hg : w.grownBy w' row) (hne : some X ≠ row) : BoxW X k s t v y w' := by
  have h' := h.lt
  unfold BoxW at h ⊢
  rw [hg.block X h' hne, h]
end

set_option maxRecDepth 100000 in
set_option maxHeartbeats 2000000 in
theorem spec_wordOk (k s t : Int) (a : Option Addr) (len cap : Nat) (l : List Od) (y : Bool) (w : World) (h : SlO w a len l) (hks : ∀ p ∈ l, p.2.1.size ≤ 1099511627776) :
    Calls Try.prog 14 #[wdV k s t (.slice a len cap) y] w fun e w' => e = .returned (.bool (wordOk (k, s, t, l, y))) ∧ Below w.heap.size w w' := by
  have hba : Below w.heap.size w (w.alloc (.cells #[.int .i64 k, .int .i64 s, .int .i64 t, .slice a len cap, .bool y] 26)) := (Below.refl _ _).alloc (Nat.le_refl _) _
  have hin1 := s_inZ s 0 7 (w.alloc (.cells #[.int .i64 k, .int .i64 s, .int .i64 t, .slice a len cap, .bool y] 26))
  have hin2 := s_inZ t 1 1000000 (w.alloc (.cells #[.int .i64 k, .int .i64 s, .int .i64 t, .slice a len cap, .bool y] 26))
  have hl := h.1
  have hm := h.2.1
  unfold maxLen at hm
  have HR : Hid (wordOk (k, s, t, l, y) = (decide (0 ≤ s ∧ s ≤ 7) && decide (1 ≤ t ∧ t ≤ 1000000) && kindOk k l y)) := rfl
  by_cases hs : 0 ≤ s ∧ s ≤ 7
  · rw [decide_eq_true hs] at hin1
    rw [decide_eq_true hs] at HR
    have HI := Hid.mk' hin1
    clear hin1 hs
    by_cases ht : 1 ≤ t ∧ t ≤ 1000000
    · rw [decide_eq_true ht] at hin2
      rw [decide_eq_true ht, Bool.true_and, Bool.true_and] at HR
      have HJ := Hid.mk' hin2
      clear hin2 ht
      by_cases h1 : k = 1
      · subst h1
        have HO := Hid.mk' (spec_opsOkA a len cap l _ (h.below hba) hks)
        have HK : Hid (kindOk 1 l y = (opsOk l && !y)) := rfl
        generalize opsOk l = K at *
        have hb5 := boxW_new w 1 s t (.slice a len cap) y
        obtain ⟨_, _, _, _, c4⟩ := hb5.cells
        cases K <;> cases y
        all_goals
          go_enter Try.func14, Try.ntmps14
          go_wp2_with fail
          refine HI.out.mono ?_
          rintro e w1 ⟨rfl, hw1⟩
          subst hw1
          go_wp2_with fail
          refine HJ.out.mono ?_
          rintro e w1 ⟨rfl, hw1⟩
          subst hw1
          go_wp2_with fail
          refine HO.out.mono ?_
          rintro e w1 ⟨rfl, hb1⟩
          have hbx1 := hb5.below hb1
          obtain ⟨_, _, _, _, d4⟩ := hbx1.cells
          clear hb5 hbx1 c4
          go_wp2_with fail
          go_ret
          exact ⟨ret_bool (by rw [HR.out, HK.out]; rfl), hba.trans (hb1.mono hba.size)⟩
      · have hk1 : (k == 1) = false := beq_eq_false_iff_ne.2 h1
        by_cases h23 : k = 2 ∨ k = 3
        · have HK : Hid (kindOk k l y = l.isEmpty) := by show _ = _; unfold kindOk; rw [if_neg h1, if_pos h23]
          by_cases h0 : len = 0
          · have HE : Hid (wordOk (k, s, t, l, y) = true) := by show _ = _; rw [HR.out, HK.out, List.isEmpty_iff]; exact List.eq_nil_of_length_eq_zero (by omega)
            subst h0
            rcases h23 with rfl | rfl
            all_goals
              clear HR h1 hk1 HK
              go_enter Try.func14, Try.ntmps14
              go_wp2_with fail
              refine HI.out.mono ?_
              rintro e w1 ⟨rfl, hw1⟩
              subst hw1
              go_wp2_with fail
              refine HJ.out.mono ?_
              rintro e w1 ⟨rfl, hw1⟩
              subst hw1
              go_wp2_with fail
              go_ret
              exact ⟨ret_bool HE.out.symm, hba⟩
          · have HE : Hid (wordOk (k, s, t, l, y) = false) := by
              show _ = _
              rw [HR.out, HK.out]
              cases l with
              | nil => simp at hl; omega
              | cons x l => rfl
            have hl0 : ((len : Int) == 0) = false := by simp; omega
            rcases h23 with rfl | rfl
            all_goals
              clear HR h1 hk1 HK
              go_enter Try.func14, Try.ntmps14
              go_wp2_with fail
              refine HI.out.mono ?_
              rintro e w1 ⟨rfl, hw1⟩
              subst hw1
              go_wp2_with fail
              refine HJ.out.mono ?_
              rintro e w1 ⟨rfl, hw1⟩
              subst hw1
              go_wp2_with fail
              go_ret
              exact ⟨ret_bool HE.out.symm, hba⟩
        · have hk2 : (k == 2) = false := beq_eq_false_iff_ne.2 (fun e => h23 (.inl e))
          have hk3 : (k == 3) = false := beq_eq_false_iff_ne.2 (fun e => h23 (.inr e))
          by_cases h4 : k = 4
          · subst h4
            have HK : Hid (kindOk 4 l y = (l.isEmpty && !y)) := rfl
            by_cases h0 : len = 0
            · obtain rfl : l = [] := List.eq_nil_of_length_eq_zero (by omega)
              subst h0
              cases y
              all_goals
                clear h1 hk1 h23 hk2 hk3
                go_enter Try.func14, Try.ntmps14
                go_wp2_with fail
                refine HI.out.mono ?_
                rintro e w1 ⟨rfl, hw1⟩
                subst hw1
                go_wp2_with fail
                refine HJ.out.mono ?_
                rintro e w1 ⟨rfl, hw1⟩
                subst hw1
                go_wp2_with fail
                go_ret
                exact ⟨ret_bool (by rw [HR.out, HK.out]; rfl), hba⟩
            · have HE : Hid (wordOk (4, s, t, l, y) = false) := by
                show _ = _
                rw [HR.out, HK.out]
                cases l with
                | nil => simp at hl; omega
                | cons x l => rfl
              have hl0 : ((len : Int) == 0) = false := by simp; omega
              clear h1 hk1 h23 hk2 hk3 HR HK
              go_enter Try.func14, Try.ntmps14
              go_wp2_with fail
              refine HI.out.mono ?_
              rintro e w1 ⟨rfl, hw1⟩
              subst hw1
              go_wp2_with fail
              refine HJ.out.mono ?_
              rintro e w1 ⟨rfl, hw1⟩
              subst hw1
              go_wp2_with fail
              go_ret
              exact ⟨ret_bool HE.out.symm, hba⟩
          · have HK : Hid (kindOk k l y = false) := by show _ = _; unfold kindOk; rw [if_neg h1, if_neg h23, if_neg h4]
            have hk4 : (k == 4) = false := beq_eq_false_iff_ne.2 h4
            clear h1 h23 h4
            go_enter Try.func14, Try.ntmps14
            go_wp2_with fail
            refine HI.out.mono ?_
            rintro e w1 ⟨rfl, hw1⟩
            subst hw1
            go_wp2_with fail
            refine HJ.out.mono ?_
            rintro e w1 ⟨rfl, hw1⟩
            subst hw1
            go_wp2_with fail
            go_ret
            exact ⟨ret_bool (by rw [HR.out, HK.out]), hba⟩
    · rw [decide_eq_false ht] at hin2
      rw [decide_eq_false ht] at HR
      have HJ := Hid.mk' hin2
      clear hin2 ht
      go_enter Try.func14, Try.ntmps14
      go_wp2_with fail
      refine HI.out.mono ?_
      rintro e w1 ⟨rfl, hw1⟩
      subst hw1
      go_wp2_with fail
      refine HJ.out.mono ?_
      rintro e w1 ⟨rfl, hw1⟩
      subst hw1
      go_wp2_with fail
      go_ret
      exact ⟨ret_bool HR.out.symm, hba⟩
  · rw [decide_eq_false hs] at hin1
    rw [decide_eq_false hs] at HR
    have HI := Hid.mk' hin1
    clear hin1 hs hin2
    go_enter Try.func14, Try.ntmps14
    go_wp2_with fail
    refine HI.out.mono ?_
    rintro e w1 ⟨rfl, hw1⟩
    subst hw1
    go_wp2_with fail
    go_ret
    exact ⟨ret_bool HR.out.symm, hba⟩
end Go.Proofs.Ytjodbijcgcjndaa.wds
