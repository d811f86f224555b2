/- The specification's words as bytes. -/
import Derived.Test.YtjodbijcgcjndaaWdS
import Derived.Test.YtjodbijcgcjndaaOrdW
import Derived.Test.YtjodbijcgcjndaaOrdN
import Derived.Test.YtjodbijcgcjndaaAddG
namespace Go.Proofs.Ytjodbijcgcjndaa.wds
open Go Go.RowKit Go.Proofs.Ytjodbijcgcjndaa.base Go.Proofs.Ytjodbijcgcjndaa.pairs Go.Proofs.Ytjodbijcgcjndaa.ords Go.Proofs.Ytjodbijcgcjndaa.putnum Go.Proofs.Ytjodbijcgcjndaa.puttext Go.Proofs.Ytjodbijcgcjndaa.getnum Go.Proofs.Ytjodbijcgcjndaa.gettext
set_option linter.unusedVariables false
set_option linter.unusedSimpArgs false

/-- a row of bytes behind another -/
theorem own_cat {w' : World} {base n m : Nat} {v' : Value} {bs ns : List UInt8} (hl : bs.length = n) (hln : ns.length = m) (h0 : ¬ v' = .slice none 0 0) (h : w'.ownsRow base 5 1 v' (n + m) (byteVals bs ++ byteVals ns)) :
    ∃ g' cap', v' = .slice (some ⟨g', 0, none⟩) (n + m) cap' ∧ Own w' base g' (n + m) cap' (bs ++ ns) := own_app hl hln rfl h0 h
/-- a box of a word and its cells -/
abbrev HW (X : Nat) (k s t : Int) (v : Value) (y : Bool) (w : World) : Prop := BoxW X k s t v y w ∧ w.cell? ⟨X, 0, none⟩ = some (.int .i64 k) ∧ w.cell? ⟨X, 1, none⟩ = some (.int .i64 s) ∧ w.cell? ⟨X, 2, none⟩ = some (.int .i64 t) ∧ w.cell? ⟨X, 3, none⟩ = some v ∧ w.cell? ⟨X, 4, none⟩ = some (.bool y)
theorem BoxW.hw {X : Nat} {k s t : Int} {v : Value} {y : Bool} {w : World} (h : BoxW X k s t v y w) : BoxW X k s t v y w ∧ w.cell? ⟨X, 0, none⟩ = some (.int .i64 k) ∧ w.cell? ⟨X, 1, none⟩ = some (.int .i64 s) ∧ w.cell? ⟨X, 2, none⟩ = some (.int .i64 t) ∧ w.cell? ⟨X, 3, none⟩ = some v ∧ w.cell? ⟨X, 4, none⟩ = some (.bool y) := ⟨h, h.cells⟩
theorem keepW {X : Nat} {k s t : Int} {v : Value} {y : Bool} {w w' : World} (hb : Below w.heap.size w w') (h : BoxW X k s t v y w ∧ w.cell? ⟨X, 0, none⟩ = some (.int .i64 k) ∧ w.cell? ⟨X, 1, none⟩ = some (.int .i64 s) ∧ w.cell? ⟨X, 2, none⟩ = some (.int .i64 t) ∧ w.cell? ⟨X, 3, none⟩ = some v ∧ w.cell? ⟨X, 4, none⟩ = some (.bool y)) :
    BoxW X k s t v y w' ∧ w'.cell? ⟨X, 0, none⟩ = some (.int .i64 k) ∧ w'.cell? ⟨X, 1, none⟩ = some (.int .i64 s) ∧ w'.cell? ⟨X, 2, none⟩ = some (.int .i64 t) ∧ w'.cell? ⟨X, 3, none⟩ = some v ∧ w'.cell? ⟨X, 4, none⟩ = some (.bool y) := (h.1.below hb).hw
theorem keepWa {X : Nat} {k s t : Int} {v : Value} {y : Bool} {w : World} {o : Obj} (h : BoxW X k s t v y w ∧ w.cell? ⟨X, 0, none⟩ = some (.int .i64 k) ∧ w.cell? ⟨X, 1, none⟩ = some (.int .i64 s) ∧ w.cell? ⟨X, 2, none⟩ = some (.int .i64 t) ∧ w.cell? ⟨X, 3, none⟩ = some v ∧ w.cell? ⟨X, 4, none⟩ = some (.bool y)) :
    BoxW X k s t v y (w.alloc o) ∧ (w.alloc o).cell? ⟨X, 0, none⟩ = some (.int .i64 k) ∧ (w.alloc o).cell? ⟨X, 1, none⟩ = some (.int .i64 s) ∧ (w.alloc o).cell? ⟨X, 2, none⟩ = some (.int .i64 t) ∧ (w.alloc o).cell? ⟨X, 3, none⟩ = some v ∧ (w.alloc o).cell? ⟨X, 4, none⟩ = some (.bool y) := keepW ((Below.refl _ _).alloc (Nat.le_refl _) _) h
theorem ok_ranges {k s t : Int} {l : List Od} {y : Bool} (h : wordOk (k, s, t, l, y) = true) : (1 ≤ k ∧ k ≤ 4) ∧ (0 ≤ s ∧ s ≤ 7) ∧ (1 ≤ t ∧ t ≤ 1000000) := by
  rw [wordOk_iff] at h
  obtain ⟨⟨h1, h2⟩, h3⟩ := h
  refine ⟨?_, h1, h2⟩
  rcases h3 with ⟨h, _⟩ | ⟨h, _⟩ | ⟨h, _⟩ <;> omega

theorem s_bool (y : Bool) (w : World) : Calls Try.prog 46 #[.bool y] w fun e w' => e = .returned (.int .i64 (yesN y)) ∧ w' = w := by
  cases y
  all_goals
    go_enter Try.func46, Try.ntmps46
    go_wp2_with fail
    go_ret
    exact ⟨rfl, rfl⟩

set_option maxRecDepth 100000 in
set_option maxHeartbeats 4000000 in
theorem spec_putWord (k s t : Int) (a : Option Addr) (len cap : Nat) (l : List Od) (y : Bool) (w : World) (h : SlO w a len l) (hks : ∀ p ∈ l, p.2.1.size ≤ 1099511627776) :
    Calls Try.prog 20 #[wdV k s t (.slice a len cap) y] w fun e w' =>
      ∃ g' n' cap', e = .returned (.slice (some ⟨g', 0, none⟩) n' cap') ∧ Own w' w.heap.size g' n' cap' (putWord (k, s, t, l, y)) ∧ Below w.heap.size w w' := by
  obtain ⟨i0, hi, hz0, hz1, hz2⟩ := info_parts info8
  obtain ⟨W, hW⟩ : ∃ W, W = w.alloc (.cells #[.int .i64 k, .int .i64 s, .int .i64 t, .slice a len cap, .bool y] 26) := ⟨_, rfl⟩
  have hba : Below w.heap.size w W := by rw [hW]; exact (Below.refl _ _).alloc (Nat.le_refl _) _
  have hbx : BoxW w.heap.size k s t (.slice a len cap) y W := by rw [hW]; exact boxW_new _ _ _ _ _ _
  have HOK := Hid.mk' (spec_wordOk k s t a len cap l y W (h.below hba) hks)
  have HW := Hid.mk' hW.symm
  clear hW
  cases hok : wordOk (k, s, t, l, y)
  · rw [hok] at HOK
    have HP : Hid (putWord (k, s, t, l, y) = []) := by show _ = _; unfold putWord; rw [hok]; rfl
    clear hok
    go_enter Try.func20, Try.ntmps20
    go_wp2_with (at_builtin; fail)
    rw [HW.out]
    refine HOK.out.mono ?_
    rintro e w1 ⟨rfl, hb1⟩
    have hB1 := hba.trans (hb1.mono hba.size)
    have hO1 := own_made w1 w.heap.size hB1.size
    clear HOK HW hbx
    go_wp2_with (at_builtin; fail)
    go_ret
    exact ⟨_, _, _, rfl, by rw [HP.out]; exact hO1, hB1.alloc hB1.size _⟩
  · rw [hok] at HOK
    have HP : Hid (putWord (k, s, t, l, y) = wordBytes (k, s, t, l, y)) := by show _ = _; unfold putWord; rw [hok]; rfl
    obtain ⟨hkr, hsr, htr⟩ := ok_ranges hok
    have hyr := yesN_range y
    have hkf : (Lit.int .i64 k).wf = true := WalkArith.wf_i64 (by omega)
    have hsf : (Lit.int .i64 s).wf = true := WalkArith.wf_i64 (by omega)
    have htf : (Lit.int .i64 t).wf = true := WalkArith.wf_i64 (by omega)
    have hyf : (Lit.int .i64 (yesN y)).wf = true := WalkArith.wf_i64 (by omega)
    have hnk := numBytes_length k
    have hns := numBytes_length s
    have hnt := numBytes_length t
    have hny := numBytes_length (yesN y)
    have hps := putOps_small l
    have HC : Hid (k = 1 → opsOk l = true) := fun e => by
      rw [wordOk_iff] at hok
      rcases hok.2 with ⟨_, h1, _⟩ | ⟨h1, _⟩ | ⟨h1, _⟩
      · exact h1
      · omega
      · omega
    clear hok hkr hsr htr hyr
    go_enter Try.func20, Try.ntmps20
    go_wp2_with (at_builtin; fail)
    rw [HW.out]
    refine HOK.out.mono ?_
    rintro e w1 ⟨rfl, hb1⟩
    have hB1 := hba.trans (hb1.mono hba.size)
    have hbx1 := hbx.below hb1
    obtain ⟨_, d0, d1, d2, d3, d4⟩ := hbx1.hw
    have hh1 := h.below hB1
    have hx1 := hbx1.hw
    clear HOK HW hbx hb1 hba
    go_wp2_with (at_builtin; fail)
    go_region_held3 (fun w' => BoxW w.heap.size k s t (.slice a len cap) y w' ∧ w'.cell? ⟨w.heap.size, 0, none⟩ = some (.int .i64 k) ∧ w'.cell? ⟨w.heap.size, 1, none⟩ = some (.int .i64 s) ∧ w'.cell? ⟨w.heap.size, 2, none⟩ = some (.int .i64 t) ∧ w'.cell? ⟨w.heap.size, 3, none⟩ = some (.slice a len cap) ∧ w'.cell? ⟨w.heap.size, 4, none⟩ = some (.bool y))
      (first | (exact hx1) | (with_reducible assumption) | (exact keepW hb8 (by assumption)) | (exact keepW hb7 (by assumption)) | (exact keepW hb6 (by assumption)) | (exact keepW hb5 (by assumption)) | (exact keepWa (by assumption)) | (go_keep))
      (first
        | (go_at_call 46; refine (s_bool y _).mono ?_; rintro e w9 ⟨rfl, hw9⟩; replace hw9 := hw9.symm; subst hw9)
        | (go_at_call 45; have h9 := hb7; refine (spec_put g7 0 n7 cp7 ([] ++ numBytes k ++ numBytes s ++ numBytes t) (yesN y) _ hO7.sl hyf (by have := hO7.1; simp at this; omega)).mono ?_; rintro e w8 ⟨g8, n8, cp8, rfl, hO8, hb8⟩)
        | (go_at_call 45; have h9 := hb6; refine (spec_put g6 0 n6 cp6 ([] ++ numBytes k ++ numBytes s) t _ hO6.sl htf (by have := hO6.1; simp at this; omega)).mono ?_; rintro e w7 ⟨g7, n7, cp7, rfl, hO7, hb7⟩)
        | (go_at_call 45; have h9 := hb5; refine (spec_put g5 0 n5 cp5 ([] ++ numBytes k) s _ hO5.sl hsf (by have := hO5.1; simp at this; omega)).mono ?_; rintro e w6 ⟨g6, n6, cp6, rfl, hO6, hb6⟩)
        | (go_at_call 45; refine (spec_put w1.heap.size 0 0 0 [] k _ (sl_nil _ _) hkf (by omega)).mono ?_; rintro e w5 ⟨g5, n5, cp5, rfl, hO5, hb5⟩))
    all_goals
      obtain ⟨hbx8, x0, x1, x2, x3, x4⟩ : BoxW w.heap.size k s t (.slice a len cap) y w8 ∧ w8.cell? ⟨w.heap.size, 0, none⟩ = some (.int .i64 k) ∧ w8.cell? ⟨w.heap.size, 1, none⟩ = some (.int .i64 s) ∧ w8.cell? ⟨w.heap.size, 2, none⟩ = some (.int .i64 t) ∧ w8.cell? ⟨w.heap.size, 3, none⟩ = some (.slice a len cap) ∧ w8.cell? ⟨w.heap.size, 4, none⟩ = some (.bool y) := by assumption
      have hB5 : Below w.heap.size w w5 := (by first | exact (hB1.drew.alloc hB1.size _).trans (hb5.mono (by simp; have := hB1.size; omega)) | exact ((hB1.alloc hB1.size _).drew).trans (hb5.mono (by simp; have := hB1.size; omega)))
      have hB6 : Below w.heap.size w w6 := hB5.trans (hb6.mono hB5.size)
      have hB7 : Below w.heap.size w w7 := hB6.trans (hb7.mono hB6.size)
      have hB8 : Below w.heap.size w w8 := hB7.trans (hb8.mono hB7.size)
      rw [List.nil_append] at hO8
      have hO8' : Own w8 w.heap.size g8 n8 cp8 (headB k s t y) := hO8.mono (base' := w.heap.size) hB7.size
      have hn8 := hO8'.1
      have hhl := headB_length k s t y
      have hh8 := h.below hB8
      clear hb5 hb6 hb7 hb8 hO5 hO6 hO7 hO8 hB5 hB6 hB7 d0 d1 d2 d3 d4 hx1 hbx1
      by_cases hk1 : k = 1
      · have hkb : (k == 1) = true := by rw [hk1]; rfl
        have HBO : Hid (wordBytes (k, s, t, l, y) = headB k s t y ++ putOps l) := by show _ = _; unfold wordBytes; simp only []; rw [if_pos hk1]
        have hopk := HC.out hk1
        obtain ⟨_, hl1, _⟩ := (opsOk_iff l).1 hopk
        obtain ⟨b, off, ha, _⟩ := hh8.2.2.2 (by have := hh8.1; omega)
        subst ha
        have HPO := Hid.mk' (spec_putOps b off len cap l w8 hh8 hks)
        clear hopk HC hl1 hk1
        go_wp2_with (at_builtin; fail)
        refine HPO.out.mono ?_
        rintro e w9 ⟨g9, n9, cp9, rfl, hO9, hb9⟩
        have hO89 := hO8'.below hb9
        have hB9 := hB8.trans (hb9.mono hB8.size)
        have hn9 := hO9.1
        have HSL := Hid.mk' (sl_cells hO9.sl)
        have hl2 : (byteVals (putOps l)).length = n9 * 1 := by rw [byteVals_length]; omega
        have hc3 : n8 + n9 ≤ maxLen := by unfold maxLen; omega
        have hc4 : (n8 + n9) * 1 ≤ 140737488355328 := by omega
        have hbw := hB9.size
        clear HPO hb9 hB8 hO8' hO9
        go_wp2_with (at_builtin; refine wpList_append_own _ rfl (.tmp 25) (.tmp 28) 22 rfl w.heap.size 5 i0 (.int .u8 0) 1 1 Try.underlying22 hi hz0 hz1 hz2 rfl (by decide) _ _ _ rfl hO89.2 ⟨g9, 0, none⟩ n9 cp9 (byteVals (putOps l)) rfl hl2 HSL.out (byteVals_oneCell _) hc3 hc4 hbw ?_)
        intro v8 wb hown8 hgrow8 hnn8
        have hnn' : ¬ v8 = .slice none 0 0 := by simpa using hnn8
        obtain ⟨gb, cpb, hv8, hOb⟩ := own_cat hO89.1 hn9 hnn' hown8
        subst hv8
        have hBb : Below w.heap.size w wb := hB9.grown hgrow8 hbw (fun j e => by simp [Value.ownBlock] at e; have := hO89.lt; omega)
        rw [← HBO.out, ← HP.out] at hOb
        have HOb := Hid.mk' hOb
        clear hown8 hgrow8 hnn8 hnn' HSL hO89 hB9 hOb x0 x1 x2 x3 x4 HBO
        go_wp2_with (at_builtin; fail)
        go_ret
        exact ⟨_, _, _, rfl, HOb.out, hBb⟩
      · have hkb : (k == 1) = false := beq_eq_false_iff_ne.2 hk1
        have HBO : Hid (wordBytes (k, s, t, l, y) = headB k s t y) := by show _ = _; unfold wordBytes; simp only []; rw [if_neg hk1, List.append_nil]
        rw [← HBO.out, ← HP.out] at hO8'
        have HOb := Hid.mk' hO8'
        clear HC hk1 hO8'
        go_wp2_with (at_builtin; fail)
        go_ret
        exact ⟨_, _, _, rfl, HOb.out, hB8⟩
end Go.Proofs.Ytjodbijcgcjndaa.wds
