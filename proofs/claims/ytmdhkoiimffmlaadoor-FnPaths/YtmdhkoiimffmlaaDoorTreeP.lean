/- The specification's paths. -/
import Derived.Test.YtmdhkoiimffmlaaDoorTreeI
import Derived.Deep.RegionHeldLaw
namespace Go.Proofs.YtmdhkoiimffmlaaDoor.tree
open Go Go.RowKit Go.Proofs.YtmdhkoiimffmlaaDoor.base Go.Proofs.YtmdhkoiimffmlaaDoor.pairs Go.Proofs.YtmdhkoiimffmlaaDoor.puttext Go.Proofs.YtmdhkoiimffmlaaDoor.putnum
set_option linter.unusedVariables false
set_option linter.unusedSimpArgs false

theorem max32 {s : ByteArray} (h : s.size = 32) : s.size ≤ maxLen := by unfold maxLen; omega

set_option maxRecDepth 100000 in
set_option maxHeartbeats 4000000 in
theorem spec_l4Path (m : Nat) : ∀ (l : List Pr), l.length = m → m ≤ 60 → (∀ p ∈ l, lim p) → ∀ (i b off cap : Nat) (w : World), i < l.length → SlP w (some ⟨b, off, none⟩) l.length l → l.length ≤ cap →
    Calls Tryd.prog 62 #[.slice (some ⟨b, off, none⟩) l.length cap, .int .i64 (i : Int)] w fun e w' =>
      ∃ g' n' cap', e = .returned (.slice (some ⟨g', 0, none⟩) n' cap') ∧ OwnS w' w.heap.size g' n' cap' (path l i) ∧ Below w.heap.size w w' := by
  obtain ⟨i0, hi, hz0, hz1, hz2⟩ := info_parts info9
  induction m using Nat.strongRecOn with
  | _ m ih =>
    intro l hlm h60 hlim i b off cap w hil h hcap
    by_cases h2 : l.length < 2
    · rw [path_low l i h2]
      have h2i : (l.length : Int) < 2 := by omega
      clear ih hlim h hlm
      go_enter Tryd.func62, Tryd.ntmps62
      go_wp2_with fail
      go_ret
      exact ⟨w.heap.size, 0, 0, rfl, ownS_made w _ (Nat.le_refl _), (Below.refl _ _).alloc (Nat.le_refl _) _⟩
    have h2' : 2 ≤ l.length := by omega
    have hbd := half_bd l.length h2'
    have HH := Hid.mk' (spec_half l.length w h2' (by omega))
    have hpl := path_left l i h2'
    have hpr := path_right l i h2'
    obtain ⟨k, hk⟩ : ∃ k, half l.length = k := ⟨_, rfl⟩
    rw [hk] at hbd HH hpl hpr
    have hltk : (l.take k).length = k := by simp; omega
    have hldk : (l.drop k).length = l.length - k := by simp
    have q1 : (k : Int) ≤ (cap : Int) := by omega
    have q2 : ¬ cap = k := by omega
    have q3 : (k : Int) ≤ (l.length : Int) := by omega
    have q4 : ¬ (l.length : Int) < 2 := by omega
    by_cases hik : i < k
    · have hq := hpl hik
      have HP : Hid (∀ wx, Below w.heap.size w wx → Calls Tryd.prog 62 #[.slice (some ⟨b, off, none⟩) k cap, .int .i64 (i : Int)] wx fun e w' =>
          ∃ g' n' cap', e = .returned (.slice (some ⟨g', 0, none⟩) n' cap') ∧ OwnS w' wx.heap.size g' n' cap' (path (l.take k) i) ∧ Below wx.heap.size wx w') := fun wx hx => by
        have := ih k (by omega) (l.take k) hltk (by omega) (fun p hp => hlim p (List.mem_of_mem_take hp)) i b off cap wx (by omega) (slp_take (h.below hx) k (by omega)) (by omega)
        rw [hltk] at this; exact this
      have HI : Hid (∀ wx, Below w.heap.size w wx → Calls Tryd.prog 57 #[.slice (some ⟨b, off + k * 2, none⟩) (l.length - k) (cap - k)] wx fun e w' => e = .returned (.string (inner (l.drop k))) ∧ Below wx.heap.size wx w') := fun wx hx => by
        have := spec_l4Inner (l.length - k) (l.drop k) hldk (by omega) (fun p hp => hlim p (List.mem_of_mem_drop hp)) b (off + k * 2) (cap - k) wx (slp_drop (h.below hx) k) (by omega)
        rw [hldk] at this; exact this
      have hy2 := max32 (inner_size (l.drop k))
      have hyl := path_length (l.take k) i
      have hyd := depth_le i (l.take k).length
      have hy1 : (path (l.take k) i).length ≤ 60 := by omega
      rw [hq]
      have hiki : (i : Int) < (k : Int) := by omega
      generalize path (l.take k) i = y1 at *
      generalize inner (l.drop k) = y2 at *
      clear ih hlim h hlm hpl hpr hltk hldk hk hq hyl hyd
      go_enter Tryd.func62, Tryd.ntmps62
      go_wp2_with fail
      refine HH.out.mono ?_
      rintro e w2 ⟨rfl, hw2⟩
      subst hw2
      have hd : Below w2.heap.size w2 w2.drew := (Below.refl _ _).drew
      go_wp2_with (at_builtin; fail)
      go_region_held3 (fun w' => True) (trivial) (first | (refine step_append_own rfl (.tmp 20) (.tmp 25) 33 rfl w2.heap.size 9 i0 (.string ⟨#[]⟩) 1 16 Tryd.underlying33 hi hz0 hz1 hz2 rfl (by decide) _ _ _ rfl (hO6.2.2.alloc _) ⟨w6.heap.size, 0, none⟩ 1 1 [.string y2] rfl rfl (cell_one_new _ _ _) (str_oneCell _) (by unfold maxLen; omega) (by omega) (le_alloc _ _ hs6) ?_; intro v7 w7 hown hgrow hnn) | (go_at_call 62; refine (HP.out _ hd).mono ?_; rintro e w5 ⟨g5, n5, cp5, rfl, hO5, hb5⟩; have hB5 := hd.trans (hb5.mono hd.size)) | (go_at_call 57; refine (HI.out _ hB5).mono ?_; rintro e w6 ⟨rfl, hb6⟩; have hO6 := (hO5.mono (base' := w2.heap.size) hd.size).below hb6; have hB6 := hB5.trans (hb6.mono hB5.size); have hs6 := hB6.size; have hn6 : n5 ≤ 60 := by have := hO5.1; omega))
      all_goals
        have hgr2 : (w6.alloc (.cells #[.string y2] 9)).grownBy w7 (some g5) := hgrow
        have hnn' : ¬ v7 = .slice none 0 0 := by simpa using hnn
        have hsm : ∀ s ∈ y1 ++ [y2], s.size ≤ maxLen := fun s hs => by
          rcases List.mem_append.1 hs with h1 | h1
          · exact hO6.2.1 s h1
          · rw [List.mem_singleton.1 h1]; exact hy2
        obtain ⟨g7, cap7, hv, hO7⟩ := ownS_val (ss := y1 ++ [y2]) (n := n5 + 1) (by have := hO6.1; simp; omega) hsm hnn' (by simpa [strVals] using hown)
        subst hv
        have hB7 : Below w2.heap.size w2 w7 := (hB6.alloc hs6 _).grown hgr2 (le_alloc _ _ hs6) (fun k e => by cases e; exact hO6.lt.1)
        have HO7 := Hid.mk' hO7
        clear hown hgrow hgr2 hnn hnn' hO7 hO6 hO5 hb5 hb6 hB5 hB6
        go_wp2_with fail
        go_ret
        exact ⟨g7, _, cap7, rfl, HO7.out, hB7⟩
    · have hq := hpr hik
      obtain ⟨j, hj⟩ : ∃ j, i - k = j := ⟨_, rfl⟩
      have hji : (i : Int) - (k : Int) = (j : Int) := by omega
      have hjw : IntKind.i64.wrap (j : Int) = (j : Int) := by rw [IntKind.wrap_i64]; omega
      rw [hj] at hq
      have HP : Hid (∀ wx, Below w.heap.size w wx → Calls Tryd.prog 62 #[.slice (some ⟨b, off + k * 2, none⟩) (l.length - k) (cap - k), .int .i64 (j : Int)] wx fun e w' =>
          ∃ g' n' cap', e = .returned (.slice (some ⟨g', 0, none⟩) n' cap') ∧ OwnS w' wx.heap.size g' n' cap' (path (l.drop k) j) ∧ Below wx.heap.size wx w') := fun wx hx => by
        have := ih (l.length - k) (by omega) (l.drop k) hldk (by omega) (fun p hp => hlim p (List.mem_of_mem_drop hp)) j b (off + k * 2) (cap - k) wx (by omega) (slp_drop (h.below hx) k) (by omega)
        rw [hldk] at this; exact this
      have HI : Hid (∀ wx, Below w.heap.size w wx → Calls Tryd.prog 57 #[.slice (some ⟨b, off, none⟩) k cap] wx fun e w' => e = .returned (.string (inner (l.take k))) ∧ Below wx.heap.size wx w') := fun wx hx => by
        have := spec_l4Inner k (l.take k) hltk (by omega) (fun p hp => hlim p (List.mem_of_mem_take hp)) b off cap wx (slp_take (h.below hx) k (by omega)) (by omega)
        rw [hltk] at this; exact this
      have hy2 := max32 (inner_size (l.take k))
      have hyl := path_length (l.drop k) j
      have hyd := depth_le j (l.drop k).length
      have hy1 : (path (l.drop k) j).length ≤ 60 := by omega
      rw [hq]
      have hiki : ¬ (i : Int) < (k : Int) := by omega
      generalize path (l.drop k) j = y1 at *
      generalize inner (l.take k) = y2 at *
      clear ih hlim h hlm hpl hpr hltk hldk hk hq hyl hyd hj
      go_enter Tryd.func62, Tryd.ntmps62
      go_wp2_with fail
      refine HH.out.mono ?_
      rintro e w2 ⟨rfl, hw2⟩
      subst hw2
      have hd : Below w2.heap.size w2 w2.drew := (Below.refl _ _).drew
      go_wp2_with (at_builtin; fail)
      go_region_held3 (fun w' => True) (trivial) (first | (refine step_append_own rfl (.tmp 33) (.tmp 38) 33 rfl w2.heap.size 9 i0 (.string ⟨#[]⟩) 1 16 Tryd.underlying33 hi hz0 hz1 hz2 rfl (by decide) _ _ _ rfl (hO6.2.2.alloc _) ⟨w6.heap.size, 0, none⟩ 1 1 [.string y2] rfl rfl (cell_one_new _ _ _) (str_oneCell _) (by unfold maxLen; omega) (by omega) (le_alloc _ _ hs6) ?_; intro v7 w7 hown hgrow hnn) | (go_at_call 62; refine (HP.out _ hd).mono ?_; rintro e w5 ⟨g5, n5, cp5, rfl, hO5, hb5⟩; have hB5 := hd.trans (hb5.mono hd.size)) | (go_at_call 57; refine (HI.out _ hB5).mono ?_; rintro e w6 ⟨rfl, hb6⟩; have hO6 := (hO5.mono (base' := w2.heap.size) hd.size).below hb6; have hB6 := hB5.trans (hb6.mono hB5.size); have hs6 := hB6.size; have hn6 : n5 ≤ 60 := by have := hO5.1; omega))
      all_goals
        have hgr2 : (w6.alloc (.cells #[.string y2] 9)).grownBy w7 (some g5) := hgrow
        have hnn' : ¬ v7 = .slice none 0 0 := by simpa using hnn
        have hsm : ∀ s ∈ y1 ++ [y2], s.size ≤ maxLen := fun s hs => by
          rcases List.mem_append.1 hs with h1 | h1
          · exact hO6.2.1 s h1
          · rw [List.mem_singleton.1 h1]; exact hy2
        obtain ⟨g7, cap7, hv, hO7⟩ := ownS_val (ss := y1 ++ [y2]) (n := n5 + 1) (by have := hO6.1; simp; omega) hsm hnn' (by simpa [strVals] using hown)
        subst hv
        have hB7 : Below w2.heap.size w2 w7 := (hB6.alloc hs6 _).grown hgr2 (le_alloc _ _ hs6) (fun k e => by cases e; exact hO6.lt.1)
        have HO7 := Hid.mk' hO7
        clear hown hgrow hgr2 hnn hnn' hO7 hO6 hO5 hb5 hb6 hB5 hB6
        go_wp2_with fail
        go_ret
        exact ⟨g7, _, cap7, rfl, HO7.out, hB7⟩

set_option maxHeartbeats 1000000 in
theorem s_inI (x a b : Int) (w : World) :
    Calls Tryd.prog 61 #[.int .i64 x, .int .i64 a, .int .i64 b] w fun e w' => e = .returned (.bool (decide (a ≤ x ∧ x ≤ b))) ∧ w' = w := by
  by_cases h1 : a ≤ x
  · by_cases h2 : x ≤ b
    · go_enter Tryd.func61, Tryd.ntmps61
      go_wp2
      go_ret
      exact ⟨ret_bool (by simp [h1, h2]), rfl⟩
    · go_enter Tryd.func61, Tryd.ntmps61
      go_wp2
      go_ret
      exact ⟨ret_bool (by simp [h1, h2]), rfl⟩
  · go_enter Tryd.func61, Tryd.ntmps61
    go_wp2
    go_ret
    exact ⟨ret_bool (by have h3 : ¬ a ≤ x := by omega
                        simp [h3]), rfl⟩

set_option maxHeartbeats 1000000 in
theorem spec_pathOf (b off len cap : Nat) (l : List Pr) (I : Int) (w : World) (h : SlP w (some ⟨b, off, none⟩) len l) (hcap : len ≤ cap) (hlim : ∀ p ∈ l, lim p) :
    Calls Tryd.prog 31 #[.slice (some ⟨b, off, none⟩) len cap, .int .i64 I] w fun e w' =>
      ∃ g' n' cap', e = .returned (.slice (some ⟨g', 0, none⟩) n' cap') ∧ OwnS w' w.heap.size g' n' cap' (pathI l I) ∧ Below w.heap.size w w' := by
  have hl := h.1
  have hm := h.2.1
  subst hl
  unfold maxLen at hm
  by_cases h60 : 60 < l.length
  · have HN : Hid (pathI l I = []) := by show _ = _; unfold pathI; rw [if_neg (by omega)]
    go_enter Tryd.func31, Tryd.ntmps31
    go_wp2_with fail
    go_ret
    exact ⟨w.heap.size, 0, 0, rfl, by rw [HN.out]; exact ownS_made w _ (Nat.le_refl _), (Below.refl _ _).alloc (Nat.le_refl _) _⟩
  by_cases hI : 0 ≤ I ∧ I ≤ (l.length : Int) - 1
  · obtain ⟨i, hi⟩ : ∃ i : Nat, I = (i : Int) := ⟨I.toNat, by omega⟩
    subst hi
    have hin := s_inI (i : Int) 0 ((l.length : Int) - 1) w
    rw [decide_eq_true hI] at hin
    have HIN := Hid.mk' hin
    have HN : Hid (pathI l (i : Int) = path l i) := by show _ = _; unfold pathI; rw [if_pos (by omega), Int.toNat_natCast]
    have HP := Hid.mk' (spec_l4Path l.length l rfl (by omega) hlim i b off cap w (by omega) h hcap)
    clear hin hI
    go_enter Tryd.func31, Tryd.ntmps31
    go_wp2_with fail
    refine HIN.out.mono ?_
    rintro e w1 ⟨rfl, hw1⟩
    subst hw1
    go_wp2_with fail
    refine HP.out.mono ?_
    rintro e w2 ⟨g, n, cp, rfl, hO, hB⟩
    have HO := Hid.mk' hO
    clear hO
    go_wp2_with fail
    go_ret
    exact ⟨g, n, cp, rfl, by rw [HN.out]; exact HO.out, hB⟩
  · have hin := s_inI I 0 ((l.length : Int) - 1) w
    rw [decide_eq_false hI] at hin
    have HIN := Hid.mk' hin
    have HN : Hid (pathI l I = []) := by show _ = _; unfold pathI; rw [if_neg (by omega)]
    clear hin hI
    go_enter Tryd.func31, Tryd.ntmps31
    go_wp2_with fail
    refine HIN.out.mono ?_
    rintro e w1 ⟨rfl, hw1⟩
    subst hw1
    go_wp2_with fail
    go_ret
    exact ⟨w1.heap.size, 0, 0, rfl, by rw [HN.out]; exact ownS_made w1 _ (Nat.le_refl _), (Below.refl _ _).alloc (Nat.le_refl _) _⟩

end Go.Proofs.YtmdhkoiimffmlaaDoor.tree
