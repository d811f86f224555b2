/- The program's paths: a closure that calls itself. -/
import Derived.Test.YtmdhkoiimffmlaaDoorTreeF
namespace Go.Proofs.YtmdhkoiimffmlaaDoor.tree
open Go Go.RowKit Go.Proofs.YtmdhkoiimffmlaaDoor.base Go.Proofs.YtmdhkoiimffmlaaDoor.pairs Go.Proofs.YtmdhkoiimffmlaaDoor.puttext Go.Proofs.YtmdhkoiimffmlaaDoor.putnum
set_option linter.unusedVariables false
set_option linter.unusedSimpArgs false

set_option maxRecDepth 100000 in
set_option maxHeartbeats 4000000 in
theorem impl_pathC (m : Nat) : ∀ (l : List Pr), l.length = m → m ≤ 60 → (∀ p ∈ l, lim p) → ∀ (i b off cap t : Nat) (w : World), i < l.length → SlP w (some ⟨b, off, none⟩) l.length l → l.length ≤ cap → Self w 50 t → sha.KW w →
    Calls Tryd.prog 50 #[.slice (some ⟨b, off, none⟩) l.length cap, .int .i64 (i : Int), .pointer (some ⟨t, 0, none⟩)] w fun e w' =>
      ∃ g' n' cap', e = .returned (.slice (some ⟨g', 0, none⟩) n' cap') ∧ OwnS w' w.heap.size g' n' cap' (path l i) ∧ Below w.heap.size w w' := by
  obtain ⟨i0, hi, hz0, hz1, hz2⟩ := info_parts info9
  induction m using Nat.strongRecOn with
  | _ m ih =>
    intro l hlm h60 hlim i b off cap t w hil h hcap hT hK
    by_cases h2 : l.length < 2
    · rw [path_low l i h2]
      have h2i : (l.length : Int) = 1 := by omega
      clear ih hlim h hlm hT hK
      go_enter Tryd.func50, Tryd.ntmps50
      go_wp2_with fail
      go_ret
      exact ⟨w.heap.size, 0, 0, rfl, ownS_made w _ (Nat.le_refl _), (Below.refl _ _).alloc (Nat.le_refl _) _⟩
    have h2' : 2 ≤ l.length := by omega
    have hbd := half_bd l.length h2'
    obtain ⟨k, hk⟩ : ∃ k, half l.length = k := ⟨_, rfl⟩
    have HH := Hid.mk' (impl_halves b off l.length cap w h2' (by omega) hcap k hk)
    have hpl := path_left l i h2'
    have hpr := path_right l i h2'
    rw [hk] at hbd hpl hpr
    have hltk : (l.take k).length = k := by simp; omega
    have hldk : (l.drop k).length = l.length - k := by simp
    have q4 : ¬ (l.length : Int) = 1 := by omega
    by_cases hik : i < k
    · have hq := hpl hik
      have HP : Hid (∀ wx, Below w.heap.size w wx → Calls Tryd.prog 50 #[.slice (some ⟨b, off, none⟩) k k, .int .i64 (i : Int), .pointer (some ⟨t, 0, none⟩)] wx fun e w' =>
          ∃ g' n' cap', e = .returned (.slice (some ⟨g', 0, none⟩) n' cap') ∧ OwnS w' wx.heap.size g' n' cap' (path (l.take k) i) ∧ Below wx.heap.size wx w') := fun wx hx => by
        have := ih k (by omega) (l.take k) hltk (by omega) (fun p hp => hlim p (List.mem_of_mem_take hp)) i b off k t wx (by omega) (slp_take (h.below hx) k (by omega)) (by omega) (hT.below hx) (hK.below hx)
        rw [hltk] at this; exact this
      have HI : Hid (∀ wx, Below w.heap.size w wx → Calls Tryd.prog 28 #[.slice (some ⟨b, off + k * 2, none⟩) (l.length - k) (l.length - k)] wx fun e w' => e = .returned (.string (inner (l.drop k))) ∧ Below wx.heap.size wx w') := fun wx hx => by
        have := impl_innerOf b (off + k * 2) (l.length - k) (l.length - k) (l.drop k) wx (by have := slp_drop (h.below hx) k; rw [hldk] at this; exact this) (Nat.le_refl _) (fun p hp => hlim p (List.mem_of_mem_drop hp)) (hK.below hx)
        unfold innerI at this
        rw [if_pos (by rw [hldk]; omega)] at this; exact this
      have hy2 := max32 (inner_size (l.drop k))
      have hyl := path_length (l.take k) i
      have hyd := depth_le i (l.take k).length
      have hy1 : (path (l.take k) i).length ≤ 60 := by omega
      rw [hq]
      have hiki : (i : Int) < (k : Int) := by omega
      generalize path (l.take k) i = y1 at *
      generalize inner (l.drop k) = y2 at *
      clear ih hlim h hlm hpl hpr hltk hldk hk hq hyl hyd hK
      have hTl : w.cell? ⟨t, 0, none⟩ = some (.func (.func 50) #[] #[.pointer (some ⟨t, 0, none⟩)]) := hT
      have HT := Hid.mk' hT
      clear hT hTl
      go_enter Tryd.func50, Tryd.ntmps50
      go_wp2_with fail
      refine HH.out.mono ?_
      rintro e w2 ⟨rfl, hB2⟩
      have hTl : w2.cell? ⟨t, 0, none⟩ = some (.func (.func 50) #[] #[.pointer (some ⟨t, 0, none⟩)]) := HT.out.below hB2
      clear HT HH
      go_wp2_with (at_builtin; fail)
      refine (HP.out _ hB2).mono ?_
      rintro e w5 ⟨g5, n5, cp5, rfl, hO5, hb5⟩
      have hB5 := hB2.trans (hb5.mono hB2.size)
      have HO5 := Hid.mk' hO5
      clear hO5 hTl HP
      go_wp2_with (at_builtin; fail)
      refine (HI.out _ hB5).mono ?_
      rintro e w6 ⟨rfl, hb6⟩
      have hO6 := (HO5.out.mono (base' := w.heap.size) hB2.size).below hb6
      have hB6 := hB5.trans (hb6.mono hB5.size)
      have hs6 := hB6.size
      have hn6 : n5 ≤ 60 := by have := hO6.1; omega
      have hc3 : n5 + 1 ≤ maxLen := by unfold maxLen; omega
      have hc4 : (n5 + 1) * 16 ≤ 140737488355328 := by omega
      clear HO5 HI hb5 hb6 hB5
      go_wp2_with (at_builtin; refine wpList_append_own _ rfl (.tmp 24) (.tmp 27) 33 rfl w.heap.size 9 i0 (.string ⟨#[]⟩) 1 16 Tryd.underlying33 hi hz0 hz1 hz2 rfl (by decide) _ _ _ rfl (hO6.2.2.alloc _) ⟨w6.heap.size, 0, none⟩ 1 1 [.string y2] rfl rfl (cell_one_new _ _ _) (str_oneCell _) hc3 hc4 (le_alloc _ _ hs6) ?_)
      intro v7 w7 hown hgrow hnn
      have hgr2 : (w6.alloc (.cells #[.string y2] 9)).grownBy w7 (some g5) := hgrow
      have hnn' : ¬ v7 = .slice none 0 0 := by simpa using hnn
      have hsm : ∀ s ∈ y1 ++ [y2], s.size ≤ maxLen := fun s hs => by
        rcases List.mem_append.1 hs with h1 | h1
        · exact hO6.2.1 s h1
        · rw [List.mem_singleton.1 h1]; exact hy2
      obtain ⟨g7, cap7, hv, hO7⟩ := ownS_val (ss := y1 ++ [y2]) (n := n5 + 1) (by have := hO6.1; simp; omega) hsm hnn' (by simpa [strVals] using hown)
      subst hv
      have hB7 : Below w.heap.size w w7 := (hB6.alloc hs6 _).grown hgr2 (le_alloc _ _ hs6) (fun k e => by cases e; exact hO6.lt.1)
      have HO7 := Hid.mk' hO7
      clear hown hgrow hgr2 hnn hnn' hO7 hO6 hB6
      go_wp2_with fail
      go_ret
      exact ⟨g7, _, cap7, rfl, HO7.out, hB7⟩
    · have hq := hpr hik
      obtain ⟨j, hj⟩ : ∃ j, i - k = j := ⟨_, rfl⟩
      have hji : (i : Int) - (k : Int) = (j : Int) := by omega
      have hjw : IntKind.i64.wrap (j : Int) = (j : Int) := by rw [IntKind.wrap_i64]; omega
      rw [hj] at hq
      have HP : Hid (∀ wx, Below w.heap.size w wx → Calls Tryd.prog 50 #[.slice (some ⟨b, off + k * 2, none⟩) (l.length - k) (l.length - k), .int .i64 (j : Int), .pointer (some ⟨t, 0, none⟩)] wx fun e w' =>
          ∃ g' n' cap', e = .returned (.slice (some ⟨g', 0, none⟩) n' cap') ∧ OwnS w' wx.heap.size g' n' cap' (path (l.drop k) j) ∧ Below wx.heap.size wx w') := fun wx hx => by
        have := ih (l.length - k) (by omega) (l.drop k) hldk (by omega) (fun p hp => hlim p (List.mem_of_mem_drop hp)) j b (off + k * 2) (l.length - k) t wx (by omega) (slp_drop (h.below hx) k) (by omega) (hT.below hx) (hK.below hx)
        rw [hldk] at this; exact this
      have HI : Hid (∀ wx, Below w.heap.size w wx → Calls Tryd.prog 28 #[.slice (some ⟨b, off, none⟩) k k] wx fun e w' => e = .returned (.string (inner (l.take k))) ∧ Below wx.heap.size wx w') := fun wx hx => by
        have := impl_innerOf b off k k (l.take k) wx (by have := slp_take (h.below hx) k (by omega); rw [hltk] at this; exact this) (Nat.le_refl _) (fun p hp => hlim p (List.mem_of_mem_take hp)) (hK.below hx)
        unfold innerI at this
        rw [if_pos (by rw [hltk]; omega)] at this; exact this
      have hy2 := max32 (inner_size (l.take k))
      have hyl := path_length (l.drop k) j
      have hyd := depth_le j (l.drop k).length
      have hy1 : (path (l.drop k) j).length ≤ 60 := by omega
      rw [hq]
      have hiki : ¬ (i : Int) < (k : Int) := by omega
      generalize path (l.drop k) j = y1 at *
      generalize inner (l.take k) = y2 at *
      clear ih hlim h hlm hpl hpr hltk hldk hk hq hyl hyd hK hj
      have hTl : w.cell? ⟨t, 0, none⟩ = some (.func (.func 50) #[] #[.pointer (some ⟨t, 0, none⟩)]) := hT
      have HT := Hid.mk' hT
      clear hT hTl
      go_enter Tryd.func50, Tryd.ntmps50
      go_wp2_with fail
      refine HH.out.mono ?_
      rintro e w2 ⟨rfl, hB2⟩
      have hTl : w2.cell? ⟨t, 0, none⟩ = some (.func (.func 50) #[] #[.pointer (some ⟨t, 0, none⟩)]) := HT.out.below hB2
      clear HT HH
      go_wp2_with (at_builtin; fail)
      refine (HP.out _ hB2).mono ?_
      rintro e w5 ⟨g5, n5, cp5, rfl, hO5, hb5⟩
      have hB5 := hB2.trans (hb5.mono hB2.size)
      have HO5 := Hid.mk' hO5
      clear hO5 hTl HP
      go_wp2_with (at_builtin; fail)
      refine (HI.out _ hB5).mono ?_
      rintro e w6 ⟨rfl, hb6⟩
      have hO6 := (HO5.out.mono (base' := w.heap.size) hB2.size).below hb6
      have hB6 := hB5.trans (hb6.mono hB5.size)
      have hs6 := hB6.size
      have hn6 : n5 ≤ 60 := by have := hO6.1; omega
      have hc3 : n5 + 1 ≤ maxLen := by unfold maxLen; omega
      have hc4 : (n5 + 1) * 16 ≤ 140737488355328 := by omega
      clear HO5 HI hb5 hb6 hB5
      go_wp2_with (at_builtin; refine wpList_append_own _ rfl (.tmp 35) (.tmp 38) 33 rfl w.heap.size 9 i0 (.string ⟨#[]⟩) 1 16 Tryd.underlying33 hi hz0 hz1 hz2 rfl (by decide) _ _ _ rfl (hO6.2.2.alloc _) ⟨w6.heap.size, 0, none⟩ 1 1 [.string y2] rfl rfl (cell_one_new _ _ _) (str_oneCell _) hc3 hc4 (le_alloc _ _ hs6) ?_)
      intro v7 w7 hown hgrow hnn
      have hgr2 : (w6.alloc (.cells #[.string y2] 9)).grownBy w7 (some g5) := hgrow
      have hnn' : ¬ v7 = .slice none 0 0 := by simpa using hnn
      have hsm : ∀ s ∈ y1 ++ [y2], s.size ≤ maxLen := fun s hs => by
        rcases List.mem_append.1 hs with h1 | h1
        · exact hO6.2.1 s h1
        · rw [List.mem_singleton.1 h1]; exact hy2
      obtain ⟨g7, cap7, hv, hO7⟩ := ownS_val (ss := y1 ++ [y2]) (n := n5 + 1) (by have := hO6.1; simp; omega) hsm hnn' (by simpa [strVals] using hown)
      subst hv
      have hB7 : Below w.heap.size w w7 := (hB6.alloc hs6 _).grown hgr2 (le_alloc _ _ hs6) (fun k e => by cases e; exact hO6.lt.1)
      have HO7 := Hid.mk' hO7
      clear hown hgrow hgr2 hnn hnn' hO7 hO6 hB6
      go_wp2_with fail
      go_ret
      exact ⟨g7, _, cap7, rfl, HO7.out, hB7⟩

set_option maxHeartbeats 1000000 in
theorem impl_pathOf (b off len cap : Nat) (l : List Pr) (I : Int) (w : World) (h : SlP w (some ⟨b, off, none⟩) len l) (hcap : len ≤ cap) (hlim : ∀ p ∈ l, lim p) (hI : (Lit.int .i64 I).wf = true) (hK : sha.KW w) :
    Calls Tryd.prog 18 #[.slice (some ⟨b, off, none⟩) len cap, .int .i64 I] w fun e w' =>
      ∃ g' n' cap', e = .returned (.slice (some ⟨g', 0, none⟩) n' cap') ∧ OwnS w' w.heap.size g' n' cap' (pathI l I) ∧ Below w.heap.size w w' := by
  have hl := h.1
  have hm := h.2.1
  subst hl
  unfold maxLen at hm
  have hmf := makeFunc_run
  have hp := impl_placeOk I (l.length : Int) w
  by_cases hc : l.length ≤ 60 ∧ 0 ≤ I ∧ I ≤ (l.length : Int) - 1
  · obtain ⟨i, hi⟩ : ∃ i : Nat, I = (i : Int) := ⟨I.toNat, by omega⟩
    subst hi
    rw [decide_eq_true (show (l.length : Int) ≤ 60 by omega), decide_eq_true (show (0 : Int) ≤ (i : Int) by omega), decide_eq_true (show (i : Int) < (l.length : Int) by omega)] at hp
    have HPL := Hid.mk' hp
    have HN : Hid (pathI l (i : Int) = path l i) := by show _ = _; unfold pathI; rw [if_pos (by omega), Int.toNat_natCast]
    have HP : Hid (∀ wx, Below w.heap.size w wx → Self wx 50 w.heap.size → Calls Tryd.prog 50 #[.slice (some ⟨b, off, none⟩) l.length cap, .int .i64 (i : Int), .pointer (some ⟨w.heap.size, 0, none⟩)] wx fun e w' =>
        ∃ g' n' cap', e = .returned (.slice (some ⟨g', 0, none⟩) n' cap') ∧ OwnS w' wx.heap.size g' n' cap' (path l i) ∧ Below wx.heap.size wx w') :=
      fun wx hx hT => impl_pathC l.length l rfl (by omega) hlim i b off cap w.heap.size wx (by omega) (h.below hx) hcap hT (hK.below hx)
    clear hp hc h hK hlim
    go_enter Tryd.func18, Tryd.ntmps18
    go_wp2_with fail
    refine HPL.out.mono ?_
    rintro e w1 ⟨rfl, hw1⟩
    subst hw1
    go_wp2_with fail
    refine (HP.out _ ?hb ?ht).mono ?_
    case hb => exact (Below.refl _ _).alloc (Nat.le_refl _) _
    case ht => exact self_made w1 _ _
    rintro e w2 ⟨g, n, cp, rfl, hO, hb⟩
    have hB : Below w1.heap.size w1 w2 := ((Below.refl _ _).alloc (Nat.le_refl _) _).trans (hb.mono (by simp))
    have HO := Hid.mk' (hO.mono (base' := w1.heap.size) (by simp))
    clear hO
    go_wp2_with fail
    go_ret
    exact ⟨g, n, cp, rfl, by rw [HN.out]; exact HO.out, hB⟩
  · have hd : (decide ((l.length : Int) ≤ 60) && decide (0 ≤ I) && decide (I < (l.length : Int))) = false := by
      rw [Bool.and_eq_false_iff, Bool.and_eq_false_iff, decide_eq_false_iff_not, decide_eq_false_iff_not, decide_eq_false_iff_not]; omega
    rw [hd] at hp
    have HPL := Hid.mk' hp
    have HN : Hid (pathI l I = []) := by show _ = _; unfold pathI; rw [if_neg (by omega)]
    clear hp hc hd h hK hlim
    go_enter Tryd.func18, Tryd.ntmps18
    go_wp2_with fail
    refine HPL.out.mono ?_
    rintro e w1 ⟨rfl, hw1⟩
    subst hw1
    go_wp2_with fail
    go_ret
    exact ⟨w1.heap.size, 0, 0, rfl, by rw [HN.out]; exact ownS_made w1 _ (Nat.le_refl _), (Below.refl _ _).alloc (Nat.le_refl _) _⟩
end Go.Proofs.YtmdhkoiimffmlaaDoor.tree
