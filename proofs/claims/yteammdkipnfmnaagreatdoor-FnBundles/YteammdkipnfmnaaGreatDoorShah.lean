/- The specification's inner digests and roots. The specification's paths. append within the room that a make laid: small facts on worlds; no function of the program is named here. What the specification hashes on the way up, and its check of a path. -/
import Derived.Test.YteammdkipnfmnaaGreatDoorShae
import Derived.Deep.RegionHeldLaw
import Derived.Test.YteammdkipnfmnaaGreatDoorShaa
import Derived.OwnWalk
namespace Go.Proofs.YteammdkipnfmnaaGreatDoor.tree
open Go Go.RowKit Go.Proofs.YteammdkipnfmnaaGreatDoor.base Go.Proofs.YteammdkipnfmnaaGreatDoor.pairs Go.Proofs.YteammdkipnfmnaaGreatDoor.puttext Go.Proofs.YteammdkipnfmnaaGreatDoor.putnum
set_option linter.unusedVariables false
set_option linter.unusedSimpArgs false

theorem slp_take {w : World} {b off : Nat} {l : List Pr} (h : SlP w (some ⟨b, off, none⟩) l.length l) (k : Nat) (hk : k ≤ l.length) : SlP w (some ⟨b, off, none⟩) (l.take k).length (l.take k) := by
  refine ⟨rfl, by have := h.2.1; simp; omega, fun p hp => h.2.2.1 p (List.mem_of_mem_take hp), fun _ => ⟨b, off, rfl, fun i hi => ?_⟩⟩
  rw [List.getElem_take]
  exact h.cells i (by simp at hi; omega)
theorem slp_drop {w : World} {b off : Nat} {l : List Pr} (h : SlP w (some ⟨b, off, none⟩) l.length l) (k : Nat) : SlP w (some ⟨b, off + k * 2, none⟩) (l.drop k).length (l.drop k) := by
  refine ⟨rfl, by have := h.2.1; simp; omega, fun p hp => h.2.2.1 p (List.mem_of_mem_drop hp), fun _ => ⟨b, _, rfl, fun i hi => ?_⟩⟩
  have := h.cells (k + i) (by simp at hi; omega)
  rw [List.getElem_drop, show off + k * 2 + i * 2 = off + (k + i) * 2 by omega]
  exact this

set_option maxRecDepth 100000 in
set_option maxHeartbeats 2000000 in
theorem spec_l4Inner (m : Nat) : ∀ (l : List Pr), l.length = m → m ≤ 60 → (∀ p ∈ l, lim p) → ∀ (b off cap : Nat) (w : World), SlP w (some ⟨b, off, none⟩) l.length l → l.length ≤ cap →
    Calls Tryz.prog 93 #[.slice (some ⟨b, off, none⟩) l.length cap] w fun e w' => e = .returned (.string (inner l)) ∧ Below w.heap.size w w' := by
  induction m using Nat.strongRecOn with
  | _ m ih =>
    intro l hlm h60 hlim b off cap w h hcap
    by_cases h0 : l.length = 0
    · obtain rfl : l = [] := List.eq_nil_of_length_eq_zero h0
      have hba : Below w.heap.size w (w.alloc (.cells #[] 5)) := (Below.refl _ _).alloc (Nat.le_refl _) _
      have HD := Hid.mk' (sha.spec_digest w.heap.size 0 0 0 [] _ (own_made w w.heap.size (Nat.le_refl _)).sl (by omega))
      rw [inner_nil]
      clear ih hlim h hlm
      go_enter Tryz.func93, Tryz.ntmps93
      go_wp2_with fail
      refine HD.out.mono ?_
      rintro e w2 ⟨rfl, hb2⟩
      have hB2 : Below w.heap.size w w2 := hba.trans (hb2.mono hba.size)
      go_wp2_with fail
      go_ret
      exact ⟨rfl, hB2⟩
    by_cases h1 : l.length = 1
    · obtain ⟨p, rfl⟩ : ∃ p, l = [p] := List.length_eq_one_iff.1 h1
      obtain ⟨c1, c2⟩ := h.cells 0 (by simp)
      have HL := Hid.mk' (spec_leafOf p w (hlim p (by simp)))
      rw [inner_one]
      simp only [List.getElem_cons_zero, Nat.zero_mul, Nat.add_zero] at c1 c2
      clear ih hlim h hlm
      go_enter Tryz.func93, Tryz.ntmps93
      go_wp2_with fail
      refine HL.out.mono ?_
      rintro e w2 ⟨rfl, hb2⟩
      go_wp2_with fail
      go_ret
      exact ⟨rfl, hb2⟩
    have h2 : 2 ≤ l.length := by omega
    have hbd := half_bd l.length h2
    have HH := Hid.mk' (spec_half l.length w h2 (by omega))
    have hst := inner_step l h2
    obtain ⟨k, hk⟩ : ∃ k, half l.length = k := ⟨_, rfl⟩
    rw [hk] at hbd HH hst
    have hltk : (l.take k).length = k := by simp; omega
    have hldk : (l.drop k).length = l.length - k := by simp
    have hs1 := inner_size (l.take k)
    have hs2 := inner_size (l.drop k)
    have hB : w.heap.size ≤ w.heap.size := Nat.le_refl _
    have hc1 : ∀ x : last.On w.heap.size w, Calls Tryz.prog 93 #[.slice (some ⟨b, off, none⟩) k cap] x.w fun e w' => e = .returned (.string (inner (l.take k))) ∧ ∃ y : last.On w.heap.size w, w' = y.w := fun x => last.Calls.on x (Nat.le_refl _) (by
      have := ih k (by omega) (l.take k) hltk (by omega) (fun p hp => hlim p (List.mem_of_mem_take hp)) b off cap x.w (slp_take (h.below x.2) k (by omega)) (by omega)
      rw [hltk] at this; exact this)
    have hc2 : ∀ x : last.On w.heap.size w, Calls Tryz.prog 93 #[.slice (some ⟨b, off + k * 2, none⟩) (l.length - k) (cap - k)] x.w fun e w' => e = .returned (.string (inner (l.drop k))) ∧ ∃ y : last.On w.heap.size w, w' = y.w := fun x => last.Calls.on x (Nat.le_refl _) (by
      have := ih (l.length - k) (by omega) (l.drop k) hldk (by omega) (fun p hp => hlim p (List.mem_of_mem_drop hp)) b (off + k * 2) (cap - k) x.w (slp_drop (h.below x.2) k) (by omega)
      rw [hldk] at this; exact this)
    have hc3 : ∀ x : last.On w.heap.size w, Calls Tryz.prog 119 #[.string (inner (l.take k)), .string (inner (l.drop k))] x.w fun e w' => e = .returned (.string (inner l)) ∧ ∃ y : last.On w.heap.size w, w' = y.w := fun x => last.Calls.on x (Nat.le_refl _) (by
      rw [hst]; exact spec_nodeOf _ _ x.w (by omega) (by omega))
    have q1 : (k : Int) ≤ (cap : Int) := by omega
    have q2 : ¬ cap = k := by omega
    have q3 : (k : Int) ≤ (l.length : Int) := by omega
    have q4 : ¬ (l.length : Int) = 0 := by omega
    have q5 : ¬ (l.length : Int) = 1 := by omega
    generalize inner (l.take k) = x1 at *
    generalize inner (l.drop k) = x2 at *
    generalize inner l = x0 at *
    clear ih hlim h hlm hst hltk hldk hs1 hs2 hk
    go_enter Tryz.func93, Tryz.ntmps93
    go_wp2_with fail
    refine HH.out.mono ?_
    rintro e w2 ⟨rfl, hw2⟩
    subst hw2
    go_wp2_with fail
    have hinh := last.On.inh w2.heap.size w2
    refine last.wp_region_on w2.heap.size (by kernel_rfl) (by kernel_rfl) ?_
    repeat (go_big_quiet_step ((first | (go_at_call 119; exact hc3 _) | (go_at_call 93; first | (with_reducible exact hc1 _) | (with_reducible exact hc2 _)))))
    refine wpQuiet_nil ?_
    intro w5 hw5
    obtain ⟨x5, hw5⟩ := hw5
    subst hw5
    have hB5 : Below w2.heap.size w2 x5.w := x5.2
    go_wp2_with fail
    go_ret
    exact ⟨rfl, hB5⟩


set_option maxHeartbeats 1000000 in
theorem spec_l4Root (l : List Pr) (b off cap : Nat) (w : World) (h : SlP w (some ⟨b, off, none⟩) l.length l) (hcap : l.length ≤ cap) (h60 : l.length ≤ 60) (hlim : ∀ p ∈ l, lim p) :
    Calls Tryz.prog 52 #[.slice (some ⟨b, off, none⟩) l.length cap] w fun e w' => e = .returned (.string (rootOf l)) ∧ Below w.heap.size w w' := by
  have HI := Hid.mk' (spec_l4Inner l.length l rfl h60 hlim b off cap w h hcap)
  have hs := inner_size l
  have htl := topB_length (l.length : Int) (inner l)
  have HT := Hid.mk' (fun wx => spec_l4Top (l.length : Int) (inner l) wx (WalkArith.wf_i64 (by omega)) (by omega))
  go_enter Tryz.func52, Tryz.ntmps52
  go_wp2_with fail
  refine HI.out.mono ?_
  rintro e w1 ⟨rfl, hB1⟩
  go_wp2_with fail
  refine (HT.out _).mono ?_
  rintro e w2 ⟨g, n, cp, rfl, hO, hb2⟩
  have hB2 : Below w.heap.size w w2 := hB1.trans (hb2.mono hB1.size)
  have hn : n ≤ 1099511627776 := by have := hO.1; omega
  have HD := Hid.mk' (sha.spec_digest g 0 n cp (topB (l.length : Int) (inner l)) w2 hO.sl hn)
  clear hO hB1 hb2
  go_wp2_with fail
  refine HD.out.mono ?_
  rintro e w3 ⟨rfl, hb3⟩
  have hB3 : Below w.heap.size w w3 := hB2.trans (hb3.mono hB2.size)
  go_wp2_with fail
  go_ret
  exact ⟨rfl, hB3⟩


end Go.Proofs.YteammdkipnfmnaaGreatDoor.tree

namespace Go.Proofs.YteammdkipnfmnaaGreatDoor.tree
open Go Go.RowKit Go.Proofs.YteammdkipnfmnaaGreatDoor.base Go.Proofs.YteammdkipnfmnaaGreatDoor.pairs Go.Proofs.YteammdkipnfmnaaGreatDoor.puttext Go.Proofs.YteammdkipnfmnaaGreatDoor.putnum
set_option linter.unusedVariables false
set_option linter.unusedSimpArgs false

theorem max32 {s : ByteArray} (h : s.size = 32) : s.size ≤ maxLen := by unfold maxLen; omega

set_option maxRecDepth 100000 in
set_option maxHeartbeats 4000000 in
theorem spec_l4Path (m : Nat) : ∀ (l : List Pr), l.length = m → m ≤ 60 → (∀ p ∈ l, lim p) → ∀ (i b off cap : Nat) (w : World), i < l.length → SlP w (some ⟨b, off, none⟩) l.length l → l.length ≤ cap →
    Calls Tryz.prog 95 #[.slice (some ⟨b, off, none⟩) l.length cap, .int .i64 (i : Int)] w fun e w' =>
      ∃ g' n' cap', e = .returned (.slice (some ⟨g', 0, none⟩) n' cap') ∧ OwnS w' w.heap.size g' n' cap' (path l i) ∧ Below w.heap.size w w' := by
  obtain ⟨i0, hi, hz0, hz1, hz2⟩ := info_parts info9
  induction m using Nat.strongRecOn with
  | _ m ih =>
    intro l hlm h60 hlim i b off cap w hil h hcap
    by_cases h2 : l.length < 2
    · rw [path_low l i h2]
      have h2i : (l.length : Int) < 2 := by omega
      clear ih hlim h hlm
      go_enter Tryz.func95, Tryz.ntmps95
      go_wp2_with fail
      go_ret
      exact ⟨w.heap.size, 0, 0, rfl, ownS_made w _ (Nat.le_refl _), (Below.refl _ _).alloc (Nat.le_refl _) _⟩
    have h2' : 2 ≤ l.length := by omega
    have hbd := half_bd l.length h2'
    have HH := Hid.mk' (spec_half l.length w h2' (by omega))
    have hpl := path_left l i h2'
    have hpr := path_right l i h2'
    obtain ⟨k, hk⟩ : ∃ k, half l.length = k := ⟨_, rfl⟩
    rw [hk] at hbd HH hpl hpr
    have hltk : (l.take k).length = k := by simp; omega
    have hldk : (l.drop k).length = l.length - k := by simp
    have q1 : (k : Int) ≤ (cap : Int) := by omega
    have q2 : ¬ cap = k := by omega
    have q3 : (k : Int) ≤ (l.length : Int) := by omega
    have q4 : ¬ (l.length : Int) < 2 := by omega
    by_cases hik : i < k
    · have hq := hpl hik
      have HP : Hid (∀ wx, Below w.heap.size w wx → Calls Tryz.prog 95 #[.slice (some ⟨b, off, none⟩) k cap, .int .i64 (i : Int)] wx fun e w' =>
          ∃ g' n' cap', e = .returned (.slice (some ⟨g', 0, none⟩) n' cap') ∧ OwnS w' wx.heap.size g' n' cap' (path (l.take k) i) ∧ Below wx.heap.size wx w') := fun wx hx => by
        have := ih k (by omega) (l.take k) hltk (by omega) (fun p hp => hlim p (List.mem_of_mem_take hp)) i b off cap wx (by omega) (slp_take (h.below hx) k (by omega)) (by omega)
        rw [hltk] at this; exact this
      have HI : Hid (∀ wx, Below w.heap.size w wx → Calls Tryz.prog 93 #[.slice (some ⟨b, off + k * 2, none⟩) (l.length - k) (cap - k)] wx fun e w' => e = .returned (.string (inner (l.drop k))) ∧ Below wx.heap.size wx w') := fun wx hx => by
        have := spec_l4Inner (l.length - k) (l.drop k) hldk (by omega) (fun p hp => hlim p (List.mem_of_mem_drop hp)) b (off + k * 2) (cap - k) wx (slp_drop (h.below hx) k) (by omega)
        rw [hldk] at this; exact this
      have hy2 := max32 (inner_size (l.drop k))
      have hyl := path_length (l.take k) i
      have hyd := depth_le i (l.take k).length
      have hy1 : (path (l.take k) i).length ≤ 60 := by omega
      rw [hq]
      have hiki : (i : Int) < (k : Int) := by omega
      generalize path (l.take k) i = y1 at *
      generalize inner (l.drop k) = y2 at *
      clear ih hlim h hlm hpl hpr hltk hldk hk hq hyl hyd
      go_enter Tryz.func95, Tryz.ntmps95
      go_wp2_with fail
      refine HH.out.mono ?_
      rintro e w2 ⟨rfl, hw2⟩
      subst hw2
      have hd : Below w2.heap.size w2 w2.drew := (Below.refl _ _).drew
      go_wp2_with (at_builtin; fail)
      go_region_held3 (fun w' => True) (trivial) (first | (refine step_append_own rfl (.tmp 20) (.tmp 25) 24 rfl w2.heap.size 9 i0 (.string ⟨#[]⟩) 1 16 Tryz.underlying24 hi hz0 hz1 hz2 rfl (by decide) _ _ _ rfl (hO6.2.2.alloc _) ⟨w6.heap.size, 0, none⟩ 1 1 [.string y2] rfl rfl (cell_one_new _ _ _) (str_oneCell _) (by unfold maxLen; omega) (by omega) (le_alloc _ _ hs6) ?_; intro v7 w7 hown hgrow hnn) | (go_at_call 95; refine (HP.out _ hd).mono ?_; rintro e w5 ⟨g5, n5, cp5, rfl, hO5, hb5⟩; have hB5 := hd.trans (hb5.mono hd.size)) | (go_at_call 93; refine (HI.out _ hB5).mono ?_; rintro e w6 ⟨rfl, hb6⟩; have hO6 := (hO5.mono (base' := w2.heap.size) hd.size).below hb6; have hB6 := hB5.trans (hb6.mono hB5.size); have hs6 := hB6.size; have hn6 : n5 ≤ 60 := by have := hO5.1; omega))
      all_goals
        have hgr2 : (w6.alloc (.cells #[.string y2] 9)).grownBy w7 (some g5) := hgrow
        have hnn' : ¬ v7 = .slice none 0 0 := by simpa using hnn
        have hsm : ∀ s ∈ y1 ++ [y2], s.size ≤ maxLen := fun s hs => by
          rcases List.mem_append.1 hs with h1 | h1
          · exact hO6.2.1 s h1
          · rw [List.mem_singleton.1 h1]; exact hy2
        obtain ⟨g7, cap7, hv, hO7⟩ := ownS_val (ss := y1 ++ [y2]) (n := n5 + 1) (by have := hO6.1; simp; omega) hsm hnn' (by simpa [strVals] using hown)
        subst hv
        have hB7 : Below w2.heap.size w2 w7 := (hB6.alloc hs6 _).grown hgr2 (le_alloc _ _ hs6) (fun k e => by cases e; exact hO6.lt.1)
        have HO7 := Hid.mk' hO7
        clear hown hgrow hgr2 hnn hnn' hO7 hO6 hO5 hb5 hb6 hB5 hB6
        go_wp2_with fail
        go_ret
        exact ⟨g7, _, cap7, rfl, HO7.out, hB7⟩
    · have hq := hpr hik
      obtain ⟨j, hj⟩ : ∃ j, i - k = j := ⟨_, rfl⟩
      have hji : (i : Int) - (k : Int) = (j : Int) := by omega
      have hjw : IntKind.i64.wrap (j : Int) = (j : Int) := by rw [IntKind.wrap_i64]; omega
      rw [hj] at hq
      have HP : Hid (∀ wx, Below w.heap.size w wx → Calls Tryz.prog 95 #[.slice (some ⟨b, off + k * 2, none⟩) (l.length - k) (cap - k), .int .i64 (j : Int)] wx fun e w' =>
          ∃ g' n' cap', e = .returned (.slice (some ⟨g', 0, none⟩) n' cap') ∧ OwnS w' wx.heap.size g' n' cap' (path (l.drop k) j) ∧ Below wx.heap.size wx w') := fun wx hx => by
        have := ih (l.length - k) (by omega) (l.drop k) hldk (by omega) (fun p hp => hlim p (List.mem_of_mem_drop hp)) j b (off + k * 2) (cap - k) wx (by omega) (slp_drop (h.below hx) k) (by omega)
        rw [hldk] at this; exact this
      have HI : Hid (∀ wx, Below w.heap.size w wx → Calls Tryz.prog 93 #[.slice (some ⟨b, off, none⟩) k cap] wx fun e w' => e = .returned (.string (inner (l.take k))) ∧ Below wx.heap.size wx w') := fun wx hx => by
        have := spec_l4Inner k (l.take k) hltk (by omega) (fun p hp => hlim p (List.mem_of_mem_take hp)) b off cap wx (slp_take (h.below hx) k (by omega)) (by omega)
        rw [hltk] at this; exact this
      have hy2 := max32 (inner_size (l.take k))
      have hyl := path_length (l.drop k) j
      have hyd := depth_le j (l.drop k).length
      have hy1 : (path (l.drop k) j).length ≤ 60 := by omega
      rw [hq]
      have hiki : ¬ (i : Int) < (k : Int) := by omega
      generalize path (l.drop k) j = y1 at *
      generalize inner (l.take k) = y2 at *
      clear ih hlim h hlm hpl hpr hltk hldk hk hq hyl hyd hj
      go_enter Tryz.func95, Tryz.ntmps95
      go_wp2_with fail
      refine HH.out.mono ?_
      rintro e w2 ⟨rfl, hw2⟩
      subst hw2
      have hd : Below w2.heap.size w2 w2.drew := (Below.refl _ _).drew
      go_wp2_with (at_builtin; fail)
      go_region_held3 (fun w' => True) (trivial) (first | (refine step_append_own rfl (.tmp 33) (.tmp 38) 24 rfl w2.heap.size 9 i0 (.string ⟨#[]⟩) 1 16 Tryz.underlying24 hi hz0 hz1 hz2 rfl (by decide) _ _ _ rfl (hO6.2.2.alloc _) ⟨w6.heap.size, 0, none⟩ 1 1 [.string y2] rfl rfl (cell_one_new _ _ _) (str_oneCell _) (by unfold maxLen; omega) (by omega) (le_alloc _ _ hs6) ?_; intro v7 w7 hown hgrow hnn) | (go_at_call 95; refine (HP.out _ hd).mono ?_; rintro e w5 ⟨g5, n5, cp5, rfl, hO5, hb5⟩; have hB5 := hd.trans (hb5.mono hd.size)) | (go_at_call 93; refine (HI.out _ hB5).mono ?_; rintro e w6 ⟨rfl, hb6⟩; have hO6 := (hO5.mono (base' := w2.heap.size) hd.size).below hb6; have hB6 := hB5.trans (hb6.mono hB5.size); have hs6 := hB6.size; have hn6 : n5 ≤ 60 := by have := hO5.1; omega))
      all_goals
        have hgr2 : (w6.alloc (.cells #[.string y2] 9)).grownBy w7 (some g5) := hgrow
        have hnn' : ¬ v7 = .slice none 0 0 := by simpa using hnn
        have hsm : ∀ s ∈ y1 ++ [y2], s.size ≤ maxLen := fun s hs => by
          rcases List.mem_append.1 hs with h1 | h1
          · exact hO6.2.1 s h1
          · rw [List.mem_singleton.1 h1]; exact hy2
        obtain ⟨g7, cap7, hv, hO7⟩ := ownS_val (ss := y1 ++ [y2]) (n := n5 + 1) (by have := hO6.1; simp; omega) hsm hnn' (by simpa [strVals] using hown)
        subst hv
        have hB7 : Below w2.heap.size w2 w7 := (hB6.alloc hs6 _).grown hgr2 (le_alloc _ _ hs6) (fun k e => by cases e; exact hO6.lt.1)
        have HO7 := Hid.mk' hO7
        clear hown hgrow hgr2 hnn hnn' hO7 hO6 hO5 hb5 hb6 hB5 hB6
        go_wp2_with fail
        go_ret
        exact ⟨g7, _, cap7, rfl, HO7.out, hB7⟩

set_option maxHeartbeats 1000000 in
theorem s_inI (x a b : Int) (w : World) :
    Calls Tryz.prog 30 #[.int .i64 x, .int .i64 a, .int .i64 b] w fun e w' => e = .returned (.bool (decide (a ≤ x ∧ x ≤ b))) ∧ w' = w := by
  by_cases h1 : a ≤ x
  · by_cases h2 : x ≤ b
    · go_enter Tryz.func30, Tryz.ntmps30
      go_wp2
      go_ret
      exact ⟨ret_bool (by simp [h1, h2]), rfl⟩
    · go_enter Tryz.func30, Tryz.ntmps30
      go_wp2
      go_ret
      exact ⟨ret_bool (by simp [h1, h2]), rfl⟩
  · go_enter Tryz.func30, Tryz.ntmps30
    go_wp2
    go_ret
    exact ⟨ret_bool (by have h3 : ¬ a ≤ x := by omega
                        simp [h3]), rfl⟩


end Go.Proofs.YteammdkipnfmnaaGreatDoor.tree

namespace Go.Proofs.YteammdkipnfmnaaGreatDoor.base
open Go.RowKit
set_option linter.unusedVariables false
set_option linter.unusedSimpArgs false

def Bts (w : World) (g : Nat) (s : ByteArray) : Prop := g < w.heap.size ∧ ∀ j (h : j < s.size), w.cell? ⟨g, j, none⟩ = some (.int .u8 (s[j].toNat : Int))
theorem bts_new (w : World) (s : ByteArray) : Bts (Lib.bytesWorld w 5 s) w.heap.size s := by
  refine ⟨by rw [Lib.bytesWorld_size]; omega, fun j h => ?_⟩
  rw [Lib.bytesWorld_cell w 5 s j h]; simp [List.getD, h]; rfl
theorem Bts.grown {w w' : World} {g g2 : Nat} {s : ByteArray} (h : Bts w g s) (hg : w.grownBy w' (some g2)) (hne : g ≠ g2) : Bts w' g s :=
  ⟨Nat.lt_of_lt_of_le h.1 hg.size, fun j hj => hg.cell (h.2 j hj) (by simpa using hne)⟩
theorem Bts.below {w w' : World} {g : Nat} {s : ByteArray} (h : Bts w g s) (hb : Below w.heap.size w w') : Bts w' g s :=
  ⟨Nat.lt_of_lt_of_le h.1 hb.size, fun j hj => (hb.cell (p := ⟨g, j, none⟩) h.1).trans (h.2 j hj)⟩

end Go.Proofs.YteammdkipnfmnaaGreatDoor.base

namespace Go.Proofs.YteammdkipnfmnaaGreatDoor.tree
open Go Go.RowKit Go.Proofs.YteammdkipnfmnaaGreatDoor.base Go.Proofs.YteammdkipnfmnaaGreatDoor.pairs Go.Proofs.YteammdkipnfmnaaGreatDoor.puttext Go.Proofs.YteammdkipnfmnaaGreatDoor.putnum
set_option linter.unusedVariables false
set_option linter.unusedSimpArgs false

theorem snoc_of_ne {α : Type} {l : List α} (h : l ≠ []) : ∃ q z, l = q ++ [z] := by
  exact ⟨l.dropLast, l.getLast h, (List.dropLast_concat_getLast h).symm⟩
theorem sl_bts {w : World} {g : Nat} {s : ByteArray} (h : Bts w g s) (hm : s.size ≤ maxLen) : Sl w (some ⟨g, 0, none⟩) s.size s.data.toList := by
  refine ⟨by simp, hm, fun _ => ⟨g, 0, rfl, fun i hi => ?_⟩⟩
  rw [Nat.zero_add]
  exact h.2 i (by simpa using hi)
theorem arr_size (l : List UInt8) : (⟨l.toArray⟩ : ByteArray).size = l.length := by
  show l.toArray.size = _
  exact List.size_toArray
theorem hashed_small (leaf : List UInt8) (i n : Nat) (p out : List ByteArray) (h : hashed leaf i n p = some out) (hl : leaf.length ≤ 137438953472) (hp : ∀ s ∈ p, s.size ≤ 137438953472) : ∀ s ∈ out, s.size ≤ 137438953600 := by
  induction n using Nat.strongRecOn generalizing i p out with
  | _ n ih =>
    by_cases h2 : n < 2
    · rw [hashed_low _ _ _ _ h2] at h
      split at h
      · cases h
        intro s hs
        rw [List.mem_singleton.1 hs, arr_size]; omega
      · cases h
    · have hb := half_bd n (by omega)
      cases hq : p.getLast? with
      | none =>
        have : p = [] := List.getLast?_eq_none_iff.1 hq
        subst this
        rw [hashed_none _ _ _ (by omega)] at h; cases h
      | some z =>
        have hz := hp z (List.mem_of_getLast? hq)
        have hd : ∀ s ∈ p.dropLast, s.size ≤ 137438953472 := fun s hs => hp s ((List.dropLast_sublist p).subset hs)
        by_cases hi : i < half n
        · rw [hashed_left _ _ _ _ _ (by omega) hq hi] at h
          obtain ⟨o, ho, rfl⟩ := Option.map_eq_some_iff.1 h
          intro s hs
          rcases List.mem_append.1 hs with h1 | h1
          · exact ih _ hb.2 _ _ _ ho hd s h1
          · rw [List.mem_singleton.1 h1, arr_size, nodeB_length, dg_size]; omega
        · rw [hashed_right _ _ _ _ _ (by omega) hq hi] at h
          obtain ⟨o, ho, rfl⟩ := Option.map_eq_some_iff.1 h
          intro s hs
          rcases List.mem_append.1 hs with h1 | h1
          · exact ih _ (by omega) _ _ _ ho hd s h1
          · rw [List.mem_singleton.1 h1, arr_size, nodeB_length, dg_size]; omega
theorem hashed_len (leaf : List UInt8) (i n : Nat) (p out : List ByteArray) (h : hashed leaf i n p = some out) : out.length ≤ n + 1 := by
  induction n using Nat.strongRecOn generalizing i p out with
  | _ n ih =>
    by_cases h2 : n < 2
    · rw [hashed_low _ _ _ _ h2] at h
      split at h
      · cases h; simp
      · cases h
    · have hb := half_bd n (by omega)
      cases hq : p.getLast? with
      | none =>
        have : p = [] := List.getLast?_eq_none_iff.1 hq
        subst this
        rw [hashed_none _ _ _ (by omega)] at h; cases h
      | some z =>
        by_cases hi : i < half n
        · rw [hashed_left _ _ _ _ _ (by omega) hq hi] at h
          obtain ⟨o, ho, rfl⟩ := Option.map_eq_some_iff.1 h
          have := ih _ hb.2 _ _ _ ho
          simp; omega
        · rw [hashed_right _ _ _ _ _ (by omega) hq hi] at h
          obtain ⟨o, ho, rfl⟩ := Option.map_eq_some_iff.1 h
          have := ih _ (by omega) _ _ _ ho
          simp; omega

theorem ownS_one (w : World) (s : ByteArray) (hs : s.size ≤ maxLen) : OwnS (w.alloc (.cells #[.string s] 9)) w.heap.size w.heap.size 1 1 [s] :=
  ⟨rfl, fun x hx => by rw [List.mem_singleton.1 hx]; exact hs, by simp [strVals], .inr ⟨w.heap.size, 1, #[.string s], rfl, Nat.le_refl _, heap_alloc_new w _, Nat.le_refl _, by decide, rfl, by simp [strVals]⟩⟩
theorem sls_front {w : World} {b o : Nat} {q : List ByteArray} {z : ByteArray} (h : SlS w (some ⟨b, o, none⟩) (q ++ [z]).length (q ++ [z])) : SlS w (some ⟨b, o, none⟩) q.length q := by
  obtain ⟨h1, h2, h3, h4⟩ := h
  refine ⟨rfl, by simp at h2; omega, fun s hs => h3 s (by simp [hs]), fun _ => ?_⟩
  obtain ⟨b', o', e, hc⟩ := h4 (by simp)
  refine ⟨b', o', e, fun i hi => ?_⟩
  have := hc i (by simp; omega)
  rwa [List.getElem_append_left hi] at this
theorem sls_last {w : World} {b o : Nat} {q : List ByteArray} {z : ByteArray} (h : SlS w (some ⟨b, o, none⟩) (q ++ [z]).length (q ++ [z])) : w.cell? ⟨b, o + q.length, none⟩ = some (.string z) := by
  obtain ⟨b', o', e, hc⟩ := h.2.2.2 (by simp)
  have := hc q.length (by simp)
  simp only [Option.some.injEq, Addr.mk.injEq, and_true] at e
  obtain ⟨rfl, rfl⟩ := e
  simpa using this
def HPost (w : World) (r : Option (List ByteArray)) (e : Ending) (w' : World) : Prop :=
  Below w.heap.size w w' ∧ match r with
    | none => ∃ v, e = .returned (.tuple #[v, .bool false])
    | some out => ∃ g n cap, e = .returned (.tuple #[.slice (some ⟨g, 0, none⟩) n cap, .bool true]) ∧ OwnS w' w.heap.size g n cap out

set_option maxRecDepth 100000 in
set_option maxHeartbeats 4000000 in
theorem spec_l4Hashed (m : Nat) : ∀ (leaf : List UInt8) (lbase lg ln lcap i n pb po pcap : Nat) (P : List ByteArray) (w : World), n = m → n ≤ 60 → Own w lbase lg ln lcap leaf → leaf.length ≤ 137438953472 → SlS w (some ⟨pb, po, none⟩) P.length P → (∀ s ∈ P, s.size ≤ 137438953472) → P.length ≤ pcap → i < n →
    Calls Tryz.prog 144 #[.slice (some ⟨lg, 0, none⟩) ln lcap, .int .i64 (i : Int), .int .i64 (n : Int), .slice (some ⟨pb, po, none⟩) P.length pcap] w (HPost w (hashed leaf i n P)) := by
  obtain ⟨i0, hi, hz0, hz1, hz2'⟩ := info_parts info9
  induction m using Nat.strongRecOn with
  | _ m ih =>
    intro leaf lbase lg ln lcap i n pb po pcap P w hnm h60 hL hleaf hP hPs hpc hin
    subst hnm
    by_cases h2 : n < 2
    · have h2i : (n : Int) < 2 := by omega
      have hcv := conv_own hL
      have hlsz : (⟨leaf.toArray⟩ : ByteArray).size ≤ maxLen := by rw [arr_size]; unfold maxLen; omega
      have hst := hashed_low leaf i n P h2
      by_cases hpe : P = []
      · have HN : Hid (hashed leaf i n P = some [⟨leaf.toArray⟩]) := by show _ = _; rw [hst, if_pos hpe]
        subst hpe
        generalize (⟨leaf.toArray⟩ : ByteArray) = lf at *
        clear ih hL hP hPs hst hleaf
        go_enter Tryz.func144, Tryz.ntmps144
        go_wp2_with (at_builtin; fail)
        go_ret2
        refine ⟨(Below.refl _ _).alloc (Nat.le_refl _) _, ?_⟩
        rw [HN.out]
        exact ⟨w.heap.size, 1, 1, rfl, ownS_one w lf hlsz⟩
      · have HN : Hid (hashed leaf i n P = none) := by show _ = _; rw [hst, if_neg hpe]
        have hpl : ¬ P.length = 0 := fun e => hpe (List.eq_nil_of_length_eq_zero e)
        have hpm := hP.2.1
        unfold maxLen at hpm
        have hpli : ¬ (P.length : Int) = 0 := by omega
        have hpd : ((P.length : Int) == 0) = false := by rw [beq_eq_false_iff_ne]; exact hpli
        clear ih hL hP hPs hst hleaf hpe
        go_enter Tryz.func144, Tryz.ntmps144
        go_wp2_with (at_builtin; fail)
        go_ret2
        refine ⟨(Below.refl _ _).alloc (Nat.le_refl _) _, ?_⟩
        rw [HN.out]
        exact ⟨_, rfl⟩
    have h2i : ¬ (n : Int) < 2 := by omega
    by_cases hpe : P = []
    · subst hpe
      have HN : Hid (hashed leaf i n [] = none) := hashed_none leaf i n (by omega)
      clear ih hL hP hPs hleaf
      go_enter Tryz.func144, Tryz.ntmps144
      go_wp2_with (at_builtin; fail)
      go_ret2
      refine ⟨(Below.refl _ _).alloc (Nat.le_refl _) _, ?_⟩
      rw [HN.out]
      exact ⟨_, rfl⟩
    obtain ⟨Q, z, rfl⟩ := snoc_of_ne hpe
    have hbd := half_bd n (by omega)
    have HH := Hid.mk' (spec_half n w (by omega) (by omega))
    have hpl := hashed_left leaf i n (Q ++ [z]) z (by omega) List.getLast?_concat
    have hpr := hashed_right leaf i n (Q ++ [z]) z (by omega) List.getLast?_concat
    rw [List.dropLast_concat] at hpl hpr
    obtain ⟨k, hk⟩ : ∃ k, half n = k := ⟨_, rfl⟩
    rw [hk] at hbd HH hpl hpr
    have hz2 := hPs z (by simp)
    have hQ : ∀ s ∈ Q, s.size ≤ 137438953472 := fun s hs => hPs s (by simp [hs])
    have hPQ : ∀ wx, Below w.heap.size w wx → SlS wx (some ⟨pb, po, none⟩) Q.length Q := fun wx hx => sls_front (hP.below hx)
    have hcz := sls_last hP
    have hlen : (Q ++ [z]).length = Q.length + 1 := by simp
    rw [hlen] at hP hpc ⊢
    have hqm := hP.2.1
    unfold maxLen at hqm
    have q1 : (Q.length : Int) ≤ (pcap : Int) := by omega
    have hrecL : ∀ (at_ mm : Nat), mm < n → at_ < mm → Calls Tryz.prog 144 #[.slice (some ⟨lg, 0, none⟩) ln lcap, .int .i64 (at_ : Int), .int .i64 (mm : Int), .slice (some ⟨pb, po, none⟩) Q.length pcap] w (HPost w (hashed leaf at_ mm Q)) :=
      fun at_ mm h1 h2 => ih mm (by omega) leaf lbase lg ln lcap at_ mm pb po pcap Q w rfl (by omega) hL hleaf (hPQ w (Below.refl _ _)) hQ (by omega) h2
    clear ih hP hL hPs hPQ hlen hk hpe
    by_cases hik : i < k
    · have hst := hpl hik
      have hiki : (i : Int) < (k : Int) := by omega
      have hrec := hrecL i k (by omega) hik
      clear hpl hpr hrecL
      cases hh : hashed leaf i k Q with
      | none =>
        have HN : Hid (hashed leaf i n (Q ++ [z]) = none) := by show _ = _; rw [hst, hh]; rfl
        rw [hh] at hrec
        have HR := Hid.mk' hrec
        clear hrec hh hst
        go_enter Tryz.func144, Tryz.ntmps144
        go_wp2_with (at_builtin; fail)
        refine HH.out.mono ?_
        rintro e w2 ⟨rfl, hw2⟩
        subst hw2
        go_wp2_with (at_builtin; fail)
        refine HR.out.mono ?_
        rintro e w5 ⟨hB5, v, rfl⟩
        go_wp2_with (at_builtin; fail)
        go_ret2
        exact ⟨hB5.alloc hB5.size _, by rw [HN.out]; exact ⟨_, rfl⟩⟩
      | some out =>
        obtain ⟨out', y, rfl⟩ := snoc_of_ne (hashed_ne _ _ _ _ _ hh)
        have HN : Hid (hashed leaf i n (Q ++ [z]) = some (out' ++ [y] ++ [⟨(nodeB (dg y.data.toList) z).toArray⟩])) := by
          show _ = _; rw [hst, hh]; simp
        have hsm := hashed_small leaf i k Q _ hh hleaf hQ
        have hol0 := hashed_len leaf i k Q _ hh
        have hy := hsm y (by simp)
        rw [hh] at hrec
        have HR := Hid.mk' hrec
        have hds := dg_size y.data.toList
        have hnb := nodeB_length (dg y.data.toList) z
        have hnb2 := nodeB_length z (dg y.data.toList)
        have HSM := Hid.mk' hsm
        clear hrec hh hst hsm
        go_enter Tryz.func144, Tryz.ntmps144
        go_wp2_with (at_builtin; fail)
        refine HH.out.mono ?_
        rintro e w2 ⟨rfl, hw2⟩
        subst hw2
        go_wp2_with (at_builtin; fail)
        refine HR.out.mono ?_
        rintro e w5 ⟨hB5, g5, n5, cp5, rfl, hO5⟩
        have hn5 := hO5.1
        have hn5' : n5 = out'.length + 1 := by simp at hn5; omega
        subst hn5'
        have hcy := hO5.at out'.length (by simp)
        simp only [List.getElem_concat_length] at hcy
        have hconv := Lib.run_convert_string_bytes (P := Tryz.prog) w5 9 22 5 y Tryz.underlying9 Tryz.underlying22 Tryz.underlying5
        have hBb := below_bytesWorld w5 5 y
        have HD := Hid.mk' (fun c => sha.spec_digest w5.heap.size 0 y.size c y.data.toList (Lib.bytesWorld w5 5 y) (sl_bts (bts_new w5 y) (by unfold maxLen; omega)) (by omega))
        have hol : out'.length ≤ 100 := by simp at hol0; omega
        have HB5 := Hid.mk' hB5
        have HO5 := Hid.mk' hO5
        clear hB5 hO5 hn5
        go_wp2_with (at_builtin; fail)
        refine (HD.out _).mono ?_
        rintro e w6 ⟨rfl, hb6⟩
        have hB6 : Below w5.heap.size w5 w6 := hBb.trans (hb6.mono hBb.size)
        have hO6 := HO5.out.below hB6
        have hB6' := HB5.out.trans (hB6.mono HB5.out.size)
        have hdd : (⟨(sha.digest y.data.toList).toArray⟩ : ByteArray) = dg y.data.toList := rfl
        rw [hdd]
        have HL := Hid.mk' (fun wx => spec_l4Node (dg y.data.toList) z wx (by omega) hz2)
        generalize dg y.data.toList = d at *
        clear hconv hBb HD hb6 hB6 HO5 HB5 hcy
        go_wp2_with (at_builtin; fail)
        refine (HL.out _).mono ?_
        rintro e w7 ⟨g7, n7, cp7, rfl, hO7, hb7⟩
        have hcv := conv_own hO7
        have hnds : (⟨(nodeB d z).toArray⟩ : ByteArray).size ≤ maxLen := by rw [arr_size, nodeB_length]; unfold maxLen; omega
        obtain ⟨nd, hnd⟩ : ∃ nd, (⟨(nodeB d z).toArray⟩ : ByteArray) = nd := ⟨_, rfl⟩
        rw [hnd] at hcv hnds HN
        clear hnd
        have hO8 := hO6.below hb7
        have hB7 := hB6'.trans (hb7.mono hB6'.size)
        have hs7 := hB7.size
        clear hO6 hB6' hb7 hO7 HL
        have hc3 : out'.length + 1 + 1 ≤ maxLen := by unfold maxLen; omega
        have hc4 : (out'.length + 1 + 1) * 16 ≤ 140737488355328 := by omega
        go_wp2_with (at_builtin; refine wpList_append_own _ rfl (.tmp 74) (.tmp 79) 24 rfl w2.heap.size 9 i0 (.string ⟨#[]⟩) 1 16 Tryz.underlying24 hi hz0 hz1 hz2' rfl (by decide) _ _ _ rfl (hO8.2.2.alloc _) ⟨w7.heap.size, 0, none⟩ 1 1 [.string nd] rfl rfl (cell_one_new _ _ _) (str_oneCell _) hc3 hc4 (le_alloc _ _ hs7) ?_)
        intro v9 w9 hown hgrow hnn
        have hnn' : ¬ v9 = .slice none 0 0 := by simpa using hnn
        obtain ⟨g9, cap9, hv, hO9⟩ := ownS_val (ss := out' ++ [y] ++ [nd]) (n := out'.length + 1 + 1) (by simp) (fun s hs => by
          rcases List.mem_append.1 hs with h1 | h1
          · exact hO8.2.1 s h1
          · rw [List.mem_singleton.1 h1]; exact hnds) hnn' (by simpa [strVals] using hown)
        subst hv
        have hB9 : Below w2.heap.size w2 w9 := (hB7.alloc hs7 _).grown hgrow (le_alloc _ _ hs7) (fun k e => by simp [Value.ownBlock] at e; have := hO8.lt; omega)
        have HO9 := Hid.mk' hO9
        clear hown hgrow hnn hnn' hO9 hO8 hB7
        go_wp2_with (at_builtin; fail)
        go_ret2
        exact ⟨hB9, by rw [HN.out]; exact ⟨g9, _, cap9, rfl, HO9.out⟩⟩
    · have hst := hpr hik
      have hiki : ¬ (i : Int) < (k : Int) := by omega
      obtain ⟨j, hj⟩ : ∃ j, i - k = j := ⟨_, rfl⟩
      obtain ⟨r, hr⟩ : ∃ r, n - k = r := ⟨_, rfl⟩
      rw [hj, hr] at hst
      have hji : (i : Int) - (k : Int) = (j : Int) := by omega
      have hri : (n : Int) - (k : Int) = (r : Int) := by omega
      have hrec := hrecL j r (by omega) (by omega)
      clear hpl hpr hrecL hj hr
      cases hh : hashed leaf j r Q with
      | none =>
        have HN : Hid (hashed leaf i n (Q ++ [z]) = none) := by show _ = _; rw [hst, hh]; rfl
        rw [hh] at hrec
        have HR := Hid.mk' hrec
        clear hrec hh hst
        go_enter Tryz.func144, Tryz.ntmps144
        go_wp2_with (at_builtin; fail)
        refine HH.out.mono ?_
        rintro e w2 ⟨rfl, hw2⟩
        subst hw2
        go_wp2_with (at_builtin; fail)
        refine HR.out.mono ?_
        rintro e w5 ⟨hB5, v, rfl⟩
        go_wp2_with (at_builtin; fail)
        go_ret2
        exact ⟨hB5.alloc hB5.size _, by rw [HN.out]; exact ⟨_, rfl⟩⟩
      | some out =>
        obtain ⟨out', y, rfl⟩ := snoc_of_ne (hashed_ne _ _ _ _ _ hh)
        have HN : Hid (hashed leaf i n (Q ++ [z]) = some (out' ++ [y] ++ [⟨(nodeB z (dg y.data.toList)).toArray⟩])) := by
          show _ = _; rw [hst, hh]; simp
        have hsm := hashed_small leaf j r Q _ hh hleaf hQ
        have hol0 := hashed_len leaf j r Q _ hh
        have hy := hsm y (by simp)
        rw [hh] at hrec
        have HR := Hid.mk' hrec
        have hds := dg_size y.data.toList
        have hnb := nodeB_length (dg y.data.toList) z
        have hnb2 := nodeB_length z (dg y.data.toList)
        have HSM := Hid.mk' hsm
        clear hrec hh hst hsm
        go_enter Tryz.func144, Tryz.ntmps144
        go_wp2_with (at_builtin; fail)
        refine HH.out.mono ?_
        rintro e w2 ⟨rfl, hw2⟩
        subst hw2
        go_wp2_with (at_builtin; fail)
        refine HR.out.mono ?_
        rintro e w5 ⟨hB5, g5, n5, cp5, rfl, hO5⟩
        have hn5 := hO5.1
        have hn5' : n5 = out'.length + 1 := by simp at hn5; omega
        subst hn5'
        have hcy := hO5.at out'.length (by simp)
        simp only [List.getElem_concat_length] at hcy
        have hconv := Lib.run_convert_string_bytes (P := Tryz.prog) w5 9 22 5 y Tryz.underlying9 Tryz.underlying22 Tryz.underlying5
        have hBb := below_bytesWorld w5 5 y
        have HD := Hid.mk' (fun c => sha.spec_digest w5.heap.size 0 y.size c y.data.toList (Lib.bytesWorld w5 5 y) (sl_bts (bts_new w5 y) (by unfold maxLen; omega)) (by omega))
        have hol : out'.length ≤ 100 := by simp at hol0; omega
        have HB5 := Hid.mk' hB5
        have HO5 := Hid.mk' hO5
        clear hB5 hO5 hn5
        go_wp2_with (at_builtin; fail)
        refine (HD.out _).mono ?_
        rintro e w6 ⟨rfl, hb6⟩
        have hB6 : Below w5.heap.size w5 w6 := hBb.trans (hb6.mono hBb.size)
        have hO6 := HO5.out.below hB6
        have hB6' := HB5.out.trans (hB6.mono HB5.out.size)
        have hdd : (⟨(sha.digest y.data.toList).toArray⟩ : ByteArray) = dg y.data.toList := rfl
        rw [hdd]
        have HL := Hid.mk' (fun wx => spec_l4Node z (dg y.data.toList) wx hz2 (by omega))
        generalize dg y.data.toList = d at *
        clear hconv hBb HD hb6 hB6 HO5 HB5 hcy
        go_wp2_with (at_builtin; fail)
        refine (HL.out _).mono ?_
        rintro e w7 ⟨g7, n7, cp7, rfl, hO7, hb7⟩
        have hcv := conv_own hO7
        have hnds : (⟨(nodeB z d).toArray⟩ : ByteArray).size ≤ maxLen := by rw [arr_size, nodeB_length]; unfold maxLen; omega
        obtain ⟨nd, hnd⟩ : ∃ nd, (⟨(nodeB z d).toArray⟩ : ByteArray) = nd := ⟨_, rfl⟩
        rw [hnd] at hcv hnds HN
        clear hnd
        have hO8 := hO6.below hb7
        have hB7 := hB6'.trans (hb7.mono hB6'.size)
        have hs7 := hB7.size
        clear hO6 hB6' hb7 hO7 HL
        have hc3 : out'.length + 1 + 1 ≤ maxLen := by unfold maxLen; omega
        have hc4 : (out'.length + 1 + 1) * 16 ≤ 140737488355328 := by omega
        go_wp2_with (at_builtin; refine wpList_append_own _ rfl (.tmp 81) (.tmp 86) 24 rfl w2.heap.size 9 i0 (.string ⟨#[]⟩) 1 16 Tryz.underlying24 hi hz0 hz1 hz2' rfl (by decide) _ _ _ rfl (hO8.2.2.alloc _) ⟨w7.heap.size, 0, none⟩ 1 1 [.string nd] rfl rfl (cell_one_new _ _ _) (str_oneCell _) hc3 hc4 (le_alloc _ _ hs7) ?_)
        intro v9 w9 hown hgrow hnn
        have hnn' : ¬ v9 = .slice none 0 0 := by simpa using hnn
        obtain ⟨g9, cap9, hv, hO9⟩ := ownS_val (ss := out' ++ [y] ++ [nd]) (n := out'.length + 1 + 1) (by simp) (fun s hs => by
          rcases List.mem_append.1 hs with h1 | h1
          · exact hO8.2.1 s h1
          · rw [List.mem_singleton.1 h1]; exact hnds) hnn' (by simpa [strVals] using hown)
        subst hv
        have hB9 : Below w2.heap.size w2 w9 := (hB7.alloc hs7 _).grown hgrow (le_alloc _ _ hs7) (fun k e => by simp [Value.ownBlock] at e; have := hO8.lt; omega)
        have HO9 := Hid.mk' hO9
        clear hown hgrow hnn hnn' hO9 hO8 hB7
        go_wp2_with (at_builtin; fail)
        go_ret2
        exact ⟨hB9, by rw [HN.out]; exact ⟨g9, _, cap9, rfl, HO9.out⟩⟩

end Go.Proofs.YteammdkipnfmnaaGreatDoor.tree
