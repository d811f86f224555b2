/- The program's paths: a closure that calls itself. Plain mathematics: all that is hashed from a leaf to a root, from the leaf up. The program's check of a path. The program's check of a path. The specification's union. The program's right pairs, and pairs put into others. The program's right pairs, and pairs put into others, whole. The specification's check of an item. Marks on rows of structs. No function of the program is named here. Arguments: what came in is read as a value of its type. No function of the program is named here. -/
import Derived.Test.YteammdkipnfmnaaDoorShan
import Derived.Test.YteammdkipnfmnaaDoorShal
import Derived.Test.YteammdkipnfmnaaDoorShai
import Derived.Test.YteammdkipnfmnaaDoorShag
import Derived.Test.YteammdkipnfmnaaDoorShaf
import Derived.ChangeArms
import Derived.Deep.Slices
import Derived.WideShapes
import Derived.Deep.SlicePairs
namespace Go.Proofs.YteammdkipnfmnaaDoor.tree
open Go Go.RowKit Go.Proofs.YteammdkipnfmnaaDoor.base Go.Proofs.YteammdkipnfmnaaDoor.pairs Go.Proofs.YteammdkipnfmnaaDoor.puttext Go.Proofs.YteammdkipnfmnaaDoor.putnum
set_option linter.unusedVariables false
set_option linter.unusedSimpArgs false

set_option maxRecDepth 100000 in
set_option maxHeartbeats 4000000 in
theorem impl_pathC (m : Nat) : ∀ (l : List Pr), l.length = m → m ≤ 60 → (∀ p ∈ l, lim p) → ∀ (i b off cap t : Nat) (w : World), i < l.length → SlP w (some ⟨b, off, none⟩) l.length l → l.length ≤ cap → Self w 63 t → sha.KW w →
    Calls Tryd.prog 63 #[.slice (some ⟨b, off, none⟩) l.length cap, .int .i64 (i : Int), .pointer (some ⟨t, 0, none⟩)] w fun e w' =>
      ∃ g' n' cap', e = .returned (.slice (some ⟨g', 0, none⟩) n' cap') ∧ OwnS w' w.heap.size g' n' cap' (path l i) ∧ Below w.heap.size w w' := by
  obtain ⟨i0, hi, hz0, hz1, hz2⟩ := info_parts info9
  induction m using Nat.strongRecOn with
  | _ m ih =>
    intro l hlm h60 hlim i b off cap t w hil h hcap hT hK
    by_cases h2 : l.length < 2
    · rw [path_low l i h2]
      have h2i : (l.length : Int) = 1 := by omega
      clear ih hlim h hlm hT hK
      go_enter Tryd.func63, Tryd.ntmps63
      go_wp2_with fail
      go_ret
      exact ⟨w.heap.size, 0, 0, rfl, ownS_made w _ (Nat.le_refl _), (Below.refl _ _).alloc (Nat.le_refl _) _⟩
    have h2' : 2 ≤ l.length := by omega
    have hbd := half_bd l.length h2'
    obtain ⟨k, hk⟩ : ∃ k, half l.length = k := ⟨_, rfl⟩
    have HH := Hid.mk' (impl_halves b off l.length cap w h2' (by omega) hcap k hk)
    have hpl := path_left l i h2'
    have hpr := path_right l i h2'
    rw [hk] at hbd hpl hpr
    have hltk : (l.take k).length = k := by simp; omega
    have hldk : (l.drop k).length = l.length - k := by simp
    have q4 : ¬ (l.length : Int) = 1 := by omega
    by_cases hik : i < k
    · have hq := hpl hik
      have HP : Hid (∀ wx, Below w.heap.size w wx → Calls Tryd.prog 63 #[.slice (some ⟨b, off, none⟩) k k, .int .i64 (i : Int), .pointer (some ⟨t, 0, none⟩)] wx fun e w' =>
          ∃ g' n' cap', e = .returned (.slice (some ⟨g', 0, none⟩) n' cap') ∧ OwnS w' wx.heap.size g' n' cap' (path (l.take k) i) ∧ Below wx.heap.size wx w') := fun wx hx => by
        have := ih k (by omega) (l.take k) hltk (by omega) (fun p hp => hlim p (List.mem_of_mem_take hp)) i b off k t wx (by omega) (slp_take (h.below hx) k (by omega)) (by omega) (hT.below hx) (hK.below hx)
        rw [hltk] at this; exact this
      have HI : Hid (∀ wx, Below w.heap.size w wx → Calls Tryd.prog 65 #[.slice (some ⟨b, off + k * 2, none⟩) (l.length - k) (l.length - k)] wx fun e w' => e = .returned (.string (inner (l.drop k))) ∧ Below wx.heap.size wx w') := fun wx hx => by
        have := impl_innerOf b (off + k * 2) (l.length - k) (l.length - k) (l.drop k) wx (by have := slp_drop (h.below hx) k; rw [hldk] at this; exact this) (Nat.le_refl _) (fun p hp => hlim p (List.mem_of_mem_drop hp)) (hK.below hx)
        unfold innerI at this
        rw [if_pos (by rw [hldk]; omega)] at this; exact this
      have hy2 := max32 (inner_size (l.drop k))
      have hyl := path_length (l.take k) i
      have hyd := depth_le i (l.take k).length
      have hy1 : (path (l.take k) i).length ≤ 60 := by omega
      rw [hq]
      have hiki : (i : Int) < (k : Int) := by omega
      generalize path (l.take k) i = y1 at *
      generalize inner (l.drop k) = y2 at *
      clear ih hlim h hlm hpl hpr hltk hldk hk hq hyl hyd hK
      have hTl : w.cell? ⟨t, 0, none⟩ = some (.func (.func 63) #[] #[.pointer (some ⟨t, 0, none⟩)]) := hT
      have HT := Hid.mk' hT
      clear hT hTl
      go_enter Tryd.func63, Tryd.ntmps63
      go_wp2_with fail
      refine HH.out.mono ?_
      rintro e w2 ⟨rfl, hB2⟩
      have hTl : w2.cell? ⟨t, 0, none⟩ = some (.func (.func 63) #[] #[.pointer (some ⟨t, 0, none⟩)]) := HT.out.below hB2
      clear HT HH
      go_wp2_with (at_builtin; fail)
      refine (HP.out _ hB2).mono ?_
      rintro e w5 ⟨g5, n5, cp5, rfl, hO5, hb5⟩
      have hB5 := hB2.trans (hb5.mono hB2.size)
      have HO5 := Hid.mk' hO5
      clear hO5 hTl HP
      go_wp2_with (at_builtin; fail)
      refine (HI.out _ hB5).mono ?_
      rintro e w6 ⟨rfl, hb6⟩
      have hO6 := (HO5.out.mono (base' := w.heap.size) hB2.size).below hb6
      have hB6 := hB5.trans (hb6.mono hB5.size)
      have hs6 := hB6.size
      have hn6 : n5 ≤ 60 := by have := hO6.1; omega
      have hc3 : n5 + 1 ≤ maxLen := by unfold maxLen; omega
      have hc4 : (n5 + 1) * 16 ≤ 140737488355328 := by omega
      clear HO5 HI hb5 hb6 hB5
      go_wp2_with (at_builtin; refine wpList_append_own _ rfl (.tmp 24) (.tmp 27) 22 rfl w.heap.size 9 i0 (.string ⟨#[]⟩) 1 16 Tryd.underlying22 hi hz0 hz1 hz2 rfl (by decide) _ _ _ rfl (hO6.2.2.alloc _) ⟨w6.heap.size, 0, none⟩ 1 1 [.string y2] rfl rfl (cell_one_new _ _ _) (str_oneCell _) hc3 hc4 (le_alloc _ _ hs6) ?_)
      intro v7 w7 hown hgrow hnn
      have hgr2 : (w6.alloc (.cells #[.string y2] 9)).grownBy w7 (some g5) := hgrow
      have hnn' : ¬ v7 = .slice none 0 0 := by simpa using hnn
      have hsm : ∀ s ∈ y1 ++ [y2], s.size ≤ maxLen := fun s hs => by
        rcases List.mem_append.1 hs with h1 | h1
        · exact hO6.2.1 s h1
        · rw [List.mem_singleton.1 h1]; exact hy2
      obtain ⟨g7, cap7, hv, hO7⟩ := ownS_val (ss := y1 ++ [y2]) (n := n5 + 1) (by have := hO6.1; simp; omega) hsm hnn' (by simpa [strVals] using hown)
      subst hv
      have hB7 : Below w.heap.size w w7 := (hB6.alloc hs6 _).grown hgr2 (le_alloc _ _ hs6) (fun k e => by cases e; exact hO6.lt.1)
      have HO7 := Hid.mk' hO7
      clear hown hgrow hgr2 hnn hnn' hO7 hO6 hB6
      go_wp2_with fail
      go_ret
      exact ⟨g7, _, cap7, rfl, HO7.out, hB7⟩
    · have hq := hpr hik
      obtain ⟨j, hj⟩ : ∃ j, i - k = j := ⟨_, rfl⟩
      have hji : (i : Int) - (k : Int) = (j : Int) := by omega
      have hjw : IntKind.i64.wrap (j : Int) = (j : Int) := by rw [IntKind.wrap_i64]; omega
      rw [hj] at hq
      have HP : Hid (∀ wx, Below w.heap.size w wx → Calls Tryd.prog 63 #[.slice (some ⟨b, off + k * 2, none⟩) (l.length - k) (l.length - k), .int .i64 (j : Int), .pointer (some ⟨t, 0, none⟩)] wx fun e w' =>
          ∃ g' n' cap', e = .returned (.slice (some ⟨g', 0, none⟩) n' cap') ∧ OwnS w' wx.heap.size g' n' cap' (path (l.drop k) j) ∧ Below wx.heap.size wx w') := fun wx hx => by
        have := ih (l.length - k) (by omega) (l.drop k) hldk (by omega) (fun p hp => hlim p (List.mem_of_mem_drop hp)) j b (off + k * 2) (l.length - k) t wx (by omega) (slp_drop (h.below hx) k) (by omega) (hT.below hx) (hK.below hx)
        rw [hldk] at this; exact this
      have HI : Hid (∀ wx, Below w.heap.size w wx → Calls Tryd.prog 65 #[.slice (some ⟨b, off, none⟩) k k] wx fun e w' => e = .returned (.string (inner (l.take k))) ∧ Below wx.heap.size wx w') := fun wx hx => by
        have := impl_innerOf b off k k (l.take k) wx (by have := slp_take (h.below hx) k (by omega); rw [hltk] at this; exact this) (Nat.le_refl _) (fun p hp => hlim p (List.mem_of_mem_take hp)) (hK.below hx)
        unfold innerI at this
        rw [if_pos (by rw [hltk]; omega)] at this; exact this
      have hy2 := max32 (inner_size (l.take k))
      have hyl := path_length (l.drop k) j
      have hyd := depth_le j (l.drop k).length
      have hy1 : (path (l.drop k) j).length ≤ 60 := by omega
      rw [hq]
      have hiki : ¬ (i : Int) < (k : Int) := by omega
      generalize path (l.drop k) j = y1 at *
      generalize inner (l.take k) = y2 at *
      clear ih hlim h hlm hpl hpr hltk hldk hk hq hyl hyd hK hj
      have hTl : w.cell? ⟨t, 0, none⟩ = some (.func (.func 63) #[] #[.pointer (some ⟨t, 0, none⟩)]) := hT
      have HT := Hid.mk' hT
      clear hT hTl
      go_enter Tryd.func63, Tryd.ntmps63
      go_wp2_with fail
      refine HH.out.mono ?_
      rintro e w2 ⟨rfl, hB2⟩
      have hTl : w2.cell? ⟨t, 0, none⟩ = some (.func (.func 63) #[] #[.pointer (some ⟨t, 0, none⟩)]) := HT.out.below hB2
      clear HT HH
      go_wp2_with (at_builtin; fail)
      refine (HP.out _ hB2).mono ?_
      rintro e w5 ⟨g5, n5, cp5, rfl, hO5, hb5⟩
      have hB5 := hB2.trans (hb5.mono hB2.size)
      have HO5 := Hid.mk' hO5
      clear hO5 hTl HP
      go_wp2_with (at_builtin; fail)
      refine (HI.out _ hB5).mono ?_
      rintro e w6 ⟨rfl, hb6⟩
      have hO6 := (HO5.out.mono (base' := w.heap.size) hB2.size).below hb6
      have hB6 := hB5.trans (hb6.mono hB5.size)
      have hs6 := hB6.size
      have hn6 : n5 ≤ 60 := by have := hO6.1; omega
      have hc3 : n5 + 1 ≤ maxLen := by unfold maxLen; omega
      have hc4 : (n5 + 1) * 16 ≤ 140737488355328 := by omega
      clear HO5 HI hb5 hb6 hB5
      go_wp2_with (at_builtin; refine wpList_append_own _ rfl (.tmp 35) (.tmp 38) 22 rfl w.heap.size 9 i0 (.string ⟨#[]⟩) 1 16 Tryd.underlying22 hi hz0 hz1 hz2 rfl (by decide) _ _ _ rfl (hO6.2.2.alloc _) ⟨w6.heap.size, 0, none⟩ 1 1 [.string y2] rfl rfl (cell_one_new _ _ _) (str_oneCell _) hc3 hc4 (le_alloc _ _ hs6) ?_)
      intro v7 w7 hown hgrow hnn
      have hgr2 : (w6.alloc (.cells #[.string y2] 9)).grownBy w7 (some g5) := hgrow
      have hnn' : ¬ v7 = .slice none 0 0 := by simpa using hnn
      have hsm : ∀ s ∈ y1 ++ [y2], s.size ≤ maxLen := fun s hs => by
        rcases List.mem_append.1 hs with h1 | h1
        · exact hO6.2.1 s h1
        · rw [List.mem_singleton.1 h1]; exact hy2
      obtain ⟨g7, cap7, hv, hO7⟩ := ownS_val (ss := y1 ++ [y2]) (n := n5 + 1) (by have := hO6.1; simp; omega) hsm hnn' (by simpa [strVals] using hown)
      subst hv
      have hB7 : Below w.heap.size w w7 := (hB6.alloc hs6 _).grown hgr2 (le_alloc _ _ hs6) (fun k e => by cases e; exact hO6.lt.1)
      have HO7 := Hid.mk' hO7
      clear hown hgrow hgr2 hnn hnn' hO7 hO6 hB6
      go_wp2_with fail
      go_ret
      exact ⟨g7, _, cap7, rfl, HO7.out, hB7⟩

set_option maxHeartbeats 1000000 in
theorem impl_pathOf (b off len cap : Nat) (l : List Pr) (I : Int) (w : World) (h : SlP w (some ⟨b, off, none⟩) len l) (hcap : len ≤ cap) (hlim : ∀ p ∈ l, lim p) (hI : (Lit.int .i64 I).wf = true) (hK : sha.KW w) :
    Calls Tryd.prog 53 #[.slice (some ⟨b, off, none⟩) len cap, .int .i64 I] w fun e w' =>
      ∃ g' n' cap', e = .returned (.slice (some ⟨g', 0, none⟩) n' cap') ∧ OwnS w' w.heap.size g' n' cap' (pathI l I) ∧ Below w.heap.size w w' := by
  have hl := h.1
  have hm := h.2.1
  subst hl
  unfold maxLen at hm
  have hmf := makeFunc_run
  have hp := impl_placeOk I (l.length : Int) w
  by_cases hc : l.length ≤ 60 ∧ 0 ≤ I ∧ I ≤ (l.length : Int) - 1
  · obtain ⟨i, hi⟩ : ∃ i : Nat, I = (i : Int) := ⟨I.toNat, by omega⟩
    subst hi
    rw [decide_eq_true (show (l.length : Int) ≤ 60 by omega), decide_eq_true (show (0 : Int) ≤ (i : Int) by omega), decide_eq_true (show (i : Int) < (l.length : Int) by omega)] at hp
    have HPL := Hid.mk' hp
    have HN : Hid (pathI l (i : Int) = path l i) := by show _ = _; unfold pathI; rw [if_pos (by omega), Int.toNat_natCast]
    have HP : Hid (∀ wx, Below w.heap.size w wx → Self wx 63 w.heap.size → Calls Tryd.prog 63 #[.slice (some ⟨b, off, none⟩) l.length cap, .int .i64 (i : Int), .pointer (some ⟨w.heap.size, 0, none⟩)] wx fun e w' =>
        ∃ g' n' cap', e = .returned (.slice (some ⟨g', 0, none⟩) n' cap') ∧ OwnS w' wx.heap.size g' n' cap' (path l i) ∧ Below wx.heap.size wx w') :=
      fun wx hx hT => impl_pathC l.length l rfl (by omega) hlim i b off cap w.heap.size wx (by omega) (h.below hx) hcap hT (hK.below hx)
    clear hp hc h hK hlim
    go_enter Tryd.func53, Tryd.ntmps53
    go_wp2_with fail
    refine HPL.out.mono ?_
    rintro e w1 ⟨rfl, hw1⟩
    subst hw1
    go_wp2_with fail
    refine (HP.out _ ?hb ?ht).mono ?_
    case hb => exact (Below.refl _ _).alloc (Nat.le_refl _) _
    case ht => exact self_made w1 _ _
    rintro e w2 ⟨g, n, cp, rfl, hO, hb⟩
    have hB : Below w1.heap.size w1 w2 := ((Below.refl _ _).alloc (Nat.le_refl _) _).trans (hb.mono (by simp))
    have HO := Hid.mk' (hO.mono (base' := w1.heap.size) (by simp))
    clear hO
    go_wp2_with fail
    go_ret
    exact ⟨g, n, cp, rfl, by rw [HN.out]; exact HO.out, hB⟩
  · have hd : (decide ((l.length : Int) ≤ 60) && decide (0 ≤ I) && decide (I < (l.length : Int))) = false := by
      rw [Bool.and_eq_false_iff, Bool.and_eq_false_iff, decide_eq_false_iff_not, decide_eq_false_iff_not, decide_eq_false_iff_not]; omega
    rw [hd] at hp
    have HPL := Hid.mk' hp
    have HN : Hid (pathI l I = []) := by show _ = _; unfold pathI; rw [if_neg (by omega)]
    clear hp hc hd h hK hlim
    go_enter Tryd.func53, Tryd.ntmps53
    go_wp2_with fail
    refine HPL.out.mono ?_
    rintro e w1 ⟨rfl, hw1⟩
    subst hw1
    go_wp2_with fail
    go_ret
    exact ⟨w1.heap.size, 0, 0, rfl, by rw [HN.out]; exact ownS_made w1 _ (Nat.le_refl _), (Below.refl _ _).alloc (Nat.le_refl _) _⟩
end Go.Proofs.YteammdkipnfmnaaDoor.tree

namespace Go.Proofs.YteammdkipnfmnaaDoor.tree
open Go Go.Proofs.YteammdkipnfmnaaDoor.base Go.Proofs.YteammdkipnfmnaaDoor.pairs Go.Proofs.YteammdkipnfmnaaDoor.puttext Go.Proofs.YteammdkipnfmnaaDoor.putnum
set_option linter.unusedVariables false
set_option linter.unusedSimpArgs false

end Go.Proofs.YteammdkipnfmnaaDoor.tree

namespace Go.Proofs.YteammdkipnfmnaaDoor.tree
open Go Go.RowKit Go.Proofs.YteammdkipnfmnaaDoor.base Go.Proofs.YteammdkipnfmnaaDoor.pairs Go.Proofs.YteammdkipnfmnaaDoor.puttext Go.Proofs.YteammdkipnfmnaaDoor.putnum
set_option linter.unusedVariables false
set_option linter.unusedSimpArgs false

/-! ### a row of slices of bytes that the call makes -/
end Go.Proofs.YteammdkipnfmnaaDoor.tree

namespace Go.Proofs.YteammdkipnfmnaaDoor.tree
open Go Go.RowKit Go.Proofs.YteammdkipnfmnaaDoor.base Go.Proofs.YteammdkipnfmnaaDoor.pairs Go.Proofs.YteammdkipnfmnaaDoor.puttext Go.Proofs.YteammdkipnfmnaaDoor.putnum
set_option linter.unusedVariables false
set_option linter.unusedSimpArgs false

end Go.Proofs.YteammdkipnfmnaaDoor.tree

namespace Go.Proofs.YteammdkipnfmnaaDoor.pairs
open Go Go.RowKit Go.Proofs.YteammdkipnfmnaaDoor.base
set_option linter.unusedVariables false
set_option linter.unusedSimpArgs false

end Go.Proofs.YteammdkipnfmnaaDoor.pairs

namespace Go.Proofs.YteammdkipnfmnaaDoor.pairs
open Go Go.RowKit Go.Proofs.YteammdkipnfmnaaDoor.base
set_option linter.unusedVariables false
set_option linter.unusedSimpArgs false

/-! ### pairs that rise -/
def rise : List Pr → Bool
  | [] => true
  | p :: l => (match l.head? with | none => true | some q => ltB p.1 q.1) && rise l
theorem okFrom_some (k : ByteArray) (l : List Pr) : okFrom (some k) l = ((match l.head? with | none => true | some q => ltB k q.1) && l.all pairOk && rise l) := by
  induction l generalizing k with
  | nil => rfl
  | cons p l ih =>
    simp only [okFrom, ih, List.head?_cons, List.all_cons, rise]
    cases pairOk p <;> cases ltB k p.1 <;> cases l.all pairOk <;> cases rise l <;> simp
theorem okFrom_split (l : List Pr) : okFrom none l = (l.all pairOk && rise l) := by
  cases l with
  | nil => rfl
  | cons p l =>
    simp only [okFrom, okFrom_some, List.all_cons, rise]
    cases pairOk p <;> cases l.all pairOk <;> cases rise l <;> simp
theorem rise_step (l : List Pr) (j : Nat) (h1 : 1 ≤ j) (h : j < l.length) : rise (l.drop (j - 1)) = (ltB l[j - 1].1 l[j].1 && rise (l.drop j)) := by
  rw [List.drop_eq_getElem_cons (by omega : j - 1 < l.length), rise, show j - 1 + 1 = j by omega, List.head?_drop, List.getElem?_eq_getElem h]
theorem rise_end (l : List Pr) (j : Nat) (h : l.length ≤ j) : rise (l.drop (j - 1)) = true := by
  by_cases h2 : j - 1 < l.length
  · rw [List.drop_eq_getElem_cons h2, rise, List.drop_eq_nil_of_le (by omega)]; rfl
  · rw [List.drop_eq_nil_of_le (by omega)]; rfl
theorem all_drop (l : List Pr) (k : Nat) (h : k < l.length) : (l.drop k).all pairOk = (pairOk l[k] && (l.drop (k + 1)).all pairOk) := by
  rw [List.drop_eq_getElem_cons h, List.all_cons]

set_option maxRecDepth 100000 in
set_option maxHeartbeats 2000000 in
theorem i_rises (b off cap : Nat) (l : List Pr) (w : World) (h : SlP w (some ⟨b, off, none⟩) l.length l) (hsz : l.length ≤ 1099511627776) :
    Calls Tryd.prog 50 #[.slice (some ⟨b, off, none⟩) l.length cap] w fun e w' => e = .returned (.bool (rise l)) ∧ Below w.heap.size w w' := by
  have hmt := i_meth
  generalize hR : rise l = R
  have HR := Hid.mk' hR
  clear hR
  go_enter Tryd.func50, Tryd.ntmps50
  go_wp2_with fail
  go_loopw [3] (fun i wr => ∃ j : Nat, 1 ≤ j ∧ j ≤ l.length + 1 ∧ i = .int .i64 (j : Int) ∧ rise (l.drop (j - 1)) = R ∧ Below w.heap.size w wr) (fun i _ => l.length + 1 - (intOf i).toNat)
  case atStart => exact ⟨1, Nat.le_refl _, by omega, rfl, HR.out, Below.refl _ _⟩
  case round =>
    obtain ⟨j, hj1, hj2, rfl, hr, hB⟩ := hrel
    by_cases hlt : j < l.length
    · have hS := h.below hB
      have hbl := hS.lt (by omega)
      have hst := rise_step l j hj1 hlt
      rw [hr] at hst
      obtain ⟨c1, c2⟩ := hS.cells j hlt
      obtain ⟨c3, c4⟩ := hS.cells (j - 1) (by omega)
      have hji : (j : Int) < (l.length : Int) := by omega
      obtain ⟨k, hk⟩ : ∃ k, j - 1 = k := ⟨_, rfl⟩
      have hkw : (j : Int) - 1 = (k : Int) := by omega
      have hki : (k : Int) < (l.length : Int) := by omega
      have hne : Op.bytesLess l[j - 1].1.toList l[j].1.toList = ltB l[j - 1].1 l[j].1 := rfl
      generalize l[j] = p at *
      generalize l[j - 1] = q at *
      rw [hk] at c3 c4
      have o1 := last.On.cell c1 hbl
      have o2 := last.On.cell c2 hbl
      have o3 := last.On.cell c3 hbl
      have o4 := last.On.cell c4 hbl
      cases hL : ltB q.1 p.1
      all_goals
        rw [hL] at hst hne
        have HST := Hid.mk' hst
        clear hst hr hL hS hk
        go_wp2_with fail
        have hinh := last.On.inh wr.heap.size wr
        have hc1 : ∀ x : last.On wr.heap.size wr, Calls Tryd.prog 115 #[.agg #[.string p.1, .string p.2]] x.w fun e w' => e = .returned (.string p.1) ∧ ∃ y : last.On wr.heap.size wr, w' = y.w := fun x => last.Calls.on x (Nat.le_refl _) ((i_key p x.w).mono fun e w' ⟨he, hw⟩ => ⟨he, by rw [hw]; exact (Below.refl _ _).alloc (Nat.le_refl _) _⟩)
        have hc2 : ∀ x : last.On wr.heap.size wr, Calls Tryd.prog 115 #[.agg #[.string q.1, .string q.2]] x.w fun e w' => e = .returned (.string q.1) ∧ ∃ y : last.On wr.heap.size wr, w' = y.w := fun x => last.Calls.on x (Nat.le_refl _) ((i_key q x.w).mono fun e w' ⟨he, hw⟩ => ⟨he, by rw [hw]; exact (Below.refl _ _).alloc (Nat.le_refl _) _⟩)
        refine last.wp_region_on wr.heap.size (by kernel_rfl) (by kernel_rfl) ?_
        repeat (go_big_quiet_step ((go_at_call 115; first | exact hc1 _ | exact hc2 _)))
        refine wpQuiet_nil ?_
        intro w5 hw5
        obtain ⟨x5, hw5⟩ := hw5
        subst hw5
        have hB5 : Below w.heap.size w x5.w := hB.trans (x5.2.mono hB.size)
        go_wp2_with fail
      · go_ret
        exact ⟨ret_bool (by rw [HST.out]; rfl), hB5⟩
      · go_roundw
        case rel => exact ⟨j + 1, by omega, by omega, by go_num, by rw [HST.out]; simp, hB5⟩
        case measure => simp [intOf]; omega
    · have HF : Hid (R = true) := by show _ = _; rw [← hr]; exact rise_end l j (by omega)
      clear hr
      go_wp2_with fail
      go_ret
      exact ⟨ret_bool (by rw [HF.out]), hB⟩

end Go.Proofs.YteammdkipnfmnaaDoor.pairs

namespace Go.Proofs.YteammdkipnfmnaaDoor.pairs
open Go Go.RowKit Go.Proofs.YteammdkipnfmnaaDoor.base
set_option linter.unusedVariables false
set_option linter.unusedSimpArgs false

set_option maxRecDepth 100000 in
set_option maxHeartbeats 2000000 in
theorem impl_pairsOk (b off len cap : Nat) (l : List Pr) (w : World) (h : SlP w (some ⟨b, off, none⟩) len l) (hks : ∀ p ∈ l, p.1.size ≤ 1099511627776) :
    Calls Tryd.prog 36 #[.slice (some ⟨b, off, none⟩) len cap] w fun e w' => e = .returned (.bool (pairsOk l)) ∧ Below w.heap.size w w' := by
  have hl := h.1
  have hm := h.2.1
  have hsm := h.2.2.1
  subst hl
  unfold maxLen at hm
  by_cases h60 : 60 < l.length
  · go_enter Tryd.func36, Tryd.ntmps36
    go_wp2_with fail
    go_ret
    exact ⟨ret_bool (by unfold pairsOk; rw [decide_eq_false (by omega : ¬ l.length ≤ 60)]; simp), Below.refl _ _⟩
  · have HP : Hid (pairsOk l = (l.all pairOk && rise l)) := by show _ = _; unfold pairsOk; rw [okFrom_split, decide_eq_true (by omega : l.length ≤ 60)]; simp
    generalize hA : l.all pairOk = A
    have HA := Hid.mk' hA
    clear hA
    go_enter Tryd.func36, Tryd.ntmps36
    go_wp2_with fail
    go_loopw [10] (fun i wr => ∃ k : Nat, k ≤ l.length ∧ i = .int .i64 (k : Int) ∧ (l.drop k).all pairOk = A ∧ Below w.heap.size w wr) (fun i _ => l.length - (intOf i).toNat)
    case atStart => exact ⟨0, Nat.zero_le _, rfl, HA.out, Below.refl _ _⟩
    case round =>
      obtain ⟨k, hk, rfl, hr, hB⟩ := hrel
      by_cases hlt : k < l.length
      · obtain ⟨c1, c2⟩ := (h.below hB).cells k hlt
        have hpk := hsm _ (List.getElem_mem hlt)
        have hks' := hks _ (List.getElem_mem hlt)
        have hki : (k : Int) < (l.length : Int) := by omega
        have hst := all_drop l k hlt
        rw [hr] at hst
        have hcall := fun wx => impl_pairOk l[k] wx hpk hks'
        have hBA : Below w.heap.size w (wr.alloc (.cells #[.string l[k].1, .string l[k].2] 65)) := hB.alloc hB.size _
        generalize l[k] = p at *
        cases hP : pairOk p
        all_goals
          rw [hP] at hst hcall
          have HST := Hid.mk' hst
          have HC := Hid.mk' hcall
          clear hst hr hcall hP
          go_wp2_with fail
          refine (HC.out _).mono ?_
          rintro e w3 ⟨rfl, hb3⟩
          have hB3 : Below w.heap.size w w3 := hBA.trans (hb3.mono hBA.size)
          clear hb3 hBA hB c1 c2
          go_wp2_with fail
        · go_ret
          exact ⟨ret_bool (by rw [HP.out, HA.out, HST.out]; rfl), hB3⟩
        · go_roundw
          case rel => exact ⟨k + 1, by omega, by go_num, by rw [HST.out]; simp, hB3⟩
          case measure => simp [intOf]; omega
      · have HF : Hid (A = true) := by show _ = _; rw [← hr, List.drop_eq_nil_of_le (by omega)]; rfl
        have HI := Hid.mk' (i_rises b off cap l wr (h.below hB) (by omega))
        clear hr
        go_wp2_with fail
        refine HI.out.mono ?_
        rintro e w3 ⟨rfl, hb3⟩
        have hB3 : Below w.heap.size w w3 := hB.trans (hb3.mono hB.size)
        clear hb3
        go_wp2_with fail
        go_ret
        exact ⟨ret_bool (by rw [HP.out, HA.out, HF.out]; simp), hB3⟩
end Go.Proofs.YteammdkipnfmnaaDoor.pairs

namespace Go.Proofs.YteammdkipnfmnaaDoor.range
open Go Go.RowKit Go.Proofs.YteammdkipnfmnaaDoor.base Go.Proofs.YteammdkipnfmnaaDoor.pairs Go.Proofs.YteammdkipnfmnaaDoor.tree
set_option linter.unusedVariables false
set_option linter.unusedSimpArgs false

def V3 (w : World) (g : Nat) (t : TypeId) (x y z : Value) : Prop := w.heap[g]? = some (.cells #[x, y, z] t (0, 0))
section
variable {w w' : World} {g : Nat} {t : TypeId} {x y z : Value}
theorem V3.c0 (h : V3 w g t x y z) : w.cell? ⟨g, 0, none⟩ = some x := cell_cur h 0 _ rfl
theorem V3.c1 (h : V3 w g t x y z) : w.cell? ⟨g, 1, none⟩ = some y := cell_cur h 1 _ rfl
theorem V3.c2 (h : V3 w g t x y z) : w.cell? ⟨g, 2, none⟩ = some z := cell_cur h 2 _ rfl
theorem V3.lt (h : V3 w g t x y z) : g < w.heap.size := (Array.getElem?_eq_some_iff.1 h).1
theorem V3.below (h : V3 w g t x y z) (hb : Below w.heap.size w w') : V3 w' g t x y z := (hb.block g h.lt).trans h
end

end Go.Proofs.YteammdkipnfmnaaDoor.range

namespace Go.Proofs.YteammdkipnfmnaaDoor.lay
open Go Go.RowKit Go.Proofs.YteammdkipnfmnaaDoor.base
set_option linter.unusedVariables false
set_option linter.unusedSimpArgs false

section
variable {α : Type}
def cntTo (cnt : α → Nat) (l : List α) (i : Nat) : Nat := ((l.take i).map cnt).sum
def cntAll (cnt : α → Nat) (l : List α) : Nat := (l.map cnt).sum
theorem cntTo_zero (cnt : α → Nat) (l : List α) : cntTo cnt l 0 = 0 := rfl
theorem cntTo_succ (cnt : α → Nat) (l : List α) (i : Nat) (h : i < l.length) : cntTo cnt l (i + 1) = cntTo cnt l i + cnt l[i] := by
  unfold cntTo
  rw [List.take_succ_eq_append_getElem h, List.map_append, List.sum_append]; simp
theorem cntTo_all (cnt : α → Nat) (l : List α) : cntTo cnt l l.length = cntAll cnt l := by unfold cntTo cntAll; rw [List.take_length]
theorem cntTo_le (cnt : α → Nat) (l : List α) (i : Nat) : cntTo cnt l i ≤ cntAll cnt l := by
  unfold cntTo cntAll
  conv => rhs; rw [← List.take_append_drop i l]
  rw [List.map_append, List.sum_append]; omega
def markF (m : Nat → α → α) (cnt : α → Nat) (k0 : Nat) (l : List α) (i : Nat) (x : α) : α := m (k0 + cntTo cnt l i) x
def markRow (m : Nat → α → α) (cnt : α → Nat) (k0 : Nat) (l : List α) : List α := l.mapIdx (markF m cnt k0 l)
theorem markRow_length (m : Nat → α → α) (cnt : α → Nat) (k0 : Nat) (l : List α) : (markRow m cnt k0 l).length = l.length := by simp [markRow]
theorem markRow_at (m : Nat → α → α) (cnt : α → Nat) (k0 : Nat) (l : List α) (i : Nat) (h : i < l.length) : (markRow m cnt k0 l)[i]'(by rw [markRow_length]; exact h) = m (k0 + cntTo cnt l i) l[i] := by simp [markRow, markF]
theorem set_at {l : List α} {i : Nat} {x : α} (h : i < l.length) : (l.set i x)[i]'(by simpa using h) = x := by simp
end
theorem OwnG.open {α : Type} {ty : TypeId} {R : Rd α} {w : World} {g n cap : Nat} {l : List α} {q : Parts} (h : OwnG ty R w (.slice (some ⟨g, 0, none⟩) n cap) l q) (i : Nat) (hi : i < l.length) :
    ∃ us F, R.own w us l[i] F ∧ (∀ j u, us[j]? = some u → w.cell? ⟨g, i * R.size + j, none⟩ = some u) ∧ (∀ k ∈ F, k ∈ blocksOf q) ∧ ∀ (w' : World) (x' : α) (G : List Nat), Frame G w w' → (∀ k ∈ G, k ∈ F) → R.own w' us x' F → OwnG ty R w' (.slice (some ⟨g, 0, none⟩) n cap) (l.set i x') q := by
  have hl := h.len
  have hn := h.nlen
  subst hn
  refine ⟨_, _, h.each i hi, fun j u hj => ?_, fun k hk => List.mem_flatMap.2 ⟨_, List.getElem_mem _, hk⟩, fun w' x' G hf hG hx => h.inner i hi x' hf hG hx⟩
  have hp := h.parts
  have hjl := (List.getElem?_eq_some_iff.1 hj).1
  rw [hp _ (List.getElem_mem _)] at hjl
  have hin : i * R.size + j < l.length * R.size := by
    have := Nat.mul_le_mul_right R.size (show i + 1 ≤ l.length from hi)
    rw [Nat.add_mul] at this; omega
  rw [h.row.cellAt (i * R.size + j) hin, cellsOf_get hp i (by omega) j hjl]
  exact hj
end Go.Proofs.YteammdkipnfmnaaDoor.lay

namespace Go.Proofs.YteammdkipnfmnaaDoor.lay
open Go Go.RowKit Go.Proofs.YteammdkipnfmnaaDoor.base
set_option linter.unusedVariables false
set_option linter.unusedSimpArgs false

def Reads {α : Type} (P : Program) (t : TypeId) (R : Rd α) : Prop :=
  ∀ (H : Type) (enc : TypeId × Value → H) (W : World) (fuel : Nat) (vs : List Value) (x : DataW H × List MemPlace), vs.length = R.size → DataW.trod enc P W 0 (fun _ => true) true fuel t vs = some x → ∃ y, R.see W vs y
section
variable {α : Type} {P : Program} {t e : TypeId} {R : Rd α}
theorem reads_int (ht : P.underlying t = some (.int .i64)) : Reads P t int := fun H enc W fuel vs x hl h => by
  obtain ⟨n, rfl, _, hw⟩ := DataW.trod_int ht h
  exact ⟨n, rfl, hw⟩
theorem reads_str (ht : P.underlying t = some .string) : Reads P t str := fun H enc W fuel vs x hl h => by
  obtain ⟨s, rfl, _, hs⟩ := DataW.trod_string ht h
  exact ⟨s, rfl, hs⟩
theorem reads_slice [Inhabited α] (ty : TypeId) (ht : P.underlying t = some (.slice e)) (hc : P.cellsOf e = R.size) (h0 : 0 < R.size) (hR : Reads P e R) : Reads P t (lay.slice ty R) := fun H enc W fuel vs x hl h => by
  rcases Deep.open_slice ht h with ⟨rfl, _⟩ | ⟨ad, len, cap, m, n, D, Pl, rfl, hb, hlc, hm, hmm, _, hx⟩
  · exact ⟨[], none, 0, 0, rfl, Nat.le_refl _, rfl, Nat.zero_le _, fun x hx => absurd hx List.not_mem_nil, fun h => absurd h (by omega)⟩
  · simp at hmm
    have each : ∀ i, i < len → ∃ y : α, ∃ us, R.see W us y ∧ ∀ j u, us[j]? = some u → W.cell? (ad.add (i * R.size + j)) = some u := by
      intro i hi
      obtain ⟨cs', h1, h2⟩ := hx i (by omega)
      rw [hc] at h1
      obtain ⟨_, hlen, hcell⟩ := World.cells?_some h1
      obtain ⟨y, hy⟩ := hR H enc W n cs' _ hlen h2
      refine ⟨y, cs', hy, fun j u hj => ?_⟩
      have hjl := (List.getElem?_eq_some_iff.1 hj).1
      have := hcell j (by omega)
      rw [Deep.add_add] at this
      rw [this]; exact hj
    obtain ⟨q, hq⟩ := Deep.choose_lt each
    refine ⟨(List.range len).map q, some ad, len, cap, rfl, hlc, by simp, by omega, fun x hx => ?_, fun hl0 => ?_⟩
    · obtain ⟨i, hi, rfl⟩ := List.mem_map.1 hx
      obtain ⟨us, h1, _⟩ := hq i (List.mem_range.1 hi)
      exact ⟨us, h1⟩
    · obtain ⟨b, off, spot⟩ := ad
      obtain ⟨us0, hs0, hc0⟩ := hq 0 hl0
      have hl0 := R.seeLen hs0
      obtain ⟨u0, hu0⟩ : ∃ u, us0[0]? = some u := ⟨us0[0]'(by omega), List.getElem?_eq_getElem (by omega)⟩
      have hspot : spot = none := by simpa [Addr.add] using World.cell?_spot (hc0 0 u0 hu0)
      subst hspot
      refine ⟨b, off, rfl, fun i hi => ?_⟩
      have hi' : i < len := by simpa using hi
      obtain ⟨us, h1, h2⟩ := hq i hi'
      simp only [List.getElem_map, List.getElem_range]
      refine ⟨us, h1, fun j u hj => ?_⟩
      have := h2 j u hj
      rw [Addr.add_lit, ← Nat.add_assoc] at this
      exact this
theorem arg_struct {H : Type} {enc : TypeId × Value → H} {W : World} {r : Reach} {base fuel : Nat} {v : Value} {fs : Array Field} {x : DataW H × List MemPlace} (ht : P.underlying t = some (.struct fs)) (hc : P.cellsOf t = R.size) (hR : Reads P t R) (hok : Value.okWide P W r base t v) (h : DataW.trod enc P W 0 (fun _ => true) true fuel t v.cells.toList = some x) : ∃ cs y, v = .agg cs.toArray ∧ R.see W cs y := by
  obtain ⟨cs, rfl, hsz⟩ := WideShapes.okWide_struct ht hok
  obtain ⟨l⟩ := cs
  rw [hc] at hsz
  obtain ⟨y, hy⟩ := hR H enc W fuel l x hsz h
  exact ⟨l, y, rfl, hy⟩
end
end Go.Proofs.YteammdkipnfmnaaDoor.lay
