/- The program's words as bytes. -/
import Derived.Test.YtjodbijcgcjndaaBund10bg
import Derived.Test.YtjodbijcgcjndaaBund10aw
namespace Go.Proofs.Ytjodbijcgcjndaa.wds
open Go Go.RowKit Go.Proofs.Ytjodbijcgcjndaa.base Go.Proofs.Ytjodbijcgcjndaa.pairs Go.Proofs.Ytjodbijcgcjndaa.ords Go.Proofs.Ytjodbijcgcjndaa.putnum Go.Proofs.Ytjodbijcgcjndaa.puttext Go.Proofs.Ytjodbijcgcjndaa.getnum Go.Proofs.Ytjodbijcgcjndaa.gettext
set_option linter.unusedVariables false
set_option linter.unusedSimpArgs false

theorem impl_putOpsA (a : Option Addr) (len cap : Nat) (l : List Od) (w : World) (h : SlO w a len l) (hks : ∀ p ∈ l, p.2.1.size ≤ 1099511627776) :
    Calls Try.prog 54 #[.slice a len cap] w fun e w' =>
      ∃ g' n' cap', e = .returned (.slice (some ⟨g', 0, none⟩) n' cap') ∧ Own w' w.heap.size g' n' cap' (putOps l) ∧ Below w.heap.size w w' := by
  by_cases h0 : len = 0
  · subst h0
    obtain rfl : l = [] := List.eq_nil_of_length_eq_zero h.1
    have HOK := Hid.mk' (impl_opsOkA a 0 cap [] w h hks)
    have HP : Hid (putOps [] = []) := opsOk_put [] (by decide)
    rw [show opsOk [] = false by decide] at HOK
    go_enter Try.func54, Try.ntmps54
    go_wp2_with fail
    refine HOK.out.mono ?_
    rintro e w1 ⟨rfl, hb1⟩
    have hO1 := own_made w1 w.heap.size hb1.size
    go_wp2_with fail
    go_ret
    exact ⟨_, _, _, rfl, by rw [HP.out]; exact hO1, hb1.alloc hb1.size _⟩
  · obtain ⟨b, off, ha, _⟩ := h.2.2.2 (by omega)
    subst ha
    exact impl_putOps b off len cap l w h hks

/-- a box of what every word has -/
def BoxM (X : Nat) (s t : Int) (w : World) : Prop := w.heap[X]? = some (.cells #[.int .i64 s, .int .i64 t] 74 (0, 0))
section
variable {X : Nat} {s t : Int} {w w' w'' : World}
theorem boxM_new (w : World) (s t : Int) : BoxM w.heap.size s t (w.alloc (.cells #[.int .i64 s, .int .i64 t] 74)) := heap_alloc_new w _
theorem BoxM.cells (h : BoxM X s t w) : w.cell? ⟨X, 0, none⟩ = some (.int .i64 s) ∧ w.cell? ⟨X, 1, none⟩ = some (.int .i64 t) := by
  unfold BoxM at h
  simp [World.cell?, h]
theorem BoxM.lt (h : BoxM X s t w) : X < w.heap.size := (Array.getElem?_eq_some_iff.1 h).1
theorem BoxM.below (h : BoxM X s t w) (hb : Below w.heap.size w w') : BoxM X s t w' := by
  have h' := h.lt
  unfold BoxM at h ⊢
  rw [hb.block X h', h]
theorem BoxM.grown {row : Option Nat} (h : BoxM X s t w) (hg : w.grownBy w' row) (hne : some X ≠ row) : BoxM X s t w' := by
  have h' := h.lt
  unfold BoxM at h ⊢
  rw [hg.block X h' hne, h]
/-- what a world holds while a word's head is put together -/
def InM (w : World) (s t : Int) (w' : World) : Prop := BoxM w.heap.size s t w' ∧ Below w.heap.size w w'
theorem InM.alloc (h : InM w s t w') (o : Obj) : InM w s t (w'.alloc o) := ⟨h.1.below ((Below.refl _ _).alloc (Nat.le_refl _) _), h.2.alloc h.2.size _⟩
theorem InM.grown {g : Nat} (h : InM w s t w') (hb : w'.grownBy w'' (some g)) (hg : w.heap.size < g) : InM w s t w'' := ⟨h.1.grown hb (by simp; omega), h.2.grown hb h.2.size (fun k e => by cases e; omega)⟩
theorem InM.drew (h : InM w s t w') : InM w s t w'.drew := ⟨h.1, h.2.drew⟩
theorem InM.held (h : InM w s t w') : InM w s t w' ∧ w'.cell? ⟨w.heap.size, 0, none⟩ = some (.int .i64 s) ∧ w'.cell? ⟨w.heap.size, 1, none⟩ = some (.int .i64 t) := ⟨h, h.1.cells⟩
end

set_option maxRecDepth 100000 in
set_option maxHeartbeats 4000000 in
theorem i_head0 (k s t : Int) (w : World) (hkf : (Lit.int .i64 k).wf = true) (hsf : (Lit.int .i64 s).wf = true) (htf : (Lit.int .i64 t).wf = true) :
    Calls Try.prog 53 #[.agg #[.int .i64 s, .int .i64 t], .int .i64 k, .bool false] w fun e w' =>
      ∃ g' n' cap', e = .returned (.slice (some ⟨g', 0, none⟩) n' cap') ∧ Own w' w.heap.size g' n' cap' (headB k s t false) ∧ Below w.heap.size w w' := by
  have hnk := numBytes_length k
  have hns := numBytes_length s
  have hnt := numBytes_length t
  have hI0 : InM w s t (w.alloc (.cells #[.int .i64 s, .int .i64 t] 74)) := ⟨boxM_new _ _ _, (Below.refl _ _).alloc (Nat.le_refl _) _⟩
  have hw0 : w.heap.size < (w.alloc (.cells #[.int .i64 s, .int .i64 t] 74)).heap.size := by simp
  go_enter Try.func53, Try.ntmps53
  go_wp2_with fail
  generalize w.alloc (.cells #[.int .i64 s, .int .i64 t] 74) = W at *
  have hI0d : InM w s t W.drew := hI0.drew
  obtain ⟨_, d0, d1⟩ := hI0.held
  have hW1 : w.heap.size + 1 ≤ W.heap.size := by omega
  have hOm : Own (W.alloc (.cells #[] 5)).drew (w.heap.size + 1) W.heap.size 0 0 [] := own_made W _ hW1
  have hOm2 : Own (W.drew.alloc (.cells #[] 5)) (w.heap.size + 1) W.heap.size 0 0 [] := own_made W.drew _ hW1
  go_region_held3 (fun w' => InM w s t w' ∧ w'.cell? ⟨w.heap.size, 0, none⟩ = some (.int .i64 s) ∧ w'.cell? ⟨w.heap.size, 1, none⟩ = some (.int .i64 t))
    (first | (exact hI0d.held) | (with_reducible assumption) | (exact hI7.held) | (exact hI6.held) | (exact hI5.held) | (exact (hI0.alloc _).drew.held) | (exact (hI0d.alloc _).held) | (go_keep))
    (first
      | (go_at_call 71; have hI : InM w s t _ := And.left (by with_reducible assumption); refine (addNumG g6 n6 cp6 (w.heap.size + 1) _ t _ hO6 hI.1.lt htf (by have := hO6.1; simp at this; omega)).mono ?_; rintro e w7 ⟨g7, n7, cp7, rfl, hO7, hb7, hg7, hl7⟩; have hI7 := hI.grown hg7 hO6.lt.1)
      | (go_at_call 71; have hI : InM w s t _ := And.left (by with_reducible assumption); refine (addNumG g5 n5 cp5 (w.heap.size + 1) _ s _ hO5 hI.1.lt hsf (by have := hO5.1; simp at this; omega)).mono ?_; rintro e w6 ⟨g6, n6, cp6, rfl, hO6, hb6, hg6, hl6⟩; have hI6 := hI.grown hg6 hO5.lt.1)
      | (go_at_call 71; have hI : InM w s t _ := And.left (by with_reducible assumption); refine (addNumG W.heap.size 0 0 (w.heap.size + 1) [] k _ hOm hI.1.lt hkf (by omega)).mono ?_; rintro e w5 ⟨g5, n5, cp5, rfl, hO5, hb5, hg5, hl5⟩; have hI5 := hI.grown hg5 hW1)
      | (go_at_call 71; have hI : InM w s t _ := And.left (by with_reducible assumption); refine (addNumG W.heap.size 0 0 (w.heap.size + 1) [] k _ hOm2 hI.1.lt hkf (by omega)).mono ?_; rintro e w5 ⟨g5, n5, cp5, rfl, hO5, hb5, hg5, hl5⟩; have hI5 := hI.grown hg5 hW1))
  all_goals
    rw [List.nil_append] at hO7
    have HY := Hid.mk' (addNumG g7 n7 cp7 (w.heap.size + 1) _ 0 w7 hO7 hI7.1.lt (by rfl) (by have := hO7.1; simp at this; omega))
    have HE : Hid (numBytes k ++ numBytes s ++ numBytes t ++ numBytes 0 = headB k s t false) := rfl
    rw [HE.out] at HY
    have hB7 := hI7.2
    have hg7l := hO7.lt
    clear hO5 hO6 hO7 hb5 hb6 hb7 hg5 hg6 hg7 hl5 hl6 hl7 hI5 hI6
    go_wp2_with fail
    refine HY.out.mono ?_
    rintro e w8 ⟨g8, n8, cp8, rfl, hO8, hb8, hg8, _⟩
    have hB8 : Below w.heap.size w w8 := hB7.grown hg8 hB7.size (fun j e => by cases e; omega)
    have HO8 := Hid.mk' (hO8.mono (base' := w.heap.size) (Nat.le_succ _))
    clear HY hO8 hb8 hg8
    go_wp2_with fail
    go_ret
    exact ⟨_, _, _, rfl, HO8.out, hB8⟩
set_option maxRecDepth 100000 in
set_option maxHeartbeats 4000000 in
theorem i_head1 (k s t : Int) (w : World) (hkf : (Lit.int .i64 k).wf = true) (hsf : (Lit.int .i64 s).wf = true) (htf : (Lit.int .i64 t).wf = true) :
    Calls Try.prog 53 #[.agg #[.int .i64 s, .int .i64 t], .int .i64 k, .bool true] w fun e w' =>
      ∃ g' n' cap', e = .returned (.slice (some ⟨g', 0, none⟩) n' cap') ∧ Own w' w.heap.size g' n' cap' (headB k s t true) ∧ Below w.heap.size w w' := by
  have hnk := numBytes_length k
  have hns := numBytes_length s
  have hnt := numBytes_length t
  have hI0 : InM w s t (w.alloc (.cells #[.int .i64 s, .int .i64 t] 74)) := ⟨boxM_new _ _ _, (Below.refl _ _).alloc (Nat.le_refl _) _⟩
  have hw0 : w.heap.size < (w.alloc (.cells #[.int .i64 s, .int .i64 t] 74)).heap.size := by simp
  go_enter Try.func53, Try.ntmps53
  go_wp2_with fail
  generalize w.alloc (.cells #[.int .i64 s, .int .i64 t] 74) = W at *
  have hI0d : InM w s t W.drew := hI0.drew
  obtain ⟨_, d0, d1⟩ := hI0.held
  have hW1 : w.heap.size + 1 ≤ W.heap.size := by omega
  have hOm : Own (W.alloc (.cells #[] 5)).drew (w.heap.size + 1) W.heap.size 0 0 [] := own_made W _ hW1
  have hOm2 : Own (W.drew.alloc (.cells #[] 5)) (w.heap.size + 1) W.heap.size 0 0 [] := own_made W.drew _ hW1
  go_region_held3 (fun w' => InM w s t w' ∧ w'.cell? ⟨w.heap.size, 0, none⟩ = some (.int .i64 s) ∧ w'.cell? ⟨w.heap.size, 1, none⟩ = some (.int .i64 t))
    (first | (exact hI0d.held) | (with_reducible assumption) | (exact hI7.held) | (exact hI6.held) | (exact hI5.held) | (exact (hI0.alloc _).drew.held) | (exact (hI0d.alloc _).held) | (go_keep))
    (first
      | (go_at_call 71; have hI : InM w s t _ := And.left (by with_reducible assumption); refine (addNumG g6 n6 cp6 (w.heap.size + 1) _ t _ hO6 hI.1.lt htf (by have := hO6.1; simp at this; omega)).mono ?_; rintro e w7 ⟨g7, n7, cp7, rfl, hO7, hb7, hg7, hl7⟩; have hI7 := hI.grown hg7 hO6.lt.1)
      | (go_at_call 71; have hI : InM w s t _ := And.left (by with_reducible assumption); refine (addNumG g5 n5 cp5 (w.heap.size + 1) _ s _ hO5 hI.1.lt hsf (by have := hO5.1; simp at this; omega)).mono ?_; rintro e w6 ⟨g6, n6, cp6, rfl, hO6, hb6, hg6, hl6⟩; have hI6 := hI.grown hg6 hO5.lt.1)
      | (go_at_call 71; have hI : InM w s t _ := And.left (by with_reducible assumption); refine (addNumG W.heap.size 0 0 (w.heap.size + 1) [] k _ hOm hI.1.lt hkf (by omega)).mono ?_; rintro e w5 ⟨g5, n5, cp5, rfl, hO5, hb5, hg5, hl5⟩; have hI5 := hI.grown hg5 hW1)
      | (go_at_call 71; have hI : InM w s t _ := And.left (by with_reducible assumption); refine (addNumG W.heap.size 0 0 (w.heap.size + 1) [] k _ hOm2 hI.1.lt hkf (by omega)).mono ?_; rintro e w5 ⟨g5, n5, cp5, rfl, hO5, hb5, hg5, hl5⟩; have hI5 := hI.grown hg5 hW1))
  all_goals
    rw [List.nil_append] at hO7
    have HY := Hid.mk' (addNumG g7 n7 cp7 (w.heap.size + 1) _ 1 w7 hO7 hI7.1.lt (by rfl) (by have := hO7.1; simp at this; omega))
    have HE : Hid (numBytes k ++ numBytes s ++ numBytes t ++ numBytes 1 = headB k s t true) := rfl
    rw [HE.out] at HY
    have hB7 := hI7.2
    have hg7l := hO7.lt
    clear hO5 hO6 hO7 hb5 hb6 hb7 hg5 hg6 hg7 hl5 hl6 hl7 hI5 hI6
    go_wp2_with fail
    refine HY.out.mono ?_
    rintro e w8 ⟨g8, n8, cp8, rfl, hO8, hb8, hg8, _⟩
    have hB8 : Below w.heap.size w w8 := hB7.grown hg8 hB7.size (fun j e => by cases e; omega)
    have HO8 := Hid.mk' (hO8.mono (base' := w.heap.size) (Nat.le_succ _))
    clear HY hO8 hb8 hg8
    go_wp2_with fail
    go_ret
    exact ⟨_, _, _, rfl, HO8.out, hB8⟩
theorem i_head (k s t : Int) (y : Bool) (w : World) (hkf : (Lit.int .i64 k).wf = true) (hsf : (Lit.int .i64 s).wf = true) (htf : (Lit.int .i64 t).wf = true) :
    Calls Try.prog 53 #[.agg #[.int .i64 s, .int .i64 t], .int .i64 k, .bool y] w fun e w' =>
      ∃ g' n' cap', e = .returned (.slice (some ⟨g', 0, none⟩) n' cap') ∧ Own w' w.heap.size g' n' cap' (headB k s t y) ∧ Below w.heap.size w w' := by
  cases y
  · exact i_head0 k s t w hkf hsf htf
  · exact i_head1 k s t w hkf hsf htf
/-- a box of what is said to hold -/
def BoxH (X : Nat) (s t : Int) (v : Value) (w : World) : Prop := w.heap[X]? = some (.cells #[.int .i64 s, .int .i64 t, v] 76 (0, 0))
section
variable {X : Nat} {s t : Int} {v : Value} {w w' w'' : World}
theorem boxH_new (w : World) (s t : Int) (v : Value) : BoxH w.heap.size s t v (w.alloc (.cells #[.int .i64 s, .int .i64 t, v] 76)) := heap_alloc_new w _
theorem BoxH.cells (h : BoxH X s t v w) : w.cell? ⟨X, 0, none⟩ = some (.int .i64 s) ∧ w.cell? ⟨X, 1, none⟩ = some (.int .i64 t) ∧ w.cell? ⟨X, 2, none⟩ = some v := by
  unfold BoxH at h
  simp [World.cell?, h]
theorem BoxH.lt (h : BoxH X s t v w) : X < w.heap.size := (Array.getElem?_eq_some_iff.1 h).1
theorem BoxH.below (h : BoxH X s t v w) (hb : Below w.heap.size w w') : BoxH X s t v w' := by
  have h' := h.lt
  unfold BoxH at h ⊢
  rw [hb.block X h', h]
theorem BoxH.grown {row : Option Nat} (h : BoxH X s t v w) (hg : w.grownBy w' row) (hne : some X ≠ row) : BoxH X s t v w' := by
  have h' := h.lt
  unfold BoxH at h ⊢
  rw [hg.block X h' hne, h]
def InH (w : World) (s t : Int) (v : Value) (w' : World) : Prop := BoxH w.heap.size s t v w' ∧ Below w.heap.size w w'
theorem InH.below (h : InH w s t v w') (hb : Below w'.heap.size w' w'') : InH w s t v w'' := ⟨h.1.below hb, h.2.trans (hb.mono h.2.size)⟩
theorem InH.grown {g : Nat} (h : InH w s t v w') (hb : w'.grownBy w'' (some g)) (hg : w.heap.size < g) : InH w s t v w'' := ⟨h.1.grown hb (by simp; omega), h.2.grown hb h.2.size (fun k e => by cases e; omega)⟩
theorem InH.drew (h : InH w s t v w') : InH w s t v w'.drew := ⟨h.1, h.2.drew⟩
theorem InH.held (h : InH w s t v w') : InH w s t v w' ∧ w'.cell? ⟨w.heap.size, 0, none⟩ = some (.int .i64 s) ∧ w'.cell? ⟨w.heap.size, 1, none⟩ = some (.int .i64 t) ∧ w'.cell? ⟨w.heap.size, 2, none⟩ = some v := ⟨h, h.1.cells⟩
end
set_option maxRecDepth 100000 in
set_option maxHeartbeats 4000000 in
theorem i_saidBytes1 (s t : Int) (a : Option Addr) (len cap : Nat) (l : List Od) (w : World) (h : SlO w a len l) (hks : ∀ p ∈ l, p.2.1.size ≤ 1099511627776) (hsf : (Lit.int .i64 s).wf = true) (htf : (Lit.int .i64 t).wf = true) :
    Calls Try.prog 31 #[.iface 76 (.agg #[.int .i64 s, .int .i64 t, .slice a len cap])] w fun e w' =>
      ∃ g' n' cap', e = .returned (.slice (some ⟨g', 0, none⟩) n' cap') ∧ Own w' w.heap.size g' n' cap' (headB 1 s t false ++ putOps l) ∧ Below w.heap.size w w' := by
  obtain ⟨i0, hi, hz0, hz1, hz2⟩ := info_parts info8
  have hta := ta_1_1
  have hhl := headB_length 1 s t false
  have hps := putOps_small l
  have hI0 : InH w s t (.slice a len cap) (w.alloc (.cells #[.int .i64 s, .int .i64 t, .slice a len cap] 76)) := ⟨boxH_new _ _ _ _, (Below.refl _ _).alloc (Nat.le_refl _) _⟩
  have HPO : Hid (∀ wx, InH w s t (.slice a len cap) wx → Calls Try.prog 54 #[.slice a len cap] wx fun e w' => ∃ g' n' cap', e = .returned (.slice (some ⟨g', 0, none⟩) n' cap') ∧ Own w' wx.heap.size g' n' cap' (putOps l) ∧ Below wx.heap.size wx w') := fun wx hx => impl_putOpsA a len cap l wx (h.below hx.2) hks
  have HHD : Hid (∀ wx, Calls Try.prog 53 #[.agg #[.int .i64 s, .int .i64 t], .int .i64 1, .bool false] wx fun e w' => ∃ g' n' cap', e = .returned (.slice (some ⟨g', 0, none⟩) n' cap') ∧ Own w' wx.heap.size g' n' cap' (headB 1 s t false) ∧ Below wx.heap.size wx w') := fun wx => i_head 1 s t false wx (by rfl) hsf htf
  generalize headB 1 s t false = HB at *
  generalize putOps l = PO at *
  clear h
  go_enter Try.func31, Try.ntmps31
  go_wp2_with (at_builtin; fail)
  generalize w.alloc (.cells #[.int .i64 s, .int .i64 t, .slice a len cap] 76) = W at *
  have hI0d := hI0.drew
  obtain ⟨_, d0, d1, d2⟩ := hI0.held
  go_region_held3 (fun w' => InH w s t (.slice a len cap) w' ∧ w'.cell? ⟨w.heap.size, 0, none⟩ = some (.int .i64 s) ∧ w'.cell? ⟨w.heap.size, 1, none⟩ = some (.int .i64 t) ∧ w'.cell? ⟨w.heap.size, 2, none⟩ = some (.slice a len cap))
    (first | (exact hI0d.held) | (with_reducible assumption) | (exact hI8.held) | (exact hI6.held) | (exact hI5.held) | (go_keep))
    (first
      | (go_at_call 54; have hI : InH w s t (.slice a len cap) _ := And.left (by with_reducible assumption); refine (HPO.out _ hI).mono ?_; rintro e w6 ⟨g6, n6, cp6, rfl, hO6, hb6⟩; have hI6 := hI.below hb6; have hO5 := hO5.below hb6)
      | (go_at_call 54; have hI : InH w s t (.slice a len cap) _ := And.left (by with_reducible assumption); refine (HPO.out _ hI).mono ?_; rintro e w6 ⟨g6, n6, cp6, rfl, hO6, hb6⟩; have hI6 := hI.below hb6)
      | (go_at_call 53; have hI : InH w s t (.slice a len cap) _ := And.left (by with_reducible assumption); refine (HHD.out _).mono ?_; rintro e w5 ⟨g5, n5, cp5, rfl, hO5', hb5⟩; have hO5 := hO5'.mono (base' := w.heap.size + 1) hI.1.lt; have hI5 := hI.below hb5; have hO6 := hO6.below hb5)
      | (go_at_call 53; have hI : InH w s t (.slice a len cap) _ := And.left (by with_reducible assumption); refine (HHD.out _).mono ?_; rintro e w5 ⟨g5, n5, cp5, rfl, hO5', hb5⟩; have hO5 := hO5'.mono (base' := w.heap.size + 1) hI.1.lt; have hI5 := hI.below hb5)
      | (have hI : InH w s t (.slice a len cap) _ := And.left (by with_reducible assumption); have hn5 := hO5.1; have hn6 := hO6.1; have hl2 : (byteVals PO).length = n6 * 1 := (by rw [byteVals_length]; omega); have hc3 : n5 + n6 ≤ maxLen := (by unfold maxLen; omega); have hc4 : (n5 + n6) * 1 ≤ 140737488355328 := (by omega); have hc5 := sl_cells hO6.sl; refine step_append_own rfl (.tmp 13) (.tmp 16) 22 rfl (w.heap.size + 1) 5 i0 (.int .u8 0) 1 1 Try.underlying22 hi hz0 hz1 hz2 rfl (by decide) _ _ _ rfl hO5.2 ⟨g6, 0, none⟩ n6 cp6 (byteVals PO) rfl hl2 hc5 (byteVals_oneCell _) hc3 hc4 hI.1.lt ?_; intro v8 w8 hown8 hgrow8 hnn8; have hI8 := hI.grown (g := g5) hgrow8 hO5.lt.1))
  all_goals
    have hnn' : ¬ v8 = .slice none 0 0 := fun e => by
      have e9 : Value.slice (some ⟨g5, 0, none⟩) n5 cp5 = .slice none 0 0 := (hnn8.1 e).1
      cases e9
    obtain ⟨g9, cp9, hv8, hO9⟩ := own_cat hO5.1 hO6.1 hnn' hown8
    subst hv8
    have HO9 := Hid.mk' (hO9.mono (base' := w.heap.size) (Nat.le_succ _))
    have hB9 := hI8.2
    clear hown8 hgrow8 hnn8 hnn' hO9 hO5 hO6 HPO HHD
    go_wp2_with (at_builtin; fail)
    go_ret
    exact ⟨_, _, _, rfl, HO9.out, hB9⟩
set_option maxRecDepth 100000 in
set_option maxHeartbeats 4000000 in
theorem i_saidBytes2 (s t : Int) (y : Bool) (w : World) (hsf : (Lit.int .i64 s).wf = true) (htf : (Lit.int .i64 t).wf = true) :
    Calls Try.prog 31 #[.iface 78 (.agg #[.int .i64 s, .int .i64 t, .bool y])] w fun e w' =>
      ∃ g' n' cap', e = .returned (.slice (some ⟨g', 0, none⟩) n' cap') ∧ Own w' w.heap.size g' n' cap' (headB 2 s t y) ∧ Below w.heap.size w w' := by
  have hta1 := ta_2_1
  have hta2 := ta_2_2
  have hb0 : Below w.heap.size w (w.alloc (.cells #[.int .i64 s, .int .i64 t, .bool y] 78)) := (Below.refl _ _).alloc (Nat.le_refl _) _
  have HHD := Hid.mk' (i_head 2 s t y (w.alloc (.cells #[.int .i64 s, .int .i64 t, .bool y] 78)) (by rfl) hsf htf)
  generalize headB 2 s t y = HB at *
  go_enter Try.func31, Try.ntmps31
  go_wp2_with (at_builtin; fail)
  refine HHD.out.mono ?_
  rintro e w1 ⟨g1, n1, cp1, rfl, hO1, hb1⟩
  have HO1 := Hid.mk' (hO1.mono (base' := w.heap.size) hb0.size)
  have hB1 := hb0.trans (hb1.mono hb0.size)
  clear HHD hO1 hb1
  go_wp2_with (at_builtin; fail)
  go_ret
  exact ⟨_, _, _, rfl, HO1.out, hB1⟩
set_option maxRecDepth 100000 in
set_option maxHeartbeats 4000000 in
theorem i_saidBytes3 (s t : Int) (y : Bool) (w : World) (hsf : (Lit.int .i64 s).wf = true) (htf : (Lit.int .i64 t).wf = true) :
    Calls Try.prog 31 #[.iface 79 (.agg #[.int .i64 s, .int .i64 t, .bool y])] w fun e w' =>
      ∃ g' n' cap', e = .returned (.slice (some ⟨g', 0, none⟩) n' cap') ∧ Own w' w.heap.size g' n' cap' (headB 3 s t y) ∧ Below w.heap.size w w' := by
  have hta1 := ta_3_1
  have hta2 := ta_3_2
  have hta3 := ta_3_3
  have hb0 : Below w.heap.size w (w.alloc (.cells #[.int .i64 s, .int .i64 t, .bool y] 79)) := (Below.refl _ _).alloc (Nat.le_refl _) _
  have HHD := Hid.mk' (i_head 3 s t y (w.alloc (.cells #[.int .i64 s, .int .i64 t, .bool y] 79)) (by rfl) hsf htf)
  generalize headB 3 s t y = HB at *
  go_enter Try.func31, Try.ntmps31
  go_wp2_with (at_builtin; fail)
  refine HHD.out.mono ?_
  rintro e w1 ⟨g1, n1, cp1, rfl, hO1, hb1⟩
  have HO1 := Hid.mk' (hO1.mono (base' := w.heap.size) hb0.size)
  have hB1 := hb0.trans (hb1.mono hb0.size)
  clear HHD hO1 hb1
  go_wp2_with (at_builtin; fail)
  go_ret
  exact ⟨_, _, _, rfl, HO1.out, hB1⟩
set_option maxRecDepth 100000 in
set_option maxHeartbeats 4000000 in
theorem i_saidBytes4 (s t : Int) (y : Bool) (w : World) (hsf : (Lit.int .i64 s).wf = true) (htf : (Lit.int .i64 t).wf = true) :
    Calls Try.prog 31 #[.iface 81 (.agg #[.int .i64 s, .int .i64 t])] w fun e w' =>
      ∃ g' n' cap', e = .returned (.slice (some ⟨g', 0, none⟩) n' cap') ∧ Own w' w.heap.size g' n' cap' (headB 4 s t false) ∧ Below w.heap.size w w' := by
  have hta1 := ta_4_1
  have hta2 := ta_4_2
  have hta3 := ta_4_3
  have hta4 := ta_4_4
  have hb0 : Below w.heap.size w (w.alloc (.cells #[.int .i64 s, .int .i64 t] 81)) := (Below.refl _ _).alloc (Nat.le_refl _) _
  have HHD := Hid.mk' (i_head 4 s t false (w.alloc (.cells #[.int .i64 s, .int .i64 t] 81)) (by rfl) hsf htf)
  generalize headB 4 s t false = HB at *
  go_enter Try.func31, Try.ntmps31
  go_wp2_with (at_builtin; fail)
  refine HHD.out.mono ?_
  rintro e w1 ⟨g1, n1, cp1, rfl, hO1, hb1⟩
  have HO1 := Hid.mk' (hO1.mono (base' := w.heap.size) hb0.size)
  have hB1 := hb0.trans (hb1.mono hb0.size)
  clear HHD hO1 hb1
  go_wp2_with (at_builtin; fail)
  go_ret
  exact ⟨_, _, _, rfl, HO1.out, hB1⟩
theorem i_saidBytesA (k s t : Int) (a : Option Addr) (len cap : Nat) (l : List Od) (y : Bool) (w : World) (hok : wordOk (k, s, t, l, y) = true) (h : SlO w a len l) :
    Calls Try.prog 31 #[saidV k s t a len cap y] w fun e w' =>
      ∃ g' n' cap', e = .returned (.slice (some ⟨g', 0, none⟩) n' cap') ∧ Own w' w.heap.size g' n' cap' (wordBytes (k, s, t, l, y)) ∧ Below w.heap.size w w' := by
  have hks := wordOk_keys hok
  obtain ⟨_, hs, ht⟩ := ok_ranges hok
  have hsf : (Lit.int .i64 s).wf = true := WalkArith.wf_i64 (by omega)
  have htf : (Lit.int .i64 t).wf = true := WalkArith.wf_i64 (by omega)
  rw [wordOk_iff] at hok
  rcases hok.2 with ⟨rfl, _, rfl⟩ | ⟨rfl | rfl, _⟩ | ⟨rfl, _, rfl⟩
  · exact i_saidBytes1 s t a len cap l w h hks hsf htf
  · have e : wordBytes (2, s, t, l, y) = headB 2 s t y := by unfold wordBytes; simp only []; rw [if_neg (by decide), List.append_nil]
    rw [e]; exact i_saidBytes2 s t y w hsf htf
  · have e : wordBytes (3, s, t, l, y) = headB 3 s t y := by unfold wordBytes; simp only []; rw [if_neg (by decide), List.append_nil]
    rw [e]; exact i_saidBytes3 s t y w hsf htf
  · have e : wordBytes (4, s, t, l, false) = headB 4 s t false := by unfold wordBytes; simp only []; rw [if_neg (by decide), List.append_nil]
    rw [e]; exact i_saidBytes4 s t false w hsf htf
set_option maxRecDepth 100000 in
set_option maxHeartbeats 4000000 in
theorem impl_putWord (k s t : Int) (a : Option Addr) (len cap : Nat) (l : List Od) (y : Bool) (w : World) (h : SlO w a len l) (hks : ∀ p ∈ l, p.2.1.size ≤ 1099511627776) :
    Calls Try.prog 9 #[wdV k s t (.slice a len cap) y] w fun e w' =>
      ∃ g' n' cap', e = .returned (.slice (some ⟨g', 0, none⟩) n' cap') ∧ Own w' w.heap.size g' n' cap' (putWord (k, s, t, l, y)) ∧ Below w.heap.size w w' := by
  obtain ⟨W, hW⟩ : ∃ W, W = w.alloc (.cells #[.int .i64 k, .int .i64 s, .int .i64 t, .slice a len cap, .bool y] 26) := ⟨_, rfl⟩
  have hba : Below w.heap.size w W := by rw [hW]; exact (Below.refl _ _).alloc (Nat.le_refl _) _
  have HS := Hid.mk' (i_saidOf k s t a len cap l y W (h.below hba))
  have HW := Hid.mk' hW.symm
  clear hW
  cases hf : fits k l y
  · have HF : Hid (putWord (k, s, t, l, y) = []) := by show _ = _; unfold putWord; rw [fits_no hf]; rfl
    rw [hf] at HS
    clear hf
    generalize saidV k s t a len cap y = V at *
    go_enter Try.func9, Try.ntmps9
    go_wp2_with fail
    rw [HW.out]
    refine HS.out.mono ?_
    rintro e w1 ⟨rfl, hb1⟩
    have hB1 := hba.trans (hb1.mono hba.size)
    have hO1 := own_made w1 w.heap.size hB1.size
    go_wp2_with fail
    go_ret
    exact ⟨_, _, _, rfl, by rw [HF.out]; exact hO1, hB1.alloc hB1.size _⟩
  · have HO : Hid (∀ wx, Below w.heap.size w wx → Calls Try.prog 30 #[saidV k s t a len cap y] wx fun e w' => e = .returned (.bool (wordOk (k, s, t, l, y))) ∧ Below wx.heap.size wx w') := fun wx hx => i_saidOkA k s t a len cap l y wx hf (h.below hx) hks
    rw [hf] at HS
    clear hf
    cases hok : wordOk (k, s, t, l, y)
    · rw [hok] at HO
      have HF : Hid (putWord (k, s, t, l, y) = []) := by show _ = _; unfold putWord; rw [hok]; rfl
      clear hok
      generalize saidV k s t a len cap y = V at *
      go_enter Try.func9, Try.ntmps9
      go_wp2_with fail
      rw [HW.out]
      refine HS.out.mono ?_
      rintro e w1 ⟨rfl, hb1⟩
      have hB1 := hba.trans (hb1.mono hba.size)
      go_wp2_with fail
      refine (HO.out _ hB1).mono ?_
      rintro e w2 ⟨rfl, hb2⟩
      have hB2 := hB1.trans (hb2.mono hB1.size)
      have hO2 := own_made w2 w.heap.size hB2.size
      go_wp2_with fail
      go_ret
      exact ⟨_, _, _, rfl, by rw [HF.out]; exact hO2, hB2.alloc hB2.size _⟩
    · have HF : Hid (putWord (k, s, t, l, y) = wordBytes (k, s, t, l, y)) := by show _ = _; unfold putWord; rw [hok]; rfl
      have HBY : Hid (∀ wx, Below w.heap.size w wx → Calls Try.prog 31 #[saidV k s t a len cap y] wx fun e w' => ∃ g' n' cap', e = .returned (.slice (some ⟨g', 0, none⟩) n' cap') ∧ Own w' wx.heap.size g' n' cap' (wordBytes (k, s, t, l, y)) ∧ Below wx.heap.size wx w') := fun wx hx => i_saidBytesA k s t a len cap l y wx hok (h.below hx)
      rw [hok] at HO
      clear hok
      generalize saidV k s t a len cap y = V at *
      generalize wordBytes (k, s, t, l, y) = BY at *
      go_enter Try.func9, Try.ntmps9
      go_wp2_with fail
      rw [HW.out]
      refine HS.out.mono ?_
      rintro e w1 ⟨rfl, hb1⟩
      have hB1 := hba.trans (hb1.mono hba.size)
      go_wp2_with fail
      refine (HO.out _ hB1).mono ?_
      rintro e w2 ⟨rfl, hb2⟩
      have hB2 := hB1.trans (hb2.mono hB1.size)
      clear HS HO hb1 hb2
      go_wp2_with fail
      refine (HBY.out _ hB2).mono ?_
      rintro e w3 ⟨g3, n3, cp3, rfl, hO3, hb3⟩
      have HO3 := Hid.mk' (hO3.mono (base' := w.heap.size) hB2.size)
      have hB3 := hB2.trans (hb3.mono hB2.size)
      clear HBY hO3 hb3
      go_wp2_with fail
      go_ret
      exact ⟨_, _, _, rfl, by rw [HF.out]; exact HO3.out, hB3⟩
end Go.Proofs.Ytjodbijcgcjndaa.wds
