/- The program's right pairs, and pairs put into others. -/
import Derived.Test.YteiokccimlcmpaaPairC
import Derived.Test.YteiokccimlcmpaaPairW
namespace Go.Proofs.Yteiokccimlcmpaa.pairs
open Go Go.RowKit Go.Proofs.Yteiokccimlcmpaa.base
set_option linter.unusedVariables false
set_option linter.unusedSimpArgs false

/-! ### pairs that rise -/
def rise : List Pr → Bool
  | [] => true
  | p :: l => (match l.head? with | none => true | some q => ltB p.1 q.1) && rise l
theorem okFrom_some (k : ByteArray) (l : List Pr) : okFrom (some k) l = ((match l.head? with | none => true | some q => ltB k q.1) && l.all pairOk && rise l) := by
  induction l generalizing k with
  | nil => rfl
  | cons p l ih =>
    simp only [okFrom, ih, List.head?_cons, List.all_cons, rise]
    cases pairOk p <;> cases ltB k p.1 <;> cases l.all pairOk <;> cases rise l <;> simp
theorem okFrom_split (l : List Pr) : okFrom none l = (l.all pairOk && rise l) := by
  cases l with
  | nil => rfl
  | cons p l =>
    simp only [okFrom, okFrom_some, List.all_cons, rise]
    cases pairOk p <;> cases l.all pairOk <;> cases rise l <;> simp
theorem rise_step (l : List Pr) (j : Nat) (h1 : 1 ≤ j) (h : j < l.length) : rise (l.drop (j - 1)) = (ltB l[j - 1].1 l[j].1 && rise (l.drop j)) := by
  rw [List.drop_eq_getElem_cons (by omega : j - 1 < l.length), rise, show j - 1 + 1 = j by omega, List.head?_drop, List.getElem?_eq_getElem h]
theorem rise_end (l : List Pr) (j : Nat) (h : l.length ≤ j) : rise (l.drop (j - 1)) = true := by
  by_cases h2 : j - 1 < l.length
  · rw [List.drop_eq_getElem_cons h2, rise, List.drop_eq_nil_of_le (by omega)]; rfl
  · rw [List.drop_eq_nil_of_le (by omega)]; rfl
theorem all_drop (l : List Pr) (k : Nat) (h : k < l.length) : (l.drop k).all pairOk = (pairOk l[k] && (l.drop (k + 1)).all pairOk) := by
  rw [List.drop_eq_getElem_cons h, List.all_cons]

set_option maxRecDepth 100000 in
set_option maxHeartbeats 2000000 in
theorem i_rises (b off cap : Nat) (l : List Pr) (w : World) (h : SlP w (some ⟨b, off, none⟩) l.length l) (hsz : l.length ≤ 1099511627776) :
    Calls Try.prog 82 #[.slice (some ⟨b, off, none⟩) l.length cap] w fun e w' => e = .returned (.bool (rise l)) ∧ Below w.heap.size w w' := by
  have hmt := i_meth
  generalize hR : rise l = R
  have HR := Hid.mk' hR
  clear hR
  go_enter Try.func82, Try.ntmps82
  go_wp2_with fail
  go_loopw [3] (fun i wr => ∃ j : Nat, 1 ≤ j ∧ j ≤ l.length + 1 ∧ i = .int .i64 (j : Int) ∧ rise (l.drop (j - 1)) = R ∧ Below w.heap.size w wr) (fun i _ => l.length + 1 - (intOf i).toNat)
  case atStart => exact ⟨1, Nat.le_refl _, by omega, rfl, HR.out, Below.refl _ _⟩
  case round =>
    obtain ⟨j, hj1, hj2, rfl, hr, hB⟩ := hrel
    by_cases hlt : j < l.length
    · have hS := h.below hB
      have hbl := hS.lt (by omega)
      have hst := rise_step l j hj1 hlt
      rw [hr] at hst
      obtain ⟨c1, c2⟩ := hS.cells j hlt
      obtain ⟨c3, c4⟩ := hS.cells (j - 1) (by omega)
      have hji : (j : Int) < (l.length : Int) := by omega
      obtain ⟨k, hk⟩ : ∃ k, j - 1 = k := ⟨_, rfl⟩
      have hkw : (j : Int) - 1 = (k : Int) := by omega
      have hki : (k : Int) < (l.length : Int) := by omega
      have hne : Op.bytesLess l[j - 1].1.toList l[j].1.toList = ltB l[j - 1].1 l[j].1 := rfl
      generalize l[j] = p at *
      generalize l[j - 1] = q at *
      rw [hk] at c3 c4
      have o1 := last.On.cell c1 hbl
      have o2 := last.On.cell c2 hbl
      have o3 := last.On.cell c3 hbl
      have o4 := last.On.cell c4 hbl
      cases hL : ltB q.1 p.1
      all_goals
        rw [hL] at hst hne
        have HST := Hid.mk' hst
        clear hst hr hL hS hk
        go_wp2_with fail
        have hinh := last.On.inh wr.heap.size wr
        have hc1 : ∀ x : last.On wr.heap.size wr, Calls Try.prog 154 #[.agg #[.string p.1, .string p.2]] x.w fun e w' => e = .returned (.string p.1) ∧ ∃ y : last.On wr.heap.size wr, w' = y.w := fun x => last.Calls.on x (Nat.le_refl _) ((i_key p x.w).mono fun e w' ⟨he, hw⟩ => ⟨he, by rw [hw]; exact (Below.refl _ _).alloc (Nat.le_refl _) _⟩)
        have hc2 : ∀ x : last.On wr.heap.size wr, Calls Try.prog 154 #[.agg #[.string q.1, .string q.2]] x.w fun e w' => e = .returned (.string q.1) ∧ ∃ y : last.On wr.heap.size wr, w' = y.w := fun x => last.Calls.on x (Nat.le_refl _) ((i_key q x.w).mono fun e w' ⟨he, hw⟩ => ⟨he, by rw [hw]; exact (Below.refl _ _).alloc (Nat.le_refl _) _⟩)
        refine last.wp_region_on wr.heap.size (by kernel_rfl) (by kernel_rfl) ?_
        repeat (go_big_quiet_step ((go_at_call 154; first | exact hc1 _ | exact hc2 _)))
        refine wpQuiet_nil ?_
        intro w5 hw5
        obtain ⟨x5, hw5⟩ := hw5
        subst hw5
        have hB5 : Below w.heap.size w x5.w := hB.trans (x5.2.mono hB.size)
        go_wp2_with fail
      · go_ret
        exact ⟨ret_bool (by rw [HST.out]; rfl), hB5⟩
      · go_roundw
        case rel => exact ⟨j + 1, by omega, by omega, by go_num, by rw [HST.out]; simp, hB5⟩
        case measure => simp [intOf]; omega
    · have HF : Hid (R = true) := by show _ = _; rw [← hr]; exact rise_end l j (by omega)
      clear hr
      go_wp2_with fail
      go_ret
      exact ⟨ret_bool (by rw [HF.out]), hB⟩

end Go.Proofs.Yteiokccimlcmpaa.pairs
