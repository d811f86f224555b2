/- The program's right pairs, and pairs put into others, whole. -/
import Derived.Test.YtblgkcgmnmligaaPairF
namespace Go.Proofs.Ytblgkcgmnmligaa.pairs
open Go Go.RowKit Go.Proofs.Ytblgkcgmnmligaa.base
set_option linter.unusedVariables false
set_option linter.unusedSimpArgs false

set_option maxRecDepth 100000 in
set_option maxHeartbeats 2000000 in
theorem impl_pairsOk (b off len cap : Nat) (l : List Pr) (w : World) (h : SlP w (some ⟨b, off, none⟩) len l) (hks : ∀ p ∈ l, p.1.size ≤ 1099511627776) :
    Calls Try.prog 24 #[.slice (some ⟨b, off, none⟩) len cap] w fun e w' => e = .returned (.bool (pairsOk l)) ∧ Below w.heap.size w w' := by
  have hl := h.1
  have hm := h.2.1
  have hsm := h.2.2.1
  subst hl
  unfold maxLen at hm
  by_cases h60 : 60 < l.length
  · go_enter Try.func24, Try.ntmps24
    go_wp2_with fail
    go_ret
    exact ⟨ret_bool (by unfold pairsOk; rw [decide_eq_false (by omega : ¬ l.length ≤ 60)]; simp), Below.refl _ _⟩
  · have HP : Hid (pairsOk l = (l.all pairOk && rise l)) := by show _ = _; unfold pairsOk; rw [okFrom_split, decide_eq_true (by omega : l.length ≤ 60)]; simp
    generalize hA : l.all pairOk = A
    have HA := Hid.mk' hA
    clear hA
    go_enter Try.func24, Try.ntmps24
    go_wp2_with fail
    go_loopw [10] (fun i wr => ∃ k : Nat, k ≤ l.length ∧ i = .int .i64 (k : Int) ∧ (l.drop k).all pairOk = A ∧ Below w.heap.size w wr) (fun i _ => l.length - (intOf i).toNat)
    case atStart => exact ⟨0, Nat.zero_le _, rfl, HA.out, Below.refl _ _⟩
    case round =>
      obtain ⟨k, hk, rfl, hr, hB⟩ := hrel
      by_cases hlt : k < l.length
      · obtain ⟨c1, c2⟩ := (h.below hB).cells k hlt
        have hpk := hsm _ (List.getElem_mem hlt)
        have hks' := hks _ (List.getElem_mem hlt)
        have hki : (k : Int) < (l.length : Int) := by omega
        have hst := all_drop l k hlt
        rw [hr] at hst
        have hcall := fun wx => impl_pairOk l[k] wx hpk hks'
        have hBA : Below w.heap.size w (wr.alloc (.cells #[.string l[k].1, .string l[k].2] 33)) := hB.alloc hB.size _
        generalize l[k] = p at *
        cases hP : pairOk p
        all_goals
          rw [hP] at hst hcall
          have HST := Hid.mk' hst
          have HC := Hid.mk' hcall
          clear hst hr hcall hP
          go_wp2_with fail
          refine (HC.out _).mono ?_
          rintro e w3 ⟨rfl, hb3⟩
          have hB3 : Below w.heap.size w w3 := hBA.trans (hb3.mono hBA.size)
          clear hb3 hBA hB c1 c2
          go_wp2_with fail
        · go_ret
          exact ⟨ret_bool (by rw [HP.out, HA.out, HST.out]; rfl), hB3⟩
        · go_roundw
          case rel => exact ⟨k + 1, by omega, by go_num, by rw [HST.out]; simp, hB3⟩
          case measure => simp [intOf]; omega
      · have HF : Hid (A = true) := by show _ = _; rw [← hr, List.drop_eq_nil_of_le (by omega)]; rfl
        have HI := Hid.mk' (i_rises b off cap l wr (h.below hB) (by omega))
        clear hr
        go_wp2_with fail
        refine HI.out.mono ?_
        rintro e w3 ⟨rfl, hb3⟩
        have hB3 : Below w.heap.size w w3 := hB.trans (hb3.mono hB.size)
        clear hb3
        go_wp2_with fail
        go_ret
        exact ⟨ret_bool (by rw [HP.out, HA.out, HF.out]; simp), hB3⟩

set_option maxRecDepth 100000 in
set_option maxHeartbeats 2000000 in
theorem impl_unionOf (b off len cap : Nat) (l : List Pr) (b2 off2 len2 cap2 : Nat) (l2 : List Pr) (w : World) (h : SlP w (some ⟨b, off, none⟩) len l) (h2 : SlP w (some ⟨b2, off2, none⟩) len2 l2) (hcap : len ≤ cap) (hcap2 : len2 ≤ cap2) (hsz : len + len2 ≤ 1099511627776) :
    Calls Try.prog 32 #[.slice (some ⟨b, off, none⟩) len cap, .slice (some ⟨b2, off2, none⟩) len2 cap2] w fun e w' =>
      ∃ g' n' cap', e = .returned (.slice (some ⟨g', 0, none⟩) n' cap') ∧ OwnP w' w.heap.size g' n' cap' (unionOf l l2) ∧ Below w.heap.size w w' := by
  obtain ⟨i0, hif, hz0, hz1, hz2⟩ := info_parts infoP
  have hl := h.1
  have hsm := h.2.2.1
  have hl2 := h2.1
  have hsm2 := h2.2.2.1
  subst hl hl2
  have hba : Below w.heap.size w (w.alloc (.cells #[] 33)) := (Below.refl _ _).alloc (Nat.le_refl _) _
  have HC := Hid.mk' (cells_pairs (h.below hba).cells)
  have hn0 := pairVals_length l
  have hm1 : 0 + l.length ≤ maxLen := by unfold maxLen; omega
  have hm2 : (0 + l.length) * 32 ≤ 140737488355328 := by omega
  have hown0 := (ownP_made w w.heap.size (Nat.le_refl _)).2.2
  go_enter Try.func32, Try.ntmps32
  go_wp2_with (at_builtin; refine wpList_append_own _ rfl (.tmp 8) (.tmp 9) 24 rfl w.heap.size 33 i0 (.agg #[.string ⟨#[]⟩, .string ⟨#[]⟩]) 2 32 Try.underlying24 hif hz0 hz1 hz2 rfl (by decide) _ _ _ rfl hown0 ⟨b, off, none⟩ l.length cap (pairVals l) rfl hn0 HC.out (pairVals_oneCell _) hm1 hm2 (le_alloc _ _ (Nat.le_refl _)) ?_)
  intro v1 w1 hown hgrow hnn
  have hnn' : ¬ v1 = .slice none 0 0 := by simpa using hnn
  obtain ⟨g1, cap1, hv, hO1⟩ := ownP_val rfl hsm hnn' (by simpa [pairVals] using hown)
  subst hv
  have hB1 : Below w.heap.size w w1 := hba.grown hgrow (le_alloc _ _ (Nat.le_refl _)) (fun k e => by simp [Value.ownBlock] at e; omega)
  clear hown hgrow hnn hnn' hown0 HC hn0 hm1 hm2 hba
  go_wp2_with (at_builtin; fail)
  go_loopw [5, 13] (fun v i wr => ∃ (k g n cp : Nat), k ≤ l2.length ∧ n ≤ l.length + k ∧ i = .int .i64 (k : Int) ∧ v = .slice (some ⟨g, 0, none⟩) n cp ∧ OwnP wr w.heap.size g n cp (unionOf l (l2.take k)) ∧ Below w.heap.size w wr) (fun _ i _ => l2.length - (intOf i).toNat)
  case atStart => exact ⟨0, g1, _, cap1, Nat.zero_le _, by omega, rfl, rfl, hO1, hB1⟩
  case round =>
    clear hO1 hB1
    obtain ⟨k, g, n, cp, hk, hn, rfl, rfl, hO, hB⟩ := hrel
    by_cases hlt : k < l2.length
    · obtain ⟨c1, c2⟩ := (h2.below hB).cells k hlt
      have hpk := hsm2 _ (List.getElem_mem hlt)
      have hki : (k : Int) < (l2.length : Int) := by omega
      have HU := Hid.mk' (unionOf_snoc l l2 k hlt)
      have hpl := putKey_length l2[k].1 l2[k].2 (unionOf l (l2.take k))
      have hcs := hO.cases
      have hul := hO.1
      have hBA : Below w.heap.size w (wr.alloc (.cells #[.string l2[k].1, .string l2[k].2] 33)) := hB.alloc hB.size _
      have hOA : OwnP (wr.alloc (.cells #[.string l2[k].1, .string l2[k].2] 33)) w.heap.size g n cp (unionOf l (l2.take k)) := hO.below ((Below.refl _ _).alloc (Nat.le_refl _) _)
      generalize l2[k] = p at *
      generalize unionOf l (l2.take k) = u at *
      have HP := Hid.mk' (impl_putKey g 0 n cp u p.1 p.2 _ hOA.sl hcs.1 (by omega) hpk.1 hpk.2)
      clear hOA hO hB
      go_wp2_with (at_builtin; fail)
      refine HP.out.mono ?_
      rintro e w5 ⟨g5, n5, cp5, rfl, hO5, hb5⟩
      have hB5 : Below w.heap.size w w5 := hBA.trans (hb5.mono hBA.size)
      have hO5' := hO5.mono (base' := w.heap.size) hBA.size
      rw [← HU.out] at hO5'
      have hn5 : n5 ≤ l.length + (k + 1) := by have := hO5.1; omega
      have HO5 := Hid.mk' hO5'
      clear hb5 hO5 hO5' hBA c1 c2 HP
      go_wp2_with (at_builtin; fail)
      go_roundw
      case rel => exact ⟨k + 1, g5, n5, cp5, by omega, hn5, by go_num, rfl, HO5.out, hB5⟩
      case measure => simp [intOf]; omega
    · have HE : Hid (l2.take k = l2) := List.take_of_length_le (by omega)
      go_wp2_with (at_builtin; fail)
      go_ret
      rw [HE.out] at hO
      exact ⟨g, n, cp, rfl, hO, hB⟩

end Go.Proofs.Ytblgkcgmnmligaa.pairs
