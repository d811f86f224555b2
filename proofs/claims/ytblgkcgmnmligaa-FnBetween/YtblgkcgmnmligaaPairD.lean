/- The program's pairs between two ends. -/
import Derived.Test.YtblgkcgmnmligaaPairC
namespace Go.Proofs.Ytblgkcgmnmligaa.pairs
open Go Go.RowKit Go.Proofs.Ytblgkcgmnmligaa.base
set_option linter.unusedVariables false
set_option linter.unusedSimpArgs false

theorem bel3 {w wr : World} (hB : Below w.heap.size w wr) (x y z : Obj) : Below w.heap.size w (((wr.alloc x).alloc y).alloc z) := (bel2 hB x y).alloc (bel2 hB x y).size _
theorem empty_iff (hi : ByteArray) : hi.size = 0 ↔ hi = ⟨#[]⟩ := by
  constructor
  · intro h; apply bytes_ext; exact List.eq_nil_of_length_eq_zero (by rw [Array.length_toList]; exact h)
  · rintro rfl; rfl

set_option maxRecDepth 100000 in
set_option maxHeartbeats 4000000 in
theorem i_between (b off cap : Nat) (l : List Pr) (lo hi : ByteArray) (w : World) (h : SlP w (some ⟨b, off, none⟩) l.length l) (hsz : l.length ≤ 1099511627776) :
    Calls Try.prog 57 #[.slice (some ⟨b, off, none⟩) l.length cap, .string lo, .string hi] w fun e w' =>
      ∃ g' n' cap', e = .returned (.slice (some ⟨g', 0, none⟩) n' cap') ∧ OwnP w' w.heap.size g' n' cap' (between lo hi l) ∧ Below w.heap.size w w' := by
  obtain ⟨i0, hif, hz0, hz1, hz2⟩ := info_parts infoP
  have hsm := h.2.2.1
  have hmt := i_meth
  go_enter Try.func57, Try.ntmps57
  go_wp2_with (at_builtin; fail)
  go_loopw [7, 13] (fun v i wr => ∃ (k g n cp : Nat), k ≤ l.length ∧ n ≤ k ∧ i = .int .i64 (k : Int) ∧ v = .slice (some ⟨g, 0, none⟩) n cp ∧ OwnP wr w.heap.size g n cp (between lo hi (l.take k)) ∧ Below w.heap.size w wr) (fun _ i _ => l.length - (intOf i).toNat)
  case atStart => exact ⟨0, w.heap.size, 0, 0, Nat.zero_le _, Nat.le_refl _, rfl, rfl, ownP_made w _ (Nat.le_refl _), (Below.refl _ _).alloc (Nat.le_refl _) _⟩
  case round =>
    obtain ⟨k, g, n, cp, hk, hnk, rfl, rfl, hO, hB⟩ := hrel
    have hbw : w.heap.size ≤ wr.heap.size := hB.size
    by_cases hlt : k < l.length
    · obtain ⟨c1, c2⟩ := (h.below hB).cells k hlt
      have hst := filter_snoc (fun p => inB lo hi p.1) l k hlt
      have hpk := hsm _ (List.getElem_mem hlt)
      have hki : (k : Int) < (l.length : Int) := by omega
      cases h1 : Op.bytesLess l[k].1.toList lo.toList
      · by_cases h2 : hi = ⟨#[]⟩
        · have HIN : Hid (inB lo hi l[k].1 = true) := by show _ = _; unfold inB; rw [show ltB l[k].1 lo = false from h1, decide_eq_true ((empty_iff hi).2 h2)]; rfl
          subst h2
          have HF : Hid (between lo ⟨#[]⟩ (l.take (k + 1)) = between lo ⟨#[]⟩ (l.take k) ++ [l[k]]) := by
            show List.filter _ _ = List.filter _ _ ++ _
            rw [hst, HIN.out]; simp
          have hc3 : n + 1 ≤ maxLen := by unfold maxLen; omega
          have hc4 : (n + 1) * 32 ≤ 140737488355328 := by omega
          clear hst HIN
          generalize l[k] = p at *
          go_wp2_with fail
          refine (i_key p _).mono ?_
          rintro e w3 ⟨rfl, hw3⟩
          have hX3 : Below (wr.alloc (.cells #[.string p.1, .string p.2] 33)).heap.size (wr.alloc (.cells #[.string p.1, .string p.2] 33)) w3 := by rw [hw3]; exact (Below.refl _ _).alloc (Nat.le_refl _) _
          have hXB : Below wr.heap.size wr w3 := ((Below.refl _ _).alloc (Nat.le_refl _) _).trans (hX3.mono (le_alloc _ _ (Nat.le_refl _)))
          have hB3 : Below w.heap.size w w3 := hB.trans (hXB.mono hB.size)
          have hO3 : OwnP w3 w.heap.size g n cp (between lo ⟨#[]⟩ (l.take k)) := hO.below hXB
          obtain ⟨cb0, cb1⟩ := box_cell wr w3 p.1 p.2 hX3
          clear hw3 hO hB hXB c1 c2
          have hszW : w.heap.size ≤ w3.heap.size := hB3.size
          go_wp2_with (at_builtin; refine wpList_append_own _ rfl (.tmp 33) (.tmp 35) 57 rfl w.heap.size 33 i0 (.agg #[.string ⟨#[]⟩, .string ⟨#[]⟩]) 2 32 Try.underlying57 hif hz0 hz1 hz2 rfl (by decide) _ _ _ rfl (hO3.2.2.alloc _) ⟨w3.heap.size, 0, none⟩ 1 1 (pairVals [p]) rfl rfl (one_pair_cells _ _ _) (pairVals_oneCell _) hc3 hc4 (le_alloc _ _ hszW) ?_)
          intro v2 w2 hown hgrow hnn
          obtain ⟨g2, cp2, hv, hO2⟩ := ownP_app hO3.1 hO3.2.1 hpk hnn hown
          subst hv
          have hB2 : Below w.heap.size w w2 := (hB3.alloc hszW _).grown hgrow (le_alloc _ _ hszW) (fun k e => by simp [Value.ownBlock] at e; have := hO3.lt; omega)
          rw [← HF.out] at hO2
          have HO2 := Hid.mk' hO2
          clear hown hgrow hnn hO2 hO3 hB3
          go_wp2_with (at_builtin; fail)
          go_roundw
          case rel => exact ⟨k + 1, g2, n + 1, cp2, by omega, by omega, by go_num, rfl, HO2.out, hB2⟩
          case measure => simp [intOf]; omega
        · have hq2 : (hi.toList == []) = false := by
            rw [beq_eq_false_iff_ne]; intro e; exact h2 (bytes_ext (by rw [← ByteArray.toList_eq]; exact e))
          have hq : ¬ hi.toList = [] := fun e => h2 (bytes_ext (by rw [← ByteArray.toList_eq]; exact e))
          have hq3 : hi.toList.isEmpty = false := by rw [Bool.eq_false_iff]; intro e; exact hq (List.isEmpty_iff.1 e)
          have hz : decide (hi.size = 0) = false := decide_eq_false (fun e => h2 ((empty_iff hi).1 e))
          cases h3 : Op.bytesLess l[k].1.toList hi.toList
          · have HIN : Hid (inB lo hi l[k].1 = false) := by show _ = _; unfold inB; rw [show ltB l[k].1 lo = false from h1, hz, show ltB l[k].1 hi = false from h3]; rfl
            clear hz h2
            have HF : Hid (between lo hi (l.take (k + 1)) = between lo hi (l.take k)) := by
              show List.filter _ _ = List.filter _ _
              rw [hst, HIN.out]; simp
            clear hst HIN
            generalize l[k] = p at *
            go_wp2_with fail
            refine (i_key p _).mono ?_
            rintro e w3 ⟨rfl, hw3⟩
            have hX3 : Below (wr.alloc (.cells #[.string p.1, .string p.2] 33)).heap.size (wr.alloc (.cells #[.string p.1, .string p.2] 33)) w3 := by rw [hw3]; exact (Below.refl _ _).alloc (Nat.le_refl _) _
            have hXB : Below wr.heap.size wr w3 := ((Below.refl _ _).alloc (Nat.le_refl _) _).trans (hX3.mono (le_alloc _ _ (Nat.le_refl _)))
            have hB3 : Below w.heap.size w w3 := hB.trans (hXB.mono hB.size)
            have hO3 : OwnP w3 w.heap.size g n cp (between lo hi (l.take k)) := hO.below hXB
            obtain ⟨cb0, cb1⟩ := box_cell wr w3 p.1 p.2 hX3
            clear hw3 hO hB hXB c1 c2
            go_wp2_with fail
            refine (i_key p _).mono ?_
            rintro e w4 ⟨rfl, hw4⟩
            have hXB : Below w3.heap.size w3 w4 := by rw [hw4]; exact (Below.refl _ _).alloc (Nat.le_refl _) _
            have hB4 : Below w.heap.size w w4 := hB3.trans (hXB.mono hB3.size)
            have hO4 : OwnP w4 w.heap.size g n cp (between lo hi (l.take k)) := hO3.below hXB
            obtain ⟨cc0, cc1⟩ := box_cell wr w4 p.1 p.2 (hX3.trans (hXB.mono hX3.size))
            clear hw4 hO3 hB3 hXB cb0 cb1
            go_wp2_with (at_builtin; fail)
            go_roundw
            case rel => exact ⟨k + 1, g, n, cp, by omega, by omega, by go_num, rfl, by rw [HF.out]; exact hO4, hB4⟩
            case measure => simp [intOf]; omega
          · have HIN : Hid (inB lo hi l[k].1 = true) := by show _ = _; unfold inB; rw [show ltB l[k].1 lo = false from h1, hz, show ltB l[k].1 hi = true from h3]; rfl
            clear hz h2
            have HF : Hid (between lo hi (l.take (k + 1)) = between lo hi (l.take k) ++ [l[k]]) := by
              show List.filter _ _ = List.filter _ _ ++ _
              rw [hst, HIN.out]; simp
            have hc3 : n + 1 ≤ maxLen := by unfold maxLen; omega
            have hc4 : (n + 1) * 32 ≤ 140737488355328 := by omega
            clear hst HIN
            generalize l[k] = p at *
            go_wp2_with fail
            refine (i_key p _).mono ?_
            rintro e w3 ⟨rfl, hw3⟩
            have hX3 : Below (wr.alloc (.cells #[.string p.1, .string p.2] 33)).heap.size (wr.alloc (.cells #[.string p.1, .string p.2] 33)) w3 := by rw [hw3]; exact (Below.refl _ _).alloc (Nat.le_refl _) _
            have hXB : Below wr.heap.size wr w3 := ((Below.refl _ _).alloc (Nat.le_refl _) _).trans (hX3.mono (le_alloc _ _ (Nat.le_refl _)))
            have hB3 : Below w.heap.size w w3 := hB.trans (hXB.mono hB.size)
            have hO3 : OwnP w3 w.heap.size g n cp (between lo hi (l.take k)) := hO.below hXB
            obtain ⟨cb0, cb1⟩ := box_cell wr w3 p.1 p.2 hX3
            clear hw3 hO hB hXB c1 c2
            go_wp2_with fail
            refine (i_key p _).mono ?_
            rintro e w4 ⟨rfl, hw4⟩
            have hXB : Below w3.heap.size w3 w4 := by rw [hw4]; exact (Below.refl _ _).alloc (Nat.le_refl _) _
            have hB4 : Below w.heap.size w w4 := hB3.trans (hXB.mono hB3.size)
            have hO4 : OwnP w4 w.heap.size g n cp (between lo hi (l.take k)) := hO3.below hXB
            obtain ⟨cc0, cc1⟩ := box_cell wr w4 p.1 p.2 (hX3.trans (hXB.mono hX3.size))
            clear hw4 hO3 hB3 hXB cb0 cb1
            have hszW : w.heap.size ≤ w4.heap.size := hB4.size
            go_wp2_with (at_builtin; refine wpList_append_own _ rfl (.tmp 33) (.tmp 35) 57 rfl w.heap.size 33 i0 (.agg #[.string ⟨#[]⟩, .string ⟨#[]⟩]) 2 32 Try.underlying57 hif hz0 hz1 hz2 rfl (by decide) _ _ _ rfl (hO4.2.2.alloc _) ⟨w4.heap.size, 0, none⟩ 1 1 (pairVals [p]) rfl rfl (one_pair_cells _ _ _) (pairVals_oneCell _) hc3 hc4 (le_alloc _ _ hszW) ?_)
            intro v2 w2 hown hgrow hnn
            obtain ⟨g2, cp2, hv, hO2⟩ := ownP_app hO4.1 hO4.2.1 hpk hnn hown
            subst hv
            have hB2 : Below w.heap.size w w2 := (hB4.alloc hszW _).grown hgrow (le_alloc _ _ hszW) (fun k e => by simp [Value.ownBlock] at e; have := hO4.lt; omega)
            rw [← HF.out] at hO2
            have HO2 := Hid.mk' hO2
            clear hown hgrow hnn hO2 hO4 hB4
            go_wp2_with (at_builtin; fail)
            go_roundw
            case rel => exact ⟨k + 1, g2, n + 1, cp2, by omega, by omega, by go_num, rfl, HO2.out, hB2⟩
            case measure => simp [intOf]; omega
      · have HIN : Hid (inB lo hi l[k].1 = false) := by show _ = _; unfold inB; rw [show ltB l[k].1 lo = true from h1]; rfl
        have HF : Hid (between lo hi (l.take (k + 1)) = between lo hi (l.take k)) := by
          show List.filter _ _ = List.filter _ _
          rw [hst, HIN.out]; simp
        clear hst HIN
        generalize l[k] = p at *
        go_wp2_with fail
        refine (i_key p _).mono ?_
        rintro e w3 ⟨rfl, hw3⟩
        have hX3 : Below (wr.alloc (.cells #[.string p.1, .string p.2] 33)).heap.size (wr.alloc (.cells #[.string p.1, .string p.2] 33)) w3 := by rw [hw3]; exact (Below.refl _ _).alloc (Nat.le_refl _) _
        have hXB : Below wr.heap.size wr w3 := ((Below.refl _ _).alloc (Nat.le_refl _) _).trans (hX3.mono (le_alloc _ _ (Nat.le_refl _)))
        have hB3 : Below w.heap.size w w3 := hB.trans (hXB.mono hB.size)
        have hO3 : OwnP w3 w.heap.size g n cp (between lo hi (l.take k)) := hO.below hXB
        obtain ⟨cb0, cb1⟩ := box_cell wr w3 p.1 p.2 hX3
        clear hw3 hO hB hXB c1 c2
        go_wp2_with (at_builtin; fail)
        go_roundw
        case rel => exact ⟨k + 1, g, n, cp, by omega, by omega, by go_num, rfl, by rw [HF.out]; exact hO3, hB3⟩
        case measure => simp [intOf]; omega
    · have HE : Hid (l.take k = l) := List.take_of_length_le (by omega)
      go_wp2_with (at_builtin; fail)
      go_ret
      rw [HE.out] at hO
      exact ⟨g, n, cp, rfl, hO, hB⟩

set_option maxHeartbeats 1000000 in
theorem impl_between (b off len cap : Nat) (l : List Pr) (lo hi : ByteArray) (w : World) (h : SlP w (some ⟨b, off, none⟩) len l) (hcap : len ≤ cap) (hsz : len ≤ 1099511627776) :
    Calls Try.prog 29 #[.slice (some ⟨b, off, none⟩) len cap, .string lo, .string hi] w fun e w' =>
      ∃ g' n' cap', e = .returned (.slice (some ⟨g', 0, none⟩) n' cap') ∧ OwnP w' w.heap.size g' n' cap' (between lo hi l) ∧ Below w.heap.size w w' := by
  have hl := h.1
  subst hl
  have HW := Hid.mk' (i_between b off cap l lo hi w h hsz)
  go_enter Try.func29, Try.ntmps29
  go_wp2_with fail
  refine HW.out.mono ?_
  rintro e w2 ⟨g, n, cp, rfl, hO, hB⟩
  have HO := Hid.mk' hO
  clear hO
  go_wp2_with fail
  go_ret
  exact ⟨g, n, cp, rfl, HO.out, hB⟩

end Go.Proofs.Ytblgkcgmnmligaa.pairs
