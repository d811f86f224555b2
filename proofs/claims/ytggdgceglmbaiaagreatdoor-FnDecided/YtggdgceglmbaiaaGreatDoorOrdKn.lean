/- The program's Apply where the pairs are nil: a shard that is new has none. -/
import Derived.Test.YtggdgceglmbaiaaGreatDoorBund9ak
import Derived.Laws.AppendOwnNone
namespace Go.Proofs.YtggdgceglmbaiaaGreatDoor.ords
open Go Go.RowKit Go.Proofs.YtggdgceglmbaiaaGreatDoor.base Go.Proofs.YtggdgceglmbaiaaGreatDoor.pairs
set_option linter.unusedVariables false
set_option linter.unusedSimpArgs false

set_option maxRecDepth 100000 in
set_option maxHeartbeats 4000000 in
theorem impl_apply_nil (b2 off2 len2 cap2 : Nat) (l : List Od) (w : World) (h2 : SlO w (some ⟨b2, off2, none⟩) len2 l) (hsz : len2 ≤ 1099511627776) :
    Calls Tryz.prog 11 #[.slice none 0 0, .slice (some ⟨b2, off2, none⟩) len2 cap2] w fun e w' =>
      ∃ g' n' cap', e = .returned (.slice (some ⟨g', 0, none⟩) n' cap') ∧ OwnP w' w.heap.size g' n' cap' (applyAll [] l) ∧ Below w.heap.size w w' := by
  obtain ⟨i0, hif, hz0, hz1, hz2⟩ := info_parts infoP
  have hl2 := h2.1
  have hsm2 := h2.2.2.1
  subst hl2
  have hB1 : Below w.heap.size w (w.alloc (.cells #[] 61)) := (Below.refl _ _).alloc (Nat.le_refl _) _
  have hO1 := ownP_made w w.heap.size (Nat.le_refl _)
  have hown0 := hO1.2.2
  go_enter Tryz.func11, Tryz.ntmps11
  go_wp2_with (at_builtin; refine wpList_append_own_none rfl (.tmp 8) (.tmp 9) 25 rfl w.heap.size 61 i0 2 Tryz.underlying25 hif _ _ _ rfl hown0 rfl ?_)
  clear hown0
  go_wp2_with (at_builtin; fail)
  go_loopw [5, 13] (fun v i wr => ∃ (k g n cp : Nat), k ≤ l.length ∧ n ≤ k ∧ i = .int .i64 (k : Int) ∧ v = .slice (some ⟨g, 0, none⟩) n cp ∧ OwnP wr w.heap.size g n cp (applyAll [] (l.take k)) ∧ Below w.heap.size w wr) (fun _ i _ => l.length - (intOf i).toNat)
  case atStart => exact ⟨0, w.heap.size, 0, 0, Nat.zero_le _, by omega, rfl, rfl, hO1, hB1⟩
  case round =>
    clear hO1 hB1
    obtain ⟨k, g, n, cp, hk, hn, rfl, rfl, hO, hB⟩ := hrel
    by_cases hlt : k < l.length
    · obtain ⟨c0, c1, c2⟩ := (h2.below hB).cells k hlt
      have hpk := hsm2 _ (List.getElem_mem hlt)
      have hki : (k : Int) < (l.length : Int) := by omega
      have HU := Hid.mk' (apply_take [] l k hlt)
      have hpl := apply1_length (applyAll [] (l.take k)) l[k]
      have hcs := hO.cases
      have hul := hO.1
      have hBA : Below w.heap.size w (wr.alloc (.cells #[.int .i64 l[k].1, .string l[k].2.1, .string l[k].2.2] 65)) := hB.alloc hB.size _
      have hOA : OwnP (wr.alloc (.cells #[.int .i64 l[k].1, .string l[k].2.1, .string l[k].2.2] 65)) w.heap.size g n cp (applyAll [] (l.take k)) := hO.below ((Below.refl _ _).alloc (Nat.le_refl _) _)
      generalize l[k] = p at *
      generalize applyAll [] (l.take k) = u at *
      obtain ⟨z, key, val⟩ := p
      simp only [] at c0 c1 c2 hpk hBA hOA
      by_cases hz : z = 1
      · subst hz
        have HU2 : Hid (applyAll [] (l.take (k + 1)) = putKey key val u) := by show _ = _; rw [HU.out]; rfl
        have hpl2 := (putKey_length key val u).1
        have HP := Hid.mk' (impl_putKey g 0 n cp u key val _ hOA.sl hcs.1 (by omega) hpk.2.1 hpk.2.2)
        clear HU hpl hOA hO hB
        go_wp2_with (at_builtin; fail)
        refine HP.out.mono ?_
        rintro e w5 ⟨g5, n5, cp5, rfl, hO5, hb5⟩
        have hB5 : Below w.heap.size w w5 := hBA.trans (hb5.mono hBA.size)
        have hO5' := hO5.mono (base' := w.heap.size) hBA.size
        rw [← HU2.out] at hO5'
        have hn5 : n5 ≤ k + 1 := by have := hO5.1; omega
        have HO5 := Hid.mk' hO5'
        clear hb5 hO5 hO5' hBA c0 c1 c2 HP
        go_wp2_with (at_builtin; fail)
        go_roundw
        case rel => exact ⟨k + 1, g5, n5, cp5, by omega, hn5, by go_num, rfl, HO5.out, hB5⟩
        case measure => simp [intOf]; omega
      · have hb1 : (z == 1) = false := beq_eq_false_iff_ne.2 hz
        by_cases hz2 : z = 2
        · subst hz2
          have HU2 : Hid (applyAll [] (l.take (k + 1)) = delKey key u) := by show _ = _; rw [HU.out]; rfl
          have hpl2 : (delKey key u).length ≤ u.length := List.length_filter_le _ _
          have HP := Hid.mk' (impl_delKey g 0 n cp u key _ hOA.sl hcs.1 (by omega) hpk.2.1)
          clear HU hpl hz hOA hO hB
          go_wp2_with (at_builtin; fail)
          refine HP.out.mono ?_
          rintro e w5 ⟨g5, n5, cp5, rfl, hO5, hb5⟩
          have hB5 : Below w.heap.size w w5 := hBA.trans (hb5.mono hBA.size)
          have hO5' := hO5.mono (base' := w.heap.size) hBA.size
          rw [← HU2.out] at hO5'
          have hn5 : n5 ≤ k + 1 := by have := hO5.1; omega
          have HO5 := Hid.mk' hO5'
          clear hb5 hO5 hO5' hBA c0 c1 c2 HP
          go_wp2_with (at_builtin; fail)
          go_roundw
          case rel => exact ⟨k + 1, g5, n5, cp5, by omega, hn5, by go_num, rfl, HO5.out, hB5⟩
          case measure => simp [intOf]; omega
        · have hb2 : (z == 2) = false := beq_eq_false_iff_ne.2 hz2
          have HU2 : Hid (applyAll [] (l.take (k + 1)) = u) := by show _ = _; rw [HU.out]; unfold apply1; rw [if_neg hz, if_neg hz2]
          clear HU hpl hz hz2 hO hB
          go_wp2_with (at_builtin; fail)
          go_roundw
          case rel => exact ⟨k + 1, g, n, cp, by omega, by omega, by go_num, rfl, by rw [HU2.out]; exact hOA, hBA⟩
          case measure => simp [intOf]; omega
    · have HE : Hid (l.take k = l) := List.take_of_length_le (by omega)
      go_wp2_with (at_builtin; fail)
      go_ret
      rw [HE.out] at hO
      exact ⟨g, n, cp, rfl, hO, hB⟩

end Go.Proofs.YtggdgceglmbaiaaGreatDoor.ords
