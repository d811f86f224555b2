/- The program's right pairs, and pairs put into others, whole. -/
import Derived.Test.YtdgolhcekomcmaaBund9rbb
namespace Go.Proofs.Ytdgolhcekomcmaa.pairs
open Go Go.RowKit Go.Proofs.Ytdgolhcekomcmaa.base
set_option linter.unusedVariables false
set_option linter.unusedSimpArgs false

set_option maxRecDepth 100000 in
set_option maxHeartbeats 2000000 in
theorem impl_pairsOk (b off len cap : Nat) (l : List Pr) (w : World) (h : SlP w (some ⟨b, off, none⟩) len l) (hks : ∀ p ∈ l, p.1.size ≤ 1099511627776) :
    Calls Try.prog 15 #[.slice (some ⟨b, off, none⟩) len cap] w fun e w' => e = .returned (.bool (pairsOk l)) ∧ Below w.heap.size w w' := by
  have hl := h.1
  have hm := h.2.1
  have hsm := h.2.2.1
  subst hl
  unfold maxLen at hm
  by_cases h60 : 60 < l.length
  · go_enter Try.func15, Try.ntmps15
    go_wp2_with fail
    go_ret
    exact ⟨ret_bool (by unfold pairsOk; rw [decide_eq_false (by omega : ¬ l.length ≤ 60)]; simp), Below.refl _ _⟩
  · have HP : Hid (pairsOk l = (l.all pairOk && rise l)) := by show _ = _; unfold pairsOk; rw [okFrom_split, decide_eq_true (by omega : l.length ≤ 60)]; simp
    generalize hA : l.all pairOk = A
    have HA := Hid.mk' hA
    clear hA
    go_enter Try.func15, Try.ntmps15
    go_wp2_with fail
    go_loopw [10] (fun i wr => ∃ k : Nat, k ≤ l.length ∧ i = .int .i64 (k : Int) ∧ (l.drop k).all pairOk = A ∧ Below w.heap.size w wr) (fun i _ => l.length - (intOf i).toNat)
    case atStart => exact ⟨0, Nat.zero_le _, rfl, HA.out, Below.refl _ _⟩
    case round =>
      obtain ⟨k, hk, rfl, hr, hB⟩ := hrel
      by_cases hlt : k < l.length
      · obtain ⟨c1, c2⟩ := (h.below hB).cells k hlt
        have hpk := hsm _ (List.getElem_mem hlt)
        have hks' := hks _ (List.getElem_mem hlt)
        have hki : (k : Int) < (l.length : Int) := by omega
        have hst := all_drop l k hlt
        rw [hr] at hst
        have hcall := fun wx => impl_pairOk l[k] wx hpk hks'
        have hBA : Below w.heap.size w (wr.alloc (.cells #[.string l[k].1, .string l[k].2] 75)) := hB.alloc hB.size _
        generalize l[k] = p at *
        cases hP : pairOk p
        all_goals
          rw [hP] at hst hcall
          have HST := Hid.mk' hst
          have HC := Hid.mk' hcall
          clear hst hr hcall hP
          go_wp2_with fail
          refine (HC.out _).mono ?_
          rintro e w3 ⟨rfl, hb3⟩
          have hB3 : Below w.heap.size w w3 := hBA.trans (hb3.mono hBA.size)
          clear hb3 hBA hB c1 c2
          go_wp2_with fail
        · go_ret
          exact ⟨ret_bool (by rw [HP.out, HA.out, HST.out]; rfl), hB3⟩
        · go_roundw
          case rel => exact ⟨k + 1, by omega, by go_num, by rw [HST.out]; simp, hB3⟩
          case measure => simp [intOf]; omega
      · have HF : Hid (A = true) := by show _ = _; rw [← hr, List.drop_eq_nil_of_le (by omega)]; rfl
        have HI := Hid.mk' (i_rises b off cap l wr (h.below hB) (by omega))
        clear hr
        go_wp2_with fail
        refine HI.out.mono ?_
        rintro e w3 ⟨rfl, hb3⟩
        have hB3 : Below w.heap.size w w3 := hB.trans (hb3.mono hB.size)
        clear hb3
        go_wp2_with fail
        go_ret
        exact ⟨ret_bool (by rw [HP.out, HA.out, HF.out]; simp), hB3⟩

end Go.Proofs.Ytdgolhcekomcmaa.pairs
