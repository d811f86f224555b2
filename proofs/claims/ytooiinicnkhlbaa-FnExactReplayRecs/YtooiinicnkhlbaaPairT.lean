/- The specification's lists of pairs. -/
import Derived.Test.YtooiinicnkhlbaaPairS
namespace Go.Proofs.Ytooiinicnkhlbaa.pairs
open Go Go.RowKit Go.Proofs.Ytooiinicnkhlbaa.base
set_option linter.unusedVariables false
set_option linter.unusedSimpArgs false

theorem take_snocP (l : List Pr) (k : Nat) (h : k < l.length) : l.take (k + 1) = l.take k ++ [l[k]] := List.take_succ_eq_append_getElem h
theorem filter_snoc (f : Pr → Bool) (l : List Pr) (k : Nat) (h : k < l.length) : (l.take (k + 1)).filter f = (l.take k).filter f ++ if f l[k] then [l[k]] else [] := by
  rw [take_snocP l k h, List.filter_append]
  cases hf : f l[k] <;> simp [List.filter_cons, hf]
theorem filter_small {f : Pr → Bool} {l : List Pr} (h : ∀ p ∈ l, small p) : ∀ p ∈ l.filter f, small p := fun p hp => h p (List.mem_filter.1 hp).1
theorem take_small {l : List Pr} (h : ∀ p ∈ l, small p) (k : Nat) : ∀ p ∈ l.take k, small p := fun p hp => h p (List.mem_of_mem_take hp)
theorem one_pair_cells (w : World) (p : Pr) (t : TypeId) : ∀ j u, (pairVals [p])[j]? = some u → (w.alloc (.cells #[.string p.1, .string p.2] t)).cell? ((⟨w.heap.size, 0, none⟩ : Addr).add j) = some u :=
  cells_two w (.string p.1) (.string p.2) t
/-- a pair more behind a row -/
theorem ownP_app {w' : World} {base n : Nat} {v' : Value} {l : List Pr} {p : Pr} (hl : l.length = n) (hs : ∀ q ∈ l, small q) (hp : small p) (h0 : ¬ v' = .slice none 0 0)
    (h : w'.ownsRow base 70 2 v' (n + 1) (pairVals l ++ pairVals [p])) : ∃ g' cap', v' = .slice (some ⟨g', 0, none⟩) (n + 1) cap' ∧ OwnP w' base g' (n + 1) cap' (l ++ [p]) := by
  rw [← pairVals_append] at h
  refine ownP_val (by simp; omega) ?_ h0 h
  intro q hq
  rcases List.mem_append.1 hq with h1 | h1
  · exact hs q h1
  · simp at h1; subst h1; exact hp

set_option maxRecDepth 100000 in
set_option maxHeartbeats 2000000 in
theorem spec_delKey (b off len cap : Nat) (l : List Pr) (key : ByteArray) (w : World) (h : SlP w (some ⟨b, off, none⟩) len l) (hsz : len ≤ 1099511627776) :
    Calls Try.prog 87 #[.slice (some ⟨b, off, none⟩) len cap, .string key] w fun e w' =>
      ∃ g' n' cap', e = .returned (.slice (some ⟨g', 0, none⟩) n' cap') ∧ OwnP w' w.heap.size g' n' cap' (delKey key l) ∧ Below w.heap.size w w' := by
  obtain ⟨i0, hi, hz0, hz1, hz2⟩ := info_parts infoP
  have hl := h.1
  have hsm := h.2.2.1
  subst hl
  go_enter Try.func87, Try.ntmps87
  go_wp2_with (at_builtin; fail)
  go_loopw [5, 6] (fun v i wr => ∃ (k g n cp : Nat), k ≤ l.length ∧ n ≤ k ∧ i = .int .i64 (k : Int) ∧ v = .slice (some ⟨g, 0, none⟩) n cp ∧ OwnP wr w.heap.size g n cp (delKey key (l.take k)) ∧ Below w.heap.size w wr) (fun _ i _ => l.length - (intOf i).toNat)
  case atStart => exact ⟨0, w.heap.size, 0, 0, Nat.zero_le _, Nat.le_refl _, rfl, rfl, ownP_made w _ (Nat.le_refl _), (Below.refl _ _).alloc (Nat.le_refl _) _⟩
  case round =>
    obtain ⟨k, g, n, cp, hk, hnk, rfl, rfl, hO, hB⟩ := hrel
    have hbw : w.heap.size ≤ wr.heap.size := hB.size
    by_cases hlt : k < l.length
    · obtain ⟨c1, c2⟩ := (h.below hB).cells k hlt
      have hst := filter_snoc (fun p => decide (p.1 ≠ key)) l k hlt
      have hpk := hsm _ (List.getElem_mem hlt)
      have hki : (k : Int) < (l.length : Int) := by omega
      by_cases he : l[k].1 = key
      · have HF : Hid (delKey key (l.take (k + 1)) = delKey key (l.take k)) := by
          show List.filter _ _ = List.filter _ _
          rw [hst]; simp [he]
        rw [he] at c1
        clear hst
        go_wp2_with (at_builtin; fail)
        go_roundw
        case rel => exact ⟨k + 1, g, n, cp, by omega, by omega, by go_num, rfl, by rw [HF.out]; exact hO, hB⟩
        case measure => simp [intOf]; omega
      · have HF : Hid (delKey key (l.take (k + 1)) = delKey key (l.take k) ++ [l[k]]) := by
          show List.filter _ _ = List.filter _ _ ++ _
          rw [hst]; simp [he]
        have hq := str_ne he
        have hc3 : n + 1 ≤ maxLen := by unfold maxLen; omega
        have hc4 : (n + 1) * 32 ≤ 140737488355328 := by omega
        generalize l[k] = p at *
        clear hst he
        go_wp2_with (at_builtin; refine wpList_append_own _ rfl (.tmp 21) (.tmp 26) 26 rfl w.heap.size 70 i0 (.agg #[.string ⟨#[]⟩, .string ⟨#[]⟩]) 2 32 Try.underlying26 hi hz0 hz1 hz2 rfl (by decide) _ _ _ rfl (hO.2.2.alloc _) ⟨wr.heap.size, 0, none⟩ 1 1 (pairVals [p]) rfl rfl (one_pair_cells _ _ _) (pairVals_oneCell _) hc3 hc4 (le_alloc _ _ hbw) ?_)
        intro v2 w2 hown hgrow hnn
        obtain ⟨g2, cp2, hv, hO2⟩ := ownP_app hO.1 hO.2.1 hpk hnn hown
        subst hv
        have hB2 : Below w.heap.size w w2 := (hB.alloc hbw _).grown hgrow (le_alloc _ _ hbw) (fun k e => by simp [Value.ownBlock] at e; have := hO.lt; omega)
        rw [← HF.out] at hO2
        have HO2 := Hid.mk' hO2
        clear hown hgrow hnn hO2 hO hB
        go_wp2_with (at_builtin; fail)
        go_roundw
        case rel => exact ⟨k + 1, g2, n + 1, cp2, by omega, by omega, by go_num, rfl, HO2.out, hB2⟩
        case measure => simp [intOf]; omega
    · have HE : Hid (l.take k = l) := List.take_of_length_le (by omega)
      go_wp2_with (at_builtin; fail)
      go_ret
      rw [HE.out] at hO
      exact ⟨g, n, cp, rfl, hO, hB⟩


end Go.Proofs.Ytooiinicnkhlbaa.pairs
