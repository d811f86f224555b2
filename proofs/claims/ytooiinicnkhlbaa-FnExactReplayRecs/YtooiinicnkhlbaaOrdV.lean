/- The specification's orders: what is done, and those of a shard. -/
import Derived.Test.YtooiinicnkhlbaaOrdU
namespace Go.Proofs.Ytooiinicnkhlbaa.ords
open Go Go.RowKit Go.Proofs.Ytooiinicnkhlbaa.base Go.Proofs.Ytooiinicnkhlbaa.pairs
set_option linter.unusedVariables false
set_option linter.unusedSimpArgs false

theorem apply1_length (m : List Pr) (o : Od) : (apply1 m o).length ≤ m.length + 1 := by
  unfold apply1
  split
  · exact (putKey_length _ _ _).1
  · split
    · exact Nat.le_trans (List.length_filter_le _ _) (by omega)
    · omega
set_option maxRecDepth 100000 in
set_option maxHeartbeats 2000000 in
theorem spec_apply (b off len cap : Nat) (m : List Pr) (a2 : Option Addr) (len2 cap2 : Nat) (l : List Od) (w : World) (h : SlP w (some ⟨b, off, none⟩) len m) (h2 : SlO w a2 len2 l) (hsz : len + len2 ≤ 1099511627776) :
    Calls Try.prog 66 #[.slice (some ⟨b, off, none⟩) len cap, .slice a2 len2 cap2] w fun e w' =>
      ∃ g' n' cap', e = .returned (.slice (some ⟨g', 0, none⟩) n' cap') ∧ OwnP w' w.heap.size g' n' cap' (applyAll m l) ∧ Below w.heap.size w w' := by
  obtain ⟨i0, hif, hz0, hz1, hz2⟩ := info_parts infoP
  have hl := h.1
  have hsm := h.2.2.1
  have hl2 := h2.1
  have hsm2 := h2.2.2.1
  subst hl hl2
  have hba : Below w.heap.size w (w.alloc (.cells #[] 70)) := (Below.refl _ _).alloc (Nat.le_refl _) _
  have HC := Hid.mk' (cells_pairs (h.below hba).cells)
  have hn0 := pairVals_length m
  have hm1 : 0 + m.length ≤ maxLen := by unfold maxLen; omega
  have hm2 : (0 + m.length) * 32 ≤ 140737488355328 := by omega
  have hown0 := (ownP_made w w.heap.size (Nat.le_refl _)).2.2
  go_enter Try.func66, Try.ntmps66
  go_wp2_with (at_builtin; refine wpList_append_own _ rfl (.tmp 7) (.tmp 8) 26 rfl w.heap.size 70 i0 (.agg #[.string ⟨#[]⟩, .string ⟨#[]⟩]) 2 32 Try.underlying26 hif hz0 hz1 hz2 rfl (by decide) _ _ _ rfl hown0 ⟨b, off, none⟩ m.length cap (pairVals m) rfl hn0 HC.out (pairVals_oneCell _) hm1 hm2 (le_alloc _ _ (Nat.le_refl _)) ?_)
  intro v1 w1 hown hgrow hnn
  have hnn' : ¬ v1 = .slice none 0 0 := by simpa using hnn
  obtain ⟨g1, cap1, hv, hO1⟩ := ownP_val rfl hsm hnn' (by simpa [pairVals] using hown)
  subst hv
  have hB1 : Below w.heap.size w w1 := hba.grown hgrow (le_alloc _ _ (Nat.le_refl _)) (fun k e => by simp [Value.ownBlock] at e; omega)
  clear hown hgrow hnn hnn' hown0 HC hn0 hm1 hm2 hba
  go_wp2_with (at_builtin; fail)
  go_loopw [5, 6] (fun v i wr => ∃ (k g n cp : Nat), k ≤ l.length ∧ n ≤ m.length + k ∧ i = .int .i64 (k : Int) ∧ v = .slice (some ⟨g, 0, none⟩) n cp ∧ OwnP wr w.heap.size g n cp (applyAll m (l.take k)) ∧ Below w.heap.size w wr) (fun _ i _ => l.length - (intOf i).toNat)
  case atStart => exact ⟨0, g1, _, cap1, Nat.zero_le _, by omega, rfl, rfl, hO1, hB1⟩
  case round =>
    clear hO1 hB1
    obtain ⟨k, g, n, cp, hk, hn, rfl, rfl, hO, hB⟩ := hrel
    by_cases hlt : k < l.length
    · obtain ⟨b2, off2, ha, hcl⟩ := h2.2.2.2 (by omega)
      subst ha
      obtain ⟨c0, c1, c2⟩ := (h2.below hB).cells k hlt
      have hpk := hsm2 _ (List.getElem_mem hlt)
      have hki : (k : Int) < (l.length : Int) := by omega
      have HU := Hid.mk' (apply_take m l k hlt)
      have hpl := apply1_length (applyAll m (l.take k)) l[k]
      have hOd : OwnP wr.drew w.heap.size g n cp (applyAll m (l.take k)) := hO
      have hcs := hO.cases
      have hul := hO.1
      generalize l[k] = p at *
      generalize applyAll m (l.take k) = u at *
      obtain ⟨z, key, val⟩ := p
      simp only [] at c0 c1 c2 hpk
      clear hcl
      by_cases hz : z = 1
      · subst hz
        have HU2 : Hid (applyAll m (l.take (k + 1)) = putKey key val u) := by show _ = _; rw [HU.out]; rfl
        have hpl2 := (putKey_length key val u).1
        clear HU hpl
        go_wp2_with (at_builtin; fail)
        go_region_held3 (fun w' => w'.cell? ⟨b2, off2 + k * 3 + 1, none⟩ = some (.string key) ∧ w'.cell? ⟨b2, off2 + k * 3 + 2, none⟩ = some (.string val)) (first | (exact keepB2 hb5 (by assumption)) | (go_keep)) (first | (go_at_call 86; refine (spec_putKey g 0 n cp u key val _ hOd.sl hcs.1 (by omega) hpk.2.1 hpk.2.2).mono ?_; rintro e w5 ⟨g5, n5, cp5, rfl, hO5, hb5⟩))
        all_goals
          have hB5 : Below w.heap.size w w5 := hB.drew.trans (hb5.mono hB.size)
          have hO5' := hO5.mono (base' := w.heap.size) hB.size
          rw [← HU2.out] at hO5'
          have hn5 : n5 ≤ m.length + (k + 1) := by have := hO5.1; omega
          have HO5 := Hid.mk' hO5'
          clear hb5 hO5 hO5' hO hOd hB c0 c1 c2
          go_wp2_with (at_builtin; fail)
          go_roundw
          case rel => exact ⟨k + 1, g5, n5, cp5, by omega, hn5, by go_num, rfl, HO5.out, hB5⟩
          case measure => simp [intOf]; omega
      · have hb1 : (z == 1) = false := beq_eq_false_iff_ne.2 hz
        by_cases hz2 : z = 2
        · subst hz2
          have HU2 : Hid (applyAll m (l.take (k + 1)) = delKey key u) := by show _ = _; rw [HU.out]; rfl
          have hpl2 : (delKey key u).length ≤ u.length := List.length_filter_le _ _
          clear HU hpl hz
          go_wp2_with (at_builtin; fail)
          refine (spec_delKey g 0 n cp u key _ hO.sl (by omega)).mono ?_
          rintro e w5 ⟨g5, n5, cp5, rfl, hO5, hb5⟩
          have hB5 : Below w.heap.size w w5 := hB.trans (hb5.mono hB.size)
          have hO5' := hO5.mono (base' := w.heap.size) hB.size
          rw [← HU2.out] at hO5'
          have hn5 : n5 ≤ m.length + (k + 1) := by have := hO5.1; omega
          have HO5 := Hid.mk' hO5'
          clear hb5 hO5 hO5' hO hOd hB c0 c1 c2
          go_wp2_with (at_builtin; fail)
          go_roundw
          case rel => exact ⟨k + 1, g5, n5, cp5, by omega, hn5, by go_num, rfl, HO5.out, hB5⟩
          case measure => simp [intOf]; omega
        · have hb2 : (z == 2) = false := beq_eq_false_iff_ne.2 hz2
          have HU2 : Hid (applyAll m (l.take (k + 1)) = u) := by show _ = _; rw [HU.out]; unfold apply1; rw [if_neg hz, if_neg hz2]
          clear HU hpl hz hz2
          go_wp2_with (at_builtin; fail)
          go_roundw
          case rel => exact ⟨k + 1, g, n, cp, by omega, by omega, by go_num, rfl, by rw [HU2.out]; exact hO, hB⟩
          case measure => simp [intOf]; omega
    · have HE : Hid (l.take k = l) := List.take_of_length_le (by omega)
      go_wp2_with (at_builtin; fail)
      go_ret
      rw [HE.out] at hO
      exact ⟨g, n, cp, rfl, hO, hB⟩

theorem take_snocO' (l : List Od) (k : Nat) (h : k < l.length) : l.take (k + 1) = l.take k ++ [l[k]] := List.take_succ_eq_append_getElem h
theorem filter_snocO (f : Od → Bool) (l : List Od) (k : Nat) (h : k < l.length) : (l.take (k + 1)).filter f = (l.take k).filter f ++ if f l[k] then [l[k]] else [] := by
  rw [take_snocO' l k h, List.filter_append]
  cases hf : f l[k] <;> simp [List.filter_cons, hf]
theorem cells_three (w : World) (v1 v2 v3 : Value) (t : TypeId) : ∀ j u, [v1, v2, v3][j]? = some u → (w.alloc (.cells #[v1, v2, v3] t)).cell? ((⟨w.heap.size, 0, none⟩ : Addr).add j) = some u := by
  intro j u hj
  have hl : j < 3 := by have := (List.getElem?_eq_some_iff.1 hj).1; simpa using this
  rw [Addr.add_lit]
  match j, hl with
  | 0, _ => simp at hj; subst hj; simp [go_sem]
  | 1, _ => simp at hj; subst hj; simp [go_sem]
  | 2, _ => simp at hj; subst hj; simp [go_sem]
theorem one_ord_cells (w : World) (p : Od) (t : TypeId) : ∀ j u, (ordVals [p])[j]? = some u → (w.alloc (.cells #[.int .i64 p.1, .string p.2.1, .string p.2.2] t)).cell? ((⟨w.heap.size, 0, none⟩ : Addr).add j) = some u :=
  cells_three w (.int .i64 p.1) (.string p.2.1) (.string p.2.2) t
/-- an order more behind a row -/
theorem ownO_app {w' : World} {base n : Nat} {v' : Value} {l : List Od} {p : Od} (hl : l.length = n) (hs : ∀ q ∈ l, smallO q) (hp : smallO p) (h0 : ¬ v' = .slice none 0 0)
    (h : w'.ownsRow base 95 3 v' (n + 1) (ordVals l ++ ordVals [p])) : ∃ g' cap', v' = .slice (some ⟨g', 0, none⟩) (n + 1) cap' ∧ OwnO w' base g' (n + 1) cap' (l ++ [p]) := by
  rw [← ordVals_append] at h
  refine ownO_val (by simp; omega) ?_ h0 h
  intro q hq
  rcases List.mem_append.1 hq with h1 | h1
  · exact hs q h1
  · simp at h1; subst h1; exact hp

end Go.Proofs.Ytooiinicnkhlbaa.ords
