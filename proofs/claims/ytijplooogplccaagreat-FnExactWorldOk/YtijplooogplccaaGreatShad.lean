/- The specification's putting of keys. A region that draws its order, whose operations only read, but for its last, which waits for all the others: one walk of the text's order serves every order. No function of the program is named here. The specification's right pairs, and pairs put into others. The specification's orders: what is right, what is met. -/
import Derived.Test.YtijplooogplccaaGreatShac
import Derived.Deep.QuietTactic
import Derived.BigQuiet
import Derived.WalkKit
import Derived.WalkSpells
import Derived.WalkLawsBesides
import Derived.Test.YtijplooogplccaaGreatShab
namespace Go.Proofs.YtijplooogplccaaGreat.pairs
open Go Go.RowKit Go.Proofs.YtijplooogplccaaGreat.base
set_option linter.unusedVariables false
set_option linter.unusedSimpArgs false

theorem getKey_none {key : ByteArray} {l : List Pr} (h : getKey key l = none) (k : Nat) (hk : k < l.length) : l[k].1 ≠ key := by
  intro e
  have h2 := getKey_append key (l.take k) (l.drop k)
  rw [List.take_append_drop, h, getKey_drop key l k hk, if_pos e] at h2
  cases h3 : getKey key (l.take k) <;> rw [h3] at h2 <;> cases h2
theorem put_found {key val : ByteArray} {l : List Pr} (k : Nat) (hk : k < l.length) (he : l[k].1 = key) (hn : getKey key (l.take k) = none) : putKey key val l = l.set k (l[k].1, val) := by
  have h2 := getKey_append key (l.take k) (l.drop k)
  rw [List.take_append_drop, hn, getKey_drop key l k hk, if_pos he] at h2
  unfold putKey
  rw [h2, if_pos (by rfl), setFirst_at key val l k hk he hn, he]
theorem put_new {key val : ByteArray} {l : List Pr} (hn : getKey key l = none) : putKey key val l = l.take (below key l) ++ (key, val) :: l.drop (below key l) := by
  unfold putKey; rw [hn]; rfl
theorem take_none (key : ByteArray) (l : List Pr) (k : Nat) (hk : k < l.length) (hn : getKey key (l.take k) = none) (he : l[k].1 ≠ key) : getKey key (l.take (k + 1)) = none := by
  rw [take_snocP l k hk]; exact getKey_snoc_none key _ _ hn he
theorem less_flip {a b : ByteArray} (h : a ≠ b) : Op.bytesLess a.toList b.toList = !Op.bytesLess b.toList a.toList := by
  cases h1 : Op.bytesLess b.toList a.toList
  · cases h2 : Op.bytesLess a.toList b.toList
    · exact absurd (ltB_total (a := a) (b := b) h2 h1) h
    · rfl
  · exact ltB_asymm (a := b) (b := a) h1
theorem cellsP_drop {w : World} {b off : Nat} {l : List Pr} (h : CellsP w b off l) (k : Nat) : CellsP w b (off + k * 2) (l.drop k) := by
  intro i hi
  have hki : k + i < l.length := by simp at hi; omega
  have := h (k + i) hki
  rw [List.getElem_drop, show off + k * 2 + i * 2 = off + (k + i) * 2 by omega]
  exact this
theorem cellsP_take {w : World} {b off : Nat} {l : List Pr} (h : CellsP w b off l) (k : Nat) : CellsP w b off (l.take k) := by
  intro i hi
  rw [List.getElem_take]
  exact h i (by simp at hi; omega)

set_option maxRecDepth 100000 in
set_option maxHeartbeats 2000000 in
theorem spec_putKey (b off len cap : Nat) (l : List Pr) (key val : ByteArray) (w : World) (h : SlP w (some ⟨b, off, none⟩) len l) (hcap : len ≤ cap) (hsz : len ≤ 1099511627776) (hks : key.size ≤ maxLen) (hvs : val.size ≤ maxLen) :
    Calls Tryz.prog 152 #[.slice (some ⟨b, off, none⟩) len cap, .string key, .string val] w fun e w' =>
      ∃ g' n' cap', e = .returned (.slice (some ⟨g', 0, none⟩) n' cap') ∧ OwnP w' w.heap.size g' n' cap' (putKey key val l) ∧ Below w.heap.size w w' := by
  obtain ⟨i0, hif, hz0, hz1, hz2⟩ := info_parts infoP
  have hl := h.1
  have hsm := h.2.2.1
  subst hl
  have hba : Below w.heap.size w (w.alloc (.cells #[] 151)) := (Below.refl _ _).alloc (Nat.le_refl _) _
  have HC := Hid.mk' (cells_pairs (h.below hba).cells)
  have hn0 := pairVals_length l
  have hm1 : 0 + l.length ≤ maxLen := by unfold maxLen; omega
  have hm2 : (0 + l.length) * 32 ≤ 140737488355328 := by omega
  have hown0 := (ownP_made w w.heap.size (Nat.le_refl _)).2.2
  go_enter Tryz.func152, Tryz.ntmps152
  go_wp2_with (at_builtin; refine wpList_append_own _ rfl (.tmp 10) (.tmp 11) 53 rfl w.heap.size 151 i0 (.agg #[.string ⟨#[]⟩, .string ⟨#[]⟩]) 2 32 Tryz.underlying53 hif hz0 hz1 hz2 rfl (by decide) _ _ _ rfl hown0 ⟨b, off, none⟩ l.length cap (pairVals l) rfl hn0 HC.out (pairVals_oneCell _) hm1 hm2 (le_alloc _ _ (Nat.le_refl _)) ?_)
  intro v1 w1 hown hgrow hnn
  have hnn' : ¬ v1 = .slice none 0 0 := by simpa using hnn
  obtain ⟨g1, cap1, hv, hO1⟩ := ownP_val rfl hsm hnn' (by simpa [pairVals] using hown)
  subst hv
  have hB1 : Below w.heap.size w w1 := hba.grown hgrow (le_alloc _ _ (Nat.le_refl _)) (fun k e => by simp [Value.ownBlock] at e; omega)
  clear hown hgrow hnn hnn' hown0 HC hn0 hm1 hm2 hba
  go_wp2_with (at_builtin; fail)
  go_loop [8] (fun i => ∃ k : Nat, k ≤ l.length ∧ i = .int .i64 (k : Int) ∧ getKey key (l.take k) = none) (fun i => l.length - (intOf i).toNat)
  case atStart => exact ⟨0, Nat.zero_le _, rfl, rfl⟩
  case round =>
    obtain ⟨k, hk, rfl, hno⟩ := hrel
    by_cases hlt : k < l.length
    · have c1 := hO1.key k hlt
      have c2 := hO1.val k hlt
      have hki : (k : Int) < (l.length : Int) := by omega
      by_cases he : l[k].1 = key
      · have HF : Hid (putKey key val l = l.set k (l[k].1, val)) := put_found k hlt he hno
        have hfz := hO1.frozen (k * 2 + 1)
        have hR := hO1.setVal k hlt val hvs
        rw [← HF.out] at hR
        have HR := Hid.mk' hR
        rw [he] at c1
        clear hno hR
        go_wp2_with (at_builtin; fail)
        go_ret
        exact ⟨_, _, _, rfl, HR.out.1, hB1.trans (below_grown HR.out.2 hO1.lt.1 hB1.size)⟩
      · have HF : Hid (getKey key (l.take (k + 1)) = none) := take_none key l k hlt hno he
        have hq := str_ne he
        clear hno he
        go_wp2_with (at_builtin; fail)
        go_round
        case rel => exact ⟨k + 1, by omega, by go_num, HF.out⟩
        case measure => simp [intOf]; omega
    · have hnone : getKey key l = none := by rw [List.take_of_length_le (by omega)] at hno; exact hno
      have HP := Hid.mk' (put_new (val := val) hnone)
      have hne := getKey_none hnone
      have hSl := h.below hB1
      obtain ⟨B, hBe⟩ : ∃ B, below key l = B := ⟨_, rfl⟩
      have hBl : B ≤ l.length := by rw [← hBe]; exact below_le key l
      rw [hBe] at HP
      have HB := Hid.mk' hBe
      clear hno hnone hBe
      go_wp2_with (at_builtin; fail)
      go_loop [9] (fun i => ∃ k : Nat, k ≤ l.length ∧ i = .int .i64 (k : Int) ∧ below key (l.drop k) + k = B) (fun i => l.length - (intOf i).toNat)
      case atStart => exact ⟨0, Nat.zero_le _, rfl, HB.out⟩
      case round =>
        obtain ⟨k, hk2, rfl, hr⟩ := hrel
        by_cases hlt2 : k < l.length ∧ Op.bytesLess key.toList (l[k]!).1.toList = false
        · obtain ⟨hlt2, hb⟩ := hlt2
          rw [getElem!_pos l k hlt2] at hb
          have c1 := (hSl.cells k hlt2).1
          have hst := below_drop key l k hlt2
          rw [if_neg (by show ¬ Op.bytesLess _ _ = true; rw [hb]; simp)] at hst
          have HF : Hid (below key (l.drop (k + 1)) + (k + 1) = B) := by show _ = _; omega
          have hq := str_ne (hne k hlt2)
          have hlf := less_flip (hne k hlt2)
          rw [hb] at hlf
          have hki : (k : Int) < (l.length : Int) := by omega
          generalize l[k].1 = kk at *
          clear hr hst hb hne
          go_wp2_with (at_builtin; fail)
          go_round
          case rel => exact ⟨k + 1, by omega, by go_num, HF.out⟩
          case measure => simp [intOf]; omega
        · have HE : Hid (k = B) := by
            show k = B
            by_cases h3 : k < l.length
            · have hst := below_drop key l k h3
              have : Op.bytesLess key.toList l[k].1.toList = true := by
                cases h4 : Op.bytesLess key.toList l[k].1.toList
                · exact absurd ⟨h3, by rw [getElem!_pos l k h3]; exact h4⟩ hlt2
                · rfl
              rw [if_pos (show ltB key l[k].1 = true from this)] at hst
              omega
            · rw [List.drop_eq_nil_of_le (by omega)] at hr
              have : below key [] = 0 := rfl
              omega
          have hcond : k < l.length → ∃ kk, w1.cell? ⟨b, off + k * 2, none⟩ = some (.string kk) ∧ Op.bytesLess kk.toList key.toList = false ∧ (kk.toList == key.toList) = false := by
            intro h3
            refine ⟨l[k].1, (hSl.cells k h3).1, ?_, str_ne (hne k h3)⟩
            rw [less_flip (hne k h3)]
            cases h4 : Op.bytesLess key.toList l[k].1.toList
            · exact absurd ⟨h3, by rw [getElem!_pos l k h3]; exact h4⟩ hlt2
            · rfl
          clear hr hlt2 hne
          by_cases h3 : k < l.length
          · obtain ⟨kk, c1, q1, q2⟩ := hcond h3
            have hki : (k : Int) < (l.length : Int) := by omega
            clear hcond
            have hba2 : Below w1.heap.size w1 (w1.alloc (.cells #[] 151)) := (Below.refl _ _).alloc (Nat.le_refl _) _
            have HC2 := Hid.mk' (cells_pairs (cellsP_take (hSl.below hba2).cells k))
            have hn2 : (pairVals (l.take k)).length = k * 2 := by rw [pairVals_length, List.length_take_of_le hk2]
            have hm3 : 0 + k ≤ maxLen := by unfold maxLen; omega
            have hm4 : (0 + k) * 32 ≤ 140737488355328 := by omega
            have hm5 : k + 1 ≤ maxLen := by unfold maxLen; omega
            have hm6 : (k + 1) * 32 ≤ 140737488355328 := by omega
            have hown2 := (ownP_made w1 w.heap.size hB1.size).2.2
            have hbw1 : w.heap.size ≤ w1.heap.size := hB1.size
            have hkc : (k : Int) ≤ (cap : Int) := by omega
            have hkl : (k : Int) ≤ (l.length : Int) := by omega
            go_wp2_with (at_builtin; refine wpList_append_own _ rfl (.tmp 47) (.tmp 50) 53 rfl w.heap.size 151 i0 (.agg #[.string ⟨#[]⟩, .string ⟨#[]⟩]) 2 32 Tryz.underlying53 hif hz0 hz1 hz2 rfl (by decide) _ _ _ rfl hown2 ⟨b, off, none⟩ k cap (pairVals (l.take k)) rfl hn2 HC2.out (pairVals_oneCell _) hm3 hm4 (le_alloc _ _ hbw1) ?_)
            intro v2 w2 hown hgrow hnn
            have hnn' : ¬ v2 = .slice none 0 0 := by simpa using hnn
            obtain ⟨g2, cap2, hv, hO2⟩ := ownP_val (l := l.take k) (n := k) (List.length_take_of_le hk2) (take_small hsm k) hnn' (by simpa [pairVals] using hown)
            subst hv
            have hBx : Below w.heap.size w1 (w1.alloc (.cells #[] 151)) := (Below.refl _ _).alloc hbw1 _
            have hB2 : Below w.heap.size w1 w2 := hBx.grown hgrow (le_alloc _ _ hbw1) (fun k e => by simp [Value.ownBlock] at e; omega)
            have hB2' : Below w.heap.size w w2 := hB1.trans hB2
            have hbw2 : w.heap.size ≤ w2.heap.size := hB2'.size
            clear hown hgrow hnn hnn' hown2 HC2 hn2 hm3 hm4 hba2 hBx hB2
            go_wp2_with (at_builtin; refine wpList_append_own _ rfl (.tmp 51) (.tmp 55) 53 rfl w.heap.size 151 i0 (.agg #[.string ⟨#[]⟩, .string ⟨#[]⟩]) 2 32 Tryz.underlying53 hif hz0 hz1 hz2 rfl (by decide) _ _ _ rfl (hO2.2.2.alloc _) ⟨w2.heap.size, 0, none⟩ 1 1 (pairVals [(key, val)]) rfl rfl (one_pair_cells _ (key, val) _) (pairVals_oneCell _) hm5 hm6 (le_alloc _ _ hbw2) ?_)
            intro v3 w3 hown hgrow hnn
            obtain ⟨g3, cap3, hv, hO3⟩ := ownP_app hO2.1 hO2.2.1 ⟨hks, hvs⟩ hnn hown
            subst hv
            have hB3 : Below w.heap.size w w3 := (hB2'.alloc hbw2 _).grown hgrow (le_alloc _ _ hbw2) (fun k e => by simp [Value.ownBlock] at e; have := hO2.lt; omega)
            have hbw3 : w.heap.size ≤ w3.heap.size := hB3.size
            have hSl3 := h.below hB3
            have hm7 : k + 1 + (l.length - k) ≤ maxLen := by unfold maxLen; omega
            have hm8 : (k + 1 + (l.length - k)) * 32 ≤ 140737488355328 := by omega
            have hn4 : (pairVals (l.drop k)).length = (l.length - k) * 2 := by rw [pairVals_length, List.length_drop]
            clear hown hgrow hnn hO2 hB2' hm5 hm6
            have hck : ¬ cap = k := by omega
            have HC4 := Hid.mk' (cells_pairs (cellsP_drop hSl3.cells k))
            go_wp2_with (at_builtin; refine wpList_append_own _ rfl (.tmp 57) (.tmp 60) 53 rfl w.heap.size 151 i0 (.agg #[.string ⟨#[]⟩, .string ⟨#[]⟩]) 2 32 Tryz.underlying53 hif hz0 hz1 hz2 rfl (by decide) _ _ _ rfl hO3.2.2 ⟨b, off + k * 2, none⟩ (l.length - k) (cap - k) (pairVals (l.drop k)) rfl hn4 HC4.out (pairVals_oneCell _) hm7 hm8 hbw3 ?_)
            intro v4 w4 hown hgrow hnn
            have hnn' : ¬ v4 = .slice none 0 0 := by simpa using hnn
            rw [← pairVals_append] at hown
            obtain ⟨g4, cap4, hv, hO4⟩ := ownP_val (n := k + 1 + (l.length - k)) (by simp; omega) (fun q hq => by
              rcases List.mem_append.1 hq with h1 | h1
              · exact hO3.2.1 q h1
              · exact hsm q (List.mem_of_mem_drop h1)) hnn' hown
            subst hv
            have hB4 : Below w.heap.size w w4 := hB3.grown hgrow hbw3 (fun k e => by simp [Value.ownBlock] at e; have := hO3.lt; omega)
            have HO4 := Hid.mk' hO4
            clear hown hgrow hnn hnn' hO4
            go_wp2_with (at_builtin; fail)
            go_ret
            refine ⟨g4, _, cap4, rfl, ?_, hB4⟩
            rw [HP.out, ← HE.out]
            have := HO4.out
            rw [List.append_assoc] at this
            exact this
          · clear hcond
            have hkl' : l.length = k := by omega
            have HDR : Hid (l.drop k = []) := List.drop_eq_nil_of_le (by omega)
            have hba2 : Below w1.heap.size w1 (w1.alloc (.cells #[] 151)) := (Below.refl _ _).alloc (Nat.le_refl _) _
            have HC2 := Hid.mk' (cells_pairs (cellsP_take (hSl.below hba2).cells k))
            have hn2 : (pairVals (l.take k)).length = k * 2 := by rw [pairVals_length, List.length_take_of_le hk2]
            have hm3 : 0 + k ≤ maxLen := by unfold maxLen; omega
            have hm4 : (0 + k) * 32 ≤ 140737488355328 := by omega
            have hm5 : k + 1 ≤ maxLen := by unfold maxLen; omega
            have hm6 : (k + 1) * 32 ≤ 140737488355328 := by omega
            have hown2 := (ownP_made w1 w.heap.size hB1.size).2.2
            have hbw1 : w.heap.size ≤ w1.heap.size := hB1.size
            have hkc : (k : Int) ≤ (cap : Int) := by omega
            have hkl : (k : Int) ≤ (l.length : Int) := by omega
            clear hkl'
            go_wp2_with (at_builtin; refine wpList_append_own _ rfl (.tmp 47) (.tmp 50) 53 rfl w.heap.size 151 i0 (.agg #[.string ⟨#[]⟩, .string ⟨#[]⟩]) 2 32 Tryz.underlying53 hif hz0 hz1 hz2 rfl (by decide) _ _ _ rfl hown2 ⟨b, off, none⟩ k cap (pairVals (l.take k)) rfl hn2 HC2.out (pairVals_oneCell _) hm3 hm4 (le_alloc _ _ hbw1) ?_)
            intro v2 w2 hown hgrow hnn
            have hnn' : ¬ v2 = .slice none 0 0 := by simpa using hnn
            obtain ⟨g2, cap2, hv, hO2⟩ := ownP_val (l := l.take k) (n := k) (List.length_take_of_le hk2) (take_small hsm k) hnn' (by simpa [pairVals] using hown)
            subst hv
            have hBx : Below w.heap.size w1 (w1.alloc (.cells #[] 151)) := (Below.refl _ _).alloc hbw1 _
            have hB2 : Below w.heap.size w1 w2 := hBx.grown hgrow (le_alloc _ _ hbw1) (fun k e => by simp [Value.ownBlock] at e; omega)
            have hB2' : Below w.heap.size w w2 := hB1.trans hB2
            have hbw2 : w.heap.size ≤ w2.heap.size := hB2'.size
            clear hown hgrow hnn hnn' hown2 HC2 hn2 hm3 hm4 hba2 hBx hB2
            go_wp2_with (at_builtin; refine wpList_append_own _ rfl (.tmp 51) (.tmp 55) 53 rfl w.heap.size 151 i0 (.agg #[.string ⟨#[]⟩, .string ⟨#[]⟩]) 2 32 Tryz.underlying53 hif hz0 hz1 hz2 rfl (by decide) _ _ _ rfl (hO2.2.2.alloc _) ⟨w2.heap.size, 0, none⟩ 1 1 (pairVals [(key, val)]) rfl rfl (one_pair_cells _ (key, val) _) (pairVals_oneCell _) hm5 hm6 (le_alloc _ _ hbw2) ?_)
            intro v3 w3 hown hgrow hnn
            obtain ⟨g3, cap3, hv, hO3⟩ := ownP_app hO2.1 hO2.2.1 ⟨hks, hvs⟩ hnn hown
            subst hv
            have hB3 : Below w.heap.size w w3 := (hB2'.alloc hbw2 _).grown hgrow (le_alloc _ _ hbw2) (fun k e => by simp [Value.ownBlock] at e; have := hO2.lt; omega)
            have hbw3 : w.heap.size ≤ w3.heap.size := hB3.size
            have hSl3 := h.below hB3
            have hm7 : k + 1 + (l.length - k) ≤ maxLen := by unfold maxLen; omega
            have hm8 : (k + 1 + (l.length - k)) * 32 ≤ 140737488355328 := by omega
            have hn4 : (pairVals (l.drop k)).length = (l.length - k) * 2 := by rw [pairVals_length, List.length_drop]
            clear hown hgrow hnn hO2 hB2' hm5 hm6
            by_cases hck : cap = k
            · have HC4 : Hid (∀ j v, (pairVals (l.drop k))[j]? = some v → w3.cell? ((⟨b, off, none⟩ : Addr).add j) = some v) := by
                show ∀ j v, _ → _
                intro j v hj
                rw [HDR.out] at hj
                simp [pairVals] at hj
              go_wp2_with (at_builtin; refine wpList_append_own _ rfl (.tmp 57) (.tmp 60) 53 rfl w.heap.size 151 i0 (.agg #[.string ⟨#[]⟩, .string ⟨#[]⟩]) 2 32 Tryz.underlying53 hif hz0 hz1 hz2 rfl (by decide) _ _ _ rfl hO3.2.2 ⟨b, off, none⟩ (l.length - k) _ (pairVals (l.drop k)) rfl hn4 HC4.out (pairVals_oneCell _) hm7 hm8 hbw3 ?_)
              intro v4 w4 hown hgrow hnn
              have hnn' : ¬ v4 = .slice none 0 0 := by simpa using hnn
              rw [← pairVals_append] at hown
              obtain ⟨g4, cap4, hv, hO4⟩ := ownP_val (n := k + 1 + (l.length - k)) (by simp; omega) (fun q hq => by
                rcases List.mem_append.1 hq with h1 | h1
                · exact hO3.2.1 q h1
                · exact hsm q (List.mem_of_mem_drop h1)) hnn' hown
              subst hv
              have hB4 : Below w.heap.size w w4 := hB3.grown hgrow hbw3 (fun k e => by simp [Value.ownBlock] at e; have := hO3.lt; omega)
              have HO4 := Hid.mk' hO4
              clear hown hgrow hnn hnn' hO4
              go_wp2_with (at_builtin; fail)
              go_ret
              refine ⟨g4, _, cap4, rfl, ?_, hB4⟩
              rw [HP.out, ← HE.out]
              have := HO4.out
              rw [List.append_assoc] at this
              exact this
            · have HC4 : Hid (∀ j v, (pairVals (l.drop k))[j]? = some v → w3.cell? ((⟨b, off + k * 2, none⟩ : Addr).add j) = some v) := by
                show ∀ j v, _ → _
                intro j v hj
                rw [HDR.out] at hj
                simp [pairVals] at hj
              go_wp2_with (at_builtin; refine wpList_append_own _ rfl (.tmp 57) (.tmp 60) 53 rfl w.heap.size 151 i0 (.agg #[.string ⟨#[]⟩, .string ⟨#[]⟩]) 2 32 Tryz.underlying53 hif hz0 hz1 hz2 rfl (by decide) _ _ _ rfl hO3.2.2 ⟨b, off + k * 2, none⟩ (l.length - k) _ (pairVals (l.drop k)) rfl hn4 HC4.out (pairVals_oneCell _) hm7 hm8 hbw3 ?_)
              intro v4 w4 hown hgrow hnn
              have hnn' : ¬ v4 = .slice none 0 0 := by simpa using hnn
              rw [← pairVals_append] at hown
              obtain ⟨g4, cap4, hv, hO4⟩ := ownP_val (n := k + 1 + (l.length - k)) (by simp; omega) (fun q hq => by
                rcases List.mem_append.1 hq with h1 | h1
                · exact hO3.2.1 q h1
                · exact hsm q (List.mem_of_mem_drop h1)) hnn' hown
              subst hv
              have hB4 : Below w.heap.size w w4 := hB3.grown hgrow hbw3 (fun k e => by simp [Value.ownBlock] at e; have := hO3.lt; omega)
              have HO4 := Hid.mk' hO4
              clear hown hgrow hnn hnn' hO4
              go_wp2_with (at_builtin; fail)
              go_ret
              refine ⟨g4, _, cap4, rfl, ?_, hB4⟩
              rw [HP.out, ← HE.out]
              have := HO4.out
              rw [List.append_assoc] at this
              exact this

end Go.Proofs.YtijplooogplccaaGreat.pairs

namespace Go.Proofs.YtijplooogplccaaGreat.last
open Go Go.RowKit
section
variable {P : Program} {ops : Array Oper} {md : Region.Mode} {C : World → Prop}

def wpAnyZ (P : Program) (md : Region.Mode) (ops : Array Oper) (C : World → Prop) (z : Nat) (Q : Act → Prop) : Nat → Array Bool → Act → Prop
  | 0, listed, a => (Region.ready md ops listed = [z] ∧ Region.ready md ops (listed.setIfInBounds z true) = []) ∧ Q a
  | fuel + 1, listed, a => (z ∉ Region.ready md ops listed ∧ Region.ready md ops listed ≠ []) ∧
    ∀ i ∈ Region.ready md ops listed, qOp P ops C i (wpAnyZ P md ops C z Q fuel (listed.setIfInBounds i true)) a

theorem wpAny_of_z {z : Nat} {Q : Act → Prop} {Q' : Exit → Act → World → Prop} (hQ : ∀ a w, C w → Q a → wpOp P ops Q' z (fun a' w' => Q' .normal a' w') a w) : ∀ (fuel : Nat) (listed : Array Bool) (a : Act) (w : World), C w →
    wpAnyZ P md ops C z Q fuel listed a → wpAny P md ops Q' (fuel + 1) listed a w
  | 0, listed, a, w, hw, h => by
    refine ⟨fun h0 => (by rw [h.1.1] at h0; cases h0), fun i hi => ?_⟩
    rw [h.1.1] at hi
    have : i = z := by simpa using hi
    subst this
    exact wpOp_mono (fun a' w' h' => ⟨h.1.2, h'⟩) (hQ a w hw h.2)
  | fuel + 1, listed, a, w, hw, h =>
    ⟨fun h0 => absurd h0 h.1.2, fun i hi => wpOp_of_qOp hw (fun a' w' hw' => wpAny_of_z hQ fuel _ a' w' hw') (h.2 i hi)⟩

theorem both_ready {i j : Nat} {o : Oper} {listed : Array Bool} (hi : i ∈ Region.ready md ops listed) (hj : j ∈ Region.ready md ops listed) (ho : ops[j]? = some o) :
    ∀ e ∈ o.after, Region.binds md e = true → e.on ≠ i := by
  rintro e he hb rfl
  obtain ⟨_, o', ho', hall⟩ := mem_ready.1 hj
  obtain rfl := Option.some.inj (ho'.symm.trans ho)
  have yes := hall e he hb
  have no := (mem_ready.1 hi).1
  by_cases hs : e.on < listed.size
  · simp only [Array.getD, hs, dif_pos] at yes no
    exact Bool.noConfusion (yes.symm.trans no)
  · simp [Array.getD, hs] at yes
def Apart (md : Region.Mode) (ops : Array Oper) (i : Nat) (oi : Oper) (listed : Array Bool) : Prop :=
  ∀ j oj, ops[j]? = some oj → j ≠ i → listed.getD j true = false → (∀ e ∈ oj.after, Region.binds md e = true → e.on ≠ i) → oi.apart ops oj = true
theorem Apart.less {i : Nat} {oi : Oper} {listed : Array Bool} (h : Apart md ops i oi listed) (k : Nat) : Apart md ops i oi (listed.setIfInBounds k true) := by
  intro j oj hj hne hun
  refine h j oj hj hne ?_
  by_cases e : k = j
  · subst e
    by_cases hs : k < listed.size
    · simp [Array.getD, hs] at hun
    · simp [Array.getD, hs] at hun
  · rwa [getD_set_ne true e] at hun

theorem wpAnyZ_first {z : Nat} {Q : Act → Prop} {i : Nat} {oi : Oper} {v : Value} (hi : ops[i]? = some oi) (hsel : ∀ (j : Nat) (o : Oper) cs b, ops[j]? = some o → o.op ≠ .select cs b)
    {oz : Oper} (hz : ops[z]? = some oz) (hzi : ∃ e ∈ oz.after, Region.binds md e = true ∧ e.on = i) (fuel : Nat) :
    ∀ (listed : Array Bool) (a : Act), Apart md ops i oi listed → i ∈ Region.ready md ops listed → YieldsIn P ops C oi v a →
      wpAnyZ P md ops C z Q fuel (listed.setIfInBounds i true) (a.put oi.dst v) → wpAnyZ P md ops C z Q (fuel + 1) listed a := by
  have hnz : ∀ {listed : Array Bool}, i ∈ Region.ready md ops listed → z ∉ Region.ready md ops listed := fun hr hzr => by
    obtain ⟨e, he, hb, heq⟩ := hzi
    exact both_ready hr hzr hz e he hb heq
  induction fuel with
  | zero =>
    intro listed a _ hr hy H
    refine ⟨⟨hnz hr, List.ne_nil_of_mem hr⟩, fun j hj => ?_⟩
    rcases Decidable.em (j = i) with rfl | hji
    · exact hy.qOp hi H
    · have hjz := H.1.1 ▸ ready_mono hj hji
      exact absurd (List.mem_singleton.1 hjz ▸ hj) (hnz hr)
  | succ fuel ih =>
    intro listed a hap hr hy H
    refine ⟨⟨hnz hr, List.ne_nil_of_mem hr⟩, fun j hj => ?_⟩
    rcases Decidable.em (j = i) with rfl | hji
    · exact hy.qOp hi H
    · obtain ⟨hun, oj, hoj, _⟩ := mem_ready.1 hj
      have step := qOp_put hoj (hap j oj hoj hji hun (both_ready hr hj hoj)) (hsel i oi · · hi) (hsel j oj · · hoj) hy (H.2 j (ready_mono hj hji))
      refine qOp_mono (fun a' (h : _ ∧ _) => ih _ a' (hap.less j) (ready_mono hr (Ne.symm hji)) h.1 ?_) step
      exact Array.setIfInBounds_comm (xs := listed) true true hji ▸ h.2

def waits (md : Region.Mode) (oz : Oper) (k : Nat) : Bool := oz.after.any fun e => Region.binds md e && e.on == k
def lexZ (md : Region.Mode) (ops : Array Oper) (z : Nat) (oz : Oper) : Nat → Nat → Array Bool → Bool
  | 0, _, listed => decide (Region.ready md ops listed = [z]) && decide (Region.ready md ops (listed.setIfInBounds z true) = [])
  | fuel + 1, k, listed => (Region.ready md ops listed).contains k && Region.free md ops listed k && waits md oz k && lexZ md ops z oz fuel (k + 1) (listed.setIfInBounds k true)

theorem wpAnyZ_lex {z : Nat} {oz : Oper} {Q : Act → Prop} (hs : Region.noSelect ops = true) (hz : ops[z]? = some oz) : ∀ (l : List Oper) (k : Nat) (listed : Array Bool) (a : Act), (∀ j, j < l.length → l[j]? = ops[k + j]?) →
    lexZ md ops z oz l.length k listed = true → wpQuiet P ops C Q l a → wpAnyZ P md ops C z Q l.length listed a
  | [], _, _, _, _, hB, h => ⟨by simpa [lexZ] using hB, h⟩
  | o :: l, k, listed, a, hl, hB, h => by
    have h0 : ops[k]? = some o := by simpa using (hl 0 (by simp)).symm
    simp only [List.length_cons, lexZ, Bool.and_eq_true] at hB
    obtain ⟨⟨⟨hr, hf⟩, hw⟩, hB'⟩ := hB
    have hst : qOp P ops C k (wpQuiet P ops C Q l) a := by unfold qOp; simp only [h0]; exact h
    obtain ⟨v, hy, hK⟩ := yieldsIn_of_qOp h0 hst
    have hwz : ∃ e ∈ oz.after, Region.binds md e = true ∧ e.on = k := by
      obtain ⟨e, he, hb⟩ := Array.any_eq_true'.1 hw
      simp only [Bool.and_eq_true, beq_iff_eq] at hb
      exact ⟨e, he, hb⟩
    exact wpAnyZ_first h0 (Region.noSelect_spec hs) hz hwz l.length listed a (Region.free_spec h0 hf) (by simpa using hr) hy
      (wpAnyZ_lex hs hz l (k + 1) _ _ (fun j hj => by have := hl (j + 1) (by simpa using hj); simpa [Nat.add_assoc, Nat.add_comm 1 j] using this) hB' hK)

theorem wp_region_lastC {id : Nat} {Q : Exit → Act → World → Prop} {a : Act} {w : World} (l : List Oper) (st : Oper) (hm : P.follows .mixedOrders = true) (hs : Region.noSelect (l ++ [st]).toArray = true)
    (hB : lexZ .any (l ++ [st]).toArray l.length st l.length 0 (Array.replicate (l ++ [st]).toArray.size false) = true) (hC : C { w with drawn := w.drawn + 1 })
    (h : wpQuiet P (l ++ [st]).toArray C (fun a' => ∀ w', C w' → wpList P (l ++ [st]).toArray Q [st] a' w') l a) :
    (Code.region id (l ++ [st]).toArray true).wp P Q a w := by
  have hz : (l ++ [st]).toArray[l.length]? = some st := by simp
  have hsz : (l ++ [st]).toArray.size = l.length + 1 := by simp
  have h1 := wpAnyZ_lex (md := .any) hs hz l 0 (Array.replicate (l ++ [st]).toArray.size false) a (fun j hj => by simp [List.getElem?_append, hj]) hB h
  have h2 := wpAny_of_z (Q' := Q) (fun a' w' hw' h' => by
    have := h' w' hw'
    unfold wpOp
    simp only [hz]
    exact this) l.length _ a ({ w with drawn := w.drawn + 1 }) hC h1
  refine wp_region_any hm ?_
  rw [hsz] at h2 ⊢
  exact h2
theorem wp_region_last_litC {id : Nat} {Q : Exit → Act → World → Prop} {a : Act} {w : World} {L : List Oper} (n : Nat) (st : Oper) (hL : L = L.take n ++ [st]) (hm : P.follows .mixedOrders = true) (hs : Region.noSelect L.toArray = true)
    (hB : lexZ .any L.toArray (L.take n).length st (L.take n).length 0 (Array.replicate L.toArray.size false) = true) (hC : C { w with drawn := w.drawn + 1 })
    (h : wpQuiet P L.toArray C (fun a' => ∀ w', C w' → wpList P L.toArray Q [st] a' w') (L.take n) a) :
    (Code.region id L.toArray true).wp P Q a w := by
  have := wp_region_lastC (P := P) (id := id) (Q := Q) (a := a) (w := w) (C := C) (L.take n) st hm
  rw [← hL] at this
  exact this hs hB hC h
/-! ### calls that make memory: the class of the worlds that go on from w -/
def On (B : Nat) (w : World) : Type := { w' : World // Below B w w' }
def On.w {B : Nat} {w : World} (x : On B w) : World := x.1
theorem On.inh (B : Nat) (w : World) : Nonempty (On B w) := ⟨⟨w, Below.refl _ _⟩⟩
theorem wp_region_on {id : Nat} {Q : Exit → Act → World → Prop} {a : Act} {w : World} {l : List Oper} (B : Nat) (hm : P.follows .mixedOrders = true) (hB : Region.lexB .any l.toArray = true)
    (h : wpQuiet P l.toArray (fun w' => ∃ x : On B w, w' = x.w) (fun a' => ∀ w', (∃ x : On B w, w' = x.w) → Q .normal a' w') l a) : (Code.region id l.toArray true).wp P Q a w :=
  wp_region_quiet (C := fun w' => ∃ x : On B w, w' = x.w) hm hB ⟨⟨w.drew, (Below.refl _ _).drew⟩, rfl⟩ (by simpa using h)
theorem wp_region_last_on {id : Nat} {Q : Exit → Act → World → Prop} {a : Act} {w : World} {L : List Oper} (B : Nat) (n : Nat) (st : Oper) (hL : L = L.take n ++ [st]) (hm : P.follows .mixedOrders = true) (hs : Region.noSelect L.toArray = true)
    (hB : lexZ .any L.toArray (L.take n).length st (L.take n).length 0 (Array.replicate L.toArray.size false) = true)
    (h : wpQuiet P L.toArray (fun w' => ∃ x : On B w, w' = x.w) (fun a' => ∀ w', (∃ x : On B w, w' = x.w) → wpList P L.toArray Q [st] a' w') (L.take n) a) :
    (Code.region id L.toArray true).wp P Q a w := wp_region_last_litC n st hL hm hs hB ⟨⟨w.drew, (Below.refl _ _).drew⟩, rfl⟩ h
theorem Calls.on {f : FuncId} {args : Array Value} {B : Nat} {w : World} {v : Value} (x : On B w) (hBw : B ≤ w.heap.size) (h : Calls P f args x.w fun e w' => e = .returned v ∧ Below x.w.heap.size x.w w') :
    Calls P f args x.w fun e w'' => e = .returned v ∧ ∃ y : On B w, w'' = y.w :=
  h.mono fun _ w'' ⟨he, hb⟩ => ⟨he, ⟨w'', x.2.trans (hb.mono (Nat.le_trans hBw x.2.size))⟩, rfl⟩
theorem On.cell {B : Nat} {w : World} {b o : Nat} {v : Value} (h : w.cell? ⟨b, o, none⟩ = some v) (hb : b < B) : ∀ x : On B w, x.w.cell? ⟨b, o, none⟩ = some v :=
  fun x => (x.2.cell (p := ⟨b, o, none⟩) hb).trans h

end
end Go.Proofs.YtijplooogplccaaGreat.last

namespace Go.Proofs.YtijplooogplccaaGreat.pairs
open Go Go.RowKit Go.Proofs.YtijplooogplccaaGreat.base
set_option linter.unusedVariables false
set_option linter.unusedSimpArgs false

theorem keepC {W w' : World} {b o : Nat} {v : Value} (hb : Below W.heap.size W w') (h : W.cell? ⟨b, o, none⟩ = some v) : w'.cell? ⟨b, o, none⟩ = some v :=
  (hb.cell (p := ⟨b, o, none⟩) (World.block_lt_of_cell? W _ h)).trans h
theorem keepB2 {W w' : World} {b o1 o2 : Nat} {v1 v2 : Value} (hb : Below W.heap.size W w') (h : W.cell? ⟨b, o1, none⟩ = some v1 ∧ W.cell? ⟨b, o2, none⟩ = some v2) :
    w'.cell? ⟨b, o1, none⟩ = some v1 ∧ w'.cell? ⟨b, o2, none⟩ = some v2 := ⟨keepC hb h.1, keepC hb h.2⟩
end Go.Proofs.YtijplooogplccaaGreat.pairs

namespace Go.Proofs.YtijplooogplccaaGreat.ords
open Go Go.RowKit Go.Proofs.YtijplooogplccaaGreat.base Go.Proofs.YtijplooogplccaaGreat.pairs
set_option linter.unusedVariables false
set_option linter.unusedSimpArgs false

set_option maxHeartbeats 400000 in
theorem s_inZ (x a b : Int) (w : World) :
    Calls Tryz.prog 43 #[.int .i64 x, .int .i64 a, .int .i64 b] w fun e w' => e = .returned (.bool (decide (a ≤ x ∧ x ≤ b))) ∧ w' = w := by
  by_cases h1 : a ≤ x
  · by_cases h2 : x ≤ b
    · go_enter Tryz.func43, Tryz.ntmps43
      go_wp2
      go_ret
      exact ⟨ret_bool (by simp [h1, h2]), rfl⟩
    · go_enter Tryz.func43, Tryz.ntmps43
      go_wp2
      go_ret
      exact ⟨ret_bool (by simp [h1, h2]), rfl⟩
  · go_enter Tryz.func43, Tryz.ntmps43
    go_wp2
    go_ret
    exact ⟨ret_bool (by have h3 : ¬ a ≤ x := by omega
                        simp [h3]), rfl⟩

theorem size_empty {v : ByteArray} (h : v.size = 0) : v = ⟨#[]⟩ := by
  apply bytes_ext; exact List.eq_nil_of_length_eq_zero (by rw [Array.length_toList]; exact h)
theorem not_empty {v : ByteArray} (h : ¬ v.size = 0) : ¬ v.toList = [] ∧ v.toList.isEmpty = false := by
  have hq : ¬ v.toList = [] := fun e => h (by have : v = ⟨#[]⟩ := bytes_ext (by rw [← ByteArray.toList_eq]; exact e)
                                              rw [this]; rfl)
  exact ⟨hq, by rw [Bool.eq_false_iff]; intro e; exact hq (List.isEmpty_iff.1 e)⟩

set_option maxRecDepth 100000 in
set_option maxHeartbeats 1000000 in
theorem spec_l7Op (o : Od) (w : World) (ho : smallO o) (hs : o.2.1.size ≤ 1099511627776) :
    Calls Tryz.prog 84 #[.agg #[.int .i64 o.1, .string o.2.1, .string o.2.2]] w fun e w' => e = .returned (.bool (odOk o)) ∧ Below w.heap.size w w' := by
  obtain ⟨z, k, v⟩ := o
  have h2 := ho.2.2
  simp only [] at h2 hs ⊢
  unfold maxLen at h2
  have hba : Below w.heap.size w (w.alloc (.cells #[.int .i64 z, .string k, .string v] 126)) := (Below.refl _ _).alloc (Nat.le_refl _) _
  have hin := s_inZ z 1 3 (w.alloc (.cells #[.int .i64 z, .string k, .string v] 126))
  have hk := spec_keyOk k (w.alloc (.cells #[.int .i64 z, .string k, .string v] 126)) hs
  generalize hK : keyOk k = K at hk
  have H1 := Hid.mk' hK
  have HK := Hid.mk' hk
  clear hk hK ho
  by_cases hz : 1 ≤ z ∧ z ≤ 3
  · rw [decide_eq_true hz] at hin
    have HI := Hid.mk' hin
    clear hin
    by_cases hz2 : z = 2
    · subst hz2
      by_cases hv : v.size = 0
      · obtain rfl := size_empty hv
        clear hz hv
        go_enter Tryz.func84, Tryz.ntmps84
        go_wp2_with fail
        refine HI.out.mono ?_
        rintro e w1 ⟨rfl, rfl⟩
        go_wp2_with fail
        refine HK.out.mono ?_
        rintro e w1 ⟨rfl, rfl⟩
        cases K
        all_goals
          go_wp2_with fail
          go_ret
          exact ⟨ret_bool (by unfold odOk; rw [H1.out]; rfl), hba⟩
      · have HV := Hid.mk' hv
        obtain ⟨hq, hq2⟩ := not_empty hv
        clear hz hv
        go_enter Tryz.func84, Tryz.ntmps84
        go_wp2_with fail
        refine HI.out.mono ?_
        rintro e w1 ⟨rfl, rfl⟩
        go_wp2_with fail
        go_ret
        exact ⟨ret_bool (by have := HV.out; unfold odOk; simp [this]), hba⟩
    · have HZ := Hid.mk' hz
      have HZ2 := Hid.mk' hz2
      have hb : (z == 2) = false := beq_eq_false_iff_ne.2 hz2
      clear hz hz2
      go_enter Tryz.func84, Tryz.ntmps84
      go_wp2_with fail
      refine HI.out.mono ?_
      rintro e w1 ⟨rfl, rfl⟩
      go_wp2_with fail
      refine HK.out.mono ?_
      rintro e w1 ⟨rfl, rfl⟩
      cases K
      all_goals
        go_wp2_with fail
        go_ret
        exact ⟨ret_bool (by have a := HZ.out; have b := HZ2.out; unfold odOk; rw [H1.out]; simp [a, b]; try omega), hba⟩
  · rw [decide_eq_false hz] at hin
    have HI := Hid.mk' hin
    have HZ := Hid.mk' hz
    clear hin hz
    go_enter Tryz.func84, Tryz.ntmps84
    go_wp2_with fail
    refine HI.out.mono ?_
    rintro e w1 ⟨rfl, rfl⟩
    go_wp2_with fail
    go_ret
    exact ⟨ret_bool (by unfold odOk; rw [decide_eq_false HZ.out]; rfl), hba⟩

end Go.Proofs.YtijplooogplccaaGreat.ords
