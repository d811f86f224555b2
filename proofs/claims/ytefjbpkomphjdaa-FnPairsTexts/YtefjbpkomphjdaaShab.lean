/- The specification's putting of keys. A region that draws its order, whose operations only read, but for its last, which waits for all the others: one walk of the text's order serves every order. No function of the program is named here. The specification's right pairs, and pairs put into others. The specification's orders: what is right, what is met. The specification's statements: what is plain, the words of a text. The specification's statements: a word's order. append within the room that a make laid: small facts on worlds; no function of the program is named here. The program's keys and pairs: what is right. The program's statements: what a sign tells. The specification's orders: all of them are right. hash walks The specification's orders: what is met, what is done, at which shard. The specification's orders: what is done, and those of a shard. The specification's statements: orders of a text. The specification's statements: the texts of orders and of pairs. The program's orders: what is right. -/
import Derived.Test.YtefjbpkomphjdaaShaa
import Derived.Deep.QuietTactic
import Derived.BigQuiet
import Derived.WalkKit
import Derived.WalkSpells
import Derived.WalkLawsBesides
import Derived.Lib.Strings
import Derived.OwnWalk
import Derived.Laws.Runes
import Derived.Laws.StructEq
import Derived.Test.YtefjbpkomphjdaaRows
import Derived.Laws.Concat
namespace Go.Proofs.Ytefjbpkomphjdaa.pairs
open Go Go.RowKit Go.Proofs.Ytefjbpkomphjdaa.base
set_option linter.unusedVariables false
set_option linter.unusedSimpArgs false

theorem getKey_none {key : ByteArray} {l : List Pr} (h : getKey key l = none) (k : Nat) (hk : k < l.length) : l[k].1 ≠ key := by
  intro e
  have h2 := getKey_append key (l.take k) (l.drop k)
  rw [List.take_append_drop, h, getKey_drop key l k hk, if_pos e] at h2
  cases h3 : getKey key (l.take k) <;> rw [h3] at h2 <;> cases h2
theorem put_found {key val : ByteArray} {l : List Pr} (k : Nat) (hk : k < l.length) (he : l[k].1 = key) (hn : getKey key (l.take k) = none) : putKey key val l = l.set k (l[k].1, val) := by
  have h2 := getKey_append key (l.take k) (l.drop k)
  rw [List.take_append_drop, hn, getKey_drop key l k hk, if_pos he] at h2
  unfold putKey
  rw [h2, if_pos (by rfl), setFirst_at key val l k hk he hn, he]
theorem put_new {key val : ByteArray} {l : List Pr} (hn : getKey key l = none) : putKey key val l = l.take (below key l) ++ (key, val) :: l.drop (below key l) := by
  unfold putKey; rw [hn]; rfl
theorem take_none (key : ByteArray) (l : List Pr) (k : Nat) (hk : k < l.length) (hn : getKey key (l.take k) = none) (he : l[k].1 ≠ key) : getKey key (l.take (k + 1)) = none := by
  rw [take_snocP l k hk]; exact getKey_snoc_none key _ _ hn he
theorem less_flip {a b : ByteArray} (h : a ≠ b) : Op.bytesLess a.toList b.toList = !Op.bytesLess b.toList a.toList := by
  cases h1 : Op.bytesLess b.toList a.toList
  · cases h2 : Op.bytesLess a.toList b.toList
    · exact absurd (ltB_total (a := a) (b := b) h2 h1) h
    · rfl
  · exact ltB_asymm (a := b) (b := a) h1
theorem cellsP_drop {w : World} {b off : Nat} {l : List Pr} (h : CellsP w b off l) (k : Nat) : CellsP w b (off + k * 2) (l.drop k) := by
  intro i hi
  have hki : k + i < l.length := by simp at hi; omega
  have := h (k + i) hki
  rw [List.getElem_drop, show off + k * 2 + i * 2 = off + (k + i) * 2 by omega]
  exact this
theorem cellsP_take {w : World} {b off : Nat} {l : List Pr} (h : CellsP w b off l) (k : Nat) : CellsP w b off (l.take k) := by
  intro i hi
  rw [List.getElem_take]
  exact h i (by simp at hi; omega)

set_option maxRecDepth 100000 in
set_option maxHeartbeats 2000000 in
theorem spec_putKey (b off len cap : Nat) (l : List Pr) (key val : ByteArray) (w : World) (h : SlP w (some ⟨b, off, none⟩) len l) (hcap : len ≤ cap) (hsz : len ≤ 1099511627776) (hks : key.size ≤ maxLen) (hvs : val.size ≤ maxLen) :
    Calls Try.prog 78 #[.slice (some ⟨b, off, none⟩) len cap, .string key, .string val] w fun e w' =>
      ∃ g' n' cap', e = .returned (.slice (some ⟨g', 0, none⟩) n' cap') ∧ OwnP w' w.heap.size g' n' cap' (putKey key val l) ∧ Below w.heap.size w w' := by
  obtain ⟨i0, hif, hz0, hz1, hz2⟩ := info_parts infoP
  have hl := h.1
  have hsm := h.2.2.1
  subst hl
  have hba : Below w.heap.size w (w.alloc (.cells #[] 36)) := (Below.refl _ _).alloc (Nat.le_refl _) _
  have HC := Hid.mk' (cells_pairs (h.below hba).cells)
  have hn0 := pairVals_length l
  have hm1 : 0 + l.length ≤ maxLen := by unfold maxLen; omega
  have hm2 : (0 + l.length) * 32 ≤ 140737488355328 := by omega
  have hown0 := (ownP_made w w.heap.size (Nat.le_refl _)).2.2
  go_enter Try.func78, Try.ntmps78
  go_wp2_with (at_builtin; refine wpList_append_own _ rfl (.tmp 10) (.tmp 11) 32 rfl w.heap.size 36 i0 (.agg #[.string ⟨#[]⟩, .string ⟨#[]⟩]) 2 32 Try.underlying32 hif hz0 hz1 hz2 rfl (by decide) _ _ _ rfl hown0 ⟨b, off, none⟩ l.length cap (pairVals l) rfl hn0 HC.out (pairVals_oneCell _) hm1 hm2 (le_alloc _ _ (Nat.le_refl _)) ?_)
  intro v1 w1 hown hgrow hnn
  have hnn' : ¬ v1 = .slice none 0 0 := by simpa using hnn
  obtain ⟨g1, cap1, hv, hO1⟩ := ownP_val rfl hsm hnn' (by simpa [pairVals] using hown)
  subst hv
  have hB1 : Below w.heap.size w w1 := hba.grown hgrow (le_alloc _ _ (Nat.le_refl _)) (fun k e => by simp [Value.ownBlock] at e; omega)
  clear hown hgrow hnn hnn' hown0 HC hn0 hm1 hm2 hba
  go_wp2_with (at_builtin; fail)
  go_loop [8] (fun i => ∃ k : Nat, k ≤ l.length ∧ i = .int .i64 (k : Int) ∧ getKey key (l.take k) = none) (fun i => l.length - (intOf i).toNat)
  case atStart => exact ⟨0, Nat.zero_le _, rfl, rfl⟩
  case round =>
    obtain ⟨k, hk, rfl, hno⟩ := hrel
    by_cases hlt : k < l.length
    · have c1 := hO1.key k hlt
      have c2 := hO1.val k hlt
      have hki : (k : Int) < (l.length : Int) := by omega
      by_cases he : l[k].1 = key
      · have HF : Hid (putKey key val l = l.set k (l[k].1, val)) := put_found k hlt he hno
        have hfz := hO1.frozen (k * 2 + 1)
        have hR := hO1.setVal k hlt val hvs
        rw [← HF.out] at hR
        have HR := Hid.mk' hR
        rw [he] at c1
        clear hno hR
        go_wp2_with (at_builtin; fail)
        go_ret
        exact ⟨_, _, _, rfl, HR.out.1, hB1.trans (below_grown HR.out.2 hO1.lt.1 hB1.size)⟩
      · have HF : Hid (getKey key (l.take (k + 1)) = none) := take_none key l k hlt hno he
        have hq := str_ne he
        clear hno he
        go_wp2_with (at_builtin; fail)
        go_round
        case rel => exact ⟨k + 1, by omega, by go_num, HF.out⟩
        case measure => simp [intOf]; omega
    · have hnone : getKey key l = none := by rw [List.take_of_length_le (by omega)] at hno; exact hno
      have HP := Hid.mk' (put_new (val := val) hnone)
      have hne := getKey_none hnone
      have hSl := h.below hB1
      obtain ⟨B, hBe⟩ : ∃ B, below key l = B := ⟨_, rfl⟩
      have hBl : B ≤ l.length := by rw [← hBe]; exact below_le key l
      rw [hBe] at HP
      have HB := Hid.mk' hBe
      clear hno hnone hBe
      go_wp2_with (at_builtin; fail)
      go_loop [9] (fun i => ∃ k : Nat, k ≤ l.length ∧ i = .int .i64 (k : Int) ∧ below key (l.drop k) + k = B) (fun i => l.length - (intOf i).toNat)
      case atStart => exact ⟨0, Nat.zero_le _, rfl, HB.out⟩
      case round =>
        obtain ⟨k, hk2, rfl, hr⟩ := hrel
        by_cases hlt2 : k < l.length ∧ Op.bytesLess key.toList (l[k]!).1.toList = false
        · obtain ⟨hlt2, hb⟩ := hlt2
          rw [getElem!_pos l k hlt2] at hb
          have c1 := (hSl.cells k hlt2).1
          have hst := below_drop key l k hlt2
          rw [if_neg (by show ¬ Op.bytesLess _ _ = true; rw [hb]; simp)] at hst
          have HF : Hid (below key (l.drop (k + 1)) + (k + 1) = B) := by show _ = _; omega
          have hq := str_ne (hne k hlt2)
          have hlf := less_flip (hne k hlt2)
          rw [hb] at hlf
          have hki : (k : Int) < (l.length : Int) := by omega
          generalize l[k].1 = kk at *
          clear hr hst hb hne
          go_wp2_with (at_builtin; fail)
          go_round
          case rel => exact ⟨k + 1, by omega, by go_num, HF.out⟩
          case measure => simp [intOf]; omega
        · have HE : Hid (k = B) := by
            show k = B
            by_cases h3 : k < l.length
            · have hst := below_drop key l k h3
              have : Op.bytesLess key.toList l[k].1.toList = true := by
                cases h4 : Op.bytesLess key.toList l[k].1.toList
                · exact absurd ⟨h3, by rw [getElem!_pos l k h3]; exact h4⟩ hlt2
                · rfl
              rw [if_pos (show ltB key l[k].1 = true from this)] at hst
              omega
            · rw [List.drop_eq_nil_of_le (by omega)] at hr
              have : below key [] = 0 := rfl
              omega
          have hcond : k < l.length → ∃ kk, w1.cell? ⟨b, off + k * 2, none⟩ = some (.string kk) ∧ Op.bytesLess kk.toList key.toList = false ∧ (kk.toList == key.toList) = false := by
            intro h3
            refine ⟨l[k].1, (hSl.cells k h3).1, ?_, str_ne (hne k h3)⟩
            rw [less_flip (hne k h3)]
            cases h4 : Op.bytesLess key.toList l[k].1.toList
            · exact absurd ⟨h3, by rw [getElem!_pos l k h3]; exact h4⟩ hlt2
            · rfl
          clear hr hlt2 hne
          by_cases h3 : k < l.length
          · obtain ⟨kk, c1, q1, q2⟩ := hcond h3
            have hki : (k : Int) < (l.length : Int) := by omega
            clear hcond
            have hba2 : Below w1.heap.size w1 (w1.alloc (.cells #[] 36)) := (Below.refl _ _).alloc (Nat.le_refl _) _
            have HC2 := Hid.mk' (cells_pairs (cellsP_take (hSl.below hba2).cells k))
            have hn2 : (pairVals (l.take k)).length = k * 2 := by rw [pairVals_length, List.length_take_of_le hk2]
            have hm3 : 0 + k ≤ maxLen := by unfold maxLen; omega
            have hm4 : (0 + k) * 32 ≤ 140737488355328 := by omega
            have hm5 : k + 1 ≤ maxLen := by unfold maxLen; omega
            have hm6 : (k + 1) * 32 ≤ 140737488355328 := by omega
            have hown2 := (ownP_made w1 w.heap.size hB1.size).2.2
            have hbw1 : w.heap.size ≤ w1.heap.size := hB1.size
            have hkc : (k : Int) ≤ (cap : Int) := by omega
            have hkl : (k : Int) ≤ (l.length : Int) := by omega
            go_wp2_with (at_builtin; refine wpList_append_own _ rfl (.tmp 47) (.tmp 50) 32 rfl w.heap.size 36 i0 (.agg #[.string ⟨#[]⟩, .string ⟨#[]⟩]) 2 32 Try.underlying32 hif hz0 hz1 hz2 rfl (by decide) _ _ _ rfl hown2 ⟨b, off, none⟩ k cap (pairVals (l.take k)) rfl hn2 HC2.out (pairVals_oneCell _) hm3 hm4 (le_alloc _ _ hbw1) ?_)
            intro v2 w2 hown hgrow hnn
            have hnn' : ¬ v2 = .slice none 0 0 := by simpa using hnn
            obtain ⟨g2, cap2, hv, hO2⟩ := ownP_val (l := l.take k) (n := k) (List.length_take_of_le hk2) (take_small hsm k) hnn' (by simpa [pairVals] using hown)
            subst hv
            have hBx : Below w.heap.size w1 (w1.alloc (.cells #[] 36)) := (Below.refl _ _).alloc hbw1 _
            have hB2 : Below w.heap.size w1 w2 := hBx.grown hgrow (le_alloc _ _ hbw1) (fun k e => by simp [Value.ownBlock] at e; omega)
            have hB2' : Below w.heap.size w w2 := hB1.trans hB2
            have hbw2 : w.heap.size ≤ w2.heap.size := hB2'.size
            clear hown hgrow hnn hnn' hown2 HC2 hn2 hm3 hm4 hba2 hBx hB2
            go_wp2_with (at_builtin; refine wpList_append_own _ rfl (.tmp 51) (.tmp 55) 32 rfl w.heap.size 36 i0 (.agg #[.string ⟨#[]⟩, .string ⟨#[]⟩]) 2 32 Try.underlying32 hif hz0 hz1 hz2 rfl (by decide) _ _ _ rfl (hO2.2.2.alloc _) ⟨w2.heap.size, 0, none⟩ 1 1 (pairVals [(key, val)]) rfl rfl (one_pair_cells _ (key, val) _) (pairVals_oneCell _) hm5 hm6 (le_alloc _ _ hbw2) ?_)
            intro v3 w3 hown hgrow hnn
            obtain ⟨g3, cap3, hv, hO3⟩ := ownP_app hO2.1 hO2.2.1 ⟨hks, hvs⟩ hnn hown
            subst hv
            have hB3 : Below w.heap.size w w3 := (hB2'.alloc hbw2 _).grown hgrow (le_alloc _ _ hbw2) (fun k e => by simp [Value.ownBlock] at e; have := hO2.lt; omega)
            have hbw3 : w.heap.size ≤ w3.heap.size := hB3.size
            have hSl3 := h.below hB3
            have hm7 : k + 1 + (l.length - k) ≤ maxLen := by unfold maxLen; omega
            have hm8 : (k + 1 + (l.length - k)) * 32 ≤ 140737488355328 := by omega
            have hn4 : (pairVals (l.drop k)).length = (l.length - k) * 2 := by rw [pairVals_length, List.length_drop]
            clear hown hgrow hnn hO2 hB2' hm5 hm6
            have hck : ¬ cap = k := by omega
            have HC4 := Hid.mk' (cells_pairs (cellsP_drop hSl3.cells k))
            go_wp2_with (at_builtin; refine wpList_append_own _ rfl (.tmp 57) (.tmp 60) 32 rfl w.heap.size 36 i0 (.agg #[.string ⟨#[]⟩, .string ⟨#[]⟩]) 2 32 Try.underlying32 hif hz0 hz1 hz2 rfl (by decide) _ _ _ rfl hO3.2.2 ⟨b, off + k * 2, none⟩ (l.length - k) (cap - k) (pairVals (l.drop k)) rfl hn4 HC4.out (pairVals_oneCell _) hm7 hm8 hbw3 ?_)
            intro v4 w4 hown hgrow hnn
            have hnn' : ¬ v4 = .slice none 0 0 := by simpa using hnn
            rw [← pairVals_append] at hown
            obtain ⟨g4, cap4, hv, hO4⟩ := ownP_val (n := k + 1 + (l.length - k)) (by simp; omega) (fun q hq => by
              rcases List.mem_append.1 hq with h1 | h1
              · exact hO3.2.1 q h1
              · exact hsm q (List.mem_of_mem_drop h1)) hnn' hown
            subst hv
            have hB4 : Below w.heap.size w w4 := hB3.grown hgrow hbw3 (fun k e => by simp [Value.ownBlock] at e; have := hO3.lt; omega)
            have HO4 := Hid.mk' hO4
            clear hown hgrow hnn hnn' hO4
            go_wp2_with (at_builtin; fail)
            go_ret
            refine ⟨g4, _, cap4, rfl, ?_, hB4⟩
            rw [HP.out, ← HE.out]
            have := HO4.out
            rw [List.append_assoc] at this
            exact this
          · clear hcond
            have hkl' : l.length = k := by omega
            have HDR : Hid (l.drop k = []) := List.drop_eq_nil_of_le (by omega)
            have hba2 : Below w1.heap.size w1 (w1.alloc (.cells #[] 36)) := (Below.refl _ _).alloc (Nat.le_refl _) _
            have HC2 := Hid.mk' (cells_pairs (cellsP_take (hSl.below hba2).cells k))
            have hn2 : (pairVals (l.take k)).length = k * 2 := by rw [pairVals_length, List.length_take_of_le hk2]
            have hm3 : 0 + k ≤ maxLen := by unfold maxLen; omega
            have hm4 : (0 + k) * 32 ≤ 140737488355328 := by omega
            have hm5 : k + 1 ≤ maxLen := by unfold maxLen; omega
            have hm6 : (k + 1) * 32 ≤ 140737488355328 := by omega
            have hown2 := (ownP_made w1 w.heap.size hB1.size).2.2
            have hbw1 : w.heap.size ≤ w1.heap.size := hB1.size
            have hkc : (k : Int) ≤ (cap : Int) := by omega
            have hkl : (k : Int) ≤ (l.length : Int) := by omega
            clear hkl'
            go_wp2_with (at_builtin; refine wpList_append_own _ rfl (.tmp 47) (.tmp 50) 32 rfl w.heap.size 36 i0 (.agg #[.string ⟨#[]⟩, .string ⟨#[]⟩]) 2 32 Try.underlying32 hif hz0 hz1 hz2 rfl (by decide) _ _ _ rfl hown2 ⟨b, off, none⟩ k cap (pairVals (l.take k)) rfl hn2 HC2.out (pairVals_oneCell _) hm3 hm4 (le_alloc _ _ hbw1) ?_)
            intro v2 w2 hown hgrow hnn
            have hnn' : ¬ v2 = .slice none 0 0 := by simpa using hnn
            obtain ⟨g2, cap2, hv, hO2⟩ := ownP_val (l := l.take k) (n := k) (List.length_take_of_le hk2) (take_small hsm k) hnn' (by simpa [pairVals] using hown)
            subst hv
            have hBx : Below w.heap.size w1 (w1.alloc (.cells #[] 36)) := (Below.refl _ _).alloc hbw1 _
            have hB2 : Below w.heap.size w1 w2 := hBx.grown hgrow (le_alloc _ _ hbw1) (fun k e => by simp [Value.ownBlock] at e; omega)
            have hB2' : Below w.heap.size w w2 := hB1.trans hB2
            have hbw2 : w.heap.size ≤ w2.heap.size := hB2'.size
            clear hown hgrow hnn hnn' hown2 HC2 hn2 hm3 hm4 hba2 hBx hB2
            go_wp2_with (at_builtin; refine wpList_append_own _ rfl (.tmp 51) (.tmp 55) 32 rfl w.heap.size 36 i0 (.agg #[.string ⟨#[]⟩, .string ⟨#[]⟩]) 2 32 Try.underlying32 hif hz0 hz1 hz2 rfl (by decide) _ _ _ rfl (hO2.2.2.alloc _) ⟨w2.heap.size, 0, none⟩ 1 1 (pairVals [(key, val)]) rfl rfl (one_pair_cells _ (key, val) _) (pairVals_oneCell _) hm5 hm6 (le_alloc _ _ hbw2) ?_)
            intro v3 w3 hown hgrow hnn
            obtain ⟨g3, cap3, hv, hO3⟩ := ownP_app hO2.1 hO2.2.1 ⟨hks, hvs⟩ hnn hown
            subst hv
            have hB3 : Below w.heap.size w w3 := (hB2'.alloc hbw2 _).grown hgrow (le_alloc _ _ hbw2) (fun k e => by simp [Value.ownBlock] at e; have := hO2.lt; omega)
            have hbw3 : w.heap.size ≤ w3.heap.size := hB3.size
            have hSl3 := h.below hB3
            have hm7 : k + 1 + (l.length - k) ≤ maxLen := by unfold maxLen; omega
            have hm8 : (k + 1 + (l.length - k)) * 32 ≤ 140737488355328 := by omega
            have hn4 : (pairVals (l.drop k)).length = (l.length - k) * 2 := by rw [pairVals_length, List.length_drop]
            clear hown hgrow hnn hO2 hB2' hm5 hm6
            by_cases hck : cap = k
            · have HC4 : Hid (∀ j v, (pairVals (l.drop k))[j]? = some v → w3.cell? ((⟨b, off, none⟩ : Addr).add j) = some v) := by
                show ∀ j v, _ → _
                intro j v hj
                rw [HDR.out] at hj
                simp [pairVals] at hj
              go_wp2_with (at_builtin; refine wpList_append_own _ rfl (.tmp 57) (.tmp 60) 32 rfl w.heap.size 36 i0 (.agg #[.string ⟨#[]⟩, .string ⟨#[]⟩]) 2 32 Try.underlying32 hif hz0 hz1 hz2 rfl (by decide) _ _ _ rfl hO3.2.2 ⟨b, off, none⟩ (l.length - k) _ (pairVals (l.drop k)) rfl hn4 HC4.out (pairVals_oneCell _) hm7 hm8 hbw3 ?_)
              intro v4 w4 hown hgrow hnn
              have hnn' : ¬ v4 = .slice none 0 0 := by simpa using hnn
              rw [← pairVals_append] at hown
              obtain ⟨g4, cap4, hv, hO4⟩ := ownP_val (n := k + 1 + (l.length - k)) (by simp; omega) (fun q hq => by
                rcases List.mem_append.1 hq with h1 | h1
                · exact hO3.2.1 q h1
                · exact hsm q (List.mem_of_mem_drop h1)) hnn' hown
              subst hv
              have hB4 : Below w.heap.size w w4 := hB3.grown hgrow hbw3 (fun k e => by simp [Value.ownBlock] at e; have := hO3.lt; omega)
              have HO4 := Hid.mk' hO4
              clear hown hgrow hnn hnn' hO4
              go_wp2_with (at_builtin; fail)
              go_ret
              refine ⟨g4, _, cap4, rfl, ?_, hB4⟩
              rw [HP.out, ← HE.out]
              have := HO4.out
              rw [List.append_assoc] at this
              exact this
            · have HC4 : Hid (∀ j v, (pairVals (l.drop k))[j]? = some v → w3.cell? ((⟨b, off + k * 2, none⟩ : Addr).add j) = some v) := by
                show ∀ j v, _ → _
                intro j v hj
                rw [HDR.out] at hj
                simp [pairVals] at hj
              go_wp2_with (at_builtin; refine wpList_append_own _ rfl (.tmp 57) (.tmp 60) 32 rfl w.heap.size 36 i0 (.agg #[.string ⟨#[]⟩, .string ⟨#[]⟩]) 2 32 Try.underlying32 hif hz0 hz1 hz2 rfl (by decide) _ _ _ rfl hO3.2.2 ⟨b, off + k * 2, none⟩ (l.length - k) _ (pairVals (l.drop k)) rfl hn4 HC4.out (pairVals_oneCell _) hm7 hm8 hbw3 ?_)
              intro v4 w4 hown hgrow hnn
              have hnn' : ¬ v4 = .slice none 0 0 := by simpa using hnn
              rw [← pairVals_append] at hown
              obtain ⟨g4, cap4, hv, hO4⟩ := ownP_val (n := k + 1 + (l.length - k)) (by simp; omega) (fun q hq => by
                rcases List.mem_append.1 hq with h1 | h1
                · exact hO3.2.1 q h1
                · exact hsm q (List.mem_of_mem_drop h1)) hnn' hown
              subst hv
              have hB4 : Below w.heap.size w w4 := hB3.grown hgrow hbw3 (fun k e => by simp [Value.ownBlock] at e; have := hO3.lt; omega)
              have HO4 := Hid.mk' hO4
              clear hown hgrow hnn hnn' hO4
              go_wp2_with (at_builtin; fail)
              go_ret
              refine ⟨g4, _, cap4, rfl, ?_, hB4⟩
              rw [HP.out, ← HE.out]
              have := HO4.out
              rw [List.append_assoc] at this
              exact this

end Go.Proofs.Ytefjbpkomphjdaa.pairs

namespace Go.Proofs.Ytefjbpkomphjdaa.last
open Go Go.RowKit
section
variable {P : Program} {ops : Array Oper} {md : Region.Mode} {C : World → Prop}

/-! ### calls that make memory: the class of the worlds that go on from w -/
def On (B : Nat) (w : World) : Type := { w' : World // Below B w w' }
def On.w {B : Nat} {w : World} (x : On B w) : World := x.1
theorem Calls.on {f : FuncId} {args : Array Value} {B : Nat} {w : World} {v : Value} (x : On B w) (hBw : B ≤ w.heap.size) (h : Calls P f args x.w fun e w' => e = .returned v ∧ Below x.w.heap.size x.w w') :
    Calls P f args x.w fun e w'' => e = .returned v ∧ ∃ y : On B w, w'' = y.w :=
  h.mono fun _ w'' ⟨he, hb⟩ => ⟨he, ⟨w'', x.2.trans (hb.mono (Nat.le_trans hBw x.2.size))⟩, rfl⟩
theorem On.cell {B : Nat} {w : World} {b o : Nat} {v : Value} (h : w.cell? ⟨b, o, none⟩ = some v) (hb : b < B) : ∀ x : On B w, x.w.cell? ⟨b, o, none⟩ = some v :=
  fun x => (x.2.cell (p := ⟨b, o, none⟩) hb).trans h

end
end Go.Proofs.Ytefjbpkomphjdaa.last

namespace Go.Proofs.Ytefjbpkomphjdaa.pairs
open Go Go.RowKit Go.Proofs.Ytefjbpkomphjdaa.base
set_option linter.unusedVariables false
set_option linter.unusedSimpArgs false

end Go.Proofs.Ytefjbpkomphjdaa.pairs

namespace Go.Proofs.Ytefjbpkomphjdaa.ords
open Go Go.RowKit Go.Proofs.Ytefjbpkomphjdaa.base Go.Proofs.Ytefjbpkomphjdaa.pairs
set_option linter.unusedVariables false
set_option linter.unusedSimpArgs false

end Go.Proofs.Ytefjbpkomphjdaa.ords

namespace Go.Proofs.Ytefjbpkomphjdaa.txts
open Go Go.RowKit Go.Proofs.Ytefjbpkomphjdaa.base Go.Proofs.Ytefjbpkomphjdaa.pairs Go.Proofs.Ytefjbpkomphjdaa.ords
set_option linter.unusedVariables false
set_option linter.unusedSimpArgs false

end Go.Proofs.Ytefjbpkomphjdaa.txts

namespace Go.Proofs.Ytefjbpkomphjdaa.txts
open Go Go.RowKit Go.Proofs.Ytefjbpkomphjdaa.base Go.Proofs.Ytefjbpkomphjdaa.pairs Go.Proofs.Ytefjbpkomphjdaa.ords
set_option linter.unusedVariables false
set_option linter.unusedSimpArgs false

section
variable {X : Nat} {p q : Od} {w w' : World}
end
end Go.Proofs.Ytefjbpkomphjdaa.txts

namespace Go.Proofs.Ytefjbpkomphjdaa.base
open Go.RowKit
set_option linter.unusedVariables false
set_option linter.unusedSimpArgs false

end Go.Proofs.Ytefjbpkomphjdaa.base

namespace Go.Proofs.Ytefjbpkomphjdaa.pairs
open Go Go.RowKit Go.Proofs.Ytefjbpkomphjdaa.base
set_option linter.unusedVariables false
set_option linter.unusedSimpArgs false

end Go.Proofs.Ytefjbpkomphjdaa.pairs

namespace Go.Proofs.Ytefjbpkomphjdaa.txts
open Go Go.RowKit Go.Proofs.Ytefjbpkomphjdaa.base Go.Proofs.Ytefjbpkomphjdaa.pairs Go.Proofs.Ytefjbpkomphjdaa.ords
set_option linter.unusedVariables false
set_option linter.unusedSimpArgs false

/-! ### a sign -/
end Go.Proofs.Ytefjbpkomphjdaa.txts

namespace Go.Proofs.Ytefjbpkomphjdaa.ords
open Go Go.RowKit Go.Proofs.Ytefjbpkomphjdaa.base Go.Proofs.Ytefjbpkomphjdaa.pairs
set_option linter.unusedVariables false
set_option linter.unusedSimpArgs false

end Go.Proofs.Ytefjbpkomphjdaa.ords

namespace Go.Proofs.Ytefjbpkomphjdaa.hash
open Go.RowKit Go.Proofs.Ytefjbpkomphjdaa.base
set_option linter.unusedVariables false
set_option linter.unusedSimpArgs false


end Go.Proofs.Ytefjbpkomphjdaa.hash

namespace Go.Proofs.Ytefjbpkomphjdaa.ords
open Go Go.RowKit Go.Proofs.Ytefjbpkomphjdaa.base Go.Proofs.Ytefjbpkomphjdaa.pairs
set_option linter.unusedVariables false
set_option linter.unusedSimpArgs false

end Go.Proofs.Ytefjbpkomphjdaa.ords

namespace Go.Proofs.Ytefjbpkomphjdaa.ords
open Go Go.RowKit Go.Proofs.Ytefjbpkomphjdaa.base Go.Proofs.Ytefjbpkomphjdaa.pairs
set_option linter.unusedVariables false
set_option linter.unusedSimpArgs false

end Go.Proofs.Ytefjbpkomphjdaa.ords

namespace Go.Proofs.Ytefjbpkomphjdaa.txts
open Go Go.RowKit Go.Proofs.Ytefjbpkomphjdaa.base Go.Proofs.Ytefjbpkomphjdaa.pairs Go.Proofs.Ytefjbpkomphjdaa.ords
set_option linter.unusedVariables false
set_option linter.unusedSimpArgs false

end Go.Proofs.Ytefjbpkomphjdaa.txts

namespace Go.Proofs.Ytefjbpkomphjdaa.txts
open Go Go.RowKit Go.Proofs.Ytefjbpkomphjdaa.base Go.Proofs.Ytefjbpkomphjdaa.pairs Go.Proofs.Ytefjbpkomphjdaa.ords
set_option linter.unusedVariables false
set_option linter.unusedSimpArgs false

/-! ### texts joined by a blank, as far as k -/
def jn (ts : List (List UInt8)) (k : Nat) : ByteArray := ⟨(Lib.join (ts.take k) [32]).toArray⟩
def room (ts : List (List UInt8)) : Nat := Lib.lens ts + ts.length
theorem jn_zero (ts : List (List UInt8)) : jn ts 0 = ⟨#[]⟩ := rfl
theorem jn_all (ts : List (List UInt8)) : jn ts ts.length = ⟨(Lib.join ts [32]).toArray⟩ := by unfold jn; rw [List.take_length]
theorem jn_first (ts : List (List UInt8)) (h : 0 < ts.length) : jn ts 1 = ⟨ts[0].toArray⟩ := by
  cases ts with
  | nil => simp at h
  | cons a r => unfold jn; simp [Lib.join_one]
theorem jn_more (ts : List (List UInt8)) (k : Nat) (h : k < ts.length) (h0 : 0 < k) : (jn ts (k + 1)).data.toList = (jn ts k).data.toList ++ 32 :: ts[k] := by
  cases ts with
  | nil => simp at h
  | cons a r =>
    obtain ⟨j, rfl⟩ : ∃ j, k = j + 1 := ⟨k - 1, by omega⟩
    have hj : j < r.length := by simpa using h
    unfold jn
    simp only [List.take_succ_cons, List.getElem_cons_succ]
    rw [Lib.join_cons, Lib.join_cons, Lib.joinTail_take_succ [32] r j r[j] (List.getElem?_eq_getElem hj)]
    simp
theorem lens_take (ts : List (List UInt8)) (k : Nat) : Lib.lens (ts.take k) ≤ Lib.lens ts := by
  unfold Lib.lens
  induction ts generalizing k with
  | nil => simp
  | cons a r ih =>
    cases k with
    | zero => simp
    | succ k => simp only [List.take_succ_cons, List.map_cons, List.sum_cons]; have := ih k; omega
theorem join_room (ts : List (List UInt8)) : (Lib.join ts [32]).length ≤ room ts := by
  unfold room
  cases ts with
  | nil => simp [Lib.join_nil]
  | cons a r => rw [Lib.join_length]; simp only [List.length_cons, List.length_nil, Nat.zero_add, Nat.one_mul]; omega
theorem jn_size (ts : List (List UInt8)) (k : Nat) : (jn ts k).size ≤ room ts := by
  unfold jn
  rw [ba_size]
  have h1 := join_room (ts.take k)
  have h2 := lens_take ts k
  unfold room at h1 ⊢
  rw [List.length_take] at h1
  omega
theorem lens_mem (ts : List (List UInt8)) (t : List UInt8) (h : t ∈ ts) : t.length ≤ Lib.lens ts := by
  unfold Lib.lens
  induction ts with
  | nil => cases h
  | cons a r ih =>
    simp only [List.map_cons, List.sum_cons]
    rcases List.mem_cons.1 h with rfl | h
    · omega
    · have := ih h; omega
theorem add_str (a b c : ByteArray) (hc : c = a ++ b) (h : a.size + b.size ≤ 9223372036854775807) (W : World) : (Op.stringOp .add a b).run Try.prog W = .ok (.string c) W := by
  rw [hc]; exact run_string_add_sum W a b h
theorem app_size {a b c : ByteArray} (hc : c = a ++ b) : c.size = a.size + b.size := by rw [hc, ByteArray.size_append]
theorem app_list {a b c : ByteArray} (hc : c = a ++ b) : c.data.toList = a.data.toList ++ b.data.toList := by rw [hc, ByteArray.data_append, Array.toList_append]
theorem prs_room (l : List Pr) : room (l.map prText) ≤ (l.map fun p => p.1.size + p.2.size).sum + 2 * l.length := by
  unfold room Lib.lens
  induction l with
  | nil => simp
  | cons p l ih =>
    have h1 := size_len p.1
    have h2 := size_len p.2
    simp only [List.map_cons, List.sum_cons, List.length_cons] at ih ⊢
    have : (prText p).length = p.1.size + p.2.size + 1 := by unfold prText; simp only [List.length_append, List.length_cons]; omega
    omega
set_option maxRecDepth 100000 in
set_option maxHeartbeats 4000000 in
theorem spec_pairsText (b len cap : Nat) (l : List Pr) (w : World) (h : SlP w (some ⟨b, 0, none⟩) len l) (hrm : room (l.map prText) ≤ 1099511627776) :
    Calls Try.prog 20 #[.slice (some ⟨b, 0, none⟩) len cap] w fun e w' => e = .returned (.string ⟨(pairsText l).toArray⟩) ∧ Below w.heap.size w w' := by
  have hl := h.1
  subst hl
  by_cases hn : l = []
  · subst hn
    go_enter Try.func20, Try.ntmps20
    go_wp2_with fail
    go_ret
    exact ⟨rfl, Below.refl _ _⟩
  · have hl0 : 0 < l.length := List.length_pos_iff.2 hn
    have HJJ : Hid ((⟨(pairsText l).toArray⟩ : ByteArray) = jn (l.map prText) l.length) := by
      show _ = _; unfold pairsText; rw [if_neg hn, ← jn_all, List.length_map]
    have hmx := h.2.1
    unfold maxLen at hmx
    have hli : ¬ (l.length : Int) = 0 := by omega
    have hli2 : ((l.length : Int) == 0) = false := by rw [beq_eq_false_iff_ne]; omega
    clear hn
    go_enter Try.func20, Try.ntmps20
    go_wp2_with fail
    go_loopw [3, 4] (fun t i wr => ∃ k : Nat, i = .int .i64 (k : Int) ∧ k ≤ l.length ∧ t = .string (jn (l.map prText) k) ∧ Below w.heap.size w wr) (fun t i _ => l.length - (intOf i).toNat)
    case atStart => exact ⟨0, rfl, Nat.zero_le _, rfl, Below.refl _ _⟩
    case round =>
      obtain ⟨k, rfl, hk, rfl, hB⟩ := hrel
      by_cases hlt : k < l.length
      · have hki : (k : Int) < (l.length : Int) := by omega
        have hS := h.below hB
        obtain ⟨c0, c1⟩ := hS.cells k hlt
        simp only [Nat.zero_add] at c0 c1
        have hsz := jn_size (l.map prText) k
        have hlm : k < (l.map prText).length := by simpa using hlt
        have hmem := lens_mem (l.map prText) _ (List.getElem_mem hlm)
        obtain ⟨o, hko⟩ : ∃ o, l[k] = o := ⟨_, rfl⟩
        have hgm : (l.map prText)[k] = prText o := by rw [List.getElem_map, hko]
        rw [hgm] at hmem
        have hpl : (prText o).length = o.1.size + o.2.size + 1 := by
          have h1 := size_len o.1
          have h2 := size_len o.2
          unfold prText; simp only [List.length_append, List.length_cons]; omega
        have hrm2 := hrm
        unfold room at hrm2
        rw [hko] at c0 c1
        clear hS
        by_cases h0 : k = 0
        · have HNX : Hid ((jn (l.map prText) (k + 1)).data.toList = (jn (l.map prText) k).data.toList ++ prText o) := by
            show _ = _
            subst h0
            rw [jn_first _ hlm, hgm, jn_zero]; simp
          have hkg : ¬ (0 : Int) < (k : Int) := by omega
          have hkg2 : decide ((0 : Int) < (k : Int)) = false := by simp; omega
          have hk0n : decide (0 < k) = false := by simp; omega
          obtain ⟨u, hu⟩ : ∃ u, jn (l.map prText) k = u := ⟨_, rfl⟩
          rw [hu] at HNX hsz ⊢
          have hszu : u.size ≤ 2199023255552 := by omega
          clear hu h0 hgm
          obtain ⟨u1, hu1⟩ : ∃ u1, u1 = u ++ o.1 := ⟨_, rfl⟩
          obtain ⟨u2, hu2⟩ : ∃ u2, u2 = u1 ++ (⟨#[61]⟩ : ByteArray) := ⟨_, rfl⟩
          obtain ⟨u3, hu3⟩ : ∃ u3, u3 = u2 ++ o.2 := ⟨_, rfl⟩
          have s1 := app_size hu1
          have s2 : u2.size = u1.size + 1 := app_size hu2
          have a1 := add_str u o.1 u1 hu1 (by omega)
          have a2 := add_str u1 ⟨#[61]⟩ u2 hu2 (by show u1.size + 1 ≤ _; omega)
          have a3 := add_str u2 o.2 u3 hu3 (by omega)
          have HJ : Hid (u3 = jn (l.map prText) (k + 1)) := by
            show _ = _
            apply bytes_ext
            rw [HNX.out, app_list hu3, app_list hu2, app_list hu1]
            simp [prText]
          clear hu1 hu2 hu3 s1 s2 hszu hsz hpl hmem hrm2
          go_wp2_with fail
          go_quiet (fail)
          go_wp2_with fail
          go_roundw
          case rel => exact ⟨k + 1, by go_num, by omega, by rw [HJ.out], below_drewN hB _⟩
          case measure => simp [intOf]; omega
        · have hjm := jn_more (l.map prText) k hlm (by omega)
          rw [hgm] at hjm
          have hkg : (0 : Int) < (k : Int) := by omega
          have hkg2 : decide ((0 : Int) < (k : Int)) = true := by simp; omega
          have hk0n : decide (0 < k) = true := by simp; omega
          obtain ⟨t, ht⟩ : ∃ t, jn (l.map prText) k = t := ⟨_, rfl⟩
          rw [ht] at hjm hsz ⊢
          obtain ⟨u, hu⟩ : ∃ u, u = t ++ (⟨#[32]⟩ : ByteArray) := ⟨_, rfl⟩
          have s0 : u.size = t.size + 1 := app_size hu
          have a0 := add_str t ⟨#[32]⟩ u hu (by show t.size + 1 ≤ _; omega)
          have HNX : Hid ((jn (l.map prText) (k + 1)).data.toList = u.data.toList ++ prText o) := by
            show _ = _
            rw [hjm, app_list hu]; simp
          have hszu : u.size ≤ 2199023255552 := by omega
          clear hu ht s0 hjm h0 hgm
          obtain ⟨u1, hu1⟩ : ∃ u1, u1 = u ++ o.1 := ⟨_, rfl⟩
          obtain ⟨u2, hu2⟩ : ∃ u2, u2 = u1 ++ (⟨#[61]⟩ : ByteArray) := ⟨_, rfl⟩
          obtain ⟨u3, hu3⟩ : ∃ u3, u3 = u2 ++ o.2 := ⟨_, rfl⟩
          have s1 := app_size hu1
          have s2 : u2.size = u1.size + 1 := app_size hu2
          have a1 := add_str u o.1 u1 hu1 (by omega)
          have a2 := add_str u1 ⟨#[61]⟩ u2 hu2 (by show u1.size + 1 ≤ _; omega)
          have a3 := add_str u2 o.2 u3 hu3 (by omega)
          have HJ : Hid (u3 = jn (l.map prText) (k + 1)) := by
            show _ = _
            apply bytes_ext
            rw [HNX.out, app_list hu3, app_list hu2, app_list hu1]
            simp [prText]
          clear hu1 hu2 hu3 s1 s2 hszu hsz hpl hmem hrm2
          go_wp2_with fail
          go_quiet (fail)
          go_wp2_with fail
          go_roundw
          case rel => exact ⟨k + 1, by go_num, by omega, by rw [HJ.out], below_drewN hB _⟩
          case measure => simp [intOf]; omega
      · have hki : ¬ (k : Int) < (l.length : Int) := by omega
        obtain rfl : k = l.length := by omega
        go_wp2_with fail
        go_ret
        exact ⟨ret_str HJJ.out.symm, hB⟩

end Go.Proofs.Ytefjbpkomphjdaa.txts

namespace Go.Proofs.Ytefjbpkomphjdaa.ords
open Go Go.RowKit Go.Proofs.Ytefjbpkomphjdaa.base Go.Proofs.Ytefjbpkomphjdaa.pairs
set_option linter.unusedVariables false
set_option linter.unusedSimpArgs false

/-! ### orders that rise -/
end Go.Proofs.Ytefjbpkomphjdaa.ords
