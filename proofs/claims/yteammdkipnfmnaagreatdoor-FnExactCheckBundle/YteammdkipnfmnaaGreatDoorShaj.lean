/- The specification's putting of keys. The specification's right pairs, and pairs put into others. The specification's check of an item. Marks on rows of structs. No function of the program is named here. Reading a number: the program's and the specification's GetNum answer as one and the same function. The specification's GetNum answers as the same function. Reading a text: the program's and the specification's GetText answer as one and the same function. Reading a list of texts: the program's and the specification's GetTexts answer as one and the same function. Plain mathematics: numbers and texts come back of their bytes. Plain mathematics of orders: what is told of them, their bytes, and that these come back. Bundles: what is checked. Mathematics, and how rows of proofs are read. -/
import Derived.Test.YteammdkipnfmnaaGreatDoorShai
import Derived.Test.YteammdkipnfmnaaGreatDoorShac
import Derived.Test.YteammdkipnfmnaaGreatDoorShah
import Derived.Test.YteammdkipnfmnaaGreatDoorShag
import Derived.Test.YteammdkipnfmnaaGreatDoorRows
import Derived.Test.YteammdkipnfmnaaGreatDoorShaa
import Derived.Laws.BytesArg
import Derived.Test.YteammdkipnfmnaaGreatDoorShae
import Derived.Test.YteammdkipnfmnaaGreatDoorShaf
namespace Go.Proofs.YteammdkipnfmnaaGreatDoor.pairs
open Go Go.RowKit Go.Proofs.YteammdkipnfmnaaGreatDoor.base
set_option linter.unusedVariables false
set_option linter.unusedSimpArgs false

theorem getKey_none {key : ByteArray} {l : List Pr} (h : getKey key l = none) (k : Nat) (hk : k < l.length) : l[k].1 ≠ key := by
  intro e
  have h2 := getKey_append key (l.take k) (l.drop k)
  rw [List.take_append_drop, h, getKey_drop key l k hk, if_pos e] at h2
  cases h3 : getKey key (l.take k) <;> rw [h3] at h2 <;> cases h2
theorem put_found {key val : ByteArray} {l : List Pr} (k : Nat) (hk : k < l.length) (he : l[k].1 = key) (hn : getKey key (l.take k) = none) : putKey key val l = l.set k (l[k].1, val) := by
  have h2 := getKey_append key (l.take k) (l.drop k)
  rw [List.take_append_drop, hn, getKey_drop key l k hk, if_pos he] at h2
  unfold putKey
  rw [h2, if_pos (by rfl), setFirst_at key val l k hk he hn, he]
theorem put_new {key val : ByteArray} {l : List Pr} (hn : getKey key l = none) : putKey key val l = l.take (below key l) ++ (key, val) :: l.drop (below key l) := by
  unfold putKey; rw [hn]; rfl
theorem take_none (key : ByteArray) (l : List Pr) (k : Nat) (hk : k < l.length) (hn : getKey key (l.take k) = none) (he : l[k].1 ≠ key) : getKey key (l.take (k + 1)) = none := by
  rw [take_snocP l k hk]; exact getKey_snoc_none key _ _ hn he
theorem less_flip {a b : ByteArray} (h : a ≠ b) : Op.bytesLess a.toList b.toList = !Op.bytesLess b.toList a.toList := by
  cases h1 : Op.bytesLess b.toList a.toList
  · cases h2 : Op.bytesLess a.toList b.toList
    · exact absurd (ltB_total (a := a) (b := b) h2 h1) h
    · rfl
  · exact ltB_asymm (a := b) (b := a) h1
theorem cellsP_drop {w : World} {b off : Nat} {l : List Pr} (h : CellsP w b off l) (k : Nat) : CellsP w b (off + k * 2) (l.drop k) := by
  intro i hi
  have hki : k + i < l.length := by simp at hi; omega
  have := h (k + i) hki
  rw [List.getElem_drop, show off + k * 2 + i * 2 = off + (k + i) * 2 by omega]
  exact this
theorem cellsP_take {w : World} {b off : Nat} {l : List Pr} (h : CellsP w b off l) (k : Nat) : CellsP w b off (l.take k) := by
  intro i hi
  rw [List.getElem_take]
  exact h i (by simp at hi; omega)

set_option maxRecDepth 100000 in
set_option maxHeartbeats 2000000 in
theorem spec_putKey (b off len cap : Nat) (l : List Pr) (key val : ByteArray) (w : World) (h : SlP w (some ⟨b, off, none⟩) len l) (hcap : len ≤ cap) (hsz : len ≤ 1099511627776) (hks : key.size ≤ maxLen) (hvs : val.size ≤ maxLen) :
    Calls Tryz.prog 72 #[.slice (some ⟨b, off, none⟩) len cap, .string key, .string val] w fun e w' =>
      ∃ g' n' cap', e = .returned (.slice (some ⟨g', 0, none⟩) n' cap') ∧ OwnP w' w.heap.size g' n' cap' (putKey key val l) ∧ Below w.heap.size w w' := by
  obtain ⟨i0, hif, hz0, hz1, hz2⟩ := info_parts infoP
  have hl := h.1
  have hsm := h.2.2.1
  subst hl
  have hba : Below w.heap.size w (w.alloc (.cells #[] 34)) := (Below.refl _ _).alloc (Nat.le_refl _) _
  have HC := Hid.mk' (cells_pairs (h.below hba).cells)
  have hn0 := pairVals_length l
  have hm1 : 0 + l.length ≤ maxLen := by unfold maxLen; omega
  have hm2 : (0 + l.length) * 32 ≤ 140737488355328 := by omega
  have hown0 := (ownP_made w w.heap.size (Nat.le_refl _)).2.2
  go_enter Tryz.func72, Tryz.ntmps72
  go_wp2_with (at_builtin; refine wpList_append_own _ rfl (.tmp 10) (.tmp 11) 30 rfl w.heap.size 34 i0 (.agg #[.string ⟨#[]⟩, .string ⟨#[]⟩]) 2 32 Tryz.underlying30 hif hz0 hz1 hz2 rfl (by decide) _ _ _ rfl hown0 ⟨b, off, none⟩ l.length cap (pairVals l) rfl hn0 HC.out (pairVals_oneCell _) hm1 hm2 (le_alloc _ _ (Nat.le_refl _)) ?_)
  intro v1 w1 hown hgrow hnn
  have hnn' : ¬ v1 = .slice none 0 0 := by simpa using hnn
  obtain ⟨g1, cap1, hv, hO1⟩ := ownP_val rfl hsm hnn' (by simpa [pairVals] using hown)
  subst hv
  have hB1 : Below w.heap.size w w1 := hba.grown hgrow (le_alloc _ _ (Nat.le_refl _)) (fun k e => by simp [Value.ownBlock] at e; omega)
  clear hown hgrow hnn hnn' hown0 HC hn0 hm1 hm2 hba
  go_wp2_with (at_builtin; fail)
  go_loop [8] (fun i => ∃ k : Nat, k ≤ l.length ∧ i = .int .i64 (k : Int) ∧ getKey key (l.take k) = none) (fun i => l.length - (intOf i).toNat)
  case atStart => exact ⟨0, Nat.zero_le _, rfl, rfl⟩
  case round =>
    obtain ⟨k, hk, rfl, hno⟩ := hrel
    by_cases hlt : k < l.length
    · have c1 := hO1.key k hlt
      have c2 := hO1.val k hlt
      have hki : (k : Int) < (l.length : Int) := by omega
      by_cases he : l[k].1 = key
      · have HF : Hid (putKey key val l = l.set k (l[k].1, val)) := put_found k hlt he hno
        have hfz := hO1.frozen (k * 2 + 1)
        have hR := hO1.setVal k hlt val hvs
        rw [← HF.out] at hR
        have HR := Hid.mk' hR
        rw [he] at c1
        clear hno hR
        go_wp2_with (at_builtin; fail)
        go_ret
        exact ⟨_, _, _, rfl, HR.out.1, hB1.trans (below_grown HR.out.2 hO1.lt.1 hB1.size)⟩
      · have HF : Hid (getKey key (l.take (k + 1)) = none) := take_none key l k hlt hno he
        have hq := str_ne he
        clear hno he
        go_wp2_with (at_builtin; fail)
        go_round
        case rel => exact ⟨k + 1, by omega, by go_num, HF.out⟩
        case measure => simp [intOf]; omega
    · have hnone : getKey key l = none := by rw [List.take_of_length_le (by omega)] at hno; exact hno
      have HP := Hid.mk' (put_new (val := val) hnone)
      have hne := getKey_none hnone
      have hSl := h.below hB1
      obtain ⟨B, hBe⟩ : ∃ B, below key l = B := ⟨_, rfl⟩
      have hBl : B ≤ l.length := by rw [← hBe]; exact below_le key l
      rw [hBe] at HP
      have HB := Hid.mk' hBe
      clear hno hnone hBe
      go_wp2_with (at_builtin; fail)
      go_loop [9] (fun i => ∃ k : Nat, k ≤ l.length ∧ i = .int .i64 (k : Int) ∧ below key (l.drop k) + k = B) (fun i => l.length - (intOf i).toNat)
      case atStart => exact ⟨0, Nat.zero_le _, rfl, HB.out⟩
      case round =>
        obtain ⟨k, hk2, rfl, hr⟩ := hrel
        by_cases hlt2 : k < l.length ∧ Op.bytesLess key.toList (l[k]!).1.toList = false
        · obtain ⟨hlt2, hb⟩ := hlt2
          rw [getElem!_pos l k hlt2] at hb
          have c1 := (hSl.cells k hlt2).1
          have hst := below_drop key l k hlt2
          rw [if_neg (by show ¬ Op.bytesLess _ _ = true; rw [hb]; simp)] at hst
          have HF : Hid (below key (l.drop (k + 1)) + (k + 1) = B) := by show _ = _; omega
          have hq := str_ne (hne k hlt2)
          have hlf := less_flip (hne k hlt2)
          rw [hb] at hlf
          have hki : (k : Int) < (l.length : Int) := by omega
          generalize l[k].1 = kk at *
          clear hr hst hb hne
          go_wp2_with (at_builtin; fail)
          go_round
          case rel => exact ⟨k + 1, by omega, by go_num, HF.out⟩
          case measure => simp [intOf]; omega
        · have HE : Hid (k = B) := by
            show k = B
            by_cases h3 : k < l.length
            · have hst := below_drop key l k h3
              have : Op.bytesLess key.toList l[k].1.toList = true := by
                cases h4 : Op.bytesLess key.toList l[k].1.toList
                · exact absurd ⟨h3, by rw [getElem!_pos l k h3]; exact h4⟩ hlt2
                · rfl
              rw [if_pos (show ltB key l[k].1 = true from this)] at hst
              omega
            · rw [List.drop_eq_nil_of_le (by omega)] at hr
              have : below key [] = 0 := rfl
              omega
          have hcond : k < l.length → ∃ kk, w1.cell? ⟨b, off + k * 2, none⟩ = some (.string kk) ∧ Op.bytesLess kk.toList key.toList = false ∧ (kk.toList == key.toList) = false := by
            intro h3
            refine ⟨l[k].1, (hSl.cells k h3).1, ?_, str_ne (hne k h3)⟩
            rw [less_flip (hne k h3)]
            cases h4 : Op.bytesLess key.toList l[k].1.toList
            · exact absurd ⟨h3, by rw [getElem!_pos l k h3]; exact h4⟩ hlt2
            · rfl
          clear hr hlt2 hne
          by_cases h3 : k < l.length
          · obtain ⟨kk, c1, q1, q2⟩ := hcond h3
            have hki : (k : Int) < (l.length : Int) := by omega
            clear hcond
            have hba2 : Below w1.heap.size w1 (w1.alloc (.cells #[] 34)) := (Below.refl _ _).alloc (Nat.le_refl _) _
            have HC2 := Hid.mk' (cells_pairs (cellsP_take (hSl.below hba2).cells k))
            have hn2 : (pairVals (l.take k)).length = k * 2 := by rw [pairVals_length, List.length_take_of_le hk2]
            have hm3 : 0 + k ≤ maxLen := by unfold maxLen; omega
            have hm4 : (0 + k) * 32 ≤ 140737488355328 := by omega
            have hm5 : k + 1 ≤ maxLen := by unfold maxLen; omega
            have hm6 : (k + 1) * 32 ≤ 140737488355328 := by omega
            have hown2 := (ownP_made w1 w.heap.size hB1.size).2.2
            have hbw1 : w.heap.size ≤ w1.heap.size := hB1.size
            have hkc : (k : Int) ≤ (cap : Int) := by omega
            have hkl : (k : Int) ≤ (l.length : Int) := by omega
            go_wp2_with (at_builtin; refine wpList_append_own _ rfl (.tmp 47) (.tmp 50) 30 rfl w.heap.size 34 i0 (.agg #[.string ⟨#[]⟩, .string ⟨#[]⟩]) 2 32 Tryz.underlying30 hif hz0 hz1 hz2 rfl (by decide) _ _ _ rfl hown2 ⟨b, off, none⟩ k cap (pairVals (l.take k)) rfl hn2 HC2.out (pairVals_oneCell _) hm3 hm4 (le_alloc _ _ hbw1) ?_)
            intro v2 w2 hown hgrow hnn
            have hnn' : ¬ v2 = .slice none 0 0 := by simpa using hnn
            obtain ⟨g2, cap2, hv, hO2⟩ := ownP_val (l := l.take k) (n := k) (List.length_take_of_le hk2) (take_small hsm k) hnn' (by simpa [pairVals] using hown)
            subst hv
            have hBx : Below w.heap.size w1 (w1.alloc (.cells #[] 34)) := (Below.refl _ _).alloc hbw1 _
            have hB2 : Below w.heap.size w1 w2 := hBx.grown hgrow (le_alloc _ _ hbw1) (fun k e => by simp [Value.ownBlock] at e; omega)
            have hB2' : Below w.heap.size w w2 := hB1.trans hB2
            have hbw2 : w.heap.size ≤ w2.heap.size := hB2'.size
            clear hown hgrow hnn hnn' hown2 HC2 hn2 hm3 hm4 hba2 hBx hB2
            go_wp2_with (at_builtin; refine wpList_append_own _ rfl (.tmp 51) (.tmp 55) 30 rfl w.heap.size 34 i0 (.agg #[.string ⟨#[]⟩, .string ⟨#[]⟩]) 2 32 Tryz.underlying30 hif hz0 hz1 hz2 rfl (by decide) _ _ _ rfl (hO2.2.2.alloc _) ⟨w2.heap.size, 0, none⟩ 1 1 (pairVals [(key, val)]) rfl rfl (one_pair_cells _ (key, val) _) (pairVals_oneCell _) hm5 hm6 (le_alloc _ _ hbw2) ?_)
            intro v3 w3 hown hgrow hnn
            obtain ⟨g3, cap3, hv, hO3⟩ := ownP_app hO2.1 hO2.2.1 ⟨hks, hvs⟩ hnn hown
            subst hv
            have hB3 : Below w.heap.size w w3 := (hB2'.alloc hbw2 _).grown hgrow (le_alloc _ _ hbw2) (fun k e => by simp [Value.ownBlock] at e; have := hO2.lt; omega)
            have hbw3 : w.heap.size ≤ w3.heap.size := hB3.size
            have hSl3 := h.below hB3
            have hm7 : k + 1 + (l.length - k) ≤ maxLen := by unfold maxLen; omega
            have hm8 : (k + 1 + (l.length - k)) * 32 ≤ 140737488355328 := by omega
            have hn4 : (pairVals (l.drop k)).length = (l.length - k) * 2 := by rw [pairVals_length, List.length_drop]
            clear hown hgrow hnn hO2 hB2' hm5 hm6
            have hck : ¬ cap = k := by omega
            have HC4 := Hid.mk' (cells_pairs (cellsP_drop hSl3.cells k))
            go_wp2_with (at_builtin; refine wpList_append_own _ rfl (.tmp 57) (.tmp 60) 30 rfl w.heap.size 34 i0 (.agg #[.string ⟨#[]⟩, .string ⟨#[]⟩]) 2 32 Tryz.underlying30 hif hz0 hz1 hz2 rfl (by decide) _ _ _ rfl hO3.2.2 ⟨b, off + k * 2, none⟩ (l.length - k) (cap - k) (pairVals (l.drop k)) rfl hn4 HC4.out (pairVals_oneCell _) hm7 hm8 hbw3 ?_)
            intro v4 w4 hown hgrow hnn
            have hnn' : ¬ v4 = .slice none 0 0 := by simpa using hnn
            rw [← pairVals_append] at hown
            obtain ⟨g4, cap4, hv, hO4⟩ := ownP_val (n := k + 1 + (l.length - k)) (by simp; omega) (fun q hq => by
              rcases List.mem_append.1 hq with h1 | h1
              · exact hO3.2.1 q h1
              · exact hsm q (List.mem_of_mem_drop h1)) hnn' hown
            subst hv
            have hB4 : Below w.heap.size w w4 := hB3.grown hgrow hbw3 (fun k e => by simp [Value.ownBlock] at e; have := hO3.lt; omega)
            have HO4 := Hid.mk' hO4
            clear hown hgrow hnn hnn' hO4
            go_wp2_with (at_builtin; fail)
            go_ret
            refine ⟨g4, _, cap4, rfl, ?_, hB4⟩
            rw [HP.out, ← HE.out]
            have := HO4.out
            rw [List.append_assoc] at this
            exact this
          · clear hcond
            have hkl' : l.length = k := by omega
            have HDR : Hid (l.drop k = []) := List.drop_eq_nil_of_le (by omega)
            have hba2 : Below w1.heap.size w1 (w1.alloc (.cells #[] 34)) := (Below.refl _ _).alloc (Nat.le_refl _) _
            have HC2 := Hid.mk' (cells_pairs (cellsP_take (hSl.below hba2).cells k))
            have hn2 : (pairVals (l.take k)).length = k * 2 := by rw [pairVals_length, List.length_take_of_le hk2]
            have hm3 : 0 + k ≤ maxLen := by unfold maxLen; omega
            have hm4 : (0 + k) * 32 ≤ 140737488355328 := by omega
            have hm5 : k + 1 ≤ maxLen := by unfold maxLen; omega
            have hm6 : (k + 1) * 32 ≤ 140737488355328 := by omega
            have hown2 := (ownP_made w1 w.heap.size hB1.size).2.2
            have hbw1 : w.heap.size ≤ w1.heap.size := hB1.size
            have hkc : (k : Int) ≤ (cap : Int) := by omega
            have hkl : (k : Int) ≤ (l.length : Int) := by omega
            clear hkl'
            go_wp2_with (at_builtin; refine wpList_append_own _ rfl (.tmp 47) (.tmp 50) 30 rfl w.heap.size 34 i0 (.agg #[.string ⟨#[]⟩, .string ⟨#[]⟩]) 2 32 Tryz.underlying30 hif hz0 hz1 hz2 rfl (by decide) _ _ _ rfl hown2 ⟨b, off, none⟩ k cap (pairVals (l.take k)) rfl hn2 HC2.out (pairVals_oneCell _) hm3 hm4 (le_alloc _ _ hbw1) ?_)
            intro v2 w2 hown hgrow hnn
            have hnn' : ¬ v2 = .slice none 0 0 := by simpa using hnn
            obtain ⟨g2, cap2, hv, hO2⟩ := ownP_val (l := l.take k) (n := k) (List.length_take_of_le hk2) (take_small hsm k) hnn' (by simpa [pairVals] using hown)
            subst hv
            have hBx : Below w.heap.size w1 (w1.alloc (.cells #[] 34)) := (Below.refl _ _).alloc hbw1 _
            have hB2 : Below w.heap.size w1 w2 := hBx.grown hgrow (le_alloc _ _ hbw1) (fun k e => by simp [Value.ownBlock] at e; omega)
            have hB2' : Below w.heap.size w w2 := hB1.trans hB2
            have hbw2 : w.heap.size ≤ w2.heap.size := hB2'.size
            clear hown hgrow hnn hnn' hown2 HC2 hn2 hm3 hm4 hba2 hBx hB2
            go_wp2_with (at_builtin; refine wpList_append_own _ rfl (.tmp 51) (.tmp 55) 30 rfl w.heap.size 34 i0 (.agg #[.string ⟨#[]⟩, .string ⟨#[]⟩]) 2 32 Tryz.underlying30 hif hz0 hz1 hz2 rfl (by decide) _ _ _ rfl (hO2.2.2.alloc _) ⟨w2.heap.size, 0, none⟩ 1 1 (pairVals [(key, val)]) rfl rfl (one_pair_cells _ (key, val) _) (pairVals_oneCell _) hm5 hm6 (le_alloc _ _ hbw2) ?_)
            intro v3 w3 hown hgrow hnn
            obtain ⟨g3, cap3, hv, hO3⟩ := ownP_app hO2.1 hO2.2.1 ⟨hks, hvs⟩ hnn hown
            subst hv
            have hB3 : Below w.heap.size w w3 := (hB2'.alloc hbw2 _).grown hgrow (le_alloc _ _ hbw2) (fun k e => by simp [Value.ownBlock] at e; have := hO2.lt; omega)
            have hbw3 : w.heap.size ≤ w3.heap.size := hB3.size
            have hSl3 := h.below hB3
            have hm7 : k + 1 + (l.length - k) ≤ maxLen := by unfold maxLen; omega
            have hm8 : (k + 1 + (l.length - k)) * 32 ≤ 140737488355328 := by omega
            have hn4 : (pairVals (l.drop k)).length = (l.length - k) * 2 := by rw [pairVals_length, List.length_drop]
            clear hown hgrow hnn hO2 hB2' hm5 hm6
            by_cases hck : cap = k
            · have HC4 : Hid (∀ j v, (pairVals (l.drop k))[j]? = some v → w3.cell? ((⟨b, off, none⟩ : Addr).add j) = some v) := by
                show ∀ j v, _ → _
                intro j v hj
                rw [HDR.out] at hj
                simp [pairVals] at hj
              go_wp2_with (at_builtin; refine wpList_append_own _ rfl (.tmp 57) (.tmp 60) 30 rfl w.heap.size 34 i0 (.agg #[.string ⟨#[]⟩, .string ⟨#[]⟩]) 2 32 Tryz.underlying30 hif hz0 hz1 hz2 rfl (by decide) _ _ _ rfl hO3.2.2 ⟨b, off, none⟩ (l.length - k) _ (pairVals (l.drop k)) rfl hn4 HC4.out (pairVals_oneCell _) hm7 hm8 hbw3 ?_)
              intro v4 w4 hown hgrow hnn
              have hnn' : ¬ v4 = .slice none 0 0 := by simpa using hnn
              rw [← pairVals_append] at hown
              obtain ⟨g4, cap4, hv, hO4⟩ := ownP_val (n := k + 1 + (l.length - k)) (by simp; omega) (fun q hq => by
                rcases List.mem_append.1 hq with h1 | h1
                · exact hO3.2.1 q h1
                · exact hsm q (List.mem_of_mem_drop h1)) hnn' hown
              subst hv
              have hB4 : Below w.heap.size w w4 := hB3.grown hgrow hbw3 (fun k e => by simp [Value.ownBlock] at e; have := hO3.lt; omega)
              have HO4 := Hid.mk' hO4
              clear hown hgrow hnn hnn' hO4
              go_wp2_with (at_builtin; fail)
              go_ret
              refine ⟨g4, _, cap4, rfl, ?_, hB4⟩
              rw [HP.out, ← HE.out]
              have := HO4.out
              rw [List.append_assoc] at this
              exact this
            · have HC4 : Hid (∀ j v, (pairVals (l.drop k))[j]? = some v → w3.cell? ((⟨b, off + k * 2, none⟩ : Addr).add j) = some v) := by
                show ∀ j v, _ → _
                intro j v hj
                rw [HDR.out] at hj
                simp [pairVals] at hj
              go_wp2_with (at_builtin; refine wpList_append_own _ rfl (.tmp 57) (.tmp 60) 30 rfl w.heap.size 34 i0 (.agg #[.string ⟨#[]⟩, .string ⟨#[]⟩]) 2 32 Tryz.underlying30 hif hz0 hz1 hz2 rfl (by decide) _ _ _ rfl hO3.2.2 ⟨b, off + k * 2, none⟩ (l.length - k) _ (pairVals (l.drop k)) rfl hn4 HC4.out (pairVals_oneCell _) hm7 hm8 hbw3 ?_)
              intro v4 w4 hown hgrow hnn
              have hnn' : ¬ v4 = .slice none 0 0 := by simpa using hnn
              rw [← pairVals_append] at hown
              obtain ⟨g4, cap4, hv, hO4⟩ := ownP_val (n := k + 1 + (l.length - k)) (by simp; omega) (fun q hq => by
                rcases List.mem_append.1 hq with h1 | h1
                · exact hO3.2.1 q h1
                · exact hsm q (List.mem_of_mem_drop h1)) hnn' hown
              subst hv
              have hB4 : Below w.heap.size w w4 := hB3.grown hgrow hbw3 (fun k e => by simp [Value.ownBlock] at e; have := hO3.lt; omega)
              have HO4 := Hid.mk' hO4
              clear hown hgrow hnn hnn' hO4
              go_wp2_with (at_builtin; fail)
              go_ret
              refine ⟨g4, _, cap4, rfl, ?_, hB4⟩
              rw [HP.out, ← HE.out]
              have := HO4.out
              rw [List.append_assoc] at this
              exact this

end Go.Proofs.YteammdkipnfmnaaGreatDoor.pairs

namespace Go.Proofs.YteammdkipnfmnaaGreatDoor.pairs
open Go Go.RowKit Go.Proofs.YteammdkipnfmnaaGreatDoor.base
set_option linter.unusedVariables false
set_option linter.unusedSimpArgs false

theorem keepC {W w' : World} {b o : Nat} {v : Value} (hb : Below W.heap.size W w') (h : W.cell? ⟨b, o, none⟩ = some v) : w'.cell? ⟨b, o, none⟩ = some v :=
  (hb.cell (p := ⟨b, o, none⟩) (World.block_lt_of_cell? W _ h)).trans h
theorem keepB2 {W w' : World} {b o1 o2 : Nat} {v1 v2 : Value} (hb : Below W.heap.size W w') (h : W.cell? ⟨b, o1, none⟩ = some v1 ∧ W.cell? ⟨b, o2, none⟩ = some v2) :
    w'.cell? ⟨b, o1, none⟩ = some v1 ∧ w'.cell? ⟨b, o2, none⟩ = some v2 := ⟨keepC hb h.1, keepC hb h.2⟩
end Go.Proofs.YteammdkipnfmnaaGreatDoor.pairs

namespace Go.Proofs.YteammdkipnfmnaaGreatDoor.range
open Go Go.RowKit Go.Proofs.YteammdkipnfmnaaGreatDoor.base Go.Proofs.YteammdkipnfmnaaGreatDoor.pairs Go.Proofs.YteammdkipnfmnaaGreatDoor.tree
set_option linter.unusedVariables false
set_option linter.unusedSimpArgs false

def limI (x : It) : Prop := lim x.1 ∧ ∀ s ∈ x.2, s.size ≤ 137438953472
def ItJ (w : World) (b o : Nat) (x : It) : Prop :=
  w.cell? ⟨b, o, none⟩ = some (.string x.1.1) ∧ w.cell? ⟨b, o + 1, none⟩ = some (.string x.1.2) ∧ ∃ pb po pc, w.cell? ⟨b, o + 2, none⟩ = some (.slice (some ⟨pb, po, none⟩) x.2.length pc) ∧ SlS w (some ⟨pb, po, none⟩) x.2.length x.2 ∧ x.2.length ≤ pc
theorem ItJ.below {w w' : World} {b o : Nat} {x : It} (h : ItJ w b o x) (hb : Below w.heap.size w w') : ItJ w' b o x := by
  have keep : ∀ o v, w.cell? ⟨b, o, none⟩ = some v → w'.cell? ⟨b, o, none⟩ = some v := fun o v hv => (hb.cell (p := ⟨b, o, none⟩) (World.block_lt_of_cell? w _ hv)).trans hv
  obtain ⟨h1, h2, pb, po, pc, h3, h4, h5⟩ := h
  exact ⟨keep _ _ h1, keep _ _ h2, pb, po, pc, keep _ _ h3, h4.below hb, h5⟩
def SlJ (w : World) (a : Option Addr) (len : Nat) (l : List It) : Prop :=
  l.length = len ∧ len ≤ 1099511627776 ∧ (∀ x ∈ l, limI x) ∧ (0 < len → ∃ b off, a = some ⟨b, off, none⟩ ∧ ∀ i (h : i < l.length), ItJ w b (off + i * 3) l[i])
theorem SlJ.below {w w' : World} {a : Option Addr} {len : Nat} {l : List It} (h : SlJ w a len l) (hb : Below w.heap.size w w') : SlJ w' a len l := by
  obtain ⟨h1, h2, h3, h4⟩ := h
  refine ⟨h1, h2, h3, fun h0 => ?_⟩
  obtain ⟨b, off, e, hc⟩ := h4 h0
  exact ⟨b, off, e, fun i hi => (hc i hi).below hb⟩
theorem SlJ.at {w : World} {b off len : Nat} {l : List It} (h : SlJ w (some ⟨b, off, none⟩) len l) (i : Nat) (hi : i < l.length) : ItJ w b (off + i * 3) l[i] := by
  obtain ⟨b', off', e, hc⟩ := h.2.2.2 (by have := h.1; omega)
  simp only [Option.some.injEq, Addr.mk.injEq, and_true] at e
  obtain ⟨rfl, rfl⟩ := e
  exact hc i hi
theorem OwnI.slJ {w : World} {base n cap : Nat} {a : Option Addr} {l : List It} {hs : List Hd} (h : OwnI w base (.slice a n cap) l hs) (hl : l.length ≤ 1099511627776) (hx : ∀ x ∈ l, limI x) : SlJ w a n l := by
  rcases h.shape with ⟨e, rfl, _⟩ | ⟨g, c, e, h1, h2⟩
  · cases e; exact ⟨rfl, Nat.zero_le _, hx, fun h => absurd h (by omega)⟩
  · cases e
    refine ⟨rfl, hl, hx, fun _ => ⟨g, 0, rfl, fun i hi => ?_⟩⟩
    obtain ⟨c1, c2, c3⟩ := h.at i hi
    rw [Nat.zero_add]
    have hp := h.paths i hi
    obtain ⟨yg, yn, yc, hy⟩ : ∃ yg yn yc, (hs[i]'(by have := h.len; omega)) = (yg, yn, yc) := ⟨_, _, _, rfl⟩
    simp only [hy] at c3 hp
    exact ⟨c1, c2, yg, 0, yc, by rw [hp.1]; exact c3, by rw [hp.1]; exact hp.sl, by rw [hp.1]; exact hp.cases.1⟩

def V3 (w : World) (g : Nat) (t : TypeId) (x y z : Value) : Prop := w.heap[g]? = some (.cells #[x, y, z] t (0, 0))
section
variable {w w' : World} {g : Nat} {t : TypeId} {x y z : Value}
theorem V3.c0 (h : V3 w g t x y z) : w.cell? ⟨g, 0, none⟩ = some x := cell_cur h 0 _ rfl
theorem V3.c1 (h : V3 w g t x y z) : w.cell? ⟨g, 1, none⟩ = some y := cell_cur h 1 _ rfl
theorem V3.c2 (h : V3 w g t x y z) : w.cell? ⟨g, 2, none⟩ = some z := cell_cur h 2 _ rfl
theorem V3.lt (h : V3 w g t x y z) : g < w.heap.size := (Array.getElem?_eq_some_iff.1 h).1
theorem V3.below (h : V3 w g t x y z) (hb : Below w.heap.size w w') : V3 w' g t x y z := (hb.block g h.lt).trans h
end

theorem itemOk_parts (root : ByteArray) (n fr : Int) (l : List It) (k : Nat) (hk : k < l.length) : ∃ r : Bool, itemOkAt root ⟨n, fr, l⟩ k = (pairOk l[k].1 && checkPathI l[k].1 (fr + (k : Int)) n l[k].2 root && r) ∧ (k = 0 → r = true) ∧ (∀ j (hj : j < l.length), k = j + 1 → r = ltB l[j].1.1 l[k].1.1) := by
  cases k with
  | zero => exact ⟨true, by rw [itemOk_zero root ⟨n, fr, l⟩ hk]; simp, fun _ => rfl, fun j _ e => by omega⟩
  | succ j => exact ⟨ltB l[j].1.1 l[j + 1].1.1, by rw [itemOk_succ root ⟨n, fr, l⟩ j hk], fun e => by omega, fun i hi e => by
    have e2 : i = j := by omega
    subst e2; rfl⟩

set_option maxRecDepth 100000 in
set_option maxHeartbeats 1000000 in
theorem spec_l5Item (root : ByteArray) (n fr : Int) (b off cap k : Nat) (l : List It) (w : World) (h : SlJ w (some ⟨b, off, none⟩) l.length l) (hk : k < l.length) (hfr : 0 ≤ fr ∧ fr ≤ 60) :
    Calls Tryz.prog 69 #[.string root, .agg #[.int .i64 n, .int .i64 fr, .slice (some ⟨b, off, none⟩) l.length cap], .int .i64 (k : Int)] w fun e w' => e = .returned (.bool (itemOkAt root ⟨n, fr, l⟩ k)) ∧ Below w.heap.size w w' := by
  have hll := h.2.1
  obtain ⟨c1, c2, pb, po, pc, c3, hS, hpc⟩ := h.at k hk
  have hbb : b < w.heap.size := World.block_lt_of_cell? w _ c1
  obtain ⟨hlp, hls⟩ := h.2.2.1 l[k] (List.getElem_mem hk)
  have hki : (k : Int) < (l.length : Int) := by omega
  have hsum : IntKind.i64.wrap (fr + (k : Int)) = fr + (k : Int) := by rw [IntKind.wrap_i64]; omega
  obtain ⟨W0, hW0⟩ : ∃ W, W = w.alloc (.cells #[.int .i64 n, .int .i64 fr, .slice (some ⟨b, off, none⟩) l.length cap] 64) := ⟨_, rfl⟩
  obtain ⟨W, hW⟩ : ∃ W, W = W0.alloc (.cells #[.string l[k].1.1, .string l[k].1.2, .slice (some ⟨pb, po, none⟩) l[k].2.length pc] 107) := ⟨_, rfl⟩
  have hs0 : W0.heap.size = w.heap.size + 1 := by rw [hW0]; simp
  have hB0 : Below w.heap.size w W0 := by rw [hW0]; exact (Below.refl _ _).alloc (Nat.le_refl _) _
  have hB : Below w.heap.size w W := by rw [hW]; exact hB0.alloc hB0.size _
  have hF : V3 W w.heap.size 64 (.int .i64 n) (.int .i64 fr) (.slice (some ⟨b, off, none⟩) l.length cap) := by
    have h0 : V3 W0 w.heap.size 64 (.int .i64 n) (.int .i64 fr) (.slice (some ⟨b, off, none⟩) l.length cap) := by rw [hW0]; exact heap_alloc_new w _
    rw [hW]; exact h0.below ((Below.refl _ _).alloc (Nat.le_refl _) _)
  have hX : V3 W (w.heap.size + 1) 107 (.string l[k].1.1) (.string l[k].1.2) (.slice (some ⟨pb, po, none⟩) l[k].2.length pc) := by
    rw [hW, ← hs0]; exact heap_alloc_new W0 _
  have HW : Hid (((w.alloc (.cells #[.int .i64 n, .int .i64 fr, .slice (some ⟨b, off, none⟩) l.length cap] 64)).alloc (.cells #[.string l[k].1.1, .string l[k].1.2, .slice (some ⟨pb, po, none⟩) l[k].2.length pc] 107)) = W) := by show _ = _; rw [hW, hW0]
  have hPO := spec_pairOk l[k].1 W ⟨by have := hlp.1; unfold maxLen; omega, by have := hlp.2; unfold maxLen; omega⟩ (by have := hlp.1; omega)
  have HCP : Hid (∀ wx, Below w.heap.size w wx → Calls Tryz.prog 108 #[.agg #[.string l[k].1.1, .string l[k].1.2], .int .i64 (fr + (k : Int)), .int .i64 n, .slice (some ⟨pb, po, none⟩) l[k].2.length pc, .string root] wx fun e w' => e = .returned (.bool (checkPathI l[k].1 (fr + (k : Int)) n l[k].2 root)) ∧ Below wx.heap.size wx w') :=
    fun wx hx => spec_checkPath l[k].1 (fr + (k : Int)) n pb po pc l[k].2 root wx hlp (hS.below hx) hls hpc
  obtain ⟨r, hok, hr0, hr1⟩ := itemOk_parts root n fr l k hk
  clear hW hW0 hs0 hB0
  cases hP1 : pairOk l[k].1 with
  | false =>
    rw [hP1] at hPO hok
    have HO : Hid (itemOkAt root ⟨n, fr, l⟩ k = false) := by show _ = _; rw [hok]; simp
    have HPO := Hid.mk' hPO
    clear hPO hok hP1 HCP h hS hr0 hr1
    obtain ⟨x, hx⟩ : ∃ x, l[k] = x := ⟨_, rfl⟩
    simp only [hx] at HPO HW hX c1 c2 c3 hlp hls hpc
    clear hx
    go_enter Tryz.func69, Tryz.ntmps69
    go_wp2_with fail
    rw [HW.out]
    refine HPO.out.mono ?_
    rintro e w1 ⟨rfl, hb1⟩
    have hB1 := hB.trans (hb1.mono hB.size)
    clear HW HPO
    go_wp2_with fail
    go_ret
    exact ⟨ret_bool (by rw [HO.out]), hB1⟩
  | true =>
    rw [hP1] at hPO hok
    have HPO := Hid.mk' hPO
    have HC := Hid.mk' hok
    have HH := Hid.mk' h
    have HR0 := Hid.mk' hr0
    have HR1 := Hid.mk' hr1
    clear hPO hok hP1 hS h hr0 hr1
    obtain ⟨x, hx⟩ : ∃ x, l[k] = x := ⟨_, rfl⟩
    simp only [hx] at HPO HC HCP HW hX c1 c2 c3 hlp hls hpc HR1
    clear hx
    go_enter Tryz.func69, Tryz.ntmps69
    go_wp2_with fail
    rw [HW.out]
    refine HPO.out.mono ?_
    rintro e w1 ⟨rfl, hb1⟩
    have hB1 := hB.trans (hb1.mono hB.size)
    have F1 := hF.below hb1
    have X1 := hX.below hb1
    have a0 := F1.c0
    have a1 := F1.c1
    have x0 := X1.c0
    have x1 := X1.c1
    have x2 := X1.c2
    have HF1 := Hid.mk' F1
    have HX1 := Hid.mk' X1
    have hCP : ∀ I, Hid (I = fr + (k : Int)) → Calls Tryz.prog 108 #[.agg #[.string x.1.1, .string x.1.2], .int .i64 I, .int .i64 n, .slice (some ⟨pb, po, none⟩) x.2.length pc, .string root] w1 fun e w' => e = .returned (.bool (checkPathI x.1 (fr + (k : Int)) n x.2 root)) ∧ Below w1.heap.size w1 w' := fun I hI => by
      have e := hI.out
      subst e
      exact HCP.out w1 hB1
    clear HW HPO hF hX F1 X1 hb1 hB HCP
    cases hCk : checkPathI x.1 (fr + (k : Int)) n x.2 root with
    | false =>
      rw [hCk] at hCP HC
      have HCP := Hid.mk' hCP
      have HO : Hid (itemOkAt root ⟨n, fr, l⟩ k = false) := by show _ = _; rw [HC.out]; simp
      clear hCP HC hCk
      go_wp2_with fail
      refine (HCP.out _ (by show _ = _; omega)).mono ?_
      rintro e w2 ⟨rfl, hb2⟩
      have hB2 := hB1.trans (hb2.mono hB1.size)
      clear HCP a0 a1 x0 x1 x2
      go_wp2_with fail
      go_ret
      exact ⟨ret_bool (by rw [HO.out]), hB2⟩
    | true =>
      rw [hCk] at hCP HC
      have HCP := Hid.mk' hCP
      clear hCP hCk
      by_cases hk0 : k = 0
      · subst hk0
        have HO : Hid (itemOkAt root ⟨n, fr, l⟩ 0 = true) := by show _ = _; rw [HC.out, HR0.out rfl]; rfl
        clear HC
        go_wp2_with fail
        refine (HCP.out _ (by show _ = _; omega)).mono ?_
        rintro e w2 ⟨rfl, hb2⟩
        have hB2 := hB1.trans (hb2.mono hB1.size)
        clear HCP a0 a1 x0 x1 x2
        go_wp2_with fail
        go_quiet (fail)
        go_wp2_with fail
        go_ret
        exact ⟨ret_bool (by rw [HO.out]), below_drewN hB2 _⟩
      · obtain ⟨j, rfl⟩ : ∃ j, k = j + 1 := ⟨k - 1, by omega⟩
        have hj : j < l.length := by omega
        have d1 := (HH.out.at j hj).1
        have HO : Hid (itemOkAt root ⟨n, fr, l⟩ (j + 1) = ltB l[j].1.1 x.1.1) := by show _ = _; rw [HC.out, HR1.out j hj rfl]; simp
        obtain ⟨q, hq⟩ : ∃ q, l[j].1.1 = q := ⟨_, rfl⟩
        rw [hq] at d1 HO
        clear HC hq
        go_wp2_with fail
        refine (HCP.out _ (by show _ = _; omega)).mono ?_
        rintro e w2 ⟨rfl, hb2⟩
        have hB2 := hB1.trans (hb2.mono hB1.size)
        have F2 := HF1.out.below hb2
        have X2 := HX1.out.below hb2
        have e2 := F2.c2
        have y0 := X2.c0
        have d2 := (hB2.cell (p := ⟨b, off + j * 3, none⟩) hbb).trans d1
        have hji : (j : Int) < (l.length : Int) := by omega
        have hkz : ¬ ((j + 1 : Nat) : Int) = 0 := by omega
        have hkz2 : ((j : Int) + 1 == 0) = false := by simp; omega
        have hjw : IntKind.i64.wrap (j : Int) = (j : Int) := by rw [IntKind.wrap_i64]; omega
        have hkm : ((j + 1 : Nat) : Int) - 1 = (j : Int) := by omega
        clear HCP a0 a1 x0 x1 x2 HF1 HX1 F2 X2 d1
        cases hb : ltB q x.1.1 with
        | true =>
          rw [hb] at HO
          have hq : Op.bytesLess q.toList x.1.1.toList = true := hb
          clear hb
          go_wp2_with fail
          go_quiet (fail)
          go_wp2_with fail
          go_ret
          exact ⟨ret_bool (by rw [HO.out]), below_drewN hB2 _⟩
        | false =>
          rw [hb] at HO
          have hq : Op.bytesLess q.toList x.1.1.toList = false := hb
          clear hb
          go_wp2_with fail
          go_quiet (fail)
          go_wp2_with fail
          go_ret
          exact ⟨ret_bool (by rw [HO.out]), below_drewN hB2 _⟩
end Go.Proofs.YteammdkipnfmnaaGreatDoor.range

namespace Go.Proofs.YteammdkipnfmnaaGreatDoor.lay
open Go Go.RowKit Go.Proofs.YteammdkipnfmnaaGreatDoor.base
set_option linter.unusedVariables false
set_option linter.unusedSimpArgs false

section
variable {α : Type}
def cntTo (cnt : α → Nat) (l : List α) (i : Nat) : Nat := ((l.take i).map cnt).sum
def cntAll (cnt : α → Nat) (l : List α) : Nat := (l.map cnt).sum
theorem cntTo_zero (cnt : α → Nat) (l : List α) : cntTo cnt l 0 = 0 := rfl
theorem cntTo_succ (cnt : α → Nat) (l : List α) (i : Nat) (h : i < l.length) : cntTo cnt l (i + 1) = cntTo cnt l i + cnt l[i] := by
  unfold cntTo
  rw [List.take_succ_eq_append_getElem h, List.map_append, List.sum_append]; simp
theorem cntTo_all (cnt : α → Nat) (l : List α) : cntTo cnt l l.length = cntAll cnt l := by unfold cntTo cntAll; rw [List.take_length]
theorem cntTo_le (cnt : α → Nat) (l : List α) (i : Nat) : cntTo cnt l i ≤ cntAll cnt l := by
  unfold cntTo cntAll
  conv => rhs; rw [← List.take_append_drop i l]
  rw [List.map_append, List.sum_append]; omega
def markF (m : Nat → α → α) (cnt : α → Nat) (k0 : Nat) (l : List α) (i : Nat) (x : α) : α := m (k0 + cntTo cnt l i) x
def markRow (m : Nat → α → α) (cnt : α → Nat) (k0 : Nat) (l : List α) : List α := l.mapIdx (markF m cnt k0 l)
theorem set_at {l : List α} {i : Nat} {x : α} (h : i < l.length) : (l.set i x)[i]'(by simpa using h) = x := by simp
end
theorem OwnG.open {α : Type} {ty : TypeId} {R : Rd α} {w : World} {g n cap : Nat} {l : List α} {q : Parts} (h : OwnG ty R w (.slice (some ⟨g, 0, none⟩) n cap) l q) (i : Nat) (hi : i < l.length) :
    ∃ us F, R.own w us l[i] F ∧ (∀ j u, us[j]? = some u → w.cell? ⟨g, i * R.size + j, none⟩ = some u) ∧ (∀ k ∈ F, k ∈ blocksOf q) ∧ ∀ (w' : World) (x' : α) (G : List Nat), Frame G w w' → (∀ k ∈ G, k ∈ F) → R.own w' us x' F → OwnG ty R w' (.slice (some ⟨g, 0, none⟩) n cap) (l.set i x') q := by
  have hl := h.len
  have hn := h.nlen
  subst hn
  refine ⟨_, _, h.each i hi, fun j u hj => ?_, fun k hk => List.mem_flatMap.2 ⟨_, List.getElem_mem _, hk⟩, fun w' x' G hf hG hx => h.inner i hi x' hf hG hx⟩
  have hp := h.parts
  have hjl := (List.getElem?_eq_some_iff.1 hj).1
  rw [hp _ (List.getElem_mem _)] at hjl
  have hin : i * R.size + j < l.length * R.size := by
    have := Nat.mul_le_mul_right R.size (show i + 1 ≤ l.length from hi)
    rw [Nat.add_mul] at this; omega
  rw [h.row.cellAt (i * R.size + j) hin, cellsOf_get hp i (by omega) j hjl]
  exact hj
end Go.Proofs.YteammdkipnfmnaaGreatDoor.lay

namespace Go.Proofs.YteammdkipnfmnaaGreatDoor.getnum
open Go.RowKit Go.Proofs.YteammdkipnfmnaaGreatDoor.base Go.Proofs.YteammdkipnfmnaaGreatDoor.help
set_option linter.unusedVariables false
set_option linter.unusedSimpArgs false

end Go.Proofs.YteammdkipnfmnaaGreatDoor.getnum

namespace Go.Proofs.YteammdkipnfmnaaGreatDoor.getnum
open Go.RowKit Go.Proofs.YteammdkipnfmnaaGreatDoor.base Go.Proofs.YteammdkipnfmnaaGreatDoor.help
set_option linter.unusedVariables false
set_option linter.unusedSimpArgs false

end Go.Proofs.YteammdkipnfmnaaGreatDoor.getnum

namespace Go.Proofs.YteammdkipnfmnaaGreatDoor.gettext
open Go.RowKit Go.Proofs.YteammdkipnfmnaaGreatDoor.base Go.Proofs.YteammdkipnfmnaaGreatDoor.help Go.Proofs.YteammdkipnfmnaaGreatDoor.getnum
set_option linter.unusedVariables false
set_option linter.unusedSimpArgs false

end Go.Proofs.YteammdkipnfmnaaGreatDoor.gettext

namespace Go.Proofs.YteammdkipnfmnaaGreatDoor.gettexts
open Go.RowKit Go.Proofs.YteammdkipnfmnaaGreatDoor.base Go.Proofs.YteammdkipnfmnaaGreatDoor.help Go.Proofs.YteammdkipnfmnaaGreatDoor.helps Go.Proofs.YteammdkipnfmnaaGreatDoor.getnum Go.Proofs.YteammdkipnfmnaaGreatDoor.gettext
set_option linter.unusedVariables false
set_option linter.unusedSimpArgs false

end Go.Proofs.YteammdkipnfmnaaGreatDoor.gettexts

namespace Go.Proofs.YteammdkipnfmnaaGreatDoor.nummath
open Go.RowKit Go.Proofs.YteammdkipnfmnaaGreatDoor.base Go.Proofs.YteammdkipnfmnaaGreatDoor.help Go.Proofs.YteammdkipnfmnaaGreatDoor.getnum Go.Proofs.YteammdkipnfmnaaGreatDoor.putnum Go.Proofs.YteammdkipnfmnaaGreatDoor.gettext Go.Proofs.YteammdkipnfmnaaGreatDoor.puttext Go.Proofs.YteammdkipnfmnaaGreatDoor.gettexts Go.Proofs.YteammdkipnfmnaaGreatDoor.puttexts
set_option linter.unusedVariables false
set_option linter.unusedSimpArgs false

end Go.Proofs.YteammdkipnfmnaaGreatDoor.nummath

namespace Go.Proofs.YteammdkipnfmnaaGreatDoor.ords
open Go Go.RowKit Go.Proofs.YteammdkipnfmnaaGreatDoor.base Go.Proofs.YteammdkipnfmnaaGreatDoor.pairs Go.Proofs.YteammdkipnfmnaaGreatDoor.putnum Go.Proofs.YteammdkipnfmnaaGreatDoor.puttext Go.Proofs.YteammdkipnfmnaaGreatDoor.getnum Go.Proofs.YteammdkipnfmnaaGreatDoor.gettext Go.Proofs.YteammdkipnfmnaaGreatDoor.gettexts Go.Proofs.YteammdkipnfmnaaGreatDoor.nummath
set_option linter.unusedVariables false

abbrev Od := Int × ByteArray × ByteArray
def shardOf (key : ByteArray) (n : Int) : Int := if n < 1 then 0 else (hashOf key.data.toList : Int) % n
/-! ### orders that are right -/
/-! ### bytes of numbers and texts, read -/
/-! ### orders come back of their bytes -/
/-! ### behind orders -/
/-! ### shards -/
end Go.Proofs.YteammdkipnfmnaaGreatDoor.ords

namespace Go.Proofs.YteammdkipnfmnaaGreatDoor.bun
open Go Go.RowKit Go.Proofs.YteammdkipnfmnaaGreatDoor.base Go.Proofs.YteammdkipnfmnaaGreatDoor.pairs Go.Proofs.YteammdkipnfmnaaGreatDoor.lay Go.Proofs.YteammdkipnfmnaaGreatDoor.range Go.Proofs.YteammdkipnfmnaaGreatDoor.seals
set_option linter.unusedVariables false
set_option linter.unusedSimpArgs false

def partB (n : Nat) (lo hi : ByteArray) (roots : List ByteArray) (proofs : List Pf) (k : Nat) : Option (List Pr) := match roots[k]?, proofs[k]? with
  | some r, some f => match check r lo hi ⟨f.1, f.2.1, f.2.2⟩ with
    | some l => if l.all (fun p => decide (ords.shardOf p.1 (n : Int) = (k : Int))) = true then some l else none
    | none => none
  | _, _ => none
def sumB (n : Nat) (lo hi : ByteArray) (roots : List ByteArray) (proofs : List Pf) : Nat → Option (List Pr)
  | 0 => some []
  | k + 1 => match sumB n lo hi roots proofs k, partB n lo hi roots proofs k with
    | some o, some l => some (unionOf o l)
    | _, _ => none
def checkB (super lo hi : ByteArray) (x : Bun) : Option (List Pr) :=
  if superOf x.1 x.2.1 x.2.2.1 = super ∧ (1 ≤ x.2.2.1.length ∧ x.2.2.1.length ≤ 8) ∧ x.2.2.2.length = x.2.2.1.length then sumB x.2.2.1.length lo hi x.2.2.1 x.2.2.2 x.2.2.1.length else none
section
variable {n : Nat} {lo hi : ByteArray} {roots : List ByteArray} {proofs : List Pf}
theorem partB_at {k : Nat} (h1 : k < roots.length) (h2 : k < proofs.length) : partB n lo hi roots proofs k = match check roots[k] lo hi ⟨proofs[k].1, proofs[k].2.1, proofs[k].2.2⟩ with
    | some l => if l.all (fun p => decide (ords.shardOf p.1 (n : Int) = (k : Int))) = true then some l else none
    | none => none := by
  unfold partB
  rw [List.getElem?_eq_getElem h1, List.getElem?_eq_getElem h2]
theorem sumB_none {k : Nat} (h : partB n lo hi roots proofs k = none) : ∀ m, k < m → sumB n lo hi roots proofs m = none := by
  intro m
  induction m with
  | zero => intro h; omega
  | succ m ih =>
    intro hk
    unfold sumB
    by_cases e : k = m
    · subst e; rw [h]; split <;> simp_all
    · rw [ih (by omega)]
theorem sumB_succ {k : Nat} {o l : List Pr} (h1 : sumB n lo hi roots proofs k = some o) (h2 : partB n lo hi roots proofs k = some l) : sumB n lo hi roots proofs (k + 1) = some (unionOf o l) := by
  show (match sumB n lo hi roots proofs k, partB n lo hi roots proofs k with
    | some o, some l => some (unionOf o l)
    | _, _ => none) = _
  rw [h1, h2]
end
theorem union_len (a b : List Pr) : (unionOf a b).length ≤ a.length + b.length := by
  unfold unionOf
  induction b generalizing a with
  | nil => simp
  | cons p b ih =>
    rw [List.foldl_cons]
    have h1 := ih (putKey p.1 p.2 a)
    have h2 := (putKey_length p.1 p.2 a).1
    simp only [List.length_cons]
    omega
theorem check_len {root lo hi : ByteArray} {f : Prf} {l : List Pr} (h : check root lo hi f = some l) : l.length ≤ f.items.length := by
  unfold check at h
  split at h
  · split at h
    · cases h; exact Nat.zero_le _
    · cases h
  · split at h
    · cases h
    · split at h
      · cases h
      · split at h
        · cases h
        · cases h
          refine Nat.le_trans (List.length_filter_le _ _) ?_
          unfold keysOf
          simp
def PJ (w : World) (a : Option Addr) (n : Nat) (l : List Pf) : Prop :=
  l.length = n ∧ n ≤ maxLen ∧ (0 < n → ∃ b off, a = some ⟨b, off, none⟩ ∧ ∀ i (h : i < l.length), ∃ ia ic, w.cell? ⟨b, off + i * 3, none⟩ = some (.int .i64 l[i].1) ∧ w.cell? ⟨b, off + i * 3 + 1, none⟩ = some (.int .i64 l[i].2.1) ∧ w.cell? ⟨b, off + i * 3 + 2, none⟩ = some (.slice ia l[i].2.2.length ic) ∧ SlJ w ia l[i].2.2.length l[i].2.2 ∧ (Lit.int .i64 l[i].1).wf = true ∧ (Lit.int .i64 l[i].2.1).wf = true)
theorem PJ.below {w w' : World} {a : Option Addr} {n : Nat} {l : List Pf} (h : PJ w a n l) (hb : Below w.heap.size w w') : PJ w' a n l := by
  have keep : ∀ b o v, w.cell? ⟨b, o, none⟩ = some v → w'.cell? ⟨b, o, none⟩ = some v := fun b o v hv => (hb.cell (p := ⟨b, o, none⟩) (World.block_lt_of_cell? w _ hv)).trans hv
  obtain ⟨h1, h2, h3⟩ := h
  refine ⟨h1, h2, fun h0 => ?_⟩
  obtain ⟨b, off, e, hi⟩ := h3 h0
  refine ⟨b, off, e, fun i hl => ?_⟩
  obtain ⟨ia, ic, c0, c1, c2, hs, k1, k2⟩ := hi i hl
  exact ⟨ia, ic, keep _ _ _ c0, keep _ _ _ c1, keep _ _ _ c2, hs.below hb, k1, k2⟩
theorem pj_own {w : World} {v : Value} {a : Option Addr} {n c : Nat} {l : List Pf} {q : Parts} (h : OwnG 64 proofR w (.slice a n c) l q) (hm : ∀ x ∈ l, x.2.2.length ≤ 1099511627776 ∧ ∀ y ∈ x.2.2, limI y) : PJ w a n l := by
  have hs := h.sl
  refine ⟨hs.1, hs.2.1, fun h0 => ?_⟩
  rcases h.shape with ⟨e, rfl, _⟩ | ⟨g, cap, e, _, _⟩
  · have := hs.1; simp at this; omega
  · cases e
    refine ⟨g, 0, rfl, fun i hi => ?_⟩
    obtain ⟨us, F, hx, hc, _, _⟩ := h.open i hi
    obtain ⟨u, rfl, k1, k2, v', hs', e, _, hI⟩ := proof_own.1 hx
    cases e
    have c0 := hc 0 _ rfl
    have c1 := hc 1 _ rfl
    have c2 := hc 2 _ rfl
    simp only [Nat.zero_add, Nat.add_zero] at c0 c1 c2 ⊢
    have hmi := hm l[i] (List.getElem_mem hi)
    rcases hI.shape with ⟨rfl, e2, _⟩ | ⟨g2, cap2, rfl, _, _⟩
    · have hJ := hI.slJ hmi.1 hmi.2
      rw [e2] at hJ ⊢
      exact ⟨none, 0, c0, c1, c2, hJ, k1, k2⟩
    · exact ⟨_, _, c0, c1, c2, hI.slJ hmi.1 hmi.2, k1, k2⟩
end Go.Proofs.YteammdkipnfmnaaGreatDoor.bun
