/- The program's putting of keys. The program's pairs between two ends. -/
import Derived.Test.YtdeaiefhegjalaaGreatBund12aw
namespace Go.Proofs.YtdeaiefhegjalaaGreat.pairs
open Go Go.RowKit Go.Proofs.YtdeaiefhegjalaaGreat.base
set_option linter.unusedVariables false
set_option linter.unusedSimpArgs false

/-- the two cells of a pair that was boxed -/
theorem box_cell (w w' : World) (x y : ByteArray) (hB : Below (w.alloc (.cells #[.string x, .string y] 60)).heap.size (w.alloc (.cells #[.string x, .string y] 60)) w') :
    w'.cell? ⟨w.heap.size, 0, none⟩ = some (.string x) ∧ w'.cell? ⟨w.heap.size, 1, none⟩ = some (.string y) := by
  have hlt : w.heap.size < (w.alloc (.cells #[.string x, .string y] 60)).heap.size := by simp
  refine ⟨(hB.cell (p := ⟨w.heap.size, 0, none⟩) hlt).trans ?_, (hB.cell (p := ⟨w.heap.size, 1, none⟩) hlt).trans ?_⟩
  · simp
  · simp

set_option maxRecDepth 100000 in
set_option maxHeartbeats 4000000 in
theorem with_new (b off cap : Nat) (l : List Pr) (key val : ByteArray) (w : World) (h : SlP w (some ⟨b, off, none⟩) l.length l) (hcap : l.length ≤ cap) (hsz : l.length ≤ 1099511627776) (hks : key.size ≤ maxLen) (hvs : val.size ≤ maxLen)
    (k : Nat) (hk : k ≤ l.length)
    (HP : Hid (∀ wx, SlP wx (some ⟨b, off, none⟩) l.length l → Calls Tryz.prog 196 #[.slice (some ⟨b, off, none⟩) l.length cap, .string key] wx fun e w' => e = .returned (.tuple #[.int .i64 (k : Int), .bool false]) ∧ Below wx.heap.size wx w')) :
    Calls Tryz.prog 187 #[.slice (some ⟨b, off, none⟩) l.length cap, .agg #[.string key, .string val]] w fun e w' =>
      ∃ g' n' cap', e = .returned (.slice (some ⟨g', 0, none⟩) n' cap') ∧ OwnP w' w.heap.size g' n' cap' (l.take k ++ (key, val) :: l.drop k) ∧ Below w.heap.size w w' := by
  obtain ⟨i0, hif, hz0, hz1, hz2⟩ := info_parts infoP
  have hsm := h.2.2.1
  have hmt := i_meth
  have hbA : Below w.heap.size w (w.alloc (.cells #[.string key, .string val] 60)) := (Below.refl _ _).alloc (Nat.le_refl _) _
  have hbK : Below (w.alloc (.cells #[.string key, .string val] 60)).heap.size (w.alloc (.cells #[.string key, .string val] 60)) ((w.alloc (.cells #[.string key, .string val] 60)).alloc (.cells #[.string key, .string val] 60)) := (Below.refl _ _).alloc (Nat.le_refl _) _
  have HA := Hid.mk' (HP.out _ ((h.below hbA).below hbK))
  have hBA := Hid.mk' hbA
  have hBK := Hid.mk' hbK
  clear hbA hbK HP
  go_enter Tryz.func187, Tryz.ntmps187
  go_wp2_with fail
  refine (i_key (key, val) _).mono ?_
  rintro e w2 ⟨rfl, rfl⟩
  go_wp2_with fail
  refine HA.out.mono ?_
  rintro e w3 ⟨rfl, hb3⟩
  have hB3 : Below (w.alloc (.cells #[.string key, .string val] 60)).heap.size (w.alloc (.cells #[.string key, .string val] 60)) w3 := hBK.out.trans (hb3.mono hBK.out.size)
  obtain ⟨base, hbase⟩ : ∃ base, (w.alloc (.cells #[.string key, .string val] 60)).heap.size = base := ⟨_, rfl⟩
  have hwb : w.heap.size ≤ base := by rw [← hbase]; exact hBA.out.size
  have hbox := fun wx hx => box_cell w wx key val (hbase ▸ hx)
  have hbs3 : base ≤ w3.heap.size := by rw [← hbase]; exact hB3.size
  rw [hbase] at hB3
  have HAll : Hid (∀ wx, Below base (w.alloc (.cells #[.string key, .string val] 60)) wx → Below w.heap.size w wx) := fun wx hx => hBA.out.trans (hx.mono hwb)
  have HBox := Hid.mk' hbox
  clear hb3 hBK hBA HA hbase hbox
  have hSl3 := h.below (HAll.out _ hB3)
  obtain ⟨c, hc⟩ : ∃ c : Nat, l.length + 1 = c := ⟨_, rfl⟩
  have hcI : (l.length : Int) + 1 = (c : Int) := by omega
  have hmk1 : c ≤ maxLen := by unfold maxLen; omega
  have hmk2 : i0.bytes * c ≤ 281474976710656 := by rw [hz2]; omega
  go_wp2_with (at_make; refine wpList_make_own _ rfl _ _ 208 rfl base 60 i0 (.agg #[.string ⟨#[]⟩, .string ⟨#[]⟩]) 2 Tryz.underlying208 hif hz0 hz1 _ _ _ c rfl rfl (by omega) hmk2 hmk1 hbs3 ?_)
  intro w4 hown hgrow
  have hO4 : OwnP w4 base w3.heap.size 0 c [] := ⟨rfl, fun s h => absurd h List.not_mem_nil, hown⟩
  have hB4 := hB3.grown hgrow hbs3 (fun k e => by cases e)
  have hbs4 : base ≤ w4.heap.size := Nat.le_trans hbs3 hgrow.size
  have HC1 := Hid.mk' (cells_pairs (cellsP_take (h.below (HAll.out _ hB4)).cells k))
  have hn1 : (pairVals (l.take k)).length = k * 2 := by rw [pairVals_length, List.length_take_of_le (by omega)]
  have hm3 : 0 + k ≤ maxLen := by unfold maxLen; omega
  have hm4 : (0 + k) * 32 ≤ 140737488355328 := by omega
  have hkc : (k : Int) ≤ (cap : Int) := by omega
  have hown4 := hO4.2.2
  clear hown hgrow hB3 hSl3 hmk1 hmk2 hcI
  go_wp2_with (at_builtin; refine wpList_append_own _ rfl (.tmp 25) (.tmp 28) 208 rfl base 60 i0 (.agg #[.string ⟨#[]⟩, .string ⟨#[]⟩]) 2 32 Tryz.underlying208 hif hz0 hz1 hz2 rfl (by decide) _ _ _ rfl hown4 ⟨b, off, none⟩ k cap (pairVals (l.take k)) rfl hn1 HC1.out (pairVals_oneCell _) hm3 hm4 hbs4 ?_)
  intro v5 w5 hown hgrow hnn
  have hnn' : ¬ v5 = .slice none 0 0 := by simpa using hnn
  obtain ⟨g5, cap5, hv, hO5⟩ := ownP_val (l := l.take k) (n := k) (List.length_take_of_le (by omega)) (take_small hsm k) hnn' (by simpa [pairVals] using hown)
  subst hv
  have hB5 := hB4.grown hgrow hbs4 (fun k e => by simp [Value.ownBlock] at e; have := hO4.lt; omega)
  have hbs5 : base ≤ w5.heap.size := Nat.le_trans hbs4 hgrow.size
  obtain ⟨cb0, cb1⟩ := HBox.out _ hB5
  have hm5 : k + 1 ≤ maxLen := by unfold maxLen; omega
  have hm6 : (k + 1) * 32 ≤ 140737488355328 := by omega
  clear hown hgrow hnn hnn' hown4 hO4 hB4 HC1 hn1 hm3 hm4 HBox
  go_wp2_with (at_builtin; refine wpList_append_own _ rfl (.tmp 30) (.tmp 32) 208 rfl base 60 i0 (.agg #[.string ⟨#[]⟩, .string ⟨#[]⟩]) 2 32 Tryz.underlying208 hif hz0 hz1 hz2 rfl (by decide) _ _ _ rfl (hO5.2.2.alloc _) ⟨w5.heap.size, 0, none⟩ 1 1 (pairVals [(key, val)]) rfl rfl (one_pair_cells _ (key, val) _) (pairVals_oneCell _) hm5 hm6 (le_alloc _ _ hbs5) ?_)
  intro v6 w6 hown hgrow hnn
  obtain ⟨g6, cap6, hv, hO6⟩ := ownP_app hO5.1 hO5.2.1 ⟨hks, hvs⟩ hnn hown
  subst hv
  have hB6 := (hB5.alloc hbs5 _).grown hgrow (le_alloc _ _ hbs5) (fun k e => by simp [Value.ownBlock] at e; have := hO5.lt; omega)
  have hbs6 : base ≤ w6.heap.size := Nat.le_trans (le_alloc _ _ hbs5) hgrow.size
  have hSl6 := h.below (HAll.out _ hB6)
  have hm7 : k + 1 + (l.length - (k)) ≤ maxLen := by unfold maxLen; omega
  have hm8 : (k + 1 + (l.length - (k))) * 32 ≤ 140737488355328 := by omega
  have hn7 : (pairVals (l.drop (k))).length = (l.length - (k)) * 2 := by rw [pairVals_length, List.length_drop]
  clear hown hgrow hnn hO5 hB5 hm5 hm6
  by_cases hck : cap = k
  · have HC7 : Hid (∀ j v, (pairVals (l.drop (k)))[j]? = some v → w6.cell? ((⟨b, off, none⟩ : Addr).add j) = some v) := by
      show ∀ j v, _ → _
      intro j v hj
      rw [List.drop_eq_nil_of_le (by omega)] at hj
      simp [pairVals] at hj
    go_wp2_with (at_builtin; refine wpList_append_own _ rfl (.tmp 34) (.tmp 37) 208 rfl base 60 i0 (.agg #[.string ⟨#[]⟩, .string ⟨#[]⟩]) 2 32 Tryz.underlying208 hif hz0 hz1 hz2 rfl (by decide) _ _ _ rfl hO6.2.2 ⟨b, off, none⟩ (l.length - (k)) _ (pairVals (l.drop (k))) rfl hn7 HC7.out (pairVals_oneCell _) hm7 hm8 hbs6 ?_)
    intro v7 w7 hown hgrow hnn
    have hnn' : ¬ v7 = .slice none 0 0 := by simpa using hnn
    rw [← pairVals_append] at hown
    obtain ⟨g7, cap7, hv, hO7⟩ := ownP_val (n := k + 1 + (l.length - (k))) (by simp; omega) (fun q hq => by
      rcases List.mem_append.1 hq with h1 | h1
      · exact hO6.2.1 q h1
      · exact hsm q (List.mem_of_mem_drop h1)) hnn' hown
    subst hv
    have hB7 := HAll.out _ (hB6.grown hgrow hbs6 (fun k e => by simp [Value.ownBlock] at e; have := hO6.lt; omega))
    have HO7 := Hid.mk' (hO7.mono hwb)
    clear hown hgrow hnn hnn' hO7
    go_wp2_with (at_builtin; fail)
    go_ret
    refine ⟨g7, _, cap7, rfl, ?_, hB7⟩
    have := HO7.out
    rw [List.append_assoc] at this
    exact this
  · have HC7 := Hid.mk' (cells_pairs (cellsP_drop hSl6.cells (k)))
    go_wp2_with (at_builtin; refine wpList_append_own _ rfl (.tmp 34) (.tmp 37) 208 rfl base 60 i0 (.agg #[.string ⟨#[]⟩, .string ⟨#[]⟩]) 2 32 Tryz.underlying208 hif hz0 hz1 hz2 rfl (by decide) _ _ _ rfl hO6.2.2 ⟨b, off + (k) * 2, none⟩ (l.length - (k)) _ (pairVals (l.drop (k))) rfl hn7 HC7.out (pairVals_oneCell _) hm7 hm8 hbs6 ?_)
    intro v7 w7 hown hgrow hnn
    have hnn' : ¬ v7 = .slice none 0 0 := by simpa using hnn
    rw [← pairVals_append] at hown
    obtain ⟨g7, cap7, hv, hO7⟩ := ownP_val (n := k + 1 + (l.length - (k))) (by simp; omega) (fun q hq => by
      rcases List.mem_append.1 hq with h1 | h1
      · exact hO6.2.1 q h1
      · exact hsm q (List.mem_of_mem_drop h1)) hnn' hown
    subst hv
    have hB7 := HAll.out _ (hB6.grown hgrow hbs6 (fun k e => by simp [Value.ownBlock] at e; have := hO6.lt; omega))
    have HO7 := Hid.mk' (hO7.mono hwb)
    clear hown hgrow hnn hnn' hO7
    go_wp2_with (at_builtin; fail)
    go_ret
    refine ⟨g7, _, cap7, rfl, ?_, hB7⟩
    have := HO7.out
    rw [List.append_assoc] at this
    exact this

set_option maxRecDepth 100000 in
set_option maxHeartbeats 4000000 in
theorem with_found (b off cap : Nat) (l : List Pr) (key val : ByteArray) (w : World) (h : SlP w (some ⟨b, off, none⟩) l.length l) (hcap : l.length ≤ cap) (hsz : l.length ≤ 1099511627776) (hks : key.size ≤ maxLen) (hvs : val.size ≤ maxLen)
    (k : Nat) (hk : k < l.length)
    (HP : Hid (∀ wx, SlP wx (some ⟨b, off, none⟩) l.length l → Calls Tryz.prog 196 #[.slice (some ⟨b, off, none⟩) l.length cap, .string key] wx fun e w' => e = .returned (.tuple #[.int .i64 (k : Int), .bool true]) ∧ Below wx.heap.size wx w')) :
    Calls Tryz.prog 187 #[.slice (some ⟨b, off, none⟩) l.length cap, .agg #[.string key, .string val]] w fun e w' =>
      ∃ g' n' cap', e = .returned (.slice (some ⟨g', 0, none⟩) n' cap') ∧ OwnP w' w.heap.size g' n' cap' (l.take k ++ (key, val) :: l.drop (k + 1)) ∧ Below w.heap.size w w' := by
  obtain ⟨i0, hif, hz0, hz1, hz2⟩ := info_parts infoP
  have hsm := h.2.2.1
  have hmt := i_meth
  have hbA : Below w.heap.size w (w.alloc (.cells #[.string key, .string val] 60)) := (Below.refl _ _).alloc (Nat.le_refl _) _
  have hbK : Below (w.alloc (.cells #[.string key, .string val] 60)).heap.size (w.alloc (.cells #[.string key, .string val] 60)) ((w.alloc (.cells #[.string key, .string val] 60)).alloc (.cells #[.string key, .string val] 60)) := (Below.refl _ _).alloc (Nat.le_refl _) _
  have HA := Hid.mk' (HP.out _ ((h.below hbA).below hbK))
  have hBA := Hid.mk' hbA
  have hBK := Hid.mk' hbK
  clear hbA hbK HP
  go_enter Tryz.func187, Tryz.ntmps187
  go_wp2_with fail
  refine (i_key (key, val) _).mono ?_
  rintro e w2 ⟨rfl, rfl⟩
  go_wp2_with fail
  refine HA.out.mono ?_
  rintro e w3 ⟨rfl, hb3⟩
  have hB3 : Below (w.alloc (.cells #[.string key, .string val] 60)).heap.size (w.alloc (.cells #[.string key, .string val] 60)) w3 := hBK.out.trans (hb3.mono hBK.out.size)
  obtain ⟨base, hbase⟩ : ∃ base, (w.alloc (.cells #[.string key, .string val] 60)).heap.size = base := ⟨_, rfl⟩
  have hwb : w.heap.size ≤ base := by rw [← hbase]; exact hBA.out.size
  have hbox := fun wx hx => box_cell w wx key val (hbase ▸ hx)
  have hbs3 : base ≤ w3.heap.size := by rw [← hbase]; exact hB3.size
  rw [hbase] at hB3
  have HAll : Hid (∀ wx, Below base (w.alloc (.cells #[.string key, .string val] 60)) wx → Below w.heap.size w wx) := fun wx hx => hBA.out.trans (hx.mono hwb)
  have HBox := Hid.mk' hbox
  clear hb3 hBK hBA HA hbase hbox
  have hSl3 := h.below (HAll.out _ hB3)
  obtain ⟨c, hc⟩ : ∃ c : Nat, l.length + 1 = c := ⟨_, rfl⟩
  have hcI : (l.length : Int) + 1 = (c : Int) := by omega
  have hmk1 : c ≤ maxLen := by unfold maxLen; omega
  have hmk2 : i0.bytes * c ≤ 281474976710656 := by rw [hz2]; omega
  go_wp2_with (at_make; refine wpList_make_own _ rfl _ _ 208 rfl base 60 i0 (.agg #[.string ⟨#[]⟩, .string ⟨#[]⟩]) 2 Tryz.underlying208 hif hz0 hz1 _ _ _ c rfl rfl (by omega) hmk2 hmk1 hbs3 ?_)
  intro w4 hown hgrow
  have hO4 : OwnP w4 base w3.heap.size 0 c [] := ⟨rfl, fun s h => absurd h List.not_mem_nil, hown⟩
  have hB4 := hB3.grown hgrow hbs3 (fun k e => by cases e)
  have hbs4 : base ≤ w4.heap.size := Nat.le_trans hbs3 hgrow.size
  have HC1 := Hid.mk' (cells_pairs (cellsP_take (h.below (HAll.out _ hB4)).cells k))
  have hn1 : (pairVals (l.take k)).length = k * 2 := by rw [pairVals_length, List.length_take_of_le (by omega)]
  have hm3 : 0 + k ≤ maxLen := by unfold maxLen; omega
  have hm4 : (0 + k) * 32 ≤ 140737488355328 := by omega
  have hkc : (k : Int) ≤ (cap : Int) := by omega
  have hown4 := hO4.2.2
  clear hown hgrow hB3 hSl3 hmk1 hmk2 hcI
  go_wp2_with (at_builtin; refine wpList_append_own _ rfl (.tmp 25) (.tmp 28) 208 rfl base 60 i0 (.agg #[.string ⟨#[]⟩, .string ⟨#[]⟩]) 2 32 Tryz.underlying208 hif hz0 hz1 hz2 rfl (by decide) _ _ _ rfl hown4 ⟨b, off, none⟩ k cap (pairVals (l.take k)) rfl hn1 HC1.out (pairVals_oneCell _) hm3 hm4 hbs4 ?_)
  intro v5 w5 hown hgrow hnn
  have hnn' : ¬ v5 = .slice none 0 0 := by simpa using hnn
  obtain ⟨g5, cap5, hv, hO5⟩ := ownP_val (l := l.take k) (n := k) (List.length_take_of_le (by omega)) (take_small hsm k) hnn' (by simpa [pairVals] using hown)
  subst hv
  have hB5 := hB4.grown hgrow hbs4 (fun k e => by simp [Value.ownBlock] at e; have := hO4.lt; omega)
  have hbs5 : base ≤ w5.heap.size := Nat.le_trans hbs4 hgrow.size
  obtain ⟨cb0, cb1⟩ := HBox.out _ hB5
  have hm5 : k + 1 ≤ maxLen := by unfold maxLen; omega
  have hm6 : (k + 1) * 32 ≤ 140737488355328 := by omega
  clear hown hgrow hnn hnn' hown4 hO4 hB4 HC1 hn1 hm3 hm4 HBox
  go_wp2_with (at_builtin; refine wpList_append_own _ rfl (.tmp 30) (.tmp 32) 208 rfl base 60 i0 (.agg #[.string ⟨#[]⟩, .string ⟨#[]⟩]) 2 32 Tryz.underlying208 hif hz0 hz1 hz2 rfl (by decide) _ _ _ rfl (hO5.2.2.alloc _) ⟨w5.heap.size, 0, none⟩ 1 1 (pairVals [(key, val)]) rfl rfl (one_pair_cells _ (key, val) _) (pairVals_oneCell _) hm5 hm6 (le_alloc _ _ hbs5) ?_)
  intro v6 w6 hown hgrow hnn
  obtain ⟨g6, cap6, hv, hO6⟩ := ownP_app hO5.1 hO5.2.1 ⟨hks, hvs⟩ hnn hown
  subst hv
  have hB6 := (hB5.alloc hbs5 _).grown hgrow (le_alloc _ _ hbs5) (fun k e => by simp [Value.ownBlock] at e; have := hO5.lt; omega)
  have hbs6 : base ≤ w6.heap.size := Nat.le_trans (le_alloc _ _ hbs5) hgrow.size
  have hSl6 := h.below (HAll.out _ hB6)
  have hm7 : k + 1 + (l.length - (k + 1)) ≤ maxLen := by unfold maxLen; omega
  have hm8 : (k + 1 + (l.length - (k + 1))) * 32 ≤ 140737488355328 := by omega
  have hn7 : (pairVals (l.drop (k + 1))).length = (l.length - (k + 1)) * 2 := by rw [pairVals_length, List.length_drop]
  clear hown hgrow hnn hO5 hB5 hm5 hm6
  by_cases hck : cap = k + 1
  · have HC7 : Hid (∀ j v, (pairVals (l.drop (k + 1)))[j]? = some v → w6.cell? ((⟨b, off, none⟩ : Addr).add j) = some v) := by
      show ∀ j v, _ → _
      intro j v hj
      rw [List.drop_eq_nil_of_le (by omega)] at hj
      simp [pairVals] at hj
    have hR1 : (k : Int) + 1 ≤ (l.length : Int) := by omega
    have hR2 : (k : Int) + 1 ≤ (cap : Int) := by omega
    have hR3 : ((k : Int) + 1).toNat = k + 1 := by omega
    go_wp2_with (at_builtin; refine wpList_append_own _ rfl (.tmp 34) (.tmp 37) 208 rfl base 60 i0 (.agg #[.string ⟨#[]⟩, .string ⟨#[]⟩]) 2 32 Tryz.underlying208 hif hz0 hz1 hz2 rfl (by decide) _ _ _ rfl hO6.2.2 ⟨b, off, none⟩ (l.length - (k + 1)) _ (pairVals (l.drop (k + 1))) rfl hn7 HC7.out (pairVals_oneCell _) hm7 hm8 hbs6 ?_)
    intro v7 w7 hown hgrow hnn
    have hnn' : ¬ v7 = .slice none 0 0 := by simpa using hnn
    rw [← pairVals_append] at hown
    obtain ⟨g7, cap7, hv, hO7⟩ := ownP_val (n := k + 1 + (l.length - (k + 1))) (by simp; omega) (fun q hq => by
      rcases List.mem_append.1 hq with h1 | h1
      · exact hO6.2.1 q h1
      · exact hsm q (List.mem_of_mem_drop h1)) hnn' hown
    subst hv
    have hB7 := HAll.out _ (hB6.grown hgrow hbs6 (fun k e => by simp [Value.ownBlock] at e; have := hO6.lt; omega))
    have HO7 := Hid.mk' (hO7.mono hwb)
    clear hown hgrow hnn hnn' hO7
    go_wp2_with (at_builtin; fail)
    go_ret
    refine ⟨g7, _, cap7, rfl, ?_, hB7⟩
    have := HO7.out
    rw [List.append_assoc] at this
    exact this
  · have HC7 := Hid.mk' (cells_pairs (cellsP_drop hSl6.cells (k + 1)))
    have hR1 : (k : Int) + 1 ≤ (l.length : Int) := by omega
    have hR2 : (k : Int) + 1 ≤ (cap : Int) := by omega
    have hR3 : ((k : Int) + 1).toNat = k + 1 := by omega
    go_wp2_with (at_builtin; refine wpList_append_own _ rfl (.tmp 34) (.tmp 37) 208 rfl base 60 i0 (.agg #[.string ⟨#[]⟩, .string ⟨#[]⟩]) 2 32 Tryz.underlying208 hif hz0 hz1 hz2 rfl (by decide) _ _ _ rfl hO6.2.2 ⟨b, off + (k + 1) * 2, none⟩ (l.length - (k + 1)) _ (pairVals (l.drop (k + 1))) rfl hn7 HC7.out (pairVals_oneCell _) hm7 hm8 hbs6 ?_)
    intro v7 w7 hown hgrow hnn
    have hnn' : ¬ v7 = .slice none 0 0 := by simpa using hnn
    rw [← pairVals_append] at hown
    obtain ⟨g7, cap7, hv, hO7⟩ := ownP_val (n := k + 1 + (l.length - (k + 1))) (by simp; omega) (fun q hq => by
      rcases List.mem_append.1 hq with h1 | h1
      · exact hO6.2.1 q h1
      · exact hsm q (List.mem_of_mem_drop h1)) hnn' hown
    subst hv
    have hB7 := HAll.out _ (hB6.grown hgrow hbs6 (fun k e => by simp [Value.ownBlock] at e; have := hO6.lt; omega))
    have HO7 := Hid.mk' (hO7.mono hwb)
    clear hown hgrow hnn hnn' hO7
    go_wp2_with (at_builtin; fail)
    go_ret
    refine ⟨g7, _, cap7, rfl, ?_, hB7⟩
    have := HO7.out
    rw [List.append_assoc] at this
    exact this

set_option maxRecDepth 100000 in
set_option maxHeartbeats 1000000 in
theorem impl_putKey (b off len cap : Nat) (l : List Pr) (key val : ByteArray) (w : World) (h : SlP w (some ⟨b, off, none⟩) len l) (hcap : len ≤ cap) (hsz : len ≤ 1099511627776) (hks : key.size ≤ maxLen) (hvs : val.size ≤ maxLen) :
    Calls Tryz.prog 169 #[.slice (some ⟨b, off, none⟩) len cap, .string key, .string val] w fun e w' =>
      ∃ g' n' cap', e = .returned (.slice (some ⟨g', 0, none⟩) n' cap') ∧ OwnP w' w.heap.size g' n' cap' (putKey key val l) ∧ Below w.heap.size w w' := by
  have hl := h.1
  subst hl
  have HW : Hid (Calls Tryz.prog 187 #[.slice (some ⟨b, off, none⟩) l.length cap, .agg #[.string key, .string val]] w fun e w' =>
      ∃ g' n' cap', e = .returned (.slice (some ⟨g', 0, none⟩) n' cap') ∧ OwnP w' w.heap.size g' n' cap' (putKey key val l) ∧ Below w.heap.size w w') := by
    cases hg : getKey key l with
    | none =>
      rw [put_new hg]
      exact with_new b off cap l key val w h hcap hsz hks hvs (below key l) (below_le key l) (Hid.mk' fun wx hx => place_none b off _ cap l key wx hx hg)
    | some v =>
      obtain ⟨n, hn, h1, h2, h3⟩ := getKey_place hg
      rw [put_found n hn h1 h3, List.set_eq_take_append_cons_drop, if_pos hn, h1]
      exact with_found b off cap l key val w h hcap hsz hks hvs n hn (Hid.mk' fun wx hx => place_found b off _ cap l key wx hx n hn h1 h3)
  go_enter Tryz.func169, Tryz.ntmps169
  go_wp2_with fail
  refine HW.out.mono ?_
  rintro e w2 ⟨g, n, cp, rfl, hO, hB⟩
  have HO := Hid.mk' hO
  clear hO
  go_wp2_with fail
  go_ret
  exact ⟨g, n, cp, rfl, HO.out, hB⟩

end Go.Proofs.YtdeaiefhegjalaaGreat.pairs

namespace Go.Proofs.YtdeaiefhegjalaaGreat.pairs
open Go Go.RowKit Go.Proofs.YtdeaiefhegjalaaGreat.base
set_option linter.unusedVariables false
set_option linter.unusedSimpArgs false

theorem bel3 {w wr : World} (hB : Below w.heap.size w wr) (x y z : Obj) : Below w.heap.size w (((wr.alloc x).alloc y).alloc z) := (bel2 hB x y).alloc (bel2 hB x y).size _
theorem empty_iff (hi : ByteArray) : hi.size = 0 ↔ hi = ⟨#[]⟩ := by
  constructor
  · intro h; apply bytes_ext; exact List.eq_nil_of_length_eq_zero (by rw [Array.length_toList]; exact h)
  · rintro rfl; rfl



end Go.Proofs.YtdeaiefhegjalaaGreat.pairs
