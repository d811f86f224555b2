/- The program's places of keys, and what is got. The program's putting of keys. The program's pairs between two ends. The program's deleting of keys: a map counts the keys, and the key is deleted from it. The program's orders: what is met, at which shard, what is done. -/
import Derived.Test.YteammdkipnfmnaaGreatDoorShaq
import Derived.Maps.OwnSet
import Derived.Maps.OwnOps
import Derived.Maps.Views
namespace Go.Proofs.YteammdkipnfmnaaGreatDoor.pairs
open Go Go.RowKit Go.Proofs.YteammdkipnfmnaaGreatDoor.base
set_option linter.unusedVariables false
set_option linter.unusedSimpArgs false

theorem i_meth (x y : ByteArray) (w : World) : (method 299 34 (.agg #[.string x, .string y]) "loop.example/g00244/impl.key").run Tryz.prog w = .ok (167, .agg #[.string x, .string y]) w := by kernel_rfl
theorem nth_take_none {key : ByteArray} {l : List Pr} {k : Nat} (hn : getKey key (l.take k) = none) (hk : k ≤ l.length) (j : Nat) (hj : j < k) : (l[j]'(by omega)).1 ≠ key := by
  have := getKey_none hn j (by simp; omega)
  rwa [List.getElem_take] at this
theorem bel2 {w wr : World} (hB : Below w.heap.size w wr) (x y : Obj) : Below w.heap.size w ((wr.alloc x).alloc y) := (hB.alloc hB.size _).alloc (le_alloc _ _ hB.size) _

set_option maxRecDepth 100000 in
set_option maxHeartbeats 2000000 in
theorem place_found (b off len cap : Nat) (l : List Pr) (key : ByteArray) (w : World) (h : SlP w (some ⟨b, off, none⟩) len l) (n : Nat) (hn : n < l.length) (he : l[n].1 = key) (hno : getKey key (l.take n) = none) :
    Calls Tryz.prog 126 #[.slice (some ⟨b, off, none⟩) len cap, .string key] w fun e w' => e = .returned (.tuple #[.int .i64 (n : Int), .bool true]) ∧ Below w.heap.size w w' := by
  have hl := h.1
  have hm := h.2.1
  subst hl
  unfold maxLen at hm
  have hmt := i_meth
  have HE := Hid.mk' he
  clear he
  go_enter Tryz.func126, Tryz.ntmps126
  go_wp2_with fail
  go_loopw [12] (fun i wr => ∃ k : Nat, k ≤ n ∧ i = .int .i64 (k : Int) ∧ Below w.heap.size w wr) (fun i _ => l.length - (intOf i).toNat)
  case atStart => exact ⟨0, Nat.zero_le _, rfl, Below.refl _ _⟩
  case round =>
    obtain ⟨k, hk, rfl, hB⟩ := hrel
    have hlt : k < l.length := by omega
    obtain ⟨c1, c2⟩ := (h.below hB).cells k hlt
    have hki : (k : Int) < (l.length : Int) := by omega
    by_cases hkn : k = n
    · subst hkn
      have he := HE.out
      rw [he] at c1
      generalize l[k].2 = y at *
      clear hno HE he
      go_wp2_with fail
      refine (i_key (key, y) _).mono ?_
      rintro e w2 ⟨rfl, rfl⟩
      go_wp2_with fail
      go_ret2
      exact ⟨rfl, bel2 hB _ _⟩
    · have hq : (l[k].1.toList == key.toList) = false := str_ne (nth_take_none hno (by omega) k (by omega))
      have hkn2 : k + 1 ≤ n := by omega
      clear hno HE hkn
      generalize l[k] = p at *
      go_wp2_with fail
      refine (i_key p _).mono ?_
      rintro e w2 ⟨rfl, rfl⟩
      go_wp2_with fail
      go_roundw
      case rel => exact ⟨k + 1, hkn2, by go_num, bel2 hB _ _⟩
      case measure => simp [intOf]; omega

set_option maxRecDepth 100000 in
set_option maxHeartbeats 2000000 in
theorem place_none (b off len cap : Nat) (l : List Pr) (key : ByteArray) (w : World) (h : SlP w (some ⟨b, off, none⟩) len l) (hno : getKey key l = none) :
    Calls Tryz.prog 126 #[.slice (some ⟨b, off, none⟩) len cap, .string key] w fun e w' => e = .returned (.tuple #[.int .i64 (below key l : Int), .bool false]) ∧ Below w.heap.size w w' := by
  have hl := h.1
  have hm := h.2.1
  subst hl
  unfold maxLen at hm
  have hmt := i_meth
  obtain ⟨r, hr⟩ : ∃ r, below key l = r := ⟨_, rfl⟩
  have hne := getKey_none hno
  clear hno
  rw [hr]
  have HR := Hid.mk' hr
  clear hr
  go_enter Tryz.func126, Tryz.ntmps126
  go_wp2_with fail
  go_loopw [12] (fun i wr => ∃ k : Nat, k ≤ l.length ∧ i = .int .i64 (k : Int) ∧ Below w.heap.size w wr) (fun i _ => l.length - (intOf i).toNat)
  case atStart => exact ⟨0, Nat.zero_le _, rfl, Below.refl _ _⟩
  case round =>
    obtain ⟨k, hk, rfl, hB⟩ := hrel
    by_cases hlt : k < l.length
    · obtain ⟨c1, c2⟩ := (h.below hB).cells k hlt
      have hki : (k : Int) < (l.length : Int) := by omega
      have hq := str_ne (hne k hlt)
      clear hne
      generalize l[k] = p at *
      go_wp2_with fail
      refine (i_key p _).mono ?_
      rintro e w2 ⟨rfl, rfl⟩
      go_wp2_with fail
      go_roundw
      case rel => exact ⟨k + 1, by omega, by go_num, bel2 hB _ _⟩
      case measure => simp [intOf]; omega
    · have hB0 := hB
      clear hB
      go_wp2_with fail
      go_loopw [26] (fun i wr => ∃ k : Nat, k ≤ l.length ∧ i = .int .i64 (k : Int) ∧ k + below key (l.drop k) = r ∧ Below w.heap.size w wr) (fun i _ => l.length - (intOf i).toNat)
      case atStart => exact ⟨0, Nat.zero_le _, rfl, by rw [List.drop_zero, HR.out]; omega, hB0⟩
      case round =>
        clear hB0 hlt hk
        obtain ⟨k, hk, rfl, hr, hB⟩ := hrel
        by_cases hlt : k < l.length
        · obtain ⟨c1, c2⟩ := (h.below hB).cells k hlt
          have hki : (k : Int) < (l.length : Int) := by omega
          have hst := below_drop key l k hlt
          cases hL : ltB key l[k].1
          · have HF : Hid (k + 1 + below key (l.drop (k + 1)) = r) := by
              show _ = _
              rw [hL] at hst; simp at hst; omega
            have hl2 : Op.bytesLess l[k].1.toList key.toList = true := by rw [less_flip (hne k hlt), show Op.bytesLess key.toList l[k].1.toList = false from hL]; rfl
            clear hst hr hL hne
            generalize l[k] = p at *
            go_wp2_with fail
            refine (i_key p _).mono ?_
            rintro e w2 ⟨rfl, rfl⟩
            go_wp2_with fail
            go_roundw
            case rel => exact ⟨k + 1, by omega, by go_num, HF.out, bel2 hB _ _⟩
            case measure => simp [intOf]; omega
          · have HF : Hid (k = r) := by
              show _ = _
              rw [hL] at hst; simp at hst; omega
            have hl2 : Op.bytesLess l[k].1.toList key.toList = false := by rw [less_flip (hne k hlt), show Op.bytesLess key.toList l[k].1.toList = true from hL]; rfl
            have hq := str_ne (hne k hlt)
            clear hst hr hL hne
            generalize l[k] = p at *
            go_wp2_with fail
            refine (i_key p _).mono ?_
            rintro e w2 ⟨rfl, rfl⟩
            go_wp2_with fail
            obtain rfl := HF.out
            go_ret2
            exact ⟨rfl, bel2 hB _ _⟩
        · have HF : Hid (l.length = r) := by
            show _ = _
            rw [List.drop_eq_nil_of_le (by omega)] at hr; simp [below] at hr; omega
          clear hr hne
          go_wp2_with fail
          obtain rfl := HF.out
          go_ret2
          exact ⟨rfl, hB⟩

theorem getKey_place {key : ByteArray} {l : List Pr} {v : ByteArray} (h : getKey key l = some v) : ∃ n, ∃ hn : n < l.length, l[n].1 = key ∧ l[n].2 = v ∧ getKey key (l.take n) = none := by
  induction l with
  | nil => cases h
  | cons p l ih =>
    rw [getKey] at h
    by_cases hp : p.1 = key
    · rw [if_pos hp] at h
      exact ⟨0, by simp, hp, by simpa using h, rfl⟩
    · rw [if_neg hp] at h
      obtain ⟨n, hn, h1, h2, h3⟩ := ih h
      refine ⟨n + 1, by simp; omega, by simpa using h1, by simpa using h2, ?_⟩
      rw [List.take_succ_cons, getKey, if_neg hp]
      exact h3


end Go.Proofs.YteammdkipnfmnaaGreatDoor.pairs

namespace Go.Proofs.YteammdkipnfmnaaGreatDoor.pairs
open Go Go.RowKit Go.Proofs.YteammdkipnfmnaaGreatDoor.base
set_option linter.unusedVariables false
set_option linter.unusedSimpArgs false

theorem box_cell (w w' : World) (x y : ByteArray) (hB : Below (w.alloc (.cells #[.string x, .string y] 34)).heap.size (w.alloc (.cells #[.string x, .string y] 34)) w') :
    w'.cell? ⟨w.heap.size, 0, none⟩ = some (.string x) ∧ w'.cell? ⟨w.heap.size, 1, none⟩ = some (.string y) := by
  have hlt : w.heap.size < (w.alloc (.cells #[.string x, .string y] 34)).heap.size := by simp
  refine ⟨(hB.cell (p := ⟨w.heap.size, 0, none⟩) hlt).trans ?_, (hB.cell (p := ⟨w.heap.size, 1, none⟩) hlt).trans ?_⟩
  · simp
  · simp

set_option maxRecDepth 100000 in
set_option maxHeartbeats 4000000 in
theorem with_new (b off cap : Nat) (l : List Pr) (key val : ByteArray) (w : World) (h : SlP w (some ⟨b, off, none⟩) l.length l) (hcap : l.length ≤ cap) (hsz : l.length ≤ 1099511627776) (hks : key.size ≤ maxLen) (hvs : val.size ≤ maxLen)
    (k : Nat) (hk : k ≤ l.length)
    (HP : Hid (∀ wx, SlP wx (some ⟨b, off, none⟩) l.length l → Calls Tryz.prog 126 #[.slice (some ⟨b, off, none⟩) l.length cap, .string key] wx fun e w' => e = .returned (.tuple #[.int .i64 (k : Int), .bool false]) ∧ Below wx.heap.size wx w')) :
    Calls Tryz.prog 103 #[.slice (some ⟨b, off, none⟩) l.length cap, .agg #[.string key, .string val]] w fun e w' =>
      ∃ g' n' cap', e = .returned (.slice (some ⟨g', 0, none⟩) n' cap') ∧ OwnP w' w.heap.size g' n' cap' (l.take k ++ (key, val) :: l.drop k) ∧ Below w.heap.size w w' := by
  obtain ⟨i0, hif, hz0, hz1, hz2⟩ := info_parts infoP
  have hsm := h.2.2.1
  have hmt := i_meth
  have hbA : Below w.heap.size w (w.alloc (.cells #[.string key, .string val] 34)) := (Below.refl _ _).alloc (Nat.le_refl _) _
  have hbK : Below (w.alloc (.cells #[.string key, .string val] 34)).heap.size (w.alloc (.cells #[.string key, .string val] 34)) ((w.alloc (.cells #[.string key, .string val] 34)).alloc (.cells #[.string key, .string val] 34)) := (Below.refl _ _).alloc (Nat.le_refl _) _
  have HA := Hid.mk' (HP.out _ ((h.below hbA).below hbK))
  have hBA := Hid.mk' hbA
  have hBK := Hid.mk' hbK
  clear hbA hbK HP
  go_enter Tryz.func103, Tryz.ntmps103
  go_wp2_with fail
  refine (i_key (key, val) _).mono ?_
  rintro e w2 ⟨rfl, rfl⟩
  go_wp2_with fail
  refine HA.out.mono ?_
  rintro e w3 ⟨rfl, hb3⟩
  have hB3 : Below (w.alloc (.cells #[.string key, .string val] 34)).heap.size (w.alloc (.cells #[.string key, .string val] 34)) w3 := hBK.out.trans (hb3.mono hBK.out.size)
  obtain ⟨base, hbase⟩ : ∃ base, (w.alloc (.cells #[.string key, .string val] 34)).heap.size = base := ⟨_, rfl⟩
  have hwb : w.heap.size ≤ base := by rw [← hbase]; exact hBA.out.size
  have hbox := fun wx hx => box_cell w wx key val (hbase ▸ hx)
  have hbs3 : base ≤ w3.heap.size := by rw [← hbase]; exact hB3.size
  rw [hbase] at hB3
  have HAll : Hid (∀ wx, Below base (w.alloc (.cells #[.string key, .string val] 34)) wx → Below w.heap.size w wx) := fun wx hx => hBA.out.trans (hx.mono hwb)
  have HBox := Hid.mk' hbox
  clear hb3 hBK hBA HA hbase hbox
  have hSl3 := h.below (HAll.out _ hB3)
  obtain ⟨c, hc⟩ : ∃ c : Nat, l.length + 1 = c := ⟨_, rfl⟩
  have hcI : (l.length : Int) + 1 = (c : Int) := by omega
  have hmk1 : c ≤ maxLen := by unfold maxLen; omega
  have hmk2 : i0.bytes * c ≤ 281474976710656 := by rw [hz2]; omega
  go_wp2_with (at_make; refine wpList_make_own _ rfl _ _ 98 rfl base 34 i0 (.agg #[.string ⟨#[]⟩, .string ⟨#[]⟩]) 2 Tryz.underlying98 hif hz0 hz1 _ _ _ c rfl rfl (by omega) hmk2 hmk1 hbs3 ?_)
  intro w4 hown hgrow
  have hO4 : OwnP w4 base w3.heap.size 0 c [] := ⟨rfl, fun s h => absurd h List.not_mem_nil, hown⟩
  have hB4 := hB3.grown hgrow hbs3 (fun k e => by cases e)
  have hbs4 : base ≤ w4.heap.size := Nat.le_trans hbs3 hgrow.size
  have HC1 := Hid.mk' (cells_pairs (cellsP_take (h.below (HAll.out _ hB4)).cells k))
  have hn1 : (pairVals (l.take k)).length = k * 2 := by rw [pairVals_length, List.length_take_of_le (by omega)]
  have hm3 : 0 + k ≤ maxLen := by unfold maxLen; omega
  have hm4 : (0 + k) * 32 ≤ 140737488355328 := by omega
  have hkc : (k : Int) ≤ (cap : Int) := by omega
  have hown4 := hO4.2.2
  clear hown hgrow hB3 hSl3 hmk1 hmk2 hcI
  go_wp2_with (at_builtin; refine wpList_append_own _ rfl (.tmp 25) (.tmp 28) 98 rfl base 34 i0 (.agg #[.string ⟨#[]⟩, .string ⟨#[]⟩]) 2 32 Tryz.underlying98 hif hz0 hz1 hz2 rfl (by decide) _ _ _ rfl hown4 ⟨b, off, none⟩ k cap (pairVals (l.take k)) rfl hn1 HC1.out (pairVals_oneCell _) hm3 hm4 hbs4 ?_)
  intro v5 w5 hown hgrow hnn
  have hnn' : ¬ v5 = .slice none 0 0 := by simpa using hnn
  obtain ⟨g5, cap5, hv, hO5⟩ := ownP_val (l := l.take k) (n := k) (List.length_take_of_le (by omega)) (take_small hsm k) hnn' (by simpa [pairVals] using hown)
  subst hv
  have hB5 := hB4.grown hgrow hbs4 (fun k e => by simp [Value.ownBlock] at e; have := hO4.lt; omega)
  have hbs5 : base ≤ w5.heap.size := Nat.le_trans hbs4 hgrow.size
  obtain ⟨cb0, cb1⟩ := HBox.out _ hB5
  have hm5 : k + 1 ≤ maxLen := by unfold maxLen; omega
  have hm6 : (k + 1) * 32 ≤ 140737488355328 := by omega
  clear hown hgrow hnn hnn' hown4 hO4 hB4 HC1 hn1 hm3 hm4 HBox
  go_wp2_with (at_builtin; refine wpList_append_own _ rfl (.tmp 30) (.tmp 32) 98 rfl base 34 i0 (.agg #[.string ⟨#[]⟩, .string ⟨#[]⟩]) 2 32 Tryz.underlying98 hif hz0 hz1 hz2 rfl (by decide) _ _ _ rfl (hO5.2.2.alloc _) ⟨w5.heap.size, 0, none⟩ 1 1 (pairVals [(key, val)]) rfl rfl (one_pair_cells _ (key, val) _) (pairVals_oneCell _) hm5 hm6 (le_alloc _ _ hbs5) ?_)
  intro v6 w6 hown hgrow hnn
  obtain ⟨g6, cap6, hv, hO6⟩ := ownP_app hO5.1 hO5.2.1 ⟨hks, hvs⟩ hnn hown
  subst hv
  have hB6 := (hB5.alloc hbs5 _).grown hgrow (le_alloc _ _ hbs5) (fun k e => by simp [Value.ownBlock] at e; have := hO5.lt; omega)
  have hbs6 : base ≤ w6.heap.size := Nat.le_trans (le_alloc _ _ hbs5) hgrow.size
  have hSl6 := h.below (HAll.out _ hB6)
  have hm7 : k + 1 + (l.length - (k)) ≤ maxLen := by unfold maxLen; omega
  have hm8 : (k + 1 + (l.length - (k))) * 32 ≤ 140737488355328 := by omega
  have hn7 : (pairVals (l.drop (k))).length = (l.length - (k)) * 2 := by rw [pairVals_length, List.length_drop]
  clear hown hgrow hnn hO5 hB5 hm5 hm6
  by_cases hck : cap = k
  · have HC7 : Hid (∀ j v, (pairVals (l.drop (k)))[j]? = some v → w6.cell? ((⟨b, off, none⟩ : Addr).add j) = some v) := by
      show ∀ j v, _ → _
      intro j v hj
      rw [List.drop_eq_nil_of_le (by omega)] at hj
      simp [pairVals] at hj
    go_wp2_with (at_builtin; refine wpList_append_own _ rfl (.tmp 34) (.tmp 37) 98 rfl base 34 i0 (.agg #[.string ⟨#[]⟩, .string ⟨#[]⟩]) 2 32 Tryz.underlying98 hif hz0 hz1 hz2 rfl (by decide) _ _ _ rfl hO6.2.2 ⟨b, off, none⟩ (l.length - (k)) _ (pairVals (l.drop (k))) rfl hn7 HC7.out (pairVals_oneCell _) hm7 hm8 hbs6 ?_)
    intro v7 w7 hown hgrow hnn
    have hnn' : ¬ v7 = .slice none 0 0 := by simpa using hnn
    rw [← pairVals_append] at hown
    obtain ⟨g7, cap7, hv, hO7⟩ := ownP_val (n := k + 1 + (l.length - (k))) (by simp; omega) (fun q hq => by
      rcases List.mem_append.1 hq with h1 | h1
      · exact hO6.2.1 q h1
      · exact hsm q (List.mem_of_mem_drop h1)) hnn' hown
    subst hv
    have hB7 := HAll.out _ (hB6.grown hgrow hbs6 (fun k e => by simp [Value.ownBlock] at e; have := hO6.lt; omega))
    have HO7 := Hid.mk' (hO7.mono hwb)
    clear hown hgrow hnn hnn' hO7
    go_wp2_with (at_builtin; fail)
    go_ret
    refine ⟨g7, _, cap7, rfl, ?_, hB7⟩
    have := HO7.out
    rw [List.append_assoc] at this
    exact this
  · have HC7 := Hid.mk' (cells_pairs (cellsP_drop hSl6.cells (k)))
    go_wp2_with (at_builtin; refine wpList_append_own _ rfl (.tmp 34) (.tmp 37) 98 rfl base 34 i0 (.agg #[.string ⟨#[]⟩, .string ⟨#[]⟩]) 2 32 Tryz.underlying98 hif hz0 hz1 hz2 rfl (by decide) _ _ _ rfl hO6.2.2 ⟨b, off + (k) * 2, none⟩ (l.length - (k)) _ (pairVals (l.drop (k))) rfl hn7 HC7.out (pairVals_oneCell _) hm7 hm8 hbs6 ?_)
    intro v7 w7 hown hgrow hnn
    have hnn' : ¬ v7 = .slice none 0 0 := by simpa using hnn
    rw [← pairVals_append] at hown
    obtain ⟨g7, cap7, hv, hO7⟩ := ownP_val (n := k + 1 + (l.length - (k))) (by simp; omega) (fun q hq => by
      rcases List.mem_append.1 hq with h1 | h1
      · exact hO6.2.1 q h1
      · exact hsm q (List.mem_of_mem_drop h1)) hnn' hown
    subst hv
    have hB7 := HAll.out _ (hB6.grown hgrow hbs6 (fun k e => by simp [Value.ownBlock] at e; have := hO6.lt; omega))
    have HO7 := Hid.mk' (hO7.mono hwb)
    clear hown hgrow hnn hnn' hO7
    go_wp2_with (at_builtin; fail)
    go_ret
    refine ⟨g7, _, cap7, rfl, ?_, hB7⟩
    have := HO7.out
    rw [List.append_assoc] at this
    exact this

set_option maxRecDepth 100000 in
set_option maxHeartbeats 4000000 in
theorem with_found (b off cap : Nat) (l : List Pr) (key val : ByteArray) (w : World) (h : SlP w (some ⟨b, off, none⟩) l.length l) (hcap : l.length ≤ cap) (hsz : l.length ≤ 1099511627776) (hks : key.size ≤ maxLen) (hvs : val.size ≤ maxLen)
    (k : Nat) (hk : k < l.length)
    (HP : Hid (∀ wx, SlP wx (some ⟨b, off, none⟩) l.length l → Calls Tryz.prog 126 #[.slice (some ⟨b, off, none⟩) l.length cap, .string key] wx fun e w' => e = .returned (.tuple #[.int .i64 (k : Int), .bool true]) ∧ Below wx.heap.size wx w')) :
    Calls Tryz.prog 103 #[.slice (some ⟨b, off, none⟩) l.length cap, .agg #[.string key, .string val]] w fun e w' =>
      ∃ g' n' cap', e = .returned (.slice (some ⟨g', 0, none⟩) n' cap') ∧ OwnP w' w.heap.size g' n' cap' (l.take k ++ (key, val) :: l.drop (k + 1)) ∧ Below w.heap.size w w' := by
  obtain ⟨i0, hif, hz0, hz1, hz2⟩ := info_parts infoP
  have hsm := h.2.2.1
  have hmt := i_meth
  have hbA : Below w.heap.size w (w.alloc (.cells #[.string key, .string val] 34)) := (Below.refl _ _).alloc (Nat.le_refl _) _
  have hbK : Below (w.alloc (.cells #[.string key, .string val] 34)).heap.size (w.alloc (.cells #[.string key, .string val] 34)) ((w.alloc (.cells #[.string key, .string val] 34)).alloc (.cells #[.string key, .string val] 34)) := (Below.refl _ _).alloc (Nat.le_refl _) _
  have HA := Hid.mk' (HP.out _ ((h.below hbA).below hbK))
  have hBA := Hid.mk' hbA
  have hBK := Hid.mk' hbK
  clear hbA hbK HP
  go_enter Tryz.func103, Tryz.ntmps103
  go_wp2_with fail
  refine (i_key (key, val) _).mono ?_
  rintro e w2 ⟨rfl, rfl⟩
  go_wp2_with fail
  refine HA.out.mono ?_
  rintro e w3 ⟨rfl, hb3⟩
  have hB3 : Below (w.alloc (.cells #[.string key, .string val] 34)).heap.size (w.alloc (.cells #[.string key, .string val] 34)) w3 := hBK.out.trans (hb3.mono hBK.out.size)
  obtain ⟨base, hbase⟩ : ∃ base, (w.alloc (.cells #[.string key, .string val] 34)).heap.size = base := ⟨_, rfl⟩
  have hwb : w.heap.size ≤ base := by rw [← hbase]; exact hBA.out.size
  have hbox := fun wx hx => box_cell w wx key val (hbase ▸ hx)
  have hbs3 : base ≤ w3.heap.size := by rw [← hbase]; exact hB3.size
  rw [hbase] at hB3
  have HAll : Hid (∀ wx, Below base (w.alloc (.cells #[.string key, .string val] 34)) wx → Below w.heap.size w wx) := fun wx hx => hBA.out.trans (hx.mono hwb)
  have HBox := Hid.mk' hbox
  clear hb3 hBK hBA HA hbase hbox
  have hSl3 := h.below (HAll.out _ hB3)
  obtain ⟨c, hc⟩ : ∃ c : Nat, l.length + 1 = c := ⟨_, rfl⟩
  have hcI : (l.length : Int) + 1 = (c : Int) := by omega
  have hmk1 : c ≤ maxLen := by unfold maxLen; omega
  have hmk2 : i0.bytes * c ≤ 281474976710656 := by rw [hz2]; omega
  go_wp2_with (at_make; refine wpList_make_own _ rfl _ _ 98 rfl base 34 i0 (.agg #[.string ⟨#[]⟩, .string ⟨#[]⟩]) 2 Tryz.underlying98 hif hz0 hz1 _ _ _ c rfl rfl (by omega) hmk2 hmk1 hbs3 ?_)
  intro w4 hown hgrow
  have hO4 : OwnP w4 base w3.heap.size 0 c [] := ⟨rfl, fun s h => absurd h List.not_mem_nil, hown⟩
  have hB4 := hB3.grown hgrow hbs3 (fun k e => by cases e)
  have hbs4 : base ≤ w4.heap.size := Nat.le_trans hbs3 hgrow.size
  have HC1 := Hid.mk' (cells_pairs (cellsP_take (h.below (HAll.out _ hB4)).cells k))
  have hn1 : (pairVals (l.take k)).length = k * 2 := by rw [pairVals_length, List.length_take_of_le (by omega)]
  have hm3 : 0 + k ≤ maxLen := by unfold maxLen; omega
  have hm4 : (0 + k) * 32 ≤ 140737488355328 := by omega
  have hkc : (k : Int) ≤ (cap : Int) := by omega
  have hown4 := hO4.2.2
  clear hown hgrow hB3 hSl3 hmk1 hmk2 hcI
  go_wp2_with (at_builtin; refine wpList_append_own _ rfl (.tmp 25) (.tmp 28) 98 rfl base 34 i0 (.agg #[.string ⟨#[]⟩, .string ⟨#[]⟩]) 2 32 Tryz.underlying98 hif hz0 hz1 hz2 rfl (by decide) _ _ _ rfl hown4 ⟨b, off, none⟩ k cap (pairVals (l.take k)) rfl hn1 HC1.out (pairVals_oneCell _) hm3 hm4 hbs4 ?_)
  intro v5 w5 hown hgrow hnn
  have hnn' : ¬ v5 = .slice none 0 0 := by simpa using hnn
  obtain ⟨g5, cap5, hv, hO5⟩ := ownP_val (l := l.take k) (n := k) (List.length_take_of_le (by omega)) (take_small hsm k) hnn' (by simpa [pairVals] using hown)
  subst hv
  have hB5 := hB4.grown hgrow hbs4 (fun k e => by simp [Value.ownBlock] at e; have := hO4.lt; omega)
  have hbs5 : base ≤ w5.heap.size := Nat.le_trans hbs4 hgrow.size
  obtain ⟨cb0, cb1⟩ := HBox.out _ hB5
  have hm5 : k + 1 ≤ maxLen := by unfold maxLen; omega
  have hm6 : (k + 1) * 32 ≤ 140737488355328 := by omega
  clear hown hgrow hnn hnn' hown4 hO4 hB4 HC1 hn1 hm3 hm4 HBox
  go_wp2_with (at_builtin; refine wpList_append_own _ rfl (.tmp 30) (.tmp 32) 98 rfl base 34 i0 (.agg #[.string ⟨#[]⟩, .string ⟨#[]⟩]) 2 32 Tryz.underlying98 hif hz0 hz1 hz2 rfl (by decide) _ _ _ rfl (hO5.2.2.alloc _) ⟨w5.heap.size, 0, none⟩ 1 1 (pairVals [(key, val)]) rfl rfl (one_pair_cells _ (key, val) _) (pairVals_oneCell _) hm5 hm6 (le_alloc _ _ hbs5) ?_)
  intro v6 w6 hown hgrow hnn
  obtain ⟨g6, cap6, hv, hO6⟩ := ownP_app hO5.1 hO5.2.1 ⟨hks, hvs⟩ hnn hown
  subst hv
  have hB6 := (hB5.alloc hbs5 _).grown hgrow (le_alloc _ _ hbs5) (fun k e => by simp [Value.ownBlock] at e; have := hO5.lt; omega)
  have hbs6 : base ≤ w6.heap.size := Nat.le_trans (le_alloc _ _ hbs5) hgrow.size
  have hSl6 := h.below (HAll.out _ hB6)
  have hm7 : k + 1 + (l.length - (k + 1)) ≤ maxLen := by unfold maxLen; omega
  have hm8 : (k + 1 + (l.length - (k + 1))) * 32 ≤ 140737488355328 := by omega
  have hn7 : (pairVals (l.drop (k + 1))).length = (l.length - (k + 1)) * 2 := by rw [pairVals_length, List.length_drop]
  clear hown hgrow hnn hO5 hB5 hm5 hm6
  by_cases hck : cap = k + 1
  · have HC7 : Hid (∀ j v, (pairVals (l.drop (k + 1)))[j]? = some v → w6.cell? ((⟨b, off, none⟩ : Addr).add j) = some v) := by
      show ∀ j v, _ → _
      intro j v hj
      rw [List.drop_eq_nil_of_le (by omega)] at hj
      simp [pairVals] at hj
    have hR1 : (k : Int) + 1 ≤ (l.length : Int) := by omega
    have hR2 : (k : Int) + 1 ≤ (cap : Int) := by omega
    have hR3 : ((k : Int) + 1).toNat = k + 1 := by omega
    go_wp2_with (at_builtin; refine wpList_append_own _ rfl (.tmp 34) (.tmp 37) 98 rfl base 34 i0 (.agg #[.string ⟨#[]⟩, .string ⟨#[]⟩]) 2 32 Tryz.underlying98 hif hz0 hz1 hz2 rfl (by decide) _ _ _ rfl hO6.2.2 ⟨b, off, none⟩ (l.length - (k + 1)) _ (pairVals (l.drop (k + 1))) rfl hn7 HC7.out (pairVals_oneCell _) hm7 hm8 hbs6 ?_)
    intro v7 w7 hown hgrow hnn
    have hnn' : ¬ v7 = .slice none 0 0 := by simpa using hnn
    rw [← pairVals_append] at hown
    obtain ⟨g7, cap7, hv, hO7⟩ := ownP_val (n := k + 1 + (l.length - (k + 1))) (by simp; omega) (fun q hq => by
      rcases List.mem_append.1 hq with h1 | h1
      · exact hO6.2.1 q h1
      · exact hsm q (List.mem_of_mem_drop h1)) hnn' hown
    subst hv
    have hB7 := HAll.out _ (hB6.grown hgrow hbs6 (fun k e => by simp [Value.ownBlock] at e; have := hO6.lt; omega))
    have HO7 := Hid.mk' (hO7.mono hwb)
    clear hown hgrow hnn hnn' hO7
    go_wp2_with (at_builtin; fail)
    go_ret
    refine ⟨g7, _, cap7, rfl, ?_, hB7⟩
    have := HO7.out
    rw [List.append_assoc] at this
    exact this
  · have HC7 := Hid.mk' (cells_pairs (cellsP_drop hSl6.cells (k + 1)))
    have hR1 : (k : Int) + 1 ≤ (l.length : Int) := by omega
    have hR2 : (k : Int) + 1 ≤ (cap : Int) := by omega
    have hR3 : ((k : Int) + 1).toNat = k + 1 := by omega
    go_wp2_with (at_builtin; refine wpList_append_own _ rfl (.tmp 34) (.tmp 37) 98 rfl base 34 i0 (.agg #[.string ⟨#[]⟩, .string ⟨#[]⟩]) 2 32 Tryz.underlying98 hif hz0 hz1 hz2 rfl (by decide) _ _ _ rfl hO6.2.2 ⟨b, off + (k + 1) * 2, none⟩ (l.length - (k + 1)) _ (pairVals (l.drop (k + 1))) rfl hn7 HC7.out (pairVals_oneCell _) hm7 hm8 hbs6 ?_)
    intro v7 w7 hown hgrow hnn
    have hnn' : ¬ v7 = .slice none 0 0 := by simpa using hnn
    rw [← pairVals_append] at hown
    obtain ⟨g7, cap7, hv, hO7⟩ := ownP_val (n := k + 1 + (l.length - (k + 1))) (by simp; omega) (fun q hq => by
      rcases List.mem_append.1 hq with h1 | h1
      · exact hO6.2.1 q h1
      · exact hsm q (List.mem_of_mem_drop h1)) hnn' hown
    subst hv
    have hB7 := HAll.out _ (hB6.grown hgrow hbs6 (fun k e => by simp [Value.ownBlock] at e; have := hO6.lt; omega))
    have HO7 := Hid.mk' (hO7.mono hwb)
    clear hown hgrow hnn hnn' hO7
    go_wp2_with (at_builtin; fail)
    go_ret
    refine ⟨g7, _, cap7, rfl, ?_, hB7⟩
    have := HO7.out
    rw [List.append_assoc] at this
    exact this

set_option maxRecDepth 100000 in
set_option maxHeartbeats 1000000 in
theorem impl_putKey (b off len cap : Nat) (l : List Pr) (key val : ByteArray) (w : World) (h : SlP w (some ⟨b, off, none⟩) len l) (hcap : len ≤ cap) (hsz : len ≤ 1099511627776) (hks : key.size ≤ maxLen) (hvs : val.size ≤ maxLen) :
    Calls Tryz.prog 67 #[.slice (some ⟨b, off, none⟩) len cap, .string key, .string val] w fun e w' =>
      ∃ g' n' cap', e = .returned (.slice (some ⟨g', 0, none⟩) n' cap') ∧ OwnP w' w.heap.size g' n' cap' (putKey key val l) ∧ Below w.heap.size w w' := by
  have hl := h.1
  subst hl
  have HW : Hid (Calls Tryz.prog 103 #[.slice (some ⟨b, off, none⟩) l.length cap, .agg #[.string key, .string val]] w fun e w' =>
      ∃ g' n' cap', e = .returned (.slice (some ⟨g', 0, none⟩) n' cap') ∧ OwnP w' w.heap.size g' n' cap' (putKey key val l) ∧ Below w.heap.size w w') := by
    cases hg : getKey key l with
    | none =>
      rw [put_new hg]
      exact with_new b off cap l key val w h hcap hsz hks hvs (below key l) (below_le key l) (Hid.mk' fun wx hx => place_none b off _ cap l key wx hx hg)
    | some v =>
      obtain ⟨n, hn, h1, h2, h3⟩ := getKey_place hg
      rw [put_found n hn h1 h3, List.set_eq_take_append_cons_drop, if_pos hn, h1]
      exact with_found b off cap l key val w h hcap hsz hks hvs n hn (Hid.mk' fun wx hx => place_found b off _ cap l key wx hx n hn h1 h3)
  go_enter Tryz.func67, Tryz.ntmps67
  go_wp2_with fail
  refine HW.out.mono ?_
  rintro e w2 ⟨g, n, cp, rfl, hO, hB⟩
  have HO := Hid.mk' hO
  clear hO
  go_wp2_with fail
  go_ret
  exact ⟨g, n, cp, rfl, HO.out, hB⟩

end Go.Proofs.YteammdkipnfmnaaGreatDoor.pairs

namespace Go.Proofs.YteammdkipnfmnaaGreatDoor.pairs
open Go Go.RowKit Go.Proofs.YteammdkipnfmnaaGreatDoor.base
set_option linter.unusedVariables false
set_option linter.unusedSimpArgs false

theorem empty_iff (hi : ByteArray) : hi.size = 0 ↔ hi = ⟨#[]⟩ := by
  constructor
  · intro h; apply bytes_ext; exact List.eq_nil_of_length_eq_zero (by rw [Array.length_toList]; exact h)
  · rintro rfl; rfl

set_option maxRecDepth 100000 in
set_option maxHeartbeats 4000000 in
theorem i_between (b off cap : Nat) (l : List Pr) (lo hi : ByteArray) (w : World) (h : SlP w (some ⟨b, off, none⟩) l.length l) (hsz : l.length ≤ 1099511627776) :
    Calls Tryz.prog 100 #[.slice (some ⟨b, off, none⟩) l.length cap, .string lo, .string hi] w fun e w' =>
      ∃ g' n' cap', e = .returned (.slice (some ⟨g', 0, none⟩) n' cap') ∧ OwnP w' w.heap.size g' n' cap' (between lo hi l) ∧ Below w.heap.size w w' := by
  obtain ⟨i0, hif, hz0, hz1, hz2⟩ := info_parts infoP
  have hsm := h.2.2.1
  have hmt := i_meth
  go_enter Tryz.func100, Tryz.ntmps100
  go_wp2_with (at_builtin; fail)
  go_loopw [7, 13] (fun v i wr => ∃ (k g n cp : Nat), k ≤ l.length ∧ n ≤ k ∧ i = .int .i64 (k : Int) ∧ v = .slice (some ⟨g, 0, none⟩) n cp ∧ OwnP wr w.heap.size g n cp (between lo hi (l.take k)) ∧ Below w.heap.size w wr) (fun _ i _ => l.length - (intOf i).toNat)
  case atStart => exact ⟨0, w.heap.size, 0, 0, Nat.zero_le _, Nat.le_refl _, rfl, rfl, ownP_made w _ (Nat.le_refl _), (Below.refl _ _).alloc (Nat.le_refl _) _⟩
  case round =>
    obtain ⟨k, g, n, cp, hk, hnk, rfl, rfl, hO, hB⟩ := hrel
    have hbw : w.heap.size ≤ wr.heap.size := hB.size
    by_cases hlt : k < l.length
    · obtain ⟨c1, c2⟩ := (h.below hB).cells k hlt
      have hst := filter_snoc (fun p => inB lo hi p.1) l k hlt
      have hpk := hsm _ (List.getElem_mem hlt)
      have hki : (k : Int) < (l.length : Int) := by omega
      cases h1 : Op.bytesLess l[k].1.toList lo.toList
      · by_cases h2 : hi = ⟨#[]⟩
        · have HIN : Hid (inB lo hi l[k].1 = true) := by show _ = _; unfold inB; rw [show ltB l[k].1 lo = false from h1, decide_eq_true ((empty_iff hi).2 h2)]; rfl
          subst h2
          have HF : Hid (between lo ⟨#[]⟩ (l.take (k + 1)) = between lo ⟨#[]⟩ (l.take k) ++ [l[k]]) := by
            show List.filter _ _ = List.filter _ _ ++ _
            rw [hst, HIN.out]; simp
          have hc3 : n + 1 ≤ maxLen := by unfold maxLen; omega
          have hc4 : (n + 1) * 32 ≤ 140737488355328 := by omega
          clear hst HIN
          generalize l[k] = p at *
          go_wp2_with fail
          refine (i_key p _).mono ?_
          rintro e w3 ⟨rfl, hw3⟩
          have hX3 : Below (wr.alloc (.cells #[.string p.1, .string p.2] 34)).heap.size (wr.alloc (.cells #[.string p.1, .string p.2] 34)) w3 := by rw [hw3]; exact (Below.refl _ _).alloc (Nat.le_refl _) _
          have hXB : Below wr.heap.size wr w3 := ((Below.refl _ _).alloc (Nat.le_refl _) _).trans (hX3.mono (le_alloc _ _ (Nat.le_refl _)))
          have hB3 : Below w.heap.size w w3 := hB.trans (hXB.mono hB.size)
          have hO3 : OwnP w3 w.heap.size g n cp (between lo ⟨#[]⟩ (l.take k)) := hO.below hXB
          obtain ⟨cb0, cb1⟩ := box_cell wr w3 p.1 p.2 hX3
          clear hw3 hO hB hXB c1 c2
          have hszW : w.heap.size ≤ w3.heap.size := hB3.size
          go_wp2_with (at_builtin; refine wpList_append_own _ rfl (.tmp 33) (.tmp 35) 98 rfl w.heap.size 34 i0 (.agg #[.string ⟨#[]⟩, .string ⟨#[]⟩]) 2 32 Tryz.underlying98 hif hz0 hz1 hz2 rfl (by decide) _ _ _ rfl (hO3.2.2.alloc _) ⟨w3.heap.size, 0, none⟩ 1 1 (pairVals [p]) rfl rfl (one_pair_cells _ _ _) (pairVals_oneCell _) hc3 hc4 (le_alloc _ _ hszW) ?_)
          intro v2 w2 hown hgrow hnn
          obtain ⟨g2, cp2, hv, hO2⟩ := ownP_app hO3.1 hO3.2.1 hpk hnn hown
          subst hv
          have hB2 : Below w.heap.size w w2 := (hB3.alloc hszW _).grown hgrow (le_alloc _ _ hszW) (fun k e => by simp [Value.ownBlock] at e; have := hO3.lt; omega)
          rw [← HF.out] at hO2
          have HO2 := Hid.mk' hO2
          clear hown hgrow hnn hO2 hO3 hB3
          go_wp2_with (at_builtin; fail)
          go_roundw
          case rel => exact ⟨k + 1, g2, n + 1, cp2, by omega, by omega, by go_num, rfl, HO2.out, hB2⟩
          case measure => simp [intOf]; omega
        · have hq2 : (hi.toList == []) = false := by
            rw [beq_eq_false_iff_ne]; intro e; exact h2 (bytes_ext (by rw [← ByteArray.toList_eq]; exact e))
          have hq : ¬ hi.toList = [] := fun e => h2 (bytes_ext (by rw [← ByteArray.toList_eq]; exact e))
          have hq3 : hi.toList.isEmpty = false := by rw [Bool.eq_false_iff]; intro e; exact hq (List.isEmpty_iff.1 e)
          have hz : decide (hi.size = 0) = false := decide_eq_false (fun e => h2 ((empty_iff hi).1 e))
          cases h3 : Op.bytesLess l[k].1.toList hi.toList
          · have HIN : Hid (inB lo hi l[k].1 = false) := by show _ = _; unfold inB; rw [show ltB l[k].1 lo = false from h1, hz, show ltB l[k].1 hi = false from h3]; rfl
            clear hz h2
            have HF : Hid (between lo hi (l.take (k + 1)) = between lo hi (l.take k)) := by
              show List.filter _ _ = List.filter _ _
              rw [hst, HIN.out]; simp
            clear hst HIN
            generalize l[k] = p at *
            go_wp2_with fail
            refine (i_key p _).mono ?_
            rintro e w3 ⟨rfl, hw3⟩
            have hX3 : Below (wr.alloc (.cells #[.string p.1, .string p.2] 34)).heap.size (wr.alloc (.cells #[.string p.1, .string p.2] 34)) w3 := by rw [hw3]; exact (Below.refl _ _).alloc (Nat.le_refl _) _
            have hXB : Below wr.heap.size wr w3 := ((Below.refl _ _).alloc (Nat.le_refl _) _).trans (hX3.mono (le_alloc _ _ (Nat.le_refl _)))
            have hB3 : Below w.heap.size w w3 := hB.trans (hXB.mono hB.size)
            have hO3 : OwnP w3 w.heap.size g n cp (between lo hi (l.take k)) := hO.below hXB
            obtain ⟨cb0, cb1⟩ := box_cell wr w3 p.1 p.2 hX3
            clear hw3 hO hB hXB c1 c2
            go_wp2_with fail
            refine (i_key p _).mono ?_
            rintro e w4 ⟨rfl, hw4⟩
            have hXB : Below w3.heap.size w3 w4 := by rw [hw4]; exact (Below.refl _ _).alloc (Nat.le_refl _) _
            have hB4 : Below w.heap.size w w4 := hB3.trans (hXB.mono hB3.size)
            have hO4 : OwnP w4 w.heap.size g n cp (between lo hi (l.take k)) := hO3.below hXB
            obtain ⟨cc0, cc1⟩ := box_cell wr w4 p.1 p.2 (hX3.trans (hXB.mono hX3.size))
            clear hw4 hO3 hB3 hXB cb0 cb1
            go_wp2_with (at_builtin; fail)
            go_roundw
            case rel => exact ⟨k + 1, g, n, cp, by omega, by omega, by go_num, rfl, by rw [HF.out]; exact hO4, hB4⟩
            case measure => simp [intOf]; omega
          · have HIN : Hid (inB lo hi l[k].1 = true) := by show _ = _; unfold inB; rw [show ltB l[k].1 lo = false from h1, hz, show ltB l[k].1 hi = true from h3]; rfl
            clear hz h2
            have HF : Hid (between lo hi (l.take (k + 1)) = between lo hi (l.take k) ++ [l[k]]) := by
              show List.filter _ _ = List.filter _ _ ++ _
              rw [hst, HIN.out]; simp
            have hc3 : n + 1 ≤ maxLen := by unfold maxLen; omega
            have hc4 : (n + 1) * 32 ≤ 140737488355328 := by omega
            clear hst HIN
            generalize l[k] = p at *
            go_wp2_with fail
            refine (i_key p _).mono ?_
            rintro e w3 ⟨rfl, hw3⟩
            have hX3 : Below (wr.alloc (.cells #[.string p.1, .string p.2] 34)).heap.size (wr.alloc (.cells #[.string p.1, .string p.2] 34)) w3 := by rw [hw3]; exact (Below.refl _ _).alloc (Nat.le_refl _) _
            have hXB : Below wr.heap.size wr w3 := ((Below.refl _ _).alloc (Nat.le_refl _) _).trans (hX3.mono (le_alloc _ _ (Nat.le_refl _)))
            have hB3 : Below w.heap.size w w3 := hB.trans (hXB.mono hB.size)
            have hO3 : OwnP w3 w.heap.size g n cp (between lo hi (l.take k)) := hO.below hXB
            obtain ⟨cb0, cb1⟩ := box_cell wr w3 p.1 p.2 hX3
            clear hw3 hO hB hXB c1 c2
            go_wp2_with fail
            refine (i_key p _).mono ?_
            rintro e w4 ⟨rfl, hw4⟩
            have hXB : Below w3.heap.size w3 w4 := by rw [hw4]; exact (Below.refl _ _).alloc (Nat.le_refl _) _
            have hB4 : Below w.heap.size w w4 := hB3.trans (hXB.mono hB3.size)
            have hO4 : OwnP w4 w.heap.size g n cp (between lo hi (l.take k)) := hO3.below hXB
            obtain ⟨cc0, cc1⟩ := box_cell wr w4 p.1 p.2 (hX3.trans (hXB.mono hX3.size))
            clear hw4 hO3 hB3 hXB cb0 cb1
            have hszW : w.heap.size ≤ w4.heap.size := hB4.size
            go_wp2_with (at_builtin; refine wpList_append_own _ rfl (.tmp 33) (.tmp 35) 98 rfl w.heap.size 34 i0 (.agg #[.string ⟨#[]⟩, .string ⟨#[]⟩]) 2 32 Tryz.underlying98 hif hz0 hz1 hz2 rfl (by decide) _ _ _ rfl (hO4.2.2.alloc _) ⟨w4.heap.size, 0, none⟩ 1 1 (pairVals [p]) rfl rfl (one_pair_cells _ _ _) (pairVals_oneCell _) hc3 hc4 (le_alloc _ _ hszW) ?_)
            intro v2 w2 hown hgrow hnn
            obtain ⟨g2, cp2, hv, hO2⟩ := ownP_app hO4.1 hO4.2.1 hpk hnn hown
            subst hv
            have hB2 : Below w.heap.size w w2 := (hB4.alloc hszW _).grown hgrow (le_alloc _ _ hszW) (fun k e => by simp [Value.ownBlock] at e; have := hO4.lt; omega)
            rw [← HF.out] at hO2
            have HO2 := Hid.mk' hO2
            clear hown hgrow hnn hO2 hO4 hB4
            go_wp2_with (at_builtin; fail)
            go_roundw
            case rel => exact ⟨k + 1, g2, n + 1, cp2, by omega, by omega, by go_num, rfl, HO2.out, hB2⟩
            case measure => simp [intOf]; omega
      · have HIN : Hid (inB lo hi l[k].1 = false) := by show _ = _; unfold inB; rw [show ltB l[k].1 lo = true from h1]; rfl
        have HF : Hid (between lo hi (l.take (k + 1)) = between lo hi (l.take k)) := by
          show List.filter _ _ = List.filter _ _
          rw [hst, HIN.out]; simp
        clear hst HIN
        generalize l[k] = p at *
        go_wp2_with fail
        refine (i_key p _).mono ?_
        rintro e w3 ⟨rfl, hw3⟩
        have hX3 : Below (wr.alloc (.cells #[.string p.1, .string p.2] 34)).heap.size (wr.alloc (.cells #[.string p.1, .string p.2] 34)) w3 := by rw [hw3]; exact (Below.refl _ _).alloc (Nat.le_refl _) _
        have hXB : Below wr.heap.size wr w3 := ((Below.refl _ _).alloc (Nat.le_refl _) _).trans (hX3.mono (le_alloc _ _ (Nat.le_refl _)))
        have hB3 : Below w.heap.size w w3 := hB.trans (hXB.mono hB.size)
        have hO3 : OwnP w3 w.heap.size g n cp (between lo hi (l.take k)) := hO.below hXB
        obtain ⟨cb0, cb1⟩ := box_cell wr w3 p.1 p.2 hX3
        clear hw3 hO hB hXB c1 c2
        go_wp2_with (at_builtin; fail)
        go_roundw
        case rel => exact ⟨k + 1, g, n, cp, by omega, by omega, by go_num, rfl, by rw [HF.out]; exact hO3, hB3⟩
        case measure => simp [intOf]; omega
    · have HE : Hid (l.take k = l) := List.take_of_length_le (by omega)
      go_wp2_with (at_builtin; fail)
      go_ret
      rw [HE.out] at hO
      exact ⟨g, n, cp, rfl, hO, hB⟩

set_option maxHeartbeats 1000000 in
theorem impl_between (b off len cap : Nat) (l : List Pr) (lo hi : ByteArray) (w : World) (h : SlP w (some ⟨b, off, none⟩) len l) (hcap : len ≤ cap) (hsz : len ≤ 1099511627776) :
    Calls Tryz.prog 63 #[.slice (some ⟨b, off, none⟩) len cap, .string lo, .string hi] w fun e w' =>
      ∃ g' n' cap', e = .returned (.slice (some ⟨g', 0, none⟩) n' cap') ∧ OwnP w' w.heap.size g' n' cap' (between lo hi l) ∧ Below w.heap.size w w' := by
  have hl := h.1
  subst hl
  have HW := Hid.mk' (i_between b off cap l lo hi w h hsz)
  go_enter Tryz.func63, Tryz.ntmps63
  go_wp2_with fail
  refine HW.out.mono ?_
  rintro e w2 ⟨g, n, cp, rfl, hO, hB⟩
  have HO := Hid.mk' hO
  clear hO
  go_wp2_with fail
  go_ret
  exact ⟨g, n, cp, rfl, HO.out, hB⟩

end Go.Proofs.YteammdkipnfmnaaGreatDoor.pairs

namespace Go.Proofs.YteammdkipnfmnaaGreatDoor.pairs
open Go Go.RowKit Go.Proofs.YteammdkipnfmnaaGreatDoor.base
open Go.Maps (Keyed)
open Go.WideMaps (keyOf_string_mk)
set_option linter.unusedVariables false
set_option linter.unusedSimpArgs false

/-! ### how often a key is there -/
def cnt (s : ByteArray) (l : List Pr) : Nat := (l.filter fun p => decide (p.1 = s)).length
end Go.Proofs.YteammdkipnfmnaaGreatDoor.pairs

namespace Go.Proofs.YteammdkipnfmnaaGreatDoor.ords
open Go Go.RowKit Go.Proofs.YteammdkipnfmnaaGreatDoor.base Go.Proofs.YteammdkipnfmnaaGreatDoor.pairs
set_option linter.unusedVariables false
set_option linter.unusedSimpArgs false

set_option maxHeartbeats 400000 in
theorem impl_shardOf (key : ByteArray) (n : Int) (w : World) (hs : key.size ≤ 1099511627776) (hn : (Lit.int .i64 n).wf = true) :
    Calls Tryz.prog 66 #[.string key, .int .i64 n] w fun e w' => e = .returned (.int .i64 (shardOf key n)) ∧ Below w.heap.size w w' := by
  have hH := hashOf_lt key.data.toList
  have HC := Hid.mk' (hash.impl_hash key w (by unfold maxLen; omega))
  unfold shardOf
  generalize hashOf key.data.toList = H at *
  by_cases h1 : n < 1
  · rw [if_pos h1]
    go_enter Tryz.func66, Tryz.ntmps66
    go_wp2_with fail
    go_ret
    exact ⟨rfl, Below.refl _ _⟩
  · rw [if_neg h1]
    have h2 : Int.tmod (H : Int) n = (H : Int) % n := Int.tmod_eq_emod_of_nonneg (by omega)
    have h3 : 0 ≤ (H : Int) % n := Int.emod_nonneg _ (by omega)
    have h4 : (H : Int) % n ≤ 4294967296 := by
      have h5 := Int.emod_add_ediv_mul (H : Int) n
      have h6 : 0 ≤ (H : Int) / n * n := Int.mul_nonneg (Int.ediv_nonneg (by omega) (by omega)) (by omega)
      omega
    generalize (H : Int) % n = R at *
    go_enter Tryz.func66, Tryz.ntmps66
    go_wp2_with fail
    refine HC.out.mono ?_
    rintro e w1 ⟨rfl, hb1⟩
    go_wp2_with fail
    go_ret
    exact ⟨rfl, hb1⟩


end Go.Proofs.YteammdkipnfmnaaGreatDoor.ords
