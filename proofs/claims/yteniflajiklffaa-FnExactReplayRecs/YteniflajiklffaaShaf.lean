/- The program's places of keys, and what is got. The program's putting of keys. The program's deleting of keys: a map counts the keys, and the key is deleted from it. A map of records by their transactions, that the call itself made: its elements are records whose orders lie elsewhere. -/
import Derived.Test.YteniflajiklffaaShae
import Derived.Maps.OwnSet
import Derived.Maps.OwnOps
import Derived.Maps.Views
import Derived.Test.YteniflajiklffaaShac
namespace Go.Proofs.Yteniflajiklffaa.pairs
open Go Go.RowKit Go.Proofs.Yteniflajiklffaa.base
set_option linter.unusedVariables false
set_option linter.unusedSimpArgs false

theorem i_meth (x y : ByteArray) (w : World) : (method 306 102 (.agg #[.string x, .string y]) "loop.example/g00244/impl.key").run Try.prog w = .ok (162, .agg #[.string x, .string y]) w := by kernel_rfl
theorem nth_take_none {key : ByteArray} {l : List Pr} {k : Nat} (hn : getKey key (l.take k) = none) (hk : k ≤ l.length) (j : Nat) (hj : j < k) : (l[j]'(by omega)).1 ≠ key := by
  have := getKey_none hn j (by simp; omega)
  rwa [List.getElem_take] at this
theorem bel2 {w wr : World} (hB : Below w.heap.size w wr) (x y : Obj) : Below w.heap.size w ((wr.alloc x).alloc y) := (hB.alloc hB.size _).alloc (le_alloc _ _ hB.size) _

set_option maxRecDepth 100000 in
set_option maxHeartbeats 2000000 in
theorem place_found (b off len cap : Nat) (l : List Pr) (key : ByteArray) (w : World) (h : SlP w (some ⟨b, off, none⟩) len l) (n : Nat) (hn : n < l.length) (he : l[n].1 = key) (hno : getKey key (l.take n) = none) :
    Calls Try.prog 145 #[.slice (some ⟨b, off, none⟩) len cap, .string key] w fun e w' => e = .returned (.tuple #[.int .i64 (n : Int), .bool true]) ∧ Below w.heap.size w w' := by
  have hl := h.1
  have hm := h.2.1
  subst hl
  unfold maxLen at hm
  have hmt := i_meth
  have HE := Hid.mk' he
  clear he
  go_enter Try.func145, Try.ntmps145
  go_wp2_with fail
  go_loopw [12] (fun i wr => ∃ k : Nat, k ≤ n ∧ i = .int .i64 (k : Int) ∧ Below w.heap.size w wr) (fun i _ => l.length - (intOf i).toNat)
  case atStart => exact ⟨0, Nat.zero_le _, rfl, Below.refl _ _⟩
  case round =>
    obtain ⟨k, hk, rfl, hB⟩ := hrel
    have hlt : k < l.length := by omega
    obtain ⟨c1, c2⟩ := (h.below hB).cells k hlt
    have hki : (k : Int) < (l.length : Int) := by omega
    by_cases hkn : k = n
    · subst hkn
      have he := HE.out
      rw [he] at c1
      generalize l[k].2 = y at *
      clear hno HE he
      go_wp2_with fail
      refine (i_key (key, y) _).mono ?_
      rintro e w2 ⟨rfl, rfl⟩
      go_wp2_with fail
      go_ret2
      exact ⟨rfl, bel2 hB _ _⟩
    · have hq : (l[k].1.toList == key.toList) = false := str_ne (nth_take_none hno (by omega) k (by omega))
      have hkn2 : k + 1 ≤ n := by omega
      clear hno HE hkn
      generalize l[k] = p at *
      go_wp2_with fail
      refine (i_key p _).mono ?_
      rintro e w2 ⟨rfl, rfl⟩
      go_wp2_with fail
      go_roundw
      case rel => exact ⟨k + 1, hkn2, by go_num, bel2 hB _ _⟩
      case measure => simp [intOf]; omega

set_option maxRecDepth 100000 in
set_option maxHeartbeats 2000000 in
theorem place_none (b off len cap : Nat) (l : List Pr) (key : ByteArray) (w : World) (h : SlP w (some ⟨b, off, none⟩) len l) (hno : getKey key l = none) :
    Calls Try.prog 145 #[.slice (some ⟨b, off, none⟩) len cap, .string key] w fun e w' => e = .returned (.tuple #[.int .i64 (below key l : Int), .bool false]) ∧ Below w.heap.size w w' := by
  have hl := h.1
  have hm := h.2.1
  subst hl
  unfold maxLen at hm
  have hmt := i_meth
  obtain ⟨r, hr⟩ : ∃ r, below key l = r := ⟨_, rfl⟩
  have hne := getKey_none hno
  clear hno
  rw [hr]
  have HR := Hid.mk' hr
  clear hr
  go_enter Try.func145, Try.ntmps145
  go_wp2_with fail
  go_loopw [12] (fun i wr => ∃ k : Nat, k ≤ l.length ∧ i = .int .i64 (k : Int) ∧ Below w.heap.size w wr) (fun i _ => l.length - (intOf i).toNat)
  case atStart => exact ⟨0, Nat.zero_le _, rfl, Below.refl _ _⟩
  case round =>
    obtain ⟨k, hk, rfl, hB⟩ := hrel
    by_cases hlt : k < l.length
    · obtain ⟨c1, c2⟩ := (h.below hB).cells k hlt
      have hki : (k : Int) < (l.length : Int) := by omega
      have hq := str_ne (hne k hlt)
      clear hne
      generalize l[k] = p at *
      go_wp2_with fail
      refine (i_key p _).mono ?_
      rintro e w2 ⟨rfl, rfl⟩
      go_wp2_with fail
      go_roundw
      case rel => exact ⟨k + 1, by omega, by go_num, bel2 hB _ _⟩
      case measure => simp [intOf]; omega
    · have hB0 := hB
      clear hB
      go_wp2_with fail
      go_loopw [26] (fun i wr => ∃ k : Nat, k ≤ l.length ∧ i = .int .i64 (k : Int) ∧ k + below key (l.drop k) = r ∧ Below w.heap.size w wr) (fun i _ => l.length - (intOf i).toNat)
      case atStart => exact ⟨0, Nat.zero_le _, rfl, by rw [List.drop_zero, HR.out]; omega, hB0⟩
      case round =>
        clear hB0 hlt hk
        obtain ⟨k, hk, rfl, hr, hB⟩ := hrel
        by_cases hlt : k < l.length
        · obtain ⟨c1, c2⟩ := (h.below hB).cells k hlt
          have hki : (k : Int) < (l.length : Int) := by omega
          have hst := below_drop key l k hlt
          cases hL : ltB key l[k].1
          · have HF : Hid (k + 1 + below key (l.drop (k + 1)) = r) := by
              show _ = _
              rw [hL] at hst; simp at hst; omega
            have hl2 : Op.bytesLess l[k].1.toList key.toList = true := by rw [less_flip (hne k hlt), show Op.bytesLess key.toList l[k].1.toList = false from hL]; rfl
            clear hst hr hL hne
            generalize l[k] = p at *
            go_wp2_with fail
            refine (i_key p _).mono ?_
            rintro e w2 ⟨rfl, rfl⟩
            go_wp2_with fail
            go_roundw
            case rel => exact ⟨k + 1, by omega, by go_num, HF.out, bel2 hB _ _⟩
            case measure => simp [intOf]; omega
          · have HF : Hid (k = r) := by
              show _ = _
              rw [hL] at hst; simp at hst; omega
            have hl2 : Op.bytesLess l[k].1.toList key.toList = false := by rw [less_flip (hne k hlt), show Op.bytesLess key.toList l[k].1.toList = true from hL]; rfl
            have hq := str_ne (hne k hlt)
            clear hst hr hL hne
            generalize l[k] = p at *
            go_wp2_with fail
            refine (i_key p _).mono ?_
            rintro e w2 ⟨rfl, rfl⟩
            go_wp2_with fail
            obtain rfl := HF.out
            go_ret2
            exact ⟨rfl, bel2 hB _ _⟩
        · have HF : Hid (l.length = r) := by
            show _ = _
            rw [List.drop_eq_nil_of_le (by omega)] at hr; simp [below] at hr; omega
          clear hr hne
          go_wp2_with fail
          obtain rfl := HF.out
          go_ret2
          exact ⟨rfl, hB⟩

theorem getKey_place {key : ByteArray} {l : List Pr} {v : ByteArray} (h : getKey key l = some v) : ∃ n, ∃ hn : n < l.length, l[n].1 = key ∧ l[n].2 = v ∧ getKey key (l.take n) = none := by
  induction l with
  | nil => cases h
  | cons p l ih =>
    rw [getKey] at h
    by_cases hp : p.1 = key
    · rw [if_pos hp] at h
      exact ⟨0, by simp, hp, by simpa using h, rfl⟩
    · rw [if_neg hp] at h
      obtain ⟨n, hn, h1, h2, h3⟩ := ih h
      refine ⟨n + 1, by simp; omega, by simpa using h1, by simpa using h2, ?_⟩
      rw [List.take_succ_cons, getKey, if_neg hp]
      exact h3

set_option maxRecDepth 100000 in
set_option maxHeartbeats 1000000 in
theorem impl_getKey (b off len cap : Nat) (l : List Pr) (key : ByteArray) (w : World) (h : SlP w (some ⟨b, off, none⟩) len l) :
    Calls Try.prog 140 #[.slice (some ⟨b, off, none⟩) len cap, .string key] w fun e w' => e = .returned (getRet (getKey key l)) ∧ Below w.heap.size w w' := by
  cases hg : getKey key l with
  | none =>
    have HP := Hid.mk' (place_none b off len cap l key w h hg)
    clear hg
    go_enter Try.func140, Try.ntmps140
    go_wp2_with fail
    refine HP.out.mono ?_
    rintro e w2 ⟨rfl, hb⟩
    go_wp2_with fail
    go_ret2
    exact ⟨rfl, hb⟩
  | some v =>
    obtain ⟨n, hn, h1, h2, h3⟩ := getKey_place hg
    have HP := Hid.mk' (place_found b off len cap l key w h n hn h1 h3)
    have hl := h.1
    have hm := h.2.1
    unfold maxLen at hm
    subst hl h2
    clear hg h1 h3
    have hni : (n : Int) < (l.length : Int) := by omega
    go_enter Try.func140, Try.ntmps140
    go_wp2_with fail
    refine HP.out.mono ?_
    rintro e w2 ⟨rfl, hb⟩
    have c2 := ((h.below hb).cells n hn).2
    go_wp2_with fail
    go_ret2
    exact ⟨rfl, hb⟩

end Go.Proofs.Yteniflajiklffaa.pairs

namespace Go.Proofs.Yteniflajiklffaa.pairs
open Go Go.RowKit Go.Proofs.Yteniflajiklffaa.base
set_option linter.unusedVariables false
set_option linter.unusedSimpArgs false

theorem box_cell (w w' : World) (x y : ByteArray) (hB : Below (w.alloc (.cells #[.string x, .string y] 102)).heap.size (w.alloc (.cells #[.string x, .string y] 102)) w') :
    w'.cell? ⟨w.heap.size, 0, none⟩ = some (.string x) ∧ w'.cell? ⟨w.heap.size, 1, none⟩ = some (.string y) := by
  have hlt : w.heap.size < (w.alloc (.cells #[.string x, .string y] 102)).heap.size := by simp
  refine ⟨(hB.cell (p := ⟨w.heap.size, 0, none⟩) hlt).trans ?_, (hB.cell (p := ⟨w.heap.size, 1, none⟩) hlt).trans ?_⟩
  · simp
  · simp

set_option maxRecDepth 100000 in
set_option maxHeartbeats 4000000 in
theorem with_new (b off cap : Nat) (l : List Pr) (key val : ByteArray) (w : World) (h : SlP w (some ⟨b, off, none⟩) l.length l) (hcap : l.length ≤ cap) (hsz : l.length ≤ 1099511627776) (hks : key.size ≤ maxLen) (hvs : val.size ≤ maxLen)
    (k : Nat) (hk : k ≤ l.length)
    (HP : Hid (∀ wx, SlP wx (some ⟨b, off, none⟩) l.length l → Calls Try.prog 145 #[.slice (some ⟨b, off, none⟩) l.length cap, .string key] wx fun e w' => e = .returned (.tuple #[.int .i64 (k : Int), .bool false]) ∧ Below wx.heap.size wx w')) :
    Calls Try.prog 141 #[.slice (some ⟨b, off, none⟩) l.length cap, .agg #[.string key, .string val]] w fun e w' =>
      ∃ g' n' cap', e = .returned (.slice (some ⟨g', 0, none⟩) n' cap') ∧ OwnP w' w.heap.size g' n' cap' (l.take k ++ (key, val) :: l.drop k) ∧ Below w.heap.size w w' := by
  obtain ⟨i0, hif, hz0, hz1, hz2⟩ := info_parts infoP
  have hsm := h.2.2.1
  have hmt := i_meth
  have hbA : Below w.heap.size w (w.alloc (.cells #[.string key, .string val] 102)) := (Below.refl _ _).alloc (Nat.le_refl _) _
  have hbK : Below (w.alloc (.cells #[.string key, .string val] 102)).heap.size (w.alloc (.cells #[.string key, .string val] 102)) ((w.alloc (.cells #[.string key, .string val] 102)).alloc (.cells #[.string key, .string val] 102)) := (Below.refl _ _).alloc (Nat.le_refl _) _
  have HA := Hid.mk' (HP.out _ ((h.below hbA).below hbK))
  have hBA := Hid.mk' hbA
  have hBK := Hid.mk' hbK
  clear hbA hbK HP
  go_enter Try.func141, Try.ntmps141
  go_wp2_with fail
  refine (i_key (key, val) _).mono ?_
  rintro e w2 ⟨rfl, rfl⟩
  go_wp2_with fail
  refine HA.out.mono ?_
  rintro e w3 ⟨rfl, hb3⟩
  have hB3 : Below (w.alloc (.cells #[.string key, .string val] 102)).heap.size (w.alloc (.cells #[.string key, .string val] 102)) w3 := hBK.out.trans (hb3.mono hBK.out.size)
  obtain ⟨base, hbase⟩ : ∃ base, (w.alloc (.cells #[.string key, .string val] 102)).heap.size = base := ⟨_, rfl⟩
  have hwb : w.heap.size ≤ base := by rw [← hbase]; exact hBA.out.size
  have hbox := fun wx hx => box_cell w wx key val (hbase ▸ hx)
  have hbs3 : base ≤ w3.heap.size := by rw [← hbase]; exact hB3.size
  rw [hbase] at hB3
  have HAll : Hid (∀ wx, Below base (w.alloc (.cells #[.string key, .string val] 102)) wx → Below w.heap.size w wx) := fun wx hx => hBA.out.trans (hx.mono hwb)
  have HBox := Hid.mk' hbox
  clear hb3 hBK hBA HA hbase hbox
  have hSl3 := h.below (HAll.out _ hB3)
  obtain ⟨c, hc⟩ : ∃ c : Nat, l.length + 1 = c := ⟨_, rfl⟩
  have hcI : (l.length : Int) + 1 = (c : Int) := by omega
  have hmk1 : c ≤ maxLen := by unfold maxLen; omega
  have hmk2 : i0.bytes * c ≤ 281474976710656 := by rw [hz2]; omega
  go_wp2_with (at_make; refine wpList_make_own _ rfl _ _ 182 rfl base 102 i0 (.agg #[.string ⟨#[]⟩, .string ⟨#[]⟩]) 2 Try.underlying182 hif hz0 hz1 _ _ _ c rfl rfl (by omega) hmk2 hmk1 hbs3 ?_)
  intro w4 hown hgrow
  have hO4 : OwnP w4 base w3.heap.size 0 c [] := ⟨rfl, fun s h => absurd h List.not_mem_nil, hown⟩
  have hB4 := hB3.grown hgrow hbs3 (fun k e => by cases e)
  have hbs4 : base ≤ w4.heap.size := Nat.le_trans hbs3 hgrow.size
  have HC1 := Hid.mk' (cells_pairs (cellsP_take (h.below (HAll.out _ hB4)).cells k))
  have hn1 : (pairVals (l.take k)).length = k * 2 := by rw [pairVals_length, List.length_take_of_le (by omega)]
  have hm3 : 0 + k ≤ maxLen := by unfold maxLen; omega
  have hm4 : (0 + k) * 32 ≤ 140737488355328 := by omega
  have hkc : (k : Int) ≤ (cap : Int) := by omega
  have hown4 := hO4.2.2
  clear hown hgrow hB3 hSl3 hmk1 hmk2 hcI
  go_wp2_with (at_builtin; refine wpList_append_own _ rfl (.tmp 25) (.tmp 28) 182 rfl base 102 i0 (.agg #[.string ⟨#[]⟩, .string ⟨#[]⟩]) 2 32 Try.underlying182 hif hz0 hz1 hz2 rfl (by decide) _ _ _ rfl hown4 ⟨b, off, none⟩ k cap (pairVals (l.take k)) rfl hn1 HC1.out (pairVals_oneCell _) hm3 hm4 hbs4 ?_)
  intro v5 w5 hown hgrow hnn
  have hnn' : ¬ v5 = .slice none 0 0 := by simpa using hnn
  obtain ⟨g5, cap5, hv, hO5⟩ := ownP_val (l := l.take k) (n := k) (List.length_take_of_le (by omega)) (take_small hsm k) hnn' (by simpa [pairVals] using hown)
  subst hv
  have hB5 := hB4.grown hgrow hbs4 (fun k e => by simp [Value.ownBlock] at e; have := hO4.lt; omega)
  have hbs5 : base ≤ w5.heap.size := Nat.le_trans hbs4 hgrow.size
  obtain ⟨cb0, cb1⟩ := HBox.out _ hB5
  have hm5 : k + 1 ≤ maxLen := by unfold maxLen; omega
  have hm6 : (k + 1) * 32 ≤ 140737488355328 := by omega
  clear hown hgrow hnn hnn' hown4 hO4 hB4 HC1 hn1 hm3 hm4 HBox
  go_wp2_with (at_builtin; refine wpList_append_own _ rfl (.tmp 30) (.tmp 32) 182 rfl base 102 i0 (.agg #[.string ⟨#[]⟩, .string ⟨#[]⟩]) 2 32 Try.underlying182 hif hz0 hz1 hz2 rfl (by decide) _ _ _ rfl (hO5.2.2.alloc _) ⟨w5.heap.size, 0, none⟩ 1 1 (pairVals [(key, val)]) rfl rfl (one_pair_cells _ (key, val) _) (pairVals_oneCell _) hm5 hm6 (le_alloc _ _ hbs5) ?_)
  intro v6 w6 hown hgrow hnn
  obtain ⟨g6, cap6, hv, hO6⟩ := ownP_app hO5.1 hO5.2.1 ⟨hks, hvs⟩ hnn hown
  subst hv
  have hB6 := (hB5.alloc hbs5 _).grown hgrow (le_alloc _ _ hbs5) (fun k e => by simp [Value.ownBlock] at e; have := hO5.lt; omega)
  have hbs6 : base ≤ w6.heap.size := Nat.le_trans (le_alloc _ _ hbs5) hgrow.size
  have hSl6 := h.below (HAll.out _ hB6)
  have hm7 : k + 1 + (l.length - (k)) ≤ maxLen := by unfold maxLen; omega
  have hm8 : (k + 1 + (l.length - (k))) * 32 ≤ 140737488355328 := by omega
  have hn7 : (pairVals (l.drop (k))).length = (l.length - (k)) * 2 := by rw [pairVals_length, List.length_drop]
  clear hown hgrow hnn hO5 hB5 hm5 hm6
  by_cases hck : cap = k
  · have HC7 : Hid (∀ j v, (pairVals (l.drop (k)))[j]? = some v → w6.cell? ((⟨b, off, none⟩ : Addr).add j) = some v) := by
      show ∀ j v, _ → _
      intro j v hj
      rw [List.drop_eq_nil_of_le (by omega)] at hj
      simp [pairVals] at hj
    go_wp2_with (at_builtin; refine wpList_append_own _ rfl (.tmp 34) (.tmp 37) 182 rfl base 102 i0 (.agg #[.string ⟨#[]⟩, .string ⟨#[]⟩]) 2 32 Try.underlying182 hif hz0 hz1 hz2 rfl (by decide) _ _ _ rfl hO6.2.2 ⟨b, off, none⟩ (l.length - (k)) _ (pairVals (l.drop (k))) rfl hn7 HC7.out (pairVals_oneCell _) hm7 hm8 hbs6 ?_)
    intro v7 w7 hown hgrow hnn
    have hnn' : ¬ v7 = .slice none 0 0 := by simpa using hnn
    rw [← pairVals_append] at hown
    obtain ⟨g7, cap7, hv, hO7⟩ := ownP_val (n := k + 1 + (l.length - (k))) (by simp; omega) (fun q hq => by
      rcases List.mem_append.1 hq with h1 | h1
      · exact hO6.2.1 q h1
      · exact hsm q (List.mem_of_mem_drop h1)) hnn' hown
    subst hv
    have hB7 := HAll.out _ (hB6.grown hgrow hbs6 (fun k e => by simp [Value.ownBlock] at e; have := hO6.lt; omega))
    have HO7 := Hid.mk' (hO7.mono hwb)
    clear hown hgrow hnn hnn' hO7
    go_wp2_with (at_builtin; fail)
    go_ret
    refine ⟨g7, _, cap7, rfl, ?_, hB7⟩
    have := HO7.out
    rw [List.append_assoc] at this
    exact this
  · have HC7 := Hid.mk' (cells_pairs (cellsP_drop hSl6.cells (k)))
    go_wp2_with (at_builtin; refine wpList_append_own _ rfl (.tmp 34) (.tmp 37) 182 rfl base 102 i0 (.agg #[.string ⟨#[]⟩, .string ⟨#[]⟩]) 2 32 Try.underlying182 hif hz0 hz1 hz2 rfl (by decide) _ _ _ rfl hO6.2.2 ⟨b, off + (k) * 2, none⟩ (l.length - (k)) _ (pairVals (l.drop (k))) rfl hn7 HC7.out (pairVals_oneCell _) hm7 hm8 hbs6 ?_)
    intro v7 w7 hown hgrow hnn
    have hnn' : ¬ v7 = .slice none 0 0 := by simpa using hnn
    rw [← pairVals_append] at hown
    obtain ⟨g7, cap7, hv, hO7⟩ := ownP_val (n := k + 1 + (l.length - (k))) (by simp; omega) (fun q hq => by
      rcases List.mem_append.1 hq with h1 | h1
      · exact hO6.2.1 q h1
      · exact hsm q (List.mem_of_mem_drop h1)) hnn' hown
    subst hv
    have hB7 := HAll.out _ (hB6.grown hgrow hbs6 (fun k e => by simp [Value.ownBlock] at e; have := hO6.lt; omega))
    have HO7 := Hid.mk' (hO7.mono hwb)
    clear hown hgrow hnn hnn' hO7
    go_wp2_with (at_builtin; fail)
    go_ret
    refine ⟨g7, _, cap7, rfl, ?_, hB7⟩
    have := HO7.out
    rw [List.append_assoc] at this
    exact this

set_option maxRecDepth 100000 in
set_option maxHeartbeats 4000000 in
theorem with_found (b off cap : Nat) (l : List Pr) (key val : ByteArray) (w : World) (h : SlP w (some ⟨b, off, none⟩) l.length l) (hcap : l.length ≤ cap) (hsz : l.length ≤ 1099511627776) (hks : key.size ≤ maxLen) (hvs : val.size ≤ maxLen)
    (k : Nat) (hk : k < l.length)
    (HP : Hid (∀ wx, SlP wx (some ⟨b, off, none⟩) l.length l → Calls Try.prog 145 #[.slice (some ⟨b, off, none⟩) l.length cap, .string key] wx fun e w' => e = .returned (.tuple #[.int .i64 (k : Int), .bool true]) ∧ Below wx.heap.size wx w')) :
    Calls Try.prog 141 #[.slice (some ⟨b, off, none⟩) l.length cap, .agg #[.string key, .string val]] w fun e w' =>
      ∃ g' n' cap', e = .returned (.slice (some ⟨g', 0, none⟩) n' cap') ∧ OwnP w' w.heap.size g' n' cap' (l.take k ++ (key, val) :: l.drop (k + 1)) ∧ Below w.heap.size w w' := by
  obtain ⟨i0, hif, hz0, hz1, hz2⟩ := info_parts infoP
  have hsm := h.2.2.1
  have hmt := i_meth
  have hbA : Below w.heap.size w (w.alloc (.cells #[.string key, .string val] 102)) := (Below.refl _ _).alloc (Nat.le_refl _) _
  have hbK : Below (w.alloc (.cells #[.string key, .string val] 102)).heap.size (w.alloc (.cells #[.string key, .string val] 102)) ((w.alloc (.cells #[.string key, .string val] 102)).alloc (.cells #[.string key, .string val] 102)) := (Below.refl _ _).alloc (Nat.le_refl _) _
  have HA := Hid.mk' (HP.out _ ((h.below hbA).below hbK))
  have hBA := Hid.mk' hbA
  have hBK := Hid.mk' hbK
  clear hbA hbK HP
  go_enter Try.func141, Try.ntmps141
  go_wp2_with fail
  refine (i_key (key, val) _).mono ?_
  rintro e w2 ⟨rfl, rfl⟩
  go_wp2_with fail
  refine HA.out.mono ?_
  rintro e w3 ⟨rfl, hb3⟩
  have hB3 : Below (w.alloc (.cells #[.string key, .string val] 102)).heap.size (w.alloc (.cells #[.string key, .string val] 102)) w3 := hBK.out.trans (hb3.mono hBK.out.size)
  obtain ⟨base, hbase⟩ : ∃ base, (w.alloc (.cells #[.string key, .string val] 102)).heap.size = base := ⟨_, rfl⟩
  have hwb : w.heap.size ≤ base := by rw [← hbase]; exact hBA.out.size
  have hbox := fun wx hx => box_cell w wx key val (hbase ▸ hx)
  have hbs3 : base ≤ w3.heap.size := by rw [← hbase]; exact hB3.size
  rw [hbase] at hB3
  have HAll : Hid (∀ wx, Below base (w.alloc (.cells #[.string key, .string val] 102)) wx → Below w.heap.size w wx) := fun wx hx => hBA.out.trans (hx.mono hwb)
  have HBox := Hid.mk' hbox
  clear hb3 hBK hBA HA hbase hbox
  have hSl3 := h.below (HAll.out _ hB3)
  obtain ⟨c, hc⟩ : ∃ c : Nat, l.length + 1 = c := ⟨_, rfl⟩
  have hcI : (l.length : Int) + 1 = (c : Int) := by omega
  have hmk1 : c ≤ maxLen := by unfold maxLen; omega
  have hmk2 : i0.bytes * c ≤ 281474976710656 := by rw [hz2]; omega
  go_wp2_with (at_make; refine wpList_make_own _ rfl _ _ 182 rfl base 102 i0 (.agg #[.string ⟨#[]⟩, .string ⟨#[]⟩]) 2 Try.underlying182 hif hz0 hz1 _ _ _ c rfl rfl (by omega) hmk2 hmk1 hbs3 ?_)
  intro w4 hown hgrow
  have hO4 : OwnP w4 base w3.heap.size 0 c [] := ⟨rfl, fun s h => absurd h List.not_mem_nil, hown⟩
  have hB4 := hB3.grown hgrow hbs3 (fun k e => by cases e)
  have hbs4 : base ≤ w4.heap.size := Nat.le_trans hbs3 hgrow.size
  have HC1 := Hid.mk' (cells_pairs (cellsP_take (h.below (HAll.out _ hB4)).cells k))
  have hn1 : (pairVals (l.take k)).length = k * 2 := by rw [pairVals_length, List.length_take_of_le (by omega)]
  have hm3 : 0 + k ≤ maxLen := by unfold maxLen; omega
  have hm4 : (0 + k) * 32 ≤ 140737488355328 := by omega
  have hkc : (k : Int) ≤ (cap : Int) := by omega
  have hown4 := hO4.2.2
  clear hown hgrow hB3 hSl3 hmk1 hmk2 hcI
  go_wp2_with (at_builtin; refine wpList_append_own _ rfl (.tmp 25) (.tmp 28) 182 rfl base 102 i0 (.agg #[.string ⟨#[]⟩, .string ⟨#[]⟩]) 2 32 Try.underlying182 hif hz0 hz1 hz2 rfl (by decide) _ _ _ rfl hown4 ⟨b, off, none⟩ k cap (pairVals (l.take k)) rfl hn1 HC1.out (pairVals_oneCell _) hm3 hm4 hbs4 ?_)
  intro v5 w5 hown hgrow hnn
  have hnn' : ¬ v5 = .slice none 0 0 := by simpa using hnn
  obtain ⟨g5, cap5, hv, hO5⟩ := ownP_val (l := l.take k) (n := k) (List.length_take_of_le (by omega)) (take_small hsm k) hnn' (by simpa [pairVals] using hown)
  subst hv
  have hB5 := hB4.grown hgrow hbs4 (fun k e => by simp [Value.ownBlock] at e; have := hO4.lt; omega)
  have hbs5 : base ≤ w5.heap.size := Nat.le_trans hbs4 hgrow.size
  obtain ⟨cb0, cb1⟩ := HBox.out _ hB5
  have hm5 : k + 1 ≤ maxLen := by unfold maxLen; omega
  have hm6 : (k + 1) * 32 ≤ 140737488355328 := by omega
  clear hown hgrow hnn hnn' hown4 hO4 hB4 HC1 hn1 hm3 hm4 HBox
  go_wp2_with (at_builtin; refine wpList_append_own _ rfl (.tmp 30) (.tmp 32) 182 rfl base 102 i0 (.agg #[.string ⟨#[]⟩, .string ⟨#[]⟩]) 2 32 Try.underlying182 hif hz0 hz1 hz2 rfl (by decide) _ _ _ rfl (hO5.2.2.alloc _) ⟨w5.heap.size, 0, none⟩ 1 1 (pairVals [(key, val)]) rfl rfl (one_pair_cells _ (key, val) _) (pairVals_oneCell _) hm5 hm6 (le_alloc _ _ hbs5) ?_)
  intro v6 w6 hown hgrow hnn
  obtain ⟨g6, cap6, hv, hO6⟩ := ownP_app hO5.1 hO5.2.1 ⟨hks, hvs⟩ hnn hown
  subst hv
  have hB6 := (hB5.alloc hbs5 _).grown hgrow (le_alloc _ _ hbs5) (fun k e => by simp [Value.ownBlock] at e; have := hO5.lt; omega)
  have hbs6 : base ≤ w6.heap.size := Nat.le_trans (le_alloc _ _ hbs5) hgrow.size
  have hSl6 := h.below (HAll.out _ hB6)
  have hm7 : k + 1 + (l.length - (k + 1)) ≤ maxLen := by unfold maxLen; omega
  have hm8 : (k + 1 + (l.length - (k + 1))) * 32 ≤ 140737488355328 := by omega
  have hn7 : (pairVals (l.drop (k + 1))).length = (l.length - (k + 1)) * 2 := by rw [pairVals_length, List.length_drop]
  clear hown hgrow hnn hO5 hB5 hm5 hm6
  by_cases hck : cap = k + 1
  · have HC7 : Hid (∀ j v, (pairVals (l.drop (k + 1)))[j]? = some v → w6.cell? ((⟨b, off, none⟩ : Addr).add j) = some v) := by
      show ∀ j v, _ → _
      intro j v hj
      rw [List.drop_eq_nil_of_le (by omega)] at hj
      simp [pairVals] at hj
    have hR1 : (k : Int) + 1 ≤ (l.length : Int) := by omega
    have hR2 : (k : Int) + 1 ≤ (cap : Int) := by omega
    have hR3 : ((k : Int) + 1).toNat = k + 1 := by omega
    go_wp2_with (at_builtin; refine wpList_append_own _ rfl (.tmp 34) (.tmp 37) 182 rfl base 102 i0 (.agg #[.string ⟨#[]⟩, .string ⟨#[]⟩]) 2 32 Try.underlying182 hif hz0 hz1 hz2 rfl (by decide) _ _ _ rfl hO6.2.2 ⟨b, off, none⟩ (l.length - (k + 1)) _ (pairVals (l.drop (k + 1))) rfl hn7 HC7.out (pairVals_oneCell _) hm7 hm8 hbs6 ?_)
    intro v7 w7 hown hgrow hnn
    have hnn' : ¬ v7 = .slice none 0 0 := by simpa using hnn
    rw [← pairVals_append] at hown
    obtain ⟨g7, cap7, hv, hO7⟩ := ownP_val (n := k + 1 + (l.length - (k + 1))) (by simp; omega) (fun q hq => by
      rcases List.mem_append.1 hq with h1 | h1
      · exact hO6.2.1 q h1
      · exact hsm q (List.mem_of_mem_drop h1)) hnn' hown
    subst hv
    have hB7 := HAll.out _ (hB6.grown hgrow hbs6 (fun k e => by simp [Value.ownBlock] at e; have := hO6.lt; omega))
    have HO7 := Hid.mk' (hO7.mono hwb)
    clear hown hgrow hnn hnn' hO7
    go_wp2_with (at_builtin; fail)
    go_ret
    refine ⟨g7, _, cap7, rfl, ?_, hB7⟩
    have := HO7.out
    rw [List.append_assoc] at this
    exact this
  · have HC7 := Hid.mk' (cells_pairs (cellsP_drop hSl6.cells (k + 1)))
    have hR1 : (k : Int) + 1 ≤ (l.length : Int) := by omega
    have hR2 : (k : Int) + 1 ≤ (cap : Int) := by omega
    have hR3 : ((k : Int) + 1).toNat = k + 1 := by omega
    go_wp2_with (at_builtin; refine wpList_append_own _ rfl (.tmp 34) (.tmp 37) 182 rfl base 102 i0 (.agg #[.string ⟨#[]⟩, .string ⟨#[]⟩]) 2 32 Try.underlying182 hif hz0 hz1 hz2 rfl (by decide) _ _ _ rfl hO6.2.2 ⟨b, off + (k + 1) * 2, none⟩ (l.length - (k + 1)) _ (pairVals (l.drop (k + 1))) rfl hn7 HC7.out (pairVals_oneCell _) hm7 hm8 hbs6 ?_)
    intro v7 w7 hown hgrow hnn
    have hnn' : ¬ v7 = .slice none 0 0 := by simpa using hnn
    rw [← pairVals_append] at hown
    obtain ⟨g7, cap7, hv, hO7⟩ := ownP_val (n := k + 1 + (l.length - (k + 1))) (by simp; omega) (fun q hq => by
      rcases List.mem_append.1 hq with h1 | h1
      · exact hO6.2.1 q h1
      · exact hsm q (List.mem_of_mem_drop h1)) hnn' hown
    subst hv
    have hB7 := HAll.out _ (hB6.grown hgrow hbs6 (fun k e => by simp [Value.ownBlock] at e; have := hO6.lt; omega))
    have HO7 := Hid.mk' (hO7.mono hwb)
    clear hown hgrow hnn hnn' hO7
    go_wp2_with (at_builtin; fail)
    go_ret
    refine ⟨g7, _, cap7, rfl, ?_, hB7⟩
    have := HO7.out
    rw [List.append_assoc] at this
    exact this

set_option maxRecDepth 100000 in
set_option maxHeartbeats 1000000 in
theorem impl_putKey (b off len cap : Nat) (l : List Pr) (key val : ByteArray) (w : World) (h : SlP w (some ⟨b, off, none⟩) len l) (hcap : len ≤ cap) (hsz : len ≤ 1099511627776) (hks : key.size ≤ maxLen) (hvs : val.size ≤ maxLen) :
    Calls Try.prog 126 #[.slice (some ⟨b, off, none⟩) len cap, .string key, .string val] w fun e w' =>
      ∃ g' n' cap', e = .returned (.slice (some ⟨g', 0, none⟩) n' cap') ∧ OwnP w' w.heap.size g' n' cap' (putKey key val l) ∧ Below w.heap.size w w' := by
  have hl := h.1
  subst hl
  have HW : Hid (Calls Try.prog 141 #[.slice (some ⟨b, off, none⟩) l.length cap, .agg #[.string key, .string val]] w fun e w' =>
      ∃ g' n' cap', e = .returned (.slice (some ⟨g', 0, none⟩) n' cap') ∧ OwnP w' w.heap.size g' n' cap' (putKey key val l) ∧ Below w.heap.size w w') := by
    cases hg : getKey key l with
    | none =>
      rw [put_new hg]
      exact with_new b off cap l key val w h hcap hsz hks hvs (below key l) (below_le key l) (Hid.mk' fun wx hx => place_none b off _ cap l key wx hx hg)
    | some v =>
      obtain ⟨n, hn, h1, h2, h3⟩ := getKey_place hg
      rw [put_found n hn h1 h3, List.set_eq_take_append_cons_drop, if_pos hn, h1]
      exact with_found b off cap l key val w h hcap hsz hks hvs n hn (Hid.mk' fun wx hx => place_found b off _ cap l key wx hx n hn h1 h3)
  go_enter Try.func126, Try.ntmps126
  go_wp2_with fail
  refine HW.out.mono ?_
  rintro e w2 ⟨g, n, cp, rfl, hO, hB⟩
  have HO := Hid.mk' hO
  clear hO
  go_wp2_with fail
  go_ret
  exact ⟨g, n, cp, rfl, HO.out, hB⟩

end Go.Proofs.Yteniflajiklffaa.pairs

namespace Go.Proofs.Yteniflajiklffaa.pairs
open Go Go.RowKit Go.Proofs.Yteniflajiklffaa.base
open Go.Maps (Keyed)
open Go.WideMaps (keyOf_string_mk)
set_option linter.unusedVariables false
set_option linter.unusedSimpArgs false

theorem keyLaw : Keyed Try.prog 9 := Maps.string_keyed Try.underlying9
theorem zeroInt (w : World) : (zeroValue 3).run Try.prog w = .ok (.int .i64 0) w := by kernel_rfl

/-! ### how often a key is there -/
def cnt (s : ByteArray) (l : List Pr) : Nat := (l.filter fun p => decide (p.1 = s)).length
theorem cnt_le (s : ByteArray) (l : List Pr) : cnt s l ≤ l.length := List.length_filter_le _ _
theorem cnt_snoc (s : ByteArray) (l : List Pr) (k : Nat) (h : k < l.length) : cnt s (l.take (k + 1)) = cnt s (l.take k) + if s = l[k].1 then 1 else 0 := by
  unfold cnt
  rw [take_snocP l k h, List.filter_append, List.length_append]
  by_cases e : l[k].1 = s
  · simp [List.filter_cons, e]
  · have e' : ¬ s = l[k].1 := fun x => e x.symm
    simp [List.filter_cons, e, e']
theorem cnt_pos (l : List Pr) (k : Nat) (h : k < l.length) : 1 ≤ cnt l[k].1 l := by
  unfold cnt
  exact List.length_pos_of_mem (List.mem_filter.2 ⟨List.getElem_mem h, by simp⟩)
theorem delKey_snoc (key : ByteArray) (l : List Pr) (j : Nat) (h : j < l.length) : delKey key (l.take (j + 1)) = if l[j].1 = key then delKey key (l.take j) else delKey key (l.take j) ++ [l[j]] := by
  have hst := filter_snoc (fun p => decide (p.1 ≠ key)) l j h
  unfold delKey
  rw [hst]
  by_cases e : l[j].1 = key
  · rw [if_pos e]; simp [e]
  · rw [if_neg e]; simp [e]
theorem lit_inj {a b : Int} (h : (DataW.lit (.int .i64 a) : DataW Unit) = .lit (.int .i64 b)) : a = b := by
  cases h; rfl
theorem str_lit_ne {a b : ByteArray} (h : a ≠ b) : (Lit.string a.data.toList) ≠ .string b.data.toList := by
  intro e; apply h; apply bytes_ext; exact Lit.string.inj e

def Tally (w : World) (B n : Nat) (f : ByteArray → Nat) : Prop :=
  ∃ D : DataW Unit, w.ownsMap Try.prog 9 (plainElem Try.prog 3) B n D ∧ Maps.IsMap D ∧ ∀ s : ByteArray, D.atKey (.string s.data.toList) (.lit (.int .i64 0)) = .lit (.int .i64 (f s : Int))
theorem tally_made (w : World) : Tally (w.alloc (.map #[] 0)) w.heap.size 0 (fun _ => 0) :=
  ⟨.map [], World.ownsMap_made _ _ _ _, Maps.isMap_empty, fun s => rfl⟩
theorem Tally.below {w w' : World} {B n : Nat} {f : ByteArray → Nat} (h : Tally w B n f) (hb : Below w.heap.size w w') : Tally w' B n f := by
  obtain ⟨D, h1, h2, h3⟩ := h
  exact ⟨D, h1.kept (row := none) ⟨hb.os, hb.tape, hb.output, hb.size, fun k hk _ => hb.block k hk⟩ (by simp), h2, h3⟩
theorem Tally.grown {w w' : World} {B n : Nat} {f : ByteArray → Nat} {row : Option Nat} (h : Tally w B n f) (hg : w.grownBy w' row) (hne : some B ≠ row) : Tally w' B n f := by
  obtain ⟨D, h1, h2, h3⟩ := h
  exact ⟨D, h1.kept hg hne, h2, h3⟩

theorem Tally.put {w' : World} {B n : Nat} {f f' : ByteArray → Nat} {D : DataW Unit} {x : ByteArray} (h2 : Maps.IsMap D) (h3 : ∀ s : ByteArray, D.atKey (.string s.data.toList) (.lit (.int .i64 0)) = .lit (.int .i64 (f s : Int))) {v : Int} (hv : v = (f' x : Int)) (ho : ∀ s, s ≠ x → f' s = f s)
    (h1 : w'.ownsMap Try.prog 9 (plainElem Try.prog 3) B n (D.put (.string x.data.toList) (.lit (.int .i64 v)))) : Tally w' B n f' := by
  refine ⟨_, h1, h2.put _ _, fun s => ?_⟩
  by_cases e : s = x
  · subst e
    rw [Maps.atKey_put_same h2 (by trivial), hv]
  · rw [Maps.atKey_put_other (str_lit_ne e), h3, ho s e]

theorem Tally.del {w' : World} {B n : Nat} {f : ByteArray → Nat} {D : DataW Unit} {x : ByteArray} (h2 : Maps.IsMap D) (h3 : ∀ s : ByteArray, D.atKey (.string s.data.toList) (.lit (.int .i64 0)) = .lit (.int .i64 (f s : Int)))
    (h1 : w'.ownsMap Try.prog 9 (plainElem Try.prog 3) B n (D.del (.string x.data.toList))) : Tally w' B n (fun s => if s = x then 0 else f s) := by
  refine ⟨_, h1, h2.del _, fun s => ?_⟩
  by_cases e : s = x
  · subst e
    rw [Maps.atKey_del_same]; simp
  · rw [Maps.atKey_del_other (str_lit_ne e), h3]; simp [e]

set_option maxRecDepth 100000 in
set_option maxHeartbeats 4000000 in
theorem i_without (b off cap : Nat) (l : List Pr) (key : ByteArray) (w : World) (h : SlP w (some ⟨b, off, none⟩) l.length l) (hsz : l.length ≤ 1099511627776) (hkey : key.size ≤ maxLen) :
    Calls Try.prog 142 #[.slice (some ⟨b, off, none⟩) l.length cap, .string key] w fun e w' =>
      ∃ g' n' cap', e = .returned (.slice (some ⟨g', 0, none⟩) n' cap') ∧ OwnP w' w.heap.size g' n' cap' (delKey key l) ∧ Below w.heap.size w w' := by
  obtain ⟨i0, hif, hz0, hz1, hz2⟩ := info_parts infoP
  have hsm := h.2.2.1
  have hmt := i_meth
  have hmm := @run_makeMap Try.prog
  have hkk := keyOf_string_mk (P := Try.prog) Try.underlying9 hkey
  go_enter Try.func142, Try.ntmps142
  go_wp2_with (at_builtin; fail)
  go_loopw [14] (fun i wr => ∃ k : Nat, k ≤ l.length ∧ i = .int .i64 (k : Int) ∧ Tally wr w.heap.size k (fun s => cnt s (l.take k)) ∧ Below w.heap.size w wr) (fun i _ => l.length - (intOf i).toNat)
  case atStart => exact ⟨0, Nat.zero_le _, rfl, tally_made w, (Below.refl _ _).alloc (Nat.le_refl _) _⟩
  case round =>
    obtain ⟨k, hk, rfl, hT, hB⟩ := hrel
    clear hmm
    by_cases hlt : k < l.length
    · obtain ⟨c1, c2⟩ := (h.below hB).cells k hlt
      have hki : (k : Int) < (l.length : Int) := by omega
      have hpk := hsm _ (List.getElem_mem hlt)
      have HS : Hid (∀ s, cnt s (l.take (k + 1)) = cnt s (l.take k) + if s = l[k].1 then 1 else 0) := fun s => cnt_snoc s l k hlt
      have hle := cnt_le l[k].1 (l.take k)
      have hlk : (l.take k).length ≤ k := List.length_take_le _ _
      generalize l[k] = p at *
      have hpkey := keyOf_string_mk (P := Try.prog) Try.underlying9 hpk.1
      go_wp2_with fail
      refine (i_key p _).mono ?_
      rintro e w3 ⟨rfl, hw3⟩
      have hXB : Below wr.heap.size wr w3 := by rw [hw3]; exact ((Below.refl _ _).alloc (Nat.le_refl _) _).alloc (le_alloc _ _ (Nat.le_refl _)) _
      have hB3 : Below w.heap.size w w3 := hB.trans (hXB.mono hB.size)
      obtain ⟨D, hown, hD, hat0⟩ := hT.below hXB
      have HAT := Hid.mk' hat0
      clear hw3 hB hXB hT c1 c2 hat0
      go_wp2_with (at_lookup; refine wpList_lookup_own_int _ rfl _ _ 94 rfl 9 3 .i64 keyLaw Try.underlying94 Try.underlying3 (zeroInt _) w.heap.size k D rfl hown _ _ rfl hpkey ?_)
      intro c hat hwc
      obtain ⟨m, hm⟩ : ∃ m : Nat, m = cnt p.1 (l.take k) := ⟨_, rfl⟩
      obtain rfl : c = (m : Int) := by rw [HAT.out] at hat; rw [hm]; exact (lit_inj hat).symm
      have hmk : m ≤ k := by omega
      have HM := Hid.mk' hm
      clear hat hwc hm
      go_wp2_with (at_mapUpdate; refine wpList_mapUpdate_own _ rfl _ _ _ 94 rfl 9 3 keyLaw Try.underlying94 _ w.heap.size k D rfl hown (by unfold maxLen; omega) _ _ _ rfl rfl hpkey _ [] (plainElem_int Try.underlying3 (WalkArith.wf_i64 (by omega))) ?_)
      intro w4 hown4 hgrow4
      have hT4 : Tally w4 w.heap.size (k + 1) (fun s => cnt s (l.take (k + 1))) := Tally.put hD HAT.out (by rw [HS.out, if_pos rfl, ← HM.out]; simp) (fun s hs => by rw [HS.out, if_neg hs]; simp) hown4
      have hB4 := hB3.grown hgrow4 hB3.size (fun j hj => by cases hj; exact Nat.le_refl _)
      clear hown4 hgrow4 hown HAT hB3 hD
      go_wp2_with fail
      go_roundw
      case rel => exact ⟨k + 1, by omega, by go_num, hT4, hB4⟩
      case measure => simp [intOf]; omega
    · have HE : Hid (l.take k = l) := List.take_of_length_le (by omega)
      rw [HE.out] at hT
      obtain ⟨D, hown, hD, hat0⟩ := hT
      go_wp2_with (at_delete; refine wpList_delete_own _ rfl _ _ 94 9 rfl 3 keyLaw Try.underlying94 _ w.heap.size k D rfl hown _ _ rfl hkk ?_)
      intro w5 hown5 hturn5
      have hT5 := Tally.del hD hat0 hown5
      have hlt5 := hown.lt
      have hB5 := hB.grown hturn5.grown hB.size (fun j hj => by cases hj; exact Nat.le_refl _)
      have hs5 : w.heap.size + 1 ≤ w5.heap.size := Nat.le_trans hlt5 hturn5.grown.size
      clear hown5 hturn5 hown hat0 hD hB hlt5
      go_wp2_with (at_builtin; fail)
      go_loopw [8, 30] (fun v i wr => ∃ (j g n cp : Nat), j ≤ l.length ∧ n ≤ j ∧ i = .int .i64 (j : Int) ∧ v = .slice (some ⟨g, 0, none⟩) n cp ∧ OwnP wr (w.heap.size + 1) g n cp (delKey key (l.take j)) ∧ Tally wr w.heap.size k (fun s => if s = key then 0 else cnt s l) ∧ Below w.heap.size w wr) (fun _ i _ => l.length - (intOf i).toNat)
      case atStart => exact ⟨0, w5.heap.size, 0, 0, Nat.zero_le _, Nat.le_refl _, rfl, rfl, ownP_made w5 _ hs5, hT5.below ((Below.refl _ _).alloc (Nat.le_refl _) _), hB5.alloc hB5.size _⟩
      case round =>
        clear hT5 hB5 hs5
        obtain ⟨j, g, n, cp, hj, hnj, rfl, rfl, hO, hT, hB⟩ := hrel
        by_cases hltj : j < l.length
        · obtain ⟨c1, c2⟩ := (h.below hB).cells j hltj
          have hpk := hsm _ (List.getElem_mem hltj)
          have hki : (j : Int) < (l.length : Int) := by omega
          have hcp := cnt_pos l j hltj
          have hcl := cnt_le l[j].1 l
          have hpkey := keyOf_string_mk (P := Try.prog) Try.underlying9 hpk.1
          have HD := Hid.mk' (delKey_snoc key l j hltj)
          have hc3 : n + 1 ≤ maxLen := by unfold maxLen; omega
          have hc4 : (n + 1) * 32 ≤ 140737488355328 := by omega
          generalize l[j] = p at *
          go_wp2_with fail
          refine (i_key p _).mono ?_
          rintro e w3 ⟨rfl, hw3⟩
          have hX3 : Below (wr.alloc (.cells #[.string p.1, .string p.2] 102)).heap.size (wr.alloc (.cells #[.string p.1, .string p.2] 102)) w3 := by rw [hw3]; exact (Below.refl _ _).alloc (Nat.le_refl _) _
          have hXB : Below wr.heap.size wr w3 := ((Below.refl _ _).alloc (Nat.le_refl _) _).trans (hX3.mono (le_alloc _ _ (Nat.le_refl _)))
          have hB3 : Below w.heap.size w w3 := hB.trans (hXB.mono hB.size)
          have hO3 := hO.below hXB
          have hT3 := hT.below hXB
          obtain ⟨cb0, cb1⟩ := box_cell wr w3 p.1 p.2 hX3
          obtain ⟨D3, hown, hD3, hat0⟩ := hT.below hXB
          have HAT := Hid.mk' hat0
          clear hw3 hO hB hXB hX3 hT c1 c2 hat0
          go_wp2_with (at_lookup; refine wpList_lookup_own_int _ rfl _ _ 94 rfl 9 3 .i64 keyLaw Try.underlying94 Try.underlying3 (zeroInt _) w.heap.size k D3 rfl hown _ _ rfl hpkey ?_)
          intro c hat hwc
          rw [HAT.out] at hat
          have hcv := lit_inj hat
          clear hat hwc hown hD3 HAT
          by_cases he : p.1 = key
          · have hF := HD.out
            rw [if_pos he] at hF
            obtain rfl : c = 0 := by rw [if_pos he] at hcv; exact hcv.symm
            have HF := Hid.mk' hF
            clear hcv HD hF he
            go_wp2_with (at_builtin; fail)
            go_roundw
            case rel => exact ⟨j + 1, g, n, cp, by omega, by omega, by go_num, rfl, by rw [HF.out]; exact hO3, hT3, hB3⟩
            case measure => simp [intOf]; omega
          · have hF := HD.out
            rw [if_neg he] at hF
            rw [if_neg he] at hcv
            have hc0 : 0 < c := by omega
            have hc1 : c ≤ 1099511627776 := by omega
            have HF := Hid.mk' hF
            have hsz3 : w.heap.size + 1 ≤ w3.heap.size := by have := hO3.lt; omega
            clear hcv HD hF he
            go_wp2_with (at_builtin; refine wpList_append_own _ rfl (.tmp 40) (.tmp 42) 182 rfl (w.heap.size + 1) 102 i0 (.agg #[.string ⟨#[]⟩, .string ⟨#[]⟩]) 2 32 Try.underlying182 hif hz0 hz1 hz2 rfl (by decide) _ _ _ rfl (hO3.2.2.alloc _) ⟨w3.heap.size, 0, none⟩ 1 1 (pairVals [p]) rfl rfl (one_pair_cells _ _ _) (pairVals_oneCell _) hc3 hc4 (le_alloc _ _ hsz3) ?_)
            intro v2 w2 hown2 hgrow hnn
            obtain ⟨g2, cp2, hv, hO2⟩ := ownP_app hO3.1 hO3.2.1 hpk hnn hown2
            subst hv
            have hB2 : Below w.heap.size w w2 := (hB3.alloc hB3.size _).grown hgrow (le_alloc _ _ hB3.size) (fun k e => by simp [Value.ownBlock] at e; have := hO3.lt; omega)
            have hT2 := (hT3.below ((Below.refl _ _).alloc (Nat.le_refl _) _)).grown hgrow (by simp [Value.ownBlock]; have := hO3.lt; omega)
            rw [← HF.out] at hO2
            have HO2 := Hid.mk' hO2
            clear hown2 hgrow hnn hO2 hO3 hB3 hT3
            go_wp2_with (at_builtin; fail)
            go_roundw
            case rel => exact ⟨j + 1, g2, n + 1, cp2, by omega, by omega, by go_num, rfl, HO2.out, hT2, hB2⟩
            case measure => simp [intOf]; omega
        · have HE2 : Hid (l.take j = l) := List.take_of_length_le (by omega)
          go_wp2_with (at_builtin; fail)
          go_ret
          rw [HE2.out] at hO
          exact ⟨g, n, cp, rfl, hO.mono (by omega), hB⟩

set_option maxHeartbeats 1000000 in
theorem impl_delKey (b off len cap : Nat) (l : List Pr) (key : ByteArray) (w : World) (h : SlP w (some ⟨b, off, none⟩) len l) (hcap : len ≤ cap) (hsz : len ≤ 1099511627776) (hkey : key.size ≤ maxLen) :
    Calls Try.prog 127 #[.slice (some ⟨b, off, none⟩) len cap, .string key] w fun e w' =>
      ∃ g' n' cap', e = .returned (.slice (some ⟨g', 0, none⟩) n' cap') ∧ OwnP w' w.heap.size g' n' cap' (delKey key l) ∧ Below w.heap.size w w' := by
  have hl := h.1
  subst hl
  have HW := Hid.mk' (i_without b off cap l key w h hsz hkey)
  go_enter Try.func127, Try.ntmps127
  go_wp2_with fail
  refine HW.out.mono ?_
  rintro e w2 ⟨g, n, cp, rfl, hO, hB⟩
  have HO := Hid.mk' hO
  clear hO
  go_wp2_with fail
  go_ret
  exact ⟨g, n, cp, rfl, HO.out, hB⟩

end Go.Proofs.Yteniflajiklffaa.pairs

namespace Go.Proofs.Yteniflajiklffaa.recs
open Go Go.RowKit Go.Proofs.Yteniflajiklffaa.base Go.Proofs.Yteniflajiklffaa.pairs Go.Proofs.Yteniflajiklffaa.ords
open Go.ChangeMaps Go.MapKept
open Go.Maps (keyOf_int_mk)
set_option linter.unusedVariables false
set_option linter.unusedSimpArgs false

theorem intLawR : Go.Maps.Keyed Try.prog 3 := Maps.int_keyed Try.underlying3
def codeA : Option Addr → List (DataW Unit)
  | none => []
  | some ⟨b, o, _⟩ => [.lit (.int .i64 (b : Int)), .lit (.int .i64 (o : Int))]
def codeR (k t : Int) (a : Option Addr) (n c : Nat) : DataW Unit := .agg ([.lit (.int .i64 k), .lit (.int .i64 t), .lit (.int .i64 (n : Int)), .lit (.int .i64 (c : Int))] ++ codeA a)
def recL : List Value → Option (DataW Unit × List MemPlace)
  | [.int .i64 k, .int .i64 t, .slice none n c] => some (codeR k t none n c, [])
  | [.int .i64 k, .int .i64 t, .slice (some ⟨b, o, none⟩) n c] => some (codeR k t (some ⟨b, o, none⟩) n c, [])
  | _ => none
def recE : Value → Option (DataW Unit × List MemPlace)
  | .agg xs => recL xs.toList
  | _ => none
def Plain (a : Option Addr) : Prop := a = none ∨ ∃ b o, a = some ⟨b, o, none⟩
theorem recE_mk (k t : Int) {a : Option Addr} (n c : Nat) (h : Plain a) : recE (.agg #[.int .i64 k, .int .i64 t, .slice a n c]) = some (codeR k t a n c, []) := by
  rcases h with rfl | ⟨b, o, rfl⟩ <;> rfl
theorem codeR_inj {k t k' t' : Int} {a a' : Option Addr} {n c n' c' : Nat} (ha : Plain a) (ha' : Plain a') (h : codeR k t a n c = codeR k' t' a' n' c') : k = k' ∧ t = t' ∧ a = a' ∧ n = n' ∧ c = c' := by
  unfold codeR at h
  have h1 := DataW.agg.inj h
  rcases ha with rfl | ⟨b, o, rfl⟩ <;> rcases ha' with rfl | ⟨b', o', rfl⟩ <;> simp [codeA] at h1 ⊢ <;> omega
theorem recE_inv {v : Value} {z : DataW Unit × List MemPlace} (h : recE v = some z) : ∃ k t a n c, Plain a ∧ v = .agg #[.int .i64 k, .int .i64 t, .slice a n c] ∧ z = (codeR k t a n c, []) := by
  unfold recE at h
  split at h
  · next xs =>
    unfold recL at h
    split at h
    · next k t n c e =>
      cases h
      exact ⟨k, t, none, n, c, .inl rfl, by rw [← e], rfl⟩
    · next k t b o n c e =>
      cases h
      exact ⟨k, t, some ⟨b, o, none⟩, n, c, .inr ⟨b, o, rfl⟩, by rw [← e], rfl⟩
    · cases h
  · cases h
theorem zeroRec (w : World) : (zeroValue 91).run Try.prog w = .ok (.agg #[.int .i64 0, .int .i64 0, .slice none 0 0]) w := by kernel_rfl
def Lasts (w0 w : World) (B n : Nat) (f : Int → Rc) : Prop :=
  ∃ D : DataW Unit, w.ownsMap Try.prog 3 recE B n D ∧ Maps.IsMap D ∧
    ∀ s : Int, (Lit.int .i64 s).wf = true → ∃ a m c, Plain a ∧ SlO w0 a m (f s).2.2 ∧ D.atKey (.int .i64 s) (codeR 0 0 none 0 0) = codeR (f s).1 (f s).2.1 a m c
theorem lasts_made (w0 w : World) : Lasts w0 (w.alloc (.map #[] 0)) w.heap.size 0 (fun _ => (0, 0, [])) :=
  ⟨.map [], World.ownsMap_made _ _ _ _, Maps.isMap_empty, fun s _ => ⟨none, 0, 0, .inl rfl, slo_nil _ _, rfl⟩⟩
section
variable {w0 w w' : World} {B n : Nat} {f : Int → Rc}
theorem Lasts.lt (h : Lasts w0 w B n f) : B < w.heap.size := by
  obtain ⟨D, ⟨es, clock, hb, _⟩, _⟩ := h
  exact (Array.getElem?_eq_some_iff.1 hb).1
theorem Lasts.keep (h : Lasts w0 w B n f) (hb : w'.heap[B]? = w.heap[B]?) : Lasts w0 w' B n f := by
  obtain ⟨D, ⟨es, clock, h1, h2⟩, h3, h4⟩ := h
  exact ⟨D, ⟨es, clock, hb.trans h1, h2⟩, h3, h4⟩
theorem Lasts.below (h : Lasts w0 w B n f) (hb : Below w.heap.size w w') : Lasts w0 w' B n f := h.keep (hb.block B h.lt)
theorem Lasts.grown {row : Option Nat} (h : Lasts w0 w B n f) (hg : w.grownBy w' row) (hne : some B ≠ row) : Lasts w0 w' B n f := h.keep (hg.block B h.lt hne)
theorem Lasts.look (h : Lasts w0 w B n f) {s : Int} (hs : (Lit.int .i64 s).wf = true) : ∃ a m c, Plain a ∧ SlO w0 a m (f s).2.2 ∧ ∀ w2 : World, w2.heap[B]? = w.heap[B]? → (Instr.lookup 93 (.map (some B)) (.int .i64 s) false).run Try.prog w2 = .ok (.agg #[.int .i64 (f s).1, .int .i64 (f s).2.1, .slice a m c]) w2 := by
  obtain ⟨D, ⟨es, clock, hb, F, hn, rfl⟩, h3, h4⟩ := h
  obtain ⟨a, m, c, h5, h6, h7⟩ := h4 s hs
  have hkey := keyOf_int_mk (P := Try.prog) Try.underlying3 hs
  refine ⟨a, m, c, h5, h6, fun w2 hw2 => ?_⟩
  rcases Maps.fit_look false intLawR Try.underlying93 (zeroRec w2) (hw2.trans hb) F hkey with ⟨hrun, _, hat⟩ | ⟨e0, y, _, _, hrun, hRv, hat, _⟩
  · rw [hat] at h7
    obtain ⟨e1, e2, e3, e4, e5⟩ := codeR_inj (.inl rfl) h5 h7
    rw [hrun, ← e1, ← e2, ← e3, ← e4, ← e5]; rfl
  · rw [hat] at h7
    obtain ⟨k', t', a', n', c', hp, hv, hz⟩ := recE_inv hRv
    rw [hz] at h7
    obtain ⟨e1, e2, e3, e4, e5⟩ := codeR_inj hp h5 h7
    rw [hrun, hv, ← e1, ← e2, ← e3, ← e4, ← e5]; rfl
def updR (f : Int → Rc) (s : Int) (r : Rc) (t : Int) : Rc := if t = s then r else f t
theorem Lasts.store (h : Lasts w0 w B n f) (hn : n < maxLen) {s : Int} (hs : (Lit.int .i64 s).wf = true) {r : Rc} {a : Option Addr} {m c : Nat} (ha : Plain a) (hS : SlO w0 a m r.2.2) :
    ∃ w2, (Instr.mapUpdate 93 (.map (some B)) (.int .i64 s) (.agg #[.int .i64 r.1, .int .i64 r.2.1, .slice a m c])).run Try.prog w = .ok () w2 ∧ Lasts w0 w2 B (n + 1) (updR f s r) ∧ w.grownBy w2 (some B) := by
  obtain ⟨D, h1, h3, h4⟩ := h
  have hkey := keyOf_int_mk (P := Try.prog) Try.underlying3 hs
  obtain ⟨w2, hrun, hown, hturn⟩ := h1.store intLawR Try.underlying93 hn hkey (recE_mk r.1 r.2.1 m c ha)
  refine ⟨w2, hrun, ⟨_, hown, h3.put _ _, fun t ht => ?_⟩, hturn.grown⟩
  unfold updR
  by_cases e : t = s
  · subst e
    rw [if_pos rfl]
    exact ⟨a, m, c, ha, hS, Maps.atKey_put_same h3 (by trivial) _ _⟩
  · rw [if_neg e]
    obtain ⟨a', m', c', h5, h6, h7⟩ := h4 t ht
    exact ⟨a', m', c', h5, h6, by rw [Maps.atKey_put_other (by intro e2; exact e (by cases e2; rfl)), h7]⟩
end
theorem wpList_store_last {w0 w : World} {ops : Array Oper} {rest : List Oper} {o : Oper} {a : Act} {Q : Exit → Act → World → Prop} (hg : o.guard = none) (m x v : Operand) (hop : o.op = Op.mapUpdate 93 m x v)
    {B n : Nat} {f : Int → Rc} (hm : a.eval m = .map (some B)) (h : Lasts w0 w B n f) (hn : n < maxLen) {s : Int} (hx : a.eval x = .int .i64 s) (hs : (Lit.int .i64 s).wf = true) {r : Rc} {ad : Option Addr} {mm c : Nat} (hv : a.eval v = .agg #[.int .i64 r.1, .int .i64 r.2.1, .slice ad mm c]) (ha : Plain ad) (hS : SlO w0 ad mm r.2.2)
    (hK : ∀ w2, Lasts w0 w2 B (n + 1) (updR f s r) → w.grownBy w2 (some B) → wpList Try.prog ops Q rest (a.put o.dst undef) w2) : wpList Try.prog ops Q (o :: rest) a w := by
  refine wpList_plain hg fun K' hK' => ?_
  obtain ⟨w2, hrun, r1, r2⟩ := h.store hn hs (c := c) ha hS
  unfold Oper.wp
  simp [execOp, hop, hm, hx, hv, hrun, Result.andThen]
  exact hK' _ _ (hK w2 r1 r2)
end Go.Proofs.Yteniflajiklffaa.recs
