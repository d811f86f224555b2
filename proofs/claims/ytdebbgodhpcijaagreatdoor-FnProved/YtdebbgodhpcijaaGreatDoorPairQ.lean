/- The specification's keys and pairs: what is right, what is got. The specification's lists of pairs. The specification's putting of keys. The specification's right pairs, and pairs put into others. -/
import Derived.Test.YtdebbgodhpcijaaGreatDoorKitB
import Derived.Deep.RegionHeld3
import Derived.Test.YtdebbgodhpcijaaGreatDoorShaQ
namespace Go.Proofs.YtdebbgodhpcijaaGreatDoor.pairs
open Go Go.RowKit Go.Proofs.YtdebbgodhpcijaaGreatDoor.base
set_option linter.unusedVariables false
set_option linter.unusedSimpArgs false

theorem bcell {W w1 : World} (hb : Below W.heap.size W w1) : (∀ b o, b < W.heap.size → w1.cell? ⟨b, o, none⟩ = W.cell? ⟨b, o, none⟩) :=
  fun b o h => hb.cell (p := ⟨b, o, none⟩) h
set_option maxHeartbeats 400000 in
theorem s_in (x a b : Int) (w : World) (hx : -1000 ≤ x ∧ x ≤ 1099511627776) (ha : 0 ≤ a ∧ a ≤ 1000) (hb : 0 ≤ b ∧ b ≤ 1000) :
    Calls Tryz.prog 33 #[.int .i64 x, .int .i64 a, .int .i64 b] w fun e w' => e = .returned (.bool (decide (a ≤ x ∧ x ≤ b))) ∧ w' = w := by
  by_cases h1 : a ≤ x
  · by_cases h2 : x ≤ b
    · go_enter Tryz.func33, Tryz.ntmps33
      go_wp2
      go_ret
      exact ⟨ret_bool (by simp [h1, h2]), rfl⟩
    · go_enter Tryz.func33, Tryz.ntmps33
      go_wp2
      go_ret
      exact ⟨ret_bool (by simp [h1, h2]), rfl⟩
  · go_enter Tryz.func33, Tryz.ntmps33
    go_wp2
    go_ret
    exact ⟨ret_bool (by have h3 : ¬ a ≤ x := by omega
                        simp [h3]), rfl⟩

theorem keyAll_drop (s : ByteArray) (k : Nat) (h : k < s.size) : keyAll (s.data.toList.drop k) = (keyCh s[k].toNat && keyAll (s.data.toList.drop (k + 1))) := by
  rw [List.drop_eq_getElem_cons (by simpa using h)]; rfl

set_option maxRecDepth 100000 in
set_option maxHeartbeats 1000000 in
theorem spec_keyOk (s : ByteArray) (w : World) (hs : s.size ≤ 1099511627776) :
    Calls Tryz.prog 92 #[.string s] w fun e w' => e = .returned (.bool (keyOk s)) ∧ w' = w := by
  generalize hR : keyAll s.data.toList = R
  have HR := Hid.mk' hR
  clear hR
  go_enter Tryz.func92, Tryz.ntmps92
  go_wp2
  go_loop [3] (fun i => ∃ k : Nat, k ≤ s.size ∧ i = .int .i64 (k : Int) ∧ keyAll (s.data.toList.drop k) = R) (fun i => s.size - (intOf i).toNat)
  case atStart => exact ⟨0, Nat.zero_le _, rfl, HR.out⟩
  case round =>
    obtain ⟨k, hk, rfl, hr⟩ := hrel
    by_cases hlt : k < s.size
    · have hst := keyAll_drop s k hlt
      rw [hr] at hst
      have hc := s[k].toNat_lt
      generalize hC : s[k].toNat = c at *
      have HST := Hid.mk' hst
      have HC := Hid.mk' hC
      clear hst hr
      have hki : (k : Int) < (s.size : Int) := by omega
      by_cases h1 : 97 ≤ c ∧ c ≤ 122
      · have HF : Hid (keyAll (s.data.toList.drop (k + 1)) = R) := by
          show _ = _
          have := HST.out; rw [show keyCh c = true by simp [keyCh, h1]] at this; simpa using this.symm
        have hl := s_in (c : Int) 97 122 w (by omega) (by omega) (by omega)
        rw [decide_eq_true (by omega)] at hl
        have HL := Hid.mk' hl
        clear hl HST
        go_wp2_with fail
        refine HL.out.mono ?_
        rintro e w1 ⟨rfl, rfl⟩
        go_wp2_with fail
        go_round
        case rel => exact ⟨k + 1, by omega, by go_num, HF.out⟩
        case measure => simp [intOf]; omega
      · have hl := s_in (c : Int) 97 122 w (by omega) (by omega) (by omega)
        rw [decide_eq_false (by omega)] at hl
        have HL := Hid.mk' hl
        clear hl
        by_cases h2 : 48 ≤ c ∧ c ≤ 57
        · have HF : Hid (keyAll (s.data.toList.drop (k + 1)) = R) := by
            show _ = _
            have := HST.out; rw [show keyCh c = true by simp [keyCh, h2]] at this; simpa using this.symm
          have hl := s_in (c : Int) 48 57 w (by omega) (by omega) (by omega)
          rw [decide_eq_true (by omega)] at hl
          have HL2 := Hid.mk' hl
          clear hl HST
          go_wp2_with fail
          refine HL.out.mono ?_
          rintro e w1 ⟨rfl, rfl⟩
          go_wp2_with fail
          refine HL2.out.mono ?_
          rintro e w1 ⟨rfl, rfl⟩
          go_wp2_with fail
          go_round
          case rel => exact ⟨k + 1, by omega, by go_num, HF.out⟩
          case measure => simp [intOf]; omega
        · have HF : Hid (R = false) := by
            show _ = _
            have := HST.out; rw [show keyCh c = false by simp only [keyCh, h1, h2]; rfl] at this; simpa using this
          have hl := s_in (c : Int) 48 57 w (by omega) (by omega) (by omega)
          rw [decide_eq_false (by omega)] at hl
          have HL2 := Hid.mk' hl
          clear hl HST
          go_wp2_with fail
          refine HL.out.mono ?_
          rintro e w1 ⟨rfl, rfl⟩
          go_wp2_with fail
          refine HL2.out.mono ?_
          rintro e w1 ⟨rfl, rfl⟩
          go_wp2_with fail
          go_ret
          exact ⟨ret_bool (by unfold keyOk; rw [HR.out, HF.out]; rfl), rfl⟩
    · have HF : Hid (R = true) := by show _ = _; rw [← hr, List.drop_eq_nil_of_le (by simp; omega)]; rfl
      have hl := s_in (s.size : Int) 1 12 w (by omega) (by omega) (by omega)
      rw [show decide ((1 : Int) ≤ (s.size : Int) ∧ (s.size : Int) ≤ 12) = decide (1 ≤ s.size ∧ s.size ≤ 12) by rw [decide_eq_decide]; omega] at hl
      have HL := Hid.mk' hl
      clear hl hr
      go_wp2_with fail
      refine HL.out.mono ?_
      rintro e w1 ⟨rfl, rfl⟩
      go_wp2_with fail
      go_ret
      exact ⟨ret_bool (by unfold keyOk; rw [HR.out, HF.out]; simp), rfl⟩

set_option maxHeartbeats 400000 in
theorem spec_pairOk (p : Pr) (w : World) (hp : small p) (hs : p.1.size ≤ 1099511627776) :
    Calls Tryz.prog 66 #[.agg #[.string p.1, .string p.2]] w fun e w' => e = .returned (.bool (pairOk p)) ∧ Below w.heap.size w w' := by
  have h2 := hp.2
  unfold maxLen at h2
  have hba : Below w.heap.size w (w.alloc (.cells #[.string p.1, .string p.2] 49)) := (Below.refl _ _).alloc (Nat.le_refl _) _
  have hk := spec_keyOk p.1 (w.alloc (.cells #[.string p.1, .string p.2] 49)) hs
  cases hK : keyOk p.1
  · rw [hK] at hk
    have HK := Hid.mk' hk
    have H1 := Hid.mk' hK
    clear hk hK
    go_enter Tryz.func66, Tryz.ntmps66
    go_wp2_with fail
    refine HK.out.mono ?_
    rintro e w1 ⟨rfl, rfl⟩
    go_wp2_with fail
    go_ret
    exact ⟨ret_bool (by unfold pairOk; rw [H1.out]; rfl), hba⟩
  · rw [hK] at hk
    have HK := Hid.mk' hk
    have H1 := Hid.mk' hK
    clear hk hK
    go_enter Tryz.func66, Tryz.ntmps66
    go_wp2_with fail
    refine HK.out.mono ?_
    rintro e w1 ⟨rfl, rfl⟩
    go_wp2_with fail
    go_ret
    exact ⟨ret_bool (by unfold pairOk; rw [H1.out]; simp; omega), hba⟩

def getRet : Option ByteArray → Value
  | none => .tuple #[.string ⟨#[]⟩, .bool false]
  | some v => .tuple #[.string v, .bool true]
theorem str_ne {a b : ByteArray} (h : a ≠ b) : (a.toList == b.toList) = false := by
  rw [beq_eq_false_iff_ne]; intro e; rw [ByteArray.toList_eq, ByteArray.toList_eq] at e; exact h (bytes_ext e)


set_option maxHeartbeats 1000000 in
theorem spec_l3In (key lo hi : ByteArray) (w : World) :
    Calls Tryz.prog 35 #[.string key, .string lo, .string hi] w fun e w' => e = .returned (.bool (inB lo hi key)) ∧ w' = w := by
  have hz : hi.size = 0 ↔ hi = ⟨#[]⟩ := by
    constructor
    · intro h; apply bytes_ext; exact List.eq_nil_of_length_eq_zero (by rw [Array.length_toList]; exact h)
    · rintro rfl; rfl
  cases h1 : Op.bytesLess key.toList lo.toList
  · have H1 : Hid (ltB key lo = false) := h1
    by_cases h2 : hi = ⟨#[]⟩
    · have H2 : Hid (hi.size = 0) := hz.2 h2
      subst h2
      go_enter Tryz.func35, Tryz.ntmps35
      go_wp2
      go_ret
      exact ⟨ret_bool (by unfold inB; rw [H1.out]; rfl), rfl⟩
    · have H2 : Hid (¬ hi.size = 0) := fun e => h2 (hz.1 e)
      have hq : ¬ hi.toList = [] := fun e => h2 (bytes_ext (by rw [← ByteArray.toList_eq]; exact e))
      have hq2 : hi.toList.isEmpty = false := by rw [Bool.eq_false_iff]; intro e; exact hq (List.isEmpty_iff.1 e)
      cases h3 : Op.bytesLess key.toList hi.toList
      all_goals
        have H3 : Hid (ltB key hi = _) := h3
        clear hz h2
        go_enter Tryz.func35, Tryz.ntmps35
        go_wp2
        go_ret
        exact ⟨ret_bool (by unfold inB; rw [H1.out, H3.out, decide_eq_false H2.out]; rfl), rfl⟩
  · have H1 : Hid (ltB key lo = true) := h1
    clear hz
    go_enter Tryz.func35, Tryz.ntmps35
    go_wp2
    go_ret
    exact ⟨ret_bool (by unfold inB; rw [H1.out]; rfl), rfl⟩

end Go.Proofs.YtdebbgodhpcijaaGreatDoor.pairs

namespace Go.Proofs.YtdebbgodhpcijaaGreatDoor.pairs
open Go Go.RowKit Go.Proofs.YtdebbgodhpcijaaGreatDoor.base
set_option linter.unusedVariables false
set_option linter.unusedSimpArgs false

theorem take_snocP (l : List Pr) (k : Nat) (h : k < l.length) : l.take (k + 1) = l.take k ++ [l[k]] := List.take_succ_eq_append_getElem h
theorem filter_snoc (f : Pr → Bool) (l : List Pr) (k : Nat) (h : k < l.length) : (l.take (k + 1)).filter f = (l.take k).filter f ++ if f l[k] then [l[k]] else [] := by
  rw [take_snocP l k h, List.filter_append]
  cases hf : f l[k] <;> simp [List.filter_cons, hf]
theorem filter_small {f : Pr → Bool} {l : List Pr} (h : ∀ p ∈ l, small p) : ∀ p ∈ l.filter f, small p := fun p hp => h p (List.mem_filter.1 hp).1
theorem take_small {l : List Pr} (h : ∀ p ∈ l, small p) (k : Nat) : ∀ p ∈ l.take k, small p := fun p hp => h p (List.mem_of_mem_take hp)
theorem one_pair_cells (w : World) (p : Pr) (t : TypeId) : ∀ j u, (pairVals [p])[j]? = some u → (w.alloc (.cells #[.string p.1, .string p.2] t)).cell? ((⟨w.heap.size, 0, none⟩ : Addr).add j) = some u :=
  cells_two w (.string p.1) (.string p.2) t
/-- a pair more behind a row -/
theorem ownP_app {w' : World} {base n : Nat} {v' : Value} {l : List Pr} {p : Pr} (hl : l.length = n) (hs : ∀ q ∈ l, small q) (hp : small p) (h0 : ¬ v' = .slice none 0 0)
    (h : w'.ownsRow base 49 2 v' (n + 1) (pairVals l ++ pairVals [p])) : ∃ g' cap', v' = .slice (some ⟨g', 0, none⟩) (n + 1) cap' ∧ OwnP w' base g' (n + 1) cap' (l ++ [p]) := by
  rw [← pairVals_append] at h
  refine ownP_val (by simp; omega) ?_ h0 h
  intro q hq
  rcases List.mem_append.1 hq with h1 | h1
  · exact hs q h1
  · simp at h1; subst h1; exact hp



end Go.Proofs.YtdebbgodhpcijaaGreatDoor.pairs

namespace Go.Proofs.YtdebbgodhpcijaaGreatDoor.pairs
open Go Go.RowKit Go.Proofs.YtdebbgodhpcijaaGreatDoor.base
set_option linter.unusedVariables false
set_option linter.unusedSimpArgs false

theorem getKey_none {key : ByteArray} {l : List Pr} (h : getKey key l = none) (k : Nat) (hk : k < l.length) : l[k].1 ≠ key := by
  intro e
  have h2 := getKey_append key (l.take k) (l.drop k)
  rw [List.take_append_drop, h, getKey_drop key l k hk, if_pos e] at h2
  cases h3 : getKey key (l.take k) <;> rw [h3] at h2 <;> cases h2
theorem put_found {key val : ByteArray} {l : List Pr} (k : Nat) (hk : k < l.length) (he : l[k].1 = key) (hn : getKey key (l.take k) = none) : putKey key val l = l.set k (l[k].1, val) := by
  have h2 := getKey_append key (l.take k) (l.drop k)
  rw [List.take_append_drop, hn, getKey_drop key l k hk, if_pos he] at h2
  unfold putKey
  rw [h2, if_pos (by rfl), setFirst_at key val l k hk he hn, he]
theorem put_new {key val : ByteArray} {l : List Pr} (hn : getKey key l = none) : putKey key val l = l.take (below key l) ++ (key, val) :: l.drop (below key l) := by
  unfold putKey; rw [hn]; rfl
theorem take_none (key : ByteArray) (l : List Pr) (k : Nat) (hk : k < l.length) (hn : getKey key (l.take k) = none) (he : l[k].1 ≠ key) : getKey key (l.take (k + 1)) = none := by
  rw [take_snocP l k hk]; exact getKey_snoc_none key _ _ hn he
theorem put_small {key val : ByteArray} {l : List Pr} (h : ∀ p ∈ l, small p) (hk : key.size ≤ maxLen) (hv : val.size ≤ maxLen) : ∀ p ∈ putKey key val l, small p := by
  unfold putKey
  split
  · intro p hp
    have : ∀ l : List Pr, (∀ p ∈ l, small p) → ∀ p ∈ setFirst key val l, small p := by
      intro l
      induction l with
      | nil => intro _ p hp; exact absurd hp List.not_mem_nil
      | cons q l ih =>
        intro hl p hp
        unfold setFirst at hp
        split at hp
        · rcases List.mem_cons.1 hp with h1 | h1
          · subst h1; exact ⟨(hl q List.mem_cons_self).1, hv⟩
          · exact hl p (List.mem_cons_of_mem _ h1)
        · rcases List.mem_cons.1 hp with h1 | h1
          · subst h1; exact hl _ List.mem_cons_self
          · exact ih (fun r hr => hl r (List.mem_cons_of_mem _ hr)) p h1
    exact this l h p hp
  · intro p hp
    rcases List.mem_append.1 hp with h1 | h1
    · exact h p (List.mem_of_mem_take h1)
    · rcases List.mem_cons.1 h1 with h2 | h2
      · subst h2; exact ⟨hk, hv⟩
      · exact h p (List.mem_of_mem_drop h2)
theorem less_flip {a b : ByteArray} (h : a ≠ b) : Op.bytesLess a.toList b.toList = !Op.bytesLess b.toList a.toList := by
  cases h1 : Op.bytesLess b.toList a.toList
  · cases h2 : Op.bytesLess a.toList b.toList
    · exact absurd (ltB_total (a := a) (b := b) h2 h1) h
    · rfl
  · exact ltB_asymm (a := b) (b := a) h1
theorem cellsP_drop {w : World} {b off : Nat} {l : List Pr} (h : CellsP w b off l) (k : Nat) : CellsP w b (off + k * 2) (l.drop k) := by
  intro i hi
  have hki : k + i < l.length := by simp at hi; omega
  have := h (k + i) hki
  rw [List.getElem_drop, show off + k * 2 + i * 2 = off + (k + i) * 2 by omega]
  exact this
theorem cellsP_take {w : World} {b off : Nat} {l : List Pr} (h : CellsP w b off l) (k : Nat) : CellsP w b off (l.take k) := by
  intro i hi
  rw [List.getElem_take]
  exact h i (by simp at hi; omega)

set_option maxRecDepth 100000 in
set_option maxHeartbeats 2000000 in
theorem spec_putKey (b off len cap : Nat) (l : List Pr) (key val : ByteArray) (w : World) (h : SlP w (some ⟨b, off, none⟩) len l) (hcap : len ≤ cap) (hsz : len ≤ 1099511627776) (hks : key.size ≤ maxLen) (hvs : val.size ≤ maxLen) :
    Calls Tryz.prog 41 #[.slice (some ⟨b, off, none⟩) len cap, .string key, .string val] w fun e w' =>
      ∃ g' n' cap', e = .returned (.slice (some ⟨g', 0, none⟩) n' cap') ∧ OwnP w' w.heap.size g' n' cap' (putKey key val l) ∧ Below w.heap.size w w' := by
  obtain ⟨i0, hif, hz0, hz1, hz2⟩ := info_parts infoP
  have hl := h.1
  have hsm := h.2.2.1
  subst hl
  have hba : Below w.heap.size w (w.alloc (.cells #[] 49)) := (Below.refl _ _).alloc (Nat.le_refl _) _
  have HC := Hid.mk' (cells_pairs (h.below hba).cells)
  have hn0 := pairVals_length l
  have hm1 : 0 + l.length ≤ maxLen := by unfold maxLen; omega
  have hm2 : (0 + l.length) * 32 ≤ 140737488355328 := by omega
  have hown0 := (ownP_made w w.heap.size (Nat.le_refl _)).2.2
  go_enter Tryz.func41, Tryz.ntmps41
  go_wp2_with (at_builtin; refine wpList_append_own _ rfl (.tmp 10) (.tmp 11) 24 rfl w.heap.size 49 i0 (.agg #[.string ⟨#[]⟩, .string ⟨#[]⟩]) 2 32 Tryz.underlying24 hif hz0 hz1 hz2 rfl (by decide) _ _ _ rfl hown0 ⟨b, off, none⟩ l.length cap (pairVals l) rfl hn0 HC.out (pairVals_oneCell _) hm1 hm2 (le_alloc _ _ (Nat.le_refl _)) ?_)
  intro v1 w1 hown hgrow hnn
  have hnn' : ¬ v1 = .slice none 0 0 := by simpa using hnn
  obtain ⟨g1, cap1, hv, hO1⟩ := ownP_val rfl hsm hnn' (by simpa [pairVals] using hown)
  subst hv
  have hB1 : Below w.heap.size w w1 := hba.grown hgrow (le_alloc _ _ (Nat.le_refl _)) (fun k e => by simp [Value.ownBlock] at e; omega)
  clear hown hgrow hnn hnn' hown0 HC hn0 hm1 hm2 hba
  go_wp2_with (at_builtin; fail)
  go_loop [8] (fun i => ∃ k : Nat, k ≤ l.length ∧ i = .int .i64 (k : Int) ∧ getKey key (l.take k) = none) (fun i => l.length - (intOf i).toNat)
  case atStart => exact ⟨0, Nat.zero_le _, rfl, rfl⟩
  case round =>
    obtain ⟨k, hk, rfl, hno⟩ := hrel
    by_cases hlt : k < l.length
    · have c1 := hO1.key k hlt
      have c2 := hO1.val k hlt
      have hki : (k : Int) < (l.length : Int) := by omega
      by_cases he : l[k].1 = key
      · have HF : Hid (putKey key val l = l.set k (l[k].1, val)) := put_found k hlt he hno
        have hfz := hO1.frozen (k * 2 + 1)
        have hR := hO1.setVal k hlt val hvs
        rw [← HF.out] at hR
        have HR := Hid.mk' hR
        rw [he] at c1
        clear hno hR
        go_wp2_with (at_builtin; fail)
        go_ret
        exact ⟨_, _, _, rfl, HR.out.1, hB1.trans (below_grown HR.out.2 hO1.lt.1 hB1.size)⟩
      · have HF : Hid (getKey key (l.take (k + 1)) = none) := take_none key l k hlt hno he
        have hq := str_ne he
        clear hno he
        go_wp2_with (at_builtin; fail)
        go_round
        case rel => exact ⟨k + 1, by omega, by go_num, HF.out⟩
        case measure => simp [intOf]; omega
    · have hnone : getKey key l = none := by rw [List.take_of_length_le (by omega)] at hno; exact hno
      have HP := Hid.mk' (put_new (val := val) hnone)
      have hne := getKey_none hnone
      have hSl := h.below hB1
      obtain ⟨B, hBe⟩ : ∃ B, below key l = B := ⟨_, rfl⟩
      have hBl : B ≤ l.length := by rw [← hBe]; exact below_le key l
      rw [hBe] at HP
      have HB := Hid.mk' hBe
      clear hno hnone hBe
      go_wp2_with (at_builtin; fail)
      go_loop [9] (fun i => ∃ k : Nat, k ≤ l.length ∧ i = .int .i64 (k : Int) ∧ below key (l.drop k) + k = B) (fun i => l.length - (intOf i).toNat)
      case atStart => exact ⟨0, Nat.zero_le _, rfl, HB.out⟩
      case round =>
        obtain ⟨k, hk2, rfl, hr⟩ := hrel
        by_cases hlt2 : k < l.length ∧ Op.bytesLess key.toList (l[k]!).1.toList = false
        · obtain ⟨hlt2, hb⟩ := hlt2
          rw [getElem!_pos l k hlt2] at hb
          have c1 := (hSl.cells k hlt2).1
          have hst := below_drop key l k hlt2
          rw [if_neg (by show ¬ Op.bytesLess _ _ = true; rw [hb]; simp)] at hst
          have HF : Hid (below key (l.drop (k + 1)) + (k + 1) = B) := by show _ = _; omega
          have hq := str_ne (hne k hlt2)
          have hlf := less_flip (hne k hlt2)
          rw [hb] at hlf
          have hki : (k : Int) < (l.length : Int) := by omega
          generalize l[k].1 = kk at *
          clear hr hst hb hne
          go_wp2_with (at_builtin; fail)
          go_round
          case rel => exact ⟨k + 1, by omega, by go_num, HF.out⟩
          case measure => simp [intOf]; omega
        · have HE : Hid (k = B) := by
            show k = B
            by_cases h3 : k < l.length
            · have hst := below_drop key l k h3
              have : Op.bytesLess key.toList l[k].1.toList = true := by
                cases h4 : Op.bytesLess key.toList l[k].1.toList
                · exact absurd ⟨h3, by rw [getElem!_pos l k h3]; exact h4⟩ hlt2
                · rfl
              rw [if_pos (show ltB key l[k].1 = true from this)] at hst
              omega
            · rw [List.drop_eq_nil_of_le (by omega)] at hr
              have : below key [] = 0 := rfl
              omega
          have hcond : k < l.length → ∃ kk, w1.cell? ⟨b, off + k * 2, none⟩ = some (.string kk) ∧ Op.bytesLess kk.toList key.toList = false ∧ (kk.toList == key.toList) = false := by
            intro h3
            refine ⟨l[k].1, (hSl.cells k h3).1, ?_, str_ne (hne k h3)⟩
            rw [less_flip (hne k h3)]
            cases h4 : Op.bytesLess key.toList l[k].1.toList
            · exact absurd ⟨h3, by rw [getElem!_pos l k h3]; exact h4⟩ hlt2
            · rfl
          clear hr hlt2 hne
          by_cases h3 : k < l.length
          · obtain ⟨kk, c1, q1, q2⟩ := hcond h3
            have hki : (k : Int) < (l.length : Int) := by omega
            clear hcond
            have hba2 : Below w1.heap.size w1 (w1.alloc (.cells #[] 49)) := (Below.refl _ _).alloc (Nat.le_refl _) _
            have HC2 := Hid.mk' (cells_pairs (cellsP_take (hSl.below hba2).cells k))
            have hn2 : (pairVals (l.take k)).length = k * 2 := by rw [pairVals_length, List.length_take_of_le hk2]
            have hm3 : 0 + k ≤ maxLen := by unfold maxLen; omega
            have hm4 : (0 + k) * 32 ≤ 140737488355328 := by omega
            have hm5 : k + 1 ≤ maxLen := by unfold maxLen; omega
            have hm6 : (k + 1) * 32 ≤ 140737488355328 := by omega
            have hown2 := (ownP_made w1 w.heap.size hB1.size).2.2
            have hbw1 : w.heap.size ≤ w1.heap.size := hB1.size
            have hkc : (k : Int) ≤ (cap : Int) := by omega
            have hkl : (k : Int) ≤ (l.length : Int) := by omega
            go_wp2_with (at_builtin; refine wpList_append_own _ rfl (.tmp 47) (.tmp 50) 24 rfl w.heap.size 49 i0 (.agg #[.string ⟨#[]⟩, .string ⟨#[]⟩]) 2 32 Tryz.underlying24 hif hz0 hz1 hz2 rfl (by decide) _ _ _ rfl hown2 ⟨b, off, none⟩ k cap (pairVals (l.take k)) rfl hn2 HC2.out (pairVals_oneCell _) hm3 hm4 (le_alloc _ _ hbw1) ?_)
            intro v2 w2 hown hgrow hnn
            have hnn' : ¬ v2 = .slice none 0 0 := by simpa using hnn
            obtain ⟨g2, cap2, hv, hO2⟩ := ownP_val (l := l.take k) (n := k) (List.length_take_of_le hk2) (take_small hsm k) hnn' (by simpa [pairVals] using hown)
            subst hv
            have hBx : Below w.heap.size w1 (w1.alloc (.cells #[] 49)) := (Below.refl _ _).alloc hbw1 _
            have hB2 : Below w.heap.size w1 w2 := hBx.grown hgrow (le_alloc _ _ hbw1) (fun k e => by simp [Value.ownBlock] at e; omega)
            have hB2' : Below w.heap.size w w2 := hB1.trans hB2
            have hbw2 : w.heap.size ≤ w2.heap.size := hB2'.size
            clear hown hgrow hnn hnn' hown2 HC2 hn2 hm3 hm4 hba2 hBx hB2
            go_wp2_with (at_builtin; refine wpList_append_own _ rfl (.tmp 51) (.tmp 55) 24 rfl w.heap.size 49 i0 (.agg #[.string ⟨#[]⟩, .string ⟨#[]⟩]) 2 32 Tryz.underlying24 hif hz0 hz1 hz2 rfl (by decide) _ _ _ rfl (hO2.2.2.alloc _) ⟨w2.heap.size, 0, none⟩ 1 1 (pairVals [(key, val)]) rfl rfl (one_pair_cells _ (key, val) _) (pairVals_oneCell _) hm5 hm6 (le_alloc _ _ hbw2) ?_)
            intro v3 w3 hown hgrow hnn
            obtain ⟨g3, cap3, hv, hO3⟩ := ownP_app hO2.1 hO2.2.1 ⟨hks, hvs⟩ hnn hown
            subst hv
            have hB3 : Below w.heap.size w w3 := (hB2'.alloc hbw2 _).grown hgrow (le_alloc _ _ hbw2) (fun k e => by simp [Value.ownBlock] at e; have := hO2.lt; omega)
            have hbw3 : w.heap.size ≤ w3.heap.size := hB3.size
            have hSl3 := h.below hB3
            have hm7 : k + 1 + (l.length - k) ≤ maxLen := by unfold maxLen; omega
            have hm8 : (k + 1 + (l.length - k)) * 32 ≤ 140737488355328 := by omega
            have hn4 : (pairVals (l.drop k)).length = (l.length - k) * 2 := by rw [pairVals_length, List.length_drop]
            clear hown hgrow hnn hO2 hB2' hm5 hm6
            have hck : ¬ cap = k := by omega
            have HC4 := Hid.mk' (cells_pairs (cellsP_drop hSl3.cells k))
            go_wp2_with (at_builtin; refine wpList_append_own _ rfl (.tmp 57) (.tmp 60) 24 rfl w.heap.size 49 i0 (.agg #[.string ⟨#[]⟩, .string ⟨#[]⟩]) 2 32 Tryz.underlying24 hif hz0 hz1 hz2 rfl (by decide) _ _ _ rfl hO3.2.2 ⟨b, off + k * 2, none⟩ (l.length - k) (cap - k) (pairVals (l.drop k)) rfl hn4 HC4.out (pairVals_oneCell _) hm7 hm8 hbw3 ?_)
            intro v4 w4 hown hgrow hnn
            have hnn' : ¬ v4 = .slice none 0 0 := by simpa using hnn
            rw [← pairVals_append] at hown
            obtain ⟨g4, cap4, hv, hO4⟩ := ownP_val (n := k + 1 + (l.length - k)) (by simp; omega) (fun q hq => by
              rcases List.mem_append.1 hq with h1 | h1
              · exact hO3.2.1 q h1
              · exact hsm q (List.mem_of_mem_drop h1)) hnn' hown
            subst hv
            have hB4 : Below w.heap.size w w4 := hB3.grown hgrow hbw3 (fun k e => by simp [Value.ownBlock] at e; have := hO3.lt; omega)
            have HO4 := Hid.mk' hO4
            clear hown hgrow hnn hnn' hO4
            go_wp2_with (at_builtin; fail)
            go_ret
            refine ⟨g4, _, cap4, rfl, ?_, hB4⟩
            rw [HP.out, ← HE.out]
            have := HO4.out
            rw [List.append_assoc] at this
            exact this
          · clear hcond
            have hkl' : l.length = k := by omega
            have HDR : Hid (l.drop k = []) := List.drop_eq_nil_of_le (by omega)
            have hba2 : Below w1.heap.size w1 (w1.alloc (.cells #[] 49)) := (Below.refl _ _).alloc (Nat.le_refl _) _
            have HC2 := Hid.mk' (cells_pairs (cellsP_take (hSl.below hba2).cells k))
            have hn2 : (pairVals (l.take k)).length = k * 2 := by rw [pairVals_length, List.length_take_of_le hk2]
            have hm3 : 0 + k ≤ maxLen := by unfold maxLen; omega
            have hm4 : (0 + k) * 32 ≤ 140737488355328 := by omega
            have hm5 : k + 1 ≤ maxLen := by unfold maxLen; omega
            have hm6 : (k + 1) * 32 ≤ 140737488355328 := by omega
            have hown2 := (ownP_made w1 w.heap.size hB1.size).2.2
            have hbw1 : w.heap.size ≤ w1.heap.size := hB1.size
            have hkc : (k : Int) ≤ (cap : Int) := by omega
            have hkl : (k : Int) ≤ (l.length : Int) := by omega
            clear hkl'
            go_wp2_with (at_builtin; refine wpList_append_own _ rfl (.tmp 47) (.tmp 50) 24 rfl w.heap.size 49 i0 (.agg #[.string ⟨#[]⟩, .string ⟨#[]⟩]) 2 32 Tryz.underlying24 hif hz0 hz1 hz2 rfl (by decide) _ _ _ rfl hown2 ⟨b, off, none⟩ k cap (pairVals (l.take k)) rfl hn2 HC2.out (pairVals_oneCell _) hm3 hm4 (le_alloc _ _ hbw1) ?_)
            intro v2 w2 hown hgrow hnn
            have hnn' : ¬ v2 = .slice none 0 0 := by simpa using hnn
            obtain ⟨g2, cap2, hv, hO2⟩ := ownP_val (l := l.take k) (n := k) (List.length_take_of_le hk2) (take_small hsm k) hnn' (by simpa [pairVals] using hown)
            subst hv
            have hBx : Below w.heap.size w1 (w1.alloc (.cells #[] 49)) := (Below.refl _ _).alloc hbw1 _
            have hB2 : Below w.heap.size w1 w2 := hBx.grown hgrow (le_alloc _ _ hbw1) (fun k e => by simp [Value.ownBlock] at e; omega)
            have hB2' : Below w.heap.size w w2 := hB1.trans hB2
            have hbw2 : w.heap.size ≤ w2.heap.size := hB2'.size
            clear hown hgrow hnn hnn' hown2 HC2 hn2 hm3 hm4 hba2 hBx hB2
            go_wp2_with (at_builtin; refine wpList_append_own _ rfl (.tmp 51) (.tmp 55) 24 rfl w.heap.size 49 i0 (.agg #[.string ⟨#[]⟩, .string ⟨#[]⟩]) 2 32 Tryz.underlying24 hif hz0 hz1 hz2 rfl (by decide) _ _ _ rfl (hO2.2.2.alloc _) ⟨w2.heap.size, 0, none⟩ 1 1 (pairVals [(key, val)]) rfl rfl (one_pair_cells _ (key, val) _) (pairVals_oneCell _) hm5 hm6 (le_alloc _ _ hbw2) ?_)
            intro v3 w3 hown hgrow hnn
            obtain ⟨g3, cap3, hv, hO3⟩ := ownP_app hO2.1 hO2.2.1 ⟨hks, hvs⟩ hnn hown
            subst hv
            have hB3 : Below w.heap.size w w3 := (hB2'.alloc hbw2 _).grown hgrow (le_alloc _ _ hbw2) (fun k e => by simp [Value.ownBlock] at e; have := hO2.lt; omega)
            have hbw3 : w.heap.size ≤ w3.heap.size := hB3.size
            have hSl3 := h.below hB3
            have hm7 : k + 1 + (l.length - k) ≤ maxLen := by unfold maxLen; omega
            have hm8 : (k + 1 + (l.length - k)) * 32 ≤ 140737488355328 := by omega
            have hn4 : (pairVals (l.drop k)).length = (l.length - k) * 2 := by rw [pairVals_length, List.length_drop]
            clear hown hgrow hnn hO2 hB2' hm5 hm6
            by_cases hck : cap = k
            · have HC4 : Hid (∀ j v, (pairVals (l.drop k))[j]? = some v → w3.cell? ((⟨b, off, none⟩ : Addr).add j) = some v) := by
                show ∀ j v, _ → _
                intro j v hj
                rw [HDR.out] at hj
                simp [pairVals] at hj
              go_wp2_with (at_builtin; refine wpList_append_own _ rfl (.tmp 57) (.tmp 60) 24 rfl w.heap.size 49 i0 (.agg #[.string ⟨#[]⟩, .string ⟨#[]⟩]) 2 32 Tryz.underlying24 hif hz0 hz1 hz2 rfl (by decide) _ _ _ rfl hO3.2.2 ⟨b, off, none⟩ (l.length - k) _ (pairVals (l.drop k)) rfl hn4 HC4.out (pairVals_oneCell _) hm7 hm8 hbw3 ?_)
              intro v4 w4 hown hgrow hnn
              have hnn' : ¬ v4 = .slice none 0 0 := by simpa using hnn
              rw [← pairVals_append] at hown
              obtain ⟨g4, cap4, hv, hO4⟩ := ownP_val (n := k + 1 + (l.length - k)) (by simp; omega) (fun q hq => by
                rcases List.mem_append.1 hq with h1 | h1
                · exact hO3.2.1 q h1
                · exact hsm q (List.mem_of_mem_drop h1)) hnn' hown
              subst hv
              have hB4 : Below w.heap.size w w4 := hB3.grown hgrow hbw3 (fun k e => by simp [Value.ownBlock] at e; have := hO3.lt; omega)
              have HO4 := Hid.mk' hO4
              clear hown hgrow hnn hnn' hO4
              go_wp2_with (at_builtin; fail)
              go_ret
              refine ⟨g4, _, cap4, rfl, ?_, hB4⟩
              rw [HP.out, ← HE.out]
              have := HO4.out
              rw [List.append_assoc] at this
              exact this
            · have HC4 : Hid (∀ j v, (pairVals (l.drop k))[j]? = some v → w3.cell? ((⟨b, off + k * 2, none⟩ : Addr).add j) = some v) := by
                show ∀ j v, _ → _
                intro j v hj
                rw [HDR.out] at hj
                simp [pairVals] at hj
              go_wp2_with (at_builtin; refine wpList_append_own _ rfl (.tmp 57) (.tmp 60) 24 rfl w.heap.size 49 i0 (.agg #[.string ⟨#[]⟩, .string ⟨#[]⟩]) 2 32 Tryz.underlying24 hif hz0 hz1 hz2 rfl (by decide) _ _ _ rfl hO3.2.2 ⟨b, off + k * 2, none⟩ (l.length - k) _ (pairVals (l.drop k)) rfl hn4 HC4.out (pairVals_oneCell _) hm7 hm8 hbw3 ?_)
              intro v4 w4 hown hgrow hnn
              have hnn' : ¬ v4 = .slice none 0 0 := by simpa using hnn
              rw [← pairVals_append] at hown
              obtain ⟨g4, cap4, hv, hO4⟩ := ownP_val (n := k + 1 + (l.length - k)) (by simp; omega) (fun q hq => by
                rcases List.mem_append.1 hq with h1 | h1
                · exact hO3.2.1 q h1
                · exact hsm q (List.mem_of_mem_drop h1)) hnn' hown
              subst hv
              have hB4 : Below w.heap.size w w4 := hB3.grown hgrow hbw3 (fun k e => by simp [Value.ownBlock] at e; have := hO3.lt; omega)
              have HO4 := Hid.mk' hO4
              clear hown hgrow hnn hnn' hO4
              go_wp2_with (at_builtin; fail)
              go_ret
              refine ⟨g4, _, cap4, rfl, ?_, hB4⟩
              rw [HP.out, ← HE.out]
              have := HO4.out
              rw [List.append_assoc] at this
              exact this

end Go.Proofs.YtdebbgodhpcijaaGreatDoor.pairs

namespace Go.Proofs.YtdebbgodhpcijaaGreatDoor.pairs
open Go Go.RowKit Go.Proofs.YtdebbgodhpcijaaGreatDoor.base
set_option linter.unusedVariables false
set_option linter.unusedSimpArgs false

/-- the key ahead of place k -/
def prevOf (l : List Pr) (k : Nat) : Option ByteArray := if k = 0 then none else (l[k - 1]?).map (·.1)
theorem okFrom_zero (l : List Pr) (k : Nat) (h : k < l.length) (h0 : k = 0) : okFrom (prevOf l k) (l.drop k) = (pairOk l[k] && okFrom (prevOf l (k + 1)) (l.drop (k + 1))) := by
  subst h0
  cases l with
  | nil => simp at h
  | cons p l => simp [prevOf, okFrom]
theorem okFrom_step (l : List Pr) (k : Nat) (h : k < l.length) (h0 : 0 < k) : okFrom (prevOf l k) (l.drop k) = (pairOk l[k] && ltB l[k - 1].1 l[k].1 && okFrom (prevOf l (k + 1)) (l.drop (k + 1))) := by
  have e1 : prevOf l k = some l[k - 1].1 := by unfold prevOf; rw [if_neg (by omega), List.getElem?_eq_getElem (by omega)]; rfl
  have e2 : prevOf l (k + 1) = some l[k].1 := by unfold prevOf; rw [if_neg (by omega), Nat.add_sub_cancel, List.getElem?_eq_getElem h]; rfl
  rw [e1, e2, List.drop_eq_getElem_cons h, okFrom]

theorem keepC {W w' : World} {b o : Nat} {v : Value} (hb : Below W.heap.size W w') (h : W.cell? ⟨b, o, none⟩ = some v) : w'.cell? ⟨b, o, none⟩ = some v :=
  (hb.cell (p := ⟨b, o, none⟩) (World.block_lt_of_cell? W _ h)).trans h
theorem keepB2 {W w' : World} {b o1 o2 : Nat} {v1 v2 : Value} (hb : Below W.heap.size W w') (h : W.cell? ⟨b, o1, none⟩ = some v1 ∧ W.cell? ⟨b, o2, none⟩ = some v2) :
    w'.cell? ⟨b, o1, none⟩ = some v1 ∧ w'.cell? ⟨b, o2, none⟩ = some v2 := ⟨keepC hb h.1, keepC hb h.2⟩
theorem keepB3 {W w' : World} {b o1 o2 o3 : Nat} {v1 v2 v3 : Value} (hb : Below W.heap.size W w') (h : W.cell? ⟨b, o1, none⟩ = some v1 ∧ W.cell? ⟨b, o2, none⟩ = some v2 ∧ W.cell? ⟨b, o3, none⟩ = some v3) :
    w'.cell? ⟨b, o1, none⟩ = some v1 ∧ w'.cell? ⟨b, o2, none⟩ = some v2 ∧ w'.cell? ⟨b, o3, none⟩ = some v3 := ⟨keepC hb h.1, keepB2 hb h.2⟩

set_option maxRecDepth 100000 in
set_option maxHeartbeats 2000000 in
theorem spec_pairsOk (b off len cap : Nat) (l : List Pr) (w : World) (h : SlP w (some ⟨b, off, none⟩) len l) (hks : ∀ p ∈ l, p.1.size ≤ 1099511627776) :
    Calls Tryz.prog 45 #[.slice (some ⟨b, off, none⟩) len cap] w fun e w' => e = .returned (.bool (pairsOk l)) ∧ Below w.heap.size w w' := by
  have hl := h.1
  have hm := h.2.1
  have hsm := h.2.2.1
  subst hl
  unfold maxLen at hm
  generalize hR : okFrom none l = R
  have HR := Hid.mk' hR
  clear hR
  go_enter Tryz.func45, Tryz.ntmps45
  go_wp2_with fail
  go_loopw [3] (fun i wr => ∃ k : Nat, k ≤ l.length ∧ i = .int .i64 (k : Int) ∧ okFrom (prevOf l k) (l.drop k) = R ∧ Below w.heap.size w wr) (fun i _ => l.length - (intOf i).toNat)
  case atStart => exact ⟨0, Nat.zero_le _, rfl, HR.out, Below.refl _ _⟩
  case round =>
    obtain ⟨k, hk, rfl, hr, hB⟩ := hrel
    by_cases hlt : k < l.length
    · have hS := h.below hB
      obtain ⟨c1, c2⟩ := hS.cells k hlt
      have hbl := hS.lt (by omega)
      have hpk := hsm _ (List.getElem_mem hlt)
      have hks' := hks _ (List.getElem_mem hlt)
      have hki : (k : Int) < (l.length : Int) := by omega
      have hbd : b < wr.drew.heap.size := hbl
      by_cases h0 : k = 0
      · have hst := okFrom_zero l k hlt h0
        rw [hr] at hst
        have hk0 : ¬ (0 : Int) < (k : Int) := by omega
        have hk1 : decide (0 < k) = false := by simp; omega
        have hk2 : decide ((0 : Int) < (k : Int)) = false := by simp; omega
        cases hP : pairOk l[k]
        · have HF : Hid (R = false) := by rw [hP] at hst; exact hst
          have HP := Hid.mk' hP
          clear hst hr hP hS h0
          generalize l[k] = p at *
          have o1 := last.On.cell c1 hbl
          have o2 := last.On.cell c2 hbl
          go_wp2_with fail
          have hinh := last.On.inh wr.heap.size wr
          have hcall : ∀ x : last.On wr.heap.size wr, Calls Tryz.prog 66 #[.agg #[.string p.1, .string p.2]] x.w fun e w' => e = .returned (.bool false) ∧ ∃ y : last.On wr.heap.size wr, w' = y.w := fun x => last.Calls.on x (Nat.le_refl _) (by have := spec_pairOk p x.w hpk hks'; rw [HP.out] at this; exact this)
          refine last.wp_region_on wr.heap.size (by kernel_rfl) (by kernel_rfl) ?_
          repeat (go_big_quiet_step ((go_at_call 66; exact hcall _)))
          refine wpQuiet_nil ?_
          intro w5 hw5
          obtain ⟨x5, hw5⟩ := hw5
          subst hw5
          have hB5 : Below w.heap.size w x5.w := hB.trans (x5.2.mono hB.size)
          go_wp2_with fail
          go_ret
          exact ⟨ret_bool (by unfold pairsOk; rw [HR.out, HF.out]; rfl), hB5⟩
        · have HF : Hid (okFrom (prevOf l (k + 1)) (l.drop (k + 1)) = R) := by show _ = _; rw [hP] at hst; simpa using hst.symm
          have HP := Hid.mk' hP
          clear hst hr hP hS h0
          generalize l[k] = p at *
          have o1 := last.On.cell c1 hbl
          have o2 := last.On.cell c2 hbl
          go_wp2_with fail
          have hinh := last.On.inh wr.heap.size wr
          have hcall : ∀ x : last.On wr.heap.size wr, Calls Tryz.prog 66 #[.agg #[.string p.1, .string p.2]] x.w fun e w' => e = .returned (.bool true) ∧ ∃ y : last.On wr.heap.size wr, w' = y.w := fun x => last.Calls.on x (Nat.le_refl _) (by have := spec_pairOk p x.w hpk hks'; rw [HP.out] at this; exact this)
          refine last.wp_region_on wr.heap.size (by kernel_rfl) (by kernel_rfl) ?_
          repeat (go_big_quiet_step ((go_at_call 66; exact hcall _)))
          refine wpQuiet_nil ?_
          intro w5 hw5
          obtain ⟨x5, hw5⟩ := hw5
          subst hw5
          have hB5 : Below w.heap.size w x5.w := hB.trans (x5.2.mono hB.size)
          go_wp2_with fail
          go_roundw
          case rel => exact ⟨k + 1, by omega, by go_num, HF.out, hB5⟩
          case measure => simp [intOf]; omega
      · have hst := okFrom_step l k hlt (by omega)
        rw [hr] at hst
        have hk0 : (0 : Int) < (k : Int) := by omega
        have hk1 : decide (0 < k) = true := by simp; omega
        have hk2 : decide ((0 : Int) < (k : Int)) = true := by simp; omega
        have c3 := (hS.cells (k - 1) (by omega)).1
        obtain ⟨j, hj⟩ : ∃ j, k - 1 = j := ⟨_, rfl⟩
        have hjw : (k : Int) - 1 = (j : Int) := by omega
        have hjk : (j : Int) < (l.length : Int) := by omega
        generalize l[k - 1].1 = q at *
        rw [hj] at c3
        have o3 := last.On.cell c3 hbl
        cases hP : pairOk l[k]
        · have HF : Hid (R = false) := by rw [hP] at hst; exact hst
          have HP := Hid.mk' hP
          clear hst hr hP hS h0 hj
          generalize l[k] = p at *
          have o1 := last.On.cell c1 hbl
          have o2 := last.On.cell c2 hbl
          go_wp2_with fail
          have hinh := last.On.inh wr.heap.size wr
          have hcall : ∀ x : last.On wr.heap.size wr, Calls Tryz.prog 66 #[.agg #[.string p.1, .string p.2]] x.w fun e w' => e = .returned (.bool false) ∧ ∃ y : last.On wr.heap.size wr, w' = y.w := fun x => last.Calls.on x (Nat.le_refl _) (by have := spec_pairOk p x.w hpk hks'; rw [HP.out] at this; exact this)
          refine last.wp_region_on wr.heap.size (by kernel_rfl) (by kernel_rfl) ?_
          repeat (go_big_quiet_step ((go_at_call 66; exact hcall _)))
          refine wpQuiet_nil ?_
          intro w5 hw5
          obtain ⟨x5, hw5⟩ := hw5
          subst hw5
          have hB5 : Below w.heap.size w x5.w := hB.trans (x5.2.mono hB.size)
          go_wp2_with fail
          go_ret
          exact ⟨ret_bool (by unfold pairsOk; rw [HR.out, HF.out]; rfl), hB5⟩
        · cases hL : ltB q l[k].1
          · have HF : Hid (R = false) := by show _ = _; rw [hP, hL] at hst; simpa using hst
            have HP := Hid.mk' hP
            have hl2 : Op.bytesLess q.toList l[k].1.toList = false := hL
            clear hst hr hP hS h0 hj hL
            generalize l[k] = p at *
            have o1 := last.On.cell c1 hbl
            have o2 := last.On.cell c2 hbl
            go_wp2_with fail
            have hinh := last.On.inh wr.heap.size wr
            have hcall : ∀ x : last.On wr.heap.size wr, Calls Tryz.prog 66 #[.agg #[.string p.1, .string p.2]] x.w fun e w' => e = .returned (.bool true) ∧ ∃ y : last.On wr.heap.size wr, w' = y.w := fun x => last.Calls.on x (Nat.le_refl _) (by have := spec_pairOk p x.w hpk hks'; rw [HP.out] at this; exact this)
            refine last.wp_region_on wr.heap.size (by kernel_rfl) (by kernel_rfl) ?_
            repeat (go_big_quiet_step ((go_at_call 66; exact hcall _)))
            refine wpQuiet_nil ?_
            intro w5 hw5
            obtain ⟨x5, hw5⟩ := hw5
            subst hw5
            have hB5 : Below w.heap.size w x5.w := hB.trans (x5.2.mono hB.size)
            go_wp2_with fail
            go_ret
            exact ⟨ret_bool (by unfold pairsOk; rw [HR.out, HF.out]; rfl), hB5⟩
          · have HF : Hid (okFrom (prevOf l (k + 1)) (l.drop (k + 1)) = R) := by show _ = _; rw [hP, hL] at hst; simpa using hst.symm
            have HP := Hid.mk' hP
            have hl2 : Op.bytesLess q.toList l[k].1.toList = true := hL
            clear hst hr hP hS h0 hj hL
            generalize l[k] = p at *
            have o1 := last.On.cell c1 hbl
            have o2 := last.On.cell c2 hbl
            go_wp2_with fail
            have hinh := last.On.inh wr.heap.size wr
            have hcall : ∀ x : last.On wr.heap.size wr, Calls Tryz.prog 66 #[.agg #[.string p.1, .string p.2]] x.w fun e w' => e = .returned (.bool true) ∧ ∃ y : last.On wr.heap.size wr, w' = y.w := fun x => last.Calls.on x (Nat.le_refl _) (by have := spec_pairOk p x.w hpk hks'; rw [HP.out] at this; exact this)
            refine last.wp_region_on wr.heap.size (by kernel_rfl) (by kernel_rfl) ?_
            repeat (go_big_quiet_step ((go_at_call 66; exact hcall _)))
            refine wpQuiet_nil ?_
            intro w5 hw5
            obtain ⟨x5, hw5⟩ := hw5
            subst hw5
            have hB5 : Below w.heap.size w x5.w := hB.trans (x5.2.mono hB.size)
            go_wp2_with fail
            go_roundw
            case rel => exact ⟨k + 1, by omega, by go_num, HF.out, hB5⟩
            case measure => simp [intOf]; omega
    · have HF : Hid (R = true) := by show _ = _; rw [← hr, List.drop_eq_nil_of_le (by omega)]; cases prevOf l k <;> rfl
      clear hr
      go_wp2_with fail
      go_ret
      exact ⟨ret_bool (by unfold pairsOk; rw [HR.out, HF.out]; simp; omega), hB⟩

end Go.Proofs.YtdebbgodhpcijaaGreatDoor.pairs
