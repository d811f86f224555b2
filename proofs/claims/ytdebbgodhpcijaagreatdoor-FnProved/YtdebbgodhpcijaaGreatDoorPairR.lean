/- The program's keys and pairs: what is right. The program's places of keys, and what is got. The program's putting of keys. The program's pairs between two ends. -/
import Derived.Test.YtdebbgodhpcijaaGreatDoorPairQ
import Derived.Test.YtdebbgodhpcijaaGreatDoorKitA
namespace Go.Proofs.YtdebbgodhpcijaaGreatDoor.pairs
open Go Go.RowKit Go.Proofs.YtdebbgodhpcijaaGreatDoor.base
set_option linter.unusedVariables false
set_option linter.unusedSimpArgs false

set_option maxHeartbeats 400000 in
theorem i_key (p : Pr) (w : World) :
    Calls Tryz.prog 123 #[.agg #[.string p.1, .string p.2]] w fun e w' => e = .returned (.string p.1) ∧ w' = w.alloc (.cells #[.string p.1, .string p.2] 49) := by
  go_enter Tryz.func123, Tryz.ntmps123
  go_wp2
  go_ret
  exact ⟨rfl, rfl⟩

set_option maxHeartbeats 400000 in
theorem i_keySign (c : Nat) (w : World) (hc : c < 256) :
    Calls Tryz.prog 99 #[.int .u8 (c : Int)] w fun e w' => e = .returned (.bool (keyCh c)) ∧ w' = w := by
  by_cases h1 : 97 ≤ c
  · by_cases h2 : c ≤ 122
    · go_enter Tryz.func99, Tryz.ntmps99
      go_wp2
      go_ret
      exact ⟨ret_bool (by simp [keyCh, h1, h2]), rfl⟩
    · have h3 : ¬ c ≤ 57 := by omega
      have h4 : 48 ≤ c := by omega
      go_enter Tryz.func99, Tryz.ntmps99
      go_wp2
      go_ret
      exact ⟨ret_bool (by simp [keyCh, h2, h3]; omega), rfl⟩
  · by_cases h2 : 48 ≤ c
    · by_cases h3 : c ≤ 57
      · go_enter Tryz.func99, Tryz.ntmps99
        go_wp2
        go_ret
        exact ⟨ret_bool (by simp [keyCh, h2, h3]; omega), rfl⟩
      · go_enter Tryz.func99, Tryz.ntmps99
        go_wp2
        go_ret
        exact ⟨ret_bool (by simp [keyCh, h1, h3]; omega), rfl⟩
    · go_enter Tryz.func99, Tryz.ntmps99
      go_wp2
      go_ret
      exact ⟨ret_bool (by simp [keyCh, h1, h2]), rfl⟩

set_option maxRecDepth 100000 in
set_option maxHeartbeats 1000000 in
theorem impl_keyOk (s : ByteArray) (w : World) (hs : s.size ≤ 1099511627776) :
    Calls Tryz.prog 83 #[.string s] w fun e w' => e = .returned (.bool (keyOk s)) ∧ Below w.heap.size w w' := by
  by_cases h0 : s.size < 1
  · go_enter Tryz.func83, Tryz.ntmps83
    go_wp2_with fail
    go_ret
    exact ⟨ret_bool (by simp [keyOk]; omega), Below.refl _ _⟩
  by_cases h12 : 12 < s.size
  · go_enter Tryz.func83, Tryz.ntmps83
    go_wp2_with fail
    go_ret
    exact ⟨ret_bool (by simp [keyOk]; omega), Below.refl _ _⟩
  have HZ : Hid (decide (1 ≤ s.size ∧ s.size ≤ 12) = true) := by show _ = _; simp; omega
  generalize hR : keyAll s.data.toList = R
  have HR := Hid.mk' hR
  clear hR
  have hconv := Lib.run_convert_string_bytes (P := Tryz.prog) w 9 22 5 s Tryz.underlying9 Tryz.underlying22 Tryz.underlying5
  have hbts := bts_new w s
  have hBB := below_bytesWorld w 5 s
  go_enter Tryz.func83, Tryz.ntmps83
  go_wp2_with fail
  generalize Lib.bytesWorld w 5 s = w1 at *
  go_loop [16] (fun i => ∃ k : Nat, k ≤ s.size ∧ i = .int .i64 (k : Int) ∧ keyAll (s.data.toList.drop k) = R) (fun i => s.size - (intOf i).toNat)
  case atStart => exact ⟨0, Nat.zero_le _, rfl, HR.out⟩
  case round =>
    obtain ⟨k, hk, rfl, hr⟩ := hrel
    clear hconv
    by_cases hlt : k < s.size
    · have hst := keyAll_drop s k hlt
      rw [hr] at hst
      have hc := s[k].toNat_lt
      have hcl := hbts.2 k hlt
      generalize hC : s[k].toNat = c at *
      have hki : (k : Int) < (s.size : Int) := by omega
      have hl := i_keySign c w1 (by omega)
      cases hq : keyCh c
      · rw [hq] at hl hst
        have HF : Hid (R = false) := by show _ = _; simpa using hst
        have HL := Hid.mk' hl
        clear hl hst hr hC
        go_wp2_with fail
        refine HL.out.mono ?_
        rintro e w2 ⟨rfl, rfl⟩
        go_wp2_with fail
        go_ret
        exact ⟨ret_bool (by unfold keyOk; rw [HR.out, HF.out]; rfl), hBB⟩
      · rw [hq] at hl hst
        have HF : Hid (keyAll (s.data.toList.drop (k + 1)) = R) := by show _ = _; simpa using hst.symm
        have HL := Hid.mk' hl
        clear hl hst hr hC
        go_wp2_with fail
        refine HL.out.mono ?_
        rintro e w2 ⟨rfl, rfl⟩
        go_wp2_with fail
        go_round
        case rel => exact ⟨k + 1, by omega, by go_num, HF.out⟩
        case measure => simp [intOf]; omega
    · have HF : Hid (R = true) := by show _ = _; rw [← hr, List.drop_eq_nil_of_le (by simp; omega)]; rfl
      clear hr
      go_wp2_with fail
      go_ret
      exact ⟨ret_bool (by unfold keyOk; rw [HR.out, HF.out, HZ.out]; rfl), hBB⟩

set_option maxHeartbeats 400000 in
theorem impl_pairOk (p : Pr) (w : World) (hp : small p) (hs : p.1.size ≤ 1099511627776) :
    Calls Tryz.prog 59 #[.agg #[.string p.1, .string p.2]] w fun e w' => e = .returned (.bool (pairOk p)) ∧ Below w.heap.size w w' := by
  have h2 := hp.2
  unfold maxLen at h2
  have hba : Below w.heap.size w (w.alloc (.cells #[.string p.1, .string p.2] 49)) := (Below.refl _ _).alloc (Nat.le_refl _) _
  have hk := impl_keyOk p.1 (w.alloc (.cells #[.string p.1, .string p.2] 49)) hs
  cases hK : keyOk p.1
  · rw [hK] at hk
    have HK := Hid.mk' hk
    have H1 := Hid.mk' hK
    clear hk hK
    go_enter Tryz.func59, Tryz.ntmps59
    go_wp2_with fail
    refine HK.out.mono ?_
    rintro e w1 ⟨rfl, hb1⟩
    go_wp2_with fail
    go_ret
    exact ⟨ret_bool (by unfold pairOk; rw [H1.out]; rfl), hba.trans (hb1.mono hba.size)⟩
  · rw [hK] at hk
    have HK := Hid.mk' hk
    have H1 := Hid.mk' hK
    clear hk hK
    go_enter Tryz.func59, Tryz.ntmps59
    go_wp2_with fail
    refine HK.out.mono ?_
    rintro e w1 ⟨rfl, hb1⟩
    have hc := bcell hb1
    go_wp2_with fail
    go_ret
    exact ⟨ret_bool (by unfold pairOk; rw [H1.out]; simp; omega), hba.trans (hb1.mono hba.size)⟩

end Go.Proofs.YtdebbgodhpcijaaGreatDoor.pairs

namespace Go.Proofs.YtdebbgodhpcijaaGreatDoor.pairs
open Go Go.RowKit Go.Proofs.YtdebbgodhpcijaaGreatDoor.base
set_option linter.unusedVariables false
set_option linter.unusedSimpArgs false

theorem i_meth (x y : ByteArray) (w : World) : (method 245 49 (.agg #[.string x, .string y]) "loop.example/g00244/impl.key").run Tryz.prog w = .ok (123, .agg #[.string x, .string y]) w := by kernel_rfl
theorem nth_take_none {key : ByteArray} {l : List Pr} {k : Nat} (hn : getKey key (l.take k) = none) (hk : k ≤ l.length) (j : Nat) (hj : j < k) : (l[j]'(by omega)).1 ≠ key := by
  have := getKey_none hn j (by simp; omega)
  rwa [List.getElem_take] at this
theorem bel2 {w wr : World} (hB : Below w.heap.size w wr) (x y : Obj) : Below w.heap.size w ((wr.alloc x).alloc y) := (hB.alloc hB.size _).alloc (le_alloc _ _ hB.size) _



theorem getKey_place {key : ByteArray} {l : List Pr} {v : ByteArray} (h : getKey key l = some v) : ∃ n, ∃ hn : n < l.length, l[n].1 = key ∧ l[n].2 = v ∧ getKey key (l.take n) = none := by
  induction l with
  | nil => cases h
  | cons p l ih =>
    rw [getKey] at h
    by_cases hp : p.1 = key
    · rw [if_pos hp] at h
      exact ⟨0, by simp, hp, by simpa using h, rfl⟩
    · rw [if_neg hp] at h
      obtain ⟨n, hn, h1, h2, h3⟩ := ih h
      refine ⟨n + 1, by simp; omega, by simpa using h1, by simpa using h2, ?_⟩
      rw [List.take_succ_cons, getKey, if_neg hp]
      exact h3


end Go.Proofs.YtdebbgodhpcijaaGreatDoor.pairs

namespace Go.Proofs.YtdebbgodhpcijaaGreatDoor.pairs
open Go Go.RowKit Go.Proofs.YtdebbgodhpcijaaGreatDoor.base
set_option linter.unusedVariables false
set_option linter.unusedSimpArgs false

/-- the two cells of a pair that was boxed -/
theorem box_cell (w w' : World) (x y : ByteArray) (hB : Below (w.alloc (.cells #[.string x, .string y] 49)).heap.size (w.alloc (.cells #[.string x, .string y] 49)) w') :
    w'.cell? ⟨w.heap.size, 0, none⟩ = some (.string x) ∧ w'.cell? ⟨w.heap.size, 1, none⟩ = some (.string y) := by
  have hlt : w.heap.size < (w.alloc (.cells #[.string x, .string y] 49)).heap.size := by simp
  refine ⟨(hB.cell (p := ⟨w.heap.size, 0, none⟩) hlt).trans ?_, (hB.cell (p := ⟨w.heap.size, 1, none⟩) hlt).trans ?_⟩
  · simp
  · simp




end Go.Proofs.YtdebbgodhpcijaaGreatDoor.pairs

namespace Go.Proofs.YtdebbgodhpcijaaGreatDoor.pairs
open Go Go.RowKit Go.Proofs.YtdebbgodhpcijaaGreatDoor.base
set_option linter.unusedVariables false
set_option linter.unusedSimpArgs false

theorem bel3 {w wr : World} (hB : Below w.heap.size w wr) (x y z : Obj) : Below w.heap.size w (((wr.alloc x).alloc y).alloc z) := (bel2 hB x y).alloc (bel2 hB x y).size _
theorem empty_iff (hi : ByteArray) : hi.size = 0 ↔ hi = ⟨#[]⟩ := by
  constructor
  · intro h; apply bytes_ext; exact List.eq_nil_of_length_eq_zero (by rw [Array.length_toList]; exact h)
  · rintro rfl; rfl

set_option maxRecDepth 100000 in
set_option maxHeartbeats 4000000 in
theorem i_between (b off cap : Nat) (l : List Pr) (lo hi : ByteArray) (w : World) (h : SlP w (some ⟨b, off, none⟩) l.length l) (hsz : l.length ≤ 1099511627776) :
    Calls Tryz.prog 23 #[.slice (some ⟨b, off, none⟩) l.length cap, .string lo, .string hi] w fun e w' =>
      ∃ g' n' cap', e = .returned (.slice (some ⟨g', 0, none⟩) n' cap') ∧ OwnP w' w.heap.size g' n' cap' (between lo hi l) ∧ Below w.heap.size w w' := by
  obtain ⟨i0, hif, hz0, hz1, hz2⟩ := info_parts infoP
  have hsm := h.2.2.1
  have hmt := i_meth
  go_enter Tryz.func23, Tryz.ntmps23
  go_wp2_with (at_builtin; fail)
  go_loopw [7, 13] (fun v i wr => ∃ (k g n cp : Nat), k ≤ l.length ∧ n ≤ k ∧ i = .int .i64 (k : Int) ∧ v = .slice (some ⟨g, 0, none⟩) n cp ∧ OwnP wr w.heap.size g n cp (between lo hi (l.take k)) ∧ Below w.heap.size w wr) (fun _ i _ => l.length - (intOf i).toNat)
  case atStart => exact ⟨0, w.heap.size, 0, 0, Nat.zero_le _, Nat.le_refl _, rfl, rfl, ownP_made w _ (Nat.le_refl _), (Below.refl _ _).alloc (Nat.le_refl _) _⟩
  case round =>
    obtain ⟨k, g, n, cp, hk, hnk, rfl, rfl, hO, hB⟩ := hrel
    have hbw : w.heap.size ≤ wr.heap.size := hB.size
    by_cases hlt : k < l.length
    · obtain ⟨c1, c2⟩ := (h.below hB).cells k hlt
      have hst := filter_snoc (fun p => inB lo hi p.1) l k hlt
      have hpk := hsm _ (List.getElem_mem hlt)
      have hki : (k : Int) < (l.length : Int) := by omega
      cases h1 : Op.bytesLess l[k].1.toList lo.toList
      · by_cases h2 : hi = ⟨#[]⟩
        · have HIN : Hid (inB lo hi l[k].1 = true) := by show _ = _; unfold inB; rw [show ltB l[k].1 lo = false from h1, decide_eq_true ((empty_iff hi).2 h2)]; rfl
          subst h2
          have HF : Hid (between lo ⟨#[]⟩ (l.take (k + 1)) = between lo ⟨#[]⟩ (l.take k) ++ [l[k]]) := by
            show List.filter _ _ = List.filter _ _ ++ _
            rw [hst, HIN.out]; simp
          have hc3 : n + 1 ≤ maxLen := by unfold maxLen; omega
          have hc4 : (n + 1) * 32 ≤ 140737488355328 := by omega
          clear hst HIN
          generalize l[k] = p at *
          go_wp2_with fail
          refine (i_key p _).mono ?_
          rintro e w3 ⟨rfl, hw3⟩
          have hX3 : Below (wr.alloc (.cells #[.string p.1, .string p.2] 49)).heap.size (wr.alloc (.cells #[.string p.1, .string p.2] 49)) w3 := by rw [hw3]; exact (Below.refl _ _).alloc (Nat.le_refl _) _
          have hXB : Below wr.heap.size wr w3 := ((Below.refl _ _).alloc (Nat.le_refl _) _).trans (hX3.mono (le_alloc _ _ (Nat.le_refl _)))
          have hB3 : Below w.heap.size w w3 := hB.trans (hXB.mono hB.size)
          have hO3 : OwnP w3 w.heap.size g n cp (between lo ⟨#[]⟩ (l.take k)) := hO.below hXB
          obtain ⟨cb0, cb1⟩ := box_cell wr w3 p.1 p.2 hX3
          clear hw3 hO hB hXB c1 c2
          have hszW : w.heap.size ≤ w3.heap.size := hB3.size
          go_wp2_with (at_builtin; refine wpList_append_own _ rfl (.tmp 33) (.tmp 35) 46 rfl w.heap.size 49 i0 (.agg #[.string ⟨#[]⟩, .string ⟨#[]⟩]) 2 32 Tryz.underlying46 hif hz0 hz1 hz2 rfl (by decide) _ _ _ rfl (hO3.2.2.alloc _) ⟨w3.heap.size, 0, none⟩ 1 1 (pairVals [p]) rfl rfl (one_pair_cells _ _ _) (pairVals_oneCell _) hc3 hc4 (le_alloc _ _ hszW) ?_)
          intro v2 w2 hown hgrow hnn
          obtain ⟨g2, cp2, hv, hO2⟩ := ownP_app hO3.1 hO3.2.1 hpk hnn hown
          subst hv
          have hB2 : Below w.heap.size w w2 := (hB3.alloc hszW _).grown hgrow (le_alloc _ _ hszW) (fun k e => by simp [Value.ownBlock] at e; have := hO3.lt; omega)
          rw [← HF.out] at hO2
          have HO2 := Hid.mk' hO2
          clear hown hgrow hnn hO2 hO3 hB3
          go_wp2_with (at_builtin; fail)
          go_roundw
          case rel => exact ⟨k + 1, g2, n + 1, cp2, by omega, by omega, by go_num, rfl, HO2.out, hB2⟩
          case measure => simp [intOf]; omega
        · have hq2 : (hi.toList == []) = false := by
            rw [beq_eq_false_iff_ne]; intro e; exact h2 (bytes_ext (by rw [← ByteArray.toList_eq]; exact e))
          have hq : ¬ hi.toList = [] := fun e => h2 (bytes_ext (by rw [← ByteArray.toList_eq]; exact e))
          have hq3 : hi.toList.isEmpty = false := by rw [Bool.eq_false_iff]; intro e; exact hq (List.isEmpty_iff.1 e)
          have hz : decide (hi.size = 0) = false := decide_eq_false (fun e => h2 ((empty_iff hi).1 e))
          cases h3 : Op.bytesLess l[k].1.toList hi.toList
          · have HIN : Hid (inB lo hi l[k].1 = false) := by show _ = _; unfold inB; rw [show ltB l[k].1 lo = false from h1, hz, show ltB l[k].1 hi = false from h3]; rfl
            clear hz h2
            have HF : Hid (between lo hi (l.take (k + 1)) = between lo hi (l.take k)) := by
              show List.filter _ _ = List.filter _ _
              rw [hst, HIN.out]; simp
            clear hst HIN
            generalize l[k] = p at *
            go_wp2_with fail
            refine (i_key p _).mono ?_
            rintro e w3 ⟨rfl, hw3⟩
            have hX3 : Below (wr.alloc (.cells #[.string p.1, .string p.2] 49)).heap.size (wr.alloc (.cells #[.string p.1, .string p.2] 49)) w3 := by rw [hw3]; exact (Below.refl _ _).alloc (Nat.le_refl _) _
            have hXB : Below wr.heap.size wr w3 := ((Below.refl _ _).alloc (Nat.le_refl _) _).trans (hX3.mono (le_alloc _ _ (Nat.le_refl _)))
            have hB3 : Below w.heap.size w w3 := hB.trans (hXB.mono hB.size)
            have hO3 : OwnP w3 w.heap.size g n cp (between lo hi (l.take k)) := hO.below hXB
            obtain ⟨cb0, cb1⟩ := box_cell wr w3 p.1 p.2 hX3
            clear hw3 hO hB hXB c1 c2
            go_wp2_with fail
            refine (i_key p _).mono ?_
            rintro e w4 ⟨rfl, hw4⟩
            have hXB : Below w3.heap.size w3 w4 := by rw [hw4]; exact (Below.refl _ _).alloc (Nat.le_refl _) _
            have hB4 : Below w.heap.size w w4 := hB3.trans (hXB.mono hB3.size)
            have hO4 : OwnP w4 w.heap.size g n cp (between lo hi (l.take k)) := hO3.below hXB
            obtain ⟨cc0, cc1⟩ := box_cell wr w4 p.1 p.2 (hX3.trans (hXB.mono hX3.size))
            clear hw4 hO3 hB3 hXB cb0 cb1
            go_wp2_with (at_builtin; fail)
            go_roundw
            case rel => exact ⟨k + 1, g, n, cp, by omega, by omega, by go_num, rfl, by rw [HF.out]; exact hO4, hB4⟩
            case measure => simp [intOf]; omega
          · have HIN : Hid (inB lo hi l[k].1 = true) := by show _ = _; unfold inB; rw [show ltB l[k].1 lo = false from h1, hz, show ltB l[k].1 hi = true from h3]; rfl
            clear hz h2
            have HF : Hid (between lo hi (l.take (k + 1)) = between lo hi (l.take k) ++ [l[k]]) := by
              show List.filter _ _ = List.filter _ _ ++ _
              rw [hst, HIN.out]; simp
            have hc3 : n + 1 ≤ maxLen := by unfold maxLen; omega
            have hc4 : (n + 1) * 32 ≤ 140737488355328 := by omega
            clear hst HIN
            generalize l[k] = p at *
            go_wp2_with fail
            refine (i_key p _).mono ?_
            rintro e w3 ⟨rfl, hw3⟩
            have hX3 : Below (wr.alloc (.cells #[.string p.1, .string p.2] 49)).heap.size (wr.alloc (.cells #[.string p.1, .string p.2] 49)) w3 := by rw [hw3]; exact (Below.refl _ _).alloc (Nat.le_refl _) _
            have hXB : Below wr.heap.size wr w3 := ((Below.refl _ _).alloc (Nat.le_refl _) _).trans (hX3.mono (le_alloc _ _ (Nat.le_refl _)))
            have hB3 : Below w.heap.size w w3 := hB.trans (hXB.mono hB.size)
            have hO3 : OwnP w3 w.heap.size g n cp (between lo hi (l.take k)) := hO.below hXB
            obtain ⟨cb0, cb1⟩ := box_cell wr w3 p.1 p.2 hX3
            clear hw3 hO hB hXB c1 c2
            go_wp2_with fail
            refine (i_key p _).mono ?_
            rintro e w4 ⟨rfl, hw4⟩
            have hXB : Below w3.heap.size w3 w4 := by rw [hw4]; exact (Below.refl _ _).alloc (Nat.le_refl _) _
            have hB4 : Below w.heap.size w w4 := hB3.trans (hXB.mono hB3.size)
            have hO4 : OwnP w4 w.heap.size g n cp (between lo hi (l.take k)) := hO3.below hXB
            obtain ⟨cc0, cc1⟩ := box_cell wr w4 p.1 p.2 (hX3.trans (hXB.mono hX3.size))
            clear hw4 hO3 hB3 hXB cb0 cb1
            have hszW : w.heap.size ≤ w4.heap.size := hB4.size
            go_wp2_with (at_builtin; refine wpList_append_own _ rfl (.tmp 33) (.tmp 35) 46 rfl w.heap.size 49 i0 (.agg #[.string ⟨#[]⟩, .string ⟨#[]⟩]) 2 32 Tryz.underlying46 hif hz0 hz1 hz2 rfl (by decide) _ _ _ rfl (hO4.2.2.alloc _) ⟨w4.heap.size, 0, none⟩ 1 1 (pairVals [p]) rfl rfl (one_pair_cells _ _ _) (pairVals_oneCell _) hc3 hc4 (le_alloc _ _ hszW) ?_)
            intro v2 w2 hown hgrow hnn
            obtain ⟨g2, cp2, hv, hO2⟩ := ownP_app hO4.1 hO4.2.1 hpk hnn hown
            subst hv
            have hB2 : Below w.heap.size w w2 := (hB4.alloc hszW _).grown hgrow (le_alloc _ _ hszW) (fun k e => by simp [Value.ownBlock] at e; have := hO4.lt; omega)
            rw [← HF.out] at hO2
            have HO2 := Hid.mk' hO2
            clear hown hgrow hnn hO2 hO4 hB4
            go_wp2_with (at_builtin; fail)
            go_roundw
            case rel => exact ⟨k + 1, g2, n + 1, cp2, by omega, by omega, by go_num, rfl, HO2.out, hB2⟩
            case measure => simp [intOf]; omega
      · have HIN : Hid (inB lo hi l[k].1 = false) := by show _ = _; unfold inB; rw [show ltB l[k].1 lo = true from h1]; rfl
        have HF : Hid (between lo hi (l.take (k + 1)) = between lo hi (l.take k)) := by
          show List.filter _ _ = List.filter _ _
          rw [hst, HIN.out]; simp
        clear hst HIN
        generalize l[k] = p at *
        go_wp2_with fail
        refine (i_key p _).mono ?_
        rintro e w3 ⟨rfl, hw3⟩
        have hX3 : Below (wr.alloc (.cells #[.string p.1, .string p.2] 49)).heap.size (wr.alloc (.cells #[.string p.1, .string p.2] 49)) w3 := by rw [hw3]; exact (Below.refl _ _).alloc (Nat.le_refl _) _
        have hXB : Below wr.heap.size wr w3 := ((Below.refl _ _).alloc (Nat.le_refl _) _).trans (hX3.mono (le_alloc _ _ (Nat.le_refl _)))
        have hB3 : Below w.heap.size w w3 := hB.trans (hXB.mono hB.size)
        have hO3 : OwnP w3 w.heap.size g n cp (between lo hi (l.take k)) := hO.below hXB
        obtain ⟨cb0, cb1⟩ := box_cell wr w3 p.1 p.2 hX3
        clear hw3 hO hB hXB c1 c2
        go_wp2_with (at_builtin; fail)
        go_roundw
        case rel => exact ⟨k + 1, g, n, cp, by omega, by omega, by go_num, rfl, by rw [HF.out]; exact hO3, hB3⟩
        case measure => simp [intOf]; omega
    · have HE : Hid (l.take k = l) := List.take_of_length_le (by omega)
      go_wp2_with (at_builtin; fail)
      go_ret
      rw [HE.out] at hO
      exact ⟨g, n, cp, rfl, hO, hB⟩

set_option maxHeartbeats 1000000 in
theorem impl_between (b off len cap : Nat) (l : List Pr) (lo hi : ByteArray) (w : World) (h : SlP w (some ⟨b, off, none⟩) len l) (hcap : len ≤ cap) (hsz : len ≤ 1099511627776) :
    Calls Tryz.prog 7 #[.slice (some ⟨b, off, none⟩) len cap, .string lo, .string hi] w fun e w' =>
      ∃ g' n' cap', e = .returned (.slice (some ⟨g', 0, none⟩) n' cap') ∧ OwnP w' w.heap.size g' n' cap' (between lo hi l) ∧ Below w.heap.size w w' := by
  have hl := h.1
  subst hl
  have HW := Hid.mk' (i_between b off cap l lo hi w h hsz)
  go_enter Tryz.func7, Tryz.ntmps7
  go_wp2_with fail
  refine HW.out.mono ?_
  rintro e w2 ⟨g, n, cp, rfl, hO, hB⟩
  have HO := Hid.mk' hO
  clear hO
  go_wp2_with fail
  go_ret
  exact ⟨g, n, cp, rfl, HO.out, hB⟩

end Go.Proofs.YtdebbgodhpcijaaGreatDoor.pairs
