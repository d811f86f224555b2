/- The program's check of a proof. The program's check of a bundle, whole. -/
import Derived.Test.YteammdkipnfmnaaGreatDoorShbc
import Derived.Test.YteammdkipnfmnaaGreatDoorShav
import Derived.Test.YteammdkipnfmnaaGreatDoorShak
import Derived.Test.YteammdkipnfmnaaGreatDoorShay
import Derived.Test.YteammdkipnfmnaaGreatDoorShba
import Derived.Test.YteammdkipnfmnaaGreatDoorSham
namespace Go.Proofs.YteammdkipnfmnaaGreatDoor.range
open Go Go.RowKit Go.Proofs.YteammdkipnfmnaaGreatDoor.base Go.Proofs.YteammdkipnfmnaaGreatDoor.pairs Go.Proofs.YteammdkipnfmnaaGreatDoor.tree
set_option linter.unusedVariables false
set_option linter.unusedSimpArgs false

theorem w64_in (n : Int) (h : -9223372036854775808 ≤ n ∧ n ≤ 9223372036854775807) : wrap64 n = n := by unfold wrap64; omega
theorem rise_iff (L : List Pr) : rise L = true ↔ ∀ j (h : j + 1 < L.length), ltB (L[j]'(by omega)).1 L[j + 1].1 = true := by
  induction L with
  | nil => simp [rise]
  | cons p L ih =>
    cases L with
    | nil => simp [rise]
    | cons q L =>
      have e : rise (p :: q :: L) = (ltB p.1 q.1 && rise (q :: L)) := rfl
      rw [e, Bool.and_eq_true, ih]
      constructor
      · rintro ⟨h1, h2⟩ j hj
        cases j with
        | zero => exact h1
        | succ j => exact h2 j (by simp at hj ⊢; omega)
      · intro h
        exact ⟨h 0 (by simp), fun j hj => h (j + 1) (by simp at hj ⊢; omega)⟩
theorem held_range {root : ByteArray} {n fr : Int} {l : List It} (h0 : 0 < l.length) (hll : l.length ≤ 1099511627776) (hfw : (Lit.int .i64 fr).wf = true) (hA : AllHeld root n fr l) : (1 ≤ n ∧ n ≤ 60) ∧ (0 ≤ fr ∧ fr ≤ n - 1) ∧ fr + (l.length : Int) ≤ n := by
  have hfb : -9223372036854775808 ≤ fr ∧ fr ≤ 9223372036854775807 := by simpa [Lit.wf, IntKind.min, IntKind.max, IntKind.signed, IntKind.bits] using hfw
  have parts : ∀ k (hk : k < l.length), (1 ≤ n ∧ n ≤ 60) ∧ (0 ≤ wrap64 (fr + (k : Int)) ∧ wrap64 (fr + (k : Int)) ≤ n - 1) := fun k hk => by
    have h1 := hA k hk
    unfold heldAt checkPathI at h1
    simp only [Bool.and_eq_true, decide_eq_true_eq] at h1
    exact ⟨h1.2.1.1, h1.2.1.2⟩
  obtain ⟨h1, h2⟩ := parts 0 h0
  rw [w64_in (fr + ((0 : Nat) : Int)) (by omega)] at h2
  obtain ⟨_, h3⟩ := parts (l.length - 1) (by omega)
  rw [w64_in (fr + ((l.length - 1 : Nat) : Int)) (by omega)] at h3
  exact ⟨h1, by omega, by omega⟩
theorem held_eq {root : ByteArray} {n fr : Int} {l : List It} (hll : l.length ≤ 1099511627776) (hfr : 0 ≤ fr ∧ fr ≤ 60) (k : Nat) (hk : k < l.length) : heldAt root n fr l[k] k = (pairOk l[k].1 && checkPathI l[k].1 (fr + (k : Int)) n l[k].2 root) := by
  unfold heldAt; rw [w64_in (fr + (k : Int)) (by omega)]
theorem check_unheld {root lo hi : ByteArray} {n fr : Int} {l : List It} (hn : n ≠ 0) (hll : l.length ≤ 1099511627776) (h : ¬ (l ≠ [] ∧ AllHeld root n fr l)) : check root lo hi ⟨n, fr, l⟩ = none := by
  unfold check
  rw [if_neg hn]
  by_cases hc : ¬ (1 ≤ n ∧ n ≤ 60) ∨ l = [] ∨ ¬ (0 ≤ fr ∧ fr ≤ n - 1)
  · rw [if_pos hc]
  · rw [if_neg hc]
    have hl : l ≠ [] := fun e => hc (.inr (.inl e))
    have hfr : 0 ≤ fr ∧ fr ≤ 60 := by omega
    obtain ⟨k, hk, hF⟩ : ∃ k, ∃ hk : k < l.length, heldAt root n fr l[k] k = false := by
      apply Classical.byContradiction
      intro hno
      refine h ⟨hl, fun k hk => ?_⟩
      cases hb : heldAt root n fr l[k] k with
      | true => rfl
      | false => exact absurd ⟨k, hk, hb⟩ hno
    rw [held_eq hll hfr k hk] at hF
    obtain ⟨r, hok, _, _⟩ := itemOk_parts root n fr l k hk
    rw [if_pos (all_range_false hk (by rw [hok, hF]; rfl))]
theorem check_held {root lo hi : ByteArray} {n fr : Int} {l : List It} (hn : n ≠ 0) (hll : l.length ≤ 1099511627776) (hfw : (Lit.int .i64 fr).wf = true) (hA : AllHeld root n fr l) (m : Nat) (hm : l.length = m + 1) :
    check root lo hi ⟨n, fr, l⟩ = if (rise (keysOf l) && (decide (fr = 0) || ltB (l[0]'(by omega)).1.1 lo) && (decide (fr + (m : Int) = n - 1) || (!decide (hi.size = 0) && !ltB (l[m]'(by omega)).1.1 hi))) = true then some (between lo hi (keysOf l)) else none := by
  obtain ⟨h1, h2, h3⟩ := held_range (by omega) hll hfw hA
  have hl : l ≠ [] := fun e => by rw [e] at hm; simp at hm
  have hfr : 0 ≤ fr ∧ fr ≤ 60 := by omega
  have hall : (List.range l.length).all (itemOkAt root ⟨n, fr, l⟩) = rise (keysOf l) := by
    rw [Bool.eq_iff_iff, rise_iff, List.all_eq_true]
    have hkl : (keysOf l).length = l.length := by unfold keysOf; simp
    constructor
    · intro h j hj
      have hj' : j + 1 < l.length := by omega
      have := h (j + 1) (List.mem_range.2 hj')
      rw [itemOk_succ root ⟨n, fr, l⟩ j hj'] at this
      simp only [Bool.and_eq_true] at this
      simp only [keysOf, List.getElem_map]
      exact this.2
    · intro h k hk
      have hk' := List.mem_range.1 hk
      obtain ⟨r, hok, hr0, hr1⟩ := itemOk_parts root n fr l k hk'
      have hH := hA k hk'
      rw [held_eq hll hfr k hk'] at hH
      rw [hok, hH, Bool.true_and]
      cases k with
      | zero => exact hr0 rfl
      | succ j =>
        rw [hr1 j (by omega) rfl]
        have := h j (by omega)
        simp only [keysOf, List.getElem_map] at this
        exact this
  unfold check
  rw [if_neg hn, if_neg (by
    show ¬ (¬ (1 ≤ n ∧ n ≤ 60) ∨ l = [] ∨ ¬ (0 ≤ fr ∧ fr ≤ n - 1))
    rintro (e | e | e)
    · exact e h1
    · exact hl e
    · exact e h2)]
  show (if (List.range l.length).all (itemOkAt root ⟨n, fr, l⟩) = false then none else @ite _ (endsBad lo hi ⟨n, fr, l⟩) (endsDec lo hi ⟨n, fr, l⟩) none (some (between lo hi (keysOf l)))) = _
  rw [hall]
  cases rise (keysOf l) with
  | false => simp
  | true =>
    rw [if_neg (by simp)]
    have hfk : firstKey l = (l[0]'(by omega)).1.1 := by unfold firstKey; rw [List.head?_eq_getElem?, List.getElem?_eq_getElem (by omega)]
    have hlk : lastKey l = (l[m]'(by omega)).1.1 := by
      unfold lastKey
      rw [List.getLast?_eq_getElem?, List.getElem?_eq_getElem (by omega)]
      simp only [hm, Nat.add_sub_cancel]
    have heb : endsBad lo hi ⟨n, fr, l⟩ ↔ (ltB (l[0]'(by omega)).1.1 lo = false ∧ 0 < fr) ∨ ((hi.size = 0 ∨ ltB (l[m]'(by omega)).1.1 hi = true) ∧ fr + (l.length : Int) < n) := by
      rw [← hfk, ← hlk]; exact Iff.rfl
    generalize (l[0]'(by omega)).1.1 = fk at *
    generalize (l[m]'(by omega)).1.1 = lk at *
    by_cases hb : endsBad lo hi ⟨n, fr, l⟩
    · rw [if_pos hb, if_neg]
      intro hc
      simp only [Bool.true_and, Bool.and_eq_true, Bool.or_eq_true, decide_eq_true_eq, Bool.not_eq_true', decide_eq_false_iff_not] at hc
      rcases heb.1 hb with ⟨h4, h5⟩ | ⟨h4, h5⟩
      · rcases hc.1 with h6 | h6
        · omega
        · rw [h4] at h6; cases h6
      · rcases hc.2 with h6 | ⟨h6, h7⟩
        · omega
        · rcases h4 with h8 | h8
          · exact h6 h8
          · rw [h7] at h8; cases h8
    · rw [if_neg hb, if_pos]
      simp only [Bool.true_and, Bool.and_eq_true, Bool.or_eq_true, decide_eq_true_eq, Bool.not_eq_true', decide_eq_false_iff_not]
      constructor
      · cases h4 : ltB fk lo with
        | true => exact .inr rfl
        | false => exact .inl (by
            have : ¬ (0 < fr) := fun h5 => hb (heb.2 (.inl ⟨h4, h5⟩))
            omega)
      · by_cases h4 : fr + (m : Int) = n - 1
        · exact .inl h4
        · have h5 : fr + (l.length : Int) < n := by omega
          refine .inr ⟨fun h6 => hb (heb.2 (.inr ⟨.inl h6, h5⟩)), ?_⟩
          cases h6 : ltB lk hi with
          | false => rfl
          | true => exact absurd (heb.2 (.inr ⟨.inr h6, h5⟩)) hb

set_option maxRecDepth 100000 in
set_option maxHeartbeats 1000000 in
theorem impl_checkZero (root lo hi : ByteArray) (fr : Int) (a : Option Addr) (cap : Nat) (l : List It) (w : World) (hll : l.length ≤ 1099511627776) (hK : sha.KW w) :
    Calls Tryz.prog 26 #[.string root, .string lo, .string hi, .agg #[.int .i64 0, .int .i64 fr, .slice a l.length cap]] w (CPost w (check root lo hi ⟨0, fr, l⟩)) := by
  have hck : check root lo hi ⟨0, fr, l⟩ = if l = [] ∧ fr = 0 ∧ root = rootOf [] then some [] else none := by unfold check; rw [if_pos rfl]
  have hd : (check root lo hi ⟨0, fr, l⟩).isSome = decide (l.length = 0 ∧ fr = 0 ∧ root = rootOf []) ∧ (check root lo hi ⟨0, fr, l⟩).getD [] = [] := by
    rw [hck]
    by_cases h : l = [] ∧ fr = 0 ∧ root = rootOf []
    · rw [if_pos h]; exact ⟨(decide_eq_true ⟨by rw [h.1]; rfl, h.2⟩).symm, rfl⟩
    · rw [if_neg h]; exact ⟨(decide_eq_false (fun h' => h ⟨List.eq_nil_of_length_eq_zero h'.1, h'.2⟩)).symm, rfl⟩
  have HP := Hid.mk' (fun wx (hx : Below w.heap.size w wx) => impl_provesNone root 0 fr a l.length cap wx (hK.below hx))
  have HD := Hid.mk' hd
  clear hck hd hK
  generalize check root lo hi ⟨0, fr, l⟩ = R at *
  generalize decide (l.length = 0 ∧ fr = 0 ∧ root = rootOf []) = D at *
  go_enter Tryz.func26, Tryz.ntmps26
  go_wp2_with fail
  have hb0 : Below w.heap.size w (w.alloc (.cells #[.int .i64 0, .int .i64 fr, .slice a l.length cap] 64)) := (Below.refl _ _).alloc (Nat.le_refl _) _
  have hO := ownP_made (w.alloc (.cells #[.int .i64 0, .int .i64 fr, .slice a l.length cap] 64)) w.heap.size hb0.size
  have hB := hb0.alloc hb0.size (.cells #[] 34)
  obtain ⟨W, hW⟩ : ∃ W, W = (w.alloc (.cells #[.int .i64 0, .int .i64 fr, .slice a l.length cap] 64)).alloc (.cells #[] 34) := ⟨_, rfl⟩
  rw [← hW] at hO hB ⊢
  rw [World.size_alloc] at hO
  clear hW hb0
  refine (HP.out W hB).mono ?_
  rintro e w1 ⟨rfl, hb1⟩
  have HO1 := Hid.mk' (hO.below hb1)
  have hB1 := hB.trans (hb1.mono hB.size)
  clear HP hO
  go_wp2_with fail
  go_ret2
  exact ⟨hB1, _, _, _, by rw [HD.out.1]; rfl, by rw [HD.out.2]; exact HO1.out⟩

set_option maxRecDepth 100000 in
set_option maxHeartbeats 2000000 in
theorem impl_checkBetween (root lo hi : ByteArray) (n fr : Int) (a : Option Addr) (len cap : Nat) (l : List It) (w : World) (h : SlJ w a len l) (hnw : (Lit.int .i64 n).wf = true) (hfw : (Lit.int .i64 fr).wf = true) (hr : root.size ≤ 1048576) (hlo : lo.size ≤ 1048576) (hhi : hi.size ≤ 1048576) (hK : sha.KW w) :
    Calls Tryz.prog 26 #[.string root, .string lo, .string hi, .agg #[.int .i64 n, .int .i64 fr, .slice a len cap]] w (CPost w (check root lo hi ⟨n, fr, l⟩)) := by
  have hlen := h.1
  have hll := h.2.1
  subst hlen
  by_cases hn0 : n = 0
  · subst hn0
    exact impl_checkZero root lo hi fr a cap l w hll hK
  have hnq : (n == 0) = false := by simpa using hn0
  obtain ⟨W, hW⟩ : ∃ W, W = w.alloc (.cells #[.int .i64 n, .int .i64 fr, .slice a l.length cap] 64) := ⟨_, rfl⟩
  have hB : Below w.heap.size w W := by rw [hW]; exact (Below.refl _ _).alloc (Nat.le_refl _) _
  have hV : V3 W w.heap.size 64 (.int .i64 n) (.int .i64 fr) (.slice a l.length cap) := by rw [hW]; exact heap_alloc_new w _
  have HH := Hid.mk' (impl_pairsHeld root n fr a cap l W (h.below hB) hnw hr (hK.below hB))
  have HW := Hid.mk' hW
  clear hW
  -- nothing and false
  have none_ : ∀ w2, Below w.heap.size w w2 → check root lo hi ⟨n, fr, l⟩ = none → CPost w (check root lo hi ⟨n, fr, l⟩) (.returned (.tuple #[.slice (some ⟨w2.heap.size, 0, none⟩) 0 0, .bool false])) (w2.alloc (.cells #[] 34)) := fun w2 hb2 hc => by
    rw [hc]
    exact ⟨hb2.alloc hb2.size _, _, _, _, rfl, ownP_made w2 w.heap.size hb2.size⟩
  have HNO := Hid.mk' none_
  clear none_
  by_cases hA : l ≠ [] ∧ AllHeld root n fr l
  · obtain ⟨m, hm⟩ : ∃ m, l.length = m + 1 := ⟨l.length - 1, by have := List.length_pos_iff.2 hA.1; omega⟩
    obtain ⟨h1, h2, h3⟩ := held_range (by omega) hll hfw hA.2
    obtain ⟨b, off, ha⟩ : ∃ b off, a = some ⟨b, off, none⟩ := by
      obtain ⟨b, off, ha, _⟩ := h.2.2.2 (by omega)
      exact ⟨b, off, ha⟩
    subst ha
    have hC := check_held (lo := lo) (hi := hi) hn0 hll hfw hA.2 m hm
    have h1x := fun (wx : World) (hx : Below w.heap.size w wx) => impl_beginsBelow lo n fr b off cap l wx (h.below hx) (by omega)
    have h2x := fun (wx : World) (hx : Below w.heap.size w wx) => impl_endsBehind hi n fr b off cap l wx (h.below hx) m hm (by omega) h1
    generalize (decide (fr = 0) || ltB (l[0]'(by omega)).1.1 lo) = G1 at hC h1x
    generalize (decide (fr + (m : Int) = n - 1) || (!decide (hi.size = 0) && !ltB (l[m]'(by omega)).1.1 hi)) = G2 at hC h2x
    have HB1' := Hid.mk' h1x
    have HB2' := Hid.mk' h2x
    have HCK := Hid.mk' hC
    clear h1x h2x hC
    have hks : ∀ p ∈ keysOf l, small p := fun p hp => by
      obtain ⟨x, hx, rfl⟩ := List.mem_map.1 hp
      have := (h.2.2.1 x hx).1
      exact ⟨by have := this.1; unfold maxLen; omega, by have := this.2; unfold maxLen; omega⟩
    have HKL : Hid ((keysOf l).length = l.length) := by show _ = _; unfold keysOf; simp
    have HA := Hid.mk' hA
    have HM := Hid.mk' hm
    clear hA h hK hnw hfw h3 hm
    go_enter Tryz.func26, Tryz.ntmps26
    go_wp2_with fail
    rw [← HW.out]
    refine HH.out.mono ?_
    rintro e w1 ⟨r, g, k, c, rfl, hr1, hO, hb1⟩
    obtain rfl : r = true := hr1.2 HA.out
    rw [if_pos rfl] at hO
    have hB1 := hB.trans (hb1.mono hB.size)
    have hk1 : (keysOf l).length = k := hO.1
    have hkb : k ≤ 1099511627776 := by have := HKL.out; omega
    have hRi := i_rises g 0 c (keysOf l) w1 (by rw [hk1]; exact hO.sl) (by omega)
    rw [hk1] at hRi
    have V1 := hV.below hb1
    have a0 := V1.c0
    have a1 := V1.c1
    have a2 := V1.c2
    have HV1 := Hid.mk' V1
    have HO := Hid.mk' hO
    have hC := HCK.out
    clear hr1 HH HW HCK hV V1 hO hB hb1 HA HKL
    cases hR : rise (keysOf l) with
    | false =>
      rw [hR] at hRi hC
      have HRi := Hid.mk' hRi
      have HC : Hid (check root lo hi ⟨n, fr, l⟩ = none) := hC
      clear hRi hC hR HB1' HB2'
      go_wp2_with fail
      refine HRi.out.mono ?_
      rintro e w2 ⟨rfl, hb2⟩
      have hB2 := hB1.trans (hb2.mono hB1.size)
      have HE := Hid.mk' (HNO.out w2 hB2 HC.out)
      clear HRi HC HNO a0 a1 a2
      go_wp2_with fail
      go_ret2
      exact HE.out
    | true =>
      rw [hR] at hRi hC
      have HRi := Hid.mk' hRi
      clear hRi hR
      cases G1 with
      | false =>
        have HC : Hid (check root lo hi ⟨n, fr, l⟩ = none) := hC
        clear hC HB2'
        go_wp2_with fail
        refine HRi.out.mono ?_
        rintro e w2 ⟨rfl, hb2⟩
        have hB2 := hB1.trans (hb2.mono hB1.size)
        have V2 := HV1.out.below hb2
        have c0 := V2.c0
        have c1 := V2.c1
        have c2 := V2.c2
        have HB := Hid.mk' (HB1'.out w2 hB2)
        clear HRi HB1' a0 a1 a2 V2
        go_wp2_with fail
        refine HB.out.mono ?_
        rintro e w3 ⟨rfl, hb3⟩
        have hB3 := hB2.trans (hb3.mono hB2.size)
        have HE := Hid.mk' (HNO.out w3 hB3 HC.out)
        clear HB HC HNO c0 c1 c2
        go_wp2_with fail
        go_ret2
        exact HE.out
      | true =>
        have HC2 := Hid.mk' hC
        clear hC
        go_wp2_with fail
        refine HRi.out.mono ?_
        rintro e w2 ⟨rfl, hb2⟩
        have hB2 := hB1.trans (hb2.mono hB1.size)
        have V2 := HV1.out.below hb2
        have c0 := V2.c0
        have c1 := V2.c1
        have c2 := V2.c2
        have HV2 := Hid.mk' V2
        have HB := Hid.mk' (HB1'.out w2 hB2)
        clear HRi HB1' a0 a1 a2 V2
        go_wp2_with fail
        refine HB.out.mono ?_
        rintro e w3 ⟨rfl, hb3⟩
        have hB3 := hB2.trans (hb3.mono hB2.size)
        have V3' := HV2.out.below hb3
        have d0 := V3'.c0
        have d1 := V3'.c1
        have d2 := V3'.c2
        have HB2x := Hid.mk' (HB2'.out w3 hB3)
        clear HB HB2' c0 c1 c2 V3' HV2
        cases G2 with
        | false =>
          have HC : Hid (check root lo hi ⟨n, fr, l⟩ = none) := HC2.out
          clear HC2
          go_wp2_with fail
          refine HB2x.out.mono ?_
          rintro e w4 ⟨rfl, hb4⟩
          have hB4 := hB3.trans (hb4.mono hB3.size)
          have HE := Hid.mk' (HNO.out w4 hB4 HC.out)
          clear HB2x HC HNO d0 d1 d2
          go_wp2_with fail
          go_ret2
          exact HE.out
        | true =>
          have HC : Hid (check root lo hi ⟨n, fr, l⟩ = some (between lo hi (keysOf l))) := HC2.out
          clear HC2
          go_wp2_with fail
          refine HB2x.out.mono ?_
          rintro e w4 ⟨rfl, hb4⟩
          have hB4 := hB3.trans (hb4.mono hB3.size)
          have hO4 := ((HO.out.below hb2).below hb3).below hb4
          have hle := hO4.cases.1
          have HBT := Hid.mk' (impl_between g 0 k c (keysOf l) lo hi w4 hO4.sl hle hkb)
          clear HB2x HNO d0 d1 d2
          go_wp2_with fail
          refine HBT.out.mono ?_
          rintro e w5 ⟨g5, n5, c5, rfl, hO5, hb5⟩
          have hB5 := hB4.trans (hb5.mono hB4.size)
          have HO5 := Hid.mk' (hO5.mono (base' := w.heap.size) hB4.size)
          clear HBT hO5
          go_wp2_with fail
          go_ret2
          rw [HC.out]
          exact ⟨hB5, g5, n5, c5, rfl, HO5.out⟩
  · have HC := Hid.mk' (check_unheld (lo := lo) (hi := hi) hn0 hll hA)
    have HA := Hid.mk' hA
    clear hA h hK
    go_enter Tryz.func26, Tryz.ntmps26
    go_wp2_with fail
    rw [← HW.out]
    refine HH.out.mono ?_
    rintro e w1 ⟨r, g, m, c, rfl, hr1, hO, hb1⟩
    have hr2 : r = false := by
      cases r with
      | false => rfl
      | true => exact absurd (hr1.1 rfl) HA.out
    subst hr2
    have hB1 := hB.trans (hb1.mono hB.size)
    have HE := Hid.mk' (HNO.out w1 hB1 HC.out)
    clear hr1 hO HNO HH HW HC HA
    go_wp2_with fail
    go_ret2
    exact HE.out
end Go.Proofs.YteammdkipnfmnaaGreatDoor.range

namespace Go.Proofs.YteammdkipnfmnaaGreatDoor.bun
open Go Go.RowKit Go.Proofs.YteammdkipnfmnaaGreatDoor.base Go.Proofs.YteammdkipnfmnaaGreatDoor.pairs Go.Proofs.YteammdkipnfmnaaGreatDoor.lay Go.Proofs.YteammdkipnfmnaaGreatDoor.range Go.Proofs.YteammdkipnfmnaaGreatDoor.seals Go.Proofs.YteammdkipnfmnaaGreatDoor.tabs
set_option linter.unusedVariables false
set_option linter.unusedSimpArgs false

def isB (super : ByteArray) (x : Bun) : Bool := decide (1 ≤ x.2.2.1.length ∧ x.2.2.1.length ≤ 8) && decide (x.2.2.2.length = x.2.2.1.length) && decide (superOf x.1 x.2.1 x.2.2.1 = super)
set_option maxRecDepth 100000 in
set_option maxHeartbeats 2000000 in
theorem i_isOf (super : ByteArray) (ra : Option Addr) (rn rc : Nat) (pa : Option Addr) (pn pc : Nat) (x : Bun) (w : World) (hno : (Lit.int .i64 x.1).wf = true) (hp : x.2.1.size ≤ 1048576) (hR : SlS w ra rn x.2.2.1) (hrs : x.2.2.1.length + puttexts.sum x.2.2.1 ≤ 1048576) (hpn : x.2.2.2.length = pn) (hpm : pn ≤ 9223372036854775807) (hK : sha.KW w) :
    Calls Tryz.prog 23 #[.agg #[.int .i64 x.1, .string x.2.1, .slice ra rn rc, .slice pa pn pc], .string super] w fun e w' => e = .returned (.bool (isB super x)) ∧ Below w.heap.size w w' := by
  obtain ⟨no, pv, rs, ps⟩ := x
  simp only [] at *
  obtain rfl : rs.length = rn := hR.1
  subst hpn
  have hrm := hR.2.1
  unfold maxLen at hrm
  obtain ⟨W, hW⟩ : ∃ W, w.alloc (.cells #[.int .i64 no, .string pv, .slice ra rs.length rc, .slice pa ps.length pc] 27) = W := ⟨_, rfl⟩
  have hB : Below w.heap.size w W := by rw [← hW]; exact below_make
  have hX : BoxIn w.heap.size 27 [] [.int .i64 no, .string pv, .slice ra rs.length rc, .slice pa ps.length pc] [] W := by rw [← hW]; exact boxIn_new w _ _
  have HN := Hid.mk' (i_count (rs.length : Int) W)
  have HS := Hid.mk' (impl_superOf no pv ra rs.length rc rs W (hR.below hB) hno hp hrs (hK.below hB))
  have HD : Hid (isB super (no, pv, rs, ps) = (decide (1 ≤ (rs.length : Int) ∧ (rs.length : Int) ≤ 8) && decide ((ps.length : Int) = (rs.length : Int)) && decide (superOf no pv rs = super))) := by
    show _ = _
    unfold isB
    simp only []
    congr 2
    · exact decide_eq_decide.2 ⟨fun e => by omega, fun e => by omega⟩
    · exact decide_eq_decide.2 ⟨fun e => by omega, fun e => by omega⟩
  generalize isB super (no, pv, rs, ps) = R at *
  generalize superOf no pv rs = so at *
  generalize decide (1 ≤ (rs.length : Int) ∧ (rs.length : Int) ≤ 8) = r1 at *
  obtain ⟨y0, y1, y2, y3⟩ := box4 hX
  rw [← hW] at y0 y1 y2 y3
  have HW := Hid.mk' hW
  clear hW hR
  cases r1
  · go_enter Tryz.func23, Tryz.ntmps23
    go_wp2_with fail
    rw [HW.out]
    refine HN.out.mono ?_
    rintro e w1 ⟨rfl, hw1⟩
    replace hw1 := hw1.symm
    subst hw1
    go_wp2_with fail
    go_ret
    exact ⟨by rw [HD.out]; rfl, hB⟩
  by_cases h2 : (ps.length : Int) = (rs.length : Int)
  rotate_left
  · have hq : ((ps.length : Int) == (rs.length : Int)) = false := by simp; omega
    rw [decide_eq_false h2] at HD
    clear h2
    go_enter Tryz.func23, Tryz.ntmps23
    go_wp2_with fail
    rw [HW.out]
    refine HN.out.mono ?_
    rintro e w1 ⟨rfl, hw1⟩
    replace hw1 := hw1.symm
    subst hw1
    rw [HW.out] at y0 y1 y2 y3
    go_wp2_with fail
    go_ret
    exact ⟨by rw [HD.out]; rfl, hB⟩
  have hq : ((ps.length : Int) == (rs.length : Int)) = true := by simp; omega
  rw [decide_eq_true h2] at HD
  clear h2
  by_cases h3 : so = super
  · rw [decide_eq_true h3] at HD
    subst h3
    have hs := seals.str_same so
    go_enter Tryz.func23, Tryz.ntmps23
    go_wp2_with fail
    rw [HW.out]
    refine HN.out.mono ?_
    rintro e w1 ⟨rfl, hw1⟩
    replace hw1 := hw1.symm
    subst hw1
    rw [HW.out] at y0 y1 y2 y3
    go_wp2_with fail
    refine HS.out.mono ?_
    rintro e w2 ⟨rfl, hb⟩
    go_wp2_with fail
    go_ret
    exact ⟨by rw [HD.out]; rfl, hB.trans (hb.mono hB.size)⟩
  · have hs := seals.str_ne h3
    rw [decide_eq_false h3] at HD
    clear h3
    go_enter Tryz.func23, Tryz.ntmps23
    go_wp2_with fail
    rw [HW.out]
    refine HN.out.mono ?_
    rintro e w1 ⟨rfl, hw1⟩
    replace hw1 := hw1.symm
    subst hw1
    rw [HW.out] at y0 y1 y2 y3
    go_wp2_with fail
    refine HS.out.mono ?_
    rintro e w2 ⟨rfl, hb⟩
    go_wp2_with fail
    go_ret
    exact ⟨by rw [HD.out]; rfl, hB.trans (hb.mono hB.size)⟩
structure Caps (w : World) (lo hi : ByteArray) (A H X : Nat) (ra : Option Addr) (rn rc : Nat) (rs : List ByteArray) : Prop where
  lo : w.cell? ⟨A, 0, none⟩ = some (.string lo)
  hi : w.cell? ⟨H, 0, none⟩ = some (.string hi)
  rts : w.cell? ⟨X, 2, none⟩ = some (.slice ra rn rc)
  row : SlS w ra rn rs
theorem Caps.below {w w' : World} {lo hi : ByteArray} {A H X : Nat} {ra : Option Addr} {rn rc : Nat} {rs : List ByteArray} (h : Caps w lo hi A H X ra rn rc rs) (hb : Below w.heap.size w w') : Caps w' lo hi A H X ra rn rc rs := by
  have keep : ∀ b o v, w.cell? ⟨b, o, none⟩ = some v → w'.cell? ⟨b, o, none⟩ = some v := fun b o v hv => (hb.cell (p := ⟨b, o, none⟩) (World.block_lt_of_cell? w _ hv)).trans hv
  exact ⟨keep _ _ _ h.lo, keep _ _ _ h.hi, keep _ _ _ h.rts, h.row.below hb⟩
theorem keep8c {w w' : World} {X A H : Nat} {b F : Nat} {o : Nat} {x1 x2 x3 x4 y0 y1 y2 : Value} (hb : Below w.heap.size w w') (h : w.cell? ⟨X, 2, none⟩ = some x1 ∧ w.cell? ⟨b, o, none⟩ = some x2 ∧ w.cell? ⟨A, 0, none⟩ = some x3 ∧ w.cell? ⟨H, 0, none⟩ = some x4 ∧ w.cell? ⟨F, 0, none⟩ = some y0 ∧ w.cell? ⟨F, 1, none⟩ = some y1 ∧ w.cell? ⟨F, 2, none⟩ = some y2) :
    w'.cell? ⟨X, 2, none⟩ = some x1 ∧ w'.cell? ⟨b, o, none⟩ = some x2 ∧ w'.cell? ⟨A, 0, none⟩ = some x3 ∧ w'.cell? ⟨H, 0, none⟩ = some x4 ∧ w'.cell? ⟨F, 0, none⟩ = some y0 ∧ w'.cell? ⟨F, 1, none⟩ = some y1 ∧ w'.cell? ⟨F, 2, none⟩ = some y2 := by
  have k : ∀ {g o : Nat} {v : Value}, w.cell? ⟨g, o, none⟩ = some v → w'.cell? ⟨g, o, none⟩ = some v := fun {g o v} hv => (hb.cell (p := ⟨g, o, none⟩) (World.block_lt_of_cell? w _ hv)).trans hv
  exact ⟨k h.1, k h.2.1, k h.2.2.1, k h.2.2.2.1, k h.2.2.2.2.1, k h.2.2.2.2.2.1, k h.2.2.2.2.2.2⟩
set_option maxRecDepth 100000 in
set_option maxHeartbeats 4000000 in
theorem i_checkOne (lo hi : ByteArray) (A H X : Nat) (ra : Option Addr) (rn rc : Nat) (rs : List ByteArray) (ps : List Pf) (k : Nat) (ia : Option Addr) (ic : Nat) (w : World) (hc : Caps w lo hi A H X ra rn rc rs) (hk : k < rs.length) (hkp : k < ps.length) (hJ : SlJ w ia ps[k].2.2.length ps[k].2.2) (hw1 : (Lit.int .i64 ps[k].1).wf = true) (hw2 : (Lit.int .i64 ps[k].2.1).wf = true) (hlo : lo.size ≤ 1048576) (hhi : hi.size ≤ 1048576) (hrs : rs.length + puttexts.sum rs ≤ 1048576) (hrc : rn ≤ rc) (hK : sha.KW w) :
    Calls Tryz.prog 25 #[.int .i64 (k : Int), .agg #[.int .i64 ps[k].1, .int .i64 ps[k].2.1, .slice ia ps[k].2.2.length ic], .pointer (some ⟨X, 0, none⟩), .pointer (some ⟨A, 0, none⟩), .pointer (some ⟨H, 0, none⟩)] w (DPost w (partB rs.length lo hi rs ps k)) := by
  obtain rfl : rs.length = rn := hc.row.1
  obtain ⟨rb, ro, rfl, hcl⟩ := hc.row.2.2.2 (by omega)
  have r0 := hcl k hk
  have hrsz : rs[k].size ≤ 1048576 := by have := puttexts.size_le_sum rs rs[k] (List.getElem_mem hk); omega
  have hrl : rs.length ≤ 1048576 := by omega
  have HPA := Hid.mk' (partB_at (n := rs.length) (lo := lo) (hi := hi) hk hkp)
  obtain ⟨W, hW⟩ : ∃ W, w.alloc (.cells #[.int .i64 ps[k].1, .int .i64 ps[k].2.1, .slice ia ps[k].2.2.length ic] 64) = W := ⟨_, rfl⟩
  have hB : Below w.heap.size w W := by rw [← hW]; exact below_make
  have hX : BoxIn w.heap.size 64 [] [.int .i64 ps[k].1, .int .i64 ps[k].2.1, .slice ia ps[k].2.2.length ic] [] W := by rw [← hW]; exact boxIn_new w _ _
  have x0 := hX.cell 0 _ rfl
  have x1 := hX.cell 1 _ rfl
  have x2 := hX.cell 2 _ rfl
  simp only [List.length_nil, Nat.zero_add] at x0 x1 x2
  have hcW := hc.below hB
  have c1 := hcW.lo
  have c2 := hcW.hi
  have c3 := hcW.rts
  have r1 := (hB.cell (p := ⟨rb, ro + k, none⟩) (World.block_lt_of_cell? w _ r0)).trans r0
  have HCK := Hid.mk' (fun wx (hx : Below W.heap.size W wx) => impl_checkBetween rs[k] lo hi ps[k].1 ps[k].2.1 ia ps[k].2.2.length ic ps[k].2.2 wx ((hJ.below hB).below hx) hw1 hw2 hrsz hlo hhi ((hK.below hB).below hx))
  have HLL : Hid (∀ l, check rs[k] lo hi ⟨ps[k].1, ps[k].2.1, ps[k].2.2⟩ = some l → ∀ p ∈ l, p.1.size ≤ 1099511627776) := fun l hl => check_lim hl hJ.2.2.1
  have HW := Hid.mk' hW
  generalize check rs[k] lo hi ⟨ps[k].1, ps[k].2.1, ps[k].2.2⟩ = ck at *
  generalize partB rs.length lo hi rs ps k = pk at *
  generalize rs[k] = rt at *
  generalize ps[k].2.2.length = il at *
  generalize ps[k] = f at *
  obtain ⟨fn, ff, its⟩ := f
  simp only [] at *
  have hrki : (k : Int) < (rs.length : Int) := by omega
  have hrkc : (k : Int) < (rc : Int) := by omega
  clear hc hcl r0 hJ hw1 hw2 hrsz hlo hhi hrs hW hcW hkp
  go_enter Tryz.func25, Tryz.ntmps25
  go_wp2_with fail
  rw [HW.out]
  have hdr : Below W.heap.size W W.drew := (Below.refl _ _).drew
  go_region_held3 (fun w' => (w'.cell? ⟨X, 2, none⟩ = some (.slice (some ⟨rb, ro, none⟩) rs.length rc) ∧ w'.cell? ⟨rb, ro + k, none⟩ = some (.string rt) ∧ w'.cell? ⟨A, 0, none⟩ = some (.string lo) ∧ w'.cell? ⟨H, 0, none⟩ = some (.string hi) ∧ w'.cell? ⟨w.heap.size, 0, none⟩ = some (.int .i64 fn) ∧ w'.cell? ⟨w.heap.size, 1, none⟩ = some (.int .i64 ff) ∧ w'.cell? ⟨w.heap.size, 2, none⟩ = some (.slice ia il ic))) (first | (exact keep8c hb3 (by assumption)) | (go_keep)) (first | (go_at_call 26; refine (HCK.out _ hdr).mono ?_; rintro e y3 ⟨hb3, g3, n3, cc3, rfl, hO3⟩) | fail "no arm")
  have hb3' := hdr.trans (hb3.mono hdr.size)
  have hB3 := hB.trans (hb3'.mono hB.size)
  have d3 := (hb3'.cell (p := ⟨X, 2, none⟩) (World.block_lt_of_cell? W _ c3)).trans c3
  have HO3 := Hid.mk' (hO3.mono (base' := w.heap.size) (Nat.le_trans hB.size hdr.size))
  clear hO3 x0 x1 x2 c1 c2 c3 r1 hX HW HCK
  cases ck with
  | none =>
    have HP : Hid (pk = none) := by show _ = _; rw [HPA.out]
    simp only [Option.isSome_none, Option.getD_none] at *
    go_wp2_with fail
    go_ret2
    rw [HP.out]
    exact ⟨hB3, g3, n3, cc3, [], rfl, HO3.out, fun o e => by cases e⟩
  | some l =>
    have HP : Hid (pk = if ownB (rs.length : Int) (k : Int) l = true then some l else none) := by show _ = _; rw [HPA.out]; rfl
    simp only [Option.isSome_some, Option.getD_some] at *
    have HA := Hid.mk' (i_allOf g3 0 n3 cc3 l (rs.length : Int) (k : Int) y3 HO3.out.sl (HLL.out l rfl) (WalkArith.wf_i64 (by omega)))
    generalize ownB (rs.length : Int) (k : Int) l = t at *
    cases t
    · have HP2 : Hid (pk = none) := by show _ = _; rw [HP.out]; rfl
      clear HP
      go_wp2_with fail
      refine HA.out.mono ?_
      rintro e w4 ⟨rfl, hb4⟩
      have hB4 := hB3.trans (hb4.mono hB3.size)
      have HO4 := Hid.mk' (HO3.out.below hb4)
      go_wp2_with fail
      go_ret2
      rw [HP2.out]
      exact ⟨hB4, g3, n3, cc3, l, rfl, HO4.out, fun o e => by cases e⟩
    · have HP2 : Hid (pk = some l) := by show _ = _; rw [HP.out]; rfl
      clear HP
      go_wp2_with fail
      refine HA.out.mono ?_
      rintro e w4 ⟨rfl, hb4⟩
      have hB4 := hB3.trans (hb4.mono hB3.size)
      have HO4 := Hid.mk' (HO3.out.below hb4)
      go_wp2_with fail
      go_ret2
      rw [HP2.out]
      exact ⟨hB4, g3, n3, cc3, l, rfl, HO4.out, fun o e => by cases e; rfl⟩
end Go.Proofs.YteammdkipnfmnaaGreatDoor.bun
