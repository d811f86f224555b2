/- The specification's check of a proof. The specification's union. Rows of orders (three cells each): small facts on worlds; no function of the program is named here. The specification's orders: what is right, what is met. The specification's orders: all of them are right. hash walks The specification's orders: what is met, what is done, at which shard. A region that draws its order: what is held from one operation to the next may fall with the last one, which waits for all the others. No function of the program is named here. -/
import Derived.Test.YteammdkipnfmnaaGreatDoorShaj
import Derived.Test.YteammdkipnfmnaaGreatDoorShai
import Derived.Test.YteammdkipnfmnaaGreatDoorShaa
import Derived.Test.YteammdkipnfmnaaGreatDoorShac
import Derived.OwnWalk
import Derived.Test.YteammdkipnfmnaaGreatDoorRows
import Derived.Deep.RegionHeld
namespace Go.Proofs.YteammdkipnfmnaaGreatDoor.range
open Go Go.RowKit Go.Proofs.YteammdkipnfmnaaGreatDoor.base Go.Proofs.YteammdkipnfmnaaGreatDoor.pairs Go.Proofs.YteammdkipnfmnaaGreatDoor.tree
set_option linter.unusedVariables false
set_option linter.unusedSimpArgs false

def CPost (w : World) (r : Option (List Pr)) (e : Ending) (w' : World) : Prop :=
  Below w.heap.size w w' ∧ ∃ g n c, e = .returned (.tuple #[.slice (some ⟨g, 0, none⟩) n c, .bool r.isSome]) ∧ OwnP w' w.heap.size g n c (r.getD [])
theorem keys_take {l : List It} {k : Nat} (h : k < l.length) : keysOf (l.take (k + 1)) = keysOf (l.take k) ++ [l[k].1] := by
  unfold keysOf; rw [List.take_succ_eq_append_getElem h, List.map_append]; rfl
theorem between_snoc (lo hi : ByteArray) (l : List Pr) (p : Pr) : between lo hi (l ++ [p]) = between lo hi l ++ (if inB lo hi p.1 = true then [p] else []) := by
  unfold between; rw [List.filter_append]; congr 1
  by_cases h : inB lo hi p.1 = true
  · rw [if_pos h]; simp [h]
  · rw [if_neg h]; simp [h]
theorem between_le (lo hi : ByteArray) (l : List Pr) : (between lo hi l).length ≤ l.length := List.length_filter_le _ _
theorem str_ne' {a b : ByteArray} (h : a ≠ b) : (a.toList == b.toList) = false := by
  rw [beq_eq_false_iff_ne]; intro e; rw [ByteArray.toList_eq, ByteArray.toList_eq] at e; exact h (bytes_ext e)

set_option maxRecDepth 100000 in
set_option maxHeartbeats 2000000 in
theorem spec_checkZero (root lo hi : ByteArray) (fr : Int) (a : Option Addr) (len cap : Nat) (l : List It) (w : World) (hlen : l.length = len) (hll : len ≤ 1099511627776) :
    Calls Tryz.prog 31 #[.string root, .string lo, .string hi, .agg #[.int .i64 0, .int .i64 fr, .slice a len cap]] w (CPost w (check root lo hi ⟨0, fr, l⟩)) := by
  obtain ⟨W, hW⟩ : ∃ W, (w.alloc (.cells #[.int .i64 0, .int .i64 fr, .slice a len cap] 64)).alloc (.cells #[] 34) = W := ⟨_, rfl⟩
  have hB0 : Below w.heap.size w (w.alloc (.cells #[.int .i64 0, .int .i64 fr, .slice a len cap] 64)) := (Below.refl _ _).alloc (Nat.le_refl _) _
  have hB : Below w.heap.size w W := by rw [← hW]; exact hB0.alloc hB0.size _
  have hO : OwnP W w.heap.size (w.heap.size + 1) 0 0 [] := by
    have := ownP_made (w.alloc (.cells #[.int .i64 0, .int .i64 fr, .slice a len cap] 64)) w.heap.size hB0.size
    rw [← hW]; simpa using this
  have HR := Hid.mk' (spec_l4Root [] (w.heap.size + 1) 0 0 W hO.sl (Nat.le_refl _) (by simp) (fun p hp => absurd hp List.not_mem_nil))
  have HW := Hid.mk' hW
  have HO := Hid.mk' hO
  have hck : check root lo hi ⟨0, fr, l⟩ = if l = [] ∧ fr = 0 ∧ root = rootOf [] then some [] else none := by unfold check; rw [if_pos rfl]
  clear hW hO hB0
  by_cases hl0 : len = 0
  · subst hl0
    have hl : l = [] := List.eq_nil_of_length_eq_zero hlen
    subst hl
    by_cases hf : fr = 0
    · subst hf
      by_cases hr : root = rootOf []
      · have HC : Hid (check root lo hi ⟨0, 0, []⟩ = some []) := by show _ = _; rw [hck, if_pos ⟨rfl, rfl, hr⟩]
        clear hck
        rw [HC.out]
        generalize rootOf [] = R at *
        subst hr
        go_enter Tryz.func31, Tryz.ntmps31
        go_wp2_with fail
        rw [HW.out]
        refine HR.out.mono ?_
        rintro e w1 ⟨rfl, hb1⟩
        have hB1 := hB.trans (hb1.mono hB.size)
        have HO1 := Hid.mk' (HO.out.below hb1)
        clear HW HR HO hb1
        go_wp2_with fail
        go_ret2
        exact ⟨hB1, _, _, _, by simp, HO1.out⟩
      · have HC : Hid (check root lo hi ⟨0, 0, []⟩ = none) := by show _ = _; rw [hck, if_neg (fun h => hr h.2.2)]
        have hq := str_ne' hr
        clear hck
        rw [HC.out]
        generalize rootOf [] = R at *
        clear hr
        go_enter Tryz.func31, Tryz.ntmps31
        go_wp2_with fail
        rw [HW.out]
        refine HR.out.mono ?_
        rintro e w1 ⟨rfl, hb1⟩
        have hB1 := hB.trans (hb1.mono hB.size)
        have HO1 := Hid.mk' (HO.out.below hb1)
        clear HW HR HO hb1
        go_wp2_with fail
        go_ret2
        exact ⟨hB1, _, _, _, by simp, HO1.out⟩
    · have HC : Hid (check root lo hi ⟨0, fr, []⟩ = none) := by show _ = _; rw [hck, if_neg (fun h => hf h.2.1)]
      have hq : (fr == 0) = false := by simpa using hf
      clear hck HR
      rw [HC.out]
      go_enter Tryz.func31, Tryz.ntmps31
      go_wp2_with fail
      rw [HW.out]
      go_ret2
      exact ⟨hB, _, _, _, by simp, HO.out⟩
  · have HC : Hid (check root lo hi ⟨0, fr, l⟩ = none) := by show _ = _; rw [hck, if_neg (fun h => hl0 (by rw [← hlen, h.1]; rfl))]
    have hq : ((len : Int) == 0) = false := by simp; omega
    have hq2 : ¬ (len : Int) = 0 := by omega
    clear hck HR
    rw [HC.out]
    go_enter Tryz.func31, Tryz.ntmps31
    go_wp2_with fail
    rw [HW.out]
    go_ret2
    exact ⟨hB, _, _, _, by simp, HO.out⟩
set_option maxRecDepth 100000 in
set_option maxHeartbeats 6000000 in
theorem spec_checkBetween (root lo hi : ByteArray) (n fr : Int) (a : Option Addr) (len cap : Nat) (l : List It) (w : World) (h : SlJ w a len l) (hnw : (Lit.int .i64 n).wf = true) (hfw : (Lit.int .i64 fr).wf = true) :
    Calls Tryz.prog 31 #[.string root, .string lo, .string hi, .agg #[.int .i64 n, .int .i64 fr, .slice a len cap]] w (CPost w (check root lo hi ⟨n, fr, l⟩)) := by
  have hlen := h.1
  have hll := h.2.1
  by_cases hn0 : n = 0
  · subst hn0
    exact spec_checkZero root lo hi fr a len cap l w hlen hll
  have hnb : -9223372036854775808 ≤ n ∧ n ≤ 9223372036854775807 := by simpa [Lit.wf, IntKind.min, IntKind.max, IntKind.signed, IntKind.bits] using hnw
  obtain ⟨i0, hif, hz0, hz1, hz2⟩ := info_parts infoP
  obtain ⟨W, hW⟩ : ∃ W, (w.alloc (.cells #[.int .i64 n, .int .i64 fr, .slice a len cap] 64)).alloc (.cells #[] 34) = W := ⟨_, rfl⟩
  have hB0 : Below w.heap.size w (w.alloc (.cells #[.int .i64 n, .int .i64 fr, .slice a len cap] 64)) := (Below.refl _ _).alloc (Nat.le_refl _) _
  have hBW : Below w.heap.size w W := by rw [← hW]; exact hB0.alloc hB0.size _
  have hsW : W.heap.size = w.heap.size + 2 := by rw [← hW]; simp
  have hN0 : OwnP W w.heap.size (w.heap.size + 1) 0 0 [] := by
    have := ownP_made (w.alloc (.cells #[.int .i64 n, .int .i64 fr, .slice a len cap] 64)) w.heap.size hB0.size
    rw [← hW]; simpa using this
  have hV0 : V3 W w.heap.size 64 (.int .i64 n) (.int .i64 fr) (.slice a len cap) := by
    have h0 : V3 (w.alloc (.cells #[.int .i64 n, .int .i64 fr, .slice a len cap] 64)) w.heap.size 64 (.int .i64 n) (.int .i64 fr) (.slice a len cap) := heap_alloc_new w _
    rw [← hW]; exact h0.below ((Below.refl _ _).alloc (Nat.le_refl _) _)
  have HW := Hid.mk' hW
  have hnq : (n == 0) = false := by simpa using hn0
  have hin1 := fun wx => s_inI n 1 60 wx
  have hin2 := fun wx => s_inI fr 0 (n - 1) wx
  have a0 := hV0.c0
  have a1 := hV0.c1
  have a2 := hV0.c2
  clear hW hB0
  by_cases hn1 : 1 ≤ n ∧ n ≤ 60
  · rw [decide_eq_true hn1] at hin1
    have HI1 := Hid.mk' hin1
    by_cases hl0 : len = 0
    · have hlnil : l = [] := List.eq_nil_of_length_eq_zero (by omega)
      have HC : Hid (check root lo hi ⟨n, fr, l⟩ = none) := by show _ = _; unfold check; rw [if_neg hn0, if_pos (.inr (.inl hlnil))]
      subst hl0
      rw [HC.out]
      clear HC hin1 hin2
      go_enter Tryz.func31, Tryz.ntmps31
      go_wp2_with fail
      rw [HW.out]
      refine (HI1.out _).mono ?_
      rintro e w1 ⟨rfl, hw1⟩
      subst hw1
      go_wp2_with fail
      go_ret2
      exact ⟨hBW, _, _, _, by simp, hN0⟩
    have hlq : ((len : Int) == 0) = false := by simp; omega
    have hlq2 : ¬ (len : Int) = 0 := by omega
    by_cases hf1 : 0 ≤ fr ∧ fr ≤ n - 1
    · rw [decide_eq_true hf1] at hin2
      have HI2 := Hid.mk' hin2
      obtain ⟨b, off, ha⟩ : ∃ b off, a = some ⟨b, off, none⟩ := by
        obtain ⟨b, off, ha, _⟩ := h.2.2.2 (by omega)
        exact ⟨b, off, ha⟩
      subst ha
      have hlne : ¬ l = [] := fun e => hl0 (by rw [← hlen, e]; rfl)
      subst hlen
      have HS := Hid.mk' h
      have hsm := h.2.2.1
      have hO0 : OwnP (W.alloc (.cells #[] 34)) (w.heap.size + 2) W.heap.size 0 0 [] := ownP_made W (w.heap.size + 2) (by omega)
      have hBa : Below W.heap.size W (W.alloc (.cells #[] 34)) := (Below.refl _ _).alloc (Nat.le_refl _) _
      have hB2 := hBW.trans (hBa.mono hBW.size)
      have hN2 := hN0.below hBa
      have hV2 := hV0.below hBa
      clear hin1 hin2 h hN0 hV0 hBW
      go_enter Tryz.func31, Tryz.ntmps31
      go_wp2_with fail
      rw [HW.out]
      refine (HI1.out _).mono ?_
      rintro e w1 ⟨rfl, hw1⟩
      subst hw1
      go_wp2_with fail
      refine (HI2.out _).mono ?_
      rintro e w1 ⟨rfl, hw1⟩
      subst hw1
      clear HI1 HI2 a0 a1 a2 HW hBa
      go_wp2_with (at_builtin; fail)
      go_loopw [12, 13] (fun ov kv wr => ∃ k g m c : Nat, ov = .slice (some ⟨g, 0, none⟩) m c ∧ kv = .int .i64 (k : Int) ∧ k ≤ l.length ∧ (∀ j, j < k → itemOkAt root ⟨n, fr, l⟩ j = true) ∧ OwnP wr (w.heap.size + 2) g m c (between lo hi (keysOf (l.take k))) ∧ OwnP wr w.heap.size (w.heap.size + 1) 0 0 [] ∧ V3 wr w.heap.size 64 (.int .i64 n) (.int .i64 fr) (.slice (some ⟨b, off, none⟩) l.length cap) ∧ Below w.heap.size w wr) (fun _ kv _ => l.length - (intOf kv).toNat)
      case atStart =>
        rw [hsW] at hO0
        exact ⟨0, _, 0, 0, rfl, rfl, Nat.zero_le _, fun j hj => absurd hj (by omega), hO0, hN2, hV2, hB2⟩
      case round =>
      obtain ⟨k, g, m, c, rfl, rfl, hk, hok, hO, hN, hV, hB⟩ := hrel
      clear hO0 hN2 hV2 hB2
      by_cases hlt : k < l.length
      · have hki : (k : Int) < (l.length : Int) := by omega
        have a0 := hV.c0
        have a1 := hV.c1
        have a2 := hV.c2
        have hIt := spec_l5Item root n fr b off cap k l wr (HS.out.below hB) hlt (by omega)
        cases hik : itemOkAt root ⟨n, fr, l⟩ k with
        | false =>
          rw [hik] at hIt
          have HIt := Hid.mk' hIt
          have HC : Hid (check root lo hi ⟨n, fr, l⟩ = none) := by
            show _ = _
            unfold check
            rw [if_neg hn0, if_neg (by rintro (h1 | h1 | h1); exact h1 hn1; exact hlne h1; exact h1 hf1), if_pos (all_range_false hlt hik)]
          rw [HC.out]
          have HN := Hid.mk' hN
          clear HC hIt hO hN hV hok hsm
          go_wp2_with (at_builtin; fail)
          refine HIt.out.mono ?_
          rintro e w1 ⟨rfl, hb1⟩
          have hB1 := hB.trans (hb1.mono hB.size)
          have HN1 := Hid.mk' (HN.out.below hb1)
          clear HIt HN hb1
          go_wp2_with (at_builtin; fail)
          go_ret2
          exact ⟨hB1, _, _, _, by simp, HN1.out⟩
        | true =>
          rw [hik] at hIt
          have HIt := Hid.mk' hIt
          have HOK : Hid (∀ j, j < k + 1 → itemOkAt root ⟨n, fr, l⟩ j = true) := fun j hj => by
            by_cases e : j = k
            · rw [e]; exact hik
            · exact hok j (by omega)
          have hbt := between_snoc lo hi (keysOf (l.take k)) l[k].1
          rw [← keys_take hlt] at hbt
          have hkk : (keysOf (l.take k)).length = k := by unfold keysOf; rw [List.length_map, List.length_take]; omega
          have hml : m ≤ k := by have := hO.1; have := between_le lo hi (keysOf (l.take k)); omega
          obtain ⟨xk, hxk⟩ : ∃ xk, l[k] = xk := ⟨_, rfl⟩
          have hlx := hsm l[k] (List.getElem_mem hlt)
          rw [hxk] at hlx
          have hpk : small xk.1 := ⟨by have := hlx.1.1; unfold maxLen; omega, by have := hlx.1.2; unfold maxLen; omega⟩
          have HO := Hid.mk' hO
          have HN := Hid.mk' hN
          have HV := Hid.mk' hV
          clear hIt hO hN hV hok hsm hik hlx
          go_wp2_with (at_builtin; fail)
          refine HIt.out.mono ?_
          rintro e w1 ⟨rfl, hb1⟩
          have hB1 := hB.trans (hb1.mono hB.size)
          have hO1 := HO.out.below hb1
          have hN1 := HN.out.below hb1
          have hV1 := HV.out.below hb1
          have e2 := hV1.c2
          have hJ := (HS.out.below hB1).at k hlt
          rw [hxk] at hJ hbt
          have c1 := hJ.1
          have c2 := hJ.2.1
          have hs1 : w.heap.size + 2 ≤ w1.heap.size := by have := hO1.lt; omega
          have hIn := spec_l3In xk.1.1 lo hi w1
          clear HIt HO HN HV hb1 hB hJ a0 a1 a2 hxk
          cases hib : inB lo hi xk.1.1 with
          | false =>
            rw [hib] at hIn hbt
            have HIn := Hid.mk' hIn
            have HBT : Hid (between lo hi (keysOf (l.take (k + 1))) = between lo hi (keysOf (l.take k))) := by show _ = _; rw [hbt]; simp
            have HO1 := Hid.mk' hO1
            have HN1 := Hid.mk' hN1
            have HV1 := Hid.mk' hV1
            clear hIn hbt hO1 hN1 hV1 hib
            go_wp2_with (at_builtin; fail)
            refine HIn.out.mono ?_
            rintro e w3 ⟨rfl, hw3⟩
            subst hw3
            clear HIn
            go_wp2_with (at_builtin; fail)
            go_roundw
            case rel => exact ⟨k + 1, g, m, c, rfl, by go_num, by omega, HOK.out, by rw [HBT.out]; exact HO1.out, HN1.out, HV1.out, hB1⟩
            case measure => simp [intOf]; omega
          | true =>
            rw [hib] at hIn hbt
            have HIn := Hid.mk' hIn
            have HBT : Hid (between lo hi (keysOf (l.take (k + 1))) = between lo hi (keysOf (l.take k)) ++ [xk.1]) := by show _ = _; rw [hbt]; simp
            have hc3 : m + 1 ≤ maxLen := by unfold maxLen; omega
            have hc4 : (m + 1) * 32 ≤ 140737488355328 := by omega
            have HN1 := Hid.mk' hN1
            have HV1 := Hid.mk' hV1
            clear hIn hbt hN1 hV1 hib
            generalize xk.1 = p at *
            go_wp2_with (at_builtin; fail)
            refine HIn.out.mono ?_
            rintro e w3 ⟨rfl, hw3⟩
            subst hw3
            clear HIn
            go_wp2_with (at_builtin; refine wpList_append_own _ rfl (.tmp 77) (.tmp 84) 30 rfl (w.heap.size + 2) 34 i0 (.agg #[.string ⟨#[]⟩, .string ⟨#[]⟩]) 2 32 Tryz.underlying30 hif hz0 hz1 hz2 rfl (by decide) _ _ _ rfl (hO1.2.2.alloc _) ⟨w3.heap.size, 0, none⟩ 1 1 (pairVals [p]) rfl rfl (one_pair_cells _ _ _) (pairVals_oneCell _) hc3 hc4 (le_alloc _ _ hs1) ?_)
            intro v2 w2 hown hgrow hnn
            obtain ⟨g2, cp2, hv, hO2⟩ := ownP_app hO1.1 hO1.2.1 hpk hnn hown
            subst hv
            have hgr2 : (w3.alloc (.cells #[.string p.1, .string p.2] 34)).grownBy w2 (some g) := hgrow
            have hgl := hO1.lt.1
            have hba : Below w3.heap.size w3 (w3.alloc (.cells #[.string p.1, .string p.2] 34)) := (Below.refl _ _).alloc (Nat.le_refl _) _
            have hBg : Below (w.heap.size + 2) w3 w2 := (hba.mono hs1).trans (below_grown hgr2 hgl (by have := hba.size; omega))
            have HB2 := Hid.mk' (hB1.trans (hBg.mono (by omega)))
            have HN2 : Hid (OwnP w2 w.heap.size (w.heap.size + 1) 0 0 []) := ownP_of_block HN1.out (hBg.block _ (by omega))
            have HV2 : Hid (V3 w2 w.heap.size 64 (.int .i64 n) (.int .i64 fr) (.slice (some ⟨b, off, none⟩) l.length cap)) := (hBg.block _ (by omega)).trans HV1.out
            rw [← HBT.out] at hO2
            have HO2 := Hid.mk' hO2
            clear hown hgrow hgr2 hnn hO2 hO1 hB1 hBg hba HN1 HV1 c1 c2 e2
            go_wp2_with (at_builtin; fail)
            go_roundw
            case rel => exact ⟨k + 1, g2, m + 1, cp2, rfl, by go_num, by omega, HOK.out, HO2.out, HN2.out, HV2.out, HB2.out⟩
            case measure => simp [intOf]; omega
      · have hall : ∀ j, j < l.length → itemOkAt root ⟨n, fr, l⟩ j = true := fun j hj => hok j (by omega)
        have hkl : k = l.length := by omega
        subst hkl
        have HCK : Hid (check root lo hi ⟨n, fr, l⟩ = @ite _ (endsBad lo hi ⟨n, fr, l⟩) (endsDec lo hi ⟨n, fr, l⟩) none (some (between lo hi (keysOf l)))) := by
          show _ = _
          unfold check
          rw [if_neg hn0, if_neg (by rintro (h1 | h1 | h1); exact h1 hn1; exact hlne h1; exact h1 hf1), if_neg (by rw [all_range_true hall]; simp)]
        rw [List.take_length] at hO
        have HOU := Hid.mk' (hO.mono (base' := w.heap.size) (by omega))
        have hki : ¬ ((l.length : Nat) : Int) < (l.length : Int) := by omega
        have hpos : 0 < l.length := by omega
        have HJ := HS.out.below hB
        have i0c := (HJ.at 0 hpos).1
        have i1c := (HJ.at (l.length - 1) (by omega)).1
        have hfk : firstKey l = l[0].1.1 := by unfold firstKey; rw [List.head?_eq_getElem?, List.getElem?_eq_getElem hpos]
        have hlk : lastKey l = (l[l.length - 1]'(by omega)).1.1 := by unfold lastKey; rw [List.getLast?_eq_getElem?, List.getElem?_eq_getElem (by omega)]
        rw [← hfk] at i0c
        rw [← hlk] at i1c
        have HEB : Hid (endsBad lo hi ⟨n, fr, l⟩ ↔ (ltB (firstKey l) lo = false ∧ 0 < fr) ∨ ((hi.size = 0 ∨ ltB (lastKey l) hi = true) ∧ fr + (l.length : Int) < n)) := Iff.rfl
        rw [Nat.zero_mul, Nat.add_zero] at i0c
        obtain ⟨q, hq⟩ : ∃ q, l.length - 1 = q := ⟨_, rfl⟩
        rw [hq] at i1c
        have hqi : (l.length : Int) - 1 = (q : Int) := by omega
        have hqn : (q : Int) < (l.length : Int) := by omega
        have h0l : (0 : Int) < (l.length : Int) := by omega
        have a0 := hV.c0
        have a1 := hV.c1
        have a2 := hV.c2
        have HN := Hid.mk' hN
        generalize firstKey l = fk at *
        generalize lastKey l = lk at *
        have hz : hi.size = 0 ↔ hi = ⟨#[]⟩ := by
          constructor
          · intro h; apply bytes_ext; exact List.eq_nil_of_length_eq_zero (by rw [Array.length_toList]; exact h)
          · rintro rfl; rfl
        clear hO hok hall HJ hfk hlk hV hN hq hsm
        cases h1 : Op.bytesLess fk.toList lo.toList with
        | false =>
          by_cases hf0 : 0 < fr
          · have HC : Hid (check root lo hi ⟨n, fr, l⟩ = none) := by show _ = _; rw [HCK.out, if_pos (show endsBad lo hi ⟨n, fr, l⟩ from HEB.out.2 (.inl ⟨h1, hf0⟩))]
            clear HCK
            go_wp2_with (at_builtin; fail)
            go_ret2
            exact ⟨hB, _, _, _, by rw [HC.out]; rfl, by rw [HC.out]; exact HN.out⟩
          · have HF0 : Hid (¬ 0 < fr) := hf0
            by_cases hh : hi = ⟨#[]⟩
            · have HZ : Hid (hi.size = 0) := hz.2 hh
              clear hz
              by_cases he : fr + (l.length : Int) < n
              · have HC : Hid (check root lo hi ⟨n, fr, l⟩ = none) := by show _ = _; rw [HCK.out, if_pos (show endsBad lo hi ⟨n, fr, l⟩ from HEB.out.2 (.inr ⟨.inl HZ.out, he⟩))]
                clear HCK
                subst hh
                go_wp2_with (at_builtin; fail)
                go_ret2
                exact ⟨hB, _, _, _, by rw [HC.out]; rfl, by rw [HC.out]; exact HN.out⟩
              · have HC : Hid (check root lo hi ⟨n, fr, l⟩ = some (between lo hi (keysOf l))) := by show _ = _; rw [HCK.out, if_neg (show ¬ endsBad lo hi ⟨n, fr, l⟩ from fun hb => by rcases HEB.out.1 hb with h1 | h1; exact (fun h : ltB fk lo = false ∧ 0 < fr => HF0.out h.2) h1; exact he h1.2)]
                clear HCK
                subst hh
                go_wp2_with (at_builtin; fail)
                go_ret2
                exact ⟨hB, _, _, _, by rw [HC.out]; rfl, by rw [HC.out]; exact HOU.out⟩
            · have HZ : Hid (¬ hi.size = 0) := fun e => hh (hz.1 e)
              have hq2 : hi.toList.isEmpty = false := by rw [Bool.eq_false_iff]; intro e; exact hh (bytes_ext (by rw [← ByteArray.toList_eq]; exact List.isEmpty_iff.1 e))
              have hq3 : ¬ hi.toList = [] := fun e => hh (bytes_ext (by rw [← ByteArray.toList_eq]; exact e))
              clear hz hh
              cases h3 : Op.bytesLess lk.toList hi.toList with
              | true =>
                by_cases he : fr + (l.length : Int) < n
                · have HC : Hid (check root lo hi ⟨n, fr, l⟩ = none) := by show _ = _; rw [HCK.out, if_pos (show endsBad lo hi ⟨n, fr, l⟩ from HEB.out.2 (.inr ⟨.inr h3, he⟩))]
                  clear HCK
                  go_wp2_with (at_builtin; fail)
                  go_ret2
                  exact ⟨hB, _, _, _, by rw [HC.out]; rfl, by rw [HC.out]; exact HN.out⟩
                · have HC : Hid (check root lo hi ⟨n, fr, l⟩ = some (between lo hi (keysOf l))) := by show _ = _; rw [HCK.out, if_neg (show ¬ endsBad lo hi ⟨n, fr, l⟩ from fun hb => by rcases HEB.out.1 hb with h1 | h1; exact (fun h : ltB fk lo = false ∧ 0 < fr => HF0.out h.2) h1; exact he h1.2)]
                  clear HCK
                  go_wp2_with (at_builtin; fail)
                  go_ret2
                  exact ⟨hB, _, _, _, by rw [HC.out]; rfl, by rw [HC.out]; exact HOU.out⟩
              | false =>
                have HC : Hid (check root lo hi ⟨n, fr, l⟩ = some (between lo hi (keysOf l))) := by show _ = _; rw [HCK.out, if_neg (show ¬ endsBad lo hi ⟨n, fr, l⟩ from fun hb => by rcases HEB.out.1 hb with h1 | h1; exact (fun h : ltB fk lo = false ∧ 0 < fr => HF0.out h.2) h1; rcases h1.1 with h2 | h2; exact HZ.out h2; (have h4 : ltB lk hi = false := h3); rw [h4] at h2; cases h2)]
                clear HCK
                go_wp2_with (at_builtin; fail)
                go_ret2
                exact ⟨hB, _, _, _, by rw [HC.out]; rfl, by rw [HC.out]; exact HOU.out⟩
        | true =>
          have H1 : Hid (ltB fk lo = true) := h1
          by_cases hh : hi = ⟨#[]⟩
          · have HZ : Hid (hi.size = 0) := hz.2 hh
            clear hz
            by_cases he : fr + (l.length : Int) < n
            · have HC : Hid (check root lo hi ⟨n, fr, l⟩ = none) := by show _ = _; rw [HCK.out, if_pos (show endsBad lo hi ⟨n, fr, l⟩ from HEB.out.2 (.inr ⟨.inl HZ.out, he⟩))]
              clear HCK
              subst hh
              go_wp2_with (at_builtin; fail)
              go_ret2
              exact ⟨hB, _, _, _, by rw [HC.out]; rfl, by rw [HC.out]; exact HN.out⟩
            · have HC : Hid (check root lo hi ⟨n, fr, l⟩ = some (between lo hi (keysOf l))) := by show _ = _; rw [HCK.out, if_neg (show ¬ endsBad lo hi ⟨n, fr, l⟩ from fun hb => by rcases HEB.out.1 hb with h1 | h1; exact (fun h : ltB fk lo = false ∧ 0 < fr => by rw [H1.out] at h; cases h.1) h1; exact he h1.2)]
              clear HCK
              subst hh
              go_wp2_with (at_builtin; fail)
              go_ret2
              exact ⟨hB, _, _, _, by rw [HC.out]; rfl, by rw [HC.out]; exact HOU.out⟩
          · have HZ : Hid (¬ hi.size = 0) := fun e => hh (hz.1 e)
            have hq2 : hi.toList.isEmpty = false := by rw [Bool.eq_false_iff]; intro e; exact hh (bytes_ext (by rw [← ByteArray.toList_eq]; exact List.isEmpty_iff.1 e))
            have hq3 : ¬ hi.toList = [] := fun e => hh (bytes_ext (by rw [← ByteArray.toList_eq]; exact e))
            clear hz hh
            cases h3 : Op.bytesLess lk.toList hi.toList with
            | true =>
              by_cases he : fr + (l.length : Int) < n
              · have HC : Hid (check root lo hi ⟨n, fr, l⟩ = none) := by show _ = _; rw [HCK.out, if_pos (show endsBad lo hi ⟨n, fr, l⟩ from HEB.out.2 (.inr ⟨.inr h3, he⟩))]
                clear HCK
                go_wp2_with (at_builtin; fail)
                go_ret2
                exact ⟨hB, _, _, _, by rw [HC.out]; rfl, by rw [HC.out]; exact HN.out⟩
              · have HC : Hid (check root lo hi ⟨n, fr, l⟩ = some (between lo hi (keysOf l))) := by show _ = _; rw [HCK.out, if_neg (show ¬ endsBad lo hi ⟨n, fr, l⟩ from fun hb => by rcases HEB.out.1 hb with h1 | h1; exact (fun h : ltB fk lo = false ∧ 0 < fr => by rw [H1.out] at h; cases h.1) h1; exact he h1.2)]
                clear HCK
                go_wp2_with (at_builtin; fail)
                go_ret2
                exact ⟨hB, _, _, _, by rw [HC.out]; rfl, by rw [HC.out]; exact HOU.out⟩
            | false =>
              have HC : Hid (check root lo hi ⟨n, fr, l⟩ = some (between lo hi (keysOf l))) := by show _ = _; rw [HCK.out, if_neg (show ¬ endsBad lo hi ⟨n, fr, l⟩ from fun hb => by rcases HEB.out.1 hb with h1 | h1; exact (fun h : ltB fk lo = false ∧ 0 < fr => by rw [H1.out] at h; cases h.1) h1; rcases h1.1 with h2 | h2; exact HZ.out h2; (have h4 : ltB lk hi = false := h3); rw [h4] at h2; cases h2)]
              clear HCK
              go_wp2_with (at_builtin; fail)
              go_ret2
              exact ⟨hB, _, _, _, by rw [HC.out]; rfl, by rw [HC.out]; exact HOU.out⟩
    · rw [decide_eq_false hf1] at hin2
      have HI2 := Hid.mk' hin2
      have HC : Hid (check root lo hi ⟨n, fr, l⟩ = none) := by show _ = _; unfold check; rw [if_neg hn0, if_pos (.inr (.inr hf1))]
      rw [HC.out]
      clear HC hin1 hin2 hf1
      go_enter Tryz.func31, Tryz.ntmps31
      go_wp2_with fail
      rw [HW.out]
      refine (HI1.out _).mono ?_
      rintro e w1 ⟨rfl, hw1⟩
      subst hw1
      go_wp2_with fail
      refine (HI2.out _).mono ?_
      rintro e w1 ⟨rfl, hw1⟩
      subst hw1
      go_wp2_with fail
      go_ret2
      exact ⟨hBW, _, _, _, by simp, hN0⟩
  · rw [decide_eq_false hn1] at hin1
    have HI1 := Hid.mk' hin1
    have HC : Hid (check root lo hi ⟨n, fr, l⟩ = none) := by show _ = _; unfold check; rw [if_neg hn0, if_pos (.inl hn1)]
    rw [HC.out]
    clear HC hin1 hin2 hn1
    go_enter Tryz.func31, Tryz.ntmps31
    go_wp2_with fail
    rw [HW.out]
    refine (HI1.out _).mono ?_
    rintro e w1 ⟨rfl, hw1⟩
    subst hw1
    go_wp2_with fail
    go_ret2
    exact ⟨hBW, _, _, _, by simp, hN0⟩
end Go.Proofs.YteammdkipnfmnaaGreatDoor.range

namespace Go.Proofs.YteammdkipnfmnaaGreatDoor.pairs
open Go Go.RowKit Go.Proofs.YteammdkipnfmnaaGreatDoor.base
set_option linter.unusedVariables false
set_option linter.unusedSimpArgs false

theorem unionOf_snoc (a b : List Pr) (k : Nat) (h : k < b.length) : unionOf a (b.take (k + 1)) = putKey b[k].1 b[k].2 (unionOf a (b.take k)) := by
  unfold unionOf; rw [take_snocP b k h, List.foldl_append]; rfl
set_option maxRecDepth 100000 in
set_option maxHeartbeats 2000000 in
theorem spec_unionOf (b off len cap : Nat) (l : List Pr) (b2 off2 len2 cap2 : Nat) (l2 : List Pr) (w : World) (h : SlP w (some ⟨b, off, none⟩) len l) (h2 : SlP w (some ⟨b2, off2, none⟩) len2 l2) (hsz : len + len2 ≤ 1099511627776) :
    Calls Tryz.prog 33 #[.slice (some ⟨b, off, none⟩) len cap, .slice (some ⟨b2, off2, none⟩) len2 cap2] w fun e w' =>
      ∃ g' n' cap', e = .returned (.slice (some ⟨g', 0, none⟩) n' cap') ∧ OwnP w' w.heap.size g' n' cap' (unionOf l l2) ∧ Below w.heap.size w w' := by
  obtain ⟨i0, hif, hz0, hz1, hz2⟩ := info_parts infoP
  have hl := h.1
  have hsm := h.2.2.1
  have hl2 := h2.1
  have hsm2 := h2.2.2.1
  subst hl hl2
  have hba : Below w.heap.size w (w.alloc (.cells #[] 34)) := (Below.refl _ _).alloc (Nat.le_refl _) _
  have HC := Hid.mk' (cells_pairs (h.below hba).cells)
  have hn0 := pairVals_length l
  have hm1 : 0 + l.length ≤ maxLen := by unfold maxLen; omega
  have hm2 : (0 + l.length) * 32 ≤ 140737488355328 := by omega
  have hown0 := (ownP_made w w.heap.size (Nat.le_refl _)).2.2
  go_enter Tryz.func33, Tryz.ntmps33
  go_wp2_with (at_builtin; refine wpList_append_own _ rfl (.tmp 7) (.tmp 8) 30 rfl w.heap.size 34 i0 (.agg #[.string ⟨#[]⟩, .string ⟨#[]⟩]) 2 32 Tryz.underlying30 hif hz0 hz1 hz2 rfl (by decide) _ _ _ rfl hown0 ⟨b, off, none⟩ l.length cap (pairVals l) rfl hn0 HC.out (pairVals_oneCell _) hm1 hm2 (le_alloc _ _ (Nat.le_refl _)) ?_)
  intro v1 w1 hown hgrow hnn
  have hnn' : ¬ v1 = .slice none 0 0 := by simpa using hnn
  obtain ⟨g1, cap1, hv, hO1⟩ := ownP_val rfl hsm hnn' (by simpa [pairVals] using hown)
  subst hv
  have hB1 : Below w.heap.size w w1 := hba.grown hgrow (le_alloc _ _ (Nat.le_refl _)) (fun k e => by simp [Value.ownBlock] at e; omega)
  clear hown hgrow hnn hnn' hown0 HC hn0 hm1 hm2 hba
  go_wp2_with (at_builtin; fail)
  go_loopw [5, 6] (fun v i wr => ∃ (k g n cp : Nat), k ≤ l2.length ∧ n ≤ l.length + k ∧ i = .int .i64 (k : Int) ∧ v = .slice (some ⟨g, 0, none⟩) n cp ∧ OwnP wr w.heap.size g n cp (unionOf l (l2.take k)) ∧ Below w.heap.size w wr) (fun _ i _ => l2.length - (intOf i).toNat)
  case atStart => exact ⟨0, g1, _, cap1, Nat.zero_le _, by omega, rfl, rfl, hO1, hB1⟩
  case round =>
    clear hO1 hB1
    obtain ⟨k, g, n, cp, hk, hn, rfl, rfl, hO, hB⟩ := hrel
    by_cases hlt : k < l2.length
    · obtain ⟨c1, c2⟩ := (h2.below hB).cells k hlt
      have hpk := hsm2 _ (List.getElem_mem hlt)
      have hki : (k : Int) < (l2.length : Int) := by omega
      have HU := Hid.mk' (unionOf_snoc l l2 k hlt)
      have hpl := putKey_length l2[k].1 l2[k].2 (unionOf l (l2.take k))
      have hOd : OwnP wr.drew w.heap.size g n cp (unionOf l (l2.take k)) := hO
      have hcs := hO.cases
      have hul := hO.1
      generalize l2[k] = p at *
      generalize unionOf l (l2.take k) = u at *
      go_wp2_with (at_builtin; fail)
      go_region_held3 (fun w' => w'.cell? ⟨b2, off2 + k * 2, none⟩ = some (.string p.1) ∧ w'.cell? ⟨b2, off2 + k * 2 + 1, none⟩ = some (.string p.2)) (first | (exact keepB2 hb5 (by assumption)) | (go_keep)) (first | (go_at_call 72; refine (spec_putKey g 0 n cp u p.1 p.2 _ hOd.sl hcs.1 (by omega) hpk.1 hpk.2).mono ?_; rintro e w5 ⟨g5, n5, cp5, rfl, hO5, hb5⟩))
      all_goals
        have hB5 : Below w.heap.size w w5 := hB.drew.trans (hb5.mono hB.size)
        have hO5' := hO5.mono (base' := w.heap.size) hB.size
        rw [← HU.out] at hO5'
        have hn5 : n5 ≤ l.length + (k + 1) := by have := hO5.1; omega
        have HO5 := Hid.mk' hO5'
        clear hb5 hO5 hO5' hO hOd hB c1 c2
        go_wp2_with (at_builtin; fail)
        go_roundw
        case rel => exact ⟨k + 1, g5, n5, cp5, by omega, hn5, by go_num, rfl, HO5.out, hB5⟩
        case measure => simp [intOf]; omega
    · have HE : Hid (l2.take k = l2) := List.take_of_length_le (by omega)
      go_wp2_with (at_builtin; fail)
      go_ret
      rw [HE.out] at hO
      exact ⟨g, n, cp, rfl, hO, hB⟩

end Go.Proofs.YteammdkipnfmnaaGreatDoor.pairs

namespace Go.Proofs.YteammdkipnfmnaaGreatDoor.ords
open Go Go.RowKit Go.Proofs.YteammdkipnfmnaaGreatDoor.base Go.Proofs.YteammdkipnfmnaaGreatDoor.pairs
set_option linter.unusedVariables false
set_option linter.unusedSimpArgs false

/-! ### slices of orders that are read -/
section
variable {w w' : World} {a : Option Addr} {b off len base base' g n cap : Nat} {l : List Od} {row : Option Nat}
/-! ### rows of orders that a call made -/
end
end Go.Proofs.YteammdkipnfmnaaGreatDoor.ords

namespace Go.Proofs.YteammdkipnfmnaaGreatDoor.ords
open Go Go.RowKit Go.Proofs.YteammdkipnfmnaaGreatDoor.base Go.Proofs.YteammdkipnfmnaaGreatDoor.pairs
set_option linter.unusedVariables false
set_option linter.unusedSimpArgs false

end Go.Proofs.YteammdkipnfmnaaGreatDoor.ords

namespace Go.Proofs.YteammdkipnfmnaaGreatDoor.ords
open Go Go.RowKit Go.Proofs.YteammdkipnfmnaaGreatDoor.base Go.Proofs.YteammdkipnfmnaaGreatDoor.pairs
set_option linter.unusedVariables false
set_option linter.unusedSimpArgs false

end Go.Proofs.YteammdkipnfmnaaGreatDoor.ords

namespace Go.Proofs.YteammdkipnfmnaaGreatDoor.hash
open Go.RowKit Go.Proofs.YteammdkipnfmnaaGreatDoor.base
set_option linter.unusedVariables false
set_option linter.unusedSimpArgs false

set_option maxHeartbeats 400000 in
theorem spec_hash (s : ByteArray) (w : World) (hs : s.size ≤ maxLen) :
    Calls Tryz.prog 71 #[.string s] w fun e w' => e = .returned (.int .i64 (hashOf s.data.toList)) ∧ w' = w := by
  unfold maxLen at hs
  go_enter Tryz.func71, Tryz.ntmps71
  go_wp2
  go_loop [3, 4] (fun h i => ∃ k : Nat, k ≤ s.size ∧ i = .int .i64 k ∧ h = .int .i64 (hashOf (s.data.toList.take k))) (fun _ i => s.size - (intOf i).toNat)
  case atStart => exact ⟨0, Nat.zero_le _, rfl, rfl⟩
  case round =>
    obtain ⟨k, hk, rfl, rfl⟩ := hrel
    have hd := hashOf_lt (s.data.toList.take k)
    by_cases hlt : k < s.size
    · have HS : Hid (hashOf (s.data.toList.take (k + 1)) = hstep (hashOf (s.data.toList.take k)) s[k].toNat) := by rw [take_snoc s k hlt]; exact hashOf_snoc _ _
      go_wp2
      have hb : s[k].toNat < 256 := s[k].toNat_lt
      go_round
      case rel =>
        refine ⟨k + 1, by omega, by go_num, ?_⟩
        rw [HS.out, IntWalk.wrap64_in (s[k].toNat : Int) (by omega)]
        exact val_int (i64_step' _ _ hd hb)
      case measure => simp [intOf]; omega
    · go_wp2
      go_ret
      exact ⟨ret_int (by rw [List.take_of_length_le (by simp; omega)]), rfl⟩

set_option maxHeartbeats 400000 in
theorem impl_hash (s : ByteArray) (w : World) (hs : s.size ≤ maxLen) :
    Calls Tryz.prog 102 #[.string s] w fun e w' => e = .returned (.int .i64 (hashOf s.data.toList)) ∧ Below w.heap.size w w' := by
  unfold maxLen at hs
  have hconv := Lib.run_convert_string_bytes (P := Tryz.prog) w 9 22 5 s Tryz.underlying9 Tryz.underlying22 Tryz.underlying5
  go_enter Tryz.func102, Tryz.ntmps102
  go_wp2
  go_loop [3, 9] (fun h i => ∃ k : Nat, k ≤ s.size ∧ i = .int .i64 k ∧ h = .int .u32 (hashOf (s.data.toList.take k))) (fun _ i => s.size - (intOf i).toNat)
  case atStart => exact ⟨0, Nat.zero_le _, rfl, rfl⟩
  case round =>
    obtain ⟨k, hk, rfl, rfl⟩ := hrel
    have hd := hashOf_lt (s.data.toList.take k)
    by_cases hlt : k < s.size
    · have HS : Hid (hashOf (s.data.toList.take (k + 1)) = hstep (hashOf (s.data.toList.take k)) s[k].toNat) := by rw [take_snoc s k hlt]; exact hashOf_snoc _ _
      have hcell : (Lib.bytesWorld w 5 s).cell? ⟨w.heap.size, k, none⟩ = some (.int .u8 s[k].toNat) := by
        rw [Lib.bytesWorld_cell w 5 s k hlt]; simp [List.getD, hlt]; rfl
      go_wp2
      have hb : s[k].toNat < 256 := s[k].toNat_lt
      go_round
      case rel =>
        refine ⟨k + 1, by omega, by go_num, ?_⟩
        rw [HS.out]
        refine val_int ?_
        rw [← u32_step _ _ hd hb, IntKind.wrap_u32, Int.emod_eq_of_lt (a := (s[k].toNat : Int)) (by omega) (by omega)]
      case measure => simp [intOf]; omega
    · go_wp2
      go_ret
      exact ⟨ret_int (by rw [List.take_of_length_le (by simp; omega)]), below_bytesWorld _ _ _⟩
end Go.Proofs.YteammdkipnfmnaaGreatDoor.hash

namespace Go.Proofs.YteammdkipnfmnaaGreatDoor.ords
open Go Go.RowKit Go.Proofs.YteammdkipnfmnaaGreatDoor.base Go.Proofs.YteammdkipnfmnaaGreatDoor.pairs
set_option linter.unusedVariables false
set_option linter.unusedSimpArgs false

set_option maxHeartbeats 400000 in
theorem spec_shardOf (key : ByteArray) (n : Int) (w : World) (hs : key.size ≤ maxLen) (hn : (Lit.int .i64 n).wf = true) :
    Calls Tryz.prog 32 #[.string key, .int .i64 n] w fun e w' => e = .returned (.int .i64 (shardOf key n)) ∧ w' = w := by
  have hH := hashOf_lt key.data.toList
  have HC := Hid.mk' (hash.spec_hash key w hs)
  unfold shardOf
  generalize hashOf key.data.toList = H at *
  by_cases h1 : n < 1
  · rw [if_pos h1]
    go_enter Tryz.func32, Tryz.ntmps32
    go_wp2_with fail
    go_ret
    exact ⟨rfl, rfl⟩
  · rw [if_neg h1]
    have h2 : Int.tmod (H : Int) n = (H : Int) % n := Int.tmod_eq_emod_of_nonneg (by omega)
    have h3 : 0 ≤ (H : Int) % n := Int.emod_nonneg _ (by omega)
    have h4 : (H : Int) % n ≤ 4294967296 := by
      have h5 := Int.emod_add_ediv_mul (H : Int) n
      have h6 : 0 ≤ (H : Int) / n * n := Int.mul_nonneg (Int.ediv_nonneg (by omega) (by omega)) (by omega)
      omega
    generalize (H : Int) % n = R at *
    go_enter Tryz.func32, Tryz.ntmps32
    go_wp2_with fail
    refine HC.out.mono ?_
    rintro e w1 ⟨rfl, rfl⟩
    go_wp2_with fail
    go_ret
    exact ⟨rfl, rfl⟩

end Go.Proofs.YteammdkipnfmnaaGreatDoor.ords

namespace Go.Proofs.YteammdkipnfmnaaGreatDoor.last
open Go Go.RowKit
section
variable {P : Program} {ops : Array Oper} {md : Region.Mode} {Q : Exit → Act → World → Prop} {S : World → Prop} {z : Nat}

def wpAnyL (P : Program) (md : Region.Mode) (ops : Array Oper) (Q : Exit → Act → World → Prop) (S : World → Prop) (z : Nat) : Nat → Array Bool → Act → World → Prop
  | 0, listed, a, w => Region.ready md ops listed = [] ∧ Q .normal a w
  | fuel + 1, listed, a, w =>
    (Region.ready md ops listed = [] → Q .normal a w) ∧
    ∀ i ∈ Region.ready md ops listed, wpOp P ops Q i (fun a' w' => (i ≠ z → S w') ∧ wpAnyL P md ops Q S z fuel (listed.setIfInBounds i true) a' w') a w
theorem wpAny_of_later : ∀ (fuel : Nat) (listed : Array Bool) (a : Act) (w : World), wpAnyL P md ops Q S z fuel listed a w → wpAny P md ops Q fuel listed a w
  | 0, _, _, _, h => h
  | fuel + 1, _, _, _, h => ⟨h.1, fun i hi => wpOp_mono (fun a' w' h' => wpAny_of_later fuel _ a' w' h'.2) (h.2 i hi)⟩
theorem wpAnyL_first {i : Nat} {oi : Oper} {v : Value} (hi : ops[i]? = some oi) (hsel : ∀ (j : Nat) (o : Oper) cs b, ops[j]? = some o → o.op ≠ .select cs b)
    (hQ : ∀ c a w, Q (.panic c) (a.put oi.dst v) w → Q (.panic c) a w) {oz : Oper} (hz : ops[z]? = some oz) (hzi : ∃ e ∈ oz.after, Region.binds md e = true ∧ e.on = i) :
    ∀ (fuel : Nat) (listed : Array Bool) (a : Act) (w : World),
      (∀ j oj, ops[j]? = some oj → j ≠ i → listed.getD j true = false → (∀ e ∈ oj.after, Region.binds md e = true → e.on ≠ i) → oi.apart ops oj = true) →
      i ∈ Region.ready md ops listed → YieldsIf P ops S oi v a → S w →
      wpAnyL P md ops Q S z fuel (listed.setIfInBounds i true) (a.put oi.dst v) w → wpAnyL P md ops Q S z (fuel + 1) listed a w := by
  have hnz : ∀ {listed : Array Bool} {j : Nat}, i ∈ Region.ready md ops listed → j ∈ Region.ready md ops listed → j ≠ z := fun hr hj e => by
    subst e
    obtain ⟨e, he, hb, heq⟩ := hzi
    exact both_ready hr hj hz e he hb heq
  intro fuel
  induction fuel with
  | zero =>
    intro listed a w _ hr hy hS H
    refine ⟨fun h => (by rw [h] at hr; cases hr), fun j hj => ?_⟩
    by_cases hji : j = i
    · subst hji; exact hy.wpOp hi hS ⟨fun _ => hS, H⟩
    · have := ready_mono hj hji
      rw [H.1] at this
      cases this
  | succ fuel ih =>
    intro listed a w hfree hr hy hS H
    refine ⟨fun h => (by rw [h] at hr; cases hr), fun j hj => ?_⟩
    by_cases hji : j = i
    · subst hji; exact hy.wpOp hi hS ⟨fun _ => hS, H⟩
    · have h1 := H.2 j (ready_mono hj hji)
      obtain ⟨hjun, oj, hoj, hall⟩ := mem_ready.1 hj
      have hnot : ∀ e ∈ oj.after, Region.binds md e = true → e.on ≠ i := both_ready hr hj hoj
      have h2 := wpOp_putIf hoj (hfree j oj hoj hji hjun hnot) (fun cs b => hsel i oi cs b hi) (fun cs b => hsel j oj cs b hoj) hQ hy h1
      have hfree' : ∀ k ok, ops[k]? = some ok → k ≠ i → (listed.setIfInBounds j true).getD k true = false →
          (∀ e ∈ ok.after, Region.binds md e = true → e.on ≠ i) → oi.apart ops ok = true := fun k ok hk hki hun hno => by
        refine hfree k ok hk hki ?_ hno
        by_cases hjk : j = k
        · subst hjk; exact hjun
        · rw [getD_set_ne true hjk] at hun; exact hun
      have hjz := hnz hr hj
      refine wpOp_mono (fun a' w' h3 => ⟨h3.2.1, ih (listed.setIfInBounds j true) a' w' hfree' (ready_mono hr (Ne.symm hji)) h3.1 (h3.2.1 hjz) ?_⟩) h2
      rw [Array.setIfInBounds_comm _ _ hji]
      exact h3.2.2
theorem wpAnyL_take {i : Nat} {oi oz : Oper} {v : Value} {fuel : Nat} {listed : Array Bool} {a : Act} {w : World} (hi : ops[i]? = some oi) (hz : ops[z]? = some oz)
    (hs : Region.noSelect ops = true) (hf : Region.free md ops listed i = true) (hr : (Region.ready md ops listed).contains i = true) (hw : waits md oz i = true)
    (hQ : ∀ c a w, Q (.panic c) (a.put oi.dst v) w → Q (.panic c) a w) (hy : YieldsIf P ops S oi v a) (hS : S w)
    (h : wpAnyL P md ops Q S z fuel (listed.setIfInBounds i true) (a.put oi.dst v) w) : wpAnyL P md ops Q S z (fuel + 1) listed a w := by
  have hwz : ∃ e ∈ oz.after, Region.binds md e = true ∧ e.on = i := by
    obtain ⟨e, he, hb⟩ := Array.any_eq_true'.1 hw
    simp only [Bool.and_eq_true, beq_iff_eq] at hb
    exact ⟨e, he, hb⟩
  exact wpAnyL_first hi (Region.noSelect_spec hs) hQ hz hwz fuel listed a w (Region.free_spec hi hf) (by simpa using hr) hy hS h
theorem wpAnyL_one {i : Nat} {o : Oper} {fuel : Nat} {listed : Array Bool} {a : Act} {w : World} (hr : Region.ready md ops listed = [i]) (ho : ops[i]? = some o)
    (h : ∀ K' : Act → World → Prop, Shut (∀ a w, S w → (S w → wpAnyL P md ops Q S z fuel (listed.setIfInBounds i true) a w) → K' a w) → if Region.wanted o (yielded ops a.tmps) = true then Oper.wp P o a w K' Q else K' (a.put o.dst undef) w) :
    wpAnyL P md ops Q S z (fuel + 1) listed a w :=
  by
  refine ⟨fun h0 => ?_, fun j hj => ?_⟩
  · rw [hr] at h0; cases h0
  · rw [hr] at hj
    obtain rfl := List.mem_singleton.1 hj
    exact wpOp_step ho (fun K' hK => h K' (fun a w hS hW => hK a w ⟨fun _ => hS, hW hS⟩))
theorem wpAnyL_last {o : Oper} {fuel : Nat} {listed : Array Bool} {a : Act} {w : World} (hr : Region.ready md ops listed = [z]) (ho : ops[z]? = some o) (hd : Region.ready md ops (listed.setIfInBounds z true) = [])
    (h : ∀ K' : Act → World → Prop, Shut (∀ a w, Q .normal a w → K' a w) → if Region.wanted o (yielded ops a.tmps) = true then Oper.wp P o a w K' Q else K' (a.put o.dst undef) w) :
    wpAnyL P md ops Q S z (fuel + 1) listed a w :=
  by
  refine ⟨fun h0 => ?_, fun j hj => ?_⟩
  · rw [hr] at h0; cases h0
  · rw [hr] at hj
    obtain rfl := List.mem_singleton.1 hj
    refine wpOp_step ho (fun K' hK => h K' (fun a w hq => hK a w ⟨fun h => absurd rfl h, ?_⟩))
    cases fuel with
    | zero => exact ⟨hd, hq⟩
    | succ k => exact ⟨fun _ => hq, by rw [hd]; simp⟩
theorem wp_region_later {id : Nat} {a : Act} {w : World} (z : Nat) (hm : P.follows .mixedOrders = true) (hS : S w.drew)
    (h : S w.drew → wpAnyL P .any ops Q S z ops.size (Array.replicate ops.size false) a w.drew) : (Code.region id ops true).wp P Q a w :=
  wp_region_any hm (wpAny_of_later _ _ _ _ (h hS))
end
end Go.Proofs.YteammdkipnfmnaaGreatDoor.last
