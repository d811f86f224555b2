/- The program's places, halves and sides. -/
import Derived.Test.YtmdhkoiimffmlaaDoorTreeZ
import Derived.Deep.RegionHeldLaw
namespace Go.Proofs.YtmdhkoiimffmlaaDoor.tree
open Go Go.RowKit Go.Proofs.YtmdhkoiimffmlaaDoor.base Go.Proofs.YtmdhkoiimffmlaaDoor.pairs Go.Proofs.YtmdhkoiimffmlaaDoor.puttext Go.Proofs.YtmdhkoiimffmlaaDoor.putnum
set_option linter.unusedVariables false
set_option linter.unusedSimpArgs false

set_option maxHeartbeats 1000000 in
theorem impl_placeOk (I N : Int) (w : World) :
    Calls Tryd.prog 49 #[.int .i64 I, .int .i64 N] w fun e w' => e = .returned (.bool (decide (N ≤ 60) && decide (0 ≤ I) && decide (I < N))) ∧ w' = w := by
  by_cases h1 : N ≤ 60
  · by_cases h2 : 0 ≤ I
    · by_cases h3 : I < N
      · go_enter Tryd.func49, Tryd.ntmps49
        go_wp2
        go_ret
        exact ⟨ret_bool (by simp [h1, h2, h3]), rfl⟩
      · go_enter Tryd.func49, Tryd.ntmps49
        go_wp2
        go_ret
        exact ⟨ret_bool (by have h4 : ¬ I < N := by omega
                            simp [h1, h2, h4]), rfl⟩
    · go_enter Tryd.func49, Tryd.ntmps49
      go_wp2
      go_ret
      exact ⟨ret_bool (by have h4 : ¬ 0 ≤ I := by omega
                          simp [h1, h4]), rfl⟩
  · go_enter Tryd.func49, Tryd.ntmps49
    go_wp2
    go_ret
    exact ⟨ret_bool (by have h4 : ¬ N ≤ 60 := by omega
                        simp [h4]), rfl⟩

set_option maxRecDepth 100000 in
set_option maxHeartbeats 1000000 in
theorem impl_halves (b off n cap : Nat) (w : World) (h : 2 ≤ n) (h64 : n ≤ 60) (hcap : n ≤ cap) (k : Nat) (hk : half n = k) :
    Calls Tryd.prog 51 #[.slice (some ⟨b, off, none⟩) n cap] w fun e w' =>
      e = .returned (.tuple #[.slice (some ⟨b, off, none⟩) k k, .slice (some ⟨b, off + k * 2, none⟩) (n - k) (n - k)]) ∧ Below w.heap.size w w' := by
  have hbd := half_bd n h
  have hL := impl_half n w h (by omega)
  rw [hk] at hL hbd
  have HL := Hid.mk' hL
  clear hL hk
  have q1 : (k : Int) ≤ (cap : Int) := by omega
  have q3 : (k : Int) ≤ (n : Int) := by omega
  have q4 : (n : Int) ≤ (cap : Int) := by omega
  have q2 : ¬ n = k := by omega
  go_enter Tryd.func51, Tryd.ntmps51
  go_wp2_with fail
  refine HL.out.mono ?_
  rintro e w1 ⟨rfl, hw1⟩
  subst hw1
  go_wp2_with fail
  go_region
  go_wp2_with fail
  go_ret2
  exact ⟨rfl, (Below.refl _ _).drew⟩

/-! ### a row of truths turned round -/
theorem getD_set (l : List Bool) (i x : Nat) (v : Bool) (h : i < l.length) : (l.set i v).getD x false = if x = i then v else l.getD x false := by
  simp only [List.getD, List.getElem?_set]
  by_cases he : i = x
  · subst he; simp [h]
  · rw [if_neg he, if_neg (fun e => he e.symm)]
def Rev (zs : List Bool) (r : Nat) (ys : List Bool) : Prop := ys.length = zs.length ∧ ∀ x, x < zs.length → ys.getD x false = if x < r ∨ zs.length - r ≤ x then zs.getD (zs.length - 1 - x) false else zs.getD x false
theorem rev_zero (zs : List Bool) : Rev zs 0 zs := ⟨rfl, fun x hx => by rw [if_neg (by omega)]⟩
theorem rev_step {zs ys : List Bool} {r j : Nat} (h : Rev zs r ys) (hj : r + j + 1 = zs.length) (hlt : r < j) : Rev zs (r + 1) ((ys.set r (ys.getD j false)).set j (ys.getD r false)) := by
  obtain ⟨h1, h2⟩ := h
  refine ⟨by simpa using h1, fun x hx => ?_⟩
  rw [getD_set _ _ _ _ (by simp; omega), getD_set _ _ _ _ (by omega)]
  have hr := h2 r (by omega)
  have hjj := h2 j (by omega)
  rw [if_neg (by omega)] at hr hjj
  by_cases e1 : x = j
  · subst e1
    rw [if_pos rfl, hr, if_pos (by omega), show zs.length - 1 - x = r by omega]
  · rw [if_neg e1]
    by_cases e2 : x = r
    · subst e2
      rw [if_pos rfl, hjj, if_pos (by omega), show zs.length - 1 - x = j by omega]
    · rw [if_neg e2, h2 x hx]
      by_cases e3 : x < r ∨ zs.length - r ≤ x
      · rw [if_pos e3, if_pos (by omega)]
      · rw [if_neg e3, if_neg (by omega)]
theorem rev_end {zs ys : List Bool} {r : Nat} (h : Rev zs r ys) (hr : zs.length ≤ 2 * r + 1) : ys = zs.reverse := by
  obtain ⟨h1, h2⟩ := h
  refine List.ext_getElem (by simpa using h1) (fun x hx hx2 => ?_)
  have hxz : x < zs.length := by omega
  have := h2 x hxz
  rw [List.getElem_reverse]
  have e1 : ys.getD x false = ys[x] := by simp [List.getD, hx]
  have e2 : ∀ y (hy : y < zs.length), zs.getD y false = zs[y] := fun y hy => by simp [List.getD, hy]
  rw [e1] at this
  rw [this]
  by_cases e3 : x < r ∨ zs.length - r ≤ x
  · rw [if_pos e3, e2 _ (by omega)]
  · rw [if_neg e3, e2 _ hxz]
    congr 1; omega
theorem ownB_swap {w : World} {base g n cap : Nat} {ys : List Bool} (h : OwnB w base g n cap ys) (i j : Nat) (a b : Bool) :
    OwnB ((w.setCell ⟨g, i, none⟩ (.bool a)).setCell ⟨g, j, none⟩ (.bool b)) base g n cap ((ys.set i a).set j b) ∧ w.grownBy ((w.setCell ⟨g, i, none⟩ (.bool a)).setCell ⟨g, j, none⟩ (.bool b)) (some g) := by
  have h1 := ownB_set h i a
  have h2 := ownB_set h1.1 j b
  exact ⟨h2.1, grownBy_trans h1.2 h2.2⟩
theorem ownB_getD {w : World} {base g n cap : Nat} {ys : List Bool} (h : OwnB w base g n cap ys) (i : Nat) (hi : i < n) : w.cell? ⟨g, i, none⟩ = some (.bool (ys.getD i false)) := by
  have hl := h.1
  rw [h.at i (by omega)]
  simp [List.getD, show i < ys.length by omega]

set_option maxRecDepth 100000 in
set_option maxHeartbeats 2000000 in
theorem reverseB (g n cap base : Nat) (zs : List Bool) (w : World) (h : OwnB w base g n cap zs) (hsz : n ≤ 1000) :
    Calls Tryd.prog 92 #[.slice (some ⟨g, 0, none⟩) n cap] w fun e w' => e = .returned (.tuple #[]) ∧ OwnB w' base g n cap zs.reverse ∧ w.grownBy w' (some g) := by
  have hl := h.1
  have hmx := h.max
  go_enter Tryd.func92, Tryd.ntmps92
  go_wp2_with fail
  go_loopw [2, 3] (fun a b wr => ∃ (r : Nat) (J : Int) (ys : List Bool), a = .int .i64 (r : Int) ∧ b = .int .i64 J ∧ J = (n : Int) - 1 - r ∧ r ≤ n ∧ OwnB wr base g n cap ys ∧ Rev zs r ys ∧ w.grownBy wr (some g)) (fun a _ _ => n - (intOf a).toNat)
  case atStart => exact ⟨0, (n : Int) - 1, zs, rfl, rfl, by omega, Nat.zero_le _, h, rev_zero zs, ⟨rfl, rfl, rfl, Nat.le_refl _, fun _ _ _ => rfl⟩⟩
  case round =>
    obtain ⟨r, J, ys, rfl, rfl, hJ, hr, hO, hR, hG⟩ := hrel
    by_cases hlt : (r : Int) < J
    · obtain ⟨j, hj⟩ : ∃ j : Nat, J = (j : Int) := ⟨J.toNat, by omega⟩
      subst hj
      have c1 := ownB_getD hO r (by omega)
      have c2 := ownB_getD hO j (by omega)
      have f1 := hO.frozen r
      have f2 := hO.frozen j
      have HR := Hid.mk' (rev_step hR (j := j) (by omega) (by omega))
      have HS := Hid.mk' (ownB_swap hO r j (ys.getD j false) (ys.getD r false))
      have HG := Hid.mk' hG
      have HJ : Hid (r + j + 1 = n) := by show _ = _; omega
      have hjn : j < n := by omega
      have hrj : r < j := by omega
      generalize ys.getD j false = y1 at *
      generalize ys.getD r false = y2 at *
      clear hO hR hG hJ h hl
      go_wp2_with fail
      go_region
      go_wp2_with fail
      go_roundw
      case rel => exact ⟨r + 1, (j : Int) - 1, _, by go_num, rfl, by have := HJ.out; omega, by omega, HS.out.1, HR.out, grownBy_trans HG.out (grown_drewN HS.out.2 1)⟩
      case measure => simp [intOf]; omega
    · have HE := Hid.mk' (rev_end hR (by omega))
      have HO := Hid.mk' hO
      clear hO hR hJ h hl
      go_wp2_with fail
      go_end0
      exact ⟨rfl, by rw [← HE.out]; exact HO.out, hG⟩

set_option maxRecDepth 100000 in
set_option maxHeartbeats 4000000 in
theorem impl_sides (i0 n0 : Nat) (w : World) (hin0 : i0 < n0) (h60 : n0 ≤ 60) :
    Calls Tryd.prog 80 #[.int .i64 (i0 : Int), .int .i64 (n0 : Int)] w fun e w' =>
      ∃ g' n' cap', e = .returned (.slice (some ⟨g', 0, none⟩) n' cap') ∧ OwnB w' w.heap.size g' n' cap' (sides i0 n0) ∧ Below w.heap.size w w' := by
  obtain ⟨inf, hi, hz0, hz1, hz2⟩ := info_parts infoBool
  have hD : (downs i0 n0).length ≤ 60 := by rw [downs_length]; have := depth_le i0 n0; omega
  have hO0 := ownB_made w w.heap.size (Nat.le_refl _)
  have hB0 : Below w.heap.size w (w.alloc (.cells #[] 4)) := (Below.refl _ _).alloc (Nat.le_refl _) _
  go_enter Tryd.func80, Tryd.ntmps80
  go_wp2_with (at_builtin; fail)
  go_loopw [0, 1, 5] (fun iv nv sv wr => ∃ (i n g k cap : Nat) (acc : List Bool), iv = .int .i64 (i : Int) ∧ nv = .int .i64 (n : Int) ∧ sv = .slice (some ⟨g, 0, none⟩) k cap ∧ i < n ∧ n ≤ 60 ∧ acc ++ downs i n = downs i0 n0 ∧ OwnB wr w.heap.size g k cap acc ∧ Below w.heap.size w wr) (fun _ nv _ _ => (intOf nv).toNat)
  case atStart => exact ⟨i0, n0, w.heap.size, 0, 0, [], rfl, rfl, rfl, hin0, h60, rfl, hO0, hB0⟩
  case round =>
    obtain ⟨i, n, g, k, cap, acc, rfl, rfl, rfl, hin, hn60, hacc, hO, hB⟩ := hrel
    clear hO0 hB0
    have hk := hO.1
    have hlen : k + (downs i n).length ≤ 60 := by rw [← hk, ← List.length_append, hacc]; exact hD
    have hs := hB.size
    by_cases h2 : 2 ≤ n
    · have hbd := half_bd n h2
      have hL := fun wx => impl_half n wx h2 (by omega)
      have h2i : (1 : Int) < (n : Int) := by omega
      by_cases hik : i < half n
      · have hdl := downs_left i n h2 hik
        obtain ⟨m, hm⟩ : ∃ m, half n = m := ⟨_, rfl⟩
        rw [hm] at hL hbd hik hdl
        have hiki : (i : Int) < (m : Int) := by omega
        rw [hdl] at hacc
        have HA : Hid ((acc ++ [true]) ++ downs i m = downs i0 n0) := by show _ = _; rw [← hacc]; simp
        have HL := Hid.mk' hL
        have hc3 : k + 1 ≤ maxLen := by unfold maxLen; omega
        have hc4 : (k + 1) * 1 ≤ 140737488355328 := by omega
        clear hL hm hdl hacc hk hlen
        go_wp2_with (at_builtin; fail)
        refine (HL.out _).mono ?_
        rintro e w1 ⟨rfl, hw1⟩
        subst hw1
        go_wp2_with (at_builtin; refine wpList_append_own _ rfl (.tmp 12) (.tmp 16) 99 rfl w.heap.size 4 inf (.bool false) 1 1 Tryd.underlying99 hi hz0 hz1 hz2 rfl (by decide) _ _ _ rfl (hO.2.alloc _) ⟨w1.heap.size, 0, none⟩ 1 1 [.bool true] rfl rfl (cell_one_new _ _ _) (bool_oneCell _) hc3 hc4 (le_alloc _ _ hs) ?_)
        intro v9 w9 hown hgrow hnn
        have hnn' : ¬ v9 = .slice none 0 0 := by simpa using hnn
        obtain ⟨g9, cap9, hv, hO9⟩ := ownB_val (zs := acc ++ [true]) (n := k + 1) (by have := hO.1; simp; omega) hnn' (by simpa [boolVals] using hown)
        subst hv
        have hB9 : Below w.heap.size w w9 := (hB.alloc hs _).grown hgrow (le_alloc _ _ hs) (fun k e => by simp [Value.ownBlock] at e; have := hO.lt; omega)
        have HO9 := Hid.mk' hO9
        clear hown hgrow hnn hnn' hO9 hO hB
        go_wp2_with (at_builtin; fail)
        go_roundw
        case rel => exact ⟨i, m, g9, k + 1, cap9, acc ++ [true], rfl, rfl, rfl, by omega, by omega, HA.out, HO9.out, hB9⟩
        case measure => simp [intOf]; omega
      · have hdl := downs_right i n h2 hik
        obtain ⟨m, hm⟩ : ∃ m, half n = m := ⟨_, rfl⟩
        rw [hm] at hL hbd hik hdl
        have hiki : ¬ (i : Int) < (m : Int) := by omega
        rw [hdl] at hacc
        have HA : Hid ((acc ++ [false]) ++ downs (i - m) (n - m) = downs i0 n0) := by show _ = _; rw [← hacc]; simp
        have HL := Hid.mk' hL
        have hc3 : k + 1 ≤ maxLen := by unfold maxLen; omega
        have hc4 : (k + 1) * 1 ≤ 140737488355328 := by omega
        clear hL hm hdl hacc hk hlen
        go_wp2_with (at_builtin; fail)
        refine (HL.out _).mono ?_
        rintro e w1 ⟨rfl, hw1⟩
        subst hw1
        go_wp2_with (at_builtin; refine wpList_append_own _ rfl (.tmp 12) (.tmp 16) 99 rfl w.heap.size 4 inf (.bool false) 1 1 Tryd.underlying99 hi hz0 hz1 hz2 rfl (by decide) _ _ _ rfl (hO.2.alloc _) ⟨w1.heap.size, 0, none⟩ 1 1 [.bool false] rfl rfl (cell_one_new _ _ _) (bool_oneCell _) hc3 hc4 (le_alloc _ _ hs) ?_)
        intro v9 w9 hown hgrow hnn
        have hnn' : ¬ v9 = .slice none 0 0 := by simpa using hnn
        obtain ⟨g9, cap9, hv, hO9⟩ := ownB_val (zs := acc ++ [false]) (n := k + 1) (by have := hO.1; simp; omega) hnn' (by simpa [boolVals] using hown)
        subst hv
        have hB9 : Below w.heap.size w w9 := (hB.alloc hs _).grown hgrow (le_alloc _ _ hs) (fun k e => by simp [Value.ownBlock] at e; have := hO.lt; omega)
        have HO9 := Hid.mk' hO9
        clear hown hgrow hnn hnn' hO9 hO hB
        go_wp2_with (at_builtin; fail)
        go_roundw
        case rel => exact ⟨i - m, n - m, g9, k + 1, cap9, acc ++ [false], by go_num, by go_num, rfl, by omega, by omega, HA.out, HO9.out, hB9⟩
        case measure => simp [intOf]; omega
    · have h2i : ¬ (1 : Int) < (n : Int) := by omega
      rw [downs_low i n (by omega), List.append_nil] at hacc
      have HA : Hid (acc.reverse = sides i0 n0) := by show _ = _; rw [hacc]; unfold downs; simp
      have HR := Hid.mk' (reverseB g k cap w.heap.size acc wr hO (by omega))
      have hg := hO.lt.1
      have HB := Hid.mk' hB
      clear hO hacc hB
      go_wp2_with (at_builtin; fail)
      refine HR.out.mono ?_
      rintro e w1 ⟨rfl, hO1, hG1⟩
      rw [HA.out] at hO1
      have HO := Hid.mk' hO1
      have hB1 : Below w.heap.size w w1 := HB.out.trans (below_grown hG1 hg HB.out.size)
      clear hO1 hG1
      go_wp2_with (at_builtin; fail)
      go_ret
      exact ⟨g, k, cap, rfl, HO.out, hB1⟩
end Go.Proofs.YtmdhkoiimffmlaaDoor.tree
