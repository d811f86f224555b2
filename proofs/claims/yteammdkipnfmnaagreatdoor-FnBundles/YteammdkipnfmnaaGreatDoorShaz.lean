/- The program's places, halves and sides. The program's bytes of leaves, nodes and roots, and their digests. The program's inner digests and roots: a closure that calls itself. The program's paths: a closure that calls itself. Plain mathematics: all that is hashed from a leaf to a root, from the leaf up. -/
import Derived.Test.YteammdkipnfmnaaGreatDoorShay
import Derived.Deep.RegionHeldLaw
import Derived.Test.YteammdkipnfmnaaGreatDoorShai
import Derived.Test.YteammdkipnfmnaaGreatDoorShar
import Derived.Laws.EntriesVeiled
namespace Go.Proofs.YteammdkipnfmnaaGreatDoor.tree
open Go Go.RowKit Go.Proofs.YteammdkipnfmnaaGreatDoor.base Go.Proofs.YteammdkipnfmnaaGreatDoor.pairs Go.Proofs.YteammdkipnfmnaaGreatDoor.puttext Go.Proofs.YteammdkipnfmnaaGreatDoor.putnum
set_option linter.unusedVariables false
set_option linter.unusedSimpArgs false

set_option maxHeartbeats 1000000 in
theorem impl_placeOk (I N : Int) (w : World) :
    Calls Tryz.prog 140 #[.int .i64 I, .int .i64 N] w fun e w' => e = .returned (.bool (decide (N ≤ 60) && decide (0 ≤ I) && decide (I < N))) ∧ w' = w := by
  by_cases h1 : N ≤ 60
  · by_cases h2 : 0 ≤ I
    · by_cases h3 : I < N
      · go_enter Tryz.func140, Tryz.ntmps140
        go_wp2
        go_ret
        exact ⟨ret_bool (by simp [h1, h2, h3]), rfl⟩
      · go_enter Tryz.func140, Tryz.ntmps140
        go_wp2
        go_ret
        exact ⟨ret_bool (by have h4 : ¬ I < N := by omega
                            simp [h1, h2, h4]), rfl⟩
    · go_enter Tryz.func140, Tryz.ntmps140
      go_wp2
      go_ret
      exact ⟨ret_bool (by have h4 : ¬ 0 ≤ I := by omega
                          simp [h1, h4]), rfl⟩
  · go_enter Tryz.func140, Tryz.ntmps140
    go_wp2
    go_ret
    exact ⟨ret_bool (by have h4 : ¬ N ≤ 60 := by omega
                        simp [h4]), rfl⟩

/-! ### a row of truths turned round -/
theorem getD_set (l : List Bool) (i x : Nat) (v : Bool) (h : i < l.length) : (l.set i v).getD x false = if x = i then v else l.getD x false := by
  simp only [List.getD, List.getElem?_set]
  by_cases he : i = x
  · subst he; simp [h]
  · rw [if_neg he, if_neg (fun e => he e.symm)]
def Rev (zs : List Bool) (r : Nat) (ys : List Bool) : Prop := ys.length = zs.length ∧ ∀ x, x < zs.length → ys.getD x false = if x < r ∨ zs.length - r ≤ x then zs.getD (zs.length - 1 - x) false else zs.getD x false
theorem rev_zero (zs : List Bool) : Rev zs 0 zs := ⟨rfl, fun x hx => by rw [if_neg (by omega)]⟩
theorem rev_step {zs ys : List Bool} {r j : Nat} (h : Rev zs r ys) (hj : r + j + 1 = zs.length) (hlt : r < j) : Rev zs (r + 1) ((ys.set r (ys.getD j false)).set j (ys.getD r false)) := by
  obtain ⟨h1, h2⟩ := h
  refine ⟨by simpa using h1, fun x hx => ?_⟩
  rw [getD_set _ _ _ _ (by simp; omega), getD_set _ _ _ _ (by omega)]
  have hr := h2 r (by omega)
  have hjj := h2 j (by omega)
  rw [if_neg (by omega)] at hr hjj
  by_cases e1 : x = j
  · subst e1
    rw [if_pos rfl, hr, if_pos (by omega), show zs.length - 1 - x = r by omega]
  · rw [if_neg e1]
    by_cases e2 : x = r
    · subst e2
      rw [if_pos rfl, hjj, if_pos (by omega), show zs.length - 1 - x = j by omega]
    · rw [if_neg e2, h2 x hx]
      by_cases e3 : x < r ∨ zs.length - r ≤ x
      · rw [if_pos e3, if_pos (by omega)]
      · rw [if_neg e3, if_neg (by omega)]
theorem rev_end {zs ys : List Bool} {r : Nat} (h : Rev zs r ys) (hr : zs.length ≤ 2 * r + 1) : ys = zs.reverse := by
  obtain ⟨h1, h2⟩ := h
  refine List.ext_getElem (by simpa using h1) (fun x hx hx2 => ?_)
  have hxz : x < zs.length := by omega
  have := h2 x hxz
  rw [List.getElem_reverse]
  have e1 : ys.getD x false = ys[x] := by simp [List.getD, hx]
  have e2 : ∀ y (hy : y < zs.length), zs.getD y false = zs[y] := fun y hy => by simp [List.getD, hy]
  rw [e1] at this
  rw [this]
  by_cases e3 : x < r ∨ zs.length - r ≤ x
  · rw [if_pos e3, e2 _ (by omega)]
  · rw [if_neg e3, e2 _ hxz]
    congr 1; omega
theorem ownB_swap {w : World} {base g n cap : Nat} {ys : List Bool} (h : OwnB w base g n cap ys) (i j : Nat) (a b : Bool) :
    OwnB ((w.setCell ⟨g, i, none⟩ (.bool a)).setCell ⟨g, j, none⟩ (.bool b)) base g n cap ((ys.set i a).set j b) ∧ w.grownBy ((w.setCell ⟨g, i, none⟩ (.bool a)).setCell ⟨g, j, none⟩ (.bool b)) (some g) := by
  have h1 := ownB_set h i a
  have h2 := ownB_set h1.1 j b
  exact ⟨h2.1, grownBy_trans h1.2 h2.2⟩
theorem ownB_getD {w : World} {base g n cap : Nat} {ys : List Bool} (h : OwnB w base g n cap ys) (i : Nat) (hi : i < n) : w.cell? ⟨g, i, none⟩ = some (.bool (ys.getD i false)) := by
  have hl := h.1
  rw [h.at i (by omega)]
  simp [List.getD, show i < ys.length by omega]

set_option maxRecDepth 100000 in
set_option maxHeartbeats 2000000 in
theorem reverseB (g n cap base : Nat) (zs : List Bool) (w : World) (h : OwnB w base g n cap zs) (hsz : n ≤ 1000) :
    Calls Tryz.prog 148 #[.slice (some ⟨g, 0, none⟩) n cap] w fun e w' => e = .returned (.tuple #[]) ∧ OwnB w' base g n cap zs.reverse ∧ w.grownBy w' (some g) := by
  have hl := h.1
  have hmx := h.max
  go_enter Tryz.func148, Tryz.ntmps148
  go_wp2_with fail
  go_loopw [2, 3] (fun a b wr => ∃ (r : Nat) (J : Int) (ys : List Bool), a = .int .i64 (r : Int) ∧ b = .int .i64 J ∧ J = (n : Int) - 1 - r ∧ r ≤ n ∧ OwnB wr base g n cap ys ∧ Rev zs r ys ∧ w.grownBy wr (some g)) (fun a _ _ => n - (intOf a).toNat)
  case atStart => exact ⟨0, (n : Int) - 1, zs, rfl, rfl, by omega, Nat.zero_le _, h, rev_zero zs, ⟨rfl, rfl, rfl, Nat.le_refl _, fun _ _ _ => rfl⟩⟩
  case round =>
    obtain ⟨r, J, ys, rfl, rfl, hJ, hr, hO, hR, hG⟩ := hrel
    by_cases hlt : (r : Int) < J
    · obtain ⟨j, hj⟩ : ∃ j : Nat, J = (j : Int) := ⟨J.toNat, by omega⟩
      subst hj
      have c1 := ownB_getD hO r (by omega)
      have c2 := ownB_getD hO j (by omega)
      have f1 := hO.frozen r
      have f2 := hO.frozen j
      have HR := Hid.mk' (rev_step hR (j := j) (by omega) (by omega))
      have HS := Hid.mk' (ownB_swap hO r j (ys.getD j false) (ys.getD r false))
      have HG := Hid.mk' hG
      have HJ : Hid (r + j + 1 = n) := by show _ = _; omega
      have hjn : j < n := by omega
      have hrj : r < j := by omega
      generalize ys.getD j false = y1 at *
      generalize ys.getD r false = y2 at *
      clear hO hR hG hJ h hl
      go_wp2_with fail
      go_region
      go_wp2_with fail
      go_roundw
      case rel => exact ⟨r + 1, (j : Int) - 1, _, by go_num, rfl, by have := HJ.out; omega, by omega, HS.out.1, HR.out, grownBy_trans HG.out (grown_drewN HS.out.2 1)⟩
      case measure => simp [intOf]; omega
    · have HE := Hid.mk' (rev_end hR (by omega))
      have HO := Hid.mk' hO
      clear hO hR hJ h hl
      go_wp2_with fail
      go_end0
      exact ⟨rfl, by rw [← HE.out]; exact HO.out, hG⟩

set_option maxRecDepth 100000 in
set_option maxHeartbeats 4000000 in
theorem impl_sides (i0 n0 : Nat) (w : World) (hin0 : i0 < n0) (h60 : n0 ≤ 60) :
    Calls Tryz.prog 141 #[.int .i64 (i0 : Int), .int .i64 (n0 : Int)] w fun e w' =>
      ∃ g' n' cap', e = .returned (.slice (some ⟨g', 0, none⟩) n' cap') ∧ OwnB w' w.heap.size g' n' cap' (sides i0 n0) ∧ Below w.heap.size w w' := by
  obtain ⟨inf, hi, hz0, hz1, hz2⟩ := info_parts infoBool
  have hD : (downs i0 n0).length ≤ 60 := by rw [downs_length]; have := depth_le i0 n0; omega
  have hO0 := ownB_made w w.heap.size (Nat.le_refl _)
  have hB0 : Below w.heap.size w (w.alloc (.cells #[] 4)) := (Below.refl _ _).alloc (Nat.le_refl _) _
  go_enter Tryz.func141, Tryz.ntmps141
  go_wp2_with (at_builtin; fail)
  go_loopw [0, 1, 5] (fun iv nv sv wr => ∃ (i n g k cap : Nat) (acc : List Bool), iv = .int .i64 (i : Int) ∧ nv = .int .i64 (n : Int) ∧ sv = .slice (some ⟨g, 0, none⟩) k cap ∧ i < n ∧ n ≤ 60 ∧ acc ++ downs i n = downs i0 n0 ∧ OwnB wr w.heap.size g k cap acc ∧ Below w.heap.size w wr) (fun _ nv _ _ => (intOf nv).toNat)
  case atStart => exact ⟨i0, n0, w.heap.size, 0, 0, [], rfl, rfl, rfl, hin0, h60, rfl, hO0, hB0⟩
  case round =>
    obtain ⟨i, n, g, k, cap, acc, rfl, rfl, rfl, hin, hn60, hacc, hO, hB⟩ := hrel
    clear hO0 hB0
    have hk := hO.1
    have hlen : k + (downs i n).length ≤ 60 := by rw [← hk, ← List.length_append, hacc]; exact hD
    have hs := hB.size
    by_cases h2 : 2 ≤ n
    · have hbd := half_bd n h2
      have hL := fun wx => impl_half n wx h2 (by omega)
      have h2i : (1 : Int) < (n : Int) := by omega
      by_cases hik : i < half n
      · have hdl := downs_left i n h2 hik
        obtain ⟨m, hm⟩ : ∃ m, half n = m := ⟨_, rfl⟩
        rw [hm] at hL hbd hik hdl
        have hiki : (i : Int) < (m : Int) := by omega
        rw [hdl] at hacc
        have HA : Hid ((acc ++ [true]) ++ downs i m = downs i0 n0) := by show _ = _; rw [← hacc]; simp
        have HL := Hid.mk' hL
        have hc3 : k + 1 ≤ maxLen := by unfold maxLen; omega
        have hc4 : (k + 1) * 1 ≤ 140737488355328 := by omega
        clear hL hm hdl hacc hk hlen
        go_wp2_with (at_builtin; fail)
        refine (HL.out _).mono ?_
        rintro e w1 ⟨rfl, hw1⟩
        subst hw1
        go_wp2_with (at_builtin; refine wpList_append_own _ rfl (.tmp 12) (.tmp 16) 176 rfl w.heap.size 4 inf (.bool false) 1 1 Tryz.underlying176 hi hz0 hz1 hz2 rfl (by decide) _ _ _ rfl (hO.2.alloc _) ⟨w1.heap.size, 0, none⟩ 1 1 [.bool true] rfl rfl (cell_one_new _ _ _) (bool_oneCell _) hc3 hc4 (le_alloc _ _ hs) ?_)
        intro v9 w9 hown hgrow hnn
        have hnn' : ¬ v9 = .slice none 0 0 := by simpa using hnn
        obtain ⟨g9, cap9, hv, hO9⟩ := ownB_val (zs := acc ++ [true]) (n := k + 1) (by have := hO.1; simp; omega) hnn' (by simpa [boolVals] using hown)
        subst hv
        have hB9 : Below w.heap.size w w9 := (hB.alloc hs _).grown hgrow (le_alloc _ _ hs) (fun k e => by simp [Value.ownBlock] at e; have := hO.lt; omega)
        have HO9 := Hid.mk' hO9
        clear hown hgrow hnn hnn' hO9 hO hB
        go_wp2_with (at_builtin; fail)
        go_roundw
        case rel => exact ⟨i, m, g9, k + 1, cap9, acc ++ [true], rfl, rfl, rfl, by omega, by omega, HA.out, HO9.out, hB9⟩
        case measure => simp [intOf]; omega
      · have hdl := downs_right i n h2 hik
        obtain ⟨m, hm⟩ : ∃ m, half n = m := ⟨_, rfl⟩
        rw [hm] at hL hbd hik hdl
        have hiki : ¬ (i : Int) < (m : Int) := by omega
        rw [hdl] at hacc
        have HA : Hid ((acc ++ [false]) ++ downs (i - m) (n - m) = downs i0 n0) := by show _ = _; rw [← hacc]; simp
        have HL := Hid.mk' hL
        have hc3 : k + 1 ≤ maxLen := by unfold maxLen; omega
        have hc4 : (k + 1) * 1 ≤ 140737488355328 := by omega
        clear hL hm hdl hacc hk hlen
        go_wp2_with (at_builtin; fail)
        refine (HL.out _).mono ?_
        rintro e w1 ⟨rfl, hw1⟩
        subst hw1
        go_wp2_with (at_builtin; refine wpList_append_own _ rfl (.tmp 12) (.tmp 16) 176 rfl w.heap.size 4 inf (.bool false) 1 1 Tryz.underlying176 hi hz0 hz1 hz2 rfl (by decide) _ _ _ rfl (hO.2.alloc _) ⟨w1.heap.size, 0, none⟩ 1 1 [.bool false] rfl rfl (cell_one_new _ _ _) (bool_oneCell _) hc3 hc4 (le_alloc _ _ hs) ?_)
        intro v9 w9 hown hgrow hnn
        have hnn' : ¬ v9 = .slice none 0 0 := by simpa using hnn
        obtain ⟨g9, cap9, hv, hO9⟩ := ownB_val (zs := acc ++ [false]) (n := k + 1) (by have := hO.1; simp; omega) hnn' (by simpa [boolVals] using hown)
        subst hv
        have hB9 : Below w.heap.size w w9 := (hB.alloc hs _).grown hgrow (le_alloc _ _ hs) (fun k e => by simp [Value.ownBlock] at e; have := hO.lt; omega)
        have HO9 := Hid.mk' hO9
        clear hown hgrow hnn hnn' hO9 hO hB
        go_wp2_with (at_builtin; fail)
        go_roundw
        case rel => exact ⟨i - m, n - m, g9, k + 1, cap9, acc ++ [false], by go_num, by go_num, rfl, by omega, by omega, HA.out, HO9.out, hB9⟩
        case measure => simp [intOf]; omega
    · have h2i : ¬ (1 : Int) < (n : Int) := by omega
      rw [downs_low i n (by omega), List.append_nil] at hacc
      have HA : Hid (acc.reverse = sides i0 n0) := by show _ = _; rw [hacc]; unfold downs; simp
      have HR := Hid.mk' (reverseB g k cap w.heap.size acc wr hO (by omega))
      have hg := hO.lt.1
      have HB := Hid.mk' hB
      clear hO hacc hB
      go_wp2_with (at_builtin; fail)
      refine HR.out.mono ?_
      rintro e w1 ⟨rfl, hO1, hG1⟩
      rw [HA.out] at hO1
      have HO := Hid.mk' hO1
      have hB1 : Below w.heap.size w w1 := HB.out.trans (below_grown hG1 hg HB.out.size)
      clear hO1 hG1
      go_wp2_with (at_builtin; fail)
      go_ret
      exact ⟨g, k, cap, rfl, HO.out, hB1⟩
end Go.Proofs.YteammdkipnfmnaaGreatDoor.tree

namespace Go.Proofs.YteammdkipnfmnaaGreatDoor.tree
open Go Go.RowKit Go.Proofs.YteammdkipnfmnaaGreatDoor.base Go.Proofs.YteammdkipnfmnaaGreatDoor.pairs Go.Proofs.YteammdkipnfmnaaGreatDoor.puttext Go.Proofs.YteammdkipnfmnaaGreatDoor.putnum
set_option linter.unusedVariables false
set_option linter.unusedSimpArgs false

theorem texts_two (a b : ByteArray) : textsBytes [a, b] = textBytes a ++ textBytes b := by simp [textsBytes]
set_option maxRecDepth 100000 in
set_option maxHeartbeats 1000000 in
theorem impl_leafBytes (p : Pr) (w : World) (hp : lim p) :
    Calls Tryz.prog 142 #[.agg #[.string p.1, .string p.2]] w fun e w' =>
      ∃ g' n' cap', e = .returned (.slice (some ⟨g', 0, none⟩) n' cap') ∧ Own w' w.heap.size g' n' cap' (leafB p) ∧ Below w.heap.size w w' := by
  have hp1 := hp.1
  have hp2 := hp.2
  have ht1 := textBytes_length p.1
  have ht2 := textBytes_length p.2
  obtain ⟨W0, hW0⟩ : ∃ W, W = w.alloc (.cells #[.string p.1, .string p.2] 34) := ⟨_, rfl⟩
  obtain ⟨W1, hW1⟩ : ∃ W, W = W0.alloc (.cells #[.int .u8 0] 5) := ⟨_, rfl⟩
  have hs0 : W0.heap.size = w.heap.size + 1 := by rw [hW0]; simp
  have hs1 : W1.heap.size = w.heap.size + 1 + 1 := by rw [hW1]; simp [hs0]
  have hB0 : Below w.heap.size w W0 := by rw [hW0]; exact (Below.refl _ _).alloc (Nat.le_refl _) _
  have hB1 : Below w.heap.size w W1 := by rw [hW1]; exact hB0.alloc hB0.size _
  have hB2 : Below w.heap.size w (W1.alloc (.cells #[.string p.1, .string p.2] 9)) := hB1.alloc hB1.size _
  have hO1 : Own W1 w.heap.size W0.heap.size 1 1 [0] := by rw [hW1]; exact own_one W0 0 0 rfl w.heap.size hB0.size
  have hO2 : Own (W1.alloc (.cells #[.string p.1, .string p.2] 9)) w.heap.size (w.heap.size + 1) 1 1 [0] := by
    have := hO1.below ((Below.refl W1.heap.size W1).alloc (Nat.le_refl _) (.cells #[.string p.1, .string p.2] 9))
    rw [hs0] at this; exact this
  have hS : SlS (W1.alloc (.cells #[.string p.1, .string p.2] 9)) (some ⟨w.heap.size + 1 + 1, 0, none⟩) 2 [p.1, p.2] := by
    refine ⟨rfl, by unfold maxLen; omega, fun s hs => ?_, fun _ => ⟨_, _, rfl, fun i hi => ?_⟩⟩
    · simp at hs; unfold maxLen; rcases hs with rfl | rfl <;> omega
    · rw [← hs1]
      match i, hi with
      | 0, _ => simp
      | 1, _ => simp
  have hblk : ∀ b off, (some ⟨w.heap.size + 1 + 1, 0, none⟩ : Option Addr) = some ⟨b, off, none⟩ → ∃ cur mk, (W1.alloc (.cells #[.string p.1, .string p.2] 9)).heap[b]? = some (.cells cur 9 mk) := by
    intro b off e
    simp only [Option.some.injEq, Addr.mk.injEq, and_true] at e
    obtain ⟨rfl, rfl⟩ := e
    rw [← hs1]
    exact ⟨_, _, heap_alloc_new W1 _⟩
  have hA := addTexts (w.heap.size + 1) 1 1 w.heap.size [0] (some ⟨w.heap.size + 1 + 1, 0, none⟩) 2 2 [p.1, p.2] _ hO2 hB2.size hS hblk (by rw [texts_two, List.length_append]; omega) (fun s hs => by simp at hs; rcases hs with rfl | rfl <;> omega)
  rw [texts_two] at hA
  have HA := Hid.mk' hA
  have HB := Hid.mk' hB2
  have HW : Hid (W1 = (w.alloc (.cells #[.string p.1, .string p.2] 34)).alloc (.cells #[.int .u8 0] 5)) := by show _ = _; rw [hW1, hW0]
  clear hA hO1 hO2 hS hblk hB0 hB1 hB2 hW0 hW1 hs0 hs1 ht1 ht2
  have HA2 := HA
  rw [HW.out] at HA HB
  clear HA2
  go_enter Tryz.func142, Tryz.ntmps142
  go_wp2_with fail
  refine HA.out.mono ?_
  rintro e w1 ⟨g1, n1, cap1, rfl, hO, hb, _⟩
  have HO := Hid.mk' hO
  have hB : Below w.heap.size w w1 := HB.out.trans hb
  clear hO hb
  go_wp2_with fail
  go_ret
  exact ⟨g1, n1, cap1, rfl, by have := HO.out; rw [← List.append_assoc] at this; exact this, hB⟩

set_option maxHeartbeats 1000000 in
theorem impl_leafOf (p : Pr) (w : World) (hp : lim p) (hK : sha.KW w) :
    Calls Tryz.prog 136 #[.agg #[.string p.1, .string p.2]] w fun e w' => e = .returned (.string (leafOf p)) ∧ Below w.heap.size w w' := by
  have hba : Below w.heap.size w (w.alloc (.cells #[.string p.1, .string p.2] 34)) := (Below.refl _ _).alloc (Nat.le_refl _) _
  have hlen := leafB_length p
  have hp1 := hp.1
  have hp2 := hp.2
  have HL := Hid.mk' (impl_leafBytes p (w.alloc (.cells #[.string p.1, .string p.2] 34)) hp)
  go_enter Tryz.func136, Tryz.ntmps136
  go_wp2_with fail
  refine HL.out.mono ?_
  rintro e w1 ⟨g, n, cp, rfl, hO, hb1⟩
  have hB1 : Below w.heap.size w w1 := hba.trans (hb1.mono hba.size)
  have hn : n ≤ 1099511627776 := by have := hO.1; omega
  have HD := Hid.mk' (sha.impl_digest g 0 n cp (leafB p) w1 hO.sl hn (hK.below hB1))
  clear hO hb1 hba
  go_wp2_with fail
  refine HD.out.mono ?_
  rintro e w2 ⟨rfl, hb2⟩
  have hB2 : Below w.heap.size w w2 := hB1.trans (hb2.mono hB1.size)
  go_wp2_with fail
  go_ret
  exact ⟨rfl, hB2⟩

set_option maxRecDepth 100000 in
set_option maxHeartbeats 1000000 in
theorem impl_nodeBytes (a b : ByteArray) (w : World) (ha : a.size ≤ 137438953472) (hb : b.size ≤ 137438953472) :
    Calls Tryz.prog 143 #[.string a, .string b] w fun e w' =>
      ∃ g' n' cap', e = .returned (.slice (some ⟨g', 0, none⟩) n' cap') ∧ Own w' w.heap.size g' n' cap' (nodeB a b) ∧ Below w.heap.size w w' := by
  obtain ⟨i0, hi, hz0, hz1, hz2⟩ := info_parts info8
  have hO0 := own_one w 1 1 rfl w.heap.size (Nat.le_refl _)
  have hB0 : Below w.heap.size w (w.alloc (.cells #[.int .u8 1] 5)) := (Below.refl _ _).alloc (Nat.le_refl _) _
  have hc3 : 1 + a.size ≤ maxLen := by unfold maxLen; omega
  have hc4 : 1 + a.size ≤ 140737488355328 := by omega
  go_enter Tryz.func143, Tryz.ntmps143
  go_wp2_with (at_builtin; refine Lib.wpList_append_own_string _ rfl (.tmp 5) (.tmp 6) 22 9 rfl w.heap.size 5 i0 Tryz.underlying22 Tryz.underlying9 hi hz0 hz1 hz2 _ _ _ rfl hO0.2 a rfl hc3 hc4 hB0.size ?_)
  intro v1 w1 hown hgrow hnn
  have hnn' : ¬ v1 = .slice none 0 0 := by simpa using hnn
  rw [strCells_eq] at hown
  obtain ⟨g1, cap1, hv, hO1⟩ := own_app (m := a.size) (ns := a.data.toList) hO0.1 (size_toList a) rfl hnn' hown
  subst hv
  have hB1 : Below w.heap.size w w1 := hB0.grown hgrow hB0.size (fun k e => by simp [Value.ownBlock] at e; omega)
  have hc5 : 1 + a.size + b.size ≤ maxLen := by unfold maxLen; omega
  have hc6 : 1 + a.size + b.size ≤ 140737488355328 := by omega
  have hs1 := hB1.size
  clear hown hgrow hnn hnn' hO0 hB0 hc3 hc4
  go_wp2_with (at_builtin; refine Lib.wpList_append_own_string _ rfl (.tmp 7) (.tmp 8) 22 9 rfl w.heap.size 5 i0 Tryz.underlying22 Tryz.underlying9 hi hz0 hz1 hz2 _ _ _ rfl hO1.2 b rfl hc5 hc6 hs1 ?_)
  intro v2 w2 hown hgrow hnn
  have hnn' : ¬ v2 = .slice none 0 0 := by simpa using hnn
  rw [strCells_eq] at hown
  obtain ⟨g2, cap2, hv, hO2⟩ := own_app (m := b.size) (ns := b.data.toList) hO1.1 (size_toList b) rfl hnn' hown
  subst hv
  have hB2 : Below w.heap.size w w2 := hB1.grown hgrow hs1 (fun k e => by simp [Value.ownBlock] at e; have := hO1.lt; omega)
  have HO := Hid.mk' hO2
  clear hown hgrow hnn hnn' hO1 hB1 hO2
  go_wp2_with fail
  go_ret
  exact ⟨g2, _, cap2, rfl, HO.out, hB2⟩

set_option maxRecDepth 100000 in
set_option maxHeartbeats 1000000 in
theorem impl_rootBytes (N : Int) (x : ByteArray) (w : World) (hN : (Lit.int .i64 N).wf = true) (hx : x.size ≤ 137438953472) :
    Calls Tryz.prog 120 #[.int .i64 N, .string x] w fun e w' =>
      ∃ g' n' cap', e = .returned (.slice (some ⟨g', 0, none⟩) n' cap') ∧ Own w' w.heap.size g' n' cap' (topB N x) ∧ Below w.heap.size w w' := by
  obtain ⟨i0, hi, hz0, hz1, hz2⟩ := info_parts info8
  have hO0 := own_one w 2 2 rfl w.heap.size (Nat.le_refl _)
  have hB0 : Below w.heap.size w (w.alloc (.cells #[.int .u8 2] 5)) := (Below.refl _ _).alloc (Nat.le_refl _) _
  have HP := Hid.mk' (addNum w.heap.size 1 1 w.heap.size [2] N _ hO0 hB0.size hN (by omega))
  have hnl := numBytes_length N
  go_enter Tryz.func120, Tryz.ntmps120
  go_wp2_with (at_builtin; fail)
  refine HP.out.mono ?_
  rintro e w1 ⟨g1, n1, cap1, rfl, hO1', hb1, _⟩
  have hB1 : Below w.heap.size w w1 := hB0.trans hb1
  have hn1 : n1 ≤ 6 := by have := hO1'.1; simp at this; omega
  have hc5 : n1 + x.size ≤ maxLen := by unfold maxLen; omega
  have hc6 : n1 + x.size ≤ 140737488355328 := by omega
  have hs1 := hB1.size
  clear hb1 hO0 hB0 HP hnl
  go_wp2_with (at_builtin; refine Lib.wpList_append_own_string _ rfl (.tmp 7) (.tmp 8) 22 9 rfl w.heap.size 5 i0 Tryz.underlying22 Tryz.underlying9 hi hz0 hz1 hz2 _ _ _ rfl hO1'.2 x rfl hc5 hc6 hs1 ?_)
  intro v2 w2 hown hgrow hnn
  have hnn' : ¬ v2 = .slice none 0 0 := by simpa using hnn
  rw [strCells_eq] at hown
  obtain ⟨g2, cap2, hv, hO2⟩ := own_app (m := x.size) (ns := x.data.toList) hO1'.1 (size_toList x) rfl hnn' hown
  subst hv
  have hB2 : Below w.heap.size w w2 := hB1.grown hgrow hs1 (fun k e => by simp [Value.ownBlock] at e; have := hO1'.lt; omega)
  have HO := Hid.mk' hO2
  clear hown hgrow hnn hnn' hO1' hB1 hO2
  go_wp2_with fail
  go_ret
  exact ⟨g2, _, cap2, rfl, HO.out, hB2⟩
end Go.Proofs.YteammdkipnfmnaaGreatDoor.tree

namespace Go.Proofs.YteammdkipnfmnaaGreatDoor.tree
open Go Go.RowKit Go.Proofs.YteammdkipnfmnaaGreatDoor.base Go.Proofs.YteammdkipnfmnaaGreatDoor.pairs Go.Proofs.YteammdkipnfmnaaGreatDoor.puttext Go.Proofs.YteammdkipnfmnaaGreatDoor.putnum
set_option linter.unusedVariables false
set_option linter.unusedSimpArgs false

theorem makeFunc_run (fn : Fn) (first cap : Array Value) (w : World) : (Instr.makeFunc fn first cap).run Tryz.prog w = .ok (.func fn first cap) w := rfl
end Go.Proofs.YteammdkipnfmnaaGreatDoor.tree

namespace Go.Proofs.YteammdkipnfmnaaGreatDoor.tree
open Go Go.RowKit Go.Proofs.YteammdkipnfmnaaGreatDoor.base Go.Proofs.YteammdkipnfmnaaGreatDoor.pairs Go.Proofs.YteammdkipnfmnaaGreatDoor.puttext Go.Proofs.YteammdkipnfmnaaGreatDoor.putnum
set_option linter.unusedVariables false
set_option linter.unusedSimpArgs false

end Go.Proofs.YteammdkipnfmnaaGreatDoor.tree

namespace Go.Proofs.YteammdkipnfmnaaGreatDoor.tree
open Go Go.Proofs.YteammdkipnfmnaaGreatDoor.base Go.Proofs.YteammdkipnfmnaaGreatDoor.pairs Go.Proofs.YteammdkipnfmnaaGreatDoor.puttext Go.Proofs.YteammdkipnfmnaaGreatDoor.putnum
set_option linter.unusedVariables false
set_option linter.unusedSimpArgs false

def ba (l : List UInt8) : ByteArray := ⟨l.toArray⟩
def wayTo (leaf : List UInt8) (S : List Bool) (P : List ByteArray) : Nat → List (List UInt8)
  | 0 => [leaf]
  | k + 1 => wayTo leaf S P k ++ [nodeAt (upTo (dg leaf) S P k) (S.getD k true) (P.getD k ⟨#[]⟩)]
def wayAll (leaf : List UInt8) (i n : Nat) (P : List ByteArray) : List (List UInt8) := wayTo leaf (sides i n) P P.length ++ [topB (n : Int) (ups (dg leaf) ((sides i n).zip P))]
theorem wayTo_length (leaf : List UInt8) (S : List Bool) (P : List ByteArray) (k : Nat) : (wayTo leaf S P k).length = k + 1 := by
  induction k with
  | zero => rfl
  | succ k ih => rw [wayTo, List.length_append, ih]; rfl
theorem wayTo_step (leaf : List UInt8) (S : List Bool) (P : List ByteArray) (k : Nat) (h1 : k < S.length) (h2 : k < P.length) : wayTo leaf S P (k + 1) = wayTo leaf S P k ++ [nodeAt (upTo (dg leaf) S P k) S[k] P[k]] := by
  rw [wayTo, List.getD_eq_getElem?_getD, List.getD_eq_getElem?_getD, List.getElem?_eq_getElem h1, List.getElem?_eq_getElem h2]; rfl
end Go.Proofs.YteammdkipnfmnaaGreatDoor.tree
