/- Writing a number: the program's and the specification's PutNum answer as one and the same function. Writing texts: the program's and the specification's PutText answer as one and the same function. Plain mathematics of pairs of texts. Rows of pairs of texts: small facts on worlds; no function of the program is named here. Plain mathematics of the laws on pairs. -/
import Derived.Test.YtdebbgodhpcijaaGreatDoorRows
import Derived.Test.YtdebbgodhpcijaaGreatDoorKitA
import Derived.Laws.CopyOwn
import Derived.Lib.AppendStr
import Derived.Sort.Walk0
import Derived.WideShapes
import Derived.OwnWalk
namespace Go.Proofs.YtdebbgodhpcijaaGreatDoor.putnum
open Go.RowKit Go.Proofs.YtdebbgodhpcijaaGreatDoor.base Go.Proofs.YtdebbgodhpcijaaGreatDoor.help
set_option linter.unusedVariables false
set_option linter.unusedSimpArgs false

/-- the bytes of a number below 128^(f+1) -/
def groups : Nat → Nat → List UInt8
  | 0, n => [UInt8.ofNat n]
  | f + 1, n => if n < 128 then [UInt8.ofNat n] else UInt8.ofNat (128 + n % 128) :: groups f (n / 128)
def clamp (n : Int) : Nat := if n < 0 then 0 else if 1000000000 < n then 1000000000 else n.toNat
def numBytes (n : Int) : List UInt8 := groups 4 (clamp n)
theorem clamp_le (n : Int) : clamp n ≤ 1000000000 := by unfold clamp; split <;> (try split) <;> omega
theorem groups_length (f n : Nat) : 1 ≤ (groups f n).length ∧ (groups f n).length ≤ f + 1 := by
  induction f generalizing n with
  | zero => simp [groups]
  | succ f ih =>
    rw [groups]
    split
    · simp
    · have := ih (n / 128); simp only [List.length_cons]; omega
theorem numBytes_length (n : Int) : 1 ≤ (numBytes n).length ∧ (numBytes n).length ≤ 5 := groups_length 4 _
theorem groups_low (f n : Nat) (h : n < 128) : groups f n = [UInt8.ofNat n] := by
  cases f with
  | zero => rfl
  | succ f => rw [groups, if_pos h]
theorem groups_high (f n : Nat) (h : 128 ≤ n) : groups (f + 1) n = UInt8.ofNat (128 + n % 128) :: groups f (n / 128) := by
  rw [groups, if_neg (by omega)]

theorem byte_hi (m : Nat) : 128 + (m : Int) % 128 = ((UInt8.ofNat (128 + m % 128)).toNat : Int) := by rw [byte_of]; omega
theorem byte_lo (m : Nat) (h : m < 128) : ((UInt8.ofNat m).toNat : Int) = (m : Int) := by rw [byte_of]; omega
set_option maxRecDepth 100000 in
set_option maxHeartbeats 1000000 in
theorem addNum (g n cap base : Nat) (bs : List UInt8) (N : Int) (w : World) (h : Own w base g n cap bs) (hb : base ≤ w.heap.size) (hN : (Lit.int .i64 N).wf = true) (hsz : n ≤ 1099511627776) :
    Calls Tryz.prog 53 #[.slice (some ⟨g, 0, none⟩) n cap, .int .i64 N] w fun e w' =>
      ∃ g' n' cap', e = .returned (.slice (some ⟨g', 0, none⟩) n' cap') ∧ Own w' base g' n' cap' (bs ++ numBytes N) ∧ Below base w w' ∧ Keeps w w' := by
  have hNb : -9223372036854775808 ≤ N ∧ N ≤ 9223372036854775807 := by simpa [Lit.wf, IntKind.min, IntKind.max, IntKind.signed, IntKind.bits] using hN
  obtain ⟨i0, hi, hz0, hz1, hz2⟩ := info_parts info8
  have hcases : N < 0 ∨ 1000000000 < N ∨ (0 ≤ N ∧ N ≤ 1000000000) := by omega
  rcases hcases with hc | hc | ⟨hc, hc'⟩
  all_goals
    go_enter Tryz.func53, Tryz.ntmps53
    go_wp2
    go_loopw [0, 1] (fun v nv wr => ∃ (f m : Nat) (done : List UInt8) (g' n' cap' : Nat), v = .slice (some ⟨g', 0, none⟩) n' cap' ∧ nv = .int .i64 (m : Int) ∧ m ≤ 1000000000 ∧ m < 128 ^ (f + 1) ∧ f ≤ 4 ∧ Own wr base g' n' cap' (bs ++ done) ∧ done.length + f = 4 ∧ (Below base w wr ∧ Keeps w wr) ∧ done ++ groups f m = numBytes N) (fun _ nv _ => (intOf nv).toNat)
    case atStart =>
      exact ⟨4, clamp N, [], g, n, cap, rfl, val_int (by unfold clamp; split <;> (try split) <;> omega), clamp_le N, by have := clamp_le N; omega, by omega, by rw [List.append_nil]; exact h, rfl, ⟨Below.refl _ _, Keeps.refl _⟩, rfl⟩
    case round =>
      obtain ⟨f, m, done, g', n', cap', rfl, rfl, hm9, hm, hf, hO, hdl, ⟨hB, hK⟩, hgr⟩ := hrel
      have HG := Hid.mk' hgr
      have hlen := hO.1
      simp only [List.length_append] at hlen
      have hbl := h.1
      have HM := Hid.mk' hm
      have HL := Hid.mk' hlen
      have hn' : n' ≤ 1099511627781 := by omega
      have hBs := hB.size
      have hbw : base ≤ wr.heap.size := by omega
      have hc3 : n' + 1 ≤ maxLen := by unfold maxLen; omega
      have hc4 : (n' + 1) * 1 ≤ 140737488355328 := by omega
      have HD := Hid.mk' hdl
      clear hgr hm hlen hbl hdl
      by_cases hge : 128 ≤ m
      · obtain ⟨f', rfl⟩ : ∃ f', f = f' + 1 := by
          cases f with
          | zero => exact absurd HM.out (by omega)
          | succ f' => exact ⟨f', rfl⟩
        go_wp2_with (at_builtin; refine wpList_append_own _ rfl _ _ 22 rfl base 5 i0 (.int .u8 0) 1 1 Tryz.underlying22 hi hz0 hz1 hz2 rfl (by decide) _ _ _ rfl (hO.2.alloc _) ⟨wr.heap.size, 0, none⟩ 1 1 [_] rfl rfl (cell_one_new _ _ _) (one_oneCell _ _) hc3 hc4 (le_alloc _ _ hbw) ?_)
        intro v1 w1 hown hgrow hnn
        obtain ⟨g2, cap2, hv, hO2⟩ := own_app (m := 1) (ns := [UInt8.ofNat (128 + m % 128)]) hO.1 rfl (one_val (byte_hi m)) hnn hown
        subst hv
        have hB2 : Below base w w1 := (hB.alloc hbw _).grown hgrow (le_alloc _ _ hbw) (fun k e => by simp [Value.ownBlock] at e; have := hO.lt; omega)
        have hK2 : Keeps w w1 := (hK.alloc _).trans (((hO.below ((Below.refl _ _).alloc (Nat.le_refl _) _))).keeps hgrow)
        have HO2 := Hid.mk' hO2
        clear hown hgrow hO hO2 hB hnn
        go_wp2
        go_roundw
        case rel =>
          refine ⟨f', m / 128, done ++ [UInt8.ofNat (128 + m % 128)], g2, n' + 1, cap2, rfl, by go_num, by omega, ?_, by omega, by rw [← List.append_assoc]; exact HO2.out, ?_, ⟨hB2, hK2⟩, ?_⟩
          · have := HM.out; rw [Nat.pow_succ] at this; exact Nat.div_lt_of_lt_mul (by omega)
          · have := HD.out; simp; omega
          · rw [List.append_assoc, List.singleton_append, ← groups_high f' m hge]; exact HG.out
        case measure => simp [intOf]; omega
      · go_wp2_with (at_builtin; refine wpList_append_own _ rfl _ _ 22 rfl base 5 i0 (.int .u8 0) 1 1 Tryz.underlying22 hi hz0 hz1 hz2 rfl (by decide) _ _ _ rfl (hO.2.alloc _) ⟨wr.heap.size, 0, none⟩ 1 1 [_] rfl rfl (cell_one_new _ _ _) (one_oneCell _ _) hc3 hc4 (le_alloc _ _ hbw) ?_)
        intro v1 w1 hown hgrow hnn
        obtain ⟨g2, cap2, hv, hO2⟩ := own_app (m := 1) (ns := [UInt8.ofNat m]) hO.1 rfl (one_val (byte_lo m (by omega)).symm) hnn hown
        subst hv
        have hB2 : Below base w w1 := (hB.alloc hbw _).grown hgrow (le_alloc _ _ hbw) (fun k e => by simp [Value.ownBlock] at e; have := hO.lt; omega)
        have hK2 : Keeps w w1 := (hK.alloc _).trans (((hO.below ((Below.refl _ _).alloc (Nat.le_refl _) _))).keeps hgrow)
        have HO2 := Hid.mk' hO2
        clear hown hgrow hO hO2 hB hnn
        go_wp2
        go_ret
        refine ⟨g2, _, cap2, rfl, ?_, hB2, hK2⟩
        have hx := HO2.out
        rw [List.append_assoc, ← groups_low f m (by omega), HG.out] at hx
        exact hx

set_option maxRecDepth 100000 in
set_option maxHeartbeats 1000000 in
theorem ownBytes (a : Option Addr) (len cap : Nat) (bs : List UInt8) (w : World) (h : Sl w a len bs) (hsz : len ≤ 1099511627776) :
    Calls Tryz.prog 68 #[.slice a len cap] w fun e w' => ∃ g, e = .returned (.slice (some ⟨g, 0, none⟩) len len) ∧ Own w' w.heap.size g len len bs ∧ Below w.heap.size w w' := by
  obtain ⟨hl, hm, hc⟩ := h
  subst hl
  have hm' := hm
  unfold maxLen at hm'
  obtain ⟨i0, hi, hz0, hz1, hz2⟩ := info_parts info8
  go_enter Tryz.func68, Tryz.ntmps68
  go_wp2_with (at_make; refine wpList_make_full _ rfl _ _ 22 rfl w.heap.size 5 i0 (.int .u8 0) 1 Tryz.underlying22 hi hz0 hz1 _ _ _ _ bs.length rfl rfl rfl rfl ?b2 ?b3 ?b4 ?_)
  case b2 => rw [hz2]; omega
  case b3 => exact hm
  case b4 => exact Nat.le_refl _
  intro w1 hown hgrow
  have hOwn : Own w1 w.heap.size w.heap.size bs.length bs.length (List.replicate bs.length 0) := by
    refine ⟨by simp, ?_⟩
    have e : byteVals (List.replicate bs.length 0) = (madeCells #[.int .u8 0] bs.length).toList := by
      simp [byteVals, toList_madeCells_one]
    rw [e]; exact hown
  have hbel : Below w.heap.size w w1 := (Below.refl _ _).grown hgrow (Nat.le_refl _) (fun k e => by cases e)
  have hrow := own_row hOwn
  have hpos : 0 < (byteVals bs).length → (some (⟨w.heap.size, 0, none⟩ : Addr)) = some ⟨w.heap.size, 0, none⟩ ∧ ∃ ad, a = some ad ∧ ∀ j v, (byteVals bs)[j]? = some v → w1.cell? (ad.add j) = some v := by
    intro h0
    rw [byteVals_length] at h0
    obtain ⟨b, off, ha, hcl⟩ := hc h0
    refine ⟨rfl, ⟨b, off, none⟩, ha, fun j v hj => ?_⟩
    have hjl : j < bs.length := by have := (List.getElem?_eq_some_iff.1 hj).1; rwa [byteVals_length] at this
    rw [Addr.add_lit, hbel.cell (p := ⟨b, off + j, none⟩) (World.block_lt_of_cell? w _ (hcl j hjl)), hcl j hjl, ← hj]
    simp [byteVals, hjl]
  have HROW := Hid.mk' hrow
  have HPOS := Hid.mk' hpos
  clear hown hgrow hrow hpos hc hOwn
  have hsz1 : (Tryz.prog.info? 5).map (·.size) = some 1 := by rw [hi]; simp [hz1]
  go_wp2_with (refine wpList_copy_splice rfl (.tmp 7) (.tmp 8) 22 22 rfl 5 Tryz.underlying22 hsz1 _ _ _ _ _ _ rfl rfl w.heap.size 0 (byteVals (List.replicate bs.length 0)) 5 HROW.out (byteVals bs) ?d1 HPOS.out ?d2 (byteVals_oneCell _) w.heap.size w hbel (Nat.le_refl _) ?_)
  case d1 => simp [byteVals_length]
  case d2 => rw [byteVals_length, byteVals_length]; simp
  intro w2 hrow2 hb2
  go_wp2
  go_ret
  refine ⟨w.heap.size, rfl, own_of_row rfl hm (Nat.le_refl _) ?_, hb2⟩
  have e : splice (byteVals (List.replicate bs.length 0)) 0 (byteVals bs) = byteVals bs := by
    simp [splice, byteVals_length]
  have hx := hrow2.out
  rw [e] at hx
  exact hx

set_option maxRecDepth 100000 in
set_option maxHeartbeats 1000000 in
theorem impl_put (a : Option Addr) (len cap : Nat) (bs : List UInt8) (N : Int) (w : World) (h : Sl w a len bs) (hN : (Lit.int .i64 N).wf = true) (hsz : len ≤ 1099511627776) :
    Calls Tryz.prog 36 #[.slice a len cap, .int .i64 N] w fun e w' =>
      ∃ g' n' cap', e = .returned (.slice (some ⟨g', 0, none⟩) n' cap') ∧ Own w' w.heap.size g' n' cap' (bs ++ numBytes N) ∧ Below w.heap.size w w' := by
  go_enter Tryz.func36, Tryz.ntmps36
  go_wp2_with fail
  refine (ownBytes a len cap bs _ h hsz).mono ?_
  rintro e w1 ⟨g1, rfl, hO1, hB1⟩
  go_wp2_with fail
  refine (addNum g1 len len w.heap.size bs N _ hO1 hB1.size hN hsz).mono ?_
  rintro e w2 ⟨g2, n2, cap2, rfl, hO2, hB2, _⟩
  go_wp2_with fail
  go_ret
  exact ⟨g2, n2, cap2, rfl, hO2, hB1.trans hB2⟩

theorem or_hi (m : Nat) (h : m ≤ 1000000000) : bits .or .i64 (bits .and .i64 (m : Int) 127) 128 = 128 + (m : Int) % 128 := by
  have hand : bits .and .i64 (m : Int) 127 = ((m % 128 : Nat) : Int) := by
    rw [show (127 : Int) = 2 ^ 7 - 1 from rfl, bits_mask .i64 63 (by decide) wraps_i64 7 (by decide) (m : Int) (by omega) (by omega)]
    omega
  rw [hand, show (128 : Int) = ((128 : Nat) : Int) from rfl, (bits_nat .i64 63 (by decide) wraps_i64 (m % 128) 128 (by omega) (by omega)).2, Nat.or_comm,
    nat_join 7 128 (m % 128) (by decide) (by omega)]
  omega

set_option maxRecDepth 100000 in
set_option maxHeartbeats 1000000 in
theorem spec_put (b off len cap : Nat) (bs : List UInt8) (N : Int) (w : World) (h : Sl w (some ⟨b, off, none⟩) len bs) (hN : (Lit.int .i64 N).wf = true) (hsz : len ≤ 1099511627776) :
    Calls Tryz.prog 89 #[.slice (some ⟨b, off, none⟩) len cap, .int .i64 N] w fun e w' =>
      ∃ g' n' cap', e = .returned (.slice (some ⟨g', 0, none⟩) n' cap') ∧ Own w' w.heap.size g' n' cap' (bs ++ numBytes N) ∧ Below w.heap.size w w' := by
  have hNb : -9223372036854775808 ≤ N ∧ N ≤ 9223372036854775807 := by simpa [Lit.wf, IntKind.min, IntKind.max, IntKind.signed, IntKind.bits] using hN
  obtain ⟨i0, hi, hz0, hz1, hz2⟩ := info_parts info8
  have hl := h.1
  have hba : Below w.heap.size w (w.alloc (.cells #[] 5)) := (Below.refl _ _).alloc (Nat.le_refl _) _
  have hsl := sl_cells (h.below hba)
  have hn0 : (byteVals bs).length = len * 1 := by rw [byteVals_length]; omega
  have hm1 : 0 + len ≤ maxLen := by unfold maxLen; omega
  have hm2 : (0 + len) * 1 ≤ 140737488355328 := by omega
  have hown0 : (w.alloc (.cells #[] 5)).ownsRow w.heap.size 5 1 (.slice (some ⟨w.heap.size, 0, none⟩) 0 0) 0 [] := World.ownsRow_made w #[] 0 (Nat.le_refl _) (Nat.zero_le _) rfl
  have HSL := Hid.mk' hsl
  have hcases : N < 0 ∨ 1000000000 < N ∨ (0 ≤ N ∧ N ≤ 1000000000) := by omega
  clear hsl
  rcases hcases with hc | hc | ⟨hc, hc'⟩
  all_goals
    go_enter Tryz.func89, Tryz.ntmps89
    go_wp2_with (at_builtin; refine wpList_append_own _ rfl _ _ 22 rfl w.heap.size 5 i0 (.int .u8 0) 1 1 Tryz.underlying22 hi hz0 hz1 hz2 rfl (by decide) _ _ _ rfl hown0 ⟨b, off, none⟩ len cap (byteVals bs) rfl hn0 HSL.out (byteVals_oneCell _) hm1 hm2 (le_alloc _ _ (Nat.le_refl _)) ?_)
    intro v1 w1 hown hgrow hnn
    have hnn' : ¬ v1 = .slice none 0 0 := by simpa using hnn
    obtain ⟨g1, cap1, hv, hO1⟩ := own_val hl hnn' hown
    subst hv
    have hB1 : Below w.heap.size w w1 := hba.grown hgrow (le_alloc _ _ (Nat.le_refl _)) (fun k e => by simp [Value.ownBlock] at e; omega)
    have HO1 := Hid.mk' hO1
    clear hown hgrow hnn hnn' hO1 hown0 HSL hn0
    go_wp2_with (at_builtin; fail)
    go_loopw [1, 5] (fun nv v wr => ∃ (f m : Nat) (done : List UInt8) (g' n' cap' : Nat), v = .slice (some ⟨g', 0, none⟩) n' cap' ∧ nv = .int .i64 (m : Int) ∧ m ≤ 1000000000 ∧ m < 128 ^ (f + 1) ∧ f ≤ 4 ∧ Own wr w.heap.size g' n' cap' (bs ++ done) ∧ done.length + f = 4 ∧ Below w.heap.size w wr ∧ done ++ groups f m = numBytes N) (fun nv _ _ => (intOf nv).toNat)
    case atStart =>
      exact ⟨4, clamp N, [], g1, len, cap1, rfl, val_int (by unfold clamp; split <;> (try split) <;> omega), clamp_le N, by have := clamp_le N; omega, by omega, by rw [List.append_nil]; exact HO1.out, rfl, hB1, rfl⟩
    case round =>
      clear HO1 hB1 hba
      obtain ⟨f, m, done, g', n', cap', rfl, rfl, hm9, hm, hf, hO, hdl, hB, hgr⟩ := hrel
      have HG := Hid.mk' hgr
      have hlen := hO.1
      simp only [List.length_append] at hlen
      have HM := Hid.mk' hm
      have HL := Hid.mk' hlen
      have hn' : n' ≤ 1099511627781 := by omega
      have hbw : w.heap.size ≤ wr.heap.size := hB.size
      have hc3 : n' + 1 ≤ maxLen := by unfold maxLen; omega
      have hc4 : (n' + 1) * 1 ≤ 140737488355328 := by omega
      have HD := Hid.mk' hdl
      clear hgr hm hlen hdl
      by_cases hge : 128 ≤ m
      · obtain ⟨f', rfl⟩ : ∃ f', f = f' + 1 := by
          cases f with
          | zero => exact absurd HM.out (by omega)
          | succ f' => exact ⟨f', rfl⟩
        have hv8 := or_hi m hm9
        go_wp2_with (at_builtin; refine wpList_append_own _ rfl _ _ 22 rfl w.heap.size 5 i0 (.int .u8 0) 1 1 Tryz.underlying22 hi hz0 hz1 hz2 rfl (by decide) _ _ _ rfl (hO.2.alloc _) ⟨wr.heap.size, 0, none⟩ 1 1 [_] rfl rfl (cell_one_new _ _ _) (one_oneCell _ _) hc3 hc4 (le_alloc _ _ hbw) ?_)
        intro v2 w2 hown hgrow hnn
        obtain ⟨g2, cap2, hv, hO2⟩ := own_app (m := 1) (ns := [UInt8.ofNat (128 + m % 128)]) hO.1 rfl (one_val (byte_hi m)) hnn hown
        subst hv
        have hB2 : Below w.heap.size w w2 := (hB.alloc hbw _).grown hgrow (le_alloc _ _ hbw) (fun k e => by simp [Value.ownBlock] at e; have := hO.lt; omega)
        have HO2 := Hid.mk' hO2
        clear hown hgrow hO hO2 hB hnn
        go_wp2
        go_roundw
        case rel =>
          refine ⟨f', m / 128, done ++ [UInt8.ofNat (128 + m % 128)], g2, n' + 1, cap2, rfl, by go_num, by omega, ?_, by omega, by rw [← List.append_assoc]; exact HO2.out, ?_, hB2, ?_⟩
          · have := HM.out; rw [Nat.pow_succ] at this; exact Nat.div_lt_of_lt_mul (by omega)
          · have := HD.out; simp; omega
          · rw [List.append_assoc, List.singleton_append, ← groups_high f' m hge]; exact HG.out
        case measure => simp [intOf]; omega
      · go_wp2_with (at_builtin; refine wpList_append_own _ rfl _ _ 22 rfl w.heap.size 5 i0 (.int .u8 0) 1 1 Tryz.underlying22 hi hz0 hz1 hz2 rfl (by decide) _ _ _ rfl (hO.2.alloc _) ⟨wr.heap.size, 0, none⟩ 1 1 [_] rfl rfl (cell_one_new _ _ _) (one_oneCell _ _) hc3 hc4 (le_alloc _ _ hbw) ?_)
        intro v2 w2 hown hgrow hnn
        obtain ⟨g2, cap2, hv, hO2⟩ := own_app (m := 1) (ns := [UInt8.ofNat m]) hO.1 rfl (one_val (byte_lo m (by omega)).symm) hnn hown
        subst hv
        have hB2 : Below w.heap.size w w2 := (hB.alloc hbw _).grown hgrow (le_alloc _ _ hbw) (fun k e => by simp [Value.ownBlock] at e; have := hO.lt; omega)
        have HO2 := Hid.mk' hO2
        clear hown hgrow hO hO2 hB hnn
        go_wp2
        go_ret
        refine ⟨g2, _, cap2, rfl, ?_, hB2⟩
        have hx := HO2.out
        rw [List.append_assoc, ← groups_low f m (by omega), HG.out] at hx
        exact hx

end Go.Proofs.YtdebbgodhpcijaaGreatDoor.putnum

namespace Go.Proofs.YtdebbgodhpcijaaGreatDoor.puttext
open Go.RowKit Go.Proofs.YtdebbgodhpcijaaGreatDoor.base Go.Proofs.YtdebbgodhpcijaaGreatDoor.help Go.Proofs.YtdebbgodhpcijaaGreatDoor.putnum
set_option linter.unusedVariables false
set_option linter.unusedSimpArgs false

def textBytes (s : ByteArray) : List UInt8 := numBytes (s.size : Int) ++ s.data.toList
def textsBytes (ss : List ByteArray) : List UInt8 := (ss.map textBytes).flatten
theorem textBytes_length (s : ByteArray) : (textBytes s).length ≤ s.size + 5 := by
  have := numBytes_length (s.size : Int); simp [textBytes]; omega
theorem size_toList (s : ByteArray) : s.data.toList.length = s.size := by simp
theorem strCells_eq (s : ByteArray) : Lib.strCells s = byteVals s.data.toList := rfl
theorem wf_len (s : ByteArray) (h : s.size ≤ maxLen) : (Lit.int .i64 (s.size : Int)).wf = true := by
  unfold maxLen at h
  exact WalkArith.wf_i64 (by omega)

set_option maxRecDepth 100000 in
set_option maxHeartbeats 1000000 in
theorem spec_text (b off len cap : Nat) (bs : List UInt8) (s : ByteArray) (w : World) (h : Sl w (some ⟨b, off, none⟩) len bs) (hsz : len ≤ 549755813888) (hs : s.size ≤ 549755813888) :
    Calls Tryz.prog 104 #[.slice (some ⟨b, off, none⟩) len cap, .string s] w fun e w' =>
      ∃ g' n' cap', e = .returned (.slice (some ⟨g', 0, none⟩) n' cap') ∧ Own w' w.heap.size g' n' cap' (bs ++ textBytes s) ∧ Below w.heap.size w w' := by
  have hwf : (Lit.int .i64 (s.size : Int)).wf = true := WalkArith.wf_i64 (by omega)
  have hnb := numBytes_length (s.size : Int)
  have hl := h.1
  obtain ⟨i0, hi, hz0, hz1, hz2⟩ := info_parts info8
  go_enter Tryz.func104, Tryz.ntmps104
  go_wp2_with fail
  refine (spec_put b off len cap bs _ _ h hwf (by omega)).mono ?_
  rintro e w1 ⟨g1, n1, cap1, rfl, hO1, hB1⟩
  have hn1 : n1 ≤ 549755813893 := by have := hO1.1; simp at this; omega
  have hc3 : n1 + s.size ≤ maxLen := by unfold maxLen; omega
  have hc4 : n1 + s.size ≤ 140737488355328 := by omega
  have hbw := hB1.size
  go_wp2_with (at_builtin; refine Lib.wpList_append_own_string _ rfl _ _ 22 9 rfl w.heap.size 5 i0 Tryz.underlying22 Tryz.underlying9 hi hz0 hz1 hz2 _ _ _ rfl hO1.2 s rfl hc3 hc4 hbw ?_)
  intro v2 w2 hown hgrow hnn
  have hnn' : ¬ v2 = .slice none 0 0 := by simpa using hnn
  rw [strCells_eq] at hown
  obtain ⟨g2, cap2, hv, hO2⟩ := own_app (m := s.size) (ns := s.data.toList) hO1.1 (size_toList s) rfl hnn' hown
  subst hv
  have hB2 : Below w.heap.size w w2 := hB1.grown hgrow hbw (fun k e => by simp [Value.ownBlock] at e; have := hO1.lt; omega)
  have HO2 := Hid.mk' hO2
  clear hown hgrow hnn hnn' hO1 hO2 hB1
  go_wp2
  go_ret
  refine ⟨g2, _, cap2, rfl, ?_, hB2⟩
  have hx := HO2.out
  rw [List.append_assoc] at hx
  exact hx

theorem textsBytes_snoc (ss : List ByteArray) (s : ByteArray) : textsBytes (ss ++ [s]) = textsBytes ss ++ textBytes s := by simp [textsBytes]
theorem textsBytes_take (ss : List ByteArray) (k : Nat) (h : k < ss.length) : textsBytes (ss.take (k + 1)) = textsBytes (ss.take k) ++ textBytes ss[k] := by
  rw [List.take_succ_eq_append_getElem h, textsBytes_snoc]
theorem textsBytes_le (ss : List ByteArray) (k : Nat) : (textsBytes (ss.take k)).length ≤ (textsBytes ss).length := by
  have e : textsBytes ss = textsBytes (ss.take k) ++ textsBytes (ss.drop k) := by
    simp only [textsBytes, ← List.flatten_append, ← List.map_append, List.take_append_drop]
  rw [e, List.length_append]; omega
theorem size_le_textBytes (s : ByteArray) : s.size ≤ (textBytes s).length := by simp [textBytes]

set_option maxRecDepth 100000 in
set_option maxHeartbeats 1000000 in
theorem addTexts (g n cap base : Nat) (bs : List UInt8) (a : Option Addr) (len cap2 : Nat) (ss : List ByteArray) (w : World) (h : Own w base g n cap bs) (hb : base ≤ w.heap.size)
    (hS : SlS w a len ss) (hblk : ∀ b off, a = some ⟨b, off, none⟩ → ∃ cur mk, w.heap[b]? = some (.cells cur 9 mk)) (hsz : n + (textsBytes ss).length ≤ 549755813888) (hss : ∀ s ∈ ss, s.size ≤ 549755813888) :
    Calls Tryz.prog 97 #[.slice (some ⟨g, 0, none⟩) n cap, .slice a len cap2] w fun e w' =>
      ∃ g' n' cap', e = .returned (.slice (some ⟨g', 0, none⟩) n' cap') ∧ Own w' base g' n' cap' (bs ++ textsBytes ss) ∧ Below base w w' ∧ Keeps w w' := by
  obtain ⟨hl, hm, _, hc⟩ := hS
  subst hl
  unfold maxLen at hm
  obtain ⟨i0, hi, hz0, hz1, hz2⟩ := info_parts info8
  have hn0 := h.1
  go_enter Tryz.func97, Tryz.ntmps97
  go_wp2
  go_loopw [0, 9] (fun v i wr => ∃ (k g' n' cap' : Nat), v = .slice (some ⟨g', 0, none⟩) n' cap' ∧ i = .int .i64 (k : Int) ∧ k ≤ ss.length ∧ Own wr base g' n' cap' (bs ++ textsBytes (ss.take k)) ∧ Below base w wr ∧ Keeps w wr) (fun _ i _ => ss.length - (intOf i).toNat)
  case atStart => exact ⟨0, g, n, cap, rfl, rfl, Nat.zero_le _, by simpa [textsBytes] using h, Below.refl _ _, Keeps.refl _⟩
  case round =>
    obtain ⟨k, g', n', cap', rfl, rfl, hk, hO, hB, hK⟩ := hrel
    by_cases hlt : k < ss.length
    · obtain ⟨b, off, ha, hcl⟩ := hc (by omega)
      obtain ⟨cur, mk, hbk⟩ := hblk b off ha
      subst ha
      have hbl : b < w.heap.size := (Array.getElem?_eq_some_iff.1 hbk).1
      have e1 : wr.heap[b]? = w.heap[b]? := hK.2 b hbl (by intro cur'; rw [hbk]; simp)
      generalize hsk : ss[k] = s
      have c1 : wr.cell? ⟨b, off + k, none⟩ = some (.string s) := by
        rw [World.cell?_of_block (w := w) (w' := wr) (a := ⟨b, off + k, none⟩) e1, hcl k hlt, hsk]
      have hs9 : s.size ≤ 549755813888 := by rw [← hsk]; exact hss _ (List.getElem_mem hlt)
      have hT := textsBytes_take ss k hlt
      rw [hsk] at hT
      have hle := textsBytes_le ss (k + 1)
      rw [hT, List.length_append] at hle
      have hs1 := size_le_textBytes s
      have hn' : n' + s.size ≤ 549755813888 := by have := hO.1; simp only [List.length_append] at this; omega
      have hwf : (Lit.int .i64 (s.size : Int)).wf = true := WalkArith.wf_i64 (by omega)
      have hnb := numBytes_length (s.size : Int)
      have hbw : base ≤ wr.heap.size := Nat.le_trans hb hB.size
      have HT := Hid.mk' hT
      clear hT hle hs1 hcl hc hblk e1 hbk hsk hss
      go_wp2_with fail
      refine (addNum g' n' cap' base _ _ _ hO hbw hwf (by omega)).mono ?_
      rintro e w1 ⟨g1, n1, cap1, rfl, hO1, hB1, hK1⟩
      rw [List.append_assoc] at hO1
      have hn1 : n1 ≤ n' + 5 := by have := hO1.1; have := hO.1; simp only [List.length_append] at *; omega
      have hc3 : n1 + s.size ≤ maxLen := by unfold maxLen; omega
      have hc4 : n1 + s.size ≤ 140737488355328 := by omega
      have hbw1 : base ≤ w1.heap.size := Nat.le_trans hbw hB1.size
      go_wp2_with (at_builtin; refine Lib.wpList_append_own_string _ rfl _ _ 22 9 rfl base 5 i0 Tryz.underlying22 Tryz.underlying9 hi hz0 hz1 hz2 _ _ _ rfl hO1.2 s rfl hc3 hc4 hbw1 ?_)
      intro v2 w2 hown hgrow hnn
      have hnn' : ¬ v2 = .slice none 0 0 := by simpa using hnn
      rw [strCells_eq] at hown
      obtain ⟨g2, cap2', hv, hO2⟩ := own_app (m := s.size) (ns := s.data.toList) hO1.1 (size_toList s) rfl hnn' hown
      subst hv
      have hB2 : Below base w w2 := (hB.trans hB1).grown hgrow hbw1 (fun k e => by simp [Value.ownBlock] at e; have := hO1.lt; omega)
      have hK2 : Keeps w w2 := (hK.trans hK1).trans (hO1.keeps hgrow)
      have HO2 : Hid (Own w2 base g2 (n1 + s.size) cap2' (bs ++ textsBytes (ss.take (k + 1)))) := by
        show Own w2 base g2 (n1 + s.size) cap2' (bs ++ textsBytes (ss.take (k + 1)))
        rw [HT.out]
        simpa [textBytes, List.append_assoc] using hO2
      clear hown hgrow hnn hnn' hO1 hO2 hB1 hO hB hK hK1
      go_wp2
      go_roundw
      case rel => exact ⟨k + 1, g2, _, cap2', rfl, by go_num, by omega, HO2.out, hB2, hK2⟩
      case measure => simp [intOf]; omega
    · have e : k = ss.length := by omega
      go_wp2
      go_ret
      subst e
      rw [List.take_length] at hO
      exact ⟨g', n', cap', rfl, hO, hB, hK⟩


end Go.Proofs.YtdebbgodhpcijaaGreatDoor.puttext

namespace Go.Proofs.YtdebbgodhpcijaaGreatDoor.pairs
open Go
set_option linter.unusedVariables false

abbrev Pr := ByteArray × ByteArray
theorem bytes_ext {a b : ByteArray} (h : a.data.toList = b.data.toList) : a = b := WideShapes.bytes_inj h

/-! ### the order of texts -/
def ltB (a b : ByteArray) : Bool := Op.bytesLess a.toList b.toList
theorem ltB_iff (a b : ByteArray) : ltB a b = true ↔ a.data.toList < b.data.toList := by
  unfold ltB; rw [Proofs.bytesLess_eq, ByteArray.toList_eq, ByteArray.toList_eq]; simp
theorem ltB_irrefl (a : ByteArray) : ltB a a = false := by
  rw [Bool.eq_false_iff]; intro h; exact List.lt_irrefl _ ((ltB_iff a a).1 h)
theorem ltB_trans {a b c : ByteArray} (h : ltB a b = true) (k : ltB b c = true) : ltB a c = true :=
  (ltB_iff a c).2 (List.lt_trans ((ltB_iff a b).1 h) ((ltB_iff b c).1 k))
theorem ltB_asymm {a b : ByteArray} (h : ltB a b = true) : ltB b a = false := by
  rw [Bool.eq_false_iff]; intro k; have := ltB_trans h k; rw [ltB_irrefl] at this; cases this
theorem ltB_total {a b : ByteArray} (h : ltB a b = false) (k : ltB b a = false) : a = b := by
  apply bytes_ext
  have h' : ¬ a.data.toList < b.data.toList := fun e => by rw [(ltB_iff a b).2 e] at h; cases h
  have k' : ¬ b.data.toList < a.data.toList := fun e => by rw [(ltB_iff b a).2 e] at k; cases k
  exact List.le_antisymm (List.not_lt.1 k') (List.not_lt.1 h')
theorem ltB_ne {a b : ByteArray} (h : ltB a b = true) : a ≠ b := by
  rintro rfl; rw [ltB_irrefl] at h; cases h

/-! ### the functions -/
def keyCh (c : Nat) : Bool := decide (97 ≤ c ∧ c ≤ 122) || decide (48 ≤ c ∧ c ≤ 57)
def keyAll (l : List UInt8) : Bool := l.all fun c => keyCh c.toNat
def keyOk (s : ByteArray) : Bool := keyAll s.data.toList && decide (1 ≤ s.size ∧ s.size ≤ 12)
def pairOk (p : Pr) : Bool := keyOk p.1 && decide (p.2.size ≤ 20)
/-- each is right and above the one ahead -/
def okFrom : Option ByteArray → List Pr → Bool
  | _, [] => true
  | none, p :: l => pairOk p && okFrom (some p.1) l
  | some k, p :: l => pairOk p && ltB k p.1 && okFrom (some p.1) l
def pairsOk (l : List Pr) : Bool := okFrom none l && decide (l.length ≤ 60)
def getKey (key : ByteArray) : List Pr → Option ByteArray
  | [] => none
  | p :: l => if p.1 = key then some p.2 else getKey key l
def setFirst (key val : ByteArray) : List Pr → List Pr
  | [] => []
  | p :: l => if p.1 = key then (p.1, val) :: l else p :: setFirst key val l
/-- how many stand ahead of the first that is above -/
def below (key : ByteArray) : List Pr → Nat
  | [] => 0
  | p :: l => if ltB key p.1 = true then 0 else below key l + 1
def putKey (key val : ByteArray) (l : List Pr) : List Pr :=
  if (getKey key l).isSome then setFirst key val l else l.take (below key l) ++ (key, val) :: l.drop (below key l)
def delKey (key : ByteArray) (l : List Pr) : List Pr := l.filter fun p => decide (p.1 ≠ key)
def inB (lo hi key : ByteArray) : Bool := !ltB key lo && (decide (hi.size = 0) || ltB key hi)
def between (lo hi : ByteArray) (l : List Pr) : List Pr := l.filter fun p => inB lo hi p.1
def unionOf (a b : List Pr) : List Pr := b.foldl (fun u p => putKey p.1 p.2 u) a

/-! ### first facts -/
theorem setFirst_length (key val : ByteArray) (l : List Pr) : (setFirst key val l).length = l.length := by
  induction l with
  | nil => rfl
  | cons p l ih => unfold setFirst; split <;> simp [ih]
theorem below_le (key : ByteArray) (l : List Pr) : below key l ≤ l.length := by
  induction l with
  | nil => exact Nat.le_refl _
  | cons p l ih => unfold below; split <;> simp; omega
theorem putKey_length (key val : ByteArray) (l : List Pr) : (putKey key val l).length ≤ l.length + 1 ∧ l.length ≤ (putKey key val l).length := by
  have := below_le key l
  unfold putKey
  split
  · rw [setFirst_length]; omega
  · simp; omega
theorem getKey_drop (key : ByteArray) (l : List Pr) (k : Nat) (h : k < l.length) : getKey key (l.drop k) = if l[k].1 = key then some l[k].2 else getKey key (l.drop (k + 1)) := by
  rw [List.drop_eq_getElem_cons h, getKey]
theorem below_drop (key : ByteArray) (l : List Pr) (k : Nat) (h : k < l.length) : below key (l.drop k) = if ltB key l[k].1 = true then 0 else below key (l.drop (k + 1)) + 1 := by
  rw [List.drop_eq_getElem_cons h, below]
/-- the first of a key is at place k: what lies ahead has others -/
theorem setFirst_at (key val : ByteArray) (l : List Pr) (k : Nat) (h : k < l.length) (he : l[k].1 = key) (hn : getKey key (l.take k) = none) : setFirst key val l = l.set k (key, val) := by
  induction l generalizing k with
  | nil => simp at h
  | cons p l ih =>
    cases k with
    | zero => simp at he; unfold setFirst; rw [if_pos he, he]; rfl
    | succ k =>
      rw [List.take_succ_cons, getKey] at hn
      by_cases hp : p.1 = key
      · rw [if_pos hp] at hn; cases hn
      · rw [if_neg hp] at hn
        unfold setFirst
        rw [if_neg hp, List.set_cons_succ, ih k (by simpa using h) (by simpa using he) hn]
theorem getKey_snoc_none (key : ByteArray) (l : List Pr) (p : Pr) (h : getKey key l = none) (hp : p.1 ≠ key) : getKey key (l ++ [p]) = none := by
  induction l with
  | nil => simp [getKey, hp]
  | cons q l ih =>
    rw [getKey] at h
    by_cases hq : q.1 = key
    · rw [if_pos hq] at h; cases h
    · rw [if_neg hq] at h
      rw [List.cons_append, getKey, if_neg hq]
      exact ih h
theorem getKey_append (key : ByteArray) (a b : List Pr) : getKey key (a ++ b) = (getKey key a).or (getKey key b) := by
  induction a with
  | nil => rfl
  | cons q l ih =>
    rw [List.cons_append, getKey, getKey]
    by_cases hq : q.1 = key
    · rw [if_pos hq, if_pos hq]; rfl
    · rw [if_neg hq, if_neg hq, ih]
theorem okFrom_snoc (o : Option ByteArray) (l : List Pr) (p : Pr) : okFrom o (l ++ [p]) = (okFrom o l && pairOk p && match (l.getLast?.map (·.1)).or o with | none => true | some k => ltB k p.1) := by
  induction l generalizing o with
  | nil => cases o <;> simp [okFrom]
  | cons q l ih =>
    have e : ((q :: l).getLast?.map (·.1)).or o = (l.getLast?.map (·.1)).or (some q.1) := by
      cases l with
      | nil => rfl
      | cons r l =>
        rw [List.getLast?_cons_cons]
        cases h : (r :: l).getLast? with
        | none => simp at h
        | some v => rfl
    cases o <;> simp only [List.cons_append, okFrom, ih, e, Bool.and_assoc]

end Go.Proofs.YtdebbgodhpcijaaGreatDoor.pairs

namespace Go.Proofs.YtdebbgodhpcijaaGreatDoor.pairs
open Go Go.RowKit Go.Proofs.YtdebbgodhpcijaaGreatDoor.base
set_option linter.unusedVariables false
set_option linter.unusedSimpArgs false

def small (p : Pr) : Prop := p.1.size ≤ maxLen ∧ p.2.size ≤ maxLen
def pairVals (l : List Pr) : List Value := l.flatMap fun p => [.string p.1, .string p.2]
theorem pairVals_cons (p : Pr) (l : List Pr) : pairVals (p :: l) = .string p.1 :: .string p.2 :: pairVals l := rfl
theorem pairVals_append (a b : List Pr) : pairVals (a ++ b) = pairVals a ++ pairVals b := by simp [pairVals]
theorem pairVals_length (l : List Pr) : (pairVals l).length = l.length * 2 := by
  induction l with
  | nil => rfl
  | cons p l ih => rw [pairVals_cons]; simp [ih]; omega
theorem pairVals_key (l : List Pr) (i : Nat) (h : i < l.length) : (pairVals l)[i * 2]? = some (.string l[i].1) := by
  induction l generalizing i with
  | nil => simp at h
  | cons p l ih =>
    cases i with
    | zero => rfl
    | succ i => rw [pairVals_cons, show (i + 1) * 2 = i * 2 + 1 + 1 by omega]; simpa using ih i (by simpa using h)
theorem pairVals_val (l : List Pr) (i : Nat) (h : i < l.length) : (pairVals l)[i * 2 + 1]? = some (.string l[i].2) := by
  induction l generalizing i with
  | nil => simp at h
  | cons p l ih =>
    cases i with
    | zero => rfl
    | succ i => rw [pairVals_cons, show (i + 1) * 2 + 1 = i * 2 + 1 + 1 + 1 by omega]; simpa using ih i (by simpa using h)
theorem pairVals_oneCell (l : List Pr) : ∀ v ∈ pairVals l, v.oneCell' = true := by
  intro v hv
  obtain ⟨p, _, hp⟩ := List.mem_flatMap.1 hv
  simp at hp
  rcases hp with rfl | rfl <;> rfl
theorem pairVals_setKey (l : List Pr) (i : Nat) (h : i < l.length) (k : ByteArray) : (pairVals l).set (i * 2) (.string k) = pairVals (l.set i (k, l[i].2)) := by
  induction l generalizing i with
  | nil => simp at h
  | cons p l ih =>
    cases i with
    | zero => rfl
    | succ i => rw [pairVals_cons, show (i + 1) * 2 = i * 2 + 1 + 1 by omega]; simp only [List.set_cons_succ, pairVals_cons, List.getElem_cons_succ]; rw [ih i (by simpa using h)]
theorem pairVals_setVal (l : List Pr) (i : Nat) (h : i < l.length) (v : ByteArray) : (pairVals l).set (i * 2 + 1) (.string v) = pairVals (l.set i (l[i].1, v)) := by
  induction l generalizing i with
  | nil => simp at h
  | cons p l ih =>
    cases i with
    | zero => rfl
    | succ i => rw [pairVals_cons, show (i + 1) * 2 + 1 = i * 2 + 1 + 1 + 1 by omega]; simp only [List.set_cons_succ, pairVals_cons, List.getElem_cons_succ]; rw [ih i (by simpa using h)]

/-! ### slices of pairs that are read -/
/-- the two cells of each -/
def CellsP (w : World) (b off : Nat) (l : List Pr) : Prop := ∀ i (h : i < l.length), w.cell? ⟨b, off + i * 2, none⟩ = some (.string l[i].1) ∧ w.cell? ⟨b, off + i * 2 + 1, none⟩ = some (.string l[i].2)
def SlP (w : World) (a : Option Addr) (len : Nat) (l : List Pr) : Prop :=
  l.length = len ∧ len ≤ maxLen ∧ (∀ p ∈ l, small p) ∧ (0 < len → ∃ b off, a = some ⟨b, off, none⟩ ∧ CellsP w b off l)
theorem slp_nil (w : World) (a : Option Addr) : SlP w a 0 [] := ⟨rfl, Nat.zero_le _, (fun _ h => absurd h List.not_mem_nil), fun h => absurd h (by omega)⟩
section
variable {w w' : World} {a : Option Addr} {b off len base base' g n cap : Nat} {l : List Pr} {row : Option Nat}
theorem SlP.cells (h : SlP w (some ⟨b, off, none⟩) len l) : CellsP w b off l := by
  intro i hi
  obtain ⟨b', off', e, hc⟩ := h.2.2.2 (by have := h.1; omega)
  simp only [Option.some.injEq, Addr.mk.injEq, and_true] at e
  obtain ⟨rfl, rfl⟩ := e
  exact hc i hi
theorem SlP.lt (h : SlP w (some ⟨b, off, none⟩) len l) (h0 : 0 < len) : b < w.heap.size :=
  World.block_lt_of_cell? w _ (h.cells 0 (by have := h.1; omega)).1
theorem CellsP.keep (h : CellsP w b off l) (hk : ∀ o v, w.cell? ⟨b, o, none⟩ = some v → w'.cell? ⟨b, o, none⟩ = some v) : CellsP w' b off l :=
  fun i hi => ⟨hk _ _ (h i hi).1, hk _ _ (h i hi).2⟩
theorem SlP.below (h : SlP w a len l) (hb : Below w.heap.size w w') : SlP w' a len l := by
  obtain ⟨h1, h2, h4, h3⟩ := h
  refine ⟨h1, h2, h4, fun h0 => ?_⟩
  obtain ⟨b, off, rfl, hc⟩ := h3 h0
  exact ⟨b, off, rfl, hc.keep fun o v hv => (hb.cell (p := ⟨b, o, none⟩) (World.block_lt_of_cell? w _ hv)).trans hv⟩
theorem SlP.grown (h : SlP w (some ⟨b, off, none⟩) len l) (hg : w.grownBy w' row) (hne : some b ≠ row) : SlP w' (some ⟨b, off, none⟩) len l :=
  ⟨h.1, h.2.1, h.2.2.1, fun _ => ⟨b, off, rfl, h.cells.keep fun o v hv => hg.cell hv hne⟩⟩

/-! ### rows of pairs that a call made -/
def OwnP (w : World) (base g n cap : Nat) (l : List Pr) : Prop := l.length = n ∧ (∀ p ∈ l, small p) ∧ w.ownsRow base 49 2 (.slice (some ⟨g, 0, none⟩) n cap) n (pairVals l)
theorem OwnP.lt (h : OwnP w base g n cap l) : base ≤ g ∧ g < w.heap.size := h.2.2.lt g rfl
theorem OwnP.cases (h : OwnP w base g n cap l) : n ≤ cap ∧ cap ≤ maxLen := by
  rcases h.2.2.2 with ⟨h', _⟩ | ⟨g', cap', cur, h', _, hg, h1, h2, _⟩
  · simp at h'
  · simp only [Value.slice.injEq, Option.some.injEq, Addr.mk.injEq, and_true, true_and] at h'
    obtain ⟨rfl, rfl⟩ := h'
    exact ⟨h1, h2⟩
theorem OwnP.mono (h : OwnP w base g n cap l) (hb : base' ≤ base) : OwnP w base' g n cap l := by
  refine ⟨h.1, h.2.1, h.2.2.1, ?_⟩
  rcases h.2.2.2 with h' | ⟨g', cap', cur, h', h0, r⟩
  · exact .inl h'
  · exact .inr ⟨g', cap', cur, h', by omega, r⟩
theorem OwnP.cell (h : OwnP w base g n cap l) : CellsP w g 0 l := by
  intro i hi
  have hl := h.1
  have k1 := h.2.2.cellAt (i * 2) (by omega)
  have k2 := h.2.2.cellAt (i * 2 + 1) (by omega)
  rw [pairVals_key l i hi] at k1
  rw [pairVals_val l i hi] at k2
  rw [Nat.zero_add]
  exact ⟨k1, k2⟩
theorem OwnP.key (h : OwnP w base g n cap l) (i : Nat) (hi : i < l.length) : w.cell? ⟨g, i * 2, none⟩ = some (.string l[i].1) := by
  have := (h.cell i hi).1; rwa [Nat.zero_add] at this
theorem OwnP.val (h : OwnP w base g n cap l) (i : Nat) (hi : i < l.length) : w.cell? ⟨g, i * 2 + 1, none⟩ = some (.string l[i].2) := by
  have := (h.cell i hi).2; rwa [Nat.zero_add] at this
theorem OwnP.frozen (h : OwnP w base g n cap l) (i : Nat) : w.frozen? ⟨g, i, none⟩ = false := h.2.2.frozenAt i
theorem OwnP.sl (h : OwnP w base g n cap l) : SlP w (some ⟨g, 0, none⟩) n l :=
  ⟨h.1, by have := h.cases; omega, h.2.1, fun _ => ⟨g, 0, rfl, h.cell⟩⟩
theorem OwnP.grown (h : OwnP w base g n cap l) (hg : w.grownBy w' row) (hne : some g ≠ row) : OwnP w' base g n cap l :=
  ⟨h.1, h.2.1, h.2.2.kept hg (.inr hne)⟩
theorem OwnP.below (h : OwnP w base g n cap l) (hb : Below w.heap.size w w') : OwnP w' base g n cap l :=
  ⟨h.1, h.2.1, h.2.2.kept (row := none) ⟨hb.os, hb.tape, hb.output, hb.size, fun k hk _ => hb.block k hk⟩ (.inr (by simp [Value.ownBlock]))⟩
theorem mem_set_small {i : Nat} {p : Pr} (h : ∀ q ∈ l, small q) (hp : small p) : ∀ q ∈ l.set i p, small q := by
  intro q hq
  rcases List.mem_or_eq_of_mem_set hq with h1 | h1
  · exact h q h1
  · subst h1; exact hp
theorem OwnP.setKey (h : OwnP w base g n cap l) (i : Nat) (hi : i < l.length) (k : ByteArray) (hk : k.size ≤ maxLen) :
    OwnP (w.setCell ⟨g, i * 2, none⟩ (.string k)) base g n cap (l.set i (k, l[i].2)) ∧ w.grownBy (w.setCell ⟨g, i * 2, none⟩ (.string k)) (some g) := by
  have hs := h.2.2.stored (i * 2) (.string k)
  rw [pairVals_setKey l i hi] at hs
  exact ⟨⟨by simpa using h.1, mem_set_small h.2.1 ⟨hk, (h.2.1 _ (List.getElem_mem hi)).2⟩, hs.1⟩, hs.2⟩
theorem OwnP.setVal (h : OwnP w base g n cap l) (i : Nat) (hi : i < l.length) (v : ByteArray) (hv : v.size ≤ maxLen) :
    OwnP (w.setCell ⟨g, i * 2 + 1, none⟩ (.string v)) base g n cap (l.set i (l[i].1, v)) ∧ w.grownBy (w.setCell ⟨g, i * 2 + 1, none⟩ (.string v)) (some g) := by
  have hs := h.2.2.stored (i * 2 + 1) (.string v)
  rw [pairVals_setVal l i hi] at hs
  exact ⟨⟨by simpa using h.1, mem_set_small h.2.1 ⟨(h.2.1 _ (List.getElem_mem hi)).1, hv⟩, hs.1⟩, hs.2⟩
theorem OwnP.setBoth (h : OwnP w base g n cap l) (i : Nat) (hi : i < l.length) (k v : ByteArray) (hk : k.size ≤ maxLen) (hv : v.size ≤ maxLen) :
    OwnP ((w.setCell ⟨g, i * 2, none⟩ (.string k)).setCell ⟨g, i * 2 + 1, none⟩ (.string v)) base g n cap (l.set i (k, v)) ∧ w.grownBy ((w.setCell ⟨g, i * 2, none⟩ (.string k)).setCell ⟨g, i * 2 + 1, none⟩ (.string v)) (some g) := by
  have h1 := h.setKey i hi k hk
  have h2 := h1.1.setVal i (by simpa using hi) v hv
  simp only [List.getElem_set_self, List.set_set] at h2
  exact ⟨h2.1, grownBy_trans h1.2 h2.2⟩
theorem ownP_val {v' : Value} (hl : l.length = n) (hs : ∀ p ∈ l, small p) (h0 : ¬ v' = .slice none 0 0)
    (h : w'.ownsRow base 49 2 v' n (pairVals l)) : ∃ g' cap', v' = .slice (some ⟨g', 0, none⟩) n cap' ∧ OwnP w' base g' n cap' l := by
  rcases h.2 with ⟨h2, _⟩ | ⟨g', cap', cur, hv, _⟩
  · exact absurd h2 h0
  · subst hv
    exact ⟨g', cap', rfl, hl, hs, h⟩
theorem ownP_made (w : World) (base : Nat) (hb : base ≤ w.heap.size) : OwnP (w.alloc (.cells #[] 49)) base w.heap.size 0 0 [] :=
  ⟨rfl, fun s h => absurd h List.not_mem_nil, World.ownsRow_made w #[] 0 hb (Nat.zero_le _) rfl⟩
theorem cells_pairs (h : CellsP w b off l) : ∀ j v, (pairVals l)[j]? = some v → w.cell? ((⟨b, off, none⟩ : Addr).add j) = some v := by
  intro j v hj
  have hjl : j < l.length * 2 := by have := (List.getElem?_eq_some_iff.1 hj).1; rwa [pairVals_length] at this
  rw [Addr.add_lit]
  have hm : j = (j / 2) * 2 ∨ j = (j / 2) * 2 + 1 := by omega
  rcases hm with e | e
  · rw [e, pairVals_key l (j / 2) (by omega)] at hj
    rw [e, ← hj]; exact (h (j / 2) (by omega)).1
  · rw [e, pairVals_val l (j / 2) (by omega)] at hj
    rw [e, ← hj]; exact (h (j / 2) (by omega)).2
end
theorem infoP : (Tryz.prog.info? 49).map (fun i => (i.zero, i.size, i.bytes)) = some (some (.agg #[.string ⟨#[]⟩, .string ⟨#[]⟩]), 2, 32) := by kernel_rfl

end Go.Proofs.YtdebbgodhpcijaaGreatDoor.pairs

namespace Go.Proofs.YtdebbgodhpcijaaGreatDoor.pairs
open Go
set_option linter.unusedVariables false
set_option linter.unusedSimpArgs false

/-! ### rising lists -/
def Rise (l : List Pr) : Prop := l.Pairwise fun p q => ltB p.1 q.1 = true
theorem okFrom_iff (o : Option ByteArray) (l : List Pr) : okFrom o l = true ↔ (∀ p ∈ l, pairOk p = true) ∧ Rise l ∧ ∀ k, o = some k → ∀ p ∈ l, ltB k p.1 = true := by
  induction l generalizing o with
  | nil => cases o <;> simp [okFrom, Rise]
  | cons q l ih =>
    have hq := ih (some q.1)
    constructor
    · intro h
      have h' : pairOk q = true ∧ (∀ k, o = some k → ltB k q.1 = true) ∧ okFrom (some q.1) l = true := by
        cases o with
        | none => simp only [okFrom, Bool.and_eq_true] at h; exact ⟨h.1, (fun k e => by cases e), h.2⟩
        | some k => simp only [okFrom, Bool.and_eq_true] at h; exact ⟨h.1.1, (fun k' e => by cases e; exact h.1.2), h.2⟩
      obtain ⟨h1, h2, h3⟩ := h'
      obtain ⟨a1, a2, a3⟩ := hq.1 h3
      refine ⟨?_, ?_, ?_⟩
      · intro p hp
        rcases List.mem_cons.1 hp with e | e
        · subst e; exact h1
        · exact a1 p e
      · exact List.Pairwise.cons (fun p hp => a3 _ rfl p hp) a2
      · intro k hk p hp
        rcases List.mem_cons.1 hp with e | e
        · subst e; exact h2 k hk
        · exact ltB_trans (h2 k hk) (a3 _ rfl p e)
    · rintro ⟨h1, h2, h3⟩
      have hr := List.pairwise_cons.1 h2
      have h4 : okFrom (some q.1) l = true := hq.2 ⟨fun p hp => h1 p (List.mem_cons_of_mem _ hp), hr.2, fun k e p hp => by cases e; exact hr.1 p hp⟩
      cases o with
      | none => simp only [okFrom, Bool.and_eq_true]; exact ⟨h1 q List.mem_cons_self, h4⟩
      | some k => simp only [okFrom, Bool.and_eq_true]; exact ⟨⟨h1 q List.mem_cons_self, h3 k rfl q List.mem_cons_self⟩, h4⟩
theorem pairsOk_iff (l : List Pr) : pairsOk l = true ↔ ((∀ p ∈ l, pairOk p = true) ∧ Rise l) ∧ l.length ≤ 60 := by
  unfold pairsOk
  rw [Bool.and_eq_true, okFrom_iff, decide_eq_true_iff]
  constructor
  · rintro ⟨⟨a, b, _⟩, c⟩; exact ⟨⟨a, b⟩, c⟩
  · rintro ⟨⟨a, b⟩, c⟩; exact ⟨⟨a, b, fun k e => by cases e⟩, c⟩

/-! ### what is got -/
theorem getKey_some_mem {key v : ByteArray} {l : List Pr} (h : getKey key l = some v) : (key, v) ∈ l := by
  induction l with
  | nil => cases h
  | cons p l ih =>
    rw [getKey] at h
    by_cases hp : p.1 = key
    · rw [if_pos hp] at h
      have : p.2 = v := Option.some.inj h
      subst hp; subst this; exact List.mem_cons_self
    · rw [if_neg hp] at h; exact List.mem_cons_of_mem _ (ih h)
theorem getKey_none_iff {key : ByteArray} {l : List Pr} : getKey key l = none ↔ ∀ p ∈ l, p.1 ≠ key := by
  induction l with
  | nil => simp [getKey]
  | cons p l ih =>
    rw [getKey]
    by_cases hp : p.1 = key
    · rw [if_pos hp]
      exact ⟨fun h => (by cases h), fun h => absurd hp (h p List.mem_cons_self)⟩
    · rw [if_neg hp, ih]; simp [hp]
theorem getKey_isSome {l : List Pr} {p : Pr} (h : p ∈ l) : ∃ v, getKey p.1 l = some v := by
  cases e : getKey p.1 l with
  | some v => exact ⟨v, rfl⟩
  | none => exact absurd rfl (getKey_none_iff.1 e p h)
theorem getKey_setFirst_same {key val : ByteArray} {l : List Pr} (h : (getKey key l).isSome = true) : getKey key (setFirst key val l) = some val := by
  induction l with
  | nil => cases h
  | cons p l ih =>
    rw [getKey] at h
    by_cases hp : p.1 = key
    · rw [setFirst, if_pos hp, getKey, if_pos hp]
    · rw [if_neg hp] at h; rw [setFirst, if_neg hp, getKey, if_neg hp]; exact ih h
theorem getKey_setFirst_other {key val k : ByteArray} {l : List Pr} (h : k ≠ key) : getKey k (setFirst key val l) = getKey k l := by
  induction l with
  | nil => rfl
  | cons p l ih =>
    by_cases hp : p.1 = key
    · rw [setFirst, if_pos hp, getKey, getKey, if_neg (by rw [hp]; exact h.symm), if_neg (by rw [hp]; exact h.symm)]
    · rw [setFirst, if_neg hp, getKey, getKey, ih]
theorem getKey_put_same (key val : ByteArray) (l : List Pr) : getKey key (putKey key val l) = some val := by
  unfold putKey
  split
  · rename_i h; exact getKey_setFirst_same h
  · rename_i h
    have hn : getKey key l = none := by cases e : getKey key l with | none => rfl | some v => rw [e] at h; exact absurd rfl h
    have h1 := getKey_none_iff.1 hn
    rw [getKey_append, getKey_none_iff.2 (fun p hp => h1 p (List.mem_of_mem_take hp)), getKey, if_pos rfl]; rfl
theorem getKey_put_other {key k : ByteArray} (val : ByteArray) (l : List Pr) (h : k ≠ key) : getKey k (putKey key val l) = getKey k l := by
  unfold putKey
  split
  · exact getKey_setFirst_other h
  · rw [getKey_append, getKey, if_neg h.symm, ← getKey_append, List.take_append_drop]
theorem getKey_del_same (key : ByteArray) (l : List Pr) : getKey key (delKey key l) = none :=
  getKey_none_iff.2 fun p hp => of_decide_eq_true (List.mem_filter.1 hp).2
theorem getKey_del_other {key k : ByteArray} (l : List Pr) (h : k ≠ key) : getKey k (delKey key l) = getKey k l := by
  unfold delKey
  induction l with
  | nil => rfl
  | cons p l ih =>
    by_cases hp : p.1 = key
    · rw [List.filter_cons_of_neg (by simp [hp]), ih, getKey, if_neg (by rw [hp]; exact h.symm)]
    · rw [List.filter_cons_of_pos (by simp [hp]), getKey, getKey, ih]

/-! ### pairs that stay right -/
theorem setFirst_keys (key val : ByteArray) (l : List Pr) : (setFirst key val l).map (·.1) = l.map (·.1) := by
  induction l with
  | nil => rfl
  | cons p l ih => unfold setFirst; split <;> simp [ih]
theorem rise_keys {l m : List Pr} (h : l.map (·.1) = m.map (·.1)) (hl : Rise l) : Rise m := by
  have e : ∀ l : List Pr, Rise l ↔ (l.map (·.1)).Pairwise fun a b => ltB a b = true := fun l => by unfold Rise; rw [List.pairwise_map]
  rw [e] at *; rw [← h]; exact hl
theorem setFirst_mem {key val : ByteArray} {l : List Pr} {p : Pr} (h : p ∈ setFirst key val l) : p ∈ l ∨ p = (key, val) := by
  induction l with
  | nil => exact absurd h List.not_mem_nil
  | cons q l ih =>
    unfold setFirst at h
    split at h
    · rename_i hq
      rcases List.mem_cons.1 h with e | e
      · right; rw [e, hq]
      · left; exact List.mem_cons_of_mem _ e
    · rcases List.mem_cons.1 h with e | e
      · left; rw [e]; exact List.mem_cons_self
      · rcases ih e with h1 | h1
        · left; exact List.mem_cons_of_mem _ h1
        · right; exact h1
theorem putKey_mem {key val : ByteArray} {l : List Pr} {p : Pr} (h : p ∈ putKey key val l) : p ∈ l ∨ p = (key, val) := by
  unfold putKey at h
  split at h
  · exact setFirst_mem h
  · rcases List.mem_append.1 h with h1 | h1
    · left; exact List.mem_of_mem_take h1
    · rcases List.mem_cons.1 h1 with h2 | h2
      · right; exact h2
      · left; exact List.mem_of_mem_drop h2
theorem below_take {key : ByteArray} {l : List Pr} : ∀ p ∈ l.take (below key l), ltB key p.1 = false := by
  induction l with
  | nil => intro p hp; exact absurd hp (by simp)
  | cons q l ih =>
    intro p hp
    unfold below at hp
    split at hp
    · exact absurd hp (by simp)
    · rename_i hq
      rw [List.take_succ_cons] at hp
      rcases List.mem_cons.1 hp with e | e
      · subst e; simpa using hq
      · exact ih p e
theorem below_dropR {key : ByteArray} {l : List Pr} (hr : Rise l) : ∀ p ∈ l.drop (below key l), ltB key p.1 = true := by
  induction l with
  | nil => intro p hp; exact absurd hp (by simp)
  | cons q l ih =>
    have hr' := List.pairwise_cons.1 hr
    intro p hp
    unfold below at hp
    split at hp
    · rename_i hq
      rw [List.drop_zero] at hp
      rcases List.mem_cons.1 hp with e | e
      · subst e; exact hq
      · exact ltB_trans hq (hr'.1 p e)
    · rw [List.drop_succ_cons] at hp; exact ih hr'.2 p hp
theorem rise_put {key val : ByteArray} {l : List Pr} (h : Rise l) : Rise (putKey key val l) := by
  unfold putKey
  split
  · exact rise_keys (setFirst_keys key val l).symm h
  · rename_i hn
    have hn' : getKey key l = none := by cases e : getKey key l with | none => rfl | some v => rw [e] at hn; exact absurd rfl hn
    have hne := getKey_none_iff.1 hn'
    have hsplit : Rise (l.take (below key l) ++ l.drop (below key l)) := by rw [List.take_append_drop]; exact h
    have hp := List.pairwise_append.1 hsplit
    refine List.pairwise_append.2 ⟨hp.1, List.Pairwise.cons (fun p hp' => below_dropR h p hp') hp.2.1, ?_⟩
    intro p hp1 q hq
    have hpk : ltB p.1 key = true := by
      have h1 := below_take p hp1
      cases h2 : ltB p.1 key
      · exact absurd (ltB_total h2 h1) (hne p (List.mem_of_mem_take hp1))
      · rfl
    rcases List.mem_cons.1 hq with e | e
    · subst e; exact hpk
    · exact hp.2.2 p hp1 q e
theorem pairsOk_put {key val : ByteArray} {l : List Pr} (h : pairsOk l = true) (hk : keyOk key = true) (hv : val.size ≤ 20) (hl : l.length ≠ 60) : pairsOk (putKey key val l) = true := by
  obtain ⟨⟨h1, h2⟩, h3⟩ := (pairsOk_iff l).1 h
  refine (pairsOk_iff _).2 ⟨⟨fun p hp => ?_, rise_put h2⟩, by have := putKey_length key val l; omega⟩
  rcases putKey_mem hp with e | e
  · exact h1 p e
  · subst e; unfold pairOk; rw [hk]; simpa using hv
theorem pairsOk_del {key : ByteArray} {l : List Pr} (h1 : ∀ p ∈ l, pairOk p = true) (h2 : Rise l) (h3 : (delKey key l).length ≤ 60) : pairsOk (delKey key l) = true :=
  (pairsOk_iff _).2 ⟨⟨fun p hp => h1 p (List.mem_filter.1 hp).1, List.Pairwise.filter _ h2⟩, h3⟩

/-! ### between -/
theorem ltB_empty (a : ByteArray) : ltB a ⟨#[]⟩ = false := by
  rw [Bool.eq_false_iff]; intro h; exact absurd ((ltB_iff a ⟨#[]⟩).1 h) (by simp)
theorem inB_open (lo k : ByteArray) : inB lo ⟨#[]⟩ k = !ltB k lo := by
  unfold inB; rw [decide_eq_true (show (⟨#[]⟩ : ByteArray).size = 0 from rfl)]; simp
theorem between_all (l : List Pr) : between ⟨#[]⟩ ⟨#[]⟩ l = l := by
  unfold between
  rw [List.filter_eq_self]
  intro p _
  unfold inB; rw [ltB_empty]; rfl
theorem between_len (lo hi : ByteArray) (l : List Pr) (h0 : hi.size ≠ 0) (h : ltB hi lo = false) : (between lo ⟨#[]⟩ l).length = (between lo hi l).length + (between hi ⟨#[]⟩ l).length := by
  unfold between
  induction l with
  | nil => rfl
  | cons p l ih =>
    have e1 := inB_open lo p.1
    have e2 : inB lo hi p.1 = (!ltB p.1 lo && ltB p.1 hi) := by unfold inB; simp [h0]
    have e3 := inB_open hi p.1
    simp only [List.filter_cons, e1, e2, e3]
    cases a1 : ltB p.1 lo
    · cases a2 : ltB p.1 hi
      · simp [a1, a2]; omega
      · simp [a1, a2]; omega
    · have a2 : ltB p.1 hi = true := by
        cases a2 : ltB p.1 hi
        · cases a3 : ltB lo hi
          · have := ltB_total h a3; rw [← this] at a1; rw [a1] at a2; cases a2
          · exact absurd (ltB_trans a1 a3) (by rw [a2]; simp)
        · rfl
      simp [a1, a2]; omega
theorem between_split (lo hi : ByteArray) (l : List Pr) (h0 : hi.size ≠ 0) (h : ltB hi lo = false) (hr : Rise l) : between lo ⟨#[]⟩ l = between lo hi l ++ between hi ⟨#[]⟩ l := by
  unfold between
  induction l with
  | nil => rfl
  | cons p l ih =>
    have hr' := List.pairwise_cons.1 hr
    have ih' := ih hr'.2
    have e1 := inB_open lo
    have e2 : ∀ k, inB lo hi k = (!ltB k lo && ltB k hi) := fun k => by unfold inB; simp [h0]
    have e3 := inB_open hi
    cases a1 : ltB p.1 lo
    · cases a2 : ltB p.1 hi
      · have hnone : l.filter (fun p => inB lo hi p.1) = [] := by
          rw [List.filter_eq_nil_iff]
          intro q hq
          rw [e2]
          have h4 := hr'.1 q hq
          have : ltB q.1 hi = false := by
            cases h5 : ltB q.1 hi
            · rfl
            · exact absurd (ltB_trans h4 h5) (by rw [a2]; simp)
          simp [this]
        rw [hnone, List.nil_append] at ih'
        rw [List.filter_cons_of_pos (by rw [e1, a1]; rfl), List.filter_cons_of_neg (by rw [e2, a1, a2]; simp), List.filter_cons_of_pos (by rw [e3, a2]; rfl), hnone, ih']; rfl
      · rw [List.filter_cons_of_pos (by rw [e1, a1]; rfl), List.filter_cons_of_pos (by rw [e2, a1, a2]; rfl), List.filter_cons_of_neg (by rw [e3, a2]; simp), ih']; rfl
    · have a2 : ltB p.1 hi = true := by
        cases a2 : ltB p.1 hi
        · cases a3 : ltB lo hi
          · have := ltB_total h a3; rw [← this] at a1; rw [a1] at a2; cases a2
          · exact absurd (ltB_trans a1 a3) (by rw [a2]; simp)
        · rfl
      rw [List.filter_cons_of_neg (by rw [e1, a1]; simp), List.filter_cons_of_neg (by rw [e2, a1]; simp), List.filter_cons_of_neg (by rw [e3, a2]; simp), ih']

/-! ### union -/
theorem unionOf_cons (a : List Pr) (p : Pr) (b : List Pr) : unionOf a (p :: b) = unionOf (putKey p.1 p.2 a) b := rfl
theorem getKey_union_other (a b : List Pr) (k : ByteArray) (h : ∀ p ∈ b, p.1 ≠ k) : getKey k (unionOf a b) = getKey k a := by
  induction b generalizing a with
  | nil => rfl
  | cons p b ih =>
    rw [unionOf_cons, ih _ (fun q hq => h q (List.mem_cons_of_mem _ hq)), getKey_put_other _ _ (h p List.mem_cons_self).symm]
theorem getKey_union (a b : List Pr) (hr : Rise b) : ∀ p ∈ b, getKey p.1 (unionOf a b) = some p.2 := by
  induction b generalizing a with
  | nil => intro p hp; exact absurd hp List.not_mem_nil
  | cons q b ih =>
    have hr' := List.pairwise_cons.1 hr
    intro p hp
    rw [unionOf_cons]
    rcases List.mem_cons.1 hp with e | e
    · subst e
      rw [getKey_union_other _ _ _ (fun r hr2 => (ltB_ne (hr'.1 r hr2)).symm), getKey_put_same]
    · exact ih _ hr'.2 p e
theorem setFirst_id {key val : ByteArray} {l : List Pr} (h : getKey key l = some val) : setFirst key val l = l := by
  induction l with
  | nil => rfl
  | cons p l ih =>
    rw [getKey] at h
    unfold setFirst
    by_cases hp : p.1 = key
    · rw [if_pos hp] at h ⊢; rw [← Option.some.inj h]
    · rw [if_neg hp] at h ⊢; rw [ih h]
theorem put_id {key val : ByteArray} {l : List Pr} (h : getKey key l = some val) : putKey key val l = l := by
  unfold putKey; rw [h, if_pos (by rfl), setFirst_id h]
theorem union_id (u b : List Pr) (h : ∀ p ∈ b, getKey p.1 u = some p.2) : unionOf u b = u := by
  induction b with
  | nil => rfl
  | cons p b ih => rw [unionOf_cons, put_id (h p List.mem_cons_self), ih (fun q hq => h q (List.mem_cons_of_mem _ hq))]
theorem union_len (a b : List Pr) : a.length ≤ (unionOf a b).length ∧ (unionOf a b).length ≤ a.length + b.length := by
  induction b generalizing a with
  | nil => simp [unionOf]
  | cons p b ih =>
    have := ih (putKey p.1 p.2 a)
    have := putKey_length p.1 p.2 a
    rw [unionOf_cons, List.length_cons]; omega

end Go.Proofs.YtdebbgodhpcijaaGreatDoor.pairs
