/- Writing a number: the program's and the specification's PutNum answer as one and the same function. Writing texts: the program's and the specification's PutText answer as one and the same function. Plain mathematics of pairs of texts. -/
import Derived.Test.YteammdkipnfmnaaGreatDoorRows
import Derived.Test.YteammdkipnfmnaaGreatDoorShaa
import Derived.Laws.CopyOwn
import Derived.Lib.AppendStr
import Derived.Sort.Walk0
import Derived.WideShapes
namespace Go.Proofs.YteammdkipnfmnaaGreatDoor.putnum
open Go.RowKit Go.Proofs.YteammdkipnfmnaaGreatDoor.base Go.Proofs.YteammdkipnfmnaaGreatDoor.help
set_option linter.unusedVariables false
set_option linter.unusedSimpArgs false

def groups : Nat → Nat → List UInt8
  | 0, n => [UInt8.ofNat n]
  | f + 1, n => if n < 128 then [UInt8.ofNat n] else UInt8.ofNat (128 + n % 128) :: groups f (n / 128)
def clamp (n : Int) : Nat := if n < 0 then 0 else if 1000000000 < n then 1000000000 else n.toNat
def numBytes (n : Int) : List UInt8 := groups 4 (clamp n)
theorem clamp_le (n : Int) : clamp n ≤ 1000000000 := by unfold clamp; split <;> (try split) <;> omega
theorem groups_length (f n : Nat) : 1 ≤ (groups f n).length ∧ (groups f n).length ≤ f + 1 := by
  induction f generalizing n with
  | zero => simp [groups]
  | succ f ih =>
    rw [groups]
    split
    · simp
    · have := ih (n / 128); simp only [List.length_cons]; omega
theorem numBytes_length (n : Int) : 1 ≤ (numBytes n).length ∧ (numBytes n).length ≤ 5 := groups_length 4 _
theorem groups_low (f n : Nat) (h : n < 128) : groups f n = [UInt8.ofNat n] := by
  cases f with
  | zero => rfl
  | succ f => rw [groups, if_pos h]
theorem groups_high (f n : Nat) (h : 128 ≤ n) : groups (f + 1) n = UInt8.ofNat (128 + n % 128) :: groups f (n / 128) := by
  rw [groups, if_neg (by omega)]

theorem byte_hi (m : Nat) : 128 + (m : Int) % 128 = ((UInt8.ofNat (128 + m % 128)).toNat : Int) := by rw [byte_of]; omega
theorem byte_lo (m : Nat) (h : m < 128) : ((UInt8.ofNat m).toNat : Int) = (m : Int) := by rw [byte_of]; omega
set_option maxRecDepth 100000 in
set_option maxHeartbeats 1000000 in
theorem addNum (g n cap base : Nat) (bs : List UInt8) (N : Int) (w : World) (h : Own w base g n cap bs) (hb : base ≤ w.heap.size) (hN : (Lit.int .i64 N).wf = true) (hsz : n ≤ 1099511627776) :
    Calls Tryz.prog 79 #[.slice (some ⟨g, 0, none⟩) n cap, .int .i64 N] w fun e w' =>
      ∃ g' n' cap', e = .returned (.slice (some ⟨g', 0, none⟩) n' cap') ∧ Own w' base g' n' cap' (bs ++ numBytes N) ∧ Below base w w' ∧ Keeps w w' := by
  have hNb : -9223372036854775808 ≤ N ∧ N ≤ 9223372036854775807 := by simpa [Lit.wf, IntKind.min, IntKind.max, IntKind.signed, IntKind.bits] using hN
  obtain ⟨i0, hi, hz0, hz1, hz2⟩ := info_parts info8
  have hcases : N < 0 ∨ 1000000000 < N ∨ (0 ≤ N ∧ N ≤ 1000000000) := by omega
  rcases hcases with hc | hc | ⟨hc, hc'⟩
  all_goals
    go_enter Tryz.func79, Tryz.ntmps79
    go_wp2
    go_loopw [0, 1] (fun v nv wr => ∃ (f m : Nat) (done : List UInt8) (g' n' cap' : Nat), v = .slice (some ⟨g', 0, none⟩) n' cap' ∧ nv = .int .i64 (m : Int) ∧ m ≤ 1000000000 ∧ m < 128 ^ (f + 1) ∧ f ≤ 4 ∧ Own wr base g' n' cap' (bs ++ done) ∧ done.length + f = 4 ∧ (Below base w wr ∧ Keeps w wr) ∧ done ++ groups f m = numBytes N) (fun _ nv _ => (intOf nv).toNat)
    case atStart =>
      exact ⟨4, clamp N, [], g, n, cap, rfl, val_int (by unfold clamp; split <;> (try split) <;> omega), clamp_le N, by have := clamp_le N; omega, by omega, by rw [List.append_nil]; exact h, rfl, ⟨Below.refl _ _, Keeps.refl _⟩, rfl⟩
    case round =>
      obtain ⟨f, m, done, g', n', cap', rfl, rfl, hm9, hm, hf, hO, hdl, ⟨hB, hK⟩, hgr⟩ := hrel
      have HG := Hid.mk' hgr
      have hlen := hO.1
      simp only [List.length_append] at hlen
      have hbl := h.1
      have HM := Hid.mk' hm
      have HL := Hid.mk' hlen
      have hn' : n' ≤ 1099511627781 := by omega
      have hBs := hB.size
      have hbw : base ≤ wr.heap.size := by omega
      have hc3 : n' + 1 ≤ maxLen := by unfold maxLen; omega
      have hc4 : (n' + 1) * 1 ≤ 140737488355328 := by omega
      have HD := Hid.mk' hdl
      clear hgr hm hlen hbl hdl
      by_cases hge : 128 ≤ m
      · obtain ⟨f', rfl⟩ : ∃ f', f = f' + 1 := by
          cases f with
          | zero => exact absurd HM.out (by omega)
          | succ f' => exact ⟨f', rfl⟩
        go_wp2_with (at_builtin; refine wpList_append_own _ rfl _ _ 22 rfl base 5 i0 (.int .u8 0) 1 1 Tryz.underlying22 hi hz0 hz1 hz2 rfl (by decide) _ _ _ rfl (hO.2.alloc _) ⟨wr.heap.size, 0, none⟩ 1 1 [_] rfl rfl (cell_one_new _ _ _) (one_oneCell _ _) hc3 hc4 (le_alloc _ _ hbw) ?_)
        intro v1 w1 hown hgrow hnn
        obtain ⟨g2, cap2, hv, hO2⟩ := own_app (m := 1) (ns := [UInt8.ofNat (128 + m % 128)]) hO.1 rfl (one_val (byte_hi m)) hnn hown
        subst hv
        have hB2 : Below base w w1 := (hB.alloc hbw _).grown hgrow (le_alloc _ _ hbw) (fun k e => by simp [Value.ownBlock] at e; have := hO.lt; omega)
        have hK2 : Keeps w w1 := (hK.alloc _).trans (((hO.below ((Below.refl _ _).alloc (Nat.le_refl _) _))).keeps hgrow)
        have HO2 := Hid.mk' hO2
        clear hown hgrow hO hO2 hB hnn
        go_wp2
        go_roundw
        case rel =>
          refine ⟨f', m / 128, done ++ [UInt8.ofNat (128 + m % 128)], g2, n' + 1, cap2, rfl, by go_num, by omega, ?_, by omega, by rw [← List.append_assoc]; exact HO2.out, ?_, ⟨hB2, hK2⟩, ?_⟩
          · have := HM.out; rw [Nat.pow_succ] at this; exact Nat.div_lt_of_lt_mul (by omega)
          · have := HD.out; simp; omega
          · rw [List.append_assoc, List.singleton_append, ← groups_high f' m hge]; exact HG.out
        case measure => simp [intOf]; omega
      · go_wp2_with (at_builtin; refine wpList_append_own _ rfl _ _ 22 rfl base 5 i0 (.int .u8 0) 1 1 Tryz.underlying22 hi hz0 hz1 hz2 rfl (by decide) _ _ _ rfl (hO.2.alloc _) ⟨wr.heap.size, 0, none⟩ 1 1 [_] rfl rfl (cell_one_new _ _ _) (one_oneCell _ _) hc3 hc4 (le_alloc _ _ hbw) ?_)
        intro v1 w1 hown hgrow hnn
        obtain ⟨g2, cap2, hv, hO2⟩ := own_app (m := 1) (ns := [UInt8.ofNat m]) hO.1 rfl (one_val (byte_lo m (by omega)).symm) hnn hown
        subst hv
        have hB2 : Below base w w1 := (hB.alloc hbw _).grown hgrow (le_alloc _ _ hbw) (fun k e => by simp [Value.ownBlock] at e; have := hO.lt; omega)
        have hK2 : Keeps w w1 := (hK.alloc _).trans (((hO.below ((Below.refl _ _).alloc (Nat.le_refl _) _))).keeps hgrow)
        have HO2 := Hid.mk' hO2
        clear hown hgrow hO hO2 hB hnn
        go_wp2
        go_ret
        refine ⟨g2, _, cap2, rfl, ?_, hB2, hK2⟩
        have hx := HO2.out
        rw [List.append_assoc, ← groups_low f m (by omega), HG.out] at hx
        exact hx

set_option maxRecDepth 100000 in
set_option maxHeartbeats 1000000 in
theorem ownBytes (a : Option Addr) (len cap : Nat) (bs : List UInt8) (w : World) (h : Sl w a len bs) (hsz : len ≤ 1099511627776) :
    Calls Tryz.prog 78 #[.slice a len cap] w fun e w' => ∃ g, e = .returned (.slice (some ⟨g, 0, none⟩) len len) ∧ Own w' w.heap.size g len len bs ∧ Below w.heap.size w w' := by
  obtain ⟨hl, hm, hc⟩ := h
  subst hl
  have hm' := hm
  unfold maxLen at hm'
  obtain ⟨i0, hi, hz0, hz1, hz2⟩ := info_parts info8
  go_enter Tryz.func78, Tryz.ntmps78
  go_wp2_with (at_make; refine wpList_make_full _ rfl _ _ 22 rfl w.heap.size 5 i0 (.int .u8 0) 1 Tryz.underlying22 hi hz0 hz1 _ _ _ _ bs.length rfl rfl rfl rfl ?b2 ?b3 ?b4 ?_)
  case b2 => rw [hz2]; omega
  case b3 => exact hm
  case b4 => exact Nat.le_refl _
  intro w1 hown hgrow
  have hOwn : Own w1 w.heap.size w.heap.size bs.length bs.length (List.replicate bs.length 0) := by
    refine ⟨by simp, ?_⟩
    have e : byteVals (List.replicate bs.length 0) = (madeCells #[.int .u8 0] bs.length).toList := by
      simp [byteVals, toList_madeCells_one]
    rw [e]; exact hown
  have hbel : Below w.heap.size w w1 := (Below.refl _ _).grown hgrow (Nat.le_refl _) (fun k e => by cases e)
  have hrow := own_row hOwn
  have hpos : 0 < (byteVals bs).length → (some (⟨w.heap.size, 0, none⟩ : Addr)) = some ⟨w.heap.size, 0, none⟩ ∧ ∃ ad, a = some ad ∧ ∀ j v, (byteVals bs)[j]? = some v → w1.cell? (ad.add j) = some v := by
    intro h0
    rw [byteVals_length] at h0
    obtain ⟨b, off, ha, hcl⟩ := hc h0
    refine ⟨rfl, ⟨b, off, none⟩, ha, fun j v hj => ?_⟩
    have hjl : j < bs.length := by have := (List.getElem?_eq_some_iff.1 hj).1; rwa [byteVals_length] at this
    rw [Addr.add_lit, hbel.cell (p := ⟨b, off + j, none⟩) (World.block_lt_of_cell? w _ (hcl j hjl)), hcl j hjl, ← hj]
    simp [byteVals, hjl]
  have HROW := Hid.mk' hrow
  have HPOS := Hid.mk' hpos
  clear hown hgrow hrow hpos hc hOwn
  have hsz1 : (Tryz.prog.info? 5).map (·.size) = some 1 := by rw [hi]; simp [hz1]
  go_wp2_with (refine wpList_copy_splice rfl (.tmp 7) (.tmp 8) 22 22 rfl 5 Tryz.underlying22 hsz1 _ _ _ _ _ _ rfl rfl w.heap.size 0 (byteVals (List.replicate bs.length 0)) 5 HROW.out (byteVals bs) ?d1 HPOS.out ?d2 (byteVals_oneCell _) w.heap.size w hbel (Nat.le_refl _) ?_)
  case d1 => simp [byteVals_length]
  case d2 => rw [byteVals_length, byteVals_length]; simp
  intro w2 hrow2 hb2
  go_wp2
  go_ret
  refine ⟨w.heap.size, rfl, own_of_row rfl hm (Nat.le_refl _) ?_, hb2⟩
  have e : splice (byteVals (List.replicate bs.length 0)) 0 (byteVals bs) = byteVals bs := by
    simp [splice, byteVals_length]
  have hx := hrow2.out
  rw [e] at hx
  exact hx

set_option maxRecDepth 100000 in
set_option maxHeartbeats 1000000 in
theorem impl_put (a : Option Addr) (len cap : Nat) (bs : List UInt8) (N : Int) (w : World) (h : Sl w a len bs) (hN : (Lit.int .i64 N).wf = true) (hsz : len ≤ 1099511627776) :
    Calls Tryz.prog 37 #[.slice a len cap, .int .i64 N] w fun e w' =>
      ∃ g' n' cap', e = .returned (.slice (some ⟨g', 0, none⟩) n' cap') ∧ Own w' w.heap.size g' n' cap' (bs ++ numBytes N) ∧ Below w.heap.size w w' := by
  go_enter Tryz.func37, Tryz.ntmps37
  go_wp2_with fail
  refine (ownBytes a len cap bs _ h hsz).mono ?_
  rintro e w1 ⟨g1, rfl, hO1, hB1⟩
  go_wp2_with fail
  refine (addNum g1 len len w.heap.size bs N _ hO1 hB1.size hN hsz).mono ?_
  rintro e w2 ⟨g2, n2, cap2, rfl, hO2, hB2, _⟩
  go_wp2_with fail
  go_ret
  exact ⟨g2, n2, cap2, rfl, hO2, hB1.trans hB2⟩

theorem or_hi (m : Nat) (h : m ≤ 1000000000) : bits .or .i64 (bits .and .i64 (m : Int) 127) 128 = 128 + (m : Int) % 128 := by
  have hand : bits .and .i64 (m : Int) 127 = ((m % 128 : Nat) : Int) := by
    rw [show (127 : Int) = 2 ^ 7 - 1 from rfl, bits_mask .i64 63 (by decide) wraps_i64 7 (by decide) (m : Int) (by omega) (by omega)]
    omega
  rw [hand, show (128 : Int) = ((128 : Nat) : Int) from rfl, (bits_nat .i64 63 (by decide) wraps_i64 (m % 128) 128 (by omega) (by omega)).2, Nat.or_comm,
    nat_join 7 128 (m % 128) (by decide) (by omega)]
  omega

set_option maxRecDepth 100000 in
set_option maxHeartbeats 1000000 in
theorem spec_put (b off len cap : Nat) (bs : List UInt8) (N : Int) (w : World) (h : Sl w (some ⟨b, off, none⟩) len bs) (hN : (Lit.int .i64 N).wf = true) (hsz : len ≤ 1099511627776) :
    Calls Tryz.prog 106 #[.slice (some ⟨b, off, none⟩) len cap, .int .i64 N] w fun e w' =>
      ∃ g' n' cap', e = .returned (.slice (some ⟨g', 0, none⟩) n' cap') ∧ Own w' w.heap.size g' n' cap' (bs ++ numBytes N) ∧ Below w.heap.size w w' := by
  have hNb : -9223372036854775808 ≤ N ∧ N ≤ 9223372036854775807 := by simpa [Lit.wf, IntKind.min, IntKind.max, IntKind.signed, IntKind.bits] using hN
  obtain ⟨i0, hi, hz0, hz1, hz2⟩ := info_parts info8
  have hl := h.1
  have hba : Below w.heap.size w (w.alloc (.cells #[] 5)) := (Below.refl _ _).alloc (Nat.le_refl _) _
  have hsl := sl_cells (h.below hba)
  have hn0 : (byteVals bs).length = len * 1 := by rw [byteVals_length]; omega
  have hm1 : 0 + len ≤ maxLen := by unfold maxLen; omega
  have hm2 : (0 + len) * 1 ≤ 140737488355328 := by omega
  have hown0 : (w.alloc (.cells #[] 5)).ownsRow w.heap.size 5 1 (.slice (some ⟨w.heap.size, 0, none⟩) 0 0) 0 [] := World.ownsRow_made w #[] 0 (Nat.le_refl _) (Nat.zero_le _) rfl
  have HSL := Hid.mk' hsl
  have hcases : N < 0 ∨ 1000000000 < N ∨ (0 ≤ N ∧ N ≤ 1000000000) := by omega
  clear hsl
  rcases hcases with hc | hc | ⟨hc, hc'⟩
  all_goals
    go_enter Tryz.func106, Tryz.ntmps106
    go_wp2_with (at_builtin; refine wpList_append_own _ rfl _ _ 22 rfl w.heap.size 5 i0 (.int .u8 0) 1 1 Tryz.underlying22 hi hz0 hz1 hz2 rfl (by decide) _ _ _ rfl hown0 ⟨b, off, none⟩ len cap (byteVals bs) rfl hn0 HSL.out (byteVals_oneCell _) hm1 hm2 (le_alloc _ _ (Nat.le_refl _)) ?_)
    intro v1 w1 hown hgrow hnn
    have hnn' : ¬ v1 = .slice none 0 0 := by simpa using hnn
    obtain ⟨g1, cap1, hv, hO1⟩ := own_val hl hnn' hown
    subst hv
    have hB1 : Below w.heap.size w w1 := hba.grown hgrow (le_alloc _ _ (Nat.le_refl _)) (fun k e => by simp [Value.ownBlock] at e; omega)
    have HO1 := Hid.mk' hO1
    clear hown hgrow hnn hnn' hO1 hown0 HSL hn0
    go_wp2_with (at_builtin; fail)
    go_loopw [1, 5] (fun nv v wr => ∃ (f m : Nat) (done : List UInt8) (g' n' cap' : Nat), v = .slice (some ⟨g', 0, none⟩) n' cap' ∧ nv = .int .i64 (m : Int) ∧ m ≤ 1000000000 ∧ m < 128 ^ (f + 1) ∧ f ≤ 4 ∧ Own wr w.heap.size g' n' cap' (bs ++ done) ∧ done.length + f = 4 ∧ Below w.heap.size w wr ∧ done ++ groups f m = numBytes N) (fun nv _ _ => (intOf nv).toNat)
    case atStart =>
      exact ⟨4, clamp N, [], g1, len, cap1, rfl, val_int (by unfold clamp; split <;> (try split) <;> omega), clamp_le N, by have := clamp_le N; omega, by omega, by rw [List.append_nil]; exact HO1.out, rfl, hB1, rfl⟩
    case round =>
      clear HO1 hB1 hba
      obtain ⟨f, m, done, g', n', cap', rfl, rfl, hm9, hm, hf, hO, hdl, hB, hgr⟩ := hrel
      have HG := Hid.mk' hgr
      have hlen := hO.1
      simp only [List.length_append] at hlen
      have HM := Hid.mk' hm
      have HL := Hid.mk' hlen
      have hn' : n' ≤ 1099511627781 := by omega
      have hbw : w.heap.size ≤ wr.heap.size := hB.size
      have hc3 : n' + 1 ≤ maxLen := by unfold maxLen; omega
      have hc4 : (n' + 1) * 1 ≤ 140737488355328 := by omega
      have HD := Hid.mk' hdl
      clear hgr hm hlen hdl
      by_cases hge : 128 ≤ m
      · obtain ⟨f', rfl⟩ : ∃ f', f = f' + 1 := by
          cases f with
          | zero => exact absurd HM.out (by omega)
          | succ f' => exact ⟨f', rfl⟩
        have hv8 := or_hi m hm9
        go_wp2_with (at_builtin; refine wpList_append_own _ rfl _ _ 22 rfl w.heap.size 5 i0 (.int .u8 0) 1 1 Tryz.underlying22 hi hz0 hz1 hz2 rfl (by decide) _ _ _ rfl (hO.2.alloc _) ⟨wr.heap.size, 0, none⟩ 1 1 [_] rfl rfl (cell_one_new _ _ _) (one_oneCell _ _) hc3 hc4 (le_alloc _ _ hbw) ?_)
        intro v2 w2 hown hgrow hnn
        obtain ⟨g2, cap2, hv, hO2⟩ := own_app (m := 1) (ns := [UInt8.ofNat (128 + m % 128)]) hO.1 rfl (one_val (byte_hi m)) hnn hown
        subst hv
        have hB2 : Below w.heap.size w w2 := (hB.alloc hbw _).grown hgrow (le_alloc _ _ hbw) (fun k e => by simp [Value.ownBlock] at e; have := hO.lt; omega)
        have HO2 := Hid.mk' hO2
        clear hown hgrow hO hO2 hB hnn
        go_wp2
        go_roundw
        case rel =>
          refine ⟨f', m / 128, done ++ [UInt8.ofNat (128 + m % 128)], g2, n' + 1, cap2, rfl, by go_num, by omega, ?_, by omega, by rw [← List.append_assoc]; exact HO2.out, ?_, hB2, ?_⟩
          · have := HM.out; rw [Nat.pow_succ] at this; exact Nat.div_lt_of_lt_mul (by omega)
          · have := HD.out; simp; omega
          · rw [List.append_assoc, List.singleton_append, ← groups_high f' m hge]; exact HG.out
        case measure => simp [intOf]; omega
      · go_wp2_with (at_builtin; refine wpList_append_own _ rfl _ _ 22 rfl w.heap.size 5 i0 (.int .u8 0) 1 1 Tryz.underlying22 hi hz0 hz1 hz2 rfl (by decide) _ _ _ rfl (hO.2.alloc _) ⟨wr.heap.size, 0, none⟩ 1 1 [_] rfl rfl (cell_one_new _ _ _) (one_oneCell _ _) hc3 hc4 (le_alloc _ _ hbw) ?_)
        intro v2 w2 hown hgrow hnn
        obtain ⟨g2, cap2, hv, hO2⟩ := own_app (m := 1) (ns := [UInt8.ofNat m]) hO.1 rfl (one_val (byte_lo m (by omega)).symm) hnn hown
        subst hv
        have hB2 : Below w.heap.size w w2 := (hB.alloc hbw _).grown hgrow (le_alloc _ _ hbw) (fun k e => by simp [Value.ownBlock] at e; have := hO.lt; omega)
        have HO2 := Hid.mk' hO2
        clear hown hgrow hO hO2 hB hnn
        go_wp2
        go_ret
        refine ⟨g2, _, cap2, rfl, ?_, hB2⟩
        have hx := HO2.out
        rw [List.append_assoc, ← groups_low f m (by omega), HG.out] at hx
        exact hx

end Go.Proofs.YteammdkipnfmnaaGreatDoor.putnum

namespace Go.Proofs.YteammdkipnfmnaaGreatDoor.puttext
open Go.RowKit Go.Proofs.YteammdkipnfmnaaGreatDoor.base Go.Proofs.YteammdkipnfmnaaGreatDoor.help Go.Proofs.YteammdkipnfmnaaGreatDoor.putnum
set_option linter.unusedVariables false
set_option linter.unusedSimpArgs false

def textBytes (s : ByteArray) : List UInt8 := numBytes (s.size : Int) ++ s.data.toList
def textsBytes (ss : List ByteArray) : List UInt8 := (ss.map textBytes).flatten
theorem textBytes_length (s : ByteArray) : (textBytes s).length ≤ s.size + 5 := by
  have := numBytes_length (s.size : Int); simp [textBytes]; omega
theorem size_toList (s : ByteArray) : s.data.toList.length = s.size := by simp
theorem strCells_eq (s : ByteArray) : Lib.strCells s = byteVals s.data.toList := rfl
set_option maxRecDepth 100000 in
set_option maxHeartbeats 1000000 in
theorem spec_text (b off len cap : Nat) (bs : List UInt8) (s : ByteArray) (w : World) (h : Sl w (some ⟨b, off, none⟩) len bs) (hsz : len ≤ 549755813888) (hs : s.size ≤ 549755813888) :
    Calls Tryz.prog 105 #[.slice (some ⟨b, off, none⟩) len cap, .string s] w fun e w' =>
      ∃ g' n' cap', e = .returned (.slice (some ⟨g', 0, none⟩) n' cap') ∧ Own w' w.heap.size g' n' cap' (bs ++ textBytes s) ∧ Below w.heap.size w w' := by
  have hwf : (Lit.int .i64 (s.size : Int)).wf = true := WalkArith.wf_i64 (by omega)
  have hnb := numBytes_length (s.size : Int)
  have hl := h.1
  obtain ⟨i0, hi, hz0, hz1, hz2⟩ := info_parts info8
  go_enter Tryz.func105, Tryz.ntmps105
  go_wp2_with fail
  refine (spec_put b off len cap bs _ _ h hwf (by omega)).mono ?_
  rintro e w1 ⟨g1, n1, cap1, rfl, hO1, hB1⟩
  have hn1 : n1 ≤ 549755813893 := by have := hO1.1; simp at this; omega
  have hc3 : n1 + s.size ≤ maxLen := by unfold maxLen; omega
  have hc4 : n1 + s.size ≤ 140737488355328 := by omega
  have hbw := hB1.size
  go_wp2_with (at_builtin; refine Lib.wpList_append_own_string _ rfl _ _ 22 9 rfl w.heap.size 5 i0 Tryz.underlying22 Tryz.underlying9 hi hz0 hz1 hz2 _ _ _ rfl hO1.2 s rfl hc3 hc4 hbw ?_)
  intro v2 w2 hown hgrow hnn
  have hnn' : ¬ v2 = .slice none 0 0 := by simpa using hnn
  rw [strCells_eq] at hown
  obtain ⟨g2, cap2, hv, hO2⟩ := own_app (m := s.size) (ns := s.data.toList) hO1.1 (size_toList s) rfl hnn' hown
  subst hv
  have hB2 : Below w.heap.size w w2 := hB1.grown hgrow hbw (fun k e => by simp [Value.ownBlock] at e; have := hO1.lt; omega)
  have HO2 := Hid.mk' hO2
  clear hown hgrow hnn hnn' hO1 hO2 hB1
  go_wp2
  go_ret
  refine ⟨g2, _, cap2, rfl, ?_, hB2⟩
  have hx := HO2.out
  rw [List.append_assoc] at hx
  exact hx

theorem textsBytes_snoc (ss : List ByteArray) (s : ByteArray) : textsBytes (ss ++ [s]) = textsBytes ss ++ textBytes s := by simp [textsBytes]
theorem textsBytes_take (ss : List ByteArray) (k : Nat) (h : k < ss.length) : textsBytes (ss.take (k + 1)) = textsBytes (ss.take k) ++ textBytes ss[k] := by
  rw [List.take_succ_eq_append_getElem h, textsBytes_snoc]
theorem textsBytes_le (ss : List ByteArray) (k : Nat) : (textsBytes (ss.take k)).length ≤ (textsBytes ss).length := by
  have e : textsBytes ss = textsBytes (ss.take k) ++ textsBytes (ss.drop k) := by
    simp only [textsBytes, ← List.flatten_append, ← List.map_append, List.take_append_drop]
  rw [e, List.length_append]; omega
theorem size_le_textBytes (s : ByteArray) : s.size ≤ (textBytes s).length := by simp [textBytes]

set_option maxRecDepth 100000 in
set_option maxHeartbeats 1000000 in
theorem addTexts (g n cap base : Nat) (bs : List UInt8) (a : Option Addr) (len cap2 : Nat) (ss : List ByteArray) (w : World) (h : Own w base g n cap bs) (hb : base ≤ w.heap.size)
    (hS : SlS w a len ss) (hblk : ∀ b off, a = some ⟨b, off, none⟩ → ∃ cur mk, w.heap[b]? = some (.cells cur 9 mk)) (hsz : n + (textsBytes ss).length ≤ 549755813888) (hss : ∀ s ∈ ss, s.size ≤ 549755813888) :
    Calls Tryz.prog 77 #[.slice (some ⟨g, 0, none⟩) n cap, .slice a len cap2] w fun e w' =>
      ∃ g' n' cap', e = .returned (.slice (some ⟨g', 0, none⟩) n' cap') ∧ Own w' base g' n' cap' (bs ++ textsBytes ss) ∧ Below base w w' ∧ Keeps w w' := by
  obtain ⟨hl, hm, _, hc⟩ := hS
  subst hl
  unfold maxLen at hm
  obtain ⟨i0, hi, hz0, hz1, hz2⟩ := info_parts info8
  have hn0 := h.1
  go_enter Tryz.func77, Tryz.ntmps77
  go_wp2
  go_loopw [0, 9] (fun v i wr => ∃ (k g' n' cap' : Nat), v = .slice (some ⟨g', 0, none⟩) n' cap' ∧ i = .int .i64 (k : Int) ∧ k ≤ ss.length ∧ Own wr base g' n' cap' (bs ++ textsBytes (ss.take k)) ∧ Below base w wr ∧ Keeps w wr) (fun _ i _ => ss.length - (intOf i).toNat)
  case atStart => exact ⟨0, g, n, cap, rfl, rfl, Nat.zero_le _, by simpa [textsBytes] using h, Below.refl _ _, Keeps.refl _⟩
  case round =>
    obtain ⟨k, g', n', cap', rfl, rfl, hk, hO, hB, hK⟩ := hrel
    by_cases hlt : k < ss.length
    · obtain ⟨b, off, ha, hcl⟩ := hc (by omega)
      obtain ⟨cur, mk, hbk⟩ := hblk b off ha
      subst ha
      have hbl : b < w.heap.size := (Array.getElem?_eq_some_iff.1 hbk).1
      have e1 : wr.heap[b]? = w.heap[b]? := hK.2 b hbl (by intro cur'; rw [hbk]; simp)
      generalize hsk : ss[k] = s
      have c1 : wr.cell? ⟨b, off + k, none⟩ = some (.string s) := by
        rw [World.cell?_of_block (w := w) (w' := wr) (a := ⟨b, off + k, none⟩) e1, hcl k hlt, hsk]
      have hs9 : s.size ≤ 549755813888 := by rw [← hsk]; exact hss _ (List.getElem_mem hlt)
      have hT := textsBytes_take ss k hlt
      rw [hsk] at hT
      have hle := textsBytes_le ss (k + 1)
      rw [hT, List.length_append] at hle
      have hs1 := size_le_textBytes s
      have hn' : n' + s.size ≤ 549755813888 := by have := hO.1; simp only [List.length_append] at this; omega
      have hwf : (Lit.int .i64 (s.size : Int)).wf = true := WalkArith.wf_i64 (by omega)
      have hnb := numBytes_length (s.size : Int)
      have hbw : base ≤ wr.heap.size := Nat.le_trans hb hB.size
      have HT := Hid.mk' hT
      clear hT hle hs1 hcl hc hblk e1 hbk hsk hss
      go_wp2_with fail
      refine (addNum g' n' cap' base _ _ _ hO hbw hwf (by omega)).mono ?_
      rintro e w1 ⟨g1, n1, cap1, rfl, hO1, hB1, hK1⟩
      rw [List.append_assoc] at hO1
      have hn1 : n1 ≤ n' + 5 := by have := hO1.1; have := hO.1; simp only [List.length_append] at *; omega
      have hc3 : n1 + s.size ≤ maxLen := by unfold maxLen; omega
      have hc4 : n1 + s.size ≤ 140737488355328 := by omega
      have hbw1 : base ≤ w1.heap.size := Nat.le_trans hbw hB1.size
      go_wp2_with (at_builtin; refine Lib.wpList_append_own_string _ rfl _ _ 22 9 rfl base 5 i0 Tryz.underlying22 Tryz.underlying9 hi hz0 hz1 hz2 _ _ _ rfl hO1.2 s rfl hc3 hc4 hbw1 ?_)
      intro v2 w2 hown hgrow hnn
      have hnn' : ¬ v2 = .slice none 0 0 := by simpa using hnn
      rw [strCells_eq] at hown
      obtain ⟨g2, cap2', hv, hO2⟩ := own_app (m := s.size) (ns := s.data.toList) hO1.1 (size_toList s) rfl hnn' hown
      subst hv
      have hB2 : Below base w w2 := (hB.trans hB1).grown hgrow hbw1 (fun k e => by simp [Value.ownBlock] at e; have := hO1.lt; omega)
      have hK2 : Keeps w w2 := (hK.trans hK1).trans (hO1.keeps hgrow)
      have HO2 : Hid (Own w2 base g2 (n1 + s.size) cap2' (bs ++ textsBytes (ss.take (k + 1)))) := by
        show Own w2 base g2 (n1 + s.size) cap2' (bs ++ textsBytes (ss.take (k + 1)))
        rw [HT.out]
        simpa [textBytes, List.append_assoc] using hO2
      clear hown hgrow hnn hnn' hO1 hO2 hB1 hO hB hK hK1
      go_wp2
      go_roundw
      case rel => exact ⟨k + 1, g2, _, cap2', rfl, by go_num, by omega, HO2.out, hB2, hK2⟩
      case measure => simp [intOf]; omega
    · have e : k = ss.length := by omega
      go_wp2
      go_ret
      subst e
      rw [List.take_length] at hO
      exact ⟨g', n', cap', rfl, hO, hB, hK⟩

set_option maxRecDepth 100000 in
set_option maxHeartbeats 1000000 in
theorem impl_text (a : Option Addr) (len cap : Nat) (bs : List UInt8) (s : ByteArray) (w : World) (h : Sl w a len bs) (hsz : len ≤ 137438953472) (hs : s.size ≤ 137438953472) :
    Calls Tryz.prog 36 #[.slice a len cap, .string s] w fun e w' =>
      ∃ g' n' cap', e = .returned (.slice (some ⟨g', 0, none⟩) n' cap') ∧ Own w' w.heap.size g' n' cap' (bs ++ textBytes s) ∧ Below w.heap.size w w' := by
  go_enter Tryz.func36, Tryz.ntmps36
  go_wp2_with fail
  refine (ownBytes a len cap bs _ h (by omega)).mono ?_
  rintro e w1 ⟨g1, rfl, hO1, hB1⟩
  have hba : Below w1.heap.size w1 (w1.alloc (.cells #[.string s] 9)) := (Below.refl _ _).alloc (Nat.le_refl _) _
  have hS : SlS (w1.alloc (.cells #[.string s] 9)) (some ⟨w1.heap.size, 0, none⟩) 1 [s] := by
    refine ⟨rfl, by decide, ?_, fun _ => ⟨_, _, rfl, ?_⟩⟩
    · intro x hx; simp at hx; subst hx; unfold maxLen; omega
    · intro i hi
      simp at hi
      subst hi
      simp
  have htl := textBytes_length s
  have e1 : textsBytes [s] = textBytes s := by simp [textsBytes]
  go_wp2_with fail
  refine (addTexts g1 len len w.heap.size bs _ 1 _ [s] _ (hO1.below hba) (le_alloc _ _ hB1.size) hS ?_ ?_ ?_).mono ?_
  · intro b off e
    simp only [Option.some.injEq, Addr.mk.injEq, and_true] at e
    obtain ⟨rfl, rfl⟩ := e
    exact ⟨_, _, heap_alloc_new w1 _⟩
  · rw [e1]; omega
  · intro x hx; simp at hx; subst hx; omega
  rintro e w2 ⟨g2, n2, cap2, rfl, hO2, hB2, _⟩
  rw [e1] at hO2
  go_wp2_with fail
  go_ret
  exact ⟨g2, n2, cap2, rfl, hO2, (hB1.alloc hB1.size _).trans hB2⟩

end Go.Proofs.YteammdkipnfmnaaGreatDoor.puttext

namespace Go.Proofs.YteammdkipnfmnaaGreatDoor.pairs
open Go
set_option linter.unusedVariables false

abbrev Pr := ByteArray × ByteArray
theorem bytes_ext {a b : ByteArray} (h : a.data.toList = b.data.toList) : a = b := WideShapes.bytes_inj h

/-! ### the order of texts -/
def ltB (a b : ByteArray) : Bool := Op.bytesLess a.toList b.toList
theorem ltB_iff (a b : ByteArray) : ltB a b = true ↔ a.data.toList < b.data.toList := by
  unfold ltB; rw [Proofs.bytesLess_eq, ByteArray.toList_eq, ByteArray.toList_eq]; simp
theorem ltB_irrefl (a : ByteArray) : ltB a a = false := by
  rw [Bool.eq_false_iff]; intro h; exact List.lt_irrefl _ ((ltB_iff a a).1 h)
theorem ltB_trans {a b c : ByteArray} (h : ltB a b = true) (k : ltB b c = true) : ltB a c = true :=
  (ltB_iff a c).2 (List.lt_trans ((ltB_iff a b).1 h) ((ltB_iff b c).1 k))
theorem ltB_asymm {a b : ByteArray} (h : ltB a b = true) : ltB b a = false := by
  rw [Bool.eq_false_iff]; intro k; have := ltB_trans h k; rw [ltB_irrefl] at this; cases this
theorem ltB_total {a b : ByteArray} (h : ltB a b = false) (k : ltB b a = false) : a = b := by
  apply bytes_ext
  have h' : ¬ a.data.toList < b.data.toList := fun e => by rw [(ltB_iff a b).2 e] at h; cases h
  have k' : ¬ b.data.toList < a.data.toList := fun e => by rw [(ltB_iff b a).2 e] at k; cases k
  exact List.le_antisymm (List.not_lt.1 k') (List.not_lt.1 h')
/-! ### the functions -/
def keyCh (c : Nat) : Bool := decide (97 ≤ c ∧ c ≤ 122) || decide (48 ≤ c ∧ c ≤ 57)
def keyAll (l : List UInt8) : Bool := l.all fun c => keyCh c.toNat
def keyOk (s : ByteArray) : Bool := keyAll s.data.toList && decide (1 ≤ s.size ∧ s.size ≤ 12)
def pairOk (p : Pr) : Bool := keyOk p.1 && decide (p.2.size ≤ 20)
def okFrom : Option ByteArray → List Pr → Bool
  | _, [] => true
  | none, p :: l => pairOk p && okFrom (some p.1) l
  | some k, p :: l => pairOk p && ltB k p.1 && okFrom (some p.1) l
def pairsOk (l : List Pr) : Bool := okFrom none l && decide (l.length ≤ 60)
def getKey (key : ByteArray) : List Pr → Option ByteArray
  | [] => none
  | p :: l => if p.1 = key then some p.2 else getKey key l
def setFirst (key val : ByteArray) : List Pr → List Pr
  | [] => []
  | p :: l => if p.1 = key then (p.1, val) :: l else p :: setFirst key val l
def below (key : ByteArray) : List Pr → Nat
  | [] => 0
  | p :: l => if ltB key p.1 = true then 0 else below key l + 1
def putKey (key val : ByteArray) (l : List Pr) : List Pr :=
  if (getKey key l).isSome then setFirst key val l else l.take (below key l) ++ (key, val) :: l.drop (below key l)
def inB (lo hi key : ByteArray) : Bool := !ltB key lo && (decide (hi.size = 0) || ltB key hi)
def between (lo hi : ByteArray) (l : List Pr) : List Pr := l.filter fun p => inB lo hi p.1
def unionOf (a b : List Pr) : List Pr := b.foldl (fun u p => putKey p.1 p.2 u) a

/-! ### first facts -/
theorem setFirst_length (key val : ByteArray) (l : List Pr) : (setFirst key val l).length = l.length := by
  induction l with
  | nil => rfl
  | cons p l ih => unfold setFirst; split <;> simp [ih]
theorem below_le (key : ByteArray) (l : List Pr) : below key l ≤ l.length := by
  induction l with
  | nil => exact Nat.le_refl _
  | cons p l ih => unfold below; split <;> simp; omega
theorem putKey_length (key val : ByteArray) (l : List Pr) : (putKey key val l).length ≤ l.length + 1 ∧ l.length ≤ (putKey key val l).length := by
  have := below_le key l
  unfold putKey
  split
  · rw [setFirst_length]; omega
  · simp; omega
theorem getKey_drop (key : ByteArray) (l : List Pr) (k : Nat) (h : k < l.length) : getKey key (l.drop k) = if l[k].1 = key then some l[k].2 else getKey key (l.drop (k + 1)) := by
  rw [List.drop_eq_getElem_cons h, getKey]
theorem below_drop (key : ByteArray) (l : List Pr) (k : Nat) (h : k < l.length) : below key (l.drop k) = if ltB key l[k].1 = true then 0 else below key (l.drop (k + 1)) + 1 := by
  rw [List.drop_eq_getElem_cons h, below]
theorem setFirst_at (key val : ByteArray) (l : List Pr) (k : Nat) (h : k < l.length) (he : l[k].1 = key) (hn : getKey key (l.take k) = none) : setFirst key val l = l.set k (key, val) := by
  induction l generalizing k with
  | nil => simp at h
  | cons p l ih =>
    cases k with
    | zero => simp at he; unfold setFirst; rw [if_pos he, he]; rfl
    | succ k =>
      rw [List.take_succ_cons, getKey] at hn
      by_cases hp : p.1 = key
      · rw [if_pos hp] at hn; cases hn
      · rw [if_neg hp] at hn
        unfold setFirst
        rw [if_neg hp, List.set_cons_succ, ih k (by simpa using h) (by simpa using he) hn]
theorem getKey_snoc_none (key : ByteArray) (l : List Pr) (p : Pr) (h : getKey key l = none) (hp : p.1 ≠ key) : getKey key (l ++ [p]) = none := by
  induction l with
  | nil => simp [getKey, hp]
  | cons q l ih =>
    rw [getKey] at h
    by_cases hq : q.1 = key
    · rw [if_pos hq] at h; cases h
    · rw [if_neg hq] at h
      rw [List.cons_append, getKey, if_neg hq]
      exact ih h
theorem getKey_append (key : ByteArray) (a b : List Pr) : getKey key (a ++ b) = (getKey key a).or (getKey key b) := by
  induction a with
  | nil => rfl
  | cons q l ih =>
    rw [List.cons_append, getKey, getKey]
    by_cases hq : q.1 = key
    · rw [if_pos hq, if_pos hq]; rfl
    · rw [if_neg hq, if_neg hq, ih]
end Go.Proofs.YteammdkipnfmnaaGreatDoor.pairs
