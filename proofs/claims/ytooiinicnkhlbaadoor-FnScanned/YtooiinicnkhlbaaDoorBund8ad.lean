/- Writing a number: the program's and the specification's PutNum answer as one and the same function. Writing texts: the program's and the specification's PutText answer as one and the same function. Writing a list of texts: the program's and the specification's PutTexts answer as one and the same function. Plain mathematics: numbers and texts come back of their bytes. -/
import Derived.Test.YtooiinicnkhlbaaDoorRows
import Derived.Test.YtooiinicnkhlbaaDoorBund8aa
import Derived.Test.YtooiinicnkhlbaaDoorBund8ab
import Derived.Laws.CopyOwn
import Derived.Lib.AppendStr
import Derived.Test.YtooiinicnkhlbaaDoorBund8ac
namespace Go.Proofs.YtooiinicnkhlbaaDoor.putnum
open Go.RowKit Go.Proofs.YtooiinicnkhlbaaDoor.base Go.Proofs.YtooiinicnkhlbaaDoor.help
set_option linter.unusedVariables false
set_option linter.unusedSimpArgs false

/-- the bytes of a number below 128^(f+1) -/
def groups : Nat → Nat → List UInt8
  | 0, n => [UInt8.ofNat n]
  | f + 1, n => if n < 128 then [UInt8.ofNat n] else UInt8.ofNat (128 + n % 128) :: groups f (n / 128)
def clamp (n : Int) : Nat := if n < 0 then 0 else if 1000000000 < n then 1000000000 else n.toNat
def numBytes (n : Int) : List UInt8 := groups 4 (clamp n)
theorem clamp_le (n : Int) : clamp n ≤ 1000000000 := by unfold clamp; split <;> (try split) <;> omega
theorem groups_length (f n : Nat) : 1 ≤ (groups f n).length ∧ (groups f n).length ≤ f + 1 := by
  induction f generalizing n with
  | zero => simp [groups]
  | succ f ih =>
    rw [groups]
    split
    · simp
    · have := ih (n / 128); simp only [List.length_cons]; omega
theorem numBytes_length (n : Int) : 1 ≤ (numBytes n).length ∧ (numBytes n).length ≤ 5 := groups_length 4 _
theorem groups_low (f n : Nat) (h : n < 128) : groups f n = [UInt8.ofNat n] := by
  cases f with
  | zero => rfl
  | succ f => rw [groups, if_pos h]
theorem groups_high (f n : Nat) (h : 128 ≤ n) : groups (f + 1) n = UInt8.ofNat (128 + n % 128) :: groups f (n / 128) := by
  rw [groups, if_neg (by omega)]

theorem byte_hi (m : Nat) : 128 + (m : Int) % 128 = ((UInt8.ofNat (128 + m % 128)).toNat : Int) := by rw [byte_of]; omega
theorem byte_lo (m : Nat) (h : m < 128) : ((UInt8.ofNat m).toNat : Int) = (m : Int) := by rw [byte_of]; omega
set_option maxRecDepth 100000 in
set_option maxHeartbeats 1000000 in
theorem addNum (g n cap base : Nat) (bs : List UInt8) (N : Int) (w : World) (h : Own w base g n cap bs) (hb : base ≤ w.heap.size) (hN : (Lit.int .i64 N).wf = true) (hsz : n ≤ 1099511627776) :
    Calls Tryd.prog 63 #[.slice (some ⟨g, 0, none⟩) n cap, .int .i64 N] w fun e w' =>
      ∃ g' n' cap', e = .returned (.slice (some ⟨g', 0, none⟩) n' cap') ∧ Own w' base g' n' cap' (bs ++ numBytes N) ∧ Below base w w' ∧ Keeps w w' := by
  have hNb : -9223372036854775808 ≤ N ∧ N ≤ 9223372036854775807 := by simpa [Lit.wf, IntKind.min, IntKind.max, IntKind.signed, IntKind.bits] using hN
  obtain ⟨i0, hi, hz0, hz1, hz2⟩ := info_parts info8
  have hcases : N < 0 ∨ 1000000000 < N ∨ (0 ≤ N ∧ N ≤ 1000000000) := by omega
  rcases hcases with hc | hc | ⟨hc, hc'⟩
  all_goals
    go_enter Tryd.func63, Tryd.ntmps63
    go_wp2
    go_loopw [0, 1] (fun v nv wr => ∃ (f m : Nat) (done : List UInt8) (g' n' cap' : Nat), v = .slice (some ⟨g', 0, none⟩) n' cap' ∧ nv = .int .i64 (m : Int) ∧ m ≤ 1000000000 ∧ m < 128 ^ (f + 1) ∧ f ≤ 4 ∧ Own wr base g' n' cap' (bs ++ done) ∧ done.length + f = 4 ∧ (Below base w wr ∧ Keeps w wr) ∧ done ++ groups f m = numBytes N) (fun _ nv _ => (intOf nv).toNat)
    case atStart =>
      exact ⟨4, clamp N, [], g, n, cap, rfl, val_int (by unfold clamp; split <;> (try split) <;> omega), clamp_le N, by have := clamp_le N; omega, by omega, by rw [List.append_nil]; exact h, rfl, ⟨Below.refl _ _, Keeps.refl _⟩, rfl⟩
    case round =>
      obtain ⟨f, m, done, g', n', cap', rfl, rfl, hm9, hm, hf, hO, hdl, ⟨hB, hK⟩, hgr⟩ := hrel
      have HG := Hid.mk' hgr
      have hlen := hO.1
      simp only [List.length_append] at hlen
      have hbl := h.1
      have HM := Hid.mk' hm
      have HL := Hid.mk' hlen
      have hn' : n' ≤ 1099511627781 := by omega
      have hBs := hB.size
      have hbw : base ≤ wr.heap.size := by omega
      have hc3 : n' + 1 ≤ maxLen := by unfold maxLen; omega
      have hc4 : (n' + 1) * 1 ≤ 140737488355328 := by omega
      have HD := Hid.mk' hdl
      clear hgr hm hlen hbl hdl
      by_cases hge : 128 ≤ m
      · obtain ⟨f', rfl⟩ : ∃ f', f = f' + 1 := by
          cases f with
          | zero => exact absurd HM.out (by omega)
          | succ f' => exact ⟨f', rfl⟩
        go_wp2_with (at_builtin; refine wpList_append_own _ rfl _ _ 22 rfl base 5 i0 (.int .u8 0) 1 1 Tryd.underlying22 hi hz0 hz1 hz2 rfl (by decide) _ _ _ rfl (hO.2.alloc _) ⟨wr.heap.size, 0, none⟩ 1 1 [_] rfl rfl (cell_one_new _ _ _) (one_oneCell _ _) hc3 hc4 (le_alloc _ _ hbw) ?_)
        intro v1 w1 hown hgrow hnn
        obtain ⟨g2, cap2, hv, hO2⟩ := own_app (m := 1) (ns := [UInt8.ofNat (128 + m % 128)]) hO.1 rfl (one_val (byte_hi m)) hnn hown
        subst hv
        have hB2 : Below base w w1 := (hB.alloc hbw _).grown hgrow (le_alloc _ _ hbw) (fun k e => by simp [Value.ownBlock] at e; have := hO.lt; omega)
        have hK2 : Keeps w w1 := (hK.alloc _).trans (((hO.below ((Below.refl _ _).alloc (Nat.le_refl _) _))).keeps hgrow)
        have HO2 := Hid.mk' hO2
        clear hown hgrow hO hO2 hB hnn
        go_wp2
        go_roundw
        case rel =>
          refine ⟨f', m / 128, done ++ [UInt8.ofNat (128 + m % 128)], g2, n' + 1, cap2, rfl, by go_num, by omega, ?_, by omega, by rw [← List.append_assoc]; exact HO2.out, ?_, ⟨hB2, hK2⟩, ?_⟩
          · have := HM.out; rw [Nat.pow_succ] at this; exact Nat.div_lt_of_lt_mul (by omega)
          · have := HD.out; simp; omega
          · rw [List.append_assoc, List.singleton_append, ← groups_high f' m hge]; exact HG.out
        case measure => simp [intOf]; omega
      · go_wp2_with (at_builtin; refine wpList_append_own _ rfl _ _ 22 rfl base 5 i0 (.int .u8 0) 1 1 Tryd.underlying22 hi hz0 hz1 hz2 rfl (by decide) _ _ _ rfl (hO.2.alloc _) ⟨wr.heap.size, 0, none⟩ 1 1 [_] rfl rfl (cell_one_new _ _ _) (one_oneCell _ _) hc3 hc4 (le_alloc _ _ hbw) ?_)
        intro v1 w1 hown hgrow hnn
        obtain ⟨g2, cap2, hv, hO2⟩ := own_app (m := 1) (ns := [UInt8.ofNat m]) hO.1 rfl (one_val (byte_lo m (by omega)).symm) hnn hown
        subst hv
        have hB2 : Below base w w1 := (hB.alloc hbw _).grown hgrow (le_alloc _ _ hbw) (fun k e => by simp [Value.ownBlock] at e; have := hO.lt; omega)
        have hK2 : Keeps w w1 := (hK.alloc _).trans (((hO.below ((Below.refl _ _).alloc (Nat.le_refl _) _))).keeps hgrow)
        have HO2 := Hid.mk' hO2
        clear hown hgrow hO hO2 hB hnn
        go_wp2
        go_ret
        refine ⟨g2, _, cap2, rfl, ?_, hB2, hK2⟩
        have hx := HO2.out
        rw [List.append_assoc, ← groups_low f m (by omega), HG.out] at hx
        exact hx

set_option maxRecDepth 100000 in
set_option maxHeartbeats 1000000 in
theorem ownBytes (a : Option Addr) (len cap : Nat) (bs : List UInt8) (w : World) (h : Sl w a len bs) (hsz : len ≤ 1099511627776) :
    Calls Tryd.prog 65 #[.slice a len cap] w fun e w' => ∃ g, e = .returned (.slice (some ⟨g, 0, none⟩) len len) ∧ Own w' w.heap.size g len len bs ∧ Below w.heap.size w w' := by
  obtain ⟨hl, hm, hc⟩ := h
  subst hl
  have hm' := hm
  unfold maxLen at hm'
  obtain ⟨i0, hi, hz0, hz1, hz2⟩ := info_parts info8
  go_enter Tryd.func65, Tryd.ntmps65
  go_wp2_with (at_make; refine wpList_make_full _ rfl _ _ 22 rfl w.heap.size 5 i0 (.int .u8 0) 1 Tryd.underlying22 hi hz0 hz1 _ _ _ _ bs.length rfl rfl rfl rfl ?b2 ?b3 ?b4 ?_)
  case b2 => rw [hz2]; omega
  case b3 => exact hm
  case b4 => exact Nat.le_refl _
  intro w1 hown hgrow
  have hOwn : Own w1 w.heap.size w.heap.size bs.length bs.length (List.replicate bs.length 0) := by
    refine ⟨by simp, ?_⟩
    have e : byteVals (List.replicate bs.length 0) = (madeCells #[.int .u8 0] bs.length).toList := by
      simp [byteVals, toList_madeCells_one]
    rw [e]; exact hown
  have hbel : Below w.heap.size w w1 := (Below.refl _ _).grown hgrow (Nat.le_refl _) (fun k e => by cases e)
  have hrow := own_row hOwn
  have hpos : 0 < (byteVals bs).length → (some (⟨w.heap.size, 0, none⟩ : Addr)) = some ⟨w.heap.size, 0, none⟩ ∧ ∃ ad, a = some ad ∧ ∀ j v, (byteVals bs)[j]? = some v → w1.cell? (ad.add j) = some v := by
    intro h0
    rw [byteVals_length] at h0
    obtain ⟨b, off, ha, hcl⟩ := hc h0
    refine ⟨rfl, ⟨b, off, none⟩, ha, fun j v hj => ?_⟩
    have hjl : j < bs.length := by have := (List.getElem?_eq_some_iff.1 hj).1; rwa [byteVals_length] at this
    rw [Addr.add_lit, hbel.cell (p := ⟨b, off + j, none⟩) (World.block_lt_of_cell? w _ (hcl j hjl)), hcl j hjl, ← hj]
    simp [byteVals, hjl]
  have HROW := Hid.mk' hrow
  have HPOS := Hid.mk' hpos
  clear hown hgrow hrow hpos hc hOwn
  have hsz1 : (Tryd.prog.info? 5).map (·.size) = some 1 := by rw [hi]; simp [hz1]
  go_wp2_with (refine wpList_copy_splice rfl (.tmp 7) (.tmp 8) 22 22 rfl 5 Tryd.underlying22 hsz1 _ _ _ _ _ _ rfl rfl w.heap.size 0 (byteVals (List.replicate bs.length 0)) 5 HROW.out (byteVals bs) ?d1 HPOS.out ?d2 (byteVals_oneCell _) w.heap.size w hbel (Nat.le_refl _) ?_)
  case d1 => simp [byteVals_length]
  case d2 => rw [byteVals_length, byteVals_length]; simp
  intro w2 hrow2 hb2
  go_wp2
  go_ret
  refine ⟨w.heap.size, rfl, own_of_row rfl hm (Nat.le_refl _) ?_, hb2⟩
  have e : splice (byteVals (List.replicate bs.length 0)) 0 (byteVals bs) = byteVals bs := by
    simp [splice, byteVals_length]
  have hx := hrow2.out
  rw [e] at hx
  exact hx

set_option maxRecDepth 100000 in
set_option maxHeartbeats 1000000 in
theorem impl_put (a : Option Addr) (len cap : Nat) (bs : List UInt8) (N : Int) (w : World) (h : Sl w a len bs) (hN : (Lit.int .i64 N).wf = true) (hsz : len ≤ 1099511627776) :
    Calls Tryd.prog 41 #[.slice a len cap, .int .i64 N] w fun e w' =>
      ∃ g' n' cap', e = .returned (.slice (some ⟨g', 0, none⟩) n' cap') ∧ Own w' w.heap.size g' n' cap' (bs ++ numBytes N) ∧ Below w.heap.size w w' := by
  go_enter Tryd.func41, Tryd.ntmps41
  go_wp2_with fail
  refine (ownBytes a len cap bs _ h hsz).mono ?_
  rintro e w1 ⟨g1, rfl, hO1, hB1⟩
  go_wp2_with fail
  refine (addNum g1 len len w.heap.size bs N _ hO1 hB1.size hN hsz).mono ?_
  rintro e w2 ⟨g2, n2, cap2, rfl, hO2, hB2, _⟩
  go_wp2_with fail
  go_ret
  exact ⟨g2, n2, cap2, rfl, hO2, hB1.trans hB2⟩

theorem or_hi (m : Nat) (h : m ≤ 1000000000) : bits .or .i64 (bits .and .i64 (m : Int) 127) 128 = 128 + (m : Int) % 128 := by
  have hand : bits .and .i64 (m : Int) 127 = ((m % 128 : Nat) : Int) := by
    rw [show (127 : Int) = 2 ^ 7 - 1 from rfl, bits_mask .i64 63 (by decide) wraps_i64 7 (by decide) (m : Int) (by omega) (by omega)]
    omega
  rw [hand, show (128 : Int) = ((128 : Nat) : Int) from rfl, (bits_nat .i64 63 (by decide) wraps_i64 (m % 128) 128 (by omega) (by omega)).2, Nat.or_comm,
    nat_join 7 128 (m % 128) (by decide) (by omega)]
  omega

set_option maxRecDepth 100000 in
set_option maxHeartbeats 1000000 in
theorem spec_put (b off len cap : Nat) (bs : List UInt8) (N : Int) (w : World) (h : Sl w (some ⟨b, off, none⟩) len bs) (hN : (Lit.int .i64 N).wf = true) (hsz : len ≤ 1099511627776) :
    Calls Tryd.prog 56 #[.slice (some ⟨b, off, none⟩) len cap, .int .i64 N] w fun e w' =>
      ∃ g' n' cap', e = .returned (.slice (some ⟨g', 0, none⟩) n' cap') ∧ Own w' w.heap.size g' n' cap' (bs ++ numBytes N) ∧ Below w.heap.size w w' := by
  have hNb : -9223372036854775808 ≤ N ∧ N ≤ 9223372036854775807 := by simpa [Lit.wf, IntKind.min, IntKind.max, IntKind.signed, IntKind.bits] using hN
  obtain ⟨i0, hi, hz0, hz1, hz2⟩ := info_parts info8
  have hl := h.1
  have hba : Below w.heap.size w (w.alloc (.cells #[] 5)) := (Below.refl _ _).alloc (Nat.le_refl _) _
  have hsl := sl_cells (h.below hba)
  have hn0 : (byteVals bs).length = len * 1 := by rw [byteVals_length]; omega
  have hm1 : 0 + len ≤ maxLen := by unfold maxLen; omega
  have hm2 : (0 + len) * 1 ≤ 140737488355328 := by omega
  have hown0 : (w.alloc (.cells #[] 5)).ownsRow w.heap.size 5 1 (.slice (some ⟨w.heap.size, 0, none⟩) 0 0) 0 [] := World.ownsRow_made w #[] 0 (Nat.le_refl _) (Nat.zero_le _) rfl
  have HSL := Hid.mk' hsl
  have hcases : N < 0 ∨ 1000000000 < N ∨ (0 ≤ N ∧ N ≤ 1000000000) := by omega
  clear hsl
  rcases hcases with hc | hc | ⟨hc, hc'⟩
  all_goals
    go_enter Tryd.func56, Tryd.ntmps56
    go_wp2_with (at_builtin; refine wpList_append_own _ rfl _ _ 22 rfl w.heap.size 5 i0 (.int .u8 0) 1 1 Tryd.underlying22 hi hz0 hz1 hz2 rfl (by decide) _ _ _ rfl hown0 ⟨b, off, none⟩ len cap (byteVals bs) rfl hn0 HSL.out (byteVals_oneCell _) hm1 hm2 (le_alloc _ _ (Nat.le_refl _)) ?_)
    intro v1 w1 hown hgrow hnn
    have hnn' : ¬ v1 = .slice none 0 0 := by simpa using hnn
    obtain ⟨g1, cap1, hv, hO1⟩ := own_val hl hnn' hown
    subst hv
    have hB1 : Below w.heap.size w w1 := hba.grown hgrow (le_alloc _ _ (Nat.le_refl _)) (fun k e => by simp [Value.ownBlock] at e; omega)
    have HO1 := Hid.mk' hO1
    clear hown hgrow hnn hnn' hO1 hown0 HSL hn0
    go_wp2_with (at_builtin; fail)
    go_loopw [1, 5] (fun nv v wr => ∃ (f m : Nat) (done : List UInt8) (g' n' cap' : Nat), v = .slice (some ⟨g', 0, none⟩) n' cap' ∧ nv = .int .i64 (m : Int) ∧ m ≤ 1000000000 ∧ m < 128 ^ (f + 1) ∧ f ≤ 4 ∧ Own wr w.heap.size g' n' cap' (bs ++ done) ∧ done.length + f = 4 ∧ Below w.heap.size w wr ∧ done ++ groups f m = numBytes N) (fun nv _ _ => (intOf nv).toNat)
    case atStart =>
      exact ⟨4, clamp N, [], g1, len, cap1, rfl, val_int (by unfold clamp; split <;> (try split) <;> omega), clamp_le N, by have := clamp_le N; omega, by omega, by rw [List.append_nil]; exact HO1.out, rfl, hB1, rfl⟩
    case round =>
      clear HO1 hB1 hba
      obtain ⟨f, m, done, g', n', cap', rfl, rfl, hm9, hm, hf, hO, hdl, hB, hgr⟩ := hrel
      have HG := Hid.mk' hgr
      have hlen := hO.1
      simp only [List.length_append] at hlen
      have HM := Hid.mk' hm
      have HL := Hid.mk' hlen
      have hn' : n' ≤ 1099511627781 := by omega
      have hbw : w.heap.size ≤ wr.heap.size := hB.size
      have hc3 : n' + 1 ≤ maxLen := by unfold maxLen; omega
      have hc4 : (n' + 1) * 1 ≤ 140737488355328 := by omega
      have HD := Hid.mk' hdl
      clear hgr hm hlen hdl
      by_cases hge : 128 ≤ m
      · obtain ⟨f', rfl⟩ : ∃ f', f = f' + 1 := by
          cases f with
          | zero => exact absurd HM.out (by omega)
          | succ f' => exact ⟨f', rfl⟩
        have hv8 := or_hi m hm9
        go_wp2_with (at_builtin; refine wpList_append_own _ rfl _ _ 22 rfl w.heap.size 5 i0 (.int .u8 0) 1 1 Tryd.underlying22 hi hz0 hz1 hz2 rfl (by decide) _ _ _ rfl (hO.2.alloc _) ⟨wr.heap.size, 0, none⟩ 1 1 [_] rfl rfl (cell_one_new _ _ _) (one_oneCell _ _) hc3 hc4 (le_alloc _ _ hbw) ?_)
        intro v2 w2 hown hgrow hnn
        obtain ⟨g2, cap2, hv, hO2⟩ := own_app (m := 1) (ns := [UInt8.ofNat (128 + m % 128)]) hO.1 rfl (one_val (byte_hi m)) hnn hown
        subst hv
        have hB2 : Below w.heap.size w w2 := (hB.alloc hbw _).grown hgrow (le_alloc _ _ hbw) (fun k e => by simp [Value.ownBlock] at e; have := hO.lt; omega)
        have HO2 := Hid.mk' hO2
        clear hown hgrow hO hO2 hB hnn
        go_wp2
        go_roundw
        case rel =>
          refine ⟨f', m / 128, done ++ [UInt8.ofNat (128 + m % 128)], g2, n' + 1, cap2, rfl, by go_num, by omega, ?_, by omega, by rw [← List.append_assoc]; exact HO2.out, ?_, hB2, ?_⟩
          · have := HM.out; rw [Nat.pow_succ] at this; exact Nat.div_lt_of_lt_mul (by omega)
          · have := HD.out; simp; omega
          · rw [List.append_assoc, List.singleton_append, ← groups_high f' m hge]; exact HG.out
        case measure => simp [intOf]; omega
      · go_wp2_with (at_builtin; refine wpList_append_own _ rfl _ _ 22 rfl w.heap.size 5 i0 (.int .u8 0) 1 1 Tryd.underlying22 hi hz0 hz1 hz2 rfl (by decide) _ _ _ rfl (hO.2.alloc _) ⟨wr.heap.size, 0, none⟩ 1 1 [_] rfl rfl (cell_one_new _ _ _) (one_oneCell _ _) hc3 hc4 (le_alloc _ _ hbw) ?_)
        intro v2 w2 hown hgrow hnn
        obtain ⟨g2, cap2, hv, hO2⟩ := own_app (m := 1) (ns := [UInt8.ofNat m]) hO.1 rfl (one_val (byte_lo m (by omega)).symm) hnn hown
        subst hv
        have hB2 : Below w.heap.size w w2 := (hB.alloc hbw _).grown hgrow (le_alloc _ _ hbw) (fun k e => by simp [Value.ownBlock] at e; have := hO.lt; omega)
        have HO2 := Hid.mk' hO2
        clear hown hgrow hO hO2 hB hnn
        go_wp2
        go_ret
        refine ⟨g2, _, cap2, rfl, ?_, hB2⟩
        have hx := HO2.out
        rw [List.append_assoc, ← groups_low f m (by omega), HG.out] at hx
        exact hx

end Go.Proofs.YtooiinicnkhlbaaDoor.putnum

namespace Go.Proofs.YtooiinicnkhlbaaDoor.puttext
open Go.RowKit Go.Proofs.YtooiinicnkhlbaaDoor.base Go.Proofs.YtooiinicnkhlbaaDoor.help Go.Proofs.YtooiinicnkhlbaaDoor.putnum
set_option linter.unusedVariables false
set_option linter.unusedSimpArgs false

def textBytes (s : ByteArray) : List UInt8 := numBytes (s.size : Int) ++ s.data.toList
def textsBytes (ss : List ByteArray) : List UInt8 := (ss.map textBytes).flatten
theorem textBytes_length (s : ByteArray) : (textBytes s).length ≤ s.size + 5 := by
  have := numBytes_length (s.size : Int); simp [textBytes]; omega
theorem size_toList (s : ByteArray) : s.data.toList.length = s.size := by simp
theorem strCells_eq (s : ByteArray) : Lib.strCells s = byteVals s.data.toList := rfl
theorem wf_len (s : ByteArray) (h : s.size ≤ maxLen) : (Lit.int .i64 (s.size : Int)).wf = true := by
  unfold maxLen at h
  exact WalkArith.wf_i64 (by omega)

set_option maxRecDepth 100000 in
set_option maxHeartbeats 1000000 in
theorem spec_text (b off len cap : Nat) (bs : List UInt8) (s : ByteArray) (w : World) (h : Sl w (some ⟨b, off, none⟩) len bs) (hsz : len ≤ 549755813888) (hs : s.size ≤ 549755813888) :
    Calls Tryd.prog 83 #[.slice (some ⟨b, off, none⟩) len cap, .string s] w fun e w' =>
      ∃ g' n' cap', e = .returned (.slice (some ⟨g', 0, none⟩) n' cap') ∧ Own w' w.heap.size g' n' cap' (bs ++ textBytes s) ∧ Below w.heap.size w w' := by
  have hwf : (Lit.int .i64 (s.size : Int)).wf = true := WalkArith.wf_i64 (by omega)
  have hnb := numBytes_length (s.size : Int)
  have hl := h.1
  obtain ⟨i0, hi, hz0, hz1, hz2⟩ := info_parts info8
  go_enter Tryd.func83, Tryd.ntmps83
  go_wp2_with fail
  refine (spec_put b off len cap bs _ _ h hwf (by omega)).mono ?_
  rintro e w1 ⟨g1, n1, cap1, rfl, hO1, hB1⟩
  have hn1 : n1 ≤ 549755813893 := by have := hO1.1; simp at this; omega
  have hc3 : n1 + s.size ≤ maxLen := by unfold maxLen; omega
  have hc4 : n1 + s.size ≤ 140737488355328 := by omega
  have hbw := hB1.size
  go_wp2_with (at_builtin; refine Lib.wpList_append_own_string _ rfl _ _ 22 9 rfl w.heap.size 5 i0 Tryd.underlying22 Tryd.underlying9 hi hz0 hz1 hz2 _ _ _ rfl hO1.2 s rfl hc3 hc4 hbw ?_)
  intro v2 w2 hown hgrow hnn
  have hnn' : ¬ v2 = .slice none 0 0 := by simpa using hnn
  rw [strCells_eq] at hown
  obtain ⟨g2, cap2, hv, hO2⟩ := own_app (m := s.size) (ns := s.data.toList) hO1.1 (size_toList s) rfl hnn' hown
  subst hv
  have hB2 : Below w.heap.size w w2 := hB1.grown hgrow hbw (fun k e => by simp [Value.ownBlock] at e; have := hO1.lt; omega)
  have HO2 := Hid.mk' hO2
  clear hown hgrow hnn hnn' hO1 hO2 hB1
  go_wp2
  go_ret
  refine ⟨g2, _, cap2, rfl, ?_, hB2⟩
  have hx := HO2.out
  rw [List.append_assoc] at hx
  exact hx

theorem textsBytes_snoc (ss : List ByteArray) (s : ByteArray) : textsBytes (ss ++ [s]) = textsBytes ss ++ textBytes s := by simp [textsBytes]
theorem textsBytes_take (ss : List ByteArray) (k : Nat) (h : k < ss.length) : textsBytes (ss.take (k + 1)) = textsBytes (ss.take k) ++ textBytes ss[k] := by
  rw [List.take_succ_eq_append_getElem h, textsBytes_snoc]
theorem textsBytes_le (ss : List ByteArray) (k : Nat) : (textsBytes (ss.take k)).length ≤ (textsBytes ss).length := by
  have e : textsBytes ss = textsBytes (ss.take k) ++ textsBytes (ss.drop k) := by
    simp only [textsBytes, ← List.flatten_append, ← List.map_append, List.take_append_drop]
  rw [e, List.length_append]; omega
theorem size_le_textBytes (s : ByteArray) : s.size ≤ (textBytes s).length := by simp [textBytes]

set_option maxRecDepth 100000 in
set_option maxHeartbeats 1000000 in
theorem addTexts (g n cap base : Nat) (bs : List UInt8) (a : Option Addr) (len cap2 : Nat) (ss : List ByteArray) (w : World) (h : Own w base g n cap bs) (hb : base ≤ w.heap.size)
    (hS : SlS w a len ss) (hblk : ∀ b off, a = some ⟨b, off, none⟩ → ∃ cur mk, w.heap[b]? = some (.cells cur 9 mk)) (hsz : n + (textsBytes ss).length ≤ 549755813888) (hss : ∀ s ∈ ss, s.size ≤ 549755813888) :
    Calls Tryd.prog 89 #[.slice (some ⟨g, 0, none⟩) n cap, .slice a len cap2] w fun e w' =>
      ∃ g' n' cap', e = .returned (.slice (some ⟨g', 0, none⟩) n' cap') ∧ Own w' base g' n' cap' (bs ++ textsBytes ss) ∧ Below base w w' ∧ Keeps w w' := by
  obtain ⟨hl, hm, _, hc⟩ := hS
  subst hl
  unfold maxLen at hm
  obtain ⟨i0, hi, hz0, hz1, hz2⟩ := info_parts info8
  have hn0 := h.1
  go_enter Tryd.func89, Tryd.ntmps89
  go_wp2
  go_loopw [0, 9] (fun v i wr => ∃ (k g' n' cap' : Nat), v = .slice (some ⟨g', 0, none⟩) n' cap' ∧ i = .int .i64 (k : Int) ∧ k ≤ ss.length ∧ Own wr base g' n' cap' (bs ++ textsBytes (ss.take k)) ∧ Below base w wr ∧ Keeps w wr) (fun _ i _ => ss.length - (intOf i).toNat)
  case atStart => exact ⟨0, g, n, cap, rfl, rfl, Nat.zero_le _, by simpa [textsBytes] using h, Below.refl _ _, Keeps.refl _⟩
  case round =>
    obtain ⟨k, g', n', cap', rfl, rfl, hk, hO, hB, hK⟩ := hrel
    by_cases hlt : k < ss.length
    · obtain ⟨b, off, ha, hcl⟩ := hc (by omega)
      obtain ⟨cur, mk, hbk⟩ := hblk b off ha
      subst ha
      have hbl : b < w.heap.size := (Array.getElem?_eq_some_iff.1 hbk).1
      have e1 : wr.heap[b]? = w.heap[b]? := hK.2 b hbl (by intro cur'; rw [hbk]; simp)
      generalize hsk : ss[k] = s
      have c1 : wr.cell? ⟨b, off + k, none⟩ = some (.string s) := by
        rw [World.cell?_of_block (w := w) (w' := wr) (a := ⟨b, off + k, none⟩) e1, hcl k hlt, hsk]
      have hs9 : s.size ≤ 549755813888 := by rw [← hsk]; exact hss _ (List.getElem_mem hlt)
      have hT := textsBytes_take ss k hlt
      rw [hsk] at hT
      have hle := textsBytes_le ss (k + 1)
      rw [hT, List.length_append] at hle
      have hs1 := size_le_textBytes s
      have hn' : n' + s.size ≤ 549755813888 := by have := hO.1; simp only [List.length_append] at this; omega
      have hwf : (Lit.int .i64 (s.size : Int)).wf = true := WalkArith.wf_i64 (by omega)
      have hnb := numBytes_length (s.size : Int)
      have hbw : base ≤ wr.heap.size := Nat.le_trans hb hB.size
      have HT := Hid.mk' hT
      clear hT hle hs1 hcl hc hblk e1 hbk hsk hss
      go_wp2_with fail
      refine (addNum g' n' cap' base _ _ _ hO hbw hwf (by omega)).mono ?_
      rintro e w1 ⟨g1, n1, cap1, rfl, hO1, hB1, hK1⟩
      rw [List.append_assoc] at hO1
      have hn1 : n1 ≤ n' + 5 := by have := hO1.1; have := hO.1; simp only [List.length_append] at *; omega
      have hc3 : n1 + s.size ≤ maxLen := by unfold maxLen; omega
      have hc4 : n1 + s.size ≤ 140737488355328 := by omega
      have hbw1 : base ≤ w1.heap.size := Nat.le_trans hbw hB1.size
      go_wp2_with (at_builtin; refine Lib.wpList_append_own_string _ rfl _ _ 22 9 rfl base 5 i0 Tryd.underlying22 Tryd.underlying9 hi hz0 hz1 hz2 _ _ _ rfl hO1.2 s rfl hc3 hc4 hbw1 ?_)
      intro v2 w2 hown hgrow hnn
      have hnn' : ¬ v2 = .slice none 0 0 := by simpa using hnn
      rw [strCells_eq] at hown
      obtain ⟨g2, cap2', hv, hO2⟩ := own_app (m := s.size) (ns := s.data.toList) hO1.1 (size_toList s) rfl hnn' hown
      subst hv
      have hB2 : Below base w w2 := (hB.trans hB1).grown hgrow hbw1 (fun k e => by simp [Value.ownBlock] at e; have := hO1.lt; omega)
      have hK2 : Keeps w w2 := (hK.trans hK1).trans (hO1.keeps hgrow)
      have HO2 : Hid (Own w2 base g2 (n1 + s.size) cap2' (bs ++ textsBytes (ss.take (k + 1)))) := by
        show Own w2 base g2 (n1 + s.size) cap2' (bs ++ textsBytes (ss.take (k + 1)))
        rw [HT.out]
        simpa [textBytes, List.append_assoc] using hO2
      clear hown hgrow hnn hnn' hO1 hO2 hB1 hO hB hK hK1
      go_wp2
      go_roundw
      case rel => exact ⟨k + 1, g2, _, cap2', rfl, by go_num, by omega, HO2.out, hB2, hK2⟩
      case measure => simp [intOf]; omega
    · have e : k = ss.length := by omega
      go_wp2
      go_ret
      subst e
      rw [List.take_length] at hO
      exact ⟨g', n', cap', rfl, hO, hB, hK⟩


end Go.Proofs.YtooiinicnkhlbaaDoor.puttext

namespace Go.Proofs.YtooiinicnkhlbaaDoor.puttexts
open Go.RowKit Go.Proofs.YtooiinicnkhlbaaDoor.base Go.Proofs.YtooiinicnkhlbaaDoor.help Go.Proofs.YtooiinicnkhlbaaDoor.helps Go.Proofs.YtooiinicnkhlbaaDoor.putnum Go.Proofs.YtooiinicnkhlbaaDoor.puttext
set_option linter.unusedVariables false
set_option linter.unusedSimpArgs false

def listBytes (ss : List ByteArray) : List UInt8 := numBytes (ss.length : Int) ++ textsBytes ss
/-- how many letters -/
def sum (ss : List ByteArray) : Nat := (ss.map ByteArray.size).sum
theorem sum_snoc (ss : List ByteArray) (s : ByteArray) : sum (ss ++ [s]) = sum ss + s.size := by simp [sum]
theorem sum_take (ss : List ByteArray) (k : Nat) (h : k < ss.length) : sum (ss.take (k + 1)) = sum (ss.take k) + ss[k].size := by
  rw [List.take_succ_eq_append_getElem h, sum_snoc]
theorem sum_le (ss : List ByteArray) (k : Nat) : sum (ss.take k) ≤ sum ss := by
  have e : sum ss = sum (ss.take k) + sum (ss.drop k) := by
    unfold sum; rw [← List.sum_append, ← List.map_append, List.take_append_drop]
  omega
theorem size_le_sum (ss : List ByteArray) : ∀ s ∈ ss, s.size ≤ sum ss := by
  induction ss with
  | nil => intro s h; exact absurd h List.not_mem_nil
  | cons x l ih =>
    intro s h
    simp only [sum, List.map_cons, List.sum_cons] at *
    rcases List.mem_cons.1 h with h | h
    · subst h; omega
    · have := ih s h; omega
theorem textsBytes_sum (ss : List ByteArray) : (textsBytes ss).length ≤ sum ss + 5 * ss.length := by
  induction ss with
  | nil => simp [textsBytes]
  | cons x l ih =>
    have := textBytes_length x
    simp only [textsBytes, sum, List.map_cons, List.flatten_cons, List.sum_cons, List.length_append, List.length_cons] at *
    omega

def szR (L t : Nat) : Int := if t ≤ L then (L : Int) - (t : Int) else -1
theorem szR_neg {L t : Nat} (h : L < t) : szR L t = -1 := by unfold szR; rw [if_neg (by omega)]
theorem szR_pos {L t : Nat} (h : t ≤ L) : szR L t = (L : Int) - (t : Int) := by unfold szR; rw [if_pos h]




end Go.Proofs.YtooiinicnkhlbaaDoor.puttexts

namespace Go.Proofs.YtooiinicnkhlbaaDoor.nummath
open Go.RowKit Go.Proofs.YtooiinicnkhlbaaDoor.base Go.Proofs.YtooiinicnkhlbaaDoor.help Go.Proofs.YtooiinicnkhlbaaDoor.getnum Go.Proofs.YtooiinicnkhlbaaDoor.putnum Go.Proofs.YtooiinicnkhlbaaDoor.gettext Go.Proofs.YtooiinicnkhlbaaDoor.puttext Go.Proofs.YtooiinicnkhlbaaDoor.gettexts Go.Proofs.YtooiinicnkhlbaaDoor.puttexts
set_option linter.unusedVariables false
set_option linter.unusedSimpArgs false

theorem byteN (n : Nat) (h : n < 256) : (UInt8.ofNat n).toNat = n := by
  have := byte_of n; omega

theorem get_groups (f n k m : Nat) (rest : List UInt8) (hn : n < 128 ^ (f + 1)) (hk : k + f ≤ 4) (hz : k = 0 ∨ 0 < n) (hm : m + n * 128 ^ k ≤ 1000000000) :
    getGo (groups f n ++ rest) k m = some (m + n * 128 ^ k, k + (groups f n).length) := by
  induction f generalizing n k m with
  | zero =>
    have hn' : n < 128 := by simpa using hn
    simp only [groups, List.singleton_append, getGo, List.length_singleton]
    rw [if_neg (by omega), byteN n (by omega), if_neg (by omega), Nat.mod_eq_of_lt hn', if_neg (by omega)]
  | succ f ih =>
    by_cases hlt : n < 128
    · rw [groups_low _ _ hlt]
      simp only [List.singleton_append, getGo, List.length_singleton]
      rw [if_neg (by omega), byteN n (by omega), if_neg (by omega), Nat.mod_eq_of_lt hlt, if_neg (by omega)]
    · rw [groups_high f n (by omega)]
      simp only [List.cons_append, getGo, List.length_cons]
      have e1 : (128 + n % 128) % 128 = n % 128 := by omega
      have e2 : m + n % 128 * 128 ^ k + n / 128 * 128 ^ (k + 1) = m + n * 128 ^ k := by
        have h1 : n / 128 * 128 ^ (k + 1) = (n / 128 * 128) * 128 ^ k := by rw [Nat.pow_succ]; ac_rfl
        have h2 : n % 128 * 128 ^ k + (n / 128 * 128) * 128 ^ k = n * 128 ^ k := by
          rw [← Nat.add_mul]; congr 1; omega
        omega
      rw [if_neg (by omega), byteN (128 + n % 128) (by omega), if_pos (by omega), e1,
        ih (n / 128) (k + 1) (m + n % 128 * 128 ^ k) (by rw [Nat.pow_succ] at hn; exact Nat.div_lt_of_lt_mul (by omega)) (by omega) (by omega) (by omega), e2]
      congr 2
      omega
theorem get_cut (f n k m : Nat) : getGo (groups f n).dropLast k m = none := by
  induction f generalizing n k m with
  | zero => simp [groups, getGo]
  | succ f ih =>
    by_cases hlt : n < 128
    · rw [groups_low _ _ hlt]; simp [getGo]
    · rw [groups_high f n (by omega)]
      have hne : groups f (n / 128) ≠ [] := by
        intro e
        have := (groups_length f (n / 128)).1
        rw [e] at this; simp at this
      rw [List.dropLast_cons_of_ne_nil hne]
      simp only [getGo]
      split
      · rfl
      · rw [byteN (128 + n % 128) (by omega), if_pos (by omega)]
        exact ih _ _ _

theorem getNum_put (bs rest : List UInt8) (z : Int) : getNum (bs ++ numBytes z ++ rest) (bs.length : Int) = some (clamp z, (numBytes z).length) := by
  unfold getNum numBytes
  have hc := clamp_le z
  rw [if_neg (by omega), Int.toNat_natCast, List.append_assoc, List.drop_left]
  have := get_groups 4 (clamp z) 0 0 rest (by omega) (by omega) (.inl rfl) (by omega)
  simpa using this
theorem getNum_cut (bs : List UInt8) (z : Int) (n : Nat) (hn : n + 1 = (bs ++ numBytes z).length) : getNum ((bs ++ numBytes z).take n) (bs.length : Int) = none := by
  unfold getNum
  rw [if_neg (by omega), Int.toNat_natCast]
  have hl := numBytes_length z
  simp only [List.length_append] at hn
  have e : (bs ++ numBytes z).take n = bs ++ (numBytes z).dropLast := by
    rw [List.dropLast_eq_take, List.take_append]
    congr 1
    · exact List.take_of_length_le (by omega)
    · congr 1; omega
  rw [e, List.drop_left]
  exact get_cut _ _ _ _
theorem clamp_nat (n : Nat) (h : n ≤ 1000000000) : clamp (n : Int) = n := by
  unfold clamp; rw [if_neg (by omega), if_neg (by omega), Int.toNat_natCast]
theorem getText_put (bs rest : List UInt8) (s : ByteArray) (h : s.size ≤ 1000000000) : getText (bs ++ textBytes s ++ rest) (bs.length : Int) = some (s, (textBytes s).length) := by
  unfold getText
  have e : bs ++ textBytes s ++ rest = bs ++ numBytes (s.size : Int) ++ (s.data.toList ++ rest) := by simp [textBytes]
  have h1 := getNum_put bs (s.data.toList ++ rest) (s.size : Int)
  rw [← e, clamp_nat s.size h] at h1
  rw [h1]
  simp only [Int.toNat_natCast]
  have hlen : (textBytes s).length = (numBytes (s.size : Int)).length + s.size := by simp [textBytes]
  rw [if_neg (by simp only [List.length_append]; omega), hlen]
  congr 2
  unfold cut
  apply WideShapes.bytes_inj
  rw [e]
  simp only []
  rw [show bs.length + (numBytes (s.size : Int)).length = (bs ++ numBytes (s.size : Int)).length by simp, List.drop_left]
  simp

end Go.Proofs.YtooiinicnkhlbaaDoor.nummath
