/- Writing a number: the program's and the specification's PutNum answer as one and the same function. Writing texts: the program's and the specification's PutText answer as one and the same function. Plain mathematics of pairs of texts. Plain mathematics of trees: digests of pairs, the way from a leaf up. Rows of pairs of texts: small facts on worlds; no function of the program is named here. -/
import Derived.Test.YteammdkipnfmnaaDoorRows
import Derived.Test.YteammdkipnfmnaaDoorShaa
import Derived.Laws.CopyOwn
import Derived.Lib.AppendStr
import Derived.Sort.Walk0
import Derived.WideShapes
import Derived.OwnWalk
namespace Go.Proofs.YteammdkipnfmnaaDoor.putnum
open Go.RowKit Go.Proofs.YteammdkipnfmnaaDoor.base Go.Proofs.YteammdkipnfmnaaDoor.help
set_option linter.unusedVariables false
set_option linter.unusedSimpArgs false

def groups : Nat → Nat → List UInt8
  | 0, n => [UInt8.ofNat n]
  | f + 1, n => if n < 128 then [UInt8.ofNat n] else UInt8.ofNat (128 + n % 128) :: groups f (n / 128)
def clamp (n : Int) : Nat := if n < 0 then 0 else if 1000000000 < n then 1000000000 else n.toNat
def numBytes (n : Int) : List UInt8 := groups 4 (clamp n)
theorem clamp_le (n : Int) : clamp n ≤ 1000000000 := by unfold clamp; split <;> (try split) <;> omega
theorem groups_length (f n : Nat) : 1 ≤ (groups f n).length ∧ (groups f n).length ≤ f + 1 := by
  induction f generalizing n with
  | zero => simp [groups]
  | succ f ih =>
    rw [groups]
    split
    · simp
    · have := ih (n / 128); simp only [List.length_cons]; omega
theorem numBytes_length (n : Int) : 1 ≤ (numBytes n).length ∧ (numBytes n).length ≤ 5 := groups_length 4 _
theorem groups_low (f n : Nat) (h : n < 128) : groups f n = [UInt8.ofNat n] := by
  cases f with
  | zero => rfl
  | succ f => rw [groups, if_pos h]
theorem groups_high (f n : Nat) (h : 128 ≤ n) : groups (f + 1) n = UInt8.ofNat (128 + n % 128) :: groups f (n / 128) := by
  rw [groups, if_neg (by omega)]

theorem byte_hi (m : Nat) : 128 + (m : Int) % 128 = ((UInt8.ofNat (128 + m % 128)).toNat : Int) := by rw [byte_of]; omega
theorem byte_lo (m : Nat) (h : m < 128) : ((UInt8.ofNat m).toNat : Int) = (m : Int) := by rw [byte_of]; omega
set_option maxRecDepth 100000 in
set_option maxHeartbeats 1000000 in
theorem addNum (g n cap base : Nat) (bs : List UInt8) (N : Int) (w : World) (h : Own w base g n cap bs) (hb : base ≤ w.heap.size) (hN : (Lit.int .i64 N).wf = true) (hsz : n ≤ 1099511627776) :
    Calls Tryd.prog 97 #[.slice (some ⟨g, 0, none⟩) n cap, .int .i64 N] w fun e w' =>
      ∃ g' n' cap', e = .returned (.slice (some ⟨g', 0, none⟩) n' cap') ∧ Own w' base g' n' cap' (bs ++ numBytes N) ∧ Below base w w' ∧ Keeps w w' := by
  have hNb : -9223372036854775808 ≤ N ∧ N ≤ 9223372036854775807 := by simpa [Lit.wf, IntKind.min, IntKind.max, IntKind.signed, IntKind.bits] using hN
  obtain ⟨i0, hi, hz0, hz1, hz2⟩ := info_parts info8
  have hcases : N < 0 ∨ 1000000000 < N ∨ (0 ≤ N ∧ N ≤ 1000000000) := by omega
  rcases hcases with hc | hc | ⟨hc, hc'⟩
  all_goals
    go_enter Tryd.func97, Tryd.ntmps97
    go_wp2
    go_loopw [0, 1] (fun v nv wr => ∃ (f m : Nat) (done : List UInt8) (g' n' cap' : Nat), v = .slice (some ⟨g', 0, none⟩) n' cap' ∧ nv = .int .i64 (m : Int) ∧ m ≤ 1000000000 ∧ m < 128 ^ (f + 1) ∧ f ≤ 4 ∧ Own wr base g' n' cap' (bs ++ done) ∧ done.length + f = 4 ∧ (Below base w wr ∧ Keeps w wr) ∧ done ++ groups f m = numBytes N) (fun _ nv _ => (intOf nv).toNat)
    case atStart =>
      exact ⟨4, clamp N, [], g, n, cap, rfl, val_int (by unfold clamp; split <;> (try split) <;> omega), clamp_le N, by have := clamp_le N; omega, by omega, by rw [List.append_nil]; exact h, rfl, ⟨Below.refl _ _, Keeps.refl _⟩, rfl⟩
    case round =>
      obtain ⟨f, m, done, g', n', cap', rfl, rfl, hm9, hm, hf, hO, hdl, ⟨hB, hK⟩, hgr⟩ := hrel
      have HG := Hid.mk' hgr
      have hlen := hO.1
      simp only [List.length_append] at hlen
      have hbl := h.1
      have HM := Hid.mk' hm
      have HL := Hid.mk' hlen
      have hn' : n' ≤ 1099511627781 := by omega
      have hBs := hB.size
      have hbw : base ≤ wr.heap.size := by omega
      have hc3 : n' + 1 ≤ maxLen := by unfold maxLen; omega
      have hc4 : (n' + 1) * 1 ≤ 140737488355328 := by omega
      have HD := Hid.mk' hdl
      clear hgr hm hlen hbl hdl
      by_cases hge : 128 ≤ m
      · obtain ⟨f', rfl⟩ : ∃ f', f = f' + 1 := by
          cases f with
          | zero => exact absurd HM.out (by omega)
          | succ f' => exact ⟨f', rfl⟩
        go_wp2_with (at_builtin; refine wpList_append_own _ rfl _ _ 92 rfl base 5 i0 (.int .u8 0) 1 1 Tryd.underlying92 hi hz0 hz1 hz2 rfl (by decide) _ _ _ rfl (hO.2.alloc _) ⟨wr.heap.size, 0, none⟩ 1 1 [_] rfl rfl (cell_one_new _ _ _) (one_oneCell _ _) hc3 hc4 (le_alloc _ _ hbw) ?_)
        intro v1 w1 hown hgrow hnn
        obtain ⟨g2, cap2, hv, hO2⟩ := own_app (m := 1) (ns := [UInt8.ofNat (128 + m % 128)]) hO.1 rfl (one_val (byte_hi m)) hnn hown
        subst hv
        have hB2 : Below base w w1 := (hB.alloc hbw _).grown hgrow (le_alloc _ _ hbw) (fun k e => by simp [Value.ownBlock] at e; have := hO.lt; omega)
        have hK2 : Keeps w w1 := (hK.alloc _).trans (((hO.below ((Below.refl _ _).alloc (Nat.le_refl _) _))).keeps hgrow)
        have HO2 := Hid.mk' hO2
        clear hown hgrow hO hO2 hB hnn
        go_wp2
        go_roundw
        case rel =>
          refine ⟨f', m / 128, done ++ [UInt8.ofNat (128 + m % 128)], g2, n' + 1, cap2, rfl, by go_num, by omega, ?_, by omega, by rw [← List.append_assoc]; exact HO2.out, ?_, ⟨hB2, hK2⟩, ?_⟩
          · have := HM.out; rw [Nat.pow_succ] at this; exact Nat.div_lt_of_lt_mul (by omega)
          · have := HD.out; simp; omega
          · rw [List.append_assoc, List.singleton_append, ← groups_high f' m hge]; exact HG.out
        case measure => simp [intOf]; omega
      · go_wp2_with (at_builtin; refine wpList_append_own _ rfl _ _ 92 rfl base 5 i0 (.int .u8 0) 1 1 Tryd.underlying92 hi hz0 hz1 hz2 rfl (by decide) _ _ _ rfl (hO.2.alloc _) ⟨wr.heap.size, 0, none⟩ 1 1 [_] rfl rfl (cell_one_new _ _ _) (one_oneCell _ _) hc3 hc4 (le_alloc _ _ hbw) ?_)
        intro v1 w1 hown hgrow hnn
        obtain ⟨g2, cap2, hv, hO2⟩ := own_app (m := 1) (ns := [UInt8.ofNat m]) hO.1 rfl (one_val (byte_lo m (by omega)).symm) hnn hown
        subst hv
        have hB2 : Below base w w1 := (hB.alloc hbw _).grown hgrow (le_alloc _ _ hbw) (fun k e => by simp [Value.ownBlock] at e; have := hO.lt; omega)
        have hK2 : Keeps w w1 := (hK.alloc _).trans (((hO.below ((Below.refl _ _).alloc (Nat.le_refl _) _))).keeps hgrow)
        have HO2 := Hid.mk' hO2
        clear hown hgrow hO hO2 hB hnn
        go_wp2
        go_ret
        refine ⟨g2, _, cap2, rfl, ?_, hB2, hK2⟩
        have hx := HO2.out
        rw [List.append_assoc, ← groups_low f m (by omega), HG.out] at hx
        exact hx



theorem or_hi (m : Nat) (h : m ≤ 1000000000) : bits .or .i64 (bits .and .i64 (m : Int) 127) 128 = 128 + (m : Int) % 128 := by
  have hand : bits .and .i64 (m : Int) 127 = ((m % 128 : Nat) : Int) := by
    rw [show (127 : Int) = 2 ^ 7 - 1 from rfl, bits_mask .i64 63 (by decide) wraps_i64 7 (by decide) (m : Int) (by omega) (by omega)]
    omega
  rw [hand, show (128 : Int) = ((128 : Nat) : Int) from rfl, (bits_nat .i64 63 (by decide) wraps_i64 (m % 128) 128 (by omega) (by omega)).2, Nat.or_comm,
    nat_join 7 128 (m % 128) (by decide) (by omega)]
  omega

set_option maxRecDepth 100000 in
set_option maxHeartbeats 1000000 in
theorem spec_put (b off len cap : Nat) (bs : List UInt8) (N : Int) (w : World) (h : Sl w (some ⟨b, off, none⟩) len bs) (hN : (Lit.int .i64 N).wf = true) (hsz : len ≤ 1099511627776) :
    Calls Tryd.prog 89 #[.slice (some ⟨b, off, none⟩) len cap, .int .i64 N] w fun e w' =>
      ∃ g' n' cap', e = .returned (.slice (some ⟨g', 0, none⟩) n' cap') ∧ Own w' w.heap.size g' n' cap' (bs ++ numBytes N) ∧ Below w.heap.size w w' := by
  have hNb : -9223372036854775808 ≤ N ∧ N ≤ 9223372036854775807 := by simpa [Lit.wf, IntKind.min, IntKind.max, IntKind.signed, IntKind.bits] using hN
  obtain ⟨i0, hi, hz0, hz1, hz2⟩ := info_parts info8
  have hl := h.1
  have hba : Below w.heap.size w (w.alloc (.cells #[] 5)) := (Below.refl _ _).alloc (Nat.le_refl _) _
  have hsl := sl_cells (h.below hba)
  have hn0 : (byteVals bs).length = len * 1 := by rw [byteVals_length]; omega
  have hm1 : 0 + len ≤ maxLen := by unfold maxLen; omega
  have hm2 : (0 + len) * 1 ≤ 140737488355328 := by omega
  have hown0 : (w.alloc (.cells #[] 5)).ownsRow w.heap.size 5 1 (.slice (some ⟨w.heap.size, 0, none⟩) 0 0) 0 [] := World.ownsRow_made w #[] 0 (Nat.le_refl _) (Nat.zero_le _) rfl
  have HSL := Hid.mk' hsl
  have hcases : N < 0 ∨ 1000000000 < N ∨ (0 ≤ N ∧ N ≤ 1000000000) := by omega
  clear hsl
  rcases hcases with hc | hc | ⟨hc, hc'⟩
  all_goals
    go_enter Tryd.func89, Tryd.ntmps89
    go_wp2_with (at_builtin; refine wpList_append_own _ rfl _ _ 92 rfl w.heap.size 5 i0 (.int .u8 0) 1 1 Tryd.underlying92 hi hz0 hz1 hz2 rfl (by decide) _ _ _ rfl hown0 ⟨b, off, none⟩ len cap (byteVals bs) rfl hn0 HSL.out (byteVals_oneCell _) hm1 hm2 (le_alloc _ _ (Nat.le_refl _)) ?_)
    intro v1 w1 hown hgrow hnn
    have hnn' : ¬ v1 = .slice none 0 0 := by simpa using hnn
    obtain ⟨g1, cap1, hv, hO1⟩ := own_val hl hnn' hown
    subst hv
    have hB1 : Below w.heap.size w w1 := hba.grown hgrow (le_alloc _ _ (Nat.le_refl _)) (fun k e => by simp [Value.ownBlock] at e; omega)
    have HO1 := Hid.mk' hO1
    clear hown hgrow hnn hnn' hO1 hown0 HSL hn0
    go_wp2_with (at_builtin; fail)
    go_loopw [1, 5] (fun nv v wr => ∃ (f m : Nat) (done : List UInt8) (g' n' cap' : Nat), v = .slice (some ⟨g', 0, none⟩) n' cap' ∧ nv = .int .i64 (m : Int) ∧ m ≤ 1000000000 ∧ m < 128 ^ (f + 1) ∧ f ≤ 4 ∧ Own wr w.heap.size g' n' cap' (bs ++ done) ∧ done.length + f = 4 ∧ Below w.heap.size w wr ∧ done ++ groups f m = numBytes N) (fun nv _ _ => (intOf nv).toNat)
    case atStart =>
      exact ⟨4, clamp N, [], g1, len, cap1, rfl, val_int (by unfold clamp; split <;> (try split) <;> omega), clamp_le N, by have := clamp_le N; omega, by omega, by rw [List.append_nil]; exact HO1.out, rfl, hB1, rfl⟩
    case round =>
      clear HO1 hB1 hba
      obtain ⟨f, m, done, g', n', cap', rfl, rfl, hm9, hm, hf, hO, hdl, hB, hgr⟩ := hrel
      have HG := Hid.mk' hgr
      have hlen := hO.1
      simp only [List.length_append] at hlen
      have HM := Hid.mk' hm
      have HL := Hid.mk' hlen
      have hn' : n' ≤ 1099511627781 := by omega
      have hbw : w.heap.size ≤ wr.heap.size := hB.size
      have hc3 : n' + 1 ≤ maxLen := by unfold maxLen; omega
      have hc4 : (n' + 1) * 1 ≤ 140737488355328 := by omega
      have HD := Hid.mk' hdl
      clear hgr hm hlen hdl
      by_cases hge : 128 ≤ m
      · obtain ⟨f', rfl⟩ : ∃ f', f = f' + 1 := by
          cases f with
          | zero => exact absurd HM.out (by omega)
          | succ f' => exact ⟨f', rfl⟩
        have hv8 := or_hi m hm9
        go_wp2_with (at_builtin; refine wpList_append_own _ rfl _ _ 92 rfl w.heap.size 5 i0 (.int .u8 0) 1 1 Tryd.underlying92 hi hz0 hz1 hz2 rfl (by decide) _ _ _ rfl (hO.2.alloc _) ⟨wr.heap.size, 0, none⟩ 1 1 [_] rfl rfl (cell_one_new _ _ _) (one_oneCell _ _) hc3 hc4 (le_alloc _ _ hbw) ?_)
        intro v2 w2 hown hgrow hnn
        obtain ⟨g2, cap2, hv, hO2⟩ := own_app (m := 1) (ns := [UInt8.ofNat (128 + m % 128)]) hO.1 rfl (one_val (byte_hi m)) hnn hown
        subst hv
        have hB2 : Below w.heap.size w w2 := (hB.alloc hbw _).grown hgrow (le_alloc _ _ hbw) (fun k e => by simp [Value.ownBlock] at e; have := hO.lt; omega)
        have HO2 := Hid.mk' hO2
        clear hown hgrow hO hO2 hB hnn
        go_wp2
        go_roundw
        case rel =>
          refine ⟨f', m / 128, done ++ [UInt8.ofNat (128 + m % 128)], g2, n' + 1, cap2, rfl, by go_num, by omega, ?_, by omega, by rw [← List.append_assoc]; exact HO2.out, ?_, hB2, ?_⟩
          · have := HM.out; rw [Nat.pow_succ] at this; exact Nat.div_lt_of_lt_mul (by omega)
          · have := HD.out; simp; omega
          · rw [List.append_assoc, List.singleton_append, ← groups_high f' m hge]; exact HG.out
        case measure => simp [intOf]; omega
      · go_wp2_with (at_builtin; refine wpList_append_own _ rfl _ _ 92 rfl w.heap.size 5 i0 (.int .u8 0) 1 1 Tryd.underlying92 hi hz0 hz1 hz2 rfl (by decide) _ _ _ rfl (hO.2.alloc _) ⟨wr.heap.size, 0, none⟩ 1 1 [_] rfl rfl (cell_one_new _ _ _) (one_oneCell _ _) hc3 hc4 (le_alloc _ _ hbw) ?_)
        intro v2 w2 hown hgrow hnn
        obtain ⟨g2, cap2, hv, hO2⟩ := own_app (m := 1) (ns := [UInt8.ofNat m]) hO.1 rfl (one_val (byte_lo m (by omega)).symm) hnn hown
        subst hv
        have hB2 : Below w.heap.size w w2 := (hB.alloc hbw _).grown hgrow (le_alloc _ _ hbw) (fun k e => by simp [Value.ownBlock] at e; have := hO.lt; omega)
        have HO2 := Hid.mk' hO2
        clear hown hgrow hO hO2 hB hnn
        go_wp2
        go_ret
        refine ⟨g2, _, cap2, rfl, ?_, hB2⟩
        have hx := HO2.out
        rw [List.append_assoc, ← groups_low f m (by omega), HG.out] at hx
        exact hx

end Go.Proofs.YteammdkipnfmnaaDoor.putnum

namespace Go.Proofs.YteammdkipnfmnaaDoor.puttext
open Go.RowKit Go.Proofs.YteammdkipnfmnaaDoor.base Go.Proofs.YteammdkipnfmnaaDoor.help Go.Proofs.YteammdkipnfmnaaDoor.putnum
set_option linter.unusedVariables false
set_option linter.unusedSimpArgs false

def textBytes (s : ByteArray) : List UInt8 := numBytes (s.size : Int) ++ s.data.toList
def textsBytes (ss : List ByteArray) : List UInt8 := (ss.map textBytes).flatten
theorem textBytes_length (s : ByteArray) : (textBytes s).length ≤ s.size + 5 := by
  have := numBytes_length (s.size : Int); simp [textBytes]; omega
theorem size_toList (s : ByteArray) : s.data.toList.length = s.size := by simp
theorem strCells_eq (s : ByteArray) : Lib.strCells s = byteVals s.data.toList := rfl
set_option maxRecDepth 100000 in
set_option maxHeartbeats 1000000 in
theorem spec_text (b off len cap : Nat) (bs : List UInt8) (s : ByteArray) (w : World) (h : Sl w (some ⟨b, off, none⟩) len bs) (hsz : len ≤ 549755813888) (hs : s.size ≤ 549755813888) :
    Calls Tryd.prog 81 #[.slice (some ⟨b, off, none⟩) len cap, .string s] w fun e w' =>
      ∃ g' n' cap', e = .returned (.slice (some ⟨g', 0, none⟩) n' cap') ∧ Own w' w.heap.size g' n' cap' (bs ++ textBytes s) ∧ Below w.heap.size w w' := by
  have hwf : (Lit.int .i64 (s.size : Int)).wf = true := WalkArith.wf_i64 (by omega)
  have hnb := numBytes_length (s.size : Int)
  have hl := h.1
  obtain ⟨i0, hi, hz0, hz1, hz2⟩ := info_parts info8
  go_enter Tryd.func81, Tryd.ntmps81
  go_wp2_with fail
  refine (spec_put b off len cap bs _ _ h hwf (by omega)).mono ?_
  rintro e w1 ⟨g1, n1, cap1, rfl, hO1, hB1⟩
  have hn1 : n1 ≤ 549755813893 := by have := hO1.1; simp at this; omega
  have hc3 : n1 + s.size ≤ maxLen := by unfold maxLen; omega
  have hc4 : n1 + s.size ≤ 140737488355328 := by omega
  have hbw := hB1.size
  go_wp2_with (at_builtin; refine Lib.wpList_append_own_string _ rfl _ _ 92 9 rfl w.heap.size 5 i0 Tryd.underlying92 Tryd.underlying9 hi hz0 hz1 hz2 _ _ _ rfl hO1.2 s rfl hc3 hc4 hbw ?_)
  intro v2 w2 hown hgrow hnn
  have hnn' : ¬ v2 = .slice none 0 0 := by simpa using hnn
  rw [strCells_eq] at hown
  obtain ⟨g2, cap2, hv, hO2⟩ := own_app (m := s.size) (ns := s.data.toList) hO1.1 (size_toList s) rfl hnn' hown
  subst hv
  have hB2 : Below w.heap.size w w2 := hB1.grown hgrow hbw (fun k e => by simp [Value.ownBlock] at e; have := hO1.lt; omega)
  have HO2 := Hid.mk' hO2
  clear hown hgrow hnn hnn' hO1 hO2 hB1
  go_wp2
  go_ret
  refine ⟨g2, _, cap2, rfl, ?_, hB2⟩
  have hx := HO2.out
  rw [List.append_assoc] at hx
  exact hx

theorem textsBytes_snoc (ss : List ByteArray) (s : ByteArray) : textsBytes (ss ++ [s]) = textsBytes ss ++ textBytes s := by simp [textsBytes]
theorem textsBytes_take (ss : List ByteArray) (k : Nat) (h : k < ss.length) : textsBytes (ss.take (k + 1)) = textsBytes (ss.take k) ++ textBytes ss[k] := by
  rw [List.take_succ_eq_append_getElem h, textsBytes_snoc]
theorem textsBytes_le (ss : List ByteArray) (k : Nat) : (textsBytes (ss.take k)).length ≤ (textsBytes ss).length := by
  have e : textsBytes ss = textsBytes (ss.take k) ++ textsBytes (ss.drop k) := by
    simp only [textsBytes, ← List.flatten_append, ← List.map_append, List.take_append_drop]
  rw [e, List.length_append]; omega
theorem size_le_textBytes (s : ByteArray) : s.size ≤ (textBytes s).length := by simp [textBytes]

set_option maxRecDepth 100000 in
set_option maxHeartbeats 1000000 in
theorem addTexts (g n cap base : Nat) (bs : List UInt8) (a : Option Addr) (len cap2 : Nat) (ss : List ByteArray) (w : World) (h : Own w base g n cap bs) (hb : base ≤ w.heap.size)
    (hS : SlS w a len ss) (hblk : ∀ b off, a = some ⟨b, off, none⟩ → ∃ cur mk, w.heap[b]? = some (.cells cur 9 mk)) (hsz : n + (textsBytes ss).length ≤ 549755813888) (hss : ∀ s ∈ ss, s.size ≤ 549755813888) :
    Calls Tryd.prog 95 #[.slice (some ⟨g, 0, none⟩) n cap, .slice a len cap2] w fun e w' =>
      ∃ g' n' cap', e = .returned (.slice (some ⟨g', 0, none⟩) n' cap') ∧ Own w' base g' n' cap' (bs ++ textsBytes ss) ∧ Below base w w' ∧ Keeps w w' := by
  obtain ⟨hl, hm, _, hc⟩ := hS
  subst hl
  unfold maxLen at hm
  obtain ⟨i0, hi, hz0, hz1, hz2⟩ := info_parts info8
  have hn0 := h.1
  go_enter Tryd.func95, Tryd.ntmps95
  go_wp2
  go_loopw [0, 9] (fun v i wr => ∃ (k g' n' cap' : Nat), v = .slice (some ⟨g', 0, none⟩) n' cap' ∧ i = .int .i64 (k : Int) ∧ k ≤ ss.length ∧ Own wr base g' n' cap' (bs ++ textsBytes (ss.take k)) ∧ Below base w wr ∧ Keeps w wr) (fun _ i _ => ss.length - (intOf i).toNat)
  case atStart => exact ⟨0, g, n, cap, rfl, rfl, Nat.zero_le _, by simpa [textsBytes] using h, Below.refl _ _, Keeps.refl _⟩
  case round =>
    obtain ⟨k, g', n', cap', rfl, rfl, hk, hO, hB, hK⟩ := hrel
    by_cases hlt : k < ss.length
    · obtain ⟨b, off, ha, hcl⟩ := hc (by omega)
      obtain ⟨cur, mk, hbk⟩ := hblk b off ha
      subst ha
      have hbl : b < w.heap.size := (Array.getElem?_eq_some_iff.1 hbk).1
      have e1 : wr.heap[b]? = w.heap[b]? := hK.2 b hbl (by intro cur'; rw [hbk]; simp)
      generalize hsk : ss[k] = s
      have c1 : wr.cell? ⟨b, off + k, none⟩ = some (.string s) := by
        rw [World.cell?_of_block (w := w) (w' := wr) (a := ⟨b, off + k, none⟩) e1, hcl k hlt, hsk]
      have hs9 : s.size ≤ 549755813888 := by rw [← hsk]; exact hss _ (List.getElem_mem hlt)
      have hT := textsBytes_take ss k hlt
      rw [hsk] at hT
      have hle := textsBytes_le ss (k + 1)
      rw [hT, List.length_append] at hle
      have hs1 := size_le_textBytes s
      have hn' : n' + s.size ≤ 549755813888 := by have := hO.1; simp only [List.length_append] at this; omega
      have hwf : (Lit.int .i64 (s.size : Int)).wf = true := WalkArith.wf_i64 (by omega)
      have hnb := numBytes_length (s.size : Int)
      have hbw : base ≤ wr.heap.size := Nat.le_trans hb hB.size
      have HT := Hid.mk' hT
      clear hT hle hs1 hcl hc hblk e1 hbk hsk hss
      go_wp2_with fail
      refine (addNum g' n' cap' base _ _ _ hO hbw hwf (by omega)).mono ?_
      rintro e w1 ⟨g1, n1, cap1, rfl, hO1, hB1, hK1⟩
      rw [List.append_assoc] at hO1
      have hn1 : n1 ≤ n' + 5 := by have := hO1.1; have := hO.1; simp only [List.length_append] at *; omega
      have hc3 : n1 + s.size ≤ maxLen := by unfold maxLen; omega
      have hc4 : n1 + s.size ≤ 140737488355328 := by omega
      have hbw1 : base ≤ w1.heap.size := Nat.le_trans hbw hB1.size
      go_wp2_with (at_builtin; refine Lib.wpList_append_own_string _ rfl _ _ 92 9 rfl base 5 i0 Tryd.underlying92 Tryd.underlying9 hi hz0 hz1 hz2 _ _ _ rfl hO1.2 s rfl hc3 hc4 hbw1 ?_)
      intro v2 w2 hown hgrow hnn
      have hnn' : ¬ v2 = .slice none 0 0 := by simpa using hnn
      rw [strCells_eq] at hown
      obtain ⟨g2, cap2', hv, hO2⟩ := own_app (m := s.size) (ns := s.data.toList) hO1.1 (size_toList s) rfl hnn' hown
      subst hv
      have hB2 : Below base w w2 := (hB.trans hB1).grown hgrow hbw1 (fun k e => by simp [Value.ownBlock] at e; have := hO1.lt; omega)
      have hK2 : Keeps w w2 := (hK.trans hK1).trans (hO1.keeps hgrow)
      have HO2 : Hid (Own w2 base g2 (n1 + s.size) cap2' (bs ++ textsBytes (ss.take (k + 1)))) := by
        show Own w2 base g2 (n1 + s.size) cap2' (bs ++ textsBytes (ss.take (k + 1)))
        rw [HT.out]
        simpa [textBytes, List.append_assoc] using hO2
      clear hown hgrow hnn hnn' hO1 hO2 hB1 hO hB hK hK1
      go_wp2
      go_roundw
      case rel => exact ⟨k + 1, g2, _, cap2', rfl, by go_num, by omega, HO2.out, hB2, hK2⟩
      case measure => simp [intOf]; omega
    · have e : k = ss.length := by omega
      go_wp2
      go_ret
      subst e
      rw [List.take_length] at hO
      exact ⟨g', n', cap', rfl, hO, hB, hK⟩


end Go.Proofs.YteammdkipnfmnaaDoor.puttext

namespace Go.Proofs.YteammdkipnfmnaaDoor.pairs
open Go
set_option linter.unusedVariables false

abbrev Pr := ByteArray × ByteArray
theorem bytes_ext {a b : ByteArray} (h : a.data.toList = b.data.toList) : a = b := WideShapes.bytes_inj h

/-! ### the order of texts -/
def ltB (a b : ByteArray) : Bool := Op.bytesLess a.toList b.toList
theorem ltB_iff (a b : ByteArray) : ltB a b = true ↔ a.data.toList < b.data.toList := by
  unfold ltB; rw [Proofs.bytesLess_eq, ByteArray.toList_eq, ByteArray.toList_eq]; simp
theorem ltB_trans {a b c : ByteArray} (h : ltB a b = true) (k : ltB b c = true) : ltB a c = true :=
  (ltB_iff a c).2 (List.lt_trans ((ltB_iff a b).1 h) ((ltB_iff b c).1 k))
/-! ### the functions -/
def keyCh (c : Nat) : Bool := decide (97 ≤ c ∧ c ≤ 122) || decide (48 ≤ c ∧ c ≤ 57)
def keyAll (l : List UInt8) : Bool := l.all fun c => keyCh c.toNat
def keyOk (s : ByteArray) : Bool := keyAll s.data.toList && decide (1 ≤ s.size ∧ s.size ≤ 12)
def pairOk (p : Pr) : Bool := keyOk p.1 && decide (p.2.size ≤ 20)
def okFrom : Option ByteArray → List Pr → Bool
  | _, [] => true
  | none, p :: l => pairOk p && okFrom (some p.1) l
  | some k, p :: l => pairOk p && ltB k p.1 && okFrom (some p.1) l
def pairsOk (l : List Pr) : Bool := okFrom none l && decide (l.length ≤ 60)
def below (key : ByteArray) : List Pr → Nat
  | [] => 0
  | p :: l => if ltB key p.1 = true then 0 else below key l + 1
def inB (lo hi key : ByteArray) : Bool := !ltB key lo && (decide (hi.size = 0) || ltB key hi)
def between (lo hi : ByteArray) (l : List Pr) : List Pr := l.filter fun p => inB lo hi p.1
/-! ### first facts -/
end Go.Proofs.YteammdkipnfmnaaDoor.pairs

namespace Go.Proofs.YteammdkipnfmnaaDoor.tree
open Go Go.Proofs.YteammdkipnfmnaaDoor.base Go.Proofs.YteammdkipnfmnaaDoor.pairs Go.Proofs.YteammdkipnfmnaaDoor.puttext Go.Proofs.YteammdkipnfmnaaDoor.putnum
set_option linter.unusedVariables false

def dg (bs : List UInt8) : ByteArray := ⟨(sha.digest bs).toArray⟩
theorem dg_size (bs : List UInt8) : (dg bs).size = 32 := by
  show (sha.digest bs).toArray.size = 32
  rw [List.size_toArray]; exact sha.digest_length bs
def leafB (p : Pr) : List UInt8 := [0] ++ textBytes p.1 ++ textBytes p.2
def nodeB (a b : ByteArray) : List UInt8 := [1] ++ a.data.toList ++ b.data.toList
def leafOf (p : Pr) : ByteArray := dg (leafB p)
def nodeOf (a b : ByteArray) : ByteArray := dg (nodeB a b)
theorem leafB_length (p : Pr) : (leafB p).length ≤ p.1.size + p.2.size + 11 := by
  have h1 := textBytes_length p.1
  have h2 := textBytes_length p.2
  simp [leafB]; omega
theorem nodeB_length (a b : ByteArray) : (nodeB a b).length = a.size + b.size + 1 := by simp [nodeB]
/-! ### halves -/
def half (n : Nat) : Nat := if n ≤ 2 then 1 else if n ≤ 4 then 2 else if n ≤ 8 then 4 else if n ≤ 16 then 8 else if n ≤ 32 then 16 else 32
theorem half_bd (n : Nat) (h : 2 ≤ n) : 1 ≤ half n ∧ half n < n := by
  unfold half
  split
  · omega
  · split
    · omega
    · split
      · omega
      · split
        · omega
        · split <;> omega
theorem half_eq (n k : Nat) (h : 2 ≤ n) (h64 : n ≤ 64) (hk : k = 1 ∨ k = 2 ∨ k = 4 ∨ k = 8 ∨ k = 16 ∨ k = 32) (h1 : k < n) (h2 : n ≤ 2 * k) : k = half n := by
  unfold half
  split
  · omega
  · split
    · omega
    · split
      · omega
      · split
        · omega
        · split <;> omega

/-! ### functions that call themselves, by how many calls are left -/
def runs {σ τ : Type} (base : σ → τ) (step : (σ → τ) → σ → τ) : Nat → σ → τ
  | 0, s => base s
  | k + 1, s => step (runs base step k) s
theorem runs_same {σ τ : Type} (base : σ → τ) (step : (σ → τ) → σ → τ) (m : σ → Nat) (hs : ∀ f g s, (∀ t, m t < m s → f t = g t) → step f s = step g s) (k : Nat) : ∀ j s, m s < k → m s < j → runs base step k s = runs base step j s := by
  induction k with
  | zero => intro j s h; omega
  | succ k ih =>
    intro j s h1 h2
    cases j with
    | zero => omega
    | succ j => exact hs _ _ s fun t ht => ih j t (by omega) (by omega)
theorem runs_eq {σ τ : Type} (base : σ → τ) (step : (σ → τ) → σ → τ) (m : σ → Nat) (hs : ∀ f g s, (∀ t, m t < m s → f t = g t) → step f s = step g s) (s : σ) : runs base step (m s + 1) s = step (fun t => runs base step (m t + 1) t) s :=
  hs _ _ s fun t ht => runs_same base step m hs (m s) (m t + 1) t ht (by omega)

/-! ### the inner digest -/
def innerS (f : List Pr → ByteArray) (l : List Pr) : ByteArray :=
  if l.length < 2 then (match l with | [] => dg [] | p :: _ => leafOf p)
  else nodeOf (f (l.take (half l.length))) (f (l.drop (half l.length)))
def inner (l : List Pr) : ByteArray := runs (fun _ => dg []) innerS (l.length + 1) l
theorem inner_eq (l : List Pr) : inner l = if l.length < 2 then (match l with | [] => dg [] | p :: _ => leafOf p) else nodeOf (inner (l.take (half l.length))) (inner (l.drop (half l.length))) :=
  runs_eq (fun _ => dg []) innerS List.length (fun f g s h => by
    unfold innerS
    by_cases hn : s.length < 2
    · rw [if_pos hn, if_pos hn]
    · have hb := half_bd s.length (by omega)
      rw [if_neg hn, if_neg hn, h (s.take (half s.length)) (by simp; omega), h (s.drop (half s.length)) (by simp; omega)]) l
theorem inner_nil : inner [] = dg [] := by rw [inner_eq]; simp
theorem inner_one (p : Pr) : inner [p] = leafOf p := by rw [inner_eq]; simp
theorem inner_step (l : List Pr) (h : 2 ≤ l.length) : inner l = nodeOf (inner (l.take (half l.length))) (inner (l.drop (half l.length))) := by
  rw [inner_eq, if_neg (by omega)]
theorem inner_size (l : List Pr) : (inner l).size = 32 := by
  rw [inner_eq]
  split
  · split
    · exact dg_size _
    · exact dg_size _
  · exact dg_size _
/-! ### paths -/
def pathS (f : List Pr × Nat → List ByteArray) (s : List Pr × Nat) : List ByteArray :=
  if s.1.length < 2 then []
  else if s.2 < half s.1.length then f (s.1.take (half s.1.length), s.2) ++ [inner (s.1.drop (half s.1.length))]
  else f (s.1.drop (half s.1.length), s.2 - half s.1.length) ++ [inner (s.1.take (half s.1.length))]
def path (l : List Pr) (i : Nat) : List ByteArray := runs (fun _ => []) pathS (l.length + 1) (l, i)
theorem path_eq (l : List Pr) (i : Nat) : path l i = if l.length < 2 then []
    else if i < half l.length then path (l.take (half l.length)) i ++ [inner (l.drop (half l.length))]
    else path (l.drop (half l.length)) (i - half l.length) ++ [inner (l.take (half l.length))] :=
  runs_eq (fun _ => []) pathS (fun s => s.1.length) (fun f g s h => by
    unfold pathS
    by_cases hn : s.1.length < 2
    · rw [if_pos hn, if_pos hn]
    · have hb := half_bd s.1.length (by omega)
      rw [if_neg hn, if_neg hn, h (s.1.take (half s.1.length), s.2) (by simp; omega), h (s.1.drop (half s.1.length), s.2 - half s.1.length) (by simp; omega)]) (l, i)
theorem path_low (l : List Pr) (i : Nat) (h : l.length < 2) : path l i = [] := by rw [path_eq, if_pos h]
theorem path_left (l : List Pr) (i : Nat) (h : 2 ≤ l.length) (hi : i < half l.length) : path l i = path (l.take (half l.length)) i ++ [inner (l.drop (half l.length))] := by
  rw [path_eq, if_neg (by omega), if_pos hi]
theorem path_right (l : List Pr) (i : Nat) (h : 2 ≤ l.length) (hi : ¬ i < half l.length) : path l i = path (l.drop (half l.length)) (i - half l.length) ++ [inner (l.take (half l.length))] := by
  rw [path_eq, if_neg (by omega), if_neg hi]
def depthS (f : Nat × Nat → Nat) (s : Nat × Nat) : Nat :=
  if s.2 < 2 then 0
  else if s.1 < half s.2 then f (s.1, half s.2) + 1
  else f (s.1 - half s.2, s.2 - half s.2) + 1
def depth (i n : Nat) : Nat := runs (fun _ => 0) depthS (n + 1) (i, n)
theorem depth_eq (i n : Nat) : depth i n = if n < 2 then 0 else if i < half n then depth i (half n) + 1 else depth (i - half n) (n - half n) + 1 :=
  runs_eq (fun _ => 0) depthS (fun s => s.2) (fun f g s h => by
    unfold depthS
    by_cases hn : s.2 < 2
    · rw [if_pos hn, if_pos hn]
    · have hb := half_bd s.2 (by omega)
      rw [if_neg hn, if_neg hn, h (s.1, half s.2) hb.2, h (s.1 - half s.2, s.2 - half s.2) (by show s.2 - half s.2 < s.2; omega)]) (i, n)
theorem path_length (l : List Pr) (i : Nat) : (path l i).length = depth i l.length := by
  induction hn : l.length using Nat.strongRecOn generalizing l i with
  | _ n ih =>
    by_cases h : n < 2
    · rw [path_low l i (by omega), depth_eq, if_pos h]; rfl
    · have hb := half_bd n (by omega)
      by_cases hi : i < half n
      · rw [path_left l i (by omega) (by rw [hn]; exact hi), depth_eq, if_neg h, if_pos hi, List.length_append, hn, ih (half n) hb.2 (l.take (half n)) i (by simp; omega)]; rfl
      · rw [path_right l i (by omega) (by rw [hn]; exact hi), depth_eq, if_neg h, if_neg hi, List.length_append, hn, ih (n - half n) (by omega) (l.drop (half n)) (i - half n) (by simp; omega)]; rfl
theorem depth_le (i n : Nat) : depth i n ≤ n := by
  induction n using Nat.strongRecOn generalizing i with
  | _ n ih =>
    rw [depth_eq]
    split
    · omega
    · rename_i h
      have hb := half_bd n (by omega)
      split
      · have := ih (half n) hb.2 i; omega
      · have := ih (n - half n) (by omega) (i - half n); omega

/-! ### what is hashed on the way up -/
def pathI (l : List Pr) (i : Int) : List ByteArray := if l.length ≤ 60 ∧ 0 ≤ i ∧ i ≤ (l.length : Int) - 1 then path l i.toNat else []
def innerI (l : List Pr) : ByteArray := if l.length ≤ 60 then inner l else ⟨#[]⟩
/-! ### what the laws need -/
end Go.Proofs.YteammdkipnfmnaaDoor.tree

namespace Go.Proofs.YteammdkipnfmnaaDoor.pairs
open Go Go.RowKit Go.Proofs.YteammdkipnfmnaaDoor.base
set_option linter.unusedVariables false
set_option linter.unusedSimpArgs false

def small (p : Pr) : Prop := p.1.size ≤ maxLen ∧ p.2.size ≤ maxLen
def pairVals (l : List Pr) : List Value := l.flatMap fun p => [.string p.1, .string p.2]
theorem pairVals_cons (p : Pr) (l : List Pr) : pairVals (p :: l) = .string p.1 :: .string p.2 :: pairVals l := rfl
theorem pairVals_append (a b : List Pr) : pairVals (a ++ b) = pairVals a ++ pairVals b := by simp [pairVals]
theorem pairVals_key (l : List Pr) (i : Nat) (h : i < l.length) : (pairVals l)[i * 2]? = some (.string l[i].1) := by
  induction l generalizing i with
  | nil => simp at h
  | cons p l ih =>
    cases i with
    | zero => rfl
    | succ i => rw [pairVals_cons, show (i + 1) * 2 = i * 2 + 1 + 1 by omega]; simpa using ih i (by simpa using h)
theorem pairVals_val (l : List Pr) (i : Nat) (h : i < l.length) : (pairVals l)[i * 2 + 1]? = some (.string l[i].2) := by
  induction l generalizing i with
  | nil => simp at h
  | cons p l ih =>
    cases i with
    | zero => rfl
    | succ i => rw [pairVals_cons, show (i + 1) * 2 + 1 = i * 2 + 1 + 1 + 1 by omega]; simpa using ih i (by simpa using h)
theorem pairVals_oneCell (l : List Pr) : ∀ v ∈ pairVals l, v.oneCell' = true := by
  intro v hv
  obtain ⟨p, _, hp⟩ := List.mem_flatMap.1 hv
  simp at hp
  rcases hp with rfl | rfl <;> rfl
theorem pairVals_setKey (l : List Pr) (i : Nat) (h : i < l.length) (k : ByteArray) : (pairVals l).set (i * 2) (.string k) = pairVals (l.set i (k, l[i].2)) := by
  induction l generalizing i with
  | nil => simp at h
  | cons p l ih =>
    cases i with
    | zero => rfl
    | succ i => rw [pairVals_cons, show (i + 1) * 2 = i * 2 + 1 + 1 by omega]; simp only [List.set_cons_succ, pairVals_cons, List.getElem_cons_succ]; rw [ih i (by simpa using h)]
theorem pairVals_setVal (l : List Pr) (i : Nat) (h : i < l.length) (v : ByteArray) : (pairVals l).set (i * 2 + 1) (.string v) = pairVals (l.set i (l[i].1, v)) := by
  induction l generalizing i with
  | nil => simp at h
  | cons p l ih =>
    cases i with
    | zero => rfl
    | succ i => rw [pairVals_cons, show (i + 1) * 2 + 1 = i * 2 + 1 + 1 + 1 by omega]; simp only [List.set_cons_succ, pairVals_cons, List.getElem_cons_succ]; rw [ih i (by simpa using h)]

/-! ### slices of pairs that are read -/
def CellsP (w : World) (b off : Nat) (l : List Pr) : Prop := ∀ i (h : i < l.length), w.cell? ⟨b, off + i * 2, none⟩ = some (.string l[i].1) ∧ w.cell? ⟨b, off + i * 2 + 1, none⟩ = some (.string l[i].2)
def SlP (w : World) (a : Option Addr) (len : Nat) (l : List Pr) : Prop :=
  l.length = len ∧ len ≤ maxLen ∧ (∀ p ∈ l, small p) ∧ (0 < len → ∃ b off, a = some ⟨b, off, none⟩ ∧ CellsP w b off l)
section
variable {w w' : World} {a : Option Addr} {b off len base base' g n cap : Nat} {l : List Pr} {row : Option Nat}
theorem SlP.cells (h : SlP w (some ⟨b, off, none⟩) len l) : CellsP w b off l := by
  intro i hi
  obtain ⟨b', off', e, hc⟩ := h.2.2.2 (by have := h.1; omega)
  simp only [Option.some.injEq, Addr.mk.injEq, and_true] at e
  obtain ⟨rfl, rfl⟩ := e
  exact hc i hi
theorem SlP.lt (h : SlP w (some ⟨b, off, none⟩) len l) (h0 : 0 < len) : b < w.heap.size :=
  World.block_lt_of_cell? w _ (h.cells 0 (by have := h.1; omega)).1
theorem CellsP.keep (h : CellsP w b off l) (hk : ∀ o v, w.cell? ⟨b, o, none⟩ = some v → w'.cell? ⟨b, o, none⟩ = some v) : CellsP w' b off l :=
  fun i hi => ⟨hk _ _ (h i hi).1, hk _ _ (h i hi).2⟩
theorem SlP.below (h : SlP w a len l) (hb : Below w.heap.size w w') : SlP w' a len l := by
  obtain ⟨h1, h2, h4, h3⟩ := h
  refine ⟨h1, h2, h4, fun h0 => ?_⟩
  obtain ⟨b, off, rfl, hc⟩ := h3 h0
  exact ⟨b, off, rfl, hc.keep fun o v hv => (hb.cell (p := ⟨b, o, none⟩) (World.block_lt_of_cell? w _ hv)).trans hv⟩
theorem SlP.grown (h : SlP w (some ⟨b, off, none⟩) len l) (hg : w.grownBy w' row) (hne : some b ≠ row) : SlP w' (some ⟨b, off, none⟩) len l :=
  ⟨h.1, h.2.1, h.2.2.1, fun _ => ⟨b, off, rfl, h.cells.keep fun o v hv => hg.cell hv hne⟩⟩

/-! ### rows of pairs that a call made -/
def OwnP (w : World) (base g n cap : Nat) (l : List Pr) : Prop := l.length = n ∧ (∀ p ∈ l, small p) ∧ w.ownsRow base 65 2 (.slice (some ⟨g, 0, none⟩) n cap) n (pairVals l)
theorem OwnP.lt (h : OwnP w base g n cap l) : base ≤ g ∧ g < w.heap.size := h.2.2.lt g rfl
theorem OwnP.cases (h : OwnP w base g n cap l) : n ≤ cap ∧ cap ≤ maxLen := by
  rcases h.2.2.2 with ⟨h', _⟩ | ⟨g', cap', cur, h', _, hg, h1, h2, _⟩
  · simp at h'
  · simp only [Value.slice.injEq, Option.some.injEq, Addr.mk.injEq, and_true, true_and] at h'
    obtain ⟨rfl, rfl⟩ := h'
    exact ⟨h1, h2⟩
theorem OwnP.mono (h : OwnP w base g n cap l) (hb : base' ≤ base) : OwnP w base' g n cap l := by
  refine ⟨h.1, h.2.1, h.2.2.1, ?_⟩
  rcases h.2.2.2 with h' | ⟨g', cap', cur, h', h0, r⟩
  · exact .inl h'
  · exact .inr ⟨g', cap', cur, h', by omega, r⟩
theorem OwnP.cell (h : OwnP w base g n cap l) : CellsP w g 0 l := by
  intro i hi
  have hl := h.1
  have k1 := h.2.2.cellAt (i * 2) (by omega)
  have k2 := h.2.2.cellAt (i * 2 + 1) (by omega)
  rw [pairVals_key l i hi] at k1
  rw [pairVals_val l i hi] at k2
  rw [Nat.zero_add]
  exact ⟨k1, k2⟩
theorem OwnP.key (h : OwnP w base g n cap l) (i : Nat) (hi : i < l.length) : w.cell? ⟨g, i * 2, none⟩ = some (.string l[i].1) := by
  have := (h.cell i hi).1; rwa [Nat.zero_add] at this
theorem OwnP.val (h : OwnP w base g n cap l) (i : Nat) (hi : i < l.length) : w.cell? ⟨g, i * 2 + 1, none⟩ = some (.string l[i].2) := by
  have := (h.cell i hi).2; rwa [Nat.zero_add] at this
theorem OwnP.frozen (h : OwnP w base g n cap l) (i : Nat) : w.frozen? ⟨g, i, none⟩ = false := h.2.2.frozenAt i
theorem OwnP.sl (h : OwnP w base g n cap l) : SlP w (some ⟨g, 0, none⟩) n l :=
  ⟨h.1, by have := h.cases; omega, h.2.1, fun _ => ⟨g, 0, rfl, h.cell⟩⟩
theorem OwnP.grown (h : OwnP w base g n cap l) (hg : w.grownBy w' row) (hne : some g ≠ row) : OwnP w' base g n cap l :=
  ⟨h.1, h.2.1, h.2.2.kept hg (.inr hne)⟩
theorem OwnP.below (h : OwnP w base g n cap l) (hb : Below w.heap.size w w') : OwnP w' base g n cap l :=
  ⟨h.1, h.2.1, h.2.2.kept (row := none) ⟨hb.os, hb.tape, hb.output, hb.size, fun k hk _ => hb.block k hk⟩ (.inr (by simp [Value.ownBlock]))⟩
theorem mem_set_small {i : Nat} {p : Pr} (h : ∀ q ∈ l, small q) (hp : small p) : ∀ q ∈ l.set i p, small q := by
  intro q hq
  rcases List.mem_or_eq_of_mem_set hq with h1 | h1
  · exact h q h1
  · subst h1; exact hp
theorem OwnP.setKey (h : OwnP w base g n cap l) (i : Nat) (hi : i < l.length) (k : ByteArray) (hk : k.size ≤ maxLen) :
    OwnP (w.setCell ⟨g, i * 2, none⟩ (.string k)) base g n cap (l.set i (k, l[i].2)) ∧ w.grownBy (w.setCell ⟨g, i * 2, none⟩ (.string k)) (some g) := by
  have hs := h.2.2.stored (i * 2) (.string k)
  rw [pairVals_setKey l i hi] at hs
  exact ⟨⟨by simpa using h.1, mem_set_small h.2.1 ⟨hk, (h.2.1 _ (List.getElem_mem hi)).2⟩, hs.1⟩, hs.2⟩
theorem OwnP.setVal (h : OwnP w base g n cap l) (i : Nat) (hi : i < l.length) (v : ByteArray) (hv : v.size ≤ maxLen) :
    OwnP (w.setCell ⟨g, i * 2 + 1, none⟩ (.string v)) base g n cap (l.set i (l[i].1, v)) ∧ w.grownBy (w.setCell ⟨g, i * 2 + 1, none⟩ (.string v)) (some g) := by
  have hs := h.2.2.stored (i * 2 + 1) (.string v)
  rw [pairVals_setVal l i hi] at hs
  exact ⟨⟨by simpa using h.1, mem_set_small h.2.1 ⟨(h.2.1 _ (List.getElem_mem hi)).1, hv⟩, hs.1⟩, hs.2⟩
theorem OwnP.setBoth (h : OwnP w base g n cap l) (i : Nat) (hi : i < l.length) (k v : ByteArray) (hk : k.size ≤ maxLen) (hv : v.size ≤ maxLen) :
    OwnP ((w.setCell ⟨g, i * 2, none⟩ (.string k)).setCell ⟨g, i * 2 + 1, none⟩ (.string v)) base g n cap (l.set i (k, v)) ∧ w.grownBy ((w.setCell ⟨g, i * 2, none⟩ (.string k)).setCell ⟨g, i * 2 + 1, none⟩ (.string v)) (some g) := by
  have h1 := h.setKey i hi k hk
  have h2 := h1.1.setVal i (by simpa using hi) v hv
  simp only [List.getElem_set_self, List.set_set] at h2
  exact ⟨h2.1, grownBy_trans h1.2 h2.2⟩
theorem ownP_val {v' : Value} (hl : l.length = n) (hs : ∀ p ∈ l, small p) (h0 : ¬ v' = .slice none 0 0)
    (h : w'.ownsRow base 65 2 v' n (pairVals l)) : ∃ g' cap', v' = .slice (some ⟨g', 0, none⟩) n cap' ∧ OwnP w' base g' n cap' l := by
  rcases h.2 with ⟨h2, _⟩ | ⟨g', cap', cur, hv, _⟩
  · exact absurd h2 h0
  · subst hv
    exact ⟨g', cap', rfl, hl, hs, h⟩
theorem ownP_made (w : World) (base : Nat) (hb : base ≤ w.heap.size) : OwnP (w.alloc (.cells #[] 65)) base w.heap.size 0 0 [] :=
  ⟨rfl, fun s h => absurd h List.not_mem_nil, World.ownsRow_made w #[] 0 hb (Nat.zero_le _) rfl⟩
end
theorem infoP : (Tryd.prog.info? 65).map (fun i => (i.zero, i.size, i.bytes)) = some (some (.agg #[.string ⟨#[]⟩, .string ⟨#[]⟩]), 2, 32) := by kernel_rfl

end Go.Proofs.YteammdkipnfmnaaDoor.pairs
