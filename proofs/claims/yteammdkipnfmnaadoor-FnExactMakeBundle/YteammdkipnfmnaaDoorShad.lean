/- The specification's Padded. The specification's digest. The specification's leaves, nodes and tops. The laws' own helpers on slices of strings: what each call does. -/
import Derived.Test.YteammdkipnfmnaaDoorShaa
import Derived.Test.YteammdkipnfmnaaDoorShac
import Derived.Test.YteammdkipnfmnaaDoorShab
import Derived.Deep.RegionHeld3
import Derived.Test.YteammdkipnfmnaaDoorRows
import Derived.Laws.BytesArg
import Derived.Deep.RegionWith
namespace Go.Proofs.YteammdkipnfmnaaDoor.padmath
open Go.RowKit Go.Proofs.YteammdkipnfmnaaDoor.base
set_option linter.unusedVariables false
set_option linter.unusedSimpArgs false

set_option maxRecDepth 100000 in
set_option maxHeartbeats 2000000 in
theorem spec_padded (b off len cap : Nat) (bs : List UInt8) (w : World) (h : Sl w (some ⟨b, off, none⟩) len bs) (hsz : len ≤ 1099511627776) :
    Calls Tryd.prog 68 #[.slice (some ⟨b, off, none⟩) len cap] w fun e w' =>
      ∃ g' n' cap', e = .returned (.slice (some ⟨g', 0, none⟩) n' cap') ∧ Own w' w.heap.size g' n' cap' (padded bs) ∧ Below w.heap.size w w' := by
  obtain ⟨i0, hi, hz0, hz1, hz2⟩ := info_parts info8
  have hl := h.1
  have hba : Below w.heap.size w (w.alloc (.cells #[] 5)) := (Below.refl _ _).alloc (Nat.le_refl _) _
  have hsl := sl_cells (h.below hba)
  have hn0 : (byteVals bs).length = len * 1 := by rw [byteVals_length]; omega
  have hm1 : 0 + len ≤ maxLen := by unfold maxLen; omega
  have hm2 : (0 + len) * 1 ≤ 140737488355328 := by omega
  have hown0 : (w.alloc (.cells #[] 5)).ownsRow w.heap.size 5 1 (.slice (some ⟨w.heap.size, 0, none⟩) 0 0) 0 [] := World.ownsRow_made w #[] 0 (Nat.le_refl _) (Nat.zero_le _) rfl
  have HSL := Hid.mk' hsl
  clear hsl
  go_enter Tryd.func68, Tryd.ntmps68
  go_wp2_with (at_builtin; refine wpList_append_own _ rfl (.tmp 6) (.tmp 7) 92 rfl w.heap.size 5 i0 (.int .u8 0) 1 1 Tryd.underlying92 hi hz0 hz1 hz2 rfl (by decide) _ _ _ rfl hown0 ⟨b, off, none⟩ len cap (byteVals bs) rfl hn0 HSL.out (byteVals_oneCell _) hm1 hm2 (le_alloc _ _ (Nat.le_refl _)) ?_)
  intro v1 w1 hown hgrow hnn
  have hnn' : ¬ v1 = .slice none 0 0 := by simpa using hnn
  obtain ⟨g1, cap1, hv, hO1⟩ := own_val hl hnn' hown
  subst hv
  have hB1 : Below w.heap.size w w1 := hba.grown hgrow (le_alloc _ _ (Nat.le_refl _)) (fun k e => by simp [Value.ownBlock] at e; omega)
  have hbw1 := hB1.size
  have hc3 : len + 1 ≤ maxLen := by unfold maxLen; omega
  have hc4 : (len + 1) * 1 ≤ 140737488355328 := by omega
  clear hown hgrow hnn hnn' hown0 HSL hn0
  go_wp2_with (at_builtin; refine wpList_append_own _ rfl (.tmp 8) (.tmp 9) 92 rfl w.heap.size 5 i0 (.int .u8 0) 1 1 Tryd.underlying92 hi hz0 hz1 hz2 rfl (by decide) _ _ _ rfl (hO1.2.alloc _) ⟨w1.heap.size, 0, none⟩ 1 1 [_] rfl rfl (cell_one_new _ _ _) (one_oneCell _ _) hc3 hc4 (le_alloc _ _ hbw1) ?_)
  intro v2 w2 hown hgrow hnn
  obtain ⟨g2, cap2, hv, hO2⟩ := own_app (m := 1) (ns := [128]) hO1.1 rfl (one_val (by decide)) hnn hown
  subst hv
  have hB2 : Below w.heap.size w w2 := (hB1.alloc hbw1 _).grown hgrow (le_alloc _ _ hbw1) (fun k e => by simp [Value.ownBlock] at e; have := hO1.lt; omega)
  have HO2 := Hid.mk' hO2
  have hzl := zeros_lt len
  generalize hZ : zeros len = Z at *
  have HZ := Hid.mk' hZ
  clear hown hgrow hnn hO1 hO2 hB1 hZ hc3 hc4
  go_wp2_with (at_builtin; fail)
  go_loopw [3] (fun v wr => ∃ (j g' cp : Nat), j ≤ Z ∧ v = .slice (some ⟨g', 0, none⟩) (len + 1 + j) cp ∧ Own wr w.heap.size g' (len + 1 + j) cp (padTo bs j) ∧ Below w.heap.size w wr) (fun v _ => len + 1 + Z - lenV v)
  case atStart => exact ⟨0, g2, cap2, Nat.zero_le _, rfl, by rw [padTo_zero]; exact HO2.out, hB2⟩
  case round =>
    obtain ⟨j, g', cp, hj, rfl, hO, hB⟩ := hrel
    clear HO2 hB2
    have hbw : w.heap.size ≤ wr.heap.size := hB.size
    have hc3 : len + 1 + j + 1 ≤ maxLen := by unfold maxLen; omega
    have hc4 : (len + 1 + j + 1) * 1 ≤ 140737488355328 := by omega
    by_cases hjz : j = Z
    · have hq : (((len : Int) + 1 + (j : Int)) % 64 == 56) = true := by
        have := (zeros_hit len j (by rw [HZ.out]; omega)).2 (by rw [HZ.out]; exact hjz)
        rw [beq_iff_eq]; omega
      have HJ := Hid.mk' hjz
      clear hjz
      have hpre : (padTo bs j).length = len + 1 + j := by rw [padTo_length, hl]
      generalize hP : padTo bs j = pre at *
      generalize hM : len + 1 + j = M at *
      have hMb : M ≤ 1099511627900 := by omega
      have hqM : ((M : Int) % 64 != 56) = false := by rw [← hM]; simpa using hq
      clear hq
      have HP := Hid.mk' hP
      have HM := Hid.mk' hM
      clear hP hM hc3 hc4
      go_wp2_with (at_builtin; fail)
      go_loopw [3, 5] (fun v kv wq => ∃ (i g5 cp5 : Nat), i ≤ 8 ∧ kv = .int .i64 (56 - 8 * (i : Int)) ∧ v = .slice (some ⟨g5, 0, none⟩) (M + i) cp5 ∧ Own wq w.heap.size g5 (M + i) cp5 (pre ++ (be8 (len * 8)).take i) ∧ Below w.heap.size w wq) (fun _ kv _ => (intOf kv + 8).toNat)
      case atStart => exact ⟨0, g', cp, by omega, rfl, rfl, by simpa using hO, hB⟩
      case round =>
        obtain ⟨i, g5, cp5, hi8, rfl, rfl, hO5, hB5⟩ := hrel
        clear hO hB
        have hbw5 : w.heap.size ≤ wr.heap.size := hB5.size
        have hc5 : M + i + 1 ≤ maxLen := by unfold maxLen; omega
        have hc6 : (M + i + 1) * 1 ≤ 140737488355328 := by omega
        by_cases hi7 : i < 8
        · obtain ⟨u, hu⟩ : ∃ u, u = (be8 (len * 8))[i]! := ⟨_, rfl⟩
          have htk : (be8 (len * 8)).take (i + 1) = (be8 (len * 8)).take i ++ [u] := by
            rw [hu, List.take_succ_eq_append_getElem (by rw [be8_length]; exact hi7), getElem!_pos (be8 (len * 8)) i (by rw [be8_length]; exact hi7)]
          have HTK := Hid.mk' htk
          have HU := Hid.mk' hu
          clear htk hu
          go_wp2_with (at_builtin; refine wpList_append_own _ rfl (.tmp 25) (.tmp 31) 92 rfl w.heap.size 5 i0 (.int .u8 0) 1 1 Tryd.underlying92 hi hz0 hz1 hz2 rfl (by decide) _ _ _ rfl (hO5.2.alloc _) ⟨wr.heap.size, 0, none⟩ 1 1 [_] rfl rfl (cell_one_new _ _ _) (one_oneCell _ _) hc5 hc6 (le_alloc _ _ hbw5) ?_)
          intro v6 w6 hown hgrow hnn
          obtain ⟨g6, cap6, hv, hO6⟩ := own_app (m := 1) (ns := [u]) hO5.1 rfl (one_val (by rw [HU.out]; exact be8_at len i hi7)) hnn hown
          subst hv
          have hB6 : Below w.heap.size w w6 := (hB5.alloc hbw5 _).grown hgrow (le_alloc _ _ hbw5) (fun k e => by simp [Value.ownBlock] at e; have := hO5.lt; omega)
          rw [List.append_assoc, ← HTK.out] at hO6
          have HO6 := Hid.mk' hO6
          clear hown hgrow hnn hO5 hO6 hB5 HU HTK
          go_wp2_with (at_builtin; fail)
          go_roundw
          case rel => exact ⟨i + 1, g6, cap6, by omega, by go_num, rfl, HO6.out, hB6⟩
          case measure => simp [intOf]; omega
        · have hi8' : i = 8 := by omega
          have hk8 : 56 - 8 * (i : Int) < 0 := by omega
          go_wp2_with (at_builtin; fail)
          go_ret
          refine ⟨g5, _, cp5, rfl, ?_, hB5⟩
          have e : padded bs = pre ++ (be8 (len * 8)).take i := by
            rw [← HP.out, HJ.out, ← HZ.out, ← hl, hi8', List.take_of_length_le (by rw [be8_length]; exact Nat.le_refl _)]; rfl
          rw [e]
          exact hO5
    · have hq : (((len : Int) + 1 + (j : Int)) % 64 == 56) = false := by
        have := (zeros_hit len j (by rw [HZ.out]; omega)).1
        rw [beq_eq_false_iff_ne]; intro e; rw [HZ.out] at this; exact hjz (this (by omega))
      go_wp2_with (at_builtin; refine wpList_append_own _ rfl (.tmp 15) (.tmp 16) 92 rfl w.heap.size 5 i0 (.int .u8 0) 1 1 Tryd.underlying92 hi hz0 hz1 hz2 rfl (by decide) _ _ _ rfl (hO.2.alloc _) ⟨wr.heap.size, 0, none⟩ 1 1 [_] rfl rfl (cell_one_new _ _ _) (one_oneCell _ _) hc3 hc4 (le_alloc _ _ hbw) ?_)
      intro v3 w3 hown hgrow hnn
      obtain ⟨g3, cap3, hv, hO3⟩ := own_app (m := 1) (ns := [0]) hO.1 rfl (one_val (x := 0) (u := 0) (by decide)) hnn hown
      subst hv
      have hB3 : Below w.heap.size w w3 := (hB.alloc hbw _).grown hgrow (le_alloc _ _ hbw) (fun k e => by simp [Value.ownBlock] at e; have := hO.lt; omega)
      rw [padTo_snoc] at hO3
      have HO3 := Hid.mk' hO3
      clear hown hgrow hnn hO hO3 hB
      go_wp2_with (at_builtin; fail)
      go_roundw
      case rel => exact ⟨j + 1, g3, cap3, by omega, rfl, HO3.out, hB3⟩
      case measure => simp [lenV]; omega

end Go.Proofs.YteammdkipnfmnaaDoor.padmath

namespace Go.Proofs.YteammdkipnfmnaaDoor.sha
open Go.RowKit Go.Proofs.YteammdkipnfmnaaDoor.base Go.Proofs.YteammdkipnfmnaaDoor.padmath
set_option linter.unusedVariables false
set_option linter.unusedSimpArgs false

theorem sl_sub {w : World} {b off len : Nat} {bs : List UInt8} (h : Sl w (some ⟨b, off, none⟩) len bs) (p n : Nat) (hp : p + n ≤ len) : Sl w (some ⟨b, off + p, none⟩) n ((bs.drop p).take n) := by
  have hl := h.1
  have hm := h.2.1
  refine ⟨by simp; omega, by omega, fun h0 => ⟨b, off + p, rfl, fun i hi => ?_⟩⟩
  simp at hi
  have := h.at (p + i) (by omega)
  rw [Nat.add_assoc, this]
  simp

theorem cells_four (w : World) (x y z u : Value) (t : TypeId) : ∀ j v, [x, y, z, u][j]? = some v → (w.alloc (.cells #[x, y, z, u] t)).cell? ((⟨w.heap.size, 0, none⟩ : Addr).add j) = some v := by
  intro j v hj
  match j, hj with
  | 0, hj => simp at hj; subst hj; simp [Addr.add]
  | 1, hj => simp at hj; subst hj; simp [Addr.add]
  | 2, hj => simp at hj; subst hj; simp [Addr.add]
  | 3, hj => simp at hj; subst hj; simp [Addr.add]
theorem four_oneCell (k : IntKind) (x y z a : Int) : ∀ u ∈ [Value.int k x, Value.int k y, Value.int k z, Value.int k a], u.oneCell' = true := by
  intro u hu; simp at hu; rcases hu with rfl | rfl | rfl | rfl <;> rfl
theorem wrap8_nat (n : Nat) : IntKind.u8.wrap (n : Int) = ((UInt8.ofNat n).toNat : Int) := by
  rw [byte_of]; simp [IntKind.wrap, IntKind.signed, IntKind.bits]
theorem four_val (x : Nat) : [Value.int .u8 (IntKind.u8.wrap ((x : Int) / 16777216)), Value.int .u8 (IntKind.u8.wrap ((x : Int) / 65536)), Value.int .u8 (IntKind.u8.wrap ((x : Int) / 256)), Value.int .u8 (IntKind.u8.wrap (x : Int))] = byteVals (word4 x) := by
  rw [show (x : Int) / 16777216 = ((x / 16777216 : Nat) : Int) by omega, show (x : Int) / 65536 = ((x / 65536 : Nat) : Int) by omega, show (x : Int) / 256 = ((x / 256 : Nat) : Int) by omega, wrap8_nat, wrap8_nat, wrap8_nat, wrap8_nat]
  rfl
theorem keep1 {W w2 : World} {b o g : Nat} {v : Value} (hg : W.grownBy w2 (some g)) (hne : ¬ b = g) (h : W.cell? ⟨b, o, none⟩ = some v) : w2.cell? ⟨b, o, none⟩ = some v := hg.cell h (by simpa using hne)
theorem take_word (H : List Nat) (k : Nat) (h : k < H.length) : ((H.take k).map word4).flatten ++ word4 (H.getD k 0) = ((H.take (k + 1)).map word4).flatten := by
  rw [List.take_add_one, List.map_append, List.flatten_append, List.getD_eq_getElem?_getD, List.getElem?_eq_getElem h]
  simp

set_option maxRecDepth 100000 in
set_option maxHeartbeats 2000000 in
theorem spec_K (w : World) :
    Calls Tryd.prog 69 #[] w fun e w' => ∃ g cp, e = .returned (.slice (some ⟨g, 0, none⟩) 64 cp) ∧ OwnN w' w.heap.size g 64 cp K64 ∧ Below w.heap.size w w' := by
  go_enter Tryd.func69, Tryd.ntmps69
  go_wp2_with fail
  go_ret
  exact ⟨_, _, rfl, ownN_lit w _ K64 _ (Nat.le_refl _) rfl (by decide), (Below.refl _ _).alloc (Nat.le_refl _) _⟩

set_option maxRecDepth 100000 in
set_option maxHeartbeats 2000000 in
theorem spec_digest (b off len cap : Nat) (bs : List UInt8) (w : World) (h : Sl w (some ⟨b, off, none⟩) len bs) (hsz : len ≤ 1099511627776) :
    Calls Tryd.prog 57 #[.slice (some ⟨b, off, none⟩) len cap] w fun e w' => e = .returned (.string ⟨(digest bs).toArray⟩) ∧ Below w.heap.size w w' := by
  obtain ⟨i0, hi, hz0, hz1, hz2⟩ := info_parts info8
  have hl := h.1
  go_enter Tryd.func57, Tryd.ntmps57
  go_wp2_with fail
  refine (spec_padded b off len cap bs _ h hsz).mono ?_
  rintro e w1 ⟨gp, np, capp, rfl, hP, hB1⟩
  have HPL := Hid.mk' hP.1
  have hpb : np ≤ 1099511627776 + 100 := by rw [← hP.1, padded_length]; unfold zeros; omega
  have hmod : np % 64 = 0 := by rw [← hP.1]; exact padded_mod bs
  have hmx := hP.max
  go_wp2_with fail
  refine (spec_K _).mono ?_
  rintro e w2 ⟨gk, cpk, rfl, hK, hB2⟩
  have hbw1 := hB1.size
  have hba : Below w1.heap.size w1 (w1.alloc (.cells #[.int .i64 1779033703, .int .i64 3144134277, .int .i64 1013904242, .int .i64 2773480762, .int .i64 1359893119, .int .i64 2600822924, .int .i64 528734635, .int .i64 1541459225] 3)) := (Below.refl _ _).alloc (Nat.le_refl _) _
  have hH := (ownN_lit w1 w.heap.size H8 #[.int .i64 1779033703, .int .i64 3144134277, .int .i64 1013904242, .int .i64 2773480762, .int .i64 1359893119, .int .i64 2600822924, .int .i64 528734635, .int .i64 1541459225] hbw1 rfl (by decide)).below hB2
  have hK' := hK.mono (base' := w.heap.size) (Nat.le_trans hbw1 (le_alloc _ _ (Nat.le_refl _)))
  have hB12 : Below w1.heap.size w1 w2 := hba.trans (hB2.mono (le_alloc _ _ (Nat.le_refl _)))
  have hP2 := hP.below hB12
  have hBw : Below w.heap.size w w2 := hB1.trans (hB12.mono hbw1)
  have hgk := hK'.lt
  have hgp := hP2.lt
  clear hK hB2 hba hB12 hB1 hP
  go_wp2_with (at_builtin; fail)
  go_loopw [4, 6] (fun v i wr => ∃ (a g cp : Nat), a ≤ np ∧ a % 64 = 0 ∧ i = .int .i64 (a : Int) ∧ v = .slice (some ⟨g, 0, none⟩) 8 cp ∧ OwnN wr w.heap.size g 8 cp (hashTo (padded bs) (a / 64)) ∧ Below w2.heap.size w2 wr) (fun _ i _ => np - (intOf i).toNat)
  case atStart => exact ⟨0, w1.heap.size, 8, Nat.zero_le _, rfl, rfl, rfl, hH, Below.refl _ _⟩
  case round =>
    clear hH
    obtain ⟨a, g, cp, ha, ham, rfl, rfl, hO, hB⟩ := hrel
    have hbw : w.heap.size ≤ wr.heap.size := Nat.le_trans hBw.size hB.size
    by_cases hlt : a < np
    · have ha64 : a + 64 ≤ np := by omega
      have hS := sl_sub (hP2.below hB).sl a 64 ha64
      rw [Nat.zero_add] at hS
      have hK3 := hK'.below hB
      have HN : Hid (hashTo (padded bs) ((a + 64) / 64) = block K64 (hashTo (padded bs) (a / 64)) (((padded bs).drop a).take 64)) := by
        show _ = _
        rw [show (a + 64) / 64 = a / 64 + 1 by omega]
        show block _ _ (((padded bs).drop (64 * (a / 64))).take 64) = _
        rw [show 64 * (a / 64) = a by omega]
      have hlow := hashTo_lt (padded bs) (a / 64)
      go_wp2_with (at_builtin; fail)
      refine (spec_block g cp gp a _ gk cpk w.heap.size _ _ _ hO hlow hS hK3).mono ?_
      rintro e w4 ⟨g4, cp4, rfl, hO4, hB4⟩
      have hB5 : Below w2.heap.size w2 w4 := hB.trans (hB4.mono hB.size)
      rw [← HN.out] at hO4
      have HO4 := Hid.mk' (hO4.mono (base' := w.heap.size) hbw)
      clear hO4 hB4 hS hK3 hO hB HN hlow
      go_wp2_with (at_builtin; fail)
      go_roundw
      case rel => exact ⟨a + 64, g4, cp4, ha64, by omega, by go_num, rfl, HO4.out, hB5⟩
      case measure => simp [intOf]; omega
    · have HE : Hid (a = np) := by show _ = _; omega
      have hB' : Below w.heap.size w wr := hBw.trans (hB.mono hBw.size)
      have hx := hashTo_lt (padded bs) (np / 64)
      have hxl := hashTo_length (padded bs) (np / 64)
      have HD : Hid (digest bs = ((hashTo (padded bs) (np / 64)).map word4).flatten) := by show _ = _; unfold digest; rw [HPL.out]
      have hO' : OwnN wr w.heap.size g 8 cp (hashTo (padded bs) (np / 64)) := by rw [← HE.out]; exact hO
      generalize hashTo (padded bs) (np / 64) = H at *
      have HO := Hid.mk' hO'
      have HXL := Hid.mk' hxl
      clear hO hO' hB hP2 hK' hBw
      rename World => wp
      go_wp2_with (at_builtin; fail)
      go_loopw [7, 8] (fun v i wq => ∃ (k go cpo : Nat), k ≤ 8 ∧ i = .int .i64 (k : Int) ∧ v = .slice (some ⟨go, 0, none⟩) (4 * k) cpo ∧ Own wq wp.heap.size go (4 * k) cpo ((H.take k).map word4).flatten ∧ Below wp.heap.size wp wq) (fun _ i _ => 8 - (intOf i).toNat)
      case atStart => exact ⟨0, wp.heap.size, 0, Nat.zero_le _, rfl, rfl, own_made wp _ (Nat.le_refl _), (Below.refl _ _).alloc (Nat.le_refl _) _⟩
      case round =>
        obtain ⟨k, go, cpo, hk, rfl, rfl, hQ, hBq⟩ := hrel
        by_cases hlt8 : k < 8
        · have ck := (HO.out.below hBq).at k hlt8
          have hne : ¬ g = go := by have := HO.out.lt; have := hQ.lt; omega
          have hxk := getD_lt hx k
          have HF : Hid (((H.take k).map word4).flatten ++ word4 (H.getD k 0) = ((H.take (k + 1)).map word4).flatten) := take_word H k (by omega)
          have hc3 : 4 * k + 4 ≤ maxLen := by unfold maxLen; omega
          have hc4 : (4 * k + 4) * 1 ≤ 140737488355328 := by omega
          have hbq : wp.heap.size ≤ wr.heap.size := hBq.size
          generalize H.getD k 0 = x at *
          go_wp2_with (at_builtin; fail)
          go_region_held_law (fun w' => w'.cell? ⟨g, k, none⟩ = some (.int .i64 (x : Int))) (first | (go_keep) | (exact keep1 hgrow hne (by assumption))) ((refine step_append_own rfl (.tmp 32) (.tmp 56) 92 rfl wp.heap.size 5 i0 (.int .u8 0) 1 1 Tryd.underlying92 hi hz0 hz1 hz2 rfl (by decide) _ _ _ rfl (hQ.2.alloc _) ⟨wr.heap.size, 0, none⟩ 4 4 [_, _, _, _] rfl rfl (cells_four _ _ _ _ _ _) (four_oneCell _ _ _ _ _) hc3 hc4 (le_alloc _ _ hbq) ?_; intro v2 w5 hown hgrow hnn))
          have hgr2 : (wr.alloc (.cells #[.int .u8 (IntKind.u8.wrap ((x : Int) / 16777216)), .int .u8 (IntKind.u8.wrap ((x : Int) / 65536)), .int .u8 (IntKind.u8.wrap ((x : Int) / 256)), .int .u8 (IntKind.u8.wrap (x : Int))] 5)).drew.grownBy w5 (some go) := hgrow
          obtain ⟨g6, cp6, hv, hO6⟩ := own_app (m := 4) (ns := word4 x) hQ.1 rfl (four_val x) (by simpa using hnn) hown
          subst hv
          rw [HF.out] at hO6
          have hB6 : Below wp.heap.size wp w5 := (hBq.alloc hbq _).drew.grown hgr2 (le_alloc _ _ hbq) (fun k e => by cases e; exact hQ.lt.1)
          have HO6 := Hid.mk' hO6
          clear hown hgrow hgr2 hnn hO6 hQ hBq
          go_wp2_with (at_builtin; fail)
          go_roundw
          case rel => exact ⟨k + 1, g6, cp6, by omega, by go_num, rfl, HO6.out, hB6⟩
          case measure => simp [intOf]; omega
        · have HE8 : Hid (k = 8) := by show _ = _; omega
          have hcv := conv_own hQ
          go_wp2_with (at_builtin; fail)
          go_ret
          refine ⟨ret_str ?_, hB'.trans (hBq.mono hbw)⟩
          have hle : H.length ≤ k := by rw [HXL.out, HE8.out]; exact Nat.le_refl _
          rw [HD.out, List.take_of_length_le (by simpa using hle)]

end Go.Proofs.YteammdkipnfmnaaDoor.sha

namespace Go.Proofs.YteammdkipnfmnaaDoor.tree
open Go Go.RowKit Go.Proofs.YteammdkipnfmnaaDoor.base Go.Proofs.YteammdkipnfmnaaDoor.pairs Go.Proofs.YteammdkipnfmnaaDoor.puttext Go.Proofs.YteammdkipnfmnaaDoor.putnum
set_option linter.unusedVariables false
set_option linter.unusedSimpArgs false

def lim (p : Pr) : Prop := p.1.size ≤ 34359738368 ∧ p.2.size ≤ 34359738368
theorem own_one (w : World) (u : UInt8) (x : Int) (hx : x = (u.toNat : Int)) (base : Nat) (hb : base ≤ w.heap.size) : Own (w.alloc (.cells #[.int .u8 x] 5)) base w.heap.size 1 1 [u] := by
  subst hx
  exact own_of_row rfl (by decide) hb (heap_alloc_new w _)
theorem two_cells {w w' : World} {b o1 o2 : Nat} {v1 v2 : Value} (hb : Below w.heap.size w w') (h : w.cell? ⟨b, o1, none⟩ = some v1 ∧ w.cell? ⟨b, o2, none⟩ = some v2) :
    w'.cell? ⟨b, o1, none⟩ = some v1 ∧ w'.cell? ⟨b, o2, none⟩ = some v2 :=
  ⟨(hb.cell (p := ⟨b, o1, none⟩) (World.block_lt_of_cell? w _ h.1)).trans h.1, (hb.cell (p := ⟨b, o2, none⟩) (World.block_lt_of_cell? w _ h.2)).trans h.2⟩

set_option maxRecDepth 100000 in
set_option maxHeartbeats 1000000 in
theorem spec_l4Leaf (p : Pr) (w : World) (hp : lim p) :
    Calls Tryd.prog 71 #[.agg #[.string p.1, .string p.2]] w fun e w' =>
      ∃ g' n' cap', e = .returned (.slice (some ⟨g', 0, none⟩) n' cap') ∧ Own w' w.heap.size g' n' cap' (leafB p) ∧ Below w.heap.size w w' := by
  have hp1 := hp.1
  have hp2 := hp.2
  obtain ⟨w0, hw0⟩ : ∃ w0, w0 = w.alloc (.cells #[.string p.1, .string p.2] 65) := ⟨_, rfl⟩
  have hba : Below w.heap.size w w0 := by rw [hw0]; exact (Below.refl _ _).alloc (Nat.le_refl _) _
  have hc1 : w0.cell? ⟨w.heap.size, 0, none⟩ = some (.string p.1) := by rw [hw0]; simp
  have hc2 : w0.cell? ⟨w.heap.size, 1, none⟩ = some (.string p.2) := by rw [hw0]; simp
  have hO : Own (w0.alloc (.cells #[.int .u8 0] 5)).drew w.heap.size w0.heap.size 1 1 [0] := own_one w0 0 0 rfl w.heap.size hba.size
  go_enter Tryd.func71, Tryd.ntmps71
  go_wp2_with fail
  rw [← hw0]
  clear hw0
  go_region_held3 (fun w' => w'.cell? ⟨w.heap.size, 0, none⟩ = some (.string p.1) ∧ w'.cell? ⟨w.heap.size, 1, none⟩ = some (.string p.2)) (first | (exact two_cells hb6 (by assumption)) | (exact two_cells hb5 (by assumption)) | (go_keep)) (first | (go_at_call 81; refine (spec_text g5 0 n5 cp5 ([0] ++ textBytes p.1) p.2 _ hO5.sl (by have := hO5.1; have := textBytes_length p.1; simp at *; omega) (by omega)).mono ?_; rintro e w6 ⟨g6, n6, cp6, rfl, hO6, hb6⟩) | (go_at_call 81; refine (spec_text w0.heap.size 0 1 1 [0] p.1 _ hO.sl (by omega) (by omega)).mono ?_; rintro e w5 ⟨g5, n5, cp5, rfl, hO5, hb5⟩))
  have hb1 : Below w.heap.size w (w0.alloc (.cells #[.int .u8 0] 5)).drew := (hba.alloc hba.size _).drew
  have hb2 : Below w.heap.size w w5 := hb1.trans (hb5.mono hb1.size)
  have hb3 : Below w.heap.size w w6 := hb2.trans (hb6.mono hb2.size)
  have hO7 : Own w6 w.heap.size g6 n6 cp6 (leafB p) := hO6.mono hb2.size
  clear hO hO5 hb5 hO6 hb6 hb1 hb2 hc1 hc2
  have HO := Hid.mk' hO7
  clear hO7
  go_wp2_with fail
  go_ret
  exact ⟨g6, n6, cp6, rfl, HO.out, hb3⟩

set_option maxHeartbeats 1000000 in
theorem spec_leafOf (p : Pr) (w : World) (hp : lim p) :
    Calls Tryd.prog 58 #[.agg #[.string p.1, .string p.2]] w fun e w' => e = .returned (.string (leafOf p)) ∧ Below w.heap.size w w' := by
  have hba : Below w.heap.size w (w.alloc (.cells #[.string p.1, .string p.2] 65)) := (Below.refl _ _).alloc (Nat.le_refl _) _
  have hlen := leafB_length p
  have hp1 := hp.1
  have hp2 := hp.2
  have HL := Hid.mk' (spec_l4Leaf p (w.alloc (.cells #[.string p.1, .string p.2] 65)) hp)
  go_enter Tryd.func58, Tryd.ntmps58
  go_wp2_with fail
  refine HL.out.mono ?_
  rintro e w1 ⟨g, n, cp, rfl, hO, hb1⟩
  have hB1 : Below w.heap.size w w1 := hba.trans (hb1.mono hba.size)
  have hn : n ≤ 1099511627776 := by have := hO.1; omega
  have HD := Hid.mk' (sha.spec_digest g 0 n cp (leafB p) w1 hO.sl hn)
  clear hO hb1 hba
  go_wp2_with fail
  refine HD.out.mono ?_
  rintro e w2 ⟨rfl, hb2⟩
  have hB2 : Below w.heap.size w w2 := hB1.trans (hb2.mono hB1.size)
  go_wp2_with fail
  go_ret
  exact ⟨rfl, hB2⟩

set_option maxRecDepth 100000 in
set_option maxHeartbeats 1000000 in
theorem spec_l4Node (a b : ByteArray) (w : World) (ha : a.size ≤ 137438953472) (hb : b.size ≤ 137438953472) :
    Calls Tryd.prog 72 #[.string a, .string b] w fun e w' =>
      ∃ g' n' cap', e = .returned (.slice (some ⟨g', 0, none⟩) n' cap') ∧ Own w' w.heap.size g' n' cap' (nodeB a b) ∧ Below w.heap.size w w' := by
  obtain ⟨i0, hi, hz0, hz1, hz2⟩ := info_parts info8
  have hO0 := own_one w 1 1 rfl w.heap.size (Nat.le_refl _)
  have hB0 : Below w.heap.size w (w.alloc (.cells #[.int .u8 1] 5)) := (Below.refl _ _).alloc (Nat.le_refl _) _
  have hc3 : 1 + a.size ≤ maxLen := by unfold maxLen; omega
  have hc4 : 1 + a.size ≤ 140737488355328 := by omega
  go_enter Tryd.func72, Tryd.ntmps72
  go_wp2_with (at_builtin; refine Lib.wpList_append_own_string _ rfl (.tmp 5) (.tmp 6) 92 9 rfl w.heap.size 5 i0 Tryd.underlying92 Tryd.underlying9 hi hz0 hz1 hz2 _ _ _ rfl hO0.2 a rfl hc3 hc4 hB0.size ?_)
  intro v1 w1 hown hgrow hnn
  have hnn' : ¬ v1 = .slice none 0 0 := by simpa using hnn
  rw [strCells_eq] at hown
  obtain ⟨g1, cap1, hv, hO1⟩ := own_app (m := a.size) (ns := a.data.toList) hO0.1 (size_toList a) rfl hnn' hown
  subst hv
  have hB1 : Below w.heap.size w w1 := hB0.grown hgrow hB0.size (fun k e => by simp [Value.ownBlock] at e; omega)
  have hc5 : 1 + a.size + b.size ≤ maxLen := by unfold maxLen; omega
  have hc6 : 1 + a.size + b.size ≤ 140737488355328 := by omega
  have hs1 := hB1.size
  clear hown hgrow hnn hnn' hO0 hB0 hc3 hc4
  go_wp2_with (at_builtin; refine Lib.wpList_append_own_string _ rfl (.tmp 7) (.tmp 8) 92 9 rfl w.heap.size 5 i0 Tryd.underlying92 Tryd.underlying9 hi hz0 hz1 hz2 _ _ _ rfl hO1.2 b rfl hc5 hc6 hs1 ?_)
  intro v2 w2 hown hgrow hnn
  have hnn' : ¬ v2 = .slice none 0 0 := by simpa using hnn
  rw [strCells_eq] at hown
  obtain ⟨g2, cap2, hv, hO2⟩ := own_app (m := b.size) (ns := b.data.toList) hO1.1 (size_toList b) rfl hnn' hown
  subst hv
  have hB2 : Below w.heap.size w w2 := hB1.grown hgrow hs1 (fun k e => by simp [Value.ownBlock] at e; have := hO1.lt; omega)
  have HO := Hid.mk' hO2
  clear hown hgrow hnn hnn' hO1 hB1 hO2
  go_wp2_with fail
  go_ret
  exact ⟨g2, _, cap2, rfl, HO.out, hB2⟩

set_option maxHeartbeats 1000000 in
theorem spec_nodeOf (a b : ByteArray) (w : World) (ha : a.size ≤ 137438953472) (hb : b.size ≤ 137438953472) :
    Calls Tryd.prog 59 #[.string a, .string b] w fun e w' => e = .returned (.string (nodeOf a b)) ∧ Below w.heap.size w w' := by
  have hlen := nodeB_length a b
  have HL := Hid.mk' (spec_l4Node a b w ha hb)
  go_enter Tryd.func59, Tryd.ntmps59
  go_wp2_with fail
  refine HL.out.mono ?_
  rintro e w1 ⟨g, n, cp, rfl, hO, hB1⟩
  have hn : n ≤ 1099511627776 := by have := hO.1; omega
  have HD := Hid.mk' (sha.spec_digest g 0 n cp (nodeB a b) w1 hO.sl hn)
  clear hO
  go_wp2_with fail
  refine HD.out.mono ?_
  rintro e w2 ⟨rfl, hb2⟩
  have hB2 : Below w.heap.size w w2 := hB1.trans (hb2.mono hB1.size)
  go_wp2_with fail
  go_ret
  exact ⟨rfl, hB2⟩


set_option maxHeartbeats 1000000 in
theorem spec_half (n : Nat) (w : World) (h : 2 ≤ n) (h64 : n ≤ 64) :
    Calls Tryd.prog 46 #[.int .i64 (n : Int)] w fun e w' => e = .returned (.int .i64 (half n : Int)) ∧ w' = w := by
  go_enter Tryd.func46, Tryd.ntmps46
  go_wp2
  go_loop [3] (fun v => ∃ k : Nat, v = .int .i64 (k : Int) ∧ (k = 1 ∨ k = 2 ∨ k = 4 ∨ k = 8 ∨ k = 16 ∨ k = 32) ∧ k < n) (fun v => n - (intOf v).toNat)
  case atStart => exact ⟨1, rfl, by omega, by omega⟩
  case round =>
    obtain ⟨k, rfl, hk, hlt⟩ := hrel
    by_cases h2 : 2 * k < n
    · have hk2 : 2 * k = 1 ∨ 2 * k = 2 ∨ 2 * k = 4 ∨ 2 * k = 8 ∨ 2 * k = 16 ∨ 2 * k = 32 := by omega
      have h2i : 2 * (k : Int) < (n : Int) := by omega
      have hk0 : 1 ≤ k := by omega
      clear hk
      go_wp2
      go_round
      case rel => exact ⟨2 * k, by go_num, hk2, h2⟩
      case measure => simp [intOf]; omega
    · have HE : Hid (k = half n) := half_eq n k h h64 hk hlt (by omega)
      have h2i : ¬ 2 * (k : Int) < (n : Int) := by omega
      clear hk
      go_wp2
      go_ret
      exact ⟨ret_int (by rw [HE.out]), rfl⟩

end Go.Proofs.YteammdkipnfmnaaDoor.tree

namespace Go.Proofs.YteammdkipnfmnaaDoor.helps
open Go.RowKit Go.Proofs.YteammdkipnfmnaaDoor.base Go.Proofs.YteammdkipnfmnaaDoor.help
set_option linter.unusedVariables false
set_option linter.unusedSimpArgs false

def copyS (ss : List ByteArray) (k : Nat) : List ByteArray := ss.take k ++ List.replicate (ss.length - k) ⟨#[]⟩
theorem copyS_length (ss : List ByteArray) (k : Nat) (h : k ≤ ss.length) : (copyS ss k).length = ss.length := by simp [copyS]; omega
theorem copyS_zero (ss : List ByteArray) : copyS ss 0 = List.replicate ss.length ⟨#[]⟩ := by simp [copyS]
theorem copyS_all (ss : List ByteArray) : copyS ss ss.length = ss := by simp [copyS]
theorem copyS_small (ss : List ByteArray) (k : Nat) (h : ∀ s ∈ ss, s.size ≤ maxLen) : ∀ s ∈ copyS ss k, s.size ≤ maxLen := by
  intro s hs
  rcases List.mem_append.1 hs with hs | hs
  · exact h s (List.mem_of_mem_take hs)
  · obtain rfl := (List.mem_replicate.1 hs).2; exact Nat.zero_le _
theorem copyS_set (ss : List ByteArray) (k : Nat) (h : k < ss.length) : (copyS ss k).set k ss[k] = copyS ss (k + 1) := by
  apply List.ext_getElem?
  intro j
  simp only [copyS, List.getElem?_set, List.getElem?_append, List.length_append, List.length_take, List.length_replicate, List.getElem?_take, List.getElem?_replicate]
  have e : min k ss.length = k := by omega
  have e1 : min (k + 1) ss.length = k + 1 := by omega
  rw [e, e1]
  by_cases hj : j = k
  · subst hj; simp [h]; omega
  · by_cases h1 : j < k
    · simp [h1, show ¬ k = j by omega, show j < k + 1 by omega]
    · simp [h1, show ¬ k = j by omega, show ¬ j < k + 1 by omega, show (j - k < ss.length - k ↔ j - (k + 1) < ss.length - (k + 1)) by omega]
set_option maxHeartbeats 400000 in
theorem toStringS (a : Option Addr) (len cap : Nat) (bs : List ByteArray) (w : World) (h : SlS w a len bs) (hsz : len ≤ 1099511627776) :
    Calls Tryd.prog 20 #[.slice a len cap] w fun e w' => ∃ g, e = .returned (.slice (some ⟨g, 0, none⟩) len len) ∧ OwnS w' w.heap.size g len len bs ∧ Below w.heap.size w w' := by
  obtain ⟨hl, hm, hsm, hc⟩ := h
  subst hl
  have hm' := hm
  unfold maxLen at hm'
  obtain ⟨i0, hi, hz0, hz1, hz2⟩ := info_parts info9
  go_enter Tryd.func20, Tryd.ntmps20
  go_wp2_with (at_make; refine wpList_make_full _ rfl _ _ 22 rfl w.heap.size 9 i0 (.string ⟨#[]⟩) 1 Tryd.underlying22 hi hz0 hz1 _ _ _ _ bs.length rfl rfl rfl rfl ?b2 ?b3 ?b4 ?_)
  case b2 => rw [hz2]; omega
  case b3 => exact hm
  case b4 => exact Nat.le_refl _
  intro w1 hown hgrow
  have hOwn : OwnS w1 w.heap.size w.heap.size bs.length bs.length (copyS bs 0) := by
    refine ⟨copyS_length bs 0 (Nat.zero_le _), copyS_small bs 0 hsm, ?_⟩
    rw [copyS_zero]
    have e : strVals (List.replicate bs.length ⟨#[]⟩) = (madeCells #[.string ⟨#[]⟩] bs.length).toList := by
      simp [strVals, toList_madeCells_one]
    rw [e]; exact hown
  have hbel : Below w.heap.size w w1 := (Below.refl _ _).grown hgrow (Nat.le_refl _) (fun k e => by cases e)
  clear hown hgrow hi hz0 hz1 hz2
  go_wp2
  go_loopw [4] (fun i wr => ∃ k : Nat, k ≤ bs.length ∧ i = .int .i64 k ∧ OwnS wr w.heap.size w.heap.size bs.length bs.length (copyS bs k) ∧ Below w.heap.size w wr) (fun i _ => bs.length - (intOf i).toNat)
  case atStart => exact ⟨0, Nat.zero_le _, rfl, hOwn, hbel⟩
  case round =>
    clear hOwn hbel
    obtain ⟨k, hk, rfl, hO, hB⟩ := hrel
    by_cases hlt : k < bs.length
    · obtain ⟨b, off, ha, hcl⟩ := hc (by omega)
      subst ha
      have hbb : b < w.heap.size := World.block_lt_of_cell? w _ (hcl k hlt)
      have c1 : wr.cell? ⟨b, off + k, none⟩ = some (.string bs[k]) := (hB.cell (p := ⟨b, off + k, none⟩) hbb).trans (hcl k hlt)
      have c2 : wr.cell? ⟨w.heap.size, k, none⟩ = some (.string (copyS bs k)[k]!) := by
        have hx := hO.at k (by rw [copyS_length bs k hk]; exact hlt)
        rw [hx, getElem!_pos (copyS bs k) k (by rw [copyS_length bs k hk]; exact hlt)]
      have c3 : wr.frozen? ⟨w.heap.size, k, none⟩ = false := hO.frozen k
      have R := ownS_set hO k bs[k] (hsm _ (List.getElem_mem hlt))
      rw [copyS_set bs k hlt] at R
      have HR := Hid.mk' R
      clear R hcl hc
      go_wp2
      go_roundw
      case rel => exact ⟨k + 1, by omega, by go_num, HR.out.1, hB.trans (below_grown HR.out.2 (Nat.le_refl _) hB.size)⟩
      case measure => simp [intOf]; omega
    · go_wp2
      go_ret
      have e : k = bs.length := by omega
      subst e
      rw [copyS_all] at hO
      exact ⟨_, rfl, hO, hB⟩

theorem take_eqS {bs bs2 : List ByteArray} {k : Nat} (h : bs.take k = bs2.take k) (h1 : k < bs.length) (h2 : k < bs2.length) (e : bs[k] = bs2[k]) : bs.take (k + 1) = bs2.take (k + 1) := by
  rw [List.take_succ_eq_append_getElem h1, List.take_succ_eq_append_getElem h2, h, e]

set_option maxHeartbeats 400000 in
theorem eqStringS (a a2 : Option Addr) (len cap len2 cap2 : Nat) (bs bs2 : List ByteArray) (w : World) (h : SlS w a len bs) (h2 : SlS w a2 len2 bs2) :
    Calls Tryd.prog 23 #[.slice a len cap, .slice a2 len2 cap2] w fun e w' => e = .returned (.bool (decide (bs = bs2))) ∧ ∃ n, w' = w.drewN n := by
  obtain ⟨hl, hm, _, hc⟩ := h
  obtain ⟨hl2, hm2, _, hc2⟩ := h2
  subst hl hl2
  unfold maxLen at hm hm2
  by_cases hne : bs.length = bs2.length
  · have hb : ((bs.length : Int) == (bs2.length : Int)) = true := by simp; omega
    go_enter Tryd.func23, Tryd.ntmps23
    go_wp2
    go_loopw [5] (fun i wr => ∃ k : Nat, k ≤ bs.length ∧ i = .int .i64 k ∧ bs.take k = bs2.take k ∧ ∃ n, wr = w.drewN n) (fun i _ => bs.length - (intOf i).toNat)
    case atStart => exact ⟨0, Nat.zero_le _, rfl, rfl, 0, rfl⟩
    case round =>
      obtain ⟨k, hk, rfl, htk, n, rfl⟩ := hrel
      by_cases hlt : k < bs.length
      · obtain ⟨b, off, ha, hcl⟩ := hc (by omega)
        obtain ⟨b2, off2, ha2, hcl2⟩ := hc2 (by omega)
        subst ha ha2
        have hlt2 : k < bs2.length := by omega
        have hi1 : (k : Int) < (bs.length : Int) := by omega
        have hi2 : (k : Int) < (bs2.length : Int) := by omega
        have HT := Hid.mk' htk
        by_cases e : bs[k] = bs2[k]
        · have c1 : w.cell? ⟨b, off + k, none⟩ = some (.string bs[k]) := hcl k hlt
          have c2 : w.cell? ⟨b2, off2 + k, none⟩ = some (.string bs[k]) := by rw [e]; exact hcl2 k hlt2
          have HE := Hid.mk' e
          clear hcl hcl2 hc hc2 htk hne e
          go_wp2
          go_quiet (fail)
          go_wp2
          go_roundw
          case rel => exact ⟨k + 1, by omega, by go_num, take_eqS HT.out hlt hlt2 HE.out, _, rfl⟩
          case measure => simp [intOf]; omega
        · have hq : (bs[k].toList == bs2[k].toList) = false := by
            rw [beq_eq_false_iff_ne]; intro h; rw [ByteArray.toList_eq, ByteArray.toList_eq] at h; exact e (WideShapes.bytes_inj h)
          have c1 : w.cell? ⟨b, off + k, none⟩ = some (.string bs[k]) := hcl k hlt
          have c2 : w.cell? ⟨b2, off2 + k, none⟩ = some (.string bs2[k]) := hcl2 k hlt2
          have HE := Hid.mk' e
          clear hcl hcl2 hc hc2 htk hne e
          go_wp2
          go_quiet (fail)
          go_wp2
          go_ret
          exact ⟨ret_bool (by symm; rw [decide_eq_false_iff_not]; intro h; subst h; exact HE.out rfl), _, World.drewN_drewN _ _ _⟩
      · have e : k = bs.length := by omega
        have hfin : bs = bs2 := by
          subst e
          rw [List.take_of_length_le (Nat.le_refl _), List.take_of_length_le (by omega)] at htk
          exact htk
        have HF := Hid.mk' hfin
        clear hfin htk
        go_wp2
        go_ret
        exact ⟨ret_bool (by symm; rw [decide_eq_true_iff]; exact HF.out), _, rfl⟩
  · have hb : ((bs.length : Int) == (bs2.length : Int)) = false := by simp; omega
    go_enter Tryd.func23, Tryd.ntmps23
    go_wp2
    go_ret
    exact ⟨ret_bool (by symm; rw [decide_eq_false_iff_not]; intro h; exact hne (by rw [h])), 0, rfl⟩

def dch (k : Nat) : UInt8 := UInt8.ofNat (48 + k % 10)
theorem dch_val (k : Nat) : 48 + (k : Int) % 10 = ((dch k).toNat : Int) := by unfold dch; rw [byte_of]; omega
theorem ba_cons (c : UInt8) (l : List UInt8) : (⟨#[c]⟩ : ByteArray) ++ ⟨l.toArray⟩ = ⟨(c :: l).toArray⟩ := by
  apply WideShapes.bytes_inj
  rw [ByteArray.data_append]
  simp
def dig : Nat → Nat → List UInt8
  | 0, _ => []
  | f + 1, k => if k = 0 then [] else dig f (k / 10) ++ [dch k]
def markBytes (k : Nat) : ByteArray := ⟨(109 :: dig 20 k).toArray⟩
theorem dig_zero (f : Nat) : dig f 0 = [] := by cases f <;> simp [dig]
theorem dig_length (f k : Nat) : (dig f k).length ≤ f := by
  induction f generalizing k with
  | zero => simp [dig]
  | succ f ih =>
    rw [dig]
    split
    · simp
    · have := ih (k / 10); simp; omega
theorem markBytes_size (k : Nat) : (markBytes k).size ≤ 21 := by
  have := dig_length 20 k
  show (109 :: dig 20 k).toArray.size ≤ 21
  simp; omega
set_option maxHeartbeats 400000 in
theorem markText (k0 : Nat) (w : World) (hk : 1 ≤ k0) (hk2 : k0 ≤ 1099511627776) :
    Calls Tryd.prog 41 #[.int .i64 (k0 : Int)] w fun e w' => e = .returned (.string (markBytes k0)) ∧ Below w.heap.size w w' := by
  have hne : ¬ k0 = 0 := by omega
  go_enter Tryd.func41, Tryd.ntmps41
  go_wp2
  go_loopw [0, 3] (fun kv out wr => ∃ (f m : Nat) (acc : List UInt8), kv = .int .i64 (m : Int) ∧ m ≤ 1099511627776 ∧ m < 10 ^ f ∧ out = .string ⟨acc.toArray⟩ ∧ dig f m ++ acc = dig 20 k0 ∧ acc.length + f = 20 ∧ Below w.heap.size w wr) (fun kv _ _ => (intOf kv).toNat)
  case atStart => exact ⟨20, k0, [], rfl, hk2, by omega, rfl, by simp, rfl, Below.refl _ _⟩
  case round =>
    obtain ⟨f, m, acc, rfl, hm, hmf, rfl, hd, hf, hB⟩ := hrel
    have HD := Hid.mk' hd
    have HM := Hid.mk' hmf
    have HF := Hid.mk' hf
    have hal : acc.length ≤ 20 := by omega
    clear hd hmf hf
    by_cases hp : 0 < m
    · obtain ⟨f', rfl⟩ : ∃ f', f = f' + 1 := by
        cases f with
        | zero => exact absurd HM.out (by omega)
        | succ f' => exact ⟨f', rfl⟩
      have hcv := fun c => conv_one wr (48 + (m : Int) % 10) (dch m) (dch_val m) c
      go_wp2
      go_roundw
      case rel =>
        refine ⟨f', m / 10, dch m :: acc, by go_num, by omega, ?_, by rw [ba_cons], ?_, ?_, hB.alloc hB.size _⟩
        · have := HM.out; rw [Nat.pow_succ] at this; exact Nat.div_lt_of_lt_mul (by omega)
        · have := HD.out; rw [dig, if_neg (by omega)] at this; simpa using this
        · have := HF.out; simp; omega
      case measure => simp [intOf]; omega
    · have hm0 : m = 0 := by omega
      have HR : Hid (acc = dig 20 k0) := by
        have := HD.out; rw [hm0, dig_zero, List.nil_append] at this; exact this
      clear hm0
      go_wp2
      go_ret
      refine ⟨?_, hB⟩
      unfold markBytes
      rw [← HR.out]
      exact ret_str (by apply WideShapes.bytes_inj; simp [ByteArray.data_append])

theorem markTextI (n : Int) (k0 : Nat) (w : World) (hn : Hid (n = (k0 : Int))) (hk : 1 ≤ k0) (hk2 : k0 ≤ 1099511627776) :
    Calls Tryd.prog 41 #[.int .i64 n] w fun e w' => e = .returned (.string (markBytes k0)) ∧ Below w.heap.size w w' := by
  have e := hn.out
  subst e
  exact markText k0 w hk hk2
def markS (k0 n : Nat) : List ByteArray := (List.range n).map (fun j => markBytes (k0 + j))
def markSTo (ss : List ByteArray) (k0 i : Nat) : List ByteArray := markS k0 i ++ ss.drop i
theorem markS_length (k0 n : Nat) : (markS k0 n).length = n := by simp [markS]
theorem markSTo_length (ss : List ByteArray) (k0 i : Nat) (h : i ≤ ss.length) : (markSTo ss k0 i).length = ss.length := by simp [markSTo, markS]; omega
theorem markSTo_zero (ss : List ByteArray) (k0 : Nat) : markSTo ss k0 0 = ss := by simp [markSTo, markS]
theorem markSTo_all (ss : List ByteArray) (k0 : Nat) : markSTo ss k0 ss.length = markS k0 ss.length := by simp [markSTo]
theorem markSTo_set (ss : List ByteArray) (k0 i : Nat) (h : i < ss.length) : (markSTo ss k0 i).set i (markBytes (k0 + i)) = markSTo ss k0 (i + 1) := by
  unfold markSTo markS
  rw [List.set_append_right _ _ (by simp)]
  simp only [List.length_map, List.length_range, Nat.sub_self, List.range_succ, List.map_append, List.map_cons, List.map_nil, List.append_assoc]
  congr 1
  rw [List.drop_eq_getElem_cons h]
  rfl
theorem mark_max (k : Nat) : (markBytes k).size ≤ maxLen := Nat.le_trans (markBytes_size k) (by decide)

set_option maxHeartbeats 400000 in
theorem markStringS (g len cap k0 base : Nat) (ss : List ByteArray) (w : World) (h : OwnS w base g len cap ss) (hk1 : 1 ≤ k0) (hk0 : k0 + len ≤ 1099511627776) :
    Calls Tryd.prog 26 #[.slice (some ⟨g, 0, none⟩) len cap, .int .i64 (k0 : Nat)] w fun e w' => e = .returned (.int .i64 ((k0 + len : Nat) : Int)) ∧ OwnS w' base g len cap (markS k0 len) ∧ w.grownBy w' (some g) := by
  obtain ⟨hl, _⟩ := id h
  subst hl
  go_enter Tryd.func26, Tryd.ntmps26
  go_wp2
  go_loopw [1, 5] (fun kv i wr => ∃ k : Nat, k ≤ ss.length ∧ i = .int .i64 k ∧ kv = .int .i64 ((k0 + k : Nat) : Int) ∧ OwnS wr base g ss.length cap (markSTo ss k0 k) ∧ w.grownBy wr (some g)) (fun _ i _ => ss.length - (intOf i).toNat)
  case atStart => exact ⟨0, Nat.zero_le _, rfl, rfl, by rw [markSTo_zero]; exact h, World.grownBy.refl _ _⟩
  case round =>
    obtain ⟨k, hk, rfl, rfl, hO, hG⟩ := hrel
    by_cases hlt : k < ss.length
    · go_wp2_with fail
      refine (markText (k0 + k) _ (by omega) (by omega)).mono ?_
      rintro e w1 ⟨rfl, hB1⟩
      have hO1 := hO.below hB1
      have hG1 := grown_below hG hB1
      clear hO hG
      have hlen := markSTo_length ss k0 k hk
      have c2 : w1.cell? ⟨g, k, none⟩ = some (.string (markSTo ss k0 k)[k]!) := by
        rw [hO1.at k (by omega), getElem!_pos (markSTo ss k0 k) k (by omega)]
      have c3 : w1.frozen? ⟨g, k, none⟩ = false := hO1.frozen k
      have R := ownS_set hO1 k (markBytes (k0 + k)) (mark_max _)
      rw [markSTo_set ss k0 k hlt] at R
      have HR := Hid.mk' R
      clear R hlen
      go_wp2
      go_roundw
      case rel => exact ⟨k + 1, by omega, by go_num, by go_num, HR.out.1, grownBy_trans hG1 HR.out.2⟩
      case measure => simp [intOf]; omega
    · go_wp2
      go_ret
      have e : k = ss.length := by omega
      subst e
      rw [markSTo_all] at hO
      exact ⟨rfl, hO, hG⟩

set_option maxHeartbeats 1000000 in
theorem heldStringS (a : Option Addr) (len cap k0 : Nat) (w : World) (h : SlS w a len (markS k0 len)) (hk1 : 1 ≤ k0) (hk0 : k0 + len ≤ 1099511627776) :
    Calls Tryd.prog 29 #[.slice a len cap, .int .i64 (k0 : Nat)] w fun e w' => e = .returned (.int .i64 ((k0 + len : Nat) : Int)) ∧ Below w.heap.size w w' := by
  obtain ⟨hl, hm, _, hc⟩ := h
  go_enter Tryd.func29, Tryd.ntmps29
  go_wp2
  go_loopw [1, 5] (fun kv i wr => ∃ k : Nat, k ≤ len ∧ i = .int .i64 k ∧ kv = .int .i64 ((k0 + k : Nat) : Int) ∧ Below w.heap.size w wr) (fun _ i _ => len - (intOf i).toNat)
  case atStart => exact ⟨0, Nat.zero_le _, rfl, rfl, Below.refl _ _⟩
  case round =>
    obtain ⟨k, hk, rfl, rfl, hB⟩ := hrel
    by_cases hlt : k < len
    · obtain ⟨b, off, ha, hcl⟩ := hc (by omega)
      subst ha
      have hbb : b < w.heap.size := World.block_lt_of_cell? w _ (hcl k (by omega))
      have c0 : ∀ wx, Below w.heap.size w wx → wx.cell? ⟨b, off + k, none⟩ = some (.string (markBytes (k0 + k))) := by
        intro wx hx
        rw [hx.cell (p := ⟨b, off + k, none⟩) hbb, hcl k (by omega)]; simp [markS]
      have c1 := c0 wr hB
      clear hcl hc
      have hi1 : (k : Int) < (len : Int) := by omega
      have hki : Hid ((k0 : Int) + (k : Int) = ((k0 + k : Nat) : Int)) := by show _ = _; omega
      go_wp2
      go_region_with (go_at_call 41; refine (markTextI _ (k0 + k) _ hki (by omega) (by omega)).mono ?_; rintro e w1 ⟨rfl, hB1⟩; have hB2 := hB.drew.trans (hB1.mono hB.size); clear hB1; have c2 := c0 w1 hB2)
      all_goals
        go_wp2
        go_roundw
        case rel => exact ⟨k + 1, by omega, by go_num, by go_num, by assumption⟩
        case measure => simp [intOf]; omega
    · go_wp2
      go_ret
      have e : k = len := by omega
      subst e
      exact ⟨rfl, hB⟩

end Go.Proofs.YteammdkipnfmnaaDoor.helps
