/- The specification's digest. -/
import Derived.Test.YtmdhkoiimffmlaaDoorShaB
import Derived.Test.YtmdhkoiimffmlaaDoorPaddedS
namespace Go.Proofs.YtmdhkoiimffmlaaDoor.sha
open Go.RowKit Go.Proofs.YtmdhkoiimffmlaaDoor.base Go.Proofs.YtmdhkoiimffmlaaDoor.padmath
set_option linter.unusedVariables false
set_option linter.unusedSimpArgs false

theorem sl_sub {w : World} {b off len : Nat} {bs : List UInt8} (h : Sl w (some ⟨b, off, none⟩) len bs) (p n : Nat) (hp : p + n ≤ len) : Sl w (some ⟨b, off + p, none⟩) n ((bs.drop p).take n) := by
  have hl := h.1
  have hm := h.2.1
  refine ⟨by simp; omega, by omega, fun h0 => ⟨b, off + p, rfl, fun i hi => ?_⟩⟩
  simp at hi
  have := h.at (p + i) (by omega)
  rw [Nat.add_assoc, this]
  simp

theorem cells_four (w : World) (x y z u : Value) (t : TypeId) : ∀ j v, [x, y, z, u][j]? = some v → (w.alloc (.cells #[x, y, z, u] t)).cell? ((⟨w.heap.size, 0, none⟩ : Addr).add j) = some v := by
  intro j v hj
  match j, hj with
  | 0, hj => simp at hj; subst hj; simp [Addr.add]
  | 1, hj => simp at hj; subst hj; simp [Addr.add]
  | 2, hj => simp at hj; subst hj; simp [Addr.add]
  | 3, hj => simp at hj; subst hj; simp [Addr.add]
theorem four_oneCell (k : IntKind) (x y z a : Int) : ∀ u ∈ [Value.int k x, Value.int k y, Value.int k z, Value.int k a], u.oneCell' = true := by
  intro u hu; simp at hu; rcases hu with rfl | rfl | rfl | rfl <;> rfl
theorem wrap8_nat (n : Nat) : IntKind.u8.wrap (n : Int) = ((UInt8.ofNat n).toNat : Int) := by
  rw [byte_of]; simp [IntKind.wrap, IntKind.signed, IntKind.bits]
theorem four_val (x : Nat) : [Value.int .u8 (IntKind.u8.wrap ((x : Int) / 16777216)), Value.int .u8 (IntKind.u8.wrap ((x : Int) / 65536)), Value.int .u8 (IntKind.u8.wrap ((x : Int) / 256)), Value.int .u8 (IntKind.u8.wrap (x : Int))] = byteVals (word4 x) := by
  rw [show (x : Int) / 16777216 = ((x / 16777216 : Nat) : Int) by omega, show (x : Int) / 65536 = ((x / 65536 : Nat) : Int) by omega, show (x : Int) / 256 = ((x / 256 : Nat) : Int) by omega, wrap8_nat, wrap8_nat, wrap8_nat, wrap8_nat]
  rfl
theorem keep1 {W w2 : World} {b o g : Nat} {v : Value} (hg : W.grownBy w2 (some g)) (hne : ¬ b = g) (h : W.cell? ⟨b, o, none⟩ = some v) : w2.cell? ⟨b, o, none⟩ = some v := hg.cell h (by simpa using hne)
theorem take_word (H : List Nat) (k : Nat) (h : k < H.length) : ((H.take k).map word4).flatten ++ word4 (H.getD k 0) = ((H.take (k + 1)).map word4).flatten := by
  rw [List.take_add_one, List.map_append, List.flatten_append, List.getD_eq_getElem?_getD, List.getElem?_eq_getElem h]
  simp

set_option maxRecDepth 100000 in
set_option maxHeartbeats 2000000 in
theorem spec_K (w : World) :
    Calls Tryd.prog 72 #[] w fun e w' => ∃ g cp, e = .returned (.slice (some ⟨g, 0, none⟩) 64 cp) ∧ OwnN w' w.heap.size g 64 cp K64 ∧ Below w.heap.size w w' := by
  go_enter Tryd.func72, Tryd.ntmps72
  go_wp2_with fail
  go_ret
  exact ⟨_, _, rfl, ownN_lit w _ K64 _ (Nat.le_refl _) rfl (by decide), (Below.refl _ _).alloc (Nat.le_refl _) _⟩

set_option maxRecDepth 100000 in
set_option maxHeartbeats 2000000 in
theorem spec_digest (b off len cap : Nat) (bs : List UInt8) (w : World) (h : Sl w (some ⟨b, off, none⟩) len bs) (hsz : len ≤ 1099511627776) :
    Calls Tryd.prog 44 #[.slice (some ⟨b, off, none⟩) len cap] w fun e w' => e = .returned (.string ⟨(digest bs).toArray⟩) ∧ Below w.heap.size w w' := by
  obtain ⟨i0, hi, hz0, hz1, hz2⟩ := info_parts info8
  have hl := h.1
  go_enter Tryd.func44, Tryd.ntmps44
  go_wp2_with fail
  refine (spec_padded b off len cap bs _ h hsz).mono ?_
  rintro e w1 ⟨gp, np, capp, rfl, hP, hB1⟩
  have HPL := Hid.mk' hP.1
  have hpb : np ≤ 1099511627776 + 100 := by rw [← hP.1, padded_length]; unfold zeros; omega
  have hmod : np % 64 = 0 := by rw [← hP.1]; exact padded_mod bs
  have hmx := hP.max
  go_wp2_with fail
  refine (spec_K _).mono ?_
  rintro e w2 ⟨gk, cpk, rfl, hK, hB2⟩
  have hbw1 := hB1.size
  have hba : Below w1.heap.size w1 (w1.alloc (.cells #[.int .i64 1779033703, .int .i64 3144134277, .int .i64 1013904242, .int .i64 2773480762, .int .i64 1359893119, .int .i64 2600822924, .int .i64 528734635, .int .i64 1541459225] 3)) := (Below.refl _ _).alloc (Nat.le_refl _) _
  have hH := (ownN_lit w1 w.heap.size H8 #[.int .i64 1779033703, .int .i64 3144134277, .int .i64 1013904242, .int .i64 2773480762, .int .i64 1359893119, .int .i64 2600822924, .int .i64 528734635, .int .i64 1541459225] hbw1 rfl (by decide)).below hB2
  have hK' := hK.mono (base' := w.heap.size) (Nat.le_trans hbw1 (le_alloc _ _ (Nat.le_refl _)))
  have hB12 : Below w1.heap.size w1 w2 := hba.trans (hB2.mono (le_alloc _ _ (Nat.le_refl _)))
  have hP2 := hP.below hB12
  have hBw : Below w.heap.size w w2 := hB1.trans (hB12.mono hbw1)
  have hgk := hK'.lt
  have hgp := hP2.lt
  clear hK hB2 hba hB12 hB1 hP
  go_wp2_with (at_builtin; fail)
  go_loopw [4, 6] (fun v i wr => ∃ (a g cp : Nat), a ≤ np ∧ a % 64 = 0 ∧ i = .int .i64 (a : Int) ∧ v = .slice (some ⟨g, 0, none⟩) 8 cp ∧ OwnN wr w.heap.size g 8 cp (hashTo (padded bs) (a / 64)) ∧ Below w2.heap.size w2 wr) (fun _ i _ => np - (intOf i).toNat)
  case atStart => exact ⟨0, w1.heap.size, 8, Nat.zero_le _, rfl, rfl, rfl, hH, Below.refl _ _⟩
  case round =>
    clear hH
    obtain ⟨a, g, cp, ha, ham, rfl, rfl, hO, hB⟩ := hrel
    have hbw : w.heap.size ≤ wr.heap.size := Nat.le_trans hBw.size hB.size
    by_cases hlt : a < np
    · have ha64 : a + 64 ≤ np := by omega
      have hS := sl_sub (hP2.below hB).sl a 64 ha64
      rw [Nat.zero_add] at hS
      have hK3 := hK'.below hB
      have HN : Hid (hashTo (padded bs) ((a + 64) / 64) = block K64 (hashTo (padded bs) (a / 64)) (((padded bs).drop a).take 64)) := by
        show _ = _
        rw [show (a + 64) / 64 = a / 64 + 1 by omega]
        show block _ _ (((padded bs).drop (64 * (a / 64))).take 64) = _
        rw [show 64 * (a / 64) = a by omega]
      have hlow := hashTo_lt (padded bs) (a / 64)
      go_wp2_with (at_builtin; fail)
      refine (spec_block g cp gp a _ gk cpk w.heap.size _ _ _ hO hlow hS hK3).mono ?_
      rintro e w4 ⟨g4, cp4, rfl, hO4, hB4⟩
      have hB5 : Below w2.heap.size w2 w4 := hB.trans (hB4.mono hB.size)
      rw [← HN.out] at hO4
      have HO4 := Hid.mk' (hO4.mono (base' := w.heap.size) hbw)
      clear hO4 hB4 hS hK3 hO hB HN hlow
      go_wp2_with (at_builtin; fail)
      go_roundw
      case rel => exact ⟨a + 64, g4, cp4, ha64, by omega, by go_num, rfl, HO4.out, hB5⟩
      case measure => simp [intOf]; omega
    · have HE : Hid (a = np) := by show _ = _; omega
      have hB' : Below w.heap.size w wr := hBw.trans (hB.mono hBw.size)
      have hx := hashTo_lt (padded bs) (np / 64)
      have hxl := hashTo_length (padded bs) (np / 64)
      have HD : Hid (digest bs = ((hashTo (padded bs) (np / 64)).map word4).flatten) := by show _ = _; unfold digest; rw [HPL.out]
      have hO' : OwnN wr w.heap.size g 8 cp (hashTo (padded bs) (np / 64)) := by rw [← HE.out]; exact hO
      generalize hashTo (padded bs) (np / 64) = H at *
      have HO := Hid.mk' hO'
      have HXL := Hid.mk' hxl
      clear hO hO' hB hP2 hK' hBw
      rename World => wp
      go_wp2_with (at_builtin; fail)
      go_loopw [7, 8] (fun v i wq => ∃ (k go cpo : Nat), k ≤ 8 ∧ i = .int .i64 (k : Int) ∧ v = .slice (some ⟨go, 0, none⟩) (4 * k) cpo ∧ Own wq wp.heap.size go (4 * k) cpo ((H.take k).map word4).flatten ∧ Below wp.heap.size wp wq) (fun _ i _ => 8 - (intOf i).toNat)
      case atStart => exact ⟨0, wp.heap.size, 0, Nat.zero_le _, rfl, rfl, own_made wp _ (Nat.le_refl _), (Below.refl _ _).alloc (Nat.le_refl _) _⟩
      case round =>
        obtain ⟨k, go, cpo, hk, rfl, rfl, hQ, hBq⟩ := hrel
        by_cases hlt8 : k < 8
        · have ck := (HO.out.below hBq).at k hlt8
          have hne : ¬ g = go := by have := HO.out.lt; have := hQ.lt; omega
          have hxk := getD_lt hx k
          have HF : Hid (((H.take k).map word4).flatten ++ word4 (H.getD k 0) = ((H.take (k + 1)).map word4).flatten) := take_word H k (by omega)
          have hc3 : 4 * k + 4 ≤ maxLen := by unfold maxLen; omega
          have hc4 : (4 * k + 4) * 1 ≤ 140737488355328 := by omega
          have hbq : wp.heap.size ≤ wr.heap.size := hBq.size
          generalize H.getD k 0 = x at *
          go_wp2_with (at_builtin; fail)
          go_region_held_law (fun w' => w'.cell? ⟨g, k, none⟩ = some (.int .i64 (x : Int))) (first | (go_keep) | (exact keep1 hgrow hne (by assumption))) ((refine step_append_own rfl (.tmp 32) (.tmp 56) 22 rfl wp.heap.size 5 i0 (.int .u8 0) 1 1 Tryd.underlying22 hi hz0 hz1 hz2 rfl (by decide) _ _ _ rfl (hQ.2.alloc _) ⟨wr.heap.size, 0, none⟩ 4 4 [_, _, _, _] rfl rfl (cells_four _ _ _ _ _ _) (four_oneCell _ _ _ _ _) hc3 hc4 (le_alloc _ _ hbq) ?_; intro v2 w5 hown hgrow hnn))
          have hgr2 : (wr.alloc (.cells #[.int .u8 (IntKind.u8.wrap ((x : Int) / 16777216)), .int .u8 (IntKind.u8.wrap ((x : Int) / 65536)), .int .u8 (IntKind.u8.wrap ((x : Int) / 256)), .int .u8 (IntKind.u8.wrap (x : Int))] 5)).drew.grownBy w5 (some go) := hgrow
          obtain ⟨g6, cp6, hv, hO6⟩ := own_app (m := 4) (ns := word4 x) hQ.1 rfl (four_val x) (by simpa using hnn) hown
          subst hv
          rw [HF.out] at hO6
          have hB6 : Below wp.heap.size wp w5 := (hBq.alloc hbq _).drew.grown hgr2 (le_alloc _ _ hbq) (fun k e => by cases e; exact hQ.lt.1)
          have HO6 := Hid.mk' hO6
          clear hown hgrow hgr2 hnn hO6 hQ hBq
          go_wp2_with (at_builtin; fail)
          go_roundw
          case rel => exact ⟨k + 1, g6, cp6, by omega, by go_num, rfl, HO6.out, hB6⟩
          case measure => simp [intOf]; omega
        · have HE8 : Hid (k = 8) := by show _ = _; omega
          have hcv := conv_own hQ
          go_wp2_with (at_builtin; fail)
          go_ret
          refine ⟨ret_str ?_, hB'.trans (hBq.mono hbw)⟩
          have hle : H.length ≤ k := by rw [HXL.out, HE8.out]; exact Nat.le_refl _
          rw [HD.out, List.take_of_length_le (by simpa using hle)]

end Go.Proofs.YtmdhkoiimffmlaaDoor.sha
