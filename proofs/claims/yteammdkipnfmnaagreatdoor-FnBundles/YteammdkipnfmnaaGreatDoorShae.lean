/- The specification's digest. The specification's leaves, nodes and tops. The laws' own helpers on slices of strings: what each call does. Writing a list of texts: the program's and the specification's PutTexts answer as one and the same function. The specification's seals: the digest of all roots. -/
import Derived.Test.YteammdkipnfmnaaGreatDoorShad
import Derived.Test.YteammdkipnfmnaaGreatDoorShac
import Derived.Deep.RegionHeld3
import Derived.Test.YteammdkipnfmnaaGreatDoorRows
import Derived.Test.YteammdkipnfmnaaGreatDoorShaa
import Derived.Laws.BytesArg
import Derived.Deep.RegionWith
import Derived.Test.YteammdkipnfmnaaGreatDoorShab
namespace Go.Proofs.YteammdkipnfmnaaGreatDoor.sha
open Go.RowKit Go.Proofs.YteammdkipnfmnaaGreatDoor.base Go.Proofs.YteammdkipnfmnaaGreatDoor.padmath
set_option linter.unusedVariables false
set_option linter.unusedSimpArgs false

theorem sl_sub {w : World} {b off len : Nat} {bs : List UInt8} (h : Sl w (some ⟨b, off, none⟩) len bs) (p n : Nat) (hp : p + n ≤ len) : Sl w (some ⟨b, off + p, none⟩) n ((bs.drop p).take n) := by
  have hl := h.1
  have hm := h.2.1
  refine ⟨by simp; omega, by omega, fun h0 => ⟨b, off + p, rfl, fun i hi => ?_⟩⟩
  simp at hi
  have := h.at (p + i) (by omega)
  rw [Nat.add_assoc, this]
  simp

theorem cells_four (w : World) (x y z u : Value) (t : TypeId) : ∀ j v, [x, y, z, u][j]? = some v → (w.alloc (.cells #[x, y, z, u] t)).cell? ((⟨w.heap.size, 0, none⟩ : Addr).add j) = some v := by
  intro j v hj
  match j, hj with
  | 0, hj => simp at hj; subst hj; simp [Addr.add]
  | 1, hj => simp at hj; subst hj; simp [Addr.add]
  | 2, hj => simp at hj; subst hj; simp [Addr.add]
  | 3, hj => simp at hj; subst hj; simp [Addr.add]
theorem four_oneCell (k : IntKind) (x y z a : Int) : ∀ u ∈ [Value.int k x, Value.int k y, Value.int k z, Value.int k a], u.oneCell' = true := by
  intro u hu; simp at hu; rcases hu with rfl | rfl | rfl | rfl <;> rfl
theorem wrap8_nat (n : Nat) : IntKind.u8.wrap (n : Int) = ((UInt8.ofNat n).toNat : Int) := by
  rw [byte_of]; simp [IntKind.wrap, IntKind.signed, IntKind.bits]
theorem four_val (x : Nat) : [Value.int .u8 (IntKind.u8.wrap ((x : Int) / 16777216)), Value.int .u8 (IntKind.u8.wrap ((x : Int) / 65536)), Value.int .u8 (IntKind.u8.wrap ((x : Int) / 256)), Value.int .u8 (IntKind.u8.wrap (x : Int))] = byteVals (word4 x) := by
  rw [show (x : Int) / 16777216 = ((x / 16777216 : Nat) : Int) by omega, show (x : Int) / 65536 = ((x / 65536 : Nat) : Int) by omega, show (x : Int) / 256 = ((x / 256 : Nat) : Int) by omega, wrap8_nat, wrap8_nat, wrap8_nat, wrap8_nat]
  rfl
theorem keep1 {W w2 : World} {b o g : Nat} {v : Value} (hg : W.grownBy w2 (some g)) (hne : ¬ b = g) (h : W.cell? ⟨b, o, none⟩ = some v) : w2.cell? ⟨b, o, none⟩ = some v := hg.cell h (by simpa using hne)
theorem take_word (H : List Nat) (k : Nat) (h : k < H.length) : ((H.take k).map word4).flatten ++ word4 (H.getD k 0) = ((H.take (k + 1)).map word4).flatten := by
  rw [List.take_add_one, List.map_append, List.flatten_append, List.getD_eq_getElem?_getD, List.getElem?_eq_getElem h]
  simp

set_option maxRecDepth 100000 in
set_option maxHeartbeats 2000000 in
theorem spec_K (w : World) :
    Calls Tryz.prog 88 #[] w fun e w' => ∃ g cp, e = .returned (.slice (some ⟨g, 0, none⟩) 64 cp) ∧ OwnN w' w.heap.size g 64 cp K64 ∧ Below w.heap.size w w' := by
  go_enter Tryz.func88, Tryz.ntmps88
  go_wp2_with fail
  go_ret
  exact ⟨_, _, rfl, ownN_lit w _ K64 _ (Nat.le_refl _) rfl (by decide), (Below.refl _ _).alloc (Nat.le_refl _) _⟩

set_option maxRecDepth 100000 in
set_option maxHeartbeats 2000000 in
theorem spec_digest (b off len cap : Nat) (bs : List UInt8) (w : World) (h : Sl w (some ⟨b, off, none⟩) len bs) (hsz : len ≤ 1099511627776) :
    Calls Tryz.prog 50 #[.slice (some ⟨b, off, none⟩) len cap] w fun e w' => e = .returned (.string ⟨(digest bs).toArray⟩) ∧ Below w.heap.size w w' := by
  obtain ⟨i0, hi, hz0, hz1, hz2⟩ := info_parts info8
  have hl := h.1
  go_enter Tryz.func50, Tryz.ntmps50
  go_wp2_with fail
  refine (spec_padded b off len cap bs _ h hsz).mono ?_
  rintro e w1 ⟨gp, np, capp, rfl, hP, hB1⟩
  have HPL := Hid.mk' hP.1
  have hpb : np ≤ 1099511627776 + 100 := by rw [← hP.1, padded_length]; unfold zeros; omega
  have hmod : np % 64 = 0 := by rw [← hP.1]; exact padded_mod bs
  have hmx := hP.max
  go_wp2_with fail
  refine (spec_K _).mono ?_
  rintro e w2 ⟨gk, cpk, rfl, hK, hB2⟩
  have hbw1 := hB1.size
  have hba : Below w1.heap.size w1 (w1.alloc (.cells #[.int .i64 1779033703, .int .i64 3144134277, .int .i64 1013904242, .int .i64 2773480762, .int .i64 1359893119, .int .i64 2600822924, .int .i64 528734635, .int .i64 1541459225] 3)) := (Below.refl _ _).alloc (Nat.le_refl _) _
  have hH := (ownN_lit w1 w.heap.size H8 #[.int .i64 1779033703, .int .i64 3144134277, .int .i64 1013904242, .int .i64 2773480762, .int .i64 1359893119, .int .i64 2600822924, .int .i64 528734635, .int .i64 1541459225] hbw1 rfl (by decide)).below hB2
  have hK' := hK.mono (base' := w.heap.size) (Nat.le_trans hbw1 (le_alloc _ _ (Nat.le_refl _)))
  have hB12 : Below w1.heap.size w1 w2 := hba.trans (hB2.mono (le_alloc _ _ (Nat.le_refl _)))
  have hP2 := hP.below hB12
  have hBw : Below w.heap.size w w2 := hB1.trans (hB12.mono hbw1)
  have hgk := hK'.lt
  have hgp := hP2.lt
  clear hK hB2 hba hB12 hB1 hP
  go_wp2_with (at_builtin; fail)
  go_loopw [4, 6] (fun v i wr => ∃ (a g cp : Nat), a ≤ np ∧ a % 64 = 0 ∧ i = .int .i64 (a : Int) ∧ v = .slice (some ⟨g, 0, none⟩) 8 cp ∧ OwnN wr w.heap.size g 8 cp (hashTo (padded bs) (a / 64)) ∧ Below w2.heap.size w2 wr) (fun _ i _ => np - (intOf i).toNat)
  case atStart => exact ⟨0, w1.heap.size, 8, Nat.zero_le _, rfl, rfl, rfl, hH, Below.refl _ _⟩
  case round =>
    clear hH
    obtain ⟨a, g, cp, ha, ham, rfl, rfl, hO, hB⟩ := hrel
    have hbw : w.heap.size ≤ wr.heap.size := Nat.le_trans hBw.size hB.size
    by_cases hlt : a < np
    · have ha64 : a + 64 ≤ np := by omega
      have hS := sl_sub (hP2.below hB).sl a 64 ha64
      rw [Nat.zero_add] at hS
      have hK3 := hK'.below hB
      have HN : Hid (hashTo (padded bs) ((a + 64) / 64) = block K64 (hashTo (padded bs) (a / 64)) (((padded bs).drop a).take 64)) := by
        show _ = _
        rw [show (a + 64) / 64 = a / 64 + 1 by omega]
        show block _ _ (((padded bs).drop (64 * (a / 64))).take 64) = _
        rw [show 64 * (a / 64) = a by omega]
      have hlow := hashTo_lt (padded bs) (a / 64)
      go_wp2_with (at_builtin; fail)
      refine (spec_block g cp gp a _ gk cpk w.heap.size _ _ _ hO hlow hS hK3).mono ?_
      rintro e w4 ⟨g4, cp4, rfl, hO4, hB4⟩
      have hB5 : Below w2.heap.size w2 w4 := hB.trans (hB4.mono hB.size)
      rw [← HN.out] at hO4
      have HO4 := Hid.mk' (hO4.mono (base' := w.heap.size) hbw)
      clear hO4 hB4 hS hK3 hO hB HN hlow
      go_wp2_with (at_builtin; fail)
      go_roundw
      case rel => exact ⟨a + 64, g4, cp4, ha64, by omega, by go_num, rfl, HO4.out, hB5⟩
      case measure => simp [intOf]; omega
    · have HE : Hid (a = np) := by show _ = _; omega
      have hB' : Below w.heap.size w wr := hBw.trans (hB.mono hBw.size)
      have hx := hashTo_lt (padded bs) (np / 64)
      have hxl := hashTo_length (padded bs) (np / 64)
      have HD : Hid (digest bs = ((hashTo (padded bs) (np / 64)).map word4).flatten) := by show _ = _; unfold digest; rw [HPL.out]
      have hO' : OwnN wr w.heap.size g 8 cp (hashTo (padded bs) (np / 64)) := by rw [← HE.out]; exact hO
      generalize hashTo (padded bs) (np / 64) = H at *
      have HO := Hid.mk' hO'
      have HXL := Hid.mk' hxl
      clear hO hO' hB hP2 hK' hBw
      rename World => wp
      go_wp2_with (at_builtin; fail)
      go_loopw [7, 8] (fun v i wq => ∃ (k go cpo : Nat), k ≤ 8 ∧ i = .int .i64 (k : Int) ∧ v = .slice (some ⟨go, 0, none⟩) (4 * k) cpo ∧ Own wq wp.heap.size go (4 * k) cpo ((H.take k).map word4).flatten ∧ Below wp.heap.size wp wq) (fun _ i _ => 8 - (intOf i).toNat)
      case atStart => exact ⟨0, wp.heap.size, 0, Nat.zero_le _, rfl, rfl, own_made wp _ (Nat.le_refl _), (Below.refl _ _).alloc (Nat.le_refl _) _⟩
      case round =>
        obtain ⟨k, go, cpo, hk, rfl, rfl, hQ, hBq⟩ := hrel
        by_cases hlt8 : k < 8
        · have ck := (HO.out.below hBq).at k hlt8
          have hne : ¬ g = go := by have := HO.out.lt; have := hQ.lt; omega
          have hxk := getD_lt hx k
          have HF : Hid (((H.take k).map word4).flatten ++ word4 (H.getD k 0) = ((H.take (k + 1)).map word4).flatten) := take_word H k (by omega)
          have hc3 : 4 * k + 4 ≤ maxLen := by unfold maxLen; omega
          have hc4 : (4 * k + 4) * 1 ≤ 140737488355328 := by omega
          have hbq : wp.heap.size ≤ wr.heap.size := hBq.size
          generalize H.getD k 0 = x at *
          go_wp2_with (at_builtin; fail)
          go_region_held_law (fun w' => w'.cell? ⟨g, k, none⟩ = some (.int .i64 (x : Int))) (first | (go_keep) | (exact keep1 hgrow hne (by assumption))) ((refine step_append_own rfl (.tmp 32) (.tmp 56) 22 rfl wp.heap.size 5 i0 (.int .u8 0) 1 1 Tryz.underlying22 hi hz0 hz1 hz2 rfl (by decide) _ _ _ rfl (hQ.2.alloc _) ⟨wr.heap.size, 0, none⟩ 4 4 [_, _, _, _] rfl rfl (cells_four _ _ _ _ _ _) (four_oneCell _ _ _ _ _) hc3 hc4 (le_alloc _ _ hbq) ?_; intro v2 w5 hown hgrow hnn))
          have hgr2 : (wr.alloc (.cells #[.int .u8 (IntKind.u8.wrap ((x : Int) / 16777216)), .int .u8 (IntKind.u8.wrap ((x : Int) / 65536)), .int .u8 (IntKind.u8.wrap ((x : Int) / 256)), .int .u8 (IntKind.u8.wrap (x : Int))] 5)).drew.grownBy w5 (some go) := hgrow
          obtain ⟨g6, cp6, hv, hO6⟩ := own_app (m := 4) (ns := word4 x) hQ.1 rfl (four_val x) (by simpa using hnn) hown
          subst hv
          rw [HF.out] at hO6
          have hB6 : Below wp.heap.size wp w5 := (hBq.alloc hbq _).drew.grown hgr2 (le_alloc _ _ hbq) (fun k e => by cases e; exact hQ.lt.1)
          have HO6 := Hid.mk' hO6
          clear hown hgrow hgr2 hnn hO6 hQ hBq
          go_wp2_with (at_builtin; fail)
          go_roundw
          case rel => exact ⟨k + 1, g6, cp6, by omega, by go_num, rfl, HO6.out, hB6⟩
          case measure => simp [intOf]; omega
        · have HE8 : Hid (k = 8) := by show _ = _; omega
          have hcv := conv_own hQ
          go_wp2_with (at_builtin; fail)
          go_ret
          refine ⟨ret_str ?_, hB'.trans (hBq.mono hbw)⟩
          have hle : H.length ≤ k := by rw [HXL.out, HE8.out]; exact Nat.le_refl _
          rw [HD.out, List.take_of_length_le (by simpa using hle)]

end Go.Proofs.YteammdkipnfmnaaGreatDoor.sha

namespace Go.Proofs.YteammdkipnfmnaaGreatDoor.tree
open Go Go.RowKit Go.Proofs.YteammdkipnfmnaaGreatDoor.base Go.Proofs.YteammdkipnfmnaaGreatDoor.pairs Go.Proofs.YteammdkipnfmnaaGreatDoor.puttext Go.Proofs.YteammdkipnfmnaaGreatDoor.putnum
set_option linter.unusedVariables false
set_option linter.unusedSimpArgs false

def lim (p : Pr) : Prop := p.1.size ≤ 34359738368 ∧ p.2.size ≤ 34359738368
theorem own_one (w : World) (u : UInt8) (x : Int) (hx : x = (u.toNat : Int)) (base : Nat) (hb : base ≤ w.heap.size) : Own (w.alloc (.cells #[.int .u8 x] 5)) base w.heap.size 1 1 [u] := by
  subst hx
  exact own_of_row rfl (by decide) hb (heap_alloc_new w _)
theorem two_cells {w w' : World} {b o1 o2 : Nat} {v1 v2 : Value} (hb : Below w.heap.size w w') (h : w.cell? ⟨b, o1, none⟩ = some v1 ∧ w.cell? ⟨b, o2, none⟩ = some v2) :
    w'.cell? ⟨b, o1, none⟩ = some v1 ∧ w'.cell? ⟨b, o2, none⟩ = some v2 :=
  ⟨(hb.cell (p := ⟨b, o1, none⟩) (World.block_lt_of_cell? w _ h.1)).trans h.1, (hb.cell (p := ⟨b, o2, none⟩) (World.block_lt_of_cell? w _ h.2)).trans h.2⟩

set_option maxRecDepth 100000 in
set_option maxHeartbeats 1000000 in
theorem spec_l4Leaf (p : Pr) (w : World) (hp : lim p) :
    Calls Tryz.prog 129 #[.agg #[.string p.1, .string p.2]] w fun e w' =>
      ∃ g' n' cap', e = .returned (.slice (some ⟨g', 0, none⟩) n' cap') ∧ Own w' w.heap.size g' n' cap' (leafB p) ∧ Below w.heap.size w w' := by
  have hp1 := hp.1
  have hp2 := hp.2
  obtain ⟨w0, hw0⟩ : ∃ w0, w0 = w.alloc (.cells #[.string p.1, .string p.2] 34) := ⟨_, rfl⟩
  have hba : Below w.heap.size w w0 := by rw [hw0]; exact (Below.refl _ _).alloc (Nat.le_refl _) _
  have hc1 : w0.cell? ⟨w.heap.size, 0, none⟩ = some (.string p.1) := by rw [hw0]; simp
  have hc2 : w0.cell? ⟨w.heap.size, 1, none⟩ = some (.string p.2) := by rw [hw0]; simp
  have hO : Own (w0.alloc (.cells #[.int .u8 0] 5)).drew w.heap.size w0.heap.size 1 1 [0] := own_one w0 0 0 rfl w.heap.size hba.size
  go_enter Tryz.func129, Tryz.ntmps129
  go_wp2_with fail
  rw [← hw0]
  clear hw0
  go_region_held3 (fun w' => w'.cell? ⟨w.heap.size, 0, none⟩ = some (.string p.1) ∧ w'.cell? ⟨w.heap.size, 1, none⟩ = some (.string p.2)) (first | (exact two_cells hb6 (by assumption)) | (exact two_cells hb5 (by assumption)) | (go_keep)) (first | (go_at_call 105; refine (spec_text g5 0 n5 cp5 ([0] ++ textBytes p.1) p.2 _ hO5.sl (by have := hO5.1; have := textBytes_length p.1; simp at *; omega) (by omega)).mono ?_; rintro e w6 ⟨g6, n6, cp6, rfl, hO6, hb6⟩) | (go_at_call 105; refine (spec_text w0.heap.size 0 1 1 [0] p.1 _ hO.sl (by omega) (by omega)).mono ?_; rintro e w5 ⟨g5, n5, cp5, rfl, hO5, hb5⟩))
  have hb1 : Below w.heap.size w (w0.alloc (.cells #[.int .u8 0] 5)).drew := (hba.alloc hba.size _).drew
  have hb2 : Below w.heap.size w w5 := hb1.trans (hb5.mono hb1.size)
  have hb3 : Below w.heap.size w w6 := hb2.trans (hb6.mono hb2.size)
  have hO7 : Own w6 w.heap.size g6 n6 cp6 (leafB p) := hO6.mono hb2.size
  clear hO hO5 hb5 hO6 hb6 hb1 hb2 hc1 hc2
  have HO := Hid.mk' hO7
  clear hO7
  go_wp2_with fail
  go_ret
  exact ⟨g6, n6, cp6, rfl, HO.out, hb3⟩

set_option maxHeartbeats 1000000 in
theorem spec_leafOf (p : Pr) (w : World) (hp : lim p) :
    Calls Tryz.prog 117 #[.agg #[.string p.1, .string p.2]] w fun e w' => e = .returned (.string (leafOf p)) ∧ Below w.heap.size w w' := by
  have hba : Below w.heap.size w (w.alloc (.cells #[.string p.1, .string p.2] 34)) := (Below.refl _ _).alloc (Nat.le_refl _) _
  have hlen := leafB_length p
  have hp1 := hp.1
  have hp2 := hp.2
  have HL := Hid.mk' (spec_l4Leaf p (w.alloc (.cells #[.string p.1, .string p.2] 34)) hp)
  go_enter Tryz.func117, Tryz.ntmps117
  go_wp2_with fail
  refine HL.out.mono ?_
  rintro e w1 ⟨g, n, cp, rfl, hO, hb1⟩
  have hB1 : Below w.heap.size w w1 := hba.trans (hb1.mono hba.size)
  have hn : n ≤ 1099511627776 := by have := hO.1; omega
  have HD := Hid.mk' (sha.spec_digest g 0 n cp (leafB p) w1 hO.sl hn)
  clear hO hb1 hba
  go_wp2_with fail
  refine HD.out.mono ?_
  rintro e w2 ⟨rfl, hb2⟩
  have hB2 : Below w.heap.size w w2 := hB1.trans (hb2.mono hB1.size)
  go_wp2_with fail
  go_ret
  exact ⟨rfl, hB2⟩

set_option maxRecDepth 100000 in
set_option maxHeartbeats 1000000 in
theorem spec_l4Node (a b : ByteArray) (w : World) (ha : a.size ≤ 137438953472) (hb : b.size ≤ 137438953472) :
    Calls Tryz.prog 134 #[.string a, .string b] w fun e w' =>
      ∃ g' n' cap', e = .returned (.slice (some ⟨g', 0, none⟩) n' cap') ∧ Own w' w.heap.size g' n' cap' (nodeB a b) ∧ Below w.heap.size w w' := by
  obtain ⟨i0, hi, hz0, hz1, hz2⟩ := info_parts info8
  have hO0 := own_one w 1 1 rfl w.heap.size (Nat.le_refl _)
  have hB0 : Below w.heap.size w (w.alloc (.cells #[.int .u8 1] 5)) := (Below.refl _ _).alloc (Nat.le_refl _) _
  have hc3 : 1 + a.size ≤ maxLen := by unfold maxLen; omega
  have hc4 : 1 + a.size ≤ 140737488355328 := by omega
  go_enter Tryz.func134, Tryz.ntmps134
  go_wp2_with (at_builtin; refine Lib.wpList_append_own_string _ rfl (.tmp 5) (.tmp 6) 22 9 rfl w.heap.size 5 i0 Tryz.underlying22 Tryz.underlying9 hi hz0 hz1 hz2 _ _ _ rfl hO0.2 a rfl hc3 hc4 hB0.size ?_)
  intro v1 w1 hown hgrow hnn
  have hnn' : ¬ v1 = .slice none 0 0 := by simpa using hnn
  rw [strCells_eq] at hown
  obtain ⟨g1, cap1, hv, hO1⟩ := own_app (m := a.size) (ns := a.data.toList) hO0.1 (size_toList a) rfl hnn' hown
  subst hv
  have hB1 : Below w.heap.size w w1 := hB0.grown hgrow hB0.size (fun k e => by simp [Value.ownBlock] at e; omega)
  have hc5 : 1 + a.size + b.size ≤ maxLen := by unfold maxLen; omega
  have hc6 : 1 + a.size + b.size ≤ 140737488355328 := by omega
  have hs1 := hB1.size
  clear hown hgrow hnn hnn' hO0 hB0 hc3 hc4
  go_wp2_with (at_builtin; refine Lib.wpList_append_own_string _ rfl (.tmp 7) (.tmp 8) 22 9 rfl w.heap.size 5 i0 Tryz.underlying22 Tryz.underlying9 hi hz0 hz1 hz2 _ _ _ rfl hO1.2 b rfl hc5 hc6 hs1 ?_)
  intro v2 w2 hown hgrow hnn
  have hnn' : ¬ v2 = .slice none 0 0 := by simpa using hnn
  rw [strCells_eq] at hown
  obtain ⟨g2, cap2, hv, hO2⟩ := own_app (m := b.size) (ns := b.data.toList) hO1.1 (size_toList b) rfl hnn' hown
  subst hv
  have hB2 : Below w.heap.size w w2 := hB1.grown hgrow hs1 (fun k e => by simp [Value.ownBlock] at e; have := hO1.lt; omega)
  have HO := Hid.mk' hO2
  clear hown hgrow hnn hnn' hO1 hB1 hO2
  go_wp2_with fail
  go_ret
  exact ⟨g2, _, cap2, rfl, HO.out, hB2⟩

set_option maxHeartbeats 1000000 in
theorem spec_nodeOf (a b : ByteArray) (w : World) (ha : a.size ≤ 137438953472) (hb : b.size ≤ 137438953472) :
    Calls Tryz.prog 119 #[.string a, .string b] w fun e w' => e = .returned (.string (nodeOf a b)) ∧ Below w.heap.size w w' := by
  have hlen := nodeB_length a b
  have HL := Hid.mk' (spec_l4Node a b w ha hb)
  go_enter Tryz.func119, Tryz.ntmps119
  go_wp2_with fail
  refine HL.out.mono ?_
  rintro e w1 ⟨g, n, cp, rfl, hO, hB1⟩
  have hn : n ≤ 1099511627776 := by have := hO.1; omega
  have HD := Hid.mk' (sha.spec_digest g 0 n cp (nodeB a b) w1 hO.sl hn)
  clear hO
  go_wp2_with fail
  refine HD.out.mono ?_
  rintro e w2 ⟨rfl, hb2⟩
  have hB2 : Below w.heap.size w w2 := hB1.trans (hb2.mono hB1.size)
  go_wp2_with fail
  go_ret
  exact ⟨rfl, hB2⟩

set_option maxRecDepth 100000 in
set_option maxHeartbeats 1000000 in
theorem spec_l4Top (N : Int) (x : ByteArray) (w : World) (hN : (Lit.int .i64 N).wf = true) (hx : x.size ≤ 137438953472) :
    Calls Tryz.prog 92 #[.int .i64 N, .string x] w fun e w' =>
      ∃ g' n' cap', e = .returned (.slice (some ⟨g', 0, none⟩) n' cap') ∧ Own w' w.heap.size g' n' cap' (topB N x) ∧ Below w.heap.size w w' := by
  obtain ⟨i0, hi, hz0, hz1, hz2⟩ := info_parts info8
  have hO0 := own_one w 2 2 rfl w.heap.size (Nat.le_refl _)
  have hB0 : Below w.heap.size w (w.alloc (.cells #[.int .u8 2] 5)) := (Below.refl _ _).alloc (Nat.le_refl _) _
  have HP := Hid.mk' (spec_put w.heap.size 0 1 1 [2] N _ hO0.sl hN (by omega))
  have hnl := numBytes_length N
  go_enter Tryz.func92, Tryz.ntmps92
  go_wp2_with (at_builtin; fail)
  refine HP.out.mono ?_
  rintro e w1 ⟨g1, n1, cap1, rfl, hO1, hb1⟩
  have hB1 : Below w.heap.size w w1 := hB0.trans (hb1.mono hB0.size)
  have hO1' := hO1.mono (base' := w.heap.size) hB0.size
  have hn1 : n1 ≤ 6 := by have := hO1.1; simp at this; omega
  have hc5 : n1 + x.size ≤ maxLen := by unfold maxLen; omega
  have hc6 : n1 + x.size ≤ 140737488355328 := by omega
  have hs1 := hB1.size
  clear hO1 hb1 hO0 hB0 HP hnl
  go_wp2_with (at_builtin; refine Lib.wpList_append_own_string _ rfl (.tmp 7) (.tmp 8) 22 9 rfl w.heap.size 5 i0 Tryz.underlying22 Tryz.underlying9 hi hz0 hz1 hz2 _ _ _ rfl hO1'.2 x rfl hc5 hc6 hs1 ?_)
  intro v2 w2 hown hgrow hnn
  have hnn' : ¬ v2 = .slice none 0 0 := by simpa using hnn
  rw [strCells_eq] at hown
  obtain ⟨g2, cap2, hv, hO2⟩ := own_app (m := x.size) (ns := x.data.toList) hO1'.1 (size_toList x) rfl hnn' hown
  subst hv
  have hB2 : Below w.heap.size w w2 := hB1.grown hgrow hs1 (fun k e => by simp [Value.ownBlock] at e; have := hO1'.lt; omega)
  have HO := Hid.mk' hO2
  clear hown hgrow hnn hnn' hO1' hB1 hO2
  go_wp2_with fail
  go_ret
  exact ⟨g2, _, cap2, rfl, HO.out, hB2⟩

set_option maxHeartbeats 1000000 in
theorem spec_half (n : Nat) (w : World) (h : 2 ≤ n) (h64 : n ≤ 64) :
    Calls Tryz.prog 118 #[.int .i64 (n : Int)] w fun e w' => e = .returned (.int .i64 (half n : Int)) ∧ w' = w := by
  go_enter Tryz.func118, Tryz.ntmps118
  go_wp2
  go_loop [3] (fun v => ∃ k : Nat, v = .int .i64 (k : Int) ∧ (k = 1 ∨ k = 2 ∨ k = 4 ∨ k = 8 ∨ k = 16 ∨ k = 32) ∧ k < n) (fun v => n - (intOf v).toNat)
  case atStart => exact ⟨1, rfl, by omega, by omega⟩
  case round =>
    obtain ⟨k, rfl, hk, hlt⟩ := hrel
    by_cases h2 : 2 * k < n
    · have hk2 : 2 * k = 1 ∨ 2 * k = 2 ∨ 2 * k = 4 ∨ 2 * k = 8 ∨ 2 * k = 16 ∨ 2 * k = 32 := by omega
      have h2i : 2 * (k : Int) < (n : Int) := by omega
      have hk0 : 1 ≤ k := by omega
      clear hk
      go_wp2
      go_round
      case rel => exact ⟨2 * k, by go_num, hk2, h2⟩
      case measure => simp [intOf]; omega
    · have HE : Hid (k = half n) := half_eq n k h h64 hk hlt (by omega)
      have h2i : ¬ 2 * (k : Int) < (n : Int) := by omega
      clear hk
      go_wp2
      go_ret
      exact ⟨ret_int (by rw [HE.out]), rfl⟩

end Go.Proofs.YteammdkipnfmnaaGreatDoor.tree

namespace Go.Proofs.YteammdkipnfmnaaGreatDoor.helps
open Go.RowKit Go.Proofs.YteammdkipnfmnaaGreatDoor.base Go.Proofs.YteammdkipnfmnaaGreatDoor.help
set_option linter.unusedVariables false
set_option linter.unusedSimpArgs false

end Go.Proofs.YteammdkipnfmnaaGreatDoor.helps

namespace Go.Proofs.YteammdkipnfmnaaGreatDoor.puttexts
open Go.RowKit Go.Proofs.YteammdkipnfmnaaGreatDoor.base Go.Proofs.YteammdkipnfmnaaGreatDoor.help Go.Proofs.YteammdkipnfmnaaGreatDoor.helps Go.Proofs.YteammdkipnfmnaaGreatDoor.putnum Go.Proofs.YteammdkipnfmnaaGreatDoor.puttext
set_option linter.unusedVariables false
set_option linter.unusedSimpArgs false

def listBytes (ss : List ByteArray) : List UInt8 := numBytes (ss.length : Int) ++ textsBytes ss
def sum (ss : List ByteArray) : Nat := (ss.map ByteArray.size).sum
theorem size_le_sum (ss : List ByteArray) : ∀ s ∈ ss, s.size ≤ sum ss := by
  induction ss with
  | nil => intro s h; exact absurd h List.not_mem_nil
  | cons x l ih =>
    intro s h
    simp only [sum, List.map_cons, List.sum_cons] at *
    rcases List.mem_cons.1 h with h | h
    · subst h; omega
    · have := ih s h; omega
theorem textsBytes_sum (ss : List ByteArray) : (textsBytes ss).length ≤ sum ss + 5 * ss.length := by
  induction ss with
  | nil => simp [textsBytes]
  | cons x l ih =>
    have := textBytes_length x
    simp only [textsBytes, sum, List.map_cons, List.flatten_cons, List.sum_cons, List.length_append, List.length_cons] at *
    omega

set_option maxRecDepth 100000 in
set_option maxHeartbeats 1000000 in
theorem spec_texts (b off len cap : Nat) (bs : List UInt8) (a : Option Addr) (len2 cap2 : Nat) (ss : List ByteArray) (w : World) (h : Sl w (some ⟨b, off, none⟩) len bs) (hS : SlS w a len2 ss) (hsz : len ≤ 134217728) (hs : ss.length + sum ss ≤ 134217728) :
    Calls Tryz.prog 104 #[.slice (some ⟨b, off, none⟩) len cap, .slice a len2 cap2] w fun e w' =>
      ∃ g' n' cap', e = .returned (.slice (some ⟨g', 0, none⟩) n' cap') ∧ Own w' w.heap.size g' n' cap' (bs ++ listBytes ss) ∧ Below w.heap.size w w' := by
  have hl := h.1
  obtain ⟨hl2, hm, hsm, hc⟩ := id hS
  subst hl2
  unfold maxLen at hm
  have hwf : (Lit.int .i64 (ss.length : Int)).wf = true := WalkArith.wf_i64 (by omega)
  have hnb := numBytes_length (ss.length : Int)
  go_enter Tryz.func104, Tryz.ntmps104
  go_wp2_with fail
  refine (spec_put b off len cap bs _ _ h hwf (by omega)).mono ?_
  rintro e w1 ⟨g1, n1, cap1, rfl, hO1, hB1⟩
  go_wp2_with fail
  go_loopw [5, 6] (fun v i wr => ∃ (k g' n' cap' : Nat), v = .slice (some ⟨g', 0, none⟩) n' cap' ∧ i = .int .i64 (k : Int) ∧ k ≤ ss.length ∧ Own wr w.heap.size g' n' cap' (bs ++ numBytes (ss.length : Int) ++ textsBytes (ss.take k)) ∧ Below w.heap.size w wr) (fun _ i _ => ss.length - (intOf i).toNat)
  case atStart => exact ⟨0, g1, n1, cap1, rfl, rfl, Nat.zero_le _, by simpa [textsBytes] using hO1, hB1⟩
  case round =>
    obtain ⟨k, g', n', cap', rfl, rfl, hk, hO, hB⟩ := hrel
    clear hO1 hB1
    by_cases hlt : k < ss.length
    · obtain ⟨bb, off2, ha, hcl⟩ := hc (by omega)
      subst ha
      have hbb : bb < w.heap.size := World.block_lt_of_cell? w _ (hcl k hlt)
      generalize hsk : ss[k] = s
      have c1 : wr.cell? ⟨bb, off2 + k, none⟩ = some (.string s) := by rw [hB.cell (p := ⟨bb, off2 + k, none⟩) hbb, hcl k hlt, hsk]
      have hT := textsBytes_take ss k hlt
      rw [hsk] at hT
      have hs1 : s.size ≤ sum ss := by rw [← hsk]; exact size_le_sum ss _ (List.getElem_mem hlt)
      have hle := textsBytes_le ss k
      have hle2 := textsBytes_sum ss
      have hn' : n' ≤ 549755813888 := by have := hO.1; simp only [List.length_append] at this; omega
      have hi1 : (k : Int) < (ss.length : Int) := by omega
      have HT := Hid.mk' hT
      clear hT hle hle2 hcl hc hsk hS hsm
      go_wp2_with fail
      refine (spec_text g' 0 n' cap' _ s _ hO.sl hn' (by omega)).mono ?_
      rintro e w2 ⟨g2, n2, cap2', rfl, hO2, hB2⟩
      have HO2 : Hid (Own w2 w.heap.size g2 n2 cap2' (bs ++ numBytes (ss.length : Int) ++ textsBytes (ss.take (k + 1)))) := by
        show Own w2 w.heap.size g2 n2 cap2' _
        rw [HT.out, ← List.append_assoc]
        exact hO2.mono hB.size
      have hB3 := hB.trans (hB2.mono hB.size)
      clear hO hO2 hB hB2
      go_wp2_with fail
      go_roundw
      case rel => exact ⟨k + 1, g2, _, cap2', rfl, by go_num, by omega, HO2.out, hB3⟩
      case measure => simp [intOf]; omega
    · have e : k = ss.length := by omega
      go_wp2_with fail
      go_ret
      subst e
      rw [List.take_length, List.append_assoc] at hO
      exact ⟨g', n', cap', rfl, hO, hB⟩

end Go.Proofs.YteammdkipnfmnaaGreatDoor.puttexts

namespace Go.Proofs.YteammdkipnfmnaaGreatDoor.seals
open Go Go.RowKit Go.Proofs.YteammdkipnfmnaaGreatDoor.base Go.Proofs.YteammdkipnfmnaaGreatDoor.pairs Go.Proofs.YteammdkipnfmnaaGreatDoor.tree Go.Proofs.YteammdkipnfmnaaGreatDoor.putnum Go.Proofs.YteammdkipnfmnaaGreatDoor.puttext Go.Proofs.YteammdkipnfmnaaGreatDoor.puttexts
set_option linter.unusedVariables false
set_option linter.unusedSimpArgs false

def superB (no : Int) (prev : ByteArray) (roots : List ByteArray) : List UInt8 := [3] ++ numBytes no ++ textBytes prev ++ listBytes roots
def superOf (no : Int) (prev : ByteArray) (roots : List ByteArray) : ByteArray := dg (superB no prev roots)
theorem listBytes_length (ss : List ByteArray) : (listBytes ss).length ≤ sum ss + 5 * ss.length + 5 := by
  have h1 := textsBytes_sum ss
  have h2 := numBytes_length (ss.length : Int)
  simp [listBytes]
  omega
set_option maxRecDepth 100000 in
set_option maxHeartbeats 1000000 in
theorem spec_l15Super (no : Int) (prev : ByteArray) (a : Option Addr) (n cap : Nat) (roots : List ByteArray) (w : World) (h : SlS w a n roots) (hno : (Lit.int .i64 no).wf = true) (hp : prev.size ≤ 1048576) (hr : roots.length + sum roots ≤ 1048576) :
    Calls Tryz.prog 68 #[.int .i64 no, .string prev, .slice a n cap] w fun e w' =>
      ∃ g' n' cap', e = .returned (.slice (some ⟨g', 0, none⟩) n' cap') ∧ Own w' w.heap.size g' n' cap' (superB no prev roots) ∧ Below w.heap.size w w' := by
  obtain ⟨w0, hw0⟩ : ∃ w0, w.alloc (.cells #[.int .u8 3] 5) = w0 := ⟨_, rfl⟩
  have hb0 : Below w.heap.size w w0 := by rw [← hw0]; exact (Below.refl _ _).alloc (Nat.le_refl _) _
  have hO : Own w0 w.heap.size w.heap.size 1 1 [3] := by rw [← hw0]; exact own_one w 3 3 rfl w.heap.size (Nat.le_refl _)
  have HN := Hid.mk' (spec_put w.heap.size 0 1 1 [3] no w0 hO.sl hno (by omega))
  have HW := Hid.mk' hw0
  have hnl := numBytes_length no
  have htl := textBytes_length prev
  clear hw0 hO
  go_enter Tryz.func68, Tryz.ntmps68
  go_wp2_with fail
  rw [HW.out]
  refine HN.out.mono ?_
  rintro e w1 ⟨g1, n1, c1, rfl, hO1, hb1⟩
  have hB1 := hb0.trans (hb1.mono hb0.size)
  have HT := Hid.mk' (spec_text g1 0 n1 c1 ([3] ++ numBytes no) prev w1 hO1.sl (by have := hO1.1; simp at this; omega) (by omega))
  clear HN HW hO1
  go_wp2_with fail
  refine HT.out.mono ?_
  rintro e w2 ⟨g2, n2, c2, rfl, hO2, hb2⟩
  have hB2 := hB1.trans (hb2.mono hB1.size)
  have HS := Hid.mk' (spec_texts g2 0 n2 c2 ([3] ++ numBytes no ++ textBytes prev) a n cap roots w2 hO2.sl (h.below hB2) (by have := hO2.1; simp at this; omega) (by omega))
  clear HT hO2
  go_wp2_with fail
  refine HS.out.mono ?_
  rintro e w3 ⟨g3, n3, c3, rfl, hO3, hb3⟩
  have HO := Hid.mk' (hO3.mono hB2.size)
  have hB3 := hB2.trans (hb3.mono hB2.size)
  clear HS hO3
  go_wp2_with fail
  go_ret
  exact ⟨g3, n3, c3, rfl, HO.out, hB3⟩
set_option maxHeartbeats 1000000 in
theorem spec_superOf (no : Int) (prev : ByteArray) (a : Option Addr) (n cap : Nat) (roots : List ByteArray) (w : World) (h : SlS w a n roots) (hno : (Lit.int .i64 no).wf = true) (hp : prev.size ≤ 1048576) (hr : roots.length + sum roots ≤ 1048576) :
    Calls Tryz.prog 29 #[.int .i64 no, .string prev, .slice a n cap] w fun e w' => e = .returned (.string (superOf no prev roots)) ∧ Below w.heap.size w w' := by
  have HL := Hid.mk' (spec_l15Super no prev a n cap roots w h hno hp hr)
  have hnl := numBytes_length no
  have htl := textBytes_length prev
  have hll := listBytes_length roots
  clear h
  go_enter Tryz.func29, Tryz.ntmps29
  go_wp2_with fail
  refine HL.out.mono ?_
  rintro e w1 ⟨g, m, cp, rfl, hO, hb1⟩
  have hn : m ≤ 1099511627776 := by have := hO.1; simp [superB] at this; omega
  have HD := Hid.mk' (sha.spec_digest g 0 m cp (superB no prev roots) w1 hO.sl hn)
  clear hO HL
  go_wp2_with fail
  refine HD.out.mono ?_
  rintro e w2 ⟨rfl, hb2⟩
  go_wp2_with fail
  go_ret
  exact ⟨rfl, hb1.trans (hb2.mono hb1.size)⟩
end Go.Proofs.YteammdkipnfmnaaGreatDoor.seals
