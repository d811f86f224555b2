/- The specification's digest. The specification's leaves, nodes and tops. The laws' own helpers on slices of strings: what each call does. Writing a list of texts: the program's and the specification's PutTexts answer as one and the same function. The specification's seals: the digest of all roots. The program's turns of words. append within the room that a make laid: small facts on worlds; no function of the program is named here. -/
import Derived.Test.YtfaldffehpgaiaaDoorShac
import Derived.Test.YtfaldffehpgaiaaDoorShab
import Derived.Deep.RegionHeld3
import Derived.Test.YtfaldffehpgaiaaDoorRows
import Derived.Test.YtfaldffehpgaiaaDoorShaa
import Derived.Laws.BytesArg
import Derived.Deep.RegionWith
import Derived.OwnWalk
namespace Go.Proofs.YtfaldffehpgaiaaDoor.sha
open Go.RowKit Go.Proofs.YtfaldffehpgaiaaDoor.base Go.Proofs.YtfaldffehpgaiaaDoor.padmath
set_option linter.unusedVariables false
set_option linter.unusedSimpArgs false

theorem sl_sub {w : World} {b off len : Nat} {bs : List UInt8} (h : Sl w (some ⟨b, off, none⟩) len bs) (p n : Nat) (hp : p + n ≤ len) : Sl w (some ⟨b, off + p, none⟩) n ((bs.drop p).take n) := by
  have hl := h.1
  have hm := h.2.1
  refine ⟨by simp; omega, by omega, fun h0 => ⟨b, off + p, rfl, fun i hi => ?_⟩⟩
  simp at hi
  have := h.at (p + i) (by omega)
  rw [Nat.add_assoc, this]
  simp

theorem cells_four (w : World) (x y z u : Value) (t : TypeId) : ∀ j v, [x, y, z, u][j]? = some v → (w.alloc (.cells #[x, y, z, u] t)).cell? ((⟨w.heap.size, 0, none⟩ : Addr).add j) = some v := by
  intro j v hj
  match j, hj with
  | 0, hj => simp at hj; subst hj; simp [Addr.add]
  | 1, hj => simp at hj; subst hj; simp [Addr.add]
  | 2, hj => simp at hj; subst hj; simp [Addr.add]
  | 3, hj => simp at hj; subst hj; simp [Addr.add]
theorem four_oneCell (k : IntKind) (x y z a : Int) : ∀ u ∈ [Value.int k x, Value.int k y, Value.int k z, Value.int k a], u.oneCell' = true := by
  intro u hu; simp at hu; rcases hu with rfl | rfl | rfl | rfl <;> rfl
theorem wrap8_nat (n : Nat) : IntKind.u8.wrap (n : Int) = ((UInt8.ofNat n).toNat : Int) := by
  rw [byte_of]; simp [IntKind.wrap, IntKind.signed, IntKind.bits]
theorem four_val (x : Nat) : [Value.int .u8 (IntKind.u8.wrap ((x : Int) / 16777216)), Value.int .u8 (IntKind.u8.wrap ((x : Int) / 65536)), Value.int .u8 (IntKind.u8.wrap ((x : Int) / 256)), Value.int .u8 (IntKind.u8.wrap (x : Int))] = byteVals (word4 x) := by
  rw [show (x : Int) / 16777216 = ((x / 16777216 : Nat) : Int) by omega, show (x : Int) / 65536 = ((x / 65536 : Nat) : Int) by omega, show (x : Int) / 256 = ((x / 256 : Nat) : Int) by omega, wrap8_nat, wrap8_nat, wrap8_nat, wrap8_nat]
  rfl
theorem keep1 {W w2 : World} {b o g : Nat} {v : Value} (hg : W.grownBy w2 (some g)) (hne : ¬ b = g) (h : W.cell? ⟨b, o, none⟩ = some v) : w2.cell? ⟨b, o, none⟩ = some v := hg.cell h (by simpa using hne)
theorem take_word (H : List Nat) (k : Nat) (h : k < H.length) : ((H.take k).map word4).flatten ++ word4 (H.getD k 0) = ((H.take (k + 1)).map word4).flatten := by
  rw [List.take_add_one, List.map_append, List.flatten_append, List.getD_eq_getElem?_getD, List.getElem?_eq_getElem h]
  simp

set_option maxRecDepth 100000 in
set_option maxHeartbeats 2000000 in
theorem spec_K (w : World) :
    Calls Tryd.prog 54 #[] w fun e w' => ∃ g cp, e = .returned (.slice (some ⟨g, 0, none⟩) 64 cp) ∧ OwnN w' w.heap.size g 64 cp K64 ∧ Below w.heap.size w w' := by
  go_enter Tryd.func54, Tryd.ntmps54
  go_wp2_with fail
  go_ret
  exact ⟨_, _, rfl, ownN_lit w _ K64 _ (Nat.le_refl _) rfl (by decide), (Below.refl _ _).alloc (Nat.le_refl _) _⟩

set_option maxRecDepth 100000 in
set_option maxHeartbeats 2000000 in
theorem spec_digest (b off len cap : Nat) (bs : List UInt8) (w : World) (h : Sl w (some ⟨b, off, none⟩) len bs) (hsz : len ≤ 1099511627776) :
    Calls Tryd.prog 35 #[.slice (some ⟨b, off, none⟩) len cap] w fun e w' => e = .returned (.string ⟨(digest bs).toArray⟩) ∧ Below w.heap.size w w' := by
  obtain ⟨i0, hi, hz0, hz1, hz2⟩ := info_parts info8
  have hl := h.1
  go_enter Tryd.func35, Tryd.ntmps35
  go_wp2_with fail
  refine (spec_padded b off len cap bs _ h hsz).mono ?_
  rintro e w1 ⟨gp, np, capp, rfl, hP, hB1⟩
  have HPL := Hid.mk' hP.1
  have hpb : np ≤ 1099511627776 + 100 := by rw [← hP.1, padded_length]; unfold zeros; omega
  have hmod : np % 64 = 0 := by rw [← hP.1]; exact padded_mod bs
  have hmx := hP.max
  go_wp2_with fail
  refine (spec_K _).mono ?_
  rintro e w2 ⟨gk, cpk, rfl, hK, hB2⟩
  have hbw1 := hB1.size
  have hba : Below w1.heap.size w1 (w1.alloc (.cells #[.int .i64 1779033703, .int .i64 3144134277, .int .i64 1013904242, .int .i64 2773480762, .int .i64 1359893119, .int .i64 2600822924, .int .i64 528734635, .int .i64 1541459225] 3)) := (Below.refl _ _).alloc (Nat.le_refl _) _
  have hH := (ownN_lit w1 w.heap.size H8 #[.int .i64 1779033703, .int .i64 3144134277, .int .i64 1013904242, .int .i64 2773480762, .int .i64 1359893119, .int .i64 2600822924, .int .i64 528734635, .int .i64 1541459225] hbw1 rfl (by decide)).below hB2
  have hK' := hK.mono (base' := w.heap.size) (Nat.le_trans hbw1 (le_alloc _ _ (Nat.le_refl _)))
  have hB12 : Below w1.heap.size w1 w2 := hba.trans (hB2.mono (le_alloc _ _ (Nat.le_refl _)))
  have hP2 := hP.below hB12
  have hBw : Below w.heap.size w w2 := hB1.trans (hB12.mono hbw1)
  have hgk := hK'.lt
  have hgp := hP2.lt
  clear hK hB2 hba hB12 hB1 hP
  go_wp2_with (at_builtin; fail)
  go_loopw [4, 6] (fun v i wr => ∃ (a g cp : Nat), a ≤ np ∧ a % 64 = 0 ∧ i = .int .i64 (a : Int) ∧ v = .slice (some ⟨g, 0, none⟩) 8 cp ∧ OwnN wr w.heap.size g 8 cp (hashTo (padded bs) (a / 64)) ∧ Below w2.heap.size w2 wr) (fun _ i _ => np - (intOf i).toNat)
  case atStart => exact ⟨0, w1.heap.size, 8, Nat.zero_le _, rfl, rfl, rfl, hH, Below.refl _ _⟩
  case round =>
    clear hH
    obtain ⟨a, g, cp, ha, ham, rfl, rfl, hO, hB⟩ := hrel
    have hbw : w.heap.size ≤ wr.heap.size := Nat.le_trans hBw.size hB.size
    by_cases hlt : a < np
    · have ha64 : a + 64 ≤ np := by omega
      have hS := sl_sub (hP2.below hB).sl a 64 ha64
      rw [Nat.zero_add] at hS
      have hK3 := hK'.below hB
      have HN : Hid (hashTo (padded bs) ((a + 64) / 64) = block K64 (hashTo (padded bs) (a / 64)) (((padded bs).drop a).take 64)) := by
        show _ = _
        rw [show (a + 64) / 64 = a / 64 + 1 by omega]
        show block _ _ (((padded bs).drop (64 * (a / 64))).take 64) = _
        rw [show 64 * (a / 64) = a by omega]
      have hlow := hashTo_lt (padded bs) (a / 64)
      go_wp2_with (at_builtin; fail)
      refine (spec_block g cp gp a _ gk cpk w.heap.size _ _ _ hO hlow hS hK3).mono ?_
      rintro e w4 ⟨g4, cp4, rfl, hO4, hB4⟩
      have hB5 : Below w2.heap.size w2 w4 := hB.trans (hB4.mono hB.size)
      rw [← HN.out] at hO4
      have HO4 := Hid.mk' (hO4.mono (base' := w.heap.size) hbw)
      clear hO4 hB4 hS hK3 hO hB HN hlow
      go_wp2_with (at_builtin; fail)
      go_roundw
      case rel => exact ⟨a + 64, g4, cp4, ha64, by omega, by go_num, rfl, HO4.out, hB5⟩
      case measure => simp [intOf]; omega
    · have HE : Hid (a = np) := by show _ = _; omega
      have hB' : Below w.heap.size w wr := hBw.trans (hB.mono hBw.size)
      have hx := hashTo_lt (padded bs) (np / 64)
      have hxl := hashTo_length (padded bs) (np / 64)
      have HD : Hid (digest bs = ((hashTo (padded bs) (np / 64)).map word4).flatten) := by show _ = _; unfold digest; rw [HPL.out]
      have hO' : OwnN wr w.heap.size g 8 cp (hashTo (padded bs) (np / 64)) := by rw [← HE.out]; exact hO
      generalize hashTo (padded bs) (np / 64) = H at *
      have HO := Hid.mk' hO'
      have HXL := Hid.mk' hxl
      clear hO hO' hB hP2 hK' hBw
      rename World => wp
      go_wp2_with (at_builtin; fail)
      go_loopw [7, 8] (fun v i wq => ∃ (k go cpo : Nat), k ≤ 8 ∧ i = .int .i64 (k : Int) ∧ v = .slice (some ⟨go, 0, none⟩) (4 * k) cpo ∧ Own wq wp.heap.size go (4 * k) cpo ((H.take k).map word4).flatten ∧ Below wp.heap.size wp wq) (fun _ i _ => 8 - (intOf i).toNat)
      case atStart => exact ⟨0, wp.heap.size, 0, Nat.zero_le _, rfl, rfl, own_made wp _ (Nat.le_refl _), (Below.refl _ _).alloc (Nat.le_refl _) _⟩
      case round =>
        obtain ⟨k, go, cpo, hk, rfl, rfl, hQ, hBq⟩ := hrel
        by_cases hlt8 : k < 8
        · have ck := (HO.out.below hBq).at k hlt8
          have hne : ¬ g = go := by have := HO.out.lt; have := hQ.lt; omega
          have hxk := getD_lt hx k
          have HF : Hid (((H.take k).map word4).flatten ++ word4 (H.getD k 0) = ((H.take (k + 1)).map word4).flatten) := take_word H k (by omega)
          have hc3 : 4 * k + 4 ≤ maxLen := by unfold maxLen; omega
          have hc4 : (4 * k + 4) * 1 ≤ 140737488355328 := by omega
          have hbq : wp.heap.size ≤ wr.heap.size := hBq.size
          generalize H.getD k 0 = x at *
          go_wp2_with (at_builtin; fail)
          go_region_held_law (fun w' => w'.cell? ⟨g, k, none⟩ = some (.int .i64 (x : Int))) (first | (go_keep) | (exact keep1 hgrow hne (by assumption))) ((refine step_append_own rfl (.tmp 32) (.tmp 56) 22 rfl wp.heap.size 5 i0 (.int .u8 0) 1 1 Tryd.underlying22 hi hz0 hz1 hz2 rfl (by decide) _ _ _ rfl (hQ.2.alloc _) ⟨wr.heap.size, 0, none⟩ 4 4 [_, _, _, _] rfl rfl (cells_four _ _ _ _ _ _) (four_oneCell _ _ _ _ _) hc3 hc4 (le_alloc _ _ hbq) ?_; intro v2 w5 hown hgrow hnn))
          have hgr2 : (wr.alloc (.cells #[.int .u8 (IntKind.u8.wrap ((x : Int) / 16777216)), .int .u8 (IntKind.u8.wrap ((x : Int) / 65536)), .int .u8 (IntKind.u8.wrap ((x : Int) / 256)), .int .u8 (IntKind.u8.wrap (x : Int))] 5)).drew.grownBy w5 (some go) := hgrow
          obtain ⟨g6, cp6, hv, hO6⟩ := own_app (m := 4) (ns := word4 x) hQ.1 rfl (four_val x) (by simpa using hnn) hown
          subst hv
          rw [HF.out] at hO6
          have hB6 : Below wp.heap.size wp w5 := (hBq.alloc hbq _).drew.grown hgr2 (le_alloc _ _ hbq) (fun k e => by cases e; exact hQ.lt.1)
          have HO6 := Hid.mk' hO6
          clear hown hgrow hgr2 hnn hO6 hQ hBq
          go_wp2_with (at_builtin; fail)
          go_roundw
          case rel => exact ⟨k + 1, g6, cp6, by omega, by go_num, rfl, HO6.out, hB6⟩
          case measure => simp [intOf]; omega
        · have HE8 : Hid (k = 8) := by show _ = _; omega
          have hcv := conv_own hQ
          go_wp2_with (at_builtin; fail)
          go_ret
          refine ⟨ret_str ?_, hB'.trans (hBq.mono hbw)⟩
          have hle : H.length ≤ k := by rw [HXL.out, HE8.out]; exact Nat.le_refl _
          rw [HD.out, List.take_of_length_le (by simpa using hle)]

end Go.Proofs.YtfaldffehpgaiaaDoor.sha

namespace Go.Proofs.YtfaldffehpgaiaaDoor.tree
open Go Go.RowKit Go.Proofs.YtfaldffehpgaiaaDoor.base Go.Proofs.YtfaldffehpgaiaaDoor.pairs Go.Proofs.YtfaldffehpgaiaaDoor.puttext Go.Proofs.YtfaldffehpgaiaaDoor.putnum
set_option linter.unusedVariables false
set_option linter.unusedSimpArgs false

theorem own_one (w : World) (u : UInt8) (x : Int) (hx : x = (u.toNat : Int)) (base : Nat) (hb : base ≤ w.heap.size) : Own (w.alloc (.cells #[.int .u8 x] 5)) base w.heap.size 1 1 [u] := by
  subst hx
  exact own_of_row rfl (by decide) hb (heap_alloc_new w _)
end Go.Proofs.YtfaldffehpgaiaaDoor.tree

namespace Go.Proofs.YtfaldffehpgaiaaDoor.helps
open Go.RowKit Go.Proofs.YtfaldffehpgaiaaDoor.base Go.Proofs.YtfaldffehpgaiaaDoor.help
set_option linter.unusedVariables false
set_option linter.unusedSimpArgs false

def copyS (ss : List ByteArray) (k : Nat) : List ByteArray := ss.take k ++ List.replicate (ss.length - k) ⟨#[]⟩
theorem copyS_length (ss : List ByteArray) (k : Nat) (h : k ≤ ss.length) : (copyS ss k).length = ss.length := by simp [copyS]; omega
theorem copyS_zero (ss : List ByteArray) : copyS ss 0 = List.replicate ss.length ⟨#[]⟩ := by simp [copyS]
theorem copyS_all (ss : List ByteArray) : copyS ss ss.length = ss := by simp [copyS]
theorem copyS_small (ss : List ByteArray) (k : Nat) (h : ∀ s ∈ ss, s.size ≤ maxLen) : ∀ s ∈ copyS ss k, s.size ≤ maxLen := by
  intro s hs
  rcases List.mem_append.1 hs with hs | hs
  · exact h s (List.mem_of_mem_take hs)
  · obtain rfl := (List.mem_replicate.1 hs).2; exact Nat.zero_le _
theorem copyS_set (ss : List ByteArray) (k : Nat) (h : k < ss.length) : (copyS ss k).set k ss[k] = copyS ss (k + 1) := by
  apply List.ext_getElem?
  intro j
  simp only [copyS, List.getElem?_set, List.getElem?_append, List.length_append, List.length_take, List.length_replicate, List.getElem?_take, List.getElem?_replicate]
  have e : min k ss.length = k := by omega
  have e1 : min (k + 1) ss.length = k + 1 := by omega
  rw [e, e1]
  by_cases hj : j = k
  · subst hj; simp [h]; omega
  · by_cases h1 : j < k
    · simp [h1, show ¬ k = j by omega, show j < k + 1 by omega]
    · simp [h1, show ¬ k = j by omega, show ¬ j < k + 1 by omega, show (j - k < ss.length - k ↔ j - (k + 1) < ss.length - (k + 1)) by omega]
set_option maxHeartbeats 400000 in
theorem toStringS (a : Option Addr) (len cap : Nat) (bs : List ByteArray) (w : World) (h : SlS w a len bs) (hsz : len ≤ 1099511627776) :
    Calls Tryd.prog 15 #[.slice a len cap] w fun e w' => ∃ g, e = .returned (.slice (some ⟨g, 0, none⟩) len len) ∧ OwnS w' w.heap.size g len len bs ∧ Below w.heap.size w w' := by
  obtain ⟨hl, hm, hsm, hc⟩ := h
  subst hl
  have hm' := hm
  unfold maxLen at hm'
  obtain ⟨i0, hi, hz0, hz1, hz2⟩ := info_parts info9
  go_enter Tryd.func15, Tryd.ntmps15
  go_wp2_with (at_make; refine wpList_make_full _ rfl _ _ 27 rfl w.heap.size 9 i0 (.string ⟨#[]⟩) 1 Tryd.underlying27 hi hz0 hz1 _ _ _ _ bs.length rfl rfl rfl rfl ?b2 ?b3 ?b4 ?_)
  case b2 => rw [hz2]; omega
  case b3 => exact hm
  case b4 => exact Nat.le_refl _
  intro w1 hown hgrow
  have hOwn : OwnS w1 w.heap.size w.heap.size bs.length bs.length (copyS bs 0) := by
    refine ⟨copyS_length bs 0 (Nat.zero_le _), copyS_small bs 0 hsm, ?_⟩
    rw [copyS_zero]
    have e : strVals (List.replicate bs.length ⟨#[]⟩) = (madeCells #[.string ⟨#[]⟩] bs.length).toList := by
      simp [strVals, toList_madeCells_one]
    rw [e]; exact hown
  have hbel : Below w.heap.size w w1 := (Below.refl _ _).grown hgrow (Nat.le_refl _) (fun k e => by cases e)
  clear hown hgrow hi hz0 hz1 hz2
  go_wp2
  go_loopw [4] (fun i wr => ∃ k : Nat, k ≤ bs.length ∧ i = .int .i64 k ∧ OwnS wr w.heap.size w.heap.size bs.length bs.length (copyS bs k) ∧ Below w.heap.size w wr) (fun i _ => bs.length - (intOf i).toNat)
  case atStart => exact ⟨0, Nat.zero_le _, rfl, hOwn, hbel⟩
  case round =>
    clear hOwn hbel
    obtain ⟨k, hk, rfl, hO, hB⟩ := hrel
    by_cases hlt : k < bs.length
    · obtain ⟨b, off, ha, hcl⟩ := hc (by omega)
      subst ha
      have hbb : b < w.heap.size := World.block_lt_of_cell? w _ (hcl k hlt)
      have c1 : wr.cell? ⟨b, off + k, none⟩ = some (.string bs[k]) := (hB.cell (p := ⟨b, off + k, none⟩) hbb).trans (hcl k hlt)
      have c2 : wr.cell? ⟨w.heap.size, k, none⟩ = some (.string (copyS bs k)[k]!) := by
        have hx := hO.at k (by rw [copyS_length bs k hk]; exact hlt)
        rw [hx, getElem!_pos (copyS bs k) k (by rw [copyS_length bs k hk]; exact hlt)]
      have c3 : wr.frozen? ⟨w.heap.size, k, none⟩ = false := hO.frozen k
      have R := ownS_set hO k bs[k] (hsm _ (List.getElem_mem hlt))
      rw [copyS_set bs k hlt] at R
      have HR := Hid.mk' R
      clear R hcl hc
      go_wp2
      go_roundw
      case rel => exact ⟨k + 1, by omega, by go_num, HR.out.1, hB.trans (below_grown HR.out.2 (Nat.le_refl _) hB.size)⟩
      case measure => simp [intOf]; omega
    · go_wp2
      go_ret
      have e : k = bs.length := by omega
      subst e
      rw [copyS_all] at hO
      exact ⟨_, rfl, hO, hB⟩

theorem take_eqS {bs bs2 : List ByteArray} {k : Nat} (h : bs.take k = bs2.take k) (h1 : k < bs.length) (h2 : k < bs2.length) (e : bs[k] = bs2[k]) : bs.take (k + 1) = bs2.take (k + 1) := by
  rw [List.take_succ_eq_append_getElem h1, List.take_succ_eq_append_getElem h2, h, e]

set_option maxHeartbeats 400000 in
theorem eqStringS (a a2 : Option Addr) (len cap len2 cap2 : Nat) (bs bs2 : List ByteArray) (w : World) (h : SlS w a len bs) (h2 : SlS w a2 len2 bs2) :
    Calls Tryd.prog 16 #[.slice a len cap, .slice a2 len2 cap2] w fun e w' => e = .returned (.bool (decide (bs = bs2))) ∧ ∃ n, w' = w.drewN n := by
  obtain ⟨hl, hm, _, hc⟩ := h
  obtain ⟨hl2, hm2, _, hc2⟩ := h2
  subst hl hl2
  unfold maxLen at hm hm2
  by_cases hne : bs.length = bs2.length
  · have hb : ((bs.length : Int) == (bs2.length : Int)) = true := by simp; omega
    go_enter Tryd.func16, Tryd.ntmps16
    go_wp2
    go_loopw [5] (fun i wr => ∃ k : Nat, k ≤ bs.length ∧ i = .int .i64 k ∧ bs.take k = bs2.take k ∧ ∃ n, wr = w.drewN n) (fun i _ => bs.length - (intOf i).toNat)
    case atStart => exact ⟨0, Nat.zero_le _, rfl, rfl, 0, rfl⟩
    case round =>
      obtain ⟨k, hk, rfl, htk, n, rfl⟩ := hrel
      by_cases hlt : k < bs.length
      · obtain ⟨b, off, ha, hcl⟩ := hc (by omega)
        obtain ⟨b2, off2, ha2, hcl2⟩ := hc2 (by omega)
        subst ha ha2
        have hlt2 : k < bs2.length := by omega
        have hi1 : (k : Int) < (bs.length : Int) := by omega
        have hi2 : (k : Int) < (bs2.length : Int) := by omega
        have HT := Hid.mk' htk
        by_cases e : bs[k] = bs2[k]
        · have c1 : w.cell? ⟨b, off + k, none⟩ = some (.string bs[k]) := hcl k hlt
          have c2 : w.cell? ⟨b2, off2 + k, none⟩ = some (.string bs[k]) := by rw [e]; exact hcl2 k hlt2
          have HE := Hid.mk' e
          clear hcl hcl2 hc hc2 htk hne e
          go_wp2
          go_quiet (fail)
          go_wp2
          go_roundw
          case rel => exact ⟨k + 1, by omega, by go_num, take_eqS HT.out hlt hlt2 HE.out, _, rfl⟩
          case measure => simp [intOf]; omega
        · have hq : (bs[k].toList == bs2[k].toList) = false := by
            rw [beq_eq_false_iff_ne]; intro h; rw [ByteArray.toList_eq, ByteArray.toList_eq] at h; exact e (WideShapes.bytes_inj h)
          have c1 : w.cell? ⟨b, off + k, none⟩ = some (.string bs[k]) := hcl k hlt
          have c2 : w.cell? ⟨b2, off2 + k, none⟩ = some (.string bs2[k]) := hcl2 k hlt2
          have HE := Hid.mk' e
          clear hcl hcl2 hc hc2 htk hne e
          go_wp2
          go_quiet (fail)
          go_wp2
          go_ret
          exact ⟨ret_bool (by symm; rw [decide_eq_false_iff_not]; intro h; subst h; exact HE.out rfl), _, World.drewN_drewN _ _ _⟩
      · have e : k = bs.length := by omega
        have hfin : bs = bs2 := by
          subst e
          rw [List.take_of_length_le (Nat.le_refl _), List.take_of_length_le (by omega)] at htk
          exact htk
        have HF := Hid.mk' hfin
        clear hfin htk
        go_wp2
        go_ret
        exact ⟨ret_bool (by symm; rw [decide_eq_true_iff]; exact HF.out), _, rfl⟩
  · have hb : ((bs.length : Int) == (bs2.length : Int)) = false := by simp; omega
    go_enter Tryd.func16, Tryd.ntmps16
    go_wp2
    go_ret
    exact ⟨ret_bool (by symm; rw [decide_eq_false_iff_not]; intro h; exact hne (by rw [h])), 0, rfl⟩

end Go.Proofs.YtfaldffehpgaiaaDoor.helps

namespace Go.Proofs.YtfaldffehpgaiaaDoor.puttexts
open Go.RowKit Go.Proofs.YtfaldffehpgaiaaDoor.base Go.Proofs.YtfaldffehpgaiaaDoor.help Go.Proofs.YtfaldffehpgaiaaDoor.helps Go.Proofs.YtfaldffehpgaiaaDoor.putnum Go.Proofs.YtfaldffehpgaiaaDoor.puttext
set_option linter.unusedVariables false
set_option linter.unusedSimpArgs false

def listBytes (ss : List ByteArray) : List UInt8 := numBytes (ss.length : Int) ++ textsBytes ss
def sum (ss : List ByteArray) : Nat := (ss.map ByteArray.size).sum
theorem sum_snoc (ss : List ByteArray) (s : ByteArray) : sum (ss ++ [s]) = sum ss + s.size := by simp [sum]
theorem sum_take (ss : List ByteArray) (k : Nat) (h : k < ss.length) : sum (ss.take (k + 1)) = sum (ss.take k) + ss[k].size := by
  rw [List.take_succ_eq_append_getElem h, sum_snoc]
theorem sum_le (ss : List ByteArray) (k : Nat) : sum (ss.take k) ≤ sum ss := by
  have e : sum ss = sum (ss.take k) + sum (ss.drop k) := by
    unfold sum; rw [← List.sum_append, ← List.map_append, List.take_append_drop]
  omega
theorem size_le_sum (ss : List ByteArray) : ∀ s ∈ ss, s.size ≤ sum ss := by
  induction ss with
  | nil => intro s h; exact absurd h List.not_mem_nil
  | cons x l ih =>
    intro s h
    simp only [sum, List.map_cons, List.sum_cons] at *
    rcases List.mem_cons.1 h with h | h
    · subst h; omega
    · have := ih s h; omega
theorem textsBytes_sum (ss : List ByteArray) : (textsBytes ss).length ≤ sum ss + 5 * ss.length := by
  induction ss with
  | nil => simp [textsBytes]
  | cons x l ih =>
    have := textBytes_length x
    simp only [textsBytes, sum, List.map_cons, List.flatten_cons, List.sum_cons, List.length_append, List.length_cons] at *
    omega

def szR (L t : Nat) : Int := if t ≤ L then (L : Int) - (t : Int) else -1
theorem szR_neg {L t : Nat} (h : L < t) : szR L t = -1 := by unfold szR; rw [if_neg (by omega)]
theorem szR_pos {L t : Nat} (h : t ≤ L) : szR L t = (L : Int) - (t : Int) := by unfold szR; rw [if_pos h]

set_option maxRecDepth 100000 in
set_option maxHeartbeats 1000000 in
theorem szStringS (a : Option Addr) (len cap : Nat) (ss : List ByteArray) (L : Nat) (w : World) (h : SlS w a len ss) (hL : L ≤ 1099511627776) :
    Calls Tryd.prog 13 #[.slice a len cap, .int .i64 (L : Int)] w fun e w' => e = .returned (.int .i64 (szR L (ss.length + sum ss))) ∧ w' = w := by
  obtain ⟨hl, hm, hsm, hc⟩ := h
  subst hl
  unfold maxLen at hm hsm
  by_cases hneg : L < ss.length
  · rw [szR_neg (by omega)]
    have h1 : (L : Int) - (ss.length : Int) < 0 := by omega
    go_enter Tryd.func13, Tryd.ntmps13
    go_wp2
    go_ret
    exact ⟨rfl, rfl⟩
  · have h1 : ¬ (L : Int) - (ss.length : Int) < 0 := by omega
    go_enter Tryd.func13, Tryd.ntmps13
    go_wp2
    go_loop [1, 5] (fun lv i => ∃ k m : Nat, k ≤ ss.length ∧ i = .int .i64 (k : Int) ∧ lv = .int .i64 (m : Int) ∧ m + (ss.length + sum (ss.take k)) = L) (fun _ i => ss.length - (intOf i).toNat)
    case atStart => exact ⟨0, L - ss.length, Nat.zero_le _, rfl, by go_num, by simp [sum]; omega⟩
    case round =>
      obtain ⟨k, m, hk, rfl, rfl, hmL⟩ := hrel
      by_cases hlt : k < ss.length
      · obtain ⟨b, off, ha, hcl⟩ := hc (by omega)
        subst ha
        have hst := sum_take ss k hlt
        have hle := sum_le ss (k + 1)
        have hsz := hsm _ (List.getElem_mem hlt)
        generalize hsk : ss[k] = s at *
        have c1 : w.cell? ⟨b, off + k, none⟩ = some (.string s) := by rw [hcl k hlt, hsk]
        have hi1 : (k : Int) < (ss.length : Int) := by omega
        have hmB : m ≤ 1099511627776 := by omega
        have HML := Hid.mk' hmL
        have HST := Hid.mk' hst
        have HLE := Hid.mk' hle
        clear hcl hc hsm hsk hmL hst hle
        by_cases hover : m < s.size
        · have h2 : (m : Int) - (s.size : Int) < 0 := by omega
          go_wp2
          go_ret
          have e1 := HML.out
          have e2 := HST.out
          have e3 := HLE.out
          rw [szR_neg (by omega)]
          exact ⟨rfl, rfl⟩
        · have h2 : ¬ (m : Int) - (s.size : Int) < 0 := by omega
          go_wp2
          go_round
          case rel => exact ⟨k + 1, m - s.size, by omega, by go_num, by go_num, by have e1 := HML.out; have e2 := HST.out; omega⟩
          case measure => simp [intOf]; omega
      · have e : k = ss.length := by omega
        have HML := Hid.mk' hmL
        clear hmL
        go_wp2
        go_ret
        have e1 := HML.out
        rw [e, List.take_length] at e1
        rw [szR_pos (by omega)]
        exact ⟨ret_int (by omega), rfl⟩

set_option maxRecDepth 100000 in
set_option maxHeartbeats 1000000 in
theorem spec_texts (b off len cap : Nat) (bs : List UInt8) (a : Option Addr) (len2 cap2 : Nat) (ss : List ByteArray) (w : World) (h : Sl w (some ⟨b, off, none⟩) len bs) (hS : SlS w a len2 ss) (hsz : len ≤ 134217728) (hs : ss.length + sum ss ≤ 134217728) :
    Calls Tryd.prog 56 #[.slice (some ⟨b, off, none⟩) len cap, .slice a len2 cap2] w fun e w' =>
      ∃ g' n' cap', e = .returned (.slice (some ⟨g', 0, none⟩) n' cap') ∧ Own w' w.heap.size g' n' cap' (bs ++ listBytes ss) ∧ Below w.heap.size w w' := by
  have hl := h.1
  obtain ⟨hl2, hm, hsm, hc⟩ := id hS
  subst hl2
  unfold maxLen at hm
  have hwf : (Lit.int .i64 (ss.length : Int)).wf = true := WalkArith.wf_i64 (by omega)
  have hnb := numBytes_length (ss.length : Int)
  go_enter Tryd.func56, Tryd.ntmps56
  go_wp2_with fail
  refine (spec_put b off len cap bs _ _ h hwf (by omega)).mono ?_
  rintro e w1 ⟨g1, n1, cap1, rfl, hO1, hB1⟩
  go_wp2_with fail
  go_loopw [5, 6] (fun v i wr => ∃ (k g' n' cap' : Nat), v = .slice (some ⟨g', 0, none⟩) n' cap' ∧ i = .int .i64 (k : Int) ∧ k ≤ ss.length ∧ Own wr w.heap.size g' n' cap' (bs ++ numBytes (ss.length : Int) ++ textsBytes (ss.take k)) ∧ Below w.heap.size w wr) (fun _ i _ => ss.length - (intOf i).toNat)
  case atStart => exact ⟨0, g1, n1, cap1, rfl, rfl, Nat.zero_le _, by simpa [textsBytes] using hO1, hB1⟩
  case round =>
    obtain ⟨k, g', n', cap', rfl, rfl, hk, hO, hB⟩ := hrel
    clear hO1 hB1
    by_cases hlt : k < ss.length
    · obtain ⟨bb, off2, ha, hcl⟩ := hc (by omega)
      subst ha
      have hbb : bb < w.heap.size := World.block_lt_of_cell? w _ (hcl k hlt)
      generalize hsk : ss[k] = s
      have c1 : wr.cell? ⟨bb, off2 + k, none⟩ = some (.string s) := by rw [hB.cell (p := ⟨bb, off2 + k, none⟩) hbb, hcl k hlt, hsk]
      have hT := textsBytes_take ss k hlt
      rw [hsk] at hT
      have hs1 : s.size ≤ sum ss := by rw [← hsk]; exact size_le_sum ss _ (List.getElem_mem hlt)
      have hle := textsBytes_le ss k
      have hle2 := textsBytes_sum ss
      have hn' : n' ≤ 549755813888 := by have := hO.1; simp only [List.length_append] at this; omega
      have hi1 : (k : Int) < (ss.length : Int) := by omega
      have HT := Hid.mk' hT
      clear hT hle hle2 hcl hc hsk hS hsm
      go_wp2_with fail
      refine (spec_text g' 0 n' cap' _ s _ hO.sl hn' (by omega)).mono ?_
      rintro e w2 ⟨g2, n2, cap2', rfl, hO2, hB2⟩
      have HO2 : Hid (Own w2 w.heap.size g2 n2 cap2' (bs ++ numBytes (ss.length : Int) ++ textsBytes (ss.take (k + 1)))) := by
        show Own w2 w.heap.size g2 n2 cap2' _
        rw [HT.out, ← List.append_assoc]
        exact hO2.mono hB.size
      have hB3 := hB.trans (hB2.mono hB.size)
      clear hO hO2 hB hB2
      go_wp2_with fail
      go_roundw
      case rel => exact ⟨k + 1, g2, _, cap2', rfl, by go_num, by omega, HO2.out, hB3⟩
      case measure => simp [intOf]; omega
    · have e : k = ss.length := by omega
      go_wp2_with fail
      go_ret
      subst e
      rw [List.take_length, List.append_assoc] at hO
      exact ⟨g', n', cap', rfl, hO, hB⟩

end Go.Proofs.YtfaldffehpgaiaaDoor.puttexts

namespace Go.Proofs.YtfaldffehpgaiaaDoor.seals
open Go Go.RowKit Go.Proofs.YtfaldffehpgaiaaDoor.base Go.Proofs.YtfaldffehpgaiaaDoor.pairs Go.Proofs.YtfaldffehpgaiaaDoor.tree Go.Proofs.YtfaldffehpgaiaaDoor.putnum Go.Proofs.YtfaldffehpgaiaaDoor.puttext Go.Proofs.YtfaldffehpgaiaaDoor.puttexts
set_option linter.unusedVariables false
set_option linter.unusedSimpArgs false

def superB (no : Int) (prev : ByteArray) (roots : List ByteArray) : List UInt8 := [3] ++ numBytes no ++ textBytes prev ++ listBytes roots
def superOf (no : Int) (prev : ByteArray) (roots : List ByteArray) : ByteArray := dg (superB no prev roots)
theorem listBytes_length (ss : List ByteArray) : (listBytes ss).length ≤ sum ss + 5 * ss.length + 5 := by
  have h1 := textsBytes_sum ss
  have h2 := numBytes_length (ss.length : Int)
  simp [listBytes]
  omega
set_option maxRecDepth 100000 in
set_option maxHeartbeats 1000000 in
theorem spec_l15Super (no : Int) (prev : ByteArray) (a : Option Addr) (n cap : Nat) (roots : List ByteArray) (w : World) (h : SlS w a n roots) (hno : (Lit.int .i64 no).wf = true) (hp : prev.size ≤ 1048576) (hr : roots.length + sum roots ≤ 1048576) :
    Calls Tryd.prog 36 #[.int .i64 no, .string prev, .slice a n cap] w fun e w' =>
      ∃ g' n' cap', e = .returned (.slice (some ⟨g', 0, none⟩) n' cap') ∧ Own w' w.heap.size g' n' cap' (superB no prev roots) ∧ Below w.heap.size w w' := by
  obtain ⟨w0, hw0⟩ : ∃ w0, w.alloc (.cells #[.int .u8 3] 5) = w0 := ⟨_, rfl⟩
  have hb0 : Below w.heap.size w w0 := by rw [← hw0]; exact (Below.refl _ _).alloc (Nat.le_refl _) _
  have hO : Own w0 w.heap.size w.heap.size 1 1 [3] := by rw [← hw0]; exact own_one w 3 3 rfl w.heap.size (Nat.le_refl _)
  have HN := Hid.mk' (spec_put w.heap.size 0 1 1 [3] no w0 hO.sl hno (by omega))
  have HW := Hid.mk' hw0
  have hnl := numBytes_length no
  have htl := textBytes_length prev
  clear hw0 hO
  go_enter Tryd.func36, Tryd.ntmps36
  go_wp2_with fail
  rw [HW.out]
  refine HN.out.mono ?_
  rintro e w1 ⟨g1, n1, c1, rfl, hO1, hb1⟩
  have hB1 := hb0.trans (hb1.mono hb0.size)
  have HT := Hid.mk' (spec_text g1 0 n1 c1 ([3] ++ numBytes no) prev w1 hO1.sl (by have := hO1.1; simp at this; omega) (by omega))
  clear HN HW hO1
  go_wp2_with fail
  refine HT.out.mono ?_
  rintro e w2 ⟨g2, n2, c2, rfl, hO2, hb2⟩
  have hB2 := hB1.trans (hb2.mono hB1.size)
  have HS := Hid.mk' (spec_texts g2 0 n2 c2 ([3] ++ numBytes no ++ textBytes prev) a n cap roots w2 hO2.sl (h.below hB2) (by have := hO2.1; simp at this; omega) (by omega))
  clear HT hO2
  go_wp2_with fail
  refine HS.out.mono ?_
  rintro e w3 ⟨g3, n3, c3, rfl, hO3, hb3⟩
  have HO := Hid.mk' (hO3.mono hB2.size)
  have hB3 := hB2.trans (hb3.mono hB2.size)
  clear HS hO3
  go_wp2_with fail
  go_ret
  exact ⟨g3, n3, c3, rfl, HO.out, hB3⟩
set_option maxHeartbeats 1000000 in
theorem spec_superOf (no : Int) (prev : ByteArray) (a : Option Addr) (n cap : Nat) (roots : List ByteArray) (w : World) (h : SlS w a n roots) (hno : (Lit.int .i64 no).wf = true) (hp : prev.size ≤ 1048576) (hr : roots.length + sum roots ≤ 1048576) :
    Calls Tryd.prog 14 #[.int .i64 no, .string prev, .slice a n cap] w fun e w' => e = .returned (.string (superOf no prev roots)) ∧ Below w.heap.size w w' := by
  have HL := Hid.mk' (spec_l15Super no prev a n cap roots w h hno hp hr)
  have hnl := numBytes_length no
  have htl := textBytes_length prev
  have hll := listBytes_length roots
  clear h
  go_enter Tryd.func14, Tryd.ntmps14
  go_wp2_with fail
  refine HL.out.mono ?_
  rintro e w1 ⟨g, m, cp, rfl, hO, hb1⟩
  have hn : m ≤ 1099511627776 := by have := hO.1; simp [superB] at this; omega
  have HD := Hid.mk' (sha.spec_digest g 0 m cp (superB no prev roots) w1 hO.sl hn)
  clear hO HL
  go_wp2_with fail
  refine HD.out.mono ?_
  rintro e w2 ⟨rfl, hb2⟩
  go_wp2_with fail
  go_ret
  exact ⟨rfl, hb1.trans (hb2.mono hb1.size)⟩
end Go.Proofs.YtfaldffehpgaiaaDoor.seals

namespace Go.Proofs.YtfaldffehpgaiaaDoor.sha
open Go.RowKit Go.Proofs.YtfaldffehpgaiaaDoor.base Go.Proofs.YtfaldffehpgaiaaDoor.padmath
set_option linter.unusedVariables false
set_option linter.unusedSimpArgs false

theorem wraps_u64 (n : Int) (h₀ : 0 ≤ n) (h₁ : n < 2 ^ 64) : IntKind.u64.wrap n = n := by rw [IntKind.wrap_u64]; omega
theorem wraps_u32 (n : Int) (h₀ : 0 ≤ n) (h₁ : n < 2 ^ 32) : IntKind.u32.wrap n = n := by rw [IntKind.wrap_u32]; omega
theorem u64_mask5 (x : Int) (h₀ : 0 ≤ x) (h₁ : x < 18446744073709551616) : bits .and .u64 x 31 = x % 32 :=
  bits_mask .u64 64 (by decide) wraps_u64 5 (by decide) x h₀ (by omega)
theorem neg31 (n m : Nat) (hn : 1 ≤ n) (hm : m + n = 32) (hm1 : 1 ≤ m) : bits .and .u64 (IntKind.u64.wrap (-(n : Int))) 31 = (m : Int) := by
  have e : IntKind.u64.wrap (-(n : Int)) = 18446744073709551616 - (n : Int) := by rw [IntKind.wrap_u64]; omega
  rw [e, u64_mask5 _ (by omega) (by omega)]
  omega
theorem u32_or_nat (a b : Nat) (ha : a < 4294967296) (hb : b < 4294967296) : bits .or .u32 (a : Int) (b : Int) = ((a ||| b : Nat) : Int) :=
  (bits_nat .u32 32 (by decide) wraps_u32 a b (by omega) (by omega)).2
theorem u32_and_nat (a b : Nat) (ha : a < 4294967296) (hb : b < 4294967296) : bits .and .u32 (a : Int) (b : Int) = ((a &&& b : Nat) : Int) :=
  (bits_nat .u32 32 (by decide) wraps_u32 a b (by omega) (by omega)).1
theorem rot_val (x n m : Nat) (hx : x < 4294967296) (hm : m + n = 32) : bits .or .u32 ((x : Int) * 2 ^ m % 4294967296) ((x : Int) / 2 ^ n) = (rotr n x : Int) := by
  have e1 : (x : Int) / 2 ^ n = ((x / 2 ^ n : Nat) : Int) := by rw [Int.natCast_ediv, Int.natCast_pow]; rfl
  have e2 : (x : Int) * 2 ^ m % 4294967296 = ((x * 2 ^ m % 4294967296 : Nat) : Int) := by rw [Int.natCast_emod, Int.natCast_mul, Int.natCast_pow]; rfl
  rw [e1, e2, u32_or_nat _ _ (Nat.mod_lt _ (by omega)) (div32 _ hx), Nat.or_comm]
  unfold rotr
  rw [show 32 - n = m by omega]
set_option maxHeartbeats 400000 in
theorem impl_rot (x n : Nat) (w : World) (hx : x < 4294967296) (hn : 1 ≤ n) (hn2 : n ≤ 31) :
    Calls Tryd.prog 70 #[.int .u32 (x : Int), .int .i64 (-(n : Int))] w fun e w' => e = .returned (.int .u32 (rotr n x : Int)) ∧ w' = w := by
  obtain ⟨m, hm⟩ : ∃ m, m + n = 32 := ⟨32 - n, by omega⟩
  have hm1 : 1 ≤ m := by omega
  have hm2 : m ≤ 31 := by omega
  have hA := neg31 n m hn hm hm1
  have hS : (32 : Int) - (m : Int) = (n : Int) := by omega
  have HV := Hid.mk' (rot_val x n m hx hm)
  clear hm
  go_enter Tryd.func70, Tryd.ntmps70
  go_wp2
  go_ret
  exact ⟨ret_int HV.out, rfl⟩
theorem impl_rotI (x n : Nat) (N : Int) (w : World) (hN : Hid (N = -(n : Int))) (hx : x < 4294967296) (hn : 1 ≤ n) (hn2 : n ≤ 31) :
    Calls Tryd.prog 70 #[.int .u32 (x : Int), .int .i64 N] w fun e w' => e = .returned (.int .u32 (rotr n x : Int)) ∧ w' = w := by
  have e := hN.out
  subst e
  exact impl_rot x n w hx hn hn2
theorem u32_xor3 (a b c : Nat) (ha : a < 4294967296) (hb : b < 4294967296) (hc : c < 4294967296) : bits .xor .u32 (bits .xor .u32 (a : Int) (b : Int)) (c : Int) = ((a ^^^ b ^^^ c : Nat) : Int) := by
  rw [u32_xor_nat a b ha hb, u32_xor_nat _ _ (xor32 ha hb) hc]
theorem sz_val (x : Nat) (h : x < 4294967296) : bits .xor .u32 (bits .xor .u32 (rotr 7 x : Int) (rotr 18 x : Int)) ((x : Int) / 8) = (ssig0 x : Int) := by
  rw [show (x : Int) / 8 = ((x / 8 : Nat) : Int) by omega, u32_xor3 _ _ _ (rotr_lt _ _ h) (rotr_lt _ _ h) (div32 _ h)]; rfl
theorem so_val (x : Nat) (h : x < 4294967296) : bits .xor .u32 (bits .xor .u32 (rotr 17 x : Int) (rotr 19 x : Int)) ((x : Int) / 1024) = (ssig1 x : Int) := by
  rw [show (x : Int) / 1024 = ((x / 1024 : Nat) : Int) by omega, u32_xor3 _ _ _ (rotr_lt _ _ h) (rotr_lt _ _ h) (div32 _ h)]; rfl
set_option maxHeartbeats 400000 in
theorem impl_sig0 (x : Nat) (w : World) (hx : x < 4294967296) :
    Calls Tryd.prog 64 #[.int .u32 (x : Int)] w fun e w' => e = .returned (.int .u32 (ssig0 x : Int)) ∧ w' = w := by
  have HV := Hid.mk' (sz_val x hx)
  go_enter Tryd.func64, Tryd.ntmps64
  go_wp2_with fail
  refine (impl_rotI x 7 _ _ (by show _ = _; rfl) hx (by omega) (by omega)).mono ?_
  rintro e w1 ⟨rfl, hw1⟩
  subst hw1
  go_wp2_with fail
  refine (impl_rotI x 18 _ _ (by show _ = _; rfl) hx (by omega) (by omega)).mono ?_
  rintro e w1 ⟨rfl, hw1⟩
  subst hw1
  go_wp2_with fail
  go_ret
  exact ⟨ret_int HV.out, rfl⟩
set_option maxHeartbeats 400000 in
theorem impl_sig1 (x : Nat) (w : World) (hx : x < 4294967296) :
    Calls Tryd.prog 65 #[.int .u32 (x : Int)] w fun e w' => e = .returned (.int .u32 (ssig1 x : Int)) ∧ w' = w := by
  have HV := Hid.mk' (so_val x hx)
  go_enter Tryd.func65, Tryd.ntmps65
  go_wp2_with fail
  refine (impl_rotI x 17 _ _ (by show _ = _; rfl) hx (by omega) (by omega)).mono ?_
  rintro e w1 ⟨rfl, hw1⟩
  subst hw1
  go_wp2_with fail
  refine (impl_rotI x 19 _ _ (by show _ = _; rfl) hx (by omega) (by omega)).mono ?_
  rintro e w1 ⟨rfl, hw1⟩
  subst hw1
  go_wp2_with fail
  go_ret
  exact ⟨ret_int HV.out, rfl⟩
set_option maxHeartbeats 400000 in
theorem impl_turned (x i j k : Nat) (w : World) (hx : x < 4294967296) (hi : 1 ≤ i) (hi2 : i ≤ 31) (hj : 1 ≤ j) (hj2 : j ≤ 31) (hk : 1 ≤ k) (hk2 : k ≤ 31) :
    Calls Tryd.prog 66 #[.int .u32 (x : Int), .int .i64 (i : Int), .int .i64 (j : Int), .int .i64 (k : Int)] w fun e w' => e = .returned (.int .u32 ((rotr i x ^^^ rotr j x ^^^ rotr k x : Nat) : Int)) ∧ w' = w := by
  have HV := Hid.mk' (u32_xor3 _ _ _ (rotr_lt i x hx) (rotr_lt j x hx) (rotr_lt k x hx))
  go_enter Tryd.func66, Tryd.ntmps66
  go_wp2_with fail
  refine (impl_rotI x i _ _ (by show _ = _; rfl) hx (by omega) (by omega)).mono ?_
  rintro e w1 ⟨rfl, hw1⟩
  subst hw1
  go_wp2_with fail
  refine (impl_rotI x j _ _ (by show _ = _; rfl) hx (by omega) (by omega)).mono ?_
  rintro e w1 ⟨rfl, hw1⟩
  subst hw1
  go_wp2_with fail
  refine (impl_rotI x k _ _ (by show _ = _; rfl) hx (by omega) (by omega)).mono ?_
  rintro e w1 ⟨rfl, hw1⟩
  subst hw1
  go_wp2_with fail
  go_ret
  exact ⟨ret_int HV.out, rfl⟩
theorem impl_bsig1 (x : Nat) (w : World) (hx : x < 4294967296) :
    Calls Tryd.prog 66 #[.int .u32 (x : Int), .int .i64 6, .int .i64 11, .int .i64 25] w fun e w' => e = .returned (.int .u32 (bsig1 x : Int)) ∧ w' = w :=
  impl_turned x 6 11 25 w hx (by omega) (by omega) (by omega) (by omega) (by omega) (by omega)
theorem impl_bsig0 (x : Nat) (w : World) (hx : x < 4294967296) :
    Calls Tryd.prog 66 #[.int .u32 (x : Int), .int .i64 2, .int .i64 13, .int .i64 22] w fun e w' => e = .returned (.int .u32 (bsig0 x : Int)) ∧ w' = w :=
  impl_turned x 2 13 22 w hx (by omega) (by omega) (by omega) (by omega) (by omega) (by omega)

end Go.Proofs.YtfaldffehpgaiaaDoor.sha

namespace Go.Proofs.YtfaldffehpgaiaaDoor.base
open Go.RowKit
set_option linter.unusedVariables false
set_option linter.unusedSimpArgs false

end Go.Proofs.YtfaldffehpgaiaaDoor.base
