/- The specification's digest. The specification's leaves, nodes and tops. The laws' own helpers on slices of strings: what each call does. Writing a list of texts: the program's and the specification's PutTexts answer as one and the same function. The specification's seals: the digest of all roots. The program's turns of words. append within the room that a make laid: small facts on worlds; no function of the program is named here. The program's words of a block. -/
import Derived.Test.YtfaldffehpgaiaaDoorShac
import Derived.Test.YtfaldffehpgaiaaDoorShab
import Derived.Deep.RegionHeld3
import Derived.Test.YtfaldffehpgaiaaDoorRows
import Derived.Test.YtfaldffehpgaiaaDoorShaa
import Derived.Laws.BytesArg
import Derived.Deep.RegionWith
import Derived.OwnWalk
namespace Go.Proofs.YtfaldffehpgaiaaDoor.sha
open Go.RowKit Go.Proofs.YtfaldffehpgaiaaDoor.base Go.Proofs.YtfaldffehpgaiaaDoor.padmath
set_option linter.unusedVariables false
set_option linter.unusedSimpArgs false

theorem sl_sub {w : World} {b off len : Nat} {bs : List UInt8} (h : Sl w (some ⟨b, off, none⟩) len bs) (p n : Nat) (hp : p + n ≤ len) : Sl w (some ⟨b, off + p, none⟩) n ((bs.drop p).take n) := by
  have hl := h.1
  have hm := h.2.1
  refine ⟨by simp; omega, by omega, fun h0 => ⟨b, off + p, rfl, fun i hi => ?_⟩⟩
  simp at hi
  have := h.at (p + i) (by omega)
  rw [Nat.add_assoc, this]
  simp

theorem cells_four (w : World) (x y z u : Value) (t : TypeId) : ∀ j v, [x, y, z, u][j]? = some v → (w.alloc (.cells #[x, y, z, u] t)).cell? ((⟨w.heap.size, 0, none⟩ : Addr).add j) = some v := by
  intro j v hj
  match j, hj with
  | 0, hj => simp at hj; subst hj; simp [Addr.add]
  | 1, hj => simp at hj; subst hj; simp [Addr.add]
  | 2, hj => simp at hj; subst hj; simp [Addr.add]
  | 3, hj => simp at hj; subst hj; simp [Addr.add]
theorem four_oneCell (k : IntKind) (x y z a : Int) : ∀ u ∈ [Value.int k x, Value.int k y, Value.int k z, Value.int k a], u.oneCell' = true := by
  intro u hu; simp at hu; rcases hu with rfl | rfl | rfl | rfl <;> rfl
theorem wrap8_nat (n : Nat) : IntKind.u8.wrap (n : Int) = ((UInt8.ofNat n).toNat : Int) := by
  rw [byte_of]; simp [IntKind.wrap, IntKind.signed, IntKind.bits]
theorem four_val (x : Nat) : [Value.int .u8 (IntKind.u8.wrap ((x : Int) / 16777216)), Value.int .u8 (IntKind.u8.wrap ((x : Int) / 65536)), Value.int .u8 (IntKind.u8.wrap ((x : Int) / 256)), Value.int .u8 (IntKind.u8.wrap (x : Int))] = byteVals (word4 x) := by
  rw [show (x : Int) / 16777216 = ((x / 16777216 : Nat) : Int) by omega, show (x : Int) / 65536 = ((x / 65536 : Nat) : Int) by omega, show (x : Int) / 256 = ((x / 256 : Nat) : Int) by omega, wrap8_nat, wrap8_nat, wrap8_nat, wrap8_nat]
  rfl
theorem keep1 {W w2 : World} {b o g : Nat} {v : Value} (hg : W.grownBy w2 (some g)) (hne : ¬ b = g) (h : W.cell? ⟨b, o, none⟩ = some v) : w2.cell? ⟨b, o, none⟩ = some v := hg.cell h (by simpa using hne)
theorem take_word (H : List Nat) (k : Nat) (h : k < H.length) : ((H.take k).map word4).flatten ++ word4 (H.getD k 0) = ((H.take (k + 1)).map word4).flatten := by
  rw [List.take_add_one, List.map_append, List.flatten_append, List.getD_eq_getElem?_getD, List.getElem?_eq_getElem h]
  simp

set_option maxRecDepth 100000 in
set_option maxHeartbeats 2000000 in
theorem spec_K (w : World) :
    Calls Tryd.prog 54 #[] w fun e w' => ∃ g cp, e = .returned (.slice (some ⟨g, 0, none⟩) 64 cp) ∧ OwnN w' w.heap.size g 64 cp K64 ∧ Below w.heap.size w w' := by
  go_enter Tryd.func54, Tryd.ntmps54
  go_wp2_with fail
  go_ret
  exact ⟨_, _, rfl, ownN_lit w _ K64 _ (Nat.le_refl _) rfl (by decide), (Below.refl _ _).alloc (Nat.le_refl _) _⟩

set_option maxRecDepth 100000 in
set_option maxHeartbeats 2000000 in
theorem spec_digest (b off len cap : Nat) (bs : List UInt8) (w : World) (h : Sl w (some ⟨b, off, none⟩) len bs) (hsz : len ≤ 1099511627776) :
    Calls Tryd.prog 35 #[.slice (some ⟨b, off, none⟩) len cap] w fun e w' => e = .returned (.string ⟨(digest bs).toArray⟩) ∧ Below w.heap.size w w' := by
  obtain ⟨i0, hi, hz0, hz1, hz2⟩ := info_parts info8
  have hl := h.1
  go_enter Tryd.func35, Tryd.ntmps35
  go_wp2_with fail
  refine (spec_padded b off len cap bs _ h hsz).mono ?_
  rintro e w1 ⟨gp, np, capp, rfl, hP, hB1⟩
  have HPL := Hid.mk' hP.1
  have hpb : np ≤ 1099511627776 + 100 := by rw [← hP.1, padded_length]; unfold zeros; omega
  have hmod : np % 64 = 0 := by rw [← hP.1]; exact padded_mod bs
  have hmx := hP.max
  go_wp2_with fail
  refine (spec_K _).mono ?_
  rintro e w2 ⟨gk, cpk, rfl, hK, hB2⟩
  have hbw1 := hB1.size
  have hba : Below w1.heap.size w1 (w1.alloc (.cells #[.int .i64 1779033703, .int .i64 3144134277, .int .i64 1013904242, .int .i64 2773480762, .int .i64 1359893119, .int .i64 2600822924, .int .i64 528734635, .int .i64 1541459225] 3)) := (Below.refl _ _).alloc (Nat.le_refl _) _
  have hH := (ownN_lit w1 w.heap.size H8 #[.int .i64 1779033703, .int .i64 3144134277, .int .i64 1013904242, .int .i64 2773480762, .int .i64 1359893119, .int .i64 2600822924, .int .i64 528734635, .int .i64 1541459225] hbw1 rfl (by decide)).below hB2
  have hK' := hK.mono (base' := w.heap.size) (Nat.le_trans hbw1 (le_alloc _ _ (Nat.le_refl _)))
  have hB12 : Below w1.heap.size w1 w2 := hba.trans (hB2.mono (le_alloc _ _ (Nat.le_refl _)))
  have hP2 := hP.below hB12
  have hBw : Below w.heap.size w w2 := hB1.trans (hB12.mono hbw1)
  have hgk := hK'.lt
  have hgp := hP2.lt
  clear hK hB2 hba hB12 hB1 hP
  go_wp2_with (at_builtin; fail)
  go_loopw [4, 6] (fun v i wr => ∃ (a g cp : Nat), a ≤ np ∧ a % 64 = 0 ∧ i = .int .i64 (a : Int) ∧ v = .slice (some ⟨g, 0, none⟩) 8 cp ∧ OwnN wr w.heap.size g 8 cp (hashTo (padded bs) (a / 64)) ∧ Below w2.heap.size w2 wr) (fun _ i _ => np - (intOf i).toNat)
  case atStart => exact ⟨0, w1.heap.size, 8, Nat.zero_le _, rfl, rfl, rfl, hH, Below.refl _ _⟩
  case round =>
    clear hH
    obtain ⟨a, g, cp, ha, ham, rfl, rfl, hO, hB⟩ := hrel
    have hbw : w.heap.size ≤ wr.heap.size := Nat.le_trans hBw.size hB.size
    by_cases hlt : a < np
    · have ha64 : a + 64 ≤ np := by omega
      have hS := sl_sub (hP2.below hB).sl a 64 ha64
      rw [Nat.zero_add] at hS
      have hK3 := hK'.below hB
      have HN : Hid (hashTo (padded bs) ((a + 64) / 64) = block K64 (hashTo (padded bs) (a / 64)) (((padded bs).drop a).take 64)) := by
        show _ = _
        rw [show (a + 64) / 64 = a / 64 + 1 by omega]
        show block _ _ (((padded bs).drop (64 * (a / 64))).take 64) = _
        rw [show 64 * (a / 64) = a by omega]
      have hlow := hashTo_lt (padded bs) (a / 64)
      go_wp2_with (at_builtin; fail)
      refine (spec_block g cp gp a _ gk cpk w.heap.size _ _ _ hO hlow hS hK3).mono ?_
      rintro e w4 ⟨g4, cp4, rfl, hO4, hB4⟩
      have hB5 : Below w2.heap.size w2 w4 := hB.trans (hB4.mono hB.size)
      rw [← HN.out] at hO4
      have HO4 := Hid.mk' (hO4.mono (base' := w.heap.size) hbw)
      clear hO4 hB4 hS hK3 hO hB HN hlow
      go_wp2_with (at_builtin; fail)
      go_roundw
      case rel => exact ⟨a + 64, g4, cp4, ha64, by omega, by go_num, rfl, HO4.out, hB5⟩
      case measure => simp [intOf]; omega
    · have HE : Hid (a = np) := by show _ = _; omega
      have hB' : Below w.heap.size w wr := hBw.trans (hB.mono hBw.size)
      have hx := hashTo_lt (padded bs) (np / 64)
      have hxl := hashTo_length (padded bs) (np / 64)
      have HD : Hid (digest bs = ((hashTo (padded bs) (np / 64)).map word4).flatten) := by show _ = _; unfold digest; rw [HPL.out]
      have hO' : OwnN wr w.heap.size g 8 cp (hashTo (padded bs) (np / 64)) := by rw [← HE.out]; exact hO
      generalize hashTo (padded bs) (np / 64) = H at *
      have HO := Hid.mk' hO'
      have HXL := Hid.mk' hxl
      clear hO hO' hB hP2 hK' hBw
      rename World => wp
      go_wp2_with (at_builtin; fail)
      go_loopw [7, 8] (fun v i wq => ∃ (k go cpo : Nat), k ≤ 8 ∧ i = .int .i64 (k : Int) ∧ v = .slice (some ⟨go, 0, none⟩) (4 * k) cpo ∧ Own wq wp.heap.size go (4 * k) cpo ((H.take k).map word4).flatten ∧ Below wp.heap.size wp wq) (fun _ i _ => 8 - (intOf i).toNat)
      case atStart => exact ⟨0, wp.heap.size, 0, Nat.zero_le _, rfl, rfl, own_made wp _ (Nat.le_refl _), (Below.refl _ _).alloc (Nat.le_refl _) _⟩
      case round =>
        obtain ⟨k, go, cpo, hk, rfl, rfl, hQ, hBq⟩ := hrel
        by_cases hlt8 : k < 8
        · have ck := (HO.out.below hBq).at k hlt8
          have hne : ¬ g = go := by have := HO.out.lt; have := hQ.lt; omega
          have hxk := getD_lt hx k
          have HF : Hid (((H.take k).map word4).flatten ++ word4 (H.getD k 0) = ((H.take (k + 1)).map word4).flatten) := take_word H k (by omega)
          have hc3 : 4 * k + 4 ≤ maxLen := by unfold maxLen; omega
          have hc4 : (4 * k + 4) * 1 ≤ 140737488355328 := by omega
          have hbq : wp.heap.size ≤ wr.heap.size := hBq.size
          generalize H.getD k 0 = x at *
          go_wp2_with (at_builtin; fail)
          go_region_held_law (fun w' => w'.cell? ⟨g, k, none⟩ = some (.int .i64 (x : Int))) (first | (go_keep) | (exact keep1 hgrow hne (by assumption))) ((refine step_append_own rfl (.tmp 32) (.tmp 56) 22 rfl wp.heap.size 5 i0 (.int .u8 0) 1 1 Tryd.underlying22 hi hz0 hz1 hz2 rfl (by decide) _ _ _ rfl (hQ.2.alloc _) ⟨wr.heap.size, 0, none⟩ 4 4 [_, _, _, _] rfl rfl (cells_four _ _ _ _ _ _) (four_oneCell _ _ _ _ _) hc3 hc4 (le_alloc _ _ hbq) ?_; intro v2 w5 hown hgrow hnn))
          have hgr2 : (wr.alloc (.cells #[.int .u8 (IntKind.u8.wrap ((x : Int) / 16777216)), .int .u8 (IntKind.u8.wrap ((x : Int) / 65536)), .int .u8 (IntKind.u8.wrap ((x : Int) / 256)), .int .u8 (IntKind.u8.wrap (x : Int))] 5)).drew.grownBy w5 (some go) := hgrow
          obtain ⟨g6, cp6, hv, hO6⟩ := own_app (m := 4) (ns := word4 x) hQ.1 rfl (four_val x) (by simpa using hnn) hown
          subst hv
          rw [HF.out] at hO6
          have hB6 : Below wp.heap.size wp w5 := (hBq.alloc hbq _).drew.grown hgr2 (le_alloc _ _ hbq) (fun k e => by cases e; exact hQ.lt.1)
          have HO6 := Hid.mk' hO6
          clear hown hgrow hgr2 hnn hO6 hQ hBq
          go_wp2_with (at_builtin; fail)
          go_roundw
          case rel => exact ⟨k + 1, g6, cp6, by omega, by go_num, rfl, HO6.out, hB6⟩
          case measure => simp [intOf]; omega
        · have HE8 : Hid (k = 8) := by show _ = _; omega
          have hcv := conv_own hQ
          go_wp2_with (at_builtin; fail)
          go_ret
          refine ⟨ret_str ?_, hB'.trans (hBq.mono hbw)⟩
          have hle : H.length ≤ k := by rw [HXL.out, HE8.out]; exact Nat.le_refl _
          rw [HD.out, List.take_of_length_le (by simpa using hle)]

end Go.Proofs.YtfaldffehpgaiaaDoor.sha

namespace Go.Proofs.YtfaldffehpgaiaaDoor.tree
open Go Go.RowKit Go.Proofs.YtfaldffehpgaiaaDoor.base Go.Proofs.YtfaldffehpgaiaaDoor.pairs Go.Proofs.YtfaldffehpgaiaaDoor.puttext Go.Proofs.YtfaldffehpgaiaaDoor.putnum
set_option linter.unusedVariables false
set_option linter.unusedSimpArgs false

theorem own_one (w : World) (u : UInt8) (x : Int) (hx : x = (u.toNat : Int)) (base : Nat) (hb : base ≤ w.heap.size) : Own (w.alloc (.cells #[.int .u8 x] 5)) base w.heap.size 1 1 [u] := by
  subst hx
  exact own_of_row rfl (by decide) hb (heap_alloc_new w _)
end Go.Proofs.YtfaldffehpgaiaaDoor.tree

namespace Go.Proofs.YtfaldffehpgaiaaDoor.helps
open Go.RowKit Go.Proofs.YtfaldffehpgaiaaDoor.base Go.Proofs.YtfaldffehpgaiaaDoor.help
set_option linter.unusedVariables false
set_option linter.unusedSimpArgs false

end Go.Proofs.YtfaldffehpgaiaaDoor.helps

namespace Go.Proofs.YtfaldffehpgaiaaDoor.puttexts
open Go.RowKit Go.Proofs.YtfaldffehpgaiaaDoor.base Go.Proofs.YtfaldffehpgaiaaDoor.help Go.Proofs.YtfaldffehpgaiaaDoor.helps Go.Proofs.YtfaldffehpgaiaaDoor.putnum Go.Proofs.YtfaldffehpgaiaaDoor.puttext
set_option linter.unusedVariables false
set_option linter.unusedSimpArgs false

def listBytes (ss : List ByteArray) : List UInt8 := numBytes (ss.length : Int) ++ textsBytes ss
def sum (ss : List ByteArray) : Nat := (ss.map ByteArray.size).sum
theorem sum_le (ss : List ByteArray) (k : Nat) : sum (ss.take k) ≤ sum ss := by
  have e : sum ss = sum (ss.take k) + sum (ss.drop k) := by
    unfold sum; rw [← List.sum_append, ← List.map_append, List.take_append_drop]
  omega
theorem size_le_sum (ss : List ByteArray) : ∀ s ∈ ss, s.size ≤ sum ss := by
  induction ss with
  | nil => intro s h; exact absurd h List.not_mem_nil
  | cons x l ih =>
    intro s h
    simp only [sum, List.map_cons, List.sum_cons] at *
    rcases List.mem_cons.1 h with h | h
    · subst h; omega
    · have := ih s h; omega
theorem textsBytes_sum (ss : List ByteArray) : (textsBytes ss).length ≤ sum ss + 5 * ss.length := by
  induction ss with
  | nil => simp [textsBytes]
  | cons x l ih =>
    have := textBytes_length x
    simp only [textsBytes, sum, List.map_cons, List.flatten_cons, List.sum_cons, List.length_append, List.length_cons] at *
    omega

set_option maxRecDepth 100000 in
set_option maxHeartbeats 1000000 in
theorem spec_texts (b off len cap : Nat) (bs : List UInt8) (a : Option Addr) (len2 cap2 : Nat) (ss : List ByteArray) (w : World) (h : Sl w (some ⟨b, off, none⟩) len bs) (hS : SlS w a len2 ss) (hsz : len ≤ 134217728) (hs : ss.length + sum ss ≤ 134217728) :
    Calls Tryd.prog 56 #[.slice (some ⟨b, off, none⟩) len cap, .slice a len2 cap2] w fun e w' =>
      ∃ g' n' cap', e = .returned (.slice (some ⟨g', 0, none⟩) n' cap') ∧ Own w' w.heap.size g' n' cap' (bs ++ listBytes ss) ∧ Below w.heap.size w w' := by
  have hl := h.1
  obtain ⟨hl2, hm, hsm, hc⟩ := id hS
  subst hl2
  unfold maxLen at hm
  have hwf : (Lit.int .i64 (ss.length : Int)).wf = true := WalkArith.wf_i64 (by omega)
  have hnb := numBytes_length (ss.length : Int)
  go_enter Tryd.func56, Tryd.ntmps56
  go_wp2_with fail
  refine (spec_put b off len cap bs _ _ h hwf (by omega)).mono ?_
  rintro e w1 ⟨g1, n1, cap1, rfl, hO1, hB1⟩
  go_wp2_with fail
  go_loopw [5, 6] (fun v i wr => ∃ (k g' n' cap' : Nat), v = .slice (some ⟨g', 0, none⟩) n' cap' ∧ i = .int .i64 (k : Int) ∧ k ≤ ss.length ∧ Own wr w.heap.size g' n' cap' (bs ++ numBytes (ss.length : Int) ++ textsBytes (ss.take k)) ∧ Below w.heap.size w wr) (fun _ i _ => ss.length - (intOf i).toNat)
  case atStart => exact ⟨0, g1, n1, cap1, rfl, rfl, Nat.zero_le _, by simpa [textsBytes] using hO1, hB1⟩
  case round =>
    obtain ⟨k, g', n', cap', rfl, rfl, hk, hO, hB⟩ := hrel
    clear hO1 hB1
    by_cases hlt : k < ss.length
    · obtain ⟨bb, off2, ha, hcl⟩ := hc (by omega)
      subst ha
      have hbb : bb < w.heap.size := World.block_lt_of_cell? w _ (hcl k hlt)
      generalize hsk : ss[k] = s
      have c1 : wr.cell? ⟨bb, off2 + k, none⟩ = some (.string s) := by rw [hB.cell (p := ⟨bb, off2 + k, none⟩) hbb, hcl k hlt, hsk]
      have hT := textsBytes_take ss k hlt
      rw [hsk] at hT
      have hs1 : s.size ≤ sum ss := by rw [← hsk]; exact size_le_sum ss _ (List.getElem_mem hlt)
      have hle := textsBytes_le ss k
      have hle2 := textsBytes_sum ss
      have hn' : n' ≤ 549755813888 := by have := hO.1; simp only [List.length_append] at this; omega
      have hi1 : (k : Int) < (ss.length : Int) := by omega
      have HT := Hid.mk' hT
      clear hT hle hle2 hcl hc hsk hS hsm
      go_wp2_with fail
      refine (spec_text g' 0 n' cap' _ s _ hO.sl hn' (by omega)).mono ?_
      rintro e w2 ⟨g2, n2, cap2', rfl, hO2, hB2⟩
      have HO2 : Hid (Own w2 w.heap.size g2 n2 cap2' (bs ++ numBytes (ss.length : Int) ++ textsBytes (ss.take (k + 1)))) := by
        show Own w2 w.heap.size g2 n2 cap2' _
        rw [HT.out, ← List.append_assoc]
        exact hO2.mono hB.size
      have hB3 := hB.trans (hB2.mono hB.size)
      clear hO hO2 hB hB2
      go_wp2_with fail
      go_roundw
      case rel => exact ⟨k + 1, g2, _, cap2', rfl, by go_num, by omega, HO2.out, hB3⟩
      case measure => simp [intOf]; omega
    · have e : k = ss.length := by omega
      go_wp2_with fail
      go_ret
      subst e
      rw [List.take_length, List.append_assoc] at hO
      exact ⟨g', n', cap', rfl, hO, hB⟩

end Go.Proofs.YtfaldffehpgaiaaDoor.puttexts

namespace Go.Proofs.YtfaldffehpgaiaaDoor.seals
open Go Go.RowKit Go.Proofs.YtfaldffehpgaiaaDoor.base Go.Proofs.YtfaldffehpgaiaaDoor.pairs Go.Proofs.YtfaldffehpgaiaaDoor.tree Go.Proofs.YtfaldffehpgaiaaDoor.putnum Go.Proofs.YtfaldffehpgaiaaDoor.puttext Go.Proofs.YtfaldffehpgaiaaDoor.puttexts
set_option linter.unusedVariables false
set_option linter.unusedSimpArgs false

def superB (no : Int) (prev : ByteArray) (roots : List ByteArray) : List UInt8 := [3] ++ numBytes no ++ textBytes prev ++ listBytes roots
def superOf (no : Int) (prev : ByteArray) (roots : List ByteArray) : ByteArray := dg (superB no prev roots)
theorem listBytes_length (ss : List ByteArray) : (listBytes ss).length ≤ sum ss + 5 * ss.length + 5 := by
  have h1 := textsBytes_sum ss
  have h2 := numBytes_length (ss.length : Int)
  simp [listBytes]
  omega
set_option maxRecDepth 100000 in
set_option maxHeartbeats 1000000 in
theorem spec_l15Super (no : Int) (prev : ByteArray) (a : Option Addr) (n cap : Nat) (roots : List ByteArray) (w : World) (h : SlS w a n roots) (hno : (Lit.int .i64 no).wf = true) (hp : prev.size ≤ 1048576) (hr : roots.length + sum roots ≤ 1048576) :
    Calls Tryd.prog 36 #[.int .i64 no, .string prev, .slice a n cap] w fun e w' =>
      ∃ g' n' cap', e = .returned (.slice (some ⟨g', 0, none⟩) n' cap') ∧ Own w' w.heap.size g' n' cap' (superB no prev roots) ∧ Below w.heap.size w w' := by
  obtain ⟨w0, hw0⟩ : ∃ w0, w.alloc (.cells #[.int .u8 3] 5) = w0 := ⟨_, rfl⟩
  have hb0 : Below w.heap.size w w0 := by rw [← hw0]; exact (Below.refl _ _).alloc (Nat.le_refl _) _
  have hO : Own w0 w.heap.size w.heap.size 1 1 [3] := by rw [← hw0]; exact own_one w 3 3 rfl w.heap.size (Nat.le_refl _)
  have HN := Hid.mk' (spec_put w.heap.size 0 1 1 [3] no w0 hO.sl hno (by omega))
  have HW := Hid.mk' hw0
  have hnl := numBytes_length no
  have htl := textBytes_length prev
  clear hw0 hO
  go_enter Tryd.func36, Tryd.ntmps36
  go_wp2_with fail
  rw [HW.out]
  refine HN.out.mono ?_
  rintro e w1 ⟨g1, n1, c1, rfl, hO1, hb1⟩
  have hB1 := hb0.trans (hb1.mono hb0.size)
  have HT := Hid.mk' (spec_text g1 0 n1 c1 ([3] ++ numBytes no) prev w1 hO1.sl (by have := hO1.1; simp at this; omega) (by omega))
  clear HN HW hO1
  go_wp2_with fail
  refine HT.out.mono ?_
  rintro e w2 ⟨g2, n2, c2, rfl, hO2, hb2⟩
  have hB2 := hB1.trans (hb2.mono hB1.size)
  have HS := Hid.mk' (spec_texts g2 0 n2 c2 ([3] ++ numBytes no ++ textBytes prev) a n cap roots w2 hO2.sl (h.below hB2) (by have := hO2.1; simp at this; omega) (by omega))
  clear HT hO2
  go_wp2_with fail
  refine HS.out.mono ?_
  rintro e w3 ⟨g3, n3, c3, rfl, hO3, hb3⟩
  have HO := Hid.mk' (hO3.mono hB2.size)
  have hB3 := hB2.trans (hb3.mono hB2.size)
  clear HS hO3
  go_wp2_with fail
  go_ret
  exact ⟨g3, n3, c3, rfl, HO.out, hB3⟩
set_option maxHeartbeats 1000000 in
theorem spec_superOf (no : Int) (prev : ByteArray) (a : Option Addr) (n cap : Nat) (roots : List ByteArray) (w : World) (h : SlS w a n roots) (hno : (Lit.int .i64 no).wf = true) (hp : prev.size ≤ 1048576) (hr : roots.length + sum roots ≤ 1048576) :
    Calls Tryd.prog 14 #[.int .i64 no, .string prev, .slice a n cap] w fun e w' => e = .returned (.string (superOf no prev roots)) ∧ Below w.heap.size w w' := by
  have HL := Hid.mk' (spec_l15Super no prev a n cap roots w h hno hp hr)
  have hnl := numBytes_length no
  have htl := textBytes_length prev
  have hll := listBytes_length roots
  clear h
  go_enter Tryd.func14, Tryd.ntmps14
  go_wp2_with fail
  refine HL.out.mono ?_
  rintro e w1 ⟨g, m, cp, rfl, hO, hb1⟩
  have hn : m ≤ 1099511627776 := by have := hO.1; simp [superB] at this; omega
  have HD := Hid.mk' (sha.spec_digest g 0 m cp (superB no prev roots) w1 hO.sl hn)
  clear hO HL
  go_wp2_with fail
  refine HD.out.mono ?_
  rintro e w2 ⟨rfl, hb2⟩
  go_wp2_with fail
  go_ret
  exact ⟨rfl, hb1.trans (hb2.mono hb1.size)⟩
end Go.Proofs.YtfaldffehpgaiaaDoor.seals

namespace Go.Proofs.YtfaldffehpgaiaaDoor.sha
open Go.RowKit Go.Proofs.YtfaldffehpgaiaaDoor.base Go.Proofs.YtfaldffehpgaiaaDoor.padmath
set_option linter.unusedVariables false
set_option linter.unusedSimpArgs false

theorem wraps_u64 (n : Int) (h₀ : 0 ≤ n) (h₁ : n < 2 ^ 64) : IntKind.u64.wrap n = n := by rw [IntKind.wrap_u64]; omega
theorem wraps_u32 (n : Int) (h₀ : 0 ≤ n) (h₁ : n < 2 ^ 32) : IntKind.u32.wrap n = n := by rw [IntKind.wrap_u32]; omega
theorem u64_mask5 (x : Int) (h₀ : 0 ≤ x) (h₁ : x < 18446744073709551616) : bits .and .u64 x 31 = x % 32 :=
  bits_mask .u64 64 (by decide) wraps_u64 5 (by decide) x h₀ (by omega)
theorem neg31 (n m : Nat) (hn : 1 ≤ n) (hm : m + n = 32) (hm1 : 1 ≤ m) : bits .and .u64 (IntKind.u64.wrap (-(n : Int))) 31 = (m : Int) := by
  have e : IntKind.u64.wrap (-(n : Int)) = 18446744073709551616 - (n : Int) := by rw [IntKind.wrap_u64]; omega
  rw [e, u64_mask5 _ (by omega) (by omega)]
  omega
theorem u32_or_nat (a b : Nat) (ha : a < 4294967296) (hb : b < 4294967296) : bits .or .u32 (a : Int) (b : Int) = ((a ||| b : Nat) : Int) :=
  (bits_nat .u32 32 (by decide) wraps_u32 a b (by omega) (by omega)).2
theorem u32_and_nat (a b : Nat) (ha : a < 4294967296) (hb : b < 4294967296) : bits .and .u32 (a : Int) (b : Int) = ((a &&& b : Nat) : Int) :=
  (bits_nat .u32 32 (by decide) wraps_u32 a b (by omega) (by omega)).1
theorem rot_val (x n m : Nat) (hx : x < 4294967296) (hm : m + n = 32) : bits .or .u32 ((x : Int) * 2 ^ m % 4294967296) ((x : Int) / 2 ^ n) = (rotr n x : Int) := by
  have e1 : (x : Int) / 2 ^ n = ((x / 2 ^ n : Nat) : Int) := by rw [Int.natCast_ediv, Int.natCast_pow]; rfl
  have e2 : (x : Int) * 2 ^ m % 4294967296 = ((x * 2 ^ m % 4294967296 : Nat) : Int) := by rw [Int.natCast_emod, Int.natCast_mul, Int.natCast_pow]; rfl
  rw [e1, e2, u32_or_nat _ _ (Nat.mod_lt _ (by omega)) (div32 _ hx), Nat.or_comm]
  unfold rotr
  rw [show 32 - n = m by omega]
set_option maxHeartbeats 400000 in
theorem impl_rot (x n : Nat) (w : World) (hx : x < 4294967296) (hn : 1 ≤ n) (hn2 : n ≤ 31) :
    Calls Tryd.prog 70 #[.int .u32 (x : Int), .int .i64 (-(n : Int))] w fun e w' => e = .returned (.int .u32 (rotr n x : Int)) ∧ w' = w := by
  obtain ⟨m, hm⟩ : ∃ m, m + n = 32 := ⟨32 - n, by omega⟩
  have hm1 : 1 ≤ m := by omega
  have hm2 : m ≤ 31 := by omega
  have hA := neg31 n m hn hm hm1
  have hS : (32 : Int) - (m : Int) = (n : Int) := by omega
  have HV := Hid.mk' (rot_val x n m hx hm)
  clear hm
  go_enter Tryd.func70, Tryd.ntmps70
  go_wp2
  go_ret
  exact ⟨ret_int HV.out, rfl⟩
theorem impl_rotI (x n : Nat) (N : Int) (w : World) (hN : Hid (N = -(n : Int))) (hx : x < 4294967296) (hn : 1 ≤ n) (hn2 : n ≤ 31) :
    Calls Tryd.prog 70 #[.int .u32 (x : Int), .int .i64 N] w fun e w' => e = .returned (.int .u32 (rotr n x : Int)) ∧ w' = w := by
  have e := hN.out
  subst e
  exact impl_rot x n w hx hn hn2
theorem u32_xor3 (a b c : Nat) (ha : a < 4294967296) (hb : b < 4294967296) (hc : c < 4294967296) : bits .xor .u32 (bits .xor .u32 (a : Int) (b : Int)) (c : Int) = ((a ^^^ b ^^^ c : Nat) : Int) := by
  rw [u32_xor_nat a b ha hb, u32_xor_nat _ _ (xor32 ha hb) hc]
theorem sz_val (x : Nat) (h : x < 4294967296) : bits .xor .u32 (bits .xor .u32 (rotr 7 x : Int) (rotr 18 x : Int)) ((x : Int) / 8) = (ssig0 x : Int) := by
  rw [show (x : Int) / 8 = ((x / 8 : Nat) : Int) by omega, u32_xor3 _ _ _ (rotr_lt _ _ h) (rotr_lt _ _ h) (div32 _ h)]; rfl
theorem so_val (x : Nat) (h : x < 4294967296) : bits .xor .u32 (bits .xor .u32 (rotr 17 x : Int) (rotr 19 x : Int)) ((x : Int) / 1024) = (ssig1 x : Int) := by
  rw [show (x : Int) / 1024 = ((x / 1024 : Nat) : Int) by omega, u32_xor3 _ _ _ (rotr_lt _ _ h) (rotr_lt _ _ h) (div32 _ h)]; rfl
set_option maxHeartbeats 400000 in
theorem impl_sig0 (x : Nat) (w : World) (hx : x < 4294967296) :
    Calls Tryd.prog 64 #[.int .u32 (x : Int)] w fun e w' => e = .returned (.int .u32 (ssig0 x : Int)) ∧ w' = w := by
  have HV := Hid.mk' (sz_val x hx)
  go_enter Tryd.func64, Tryd.ntmps64
  go_wp2_with fail
  refine (impl_rotI x 7 _ _ (by show _ = _; rfl) hx (by omega) (by omega)).mono ?_
  rintro e w1 ⟨rfl, hw1⟩
  subst hw1
  go_wp2_with fail
  refine (impl_rotI x 18 _ _ (by show _ = _; rfl) hx (by omega) (by omega)).mono ?_
  rintro e w1 ⟨rfl, hw1⟩
  subst hw1
  go_wp2_with fail
  go_ret
  exact ⟨ret_int HV.out, rfl⟩
set_option maxHeartbeats 400000 in
theorem impl_sig1 (x : Nat) (w : World) (hx : x < 4294967296) :
    Calls Tryd.prog 65 #[.int .u32 (x : Int)] w fun e w' => e = .returned (.int .u32 (ssig1 x : Int)) ∧ w' = w := by
  have HV := Hid.mk' (so_val x hx)
  go_enter Tryd.func65, Tryd.ntmps65
  go_wp2_with fail
  refine (impl_rotI x 17 _ _ (by show _ = _; rfl) hx (by omega) (by omega)).mono ?_
  rintro e w1 ⟨rfl, hw1⟩
  subst hw1
  go_wp2_with fail
  refine (impl_rotI x 19 _ _ (by show _ = _; rfl) hx (by omega) (by omega)).mono ?_
  rintro e w1 ⟨rfl, hw1⟩
  subst hw1
  go_wp2_with fail
  go_ret
  exact ⟨ret_int HV.out, rfl⟩
set_option maxHeartbeats 400000 in
theorem impl_turned (x i j k : Nat) (w : World) (hx : x < 4294967296) (hi : 1 ≤ i) (hi2 : i ≤ 31) (hj : 1 ≤ j) (hj2 : j ≤ 31) (hk : 1 ≤ k) (hk2 : k ≤ 31) :
    Calls Tryd.prog 66 #[.int .u32 (x : Int), .int .i64 (i : Int), .int .i64 (j : Int), .int .i64 (k : Int)] w fun e w' => e = .returned (.int .u32 ((rotr i x ^^^ rotr j x ^^^ rotr k x : Nat) : Int)) ∧ w' = w := by
  have HV := Hid.mk' (u32_xor3 _ _ _ (rotr_lt i x hx) (rotr_lt j x hx) (rotr_lt k x hx))
  go_enter Tryd.func66, Tryd.ntmps66
  go_wp2_with fail
  refine (impl_rotI x i _ _ (by show _ = _; rfl) hx (by omega) (by omega)).mono ?_
  rintro e w1 ⟨rfl, hw1⟩
  subst hw1
  go_wp2_with fail
  refine (impl_rotI x j _ _ (by show _ = _; rfl) hx (by omega) (by omega)).mono ?_
  rintro e w1 ⟨rfl, hw1⟩
  subst hw1
  go_wp2_with fail
  refine (impl_rotI x k _ _ (by show _ = _; rfl) hx (by omega) (by omega)).mono ?_
  rintro e w1 ⟨rfl, hw1⟩
  subst hw1
  go_wp2_with fail
  go_ret
  exact ⟨ret_int HV.out, rfl⟩
theorem impl_bsig1 (x : Nat) (w : World) (hx : x < 4294967296) :
    Calls Tryd.prog 66 #[.int .u32 (x : Int), .int .i64 6, .int .i64 11, .int .i64 25] w fun e w' => e = .returned (.int .u32 (bsig1 x : Int)) ∧ w' = w :=
  impl_turned x 6 11 25 w hx (by omega) (by omega) (by omega) (by omega) (by omega) (by omega)
theorem impl_bsig0 (x : Nat) (w : World) (hx : x < 4294967296) :
    Calls Tryd.prog 66 #[.int .u32 (x : Int), .int .i64 2, .int .i64 13, .int .i64 22] w fun e w' => e = .returned (.int .u32 (bsig0 x : Int)) ∧ w' = w :=
  impl_turned x 2 13 22 w hx (by omega) (by omega) (by omega) (by omega) (by omega) (by omega)

end Go.Proofs.YtfaldffehpgaiaaDoor.sha

namespace Go.Proofs.YtfaldffehpgaiaaDoor.base
open Go.RowKit
set_option linter.unusedVariables false
set_option linter.unusedSimpArgs false

end Go.Proofs.YtfaldffehpgaiaaDoor.base

namespace Go.Proofs.YtfaldffehpgaiaaDoor.sha
open Go.RowKit Go.Proofs.YtfaldffehpgaiaaDoor.base Go.Proofs.YtfaldffehpgaiaaDoor.padmath
set_option linter.unusedVariables false
set_option linter.unusedSimpArgs false

/-! ### arrays of words -/
def uVals (l : List Nat) : List Value := l.map fun (z : Nat) => .int .u32 (z : Int)
theorem uVals_set (l : List Nat) (k z : Nat) : (uVals l).set k (.int .u32 (z : Int)) = uVals (l.set k z) := by simp [uVals]
def Arr (w : World) (g : Nat) (t : TypeId) (l : List Nat) : Prop := w.heap[g]? = some (.cells (uVals l).toArray t (0, 0))
section
variable {w w' : World} {g : Nat} {t : TypeId} {l : List Nat} {row : Option Nat}
theorem Arr.at (h : Arr w g t l) (i : Nat) (hi : i < l.length) : w.cell? ⟨g, i, none⟩ = some (.int .u32 ((l.getD i 0 : Nat) : Int)) := by
  rw [cell_of_row w g i _ t _ h]
  simp [uVals, List.getD, hi]
theorem Arr.lt (h : Arr w g t l) : g < w.heap.size := (Array.getElem?_eq_some_iff.1 h).1
theorem Arr.frozen (h : Arr w g t l) (i : Nat) : w.frozen? ⟨g, i, none⟩ = false := by
  unfold Arr at h
  simp only [World.frozen?, h]
  simp
theorem Arr.set (h : Arr w g t l) (k z : Nat) : Arr (w.setCell ⟨g, k, none⟩ (.int .u32 (z : Int))) g t (l.set k z) ∧ w.grownBy (w.setCell ⟨g, k, none⟩ (.int .u32 (z : Int))) (some g) := by
  have := set_cur h k (.int .u32 (z : Int))
  refine ⟨?_, this.2⟩
  unfold Arr
  rw [this.1, ← uVals_set]
  simp
theorem Arr.grown (h : Arr w g t l) (hg : w.grownBy w' row) (hne : some g ≠ row) : Arr w' g t l := (hg.block g h.lt hne).trans h
theorem Arr.below (h : Arr w g t l) (hb : Below w.heap.size w w') : Arr w' g t l := (hb.block g h.lt).trans h
end

theorem arr_new {w : World} {t : TypeId} (cs : Array Value) (l : List Nat) (g : Nat) (hg : g = w.heap.size) (hc : cs = (uVals l).toArray) : Arr (w.alloc (.cells cs t)) g t l := by
  subst hg; subst hc; exact heap_alloc_new w _
theorem Arr.sixteen {w : World} {g : Nat} {t : TypeId} {x0 x1 x2 x3 x4 x5 x6 x7 x8 x9 x10 x11 x12 x13 x14 x15 : Nat} (h : Arr w g t [x0, x1, x2, x3, x4, x5, x6, x7, x8, x9, x10, x11, x12, x13, x14, x15]) :
    w.cell? ⟨g, 0, none⟩ = some (.int .u32 (x0 : Int)) ∧ w.cell? ⟨g, 1, none⟩ = some (.int .u32 (x1 : Int)) ∧ w.cell? ⟨g, 2, none⟩ = some (.int .u32 (x2 : Int)) ∧ w.cell? ⟨g, 3, none⟩ = some (.int .u32 (x3 : Int)) ∧ w.cell? ⟨g, 4, none⟩ = some (.int .u32 (x4 : Int)) ∧ w.cell? ⟨g, 5, none⟩ = some (.int .u32 (x5 : Int)) ∧ w.cell? ⟨g, 6, none⟩ = some (.int .u32 (x6 : Int)) ∧ w.cell? ⟨g, 7, none⟩ = some (.int .u32 (x7 : Int)) ∧ w.cell? ⟨g, 8, none⟩ = some (.int .u32 (x8 : Int)) ∧ w.cell? ⟨g, 9, none⟩ = some (.int .u32 (x9 : Int)) ∧ w.cell? ⟨g, 10, none⟩ = some (.int .u32 (x10 : Int)) ∧ w.cell? ⟨g, 11, none⟩ = some (.int .u32 (x11 : Int)) ∧ w.cell? ⟨g, 12, none⟩ = some (.int .u32 (x12 : Int)) ∧ w.cell? ⟨g, 13, none⟩ = some (.int .u32 (x13 : Int)) ∧ w.cell? ⟨g, 14, none⟩ = some (.int .u32 (x14 : Int)) ∧ w.cell? ⟨g, 15, none⟩ = some (.int .u32 (x15 : Int)) :=
  ⟨h.at 0 (by simp), h.at 1 (by simp), h.at 2 (by simp), h.at 3 (by simp), h.at 4 (by simp), h.at 5 (by simp), h.at 6 (by simp), h.at 7 (by simp), h.at 8 (by simp), h.at 9 (by simp), h.at 10 (by simp), h.at 11 (by simp), h.at 12 (by simp), h.at 13 (by simp), h.at 14 (by simp), h.at 15 (by simp)⟩
theorem Arr.eight {w : World} {g : Nat} {t : TypeId} {x0 x1 x2 x3 x4 x5 x6 x7 : Nat} (h : Arr w g t [x0, x1, x2, x3, x4, x5, x6, x7]) :
    w.cell? ⟨g, 0, none⟩ = some (.int .u32 (x0 : Int)) ∧ w.cell? ⟨g, 1, none⟩ = some (.int .u32 (x1 : Int)) ∧ w.cell? ⟨g, 2, none⟩ = some (.int .u32 (x2 : Int)) ∧ w.cell? ⟨g, 3, none⟩ = some (.int .u32 (x3 : Int)) ∧ w.cell? ⟨g, 4, none⟩ = some (.int .u32 (x4 : Int)) ∧ w.cell? ⟨g, 5, none⟩ = some (.int .u32 (x5 : Int)) ∧ w.cell? ⟨g, 6, none⟩ = some (.int .u32 (x6 : Int)) ∧ w.cell? ⟨g, 7, none⟩ = some (.int .u32 (x7 : Int)) :=
  ⟨h.at 0 (by simp), h.at 1 (by simp), h.at 2 (by simp), h.at 3 (by simp), h.at 4 (by simp), h.at 5 (by simp), h.at 6 (by simp), h.at 7 (by simp)⟩

/-! ### the words of a block's bytes -/
def part (bs : List UInt8) (j : Nat) : Nat → Nat
  | 0 => 0
  | r + 1 => part bs j r * 256 + (bs.getD (4 * j + r) 0).toNat
theorem part_lt (bs : List UInt8) (j r : Nat) : part bs j r < 256 ^ r := by
  induction r with
  | zero => simp [part]
  | succ r ih =>
    have := (bs.getD (4 * j + r) 0).toNat_lt
    rw [part, Nat.pow_succ]; omega
theorem part_four (bs : List UInt8) (j : Nat) : part bs j 4 = be32 bs j := by
  simp only [part, be32, Nat.add_zero]; omega
def wordsAt (bs : List UInt8) (i : Nat) : List Nat := (List.range 16).map fun j => part bs j (min 4 (i - 4 * j))
theorem wordsAt_length (bs : List UInt8) (i : Nat) : (wordsAt bs i).length = 16 := by simp [wordsAt]
theorem wordsAt_get (bs : List UInt8) (i j : Nat) (h : j < 16) : (wordsAt bs i).getD j 0 = part bs j (min 4 (i - 4 * j)) := by
  simp [wordsAt, List.getD, h]
theorem wordsAt_zero (bs : List UInt8) : wordsAt bs 0 = [0, 0, 0, 0, 0, 0, 0, 0, 0, 0, 0, 0, 0, 0, 0, 0] := by
  have e : wordsAt bs 0 = (List.range 16).map fun _ => 0 := by
    unfold wordsAt; apply List.map_congr_left; intro j _; simp [part]
  rw [e]; rfl
theorem wordsAt_all (bs : List UInt8) : wordsAt bs 64 = (List.range 16).map (be32 bs) := by
  unfold wordsAt
  apply List.map_congr_left
  intro j hj
  have := List.mem_range.1 hj
  rw [show min 4 (64 - 4 * j) = 4 by omega, part_four]
theorem wordsAt_set (bs : List UInt8) (i : Nat) (h : i < 64) :
    (wordsAt bs i).set (i / 4) ((wordsAt bs i).getD (i / 4) 0 * 256 + (bs.getD i 0).toNat) = wordsAt bs (i + 1) := by
  apply List.ext_getElem
  · simp [wordsAt]
  · intro j h1 h2
    have hj : j < 16 := by simpa [wordsAt] using h2
    rw [List.getElem_set]
    by_cases e : i / 4 = j
    · rw [if_pos e, e, wordsAt_get bs i j hj]
      simp only [wordsAt, List.getElem_map, List.getElem_range]
      rw [show min 4 (i - 4 * j) = i % 4 by omega, show min 4 (i + 1 - 4 * j) = i % 4 + 1 by omega, part, show 4 * j + i % 4 = i by omega]
    · rw [if_neg e]
      simp only [wordsAt, List.getElem_map, List.getElem_range]
      have : min 4 (i - 4 * j) = min 4 (i + 1 - 4 * j) := by omega
      rw [this]
theorem wordsAt_lt (bs : List UInt8) (i : Nat) (h : i < 64) : (wordsAt bs i).getD (i / 4) 0 < 16777216 := by
  rw [wordsAt_get bs i _ (by omega), show min 4 (i - 4 * (i / 4)) = i % 4 by omega]
  have h1 := part_lt bs (i / 4) (i % 4)
  have h2 : 256 ^ (i % 4) ≤ 256 ^ 3 := Nat.pow_le_pow_right (by omega) (by omega)
  omega
theorem shl_val (x c : Nat) (hx : x < 16777216) (hc : c < 256) : bits .or .u32 ((x : Int) * 256) (c : Int) = ((x * 256 + c : Nat) : Int) := by
  rw [show (x : Int) * 256 = ((x * 256 : Nat) : Int) by omega, u32_or_nat _ _ (by omega) (by omega), nat_join 8 _ _ (by omega) (by omega)]

set_option maxRecDepth 100000 in
set_option maxHeartbeats 2000000 in
theorem impl_words (b off cap : Nat) (bs : List UInt8) (w : World) (h : Sl w (some ⟨b, off, none⟩) 64 bs) :
    Calls Tryd.prog 48 #[.slice (some ⟨b, off, none⟩) 64 cap] w fun e w' => e = .returned (.agg #[.int .u32 (be32 bs 0 : Int), .int .u32 (be32 bs 1 : Int), .int .u32 (be32 bs 2 : Int), .int .u32 (be32 bs 3 : Int), .int .u32 (be32 bs 4 : Int), .int .u32 (be32 bs 5 : Int), .int .u32 (be32 bs 6 : Int), .int .u32 (be32 bs 7 : Int), .int .u32 (be32 bs 8 : Int), .int .u32 (be32 bs 9 : Int), .int .u32 (be32 bs 10 : Int), .int .u32 (be32 bs 11 : Int), .int .u32 (be32 bs 12 : Int), .int .u32 (be32 bs 13 : Int), .int .u32 (be32 bs 14 : Int), .int .u32 (be32 bs 15 : Int)]) ∧ Below w.heap.size w w' := by
  have hbl := h.lt (by omega)
  go_enter Tryd.func48, Tryd.ntmps48
  go_wp2_with fail
  go_loopw [9] (fun iv wr => ∃ i : Nat, i ≤ 64 ∧ iv = .int .i64 (i : Int) ∧ Arr wr (w.heap.size + 1) 73 (wordsAt bs i) ∧ Arr wr w.heap.size 73 (wordsAt bs 0) ∧ Below w.heap.size w wr) (fun iv _ => 64 - (intOf iv).toNat)
  case atStart =>
    refine ⟨0, Nat.zero_le _, rfl, ?_, ?_, ((Below.refl _ _).alloc (Nat.le_refl _) _).alloc (by simp) _⟩
    · rw [wordsAt_zero]; exact arr_new _ _ _ (by simp) rfl
    · rw [wordsAt_zero]; exact (arr_new _ _ _ rfl rfl).below ((Below.refl _ _).alloc (Nat.le_refl _) _)
  case round =>
    obtain ⟨i, hi, rfl, hA, hR, hB⟩ := hrel
    by_cases hlt : i < 64
    · have hS := h.below hB
      have c0 := hS.at i (by have := hS.1; omega)
      have hg0 : bs[i]'(by have := hS.1; omega) = bs.getD i 0 := by rw [List.getD_eq_getElem?_getD, List.getElem?_eq_getElem (by have := hS.1; omega)]; rfl
      rw [hg0] at c0
      obtain ⟨q, hq, hqi⟩ : ∃ q : Nat, i / 4 = q ∧ (i : Int) / 4 = (q : Int) := ⟨_, rfl, by omega⟩
      have hq16 : (q : Int) < 16 := by omega
      have c1 := hA.at q (by rw [wordsAt_length]; omega)
      have c2 := hA.frozen q
      have hx := wordsAt_lt bs i hlt
      have hst := wordsAt_set bs i hlt
      have hc := (bs.getD i 0).toNat_lt
      have hsh := shl_val ((wordsAt bs i).getD (i / 4) 0) (bs.getD i 0).toNat hx hc
      have hA2 := hA.set q ((wordsAt bs i).getD (i / 4) 0 * 256 + (bs.getD i 0).toNat)
      rw [← hq, hst, hq] at hA2
      rw [hq] at hx hsh
      generalize (wordsAt bs i).getD q 0 = x at *
      generalize (bs.getD i 0).toNat = c at *
      have HA2 := Hid.mk' hA2
      have HSH := Hid.mk' hsh
      clear hS hst hA2 hsh hg0 hq
      go_wp2_with fail
      go_roundw
      case rel =>
        refine ⟨i + 1, by omega, by go_num, ?_, ?_, ?_⟩
        · rw [HSH.out]; exact HA2.out.1
        · rw [HSH.out]; exact hR.grown HA2.out.2 (by simp)
        · rw [HSH.out]; exact hB.trans (below_grown HA2.out.2 (by omega) hB.size)
      case measure => simp [intOf]; omega
    · have HE : Hid (i = 64) := by show _ = _; omega
      have hA' : Arr wr (w.heap.size + 1) 73 [be32 bs 0, be32 bs 1, be32 bs 2, be32 bs 3, be32 bs 4, be32 bs 5, be32 bs 6, be32 bs 7, be32 bs 8, be32 bs 9, be32 bs 10, be32 bs 11, be32 bs 12, be32 bs 13, be32 bs 14, be32 bs 15] := by
        have := hA
        rw [HE.out, wordsAt_all] at this
        exact this
      rw [wordsAt_zero] at hR
      obtain ⟨a0, a1, a2, a3, a4, a5, a6, a7, a8, a9, a10, a11, a12, a13, a14, a15⟩ := hA'.sixteen
      obtain ⟨r0, r1, r2, r3, r4, r5, r6, r7, r8, r9, r10, r11, r12, r13, r14, r15⟩ := hR.sixteen
      have hfz := hR.frozen
      clear hA hA' hR
      go_wp2_with fail
      have hBz := ((((((((((((((((hB.setCell (p := ⟨w.heap.size, 0, none⟩) (Nat.le_refl _) (.int .u32 (be32 bs 0 : Int))).setCell (p := ⟨w.heap.size, 1, none⟩) (Nat.le_refl _) (.int .u32 (be32 bs 1 : Int))).setCell (p := ⟨w.heap.size, 2, none⟩) (Nat.le_refl _) (.int .u32 (be32 bs 2 : Int))).setCell (p := ⟨w.heap.size, 3, none⟩) (Nat.le_refl _) (.int .u32 (be32 bs 3 : Int))).setCell (p := ⟨w.heap.size, 4, none⟩) (Nat.le_refl _) (.int .u32 (be32 bs 4 : Int))).setCell (p := ⟨w.heap.size, 5, none⟩) (Nat.le_refl _) (.int .u32 (be32 bs 5 : Int))).setCell (p := ⟨w.heap.size, 6, none⟩) (Nat.le_refl _) (.int .u32 (be32 bs 6 : Int))).setCell (p := ⟨w.heap.size, 7, none⟩) (Nat.le_refl _) (.int .u32 (be32 bs 7 : Int))).setCell (p := ⟨w.heap.size, 8, none⟩) (Nat.le_refl _) (.int .u32 (be32 bs 8 : Int))).setCell (p := ⟨w.heap.size, 9, none⟩) (Nat.le_refl _) (.int .u32 (be32 bs 9 : Int))).setCell (p := ⟨w.heap.size, 10, none⟩) (Nat.le_refl _) (.int .u32 (be32 bs 10 : Int))).setCell (p := ⟨w.heap.size, 11, none⟩) (Nat.le_refl _) (.int .u32 (be32 bs 11 : Int))).setCell (p := ⟨w.heap.size, 12, none⟩) (Nat.le_refl _) (.int .u32 (be32 bs 12 : Int))).setCell (p := ⟨w.heap.size, 13, none⟩) (Nat.le_refl _) (.int .u32 (be32 bs 13 : Int))).setCell (p := ⟨w.heap.size, 14, none⟩) (Nat.le_refl _) (.int .u32 (be32 bs 14 : Int))).setCell (p := ⟨w.heap.size, 15, none⟩) (Nat.le_refl _) (.int .u32 (be32 bs 15 : Int)))
      refine bodyPost_ret (v := .agg #[.int .u32 (be32 bs 0 : Int), .int .u32 (be32 bs 1 : Int), .int .u32 (be32 bs 2 : Int), .int .u32 (be32 bs 3 : Int), .int .u32 (be32 bs 4 : Int), .int .u32 (be32 bs 5 : Int), .int .u32 (be32 bs 6 : Int), .int .u32 (be32 bs 7 : Int), .int .u32 (be32 bs 8 : Int), .int .u32 (be32 bs 9 : Int), .int .u32 (be32 bs 10 : Int), .int .u32 (be32 bs 11 : Int), .int .u32 (be32 bs 12 : Int), .int .u32 (be32 bs 13 : Int), .int .u32 (be32 bs 14 : Int), .int .u32 (be32 bs 15 : Int)]) ?h1 rfl ⟨rfl, hBz⟩
      simp [results, Tryd.results48, go_sem, r0, r1, r2, r3, r4, r5, r6, r7, r8, r9, r10, r11, r12, r13, r14, r15]

end Go.Proofs.YtfaldffehpgaiaaDoor.sha
