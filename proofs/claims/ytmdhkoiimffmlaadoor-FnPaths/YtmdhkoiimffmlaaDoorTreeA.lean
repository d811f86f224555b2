/- The program's bytes of leaves, nodes and roots, and their digests. -/
import Derived.Test.YtmdhkoiimffmlaaDoorTreeB
import Derived.Test.YtmdhkoiimffmlaaDoorTreeC
import Derived.Test.YtmdhkoiimffmlaaDoorShaE
namespace Go.Proofs.YtmdhkoiimffmlaaDoor.tree
open Go Go.RowKit Go.Proofs.YtmdhkoiimffmlaaDoor.base Go.Proofs.YtmdhkoiimffmlaaDoor.pairs Go.Proofs.YtmdhkoiimffmlaaDoor.puttext Go.Proofs.YtmdhkoiimffmlaaDoor.putnum
set_option linter.unusedVariables false
set_option linter.unusedSimpArgs false

theorem texts_two (a b : ByteArray) : textsBytes [a, b] = textBytes a ++ textBytes b := by simp [textsBytes]
set_option maxRecDepth 100000 in
set_option maxHeartbeats 1000000 in
theorem impl_leafBytes (p : Pr) (w : World) (hp : lim p) :
    Calls Tryd.prog 56 #[.agg #[.string p.1, .string p.2]] w fun e w' =>
      ∃ g' n' cap', e = .returned (.slice (some ⟨g', 0, none⟩) n' cap') ∧ Own w' w.heap.size g' n' cap' (leafB p) ∧ Below w.heap.size w w' := by
  have hp1 := hp.1
  have hp2 := hp.2
  have ht1 := textBytes_length p.1
  have ht2 := textBytes_length p.2
  obtain ⟨W0, hW0⟩ : ∃ W, W = w.alloc (.cells #[.string p.1, .string p.2] 38) := ⟨_, rfl⟩
  obtain ⟨W1, hW1⟩ : ∃ W, W = W0.alloc (.cells #[.int .u8 0] 5) := ⟨_, rfl⟩
  have hs0 : W0.heap.size = w.heap.size + 1 := by rw [hW0]; simp
  have hs1 : W1.heap.size = w.heap.size + 1 + 1 := by rw [hW1]; simp [hs0]
  have hB0 : Below w.heap.size w W0 := by rw [hW0]; exact (Below.refl _ _).alloc (Nat.le_refl _) _
  have hB1 : Below w.heap.size w W1 := by rw [hW1]; exact hB0.alloc hB0.size _
  have hB2 : Below w.heap.size w (W1.alloc (.cells #[.string p.1, .string p.2] 9)) := hB1.alloc hB1.size _
  have hO1 : Own W1 w.heap.size W0.heap.size 1 1 [0] := by rw [hW1]; exact own_one W0 0 0 rfl w.heap.size hB0.size
  have hO2 : Own (W1.alloc (.cells #[.string p.1, .string p.2] 9)) w.heap.size (w.heap.size + 1) 1 1 [0] := by
    have := hO1.below ((Below.refl W1.heap.size W1).alloc (Nat.le_refl _) (.cells #[.string p.1, .string p.2] 9))
    rw [hs0] at this; exact this
  have hS : SlS (W1.alloc (.cells #[.string p.1, .string p.2] 9)) (some ⟨w.heap.size + 1 + 1, 0, none⟩) 2 [p.1, p.2] := by
    refine ⟨rfl, by unfold maxLen; omega, fun s hs => ?_, fun _ => ⟨_, _, rfl, fun i hi => ?_⟩⟩
    · simp at hs; unfold maxLen; rcases hs with rfl | rfl <;> omega
    · rw [← hs1]
      match i, hi with
      | 0, _ => simp
      | 1, _ => simp
  have hblk : ∀ b off, (some ⟨w.heap.size + 1 + 1, 0, none⟩ : Option Addr) = some ⟨b, off, none⟩ → ∃ cur mk, (W1.alloc (.cells #[.string p.1, .string p.2] 9)).heap[b]? = some (.cells cur 9 mk) := by
    intro b off e
    simp only [Option.some.injEq, Addr.mk.injEq, and_true] at e
    obtain ⟨rfl, rfl⟩ := e
    rw [← hs1]
    exact ⟨_, _, heap_alloc_new W1 _⟩
  have hA := addTexts (w.heap.size + 1) 1 1 w.heap.size [0] (some ⟨w.heap.size + 1 + 1, 0, none⟩) 2 2 [p.1, p.2] _ hO2 hB2.size hS hblk (by rw [texts_two, List.length_append]; omega) (fun s hs => by simp at hs; rcases hs with rfl | rfl <;> omega)
  rw [texts_two] at hA
  have HA := Hid.mk' hA
  have HB := Hid.mk' hB2
  have HW : Hid (W1 = (w.alloc (.cells #[.string p.1, .string p.2] 38)).alloc (.cells #[.int .u8 0] 5)) := by show _ = _; rw [hW1, hW0]
  clear hA hO1 hO2 hS hblk hB0 hB1 hB2 hW0 hW1 hs0 hs1 ht1 ht2
  have HA2 := HA
  rw [HW.out] at HA HB
  clear HA2
  go_enter Tryd.func56, Tryd.ntmps56
  go_wp2_with fail
  refine HA.out.mono ?_
  rintro e w1 ⟨g1, n1, cap1, rfl, hO, hb, _⟩
  have HO := Hid.mk' hO
  have hB : Below w.heap.size w w1 := HB.out.trans hb
  clear hO hb
  go_wp2_with fail
  go_ret
  exact ⟨g1, n1, cap1, rfl, by have := HO.out; rw [← List.append_assoc] at this; exact this, hB⟩

set_option maxHeartbeats 1000000 in
theorem impl_leafOf (p : Pr) (w : World) (hp : lim p) (hK : sha.KW w) :
    Calls Tryd.prog 24 #[.agg #[.string p.1, .string p.2]] w fun e w' => e = .returned (.string (leafOf p)) ∧ Below w.heap.size w w' := by
  have hba : Below w.heap.size w (w.alloc (.cells #[.string p.1, .string p.2] 38)) := (Below.refl _ _).alloc (Nat.le_refl _) _
  have hlen := leafB_length p
  have hp1 := hp.1
  have hp2 := hp.2
  have HL := Hid.mk' (impl_leafBytes p (w.alloc (.cells #[.string p.1, .string p.2] 38)) hp)
  go_enter Tryd.func24, Tryd.ntmps24
  go_wp2_with fail
  refine HL.out.mono ?_
  rintro e w1 ⟨g, n, cp, rfl, hO, hb1⟩
  have hB1 : Below w.heap.size w w1 := hba.trans (hb1.mono hba.size)
  have hn : n ≤ 1099511627776 := by have := hO.1; omega
  have HD := Hid.mk' (sha.impl_digest g 0 n cp (leafB p) w1 hO.sl hn (hK.below hB1))
  clear hO hb1 hba
  go_wp2_with fail
  refine HD.out.mono ?_
  rintro e w2 ⟨rfl, hb2⟩
  have hB2 : Below w.heap.size w w2 := hB1.trans (hb2.mono hB1.size)
  go_wp2_with fail
  go_ret
  exact ⟨rfl, hB2⟩

set_option maxRecDepth 100000 in
set_option maxHeartbeats 1000000 in
theorem impl_nodeBytes (a b : ByteArray) (w : World) (ha : a.size ≤ 137438953472) (hb : b.size ≤ 137438953472) :
    Calls Tryd.prog 42 #[.string a, .string b] w fun e w' =>
      ∃ g' n' cap', e = .returned (.slice (some ⟨g', 0, none⟩) n' cap') ∧ Own w' w.heap.size g' n' cap' (nodeB a b) ∧ Below w.heap.size w w' := by
  obtain ⟨i0, hi, hz0, hz1, hz2⟩ := info_parts info8
  have hO0 := own_one w 1 1 rfl w.heap.size (Nat.le_refl _)
  have hB0 : Below w.heap.size w (w.alloc (.cells #[.int .u8 1] 5)) := (Below.refl _ _).alloc (Nat.le_refl _) _
  have hc3 : 1 + a.size ≤ maxLen := by unfold maxLen; omega
  have hc4 : 1 + a.size ≤ 140737488355328 := by omega
  go_enter Tryd.func42, Tryd.ntmps42
  go_wp2_with (at_builtin; refine Lib.wpList_append_own_string _ rfl (.tmp 5) (.tmp 6) 22 9 rfl w.heap.size 5 i0 Tryd.underlying22 Tryd.underlying9 hi hz0 hz1 hz2 _ _ _ rfl hO0.2 a rfl hc3 hc4 hB0.size ?_)
  intro v1 w1 hown hgrow hnn
  have hnn' : ¬ v1 = .slice none 0 0 := by simpa using hnn
  rw [strCells_eq] at hown
  obtain ⟨g1, cap1, hv, hO1⟩ := own_app (m := a.size) (ns := a.data.toList) hO0.1 (size_toList a) rfl hnn' hown
  subst hv
  have hB1 : Below w.heap.size w w1 := hB0.grown hgrow hB0.size (fun k e => by simp [Value.ownBlock] at e; omega)
  have hc5 : 1 + a.size + b.size ≤ maxLen := by unfold maxLen; omega
  have hc6 : 1 + a.size + b.size ≤ 140737488355328 := by omega
  have hs1 := hB1.size
  clear hown hgrow hnn hnn' hO0 hB0 hc3 hc4
  go_wp2_with (at_builtin; refine Lib.wpList_append_own_string _ rfl (.tmp 7) (.tmp 8) 22 9 rfl w.heap.size 5 i0 Tryd.underlying22 Tryd.underlying9 hi hz0 hz1 hz2 _ _ _ rfl hO1.2 b rfl hc5 hc6 hs1 ?_)
  intro v2 w2 hown hgrow hnn
  have hnn' : ¬ v2 = .slice none 0 0 := by simpa using hnn
  rw [strCells_eq] at hown
  obtain ⟨g2, cap2, hv, hO2⟩ := own_app (m := b.size) (ns := b.data.toList) hO1.1 (size_toList b) rfl hnn' hown
  subst hv
  have hB2 : Below w.heap.size w w2 := hB1.grown hgrow hs1 (fun k e => by simp [Value.ownBlock] at e; have := hO1.lt; omega)
  have HO := Hid.mk' hO2
  clear hown hgrow hnn hnn' hO1 hB1 hO2
  go_wp2_with fail
  go_ret
  exact ⟨g2, _, cap2, rfl, HO.out, hB2⟩

set_option maxHeartbeats 1000000 in
theorem impl_nodeOf (a b : ByteArray) (w : World) (ha : a.size ≤ 137438953472) (hb : b.size ≤ 137438953472) (hK : sha.KW w) :
    Calls Tryd.prog 13 #[.string a, .string b] w fun e w' => e = .returned (.string (nodeOf a b)) ∧ Below w.heap.size w w' := by
  have hlen := nodeB_length a b
  have HL := Hid.mk' (impl_nodeBytes a b w ha hb)
  go_enter Tryd.func13, Tryd.ntmps13
  go_wp2_with fail
  refine HL.out.mono ?_
  rintro e w1 ⟨g, n, cp, rfl, hO, hB1⟩
  have hn : n ≤ 1099511627776 := by have := hO.1; omega
  have HD := Hid.mk' (sha.impl_digest g 0 n cp (nodeB a b) w1 hO.sl hn (hK.below hB1))
  clear hO
  go_wp2_with fail
  refine HD.out.mono ?_
  rintro e w2 ⟨rfl, hb2⟩
  have hB2 : Below w.heap.size w w2 := hB1.trans (hb2.mono hB1.size)
  go_wp2_with fail
  go_ret
  exact ⟨rfl, hB2⟩

set_option maxRecDepth 100000 in
set_option maxHeartbeats 1000000 in
theorem impl_rootBytes (N : Int) (x : ByteArray) (w : World) (hN : (Lit.int .i64 N).wf = true) (hx : x.size ≤ 137438953472) :
    Calls Tryd.prog 52 #[.int .i64 N, .string x] w fun e w' =>
      ∃ g' n' cap', e = .returned (.slice (some ⟨g', 0, none⟩) n' cap') ∧ Own w' w.heap.size g' n' cap' (topB N x) ∧ Below w.heap.size w w' := by
  obtain ⟨i0, hi, hz0, hz1, hz2⟩ := info_parts info8
  have hO0 := own_one w 2 2 rfl w.heap.size (Nat.le_refl _)
  have hB0 : Below w.heap.size w (w.alloc (.cells #[.int .u8 2] 5)) := (Below.refl _ _).alloc (Nat.le_refl _) _
  have HP := Hid.mk' (addNum w.heap.size 1 1 w.heap.size [2] N _ hO0 hB0.size hN (by omega))
  have hnl := numBytes_length N
  go_enter Tryd.func52, Tryd.ntmps52
  go_wp2_with (at_builtin; fail)
  refine HP.out.mono ?_
  rintro e w1 ⟨g1, n1, cap1, rfl, hO1', hb1, _⟩
  have hB1 : Below w.heap.size w w1 := hB0.trans hb1
  have hn1 : n1 ≤ 6 := by have := hO1'.1; simp at this; omega
  have hc5 : n1 + x.size ≤ maxLen := by unfold maxLen; omega
  have hc6 : n1 + x.size ≤ 140737488355328 := by omega
  have hs1 := hB1.size
  clear hb1 hO0 hB0 HP hnl
  go_wp2_with (at_builtin; refine Lib.wpList_append_own_string _ rfl (.tmp 7) (.tmp 8) 22 9 rfl w.heap.size 5 i0 Tryd.underlying22 Tryd.underlying9 hi hz0 hz1 hz2 _ _ _ rfl hO1'.2 x rfl hc5 hc6 hs1 ?_)
  intro v2 w2 hown hgrow hnn
  have hnn' : ¬ v2 = .slice none 0 0 := by simpa using hnn
  rw [strCells_eq] at hown
  obtain ⟨g2, cap2, hv, hO2⟩ := own_app (m := x.size) (ns := x.data.toList) hO1'.1 (size_toList x) rfl hnn' hown
  subst hv
  have hB2 : Below w.heap.size w w2 := hB1.grown hgrow hs1 (fun k e => by simp [Value.ownBlock] at e; have := hO1'.lt; omega)
  have HO := Hid.mk' hO2
  clear hown hgrow hnn hnn' hO1' hB1 hO2
  go_wp2_with fail
  go_ret
  exact ⟨g2, _, cap2, rfl, HO.out, hB2⟩
end Go.Proofs.YtmdhkoiimffmlaaDoor.tree
