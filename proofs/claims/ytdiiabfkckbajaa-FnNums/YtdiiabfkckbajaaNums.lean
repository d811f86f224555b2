/- The statement FnNumsSaid: at every slice of bytes FnNums answers true, and the slice reads afterwards as before. No condition besides the row's own. -/
import Derived.Test.YtdiiabfkckbajaaRows
import Derived.Test.YtdiiabfkckbajaaBase
import Derived.Test.YtdiiabfkckbajaaHelp
import Derived.Test.YtdiiabfkckbajaaDraws1
import Derived.Test.YtdiiabfkckbajaaNumMath
import Derived.ProofKit
import Derived.OpenShut
import Derived.ShutString
import Derived.ChangeOld
import Derived.Below
namespace Go.Proofs.Ytdiiabfkckbajaa.fnNums
open Go.ChangeShapes Go.WideShapes Go.ChangeAt Go.RowKit
open Go.ChangeMaps (open_string shut_string)
set_option linter.unusedVariables false
open Go.Proofs.Ytdiiabfkckbajaa.base Go.Proofs.Ytdiiabfkckbajaa.help Go.Proofs.Ytdiiabfkckbajaa.draw Go.Proofs.Ytdiiabfkckbajaa.getnum Go.Proofs.Ytdiiabfkckbajaa.putnum Go.Proofs.Ytdiiabfkckbajaa.gettext Go.Proofs.Ytdiiabfkckbajaa.puttext Go.Proofs.Ytdiiabfkckbajaa.nummath

theorem big_ (a0 : Option Addr) (len0 cap0 : Nat) (w : World) (h : len0 ≤ maxLen) :
    Calls Try.prog 12 #[.slice a0 len0 cap0] w fun e w' => e = .returned (.bool (decide (1048576 < (len0 : Int)))) ∧ w' = w := by
  unfold maxLen at h
  go_enter Try.func12, Try.ntmps12
  go_wp2
  go_ret
  exact ⟨rfl, rfl⟩
theorem sl_take {w : World} {b off len n : Nat} {bs : List UInt8} (h : Sl w (some ⟨b, off, none⟩) len bs) (hn : n ≤ len) : Sl w (some ⟨b, off, none⟩) n (bs.take n) :=
  ⟨by have := h.1; simp; omega, by have := h.2.1; omega, fun _ => ⟨b, off, rfl, fun i hi => by
    have hi' : i < bs.length := by simp at hi; omega
    rw [h.at i hi']; simp⟩⟩

set_option maxRecDepth 100000 in
set_option maxHeartbeats 2000000 in
theorem walk (a0 : Option Addr) (len0 cap0 : Nat) (b0 : List UInt8) (w : World) (w0 : Sl w a0 len0 b0) :
    Calls Try.prog 3 #[.slice a0 len0 cap0] w fun e w' => e = .returned (.bool true) ∧ Below w.heap.size w w' := by
  have hm := w0.2.1
  by_cases hbig : 1048576 < len0
  · have hb := big_ a0 len0 cap0 w hm
    rw [decide_eq_true (by omega)] at hb
    have HB := Hid.mk' hb
    clear hb
    go_enter Try.func3, Try.ntmps3
    go_wp2_with fail
    refine HB.out.mono ?_
    rintro e wa ⟨rfl, rfl⟩
    go_wp2_with fail
    go_ret
    exact ⟨rfl, Below.refl _ _⟩
  · have hb := big_ a0 len0 cap0 w hm
    rw [decide_eq_false (by omega)] at hb
    have HB := Hid.mk' hb
    clear hb
    go_enter Try.func3, Try.ntmps3
    go_wp2_with fail
    refine HB.out.mono ?_
    rintro e wa ⟨rfl, hwa⟩
    subst hwa
    go_wp2_with fail
    refine (drawPutNum a0 len0 cap0 b0 _ w0 (by omega)).mono ?_
    rintro e w1 ⟨g, m, cp, bs, z, hm1, hz, rfl, hO1, hB1⟩
    go_wp2_with fail
    refine (impl_put _ m cp bs z _ hO1.sl hz (by omega)).mono ?_
    rintro e w2 ⟨g2, n2, cap2, rfl, hO2, hB2⟩
    have hB2' := hB1.trans (hB2.mono hB1.size)
    have hl1 := hO1.1
    have hl2 := hO2.1
    have hnb := numBytes_length z
    have hmx := hO2.max
    have hG1 := getNum_put bs [] z
    rw [List.append_nil] at hG1
    have hG2 := getNum_cut bs z (n2 - 1) (by simp only [List.length_append] at *; omega)
    have hT := sl_take (n := n2 - 1) hO2.sl (by omega)
    have hwf : (Lit.int .i64 (m : Int)).wf = true := WalkArith.wf_i64 (by omega)
    rw [hl1] at hG1 hG2
    generalize hLn : (numBytes z).length = L at *
    simp only [List.length_append, hLn, hl1] at hl2
    have HG1 := Hid.mk' hG1
    have HG2 := Hid.mk' hG2
    clear hG1 hG2 hLn hB1 hB2
    go_wp2_with fail
    refine (impl_get _ _ _ _ _ _ hO2.sl hwf).mono ?_
    rintro e w3 ⟨he, hw3⟩
    subst hw3
    rw [HG1.out, numRet] at he
    subst he
    have hcases : z < 0 ∨ 1000000000 < z ∨ (0 ≤ z ∧ z ≤ 1000000000) := by omega
    have hcz : (z < 0 → clamp z = 0) ∧ (1000000000 < z → clamp z = 1000000000) ∧ (0 ≤ z → z ≤ 1000000000 → (clamp z : Int) = z) := by
      unfold clamp; refine ⟨fun h => by rw [if_pos h], fun h => by rw [if_neg (by omega), if_pos h], fun h1 h2 => by rw [if_neg (by omega), if_neg (by omega)]; omega⟩
    generalize clamp z = C at *
    obtain ⟨hc1, hc2, hc3⟩ := hcz
    have hq2 : ((m : Int) + (L : Int) == (n2 : Int)) = true := by rw [beq_iff_eq]; omega
    have hcp : ¬ cap2 = 0 := by omega
    have hn2 : 1 ≤ n2 := by omega
    rcases hcases with hc | hc | ⟨hc, hc'⟩
    · have hq : ((C : Int) == 0) = true := by rw [hc1 hc]; rfl
      clear hc1 hc2 hc3
      go_wp2_with fail
      refine (impl_get _ _ _ _ _ _ hT hwf).mono ?_
      rintro e w4 ⟨he, hw4⟩
      subst hw4
      rw [HG2.out, numRet] at he
      subst he
      go_wp2_with fail
      refine (drawPutText a0 len0 cap0 b0 _ (w0.below hB2') (by omega)).mono ?_
      rintro e w5 ⟨g5, m5, cp5, bs5, ss, hm5, hss, rfl, hO5, hB5⟩
      have hB5' := hB2'.trans (hB5.mono hB2'.size)
      have hsz : (⟨ss.toArray⟩ : ByteArray).size = ss.length := by simp [ByteArray.size]
      generalize (⟨ss.toArray⟩ : ByteArray) = S at *
      go_wp2_with fail
      refine (puttext.impl_text _ m5 cp5 bs5 S _ hO5.sl (by omega) (by omega)).mono ?_
      rintro e w6 ⟨g6, n6, cap6, rfl, hO6, hB6⟩
      have hB6' := hB5'.trans (hB6.mono hB5'.size)
      have hl5 := hO5.1
      have hl6 := hO6.1
      have htb := textBytes_length S
      have hmx6 := hO6.max
      have hG6 := getText_put bs5 [] S (by omega)
      rw [List.append_nil, hl5] at hG6
      have hwf6 : (Lit.int .i64 (m5 : Int)).wf = true := WalkArith.wf_i64 (by omega)
      generalize hLn : (textBytes S).length = L6 at *
      simp only [List.length_append, hLn, hl5] at hl6
      have hq6 : ((m5 : Int) + (L6 : Int) == (n6 : Int)) = true := by rw [beq_iff_eq]; omega
      have HG6 := Hid.mk' hG6
      clear hG6 hLn
      go_wp2_with fail
      refine (gettext.impl_text _ _ _ _ _ _ hO6.sl hmx6.1 hwf6).mono ?_
      rintro e w7 ⟨he, hw7⟩
      subst hw7
      rw [HG6.out, textRet] at he
      subst he
      go_wp2_with fail
      go_ret
      exact ⟨rfl, hB6'⟩
    · have hq : ((C : Int) == 1000000000) = true := by rw [hc2 hc]; rfl
      clear hc1 hc2 hc3
      go_wp2_with fail
      refine (impl_get _ _ _ _ _ _ hT hwf).mono ?_
      rintro e w4 ⟨he, hw4⟩
      subst hw4
      rw [HG2.out, numRet] at he
      subst he
      go_wp2_with fail
      refine (drawPutText a0 len0 cap0 b0 _ (w0.below hB2') (by omega)).mono ?_
      rintro e w5 ⟨g5, m5, cp5, bs5, ss, hm5, hss, rfl, hO5, hB5⟩
      have hB5' := hB2'.trans (hB5.mono hB2'.size)
      have hsz : (⟨ss.toArray⟩ : ByteArray).size = ss.length := by simp [ByteArray.size]
      generalize (⟨ss.toArray⟩ : ByteArray) = S at *
      go_wp2_with fail
      refine (puttext.impl_text _ m5 cp5 bs5 S _ hO5.sl (by omega) (by omega)).mono ?_
      rintro e w6 ⟨g6, n6, cap6, rfl, hO6, hB6⟩
      have hB6' := hB5'.trans (hB6.mono hB5'.size)
      have hl5 := hO5.1
      have hl6 := hO6.1
      have htb := textBytes_length S
      have hmx6 := hO6.max
      have hG6 := getText_put bs5 [] S (by omega)
      rw [List.append_nil, hl5] at hG6
      have hwf6 : (Lit.int .i64 (m5 : Int)).wf = true := WalkArith.wf_i64 (by omega)
      generalize hLn : (textBytes S).length = L6 at *
      simp only [List.length_append, hLn, hl5] at hl6
      have hq6 : ((m5 : Int) + (L6 : Int) == (n6 : Int)) = true := by rw [beq_iff_eq]; omega
      have HG6 := Hid.mk' hG6
      clear hG6 hLn
      go_wp2_with fail
      refine (gettext.impl_text _ _ _ _ _ _ hO6.sl hmx6.1 hwf6).mono ?_
      rintro e w7 ⟨he, hw7⟩
      subst hw7
      rw [HG6.out, textRet] at he
      subst he
      go_wp2_with fail
      go_ret
      exact ⟨rfl, hB6'⟩
    · have hq : ((C : Int) == z) = true := by rw [beq_iff_eq]; exact hc3 hc hc'
      clear hc1 hc2 hc3
      go_wp2_with fail
      refine (impl_get _ _ _ _ _ _ hT hwf).mono ?_
      rintro e w4 ⟨he, hw4⟩
      subst hw4
      rw [HG2.out, numRet] at he
      subst he
      go_wp2_with fail
      refine (drawPutText a0 len0 cap0 b0 _ (w0.below hB2') (by omega)).mono ?_
      rintro e w5 ⟨g5, m5, cp5, bs5, ss, hm5, hss, rfl, hO5, hB5⟩
      have hB5' := hB2'.trans (hB5.mono hB2'.size)
      have hsz : (⟨ss.toArray⟩ : ByteArray).size = ss.length := by simp [ByteArray.size]
      generalize (⟨ss.toArray⟩ : ByteArray) = S at *
      go_wp2_with fail
      refine (puttext.impl_text _ m5 cp5 bs5 S _ hO5.sl (by omega) (by omega)).mono ?_
      rintro e w6 ⟨g6, n6, cap6, rfl, hO6, hB6⟩
      have hB6' := hB5'.trans (hB6.mono hB5'.size)
      have hl5 := hO5.1
      have hl6 := hO6.1
      have htb := textBytes_length S
      have hmx6 := hO6.max
      have hG6 := getText_put bs5 [] S (by omega)
      rw [List.append_nil, hl5] at hG6
      have hwf6 : (Lit.int .i64 (m5 : Int)).wf = true := WalkArith.wf_i64 (by omega)
      generalize hLn : (textBytes S).length = L6 at *
      simp only [List.length_append, hLn, hl5] at hl6
      have hq6 : ((m5 : Int) + (L6 : Int) == (n6 : Int)) = true := by rw [beq_iff_eq]; omega
      have HG6 := Hid.mk' hG6
      clear hG6 hLn
      go_wp2_with fail
      refine (gettext.impl_text _ _ _ _ _ _ hO6.sl hmx6.1 hwf6).mono ?_
      rintro e w7 ⟨he, hw7⟩
      subst hw7
      rw [HG6.out, textRet] at he
      subst he
      go_wp2_with fail
      go_ret
      exact ⟨rfl, hB6'⟩

theorem own : ownKnob Try.prog.godebug = none := by kernel_rfl
theorem laidOut : laidOutB Try.prog = true := by kernel_rfl

set_option maxRecDepth 100000 in
theorem lifted (os : Os) (started : os.Started) (H : Type) (enc : TypeId × Value → H) :
    ReturnsInHanded {} Try.checked os 3 .any (Rows.fnNumsSpec.pre6 enc Try.prog Try.f3 Rows.fnNumsRow.domain false) (Rows.fnNumsSpec.post enc Try.prog Try.f3 false true false false) := by
  refine returnsInHanded_of_change (C := Try.checked) own started (by kernel_rfl) Try.func3
    (ChangeSpec.witness6 (enc := enc) (C := Try.checked) false ⟨#[], #[.slice none 0 0], []⟩ 8 (by kernel_rfl) (by kernel_rfl) (by kernel_rfl) (by kernel_rfl)) ?_
  intro W base args ds gs before hval0 hW hcnd _
  have hval : ∀ (j : Nat) t v, Try.f3.params[j]? = some t → args[j]? = some v → Value.okWide Try.prog W .any base t v := hval0
  have hW' := hW
  obtain ⟨p, q, hA0, hV, rfl, hfz, hnd⟩ := hW
  have hA : DataW.TrodAll enc Try.prog W 0 (fun _ => true) true Try.f3.params.toList args.toList ds p := hA0
  rw [Try.params3] at hA hval
  obtain ⟨v0, vs0, d0, ds0, p0, q0, hargs, rfl, rfl, h0, r0⟩ := trodAll_cons hA
  obtain ⟨rfl, rfl, rfl⟩ := trodAll_nil r0
  obtain rfl : args = #[v0] := by cases args; simp_all
  obtain ⟨rfl, rfl⟩ := trodVars_none hV
  obtain ⟨a0, len0, cap0, rfl⟩ := okWide_slice Try.underlying22 (hval 0 22 v0 rfl rfl)
  have k0 := h0
  have lt0 : ∀ x ∈ p0, x.block < W.heap.size := by obtain ⟨m, hm⟩ := k0; exact DataW.trod_lt m _ _ _ hm
  obtain ⟨b0, w0⟩ : ∃ bs, Sl W a0 len0 bs := by
    obtain ⟨fuel, hf⟩ := h0
    rcases open_ints Try.underlying22 Try.underlying5 (by kernel_rfl) hf with ⟨hcs, _⟩ | ⟨x, l, c, zs, hcs, _, hl, hm, hz, _, hcell, hwz⟩
    · simp [Value.cells] at hcs
      obtain ⟨rfl, rfl, rfl⟩ := hcs
      exact ⟨[], sl_nil _ _⟩
    · simp [Value.cells] at hcs
      obtain ⟨rfl, rfl, rfl⟩ := hcs
      exact ⟨_, sl_of_ints hl hm (by simpa using hz) hcell hwz⟩
  clear hA0 hval0
  refine (walk a0 len0 cap0 b0 W w0).mono fun e W' ⟨he, bel⟩ => ?_
  subst he
  exact ⟨_, rfl, _, _, _, [], _, [], hW', trodAll_mk1 (shut_bool Try.underlying4 _), (trodAll_cons_mk (Below.trod laidOut (by kernel_rfl) (of_decide_eq_true (by kernel_rfl)) k0 bel lt0) trodAll_mk0), rfl, bel.frame _, fun h => by cases h⟩

theorem over : Rows.fnNumsRow.holds Try.pinned (OpenSpec.ofChange Rows.fnNumsSpec) :=
  OpenClaim.holds_of_wide 3 Try.f3 rfl rfl rfl rfl rfl rfl rfl ⟨rfl, rfl, rfl, rfl, rfl⟩ rfl rfl rfl rfl rfl (by kernel_rfl) Try.func3 (by kernel_rfl)
    (of_decide_eq_true (by kernel_rfl)) (by unfold Func.isWrapper; first | (rw [if_pos (by decide +kernel)]; kernel_rfl) | (rw [if_neg (by decide +kernel)]; exact ⟨rfl, rfl⟩))
    (fun os started H enc _ => lifted os started H enc)

theorem proved : Rows.FnNumsSaid := over
end Go.Proofs.Ytdiiabfkckbajaa.fnNums
