/- The statement FnExactPutTextsSaid: at every slice of bytes and every slice of strings FnExactPutTexts answers true, and the arguments read afterwards as before. No condition besides the row's own. -/
import Derived.Test.YtdiiabfkckbajaaRows
import Derived.Test.YtdiiabfkckbajaaBase
import Derived.Test.YtdiiabfkckbajaaHelp
import Derived.Test.YtdiiabfkckbajaaTrio
import Derived.Test.YtdiiabfkckbajaaTrioS
import Derived.Test.YtdiiabfkckbajaaPutTexts
import Derived.SliceStrings
import Derived.ProofKit
import Derived.OpenShut
import Derived.ShutString
import Derived.ChangeOld
import Derived.Below
namespace Go.Proofs.Ytdiiabfkckbajaa.fnExactPutTexts
open Go.ChangeShapes Go.WideShapes Go.ChangeAt Go.RowKit
open Go.ChangeMaps (open_string shut_string)
set_option linter.unusedVariables false
open Go.Proofs.Ytdiiabfkckbajaa.base Go.Proofs.Ytdiiabfkckbajaa.help Go.Proofs.Ytdiiabfkckbajaa.helps Go.Proofs.Ytdiiabfkckbajaa.putnum Go.Proofs.Ytdiiabfkckbajaa.puttext Go.Proofs.Ytdiiabfkckbajaa.puttexts

theorem markSI (g len cap base : Nat) (ss : List ByteArray) (n : Int) (k0 : Nat) (w : World) (h : OwnS w base g len cap ss) (hn : Hid (n = (k0 : Int))) (hk1 : 1 ≤ k0) (hk0 : k0 + len ≤ 1099511627776) :
    Calls Try.prog 38 #[.slice (some ⟨g, 0, none⟩) len cap, .int .i64 n] w fun e w' => e = .returned (.int .i64 ((k0 + len : Nat) : Int)) ∧ OwnS w' base g len cap (markS k0 len) ∧ w.grownBy w' (some g) := by
  have e := hn.out
  subst e
  exact markStringS g len cap k0 base ss w h hk1 hk0

structure Quad (w0 w : World) (gx lx cx : Nat) (X : List UInt8) (gy ly cy : Nat) (Y : List ByteArray) (gg lg cg : Nat) (G : List UInt8) (gw lw cw : Nat) (W : List UInt8) : Prop where
  t : Trio w0 w gx lx cx X gg lg cg G gw lw cw W
  y : OwnS w w0.heap.size gy ly cy Y
  yx : gy ≠ gx
  yg : gy ≠ gg
  yw : gy ≠ gw
section
variable {w0 w w' : World} {gx lx cx gy ly cy gg lg cg gw lw cw : Nat} {X G W : List UInt8} {Y : List ByteArray}
theorem Quad.below (h : Quad w0 w gx lx cx X gy ly cy Y gg lg cg G gw lw cw W) (hb : Below w.heap.size w w') : Quad w0 w' gx lx cx X gy ly cy Y gg lg cg G gw lw cw W :=
  ⟨h.t.below hb, h.y.below hb, h.yx, h.yg, h.yw⟩
theorem Quad.markX (h : Quad w0 w gx lx cx X gy ly cy Y gg lg cg G gw lw cw W) {X' : List UInt8} (ho : Own w' w0.heap.size gx lx cx X') (hg : w.grownBy w' (some gx)) : Quad w0 w' gx lx cx X' gy ly cy Y gg lg cg G gw lw cw W :=
  ⟨h.t.markX ho hg, h.y.grown hg (by simpa using h.yx), h.yx, h.yg, h.yw⟩
theorem Quad.markG (h : Quad w0 w gx lx cx X gy ly cy Y gg lg cg G gw lw cw W) {G' : List UInt8} (ho : Own w' w0.heap.size gg lg cg G') (hg : w.grownBy w' (some gg)) : Quad w0 w' gx lx cx X gy ly cy Y gg lg cg G' gw lw cw W :=
  ⟨h.t.markG ho hg, h.y.grown hg (by simpa using h.yg), h.yx, h.yg, h.yw⟩
theorem Quad.markY (h : Quad w0 w gx lx cx X gy ly cy Y gg lg cg G gw lw cw W) {Y' : List ByteArray} (ho : OwnS w' w0.heap.size gy ly cy Y') (hg : w.grownBy w' (some gy)) : Quad w0 w' gx lx cx X gy ly cy Y' gg lg cg G gw lw cw W :=
  ⟨⟨h.t.bel.grown hg h.t.bel.size (fun k e => by cases e; exact h.y.lt.1), h.t.x.grown hg (by simpa using h.yx.symm), h.t.g.grown hg (by simpa using h.yg.symm), h.t.s.grown hg (by simpa using h.yw.symm), h.t.xg, h.t.xs, h.t.gs⟩, ho, h.yx, h.yg, h.yw⟩
end

set_option maxRecDepth 100000 in
set_option maxHeartbeats 1000000 in
theorem walk (a0 : Option Addr) (len0 cap0 : Nat) (b0 : List UInt8) (a1 : Option Addr) (len1 cap1 : Nat) (b1 : List ByteArray) (w : World) (w0 : Sl w a0 len0 b0) (w1 : SlS w a1 len1 b1) :
    Calls Try.prog 9 #[.slice a0 len0 cap0, .slice a1 len1 cap1] w fun e w' => e = .returned (.bool true) ∧ Below w.heap.size w w' := by
  have hm := w0.2.1
  unfold maxLen at hm
  have hl0 := w0.1
  have hl1 := w1.1
  have hnb := numBytes_length (b1.length : Int)
  have hts := textsBytes_sum b1
  by_cases hbig : 1048576 < len0
  · go_enter Try.func9, Try.ntmps9
    go_wp2_with fail
    go_ret
    exact ⟨rfl, Below.refl _ _⟩
  have hz : Hid (Calls Try.prog 34 #[.slice a1 len1 cap1, .int .i64 1048576] w fun e w' => e = .returned (.int .i64 (szR 1048576 (b1.length + sum b1))) ∧ w' = w) :=
    szStringS a1 len1 cap1 b1 1048576 w w1 (by omega)
  by_cases hbig2 : 1048576 < b1.length + sum b1
  · rw [szR_neg hbig2] at hz
    go_enter Try.func9, Try.ntmps9
    go_wp2_with fail
    refine hz.out.mono ?_
    rintro e w2 ⟨rfl, rfl⟩
    go_wp2_with fail
    go_ret
    exact ⟨rfl, Below.refl _ _⟩
  rw [szR_pos (by omega)] at hz
  have hszp : 0 ≤ ((1048576 : Nat) : Int) - ((b1.length + sum b1 : Nat) : Int) := by omega
  generalize ((1048576 : Nat) : Int) - ((b1.length + sum b1 : Nat) : Int) = left at *
  go_enter Try.func9, Try.ntmps9
  go_wp2_with fail
  refine hz.out.mono ?_
  rintro e w2 ⟨rfl, hw2⟩
  subst hw2
  go_wp2_with fail
  refine (toByteS a0 len0 cap0 b0 _ w0 (by omega)).mono ?_
  rintro e wa ⟨g1, rfl, hO1, hB1⟩
  go_wp2_with fail
  refine (toStringS a1 len1 cap1 b1 _ (w1.below hB1) (by omega)).mono ?_
  rintro e wa2 ⟨g2, rfl, hO2, hB2⟩
  have hB2' := hB1.trans (hB2.mono hB1.size)
  go_wp2_with fail
  refine (puttexts.spec_texts g1 0 len0 len0 b0 _ len1 len1 b1 _ (hO1.below hB2).sl hO2.sl (by omega) (by omega)).mono ?_
  rintro e wb ⟨gw, lw, cw, rfl, hOw, hBw⟩
  have hBw' := hB2'.trans (hBw.mono hB2'.size)
  have hOw' := hOw.mono hB2'.size
  clear hO1 hB1 hO2 hB2 hOw
  go_wp2_with fail
  refine (toByteS a0 len0 cap0 b0 _ (w0.below hBw') (by omega)).mono ?_
  rintro e wc ⟨gx, rfl, hOx, hBx⟩
  have hBx' := hBw'.trans (hBx.mono hBw'.size)
  go_wp2_with fail
  refine (toStringS a1 len1 cap1 b1 _ (w1.below hBx') (by omega)).mono ?_
  rintro e wc2 ⟨gy, rfl, hOy, hBy⟩
  have hBy' := hBx'.trans (hBy.mono hBx'.size)
  go_wp2_with fail
  refine (puttexts.impl_texts _ len0 len0 b0 gy _ len1 len1 b1 _ (hOx.below hBy).sl hOy (by omega) (by omega)).mono ?_
  rintro e wd ⟨gg, lg, cg, rfl, hOg, hBg⟩
  have hBg' := hBy'.trans (hBg.mono hBy'.size)
  have T1 : Quad w2 wd gx len0 len0 b0 gy len1 len1 b1 gg lg cg (b0 ++ listBytes b1) gw lw cw (b0 ++ listBytes b1) := by
    have l1 := hOx.lt
    have l2 := hOy.lt
    have l3 := hOg.lt
    have l4 := hOw'.lt
    have s1 := hBx.size
    have s2 := hBy.size
    refine ⟨⟨hBg', ((hOx.below hBy).below hBg).mono hBw'.size, hOg.mono hBy'.size, ((hOw'.below hBx).below hBy).below hBg, by omega, by omega, by omega⟩, (hOy.below hBg).mono hBx'.size, by omega, by omega, by omega⟩
  have hlg : lg ≤ 8388608 := by have := T1.t.g.1; simp [listBytes] at this; omega
  clear hOw' hBw hBw' hOx hBx hBx' hOy hBy hBy' hOg hBg hBg' hB2'
  go_wp2_with fail
  refine (eqB _ _ _ _ _ _ _ _ _ T1.t.g.sl T1.t.s.sl rfl).mono ?_
  rintro e w2a ⟨rfl, hB⟩
  have T2 := T1.below hB
  clear T1 hB
  go_wp2_with fail
  refine (toByteS a0 len0 cap0 b0 _ (w0.below T2.t.bel) (by omega)).mono ?_
  rintro e w3 ⟨gu, rfl, hOu, hBu⟩
  have T3 := T2.below hBu
  clear T2 hBu
  go_wp2_with fail
  refine (eqB _ _ _ _ _ _ _ _ _ T3.t.x.sl hOu.sl rfl).mono ?_
  rintro e w4 ⟨rfl, hB⟩
  have T4 := T3.below hB
  clear T3 hB hOu
  go_wp2_with fail
  refine (toStringS a1 len1 cap1 b1 _ (w1.below T4.t.bel) (by omega)).mono ?_
  rintro e w4b ⟨gv, rfl, hOv, hBv⟩
  have T4b := T4.below hBv
  clear T4 hBv
  go_wp2_with fail
  refine (eqS _ _ _ _ _ _ _ _ _ T4b.y.sl hOv.sl rfl).mono ?_
  rintro e w4c ⟨rfl, hB⟩
  have T4c := T4b.below hB
  clear T4b hB hOv
  go_wp2_with fail
  refine (mark1 _ _ _ _ _ _ T4c.t.x (by omega)).mono ?_
  rintro e w5 ⟨rfl, hx5, hg5⟩
  have T5 := T4c.markX hx5 hg5
  clear T4c hx5 hg5
  go_wp2_with fail
  refine (markSI _ _ _ _ _ _ (1 + len0) _ T5.y (by show _ = _; omega) (by omega) (by omega)).mono ?_
  rintro e w5b ⟨rfl, hx5, hg5⟩
  have T5b := T5.markY hx5 hg5
  clear T5 hx5 hg5
  go_wp2_with fail
  refine (eqB _ _ _ _ _ _ _ _ _ T5b.t.g.sl T5b.t.s.sl rfl).mono ?_
  rintro e w6 ⟨rfl, hB⟩
  have T6 := T5b.below hB
  clear T5b hB
  go_wp2_with fail
  refine (mark1 _ _ _ _ _ _ T6.t.g (by omega)).mono ?_
  rintro e w7 ⟨rfl, hx7, hg7⟩
  have T7 := T6.markG hx7 hg7
  clear T6 hx7 hg7
  go_wp2_with fail
  refine (held1 _ _ _ _ T7.t.g.sl (by omega)).mono ?_
  rintro e w8 ⟨rfl, hB⟩
  have T8 := T7.below hB
  clear T7 hB
  go_wp2_with fail
  refine (toByteS a0 len0 cap0 b0 _ (w0.below T8.t.bel) (by omega)).mono ?_
  rintro e w9 ⟨gz, rfl, hOz, hBz⟩
  have T9 := T8.below hBz
  clear T8 hBz
  go_wp2_with fail
  refine (toStringS a1 len1 cap1 b1 _ (w1.below T9.t.bel) (by omega)).mono ?_
  rintro e w9b ⟨gq, rfl, hOq, hBq⟩
  have T9b := T9.below hBq
  clear T9
  go_wp2_with fail
  refine (puttexts.impl_texts _ len0 len0 b0 gq _ len1 len1 b1 _ (hOz.below hBq).sl hOq (by omega) (by omega)).mono ?_
  rintro e w10 ⟨gh, lh, ch, rfl, hOh, hBh⟩
  have T10 := T9b.below hBh
  clear T9b hBh hOz hOq hBq
  go_wp2_with fail
  refine (eqB _ _ _ _ _ _ _ _ _ hOh.sl T10.t.s.sl rfl).mono ?_
  rintro e w11 ⟨rfl, hB⟩
  have T11 := T10.below hB
  clear T10 hB hOh
  go_wp2_with fail
  refine (held1 _ _ _ _ T11.t.g.sl (by omega)).mono ?_
  rintro e w12 ⟨rfl, hB⟩
  have T12 := T11.below hB
  clear T11 hB
  go_wp2_with fail
  go_ret
  exact ⟨rfl, T12.t.bel⟩

theorem own : ownKnob Try.prog.godebug = none := by kernel_rfl
theorem laidOut : laidOutB Try.prog = true := by kernel_rfl

set_option maxRecDepth 100000 in
theorem lifted (os : Os) (started : os.Started) (H : Type) (enc : TypeId × Value → H) :
    ReturnsInHanded {} Try.checked os 9 .any (Rows.fnExactPutTextsSpec.pre6 enc Try.prog Try.f9 Rows.fnExactPutTextsRow.domain false) (Rows.fnExactPutTextsSpec.post enc Try.prog Try.f9 false true false false) := by
  refine returnsInHanded_of_change (C := Try.checked) own started (by kernel_rfl) Try.func9
    (ChangeSpec.witness6 (enc := enc) (C := Try.checked) false ⟨#[], #[.slice none 0 0, .slice none 0 0], []⟩ 8 (by kernel_rfl) (by kernel_rfl) (by kernel_rfl) (by kernel_rfl)) ?_
  intro W base args ds gs before hval0 hW hcnd _
  have hval : ∀ (j : Nat) t v, Try.f9.params[j]? = some t → args[j]? = some v → Value.okWide Try.prog W .any base t v := hval0
  have hW' := hW
  obtain ⟨p, q, hA0, hV, rfl, hfz, hnd⟩ := hW
  have hA : DataW.TrodAll enc Try.prog W 0 (fun _ => true) true Try.f9.params.toList args.toList ds p := hA0
  rw [Try.params9] at hA hval
  obtain ⟨v0, vs0, d0, ds0, p0, q0, hargs, rfl, rfl, h0, r0⟩ := trodAll_cons hA
  obtain ⟨v1, vs1, d1, ds1, p1, q1, rfl, rfl, rfl, h1, r1⟩ := trodAll_cons r0
  obtain ⟨rfl, rfl, rfl⟩ := trodAll_nil r1
  obtain rfl : args = #[v0, v1] := by cases args; simp_all
  obtain ⟨rfl, rfl⟩ := trodVars_none hV
  obtain ⟨a0, len0, cap0, rfl⟩ := okWide_slice Try.underlying22 (hval 0 22 v0 rfl rfl)
  have k0 := h0
  have lt0 : ∀ x ∈ p0, x.block < W.heap.size := by obtain ⟨m, hm⟩ := k0; exact DataW.trod_lt m _ _ _ hm
  obtain ⟨b0, w0⟩ : ∃ bs, Sl W a0 len0 bs := by
    obtain ⟨fuel, hf⟩ := h0
    rcases open_ints Try.underlying22 Try.underlying5 (by kernel_rfl) hf with ⟨hcs, _⟩ | ⟨x, l, c, zs, hcs, _, hl, hm, hz, _, hcell, hwz⟩
    · simp [Value.cells] at hcs
      obtain ⟨rfl, rfl, rfl⟩ := hcs
      exact ⟨[], sl_nil _ _⟩
    · simp [Value.cells] at hcs
      obtain ⟨rfl, rfl, rfl⟩ := hcs
      exact ⟨_, sl_of_ints hl hm (by simpa using hz) hcell hwz⟩
  obtain ⟨a1, len1, cap1, rfl⟩ := okWide_slice Try.underlying34 (hval 1 34 v1 rfl rfl)
  have k1 := h1
  have lt1 : ∀ x ∈ p1, x.block < W.heap.size := by obtain ⟨m, hm⟩ := k1; exact DataW.trod_lt m _ _ _ hm
  obtain ⟨b1, w1⟩ : ∃ ss, SlS W a1 len1 ss := by
    obtain ⟨fuel, hf⟩ := h1
    rcases open_strings Try.underlying34 Try.underlying9 (by kernel_rfl) hf with ⟨hcs, _⟩ | ⟨x, l, c, zs, hcs, _, hl, hm, hz, _, hcell, hwz⟩
    · simp [Value.cells] at hcs
      obtain ⟨rfl, rfl, rfl⟩ := hcs
      exact ⟨[], sls_nil _ _⟩
    · simp [Value.cells] at hcs
      obtain ⟨rfl, rfl, rfl⟩ := hcs
      exact ⟨_, sls_of_strings hl hm (by simpa using hz) hcell hwz⟩
  clear hA0 hval0
  refine (walk a0 len0 cap0 b0 a1 len1 cap1 b1 W w0 w1).mono fun e W' ⟨he, bel⟩ => ?_
  subst he
  exact ⟨_, rfl, _, _, _, [], _, [], hW', trodAll_mk1 (shut_bool Try.underlying4 _), (trodAll_cons_mk (Below.trod laidOut (by kernel_rfl) (of_decide_eq_true (by kernel_rfl)) k0 bel lt0) (trodAll_cons_mk (Below.trod laidOut (by kernel_rfl) (of_decide_eq_true (by kernel_rfl)) k1 bel lt1) trodAll_mk0)), rfl, bel.frame _, fun h => by cases h⟩

theorem over : Rows.fnExactPutTextsRow.holds Try.pinned (OpenSpec.ofChange Rows.fnExactPutTextsSpec) :=
  OpenClaim.holds_of_wide 9 Try.f9 rfl rfl rfl rfl rfl rfl rfl ⟨rfl, rfl, rfl, rfl, rfl⟩ rfl rfl rfl rfl rfl (by kernel_rfl) Try.func9 (by kernel_rfl)
    (of_decide_eq_true (by kernel_rfl)) (by unfold Func.isWrapper; first | (rw [if_pos (by decide +kernel)]; kernel_rfl) | (rw [if_neg (by decide +kernel)]; exact ⟨rfl, rfl⟩))
    (fun os started H enc _ => lifted os started H enc)

theorem proved : Rows.FnExactPutTextsSaid := over
end Go.Proofs.Ytdiiabfkckbajaa.fnExactPutTexts
