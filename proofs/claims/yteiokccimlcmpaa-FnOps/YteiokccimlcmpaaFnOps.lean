/- The statement FnOpsSaid: at every slice of bytes FnOps answers true, and the slice reads afterwards as before. No condition besides the row's own. -/
import Derived.Test.YteiokccimlcmpaaRows
import Derived.Test.YteiokccimlcmpaaBig
import Derived.Test.YteiokccimlcmpaaDrawS
import Derived.Test.YteiokccimlcmpaaHelpB
import Derived.Test.YteiokccimlcmpaaHelpN
import Derived.Test.YteiokccimlcmpaaOrdM
import Derived.Test.YteiokccimlcmpaaOrdN
import Derived.ProofKit
import Derived.OpenShut
import Derived.ShutString
import Derived.ChangeOld
import Derived.Below
namespace Go.Proofs.Yteiokccimlcmpaa.fnOps
open Go.ChangeShapes Go.WideShapes Go.ChangeAt Go.RowKit
open Go.ChangeMaps (open_string shut_string)
set_option linter.unusedVariables false
open Go.Proofs.Yteiokccimlcmpaa.base Go.Proofs.Yteiokccimlcmpaa.pairs Go.Proofs.Yteiokccimlcmpaa.ords

/-- what GetOps answers, with one truth -/
def GotT (w : World) (l : List Od) (t : Bool) (e : Ending) (w' : World) : Prop :=
  ∃ g n cp, e = .returned (.tuple #[.slice (some ⟨g, 0, none⟩) n cp, .bool t]) ∧ OwnO w' w.heap.size g n cp l ∧ Below w.heap.size w w'
theorem got_none {w w' : World} {r : Option (List Od)} {e : Ending} (h : GetPost w r e w') (hr : r = none) : GotT w [] false e w' := by subst hr; exact h
theorem got_some {w w' : World} {r : Option (List Od)} {l : List Od} {e : Ending} (h : GetPost w r e w') (hr : r = some l) : GotT w l true e w' := by subst hr; exact h

set_option maxRecDepth 100000 in
set_option maxHeartbeats 4000000 in
theorem walk (a0 : Option Addr) (len0 cap0 : Nat) (b0 : List UInt8) (w : World) (w0 : Sl w a0 len0 b0) :
    Calls Try.prog 3 #[.slice a0 len0 cap0] w fun e w' => e = .returned (.bool true) ∧ Below w.heap.size w w' := by
  have hm := w0.2.1
  by_cases hbig : 1048576 < len0
  · have hb := big_ a0 len0 cap0 w hm
    rw [decide_eq_true (by omega)] at hb
    have HB := Hid.mk' hb
    clear hb
    go_enter Try.func3, Try.ntmps3
    go_wp2_with fail
    refine HB.out.mono ?_
    rintro e wa ⟨rfl, rfl⟩
    go_wp2_with fail
    go_ret
    exact ⟨rfl, Below.refl _ _⟩
  · have hb := big_ a0 len0 cap0 w hm
    rw [decide_eq_false (by omega)] at hb
    have HB := Hid.mk' hb
    clear hb
    go_enter Try.func3, Try.ntmps3
    go_wp2_with fail
    refine HB.out.mono ?_
    rintro e wa ⟨rfl, hwa⟩
    subst hwa
    clear HB
    go_wp2_with fail
    refine (drawPutOps a0 len0 cap0 b0 _ w0 (by omega)).mono ?_
    rintro e w1 ⟨g, n, cp, l, hn, htl, rfl, hL1, hB1⟩
    have hks : Hid (∀ p ∈ l, p.2.1.size ≤ 1099511627776) := fun p hp => by have := (htl p hp).2.2.1; omega
    have HPU := Hid.mk' (impl_putOps g 0 n cp l w1 hL1.sl hks.out)
    have hSL := hL1.sl
    have hplen := putOps_length l
    clear htl hL1
    go_wp2_with fail
    refine HPU.out.mono ?_
    rintro e w2 ⟨gb, nb, cb, rfl, hO2, hb2⟩
    have hB2 : Below wa.heap.size wa w2 := hB1.trans (hb2.mono hB1.size)
    have hSL2 := hSL.below hb2
    have hSB2 := hO2.sl
    have hmb := hO2.max
    have hlb := hO2.1
    clear HPU hSL hb2 hO2 hB1
    go_wp2_with fail
    refine (drawGetOps a0 len0 cap0 b0 _ (w0.below hB2) (by omega)).mono ?_
    rintro e w3 ⟨gc, nc, cc, cs, hnc, hcc, rfl, hSC3, hb3⟩
    have hB3 : Below wa.heap.size wa w3 := hB2.trans (hb3.mono hB2.size)
    have hSL3 := hSL2.below hb3
    have hSB3 := hSB2.below hb3
    have hlc := hSC3.1
    clear hSL2 hSB2 hb3 hB2
    have HI := Hid.mk' (impl_getOps (some ⟨gc, 0, none⟩) nc cc cs w3 hSC3 hcc (by omega))
    have HS : Hid (∀ wx, Below w3.heap.size w3 wx → Calls Try.prog 20 #[.slice (some ⟨gc, 0, none⟩) nc cc] wx fun e w' => GetPost wx (getOps cs) e w') := fun wx hx => spec_getOps (some ⟨gc, 0, none⟩) nc cc cs wx (hSC3.below hx) hcc (by omega)
    -- what comes behind the first test, in every world that has grown
    have HOK : Hid (∀ wx, Below w3.heap.size w3 wx → Calls Try.prog 22 #[.slice (some ⟨g, 0, none⟩) n cp] wx fun e w' => e = .returned (.bool (opsOk l)) ∧ Below wx.heap.size wx w') := fun wx hx => spec_opsOk g 0 n cp l wx (hSL3.below hx) hks.out
    have HIK : Hid (∀ wx, Below w3.heap.size w3 wx → Calls Try.prog 23 #[.slice (some ⟨g, 0, none⟩) n cp] wx fun e w' => e = .returned (.bool (opsOk l)) ∧ Below wx.heap.size wx w') := fun wx hx => impl_opsOk g 0 n cp l wx (hSL3.below hx) hks.out
    have HBK : Hid (opsOk l = true → ∀ wx, Below w3.heap.size w3 wx → Calls Try.prog 19 #[.slice (some ⟨gb, 0, none⟩) nb cb] wx fun e w' => GotT wx l true e w') := fun hok wx hx => (impl_getOps (some ⟨gb, 0, none⟩) nb cb (putOps l) wx (hSB3.below hx) hmb.1 (by omega)).mono fun e w' h => got_some h (getOps_put l hok)
    have HSM : Hid (∀ wx gx nx cx, SlO wx (some ⟨gx, 0, none⟩) nx l → Below w3.heap.size w3 wx → Calls Try.prog 24 #[.slice (some ⟨gx, 0, none⟩) nx cx, .slice (some ⟨g, 0, none⟩) n cp] wx fun e w' => e = .returned (.bool true) ∧ Below wx.heap.size wx w') := fun wx gx nx cx hs hx => (sameOps (some ⟨gx, 0, none⟩) (some ⟨g, 0, none⟩) nx cx n cp l l wx hs (hSL3.below hx)).mono fun e w' ⟨he, k, hw⟩ => ⟨by rw [he]; exact ret_bool (decide_eq_true rfl), by rw [hw]; exact below_drewN (Below.refl _ _) _⟩
    have HNB : Hid (opsOk l = false → nb = 0) := fun hok => by have := opsOk_put l hok; rw [this] at hlb; simpa using hlb.symm
    rcases hG : getOps cs with _ | y
    · rw [hG] at HI HS
      clear hSL3 hSB3 hSC3 hG
      go_wp2_with fail
      refine (HI.out.mono fun e w' h => got_none h rfl).mono ?_
      rintro e w4 ⟨g4, n4, cp4, rfl, hO4, hb4⟩
      have hX4 : Below w3.heap.size w3 w4 := hb4
      clear hO4 hb4
      go_wp2_with fail
      refine ((HS.out _ hX4).mono fun e w' h => got_none h rfl).mono ?_
      rintro e w5 ⟨g5, n5, cp5, rfl, hO5, hb5⟩
      have hX5 : Below w3.heap.size w3 w5 := hX4.trans (hb5.mono hX4.size)
      clear hO5 hb5 hX4
      cases hok : opsOk l
      · have hn0 := HNB.out hok
        subst hn0
        rw [hok] at HOK HIK
        clear hok HBK HSM HNB
        go_wp2_with fail
        refine (HOK.out _ hX5).mono ?_
        rintro e w6 ⟨rfl, hb6⟩
        have hX6 : Below w3.heap.size w3 w6 := hX5.trans (hb6.mono hX5.size)
        go_wp2_with fail
        refine (HIK.out _ hX6).mono ?_
        rintro e w7 ⟨rfl, hb7⟩
        have hX7 : Below w3.heap.size w3 w7 := hX6.trans (hb7.mono hX6.size)
        go_wp2_with fail
        go_ret
        exact ⟨rfl, hB3.trans (hX7.mono hB3.size)⟩
      · have HB2 := Hid.mk' (HBK.out hok)
        rw [hok] at HOK HIK
        clear hok HBK HNB
        go_wp2_with fail
        refine (HOK.out _ hX5).mono ?_
        rintro e w6 ⟨rfl, hb6⟩
        have hX6 : Below w3.heap.size w3 w6 := hX5.trans (hb6.mono hX5.size)
        go_wp2_with fail
        refine (HB2.out _ hX6).mono ?_
        rintro e w7 ⟨g7, n7, cp7, rfl, hO7, hb7⟩
        have hX7 : Below w3.heap.size w3 w7 := hX6.trans (hb7.mono hX6.size)
        have HS7 := Hid.mk' hO7.sl
        clear hO7 hb7
        go_wp2_with fail
        refine (HSM.out _ _ _ _ HS7.out hX7).mono ?_
        rintro e w8 ⟨rfl, hb8⟩
        have hX8 : Below w3.heap.size w3 w8 := hX7.trans (hb8.mono hX7.size)
        go_wp2_with fail
        refine (HIK.out _ hX8).mono ?_
        rintro e w9 ⟨rfl, hb9⟩
        have hX9 : Below w3.heap.size w3 w9 := hX8.trans (hb9.mono hX8.size)
        go_wp2_with fail
        go_ret
        exact ⟨rfl, hB3.trans (hX9.mono hB3.size)⟩
    · obtain ⟨hyo, hyb⟩ := getOps_some hG
      obtain ⟨⟨hyall, _⟩, _, _⟩ := (opsOk_iff y).1 hyo
      have HYK : Hid (∀ p ∈ y, p.2.1.size ≤ 1099511627776) := fun p hp => by have := keyOk_size ((odOk_iff p).1 (hyall p hp)).2.2.1; omega
      have HYB := Hid.mk' hyb
      have HSC := Hid.mk' hSC3
      rw [hG] at HI HS
      clear hSL3 hSB3 hSC3 hG hyo hyb hyall
      go_wp2_with fail
      refine (HI.out.mono fun e w' h => got_some h rfl).mono ?_
      rintro e w4 ⟨g4, n4, cp4, rfl, hO4, hb4⟩
      have hX4 : Below w3.heap.size w3 w4 := hb4
      have HSY := Hid.mk' hO4.sl
      clear hO4 hb4
      go_wp2_with fail
      refine ((HS.out _ hX4).mono fun e w' h => got_some h rfl).mono ?_
      rintro e w5 ⟨g5, n5, cp5, rfl, hO5, hb5⟩
      have hX5 : Below w3.heap.size w3 w5 := hX4.trans (hb5.mono hX4.size)
      have HPY := Hid.mk' (impl_putOps g4 0 n4 cp4 y w5 (HSY.out.below hb5) HYK.out)
      clear hO5 hb5 hX4 HSY
      go_wp2_with fail
      refine HPY.out.mono ?_
      rintro e w5b ⟨g6, n6, cp6, rfl, hO6, hb6⟩
      have hX5b : Below w3.heap.size w3 w5b := hX5.trans (hb6.mono hX5.size)
      rw [HYB.out] at hO6
      have hn6 : n6 = nc := by have := hO6.1; omega
      subst hn6
      have HSB := Hid.mk' (sameBytes (some ⟨g6, 0, none⟩) (some ⟨gc, 0, none⟩) n6 cp6 cc cs w5b hO6.sl (HSC.out.below hX5b))
      clear hO6 hb6 HPY hX5
      go_wp2_with fail
      refine HSB.out.mono ?_
      rintro e w5c ⟨rfl, kq, hw5c⟩
      have hX5c : Below w3.heap.size w3 w5c := by rw [hw5c]; exact below_drewN hX5b _
      clear hw5c hX5b HSB
      cases hok : opsOk l
      · have hn0 := HNB.out hok
        subst hn0
        rw [hok] at HOK HIK
        clear hok HBK HSM HNB
        go_wp2_with fail
        refine (HOK.out _ hX5c).mono ?_
        rintro e w6 ⟨rfl, hb6⟩
        have hX6 : Below w3.heap.size w3 w6 := hX5c.trans (hb6.mono hX5c.size)
        go_wp2_with fail
        refine (HIK.out _ hX6).mono ?_
        rintro e w7 ⟨rfl, hb7⟩
        have hX7 : Below w3.heap.size w3 w7 := hX6.trans (hb7.mono hX6.size)
        go_wp2_with fail
        go_ret
        exact ⟨rfl, hB3.trans (hX7.mono hB3.size)⟩
      · have HB2 := Hid.mk' (HBK.out hok)
        rw [hok] at HOK HIK
        clear hok HBK HNB
        go_wp2_with fail
        refine (HOK.out _ hX5c).mono ?_
        rintro e w6 ⟨rfl, hb6⟩
        have hX6 : Below w3.heap.size w3 w6 := hX5c.trans (hb6.mono hX5c.size)
        go_wp2_with fail
        refine (HB2.out _ hX6).mono ?_
        rintro e w7 ⟨g7, n7, cp7, rfl, hO7, hb7⟩
        have hX7 : Below w3.heap.size w3 w7 := hX6.trans (hb7.mono hX6.size)
        have HS7 := Hid.mk' hO7.sl
        clear hO7 hb7
        go_wp2_with fail
        refine (HSM.out _ _ _ _ HS7.out hX7).mono ?_
        rintro e w8 ⟨rfl, hb8⟩
        have hX8 : Below w3.heap.size w3 w8 := hX7.trans (hb8.mono hX7.size)
        go_wp2_with fail
        refine (HIK.out _ hX8).mono ?_
        rintro e w9 ⟨rfl, hb9⟩
        have hX9 : Below w3.heap.size w3 w9 := hX8.trans (hb9.mono hX8.size)
        go_wp2_with fail
        go_ret
        exact ⟨rfl, hB3.trans (hX9.mono hB3.size)⟩

theorem own : ownKnob Try.prog.godebug = none := by kernel_rfl
theorem laidOut : laidOutB Try.prog = true := by kernel_rfl

set_option maxRecDepth 100000 in
theorem lifted (os : Os) (started : os.Started) (H : Type) (enc : TypeId × Value → H) :
    ReturnsInHanded {} Try.checked os 3 .any (Rows.fnOpsSpec.pre6 enc Try.prog Try.f3 Rows.fnOpsRow.domain false) (Rows.fnOpsSpec.post enc Try.prog Try.f3 false true false false) := by
  refine returnsInHanded_of_change (C := Try.checked) own started (by kernel_rfl) Try.func3
    (ChangeSpec.witness6 (enc := enc) (C := Try.checked) false ⟨#[], #[.slice none 0 0], []⟩ 8 (by kernel_rfl) (by kernel_rfl) (by kernel_rfl) (by kernel_rfl)) ?_
  intro W base args ds gs before hval0 hW hcnd _
  have hval : ∀ (j : Nat) t v, Try.f3.params[j]? = some t → args[j]? = some v → Value.okWide Try.prog W .any base t v := hval0
  have hW' := hW
  obtain ⟨p, q, hA0, hV, rfl, hfz, hnd⟩ := hW
  have hA : DataW.TrodAll enc Try.prog W 0 (fun _ => true) true Try.f3.params.toList args.toList ds p := hA0
  rw [Try.params3] at hA hval
  obtain ⟨v0, vs0, d0, ds0, p0, q0, hargs, rfl, rfl, h0, r0⟩ := trodAll_cons hA
  obtain ⟨rfl, rfl, rfl⟩ := trodAll_nil r0
  obtain rfl : args = #[v0] := by cases args; simp_all
  obtain ⟨rfl, rfl⟩ := trodVars_none hV
  obtain ⟨a0, len0, cap0, rfl⟩ := okWide_slice Try.underlying22 (hval 0 22 v0 rfl rfl)
  have k0 := h0
  have lt0 : ∀ x ∈ p0, x.block < W.heap.size := by obtain ⟨m, hm⟩ := k0; exact DataW.trod_lt m _ _ _ hm
  obtain ⟨b0, w0⟩ : ∃ bs, Sl W a0 len0 bs := by
    obtain ⟨fuel, hf⟩ := h0
    rcases open_ints Try.underlying22 Try.underlying5 (by kernel_rfl) hf with ⟨hcs, _⟩ | ⟨x, l, c, zs, hcs, _, hl, hm, hz, _, hcell, hwz⟩
    · simp [Value.cells] at hcs
      obtain ⟨rfl, rfl, rfl⟩ := hcs
      exact ⟨[], sl_nil _ _⟩
    · simp [Value.cells] at hcs
      obtain ⟨rfl, rfl, rfl⟩ := hcs
      exact ⟨_, sl_of_ints hl hm (by simpa using hz) hcell hwz⟩
  clear hA0 hval0
  refine (walk a0 len0 cap0 b0 W w0).mono fun e W' ⟨he, bel⟩ => ?_
  subst he
  exact ⟨_, rfl, _, _, _, [], _, [], hW', trodAll_mk1 (shut_bool Try.underlying4 _), (trodAll_cons_mk (Below.trod laidOut (by kernel_rfl) (of_decide_eq_true (by kernel_rfl)) k0 bel lt0) trodAll_mk0), rfl, bel.frame _, fun h => by cases h⟩

theorem over : Rows.fnOpsRow.holds Try.pinned (OpenSpec.ofChange Rows.fnOpsSpec) :=
  OpenClaim.holds_of_wide 3 Try.f3 rfl rfl rfl rfl rfl rfl rfl ⟨rfl, rfl, rfl, rfl, rfl⟩ rfl rfl rfl rfl rfl (by kernel_rfl) Try.func3 (by kernel_rfl)
    (of_decide_eq_true (by kernel_rfl)) (by unfold Func.isWrapper; first | (rw [if_pos (by decide +kernel)]; kernel_rfl) | (rw [if_neg (by decide +kernel)]; exact ⟨rfl, rfl⟩))
    (fun os started H enc _ => lifted os started H enc)

theorem proved : Rows.FnOpsSaid := over
end Go.Proofs.Yteiokccimlcmpaa.fnOps
