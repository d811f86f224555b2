/- The statement FnWordsSaid: at every slice of bytes FnWords answers true, and the slice reads afterwards as before. No condition besides the row's own. -/
import Derived.Test.YtjodbijcgcjndaaRows
import Derived.Test.YtjodbijcgcjndaaBund10ab
import Derived.Test.YtjodbijcgcjndaaBund10be
import Derived.Test.YtjodbijcgcjndaaBund10bk
import Derived.Test.YtjodbijcgcjndaaBund10bf
import Derived.ProofKit
import Derived.OpenShut
import Derived.ShutString
import Derived.ChangeOld
import Derived.Below
namespace Go.Proofs.Ytjodbijcgcjndaa.fnWords
open Go.ChangeShapes Go.WideShapes Go.ChangeAt Go.RowKit
open Go.ChangeMaps (open_string shut_string)
set_option linter.unusedVariables false
open Go.Proofs.Ytjodbijcgcjndaa.base Go.Proofs.Ytjodbijcgcjndaa.pairs Go.Proofs.Ytjodbijcgcjndaa.ords Go.Proofs.Ytjodbijcgcjndaa.wds

/-- what GetWord answers, with the word and one truth -/
def GotT (w : World) (k s t : Int) (l : List Od) (y ok : Bool) (e : Ending) (w' : World) : Prop :=
  ∃ a n cap, e = .returned (.tuple #[.agg #[.int .i64 k, .int .i64 s, .int .i64 t, .slice a n cap, .bool y], .bool ok]) ∧ OwnV w' w.heap.size (.slice a n cap) l ∧ Below w.heap.size w w'
theorem got_none {w w' : World} {r : Option Wd} {e : Ending} (h : WordPost w r e w') (hr : r = none) : GotT w 0 0 0 [] false false e w' := wordPost_open (by rw [hr]; rfl) (by rw [hr]; rfl) h
theorem got_some {w w' : World} {r : Option Wd} {k s t : Int} {l : List Od} {y : Bool} {e : Ending} (h : WordPost w r e w') (hr : r = some (k, s, t, l, y)) : GotT w k s t l y true e w' := wordPost_open (by rw [hr]; rfl) (by rw [hr]; rfl) h

set_option maxRecDepth 100000 in
set_option maxHeartbeats 8000000 in
theorem walk (a0 : Option Addr) (len0 cap0 : Nat) (b0 : List UInt8) (w : World) (w0 : Sl w a0 len0 b0) :
    Calls Try.prog 3 #[.slice a0 len0 cap0] w fun e w' => e = .returned (.bool true) ∧ Below w.heap.size w w' := by
  have hm := w0.2.1
  by_cases hbig : 1048576 < len0
  · have hb := big_ a0 len0 cap0 w hm
    rw [decide_eq_true (by omega)] at hb
    have HB := Hid.mk' hb
    clear hb
    go_enter Try.func3, Try.ntmps3
    go_wp2_with fail
    refine HB.out.mono ?_
    rintro e wa ⟨rfl, rfl⟩
    go_wp2_with fail
    go_ret
    exact ⟨rfl, Below.refl _ _⟩
  · have hb := big_ a0 len0 cap0 w hm
    rw [decide_eq_false (by omega)] at hb
    have HB := Hid.mk' hb
    clear hb
    go_enter Try.func3, Try.ntmps3
    go_wp2_with fail
    refine HB.out.mono ?_
    rintro e wa ⟨rfl, hwa⟩
    replace hwa := hwa.symm
    subst hwa
    clear HB
    go_wp2_with fail
    refine (drawPutWord a0 len0 cap0 b0 _ w0 (by omega)).mono ?_
    rintro e w1 ⟨k, s, t, l, y, v, htw, rfl, hL1, hB1⟩
    have hks : Hid (∀ p ∈ l, p.2.1.size ≤ 1099511627776) := fun p hp => by have := (htw.2.2.2.2 p hp).2.2.1; omega
    obtain ⟨pa, pc, hv, hSL, _⟩ := hL1.sl
    obtain ⟨n, hn⟩ : ∃ n, l.length = n := ⟨_, rfl⟩
    rw [hn] at hv hSL
    subst hv
    have hb1 : Below w1.heap.size w1 (w1.alloc (.cells #[.int .i64 k, .int .i64 s, .int .i64 t, .slice pa n pc, .bool y] 26)) := (Below.refl _ _).alloc (Nat.le_refl _) _
    have hV1 := v5n w1 26 (.int .i64 k) (.int .i64 s) (.int .i64 t) (.slice pa n pc) (.bool y)
    have hB1' := hB1.trans (hb1.mono hB1.size)
    have hSL1 := hSL.below hb1
    have HPU := Hid.mk' (impl_putWord k s t pa n pc l y _ hSL1 hks.out)
    have hplen := putWord_small (k, s, t, l, y)
    clear htw hL1 hSL hB1
    go_wp2_with fail
    refine HPU.out.mono ?_
    rintro e w2 ⟨gb, nb, cb, rfl, hO2, hb2⟩
    have hB2 := hB1'.trans (hb2.mono hB1'.size)
    have hSL2 := hSL1.below hb2
    have hV2 := hV1.below hb2
    have hSB2 := hO2.sl
    have hmb := hO2.max
    have hlb := hO2.1
    clear HPU hSL1 hb2 hO2 hB1' hV1 hb1
    go_wp2_with fail
    refine (drawGetWord a0 len0 cap0 b0 _ (w0.below hB2) (by omega)).mono ?_
    rintro e w3 ⟨gc, nc, cc, cs, hnc, hcc, rfl, hSC3, hb3⟩
    have hB3 := hB2.trans (hb3.mono hB2.size)
    have hSL3 := hSL2.below hb3
    have hSB3 := hSB2.below hb3
    have hV3 := hV2.below hb3
    have hlc := hSC3.1
    clear hSL2 hSB2 hb3 hB2 hV2
    have HI := Hid.mk' (impl_getWord (some ⟨gc, 0, none⟩) nc cc cs w3 hSC3 hcc (by omega))
    have HS : Hid (∀ wx, Below w3.heap.size w3 wx → Calls Try.prog 12 #[.slice (some ⟨gc, 0, none⟩) nc cc] wx fun e w' => WordPost wx (getWord cs) e w') := fun wx hx => spec_getWord (some ⟨gc, 0, none⟩) nc cc cs wx (hSC3.below hx) hcc (by omega)
    -- what comes behind the first test, in every world that has grown
    have HVK : Hid (∀ wx, Below w3.heap.size w3 wx → V5 wx w1.heap.size 26 (.int .i64 k) (.int .i64 s) (.int .i64 t) (.slice pa n pc) (.bool y)) := fun wx hx => hV3.below hx
    have HOK : Hid (∀ wx, Below w3.heap.size w3 wx → Calls Try.prog 14 #[.agg #[.int .i64 k, .int .i64 s, .int .i64 t, .slice pa n pc, .bool y]] wx fun e w' => e = .returned (.bool (wordOk (k, s, t, l, y))) ∧ Below wx.heap.size wx w') := fun wx hx => spec_wordOk k s t pa n pc l y wx (hSL3.below hx) hks.out
    have HIK : Hid (∀ wx, Below w3.heap.size w3 wx → Calls Try.prog 15 #[.agg #[.int .i64 k, .int .i64 s, .int .i64 t, .slice pa n pc, .bool y]] wx fun e w' => e = .returned (.bool (wordOk (k, s, t, l, y))) ∧ Below wx.heap.size wx w') := fun wx hx => impl_wordOk k s t pa n pc l y wx (hSL3.below hx) hks.out
    have HBK : Hid (wordOk (k, s, t, l, y) = true → ∀ wx, Below w3.heap.size w3 wx → Calls Try.prog 11 #[.slice (some ⟨gb, 0, none⟩) nb cb] wx fun e w' => GotT wx k s t l y true e w') := fun hok wx hx => (impl_getWord (some ⟨gb, 0, none⟩) nb cb (putWord (k, s, t, l, y)) wx (hSB3.below hx) hmb.1 (by omega)).mono fun e w' h => got_some h (by rw [show putWord (k, s, t, l, y) = wordBytes (k, s, t, l, y) from if_pos hok]; exact getWord_put _ hok)
    have HSM : Hid (∀ wx ax nx cx, SlO wx ax nx l → Below w3.heap.size w3 wx → Calls Try.prog 16 #[.agg #[.int .i64 k, .int .i64 s, .int .i64 t, .slice ax nx cx, .bool y], .agg #[.int .i64 k, .int .i64 s, .int .i64 t, .slice pa n pc, .bool y]] wx fun e w' => e = .returned (.bool true) ∧ Below wx.heap.size wx w') := fun wx ax nx cx hs hx => sameWordT k s t y ax pa nx cx n pc l wx hs (hSL3.below hx)
    have HNB : Hid (wordOk (k, s, t, l, y) = false → nb = 0) := fun hok => by
      have : putWord (k, s, t, l, y) = [] := if_neg (by rw [hok]; decide)
      rw [this] at hlb; simpa using hlb.symm
    rcases hG : getWord cs with _ | ⟨k2, s2, t2, l2, y2⟩
    · rw [hG] at HI HS
      clear hSL3 hSB3 hSC3 hG hV3
      go_wp2_with fail
      refine (HI.out.mono fun e w' h => got_none h rfl).mono ?_
      rintro e w4 ⟨a4, n4, cp4, rfl, hO4, hb4⟩
      have hc4 : Below w4.heap.size w4 (w4.alloc (.cells #[.int .i64 0, .int .i64 0, .int .i64 0, .slice a4 n4 cp4, .bool false] 26)) := (Below.refl _ _).alloc (Nat.le_refl _) _
      have hX4 := hb4.trans (hc4.mono hb4.size)
      clear hO4 hb4 hc4
      go_wp2_with fail
      refine ((HS.out _ hX4).mono fun e w' h => got_none h rfl).mono ?_
      rintro e w5 ⟨a5, n5, cp5, rfl, hO5, hb5⟩
      have hX5' := hX4.trans (hb5.mono hX4.size)
      have hc5 : Below w5.heap.size w5 (w5.alloc (.cells #[.int .i64 0, .int .i64 0, .int .i64 0, .slice a5 n5 cp5, .bool false] 26)) := (Below.refl _ _).alloc (Nat.le_refl _) _
      have hX5 := hX5'.trans (hc5.mono hX5'.size)
      clear hO5 hb5 hX4 hc5 hX5'
      cases hok : wordOk (k, s, t, l, y)
      · have hn0 := HNB.out hok
        subst hn0
        rw [hok] at HOK HIK
        clear hok HBK HSM HNB
        have d0 := (HVK.out _ hX5).c0
        have d1 := (HVK.out _ hX5).c1
        have d2 := (HVK.out _ hX5).c2
        have d3 := (HVK.out _ hX5).c3
        have d4 := (HVK.out _ hX5).c4
        go_wp2_with fail
        refine (HOK.out _ hX5).mono ?_
        rintro e w6 ⟨rfl, hb6⟩
        have hX6 : Below w3.heap.size w3 w6 := hX5.trans (hb6.mono hX5.size)
        clear d0 d1 d2 d3 d4 hb6
        have d0 := (HVK.out _ hX6).c0
        have d1 := (HVK.out _ hX6).c1
        have d2 := (HVK.out _ hX6).c2
        have d3 := (HVK.out _ hX6).c3
        have d4 := (HVK.out _ hX6).c4
        go_wp2_with fail
        refine (HIK.out _ hX6).mono ?_
        rintro e w7 ⟨rfl, hb7⟩
        have hX7 : Below w3.heap.size w3 w7 := hX6.trans (hb7.mono hX6.size)
        clear d0 d1 d2 d3 d4 hb7
        go_wp2_with fail
        go_ret
        exact ⟨rfl, hB3.trans (hX7.mono hB3.size)⟩
      · have HB2 := Hid.mk' (HBK.out hok)
        rw [hok] at HOK HIK
        clear hok HBK HNB
        have d0 := (HVK.out _ hX5).c0
        have d1 := (HVK.out _ hX5).c1
        have d2 := (HVK.out _ hX5).c2
        have d3 := (HVK.out _ hX5).c3
        have d4 := (HVK.out _ hX5).c4
        go_wp2_with fail
        refine (HOK.out _ hX5).mono ?_
        rintro e w6 ⟨rfl, hb6⟩
        have hX6 : Below w3.heap.size w3 w6 := hX5.trans (hb6.mono hX5.size)
        clear d0 d1 d2 d3 d4 hb6
        go_wp2_with fail
        refine (HB2.out _ hX6).mono ?_
        rintro e w7 ⟨ax, nx, cx, rfl, hO7, hb7⟩
        have hX7 : Below w3.heap.size w3 w7 := hX6.trans (hb7.mono hX6.size)
        have hb8 : Below w7.heap.size w7 (w7.alloc (.cells #[.int .i64 k, .int .i64 s, .int .i64 t, .slice ax nx cx, .bool y] 26)) := (Below.refl _ _).alloc (Nat.le_refl _) _
        have hX8 := hX7.trans (hb8.mono hX7.size)
        have hvx := v5n w7 26 (.int .i64 k) (.int .i64 s) (.int .i64 t) (.slice ax nx cx) (.bool y)
        have HS8 := Hid.mk' ((ownV_slo hO7).below hb8)
        have d0 := (HVK.out _ hX8).c0
        have d1 := (HVK.out _ hX8).c1
        have d2 := (HVK.out _ hX8).c2
        have d3 := (HVK.out _ hX8).c3
        have d4 := (HVK.out _ hX8).c4
        have x0 := hvx.c0
        have x1 := hvx.c1
        have x2 := hvx.c2
        have x3 := hvx.c3
        have x4 := hvx.c4
        clear hO7 hb7 hb8 hvx hX7
        go_wp2_with fail
        refine (HSM.out _ _ _ _ HS8.out hX8).mono ?_
        rintro e w9 ⟨rfl, hb9⟩
        have hX9 : Below w3.heap.size w3 w9 := hX8.trans (hb9.mono hX8.size)
        clear d0 d1 d2 d3 d4 x0 x1 x2 x3 x4 hb9 HS8
        have d0 := (HVK.out _ hX9).c0
        have d1 := (HVK.out _ hX9).c1
        have d2 := (HVK.out _ hX9).c2
        have d3 := (HVK.out _ hX9).c3
        have d4 := (HVK.out _ hX9).c4
        go_wp2_with fail
        refine (HIK.out _ hX9).mono ?_
        rintro e wz ⟨rfl, hbz⟩
        have hXz : Below w3.heap.size w3 wz := hX9.trans (hbz.mono hX9.size)
        clear d0 d1 d2 d3 d4 hbz
        go_wp2_with fail
        go_ret
        exact ⟨rfl, hB3.trans (hXz.mono hB3.size)⟩
    · obtain ⟨hyo, hyb⟩ := getWord_some hG
      have HYK := Hid.mk' (wordOk_keys hyo)
      have HYB : Hid (putWord (k2, s2, t2, l2, y2) = cs) := by show _ = _; rw [← hyb]; exact if_pos hyo
      have HSC := Hid.mk' hSC3
      rw [hG] at HI HS
      clear hSL3 hSB3 hSC3 hG hyo hyb hV3
      go_wp2_with fail
      refine (HI.out.mono fun e w' h => got_some h rfl).mono ?_
      rintro e w4 ⟨a4, n4, cp4, rfl, hO4, hb4⟩
      have hc4 : Below w4.heap.size w4 (w4.alloc (.cells #[.int .i64 k2, .int .i64 s2, .int .i64 t2, .slice a4 n4 cp4, .bool y2] 26)) := (Below.refl _ _).alloc (Nat.le_refl _) _
      have hX4 := hb4.trans (hc4.mono hb4.size)
      have hv4 := v5n w4 26 (.int .i64 k2) (.int .i64 s2) (.int .i64 t2) (.slice a4 n4 cp4) (.bool y2)
      have HSY := Hid.mk' ((ownV_slo hO4).below hc4)
      clear hO4 hb4 hc4
      go_wp2_with fail
      refine ((HS.out _ hX4).mono fun e w' h => got_some h rfl).mono ?_
      rintro e w5 ⟨a5, n5, cp5, rfl, hO5, hb5⟩
      have hX5' := hX4.trans (hb5.mono hX4.size)
      have hc5 : Below w5.heap.size w5 (w5.alloc (.cells #[.int .i64 k2, .int .i64 s2, .int .i64 t2, .slice a5 n5 cp5, .bool y2] 26)) := (Below.refl _ _).alloc (Nat.le_refl _) _
      have hX5 := hX5'.trans (hc5.mono hX5'.size)
      have hv5 := (hv4.below hb5).below hc5
      have HPY := Hid.mk' (impl_putWord k2 s2 t2 a4 n4 cp4 l2 y2 _ ((HSY.out.below hb5).below hc5) HYK.out)
      rw [HYB.out] at HPY
      have x0 := hv5.c0
      have x1 := hv5.c1
      have x2 := hv5.c2
      have x3 := hv5.c3
      have x4 := hv5.c4
      clear hO5 hb5 hX4 HSY hc5 hX5' hv4 hv5
      go_wp2_with fail
      refine HPY.out.mono ?_
      rintro e w5b ⟨g6, n6, cp6, rfl, hO6, hb6⟩
      have hX5b : Below w3.heap.size w3 w5b := hX5.trans (hb6.mono hX5.size)
      have hn6 : n6 = nc := by have := hO6.1; omega
      subst hn6
      have HSB := Hid.mk' (sameBytes (some ⟨g6, 0, none⟩) (some ⟨gc, 0, none⟩) n6 cp6 cc cs w5b hO6.sl (HSC.out.below hX5b))
      clear hO6 hb6 HPY hX5 x0 x1 x2 x3 x4
      go_wp2_with fail
      refine HSB.out.mono ?_
      rintro e w5c ⟨rfl, kq, hw5c⟩
      have hX5c : Below w3.heap.size w3 w5c := by rw [hw5c]; exact below_drewN hX5b _
      clear hw5c hX5b HSB
      cases hok : wordOk (k, s, t, l, y)
      · have hn0 := HNB.out hok
        subst hn0
        rw [hok] at HOK HIK
        clear hok HBK HSM HNB
        have d0 := (HVK.out _ hX5c).c0
        have d1 := (HVK.out _ hX5c).c1
        have d2 := (HVK.out _ hX5c).c2
        have d3 := (HVK.out _ hX5c).c3
        have d4 := (HVK.out _ hX5c).c4
        go_wp2_with fail
        refine (HOK.out _ hX5c).mono ?_
        rintro e w6 ⟨rfl, hb6⟩
        have hX6 : Below w3.heap.size w3 w6 := hX5c.trans (hb6.mono hX5c.size)
        clear d0 d1 d2 d3 d4 hb6
        have d0 := (HVK.out _ hX6).c0
        have d1 := (HVK.out _ hX6).c1
        have d2 := (HVK.out _ hX6).c2
        have d3 := (HVK.out _ hX6).c3
        have d4 := (HVK.out _ hX6).c4
        go_wp2_with fail
        refine (HIK.out _ hX6).mono ?_
        rintro e w7 ⟨rfl, hb7⟩
        have hX7 : Below w3.heap.size w3 w7 := hX6.trans (hb7.mono hX6.size)
        clear d0 d1 d2 d3 d4 hb7
        go_wp2_with fail
        go_ret
        exact ⟨rfl, hB3.trans (hX7.mono hB3.size)⟩
      · have HB2 := Hid.mk' (HBK.out hok)
        rw [hok] at HOK HIK
        clear hok HBK HNB
        have d0 := (HVK.out _ hX5c).c0
        have d1 := (HVK.out _ hX5c).c1
        have d2 := (HVK.out _ hX5c).c2
        have d3 := (HVK.out _ hX5c).c3
        have d4 := (HVK.out _ hX5c).c4
        go_wp2_with fail
        refine (HOK.out _ hX5c).mono ?_
        rintro e w6 ⟨rfl, hb6⟩
        have hX6 : Below w3.heap.size w3 w6 := hX5c.trans (hb6.mono hX5c.size)
        clear d0 d1 d2 d3 d4 hb6
        go_wp2_with fail
        refine (HB2.out _ hX6).mono ?_
        rintro e w7 ⟨ax, nx, cx, rfl, hO7, hb7⟩
        have hX7 : Below w3.heap.size w3 w7 := hX6.trans (hb7.mono hX6.size)
        have hb8 : Below w7.heap.size w7 (w7.alloc (.cells #[.int .i64 k, .int .i64 s, .int .i64 t, .slice ax nx cx, .bool y] 26)) := (Below.refl _ _).alloc (Nat.le_refl _) _
        have hX8 := hX7.trans (hb8.mono hX7.size)
        have hvx := v5n w7 26 (.int .i64 k) (.int .i64 s) (.int .i64 t) (.slice ax nx cx) (.bool y)
        have HS8 := Hid.mk' ((ownV_slo hO7).below hb8)
        have d0 := (HVK.out _ hX8).c0
        have d1 := (HVK.out _ hX8).c1
        have d2 := (HVK.out _ hX8).c2
        have d3 := (HVK.out _ hX8).c3
        have d4 := (HVK.out _ hX8).c4
        have x0 := hvx.c0
        have x1 := hvx.c1
        have x2 := hvx.c2
        have x3 := hvx.c3
        have x4 := hvx.c4
        clear hO7 hb7 hb8 hvx hX7
        go_wp2_with fail
        refine (HSM.out _ _ _ _ HS8.out hX8).mono ?_
        rintro e w9 ⟨rfl, hb9⟩
        have hX9 : Below w3.heap.size w3 w9 := hX8.trans (hb9.mono hX8.size)
        clear d0 d1 d2 d3 d4 x0 x1 x2 x3 x4 hb9 HS8
        have d0 := (HVK.out _ hX9).c0
        have d1 := (HVK.out _ hX9).c1
        have d2 := (HVK.out _ hX9).c2
        have d3 := (HVK.out _ hX9).c3
        have d4 := (HVK.out _ hX9).c4
        go_wp2_with fail
        refine (HIK.out _ hX9).mono ?_
        rintro e wz ⟨rfl, hbz⟩
        have hXz : Below w3.heap.size w3 wz := hX9.trans (hbz.mono hX9.size)
        clear d0 d1 d2 d3 d4 hbz
        go_wp2_with fail
        go_ret
        exact ⟨rfl, hB3.trans (hXz.mono hB3.size)⟩

theorem own : ownKnob Try.prog.godebug = none := by kernel_rfl
theorem laidOut : laidOutB Try.prog = true := by kernel_rfl

set_option maxRecDepth 100000 in
theorem lifted (os : Os) (started : os.Started) (H : Type) (enc : TypeId × Value → H) :
    ReturnsInHanded {} Try.checked os 3 .any (Rows.fnWordsSpec.pre6 enc Try.prog Try.f3 Rows.fnWordsRow.domain false) (Rows.fnWordsSpec.post enc Try.prog Try.f3 false true false false) := by
  refine returnsInHanded_of_change (C := Try.checked) own started (by kernel_rfl) Try.func3
    (ChangeSpec.witness6 (enc := enc) (C := Try.checked) false ⟨#[], #[.slice none 0 0], []⟩ 8 (by kernel_rfl) (by kernel_rfl) (by kernel_rfl) (by kernel_rfl)) ?_
  intro W base args ds gs before hval0 hW hcnd _
  have hval : ∀ (j : Nat) t v, Try.f3.params[j]? = some t → args[j]? = some v → Value.okWide Try.prog W .any base t v := hval0
  have hW' := hW
  obtain ⟨p, q, hA0, hV, rfl, hfz, hnd⟩ := hW
  have hA : DataW.TrodAll enc Try.prog W 0 (fun _ => true) true Try.f3.params.toList args.toList ds p := hA0
  rw [Try.params3] at hA hval
  obtain ⟨v0, vs0, d0, ds0, p0, q0, hargs, rfl, rfl, h0, r0⟩ := trodAll_cons hA
  obtain ⟨rfl, rfl, rfl⟩ := trodAll_nil r0
  obtain rfl : args = #[v0] := by cases args; simp_all
  obtain ⟨rfl, rfl⟩ := trodVars_none hV
  obtain ⟨a0, len0, cap0, rfl⟩ := okWide_slice Try.underlying22 (hval 0 22 v0 rfl rfl)
  have k0 := h0
  have lt0 : ∀ x ∈ p0, x.block < W.heap.size := by obtain ⟨m, hm⟩ := k0; exact DataW.trod_lt m _ _ _ hm
  obtain ⟨b0, w0⟩ : ∃ bs, Sl W a0 len0 bs := by
    obtain ⟨fuel, hf⟩ := h0
    rcases open_ints Try.underlying22 Try.underlying5 (by kernel_rfl) hf with ⟨hcs, _⟩ | ⟨x, l, c, zs, hcs, _, hl, hm, hz, _, hcell, hwz⟩
    · simp [Value.cells] at hcs
      obtain ⟨rfl, rfl, rfl⟩ := hcs
      exact ⟨[], sl_nil _ _⟩
    · simp [Value.cells] at hcs
      obtain ⟨rfl, rfl, rfl⟩ := hcs
      exact ⟨_, sl_of_ints hl hm (by simpa using hz) hcell hwz⟩
  clear hA0 hval0
  refine (walk a0 len0 cap0 b0 W w0).mono fun e W' ⟨he, bel⟩ => ?_
  subst he
  exact ⟨_, rfl, _, _, _, [], _, [], hW', trodAll_mk1 (shut_bool Try.underlying4 _), (trodAll_cons_mk (Below.trod laidOut (by kernel_rfl) (of_decide_eq_true (by kernel_rfl)) k0 bel lt0) trodAll_mk0), rfl, bel.frame _, fun h => by cases h⟩

theorem over : Rows.fnWordsRow.holds Try.pinned (OpenSpec.ofChange Rows.fnWordsSpec) :=
  OpenClaim.holds_of_wide 3 Try.f3 rfl rfl rfl rfl rfl rfl rfl ⟨rfl, rfl, rfl, rfl, rfl⟩ rfl rfl rfl rfl rfl (by kernel_rfl) Try.func3 (by kernel_rfl)
    (of_decide_eq_true (by kernel_rfl)) (by unfold Func.isWrapper; first | (rw [if_pos (by decide +kernel)]; kernel_rfl) | (rw [if_neg (by decide +kernel)]; exact ⟨rfl, rfl⟩))
    (fun os started H enc _ => lifted os started H enc)

theorem proved : Rows.FnWordsSaid := over
end Go.Proofs.Ytjodbijcgcjndaa.fnWords
