/- The statement FnExactMakeBundleCardSaid: at every seal, every slice of tables and every two texts FnExactMakeBundle answers true, and the arguments read afterwards as before, where the table of the rounds' words is as the program's text lays it (the card ties it). No condition besides the row's own. -/
import Derived.Test.YteammdkipnfmnaaDoorRows
import Derived.Test.YteammdkipnfmnaaDoorCards
import Derived.Test.YteammdkipnfmnaaDoorTie
import Derived.Test.YteammdkipnfmnaaDoorShat
import Derived.Test.YteammdkipnfmnaaDoorShar
import Derived.ProofKit
import Derived.OpenShut
import Derived.ShutString
import Derived.ChangeOld
import Derived.Below
namespace Go.Proofs.YteammdkipnfmnaaDoor.fnExactMakeBundle
open Go.ChangeShapes Go.WideShapes Go.ChangeAt Go.RowKit
open Go.ChangeMaps (open_string shut_string)
set_option linter.unusedVariables false
open Go.Proofs.YteammdkipnfmnaaDoor.base Go.Proofs.YteammdkipnfmnaaDoor.pairs Go.Proofs.YteammdkipnfmnaaDoor.tree Go.Proofs.YteammdkipnfmnaaDoor.seals Go.Proofs.YteammdkipnfmnaaDoor.lay Go.Proofs.YteammdkipnfmnaaDoor.bun Go.Proofs.YteammdkipnfmnaaDoor.tabs

theorem keep8m {w w' : World} {b c : Nat} {x0 x1 x2 x3 y0 y1 y2 y3 : Value} (hb : Below w.heap.size w w') (h : w.cell? ⟨b, 0, none⟩ = some x0 ∧ w.cell? ⟨b, 1, none⟩ = some x1 ∧ w.cell? ⟨b, 2, none⟩ = some x2 ∧ w.cell? ⟨b, 3, none⟩ = some x3 ∧ w.cell? ⟨c, 0, none⟩ = some y0 ∧ w.cell? ⟨c, 1, none⟩ = some y1 ∧ w.cell? ⟨c, 2, none⟩ = some y2 ∧ w.cell? ⟨c, 3, none⟩ = some y3) :
    w'.cell? ⟨b, 0, none⟩ = some x0 ∧ w'.cell? ⟨b, 1, none⟩ = some x1 ∧ w'.cell? ⟨b, 2, none⟩ = some x2 ∧ w'.cell? ⟨b, 3, none⟩ = some x3 ∧ w'.cell? ⟨c, 0, none⟩ = some y0 ∧ w'.cell? ⟨c, 1, none⟩ = some y1 ∧ w'.cell? ⟨c, 2, none⟩ = some y2 ∧ w'.cell? ⟨c, 3, none⟩ = some y3 := by
  have k : ∀ {g o : Nat} {v : Value}, w.cell? ⟨g, o, none⟩ = some v → w'.cell? ⟨g, o, none⟩ = some v := fun {g o v} hv => (hb.cell (p := ⟨g, o, none⟩) (World.block_lt_of_cell? w _ hv)).trans hv
  exact ⟨k h.1, k h.2.1, k h.2.2.1, k h.2.2.2.1, k h.2.2.2.2.1, k h.2.2.2.2.2.1, k h.2.2.2.2.2.2.1, k h.2.2.2.2.2.2.2⟩
theorem cntT_le {l : List (List Pr)} (h : l.length + sumT l ≤ 1048576) : cntAll cntT l ≤ 2097152 := by
  have key : ∀ (l : List (List Pr)), cntAll cntT l ≤ 2 * sumT l := by
    intro l
    induction l with
    | nil => simp [cntAll, sumT]
    | cons t l ih =>
      have e1 : cntAll cntT (t :: l) = cntT t + cntAll cntT l := by simp [cntAll]
      have e2 : sumT (t :: l) = tbz t + sumT l := by simp [sumT]
      have e3 : cntT t = 2 * t.length := rfl
      have e4 : tbz t = t.length + sumP t := rfl
      rw [e1, e2]; omega
  have := key l
  omega
set_option maxRecDepth 100000 in
set_option maxHeartbeats 16000000 in
theorem walk (c0 c1 c2 c3 : Value) (x : Seal) (ta : Option Addr) (tn tc : Nat) (ts : List (List Pr)) (lo hi : ByteArray) (w : World) (h0 : sealR.see w [c0, c1, c2, c3] x) (h1 : SlG tableR w ta tn ts) (z2 : lo.size ≤ maxLen) (z3 : hi.size ≤ maxLen) (hK : sha.KW w) :
    Calls Tryd.prog 3 #[.agg #[c0, c1, c2, c3], .slice ta tn tc, .string lo, .string hi] w fun e w' => e = .returned (.bool true) ∧ Below w.heap.size w w' := by
  obtain ⟨ra, rn, rc, e, k1, k2, k3, hS, hrc⟩ := seal_see.1 h0
  simp only [List.cons.injEq, and_true] at e
  obtain ⟨rfl, rfl, rfl, rfl⟩ := e
  have hrl := hS.1
  have htl := h1.1
  unfold maxLen at z2 z3
  obtain ⟨W, hW⟩ : ∃ W, w.alloc (.cells #[.int .i64 x.1, .string x.2.1, .string x.2.2.1, .slice ra rn rc] 24) = W := ⟨_, rfl⟩
  have hBW : Below w.heap.size w W := by rw [← hW]; exact below_make
  have hV : BoxIn w.heap.size 24 [] [.int .i64 x.1, .string x.2.1, .string x.2.2.1, .slice ra rn rc] [] W := by rw [← hW]; exact boxIn_new w _ _
  have HW := Hid.mk' hW
  by_cases hlo : (1048576 : Int) < (lo.size : Int)
  · rw [← hW] at hBW
    clear hW hV HW hrl htl
    go_enter Tryd.func3, Tryd.ntmps3
    go_wp2_with fail
    go_ret
    exact ⟨rfl, hBW⟩
  by_cases hhi : (1048576 : Int) < (hi.size : Int)
  · rw [← hW] at hBW
    clear hW hV HW hrl htl
    go_enter Tryd.func3, Tryd.ntmps3
    go_wp2_with fail
    go_ret
    exact ⟨rfl, hBW⟩
  have hsz := szSeal x ra rn rc 1048576 W (hS.below hBW) k2 k3 (by omega)
  obtain ⟨y0, y1, y2, y3⟩ := box4 hV
  rw [← hW] at y0 y1 y2 y3
  clear hW
  by_cases hov1 : 1048576 < slz x
  · rw [puttexts.szR_neg hov1] at hsz
    have HZ := Hid.mk' hsz
    clear hsz hrl htl
    go_enter Tryd.func3, Tryd.ntmps3
    go_wp2_with fail
    rw [HW.out]
    refine HZ.out.mono ?_
    rintro e wa ⟨rfl, hB⟩
    have hB1 := hBW.trans (hB.mono hBW.size)
    go_wp2_with fail
    go_ret
    exact ⟨rfl, hB1⟩
  rw [puttexts.szR_pos (by omega)] at hsz
  obtain ⟨r1, hr1, hr1b⟩ : ∃ r : Nat, ((1048576 : Nat) : Int) - (slz x : Int) = (r : Int) ∧ r ≤ 1048576 := ⟨1048576 - slz x, by omega, by omega⟩
  rw [hr1] at hsz
  have hr1n : ¬ (r1 : Int) < 0 := by omega
  have hsz2 := fun wx (hx : Below W.heap.size W wx) => szTableS ta tn tc ts r1 wx ((h1.below hBW).below hx) (by omega)
  by_cases hov2 : r1 < ts.length + sumT ts
  · rw [pairs.szR_neg hov2] at hsz2
    have HZ := Hid.mk' hsz
    have HZ2 := Hid.mk' hsz2
    clear hsz hsz2 hr1 hrl htl
    go_enter Tryd.func3, Tryd.ntmps3
    go_wp2_with fail
    rw [HW.out]
    refine HZ.out.mono ?_
    rintro e wa ⟨rfl, hB⟩
    have hB1 := hBW.trans (hB.mono hBW.size)
    go_wp2_with fail
    refine (HZ2.out _ hB).mono ?_
    rintro e wb ⟨rfl, hB2⟩
    have hB3 := hB1.trans (hB2.mono hB1.size)
    go_wp2_with fail
    go_ret
    exact ⟨rfl, hB3⟩
  rw [pairs.szR_pos (by omega)] at hsz2
  obtain ⟨r2, hr2⟩ : ∃ r : Nat, (r1 : Int) - ((ts.length + sumT ts : Nat) : Int) = (r : Int) := ⟨r1 - (ts.length + sumT ts), by omega⟩
  rw [hr2] at hsz2
  have hr2n : ¬ (r2 : Int) < 0 := by omega
  have HZ := Hid.mk' hsz
  have HZ2 := Hid.mk' hsz2
  have hx1 : x.2.2.2.length + puttexts.sum x.2.2.2 ≤ 1048576 := by unfold slz at hov1; omega
  have hx2 : x.2.1.size ≤ 1048576 := by unfold slz at hov1; omega
  have ht1 : ts.length + sumT ts ≤ 1048576 := by omega
  have ht2 : ∀ t ∈ ts, t.length ≤ 1048576 ∧ ∀ p ∈ t, lim p := fun t ht => by
    have h2 := sumT_mem ht
    unfold tbz at h2
    refine ⟨by omega, fun p hp => ?_⟩
    have := psz_le t p hp
    unfold psz at this
    exact ⟨by omega, by omega⟩
  have hct := cntT_le ht1
  have HTS := Hid.mk' (fun wx (hx : Below w.heap.size w wx) => toSealR _ _ _ _ x wx (sealR.seeBelow h0 hx) (by omega))
  have HTT := Hid.mk' (fun wx (hx : Below w.heap.size w wx) => toTablesN ta tn tc ts wx (h1.below hx) (by omega) (fun j hj => by have := (ht2 j hj).1; omega))
  have HSM := Hid.mk' (fun wx ra rn rc (ua : Option Addr) un uc F1 F2 (hx : sealR.own wx [.int .i64 x.1, .string x.2.1, .string x.2.2.1, .slice ra rn rc] x F1) (ht : tablesN.own wx [.slice ua un uc] ts F2) => by
    obtain ⟨a', n', c', e, q1, q2, _, q4, q5⟩ := seal_see.1 (sealR.ownSee hx)
    simp only [List.cons.injEq, Value.slice.injEq, and_true, true_and] at e
    obtain ⟨rfl, rfl, rfl⟩ := e
    exact spec_makeBundle lo hi ra rn rc x ua un uc ts wx q1 q2 q4 q5 (by have := q4.1; omega) (tn_own ht) (fun t hh => (ht2 t hh).2))
  have HIM := Hid.mk' (fun wx ra rn rc (ua : Option Addr) un uc F1 F2 (hx : sealR.own wx [.int .i64 x.1, .string x.2.1, .string x.2.2.1, .slice ra rn rc] x F1) (ht : tablesN.own wx [.slice ua un uc] ts F2) (hk : sha.KW wx) => by
    obtain ⟨a', n', c', e, q1, q2, _, q4, q5⟩ := seal_see.1 (sealR.ownSee hx)
    simp only [List.cons.injEq, Value.slice.injEq, and_true, true_and] at e
    obtain ⟨rfl, rfl, rfl⟩ := e
    exact impl_makeBundle lo hi ra rn rc x ua un uc ts wx q1 q2 q4 q5 (by have := q4.1; omega) (tn_own ht) (fun t hh => (ht2 t hh).2) (by omega) (by omega) hk)
  have HKW : Hid (∀ wx, Below w.heap.size w wx → sha.KW wx) := fun wx hx => hK.below hx
  obtain ⟨hmc, hml⟩ := make_small (lo := lo) (hi := hi) (x := x) (ts := ts) (by omega) (by omega)
  generalize makeB lo hi x ts = M at *
  have HML := Hid.mk' hml
  have hxl : x.2.2.2.length ≤ 1048576 := by omega
  have HEB := Hid.mk' (fun wx (a1 : Option Addr) n1 c1 (p1 : Option Addr) m1 k1 (a2 : Option Addr) n2 c2 (p2 : Option Addr) m2 k2 F1 F2 (q1 : bundleR.own wx [.int .i64 M.1, .string M.2.1, .slice a1 n1 c1, .slice p1 m1 k1] M F1) (q2 : bundleR.own wx [.int .i64 M.1, .string M.2.1, .slice a2 n2 c2, .slice p2 m2 k2] M F2) => eqBundleT a1 n1 c1 p1 m1 k1 a2 n2 c2 p2 m2 k2 M wx (see_bu (bundleR.ownSee q1)) (see_bu (bundleR.ownSee q2)))
  clear hsz hsz2 hr1 hr2 hov1 hov2 hx1 hx2 ht1 ht2 hrl htl h0 h1 hS k1 k2 k3 hrc hK hml z2 z3
  go_enter Tryd.func3, Tryd.ntmps3
  go_wp2_with fail
  rw [HW.out]
  refine HZ.out.mono ?_
  rintro e wa ⟨rfl, hba⟩
  go_wp2_with fail
  refine (HZ2.out _ hba).mono ?_
  rintro e wb ⟨rfl, hbb⟩
  have hbB := hba.trans (hbb.mono hba.size)
  have hBb := hBW.trans (hbB.mono hBW.size)
  have hVb := hV.below hbB
  clear y0 y1 y2 y3 HZ HZ2 hba hbb hbB hBW hV HW
  obtain ⟨y0, y1, y2, y3⟩ := box4 hVb
  go_wp2_with fail
  refine (HTS.out _ hBb).mono ?_
  rintro e w1 ⟨us1, F1, rfl, ho1, hf1, hb1⟩
  obtain ⟨sa, sn, sc, rfl⟩ := seal_vals ho1
  have hB1 := hBb.trans (hb1.mono hBb.size)
  go_wp2_with fail
  refine (HTT.out _ hB1).mono ?_
  rintro e w2 ⟨v2, F2, rfl, ho2, hf2, hb2⟩
  obtain ⟨ua, un, uc, rfl⟩ := slice_shape ho2
  have hB2 := hB1.trans (hb2.mono hB1.size)
  have ho1' := sealR.ownBelow ho1 hb2
  go_wp2_with fail
  refine (HSM.out _ _ _ _ _ _ _ _ _ ho1' ho2).mono ?_
  rintro e w3 ⟨us3, FW, rfl, ho3, hf3, hb3⟩
  obtain ⟨wa, wn, wc, wp, wm, wk, rfl⟩ := bundle_shape ho3
  have hB3 := hB2.trans (hb3.mono hB2.size)
  have hV3 := ((hVb.below hb1).below hb2).below hb3
  have hFW : ∀ k ∈ FW, w.heap.size < k ∧ k < w3.heap.size := fun k hk => ⟨by have := hf3 k hk; have := hV3.lt; have h5 := hVb.lt; have h6 := hb1.size; have h7 := hb2.size; omega, bundleR.ownLt ho3 k hk⟩
  obtain ⟨w4, hw4⟩ : ∃ V, w3.alloc (.cells #[.int .i64 M.1, .string M.2.1, .slice wa wn wc, .slice wp wm wk] 30) = V := ⟨_, rfl⟩
  have hb4 : Below w3.heap.size w3 w4 := by rw [← hw4]; exact below_make
  have hs4 : w4.heap.size = w3.heap.size + 1 := by rw [← hw4]; simp
  have hbw : BoxIn w3.heap.size 30 [] [.int .i64 M.1, .string M.2.1, .slice wa wn wc, .slice wp wm wk] [] w4 := by rw [← hw4]; exact boxIn_new w3 _ _
  have hB4 := hB3.trans (hb4.mono hB3.size)
  have hV4 := hV3.below hb4
  have HO4 := Hid.mk' (bundleR.ownBelow ho3 hb4)
  have HS4 := Hid.mk' hs4
  obtain ⟨v0, v1, v2', v3⟩ := box4 hV4
  rw [← hw4] at v0 v1 v2' v3
  have HW4 := Hid.mk' hw4
  clear y0 y1 y2 y3 ho1 ho1' ho2 ho3 hf1 hf2 hf3 hb1 hb2 hb3 hw4 hs4 hVb
  go_wp2_with fail
  rw [HW4.out]
  clear v0 v1 v2' v3
  refine (HTS.out _ hB4).mono ?_
  rintro e w5 ⟨us5, FX, rfl, ho5, hf5, hb5⟩
  obtain ⟨xa, xn, xc, rfl⟩ := seal_vals ho5
  have hFX : ∀ k ∈ FX, w3.heap.size < k ∧ k < w5.heap.size := fun k hk => ⟨by have := hf5 k hk; have := HS4.out; omega, sealR.ownLt ho5 k hk⟩
  obtain ⟨w6, hw6⟩ : ∃ V, w5.alloc (.cells #[.int .i64 x.1, .string x.2.1, .string x.2.2.1, .slice xa xn xc] 32) = V := ⟨_, rfl⟩
  have hb6 : Below w5.heap.size w5 w6 := by rw [← hw6]; exact below_make
  have hs6 : w6.heap.size = w5.heap.size + 1 := by rw [← hw6]; simp
  have hbx : BoxIn w5.heap.size 32 [] [.int .i64 x.1, .string x.2.1, .string x.2.2.1, .slice xa xn xc] [] w6 := by rw [← hw6]; exact boxIn_new w5 _ _
  have hB5 := hB4.trans (hb5.mono hB4.size)
  have hB6 := hB5.trans (hb6.mono hB5.size)
  have hV6 := (hV4.below hb5).below hb6
  have hbw6 := (hbw.below hb5).below hb6
  have HO6 := Hid.mk' (bundleR.ownBelow (bundleR.ownBelow HO4.out hb5) hb6)
  have HX6 := Hid.mk' (sealR.ownBelow ho5 hb6)
  have hs5 := hb5.size
  have HS6 := Hid.mk' hs6
  have HW6 := Hid.mk' hw6
  clear ho5 hf5 hb5 hw6 hs6 hV4 hbw HO4 hb6
  go_wp2_with fail
  rw [HW6.out]
  refine (HTT.out _ hB6).mono ?_
  rintro e w7 ⟨v7, FT, rfl, ho7, hf7, hb7⟩
  obtain ⟨ua7, un7, uc7, rfl⟩ := slice_shape ho7
  have hFT : ∀ k ∈ FT, w5.heap.size < k ∧ k < w7.heap.size := fun k hk => ⟨by have := hf7 k hk; have := HS6.out; omega, tablesN.ownLt ho7 k hk⟩
  have hB7 := hB6.trans (hb7.mono hB6.size)
  have HX7 := Hid.mk' (sealR.ownBelow HX6.out hb7)
  have HO7 := Hid.mk' (bundleR.ownBelow HO6.out hb7)
  have hV7 := hV6.below hb7
  have hbw7 := hbw6.below hb7
  have hbx7 := hbx.below hb7
  have hs7 := hb7.size
  obtain ⟨d0, d1, d2, d3⟩ := box4 hbx7
  have HM7 := Hid.mk' (HIM.out _ _ _ _ _ _ _ _ _ HX7.out ho7 (HKW.out _ hB7))
  have HT7 := Hid.mk' ho7
  clear HO6 HX6 hV6 hbw6 hbx hf7 hb7 ho7
  go_wp2_with fail
  refine HM7.out.mono ?_
  rintro e w8 ⟨us8, FG, rfl, ho8, hf8, hb8⟩
  obtain ⟨ga, gn, gc, gp, gm, gk, rfl⟩ := bundle_shape ho8
  have hFG : ∀ k ∈ FG, w7.heap.size ≤ k ∧ k < w8.heap.size := fun k hk => ⟨hf8 k hk, bundleR.ownLt ho8 k hk⟩
  obtain ⟨w9, hw9⟩ : ∃ V, w8.alloc (.cells #[.int .i64 M.1, .string M.2.1, .slice ga gn gc, .slice gp gm gk] 30) = V := ⟨_, rfl⟩
  have hb9 : Below w8.heap.size w8 w9 := by rw [← hw9]; exact below_make
  have hbg : BoxIn w8.heap.size 30 [] [.int .i64 M.1, .string M.2.1, .slice ga gn gc, .slice gp gm gk] [] w9 := by rw [← hw9]; exact boxIn_new w8 _ _
  have hB8 := hB7.trans (hb8.mono hB7.size)
  have hB9 := hB8.trans (hb9.mono hB8.size)
  have HX9 := Hid.mk' (sealR.ownBelow (sealR.ownBelow HX7.out hb8) hb9)
  have HT9 := Hid.mk' (tablesN.ownBelow (tablesN.ownBelow HT7.out hb8) hb9)
  have hs8 := hb8.size
  have hV7l := hV7.lt
  have T9 : QB w w9 w.heap.size w3.heap.size w5.heap.size w7.heap.size w8.heap.size [.int .i64 x.1, .string x.2.1, .string x.2.2.1, .slice ra rn rc] [.int .i64 M.1, .string M.2.1, .slice wa wn wc, .slice wp wm wk] [.int .i64 x.1, .string x.2.1, .string x.2.2.1, .slice xa xn xc] (.slice ua7 un7 uc7) [.int .i64 M.1, .string M.2.1, .slice ga gn gc, .slice gp gm gk] M x ts M FW FX FT FG :=
    ⟨hB9, (hV7.below hb8).below hb9, (hbw7.below hb8).below hb9, (hbx7.below hb8).below hb9, hbg, bundleR.ownBelow (bundleR.ownBelow HO7.out hb8) hb9, bundleR.ownBelow ho8 hb9, Nat.le_refl _, hFW, hFX, hFT, hFG, by have := hV3.lt; omega, by have := HS4.out; omega, by have := HS6.out; omega, by omega⟩
  have HQ9 := Hid.mk' T9
  have HW9 := Hid.mk' hw9
  have HCN := Hid.mk' hFW
  obtain ⟨p0, p1, p2, p3⟩ := box4 T9.bg
  obtain ⟨q0, q1, q2, q3⟩ := box4 T9.bw
  clear d0 d1 d2 d3 T9 hw9 hbg hb8 hb9 hf8 ho8 hFG hFT hFX hFW HX7 HT7 HO7 HM7 hV7 hbw7 hbx7 hB7 hB8 hB9 hV3 hB2 hB3 hB4 hB5 hB6 hs7 hs8 hs5 HW4 HW6 HS4 HS6 hB1 hBb hV7l
  rw [← HW9.out] at p0 p1 p2 p3 q0 q1 q2 q3
  go_wp2_with fail
  rw [HW9.out]
  clear p0 p1 p2 p3 q0 q1 q2 q3 HW9
  refine (HEB.out _ _ _ _ _ _ _ _ _ _ _ _ _ _ _ HQ9.out.gn HQ9.out.wn).mono ?_
  rintro e y1 ⟨rfl, hB⟩
  have T1 := HQ9.out.below hB
  have HX1 := Hid.mk' (sealR.ownBelow HX9.out hB)
  have HT1 := Hid.mk' (tablesN.ownBelow HT9.out hB)
  clear HQ9 hB HX9 HT9
  have HQ1 := Hid.mk' T1
  clear T1
  obtain ⟨p0, p1, p2, p3⟩ := box4 HQ1.out.bx
  obtain ⟨q0, q1, q2, q3⟩ := box4 HQ1.out.arg
  have hbl := HQ1.out.bel
  have hdr : Below y1.heap.size y1 y1.drew := (Below.refl _ _).drew
  go_wp2_with fail
  go_region_held3 (fun w' => (w'.cell? ⟨w5.heap.size, 0, none⟩ = some (.int .i64 x.1) ∧ w'.cell? ⟨w5.heap.size, 1, none⟩ = some (.string x.2.1) ∧ w'.cell? ⟨w5.heap.size, 2, none⟩ = some (.string x.2.2.1) ∧ w'.cell? ⟨w5.heap.size, 3, none⟩ = some (.slice xa xn xc) ∧ w'.cell? ⟨w.heap.size, 0, none⟩ = some (.int .i64 x.1) ∧ w'.cell? ⟨w.heap.size, 1, none⟩ = some (.string x.2.1) ∧ w'.cell? ⟨w.heap.size, 2, none⟩ = some (.string x.2.2.1) ∧ w'.cell? ⟨w.heap.size, 3, none⟩ = some (.slice ra rn rc))) (first | (exact keep8m hb4 (by assumption)) | (exact keep8m hb3 (by assumption)) | (go_keep)) (first | (go_at_call 11; have h9 := hb3; refine (eqSealT x.1 x.2.1 x.2.2.1 xa _ xn xc _ _ x.2.2.2 _ (seal_sls (sealR.ownBelow HX1.out (hdr.trans (hb3.mono hdr.size)))) (seal_sls HO3.out)).mono ?_; rintro e y4 ⟨rfl, hb4⟩) | (go_at_call 7; refine (HTS.out _ (hbl.trans (hdr.mono hbl.size))).mono ?_; rintro e y3 ⟨us3, F3, rfl, hO3, hF3, hb3⟩; obtain ⟨za, zn, zc, rfl⟩ := seal_vals hO3; have HO3 := Hid.mk' hO3) | fail "no arm")
  have hB4 := (hdr.trans (hb3.mono hdr.size)).trans (hb4.mono (Nat.le_trans hdr.size hb3.size))
  have T4 := HQ1.out.below hB4
  have HX4 := Hid.mk' (sealR.ownBelow HX1.out hB4)
  have HT4 := Hid.mk' (tablesN.ownBelow HT1.out hB4)
  clear HQ1 hb3 hb4 HO3 hO3 hF3 hdr hbl hB4 HX1 HT1
  clear p0 p1 p2 p3 q0 q1 q2 q3
  have HQ4 := Hid.mk' T4
  clear T4
  go_wp2_with fail
  refine (HTT.out _ HQ4.out.bel).mono ?_
  rintro e y5 ⟨v5, F5, rfl, ho5, hf5, hb5⟩
  obtain ⟨ta5, tn5, tc5, rfl⟩ := slice_shape ho5
  have T5 := HQ4.out.below hb5
  have HX5 := Hid.mk' (sealR.ownBelow HX4.out hb5)
  have HT5 := Hid.mk' (tablesN.ownBelow HT4.out hb5)
  have HE5 := Hid.mk' (eqTab HT5.out ho5)
  clear HQ4 HX4 HT4 ho5 hf5 hb5
  have HQ5 := Hid.mk' T5
  clear T5
  go_wp2_with fail
  refine HE5.out.mono ?_
  rintro e y6 ⟨rfl, hB⟩
  have T6 := HQ5.out.below hB
  have HX6 := Hid.mk' (sealR.ownBelow HX5.out hB)
  have HT6 := Hid.mk' (tablesN.ownBelow HT5.out hB)
  clear HQ5 hB HX5 HT5 HE5
  have HQ6 := Hid.mk' T6
  clear T6
  obtain ⟨p0, p1, p2, p3⟩ := box4 HQ6.out.bx
  have HMX := Hid.mk' (show Calls Tryd.prog 13 #[.agg #[.int .i64 x.1, .string x.2.1, .string x.2.2.1, .slice xa xn xc], .int .i64 1] y6 _ from markSeal [.int .i64 x.1, .string x.2.1, .string x.2.2.1, .slice xa xn xc] x FX 1 y6 HX6.out (by omega) (by omega))
  go_wp2_with fail
  refine HMX.out.mono ?_
  rintro e y7 ⟨rfl, hk7⟩
  have T7 := HQ6.out.markX hk7
  have HT7 := Hid.mk' (tablesN.ownFrame HT6.out hk7 (fun k hk hk2 => by have := HQ6.out.ft k hk; have := HQ6.out.fx k hk2; omega))
  clear HQ6 HX6 HT6 HMX hk7
  clear p0 p1 p2 p3
  have HQ7 := Hid.mk' T7
  clear T7
  obtain ⟨K1, hK1⟩ : ∃ K, 1 + x.2.2.2.length = K := ⟨_, rfl⟩
  have hK1b : 1 ≤ K1 ∧ K1 ≤ 1048577 := by omega
  simp only [hK1]
  have HMT := Hid.mk' (markTablesN (.slice ua7 un7 uc7) ts FT K1 y7 HT7.out hK1b.1 (by omega))
  clear hK1
  go_wp2_with fail
  refine HMT.out.mono ?_
  rintro e y8 ⟨rfl, _, hk8⟩
  have T8 := HQ7.out.markT hk8
  clear HQ7 HT7 HMT hk8
  have HQ8 := Hid.mk' T8
  clear T8
  have hkp : ¬ ((K1 + cntAll cntT ts : Nat) : Int) < 0 := by omega
  generalize ((K1 + cntAll cntT ts : Nat) : Int) = KM at *
  obtain ⟨p0, p1, p2, p3⟩ := box4 HQ8.out.bg
  obtain ⟨q0, q1, q2, q3⟩ := box4 HQ8.out.bw
  go_wp2_with fail
  refine (HEB.out _ _ _ _ _ _ _ _ _ _ _ _ _ _ _ HQ8.out.gn HQ8.out.wn).mono ?_
  rintro e z1 ⟨rfl, hB⟩
  have T9 := HQ8.out.below hB
  clear HQ8 hB
  clear p0 p1 p2 p3 q0 q1 q2 q3
  have HQ9 := Hid.mk' T9
  clear T9
  obtain ⟨p0, p1, p2, p3⟩ := box4 HQ9.out.bg
  have HMG := Hid.mk' (show Calls Tryd.prog 15 #[.agg #[.int .i64 M.1, .string M.2.1, .slice ga gn gc, .slice gp gm gk], .int .i64 1] z1 _ from markBundle [.int .i64 M.1, .string M.2.1, .slice ga gn gc, .slice gp gm gk] M FG 1 z1 HQ9.out.gn (by omega) (by omega) HML.out)
  go_wp2_with fail
  refine HMG.out.mono ?_
  rintro e z2 ⟨rfl, hog, hkg⟩
  have T10 := HQ9.out.markG hog hkg
  clear HQ9 HMG hog hkg
  clear p0 p1 p2 p3
  have HQ10 := Hid.mk' T10
  clear T10
  have hkq : ¬ ((1 + cntB M : Nat) : Int) < 0 := by omega
  have HHB := Hid.mk' (fun wx (q : bundleR.own wx [.int .i64 M.1, .string M.2.1, .slice ga gn gc, .slice gp gm gk] (mB 1 M) FG) => (show Calls Tryd.prog 16 #[.agg #[.int .i64 M.1, .string M.2.1, .slice ga gn gc, .slice gp gm gk], .int .i64 1] wx _ from heldBundle ga gn gc gp gm gk M 1 wx (see_bu (x := mB 1 M) (bundleR.ownSee q)) (by omega) (by omega) HML.out))
  generalize ((1 + cntB M : Nat) : Int) = KG at *
  obtain ⟨p0, p1, p2, p3⟩ := box4 HQ10.out.bg
  go_wp2_with fail
  refine (HHB.out _ HQ10.out.gn).mono ?_
  rintro e z3 ⟨rfl, hB⟩
  have T11 := HQ10.out.below hB
  clear HQ10 hB
  clear p0 p1 p2 p3
  have HQ11 := Hid.mk' T11
  clear T11
  obtain ⟨q0, q1, q2, q3⟩ := box4 HQ11.out.arg
  go_wp2_with fail
  refine (HTS.out _ HQ11.out.bel).mono ?_
  rintro e z4 ⟨us4, F4, rfl, ho4, hf4, hb4⟩
  obtain ⟨za, zn, zc, rfl⟩ := seal_vals ho4
  have T12 := HQ11.out.below hb4
  clear HQ11 q0 q1 q2 q3
  have HQ12 := Hid.mk' T12
  clear T12
  go_wp2_with fail
  refine (HTT.out _ HQ12.out.bel).mono ?_
  rintro e z5 ⟨v5, F5, rfl, ho5, hf5, hb5⟩
  obtain ⟨zt, zm, zk, rfl⟩ := slice_shape ho5
  have T13 := HQ12.out.below hb5
  have HI13 := Hid.mk' (HIM.out _ _ _ _ _ _ _ _ _ (sealR.ownBelow ho4 hb5) ho5 (HKW.out _ T13.bel))
  clear HQ12 ho4 hf4 hb4 ho5 hf5 hb5
  have HQ13 := Hid.mk' T13
  clear T13
  go_wp2_with fail
  refine HI13.out.mono ?_
  rintro e z6 ⟨us6, FH, rfl, ho6, hf6, hb6⟩
  obtain ⟨ha, hn, hc, hp, hm, hk, rfl⟩ := bundle_shape ho6
  obtain ⟨z7, hz7⟩ : ∃ V, z6.alloc (.cells #[.int .i64 M.1, .string M.2.1, .slice ha hn hc, .slice hp hm hk] 30) = V := ⟨_, rfl⟩
  have hb7 : Below z6.heap.size z6 z7 := by rw [← hz7]; exact below_make
  have hbh : BoxIn z6.heap.size 30 [] [.int .i64 M.1, .string M.2.1, .slice ha hn hc, .slice hp hm hk] [] z7 := by rw [← hz7]; exact boxIn_new z6 _ _
  have T14 := (HQ13.out.below hb6).below hb7
  have HH14 := Hid.mk' (bundleR.ownBelow ho6 hb7)
  have HZ7 := Hid.mk' hz7
  obtain ⟨p0, p1, p2, p3⟩ := box4 hbh
  obtain ⟨q0, q1, q2, q3⟩ := box4 T14.bw
  rw [← hz7] at p0 p1 p2 p3 q0 q1 q2 q3
  clear HQ13 HI13 ho6 hf6 hb6 hb7 hz7 hbh
  have HQ14 := Hid.mk' T14
  clear T14
  go_wp2_with fail
  rw [HZ7.out]
  clear p0 p1 p2 p3 q0 q1 q2 q3 HZ7
  refine (HEB.out _ _ _ _ _ _ _ _ _ _ _ _ _ _ _ HH14.out HQ14.out.wn).mono ?_
  rintro e z8 ⟨rfl, hB⟩
  have T15 := HQ14.out.below hB
  clear HQ14 HH14 hB
  have HQ15 := Hid.mk' T15
  clear T15
  obtain ⟨p0, p1, p2, p3⟩ := box4 HQ15.out.bg
  go_wp2_with fail
  refine (HHB.out _ HQ15.out.gn).mono ?_
  rintro e z9 ⟨rfl, hB⟩
  have T16 := HQ15.out.below hB
  clear HQ15 hB
  go_wp2_with fail
  go_ret
  exact ⟨rfl, T16.bel⟩

set_option maxRecDepth 100000 in
theorem lifted (os : Os) (started : os.Started) (H : Type) (enc : TypeId × Value → H) :
    ReturnsInHanded {} Tryd.checked os 3 .any (fun w args => (Rows.fnExactMakeBundleSpec.pre enc Tryd.prog Tryd.f3 [] false w args ∧ laidMetH Tryd.prog door.laidD w) ∧ sizedMet enc Tryd.prog Tryd.f3 (OpenSpec.ofChange Rows.fnExactMakeBundleSpec) false w args)
      (Rows.fnExactMakeBundleSpec.post enc Tryd.prog Tryd.f3 false true false false) := by
  refine returnsInHanded_of_change_and (C := Tryd.checked) (X := fun w _ => laidMetH Tryd.prog door.laidD w) (fun _ _ _ hh h => h.of_heap hh) door.own started (by kernel_rfl) Tryd.func3
    (ChangeSpec.witness_shaped (enc := enc) (C := Tryd.checked) (os := os) (X := fun w _ => laidMetH Tryd.prog door.laidD w) false (World.laidAll Tryd.prog os door.laidD) #[.agg #[.int .i64 0, .string ByteArray.empty, .string ByteArray.empty, .slice none 0 0], .slice none 0 0, .string ByteArray.empty, .string ByteArray.empty] 70 (World.laidAll_os _ _ _) (World.shaped_of_ZipB (by kernel_rfl) (by kernel_rfl)) (by kernel_rfl) (by kernel_rfl) (by kernel_rfl)
      (by rw [MakeChecks.laidMetH_plain _ _ _ (by kernel_rfl)]; exact laidMet_laidAll _ (by kernel_rfl) (by kernel_rfl))) ?_
  intro W base args ds gs before hval0 hW _ _ hL _
  have hval : ∀ (j : Nat) t v, Tryd.f3.params[j]? = some t → args[j]? = some v → Value.okWide Tryd.prog W .any base t v := hval0
  have hW' := hW
  obtain ⟨p, q, hA0, hV, rfl, hfz, hnd⟩ := hW
  have hA : DataW.TrodAll enc Tryd.prog W 0 (fun _ => true) true Tryd.f3.params.toList args.toList ds p := hA0
  rw [Tryd.params3] at hA hval
  obtain ⟨v0, vs0, d0, ds0, p0, q0, hargs, rfl, rfl, h0, r0⟩ := trodAll_cons hA
  obtain ⟨v1, vs1, d1, ds1, p1, q1, rfl, rfl, rfl, h1, r1⟩ := trodAll_cons r0
  obtain ⟨v2, vs2, d2, ds2, p2, q2, rfl, rfl, rfl, h2, r2⟩ := trodAll_cons r1
  obtain ⟨v3, vs3, d3, ds3, p3, q3, rfl, rfl, rfl, h3, r3⟩ := trodAll_cons r2
  obtain ⟨rfl, rfl, rfl⟩ := trodAll_nil r3
  obtain rfl : args = #[v0, v1, v2, v3] := by cases args; simp_all
  obtain ⟨gv, tv, csv, fv, dv, pv, rfl, _, _, _, _, _⟩ := trodVars_one (show DataW.TrodVars enc Tryd.prog W (fun _ => true) ["loop.example/g00244/impl.roundWords"] gs q from hV)
  have k0 := h0
  have lt0 : ∀ x ∈ p0, x.block < W.heap.size := by obtain ⟨m, hm⟩ := k0; exact DataW.trod_lt m _ _ _ hm
  obtain ⟨cs0, b0, rfl, w0⟩ : ∃ cs b, v0 = .agg cs.toArray ∧ seals.sealR.see W cs b := by obtain ⟨fuel, hf⟩ := h0; exact lay.arg_struct Tryd.underlying24 (by kernel_rfl) seals.reads_seal (hval 0 24 v0 rfl rfl) hf
  obtain ⟨c0_0, c0_1, c0_2, c0_3, rfl⟩ := lay.vals4 (seals.sealR.seeLen w0)
  obtain ⟨a1, len1, cap1, rfl⟩ := okWide_slice Tryd.underlying25 (hval 1 25 v1 rfl rfl)
  have k1 := h1
  have lt1 : ∀ x ∈ p1, x.block < W.heap.size := by obtain ⟨m, hm⟩ := k1; exact DataW.trod_lt m _ _ _ hm
  obtain ⟨b1, w1⟩ : ∃ l, lay.SlG tabs.tableR W a1 len1 l := by
    obtain ⟨fuel, hf⟩ := h1
    obtain ⟨y, a', n', c', e, _, hs⟩ := tabs.reads_tables _ enc W fuel _ _ rfl hf
    cases e
    exact ⟨y, hs⟩
  obtain ⟨a2, rfl, rfl, rfl, w2⟩ := open_string Tryd.underlying9 (hval 2 9 v2 rfl rfl) h2
  obtain ⟨a3, rfl, rfl, rfl, w3⟩ := open_string Tryd.underlying9 (hval 3 9 v3 rfl rfl) h3
  clear hA0 hval0
  refine (walk c0_0 c0_1 c0_2 c0_3 b0 a1 len1 cap1 b1 a2 a3 W w0 w1 w2 w3 (door.words_of_laid hL)).mono fun e W' ⟨he, bel⟩ => ?_
  subst he
  exact ⟨_, rfl, _, _, _, [], _, _, hW', trodAll_mk1 (shut_bool Tryd.underlying4 _), (trodAll_cons_mk (Below.trod door.laidOut (by kernel_rfl) (of_decide_eq_true (by kernel_rfl)) k0 bel lt0) (trodAll_cons_mk (Below.trod door.laidOut (by kernel_rfl) (of_decide_eq_true (by kernel_rfl)) k1 bel lt1) (trodAll_cons_mk (shut_string Tryd.underlying9 w2) (trodAll_cons_mk (shut_string Tryd.underlying9 w3) trodAll_mk0)))), bel.trodVars door.laidOut (by kernel_rfl) hV, bel.frame _, fun h => by cases h⟩

theorem over : Rows.fnExactMakeBundleRow.holds Tryd.pinned (OpenSpec.ofChange Rows.fnExactMakeBundleSpec) :=
  OpenClaim.holds_of_wide 3 Tryd.f3 rfl rfl rfl rfl rfl rfl rfl ⟨rfl, rfl, rfl, rfl, rfl⟩ rfl rfl rfl rfl rfl (by kernel_rfl) Tryd.func3 (by kernel_rfl)
    (of_decide_eq_true (by kernel_rfl)) (by unfold Func.isWrapper; first | (rw [if_pos (by decide +kernel)]; kernel_rfl) | (rw [if_neg (by decide +kernel)]; exact ⟨rfl, rfl⟩))
    (fun os started H enc _ => lifted os started H enc)

theorem proved : Rows.FnExactMakeBundleCardSaid :=
  Claim7.holds_tied_plain_at .later [] [.data] true (true, "6c2849cc188782100fbd527150505ea573123aac354f3f542b9785598062b836") false
    over (fun _ h => by cases h) (by kernel_rfl) (fun _ h => by cases h) fnExactMakeBundle_row_tie rfl ⟨rfl, rfl⟩ (by kernel_rfl) rfl
    (fun f fn hf hfn => by
      obtain rfl : f = 3 := Option.some.inj ((show Tryd.prog.funcNamed "loop.example/g00244/laws.FnExactMakeBundle" = some 3 by kernel_rfl).symm.trans hf) |>.symm
      obtain rfl : fn = Tryd.f3 := (Option.some.inj (Tryd.func3.symm.trans hfn)).symm
      exact ⟨by kernel_rfl, fun j t ht => by
        rw [Tryd.params3] at ht
        have hm : t ∈ [24, 25, 9, 9] := by simpa using Array.mem_of_getElem? ht
        have hall : ([24, 25, 9, 9].all fun u => !Tryd.prog.wantsStandIn u) = true := by kernel_rfl
        exact (show Tryd.prog.wantsStandIn t = false by simpa using List.all_eq_true.1 hall t hm)⟩)
    (by kernel_rfl)
end Go.Proofs.YteammdkipnfmnaaDoor.fnExactMakeBundle
