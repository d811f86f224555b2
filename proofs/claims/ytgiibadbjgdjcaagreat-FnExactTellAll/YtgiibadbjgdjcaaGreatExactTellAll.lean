/- The statement FnExactTellAllSaid: at every one who decides FnExactTellAll answers true, and the arguments read afterwards as before. No condition besides the row's own. -/
import Derived.Test.YtgiibadbjgdjcaaGreatRows
import Derived.Test.YtgiibadbjgdjcaaGreatBund12bd
import Derived.Test.YtgiibadbjgdjcaaGreatBund12bc
import Derived.Test.YtgiibadbjgdjcaaGreatBund13g
import Derived.Test.YtgiibadbjgdjcaaGreatBund13d
import Derived.Test.YtgiibadbjgdjcaaGreatBund13e
import Derived.ProofKit
import Derived.OpenShut
import Derived.ShutString
import Derived.ChangeOld
import Derived.Below
namespace Go.Proofs.YtgiibadbjgdjcaaGreat.fnExactTellAll
open Go.ChangeShapes Go.WideShapes Go.ChangeAt Go.RowKit
open Go.ChangeMaps (open_string shut_string)
set_option linter.unusedVariables false
open Go.Proofs.YtgiibadbjgdjcaaGreat.base Go.Proofs.YtgiibadbjgdjcaaGreat.pairs Go.Proofs.YtgiibadbjgdjcaaGreat.ords Go.Proofs.YtgiibadbjgdjcaaGreat.help Go.Proofs.YtgiibadbjgdjcaaGreat.helps Go.Proofs.YtgiibadbjgdjcaaGreat.cos Go.Proofs.YtgiibadbjgdjcaaGreat.lay Go.Proofs.YtgiibadbjgdjcaaGreat.wds

set_option maxRecDepth 100000 in
set_option maxHeartbeats 8000000 in
theorem walk (u0 u1 u2 u3 u4 u5 : Value) (c : Co) (w : World) (h0 : coordR.see w [u0, u1, u2, u3, u4, u5] c) :
    Calls Tryz.prog 6 #[.agg #[u0, u1, u2, u3, u4, u5]] w fun e w' => e = .returned (.bool true) ∧ Below w.heap.size w w' := by
  obtain ⟨ja, jn, jc, la, ln, lc, rfl, rfl, rfl, rfl, rfl, rfl, h⟩ := coord_see6 h0
  clear h0
  obtain ⟨W, hW⟩ : ∃ W, w.alloc (.cells #[.int .i64 c.1, .int .i64 c.2.1, .int .i64 c.2.2.1, .slice ja jn jc, .slice la ln lc, .int .i64 c.2.2.2.2.2] 43) = W := ⟨_, rfl⟩
  have hB : Below w.heap.size w W := by rw [← hW]; exact below_make
  have hA : BoxIn w.heap.size 43 [] [.int .i64 c.1, .int .i64 c.2.1, .int .i64 c.2.2.1, .slice ja jn jc, .slice la ln lc, .int .i64 c.2.2.2.2.2] [] W := by rw [← hW]; exact boxIn_new w _ _
  have hsz := szCoord ja jn jc la ln lc c 1048576 W (h.below hB) (by omega)
  have HW := Hid.mk' hW
  have ARG : Hid (∀ wx, Below W.heap.size W wx → wx.cell? ⟨w.heap.size, 0, none⟩ = some (.int .i64 c.1) ∧ wx.cell? ⟨w.heap.size, 1, none⟩ = some (.int .i64 c.2.1) ∧ wx.cell? ⟨w.heap.size, 2, none⟩ = some (.int .i64 c.2.2.1) ∧ wx.cell? ⟨w.heap.size, 3, none⟩ = some (.slice ja jn jc) ∧ wx.cell? ⟨w.heap.size, 4, none⟩ = some (.slice la ln lc) ∧ wx.cell? ⟨w.heap.size, 5, none⟩ = some (.int .i64 c.2.2.2.2.2)) := fun wx hx => cells6 (hA.below hx)
  obtain ⟨a0, a1, a2, a3, a4, a5⟩ := ARG.out W (Below.refl _ _)
  rw [← hW] at a0 a1 a2 a3 a4 a5
  clear hW
  by_cases hover : 1048576 < csz c
  · rw [pairs.szR_neg hover] at hsz
    have HZ := Hid.mk' hsz
    clear hsz
    go_enter Tryz.func6, Tryz.ntmps6
    go_wp2_with fail
    rw [HW.out]
    refine HZ.out.mono ?_
    rintro e wa ⟨rfl, hb⟩
    clear a0 a1 a2 a3 a4 a5
    go_wp2_with fail
    go_ret
    exact ⟨rfl, hB.trans (hb.mono hB.size)⟩
  rw [pairs.szR_pos (by omega)] at hsz
  obtain ⟨r, hrr⟩ : ∃ r : Nat, ((1048576 : Nat) : Int) - (csz c : Int) = (r : Int) := ⟨1048576 - csz c, by omega⟩
  rw [hrr] at hsz
  have HZ := Hid.mk' hsz
  have hbd := bound_co (c := c) (by omega)
  have HTO := Hid.mk' (fun wx (hx : Below W.heap.size W wx) => toCoord ja jn jc la ln lc c wx ((h.below hB).below hx) hbd)
  have hcs := hbd.cnt
  have hcR : cntAll cntW (tellR c) ≤ 268435456 := tell_small hbd
  have HS := Hid.mk' (fun (ja jn jc la ln lc) wx (hs : SeeCo wx ja jn jc la ln lc c) => spec_tellAll ja jn jc la ln lc c wx hs hbd)
  have HI := Hid.mk' (fun (ja jn jc la ln lc) wx (hs : SeeCo wx ja jn jc la ln lc c) => impl_tellAll ja jn jc la ln lc c wx hs hbd)
  generalize tellR c = R at hcR HS HI
  clear hsz hrr hover h hA
  go_enter Tryz.func6, Tryz.ntmps6
  go_wp2_with fail
  rw [HW.out]
  refine HZ.out.mono ?_
  rintro e w1 ⟨rfl, hb1⟩
  clear a0 a1 a2 a3 a4 a5 HZ HW
  obtain ⟨a0, a1, a2, a3, a4, a5⟩ := ARG.out w1 hb1
  go_wp2_with fail
  refine (HTO.out _ hb1).mono ?_
  rintro e w2 ⟨vs2, F1, rfl, hO2, hF1, hb2⟩
  obtain ⟨tja, tjn, tjc, tla, tln, tlc, rfl⟩ := coord_shape hO2
  have hbW2 := hb1.trans (hb2.mono hb1.size)
  have HS2 := Hid.mk' (HS.out _ _ _ _ _ _ w2 (see_co (coordR.ownSee hO2)))
  clear a0 a1 a2 a3 a4 a5 hO2 HS
  go_wp2_with fail
  refine HS2.out.mono ?_
  rintro e w3 ⟨w_g, w_m, w_cap, qW, rfl, hW3, hFW, hb3⟩
  have hlW := hW3.nlen
  have hbW3 := hbW2.trans (hb3.mono hbW2.size)
  have kW : ∀ k ∈ w_g :: blocksOf qW, W.heap.size ≤ k ∧ k < w3.heap.size := fun k hk => by
    have := hFW k hk; have := hW3.lts k hk; have := hbW2.size; omega
  obtain ⟨a0, a1, a2, a3, a4, a5⟩ := ARG.out w3 hbW3
  have HT3 := Hid.mk' (HTO.out w3 hbW3)
  have HLW := Hid.mk' hlW
  clear HS2 hFW hF1 hlW
  go_wp2_with fail
  refine HT3.out.mono ?_
  rintro e w5 ⟨vs5, FX, rfl, hO5, hFX, hb5⟩
  obtain ⟨xja, xjn, xjc, xla, xln, xlc, rfl⟩ := coord_shape hO5
  have hbW5 := hbW3.trans (hb5.mono hbW3.size)
  obtain ⟨v5, hv5⟩ : ∃ v5, w5.alloc (.cells #[.int .i64 c.1, .int .i64 c.2.1, .int .i64 c.2.2.1, .slice xja xjn xjc, .slice xla xln xlc, .int .i64 c.2.2.2.2.2] 33) = v5 := ⟨_, rfl⟩
  have hc5 : Below w5.heap.size w5 v5 := by rw [← hv5]; exact below_make
  have hs5 : v5.heap.size = w5.heap.size + 1 := by rw [← hv5]; simp
  have hX5 := inR_new (T := 33) hO5
  rw [hv5] at hX5
  have hbW6 := hbW5.trans (hc5.mono hbW5.size)
  have hW5 := (hW3.below hb5).below hc5
  have kX : ∀ k ∈ w5.heap.size :: FX, w3.heap.size ≤ k ∧ k < v5.heap.size := fun k hk => by
    rcases List.mem_cons.1 hk with e | e
    · have := hb5.size; omega
    · have := hFX k e; have := coordR.ownLt hO5 k e; omega
  obtain ⟨x0, x1, x2, x3, x4, x5⟩ := cells6 hX5.box
  rw [← hv5] at x0 x1 x2 x3 x4 x5
  have HV5 := Hid.mk' hv5
  have HI5 := Hid.mk' (HI.out _ _ _ _ _ _ v5 (see_co hX5.see))
  clear a0 a1 a2 a3 a4 a5 HT3 hO5 hv5 hs5 hFX hW3 hbW3 hbW5 hb5 hc5 hb3
  go_wp2_with fail
  rw [HV5.out]
  refine HI5.out.mono ?_
  rintro e w6 ⟨g_g, g_m, g_cap, qG, rfl, hG6, hFG, hb6⟩
  have hlG := hG6.nlen
  obtain rfl : g_m = w_m := hlG.trans HLW.out.symm
  have hW6 := hW5.below hb6
  have hX6 := hX5.below hb6
  have hbW7 := hbW6.trans (hb6.mono hbW6.size)
  have hW0 : W.heap.size ≤ w3.heap.size := by have := kW _ List.mem_cons_self; omega
  have hW1 : w3.heap.size ≤ v5.heap.size := by have := kX _ List.mem_cons_self; omega
  have dXW : ∀ k ∈ w_g :: blocksOf qW, k ∉ FX := fun k hk e => by have := kW k hk; have := kX k (List.mem_cons_of_mem _ e); omega
  have dXG : ∀ k ∈ g_g :: blocksOf qG, k ∉ FX := fun k hk e => by have := hFG k hk; have := kX k (List.mem_cons_of_mem _ e); omega
  have dGW : ∀ k ∈ w_g :: blocksOf qW, k ∉ g_g :: blocksOf qG := fun k hk e => by have := kW k hk; have := hFG k e; omega
  have fX : ∀ k ∈ FX, W.heap.size ≤ k := fun k hk => by have := kX k (List.mem_cons_of_mem _ hk); omega
  have fG : ∀ k ∈ g_g :: blocksOf qG, W.heap.size ≤ k := fun k hk => by have := hFG k hk; omega
  have HE6 := Hid.mk' (eqWordsT _ _ g_m g_cap w_cap R w6 hG6.sl hW6.sl)
  clear x0 x1 x2 x3 x4 x5 HV5 HI5 hFG hW5 hX5 hbW6 hb6 kW kX hW0 hW1 hlG
  go_wp2_with fail
  refine HE6.out.mono ?_
  rintro e w7 ⟨rfl, hb7⟩
  have hG7 := hG6.below hb7
  have hW7 := hW6.below hb7
  have hX7 := hX6.below hb7
  have hbW8 := hbW7.trans (hb7.mono hbW7.size)
  obtain ⟨x0, x1, x2, x3, x4, x5⟩ := cells6 hX7.box
  obtain ⟨a0, a1, a2, a3, a4, a5⟩ := ARG.out w7 hbW8
  clear HE6 hG6 hW6 hX6 hbW7 hb7
  have hdr : Below w7.heap.size w7 w7.drew := (Below.refl _ _).drew
  have hbWd := hbW8.trans (hdr.mono hbW8.size)
  go_wp2_with fail
  go_region_held3 (fun w' => (w'.cell? ⟨w5.heap.size, 0, none⟩ = some (.int .i64 c.1) ∧ w'.cell? ⟨w5.heap.size, 1, none⟩ = some (.int .i64 c.2.1) ∧ w'.cell? ⟨w5.heap.size, 2, none⟩ = some (.int .i64 c.2.2.1) ∧ w'.cell? ⟨w5.heap.size, 3, none⟩ = some (.slice xja xjn xjc) ∧ w'.cell? ⟨w5.heap.size, 4, none⟩ = some (.slice xla xln xlc) ∧ w'.cell? ⟨w5.heap.size, 5, none⟩ = some (.int .i64 c.2.2.2.2.2) ∧ w'.cell? ⟨w.heap.size, 0, none⟩ = some (.int .i64 c.1) ∧ w'.cell? ⟨w.heap.size, 1, none⟩ = some (.int .i64 c.2.1) ∧ w'.cell? ⟨w.heap.size, 2, none⟩ = some (.int .i64 c.2.2.1) ∧ w'.cell? ⟨w.heap.size, 3, none⟩ = some (.slice ja jn jc) ∧ w'.cell? ⟨w.heap.size, 4, none⟩ = some (.slice la ln lc) ∧ w'.cell? ⟨w.heap.size, 5, none⟩ = some (.int .i64 c.2.2.2.2.2))) (first | (exact keepBoth6 hb9 (by assumption)) | (exact keepBoth6 hb8 (by assumption)) | (go_keep)) (first | (go_at_call 26; have h9 := hb8; refine (eqCoordT _ _ _ _ _ _ _ _ _ _ _ _ c _ (see_co (hX7.below (hdr.trans (hb8.mono hdr.size))).see) HO8.out).mono ?_; rintro e w9 ⟨rfl, hb9⟩) | (go_at_call 23; refine (HTO.out _ hbWd).mono ?_; rintro e w8 ⟨vs8, F3, rfl, hO8, hF8, hb8⟩; obtain ⟨yja, yjn, yjc, yla, yln, ylc, rfl⟩ := coord_shape hO8; have HO8 := Hid.mk' (see_co (coordR.ownSee hO8))) | fail "no arm")
  have hb79 := (hdr.trans (hb8.mono hdr.size)).trans (hb9.mono (Nat.le_trans hdr.size hb8.size))
  have hG9 := hG7.below hb79
  have hW9 := hW7.below hb79
  have hX9 := hX7.below hb79
  have hbW9 := hbW8.trans (hb79.mono hbW8.size)
  have HM9 := Hid.mk' (markCoord _ _ _ _ _ _ c FX 1 w9 hX9.own (by omega) (by omega))
  clear x0 x1 x2 x3 x4 x5 a0 a1 a2 a3 a4 a5 hdr hbWd hb8 hb9 hb79 hO8 HO8 hF8 hG7 hW7 hX7 hbW8
  obtain ⟨x0, x1, x2, x3, x4, x5⟩ := cells6 hX9.box
  go_wp2_with fail
  refine HM9.out.mono ?_
  rintro e w10 ⟨rfl, hOx, hf10⟩
  have hG10 := hG9.keep fun k hk => hf10.block k (hG9.at_ k hk) (dXG k (by simpa [Value.ownBlock] using hk))
  have hW10 := hW9.keep fun k hk => hf10.block k (hW9.at_ k hk) (dXW k (by simpa [Value.ownBlock] using hk))
  have hbW10 := hbW9.trans (hf10.bel hbW9.size fX)
  have hnn : ¬ ((1 + cntC c : Nat) : Int) < 0 := by omega
  have HE10 := Hid.mk' (eqWordsT _ _ g_m g_cap w_cap R w10 hG10.sl hW10.sl)
  clear x0 x1 x2 x3 x4 x5 HM9 hOx hf10 hG9 hW9 hX9 hbW9
  go_wp2_with fail
  refine HE10.out.mono ?_
  rintro e w11 ⟨rfl, hb11⟩
  have hG11 := hG10.below hb11
  have hW11 := hW10.below hb11
  have hbW11 := hbW10.trans (hb11.mono hbW10.size)
  have HM11 := Hid.mk' (markWordS _ _ _ R qG 1 w11 hG11 (by omega) (by omega))
  clear HE10 hG10 hW10 hbW10 hb11
  go_wp2_with fail
  refine HM11.out.mono ?_
  rintro e w12 ⟨rfl, qM, hG12, hqM, hf12⟩
  have hW12 := hW11.keep fun k hk => hf12.block k (hW11.at_ k hk) (dGW k (by simpa [Value.ownBlock] using hk))
  have hbW12 := hbW11.trans (hf12.bel hbW11.size fG)
  have HD := Hid.mk' (fun wx (hx : OwnG 112 wordR wx (.slice (some ⟨g_g, 0, none⟩) g_m g_cap) (markRow mW cntW 1 R) qM) => heldWordS _ _ g_cap R 1 wx hx.sl (by omega) (by omega))
  have HD12 := Hid.mk' (HD.out _ hG12)
  have hnm : ¬ ((1 + cntAll cntW R : Nat) : Int) < 0 := by omega
  have hmm : (((1 + cntAll cntW R : Nat) : Int) != ((1 + cntAll cntW R : Nat) : Int)) = false := by simp
  clear HM11 hf12 hG11 hW11 hbW11 hnn
  go_wp2_with fail
  refine HD12.out.mono ?_
  rintro e w13 ⟨rfl, hb13⟩
  have hG13 := hG12.below hb13
  have hW13 := hW12.below hb13
  have hbW13 := hbW12.trans (hb13.mono hbW12.size)
  clear HD12 hG12 hW12 hbW12 hb13
  obtain ⟨a0, a1, a2, a3, a4, a5⟩ := ARG.out w13 hbW13
  go_wp2_with fail
  refine (HTO.out _ hbW13).mono ?_
  rintro e w14 ⟨vs14, FZ, rfl, hO14, hFZ, hb14⟩
  obtain ⟨zja, zjn, zjc, zla, zln, zlc, rfl⟩ := coord_shape hO14
  have hG14 := hG13.below hb14
  have hW14 := hW13.below hb14
  have hbW14 := hbW13.trans (hb14.mono hbW13.size)
  have HI14 := Hid.mk' (HI.out _ _ _ _ _ _ w14 (see_co (coordR.ownSee hO14)))
  clear a0 a1 a2 a3 a4 a5 hG13 hW13 hbW13 hb14 HI hO14
  go_wp2_with fail
  refine HI14.out.mono ?_
  rintro e w15 ⟨h_g, h_m, h_cap, qH, rfl, hH15, hFH, hb15⟩
  have hlH := hH15.nlen
  obtain rfl : h_m = g_m := hlH.trans HLW.out.symm
  have hG15 := hG14.below hb15
  have hW15 := hW14.below hb15
  have hbW15 := hbW14.trans (hb15.mono hbW14.size)
  have HE15 := Hid.mk' (eqWordsT _ _ h_m h_cap w_cap R w15 hH15.sl hW15.sl)
  clear HI14 hFH hFZ hG14 hW14 hbW14 hb15 hH15 hlH
  go_wp2_with fail
  refine HE15.out.mono ?_
  rintro e w16 ⟨rfl, hb16⟩
  have hG16 := hG15.below hb16
  have hbW16 := hbW15.trans (hb16.mono hbW15.size)
  have HD16 := Hid.mk' (HD.out _ hG16)
  clear HE15 hG15 hW15 hbW15 hb16 HD
  go_wp2_with fail
  refine HD16.out.mono ?_
  rintro e w17 ⟨rfl, hb17⟩
  have hB17 := hB.trans ((hbW16.trans (hb17.mono hbW16.size)).mono hB.size)
  clear HD16 hG16 hbW16 hb17
  go_wp2_with fail
  go_ret
  exact ⟨rfl, hB17⟩

theorem own : ownKnob Tryz.prog.godebug = none := by kernel_rfl
theorem laidOut : laidOutB Tryz.prog = true := by kernel_rfl

set_option maxRecDepth 100000 in
theorem lifted (os : Os) (started : os.Started) (H : Type) (enc : TypeId × Value → H) :
    ReturnsInHanded {} Tryz.checked os 6 .any (Rows.fnExactTellAllSpec.pre6 enc Tryz.prog Tryz.f6 Rows.fnExactTellAllRow.domain false) (Rows.fnExactTellAllSpec.post enc Tryz.prog Tryz.f6 false true false false) := by
  refine returnsInHanded_of_change (C := Tryz.checked) own started (by kernel_rfl) Tryz.func6
    (ChangeSpec.witness6 (enc := enc) (C := Tryz.checked) false ⟨#[], #[.agg #[.int .i64 0, .int .i64 0, .int .i64 0, .slice none 0 0, .slice none 0 0, .int .i64 0]], []⟩ 8 (by kernel_rfl) (by kernel_rfl) (by kernel_rfl) (by kernel_rfl)) ?_
  intro W base args ds gs before hval0 hW hcnd _
  have hval : ∀ (j : Nat) t v, Tryz.f6.params[j]? = some t → args[j]? = some v → Value.okWide Tryz.prog W .any base t v := hval0
  have hW' := hW
  obtain ⟨p, q, hA0, hV, rfl, hfz, hnd⟩ := hW
  have hA : DataW.TrodAll enc Tryz.prog W 0 (fun _ => true) true Tryz.f6.params.toList args.toList ds p := hA0
  rw [Tryz.params6] at hA hval
  obtain ⟨v0, vs0, d0, ds0, p0, q0, hargs, rfl, rfl, h0, r0⟩ := trodAll_cons hA
  obtain ⟨rfl, rfl, rfl⟩ := trodAll_nil r0
  obtain rfl : args = #[v0] := by cases args; simp_all
  obtain ⟨rfl, rfl⟩ := trodVars_none hV
  have k0 := h0
  have lt0 : ∀ x ∈ p0, x.block < W.heap.size := by obtain ⟨m, hm⟩ := k0; exact DataW.trod_lt m _ _ _ hm
  obtain ⟨cs0, b0, rfl, w0⟩ : ∃ cs b, v0 = .agg cs.toArray ∧ cos.coordR.see W cs b := by obtain ⟨fuel, hf⟩ := h0; exact lay.arg_struct Tryz.underlying43 (by kernel_rfl) cos.reads_coord (hval 0 43 v0 rfl rfl) hf
  obtain ⟨c0_0, c0_1, c0_2, c0_3, c0_4, c0_5, rfl⟩ := lay.vals6 (cos.coordR.seeLen w0)
  clear hA0 hval0
  refine (walk c0_0 c0_1 c0_2 c0_3 c0_4 c0_5 b0 W w0).mono fun e W' ⟨he, bel⟩ => ?_
  subst he
  exact ⟨_, rfl, _, _, _, [], _, [], hW', trodAll_mk1 (shut_bool Tryz.underlying4 _), (trodAll_cons_mk (Below.trod laidOut (by kernel_rfl) (of_decide_eq_true (by kernel_rfl)) k0 bel lt0) trodAll_mk0), rfl, bel.frame _, fun h => by cases h⟩

theorem over : Rows.fnExactTellAllRow.holds Tryz.pinned (OpenSpec.ofChange Rows.fnExactTellAllSpec) :=
  OpenClaim.holds_of_wide 6 Tryz.f6 rfl rfl rfl rfl rfl rfl rfl ⟨rfl, rfl, rfl, rfl, rfl⟩ rfl rfl rfl rfl rfl (by kernel_rfl) Tryz.func6 (by kernel_rfl)
    (of_decide_eq_true (by kernel_rfl)) (by unfold Func.isWrapper; first | (rw [if_pos (by decide +kernel)]; kernel_rfl) | (rw [if_neg (by decide +kernel)]; exact ⟨rfl, rfl⟩))
    (fun os started H enc _ => lifted os started H enc)

theorem proved : Rows.FnExactTellAllSaid := over
end Go.Proofs.YtgiibadbjgdjcaaGreat.fnExactTellAll
