/- The statement FnExactReplayRecsSaid: at every slice of records FnExactReplayRecs answers true, and the arguments read afterwards as before. No condition besides the row's own. -/
import Derived.Test.YteniflajiklffaaRows
import Derived.Test.YteniflajiklffaaShao
import Derived.ProofKit
import Derived.OpenShut
import Derived.ShutString
import Derived.ChangeOld
import Derived.Below
namespace Go.Proofs.Yteniflajiklffaa.fnExactReplayRecs
open Go.ChangeShapes Go.WideShapes Go.ChangeAt Go.RowKit
open Go.ChangeMaps (open_string shut_string)
set_option linter.unusedVariables false
open Go.Proofs.Yteniflajiklffaa.base Go.Proofs.Yteniflajiklffaa.pairs Go.Proofs.Yteniflajiklffaa.ords Go.Proofs.Yteniflajiklffaa.help Go.Proofs.Yteniflajiklffaa.helps Go.Proofs.Yteniflajiklffaa.recs

theorem rsz_le (l : List Rc) (r : Rc) (h : r ∈ l) : rsz r ≤ sumR l := by
  induction l with
  | nil => cases h
  | cons x l ih =>
    have e : sumR (x :: l) = rsz x + sumR l := by simp [sumR]
    rcases List.mem_cons.1 h with rfl | h
    · omega
    · have := ih h; omega
theorem cntR_sumR (l : List Rc) : cntR l ≤ 3 * (l.length + sumR l) := by
  induction l with
  | nil => simp [cntR]
  | cons x l ih =>
    have e : sumR (x :: l) = rsz x + sumR l := by simp [sumR]
    rw [cntR_cons, List.length_cons, e]
    unfold rsz
    omega

theorem eqPairsT (a a2 : Option Addr) (len cap len2 cap2 : Nat) (l : List Pr) (w : World) (h : SlP w a len l) (h2 : SlP w a2 len2 l) :
    Calls Try.prog 18 #[.slice a len cap, .slice a2 len2 cap2] w fun e w' => e = .returned (.bool true) ∧ Below w.heap.size w w' :=
  (eqPairS a a2 len cap len2 cap2 l l w h h2).mono fun e w' hp => ⟨by rw [hp.1]; simp, hp.2⟩

set_option maxRecDepth 100000 in
set_option maxHeartbeats 4000000 in
theorem walk (a : Option Addr) (len cap : Nat) (l : List Rc) (w : World) (h : SlR w a len l) :
    Calls Try.prog 4 #[.slice a len cap] w fun e w' => e = .returned (.bool true) ∧ Below w.heap.size w w' := by
  have hlen := h.1
  have hsz := szRecS a len cap l 1048576 w h (by omega)
  by_cases hover : 1048576 < l.length + sumR l
  · rw [szR_neg hover] at hsz
    have HZ := Hid.mk' hsz
    clear hsz
    go_enter Try.func4, Try.ntmps4
    go_wp2_with fail
    refine HZ.out.mono ?_
    rintro e wa ⟨rfl, hB⟩
    go_wp2_with fail
    go_ret
    exact ⟨rfl, hB⟩
  rw [szR_pos (by omega)] at hsz
  obtain ⟨r, hrr⟩ : ∃ r : Nat, ((1048576 : Nat) : Int) - ((l.length + sumR l : Nat) : Int) = (r : Int) := ⟨1048576 - (l.length + sumR l), by omega⟩
  rw [hrr] at hsz
  have HZ := Hid.mk' hsz
  clear hsz hrr
  have hops : ∀ r ∈ l, r.2.2.length ≤ 1099511627776 ∧ ∀ p ∈ r.2.2, p.2.1.size ≤ 1099511627776 := fun r hr => by
    have h1 := rsz_le l r hr
    unfold rsz at h1
    refine ⟨by omega, fun p hp => ?_⟩
    have h2 := osz_le r.2.2 p hp
    unfold osz at h2
    omega
  obtain ⟨z1, z2, z3⟩ := replay_sizes l
  obtain ⟨P, hP⟩ : ∃ P, resM (replay l) = P := ⟨_, rfl⟩
  obtain ⟨L, hL⟩ : ∃ L, resH (replay l) = L := ⟨_, rfl⟩
  obtain ⟨bb, hbb⟩ : ∃ bb, (replay l).isSome = bb := ⟨_, rfl⟩
  obtain ⟨n, hn⟩ : ∃ n, P.length = n := ⟨_, rfl⟩
  obtain ⟨m, hm⟩ : ∃ m, L.length = m := ⟨_, rfl⟩
  rw [hP] at z1
  rw [hL] at z2 z3
  have HC1 : Hid (1 + cntR l ≤ 1099511627776) := by show _ ≤ _; have := cntR_sumR l; omega
  have HC2 : Hid (1 + 2 * n + cntR L ≤ 1099511627776) := by show _ ≤ _; omega
  have HLL : Hid (l.length ≤ 1099511627776) := by show _ ≤ _; omega
  have HLM : Hid (L.length ≤ 1099511627776) := by show _ ≤ _; omega
  have hn60 : n ≤ 60 := by omega
  have HTP := Hid.mk' (fun wx (hx : Below w.heap.size w wx) => toRecS a len cap l wx (h.below hx) (by omega) (fun r hr => (hops r hr).1))
  have HSC := Hid.mk' (fun g base wx hs (ho : OwnR wx base (.slice (some ⟨g, 0, none⟩) len len) l hs) => (spec_replay (some ⟨g, 0, none⟩) len len l wx ho.sl (by omega) hops).mono fun e w' hp => repPost_open hP hL hbb hn hm hp)
  have HIC := Hid.mk' (fun g base wx hs (ho : OwnR wx base (.slice (some ⟨g, 0, none⟩) len len) l hs) => (impl_replay (some ⟨g, 0, none⟩) len len l wx ho.sl ho.plain (by omega) hops).mono fun e w' hp => repPost_open hP hL hbb hn hm hp)
  clear hP hL hbb hn hm z1 z2 z3 h hops hover hlen
  go_enter Try.func4, Try.ntmps4
  go_wp2_with fail
  refine HZ.out.mono ?_
  rintro e wz ⟨rfl, hBz⟩
  clear HZ
  go_wp2_with fail
  refine (HTP.out _ hBz).mono ?_
  rintro e wa ⟨g1, hs1, rfl, hO1, hb1⟩
  have hB1 := hBz.trans (hb1.mono hBz.size)
  have HO1 := Hid.mk' hO1
  clear hO1 hb1 hBz
  go_wp2_with fail
  refine (HSC.out _ _ _ _ HO1.out).mono ?_
  rintro e wb ⟨gw, cw, gv, cv, hss, rfl, hOw, hOv, _, hbs⟩
  have hBc := hB1.trans (hbs.mono hB1.size)
  have HW := Hid.mk' (hOw.mono (base' := w.heap.size) hB1.size)
  have HV := Hid.mk' (hOv.mono (base' := w.heap.size) hB1.size)
  clear hOw hOv hbs hB1 HO1
  go_wp2_with fail
  refine (HTP.out _ hBc).mono ?_
  rintro e wc ⟨gx, hsx, rfl, hOx, hbx⟩
  have hBd := hBc.trans (hbx.mono hBc.size)
  have HX := Hid.mk' hOx
  clear hOx
  go_wp2_with fail
  refine (HIC.out _ _ _ _ HX.out).mono ?_
  rintro e wd ⟨gg, cg, gh, ch, hsg, rfl, hOg, hOh, hnb, hbg⟩
  have HT1 : Hid (HexR w wd wb.heap.size wc.heap.size gw n cw (.slice (some ⟨gv, 0, none⟩) m cv) (.slice (some ⟨gx, 0, none⟩) len len) gg cg (.slice (some ⟨gh, 0, none⟩) m ch) hss hsx hsg P L l P L) :=
    ⟨hBd.trans (hbg.mono hBd.size), (HW.out.below hbx).below hbg, (HV.out.below hbx).below hbg, (HX.out.mono hBc.size).below hbg, hOg.mono hBd.size, hOh.mono hBd.size, HW.out.lt.2, fun k e => (HV.out.lt k e).2, fun k e => HX.out.lt k e, hOg.lt.1, fun k e => (hOh.lt k e).1, hnb, hbx.size⟩
  clear HW HV HX hbx hBc hBd hbg hOg hOh hnb
  go_wp2_with fail
  refine (eqPairsT _ _ _ _ _ _ P _ HT1.out.gp.sl HT1.out.wp.sl).mono ?_
  rintro e y1 ⟨rfl, hB⟩
  have HT2 := Hid.mk' (HT1.out.below hB)
  clear HT1 hB
  go_wp2_with fail
  refine (eqRecsT _ _ _ _ _ L _ HT2.out.gr.sl HT2.out.wr.sl).mono ?_
  rintro e y2 ⟨rfl, hB⟩
  have HT3 := Hid.mk' (HT2.out.below hB)
  clear HT2 hB
  go_wp2_with fail
  refine (HTP.out _ HT3.out.bel).mono ?_
  rintro e y3 ⟨gy, hsy, rfl, hOy, hBy⟩
  have HT4 := Hid.mk' (HT3.out.below hBy)
  have HOY := Hid.mk' hOy
  clear HT3 hBy hOy
  go_wp2_with fail
  refine (eqRecsT _ _ _ _ _ l _ HT4.out.x.sl HOY.out.sl).mono ?_
  rintro e y4 ⟨rfl, hB⟩
  have HT5 := Hid.mk' (HT4.out.below hB)
  clear HT4 hB HOY
  go_wp2_with fail
  refine (markRecS _ _ 1 l _ _ HT5.out.x (by have := HT5.out.bel.size; omega) (by omega) HC1.out HLL.out _ (by show _ = _; rfl)).mono ?_
  rintro e y5 ⟨rfl, hx5, hg5⟩
  have HT6 := Hid.mk' (HT5.out.markX hx5 hg5)
  clear HT5 hx5 hg5
  go_wp2_with fail
  refine (eqPairsT _ _ _ _ _ _ P _ HT6.out.gp.sl HT6.out.wp.sl).mono ?_
  rintro e y6 ⟨rfl, hB⟩
  have HT7 := Hid.mk' (HT6.out.below hB)
  clear HT6 hB
  go_wp2_with fail
  refine (eqRecsT _ _ _ _ _ L _ HT7.out.gr.sl HT7.out.wr.sl).mono ?_
  rintro e y7 ⟨rfl, hB⟩
  have HT8 := Hid.mk' (HT7.out.below hB)
  clear HT7 hB
  go_wp2_with fail
  refine (markPairS _ _ _ 1 _ P _ HT8.out.gp (by omega) (by omega)).mono ?_
  rintro e y8 ⟨rfl, hx8, hg8⟩
  have HT9 := Hid.mk' (HT8.out.markP hx8 hg8)
  clear HT8 hx8 hg8
  go_wp2_with fail
  refine (markRecS _ _ (1 + 2 * n) L _ _ HT9.out.gr (by have := HT9.out.bel.size; omega) (by omega) HC2.out HLM.out _ (by show _ = _; rfl)).mono ?_
  rintro e y9 ⟨rfl, hx9, hg9⟩
  have HT10 := Hid.mk' (HT9.out.markG hx9 hg9)
  clear HT9 hx9 hg9
  go_wp2_with fail
  refine (heldPairS _ _ _ 1 _ HT10.out.gp.sl (by omega) (by omega)).mono ?_
  rintro e y10 ⟨rfl, hB⟩
  have HT11 := Hid.mk' (HT10.out.below hB)
  clear HT10 hB
  go_wp2_with fail
  refine (heldRecS _ _ _ (1 + 2 * n) L _ HT11.out.gr.sl (by omega) HC2.out HLM.out _ (by show _ = _; rfl)).mono ?_
  rintro e y11 ⟨rfl, hB⟩
  have HT12 := Hid.mk' (HT11.out.below hB)
  clear HT11 hB
  go_wp2_with fail
  refine (HTP.out _ HT12.out.bel).mono ?_
  rintro e y12 ⟨gz, hsz, rfl, hOz, hBz⟩
  have HT13 := Hid.mk' (HT12.out.below hBz)
  have HOZ := Hid.mk' hOz
  clear HT12 hBz hOz
  go_wp2_with fail
  refine (HIC.out _ _ _ _ HOZ.out).mono ?_
  rintro e y13 ⟨gq, cq, gr, cr, hsr, rfl, hOq, hOr, _, hbq⟩
  have HT14 := Hid.mk' (HT13.out.below hbq)
  have HQ := Hid.mk' hOq
  have HR := Hid.mk' hOr
  clear HT13 hbq hOq hOr HOZ
  go_wp2_with fail
  refine (eqPairsT _ _ _ _ _ _ P _ HQ.out.sl HT14.out.wp.sl).mono ?_
  rintro e y14 ⟨rfl, hB⟩
  have HT15 := Hid.mk' (HT14.out.below hB)
  have HR2 := Hid.mk' (HR.out.below hB)
  clear HT14 hB HQ HR
  go_wp2_with fail
  refine (eqRecsT _ _ _ _ _ L _ HR2.out.sl HT15.out.wr.sl).mono ?_
  rintro e y15 ⟨rfl, hB⟩
  have HT16 := Hid.mk' (HT15.out.below hB)
  clear HT15 hB HR2
  go_wp2_with fail
  refine (heldPairS _ _ _ 1 _ HT16.out.gp.sl (by omega) (by omega)).mono ?_
  rintro e y16 ⟨rfl, hB⟩
  have HT17 := Hid.mk' (HT16.out.below hB)
  clear HT16 hB
  go_wp2_with fail
  refine (heldRecS _ _ _ (1 + 2 * n) L _ HT17.out.gr.sl (by omega) HC2.out HLM.out _ (by show _ = _; rfl)).mono ?_
  rintro e y17 ⟨rfl, hB⟩
  have T18 := HT17.out.below hB
  clear HT17 hB
  go_wp2_with fail
  go_ret
  exact ⟨rfl, T18.bel⟩

theorem own : ownKnob Try.prog.godebug = none := by kernel_rfl
theorem laidOut : laidOutB Try.prog = true := by kernel_rfl

set_option maxRecDepth 100000 in
theorem lifted (os : Os) (started : os.Started) (H : Type) (enc : TypeId × Value → H) :
    ReturnsInHanded {} Try.checked os 4 .any (Rows.fnExactReplayRecsSpec.pre6 enc Try.prog Try.f4 Rows.fnExactReplayRecsRow.domain false) (Rows.fnExactReplayRecsSpec.post enc Try.prog Try.f4 false true false false) := by
  refine returnsInHanded_of_change (C := Try.checked) own started (by kernel_rfl) Try.func4
    (ChangeSpec.witness6 (enc := enc) (C := Try.checked) false ⟨#[], #[.slice none 0 0], []⟩ 8 (by kernel_rfl) (by kernel_rfl) (by kernel_rfl) (by kernel_rfl)) ?_
  intro W base args ds gs before hval0 hW hcnd _
  have hval : ∀ (j : Nat) t v, Try.f4.params[j]? = some t → args[j]? = some v → Value.okWide Try.prog W .any base t v := hval0
  have hW' := hW
  obtain ⟨p, q, hA0, hV, rfl, hfz, hnd⟩ := hW
  have hA : DataW.TrodAll enc Try.prog W 0 (fun _ => true) true Try.f4.params.toList args.toList ds p := hA0
  rw [Try.params4] at hA hval
  obtain ⟨v0, vs0, d0, ds0, p0, q0, hargs, rfl, rfl, h0, r0⟩ := trodAll_cons hA
  obtain ⟨rfl, rfl, rfl⟩ := trodAll_nil r0
  obtain rfl : args = #[v0] := by cases args; simp_all
  obtain ⟨rfl, rfl⟩ := trodVars_none hV
  obtain ⟨a0, len0, cap0, rfl⟩ := okWide_slice Try.underlying45 (hval 0 45 v0 rfl rfl)
  have k0 := h0
  have lt0 : ∀ x ∈ p0, x.block < W.heap.size := by obtain ⟨m, hm⟩ := k0; exact DataW.trod_lt m _ _ _ hm
  obtain ⟨b0, w0⟩ : ∃ l, recs.SlR W a0 len0 l := by obtain ⟨fuel, hf⟩ := h0; exact recs.slr_arg 45 85 _ _ _ Try.underlying45 Try.underlying85 (by kernel_rfl) rfl rfl rfl rfl rfl rfl (by kernel_rfl) (by kernel_rfl) _ _ _ Try.underlying166 (by kernel_rfl) rfl rfl rfl rfl rfl rfl (by kernel_rfl) hf
  clear hA0 hval0
  refine (walk a0 len0 cap0 b0 W w0).mono fun e W' ⟨he, bel⟩ => ?_
  subst he
  exact ⟨_, rfl, _, _, _, [], _, [], hW', trodAll_mk1 (shut_bool Try.underlying4 _), (trodAll_cons_mk (Below.trod laidOut (by kernel_rfl) (of_decide_eq_true (by kernel_rfl)) k0 bel lt0) trodAll_mk0), rfl, bel.frame _, fun h => by cases h⟩

theorem over : Rows.fnExactReplayRecsRow.holds Try.pinned (OpenSpec.ofChange Rows.fnExactReplayRecsSpec) :=
  OpenClaim.holds_of_wide 4 Try.f4 rfl rfl rfl rfl rfl rfl rfl ⟨rfl, rfl, rfl, rfl, rfl⟩ rfl rfl rfl rfl rfl (by kernel_rfl) Try.func4 (by kernel_rfl)
    (of_decide_eq_true (by kernel_rfl)) (by unfold Func.isWrapper; first | (rw [if_pos (by decide +kernel)]; kernel_rfl) | (rw [if_neg (by decide +kernel)]; exact ⟨rfl, rfl⟩))
    (fun os started H enc _ => lifted os started H enc)

theorem proved : Rows.FnExactReplayRecsSaid := over
end Go.Proofs.Yteniflajiklffaa.fnExactReplayRecs
