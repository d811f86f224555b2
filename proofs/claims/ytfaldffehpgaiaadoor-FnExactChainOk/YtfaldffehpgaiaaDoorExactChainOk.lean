/- The statement FnExactChainOkCardSaid: at every slice of seals FnExactChainOk answers true, and the argument reads afterwards as before, where the table of the rounds' words is as the program's text lays it (the card ties it). No condition besides the row's own. -/
import Derived.Test.YtfaldffehpgaiaaDoorRows
import Derived.Test.YtfaldffehpgaiaaDoorCards
import Derived.Test.YtfaldffehpgaiaaDoorTie
import Derived.Test.YtfaldffehpgaiaaDoorShai
import Derived.Test.YtfaldffehpgaiaaDoorShaj
import Derived.ProofKit
import Derived.OpenShut
import Derived.ShutString
import Derived.ChangeOld
import Derived.Below
namespace Go.Proofs.YtfaldffehpgaiaaDoor.fnExactChainOk
open Go.ChangeShapes Go.WideShapes Go.ChangeAt Go.RowKit
open Go.ChangeMaps (open_string shut_string)
set_option linter.unusedVariables false
open Go.Proofs.YtfaldffehpgaiaaDoor.base Go.Proofs.YtfaldffehpgaiaaDoor.seals Go.Proofs.YtfaldffehpgaiaaDoor.lay

theorem mod_of {l : List Seal} (h : l.length + sumL l ≤ 1048576) : Mod l ∧ (∀ j ∈ l, j.2.2.2.length ≤ 1099511627776) := by
  refine ⟨fun s hs => ?_, fun s hs => ?_⟩
  · have h1 := sumL_mem hs
    unfold slz at h1
    exact ⟨by omega, by omega, by omega⟩
  · have h1 := sumL_mem hs
    unfold slz at h1
    omega
set_option maxRecDepth 100000 in
set_option maxHeartbeats 2000000 in
theorem walk (a0 : Option Addr) (len0 cap0 : Nat) (b0 : List Seal) (w : World) (w0 : SlG sealR w a0 len0 b0) (hK : sha.KW w) :
    Calls Tryd.prog 5 #[.slice a0 len0 cap0] w fun e w' => e = .returned (.bool true) ∧ Below w.heap.size w w' := by
  obtain rfl : b0.length = len0 := w0.1
  have hsz := szSealS a0 b0.length cap0 b0 1048576 w w0 (by omega)
  by_cases hover : 1048576 < b0.length + sumL b0
  · rw [puttexts.szR_neg hover] at hsz
    have HZ := Hid.mk' hsz
    clear hsz
    go_enter Tryd.func5, Tryd.ntmps5
    go_wp2_with fail
    refine HZ.out.mono ?_
    rintro e wa ⟨rfl, hb⟩
    go_wp2_with fail
    go_ret
    exact ⟨rfl, hb⟩
  rw [puttexts.szR_pos (by omega)] at hsz
  obtain ⟨r, hr⟩ : ∃ r : Nat, ((1048576 : Nat) : Int) - ((b0.length + sumL b0 : Nat) : Int) = (r : Int) := ⟨1048576 - (b0.length + sumL b0), by omega⟩
  rw [hr] at hsz
  have HZ := Hid.mk' hsz
  have hr2 : ¬ (r : Int) < 0 := by omega
  obtain ⟨hmod, hfit⟩ := mod_of (l := b0) (by omega)
  have HT := Hid.mk' (fun wx (hx : Below w.heap.size w wx) => toSealS a0 b0.length cap0 b0 wx (w0.below hx) (by omega) hfit)
  have H1 := Hid.mk' (fun a n c wx (hx : SlG sealR wx a n b0) (h1 : n ≤ c) (h2 : c ≤ maxLen) => spec_chainOk a n c b0 wx hx h1 h2)
  have H2 := Hid.mk' (fun a n c wx (hx : SlG sealR wx a n b0) (h1 : n ≤ c) (h2 : c ≤ maxLen) (hk : sha.KW wx) => i_chainOk a n c b0 wx hx h1 h2 hmod hk)
  have H3 := Hid.mk' (fun a a2 n c c2 wx (hx : SlG sealR wx a n b0) (hy : SlG sealR wx a2 n b0) => eqSealsT a a2 n c c2 b0 wx hx hy)
  generalize chainOk b0 = d at *
  have hdd : (d == d) = true := by cases d <;> rfl
  clear hsz hr hover w0 hfit hmod
  go_enter Tryd.func5, Tryd.ntmps5
  go_wp2_with fail
  refine HZ.out.mono ?_
  rintro e wa ⟨rfl, hb0⟩
  go_wp2_with fail
  refine (HT.out _ hb0).mono ?_
  rintro e wb ⟨v1, F1, rfl, hO1, hF1, hb1⟩
  have hB1 := hb0.trans (hb1.mono hb0.size)
  obtain ⟨a1, c1, q1, e1, hc1, hm1, _, hG1⟩ := own_open hO1
  obtain rfl : v1 = .slice a1 b0.length c1 := by simpa using e1
  have HC := Hid.mk' (H1.out a1 _ c1 wb hG1.sl hc1 hm1)
  clear hO1 e1 hG1 hF1 hc1 hm1 H1
  go_wp2_with fail
  refine HC.out.mono ?_
  rintro e wc ⟨rfl, hb2⟩
  have hB2 := hB1.trans (hb2.mono hB1.size)
  clear HC
  go_wp2_with fail
  refine (HT.out _ hB2).mono ?_
  rintro e wd ⟨v2, F2, rfl, hO2, hF2, hb3⟩
  have hB3 := hB2.trans (hb3.mono hB2.size)
  obtain ⟨a2, c2, q2, e2, hc2, hm2, _, hG2⟩ := own_open hO2
  obtain rfl : v2 = .slice a2 b0.length c2 := by simpa using e2
  have HS2 := Hid.mk' hG2.sl
  have HC := Hid.mk' (H2.out a2 _ c2 wd hG2.sl hc2 hm2 (hK.below hB3))
  clear hO2 e2 hG2 hF2 hc2 hm2 H2
  go_wp2_with fail
  refine HC.out.mono ?_
  rintro e we ⟨rfl, hb4⟩
  have hB4 := hB3.trans (hb4.mono hB3.size)
  have HS3 := Hid.mk' (HS2.out.below hb4)
  clear HS2 HC
  go_wp2_with fail
  refine (HT.out _ hB4).mono ?_
  rintro e wf ⟨v3, F3, rfl, hO3, hF3, hb5⟩
  have hB5 := hB4.trans (hb5.mono hB4.size)
  obtain ⟨a3, c3, q3, e3, hc3, hm3, _, hG3⟩ := own_open hO3
  obtain rfl : v3 = .slice a3 b0.length c3 := by simpa using e3
  have HE := Hid.mk' (H3.out a2 a3 b0.length c2 c3 wf (HS3.out.below hb5) hG3.sl)
  clear hO3 e3 hG3 HS3 hF3 hc3 hm3
  go_wp2_with fail
  refine HE.out.mono ?_
  rintro e wg ⟨rfl, hb6⟩
  go_wp2_with fail
  go_ret
  exact ⟨rfl, hB5.trans (hb6.mono hB5.size)⟩

set_option maxRecDepth 100000 in
theorem lifted (os : Os) (started : os.Started) (H : Type) (enc : TypeId × Value → H) :
    ReturnsInHanded {} Tryd.checked os 5 .any (fun w args => (Rows.fnExactChainOkSpec.pre enc Tryd.prog Tryd.f5 [] false w args ∧ laidMetH Tryd.prog door.laidD w) ∧ sizedMet enc Tryd.prog Tryd.f5 (OpenSpec.ofChange Rows.fnExactChainOkSpec) false w args)
      (Rows.fnExactChainOkSpec.post enc Tryd.prog Tryd.f5 false true false false) := by
  refine returnsInHanded_of_change_and (C := Tryd.checked) (X := fun w _ => laidMetH Tryd.prog door.laidD w) (fun _ _ _ hh h => h.of_heap hh) door.own started (by kernel_rfl) Tryd.func5
    (ChangeSpec.witness_shaped (enc := enc) (C := Tryd.checked) (os := os) (X := fun w _ => laidMetH Tryd.prog door.laidD w) false (World.laidAll Tryd.prog os door.laidD) #[.slice none 0 0] 70 (World.laidAll_os _ _ _) (World.shaped_of_ZipB (by kernel_rfl) (by kernel_rfl)) (by kernel_rfl) (by kernel_rfl) (by kernel_rfl)
      (by rw [MakeChecks.laidMetH_plain _ _ _ (by kernel_rfl)]; exact laidMet_laidAll _ (by kernel_rfl) (by kernel_rfl))) ?_
  intro W base args ds gs before hval0 hW _ _ hL _
  have hval : ∀ (j : Nat) t v, Tryd.f5.params[j]? = some t → args[j]? = some v → Value.okWide Tryd.prog W .any base t v := hval0
  have hW' := hW
  obtain ⟨p, q, hA0, hV, rfl, hfz, hnd⟩ := hW
  have hA : DataW.TrodAll enc Tryd.prog W 0 (fun _ => true) true Tryd.f5.params.toList args.toList ds p := hA0
  rw [Tryd.params5] at hA hval
  obtain ⟨v0, vs0, d0, ds0, p0, q0, hargs, rfl, rfl, h0, r0⟩ := trodAll_cons hA
  obtain ⟨rfl, rfl, rfl⟩ := trodAll_nil r0
  obtain rfl : args = #[v0] := by cases args; simp_all
  obtain ⟨gv, tv, csv, fv, dv, pv, rfl, _, _, _, _, _⟩ := trodVars_one (show DataW.TrodVars enc Tryd.prog W (fun _ => true) ["loop.example/g00244/impl.roundWords"] gs q from hV)
  obtain ⟨a0, len0, cap0, rfl⟩ := okWide_slice Tryd.underlying36 (hval 0 36 v0 rfl rfl)
  have k0 := h0
  have lt0 : ∀ x ∈ p0, x.block < W.heap.size := by obtain ⟨m, hm⟩ := k0; exact DataW.trod_lt m _ _ _ hm
  obtain ⟨b0, w0⟩ : ∃ l, lay.SlG seals.sealR W a0 len0 l := by
    obtain ⟨fuel, hf⟩ := h0
    obtain ⟨y, a', n', c', e, _, hs⟩ := seals.reads_seals _ enc W fuel _ _ rfl hf
    cases e
    exact ⟨y, hs⟩
  clear hA0 hval0
  refine (walk a0 len0 cap0 b0 W w0 (door.words_of_laid hL)).mono fun e W' ⟨he, bel⟩ => ?_
  subst he
  exact ⟨_, rfl, _, _, _, [], _, _, hW', trodAll_mk1 (shut_bool Tryd.underlying4 _), (trodAll_cons_mk (Below.trod door.laidOut (by kernel_rfl) (of_decide_eq_true (by kernel_rfl)) k0 bel lt0) trodAll_mk0), bel.trodVars door.laidOut (by kernel_rfl) hV, bel.frame _, fun h => by cases h⟩

theorem over : Rows.fnExactChainOkRow.holds Tryd.pinned (OpenSpec.ofChange Rows.fnExactChainOkSpec) :=
  OpenClaim.holds_of_wide 5 Tryd.f5 rfl rfl rfl rfl rfl rfl rfl ⟨rfl, rfl, rfl, rfl, rfl⟩ rfl rfl rfl rfl rfl (by kernel_rfl) Tryd.func5 (by kernel_rfl)
    (of_decide_eq_true (by kernel_rfl)) (by unfold Func.isWrapper; first | (rw [if_pos (by decide +kernel)]; kernel_rfl) | (rw [if_neg (by decide +kernel)]; exact ⟨rfl, rfl⟩))
    (fun os started H enc _ => lifted os started H enc)

theorem proved : Rows.FnExactChainOkCardSaid :=
  Claim7.holds_tied_plain_at .later [] [.data] true (true, "fc0c933fea6a18e7dd0afd002f6f738b9c259faa86dfc27990f300ad0186cf58") false
    over (fun _ h => by cases h) (by kernel_rfl) (fun _ h => by cases h) fnExactChainOk_row_tie rfl ⟨rfl, rfl⟩ (by kernel_rfl) rfl
    (fun f fn hf hfn => by
      obtain rfl : f = 5 := Option.some.inj ((show Tryd.prog.funcNamed "loop.example/g00244/laws.FnExactChainOk" = some 5 by kernel_rfl).symm.trans hf) |>.symm
      obtain rfl : fn = Tryd.f5 := (Option.some.inj (Tryd.func5.symm.trans hfn)).symm
      exact ⟨by kernel_rfl, fun j t ht => by
        rw [Tryd.params5] at ht
        have hm : t ∈ [36] := by simpa using Array.mem_of_getElem? ht
        have hall : ([36].all fun u => !Tryd.prog.wantsStandIn u) = true := by kernel_rfl
        exact (show Tryd.prog.wantsStandIn t = false by simpa using List.all_eq_true.1 hall t hm)⟩)
    (by kernel_rfl)
end Go.Proofs.YtfaldffehpgaiaaDoor.fnExactChainOk
