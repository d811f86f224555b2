/- The statement FnExactSuperOfCardSaid: at every number, string and slice of strings FnExactSuperOf answers true, and the arguments read afterwards as before, where the table of the rounds' words is as the program's text lays it (the card ties it). No condition besides the row's own. -/
import Derived.Test.YtfaldffehpgaiaaDoorRows
import Derived.Test.YtfaldffehpgaiaaDoorCards
import Derived.Test.YtfaldffehpgaiaaDoorTie
import Derived.Test.YtfaldffehpgaiaaDoorShad
import Derived.Test.YtfaldffehpgaiaaDoorShaf
import Derived.ProofKit
import Derived.OpenShut
import Derived.ShutString
import Derived.ChangeOld
import Derived.Below
namespace Go.Proofs.YtfaldffehpgaiaaDoor.fnExactSuperOf
open Go.ChangeShapes Go.WideShapes Go.ChangeAt Go.RowKit
open Go.ChangeMaps (open_string shut_string)
set_option linter.unusedVariables false
open Go.Proofs.YtfaldffehpgaiaaDoor.base Go.Proofs.YtfaldffehpgaiaaDoor.seals Go.Proofs.YtfaldffehpgaiaaDoor.helps

set_option maxRecDepth 100000 in
set_option maxHeartbeats 1000000 in
theorem walk (a0 : Int) (a1 : ByteArray) (a2 : Option Addr) (len2 cap2 : Nat) (b2 : List ByteArray) (w : World) (w0 : (Lit.int .i64 a0).wf = true) (w1 : a1.size ≤ maxLen) (w2 : SlS w a2 len2 b2) (hK : sha.KW w) :
    Calls Tryd.prog 4 #[.int .i64 a0, .string a1, .slice a2 len2 cap2] w fun e w' => e = .returned (.bool true) ∧ Below w.heap.size w w' := by
  have hm1 := w1
  unfold maxLen at hm1
  have hl2 := w2.1
  have W0 := Hid.mk' w0
  clear w0
  by_cases hbig : 1048576 < a1.size
  · go_enter Tryd.func4, Tryd.ntmps4
    go_wp2_with fail
    go_ret
    exact ⟨rfl, Below.refl _ _⟩
  have hsz := puttexts.szStringS a2 len2 cap2 b2 1048576 w w2 (by omega)
  by_cases hover : 1048576 < b2.length + puttexts.sum b2
  · rw [puttexts.szR_neg hover] at hsz
    have HZ := Hid.mk' hsz
    clear hsz
    go_enter Tryd.func4, Tryd.ntmps4
    go_wp2_with fail
    refine HZ.out.mono ?_
    rintro e wa ⟨rfl, rfl⟩
    go_wp2_with fail
    go_ret
    exact ⟨rfl, Below.refl _ _⟩
  rw [puttexts.szR_pos (by omega)] at hsz
  obtain ⟨r, hr⟩ : ∃ r : Nat, ((1048576 : Nat) : Int) - ((b2.length + puttexts.sum b2 : Nat) : Int) = (r : Int) := ⟨1048576 - (b2.length + puttexts.sum b2), by omega⟩
  rw [hr] at hsz
  have HZ := Hid.mk' hsz
  have hr2 : ¬ (r : Int) < 0 := by omega
  clear hsz
  have hT := fun wx (hx : Below w.heap.size w wx) => toStringS a2 len2 cap2 b2 wx (w2.below hx) (by omega)
  have HT := Hid.mk' hT
  have H1 := Hid.mk' (fun g n c wx (hx : SlS wx (some ⟨g, 0, none⟩) n b2) => spec_superOf a0 a1 (some ⟨g, 0, none⟩) n c b2 wx hx W0.out (by omega) (by omega))
  have H2 := Hid.mk' (fun g n c wx (hx : SlS wx (some ⟨g, 0, none⟩) n b2) (hk : sha.KW wx) => impl_superOf a0 a1 (some ⟨g, 0, none⟩) n c b2 wx hx W0.out (by omega) (by omega) hk)
  generalize superOf a0 a1 b2 = d at *
  have hdd : (d.toList == d.toList) = true := by simp
  clear hT hr hover w1 w2
  go_enter Tryd.func4, Tryd.ntmps4
  go_wp2_with fail
  refine HZ.out.mono ?_
  rintro e wa ⟨rfl, rfl⟩
  go_wp2_with fail
  refine (HT.out _ (Below.refl _ _)).mono ?_
  rintro e wb ⟨g1, rfl, hO1, hb1⟩
  go_wp2_with fail
  refine (H1.out g1 _ _ _ hO1.sl).mono ?_
  rintro e wc ⟨rfl, hb2⟩
  have hB2 := hb1.trans (hb2.mono hb1.size)
  clear hO1
  go_wp2_with fail
  refine (HT.out _ hB2).mono ?_
  rintro e wd ⟨g2, rfl, hO2, hb3⟩
  have hB3 := hB2.trans (hb3.mono hB2.size)
  go_wp2_with fail
  refine (H2.out g2 _ _ _ hO2.sl (hK.below hB3)).mono ?_
  rintro e we ⟨rfl, hb4⟩
  have hB4 := hB3.trans (hb4.mono hB3.size)
  have hO3 := hO2.below (hb4.mono (Nat.le_refl _))
  clear hO2
  go_wp2_with fail
  refine (HT.out _ hB4).mono ?_
  rintro e wf ⟨g3, rfl, hO4, hb5⟩
  have hB5 := hB4.trans (hb5.mono hB4.size)
  have hO5 := hO3.below hb5
  have hE := eqStringS (some ⟨g2, 0, none⟩) (some ⟨g3, 0, none⟩) len2 len2 len2 len2 b2 b2 wf hO5.sl hO4.sl
  rw [decide_eq_true rfl] at hE
  have HE := Hid.mk' hE
  clear hE hO3 hO4 hO5
  go_wp2_with fail
  refine HE.out.mono ?_
  rintro e wg ⟨rfl, n, rfl⟩
  go_wp2_with fail
  go_ret
  exact ⟨rfl, below_drewN hB5 n⟩

set_option maxRecDepth 100000 in
theorem lifted (os : Os) (started : os.Started) (H : Type) (enc : TypeId × Value → H) :
    ReturnsInHanded {} Tryd.checked os 4 .any (fun w args => (Rows.fnExactSuperOfSpec.pre enc Tryd.prog Tryd.f4 [] false w args ∧ laidMetH Tryd.prog door.laidD w) ∧ sizedMet enc Tryd.prog Tryd.f4 (OpenSpec.ofChange Rows.fnExactSuperOfSpec) false w args)
      (Rows.fnExactSuperOfSpec.post enc Tryd.prog Tryd.f4 false true false false) := by
  refine returnsInHanded_of_change_and (C := Tryd.checked) (X := fun w _ => laidMetH Tryd.prog door.laidD w) (fun _ _ _ hh h => h.of_heap hh) door.own started (by kernel_rfl) Tryd.func4
    (ChangeSpec.witness_shaped (enc := enc) (C := Tryd.checked) (os := os) (X := fun w _ => laidMetH Tryd.prog door.laidD w) false (World.laidAll Tryd.prog os door.laidD) #[.int .i64 0, .string ByteArray.empty, .slice none 0 0] 70 (World.laidAll_os _ _ _) (World.shaped_of_ZipB (by kernel_rfl) (by kernel_rfl)) (by kernel_rfl) (by kernel_rfl) (by kernel_rfl)
      (by rw [MakeChecks.laidMetH_plain _ _ _ (by kernel_rfl)]; exact laidMet_laidAll _ (by kernel_rfl) (by kernel_rfl))) ?_
  intro W base args ds gs before hval0 hW _ _ hL _
  have hval : ∀ (j : Nat) t v, Tryd.f4.params[j]? = some t → args[j]? = some v → Value.okWide Tryd.prog W .any base t v := hval0
  have hW' := hW
  obtain ⟨p, q, hA0, hV, rfl, hfz, hnd⟩ := hW
  have hA : DataW.TrodAll enc Tryd.prog W 0 (fun _ => true) true Tryd.f4.params.toList args.toList ds p := hA0
  rw [Tryd.params4] at hA hval
  obtain ⟨v0, vs0, d0, ds0, p0, q0, hargs, rfl, rfl, h0, r0⟩ := trodAll_cons hA
  obtain ⟨v1, vs1, d1, ds1, p1, q1, rfl, rfl, rfl, h1, r1⟩ := trodAll_cons r0
  obtain ⟨v2, vs2, d2, ds2, p2, q2, rfl, rfl, rfl, h2, r2⟩ := trodAll_cons r1
  obtain ⟨rfl, rfl, rfl⟩ := trodAll_nil r2
  obtain rfl : args = #[v0, v1, v2] := by cases args; simp_all
  obtain ⟨gv, tv, csv, fv, dv, pv, rfl, _, _, _, _, _⟩ := trodVars_one (show DataW.TrodVars enc Tryd.prog W (fun _ => true) ["loop.example/g00244/impl.roundWords"] gs q from hV)
  obtain ⟨a0, rfl, rfl, rfl, w0⟩ := open_int Tryd.underlying3 (hval 0 3 v0 rfl rfl) h0
  obtain ⟨a1, rfl, rfl, rfl, w1⟩ := open_string Tryd.underlying9 (hval 1 9 v1 rfl rfl) h1
  obtain ⟨a2, len2, cap2, rfl⟩ := okWide_slice Tryd.underlying27 (hval 2 27 v2 rfl rfl)
  have k2 := h2
  have lt2 : ∀ x ∈ p2, x.block < W.heap.size := by obtain ⟨m, hm⟩ := k2; exact DataW.trod_lt m _ _ _ hm
  obtain ⟨b2, w2⟩ : ∃ ss, SlS W a2 len2 ss := by
    obtain ⟨fuel, hf⟩ := h2
    rcases open_strings Tryd.underlying27 Tryd.underlying9 (by kernel_rfl) hf with ⟨hcs, _⟩ | ⟨x, l, c, zs, hcs, _, hl, hm, hz, _, hcell, hwz⟩
    · simp [Value.cells] at hcs
      obtain ⟨rfl, rfl, rfl⟩ := hcs
      exact ⟨[], sls_nil _ _⟩
    · simp [Value.cells] at hcs
      obtain ⟨rfl, rfl, rfl⟩ := hcs
      exact ⟨_, sls_of_strings hl hm (by simpa using hz) hcell hwz⟩
  clear hA0 hval0
  refine (walk a0 a1 a2 len2 cap2 b2 W w0 w1 w2 (door.words_of_laid hL)).mono fun e W' ⟨he, bel⟩ => ?_
  subst he
  exact ⟨_, rfl, _, _, _, [], _, _, hW', trodAll_mk1 (shut_bool Tryd.underlying4 _), (trodAll_cons_mk (shut_int Tryd.underlying3 w0) (trodAll_cons_mk (shut_string Tryd.underlying9 w1) (trodAll_cons_mk (Below.trod door.laidOut (by kernel_rfl) (of_decide_eq_true (by kernel_rfl)) k2 bel lt2) trodAll_mk0))), bel.trodVars door.laidOut (by kernel_rfl) hV, bel.frame _, fun h => by cases h⟩

theorem over : Rows.fnExactSuperOfRow.holds Tryd.pinned (OpenSpec.ofChange Rows.fnExactSuperOfSpec) :=
  OpenClaim.holds_of_wide 4 Tryd.f4 rfl rfl rfl rfl rfl rfl rfl ⟨rfl, rfl, rfl, rfl, rfl⟩ rfl rfl rfl rfl rfl (by kernel_rfl) Tryd.func4 (by kernel_rfl)
    (of_decide_eq_true (by kernel_rfl)) (by unfold Func.isWrapper; first | (rw [if_pos (by decide +kernel)]; kernel_rfl) | (rw [if_neg (by decide +kernel)]; exact ⟨rfl, rfl⟩))
    (fun os started H enc _ => lifted os started H enc)

theorem proved : Rows.FnExactSuperOfCardSaid :=
  Claim7.holds_tied_plain_at .later [] [.data] true (true, "fc0c933fea6a18e7dd0afd002f6f738b9c259faa86dfc27990f300ad0186cf58") false
    over (fun _ h => by cases h) (by kernel_rfl) (fun _ h => by cases h) fnExactSuperOf_row_tie rfl ⟨rfl, rfl⟩ (by kernel_rfl) rfl
    (fun f fn hf hfn => by
      obtain rfl : f = 4 := Option.some.inj ((show Tryd.prog.funcNamed "loop.example/g00244/laws.FnExactSuperOf" = some 4 by kernel_rfl).symm.trans hf) |>.symm
      obtain rfl : fn = Tryd.f4 := (Option.some.inj (Tryd.func4.symm.trans hfn)).symm
      exact ⟨by kernel_rfl, fun j t ht => by
        rw [Tryd.params4] at ht
        have hm : t ∈ [3, 9, 27] := by simpa using Array.mem_of_getElem? ht
        have hall : ([3, 9, 27].all fun u => !Tryd.prog.wantsStandIn u) = true := by kernel_rfl
        exact (show Tryd.prog.wantsStandIn t = false by simpa using List.all_eq_true.1 hall t hm)⟩)
    (by kernel_rfl)
end Go.Proofs.YtfaldffehpgaiaaDoor.fnExactSuperOf
