/- The statement FnDigestsCardSaid: at every slice of bytes FnDigests answers true, and the slice reads afterwards as before, where the table of the rounds' words is as the program's text lays it (the card ties it). No condition besides the row's own. -/
import Derived.Test.YtmdhkoiimffmlaaDoorRows
import Derived.Test.YtmdhkoiimffmlaaDoorCards
import Derived.Test.YtmdhkoiimffmlaaDoorTie
import Derived.Test.YtmdhkoiimffmlaaDoorTreeS
import Derived.Test.YtmdhkoiimffmlaaDoorTreeX
import Derived.Test.YtmdhkoiimffmlaaDoorDrawT
import Derived.Test.YtmdhkoiimffmlaaDoorHexI
import Derived.Test.YtmdhkoiimffmlaaDoorBig
import Derived.Test.YtmdhkoiimffmlaaDoorDoor
import Derived.ProofKit
import Derived.OpenShut
import Derived.ShutString
import Derived.ChangeOld
import Derived.Below
namespace Go.Proofs.YtmdhkoiimffmlaaDoor.fnDigests
open Go.ChangeShapes Go.WideShapes Go.ChangeAt Go.RowKit
open Go.ChangeMaps (open_string shut_string)
set_option linter.unusedVariables false
open Go.Proofs.YtmdhkoiimffmlaaDoor.base Go.Proofs.YtmdhkoiimffmlaaDoor.pairs Go.Proofs.YtmdhkoiimffmlaaDoor.tree Go.Proofs.YtmdhkoiimffmlaaDoor.draw Go.Proofs.YtmdhkoiimffmlaaDoor.hexmath

theorem bytes_back (d : ByteArray) : (⟨d.data.toList.toArray⟩ : ByteArray) = d := by
  apply bytes_ext; simp

set_option maxRecDepth 100000 in
set_option maxHeartbeats 2000000 in
theorem walk (a0 : Option Addr) (len0 cap0 : Nat) (b0 : List UInt8) (w : World) (w0 : Sl w a0 len0 b0) (hK : sha.KW w) :
    Calls Tryd.prog 3 #[.slice a0 len0 cap0] w fun e w' => e = .returned (.bool true) ∧ Below w.heap.size w w' := by
  have hm := w0.2.1
  by_cases hbig : 1048576 < len0
  · have hb := big_ a0 len0 cap0 w hm
    rw [decide_eq_true (by omega)] at hb
    have HB := Hid.mk' hb
    clear hb
    go_enter Tryd.func3, Tryd.ntmps3
    go_wp2_with fail
    refine HB.out.mono ?_
    rintro e wa ⟨rfl, rfl⟩
    go_wp2_with fail
    go_ret
    exact ⟨rfl, Below.refl _ _⟩
  · have hb := big_ a0 len0 cap0 w hm
    rw [decide_eq_false (by omega)] at hb
    have HB := Hid.mk' hb
    clear hb
    go_enter Tryd.func3, Tryd.ntmps3
    go_wp2_with fail
    refine HB.out.mono ?_
    rintro e wa ⟨rfl, hwa⟩
    subst hwa
    go_wp2_with fail
    refine (drawNodeOf a0 len0 cap0 b0 _ w0 (by omega)).mono ?_
    rintro e w1 ⟨s, t, hs, ht, rfl, hB1⟩
    have HN := Hid.mk' (fun wx hx => impl_nodeOf s t wx (by omega) (by omega) hx)
    have HN2 := Hid.mk' (fun wx => spec_nodeOf s t wx (by omega) (by omega))
    have hds : (nodeOf s t).size = 32 := dg_size _
    generalize nodeOf s t = d at *
    have hK1 := hK.below hB1
    clear hs ht
    go_wp2_with fail
    refine (HN.out _ hK1).mono ?_
    rintro e w2 ⟨rfl, hb2⟩
    have hB2 := hB1.trans (hb2.mono hB1.size)
    have hxl : (hexOf d.data.toList).length = 64 := by rw [hexOf_length]; simp; omega
    obtain ⟨hx, hhx⟩ : ∃ hx, (⟨(hexOf d.data.toList).toArray⟩ : ByteArray) = hx := ⟨_, rfl⟩
    have hxs : hx.size = 64 := by rw [← hhx]; show (hexOf d.data.toList).toArray.size = 64; rw [List.size_toArray]; exact hxl
    have hH := fun wx => impl_hexOf d wx (by omega)
    rw [hhx] at hH
    have HH := Hid.mk' hH
    have hU := fun wx => impl_unHex hx wx (by omega)
    have hback : unHex hx.data.toList [] = some d.data.toList := by rw [← hhx]; show unHex (hexOf d.data.toList) [] = _; rw [unHex_hexOf]; rfl
    rw [hback] at hU
    simp only [unRet] at hU
    rw [bytes_back] at hU
    have HU := Hid.mk' hU
    have hdI : (d.size : Int) = 32 := by omega
    have hxI : (hx.size : Int) = 64 := by omega
    clear hb2 hH hU hback hhx hxl HN
    go_wp2_with fail
    refine (HH.out _).mono ?_
    rintro e w3 ⟨rfl, hb3⟩
    have hB3 := hB2.trans (hb3.mono hB2.size)
    go_wp2_with fail
    refine (HU.out _).mono ?_
    rintro e w4 ⟨rfl, hb4⟩
    have hB4 := hB3.trans (hb4.mono hB3.size)
    go_wp2_with fail
    refine (HN2.out _).mono ?_
    rintro e w5 ⟨rfl, hb5⟩
    have hB5 := hB4.trans (hb5.mono hB4.size)
    go_wp2_with fail
    refine (HH.out _).mono ?_
    rintro e w6 ⟨rfl, hb6⟩
    have hB6 := hB5.trans (hb6.mono hB5.size)
    go_wp2_with fail
    go_ret
    exact ⟨rfl, hB6⟩

set_option maxRecDepth 100000 in
theorem lifted (os : Os) (started : os.Started) (H : Type) (enc : TypeId × Value → H) :
    ReturnsInHanded {} Tryd.checked os 3 .any (fun w args => (Rows.fnDigestsSpec.pre enc Tryd.prog Tryd.f3 [] false w args ∧ laidMetH Tryd.prog door.laidD w) ∧ sizedMet enc Tryd.prog Tryd.f3 (OpenSpec.ofChange Rows.fnDigestsSpec) false w args)
      (Rows.fnDigestsSpec.post enc Tryd.prog Tryd.f3 false true false false) := by
  refine returnsInHanded_of_change_and (C := Tryd.checked) (X := fun w _ => laidMetH Tryd.prog door.laidD w) (fun _ _ _ hh h => h.of_heap hh) door.own started (by kernel_rfl) Tryd.func3
    (ChangeSpec.witness_shaped (enc := enc) (C := Tryd.checked) (os := os) (X := fun w _ => laidMetH Tryd.prog door.laidD w) false (World.laidAll Tryd.prog os door.laidD) #[.slice none 0 0] 70 (World.laidAll_os _ _ _) (World.shaped_of_ZipB (by kernel_rfl) (by kernel_rfl)) (by kernel_rfl) (by kernel_rfl) (by kernel_rfl)
      (by rw [MakeChecks.laidMetH_plain _ _ _ (by kernel_rfl)]; exact laidMet_laidAll _ (by kernel_rfl) (by kernel_rfl))) ?_
  intro W base args ds gs before hval0 hW _ _ hL _
  have hval : ∀ (j : Nat) t v, Tryd.f3.params[j]? = some t → args[j]? = some v → Value.okWide Tryd.prog W .any base t v := hval0
  have hW' := hW
  obtain ⟨p, q, hA0, hV, rfl, hfz, hnd⟩ := hW
  have hA : DataW.TrodAll enc Tryd.prog W 0 (fun _ => true) true Tryd.f3.params.toList args.toList ds p := hA0
  rw [Tryd.params3] at hA hval
  obtain ⟨v0, vs0, d0, ds0, p0, q0, hargs, rfl, rfl, h0, r0⟩ := trodAll_cons hA
  obtain ⟨rfl, rfl, rfl⟩ := trodAll_nil r0
  obtain rfl : args = #[v0] := by cases args; simp_all
  obtain ⟨gv, tv, csv, fv, dv, pv, rfl, _, _, _, _, _⟩ := trodVars_one (show DataW.TrodVars enc Tryd.prog W (fun _ => true) ["loop.example/g00244/impl.roundWords"] gs q from hV)
  obtain ⟨a0, len0, cap0, rfl⟩ := okWide_slice Tryd.underlying22 (hval 0 22 v0 rfl rfl)
  have k0 := h0
  have lt0 : ∀ x ∈ p0, x.block < W.heap.size := by obtain ⟨m, hm⟩ := k0; exact DataW.trod_lt m _ _ _ hm
  obtain ⟨b0, w0⟩ : ∃ bs, Sl W a0 len0 bs := by
    obtain ⟨fuel, hf⟩ := h0
    rcases open_ints Tryd.underlying22 Tryd.underlying5 (by kernel_rfl) hf with ⟨hcs, _⟩ | ⟨x, l, c, zs, hcs, _, hl, hm, hz, _, hcell, hwz⟩
    · simp [Value.cells] at hcs
      obtain ⟨rfl, rfl, rfl⟩ := hcs
      exact ⟨[], sl_nil _ _⟩
    · simp [Value.cells] at hcs
      obtain ⟨rfl, rfl, rfl⟩ := hcs
      exact ⟨_, sl_of_ints hl hm (by simpa using hz) hcell hwz⟩
  clear hA0 hval0
  refine (walk a0 len0 cap0 b0 W w0 (door.words_of_laid hL)).mono fun e W' ⟨he, bel⟩ => ?_
  subst he
  exact ⟨_, rfl, _, _, _, [], _, _, hW', trodAll_mk1 (shut_bool Tryd.underlying4 _), (trodAll_cons_mk (Below.trod door.laidOut (by kernel_rfl) (of_decide_eq_true (by kernel_rfl)) k0 bel lt0) trodAll_mk0), bel.trodVars door.laidOut (by kernel_rfl) hV, bel.frame _, fun h => by cases h⟩

theorem over : Rows.fnDigestsRow.holds Tryd.pinned (OpenSpec.ofChange Rows.fnDigestsSpec) :=
  OpenClaim.holds_of_wide 3 Tryd.f3 rfl rfl rfl rfl rfl rfl rfl ⟨rfl, rfl, rfl, rfl, rfl⟩ rfl rfl rfl rfl rfl (by kernel_rfl) Tryd.func3 (by kernel_rfl)
    (of_decide_eq_true (by kernel_rfl)) (by unfold Func.isWrapper; first | (rw [if_pos (by decide +kernel)]; kernel_rfl) | (rw [if_neg (by decide +kernel)]; exact ⟨rfl, rfl⟩))
    (fun os started H enc _ => lifted os started H enc)

theorem proved : Rows.FnDigestsCardSaid :=
  Claim7.holds_tied_plain_at .later [] [.data] true (true, "dfb7ab1afdd0456eb5052fbcc97e9b7e967708949465dbf1114ff3a655c124d1") false
    over (fun _ h => by cases h) (by kernel_rfl) (fun _ h => by cases h) fnDigests_row_tie rfl ⟨rfl, rfl⟩ (by kernel_rfl) rfl
    (fun f fn hf hfn => by
      obtain rfl : f = 3 := Option.some.inj ((show Tryd.prog.funcNamed "loop.example/g00244/laws.FnDigests" = some 3 by kernel_rfl).symm.trans hf) |>.symm
      obtain rfl : fn = Tryd.f3 := (Option.some.inj (Tryd.func3.symm.trans hfn)).symm
      exact ⟨by kernel_rfl, fun j t ht => by
        rw [Tryd.params3] at ht
        have hm : t ∈ [22] := by simpa using Array.mem_of_getElem? ht
        have hall : ([22].all fun u => !Tryd.prog.wantsStandIn u) = true := by kernel_rfl
        exact (show Tryd.prog.wantsStandIn t = false by simpa using List.all_eq_true.1 hall t hm)⟩)
    (by kernel_rfl)
end Go.Proofs.YtmdhkoiimffmlaaDoor.fnDigests
