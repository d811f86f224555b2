/- The statement FnExactCheckPathCardSaid: at every pair, numbers, slice of strings and string FnExactCheckPath answers true, and the arguments read afterwards as before, where the table of the rounds' words is as the program's text lays it (the card ties it). No condition besides the row's own. -/
import Derived.Test.YtmdhkoiimffmlaaDoorRows
import Derived.Test.YtmdhkoiimffmlaaDoorCards
import Derived.Test.YtmdhkoiimffmlaaDoorTie
import Derived.Test.YtmdhkoiimffmlaaDoorTreeC
import Derived.Test.YtmdhkoiimffmlaaDoorTreeX
import Derived.Test.YtmdhkoiimffmlaaDoorTreeTrio
import Derived.Test.YtmdhkoiimffmlaaDoorPutTexts
import Derived.Test.YtmdhkoiimffmlaaDoorDoor
import Derived.ProofKit
import Derived.OpenShut
import Derived.ShutString
import Derived.ChangeOld
import Derived.Below
namespace Go.Proofs.YtmdhkoiimffmlaaDoor.fnExactCheckPath
open Go.ChangeShapes Go.WideShapes Go.ChangeAt Go.RowKit
open Go.ChangeMaps (open_string shut_string)
set_option linter.unusedVariables false
open Go.Proofs.YtmdhkoiimffmlaaDoor.base Go.Proofs.YtmdhkoiimffmlaaDoor.pairs Go.Proofs.YtmdhkoiimffmlaaDoor.tree Go.Proofs.YtmdhkoiimffmlaaDoor.helps

theorem box_keep {w wa wb : World} {x y : ByteArray} (hb : Below wa.heap.size wa wb) (hlt : w.heap.size < wa.heap.size) (h : wa.cell? ⟨w.heap.size, 0, none⟩ = some (.string x) ∧ wa.cell? ⟨w.heap.size, 1, none⟩ = some (.string y)) :
    wb.cell? ⟨w.heap.size, 0, none⟩ = some (.string x) ∧ wb.cell? ⟨w.heap.size, 1, none⟩ = some (.string y) :=
  ⟨(hb.cell (p := ⟨w.heap.size, 0, none⟩) hlt).trans h.1, (hb.cell (p := ⟨w.heap.size, 1, none⟩) hlt).trans h.2⟩

set_option maxRecDepth 100000 in
set_option maxHeartbeats 2000000 in
theorem walk (a0 : Pr) (a1 a2 : Int) (a3 : Option Addr) (len3 cap3 : Nat) (b3 : List ByteArray) (a4 : ByteArray) (w : World) (w0 : small a0) (w1 : (Lit.int .i64 a1).wf = true) (w2 : (Lit.int .i64 a2).wf = true) (w3 : SlS w a3 len3 b3) (w4 : a4.size ≤ maxLen) (hK : sha.KW w) :
    Calls Tryd.prog 10 #[.agg #[.string a0.1, .string a0.2], .int .i64 a1, .int .i64 a2, .slice a3 len3 cap3, .string a4] w fun e w' => e = .returned (.bool true) ∧ Below w.heap.size w w' := by
  have hm4 := w4
  unfold maxLen at hm4
  have hl3 := w3.1
  have W1 := Hid.mk' w1
  have W2 := Hid.mk' w2
  clear w1 w2
  have hba : Below w.heap.size w (w.alloc (.cells #[.string a0.1, .string a0.2] 39)) := (Below.refl _ _).alloc (Nat.le_refl _) _
  by_cases hbig : 1048576 < a4.size
  · go_enter Tryd.func10, Tryd.ntmps10
    go_wp2_with fail
    go_ret
    exact ⟨rfl, hba⟩
  have hsz := fun wx => szPair a0 1048576 wx w0 (by omega)
  by_cases hover : 1048576 < psz a0
  · rw [pairs.szR_neg hover] at hsz
    have HZ := Hid.mk' hsz
    clear hsz
    go_enter Tryd.func10, Tryd.ntmps10
    go_wp2_with fail
    refine (HZ.out _).mono ?_
    rintro e wa ⟨rfl, hB⟩
    go_wp2_with fail
    go_ret
    exact ⟨rfl, hba.trans (hB.mono hba.size)⟩
  rw [pairs.szR_pos (by omega)] at hsz
  obtain ⟨r, hr⟩ : ∃ r : Nat, ((1048576 : Nat) : Int) - (psz a0 : Int) = (r : Int) := ⟨1048576 - psz a0, by omega⟩
  rw [hr] at hsz
  have HZ := Hid.mk' hsz
  have hlim : lim a0 := by unfold psz at hover; exact ⟨by omega, by omega⟩
  have hr2 : r ≤ 1048576 := by omega
  clear hsz hr
  have hsz := fun wx hx => puttexts.szStringS a3 len3 cap3 b3 r wx (w3.below hx) (by omega)
  by_cases hover2 : r < b3.length + puttexts.sum b3
  · rw [puttexts.szR_neg hover2] at hsz
    have HZ2 := Hid.mk' hsz
    clear hsz
    go_enter Tryd.func10, Tryd.ntmps10
    go_wp2_with fail
    refine (HZ.out _).mono ?_
    rintro e wa ⟨rfl, hB⟩
    have hBa := hba.trans (hB.mono hba.size)
    go_wp2_with fail
    refine (HZ2.out _ hBa).mono ?_
    rintro e wb ⟨rfl, hwb⟩
    subst hwb
    go_wp2_with fail
    go_ret
    exact ⟨rfl, hBa⟩
  rw [puttexts.szR_pos (by omega)] at hsz
  obtain ⟨r2, hr⟩ : ∃ r2 : Nat, (r : Int) - ((b3.length + puttexts.sum b3 : Nat) : Int) = (r2 : Int) := ⟨r - (b3.length + puttexts.sum b3), by omega⟩
  rw [hr] at hsz
  have HZ2 := Hid.mk' hsz
  have hPs : ∀ s ∈ b3, s.size ≤ 137438953472 := fun s hs => by have := puttexts.size_le_sum b3 s hs; omega
  clear hsz hr
  obtain ⟨d, hd⟩ : ∃ d, checkPathI a0 a1 a2 b3 a4 = d := ⟨_, rfl⟩
  have HD := Hid.mk' hd
  clear hd
  subst hl3
  go_enter Tryd.func10, Tryd.ntmps10
  go_wp2_with fail
  refine (HZ.out _).mono ?_
  rintro e wa ⟨rfl, hB⟩
  have hBa := hba.trans (hB.mono hba.size)
  have o : wa.cell? ⟨w.heap.size, 0, none⟩ = some (.string a0.1) ∧ wa.cell? ⟨w.heap.size, 1, none⟩ = some (.string a0.2) := ⟨(hB.cell (p := ⟨w.heap.size, 0, none⟩) (by simp)).trans (by simp), (hB.cell (p := ⟨w.heap.size, 1, none⟩) (by simp)).trans (by simp)⟩
  have hlt : w.heap.size < wa.heap.size := by have := hB.size; simp at this; omega
  clear hba hB
  go_wp2_with fail
  refine (HZ2.out _ hBa).mono ?_
  rintro e wa' ⟨rfl, hwa'⟩
  subst hwa'
  obtain ⟨o1, o2⟩ := id o
  go_wp2_with fail
  refine (toPair a0.1 a0.2 _).mono ?_
  rintro e wb ⟨rfl, hB1⟩
  have hBb := hBa.trans (hB1.mono hBa.size)
  have p := box_keep hB1 hlt o
  have hltb : w.heap.size < wb.heap.size := Nat.lt_of_lt_of_le hlt hB1.size
  clear o o1 o2 hB1
  go_wp2_with fail
  refine (toStringS a3 b3.length cap3 b3 _ (w3.below hBb) (by omega)).mono ?_
  rintro e wc ⟨gc, rfl, hOc, hB2⟩
  have hBc := hBb.trans (hB2.mono hBb.size)
  have q := box_keep hB2 hltb p
  have hltc : w.heap.size < wc.heap.size := Nat.lt_of_lt_of_le hltb hB2.size
  clear p hB2
  go_wp2_with fail
  refine (spec_checkPath a0 a1 a2 gc 0 b3.length b3 a4 _ hlim hOc.sl hPs (Nat.le_refl _)).mono ?_
  rintro e wd ⟨he, hB3⟩
  rw [HD.out] at he
  subst he
  have hBd := hBc.trans (hB3.mono hBc.size)
  have r := box_keep hB3 hltc q
  have hltd : w.heap.size < wd.heap.size := Nat.lt_of_lt_of_le hltc hB3.size
  clear q hB3 hOc
  go_wp2_with fail
  refine (toStringS a3 b3.length cap3 b3 _ (w3.below hBd) (by omega)).mono ?_
  rintro e we ⟨gx, rfl, hOx, hB4⟩
  have hBe := hBd.trans (hB4.mono hBd.size)
  have s := box_keep hB4 hltd r
  clear r hB4
  obtain ⟨s1, s2⟩ := id s
  go_wp2_with fail
  refine (toPair a0.1 a0.2 _).mono ?_
  rintro e wf ⟨rfl, hB5⟩
  have hBf := hBe.trans (hB5.mono hBe.size)
  have hOf := hOx.below hB5
  clear s s1 s2 hB5 hOx
  go_wp2_with fail
  refine (impl_checkPath a0 a1 a2 gx 0 b3.length b3 a4 _ hlim hOf.sl hPs (Nat.le_refl _) w4 W1.out W2.out (hK.below hBf)).mono ?_
  rintro e wg ⟨he, hB6⟩
  rw [HD.out] at he
  subst he
  have hBg := hBf.trans (hB6.mono hBf.size)
  have hOg := hOf.below hB6
  clear hB6 hOf
  go_wp2_with fail
  all_goals
    refine (toStringS a3 b3.length cap3 b3 _ (w3.below hBg) (by omega)).mono ?_
    rintro e wh ⟨gy, rfl, hOy, hB7⟩
    have hBh := hBg.trans (hB7.mono hBg.size)
    go_wp2_with fail
    refine (eqT _ _ _ _ _ _ _ _ _ (hOg.below hB7).sl hOy.sl rfl).mono ?_
    rintro e wi ⟨rfl, hB8⟩
    go_wp2_with fail
    go_ret
    exact ⟨rfl, hBh.trans (hB8.mono hBh.size)⟩

set_option maxRecDepth 100000 in
theorem lifted (os : Os) (started : os.Started) (H : Type) (enc : TypeId × Value → H) :
    ReturnsInHanded {} Tryd.checked os 10 .any (fun w args => (Rows.fnExactCheckPathSpec.pre enc Tryd.prog Tryd.f10 [] false w args ∧ laidMetH Tryd.prog door.laidD w) ∧ sizedMet enc Tryd.prog Tryd.f10 (OpenSpec.ofChange Rows.fnExactCheckPathSpec) false w args)
      (Rows.fnExactCheckPathSpec.post enc Tryd.prog Tryd.f10 false true false false) := by
  refine returnsInHanded_of_change_and (C := Tryd.checked) (X := fun w _ => laidMetH Tryd.prog door.laidD w) (fun _ _ _ hh h => h.of_heap hh) door.own started (by kernel_rfl) Tryd.func10
    (ChangeSpec.witness_shaped (enc := enc) (C := Tryd.checked) (os := os) (X := fun w _ => laidMetH Tryd.prog door.laidD w) false (World.laidAll Tryd.prog os door.laidD) #[.agg #[.string ByteArray.empty, .string ByteArray.empty], .int .i64 0, .int .i64 0, .slice none 0 0, .string ByteArray.empty] 70 (World.laidAll_os _ _ _) (World.shaped_of_ZipB (by kernel_rfl) (by kernel_rfl)) (by kernel_rfl) (by kernel_rfl) (by kernel_rfl)
      (by rw [MakeChecks.laidMetH_plain _ _ _ (by kernel_rfl)]; exact laidMet_laidAll _ (by kernel_rfl) (by kernel_rfl))) ?_
  intro W base args ds gs before hval0 hW _ _ hL _
  have hval : ∀ (j : Nat) t v, Tryd.f10.params[j]? = some t → args[j]? = some v → Value.okWide Tryd.prog W .any base t v := hval0
  have hW' := hW
  obtain ⟨p, q, hA0, hV, rfl, hfz, hnd⟩ := hW
  have hA : DataW.TrodAll enc Tryd.prog W 0 (fun _ => true) true Tryd.f10.params.toList args.toList ds p := hA0
  rw [Tryd.params10] at hA hval
  obtain ⟨v0, vs0, d0, ds0, p0, q0, hargs, rfl, rfl, h0, r0⟩ := trodAll_cons hA
  obtain ⟨v1, vs1, d1, ds1, p1, q1, rfl, rfl, rfl, h1, r1⟩ := trodAll_cons r0
  obtain ⟨v2, vs2, d2, ds2, p2, q2, rfl, rfl, rfl, h2, r2⟩ := trodAll_cons r1
  obtain ⟨v3, vs3, d3, ds3, p3, q3, rfl, rfl, rfl, h3, r3⟩ := trodAll_cons r2
  obtain ⟨v4, vs4, d4, ds4, p4, q4, rfl, rfl, rfl, h4, r4⟩ := trodAll_cons r3
  obtain ⟨rfl, rfl, rfl⟩ := trodAll_nil r4
  obtain rfl : args = #[v0, v1, v2, v3, v4] := by cases args; simp_all
  obtain ⟨gv, tv, csv, fv, dv, pv, rfl, _, _, _, _, _⟩ := trodVars_one (show DataW.TrodVars enc Tryd.prog W (fun _ => true) ["loop.example/g00244/impl.roundWords"] gs q from hV)
  have k0 := h0
  have lt0 : ∀ x ∈ p0, x.block < W.heap.size := by obtain ⟨m, hm⟩ := k0; exact DataW.trod_lt m _ _ _ hm
  obtain ⟨a0, rfl, w0⟩ : ∃ p : Pr, v0 = .agg #[.string p.1, .string p.2] ∧ small p := by obtain ⟨fuel, hf⟩ := h0; exact pair_arg 39 _ _ Tryd.underlying39 (by kernel_rfl) rfl rfl rfl rfl (by kernel_rfl) (hval 0 39 v0 rfl rfl) hf
  obtain ⟨a1, rfl, rfl, rfl, w1⟩ := open_int Tryd.underlying3 (hval 1 3 v1 rfl rfl) h1
  obtain ⟨a2, rfl, rfl, rfl, w2⟩ := open_int Tryd.underlying3 (hval 2 3 v2 rfl rfl) h2
  obtain ⟨a3, len3, cap3, rfl⟩ := okWide_slice Tryd.underlying33 (hval 3 33 v3 rfl rfl)
  have k3 := h3
  have lt3 : ∀ x ∈ p3, x.block < W.heap.size := by obtain ⟨m, hm⟩ := k3; exact DataW.trod_lt m _ _ _ hm
  obtain ⟨b3, w3⟩ : ∃ ss, SlS W a3 len3 ss := by
    obtain ⟨fuel, hf⟩ := h3
    rcases open_strings Tryd.underlying33 Tryd.underlying9 (by kernel_rfl) hf with ⟨hcs, _⟩ | ⟨x, l, c, zs, hcs, _, hl, hm, hz, _, hcell, hwz⟩
    · simp [Value.cells] at hcs
      obtain ⟨rfl, rfl, rfl⟩ := hcs
      exact ⟨[], sls_nil _ _⟩
    · simp [Value.cells] at hcs
      obtain ⟨rfl, rfl, rfl⟩ := hcs
      exact ⟨_, sls_of_strings hl hm (by simpa using hz) hcell hwz⟩
  obtain ⟨a4, rfl, rfl, rfl, w4⟩ := open_string Tryd.underlying9 (hval 4 9 v4 rfl rfl) h4
  clear hA0 hval0
  refine (walk a0 a1 a2 a3 len3 cap3 b3 a4 W w0 w1 w2 w3 w4 (door.words_of_laid hL)).mono fun e W' ⟨he, bel⟩ => ?_
  subst he
  exact ⟨_, rfl, _, _, _, [], _, _, hW', trodAll_mk1 (shut_bool Tryd.underlying4 _), (trodAll_cons_mk (Below.trod door.laidOut (by kernel_rfl) (of_decide_eq_true (by kernel_rfl)) k0 bel lt0) (trodAll_cons_mk (shut_int Tryd.underlying3 w1) (trodAll_cons_mk (shut_int Tryd.underlying3 w2) (trodAll_cons_mk (Below.trod door.laidOut (by kernel_rfl) (of_decide_eq_true (by kernel_rfl)) k3 bel lt3) (trodAll_cons_mk (shut_string Tryd.underlying9 w4) trodAll_mk0))))), bel.trodVars door.laidOut (by kernel_rfl) hV, bel.frame _, fun h => by cases h⟩

theorem over : Rows.fnExactCheckPathRow.holds Tryd.pinned (OpenSpec.ofChange Rows.fnExactCheckPathSpec) :=
  OpenClaim.holds_of_wide 10 Tryd.f10 rfl rfl rfl rfl rfl rfl rfl ⟨rfl, rfl, rfl, rfl, rfl⟩ rfl rfl rfl rfl rfl (by kernel_rfl) Tryd.func10 (by kernel_rfl)
    (of_decide_eq_true (by kernel_rfl)) (by unfold Func.isWrapper; first | (rw [if_pos (by decide +kernel)]; kernel_rfl) | (rw [if_neg (by decide +kernel)]; exact ⟨rfl, rfl⟩))
    (fun os started H enc _ => lifted os started H enc)

theorem proved : Rows.FnExactCheckPathCardSaid :=
  Claim7.holds_tied_plain_at .later [] [.data] true (true, "dfb7ab1afdd0456eb5052fbcc97e9b7e967708949465dbf1114ff3a655c124d1") false
    over (fun _ h => by cases h) (by kernel_rfl) (fun _ h => by cases h) fnExactCheckPath_row_tie rfl ⟨rfl, rfl⟩ (by kernel_rfl) rfl
    (fun f fn hf hfn => by
      obtain rfl : f = 10 := Option.some.inj ((show Tryd.prog.funcNamed "loop.example/g00244/laws.FnExactCheckPath" = some 10 by kernel_rfl).symm.trans hf) |>.symm
      obtain rfl : fn = Tryd.f10 := (Option.some.inj (Tryd.func10.symm.trans hfn)).symm
      exact ⟨by kernel_rfl, fun j t ht => by
        rw [Tryd.params10] at ht
        have hm : t ∈ [39, 3, 3, 33, 9] := by simpa using Array.mem_of_getElem? ht
        have hall : ([39, 3, 3, 33, 9].all fun u => !Tryd.prog.wantsStandIn u) = true := by kernel_rfl
        exact (show Tryd.prog.wantsStandIn t = false by simpa using List.all_eq_true.1 hall t hm)⟩)
    (by kernel_rfl)
end Go.Proofs.YtmdhkoiimffmlaaDoor.fnExactCheckPath
