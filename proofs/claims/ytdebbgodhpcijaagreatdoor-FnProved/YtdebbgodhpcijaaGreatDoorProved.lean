/- The statement FnProvedCardSaid: at every slice of bytes FnProved answers true, and the slice reads afterwards as before, where the table of the rounds' words is as the program's text lays it (the card ties it). No condition besides the row's own. -/
import Derived.Test.YtdebbgodhpcijaaGreatDoorRows
import Derived.Test.YtdebbgodhpcijaaGreatDoorCards
import Derived.Test.YtdebbgodhpcijaaGreatDoorTie
import Derived.Test.YtdebbgodhpcijaaGreatDoorRangeX
import Derived.Test.YtdebbgodhpcijaaGreatDoorRangeG
import Derived.Test.YtdebbgodhpcijaaGreatDoorClashC
import Derived.Test.YtdebbgodhpcijaaGreatDoorLieC
import Derived.Test.YtdebbgodhpcijaaGreatDoorHelpR
import Derived.Test.YtdebbgodhpcijaaGreatDoorPairR
import Derived.Test.YtdebbgodhpcijaaGreatDoorDrawA
import Derived.Test.YtdebbgodhpcijaaGreatDoorDoor
import Derived.ProofKit
import Derived.OpenShut
import Derived.ShutString
import Derived.ChangeOld
import Derived.Below
namespace Go.Proofs.YtdebbgodhpcijaaGreatDoor.fnProved
open Go.ChangeShapes Go.WideShapes Go.ChangeAt Go.RowKit
open Go.ChangeMaps (open_string shut_string)
set_option linter.unusedVariables false
open Go.Proofs.YtdebbgodhpcijaaGreatDoor.base Go.Proofs.YtdebbgodhpcijaaGreatDoor.pairs Go.Proofs.YtdebbgodhpcijaaGreatDoor.tree Go.Proofs.YtdebbgodhpcijaaGreatDoor.range Go.Proofs.YtdebbgodhpcijaaGreatDoor.clash Go.Proofs.YtdebbgodhpcijaaGreatDoor.draw

theorem same_is {a a2 : Option Addr} {len cap len2 cap2 : Nat} {l l2 : List Pr} {w : World} (h : SlP w a len l) (h2 : SlP w a2 len2 l2) :
    Calls Tryz.prog 11 #[.slice a len cap, .slice a2 len2 cap2] w fun e w' => e = .returned (.bool (decide (l = l2))) ∧ Below w.heap.size w w' := by
  refine (samePairs a a2 len cap len2 cap2 l l2 w h h2).mono ?_
  rintro e w' ⟨rfl, n, rfl⟩
  exact ⟨rfl, below_drewN (Below.refl _ _) _⟩

set_option maxRecDepth 100000 in
set_option maxHeartbeats 4000000 in
theorem walk (a0 : Option Addr) (len0 cap0 : Nat) (b0 : List UInt8) (w : World) (w0 : Sl w a0 len0 b0) (hK : sha.KW w) :
    Calls Tryz.prog 3 #[.slice a0 len0 cap0] w fun e w' => e = .returned (.bool true) ∧ Below w.heap.size w w' := by
  have hm := w0.2.1
  by_cases hbig : 1048576 < len0
  · have hb := big_ a0 len0 cap0 w hm
    rw [decide_eq_true (by omega)] at hb
    have HB := Hid.mk' hb
    clear hb
    go_enter Tryz.func3, Tryz.ntmps3
    go_wp2_with fail
    refine HB.out.mono ?_
    rintro e wa ⟨rfl, rfl⟩
    go_wp2_with fail
    go_ret
    exact ⟨rfl, Below.refl _ _⟩
  · have hb := big_ a0 len0 cap0 w hm
    rw [decide_eq_false (by omega)] at hb
    have HB := Hid.mk' hb
    clear hb
    go_enter Tryz.func3, Tryz.ntmps3
    go_wp2_with fail
    refine HB.out.mono ?_
    rintro e wa ⟨rfl, hwa⟩
    subst hwa
    go_wp2_with fail
    refine (drawLie a0 len0 cap0 b0 _ w0 (by omega)).mono ?_
    rintro e w1 ⟨g, n, cp, l, lo, hi, N, FR, sa, sm, sc, L, hn, hok, hlo, hhi, hbnd, hsm, htL, rfl, hO1, hJ1, hB1⟩
    have hl := hO1.1
    subst hl
    have hcp := hO1.cases.1
    have hlim := ok_lim' hok
    obtain ⟨w2, hw2⟩ : ∃ w2, w1.alloc (.cells #[.int .i64 N, .int .i64 FR, .slice sa sm sc] 27) = w2 := ⟨_, rfl⟩
    have hb2 : Below w1.heap.size w1 w2 := by rw [← hw2]; exact (Below.refl _ _).alloc (Nat.le_refl _) _
    have hV2 : V3 w2 w1.heap.size 27 (.int .i64 N) (.int .i64 FR) (.slice sa sm sc) := by rw [← hw2]; exact heap_alloc_new w1 _
    have hB2 := hB1.trans (hb2.mono hB1.size)
    have hO2 := hO1.below hb2
    have hJ2 := hJ1.below hb2
    have hK2 := hK.below hB2
    have hri : rootI l = rootOf l := by unfold rootI; rw [if_pos (by omega)]
    have hrs : (rootOf l).size = 32 := dg_size _
    have hhon := honest l lo hi hok
    have hlie := fun got h => lie l lo hi ⟨N, FR, L⟩ got hok h
    have HRO : Hid (∀ wx, Below w2.heap.size w2 wx → Calls Tryz.prog 6 #[.slice (some ⟨g, 0, none⟩) l.length cp] wx fun e w' => e = .returned (.string (rootOf l)) ∧ Below wx.heap.size wx w') := fun wx hx => by
      have := impl_rootOf g 0 l.length cp l wx (hO2.sl.below hx) hcp hlim (hK2.below hx)
      rw [hri] at this; exact this
    have HRS : Hid (∀ wx, Below w2.heap.size w2 wx → Calls Tryz.prog 10 #[.slice (some ⟨g, 0, none⟩) l.length cp] wx fun e w' => e = .returned (.string (rootOf l)) ∧ Below wx.heap.size wx w') := fun wx hx => by
      have := spec_rootOf g 0 l.length cp l wx (hO2.sl.below hx) hcp hlim
      rw [hri] at this; exact this
    have HBW : Hid (∀ wx, Below w2.heap.size w2 wx → Calls Tryz.prog 7 #[.slice (some ⟨g, 0, none⟩) l.length cp, .string lo, .string hi] wx fun e w' => ∃ g' n' cap', e = .returned (.slice (some ⟨g', 0, none⟩) n' cap') ∧ OwnP w' wx.heap.size g' n' cap' (between lo hi l) ∧ Below wx.heap.size wx w') := fun wx hx => impl_between g 0 l.length cp l lo hi wx (hO2.sl.below hx) hcp (by omega)
    have HPB : Hid (∀ wx, Below w2.heap.size w2 wx → Calls Tryz.prog 9 #[.slice (some ⟨g, 0, none⟩) l.length cp, .string lo, .string hi] wx fun e w' => ∃ a m c hs, e = .returned (.agg #[.int .i64 (prove l lo hi).n, .int .i64 (prove l lo hi).fr, .slice a m c]) ∧ OwnI w' wx.heap.size (.slice a m c) (prove l lo hi).items hs ∧ Below wx.heap.size wx w') :=
      fun wx hx => impl_proveBetween g 0 l.length cp l lo hi wx (hO2.sl.below hx) hcp hlim (by omega) (by omega) (hK2.below hx)
    have hsml := prove_small l lo hi hn (good1_tiny hok)
    have HC1 : Hid (∀ wx a m c hs base, Below w2.heap.size w2 wx → OwnI wx base (.slice a m c) (prove l lo hi).items hs → Calls Tryz.prog 8 #[.string (rootOf l), .string lo, .string hi, .agg #[.int .i64 (prove l lo hi).n, .int .i64 (prove l lo hi).fr, .slice a m c]] wx (CPost wx (some (between lo hi l)))) := fun wx a m c hs base hx hI => by
      have := impl_checkBetween (rootOf l) lo hi (prove l lo hi).n (prove l lo hi).fr a m c (prove l lo hi).items wx (hI.slJ (by have := hsml.2.2.1; omega) (fun x hx => (hsml.2.2.2 x hx).tiny.lim)) (WalkArith.wf_i64 (by have := hsml.1; omega)) (WalkArith.wf_i64 (by have := hsml.2.1; omega)) (by omega) (by omega) (by omega) (hK2.below hx)
      rw [show (⟨(prove l lo hi).n, (prove l lo hi).fr, (prove l lo hi).items⟩ : Prf) = prove l lo hi from rfl, hhon] at this
      exact this
    have HC2 : Hid (∀ wx, Below w2.heap.size w2 wx → Calls Tryz.prog 8 #[.string (rootOf l), .string lo, .string hi, .agg #[.int .i64 N, .int .i64 FR, .slice sa sm sc]] wx (CPost wx (check (rootOf l) lo hi ⟨N, FR, L⟩))) := fun wx hx => impl_checkBetween (rootOf l) lo hi N FR sa sm sc L wx (hJ2.below hx) (WalkArith.wf_i64 (by have := hbnd.1; omega)) (WalkArith.wf_i64 (by have := hbnd.2; omega)) (by omega) (by omega) (by omega) (hK2.below hx)
    have HC3 : Hid (∀ wx, Below w2.heap.size w2 wx → Calls Tryz.prog 12 #[.string (rootOf l), .string lo, .string hi, .agg #[.int .i64 N, .int .i64 FR, .slice sa sm sc]] wx (CPost wx (check (rootOf l) lo hi ⟨N, FR, L⟩))) := fun wx hx => spec_checkBetween (rootOf l) lo hi N FR sa sm sc L wx (hJ2.below hx) (WalkArith.wf_i64 (by have := hbnd.1; omega)) (WalkArith.wf_i64 (by have := hbnd.2; omega))
    have HCI : Hid (∀ wx, Below w2.heap.size w2 wx → Calls Tryz.prog 13 #[.slice (some ⟨g, 0, none⟩) l.length cp, .agg #[.int .i64 N, .int .i64 FR, .slice sa sm sc]] wx fun e w' => e = .returned (.bool (clash.clashIn l ⟨N, FR, L⟩)) ∧ Below wx.heap.size wx w') := fun wx hx => clashIn_ g 0 cp l N FR sa sm sc L wx (hO2.sl.below hx) hcp hok (hJ2.below hx) (by omega) ⟨by have := hbnd.2; omega, by have := hbnd.2; omega⟩ (hK2.below hx)
    have v0 := hV2.c0
    have v1 := hV2.c1
    have v2 := hV2.c2
    have HV := Hid.mk' hV2
    have HLIE := Hid.mk' hlie
    have HW2 := Hid.mk' hw2
    clear hw2 hlie hV2 hK2 hK hO1 hO2 hJ1 hJ2 hB1 hb2 hlim hri hhon HB hm hsml htL hbnd w0
    generalize clash.clashIn l ⟨N, FR, L⟩ = ci at *
    generalize check (rootOf l) lo hi ⟨N, FR, L⟩ = ck at *
    generalize rootOf l = root at *
    generalize between lo hi l = bt at *
    generalize prove l lo hi = F at *
    obtain ⟨fn, ffr, fi⟩ := F
    go_wp2_with fail
    rw [HW2.out]
    clear HW2
    refine (HRO.out _ (Below.refl _ _)).mono ?_
    rintro e w3 ⟨rfl, hb3⟩
    clear HRO
    go_wp2_with fail
    refine (HBW.out _ hb3).mono ?_
    rintro e w4 ⟨gw, nw, cw, rfl, hOw, hb4'⟩
    have hb4 := hb3.trans (hb4'.mono hb3.size)
    have HOw := Hid.mk' hOw
    clear HBW hb3 hb4' hOw
    go_wp2_with fail
    refine (HPB.out _ hb4).mono ?_
    rintro e w5 ⟨pa, pm, pc, phs, rfl, hI5, hb5'⟩
    have hb5 := hb4.trans (hb5'.mono hb4.size)
    have HOw5 := Hid.mk' (HOw.out.below hb5')
    have HCK := Hid.mk' (HC1.out _ pa pm pc phs _ hb5 hI5)
    clear HPB HC1 hb4 hb5' hI5 HOw
    go_wp2_with fail
    refine HCK.out.mono ?_
    rintro e w6 ⟨hb6', gh, nh, ch, rfl, hOh⟩
    have hb6 := hb5.trans (hb6'.mono hb5.size)
    have HOw6 := Hid.mk' (HOw5.out.below hb6')
    have HOh := Hid.mk' hOh
    have hrr : (root.toList == root.toList) = true := beq_self_eq_true _
    clear HCK hb5 hb6' HOw5 hOh
    go_wp2_with fail
    refine (HRS.out _ hb6).mono ?_
    rintro e w7 ⟨rfl, hb7'⟩
    have hb7 := hb6.trans (hb7'.mono hb6.size)
    have HOw7 := Hid.mk' (HOw6.out.below hb7')
    have HOh7 := Hid.mk' (HOh.out.below hb7')
    clear HRS hb6 hb7' HOw6 HOh
    have HSM := Hid.mk' (same_is (cap := ch) (cap2 := cw) HOh7.out.sl HOw7.out.sl)
    rw [decide_eq_true (show (some bt).getD [] = bt from rfl)] at HSM
    go_wp2_with fail
    refine HSM.out.mono ?_
    rintro e w8 ⟨rfl, hb8'⟩
    have hb8 := hb7.trans (hb8'.mono hb7.size)
    have HOw8 := Hid.mk' (HOw7.out.below hb8')
    have hV8 := HV.out.below hb8
    have t0 := hV8.c0
    have t1 := hV8.c1
    have t2 := hV8.c2
    clear HSM HOw7 HOh7 hb7 hb8' v0 v1 v2 hV8
    go_wp2_with fail
    refine (HC2.out _ hb8).mono ?_
    rintro e w9 ⟨hb9', g9, n9, c9, rfl, hO9⟩
    have hb9 := hb8.trans (hb9'.mono hb8.size)
    have HOw9 := Hid.mk' (HOw8.out.below hb9')
    have HO9 := Hid.mk' hO9
    have hV9 := HV.out.below hb9
    have s0 := hV9.c0
    have s1 := hV9.c1
    have s2 := hV9.c2
    clear HC2 HOw8 hb8 hb9' hO9 t0 t1 t2 hV9
    go_wp2_with fail
    refine (HC3.out _ hb9).mono ?_
    rintro e w10 ⟨hb10', g10, n10, c10, rfl, hO10⟩
    have hb10 := hb9.trans (hb10'.mono hb9.size)
    have HOw10 := Hid.mk' (HOw9.out.below hb10')
    have HO10 := Hid.mk' (HO9.out.below hb10')
    have hBz := hB2.trans (hb10.mono hB2.size)
    clear HC3 HOw9 HO9 hb9 hb10' s0 s1 s2 hO10
    cases ck with
    | none =>
      have hz := HO10.out.1
      simp only [Option.getD_none, List.length_nil] at hz
      subst hz
      go_wp2_with fail
      go_ret
      exact ⟨rfl, hBz⟩
    | some got =>
      have HSM := Hid.mk' (same_is (cap := c9) (cap2 := cw) HO10.out.sl HOw10.out.sl)
      by_cases hge : got = bt
      · rw [decide_eq_true (show (some got).getD [] = bt from hge)] at HSM
        clear hge
        go_wp2_with fail
        refine HSM.out.mono ?_
        rintro e w11 ⟨rfl, hb11⟩
        have hBy := hBz.trans (hb11.mono hBz.size)
        go_wp2_with fail
        go_ret
        exact ⟨rfl, hBy⟩
      · rw [decide_eq_false (show ¬ (some got).getD [] = bt from hge)] at HSM
        rcases HLIE.out got rfl with h | h
        · exact absurd h hge
        subst h
        clear hge
        go_wp2_with fail
        refine HSM.out.mono ?_
        rintro e w11 ⟨rfl, hb11'⟩
        have hb11 := hb10.trans (hb11'.mono hb10.size)
        have hBy := hBz.trans (hb11'.mono hBz.size)
        have hV11 := HV.out.below hb11
        have x0 := hV11.c0
        have x1 := hV11.c1
        have x2 := hV11.c2
        clear HSM hb11' hBz hb10 hV11
        go_wp2_with fail
        refine (HCI.out _ hb11).mono ?_
        rintro e w12 ⟨rfl, hb12⟩
        have hBx := hBy.trans (hb12.mono hBy.size)
        go_wp2_with fail
        go_ret
        exact ⟨rfl, hBx⟩

set_option maxRecDepth 100000 in
theorem lifted (os : Os) (started : os.Started) (H : Type) (enc : TypeId × Value → H) :
    ReturnsInHanded {} Tryz.checked os 3 .any (fun w args => (Rows.fnProvedSpec.pre enc Tryz.prog Tryz.f3 [] false w args ∧ laidMetH Tryz.prog door.laidD w) ∧ sizedMet enc Tryz.prog Tryz.f3 (OpenSpec.ofChange Rows.fnProvedSpec) false w args)
      (Rows.fnProvedSpec.post enc Tryz.prog Tryz.f3 false true false false) := by
  refine returnsInHanded_of_change_and (C := Tryz.checked) (X := fun w _ => laidMetH Tryz.prog door.laidD w) (fun _ _ _ hh h => h.of_heap hh) door.own started (by kernel_rfl) Tryz.func3
    (ChangeSpec.witness_shaped (enc := enc) (C := Tryz.checked) (os := os) (X := fun w _ => laidMetH Tryz.prog door.laidD w) false (World.laidAll Tryz.prog os door.laidD) #[.slice none 0 0] 70 (World.laidAll_os _ _ _) (World.shaped_of_ZipB (by kernel_rfl) (by kernel_rfl)) (by kernel_rfl) (by kernel_rfl) (by kernel_rfl)
      (by rw [MakeChecks.laidMetH_plain _ _ _ (by kernel_rfl)]; exact laidMet_laidAll _ (by kernel_rfl) (by kernel_rfl))) ?_
  intro W base args ds gs before hval0 hW _ _ hL _
  have hval : ∀ (j : Nat) t v, Tryz.f3.params[j]? = some t → args[j]? = some v → Value.okWide Tryz.prog W .any base t v := hval0
  have hW' := hW
  obtain ⟨p, q, hA0, hV, rfl, hfz, hnd⟩ := hW
  have hA : DataW.TrodAll enc Tryz.prog W 0 (fun _ => true) true Tryz.f3.params.toList args.toList ds p := hA0
  rw [Tryz.params3] at hA hval
  obtain ⟨v0, vs0, d0, ds0, p0, q0, hargs, rfl, rfl, h0, r0⟩ := trodAll_cons hA
  obtain ⟨rfl, rfl, rfl⟩ := trodAll_nil r0
  obtain rfl : args = #[v0] := by cases args; simp_all
  obtain ⟨gv, tv, csv, fv, dv, pv, rfl, _, _, _, _, _⟩ := trodVars_one (show DataW.TrodVars enc Tryz.prog W (fun _ => true) ["loop.example/g00244/impl.roundWords"] gs q from hV)
  obtain ⟨a0, len0, cap0, rfl⟩ := okWide_slice Tryz.underlying22 (hval 0 22 v0 rfl rfl)
  have k0 := h0
  have lt0 : ∀ x ∈ p0, x.block < W.heap.size := by obtain ⟨m, hm⟩ := k0; exact DataW.trod_lt m _ _ _ hm
  obtain ⟨b0, w0⟩ : ∃ bs, Sl W a0 len0 bs := by
    obtain ⟨fuel, hf⟩ := h0
    rcases open_ints Tryz.underlying22 Tryz.underlying5 (by kernel_rfl) hf with ⟨hcs, _⟩ | ⟨x, l, c, zs, hcs, _, hl, hm, hz, _, hcell, hwz⟩
    · simp [Value.cells] at hcs
      obtain ⟨rfl, rfl, rfl⟩ := hcs
      exact ⟨[], sl_nil _ _⟩
    · simp [Value.cells] at hcs
      obtain ⟨rfl, rfl, rfl⟩ := hcs
      exact ⟨_, sl_of_ints hl hm (by simpa using hz) hcell hwz⟩
  clear hA0 hval0
  refine (walk a0 len0 cap0 b0 W w0 (door.words_of_laid hL)).mono fun e W' ⟨he, bel⟩ => ?_
  subst he
  exact ⟨_, rfl, _, _, _, [], _, _, hW', trodAll_mk1 (shut_bool Tryz.underlying4 _), (trodAll_cons_mk (Below.trod door.laidOut (by kernel_rfl) (of_decide_eq_true (by kernel_rfl)) k0 bel lt0) trodAll_mk0), bel.trodVars door.laidOut (by kernel_rfl) hV, bel.frame _, fun h => by cases h⟩

theorem over : Rows.fnProvedRow.holds Tryz.pinned (OpenSpec.ofChange Rows.fnProvedSpec) :=
  OpenClaim.holds_of_wide 3 Tryz.f3 rfl rfl rfl rfl rfl rfl rfl ⟨rfl, rfl, rfl, rfl, rfl⟩ rfl rfl rfl rfl rfl (by kernel_rfl) Tryz.func3 (by kernel_rfl)
    (of_decide_eq_true (by kernel_rfl)) (by unfold Func.isWrapper; first | (rw [if_pos (by decide +kernel)]; kernel_rfl) | (rw [if_neg (by decide +kernel)]; exact ⟨rfl, rfl⟩))
    (fun os started H enc _ => lifted os started H enc)

theorem proved : Rows.FnProvedCardSaid :=
  Claim7.holds_tied_plain_at .later [] [.data] true (true, "425333695c3bd72e0650365921bfde58a7244802303e72bd1e4748a1bbb58680") false
    over (fun _ h => by cases h) (by kernel_rfl) (fun _ h => by cases h) fnProved_row_tie rfl ⟨rfl, rfl⟩ (by kernel_rfl) rfl
    (fun f fn hf hfn => by
      obtain rfl : f = 3 := Option.some.inj ((show Tryz.prog.funcNamed "loop.example/g00244/laws.FnProved" = some 3 by kernel_rfl).symm.trans hf) |>.symm
      obtain rfl : fn = Tryz.f3 := (Option.some.inj (Tryz.func3.symm.trans hfn)).symm
      exact ⟨by kernel_rfl, fun j t ht => by
        rw [Tryz.params3] at ht
        have hm : t ∈ [22] := by simpa using Array.mem_of_getElem? ht
        have hall : ([22].all fun u => !Tryz.prog.wantsStandIn u) = true := by kernel_rfl
        exact (show Tryz.prog.wantsStandIn t = false by simpa using List.all_eq_true.1 hall t hm)⟩)
    (by kernel_rfl)
end Go.Proofs.YtdebbgodhpcijaaGreatDoor.fnProved
