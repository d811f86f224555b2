/- The statement FnChainsCardSaid: at every slice of bytes FnChains answers true, and the slice reads afterwards as before, where the table of the rounds' words is as the program's text lays it (the card ties it). No condition besides the row's own. -/
import Derived.Test.YtfaldffehpgaiaaDoorRows
import Derived.Test.YtfaldffehpgaiaaDoorCards
import Derived.Test.YtfaldffehpgaiaaDoorTie
import Derived.Test.YtfaldffehpgaiaaDoorShak
import Derived.Test.YtfaldffehpgaiaaDoorShai
import Derived.ProofKit
import Derived.OpenShut
import Derived.ShutString
import Derived.ChangeOld
import Derived.Below
namespace Go.Proofs.YtfaldffehpgaiaaDoor.fnChains
open Go.ChangeShapes Go.WideShapes Go.ChangeAt Go.RowKit
open Go.ChangeMaps (open_string shut_string)
set_option linter.unusedVariables false
set_option linter.unusedSimpArgs false
open Go.Proofs.YtfaldffehpgaiaaDoor.base Go.Proofs.YtfaldffehpgaiaaDoor.seals Go.Proofs.YtfaldffehpgaiaaDoor.lay

set_option maxRecDepth 100000 in
set_option maxHeartbeats 8000000 in
theorem walk (a0 : Option Addr) (len0 cap0 : Nat) (b0 : List UInt8) (w : World) (w0 : Sl w a0 len0 b0) (hK : sha.KW w) :
    Calls Tryd.prog 3 #[.slice a0 len0 cap0] w fun e w' => e = .returned (.bool true) ∧ Below w.heap.size w w' := by
  have hm := w0.2.1
  have HBG := Hid.mk' (big_ a0 len0 cap0 w hm)
  by_cases hbig : 1048576 < (len0 : Int)
  · rw [decide_eq_true hbig] at HBG
    clear hbig
    go_enter Tryd.func3, Tryd.ntmps3
    go_wp2_with fail
    refine HBG.out.mono ?_
    rintro e w1 ⟨rfl, rfl⟩
    go_wp2_with fail
    go_ret
    exact ⟨rfl, Below.refl _ _⟩
  rw [decide_eq_false hbig] at HBG
  have HDR := Hid.mk' (drawChain a0 len0 cap0 b0 w w0 (by omega))
  clear hm w0 hbig
  go_enter Tryd.func3, Tryd.ntmps3
  go_wp2_with fail
  refine HBG.out.mono ?_
  rintro e w1 ⟨rfl, rfl⟩
  clear HBG
  go_wp2_with fail
  refine HDR.out.mono ?_
  rintro e w2 ⟨b, n, c, l, rfl, hS, hnc, hcm, hl3, hbe, hb2⟩
  clear HDR
  obtain rfl : l.length = n := hS.1
  have hmod := bent_mod hbe
  have HBE := Hid.mk' hbe
  have HIC := Hid.mk' (i_chainOk b l.length c l w2 hS hnc hcm hmod (hK.below hb2))
  have HSL := Hid.mk' hS
  have HCM := Hid.mk' hcm
  have HMO := Hid.mk' hmod
  have HKW := Hid.mk' (hK.below hb2)
  have HPR := Hid.mk' (fun (h : chainOk l = true) => And.intro (chain_links h).1 (chain_take h))
  have HSP := Hid.mk' (fun wx (hx : Below w2.heap.size w2 wx) => spec_chainOk b l.length c l wx (hS.below hx) hnc hcm)
  clear hS hcm hmod hbe
  generalize chainOk l = ok at *
  go_wp2_with fail
  refine HIC.out.mono ?_
  rintro e w3 ⟨rfl, hb3⟩
  clear HIC
  go_wp2_with fail
  refine (HSP.out w3 hb3).mono ?_
  rintro e w4 ⟨rfl, hb4⟩
  have hB4 := hb3.trans (hb4.mono hb3.size)
  clear HSP hb3 hb4
  have hoo : (ok != ok) = false := by cases ok <;> rfl
  go_wp2_with fail
  go_loopw [5] (fun i wr => ∃ k : Nat, k ≤ l.length ∧ i = .int .i64 (k : Int) ∧ Below w2.heap.size w2 wr) (fun i _ => l.length - (intOf i).toNat)
  case atStart => exact ⟨0, Nat.zero_le _, rfl, hB4⟩
  case round =>
    clear hB4
    obtain ⟨k, hk, rfl, hb⟩ := hrel
    by_cases hlt : k < l.length
    · obtain ⟨b', off, ha, _⟩ := HSL.out.2.2.2 (by omega)
      subst ha
      have hsl := HSL.out.below hb
      obtain ⟨ra, rn, rc, c0, c1, c2, c3, hS, _, hno1, hp1, _⟩ := seal_at hsl k hlt
      have hki : (k : Int) < (l.length : Int) := by omega
      have hkc : (k : Int) ≤ (c : Int) := by omega
      have hbk := HBE.out l[k] (List.getElem_mem hlt)
      have hmk := HMO.out l[k] (List.getElem_mem hlt)
      obtain ⟨W, hW⟩ : ∃ W, wr.alloc (.cells #[.int .i64 l[k].1, .string l[k].2.1, .string l[k].2.2.1, .slice ra rn rc] 29) = W := ⟨_, rfl⟩
      have hB0 : Below wr.heap.size wr W := by rw [← hW]; exact below_make
      have hX : BoxIn wr.heap.size 29 [] [.int .i64 l[k].1, .string l[k].2.1, .string l[k].2.2.1, .slice ra rn rc] [] W := by rw [← hW]; exact boxIn_new wr _ _
      have hBW := hb.trans (hB0.mono hb.size)
      have hKW := HKW.out.below hBW
      have HW := Hid.mk' hW
      clear hW
      obtain ⟨b0, b1, b2, b3⟩ := box4 hX
      have hinh := last.On.inh W.heap.size W
      have p0 := last.On.cell (B := W.heap.size) b0 (World.block_lt_of_cell? _ _ b0)
      have p1 := last.On.cell (B := W.heap.size) b1 (World.block_lt_of_cell? _ _ b1)
      have p2 := last.On.cell (B := W.heap.size) b2 (World.block_lt_of_cell? _ _ b2)
      have p3 := last.On.cell (B := W.heap.size) b3 (World.block_lt_of_cell? _ _ b3)
      have hc0 : ∀ xx : last.On W.heap.size W, Calls Tryd.prog 10 #[.agg #[.int .i64 l[k].1, .string l[k].2.1, .string l[k].2.2.1, .slice ra rn rc]] xx.w fun e w' => e = .returned (.bool (sealOk l[k])) ∧ ∃ yv : last.On W.heap.size W, w' = yv.w := fun xx => last.Calls.on xx (Nat.le_refl _) (by have := i_sealOk ra rn rc l[k] xx.w ((hS.below hB0).below xx.2) hno1 hp1 (hKW.below xx.2); rw [hbk.same] at this; exact this)
      have hc1 : ∀ xx : last.On W.heap.size W, Calls Tryd.prog 11 #[.agg #[.int .i64 l[k].1, .string l[k].2.1, .string l[k].2.2.1, .slice ra rn rc]] xx.w fun e w' => e = .returned (.bool (sealOk l[k])) ∧ ∃ yv : last.On W.heap.size W, w' = yv.w := fun xx => last.Calls.on xx (Nat.le_refl _) (spec_sealOk ra rn rc l[k] xx.w ((hS.below hB0).below xx.2) hno1 hp1)
      have hc2 : ∀ xx : last.On W.heap.size W, Calls Tryd.prog 12 #[.int .i64 l[k].1, .string l[k].2.1, .slice ra rn rc] xx.w fun e w' => e = .returned (.string (superOf l[k].1 l[k].2.1 l[k].2.2.2)) ∧ ∃ yv : last.On W.heap.size W, w' = yv.w := fun xx => last.Calls.on xx (Nat.le_refl _) (impl_superOf l[k].1 l[k].2.1 ra rn rc l[k].2.2.2 xx.w ((hS.below hB0).below xx.2) hno1 hmk.1 hmk.2.2 (hKW.below xx.2))
      have hc3 : ∀ xx : last.On W.heap.size W, Calls Tryd.prog 8 #[.slice (some ⟨b', off, none⟩) k c] xx.w fun e w' => e = .returned (.bool (chainOk (l.take k))) ∧ ∃ yv : last.On W.heap.size W, w' = yv.w := fun xx => last.Calls.on xx (Nat.le_refl _) (i_chainOk _ k c (l.take k) xx.w (slg_pre ((HSL.out.below hBW).below xx.2) k (by omega)) (by omega) HCM.out (HMO.out.pre k) (hKW.below xx.2))
      cases ok
      · clear hc2 hc3 hsl hS hno1 hp1 hbk hmk b0 b1 b2 b3 hX
        generalize sealOk l[k] = r0 at *
        have hrr : (r0 != r0) = false := by cases r0 <;> rfl
        generalize l[k] = s at *
        go_wp2_with fail
        rw [HW.out]
        clear c0 c1 c2 c3 HW
        refine last.wp_region_on W.heap.size (by kernel_rfl) (by kernel_rfl) ?_
        repeat (go_big_quiet_step (first | (go_at_call 10; with_reducible exact hc0 _) | (go_at_call 11; with_reducible exact hc1 _)))
        refine wpQuiet_nil ?_
        intro wq hwq
        obtain ⟨xq, hwq⟩ := hwq
        subst hwq
        have hbq : Below W.heap.size W xq.w := xq.2
        go_wp2_with fail
        go_roundw
        case rel => exact ⟨k + 1, by omega, by go_num, hBW.trans (hbq.mono hBW.size)⟩
        case measure => simp [intOf]; omega
      · have hpr := HPR.out rfl
        have hlk := hpr.1 k hlt
        rw [link_at hlt] at hlk
        have hso : sealOk l[k] = true := (Bool.and_eq_true_iff.1 (Bool.and_eq_true_iff.1 hlk).1).1
        have hsu := seal_super hso
        rw [hso] at hc0 hc1
        rw [← hsu] at hc2
        rw [hpr.2 k (by omega)] at hc3
        have hq := str_same l[k].2.2.1
        clear hsl hS hno1 hp1 hbk hmk b0 b1 b2 b3 hX hpr hlk hso hsu
        generalize l[k] = s at *
        obtain ⟨no, pv, su, rs⟩ := s
        simp only [] at *
        go_wp2_with fail
        rw [HW.out]
        clear c0 c1 c2 c3 HW
        refine last.wp_region_on W.heap.size (by kernel_rfl) (by kernel_rfl) ?_
        repeat (go_big_quiet_step (first | (go_at_call 10; with_reducible exact hc0 _) | (go_at_call 11; with_reducible exact hc1 _) | (go_at_call 12; with_reducible exact hc2 _) | (go_at_call 8; with_reducible exact hc3 _)))
        refine wpQuiet_nil ?_
        intro wq hwq
        obtain ⟨xq, hwq⟩ := hwq
        subst hwq
        have hbq : Below W.heap.size W xq.w := xq.2
        go_wp2_with fail
        go_roundw
        case rel => exact ⟨k + 1, by omega, by go_num, hBW.trans (hbq.mono hBW.size)⟩
        case measure => simp [intOf]; omega
    · have hki : ¬ (k : Int) < (l.length : Int) := by omega
      obtain ⟨V, hV⟩ : ∃ V, wr.alloc (.cells #[] 29) = V := ⟨_, rfl⟩
      have hbv : Below wr.heap.size wr V := by rw [← hV]; exact below_make
      have hBV := hb.trans (hbv.mono hb.size)
      have HN := Hid.mk' (i_chainOk (some ⟨wr.heap.size, 0, none⟩) 0 0 [] V ⟨rfl, Nat.zero_le _, fun x hx => absurd hx List.not_mem_nil, fun h => absurd h (by omega)⟩ (Nat.le_refl _) (Nat.zero_le _) (fun s hs => absurd hs List.not_mem_nil) (HKW.out.below hBV))
      have HV := Hid.mk' hV
      clear hV hbv
      go_wp2_with fail
      rw [HV.out]
      refine HN.out.mono ?_
      rintro e w5 ⟨rfl, hb5⟩
      have hB5 := hBV.trans (hb5.mono hBV.size)
      go_wp2_with fail
      go_ret
      exact ⟨rfl, hb2.trans (hB5.mono hb2.size)⟩

set_option maxRecDepth 100000 in
theorem lifted (os : Os) (started : os.Started) (H : Type) (enc : TypeId × Value → H) :
    ReturnsInHanded {} Tryd.checked os 3 .any (fun w args => (Rows.fnChainsSpec.pre enc Tryd.prog Tryd.f3 [] false w args ∧ laidMetH Tryd.prog door.laidD w) ∧ sizedMet enc Tryd.prog Tryd.f3 (OpenSpec.ofChange Rows.fnChainsSpec) false w args)
      (Rows.fnChainsSpec.post enc Tryd.prog Tryd.f3 false true false false) := by
  refine returnsInHanded_of_change_and (C := Tryd.checked) (X := fun w _ => laidMetH Tryd.prog door.laidD w) (fun _ _ _ hh h => h.of_heap hh) door.own started (by kernel_rfl) Tryd.func3
    (ChangeSpec.witness_shaped (enc := enc) (C := Tryd.checked) (os := os) (X := fun w _ => laidMetH Tryd.prog door.laidD w) false (World.laidAll Tryd.prog os door.laidD) #[.slice none 0 0] 70 (World.laidAll_os _ _ _) (World.shaped_of_ZipB (by kernel_rfl) (by kernel_rfl)) (by kernel_rfl) (by kernel_rfl) (by kernel_rfl)
      (by rw [MakeChecks.laidMetH_plain _ _ _ (by kernel_rfl)]; exact laidMet_laidAll _ (by kernel_rfl) (by kernel_rfl))) ?_
  intro W base args ds gs before hval0 hW _ _ hL _
  have hval : ∀ (j : Nat) t v, Tryd.f3.params[j]? = some t → args[j]? = some v → Value.okWide Tryd.prog W .any base t v := hval0
  have hW' := hW
  obtain ⟨p, q, hA0, hV, rfl, hfz, hnd⟩ := hW
  have hA : DataW.TrodAll enc Tryd.prog W 0 (fun _ => true) true Tryd.f3.params.toList args.toList ds p := hA0
  rw [Tryd.params3] at hA hval
  obtain ⟨v0, vs0, d0, ds0, p0, q0, hargs, rfl, rfl, h0, r0⟩ := trodAll_cons hA
  obtain ⟨rfl, rfl, rfl⟩ := trodAll_nil r0
  obtain rfl : args = #[v0] := by cases args; simp_all
  obtain ⟨gv, tv, csv, fv, dv, pv, rfl, _, _, _, _, _⟩ := trodVars_one (show DataW.TrodVars enc Tryd.prog W (fun _ => true) ["loop.example/g00244/impl.roundWords"] gs q from hV)
  obtain ⟨a0, len0, cap0, rfl⟩ := okWide_slice Tryd.underlying22 (hval 0 22 v0 rfl rfl)
  have k0 := h0
  have lt0 : ∀ x ∈ p0, x.block < W.heap.size := by obtain ⟨m, hm⟩ := k0; exact DataW.trod_lt m _ _ _ hm
  obtain ⟨b0, w0⟩ : ∃ bs, Sl W a0 len0 bs := by
    obtain ⟨fuel, hf⟩ := h0
    rcases open_ints Tryd.underlying22 Tryd.underlying5 (by kernel_rfl) hf with ⟨hcs, _⟩ | ⟨x, l, c, zs, hcs, _, hl, hm, hz, _, hcell, hwz⟩
    · simp [Value.cells] at hcs
      obtain ⟨rfl, rfl, rfl⟩ := hcs
      exact ⟨[], sl_nil _ _⟩
    · simp [Value.cells] at hcs
      obtain ⟨rfl, rfl, rfl⟩ := hcs
      exact ⟨_, sl_of_ints hl hm (by simpa using hz) hcell hwz⟩
  clear hA0 hval0
  refine (walk a0 len0 cap0 b0 W w0 (door.words_of_laid hL)).mono fun e W' ⟨he, bel⟩ => ?_
  subst he
  exact ⟨_, rfl, _, _, _, [], _, _, hW', trodAll_mk1 (shut_bool Tryd.underlying4 _), (trodAll_cons_mk (Below.trod door.laidOut (by kernel_rfl) (of_decide_eq_true (by kernel_rfl)) k0 bel lt0) trodAll_mk0), bel.trodVars door.laidOut (by kernel_rfl) hV, bel.frame _, fun h => by cases h⟩

theorem over : Rows.fnChainsRow.holds Tryd.pinned (OpenSpec.ofChange Rows.fnChainsSpec) :=
  OpenClaim.holds_of_wide 3 Tryd.f3 rfl rfl rfl rfl rfl rfl rfl ⟨rfl, rfl, rfl, rfl, rfl⟩ rfl rfl rfl rfl rfl (by kernel_rfl) Tryd.func3 (by kernel_rfl)
    (of_decide_eq_true (by kernel_rfl)) (by unfold Func.isWrapper; first | (rw [if_pos (by decide +kernel)]; kernel_rfl) | (rw [if_neg (by decide +kernel)]; exact ⟨rfl, rfl⟩))
    (fun os started H enc _ => lifted os started H enc)

theorem proved : Rows.FnChainsCardSaid :=
  Claim7.holds_tied_plain_at .later [] [.data] true (true, "fc0c933fea6a18e7dd0afd002f6f738b9c259faa86dfc27990f300ad0186cf58") false
    over (fun _ h => by cases h) (by kernel_rfl) (fun _ h => by cases h) fnChains_row_tie rfl ⟨rfl, rfl⟩ (by kernel_rfl) rfl
    (fun f fn hf hfn => by
      obtain rfl : f = 3 := Option.some.inj ((show Tryd.prog.funcNamed "loop.example/g00244/laws.FnChains" = some 3 by kernel_rfl).symm.trans hf) |>.symm
      obtain rfl : fn = Tryd.f3 := (Option.some.inj (Tryd.func3.symm.trans hfn)).symm
      exact ⟨by kernel_rfl, fun j t ht => by
        rw [Tryd.params3] at ht
        have hm : t ∈ [22] := by simpa using Array.mem_of_getElem? ht
        have hall : ([22].all fun u => !Tryd.prog.wantsStandIn u) = true := by kernel_rfl
        exact (show Tryd.prog.wantsStandIn t = false by simpa using List.all_eq_true.1 hall t hm)⟩)
    (by kernel_rfl)
end Go.Proofs.YtfaldffehpgaiaaDoor.fnChains
