/- The statement FnExactOutcomeCardSaid: at every shard and number FnExactOutcome answers true, and the arguments read afterwards as before. No condition besides the row's own: the program's named errors lie as its text lays them. -/
import Derived.Test.YtddolmklnifnmaaDoorRows
import Derived.Test.YtddolmklnifnmaaDoorCards
import Derived.Test.YtddolmklnifnmaaDoorTie
import Derived.Test.YtddolmklnifnmaaDoorBund9ay
import Derived.Test.YtddolmklnifnmaaDoorBund9bi
import Derived.ProofKit
import Derived.OpenShut
import Derived.ShutString
import Derived.ChangeOld
import Derived.Below
import Derived.ChangeVars
import Derived.OpenVars
import Derived.LaidMore
import Derived.Lay
import Derived.LaidOnce
import Derived.SevenTiedAt
namespace Go.Proofs.YtddolmklnifnmaaDoor.fnExactOutcome
open Go.ChangeShapes Go.WideShapes Go.ChangeAt Go.RowKit
open Go.ChangeMaps (open_string shut_string)
set_option linter.unusedVariables false
open Go.Proofs.YtddolmklnifnmaaDoor.base Go.Proofs.YtddolmklnifnmaaDoor.pairs Go.Proofs.YtddolmklnifnmaaDoor.ords Go.Proofs.YtddolmklnifnmaaDoor.help Go.Proofs.YtddolmklnifnmaaDoor.helps Go.Proofs.YtddolmklnifnmaaDoor.recs Go.Proofs.YtddolmklnifnmaaDoor.lay

set_option maxRecDepth 100000 in
set_option maxHeartbeats 4000000 in
theorem walk (G : List Nat) (A : Nat → Addr) (la : Option Addr) (ln lc : Nat) (ma : Option Addr) (mn mc : Nat) (ha : Option Addr) (hn hc : Nat) (s : Shd) (x : Int) (w : World) (h : SeeSh w la ln lc ma mn mc ha hn hc s) (hx0 : (Lit.int .i64 x).wf = true) (hK : sent.KS G A w) :
    Calls Tryd.prog 4 #[.agg #[.int .i64 s.1, .slice la ln lc, .int .i64 s.2.2.1, .slice ma mn mc, .slice ha hn hc], .int .i64 x] w fun e w' => e = .returned (.bool true) ∧ Below w.heap.size w w' := by
  obtain ⟨W, hW⟩ : ∃ W, w.alloc (.cells #[.int .i64 s.1, .slice la ln lc, .int .i64 s.2.2.1, .slice ma mn mc, .slice ha hn hc] 36) = W := ⟨_, rfl⟩
  have hB : Below w.heap.size w W := by rw [← hW]; exact below_alloc
  have hA : BoxIn w.heap.size 36 [] (shVals s.1 s.2.2.1 la ln lc ma mn mc ha hn hc) [] W := by rw [← hW]; exact boxIn_new w _ _
  have hsz := szShard la ln lc ma mn mc ha hn hc s 1048576 W (h.below hB) (by omega)
  have HW := Hid.mk' hW
  have arg : ∀ wx, Below W.heap.size W wx → wx.cell? ⟨w.heap.size, 0, none⟩ = some (.int .i64 s.1) ∧ wx.cell? ⟨w.heap.size, 1, none⟩ = some (.slice la ln lc) ∧ wx.cell? ⟨w.heap.size, 2, none⟩ = some (.int .i64 s.2.2.1) ∧ wx.cell? ⟨w.heap.size, 3, none⟩ = some (.slice ma mn mc) ∧ wx.cell? ⟨w.heap.size, 4, none⟩ = some (.slice ha hn hc) := fun wx hx => by
    have a0 := (hA.below hx).cell 0 _ rfl
    have a1 := (hA.below hx).cell 1 _ rfl
    have a2 := (hA.below hx).cell 2 _ rfl
    have a3 := (hA.below hx).cell 3 _ rfl
    have a4 := (hA.below hx).cell 4 _ rfl
    simp only [List.length_nil, Nat.zero_add] at a0 a1 a2 a3 a4
    exact ⟨a0, a1, a2, a3, a4⟩
  obtain ⟨a0, a1, a2, a3, a4⟩ := arg W (Below.refl _ _)
  have ARG := Hid.mk' arg
  rw [← hW] at a0 a1 a2 a3 a4
  clear hW arg
  by_cases hover : 1048576 < szSh s
  · rw [pairs.szR_neg hover] at hsz
    have HZ := Hid.mk' hsz
    clear hsz
    go_enter Tryd.func4, Tryd.ntmps4
    go_wp2_with fail
    rw [HW.out]
    refine HZ.out.mono ?_
    rintro e wa ⟨rfl, hb⟩
    clear a0 a1 a2 a3 a4
    go_wp2_with fail
    go_ret
    exact ⟨rfl, hB.trans (hb.mono hB.size)⟩
  rw [pairs.szR_pos (by omega)] at hsz
  obtain ⟨r, hrr⟩ : ∃ r : Nat, ((1048576 : Nat) : Int) - (szSh s : Int) = (r : Int) := ⟨1048576 - szSh s, by omega⟩
  rw [hrr] at hsz
  have HZ := Hid.mk' hsz
  have hbd := bound_of (s := s) (by omega)
  obtain ⟨b1, b2, b3⟩ := SeeSh.few h hbd
  have HTO := Hid.mk' (fun wx (hx : Below w.heap.size w wx) => toShard la ln lc ma mn mc ha hn hc s wx (h.below hx) hbd.few hbd.fewH (by omega) (by omega) (by omega))
  clear hsz hrr hover
  go_enter Tryd.func4, Tryd.ntmps4
  go_wp2_with fail
  rw [HW.out]
  refine HZ.out.mono ?_
  rintro e w1 ⟨rfl, hb1⟩
  have hB1 := hB.trans (hb1.mono hB.size)
  clear a0 a1 a2 a3 a4 HZ HW
  obtain ⟨a0, a1, a2, a3, a4⟩ := ARG.out w1 hb1
  go_wp2_with fail
  refine (HTO.out _ hB1).mono ?_
  rintro e w2 ⟨gl, gm, gh, F1, rfl, hO2, hF1, hb2⟩
  have hB2 := hB1.trans (hb2.mono hB1.size)
  have hbW2 := hb1.trans (hb2.mono hb1.size)
  have HSO := Hid.mk' (spec_outcome _ _ _ _ _ _ _ _ _ s x w2 hO2.see hbd)
  clear a0 a1 a2 a3 a4
  go_wp2_with fail
  refine HSO.out.mono ?_
  rintro e w3 ⟨rfl, hb3⟩
  have hB3 := hB2.trans (hb3.mono hB2.size)
  have hbW3 := hbW2.trans (hb3.mono hbW2.size)
  obtain ⟨a0, a1, a2, a3, a4⟩ := ARG.out w3 hbW3
  clear HSO hO2
  go_wp2_with fail
  refine (HTO.out _ hB3).mono ?_
  rintro e w4 ⟨xl, xm, xh, F2, rfl, hO4, hF2, hb4⟩
  have hB4 := hB3.trans (hb4.mono hB3.size)
  have hbW4 := hbW3.trans (hb4.mono hbW3.size)
  have hX := inBox_new hO4
  obtain ⟨v4, hv4⟩ : ∃ v4, w4.alloc (boxSh s.1 s.2.2.1 (some ⟨xl, 0, none⟩) ln ln (some ⟨xm, 0, none⟩) mn mn (some ⟨xh, 0, none⟩) hn hn) = v4 := ⟨_, rfl⟩
  have hc4 : Below w4.heap.size w4 v4 := by rw [← hv4]; exact below_alloc
  rw [hv4] at hX
  have hB5 := hB4.trans (hc4.mono hB4.size)
  have hbW5 := hbW4.trans (hc4.mono hbW4.size)
  have HIO := Hid.mk' (impl_outcome G A _ _ _ _ _ _ _ _ _ s x v4 hX.own.see (OwnSh.plain hX.own) hbd (hK.below hB5))
  obtain ⟨c0, c1, c2, c3, c4⟩ := hX.cells
  rw [← hv4] at c0 c1 c2 c3 c4
  have HV4 := Hid.mk' hv4
  clear a0 a1 a2 a3 a4 hv4 hO4
  go_wp2_with fail
  rw [HV4.out]
  refine HIO.out.mono ?_
  rintro e w6 ⟨rfl, hb6⟩
  have hB6 := hB5.trans (hb6.mono hB5.size)
  have hbW6 := hbW5.trans (hb6.mono hbW5.size)
  have hX6 := hX.below hb6
  obtain ⟨d0, d1, d2, d3, d4⟩ := hX6.cells
  obtain ⟨a0, a1, a2, a3, a4⟩ := ARG.out w6 hbW6
  have hss : (outcR s x != outcR s x) = false := by simp
  clear HIO HV4 c0 c1 c2 c3 c4
  generalize outcR s x = R at *
  have hdr : Below w6.heap.size w6 w6.drew := (Below.refl _ _).drew
  have hB6d := hB6.trans (hdr.mono hB6.size)
  go_wp2_with fail
  go_region_held3 (fun w' => (w'.cell? ⟨w4.heap.size, 0, none⟩ = some (.int .i64 s.1) ∧ w'.cell? ⟨w4.heap.size, 1, none⟩ = some (.slice (some ⟨xl, 0, none⟩) ln ln) ∧ w'.cell? ⟨w4.heap.size, 2, none⟩ = some (.int .i64 s.2.2.1) ∧ w'.cell? ⟨w4.heap.size, 3, none⟩ = some (.slice (some ⟨xm, 0, none⟩) mn mn) ∧ w'.cell? ⟨w4.heap.size, 4, none⟩ = some (.slice (some ⟨xh, 0, none⟩) hn hn) ∧ w'.cell? ⟨w.heap.size, 0, none⟩ = some (.int .i64 s.1) ∧ w'.cell? ⟨w.heap.size, 1, none⟩ = some (.slice la ln lc) ∧ w'.cell? ⟨w.heap.size, 2, none⟩ = some (.int .i64 s.2.2.1) ∧ w'.cell? ⟨w.heap.size, 3, none⟩ = some (.slice ma mn mc) ∧ w'.cell? ⟨w.heap.size, 4, none⟩ = some (.slice ha hn hc))) (first | (exact keep10 hb8 (by assumption)) | (exact keep10 hb7 (by assumption)) | (go_keep)) (first | (go_at_call 11; have h9 := hb7; refine (eqShardT _ _ _ _ _ _ _ _ _ _ _ _ _ _ _ _ _ _ s _ (hX6.below (hdr.trans (hb7.mono hdr.size))).own.see HO7.out.see).mono ?_; rintro e w8 ⟨rfl, hb8⟩) | (go_at_call 10; refine (HTO.out _ hB6d).mono ?_; rintro e w7 ⟨yl, ym, yh, F3, rfl, hO7, hF3, hb7⟩; have HO7 := Hid.mk' hO7))
  have hB7 := hB6d.trans (hb7.mono hB6d.size)
  have hB8 := hB7.trans (hb8.mono hB7.size)
  clear a0 a1 a2 a3 a4 d0 d1 d2 d3 d4
  go_wp2_with fail
  go_ret
  exact ⟨rfl, hB8⟩

abbrev laidS : List (String × DataW Unit) := [("loop.example/g00244/impl.errForm", Rows.laid_loop_example_g00244_impl_errForm), ("loop.example/g00244/impl.errHeld", Rows.laid_loop_example_g00244_impl_errHeld), ("loop.example/g00244/impl.errDone", Rows.laid_loop_example_g00244_impl_errDone), ("loop.example/g00244/impl.errGone", Rows.laid_loop_example_g00244_impl_errGone), ("loop.example/g00244/impl.errNone", Rows.laid_loop_example_g00244_impl_errNone)]
abbrev lst : List (String × Nat × List UInt8) := [("loop.example/g00244/impl.errForm", 3, [110, 111, 116, 32, 97, 115, 32, 105, 116, 32, 109, 117, 115, 116, 32, 98, 101]), ("loop.example/g00244/impl.errHeld", 0, [104, 101, 108, 100, 32, 97, 108, 114, 101, 97, 100, 121]), ("loop.example/g00244/impl.errDone", 1, [100, 111, 110, 101, 32, 97, 108, 114, 101, 97, 100, 121]), ("loop.example/g00244/impl.errGone", 2, [103, 111, 110, 101, 32, 97, 108, 114, 101, 97, 100, 121]), ("loop.example/g00244/impl.errNone", 4, [110, 111, 32, 114, 101, 99, 111, 114, 100, 32, 104, 97, 115, 32, 105, 116])]
theorem known {W : World} (h : laidMetH Tryd.prog laidS W) : ∃ A, sent.KS (lst.map fun x => x.2.1) A W := by
  rw [MakeChecks.laidMetH_plain _ _ _ (by kernel_rfl)] at h
  refine sent.ks_of_laid lst h (fun x hx => ?_) (by decide) (by decide)
  have hm : ([("loop.example/g00244/impl.errForm", 3, [110, 111, 116, 32, 97, 115, 32, 105, 116, 32, 109, 117, 115, 116, 32, 98, 101]), ("loop.example/g00244/impl.errHeld", 0, [104, 101, 108, 100, 32, 97, 108, 114, 101, 97, 100, 121]), ("loop.example/g00244/impl.errDone", 1, [100, 111, 110, 101, 32, 97, 108, 114, 101, 97, 100, 121]), ("loop.example/g00244/impl.errGone", 2, [103, 111, 110, 101, 32, 97, 108, 114, 101, 97, 100, 121]), ("loop.example/g00244/impl.errNone", 4, [110, 111, 32, 114, 101, 99, 111, 114, 100, 32, 104, 97, 115, 32, 105, 116])] : List (String × Nat × List UInt8)).all (fun x => decide (Tryd.prog.globalNamed x.1 = some x.2.1) && decide ((Tryd.prog.globals[x.2.1]?).map (·.type) = some 48)) = true := by kernel_rfl
  have := List.all_eq_true.1 hm x hx
  simp only [Bool.and_eq_true, decide_eq_true_iff] at this
  exact this
theorem own : ownKnob Tryd.prog.godebug = none := by kernel_rfl
theorem laidOut : laidOutB Tryd.prog = true := by kernel_rfl
set_option maxRecDepth 100000 in
theorem lifted (os : Os) (started : os.Started) (H : Type) (enc : TypeId × Value → H) :
    ReturnsInHanded {} Tryd.checked os 4 .any (fun w args => (Rows.fnExactOutcomeSpec.pre enc Tryd.prog Tryd.f4 [] false w args ∧ laidMetH Tryd.prog laidS w) ∧ sizedMet enc Tryd.prog Tryd.f4 (OpenSpec.ofChange Rows.fnExactOutcomeSpec) false w args)
      (Rows.fnExactOutcomeSpec.post enc Tryd.prog Tryd.f4 false true false false) := by
  refine returnsInHanded_of_change_and (C := Tryd.checked) (X := fun w _ => laidMetH Tryd.prog laidS w) (fun _ _ _ hh h => h.of_heap hh) own started (by kernel_rfl) Tryd.func4
    (ChangeSpec.witness_shaped (enc := enc) (C := Tryd.checked) (os := os) (X := fun w _ => laidMetH Tryd.prog laidS w) false (World.laidAll Tryd.prog os laidS) #[.agg #[.int .i64 0, .slice none 0 0, .int .i64 0, .slice none 0 0, .slice none 0 0], .int .i64 0] 70 (World.laidAll_os _ _ _) (World.shaped_of_ZipB (by kernel_rfl) (by kernel_rfl)) (by kernel_rfl) (by kernel_rfl) (by kernel_rfl)
      (by rw [MakeChecks.laidMetH_plain _ _ _ (by kernel_rfl)]; exact laidMet_laidAll _ (by kernel_rfl) (by kernel_rfl))) ?_
  intro W base args ds gs before hval0 hW _ _ hL _
  have hval : ∀ (j : Nat) t v, Tryd.f4.params[j]? = some t → args[j]? = some v → Value.okWide Tryd.prog W .any base t v := hval0
  have hW' := hW
  obtain ⟨p, q, hA0, hV, rfl, hfz, hnd⟩ := hW
  have hA : DataW.TrodAll enc Tryd.prog W 0 (fun _ => true) true Tryd.f4.params.toList args.toList ds p := hA0
  rw [Tryd.params4] at hA hval
  obtain ⟨v0, vs0, d0, ds0, p0, q0, hargs, rfl, rfl, h0, r0⟩ := trodAll_cons hA
  obtain ⟨v1, vs1, d1, ds1, p1, q1, rfl, rfl, rfl, h1, r1⟩ := trodAll_cons r0
  obtain ⟨rfl, rfl, rfl⟩ := trodAll_nil r1
  obtain rfl : args = #[v0, v1] := by cases args; simp_all
  obtain ⟨gv0, gv1, gv2, gv3, gv4, rfl⟩ : ∃ gv0 gv1 gv2 gv3 gv4, gs = [gv0, gv1, gv2, gv3, gv4] := by
    have hl := sent.vars_len _ _ _ hV
    match gs, hl with
    | [gv0, gv1, gv2, gv3, gv4], _ => exact ⟨gv0, gv1, gv2, gv3, gv4, rfl⟩
  have k0 := h0
  have lt0 : ∀ x ∈ p0, x.block < W.heap.size := by obtain ⟨m, hm⟩ := k0; exact DataW.trod_lt m _ _ _ hm
  obtain ⟨la0, ln0, lc0, ma0, mn0, mc0, ha0, hn0, hc0, b0, rfl, w0⟩ : ∃ (la : Option Addr) (ln lc : Nat) (ma : Option Addr) (mn mc : Nat) (ha : Option Addr) (hn hc : Nat) (s : recs.Shd), v0 = .agg #[.int .i64 s.1, .slice la ln lc, .int .i64 s.2.2.1, .slice ma mn mc, .slice ha hn hc] ∧ lay.SeeSh W la ln lc ma mn mc ha hn hc s := by obtain ⟨fuel, hf⟩ := h0; exact recs.shard_arg 36 _ _ _ _ _ Tryd.underlying36 (by kernel_rfl) rfl rfl rfl rfl rfl rfl rfl rfl rfl rfl (by kernel_rfl) (by kernel_rfl) (by kernel_rfl) (fun hq => recs.slr_arg 33 77 _ _ _ Tryd.underlying33 Tryd.underlying77 (by kernel_rfl) rfl rfl rfl rfl rfl rfl (by kernel_rfl) (by kernel_rfl) _ _ _ Tryd.underlying139 (by kernel_rfl) rfl rfl rfl rfl rfl rfl (by kernel_rfl) hq) (fun hq => slp_arg 34 79 _ _ Tryd.underlying34 Tryd.underlying79 (by kernel_rfl) rfl rfl rfl rfl (by kernel_rfl) hq) (hval 0 36 v0 rfl rfl) hf
  obtain ⟨a1, rfl, rfl, rfl, w1⟩ := open_int Tryd.underlying3 (hval 1 3 v1 rfl rfl) h1
  clear hA0 hval0
  obtain ⟨A, hKS⟩ := known hL
  refine (walk _ A la0 ln0 lc0 ma0 mn0 mc0 ha0 hn0 hc0 b0 a1 W w0 w1 hKS).mono fun e W' ⟨he, bel⟩ => ?_
  subst he
  exact ⟨_, rfl, _, _, _, [], _, _, hW', trodAll_mk1 (shut_bool Tryd.underlying4 _), (trodAll_cons_mk (Below.trod laidOut (by kernel_rfl) (of_decide_eq_true (by kernel_rfl)) k0 bel lt0) (trodAll_cons_mk (shut_int Tryd.underlying3 w1) trodAll_mk0)), bel.trodVars laidOut (by kernel_rfl) hV, bel.frame _, fun h => by cases h⟩

theorem over : Rows.fnExactOutcomeRow.holds Tryd.pinned (OpenSpec.ofChange Rows.fnExactOutcomeSpec) :=
  OpenClaim.holds_of_wide 4 Tryd.f4 rfl rfl rfl rfl rfl rfl rfl ⟨rfl, rfl, rfl, rfl, rfl⟩ rfl rfl rfl rfl rfl (by kernel_rfl) Tryd.func4 (by kernel_rfl)
    (of_decide_eq_true (by kernel_rfl)) (by unfold Func.isWrapper; first | (rw [if_pos (by decide +kernel)]; kernel_rfl) | (rw [if_neg (by decide +kernel)]; exact ⟨rfl, rfl⟩))
    (fun os started H enc _ => lifted os started H enc)

theorem proved : Rows.FnExactOutcomeCardSaid :=
  Claim7.holds_tied_plain_at .later [] [.sentinel, .sentinel, .sentinel, .sentinel, .sentinel] true (true, "77d0216db22305f7b9e221ebaa707284b838b1560c25aac78e004913c1ba4e6b") true
    over (fun _ h => by cases h) (by kernel_rfl) (fun _ h => by cases h) fnExactOutcome_row_tie rfl ⟨rfl, rfl⟩ (by kernel_rfl) rfl
    (fun f fn hf hfn => by
      obtain rfl : f = 4 := Option.some.inj ((show Tryd.prog.funcNamed "loop.example/g00244/laws.FnExactOutcome" = some 4 by kernel_rfl).symm.trans hf) |>.symm
      obtain rfl : fn = Tryd.f4 := (Option.some.inj (Tryd.func4.symm.trans hfn)).symm
      exact ⟨by kernel_rfl, fun j t ht => by
        rw [Tryd.params4] at ht
        have hm : t ∈ [36, 3] := by simpa using Array.mem_of_getElem? ht
        have hall : ([36, 3].all fun u => !Tryd.prog.wantsStandIn u) = true := by kernel_rfl
        exact (show Tryd.prog.wantsStandIn t = false by simpa using List.all_eq_true.1 hall t hm)⟩)
    (by kernel_rfl)
end Go.Proofs.YtddolmklnifnmaaDoor.fnExactOutcome
