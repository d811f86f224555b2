/- The statement FnOutcomesCardSaid: at every code FnOutcomes answers true, and the code reads afterwards as before. No condition besides the row's own: the program's named errors lie as its text lays them. -/
import Derived.Test.YtddolmklnifnmaaDoorRows
import Derived.Test.YtddolmklnifnmaaDoorCards
import Derived.Test.YtddolmklnifnmaaDoorTie
import Derived.Test.YtddolmklnifnmaaDoorBund9be
import Derived.Test.YtddolmklnifnmaaDoorBund9bi
import Derived.Test.YtddolmklnifnmaaDoorBund9bg
import Derived.Test.YtddolmklnifnmaaDoorBund9bj
import Derived.ProofKit
import Derived.OpenShut
import Derived.ShutString
import Derived.ChangeOld
import Derived.Below
import Derived.ChangeVars
import Derived.OpenVars
import Derived.LaidMore
import Derived.Lay
import Derived.LaidOnce
import Derived.SevenTiedAt
namespace Go.Proofs.YtddolmklnifnmaaDoor.fnOutcomes
open Go.ChangeShapes Go.WideShapes Go.ChangeAt Go.RowKit
open Go.ChangeMaps (open_string shut_string)
set_option linter.unusedVariables false
open Go.Proofs.YtddolmklnifnmaaDoor.base Go.Proofs.YtddolmklnifnmaaDoor.pairs Go.Proofs.YtddolmklnifnmaaDoor.ords Go.Proofs.YtddolmklnifnmaaDoor.help Go.Proofs.YtddolmklnifnmaaDoor.helps Go.Proofs.YtddolmklnifnmaaDoor.recs Go.Proofs.YtddolmklnifnmaaDoor.lay Go.Proofs.YtddolmklnifnmaaDoor.draw

set_option maxRecDepth 100000 in
set_option maxHeartbeats 8000000 in
theorem walk (G : List Nat) (A : Nat → Addr) (a0 : Option Addr) (len0 cap0 : Nat) (b0 : List UInt8) (w : World) (w0 : Sl w a0 len0 b0) (hK : sent.KS G A w) :
    Calls Tryd.prog 3 #[.slice a0 len0 cap0] w fun e w' => e = .returned (.bool true) ∧ Below w.heap.size w w' := by
  have hm := w0.2.1
  have hb := big_ a0 len0 cap0 w hm
  by_cases hbig : 1048576 < len0
  · rw [decide_eq_true (by omega)] at hb
    have HB := Hid.mk' hb
    clear hb
    go_enter Tryd.func3, Tryd.ntmps3
    go_wp2_with fail
    refine HB.out.mono ?_
    rintro e w1 ⟨rfl, rfl⟩
    go_wp2_with fail
    go_ret
    exact ⟨rfl, Below.refl _ _⟩
  rw [decide_eq_false (by omega)] at hb
  have HB := Hid.mk' (hb.mono (fun e w' (hp : e = .returned (.bool false) ∧ w' = w) => (⟨hp.1, hp.2.symm⟩ : e = .returned (.bool false) ∧ w = w')))
  have HDR := Hid.mk' (drawShard a0 len0 cap0 b0 w w0 (by omega))
  clear hb
  go_enter Tryd.func3, Tryd.ntmps3
  go_wp2_with fail
  refine HB.out.mono ?_
  rintro e w1 ⟨rfl, rfl⟩
  go_wp2_with fail
  refine HDR.out.mono ?_
  rintro e w2 ⟨la, ln, lc, ma, mn, mc, ha, hn, hc, s, F, hD, rfl, hOS, hF, hb2⟩
  clear HB HDR
  have hR := hD.right
  have hbd := right_bd hR
  obtain ⟨W, hW⟩ : ∃ W, w2.alloc (boxSh s.1 s.2.2.1 la ln lc ma mn mc ha hn hc) = W := ⟨_, rfl⟩
  have hbW : Below w2.heap.size w2 W := by rw [← hW]; exact below_two
  have hbx := inBox_new hOS
  rw [hW] at hbx
  have hBW := hb2.trans (hbW.mono hb2.size)
  have hKW := hK.below hBW
  have hok : shardOk s = true := (shardOk_iff s).2 hR
  have HCL := Hid.mk' (fun wx (hx : Below W.heap.size W wx) => (hbx.below hx).cells)
  have HOU : Hid (∀ (tx : Int) wx, Below W.heap.size W wx → Calls Tryd.prog 7 #[.agg #[.int .i64 s.1, .slice la ln lc, .int .i64 s.2.2.1, .slice ma mn mc, .slice ha hn hc], .int .i64 tx] wx fun e w' => e = .returned (.int .i64 (outc s tx)) ∧ Below wx.heap.size wx w') := fun tx wx hx => by
    have h1 := impl_outcome G A la ln lc ma mn mc ha hn hc s tx wx (hbx.below hx).own.see (recs.OwnSh.plainV (hbx.below hx).own).1 hbd (hKW.below hx)
    have h2 : outcR s tx = outc s tx := by unfold outcR; rw [hok, if_pos rfl]
    rw [h2] at h1
    exact h1
  have HLG := Hid.mk' (fun wx (hx : Below W.heap.size W wx) => (hbx.below hx).own.see.log)
  have HHD := Hid.mk' (fun wx (hx : Below W.heap.size W wx) => (hbx.below hx).own.see.held)
  have hlog := hbx.own.see.log
  have hheld := hbx.own.see.held
  obtain ⟨hll, hlm, _, hlc⟩ := id hlog
  obtain ⟨hhl, hhm, _, hhc⟩ := id hheld
  unfold maxLen at hlm hhm
  have HLL := Hid.mk' hll
  have HHL := Hid.mk' hhl
  have HIN : Hid (∀ r ∈ s.2.2.2.2, outc s r.2.1 = 1) := fun r hr => outc_in hR hr
  have HEN : Hid (∀ r ∈ s.2.1, (r.1 = 2 → outc s r.2.1 = 3) ∧ (r.1 = 3 → outc s r.2.1 = 4)) := fun r hr => outc_end hR hr
  have HOT : Hid (outc s 777777 = 2) := outc_out hR fun r hr e => by have := hD.txs r hr; omega
  have HW := Hid.mk' hW
  obtain ⟨x0, x1, x2, x3, x4⟩ := HCL.out W (Below.refl _ _)
  rw [← hW] at x0 x1 x2 x3 x4
  clear hW hOS hF hD hm hR hbd hok hbx hlog hheld hll hhl hKW hK
  go_wp2_with fail
  rw [HW.out]
  clear x0 x1 x2 x3 x4 HW
  go_loopw [4] (fun i wr => ∃ k : Nat, k ≤ hn ∧ i = .int .i64 (k : Int) ∧ Below W.heap.size W wr) (fun i _ => hn - (intOf i).toNat)
  case atStart => exact ⟨0, Nat.zero_le _, rfl, Below.refl _ _⟩
  case round =>
    obtain ⟨k, hk, rfl, hbr⟩ := hrel
    obtain ⟨x0, x1, x2, x3, x4⟩ := HCL.out wr hbr
    by_cases hlt : k < hn
    · have hltl : k < s.2.2.2.2.length := by have := HHL.out; omega
      obtain ⟨b, off, e, _⟩ := hhc (by omega)
      subst e
      have hki : (k : Int) < (hn : Int) := by omega
      have hd : Below wr.heap.size wr wr.drew := (Below.refl _ _).drew
      have hbd := hbr.trans (hd.mono hbr.size)
      have HAT := Hid.mk' (fun wx (hx : Below W.heap.size W wx) => ((HHD.out wx hx).at k hltl).2.1)
      have HTX := Hid.mk' (HIN.out _ (List.getElem_mem hltl))
      generalize s.2.2.2.2[k] = r at *
      obtain ⟨r1, r2, r3⟩ := r
      simp only [] at HAT HTX
      have HO2 : Hid (∀ wx, Below W.heap.size W wx → Calls Tryd.prog 7 #[.agg #[.int .i64 s.1, .slice la ln lc, .int .i64 s.2.2.1, .slice ma mn mc, .slice (some ⟨b, off, none⟩) hn hc], .int .i64 r2] wx fun e w' => e = .returned (.int .i64 1) ∧ Below wx.heap.size wx w') := fun wx hx => by
        have := HOU.out r2 wx hx
        rwa [HTX.out] at this
      have hat := HAT.out wr hbr
      go_wp2_with fail
      go_region_held3 (fun w' => w'.cell? ⟨w2.heap.size, 0, none⟩ = some (.int .i64 s.1) ∧ w'.cell? ⟨w2.heap.size, 1, none⟩ = some (.slice la ln lc) ∧ w'.cell? ⟨w2.heap.size, 2, none⟩ = some (.int .i64 s.2.2.1) ∧ w'.cell? ⟨w2.heap.size, 3, none⟩ = some (.slice ma mn mc) ∧ w'.cell? ⟨w2.heap.size, 4, none⟩ = some (.slice (some ⟨b, off, none⟩) hn hc) ∧ w'.cell? ⟨b, off + k * 3 + 1, none⟩ = some (.int .i64 r2)) (first | (with_reducible exact ⟨(HCL.out _ h9).1, (HCL.out _ h9).2.1, (HCL.out _ h9).2.2.1, (HCL.out _ h9).2.2.2.1, (HCL.out _ h9).2.2.2.2, HAT.out _ h9⟩) | (with_reducible exact ⟨(HCL.out _ hbd).1, (HCL.out _ hbd).2.1, (HCL.out _ hbd).2.2.1, (HCL.out _ hbd).2.2.2.1, (HCL.out _ hbd).2.2.2.2, HAT.out _ hbd⟩) | fail "keepH") (first | (go_at_call 7; (with_reducible refine (HO2.out _ hbd).mono ?_); rintro e w9 ⟨rfl, hb9⟩; have h9 := hbd.trans (hb9.mono hbd.size)) | fail "armH")
      have hbz := h9
      clear x0 x1 x2 x3 x4 hat
      go_wp2_with fail
      go_roundw
      case rel => exact ⟨k + 1, by omega, by go_num, hbz⟩
      case measure => simp [intOf]; omega
    · have hnk : ¬ (k : Int) < (hn : Int) := by omega
      go_wp2_with fail
      clear x0 x1 x2 x3 x4
      go_loopw [5] (fun i wr => ∃ k : Nat, k ≤ ln ∧ i = .int .i64 (k : Int) ∧ Below W.heap.size W wr) (fun i _ => ln - (intOf i).toNat)
      case atStart => exact ⟨0, Nat.zero_le _, rfl, hbr⟩
      case round =>
        clear hbr hnk hk
        obtain ⟨j, hj, rfl, hbr⟩ := hrel
        obtain ⟨x0, x1, x2, x3, x4⟩ := HCL.out wr hbr
        by_cases hlt : j < ln
        · have hltl : j < s.2.1.length := by have := HLL.out; omega
          obtain ⟨b, off, e, _⟩ := hlc (by omega)
          subst e
          have hki : (j : Int) < (ln : Int) := by omega
          have hd : Below wr.heap.size wr wr.drew := (Below.refl _ _).drew
          have hbd := hbr.trans (hd.mono hbr.size)
          have HAT := Hid.mk' (fun wx (hx : Below W.heap.size W wx) => ((HLG.out wx hx).at j hltl).2.1)
          have HAK := Hid.mk' (fun wx (hx : Below W.heap.size W wx) => ((HLG.out wx hx).at j hltl).1)
          have HTX := Hid.mk' (HEN.out _ (List.getElem_mem hltl))
          generalize s.2.1[j] = r at *
          obtain ⟨r1, r2, r3⟩ := r
          simp only [] at HAT HTX HAK
          have HO2 := Hid.mk' (fun wx (hx : Below W.heap.size W wx) => HOU.out r2 wx hx)
          generalize outc s r2 = oo at *
          have hat := HAT.out wr hbr
          go_wp2_with fail
          go_region_held3 (fun w' => w'.cell? ⟨w2.heap.size, 0, none⟩ = some (.int .i64 s.1) ∧ w'.cell? ⟨w2.heap.size, 1, none⟩ = some (.slice (some ⟨b, off, none⟩) ln lc) ∧ w'.cell? ⟨w2.heap.size, 2, none⟩ = some (.int .i64 s.2.2.1) ∧ w'.cell? ⟨w2.heap.size, 3, none⟩ = some (.slice ma mn mc) ∧ w'.cell? ⟨w2.heap.size, 4, none⟩ = some (.slice ha hn hc) ∧ w'.cell? ⟨b, off + j * 3 + 1, none⟩ = some (.int .i64 r2)) (first | (with_reducible exact ⟨(HCL.out _ h9).1, (HCL.out _ h9).2.1, (HCL.out _ h9).2.2.1, (HCL.out _ h9).2.2.2.1, (HCL.out _ h9).2.2.2.2, HAT.out _ h9⟩) | (with_reducible exact ⟨(HCL.out _ hbd).1, (HCL.out _ hbd).2.1, (HCL.out _ hbd).2.2.1, (HCL.out _ hbd).2.2.2.1, (HCL.out _ hbd).2.2.2.2, HAT.out _ hbd⟩) | fail "keepL") (first | (go_at_call 7; (with_reducible refine (HO2.out _ hbd).mono ?_); rintro e w9 ⟨rfl, hb9⟩; have h9 := hbd.trans (hb9.mono hbd.size)) | fail "armL")
          have hbz := h9
          clear x0 x1 x2 x3 x4 hat
          obtain ⟨x0, x1, x2, x3, x4⟩ := HCL.out w9 h9
          have hak := HAK.out w9 h9
          by_cases e2 : r1 = 2
          · have f1 : oo = 3 := HTX.out.1 e2
            subst e2 f1
            clear HTX HO2
            go_wp2_with fail
            go_roundw
            case rel => exact ⟨j + 1, by omega, by go_num, hbz⟩
            case measure => simp [intOf]; omega
          · by_cases e3 : r1 = 3
            · have f1 : oo = 4 := HTX.out.2 e3
              subst e3 f1
              clear HTX HO2 e2
              go_wp2_with fail
              go_roundw
              case rel => exact ⟨j + 1, by omega, by go_num, hbz⟩
              case measure => simp [intOf]; omega
            · have g2 : (r1 == 2) = false := beq_eq_false_iff_ne.2 e2
              have g3 : (r1 == 3) = false := beq_eq_false_iff_ne.2 e3
              clear HTX HO2
              go_wp2_with fail
              go_roundw
              case rel => exact ⟨j + 1, by omega, by go_num, hbz⟩
              case measure => simp [intOf]; omega
        · have hnk : ¬ (j : Int) < (ln : Int) := by omega
          have HO7 := Hid.mk' (HOU.out 777777 wr hbr)
          rw [HOT.out] at HO7
          go_wp2_with fail
          refine HO7.out.mono ?_
          rintro e w9 ⟨rfl, hb9⟩
          have h9 := hbr.trans (hb9.mono hbr.size)
          have hBz := hBW.trans (h9.mono hBW.size)
          clear x0 x1 x2 x3 x4
          go_wp2_with fail
          go_ret
          exact ⟨rfl, hBz⟩

abbrev laidS : List (String × DataW Unit) := [("loop.example/g00244/impl.errForm", Rows.laid_loop_example_g00244_impl_errForm), ("loop.example/g00244/impl.errHeld", Rows.laid_loop_example_g00244_impl_errHeld), ("loop.example/g00244/impl.errDone", Rows.laid_loop_example_g00244_impl_errDone), ("loop.example/g00244/impl.errGone", Rows.laid_loop_example_g00244_impl_errGone), ("loop.example/g00244/impl.errNone", Rows.laid_loop_example_g00244_impl_errNone)]
abbrev lst : List (String × Nat × List UInt8) := [("loop.example/g00244/impl.errForm", 3, [110, 111, 116, 32, 97, 115, 32, 105, 116, 32, 109, 117, 115, 116, 32, 98, 101]), ("loop.example/g00244/impl.errHeld", 0, [104, 101, 108, 100, 32, 97, 108, 114, 101, 97, 100, 121]), ("loop.example/g00244/impl.errDone", 1, [100, 111, 110, 101, 32, 97, 108, 114, 101, 97, 100, 121]), ("loop.example/g00244/impl.errGone", 2, [103, 111, 110, 101, 32, 97, 108, 114, 101, 97, 100, 121]), ("loop.example/g00244/impl.errNone", 4, [110, 111, 32, 114, 101, 99, 111, 114, 100, 32, 104, 97, 115, 32, 105, 116])]
theorem known {W : World} (h : laidMetH Tryd.prog laidS W) : ∃ A, sent.KS (lst.map fun x => x.2.1) A W := by
  rw [MakeChecks.laidMetH_plain _ _ _ (by kernel_rfl)] at h
  refine sent.ks_of_laid lst h (fun x hx => ?_) (by decide) (by decide)
  have hm : ([("loop.example/g00244/impl.errForm", 3, [110, 111, 116, 32, 97, 115, 32, 105, 116, 32, 109, 117, 115, 116, 32, 98, 101]), ("loop.example/g00244/impl.errHeld", 0, [104, 101, 108, 100, 32, 97, 108, 114, 101, 97, 100, 121]), ("loop.example/g00244/impl.errDone", 1, [100, 111, 110, 101, 32, 97, 108, 114, 101, 97, 100, 121]), ("loop.example/g00244/impl.errGone", 2, [103, 111, 110, 101, 32, 97, 108, 114, 101, 97, 100, 121]), ("loop.example/g00244/impl.errNone", 4, [110, 111, 32, 114, 101, 99, 111, 114, 100, 32, 104, 97, 115, 32, 105, 116])] : List (String × Nat × List UInt8)).all (fun x => decide (Tryd.prog.globalNamed x.1 = some x.2.1) && decide ((Tryd.prog.globals[x.2.1]?).map (·.type) = some 48)) = true := by kernel_rfl
  have := List.all_eq_true.1 hm x hx
  simp only [Bool.and_eq_true, decide_eq_true_iff] at this
  exact this
theorem own : ownKnob Tryd.prog.godebug = none := by kernel_rfl
theorem laidOut : laidOutB Tryd.prog = true := by kernel_rfl
set_option maxRecDepth 100000 in
theorem lifted (os : Os) (started : os.Started) (H : Type) (enc : TypeId × Value → H) :
    ReturnsInHanded {} Tryd.checked os 3 .any (fun w args => (Rows.fnOutcomesSpec.pre enc Tryd.prog Tryd.f3 [] false w args ∧ laidMetH Tryd.prog laidS w) ∧ sizedMet enc Tryd.prog Tryd.f3 (OpenSpec.ofChange Rows.fnOutcomesSpec) false w args)
      (Rows.fnOutcomesSpec.post enc Tryd.prog Tryd.f3 false true false false) := by
  refine returnsInHanded_of_change_and (C := Tryd.checked) (X := fun w _ => laidMetH Tryd.prog laidS w) (fun _ _ _ hh h => h.of_heap hh) own started (by kernel_rfl) Tryd.func3
    (ChangeSpec.witness_shaped (enc := enc) (C := Tryd.checked) (os := os) (X := fun w _ => laidMetH Tryd.prog laidS w) false (World.laidAll Tryd.prog os laidS) #[.slice none 0 0] 70 (World.laidAll_os _ _ _) (World.shaped_of_ZipB (by kernel_rfl) (by kernel_rfl)) (by kernel_rfl) (by kernel_rfl) (by kernel_rfl)
      (by rw [MakeChecks.laidMetH_plain _ _ _ (by kernel_rfl)]; exact laidMet_laidAll _ (by kernel_rfl) (by kernel_rfl))) ?_
  intro W base args ds gs before hval0 hW _ _ hL _
  have hval : ∀ (j : Nat) t v, Tryd.f3.params[j]? = some t → args[j]? = some v → Value.okWide Tryd.prog W .any base t v := hval0
  have hW' := hW
  obtain ⟨p, q, hA0, hV, rfl, hfz, hnd⟩ := hW
  have hA : DataW.TrodAll enc Tryd.prog W 0 (fun _ => true) true Tryd.f3.params.toList args.toList ds p := hA0
  rw [Tryd.params3] at hA hval
  obtain ⟨v0, vs0, d0, ds0, p0, q0, hargs, rfl, rfl, h0, r0⟩ := trodAll_cons hA
  obtain ⟨rfl, rfl, rfl⟩ := trodAll_nil r0
  obtain rfl : args = #[v0] := by cases args; simp_all
  obtain ⟨gv0, gv1, gv2, gv3, gv4, rfl⟩ : ∃ gv0 gv1 gv2 gv3 gv4, gs = [gv0, gv1, gv2, gv3, gv4] := by
    have hl := sent.vars_len _ _ _ hV
    match gs, hl with
    | [gv0, gv1, gv2, gv3, gv4], _ => exact ⟨gv0, gv1, gv2, gv3, gv4, rfl⟩
  obtain ⟨a0, len0, cap0, rfl⟩ := okWide_slice Tryd.underlying22 (hval 0 22 v0 rfl rfl)
  have k0 := h0
  have lt0 : ∀ x ∈ p0, x.block < W.heap.size := by obtain ⟨m, hm⟩ := k0; exact DataW.trod_lt m _ _ _ hm
  obtain ⟨b0, w0⟩ : ∃ bs, Sl W a0 len0 bs := by
    obtain ⟨fuel, hf⟩ := h0
    rcases open_ints Tryd.underlying22 Tryd.underlying5 (by kernel_rfl) hf with ⟨hcs, _⟩ | ⟨x, l, c, zs, hcs, _, hl, hm, hz, _, hcell, hwz⟩
    · simp [Value.cells] at hcs
      obtain ⟨rfl, rfl, rfl⟩ := hcs
      exact ⟨[], sl_nil _ _⟩
    · simp [Value.cells] at hcs
      obtain ⟨rfl, rfl, rfl⟩ := hcs
      exact ⟨_, sl_of_ints hl hm (by simpa using hz) hcell hwz⟩
  clear hA0 hval0
  obtain ⟨A, hKS⟩ := known hL
  refine (walk _ A a0 len0 cap0 b0 W w0 hKS).mono fun e W' ⟨he, bel⟩ => ?_
  subst he
  exact ⟨_, rfl, _, _, _, [], _, _, hW', trodAll_mk1 (shut_bool Tryd.underlying4 _), (trodAll_cons_mk (Below.trod laidOut (by kernel_rfl) (of_decide_eq_true (by kernel_rfl)) k0 bel lt0) trodAll_mk0), bel.trodVars laidOut (by kernel_rfl) hV, bel.frame _, fun h => by cases h⟩

theorem over : Rows.fnOutcomesRow.holds Tryd.pinned (OpenSpec.ofChange Rows.fnOutcomesSpec) :=
  OpenClaim.holds_of_wide 3 Tryd.f3 rfl rfl rfl rfl rfl rfl rfl ⟨rfl, rfl, rfl, rfl, rfl⟩ rfl rfl rfl rfl rfl (by kernel_rfl) Tryd.func3 (by kernel_rfl)
    (of_decide_eq_true (by kernel_rfl)) (by unfold Func.isWrapper; first | (rw [if_pos (by decide +kernel)]; kernel_rfl) | (rw [if_neg (by decide +kernel)]; exact ⟨rfl, rfl⟩))
    (fun os started H enc _ => lifted os started H enc)

theorem proved : Rows.FnOutcomesCardSaid :=
  Claim7.holds_tied_plain_at .later [] [.sentinel, .sentinel, .sentinel, .sentinel, .sentinel] true (true, "77d0216db22305f7b9e221ebaa707284b838b1560c25aac78e004913c1ba4e6b") true
    over (fun _ h => by cases h) (by kernel_rfl) (fun _ h => by cases h) fnOutcomes_row_tie rfl ⟨rfl, rfl⟩ (by kernel_rfl) rfl
    (fun f fn hf hfn => by
      obtain rfl : f = 3 := Option.some.inj ((show Tryd.prog.funcNamed "loop.example/g00244/laws.FnOutcomes" = some 3 by kernel_rfl).symm.trans hf) |>.symm
      obtain rfl : fn = Tryd.f3 := (Option.some.inj (Tryd.func3.symm.trans hfn)).symm
      exact ⟨by kernel_rfl, fun j t ht => by
        rw [Tryd.params3] at ht
        have hm : t ∈ [22] := by simpa using Array.mem_of_getElem? ht
        have hall : ([22].all fun u => !Tryd.prog.wantsStandIn u) = true := by kernel_rfl
        exact (show Tryd.prog.wantsStandIn t = false by simpa using List.all_eq_true.1 hall t hm)⟩)
    (by kernel_rfl)
end Go.Proofs.YtddolmklnifnmaaDoor.fnOutcomes
