/- The statement FnShardsSaid: at every slice of bytes FnShards answers true, and the slice reads afterwards as before. No condition besides the row's own. -/
import Derived.Test.YteiokccimlcmpaaRows
import Derived.Test.YteiokccimlcmpaaBig
import Derived.Test.YteiokccimlcmpaaDrawU
import Derived.Test.YteiokccimlcmpaaDrawY
import Derived.Test.YteiokccimlcmpaaOrdL
import Derived.ProofKit
import Derived.OpenShut
import Derived.ShutString
import Derived.ChangeOld
import Derived.Below
namespace Go.Proofs.Yteiokccimlcmpaa.fnShards
open Go.ChangeShapes Go.WideShapes Go.ChangeAt Go.RowKit
open Go.ChangeMaps (open_string shut_string)
set_option linter.unusedVariables false
open Go.Proofs.Yteiokccimlcmpaa.base Go.Proofs.Yteiokccimlcmpaa.pairs Go.Proofs.Yteiokccimlcmpaa.ords

theorem sum_take_le (f : Int → Nat) (S : List Int) (k : Nat) : ((S.take k).map f).sum ≤ (S.map f).sum := by
  have e : S.map f = (S.take k).map f ++ (S.drop k).map f := by rw [← List.map_append, List.take_append_drop]
  rw [e, List.sum_append]; omega
theorem sum_take_succ (f : Int → Nat) (S : List Int) (k : Nat) (h : k < S.length) : ((S.take (k + 1)).map f).sum = ((S.take k).map f).sum + f S[k] := by
  rw [List.take_succ_eq_append_getElem h, List.map_append, List.sum_append]; simp
theorem asc_prev {S : List Int} (h : Asc S) (k : Nat) (hk : k < S.length) (h0 : 0 < k) : S[k - 1] < S[k] := by
  have h' : S.Pairwise (· < ·) := h
  exact List.pairwise_iff_getElem.1 h' (k - 1) k (by omega) hk (by omega)

set_option maxRecDepth 100000 in
set_option maxHeartbeats 4000000 in
theorem walk (a0 : Option Addr) (len0 cap0 : Nat) (b0 : List UInt8) (w : World) (w0 : Sl w a0 len0 b0) :
    Calls Try.prog 6 #[.slice a0 len0 cap0] w fun e w' => e = .returned (.bool true) ∧ Below w.heap.size w w' := by
  have hm := w0.2.1
  by_cases hbig : 1048576 < len0
  · have hb := big_ a0 len0 cap0 w hm
    rw [decide_eq_true (by omega)] at hb
    have HB := Hid.mk' hb
    clear hb
    go_enter Try.func6, Try.ntmps6
    go_wp2_with fail
    refine HB.out.mono ?_
    rintro e wa ⟨rfl, rfl⟩
    go_wp2_with fail
    go_ret
    exact ⟨rfl, Below.refl _ _⟩
  · have hb := big_ a0 len0 cap0 w hm
    rw [decide_eq_false (by omega)] at hb
    have HB := Hid.mk' hb
    clear hb
    go_enter Try.func6, Try.ntmps6
    go_wp2_with fail
    refine HB.out.mono ?_
    rintro e wa ⟨rfl, hwa⟩
    subst hwa
    clear HB
    go_wp2_with fail
    refine (drawShardsOf a0 len0 cap0 b0 _ w0 (by omega)).mono ?_
    rintro e w1 ⟨g, ln, cp, l, n, hn, htl, hnr, rfl, hL1, hB1⟩
    have hll := hL1.1
    have hks : Hid (∀ p ∈ l, p.2.1.size ≤ 1099511627776) := fun p hp => by have := (htl p hp).2.2.1; omega
    have hwn : (Lit.int .i64 n).wf = true := WalkArith.wf_i64 (by omega)
    subst hll
    have HSH := Hid.mk' (impl_shardsOf g 0 l.length cp l n w1 hL1.sl hks.out (by omega) hwn)
    have hall := shards_all n l
    have hasc := shards_asc n l
    have hpart : ∀ s ∈ shardsOf n l, opsFor s n l ≠ [] ∧ 0 ≤ s ∧ s < 4294967296 ∧ (0 < n → s < n) := by
      intro s hs
      refine ⟨shards_part n l s hs, ?_⟩
      obtain ⟨o, _, e⟩ := (shards_mem n l s).1 hs
      subst e
      exact ⟨(shardOf_range _ n).1, shardOf_lt _ n, (shardOf_range _ n).2⟩
    have hSL := hL1.sl
    generalize shardsOf n l = S at *
    have HA := Hid.mk' hasc
    have HP := Hid.mk' hpart
    have HS := Hid.mk' hall
    clear htl hL1 hasc hpart hall
    go_wp2_with fail
    refine HSH.out.mono ?_
    rintro e w2 ⟨gz, nz, cz, rfl, hZ, hb2⟩
    have hB2 : Below wa.heap.size wa w2 := hB1.trans (hb2.mono hB1.size)
    have hSL2 := hSL.below hb2
    have hnz := hZ.1
    have hZS := hZ.sl
    have hmz := hZ.sl.2.1
    unfold maxLen at hmz
    clear hb2 HSH hSL hZ hB1
    subst hnz
    go_wp2_with fail
    go_loopw [6, 7] (fun av iv wr => ∃ i : Nat, i ≤ S.length ∧ iv = .int .i64 (i : Int) ∧ av = .int .i64 ((((S.take i).map fun s => (opsFor s n l).length).sum : Nat) : Int) ∧ Below w2.heap.size w2 wr) (fun _ iv _ => S.length - (intOf iv).toNat)
    case atStart => exact ⟨0, Nat.zero_le _, rfl, rfl, Below.refl _ _⟩
    case round =>
      obtain ⟨i, hi, rfl, rfl, hB⟩ := hrel
      have hsl := sum_take_le (fun s => (opsFor s n l).length) S i
      rw [HS.out] at hsl
      by_cases hlt : i < S.length
      · have hii : (i : Int) < (S.length : Int) := by omega
        have c1 := (hZS.below hB).cells i hlt
        have c0 : 0 < i → wr.cell? ⟨gz, 0 + (i - 1), none⟩ = some (.int .i64 (S[i - 1]'(by omega))) := fun h0 => (hZS.below hB).cells (i - 1) (by omega)
        have hprev : ∀ h0 : 0 < i, S[i - 1]'(by omega) < S[i] := fun h0 => asc_prev HA.out i hlt h0
        obtain ⟨hne, hs0, hs1, hs2⟩ := HP.out _ (List.getElem_mem hlt)
        have hsum := sum_take_succ (fun s => (opsFor s n l).length) S i hlt
        have HSU := Hid.mk' hsum
        have hws : (Lit.int .i64 S[i]).wf = true := WalkArith.wf_i64 (by omega)
        have HOF := Hid.mk' (impl_opsFor g 0 l.length cp l S[i] n wr (hSL2.below hB) hks.out (by omega) hwn hws)
        have hfl := opsFor_le S[i] n l
        have hpos : 0 < (opsFor S[i] n l).length := List.length_pos_iff.2 hne
        simp only [Nat.zero_add] at c1 c0
        generalize ((S.take i).map fun s => (opsFor s n l).length).sum = A at *
        generalize hF : opsFor S[i] n l = F at *
        clear hF hsum hne
        go_wp2_with fail
        refine HOF.out.mono ?_
        rintro e w3 ⟨gp, np, cpp, rfl, hO3, hb3⟩
        have hB3 := hB.trans (hb3.mono hB.size)
        have hnp := hO3.1
        have hc := bcell hb3
        have hgz : gz < wr.heap.size := World.block_lt_of_cell? wr _ c1
        have d1 : w3.cell? ⟨gz, i, none⟩ = some (.int .i64 S[i]) := (hc gz i hgz).trans c1
        have hnp0 : ((np : Int) == 0) = false := by simp; omega
        have e3 : decide (S[i] < 0) = false := by simp; omega
        have HSU2 : Hid ((((S.take (i + 1)).map fun s => (opsFor s n l).length).sum : Nat) = A + np) := by show _ = _; rw [HSU.out]; omega
        have hnp5 : A + np ≤ 5 := by
          have h1 := sum_take_le (fun s => (opsFor s n l).length) S (i + 1)
          rw [HS.out, HSU2.out] at h1
          omega
        have hgz3 : gz < w3.heap.size := Nat.lt_of_lt_of_le hgz hb3.size
        have hinh := last.On.inh w3.heap.size w3
        have o1 := last.On.cell d1 hgz3
        by_cases h0 : 0 < i
        · have d0 : w3.cell? ⟨gz, i - 1, none⟩ = some (.int .i64 (S[i - 1]'(by omega))) := (hc gz (i - 1) hgz).trans (c0 h0)
          have hlt1 := hprev h0
          obtain ⟨j, hj⟩ : ∃ j, i - 1 = j := ⟨_, rfl⟩
          have hjw : (i : Int) - 1 = (j : Int) := by omega
          have hjk : (j : Int) < (S.length : Int) := by omega
          generalize S[i - 1] = q at *
          rw [hj] at d0
          have o0 := last.On.cell d0 hgz3
          have hk0 : (0 : Int) < (i : Int) := by omega
          have hk1 : decide ((0 : Int) < (i : Int)) = true := by simp; omega
          generalize S[i] = s at *
          have hge : decide (s ≤ q) = false := by simp; omega
          have hge2 : ¬ s ≤ q := by omega
          clear c0 c1 hprev hO3 hb3 hc HOF hj
          by_cases hn0 : 0 < n
          · have hlt2 := hs2 hn0
            have hg3 : ¬ n ≤ s := by omega
            go_wp2_with fail
            refine last.wp_region_on w3.heap.size (by kernel_rfl) (by kernel_rfl) ?_
            repeat (go_big_quiet_step (fail))
            refine wpQuiet_nil ?_
            intro w5 hw5
            obtain ⟨x5, hw5⟩ := hw5
            subst hw5
            have hB5 := hB3.trans (x5.2.mono hB3.size)
            go_wp2_with fail
            go_roundw
            case rel => exact ⟨i + 1, by omega, by go_num, by rw [HSU2.out]; go_num, hB5⟩
            case measure => simp [intOf]; omega
          · have hn1 : decide (0 < n) = false := by simp; omega
            go_wp2_with fail
            refine last.wp_region_on w3.heap.size (by kernel_rfl) (by kernel_rfl) ?_
            repeat (go_big_quiet_step (fail))
            refine wpQuiet_nil ?_
            intro w5 hw5
            obtain ⟨x5, hw5⟩ := hw5
            subst hw5
            have hB5 := hB3.trans (x5.2.mono hB3.size)
            go_wp2_with fail
            go_roundw
            case rel => exact ⟨i + 1, by omega, by go_num, by rw [HSU2.out]; go_num, hB5⟩
            case measure => simp [intOf]; omega
        · have hk0 : ¬ (0 : Int) < (i : Int) := by omega
          have hk1 : decide ((0 : Int) < (i : Int)) = false := by simp; omega
          generalize S[i] = s at *
          clear c0 c1 hprev hO3 hb3 hc HOF
          by_cases hn0 : 0 < n
          · have hlt2 := hs2 hn0
            have hg3 : ¬ n ≤ s := by omega
            go_wp2_with fail
            refine last.wp_region_on w3.heap.size (by kernel_rfl) (by kernel_rfl) ?_
            repeat (go_big_quiet_step (fail))
            refine wpQuiet_nil ?_
            intro w5 hw5
            obtain ⟨x5, hw5⟩ := hw5
            subst hw5
            have hB5 := hB3.trans (x5.2.mono hB3.size)
            go_wp2_with fail
            go_roundw
            case rel => exact ⟨i + 1, by omega, by go_num, by rw [HSU2.out]; go_num, hB5⟩
            case measure => simp [intOf]; omega
          · have hn1 : decide (0 < n) = false := by simp; omega
            go_wp2_with fail
            refine last.wp_region_on w3.heap.size (by kernel_rfl) (by kernel_rfl) ?_
            repeat (go_big_quiet_step (fail))
            refine wpQuiet_nil ?_
            intro w5 hw5
            obtain ⟨x5, hw5⟩ := hw5
            subst hw5
            have hB5 := hB3.trans (x5.2.mono hB3.size)
            go_wp2_with fail
            go_roundw
            case rel => exact ⟨i + 1, by omega, by go_num, by rw [HSU2.out]; go_num, hB5⟩
            case measure => simp [intOf]; omega
      · have HE : Hid (S.take i = S) := List.take_of_length_le (by omega)
        rw [HE.out, HS.out]
        have hBw : Below wa.heap.size wa wr := hB2.trans (hB.mono hB2.size)
        clear hsl hZS hSL2 HP HA
        go_wp2_with fail
        refine (drawShardOf a0 len0 cap0 b0 _ (w0.below hBw) (by omega)).mono ?_
        rintro e w4 ⟨key, m, hkey, hmr, rfl, hb4⟩
        have hwm : (Lit.int .i64 m).wf = true := WalkArith.wf_i64 (by omega)
        have HI := Hid.mk' (impl_shardOf key m w4 (by omega) hwm)
        have HSP : Hid (∀ wx, Calls Try.prog 39 #[.string key, .int .i64 m] wx fun e w' => e = .returned (.int .i64 (shardOf key m)) ∧ w' = wx) := fun wx => spec_shardOf key m wx (by unfold maxLen; omega) hwm
        have hrg := shardOf_range key m
        have hlg := shardOf_lt key m
        have hB4 : Below wa.heap.size wa w4 := hBw.trans (hb4.mono hBw.size)
        generalize shardOf key m = K at *
        clear hb4
        go_wp2_with fail
        refine HI.out.mono ?_
        rintro e w5 ⟨rfl, hb5⟩
        have hB5 : Below wa.heap.size wa w5 := hB4.trans (hb5.mono hB4.size)
        obtain ⟨hr1, hr2⟩ := hrg
        go_wp2_with fail
        refine (HSP.out _).mono ?_
        rintro e w6 ⟨rfl, hw6⟩
        subst hw6
        by_cases hm1 : m < 1
        · go_wp2_with fail
          go_ret
          exact ⟨rfl, hB5⟩
        · have hr3 := hr2 (by omega)
          go_wp2_with fail
          go_ret
          exact ⟨rfl, hB5⟩

theorem own : ownKnob Try.prog.godebug = none := by kernel_rfl
theorem laidOut : laidOutB Try.prog = true := by kernel_rfl

set_option maxRecDepth 100000 in
theorem lifted (os : Os) (started : os.Started) (H : Type) (enc : TypeId × Value → H) :
    ReturnsInHanded {} Try.checked os 6 .any (Rows.fnShardsSpec.pre6 enc Try.prog Try.f6 Rows.fnShardsRow.domain false) (Rows.fnShardsSpec.post enc Try.prog Try.f6 false true false false) := by
  refine returnsInHanded_of_change (C := Try.checked) own started (by kernel_rfl) Try.func6
    (ChangeSpec.witness6 (enc := enc) (C := Try.checked) false ⟨#[], #[.slice none 0 0], []⟩ 8 (by kernel_rfl) (by kernel_rfl) (by kernel_rfl) (by kernel_rfl)) ?_
  intro W base args ds gs before hval0 hW hcnd _
  have hval : ∀ (j : Nat) t v, Try.f6.params[j]? = some t → args[j]? = some v → Value.okWide Try.prog W .any base t v := hval0
  have hW' := hW
  obtain ⟨p, q, hA0, hV, rfl, hfz, hnd⟩ := hW
  have hA : DataW.TrodAll enc Try.prog W 0 (fun _ => true) true Try.f6.params.toList args.toList ds p := hA0
  rw [Try.params6] at hA hval
  obtain ⟨v0, vs0, d0, ds0, p0, q0, hargs, rfl, rfl, h0, r0⟩ := trodAll_cons hA
  obtain ⟨rfl, rfl, rfl⟩ := trodAll_nil r0
  obtain rfl : args = #[v0] := by cases args; simp_all
  obtain ⟨rfl, rfl⟩ := trodVars_none hV
  obtain ⟨a0, len0, cap0, rfl⟩ := okWide_slice Try.underlying22 (hval 0 22 v0 rfl rfl)
  have k0 := h0
  have lt0 : ∀ x ∈ p0, x.block < W.heap.size := by obtain ⟨m, hm⟩ := k0; exact DataW.trod_lt m _ _ _ hm
  obtain ⟨b0, w0⟩ : ∃ bs, Sl W a0 len0 bs := by
    obtain ⟨fuel, hf⟩ := h0
    rcases open_ints Try.underlying22 Try.underlying5 (by kernel_rfl) hf with ⟨hcs, _⟩ | ⟨x, l, c, zs, hcs, _, hl, hm, hz, _, hcell, hwz⟩
    · simp [Value.cells] at hcs
      obtain ⟨rfl, rfl, rfl⟩ := hcs
      exact ⟨[], sl_nil _ _⟩
    · simp [Value.cells] at hcs
      obtain ⟨rfl, rfl, rfl⟩ := hcs
      exact ⟨_, sl_of_ints hl hm (by simpa using hz) hcell hwz⟩
  clear hA0 hval0
  refine (walk a0 len0 cap0 b0 W w0).mono fun e W' ⟨he, bel⟩ => ?_
  subst he
  exact ⟨_, rfl, _, _, _, [], _, [], hW', trodAll_mk1 (shut_bool Try.underlying4 _), (trodAll_cons_mk (Below.trod laidOut (by kernel_rfl) (of_decide_eq_true (by kernel_rfl)) k0 bel lt0) trodAll_mk0), rfl, bel.frame _, fun h => by cases h⟩

theorem over : Rows.fnShardsRow.holds Try.pinned (OpenSpec.ofChange Rows.fnShardsSpec) :=
  OpenClaim.holds_of_wide 6 Try.f6 rfl rfl rfl rfl rfl rfl rfl ⟨rfl, rfl, rfl, rfl, rfl⟩ rfl rfl rfl rfl rfl (by kernel_rfl) Try.func6 (by kernel_rfl)
    (of_decide_eq_true (by kernel_rfl)) (by unfold Func.isWrapper; first | (rw [if_pos (by decide +kernel)]; kernel_rfl) | (rw [if_neg (by decide +kernel)]; exact ⟨rfl, rfl⟩))
    (fun os started H enc _ => lifted os started H enc)

theorem proved : Rows.FnShardsSaid := over
end Go.Proofs.Yteiokccimlcmpaa.fnShards
