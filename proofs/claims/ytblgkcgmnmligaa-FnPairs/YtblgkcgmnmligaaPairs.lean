/- The statement FnPairsSaid: at every slice of bytes FnPairs answers true, and the slice reads afterwards as before. No condition besides the row's own. -/
import Derived.Test.YtblgkcgmnmligaaRows
import Derived.Test.YtblgkcgmnmligaaBig
import Derived.Test.YtblgkcgmnmligaaPairLaw
import Derived.Test.YtblgkcgmnmligaaPairV
import Derived.Test.YtblgkcgmnmligaaDrawR
import Derived.Test.YtblgkcgmnmligaaPairI
import Derived.ProofKit
import Derived.OpenShut
import Derived.ShutString
import Derived.ChangeOld
import Derived.Below
namespace Go.Proofs.Ytblgkcgmnmligaa.fnPairs
open Go.ChangeShapes Go.WideShapes Go.ChangeAt Go.RowKit
open Go.ChangeMaps (open_string shut_string)
set_option linter.unusedVariables false
open Go.Proofs.Ytblgkcgmnmligaa.base Go.Proofs.Ytblgkcgmnmligaa.pairs

set_option maxRecDepth 100000 in
set_option maxHeartbeats 4000000 in
theorem walk (a0 : Option Addr) (len0 cap0 : Nat) (b0 : List UInt8) (w : World) (w0 : Sl w a0 len0 b0) :
    Calls Try.prog 4 #[.slice a0 len0 cap0] w fun e w' => e = .returned (.bool true) ∧ Below w.heap.size w w' := by
  have hm := w0.2.1
  by_cases hbig : 1048576 < len0
  · have hb := big_ a0 len0 cap0 w hm
    rw [decide_eq_true (by omega)] at hb
    have HB := Hid.mk' hb
    clear hb
    go_enter Try.func4, Try.ntmps4
    go_wp2_with fail
    refine HB.out.mono ?_
    rintro e wa ⟨rfl, rfl⟩
    go_wp2_with fail
    go_ret
    exact ⟨rfl, Below.refl _ _⟩
  · have hb := big_ a0 len0 cap0 w hm
    rw [decide_eq_false (by omega)] at hb
    have HB := Hid.mk' hb
    clear hb
    go_enter Try.func4, Try.ntmps4
    go_wp2_with fail
    refine HB.out.mono ?_
    rintro e wa ⟨rfl, hwa⟩
    subst hwa
    go_wp2_with fail
    refine (drawPairsOk a0 len0 cap0 b0 _ w0 (by omega)).mono ?_
    rintro e w1 ⟨g, n, cp, l, hn, ht, rfl, hO1, hB1⟩
    have hks : ∀ p ∈ l, p.1.size ≤ 1099511627776 := fun p hp => Nat.le_trans (ht p hp).1 (by omega)
    have hln := hO1.1
    cases hR : pairsOk l
    · have HR := Hid.mk' hR
      clear hR
      go_wp2_with fail
      refine (impl_pairsOk _ _ _ _ l _ hO1.sl hks).mono ?_
      rintro e w2 ⟨he, hB2⟩
      rw [HR.out] at he
      subst he
      have hO2 := hO1.below hB2
      have hB2' := hB1.trans (hB2.mono hB1.size)
      go_wp2_with fail
      refine (spec_pairsOk _ _ _ _ l _ hO2.sl hks).mono ?_
      rintro e w3 ⟨he, hB3⟩
      rw [HR.out] at he
      subst he
      have hB3' := hB2'.trans (hB3.mono hB2'.size)
      go_wp2_with fail
      go_loop [5] (fun i => i = .int .i64 0) (fun i => 0)
      case atStart => rfl
      case round =>
        subst hrel
        by_cases hn0 : (0 : Int) < (n : Int)
        · go_wp2_with fail
          go_ret
          exact ⟨rfl, hB3'⟩
        · go_wp2_with fail
          go_ret
          exact ⟨rfl, hB3'⟩
    · have HR := Hid.mk' hR
      obtain ⟨⟨hall, hrise⟩, _⟩ := (pairsOk_iff l).1 hR
      clear hR
      go_wp2_with fail
      refine (impl_pairsOk _ _ _ _ l _ hO1.sl hks).mono ?_
      rintro e w2 ⟨he, hB2⟩
      rw [HR.out] at he
      subst he
      have hO2 := hO1.below hB2
      have hB2' := hB1.trans (hB2.mono hB1.size)
      go_wp2_with fail
      refine (spec_pairsOk _ _ _ _ l _ hO2.sl hks).mono ?_
      rintro e w3 ⟨he, hB3⟩
      rw [HR.out] at he
      subst he
      have hO3 := hO2.below hB3
      have hB3' := hB2'.trans (hB3.mono hB2'.size)
      clear hO1 hO2 hB1 hB2 hB3 hB2'
      rename World => w9
      go_wp2_with fail
      go_loopw [5] (fun i wr => ∃ k : Nat, k ≤ n ∧ i = .int .i64 (k : Int) ∧ Below w9.heap.size w9 wr) (fun i _ => n - (intOf i).toNat)
      case atStart => exact ⟨0, Nat.zero_le _, rfl, Below.refl _ _⟩
      case round =>
        obtain ⟨k, hk, rfl, hB⟩ := hrel
        have hbw := hB.size
        by_cases hlt : k < n
        · have hkl : k < l.length := by omega
          have hOr := hO3.below hB
          have c1 := hOr.key k hkl
          have c2 := hOr.val k hkl
          have hgl := hOr.lt.2
          have o1 := last.On.cell c1 hgl
          have o2 := last.On.cell c2 hgl
          have hpk : pairOk l[k] = true := hall _ (List.getElem_mem hkl)
          have hkk : keyOk l[k].1 = true := by unfold pairOk at hpk; exact (Bool.and_eq_true _ _ ▸ hpk).1
          have hsm := hO3.2.1 _ (List.getElem_mem hkl)
          have hks' := hks _ (List.getElem_mem hkl)
          have hinh := last.On.inh wr.heap.size wr
          have hcall : ∀ x : last.On wr.heap.size wr, Calls Try.prog 26 #[.agg #[.string l[k].1, .string l[k].2]] x.w fun e w' => e = .returned (.bool true) ∧ ∃ y : last.On wr.heap.size wr, w' = y.w := fun x => last.Calls.on x (Nat.le_refl _) (by have := impl_pairOk l[k] x.w hsm hks'; rw [hpk] at this; exact this)
          have hcall2 : ∀ x : last.On wr.heap.size wr, Calls Try.prog 27 #[.string l[k].1] x.w fun e w' => e = .returned (.bool true) ∧ ∃ y : last.On wr.heap.size wr, w' = y.w := fun x => last.Calls.on x (Nat.le_refl _) (by have := impl_keyOk l[k].1 x.w hks'; rw [hkk] at this; exact this)
          have hki : (k : Int) < (n : Int) := by omega
          by_cases h0 : k = 0
          · have hk0 : ¬ (0 : Int) < (k : Int) := by omega
            have hk1 : decide (0 < k) = false := by simp; omega
            generalize l[k] = p at *
            clear hpk hkk hOr h0
            go_wp2_with fail
            refine last.wp_region_on wr.heap.size (by kernel_rfl) (by kernel_rfl) ?_
            repeat (go_big_quiet_step ((first | (go_at_call 26; exact hcall _) | (go_at_call 27; exact hcall2 _))))
            refine wpQuiet_nil ?_
            intro w5 hw5
            obtain ⟨x5, hw5⟩ := hw5
            subst hw5
            have hB5 : Below w9.heap.size w9 x5.w := hB.trans (x5.2.mono hB.size)
            go_wp2_with fail
            go_roundw
            case rel => exact ⟨k + 1, by omega, by go_num, hB5⟩
            case measure => simp [intOf]; omega
          · have hk0 : (0 : Int) < (k : Int) := by omega
            have hk1 : decide (0 < k) = true := by simp; omega
            have c3 := hOr.key (k - 1) (by omega)
            have hl2 : Op.bytesLess l[k - 1].1.toList l[k].1.toList = true := List.pairwise_iff_getElem.1 hrise (k - 1) k (by omega) hkl (by omega)
            obtain ⟨j, hj⟩ : ∃ j, k - 1 = j := ⟨_, rfl⟩
            have hjw : (k : Int) - 1 = (j : Int) := by omega
            have hjk : (j : Int) < (n : Int) := by omega
            generalize l[k - 1].1 = q at *
            rw [hj] at c3
            have o3 := last.On.cell c3 hgl
            generalize l[k] = p at *
            clear hpk hkk hOr h0 hj
            go_wp2_with fail
            refine last.wp_region_on wr.heap.size (by kernel_rfl) (by kernel_rfl) ?_
            repeat (go_big_quiet_step ((first | (go_at_call 26; exact hcall _) | (go_at_call 27; exact hcall2 _))))
            refine wpQuiet_nil ?_
            intro w5 hw5
            obtain ⟨x5, hw5⟩ := hw5
            subst hw5
            have hB5 : Below w9.heap.size w9 x5.w := hB.trans (x5.2.mono hB.size)
            go_wp2_with fail
            go_roundw
            case rel => exact ⟨k + 1, by omega, by go_num, hB5⟩
            case measure => simp [intOf]; omega
        · go_wp2_with fail
          go_ret
          exact ⟨rfl, hB3'.trans (hB.mono hB3'.size)⟩

theorem own : ownKnob Try.prog.godebug = none := by kernel_rfl
theorem laidOut : laidOutB Try.prog = true := by kernel_rfl

set_option maxRecDepth 100000 in
theorem lifted (os : Os) (started : os.Started) (H : Type) (enc : TypeId × Value → H) :
    ReturnsInHanded {} Try.checked os 4 .any (Rows.fnPairsSpec.pre6 enc Try.prog Try.f4 Rows.fnPairsRow.domain false) (Rows.fnPairsSpec.post enc Try.prog Try.f4 false true false false) := by
  refine returnsInHanded_of_change (C := Try.checked) own started (by kernel_rfl) Try.func4
    (ChangeSpec.witness6 (enc := enc) (C := Try.checked) false ⟨#[], #[.slice none 0 0], []⟩ 8 (by kernel_rfl) (by kernel_rfl) (by kernel_rfl) (by kernel_rfl)) ?_
  intro W base args ds gs before hval0 hW hcnd _
  have hval : ∀ (j : Nat) t v, Try.f4.params[j]? = some t → args[j]? = some v → Value.okWide Try.prog W .any base t v := hval0
  have hW' := hW
  obtain ⟨p, q, hA0, hV, rfl, hfz, hnd⟩ := hW
  have hA : DataW.TrodAll enc Try.prog W 0 (fun _ => true) true Try.f4.params.toList args.toList ds p := hA0
  rw [Try.params4] at hA hval
  obtain ⟨v0, vs0, d0, ds0, p0, q0, hargs, rfl, rfl, h0, r0⟩ := trodAll_cons hA
  obtain ⟨rfl, rfl, rfl⟩ := trodAll_nil r0
  obtain rfl : args = #[v0] := by cases args; simp_all
  obtain ⟨rfl, rfl⟩ := trodVars_none hV
  obtain ⟨a0, len0, cap0, rfl⟩ := okWide_slice Try.underlying22 (hval 0 22 v0 rfl rfl)
  have k0 := h0
  have lt0 : ∀ x ∈ p0, x.block < W.heap.size := by obtain ⟨m, hm⟩ := k0; exact DataW.trod_lt m _ _ _ hm
  obtain ⟨b0, w0⟩ : ∃ bs, Sl W a0 len0 bs := by
    obtain ⟨fuel, hf⟩ := h0
    rcases open_ints Try.underlying22 Try.underlying5 (by kernel_rfl) hf with ⟨hcs, _⟩ | ⟨x, l, c, zs, hcs, _, hl, hm, hz, _, hcell, hwz⟩
    · simp [Value.cells] at hcs
      obtain ⟨rfl, rfl, rfl⟩ := hcs
      exact ⟨[], sl_nil _ _⟩
    · simp [Value.cells] at hcs
      obtain ⟨rfl, rfl, rfl⟩ := hcs
      exact ⟨_, sl_of_ints hl hm (by simpa using hz) hcell hwz⟩
  clear hA0 hval0
  refine (walk a0 len0 cap0 b0 W w0).mono fun e W' ⟨he, bel⟩ => ?_
  subst he
  exact ⟨_, rfl, _, _, _, [], _, [], hW', trodAll_mk1 (shut_bool Try.underlying4 _), (trodAll_cons_mk (Below.trod laidOut (by kernel_rfl) (of_decide_eq_true (by kernel_rfl)) k0 bel lt0) trodAll_mk0), rfl, bel.frame _, fun h => by cases h⟩

theorem over : Rows.fnPairsRow.holds Try.pinned (OpenSpec.ofChange Rows.fnPairsSpec) :=
  OpenClaim.holds_of_wide 4 Try.f4 rfl rfl rfl rfl rfl rfl rfl ⟨rfl, rfl, rfl, rfl, rfl⟩ rfl rfl rfl rfl rfl (by kernel_rfl) Try.func4 (by kernel_rfl)
    (of_decide_eq_true (by kernel_rfl)) (by unfold Func.isWrapper; first | (rw [if_pos (by decide +kernel)]; kernel_rfl) | (rw [if_neg (by decide +kernel)]; exact ⟨rfl, rfl⟩))
    (fun os started H enc _ => lifted os started H enc)

theorem proved : Rows.FnPairsSaid := over
end Go.Proofs.Ytblgkcgmnmligaa.fnPairs
