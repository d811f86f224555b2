/- The statement FnKeysSaid: at every slice of bytes FnKeys answers true, and the slice reads afterwards as before. No condition besides the row's own. -/
import Derived.Test.YtblgkcgmnmligaaRows
import Derived.Test.YtblgkcgmnmligaaBig
import Derived.Test.YtblgkcgmnmligaaPairLaw
import Derived.Test.YtblgkcgmnmligaaPairV
import Derived.Test.YtblgkcgmnmligaaDrawQ
import Derived.Test.YtblgkcgmnmligaaHelpQ
import Derived.Test.YtblgkcgmnmligaaPairI
import Derived.ProofKit
import Derived.OpenShut
import Derived.ShutString
import Derived.ChangeOld
import Derived.Below
namespace Go.Proofs.Ytblgkcgmnmligaa.fnKeys
open Go.ChangeShapes Go.WideShapes Go.ChangeAt Go.RowKit
open Go.ChangeMaps (open_string shut_string)
set_option linter.unusedVariables false
open Go.Proofs.Ytblgkcgmnmligaa.base Go.Proofs.Ytblgkcgmnmligaa.pairs

set_option maxRecDepth 100000 in
set_option maxHeartbeats 4000000 in
theorem walk (a0 : Option Addr) (len0 cap0 : Nat) (b0 : List UInt8) (w : World) (w0 : Sl w a0 len0 b0) :
    Calls Try.prog 3 #[.slice a0 len0 cap0] w fun e w' => e = .returned (.bool true) ∧ Below w.heap.size w w' := by
  have hm := w0.2.1
  by_cases hbig : 1048576 < len0
  · have hb := big_ a0 len0 cap0 w hm
    rw [decide_eq_true (by omega)] at hb
    have HB := Hid.mk' hb
    clear hb
    go_enter Try.func3, Try.ntmps3
    go_wp2_with fail
    refine HB.out.mono ?_
    rintro e wa ⟨rfl, rfl⟩
    go_wp2_with fail
    go_ret
    exact ⟨rfl, Below.refl _ _⟩
  · have hb := big_ a0 len0 cap0 w hm
    rw [decide_eq_false (by omega)] at hb
    have HB := Hid.mk' hb
    clear hb
    go_enter Try.func3, Try.ntmps3
    go_wp2_with fail
    refine HB.out.mono ?_
    rintro e wa ⟨rfl, hwa⟩
    subst hwa
    go_wp2_with fail
    refine (drawPutKey a0 len0 cap0 b0 _ w0 (by omega)).mono ?_
    rintro e w1 ⟨g, n, cp, l, key, val, hn, ht, hkz, hvz, rfl, hO1, hB1⟩
    have hks : ∀ p ∈ l, p.1.size ≤ 1099511627776 := fun p hp => Nat.le_trans (ht p hp).1 (by omega)
    have hln := hO1.1
    have hcs := hO1.cases
    have htP := tiny_put ht hkz (show val.size ≤ 21 by omega)
    have hpl := putKey_length key val l
    go_wp2_with fail
    refine (impl_putKey _ _ _ _ l key val _ hO1.sl hcs.1 (by omega) (max13 (by omega)) (max13 (by omega))).mono ?_
    rintro e w2 ⟨gp, np, cpp, rfl, hP2, hB2⟩
    have hO2 := hO1.below hB2
    have hB2' := hB1.trans (hB2.mono hB1.size)
    have hnp := hP2.1
    clear hO1 hB2 hB1
    go_wp2_with fail
    refine (impl_getKey _ _ _ _ _ key _ hP2.sl).mono ?_
    rintro e w3 ⟨he, hB3⟩
    rw [getKey_put_same] at he
    simp only [getRet] at he
    subst he
    have hO3 := hO2.below hB3
    have hP3 := hP2.below hB3
    have hB3' := hB2'.trans (hB3.mono hB2'.size)
    have hcp := hP3.cases
    clear hO2 hP2 hB3 hB2'
    go_wp2_with fail
    refine (impl_delKey _ _ _ _ _ key _ hP3.sl hcp.1 (by omega) (max13 (by omega))).mono ?_
    rintro e w4 ⟨gd, nd, cpd, rfl, hD4, hB4⟩
    have hO4 := hO3.below hB4
    have hP4 := hP3.below hB4
    have hB4' := hB3'.trans (hB4.mono hB3'.size)
    have hdl : nd ≤ np := by
      have h1 := hD4.1
      have h2 := List.length_filter_le (fun p : Pr => decide (p.1 ≠ key)) (putKey key val l)
      unfold delKey at h1; omega
    clear hO3 hP3 hB4 hB3'
    go_wp2_with fail
    refine (impl_getKey _ _ _ _ _ key _ hD4.sl).mono ?_
    rintro e w5 ⟨he, hB5⟩
    rw [getKey_del_same] at he
    simp only [getRet] at he
    subst he
    have hO5 := hO4.below hB5
    have hP5 := hP4.below hB5
    have hD5 := hD4.below hB5
    have hB5' := hB4'.trans (hB5.mono hB4'.size)
    clear hO4 hP4 hD4 hB5 hB4'
    go_wp2_with fail
    refine (spec_putKey _ _ _ _ l key val _ hO5.sl hcs.1 (by omega) (max13 (by omega)) (max13 (by omega))).mono ?_
    rintro e w6 ⟨gs, ns, cps, rfl, hS6, hB6⟩
    have hO6 := hO5.below hB6
    have hP6 := hP5.below hB6
    have hD6 := hD5.below hB6
    have hB6' := hB5'.trans (hB6.mono hB5'.size)
    clear hO5 hP5 hD5 hB6 hB5'
    go_wp2_with fail
    refine (samePairs _ _ _ _ _ _ _ _ _ hP6.sl hS6.sl).mono ?_
    rintro e w7 ⟨he, nq, hw7⟩
    rw [decide_eq_true rfl] at he
    subst he hw7
    have hb7 : Below w6.heap.size w6 (w6.drewN nq) := below_drewN (Below.refl _ _) _
    have hO7 := hO6.below hb7
    have hP7 := hP6.below hb7
    have hD7 := hD6.below hb7
    have hB7 := below_drewN hB6' nq
    clear hO6 hP6 hD6 hS6 hb7 hB6'
    generalize w6.drewN nq = w8 at *
    go_wp2_with fail
    go_loopw [12] (fun i wr => ∃ k : Nat, k ≤ n ∧ i = .int .i64 (k : Int) ∧ Below w8.heap.size w8 wr) (fun i _ => n - (intOf i).toNat)
    case atStart => exact ⟨0, Nat.zero_le _, rfl, Below.refl _ _⟩
    case round =>
      obtain ⟨k, hk, rfl, hB⟩ := hrel
      have hbw := hB.size
      have hOr := hO7.below hB
      by_cases hlt : k < n
      · have hkl : k < l.length := by omega
        have c1 := hOr.key k hkl
        have hki : (k : Int) < (n : Int) := by omega
        obtain ⟨v, hv⟩ := getKey_isSome (List.getElem_mem hkl)
        have hDr := hD7.below hB
        by_cases he : l[k].1 = key
        · have hgd : getKey l[k].1 (delKey key (putKey key val l)) = none := by rw [he]; exact getKey_del_same _ _
          have HG1 := Hid.mk' hv
          have HG2 := Hid.mk' hgd
          have HE := Hid.mk' he
          clear hv hgd he
          generalize l[k].1 = kk at *
          go_wp2_with fail
          refine (impl_getKey _ _ _ _ l kk _ hOr.sl).mono ?_
          rintro e wa ⟨h1, hBa⟩
          rw [HG1.out] at h1
          simp only [getRet] at h1
          subst h1
          have d1 := (hBa.cell (p := ⟨g, k * 2, none⟩) hOr.lt.2).trans c1
          have hDa := hDr.below hBa
          have hBa' := hB.trans (hBa.mono hB.size)
          have hga : g < wa.heap.size := Nat.lt_of_lt_of_le hOr.lt.2 hBa.size
          clear c1 hBa
          go_wp2_with fail
          refine (impl_getKey _ _ _ _ _ kk _ hDa.sl).mono ?_
          rintro e wb ⟨h1, hBb⟩
          rw [HG2.out] at h1
          simp only [getRet] at h1
          subst h1
          have d2 : wb.cell? ⟨g, k * 2, none⟩ = some (.string key) := by rw [← HE.out]; exact (hBb.cell (p := ⟨g, k * 2, none⟩) hga).trans d1
          have hBb' := hBa'.trans (hBb.mono hBa'.size)
          clear d1 hBb
          go_wp2_with fail
          go_roundw
          case rel => exact ⟨k + 1, by omega, by go_num, hBb'⟩
          case measure => simp [intOf]; omega
        · have hgd : getKey l[k].1 (delKey key (putKey key val l)) = some v := by rw [getKey_del_other _ he, getKey_put_other _ _ he]; exact hv
          have hq := str_ne he
          have HG1 := Hid.mk' hv
          have HG2 := Hid.mk' hgd
          clear hv hgd he
          generalize l[k].1 = kk at *
          go_wp2_with fail
          refine (impl_getKey _ _ _ _ l kk _ hOr.sl).mono ?_
          rintro e wa ⟨h1, hBa⟩
          rw [HG1.out] at h1
          simp only [getRet] at h1
          subst h1
          have d1 := (hBa.cell (p := ⟨g, k * 2, none⟩) hOr.lt.2).trans c1
          have hDa := hDr.below hBa
          have hBa' := hB.trans (hBa.mono hB.size)
          have hga : g < wa.heap.size := Nat.lt_of_lt_of_le hOr.lt.2 hBa.size
          clear c1 hBa
          go_wp2_with fail
          refine (impl_getKey _ _ _ _ _ kk _ hDa.sl).mono ?_
          rintro e wb ⟨h1, hBb⟩
          rw [HG2.out] at h1
          simp only [getRet] at h1
          subst h1
          have d2 := (hBb.cell (p := ⟨g, k * 2, none⟩) hga).trans d1
          have hBb' := hBa'.trans (hBb.mono hBa'.size)
          clear d1 hBb
          go_wp2_with fail
          go_roundw
          case rel => exact ⟨k + 1, by omega, by go_num, hBb'⟩
          case measure => simp [intOf]; omega
      · have hBt := hB7.trans (hB.mono hB7.size)
        have hPr := hP7.below hB
        have hDr := hD7.below hB
        clear hB hB7 hO7 hP7 hD7
        have hksP : ∀ p ∈ putKey key val l, p.1.size ≤ 1099511627776 := fun p hp => Nat.le_trans (htP p hp).1 (by omega)
        have hksD : ∀ p ∈ delKey key (putKey key val l), p.1.size ≤ 1099511627776 := fun p hp => hksP p (List.mem_filter.1 hp).1
        cases hR : pairsOk l
        · have HR := Hid.mk' hR
          clear hR
          go_wp2_with fail
          refine (spec_pairsOk _ _ _ _ l _ hOr.sl hks).mono ?_
          rintro e wa ⟨he, hBa⟩
          rw [HR.out] at he
          subst he
          go_wp2_with fail
          go_ret
          exact ⟨rfl, hBt.trans (hBa.mono hBt.size)⟩
        · have HR := Hid.mk' hR
          cases hK : keyOk key
          · have HK := Hid.mk' hK
            clear hR hK
            go_wp2_with fail
            refine (spec_pairsOk _ _ _ _ l _ hOr.sl hks).mono ?_
            rintro e wa ⟨he, hBa⟩
            rw [HR.out] at he
            subst he
            go_wp2_with fail
            refine (spec_keyOk key _ (by omega)).mono ?_
            rintro e wb ⟨he, rfl⟩
            rw [HK.out] at he
            subst he
            go_wp2_with fail
            go_ret
            exact ⟨rfl, hBt.trans (hBa.mono hBt.size)⟩
          · have HK := Hid.mk' hK
            by_cases h60 : l.length = 60
            · have hq60 : ((n : Int) == 60) = true := by rw [beq_iff_eq]; omega
              clear hR hK
              go_wp2_with fail
              refine (spec_pairsOk _ _ _ _ l _ hOr.sl hks).mono ?_
              rintro e wa ⟨he, hBa⟩
              rw [HR.out] at he
              subst he
              go_wp2_with fail
              refine (spec_keyOk key _ (by omega)).mono ?_
              rintro e wb ⟨he, rfl⟩
              rw [HK.out] at he
              subst he
              go_wp2_with fail
              go_ret
              exact ⟨rfl, hBt.trans (hBa.mono hBt.size)⟩
            · have hq60 : ((n : Int) == 60) = false := by rw [beq_eq_false_iff_ne]; omega
              have hokP : pairsOk (putKey key val l) = true := pairsOk_put hR hK (by omega) h60
              have hokD : pairsOk (delKey key (putKey key val l)) = true := by
                obtain ⟨⟨h1, h2⟩, h3⟩ := (pairsOk_iff _).1 hokP
                exact pairsOk_del h1 h2 (by have := hDr.1; omega)
              have HP := Hid.mk' hokP
              have HD := Hid.mk' hokD
              clear hR hK hokP hokD h60
              go_wp2_with fail
              refine (spec_pairsOk _ _ _ _ l _ hOr.sl hks).mono ?_
              rintro e wa ⟨he, hBa⟩
              rw [HR.out] at he
              subst he
              have hPa := hPr.below hBa
              have hDa := hDr.below hBa
              have hBa' := hBt.trans (hBa.mono hBt.size)
              go_wp2_with fail
              refine (spec_keyOk key _ (by omega)).mono ?_
              rintro e wb ⟨he, hwb⟩
              rw [HK.out] at he
              subst he hwb
              go_wp2_with fail
              refine (impl_pairsOk _ _ _ _ _ _ hPa.sl hksP).mono ?_
              rintro e wc ⟨he, hBc⟩
              rw [HP.out] at he
              subst he
              have hDc := hDa.below hBc
              have hBc' := hBa'.trans (hBc.mono hBa'.size)
              go_wp2_with fail
              refine (impl_pairsOk _ _ _ _ _ _ hDc.sl hksD).mono ?_
              rintro e wd ⟨he, hBd⟩
              rw [HD.out] at he
              subst he
              go_wp2_with fail
              go_ret
              exact ⟨rfl, hBc'.trans (hBd.mono hBc'.size)⟩

theorem own : ownKnob Try.prog.godebug = none := by kernel_rfl
theorem laidOut : laidOutB Try.prog = true := by kernel_rfl

set_option maxRecDepth 100000 in
theorem lifted (os : Os) (started : os.Started) (H : Type) (enc : TypeId × Value → H) :
    ReturnsInHanded {} Try.checked os 3 .any (Rows.fnKeysSpec.pre6 enc Try.prog Try.f3 Rows.fnKeysRow.domain false) (Rows.fnKeysSpec.post enc Try.prog Try.f3 false true false false) := by
  refine returnsInHanded_of_change (C := Try.checked) own started (by kernel_rfl) Try.func3
    (ChangeSpec.witness6 (enc := enc) (C := Try.checked) false ⟨#[], #[.slice none 0 0], []⟩ 8 (by kernel_rfl) (by kernel_rfl) (by kernel_rfl) (by kernel_rfl)) ?_
  intro W base args ds gs before hval0 hW hcnd _
  have hval : ∀ (j : Nat) t v, Try.f3.params[j]? = some t → args[j]? = some v → Value.okWide Try.prog W .any base t v := hval0
  have hW' := hW
  obtain ⟨p, q, hA0, hV, rfl, hfz, hnd⟩ := hW
  have hA : DataW.TrodAll enc Try.prog W 0 (fun _ => true) true Try.f3.params.toList args.toList ds p := hA0
  rw [Try.params3] at hA hval
  obtain ⟨v0, vs0, d0, ds0, p0, q0, hargs, rfl, rfl, h0, r0⟩ := trodAll_cons hA
  obtain ⟨rfl, rfl, rfl⟩ := trodAll_nil r0
  obtain rfl : args = #[v0] := by cases args; simp_all
  obtain ⟨rfl, rfl⟩ := trodVars_none hV
  obtain ⟨a0, len0, cap0, rfl⟩ := okWide_slice Try.underlying22 (hval 0 22 v0 rfl rfl)
  have k0 := h0
  have lt0 : ∀ x ∈ p0, x.block < W.heap.size := by obtain ⟨m, hm⟩ := k0; exact DataW.trod_lt m _ _ _ hm
  obtain ⟨b0, w0⟩ : ∃ bs, Sl W a0 len0 bs := by
    obtain ⟨fuel, hf⟩ := h0
    rcases open_ints Try.underlying22 Try.underlying5 (by kernel_rfl) hf with ⟨hcs, _⟩ | ⟨x, l, c, zs, hcs, _, hl, hm, hz, _, hcell, hwz⟩
    · simp [Value.cells] at hcs
      obtain ⟨rfl, rfl, rfl⟩ := hcs
      exact ⟨[], sl_nil _ _⟩
    · simp [Value.cells] at hcs
      obtain ⟨rfl, rfl, rfl⟩ := hcs
      exact ⟨_, sl_of_ints hl hm (by simpa using hz) hcell hwz⟩
  clear hA0 hval0
  refine (walk a0 len0 cap0 b0 W w0).mono fun e W' ⟨he, bel⟩ => ?_
  subst he
  exact ⟨_, rfl, _, _, _, [], _, [], hW', trodAll_mk1 (shut_bool Try.underlying4 _), (trodAll_cons_mk (Below.trod laidOut (by kernel_rfl) (of_decide_eq_true (by kernel_rfl)) k0 bel lt0) trodAll_mk0), rfl, bel.frame _, fun h => by cases h⟩

theorem over : Rows.fnKeysRow.holds Try.pinned (OpenSpec.ofChange Rows.fnKeysSpec) :=
  OpenClaim.holds_of_wide 3 Try.f3 rfl rfl rfl rfl rfl rfl rfl ⟨rfl, rfl, rfl, rfl, rfl⟩ rfl rfl rfl rfl rfl (by kernel_rfl) Try.func3 (by kernel_rfl)
    (of_decide_eq_true (by kernel_rfl)) (by unfold Func.isWrapper; first | (rw [if_pos (by decide +kernel)]; kernel_rfl) | (rw [if_neg (by decide +kernel)]; exact ⟨rfl, rfl⟩))
    (fun os started H enc _ => lifted os started H enc)

theorem proved : Rows.FnKeysSaid := over
end Go.Proofs.Ytblgkcgmnmligaa.fnKeys
