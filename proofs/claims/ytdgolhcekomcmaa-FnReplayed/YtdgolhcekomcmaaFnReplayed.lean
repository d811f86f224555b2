/- The statement FnReplayedSaid: at every code FnReplayed answers true, and the code reads afterwards as before. No condition besides the row's own. -/
import Derived.Test.YtdgolhcekomcmaaRows
import Derived.Test.YtdgolhcekomcmaaBund9rbb
import Derived.Test.YtdgolhcekomcmaaBund9rbc
import Derived.ProofKit
import Derived.OpenShut
import Derived.ShutString
import Derived.ChangeOld
import Derived.Below
namespace Go.Proofs.Ytdgolhcekomcmaa.fnReplayed
open Go.ChangeShapes Go.WideShapes Go.ChangeAt Go.RowKit
open Go.ChangeMaps (open_string shut_string)
set_option linter.unusedVariables false
open Go.Proofs.Ytdgolhcekomcmaa.base Go.Proofs.Ytdgolhcekomcmaa.pairs Go.Proofs.Ytdgolhcekomcmaa.ords Go.Proofs.Ytdgolhcekomcmaa.help Go.Proofs.Ytdgolhcekomcmaa.helps Go.Proofs.Ytdgolhcekomcmaa.recs Go.Proofs.Ytdgolhcekomcmaa.lay

theorem resM_keys {l : List Rc} : pairsOk (resM (replay l)) = true ∧ ∀ p ∈ resM (replay l), p.1.size ≤ 1099511627776 := by
  cases hr : replay l with
  | none => exact ⟨rfl, fun p hp => absurd hp List.not_mem_nil⟩
  | some t =>
    have h := (replay_ok hr).1
    refine ⟨h, fun p hp => ?_⟩
    have h1 := ((pairsOk_iff _).1 h).1.1 p hp
    unfold pairOk at h1
    rw [Bool.and_eq_true] at h1
    have := keyOk_size h1.1
    omega
theorem resH_mem {l : List Rc} : ∀ r ∈ resH (replay l), r ∈ l ∧ r.1 = 1 := by
  cases hr : replay l with
  | none => exact fun p hp => absurd hp List.not_mem_nil
  | some t => exact fun r hr' => ⟨((replay_ok hr).2.1 r hr').1, ((replay_ok hr).2.1 r hr').2.1⟩
def inL (x : Rc) (l : List Rc) : Bool := l.any fun r => decide (r = x)
theorem take_any (l : List Rc) (k : Nat) (h : k < l.length) (x : Rc) : inL x (l.take (k + 1)) = (inL x (l.take k) || decide (l[k] = x)) := by
  rw [List.take_succ_eq_append_getElem h]
  unfold inL
  rw [List.any_append]
  simp
theorem inL_mem {x : Rc} {l : List Rc} (h : x ∈ l) : inL x l = true := List.any_eq_true.2 ⟨x, h, decide_eq_true rfl⟩
set_option maxRecDepth 100000 in
set_option maxHeartbeats 4000000 in
theorem walk (a0 : Option Addr) (len0 cap0 : Nat) (b0 : List UInt8) (w : World) (w0 : Sl w a0 len0 b0) :
    Calls Try.prog 3 #[.slice a0 len0 cap0] w fun e w' => e = .returned (.bool true) ∧ Below w.heap.size w w' := by
  have hm := w0.2.1
  have hb := big_ a0 len0 cap0 w hm
  by_cases hbig : 1048576 < len0
  · rw [decide_eq_true (by omega)] at hb
    have HB := Hid.mk' hb
    clear hb
    go_enter Try.func3, Try.ntmps3
    go_wp2_with fail
    refine HB.out.mono ?_
    rintro e w1 ⟨rfl, rfl⟩
    go_wp2_with fail
    go_ret
    exact ⟨rfl, Below.refl _ _⟩
  rw [decide_eq_false (by omega)] at hb
  have HB := Hid.mk' (hb.mono (fun e w' (hp : e = .returned (.bool false) ∧ w' = w) => (⟨hp.1, hp.2.symm⟩ : e = .returned (.bool false) ∧ w = w')))
  have HDR := Hid.mk' (drawReplayRecs a0 len0 cap0 b0 w w0 (by omega))
  clear hb
  go_enter Try.func3, Try.ntmps3
  go_wp2_with fail
  refine HB.out.mono ?_
  rintro e w1 ⟨rfl, rfl⟩
  go_wp2_with fail
  refine HDR.out.mono ?_
  rintro e w2 ⟨g, n, cp, l, hs, hn, htn, rfl, hO2, hb2⟩
  clear HB HDR
  have hfew := tiny_few htn
  have hnl : n = l.length := hO2.nlen
  subst hnl
  have HIM := Hid.mk' (impl_replay (some ⟨g, 0, none⟩) l.length cp l w2 hO2.sl hO2.plain (by omega) hfew)
  have HSP := Hid.mk' (fun wx (hx : Below w2.heap.size w2 wx) => spec_replay (some ⟨g, 0, none⟩) l.length cp l wx (hO2.below hx).sl (by omega) hfew)
  have hmk := (resM_keys (l := l)).2
  have hmo := (resM_keys (l := l)).1
  have hhm := resH_mem (l := l)
  have hro := replay_first l
  have hsz := replay_sizes l
  generalize hT : replay l = t at *
  go_wp2_with fail
  refine HIM.out.mono ?_
  rintro e w3 ⟨gm, nm, cm, gh, ch, hs3, rfl, hO3, hOR3, _, hb3⟩
  clear HIM
  go_wp2_with fail
  refine (HSP.out _ hb3).mono ?_
  rintro e w4 ⟨gm4, nm4, cm4, gh4, ch4, hs4, rfl, _, _, _, hb4⟩
  clear HSP
  have hB3 := hb2.trans (hb3.mono hb2.size)
  have hB4 := hB3.trans (hb4.mono hB3.size)
  have hO4 := (hO2.below hb3).below hb4
  have hM4 := hO3.below hb4
  have hH4 := hOR3.below hb4
  have hnm : nm = (resM t).length := hO3.1.symm
  have HNM := Hid.mk' hnm
  clear hO3 hOR3 hb3 hb4 hO2 hb2 hnm
  cases hts : t with
  | none =>
    subst hts
    have hn0 : nm = 0 := by have := HNM.out; simpa [resM] using this
    subst hn0
    simp only [Option.isSome_none, resH, List.length_nil]
    go_wp2_with fail
    go_ret
    exact ⟨rfl, hB4⟩
  | some t' =>
    have hsm : t.isSome = true := by rw [hts]; rfl
    have HSM := Hid.mk' hsm
    rw [← hts]
    clear hts
    rw [hsm]
    clear hsm
    have hhl := hH4.sl.2.1
    unfold maxLen at hhl
    have hll : l.length ≤ 301 := hn
    generalize hHH : resH t = H at *
    generalize hMM : resM t = M at *
    go_wp2_with fail
    go_loopw [10] (fun i wr => ∃ k : Nat, k ≤ H.length ∧ i = .int .i64 (k : Int) ∧ Below w4.heap.size w4 wr) (fun i _ => H.length - (intOf i).toNat)
    case atStart => exact ⟨0, Nat.zero_le _, rfl, Below.refl _ _⟩
    case round =>
      obtain ⟨k, hk, rfl, hBr⟩ := hrel
      have hHr := hH4.below hBr
      have hOr := hO4.below hBr
      by_cases hlt : k < H.length
      · have hki : (k : Int) < (H.length : Int) := by omega
        obtain ⟨hin, hkd⟩ := hhm _ (List.getElem_mem hlt)
        have HIN := Hid.mk' hin
        have HKD := Hid.mk' hkd
        clear hin hkd
        go_wp2_with fail
        go_loopw [11, 12] (fun o i ws => ∃ j : Nat, j ≤ l.length ∧ i = .int .i64 (j : Int) ∧ o = .bool (inL H[k] (l.take j)) ∧ Below w4.heap.size w4 ws) (fun _ i _ => l.length - (intOf i).toNat)
        case atStart => exact ⟨0, Nat.zero_le _, rfl, rfl, hBr⟩
        case round =>
          clear hBr hHr hOr
          obtain ⟨j, hj, rfl, rfl, hBs⟩ := hrel
          have hHs := hH4.below hBs
          have hOs := hO4.below hBs
          by_cases hlj : j < l.length
          · have hji : (j : Int) < (l.length : Int) := by omega
            have i1 := hOs.sl.at j hlj
            have i2 := hHs.sl.at k hlt
            obtain ⟨c1, c2, pa, pl, pc, c3, hS1, _⟩ := i1
            obtain ⟨c4, c5, qa, ql, qc, c6, hS2, _⟩ := i2
            simp only [Nat.zero_add] at c1 c2 c3 c4 c5 c6
            have hg1 := World.block_lt_of_cell? _ _ c1
            have hg2 := World.block_lt_of_cell? _ _ c4
            have hinh := last.On.inh wr.heap.size wr
            have HT := Hid.mk' (take_any l j hlj H[k])
            have hcall : ∀ x : last.On wr.heap.size wr, Calls Try.prog 14 #[.agg #[.int .i64 l[j].1, .int .i64 l[j].2.1, .slice pa pl pc], .agg #[.int .i64 H[k].1, .int .i64 H[k].2.1, .slice qa ql qc]] x.w fun e w' => e = .returned (.bool (decide (l[j] = H[k]))) ∧ ∃ y : last.On wr.heap.size wr, w' = y.w := fun x => last.Calls.on x (Nat.le_refl _) (sameRecG l[j].1 l[j].2.1 H[k].1 H[k].2.1 pa qa pl pc ql qc l[j].2.2 H[k].2.2 x.w (hS1.below x.2) (hS2.below x.2))
            clear hS1 hS2 hHs hOs
            generalize decide (l[j] = H[k]) = bb at *
            generalize l[j] = p at *
            generalize H[k] = q at *
            have o1 := last.On.cell (B := wr.heap.size) c1 hg1
            have o2 := last.On.cell (B := wr.heap.size) c2 hg1
            have o3 := last.On.cell (B := wr.heap.size) c3 hg1
            have o4 := last.On.cell (B := wr.heap.size) c4 hg2
            have o5 := last.On.cell (B := wr.heap.size) c5 hg2
            have o6 := last.On.cell (B := wr.heap.size) c6 hg2
            cases hbo : inL q (l.take j) with
            | true =>
              have HT2 : Hid (inL q (l.take (j + 1)) = true) := by show _ = _; rw [HT.out, hbo]; rfl
              clear HT hbo
              go_wp2_with fail
              refine last.wp_region_on wr.heap.size (by kernel_rfl) (by kernel_rfl) ?_
              repeat (go_big_quiet_step ((go_at_call 14; with_reducible exact hcall _)))
              refine wpQuiet_nil ?_
              intro w5 hw5
              obtain ⟨x5, hw5⟩ := hw5
              have hB5 : Below w4.heap.size w4 w5 := by rw [hw5]; exact hBs.trans (x5.2.mono hBs.size)
              clear hw5 x5 o1 o2 o3 o4 o5 o6 hcall hinh
              go_wp2_with fail
              go_roundw
              case rel => exact ⟨j + 1, by omega, by go_num, by rw [HT2.out], hB5⟩
              case measure => simp [intOf]; omega
            | false =>
              have HT2 : Hid (inL q (l.take (j + 1)) = bb) := by show _ = _; rw [HT.out, hbo]; rfl
              clear HT hbo
              go_wp2_with fail
              refine last.wp_region_on wr.heap.size (by kernel_rfl) (by kernel_rfl) ?_
              repeat (go_big_quiet_step ((go_at_call 14; with_reducible exact hcall _)))
              refine wpQuiet_nil ?_
              intro w5 hw5
              obtain ⟨x5, hw5⟩ := hw5
              have hB5 : Below w4.heap.size w4 w5 := by rw [hw5]; exact hBs.trans (x5.2.mono hBs.size)
              clear hw5 x5 o1 o2 o3 o4 o5 o6 hcall hinh
              go_wp2_with fail
              go_roundw
              case rel => exact ⟨j + 1, by omega, by go_num, by rw [HT2.out], hB5⟩
              case measure => simp [intOf]; omega
          · have HE : Hid (inL H[k] (l.take j) = true) := by
              show _ = _
              rw [List.take_of_length_le (by omega)]
              exact inL_mem HIN.out
            have hnj : ¬ (j : Int) < (l.length : Int) := by omega
            have c4 := (hHs.at k hlt).1
            have hkd := HKD.out
            rw [hkd] at c4
            rw [HE.out]
            clear HE hkd hHs hOs
            go_wp2_with fail
            go_roundw
            case rel => exact ⟨k + 1, by omega, by go_num, hBs⟩
            case measure => simp [intOf]; omega
      · have hnk : ¬ (k : Int) < (H.length : Int) := by omega
        have hBz := hB4.trans (hBr.mono hB4.size)
        by_cases hl0 : l.length = 0
        · have hnm0 : nm = 0 := by
            have e0 : l = [] := List.eq_nil_of_length_eq_zero hl0
            subst e0
            have e1 : t = some ([], [], []) := by rw [← hT]; rfl
            have := HNM.out
            rw [← hMM, e1] at this
            simpa [resM] using this
          subst hnm0
          have hl0i : ((l.length : Nat) : Int) = 0 := by omega
          go_wp2_with fail
          go_ret
          exact ⟨rfl, hBz⟩
        · have hl0i : (((l.length : Nat) : Int) == 0) = false := by simp; intro e; exact hl0 (by rw [e]; rfl)
          obtain ⟨n1, hn1⟩ : ∃ n1 : Nat, l.length = n1 + 1 := ⟨l.length - 1, by omega⟩
          obtain ⟨hs', hOT, _⟩ := (hOr.mono (base' := 0) (Nat.zero_le _)).firsts n1 (by omega)
          have hrt : (replay (l.take n1)).isSome = true := hro HSM.out n1
          have hft : Few (l.take n1) := fun r hr => hfew r (List.mem_of_mem_take hr)
          have HIF := Hid.mk' (impl_replay (some ⟨g, 0, none⟩) n1 cp (l.take n1) wr hOT.sl hOT.plain (by omega) hft)
          have hMr := hM4.below hBr
          have HPO := Hid.mk' (fun wx (hx : Below wr.heap.size wr wx) => impl_pairsOk gm 0 nm cm M wx (hMr.below hx).sl hmk)
          have hcap := hOr.room
          have hmx : maxLen = 9223372036854775807 := rfl
          rw [hmx] at hcap
          have hsub : ((l.length : Nat) : Int) - 1 = (n1 : Int) := by omega
          have hwr1 : IntKind.i64.wrap (n1 : Int) = (n1 : Int) := wraps_i64 _ (by omega) (by omega)
          have hn1c : n1 ≤ cp := by omega
          generalize replay (l.take n1) = t1 at *
          clear hOT hft hOr hHr hMr hl0
          go_wp2_with fail
          refine HIF.out.mono ?_
          rintro e w6 ⟨gm6, nm6, cm6, gh6, ch6, hs6, rfl, _, _, _, hb6⟩
          rw [hrt]
          have HPO2 := Hid.mk' (HPO.out _ hb6)
          clear HIF HPO
          rw [hmo] at HPO2
          go_wp2_with fail
          refine HPO2.out.mono ?_
          rintro e w7 ⟨rfl, hb7⟩
          have hBe := (hBz.trans (hb6.mono hBz.size)).trans (hb7.mono (Nat.le_trans hBz.size hb6.size))
          clear HPO2
          go_wp2_with fail
          go_ret
          exact ⟨rfl, hBe⟩

theorem own : ownKnob Try.prog.godebug = none := by kernel_rfl
theorem laidOut : laidOutB Try.prog = true := by kernel_rfl

set_option maxRecDepth 100000 in
theorem lifted (os : Os) (started : os.Started) (H : Type) (enc : TypeId × Value → H) :
    ReturnsInHanded {} Try.checked os 3 .any (Rows.fnReplayedSpec.pre6 enc Try.prog Try.f3 Rows.fnReplayedRow.domain false) (Rows.fnReplayedSpec.post enc Try.prog Try.f3 false true false false) := by
  refine returnsInHanded_of_change (C := Try.checked) own started (by kernel_rfl) Try.func3
    (ChangeSpec.witness6 (enc := enc) (C := Try.checked) false ⟨#[], #[.slice none 0 0], []⟩ 8 (by kernel_rfl) (by kernel_rfl) (by kernel_rfl) (by kernel_rfl)) ?_
  intro W base args ds gs before hval0 hW hcnd _
  have hval : ∀ (j : Nat) t v, Try.f3.params[j]? = some t → args[j]? = some v → Value.okWide Try.prog W .any base t v := hval0
  have hW' := hW
  obtain ⟨p, q, hA0, hV, rfl, hfz, hnd⟩ := hW
  have hA : DataW.TrodAll enc Try.prog W 0 (fun _ => true) true Try.f3.params.toList args.toList ds p := hA0
  rw [Try.params3] at hA hval
  obtain ⟨v0, vs0, d0, ds0, p0, q0, hargs, rfl, rfl, h0, r0⟩ := trodAll_cons hA
  obtain ⟨rfl, rfl, rfl⟩ := trodAll_nil r0
  obtain rfl : args = #[v0] := by cases args; simp_all
  obtain ⟨rfl, rfl⟩ := trodVars_none hV
  obtain ⟨a0, len0, cap0, rfl⟩ := okWide_slice Try.underlying22 (hval 0 22 v0 rfl rfl)
  have k0 := h0
  have lt0 : ∀ x ∈ p0, x.block < W.heap.size := by obtain ⟨m, hm⟩ := k0; exact DataW.trod_lt m _ _ _ hm
  obtain ⟨b0, w0⟩ : ∃ bs, Sl W a0 len0 bs := by
    obtain ⟨fuel, hf⟩ := h0
    rcases open_ints Try.underlying22 Try.underlying5 (by kernel_rfl) hf with ⟨hcs, _⟩ | ⟨x, l, c, zs, hcs, _, hl, hm, hz, _, hcell, hwz⟩
    · simp [Value.cells] at hcs
      obtain ⟨rfl, rfl, rfl⟩ := hcs
      exact ⟨[], sl_nil _ _⟩
    · simp [Value.cells] at hcs
      obtain ⟨rfl, rfl, rfl⟩ := hcs
      exact ⟨_, sl_of_ints hl hm (by simpa using hz) hcell hwz⟩
  clear hA0 hval0
  refine (walk a0 len0 cap0 b0 W w0).mono fun e W' ⟨he, bel⟩ => ?_
  subst he
  exact ⟨_, rfl, _, _, _, [], _, [], hW', trodAll_mk1 (shut_bool Try.underlying4 _), (trodAll_cons_mk (Below.trod laidOut (by kernel_rfl) (of_decide_eq_true (by kernel_rfl)) k0 bel lt0) trodAll_mk0), rfl, bel.frame _, fun h => by cases h⟩

theorem over : Rows.fnReplayedRow.holds Try.pinned (OpenSpec.ofChange Rows.fnReplayedSpec) :=
  OpenClaim.holds_of_wide 3 Try.f3 rfl rfl rfl rfl rfl rfl rfl ⟨rfl, rfl, rfl, rfl, rfl⟩ rfl rfl rfl rfl rfl (by kernel_rfl) Try.func3 (by kernel_rfl)
    (of_decide_eq_true (by kernel_rfl)) (by unfold Func.isWrapper; first | (rw [if_pos (by decide +kernel)]; kernel_rfl) | (rw [if_neg (by decide +kernel)]; exact ⟨rfl, rfl⟩))
    (fun os started H enc _ => lifted os started H enc)

theorem proved : Rows.FnReplayedSaid := over
end Go.Proofs.Ytdgolhcekomcmaa.fnReplayed
