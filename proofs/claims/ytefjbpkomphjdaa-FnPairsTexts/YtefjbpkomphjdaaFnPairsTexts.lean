/- The statement FnPairsTextsSaid: at every slice of bytes FnPairsTexts answers true, and the slice reads afterwards as before. No condition besides the row's own. -/
import Derived.Test.YtefjbpkomphjdaaRows
import Derived.Test.YtefjbpkomphjdaaShaa
import Derived.Test.YtefjbpkomphjdaaShad
import Derived.ProofKit
import Derived.OpenShut
import Derived.ShutString
import Derived.ChangeOld
import Derived.Below
namespace Go.Proofs.Ytefjbpkomphjdaa.fnPairsTexts
open Go.ChangeShapes Go.WideShapes Go.ChangeAt Go.RowKit
open Go.ChangeMaps (open_string shut_string)
set_option linter.unusedVariables false
open Go.Proofs.Ytefjbpkomphjdaa.base Go.Proofs.Ytefjbpkomphjdaa.pairs Go.Proofs.Ytefjbpkomphjdaa.ords Go.Proofs.Ytefjbpkomphjdaa.txts

theorem od_named : ([] : List ords.Od) = [] := rfl
theorem tiny_sum (l : List Pr) (h : ∀ p ∈ l, nb.tiny p) : (l.map fun p => p.1.size + p.2.size).sum ≤ 34 * l.length := by
  induction l with
  | nil => simp
  | cons p l ih =>
    have h1 := ih (fun q hq => h q (List.mem_cons_of_mem _ hq))
    have h2 := h p List.mem_cons_self
    unfold nb.tiny at h2
    simp only [List.map_cons, List.sum_cons, List.length_cons]
    omega
theorem blKeys_le (l : List Pr) (h : ∀ p ∈ l, p.1.size ≤ 13) : blKeys l ≤ 13 * l.length := by
  induction l with
  | nil => exact Nat.le_refl _
  | cons p l ih =>
    have h1 := ih (fun q hq => h q (List.mem_cons_of_mem _ hq))
    have h2 := h p List.mem_cons_self
    have h3 := bl_le p.1.data.toList
    rw [size_len] at h3
    unfold blKeys at h1 ⊢
    simp only [List.map_cons, List.sum_cons, List.length_cons]
    omega
theorem toList_ne {T : ByteArray} (h : T.data.toList ≠ []) : ¬ T.toList = [] ∧ T.toList.isEmpty = false := by
  rw [ByteArray.toList_eq]
  exact ⟨h, by rw [Bool.eq_false_iff]; intro e; exact h (List.isEmpty_iff.1 e)⟩

set_option maxRecDepth 100000 in
set_option maxHeartbeats 4000000 in
theorem walk (a0 : Option Addr) (len0 cap0 : Nat) (b0 : List UInt8) (w : World) (w0 : Sl w a0 len0 b0) :
    Calls Try.prog 5 #[.slice a0 len0 cap0] w fun e w' => e = .returned (.bool true) ∧ Below w.heap.size w w' := by
  have hm := w0.2.1
  by_cases hbig : 1048576 < len0
  · have hb := big_ a0 len0 cap0 w hm
    rw [decide_eq_true (by omega)] at hb
    have HB := Hid.mk' hb
    clear hb
    go_enter Try.func5, Try.ntmps5
    go_wp2_with fail
    refine HB.out.mono ?_
    rintro e wa ⟨rfl, rfl⟩
    go_wp2_with fail
    go_ret
    exact ⟨rfl, Below.refl _ _⟩
  · have hb := big_ a0 len0 cap0 w hm
    rw [decide_eq_false (by omega)] at hb
    have HB := Hid.mk' hb
    clear hb
    go_enter Try.func5, Try.ntmps5
    go_wp2_with fail
    refine HB.out.mono ?_
    rintro e wa ⟨rfl, hwa⟩
    subst hwa
    clear HB
    go_wp2_with fail
    refine (nb.drawPairsText a0 len0 cap0 b0 _ w0 (by omega)).mono ?_
    rintro e w1 ⟨g, n, cp, l, hn, htl, rfl, hL1, hB1⟩
    have hnl := hL1.1
    have hrm : room (l.map prText) ≤ 400 := by have h1 := prs_room l; have h2 := tiny_sum l htl; omega
    have HI := Hid.mk' (impl_pairsText g n cp l w1 hL1.sl (by omega) (by omega))
    have hSL := hL1.sl
    have hsz := join_room (l.map prText)
    have HKZ : Hid (∀ p ∈ l, p.1.size ≤ 13) := fun p hp => (htl p hp).1
    have HBP : Hid (l ≠ [] → bl (pairsText l) + 1 = blKeys l + l.length) := bl_prs l (fun p hp => (htl p hp).2.2)
    obtain ⟨T, hT⟩ : ∃ T : ByteArray, (⟨(pairsText l).toArray⟩ : ByteArray) = T := ⟨_, rfl⟩
    have hTl : T.data.toList = pairsText l := by rw [← hT]
    have hTs : T.size ≤ 500 := by
      rw [← size_len, hTl]
      unfold pairsText
      split
      · decide
      · omega
    rw [hT] at HI
    have HS : Hid (∀ wx, Below w1.heap.size w1 wx → Calls Try.prog 20 #[.slice (some ⟨g, 0, none⟩) n cp] wx fun e w' => e = .returned (.string T) ∧ Below wx.heap.size wx w') := fun wx hx => by
      have := spec_pairsText g n cp l wx (hSL.below hx) (by omega)
      rw [hT] at this
      exact this
    obtain ⟨hne, hne2⟩ := toList_ne (T := T) (by rw [hTl]; exact pairs_ne l)
    have hTT : (T.toList == T.toList) = true := by simp
    have HTL := Hid.mk' hTl
    clear hT htl hL1 hsz hrm hTl
    go_wp2_with fail
    refine HI.out.mono ?_
    rintro e w2 ⟨rfl, hb2⟩
    go_wp2_with fail
    go_loopw [5, 6] (fun c i wr => ∃ (k m : Nat), k ≤ T.size ∧ m ≤ k ∧ c = .int .i64 (m : Int) ∧ i = .int .i64 (k : Int) ∧ m + bl (T.data.toList.drop k) = bl T.data.toList ∧ Below w1.heap.size w1 wr) (fun _ i _ => T.size - (intOf i).toNat)
    case atStart => exact ⟨0, 0, Nat.zero_le _, Nat.le_refl _, rfl, rfl, by rw [List.drop_zero]; omega, hb2⟩
    case round =>
      obtain ⟨k, m, hk, hmk, rfl, rfl, hsum, hB⟩ := hrel
      by_cases hlt : k < T.size
      · have hki : (k : Int) < (T.size : Int) := by omega
        have hd := bl_drop T k hlt
        by_cases hc : T[k] = 32
        · rw [if_pos hc] at hd
          have hcb : ((T[k].toNat : Int) == 32) = true := by rw [hc]; rfl
          go_wp2_with fail
          go_roundw
          case rel => exact ⟨k + 1, m + 1, by omega, by omega, by go_num, by go_num, by omega, hB⟩
          case measure => simp [intOf]; omega
        · rw [if_neg hc] at hd
          have hcn : ¬ T[k].toNat = 32 := fun e => hc (UInt8.toNat_inj.1 e)
          have hcb : ((T[k].toNat : Int) == 32) = false := by rw [beq_eq_false_iff_ne]; omega
          go_wp2_with fail
          go_roundw
          case rel => exact ⟨k + 1, m, by omega, by omega, rfl, by go_num, by omega, hB⟩
          case measure => simp [intOf]; omega
      · have hki : ¬ (k : Int) < (T.size : Int) := by omega
        have hm0 : m = bl T.data.toList := by rw [← hsum, List.drop_eq_nil_of_le (by rw [size_len]; omega)]; rfl
        have hmb := bl_le T.data.toList
        rw [size_len] at hmb
        have HM0 := Hid.mk' hm0
        have hm500 : m ≤ 500 := by omega
        have hbk := blKeys_le l HKZ.out
        clear hsum hb2 hm0 hmb hmk hk
        go_wp2_with fail
        go_loopw [5, 7] (fun c i wr => ∃ (k : Nat) (z : Int), k ≤ l.length ∧ c = .int .i64 z ∧ i = .int .i64 (k : Int) ∧ z - (blKeys (l.drop k) : Int) = (m : Int) - (blKeys l : Int) ∧ Below w1.heap.size w1 wr) (fun _ i _ => l.length - (intOf i).toNat)
        case atStart => exact ⟨0, m, Nat.zero_le _, rfl, rfl, by rw [List.drop_zero], hB⟩
        case round =>
          obtain ⟨j, z, hj, rfl, rfl, hz, hBj⟩ := hrel
          clear hB
          have hbd := blKeys_le (l.drop j) (fun p hp => HKZ.out p (List.mem_of_mem_drop hp))
          rw [List.length_drop] at hbd
          by_cases hjl : j < l.length
          · have hji : (j : Int) < (n : Int) := by omega
            have hkd := blKeys_drop l j hjl
            have hkz := HKZ.out _ (List.getElem_mem hjl)
            have hbk2 := bl_le l[j].1.data.toList
            rw [size_len] at hbk2
            obtain ⟨key, hkey⟩ : ∃ key, l[j].1 = key := ⟨_, rfl⟩
            have HC : Hid (∀ wx, Below w1.heap.size w1 wx → wx.cell? ⟨g, j * 2, none⟩ = some (.string key)) := fun wx hx => by
              have := (hSL.below hx).cells j hjl
              rw [Nat.zero_add] at this
              rw [← hkey]; exact this.1
            rw [hkey] at hkd hkz hbk2
            clear hkey
            go_wp2_with fail
            go_loopw [5, 8] (fun c i wr => ∃ (x : Nat) (y : Int), x ≤ key.size ∧ c = .int .i64 y ∧ i = .int .i64 (x : Int) ∧ y - (bl (key.data.toList.drop x) : Int) = z - (bl key.data.toList : Int) ∧ Below w1.heap.size w1 wr) (fun _ i _ => key.size - (intOf i).toNat)
            case atStart => exact ⟨0, z, Nat.zero_le _, rfl, rfl, by rw [List.drop_zero], hBj⟩
            case round =>
              obtain ⟨x, y, hx, rfl, rfl, hy, hBx⟩ := hrel
              clear hBj
              have c0 := HC.out _ hBx
              have hbx := bl_le (key.data.toList.drop x)
              rw [List.length_drop, size_len] at hbx
              by_cases hxl : x < key.size
              · have hxi : (x : Int) < (key.size : Int) := by omega
                have hd := bl_drop key x hxl
                by_cases hc : key[x] = 32
                · rw [if_pos hc] at hd
                  have hcb : ((key[x].toNat : Int) == 32) = true := by rw [hc]; rfl
                  go_wp2_with fail
                  go_roundw
                  case rel => exact ⟨x + 1, y - 1, by omega, by go_num, by go_num, by omega, hBx⟩
                  case measure => simp [intOf]; omega
                · rw [if_neg hc] at hd
                  have hcn : ¬ key[x].toNat = 32 := fun e => hc (UInt8.toNat_inj.1 e)
                  have hcb : ((key[x].toNat : Int) == 32) = false := by rw [beq_eq_false_iff_ne]; omega
                  go_wp2_with fail
                  go_roundw
                  case rel => exact ⟨x + 1, y, by omega, rfl, by go_num, by omega, hBx⟩
                  case measure => simp [intOf]; omega
              · have hxi : ¬ (x : Int) < (key.size : Int) := by omega
                have hd0 : bl (key.data.toList.drop x) = 0 := by rw [List.drop_eq_nil_of_le (by rw [size_len]; omega)]; rfl
                go_wp2_with fail
                go_roundw
                case rel => exact ⟨j + 1, y, by omega, rfl, by go_num, by omega, hBx⟩
                case measure => simp [intOf]; omega
          · have hji : ¬ (j : Int) < (n : Int) := by omega
            have hd0 : blKeys (l.drop j) = 0 := by rw [List.drop_eq_nil_of_le (by omega)]; rfl
            have HS2 := Hid.mk' (HS.out _ hBj)
            by_cases hl0 : l = []
            · have hz0 : z = 0 := by
                have e1 : blKeys l = 0 := by rw [hl0]; rfl
                have e2 : bl T.data.toList = 0 := by rw [HTL.out, hl0]; decide
                have := HM0.out
                omega
              have hn0 : n = 0 := by rw [← hnl, hl0]; rfl
              subst hz0 hn0
              clear hz hd0 hbd hbk
              go_wp2_with fail
              refine HS2.out.mono ?_
              rintro e w5 ⟨rfl, hb5⟩
              go_wp2_with fail
              go_ret
              exact ⟨rfl, hB1.trans ((hBj.trans (hb5.mono hBj.size)).mono hB1.size)⟩
            · have hz0 : z = (n : Int) - 1 := by
                have e1 := HBP.out hl0
                have := HM0.out
                rw [HTL.out] at this
                omega
              have hn0 : 0 < n := by have := List.length_pos_iff.2 hl0; omega
              have hni : (0 : Int) < (n : Int) := by omega
              have hni2 : ¬ (n : Int) = 0 := by omega
              have hni3 : ((n : Int) == 0) = false := by rw [beq_eq_false_iff_ne]; omega
              have hni4 : (((n : Int) - 1) == ((n : Int) - 1)) = true := by simp
              subst hz0
              clear hz hd0 hbd hbk
              go_wp2_with fail
              refine HS2.out.mono ?_
              rintro e w5 ⟨rfl, hb5⟩
              go_wp2_with fail
              go_ret
              exact ⟨rfl, hB1.trans ((hBj.trans (hb5.mono hBj.size)).mono hB1.size)⟩

theorem own : ownKnob Try.prog.godebug = none := by kernel_rfl
theorem laidOut : laidOutB Try.prog = true := by kernel_rfl

set_option maxRecDepth 100000 in
theorem lifted (os : Os) (started : os.Started) (H : Type) (enc : TypeId × Value → H) :
    ReturnsInHanded {} Try.checked os 5 .any (Rows.fnPairsTextsSpec.pre6 enc Try.prog Try.f5 Rows.fnPairsTextsRow.domain false) (Rows.fnPairsTextsSpec.post enc Try.prog Try.f5 false true false false) := by
  refine returnsInHanded_of_change (C := Try.checked) own started (by kernel_rfl) Try.func5
    (ChangeSpec.witness6 (enc := enc) (C := Try.checked) false ⟨#[], #[.slice none 0 0], []⟩ 8 (by kernel_rfl) (by kernel_rfl) (by kernel_rfl) (by kernel_rfl)) ?_
  intro W base args ds gs before hval0 hW hcnd _
  have hval : ∀ (j : Nat) t v, Try.f5.params[j]? = some t → args[j]? = some v → Value.okWide Try.prog W .any base t v := hval0
  have hW' := hW
  obtain ⟨p, q, hA0, hV, rfl, hfz, hnd⟩ := hW
  have hA : DataW.TrodAll enc Try.prog W 0 (fun _ => true) true Try.f5.params.toList args.toList ds p := hA0
  rw [Try.params5] at hA hval
  obtain ⟨v0, vs0, d0, ds0, p0, q0, hargs, rfl, rfl, h0, r0⟩ := trodAll_cons hA
  obtain ⟨rfl, rfl, rfl⟩ := trodAll_nil r0
  obtain rfl : args = #[v0] := by cases args; simp_all
  obtain ⟨rfl, rfl⟩ := trodVars_none hV
  obtain ⟨a0, len0, cap0, rfl⟩ := okWide_slice Try.underlying22 (hval 0 22 v0 rfl rfl)
  have k0 := h0
  have lt0 : ∀ x ∈ p0, x.block < W.heap.size := by obtain ⟨m, hm⟩ := k0; exact DataW.trod_lt m _ _ _ hm
  obtain ⟨b0, w0⟩ : ∃ bs, Sl W a0 len0 bs := by
    obtain ⟨fuel, hf⟩ := h0
    rcases open_ints Try.underlying22 Try.underlying5 (by kernel_rfl) hf with ⟨hcs, _⟩ | ⟨x, l, c, zs, hcs, _, hl, hm, hz, _, hcell, hwz⟩
    · simp [Value.cells] at hcs
      obtain ⟨rfl, rfl, rfl⟩ := hcs
      exact ⟨[], sl_nil _ _⟩
    · simp [Value.cells] at hcs
      obtain ⟨rfl, rfl, rfl⟩ := hcs
      exact ⟨_, sl_of_ints hl hm (by simpa using hz) hcell hwz⟩
  clear hA0 hval0
  refine (walk a0 len0 cap0 b0 W w0).mono fun e W' ⟨he, bel⟩ => ?_
  subst he
  exact ⟨_, rfl, _, _, _, [], _, [], hW', trodAll_mk1 (shut_bool Try.underlying4 _), (trodAll_cons_mk (Below.trod laidOut (by kernel_rfl) (of_decide_eq_true (by kernel_rfl)) k0 bel lt0) trodAll_mk0), rfl, bel.frame _, fun h => by cases h⟩

theorem over : Rows.fnPairsTextsRow.holds Try.pinned (OpenSpec.ofChange Rows.fnPairsTextsSpec) :=
  OpenClaim.holds_of_wide 5 Try.f5 rfl rfl rfl rfl rfl rfl rfl ⟨rfl, rfl, rfl, rfl, rfl⟩ rfl rfl rfl rfl rfl (by kernel_rfl) Try.func5 (by kernel_rfl)
    (of_decide_eq_true (by kernel_rfl)) (by unfold Func.isWrapper; first | (rw [if_pos (by decide +kernel)]; kernel_rfl) | (rw [if_neg (by decide +kernel)]; exact ⟨rfl, rfl⟩))
    (fun os started H enc _ => lifted os started H enc)

theorem proved : Rows.FnPairsTextsSaid := over
end Go.Proofs.Ytefjbpkomphjdaa.fnPairsTexts
