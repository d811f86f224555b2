/- The program's orders, read of bytes. -/
import Derived.Test.YtjodbijcgcjndaaBund10av
import Derived.Test.YtjodbijcgcjndaaBund10ax
namespace Go.Proofs.Ytjodbijcgcjndaa.ords
open Go Go.RowKit Go.Proofs.Ytjodbijcgcjndaa.base Go.Proofs.Ytjodbijcgcjndaa.pairs Go.Proofs.Ytjodbijcgcjndaa.putnum Go.Proofs.Ytjodbijcgcjndaa.puttext Go.Proofs.Ytjodbijcgcjndaa.getnum Go.Proofs.Ytjodbijcgcjndaa.gettext Go.Proofs.Ytjodbijcgcjndaa.gettexts
set_option linter.unusedVariables false
set_option linter.unusedSimpArgs false

def opRet : Option (Od × Nat) → Value
  | none => .tuple #[.agg #[.int .i64 0, .string ⟨#[]⟩, .string ⟨#[]⟩], .int .i64 0, .bool false]
  | some (o, q) => .tuple #[.agg #[.int .i64 o.1, .string o.2.1, .string o.2.2], .int .i64 (q : Nat), .bool true]
theorem getOp_room {bs : List UInt8} {p : Nat} {o : Od} {q : Nat} (h : getOp bs p = some (o, q)) : q ≤ bs.length ∧ o.2.1.size ≤ bs.length ∧ o.2.2.size ≤ bs.length ∧ (Lit.int .i64 o.1).wf = true := by
  unfold getOp at h
  split at h
  · cases h
  · next z ka hG =>
    split at h
    · cases h
    · next key kb hT =>
      split at h
      · cases h
      · next val kc hT2 =>
        cases h
        have h1 := getNum_some hG
        have h2 := getText_some hT
        have h3 := getText_some hT2
        exact ⟨h3.1, h2.2, h3.2, WalkArith.wf_i64 (by omega)⟩

set_option maxRecDepth 100000 in
set_option maxHeartbeats 2000000 in
theorem i_getOp (a : Option Addr) (len cap p : Nat) (bs : List UInt8) (w : World) (h : Sl w a len bs) (hcap : len ≤ cap) (hsz : len ≤ 1099511627776) (hp : p ≤ len) :
    Calls Try.prog 59 #[.slice a len cap, .int .i64 (p : Int)] w fun e w' => e = .returned (opRet (getOp bs p)) ∧ Below w.heap.size w w' := by
  have hl := h.1
  have hwf : (Lit.int .i64 (p : Int)).wf = true := WalkArith.wf_i64 (by omega)
  have hba : Below w.heap.size w (w.alloc (.cells #[.int .i64 0, .string ⟨#[]⟩, .string ⟨#[]⟩] 90)) := (Below.refl _ _).alloc (Nat.le_refl _) _
  have hS := h.below hba
  have HG := Hid.mk' (impl_get a len cap (p : Int) bs _ hS hwf)
  rcases hG : getNum bs (p : Int) with _ | ⟨z, ka⟩
  · rw [hG, numRet] at HG
    have HF := Hid.mk' (getOp_none1 hG)
    rw [HF.out]
    clear hG HF hS
    go_enter Try.func59, Try.ntmps59
    go_wp2_with fail
    refine HG.out.mono ?_
    rintro e w1 ⟨rfl, hw1⟩
    subst hw1
    go_wp2_with fail
    exact bodyPost_ret (v := opRet none) (by simp [opRet, results, Try.results59, go_sem]) rfl ⟨rfl, (Below.refl _ _).alloc (Nat.le_refl _) _⟩
  · have hgs := getNum_some hG
    simp only [Int.toNat_natCast] at hgs
    rw [hG, numRet] at HG
    rw [show (p : Int) + (ka : Int) = ((p + ka : Nat) : Int) by omega] at HG
    have HT1 := Hid.mk' (gettext.impl_text a len cap ((p + ka : Nat) : Int) bs _ hS hcap (WalkArith.wf_i64 (by omega)))
    rcases hT : getText bs ((p + ka : Nat) : Int) with _ | ⟨key, kb⟩
    · rw [hT, textRet] at HT1
      have HF := Hid.mk' (getOp_none2 hG hT)
      rw [HF.out]
      generalize p + ka = q at *
      clear hG hT HF hS
      go_enter Try.func59, Try.ntmps59
      go_wp2_with fail
      refine HG.out.mono ?_
      rintro e w1 ⟨rfl, hw1⟩
      subst hw1
      go_wp2_with fail
      refine HT1.out.mono ?_
      rintro e w1 ⟨rfl, hw1⟩
      subst hw1
      go_wp2_with fail
      exact bodyPost_ret (v := opRet none) (by simp [opRet, results, Try.results59, go_sem]) rfl ⟨rfl, (Below.refl _ _).alloc (Nat.le_refl _) _⟩
    · have hts := getText_some hT
      rw [hT, textRet] at HT1
      rw [show ((p + ka : Nat) : Int) + (kb : Int) = ((p + ka + kb : Nat) : Int) by omega] at HT1
      have HT2 := Hid.mk' (gettext.impl_text a len cap ((p + ka + kb : Nat) : Int) bs _ hS hcap (WalkArith.wf_i64 (by omega)))
      rcases hT2 : getText bs ((p + ka + kb : Nat) : Int) with _ | ⟨val, kc⟩
      · rw [hT2, textRet] at HT2
        have HF := Hid.mk' (getOp_none3 hG hT hT2)
        rw [HF.out]
        generalize p + ka + kb = r at *
        generalize p + ka = q at *
        clear hG hT hT2 HF hS
        go_enter Try.func59, Try.ntmps59
        go_wp2_with fail
        refine HG.out.mono ?_
        rintro e w1 ⟨rfl, hw1⟩
        subst hw1
        go_wp2_with fail
        refine HT1.out.mono ?_
        rintro e w1 ⟨rfl, hw1⟩
        subst hw1
        go_wp2_with fail
        refine HT2.out.mono ?_
        rintro e w1 ⟨rfl, hw1⟩
        subst hw1
        go_wp2_with fail
        exact bodyPost_ret (v := opRet none) (by simp [opRet, results, Try.results59, go_sem]) rfl ⟨rfl, (Below.refl _ _).alloc (Nat.le_refl _) _⟩
      · have hts2 := getText_some hT2
        rw [hT2, textRet] at HT2
        rw [show ((p + ka + kb : Nat) : Int) + (kc : Int) = ((p + ka + kb + kc : Nat) : Int) by omega] at HT2
        have HF := Hid.mk' (getOp_some3 hG hT hT2)
        rw [HF.out]
        generalize p + ka + kb + kc = s at *
        generalize p + ka + kb = r at *
        generalize p + ka = q at *
        clear hG hT hT2 HF hS hts hts2
        go_enter Try.func59, Try.ntmps59
        go_wp2_with fail
        refine HG.out.mono ?_
        rintro e w1 ⟨rfl, hw1⟩
        subst hw1
        go_wp2_with fail
        refine HT1.out.mono ?_
        rintro e w1 ⟨rfl, hw1⟩
        subst hw1
        go_wp2_with fail
        refine HT2.out.mono ?_
        rintro e w1 ⟨rfl, hw1⟩
        subst hw1
        go_wp2_with fail
        exact bodyPost_ret (v := opRet (some (((z : Int), key, val), s))) (by simp [opRet, results, Try.results59, go_sem]) rfl ⟨rfl, (Below.refl _ _).alloc (Nat.le_refl _) _⟩

set_option maxRecDepth 100000 in
set_option maxHeartbeats 4000000 in
theorem impl_getOps (a : Option Addr) (len cap : Nat) (bs : List UInt8) (w : World) (h : Sl w a len bs) (hcap : len ≤ cap) (hsz : len ≤ 1099511627776) :
    Calls Try.prog 36 #[.slice a len cap] w fun e w' => GetPost w (getOps bs) e w' := by
  have hl := h.1
  have hba : Below w.heap.size w (w.alloc (.cells #[] 90)) := (Below.refl _ _).alloc (Nat.le_refl _) _
  have hON := ownO_made w w.heap.size (Nat.le_refl _)
  have HG := Hid.mk' (impl_get a len cap 0 bs w h (by rfl))
  rcases hG : getNum bs 0 with _ | ⟨n, k⟩
  · have HF : Hid (getOps bs = none) := by show _ = _; unfold getOps; rw [hG]
    rw [hG, numRet] at HG
    clear hG
    go_enter Try.func36, Try.ntmps36
    go_wp2_with fail
    refine HG.out.mono ?_
    rintro e w1 ⟨rfl, hw1⟩
    subst hw1
    go_wp2_with fail
    go_ret2
    exact getPost_none hON hba HF.out
  · obtain ⟨h0, hk1, hk5, hle, hn9⟩ := getNum_some hG
    simp only [Int.toNat_zero, Nat.zero_add] at hle
    rw [hG, numRet] at HG
    simp only [Int.zero_add] at HG
    by_cases hbig : 8 < n
    · have HF : Hid (getOps bs = none) := by show _ = _; unfold getOps; rw [hG]; simp only []; rw [if_pos hbig]
      clear hG
      go_enter Try.func36, Try.ntmps36
      go_wp2_with fail
      refine HG.out.mono ?_
      rintro e w1 ⟨rfl, hw1⟩
      subst hw1
      go_wp2_with fail
      go_ret2
      exact getPost_none hON hba HF.out
    · have HRES : Hid (getOps bs = match readOps bs n k [] with | none => none | some (l, p) => if p = bs.length ∧ opsOk l = true then some l else none) := by show _ = _; unfold getOps; rw [hG]; simp only []; rw [if_neg hbig]; rfl
      clear hG
      generalize hR : readOps bs n k [] = R at *
      have HR := Hid.mk' hR
      clear hR
      obtain ⟨i0, hi, hz0, hz1, hz2⟩ := info_parts infoO
      go_enter Try.func36, Try.ntmps36
      go_wp2_with fail
      refine HG.out.mono ?_
      rintro e w1 ⟨rfl, hw1⟩
      subst hw1
      clear HG
      go_wp2_with fail
      go_loopw [5, 7, 26] (fun pv lv iv wr => ∃ (j p g' cp : Nat) (acc : List Od), pv = .int .i64 (p : Int) ∧ lv = .slice (some ⟨g', 0, none⟩) j cp ∧ iv = .int .i64 (j : Int) ∧ j ≤ n ∧ p ≤ bs.length ∧ (∀ o ∈ acc, o.2.1.size ≤ bs.length) ∧ OwnO wr w1.heap.size g' j cp acc ∧ Below w1.heap.size w1 wr ∧ readOps bs (n - j) p acc = R) (fun _ _ iv _ => n - (intOf iv).toNat)
      case atStart => exact ⟨0, k, w1.heap.size, 0, [], by go_num, rfl, rfl, Nat.zero_le _, hle, fun o ho => absurd ho List.not_mem_nil, hON, hba, by simpa using HR.out⟩
      case round =>
        clear hba hON HR
        obtain ⟨j, p, g', cp, acc, rfl, rfl, rfl, hj, hp, hacc, hO, hB, hr⟩ := hrel
        have hS := h.below hB
        by_cases hlt : j < n
        · have hji : (j : Int) < (n : Int) := by omega
          have hrd : readOps bs (n - j) p acc = match getOp bs p with | none => none | some (o, q) => readOps bs (n - (j + 1)) q (acc ++ [o]) := by
            rw [show n - j = (n - (j + 1)) + 1 by omega, readOps]; rfl
          rw [hr] at hrd
          have HG := Hid.mk' (i_getOp a len cap p bs wr hS hcap hsz (by omega))
          rcases hG : getOp bs p with _ | ⟨o, q⟩
          · have HF : Hid (getOps bs = none) := by show _ = _; rw [HRES.out, hrd, hG]
            rw [hG, opRet] at HG
            clear hG hrd hr hS
            go_wp2_with fail
            refine HG.out.mono ?_
            rintro e w2 ⟨rfl, hb2⟩
            have hB2 := hB.trans (hb2.mono hB.size)
            have hB3 := hB2.alloc hB2.size (.cells #[.int .i64 0, .string ⟨#[]⟩, .string ⟨#[]⟩] 90)
            have hB4 := hB3.alloc hB3.size (.cells #[] 90)
            have hO4 := ownO_made (w2.alloc (.cells #[.int .i64 0, .string ⟨#[]⟩, .string ⟨#[]⟩] 90)) w1.heap.size hB3.size
            have hsz3 : (w2.alloc (.cells #[.int .i64 0, .string ⟨#[]⟩, .string ⟨#[]⟩] 90)).heap.size = w2.heap.size + 1 := by simp
            rw [hsz3] at hO4
            clear hsz3
            go_wp2_with fail
            go_ret2
            exact getPost_none hO4 hB4 HF.out
          · have hrm := getOp_room hG
            rw [hG, opRet] at HG
            have HNX : Hid (readOps bs (n - (j + 1)) q (acc ++ [o]) = R) := by show _ = _; rw [hrd, hG]
            have hqq : q ≤ bs.length := hrm.1
            have hsmO : smallO o := ⟨hrm.2.2.2, by unfold maxLen; omega, by unfold maxLen; omega⟩
            have hc3 : j + 1 ≤ maxLen := by unfold maxLen; omega
            have hc4 : (j + 1) * 40 ≤ 140737488355328 := by omega
            have hacc2 : Hid (∀ x ∈ acc ++ [o], x.2.1.size ≤ bs.length) := by
              intro x hx
              rcases List.mem_append.1 hx with h1 | h1
              · exact hacc x h1
              · simp at h1; subst h1; exact hrm.2.1
            clear hG hrd hr hS hrm hacc
            go_wp2_with (at_builtin; fail)
            refine HG.out.mono ?_
            rintro e w2 ⟨rfl, hb2⟩
            have hB2 := hB.trans (hb2.mono hB.size)
            have hO2 := hO.below hb2
            have hB3 := hB2.alloc hB2.size (.cells #[.int .i64 o.1, .string o.2.1, .string o.2.2] 90)
            have hO3 := hO2.below ((Below.refl _ _).alloc (Nat.le_refl _) (.cells #[.int .i64 o.1, .string o.2.1, .string o.2.2] 90))
            have hbw := hB3.size
            have hsz3 : (w2.alloc (.cells #[.int .i64 o.1, .string o.2.1, .string o.2.2] 90)).heap.size = w2.heap.size + 1 := by simp
            have hoc := one_ord_cells (w2.alloc (.cells #[.int .i64 o.1, .string o.2.1, .string o.2.2] 90)) o 90
            rw [hsz3] at hoc
            have HOC := Hid.mk' hoc
            clear hb2 hB hB2 hO hO2 HG hsz3 hoc
            go_wp2_with (at_builtin; refine wpList_append_own _ rfl (.tmp 38) (.tmp 40) 24 rfl w1.heap.size 90 i0 (.agg #[.int .i64 0, .string ⟨#[]⟩, .string ⟨#[]⟩]) 3 40 Try.underlying24 hi hz0 hz1 hz2 rfl (by decide) _ _ _ rfl (hO3.2.2.alloc _) ⟨w2.heap.size + 1, 0, none⟩ 1 1 (ordVals [o]) rfl rfl HOC.out (ordVals_oneCell _) hc3 hc4 (le_alloc _ _ hbw) ?_)
            intro v3 w3 hown hgrow hnn
            obtain ⟨g2, cp2, hv, hO2⟩ := ownO_app hO3.1 hO3.2.1 hsmO hnn hown
            subst hv
            have hB2 : Below w1.heap.size w1 w3 := (hB3.alloc hbw _).grown hgrow (le_alloc _ _ hbw) (fun k e => by simp [Value.ownBlock] at e; have := hO3.lt; omega)
            have HO2 := Hid.mk' hO2
            clear hown hgrow hnn hO2 hO3 hB3
            go_wp2_with (at_builtin; fail)
            go_roundw
            case rel => exact ⟨j + 1, q, g2, cp2, acc ++ [o], by go_num, rfl, by go_num, by omega, hqq, hacc2.out, HO2.out, hB2, HNX.out⟩
            case measure => simp [intOf]; omega
        · have hjn : j = n := by omega
          have hR2 : R = some (acc, p) := by rw [← hr, hjn, Nat.sub_self, readOps]
          by_cases hpl : p = bs.length
          · have HOK := Hid.mk' (impl_opsOk g' 0 j cp acc wr hO.sl (fun o ho => Nat.le_trans (hacc o ho) (by omega)))
            have hpe : p = len := by omega
            cases hok : opsOk acc
            · rw [hok] at HOK
              have HF : Hid (getOps bs = none) := by show _ = _; rw [HRES.out, hR2]; simp [hok]
              clear hok hR2 hr hpl hjn
              subst hpe
              go_wp2_with fail
              refine HOK.out.mono ?_
              rintro e w2 ⟨rfl, hb2⟩
              have hB2 := hB.trans (hb2.mono hB.size)
              have hO4 := ownO_made w2 w1.heap.size hB2.size
              go_wp2_with fail
              go_ret2
              exact getPost_none hO4 (hB2.alloc hB2.size _) HF.out
            · rw [hok] at HOK
              have HF : Hid (getOps bs = some acc) := by show _ = _; rw [HRES.out, hR2]; simp [hok, hpl]
              clear hok hR2 hr hpl hjn
              subst hpe
              go_wp2_with fail
              refine HOK.out.mono ?_
              rintro e w2 ⟨rfl, hb2⟩
              have hO2 := hO.below hb2
              have hB2 := hB.trans (hb2.mono hB.size)
              go_wp2_with fail
              go_ret2
              rw [HF.out]
              exact ⟨g', j, cp, rfl, hO2, hB2⟩
          · have hpb : ¬ (p : Int) = (len : Int) := by omega
            have HF : Hid (getOps bs = none) := by show _ = _; rw [HRES.out, hR2]; simp [hpl]
            have hO4 := ownO_made wr w1.heap.size hB.size
            clear hR2 hr hpl hjn
            go_wp2_with fail
            go_ret2
            exact getPost_none hO4 (hB.alloc hB.size _) HF.out
end Go.Proofs.Ytjodbijcgcjndaa.ords
