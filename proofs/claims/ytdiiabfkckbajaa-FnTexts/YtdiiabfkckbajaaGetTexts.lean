/- Reading a list of texts: the program's and the specification's GetTexts answer as one and the same function. -/
import Derived.Test.YtdiiabfkckbajaaGetText
import Derived.Test.YtdiiabfkckbajaaHelpS
namespace Go.Proofs.Ytdiiabfkckbajaa.gettexts
open Go.RowKit Go.Proofs.Ytdiiabfkckbajaa.base Go.Proofs.Ytdiiabfkckbajaa.help Go.Proofs.Ytdiiabfkckbajaa.helps Go.Proofs.Ytdiiabfkckbajaa.getnum Go.Proofs.Ytdiiabfkckbajaa.gettext
set_option linter.unusedVariables false
set_option linter.unusedSimpArgs false

def readTexts (bs : List UInt8) : Nat → Nat → List ByteArray → Option (List ByteArray × Nat)
  | 0, p, acc => some (acc, p)
  | c + 1, p, acc =>
    match getText bs (p : Int) with
    | none => none
    | some (s, k) => readTexts bs c (p + k) (acc ++ [s])
def getTexts (bs : List UInt8) (at_ : Int) : Option (List ByteArray × Nat) :=
  match getNum bs at_ with
  | none => none
  | some (n, k) => if 200 < n then none else readTexts bs n (at_.toNat + k) []
def resT : Option (List ByteArray × Nat) → List ByteArray
  | none => []
  | some (ss, _) => ss
def resP : Option (List ByteArray × Nat) → Int
  | none => 0
  | some (_, p) => (p : Int)
def resB : Option (List ByteArray × Nat) → Bool
  | none => false
  | some _ => true

theorem getText_some {bs : List UInt8} {p : Nat} {s : ByteArray} {k : Nat} (h : getText bs (p : Int) = some (s, k)) : p + k ≤ bs.length ∧ s.size ≤ bs.length := by
  unfold getText at h
  split at h
  · simp at h
  · rename_i n k' hG
    have hg := getNum_some hG
    simp only [Int.toNat_natCast] at h hg
    split at h
    · simp at h
    · simp only [Option.some.injEq, Prod.mk.injEq] at h
      obtain ⟨rfl, rfl⟩ := h
      refine ⟨by omega, ?_⟩
      rw [cut_size bs _ _ (by omega)]
      omega
theorem ownS_val {w' : World} {base n : Nat} {v' : Value} {ss : List ByteArray} (hl : ss.length = n) (hs : ∀ s ∈ ss, s.size ≤ maxLen) (h0 : ¬ v' = .slice none 0 0)
    (h : w'.ownsRow base 9 1 v' n (strVals ss)) : ∃ g' cap', v' = .slice (some ⟨g', 0, none⟩) n cap' ∧ OwnS w' base g' n cap' ss := by
  rcases h.2 with ⟨h2, _⟩ | ⟨g', cap', cur, hv, _⟩
  · exact absurd h2 h0
  · subst hv
    exact ⟨g', cap', rfl, hl, hs, h⟩
theorem ownS_made (w : World) (base : Nat) (hb : base ≤ w.heap.size) : OwnS (w.alloc (.cells #[] 9)) base w.heap.size 0 0 [] :=
  ⟨rfl, fun s h => absurd h List.not_mem_nil, World.ownsRow_made w #[] 0 hb (Nat.zero_le _) rfl⟩
theorem str_oneCell (x : ByteArray) : ∀ u ∈ [Value.string x], u.oneCell' = true := by
  intro u hu; simp at hu; subst hu; rfl
theorem leAlloc {base : Nat} (w : World) (o : Obj) (h : base ≤ w.heap.size) : base ≤ (w.alloc o).heap.size := by simp; omega
theorem strVals_snoc (ss : List ByteArray) (s : ByteArray) : strVals (ss ++ [s]) = strVals ss ++ [.string s] := by simp [strVals]

set_option maxRecDepth 100000 in
set_option maxHeartbeats 1000000 in
theorem impl_texts (a : Option Addr) (len cap : Nat) (at_ : Int) (bs : List UInt8) (w : World) (h : Sl w a len bs) (hcap : len ≤ cap) (hat : (Lit.int .i64 at_).wf = true) :
    Calls Try.prog 21 #[.slice a len cap, .int .i64 at_] w fun e w' =>
      ∃ g n cp, e = .returned (.tuple #[.slice (some ⟨g, 0, none⟩) n cp, .int .i64 (resP (getTexts bs at_)), .bool (resB (getTexts bs at_))]) ∧ OwnS w' w.heap.size g n cp (resT (getTexts bs at_)) ∧ Below w.heap.size w w' := by
  have hl := h.1
  have hm := h.2.1
  unfold maxLen at hm
  rcases hG : getNum bs at_ with _ | ⟨n, k⟩
  · have HF : Hid (getTexts bs at_ = none) := by show _ = _; unfold getTexts; rw [hG]
    have HG := Hid.mk' hG
    clear hG
    go_enter Try.func21, Try.ntmps21
    go_wp2_with fail
    refine (impl_get a len cap at_ bs _ h hat).mono ?_
    rintro e w1 ⟨he, rfl⟩
    rw [HG.out, numRet] at he
    subst he
    go_wp2_with fail
    go_ret3
    rw [HF.out]
    exact ⟨_, _, _, rfl, ownS_made _ _ (Nat.le_refl _), (Below.refl _ _).alloc (Nat.le_refl _) _⟩
  · obtain ⟨h0, hk1, hk5, hle, hn9⟩ := getNum_some hG
    obtain ⟨A, rfl⟩ := Int.eq_ofNat_of_zero_le h0
    simp only [Int.toNat_natCast] at hle
    have HG := Hid.mk' hG
    by_cases hbig : 200 < n
    · have HF : Hid (getTexts bs (A : Int) = none) := by show _ = _; unfold getTexts; rw [hG]; simp only []; rw [if_pos hbig]
      clear hG
      go_enter Try.func21, Try.ntmps21
      go_wp2_with fail
      refine (impl_get a len cap _ bs _ h hat).mono ?_
      rintro e w1 ⟨he, rfl⟩
      rw [HG.out, numRet] at he
      subst he
      go_wp2_with fail
      go_ret3
      rw [HF.out]
      exact ⟨_, _, _, rfl, ownS_made _ _ (Nat.le_refl _), (Below.refl _ _).alloc (Nat.le_refl _) _⟩
    · have hres : getTexts bs (A : Int) = readTexts bs n (A + k) [] := by unfold getTexts; rw [hG]; simp only [Int.toNat_natCast]; rw [if_neg hbig]
      clear hG
      rw [hres]
      clear hres
      generalize hR : readTexts bs n (A + k) [] = R
      have HR := Hid.mk' hR
      clear hR
      obtain ⟨i0, hi, hz0, hz1, hz2⟩ := info_parts info9
      go_enter Try.func21, Try.ntmps21
      go_wp2_with fail
      refine (impl_get a len cap _ bs _ h hat).mono ?_
      rintro e w1 ⟨he, hw1⟩
      subst hw1
      rw [HG.out, numRet] at he
      subst he
      go_wp2_with fail
      go_loopw [8, 10, 30] (fun pv lv iv wr => ∃ (j p g' cp : Nat) (acc : List ByteArray), pv = .int .i64 (p : Int) ∧ lv = .slice (some ⟨g', 0, none⟩) j cp ∧ iv = .int .i64 (j : Int) ∧ j ≤ n ∧ p ≤ bs.length ∧ OwnS wr w1.heap.size g' j cp acc ∧ Below w1.heap.size w1 wr ∧ readTexts bs (n - j) p acc = R) (fun _ _ iv _ => n - (intOf iv).toNat)
      case atStart => exact ⟨0, A + k, w1.heap.size, 0, [], by go_num, rfl, rfl, Nat.zero_le _, hle, ownS_made _ _ (Nat.le_refl _), (Below.refl _ _).alloc (Nat.le_refl _) _, by simpa using HR.out⟩
      case round =>
        obtain ⟨j, p, g', cp, acc, rfl, rfl, rfl, hj, hp, hO, hB, hr⟩ := hrel
        have hS := h.below hB
        have hwf : (Lit.int .i64 (p : Int)).wf = true := WalkArith.wf_i64 (by omega)
        by_cases hlt : j < n
        · rcases hT : getText bs (p : Int) with _ | ⟨s, q⟩
          · have HF : Hid (R = none) := by
              show _ = _
              rw [← hr, show n - j = (n - j - 1) + 1 by omega, readTexts, hT]
            have HT := Hid.mk' hT
            clear hT hr
            go_wp2_with fail
            refine (impl_text a len cap _ bs _ hS hcap hwf).mono ?_
            rintro e w2 ⟨he, hw2⟩
            subst hw2
            rw [HT.out, textRet] at he
            subst he
            go_wp2_with fail
            go_ret3
            rw [HF.out]
            exact ⟨_, _, _, rfl, ownS_made _ _ hB.size, hB.alloc hB.size _⟩
          · have HN : Hid (readTexts bs (n - (j + 1)) (p + q) (acc ++ [s]) = R) := by
              show _ = _
              rw [← hr, show n - j = (n - (j + 1)) + 1 by omega, readTexts, hT]
            have hgs := getText_some hT
            have HT := Hid.mk' hT
            have hc3 : j + 1 ≤ maxLen := by unfold maxLen; omega
            have hc4 : (j + 1) * 16 ≤ 140737488355328 := by omega
            have hbw := hB.size
            clear hT hr
            go_wp2_with fail
            refine (impl_text a len cap _ bs _ hS hcap hwf).mono ?_
            rintro e w2 ⟨he, hw2⟩
            subst hw2
            rw [HT.out, textRet] at he
            subst he
            go_wp2_with (at_builtin; refine wpList_append_own _ rfl _ _ 34 rfl w1.heap.size 9 i0 (.string ⟨#[]⟩) 1 16 Try.underlying34 hi hz0 hz1 hz2 rfl (by decide) _ _ _ rfl (hO.2.2.alloc _) ⟨w2.heap.size, 0, none⟩ 1 1 [_] rfl rfl (cell_one_new _ _ _) (str_oneCell _) hc3 hc4 (leAlloc _ _ hbw) ?_)
            intro v3 w3 hown hgrow hnn
            rw [← strVals_snoc] at hown
            obtain ⟨g3, cp3, hv, hO3⟩ := ownS_val (by have := hO.1; simp; omega) (by
              intro x hx
              rcases List.mem_append.1 hx with hx | hx
              · exact hO.2.1 x hx
              · simp at hx; subst hx; unfold maxLen; omega) hnn hown
            subst hv
            have hB3 : Below w1.heap.size w1 w3 := (hB.alloc hbw _).grown hgrow (leAlloc _ _ hbw) (fun k e => by simp [Value.ownBlock] at e; have := hO.lt; omega)
            have HO3 := Hid.mk' hO3
            clear hown hgrow hnn hO hO3 hB hS
            go_wp2
            go_roundw
            case rel => exact ⟨j + 1, p + q, g3, cp3, acc ++ [s], by go_num, rfl, by go_num, by omega, hgs.1, HO3.out, hB3, HN.out⟩
            case measure => simp [intOf]; omega
        · have HF : Hid (R = some (acc, p)) := by
            show _ = _
            rw [← hr, show n - j = 0 by omega, readTexts]
          clear hr
          go_wp2_with fail
          go_ret3
          rw [HF.out]
          exact ⟨_, _, _, rfl, hO, hB⟩

set_option maxRecDepth 100000 in
set_option maxHeartbeats 1000000 in
theorem spec_texts (a : Option Addr) (len cap : Nat) (at_ : Int) (bs : List UInt8) (w : World) (h : Sl w a len bs) (hcap : len ≤ cap) (hat : (Lit.int .i64 at_).wf = true) :
    Calls Try.prog 39 #[.slice a len cap, .int .i64 at_] w fun e w' =>
      ∃ g n cp, e = .returned (.tuple #[.slice (some ⟨g, 0, none⟩) n cp, .int .i64 (resP (getTexts bs at_)), .bool (resB (getTexts bs at_))]) ∧ OwnS w' w.heap.size g n cp (resT (getTexts bs at_)) ∧ Below w.heap.size w w' := by
  have hl := h.1
  have hm := h.2.1
  unfold maxLen at hm
  rcases hG : getNum bs at_ with _ | ⟨n, k⟩
  · have HF : Hid (getTexts bs at_ = none) := by show _ = _; unfold getTexts; rw [hG]
    have HG := Hid.mk' hG
    clear hG
    go_enter Try.func39, Try.ntmps39
    go_wp2_with fail
    refine (spec_get a len cap at_ bs _ h hat).mono ?_
    rintro e w1 ⟨he, rfl⟩
    rw [HG.out, numRet] at he
    subst he
    go_wp2_with fail
    go_ret3
    rw [HF.out]
    exact ⟨_, _, _, rfl, ownS_made _ _ (Nat.le_refl _), (Below.refl _ _).alloc (Nat.le_refl _) _⟩
  · obtain ⟨h0, hk1, hk5, hle, hn9⟩ := getNum_some hG
    obtain ⟨A, rfl⟩ := Int.eq_ofNat_of_zero_le h0
    simp only [Int.toNat_natCast] at hle
    have HG := Hid.mk' hG
    by_cases hbig : 200 < n
    · have HF : Hid (getTexts bs (A : Int) = none) := by show _ = _; unfold getTexts; rw [hG]; simp only []; rw [if_pos hbig]
      clear hG
      go_enter Try.func39, Try.ntmps39
      go_wp2_with fail
      refine (spec_get a len cap _ bs _ h hat).mono ?_
      rintro e w1 ⟨he, rfl⟩
      rw [HG.out, numRet] at he
      subst he
      go_wp2_with fail
      go_ret3
      rw [HF.out]
      exact ⟨_, _, _, rfl, ownS_made _ _ (Nat.le_refl _), (Below.refl _ _).alloc (Nat.le_refl _) _⟩
    · have hres : getTexts bs (A : Int) = readTexts bs n (A + k) [] := by unfold getTexts; rw [hG]; simp only [Int.toNat_natCast]; rw [if_neg hbig]
      clear hG
      rw [hres]
      clear hres
      generalize hR : readTexts bs n (A + k) [] = R
      have HR := Hid.mk' hR
      clear hR
      obtain ⟨i0, hi, hz0, hz1, hz2⟩ := info_parts info9
      go_enter Try.func39, Try.ntmps39
      go_wp2_with fail
      refine (spec_get a len cap _ bs _ h hat).mono ?_
      rintro e w1 ⟨he, hw1⟩
      subst hw1
      rw [HG.out, numRet] at he
      subst he
      go_wp2_with fail
      go_loopw [8, 10, 11] (fun pv lv iv wr => ∃ (j p g' cp : Nat) (acc : List ByteArray), pv = .int .i64 (p : Int) ∧ lv = .slice (some ⟨g', 0, none⟩) j cp ∧ iv = .int .i64 (j : Int) ∧ j ≤ n ∧ p ≤ bs.length ∧ OwnS wr w1.heap.size g' j cp acc ∧ Below w1.heap.size w1 wr ∧ readTexts bs (n - j) p acc = R) (fun _ _ iv _ => n - (intOf iv).toNat)
      case atStart => exact ⟨0, A + k, w1.heap.size, 0, [], by go_num, rfl, rfl, Nat.zero_le _, hle, ownS_made _ _ (Nat.le_refl _), (Below.refl _ _).alloc (Nat.le_refl _) _, by simpa using HR.out⟩
      case round =>
        obtain ⟨j, p, g', cp, acc, rfl, rfl, rfl, hj, hp, hO, hB, hr⟩ := hrel
        have hS := h.below hB
        have hwf : (Lit.int .i64 (p : Int)).wf = true := WalkArith.wf_i64 (by omega)
        by_cases hlt : j < n
        · rcases hT : getText bs (p : Int) with _ | ⟨s, q⟩
          · have HF : Hid (R = none) := by
              show _ = _
              rw [← hr, show n - j = (n - j - 1) + 1 by omega, readTexts, hT]
            have HT := Hid.mk' hT
            clear hT hr
            go_wp2_with fail
            refine (spec_text a len cap _ bs _ hS hcap hwf).mono ?_
            rintro e w2 ⟨he, hw2⟩
            subst hw2
            rw [HT.out, textRet] at he
            subst he
            go_wp2_with fail
            go_ret3
            rw [HF.out]
            exact ⟨_, _, _, rfl, ownS_made _ _ hB.size, hB.alloc hB.size _⟩
          · have HN : Hid (readTexts bs (n - (j + 1)) (p + q) (acc ++ [s]) = R) := by
              show _ = _
              rw [← hr, show n - j = (n - (j + 1)) + 1 by omega, readTexts, hT]
            have hgs := getText_some hT
            have HT := Hid.mk' hT
            have hc3 : j + 1 ≤ maxLen := by unfold maxLen; omega
            have hc4 : (j + 1) * 16 ≤ 140737488355328 := by omega
            have hbw := hB.size
            clear hT hr
            go_wp2_with fail
            refine (spec_text a len cap _ bs _ hS hcap hwf).mono ?_
            rintro e w2 ⟨he, hw2⟩
            subst hw2
            rw [HT.out, textRet] at he
            subst he
            go_wp2_with (at_builtin; refine wpList_append_own _ rfl _ _ 34 rfl w1.heap.size 9 i0 (.string ⟨#[]⟩) 1 16 Try.underlying34 hi hz0 hz1 hz2 rfl (by decide) _ _ _ rfl (hO.2.2.alloc _) ⟨w2.heap.size, 0, none⟩ 1 1 [_] rfl rfl (cell_one_new _ _ _) (str_oneCell _) hc3 hc4 (leAlloc _ _ hbw) ?_)
            intro v3 w3 hown hgrow hnn
            rw [← strVals_snoc] at hown
            obtain ⟨g3, cp3, hv, hO3⟩ := ownS_val (by have := hO.1; simp; omega) (by
              intro x hx
              rcases List.mem_append.1 hx with hx | hx
              · exact hO.2.1 x hx
              · simp at hx; subst hx; unfold maxLen; omega) hnn hown
            subst hv
            have hB3 : Below w1.heap.size w1 w3 := (hB.alloc hbw _).grown hgrow (leAlloc _ _ hbw) (fun k e => by simp [Value.ownBlock] at e; have := hO.lt; omega)
            have HO3 := Hid.mk' hO3
            clear hown hgrow hnn hO hO3 hB hS
            go_wp2
            go_roundw
            case rel => exact ⟨j + 1, p + q, g3, cp3, acc ++ [s], by go_num, rfl, by go_num, by omega, hgs.1, HO3.out, hB3, HN.out⟩
            case measure => simp [intOf]; omega
        · have HF : Hid (R = some (acc, p)) := by
            show _ = _
            rw [← hr, show n - j = 0 by omega, readTexts]
          clear hr
          go_wp2_with fail
          go_ret3
          rw [HF.out]
          exact ⟨_, _, _, rfl, hO, hB⟩

end Go.Proofs.Ytdiiabfkckbajaa.gettexts
