/- Reading a text: the program's and the specification's GetText answer as one and the same function. -/
import Derived.Test.YtjodbijcgcjndaaGetNumS
import Derived.Laws.BytesArg
namespace Go.Proofs.Ytjodbijcgcjndaa.gettext
open Go.RowKit Go.Proofs.Ytjodbijcgcjndaa.base Go.Proofs.Ytjodbijcgcjndaa.help Go.Proofs.Ytjodbijcgcjndaa.getnum
set_option linter.unusedVariables false
set_option linter.unusedSimpArgs false

def getText (bs : List UInt8) (at_ : Int) : Option (ByteArray × Nat) :=
  match getNum bs at_ with
  | none => none
  | some (n, k) => if bs.length < at_.toNat + k + n then none else some (cut bs (at_.toNat + k) n, k + n)
def textRet (at_ : Int) : Option (ByteArray × Nat) → Value
  | none => .tuple #[.string ⟨#[]⟩, .int .i64 0, .bool false]
  | some (s, k) => .tuple #[.string s, .int .i64 (at_ + (k : Nat)), .bool true]

theorem getGo_some (l : List UInt8) (k n m j : Nat) (h : getGo l k n = some (m, j)) : k < j ∧ j ≤ 5 ∧ j - k ≤ l.length ∧ m ≤ 1000000000 := by
  induction l generalizing k n with
  | nil => simp [getGo] at h
  | cons c l ih =>
    rw [getGo] at h
    split at h
    · simp at h
    · split at h
      · have := ih _ _ h; simp only [List.length_cons]; omega
      · split at h
        · simp at h
        · simp only [Option.some.injEq, Prod.mk.injEq] at h
          simp only [List.length_cons]
          omega
theorem getNum_some {bs : List UInt8} {at_ : Int} {n k : Nat} (h : getNum bs at_ = some (n, k)) : 0 ≤ at_ ∧ 1 ≤ k ∧ k ≤ 5 ∧ at_.toNat + k ≤ bs.length ∧ n ≤ 1000000000 := by
  unfold getNum at h
  split at h
  · simp at h
  · have := getGo_some _ _ _ _ _ h
    simp only [List.length_drop] at this
    omega
theorem tupS {s t : ByteArray} {c d : Int} {b : Bool} (h : s = t) (h2 : c = d) : Ending.returned (.tuple #[.string s, .int .i64 c, .bool b]) = .returned (.tuple #[.string t, .int .i64 d, .bool b]) := by rw [h, h2]
set_option maxRecDepth 100000 in
set_option maxHeartbeats 1000000 in
theorem impl_text (a : Option Addr) (len cap : Nat) (at_ : Int) (bs : List UInt8) (w : World) (h : Sl w a len bs) (hcap : len ≤ cap) (hat : (Lit.int .i64 at_).wf = true) :
    Calls Try.prog 74 #[.slice a len cap, .int .i64 at_] w fun e w' => e = .returned (textRet at_ (getText bs at_)) ∧ w' = w := by
  have hl := h.1
  have hm := h.2.1
  unfold maxLen at hm
  rcases hG : getNum bs at_ with _ | ⟨n, k⟩
  · have HF : Hid (getText bs at_ = none) := by show _ = _; unfold getText; rw [hG]
    have HG := Hid.mk' hG
    clear hG
    go_enter Try.func74, Try.ntmps74
    go_wp2_with fail
    refine (impl_get a len cap at_ bs _ h hat).mono ?_
    rintro e w1 ⟨he, rfl⟩
    rw [HG.out, numRet] at he
    subst he
    go_wp2_with fail
    go_ret3
    exact ⟨by rw [HF.out]; rfl, rfl⟩
  · obtain ⟨h0, hk1, hk5, hle, hn9⟩ := getNum_some hG
    obtain ⟨A, rfl⟩ := Int.eq_ofNat_of_zero_le h0
    simp only [Int.toNat_natCast] at hle
    have HG := Hid.mk' hG
    by_cases hbig : bs.length < A + k + n
    · have HF : Hid (getText bs (A : Int) = none) := by show _ = _; unfold getText; rw [hG]; simp only [Int.toNat_natCast]; rw [if_pos hbig]
      clear hG
      go_enter Try.func74, Try.ntmps74
      go_wp2_with fail
      refine (impl_get a len cap _ bs _ h hat).mono ?_
      rintro e w1 ⟨he, rfl⟩
      rw [HG.out, numRet] at he
      subst he
      go_wp2_with fail
      go_ret3
      exact ⟨by rw [HF.out]; rfl, rfl⟩
    · have HF : Hid (getText bs (A : Int) = some (cut bs (A + k) n, k + n)) := by show _ = _; unfold getText; rw [hG]; simp only [Int.toNat_natCast]; rw [if_neg hbig]
      clear hG
      obtain ⟨b, off, ha, hc⟩ := h.2.2 (by omega)
      subst ha
      clear hc
      by_cases hcp : cap = A + k
      · have hn0 : n = 0 := by omega
        subst hn0 hcp
        have hcv := fun c => conv_none (w := w) (b := b) (off := off) (bs := bs) (A + k) c
        have HH := Hid.mk' h
        clear h
        go_enter Try.func74, Try.ntmps74
        go_wp2_with fail
        refine (impl_get _ len _ _ bs _ HH.out hat).mono ?_
        rintro e w1 ⟨he, rfl⟩
        rw [HG.out, numRet] at he
        subst he
        go_wp2_with fail
        go_ret3
        exact ⟨by rw [HF.out]; simp only [textRet]; exact tupS rfl (by omega), rfl⟩
      · have hcv := fun c => conv_cut (w := w) h (p := A + k) (n := n) (by omega) c
        have HH := Hid.mk' h
        clear h
        go_enter Try.func74, Try.ntmps74
        go_wp2_with fail
        refine (impl_get _ len _ _ bs _ HH.out hat).mono ?_
        rintro e w1 ⟨he, rfl⟩
        rw [HG.out, numRet] at he
        subst he
        go_wp2_with fail
        go_ret3
        exact ⟨by rw [HF.out]; simp only [textRet]; exact tupS rfl (by omega), rfl⟩

set_option maxRecDepth 100000 in
set_option maxHeartbeats 1000000 in
theorem spec_text (a : Option Addr) (len cap : Nat) (at_ : Int) (bs : List UInt8) (w : World) (h : Sl w a len bs) (hcap : len ≤ cap) (hat : (Lit.int .i64 at_).wf = true) :
    Calls Try.prog 60 #[.slice a len cap, .int .i64 at_] w fun e w' => e = .returned (textRet at_ (getText bs at_)) ∧ w' = w := by
  have hl := h.1
  have hm := h.2.1
  unfold maxLen at hm
  rcases hG : getNum bs at_ with _ | ⟨n, k⟩
  · have HF : Hid (getText bs at_ = none) := by show _ = _; unfold getText; rw [hG]
    have HG := Hid.mk' hG
    clear hG
    go_enter Try.func60, Try.ntmps60
    go_wp2_with fail
    refine (spec_get a len cap at_ bs _ h hat).mono ?_
    rintro e w1 ⟨he, rfl⟩
    rw [HG.out, numRet] at he
    subst he
    go_wp2_with fail
    go_ret3
    exact ⟨by rw [HF.out]; rfl, rfl⟩
  · obtain ⟨h0, hk1, hk5, hle, hn9⟩ := getNum_some hG
    obtain ⟨A, rfl⟩ := Int.eq_ofNat_of_zero_le h0
    simp only [Int.toNat_natCast] at hle
    have HG := Hid.mk' hG
    by_cases hbig : bs.length < A + k + n
    · have HF : Hid (getText bs (A : Int) = none) := by show _ = _; unfold getText; rw [hG]; simp only [Int.toNat_natCast]; rw [if_pos hbig]
      clear hG
      go_enter Try.func60, Try.ntmps60
      go_wp2_with fail
      refine (spec_get a len cap _ bs _ h hat).mono ?_
      rintro e w1 ⟨he, rfl⟩
      rw [HG.out, numRet] at he
      subst he
      go_wp2_with fail
      go_ret3
      exact ⟨by rw [HF.out]; rfl, rfl⟩
    · have HF : Hid (getText bs (A : Int) = some (cut bs (A + k) n, k + n)) := by show _ = _; unfold getText; rw [hG]; simp only [Int.toNat_natCast]; rw [if_neg hbig]
      clear hG
      obtain ⟨b, off, ha, hc⟩ := h.2.2 (by omega)
      subst ha
      clear hc
      by_cases hcp : cap = A + k
      · have hn0 : n = 0 := by omega
        subst hn0 hcp
        have hcv := fun c => conv_none (w := w) (b := b) (off := off) (bs := bs) (A + k) c
        have HH := Hid.mk' h
        clear h
        go_enter Try.func60, Try.ntmps60
        go_wp2_with fail
        refine (spec_get _ len _ _ bs _ HH.out hat).mono ?_
        rintro e w1 ⟨he, rfl⟩
        rw [HG.out, numRet] at he
        subst he
        go_wp2_with fail
        go_ret3
        exact ⟨by rw [HF.out]; simp only [textRet]; exact tupS rfl (by omega), rfl⟩
      · have hcv := fun c => conv_cut (w := w) h (p := A + k) (n := n) (by omega) c
        have HH := Hid.mk' h
        clear h
        go_enter Try.func60, Try.ntmps60
        go_wp2_with fail
        refine (spec_get _ len _ _ bs _ HH.out hat).mono ?_
        rintro e w1 ⟨he, rfl⟩
        rw [HG.out, numRet] at he
        subst he
        go_wp2_with fail
        go_ret3
        exact ⟨by rw [HF.out]; simp only [textRet]; exact tupS rfl (by omega), rfl⟩

end Go.Proofs.Ytjodbijcgcjndaa.gettext
