/- Reading a text: the program's and the specification's GetText answer as one and the same function. -/
import Derived.Test.YtmpggohilmngpaaGetNumS
import Derived.Laws.BytesArg
namespace Go.Proofs.Ytmpggohilmngpaa.gettext
open Go.RowKit Go.Proofs.Ytmpggohilmngpaa.base Go.Proofs.Ytmpggohilmngpaa.help Go.Proofs.Ytmpggohilmngpaa.getnum
set_option linter.unusedVariables false
set_option linter.unusedSimpArgs false

def getText (bs : List UInt8) (at_ : Int) : Option (ByteArray × Nat) :=
  match getNum bs at_ with
  | none => none
  | some (n, k) => if bs.length < at_.toNat + k + n then none else some (cut bs (at_.toNat + k) n, k + n)
def textRet (at_ : Int) : Option (ByteArray × Nat) → Value
  | none => .tuple #[.string ⟨#[]⟩, .int .i64 0, .bool false]
  | some (s, k) => .tuple #[.string s, .int .i64 (at_ + (k : Nat)), .bool true]

theorem getGo_some (l : List UInt8) (k n m j : Nat) (h : getGo l k n = some (m, j)) : k < j ∧ j ≤ 5 ∧ j - k ≤ l.length ∧ m ≤ 1000000000 := by
  induction l generalizing k n with
  | nil => simp [getGo] at h
  | cons c l ih =>
    rw [getGo] at h
    split at h
    · simp at h
    · split at h
      · have := ih _ _ h; simp only [List.length_cons]; omega
      · split at h
        · simp at h
        · simp only [Option.some.injEq, Prod.mk.injEq] at h
          simp only [List.length_cons]
          omega
theorem getNum_some {bs : List UInt8} {at_ : Int} {n k : Nat} (h : getNum bs at_ = some (n, k)) : 0 ≤ at_ ∧ 1 ≤ k ∧ k ≤ 5 ∧ at_.toNat + k ≤ bs.length ∧ n ≤ 1000000000 := by
  unfold getNum at h
  split at h
  · simp at h
  · have := getGo_some _ _ _ _ _ h
    simp only [List.length_drop] at this
    omega
theorem tupS {s t : ByteArray} {c d : Int} {b : Bool} (h : s = t) (h2 : c = d) : Ending.returned (.tuple #[.string s, .int .i64 c, .bool b]) = .returned (.tuple #[.string t, .int .i64 d, .bool b]) := by rw [h, h2]


end Go.Proofs.Ytmpggohilmngpaa.gettext
