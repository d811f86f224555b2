/- Reading a list of texts: the program's and the specification's GetTexts answer as one and the same function. -/
import Derived.Test.YtmpggohilmngpaaGetText
import Derived.Test.YtmpggohilmngpaaHelpS
namespace Go.Proofs.Ytmpggohilmngpaa.gettexts
open Go.RowKit Go.Proofs.Ytmpggohilmngpaa.base Go.Proofs.Ytmpggohilmngpaa.help Go.Proofs.Ytmpggohilmngpaa.helps Go.Proofs.Ytmpggohilmngpaa.getnum Go.Proofs.Ytmpggohilmngpaa.gettext
set_option linter.unusedVariables false
set_option linter.unusedSimpArgs false

def readTexts (bs : List UInt8) : Nat → Nat → List ByteArray → Option (List ByteArray × Nat)
  | 0, p, acc => some (acc, p)
  | c + 1, p, acc =>
    match getText bs (p : Int) with
    | none => none
    | some (s, k) => readTexts bs c (p + k) (acc ++ [s])
def getTexts (bs : List UInt8) (at_ : Int) : Option (List ByteArray × Nat) :=
  match getNum bs at_ with
  | none => none
  | some (n, k) => if 200 < n then none else readTexts bs n (at_.toNat + k) []
def resT : Option (List ByteArray × Nat) → List ByteArray
  | none => []
  | some (ss, _) => ss
def resP : Option (List ByteArray × Nat) → Int
  | none => 0
  | some (_, p) => (p : Int)
def resB : Option (List ByteArray × Nat) → Bool
  | none => false
  | some _ => true

theorem getText_some {bs : List UInt8} {p : Nat} {s : ByteArray} {k : Nat} (h : getText bs (p : Int) = some (s, k)) : p + k ≤ bs.length ∧ s.size ≤ bs.length := by
  unfold getText at h
  split at h
  · simp at h
  · rename_i n k' hG
    have hg := getNum_some hG
    simp only [Int.toNat_natCast] at h hg
    split at h
    · simp at h
    · simp only [Option.some.injEq, Prod.mk.injEq] at h
      obtain ⟨rfl, rfl⟩ := h
      refine ⟨by omega, ?_⟩
      rw [cut_size bs _ _ (by omega)]
      omega


end Go.Proofs.Ytmpggohilmngpaa.gettexts
