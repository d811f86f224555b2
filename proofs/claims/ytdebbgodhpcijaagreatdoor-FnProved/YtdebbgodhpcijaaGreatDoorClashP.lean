/- The specification's parting of two ways. -/
import Derived.Test.YtdebbgodhpcijaaGreatDoorClashS
namespace Go.Proofs.YtdebbgodhpcijaaGreatDoor.clash
open Go Go.RowKit Go.Proofs.YtdebbgodhpcijaaGreatDoor.base Go.Proofs.YtdebbgodhpcijaaGreatDoor.pairs Go.Proofs.YtdebbgodhpcijaaGreatDoor.tree Go.Proofs.YtdebbgodhpcijaaGreatDoor.range Go.Proofs.YtdebbgodhpcijaaGreatDoor.puttext Go.Proofs.YtdebbgodhpcijaaGreatDoor.putnum
set_option linter.unusedVariables false
set_option linter.unusedSimpArgs false

theorem ok_lim' {l : List Pr} (h : pairsOk l = true) : ∀ p ∈ l, lim p := fun p hp => by
  have := okMem h p hp
  unfold pairOk keyOk at this
  simp only [Bool.and_eq_true, decide_eq_true_eq] at this
  exact ⟨by omega, by omega⟩
theorem allOf_small {leaf : List UInt8} {i n : Nat} {P mine : List ByteArray} (h : allOf leaf i n P = some mine) (hl : leaf.length ≤ 137438953472) (hp : ∀ s ∈ P, s.size ≤ 137438953472) : (∀ s ∈ mine, s.size ≤ 137438953600) ∧ mine.length ≤ n + 2 ∧ 1 ≤ mine.length := by
  unfold allOf at h
  obtain ⟨out, ho, rfl⟩ := Option.map_eq_some_iff.1 h
  have h1 := hashed_small leaf i n P out ho hl hp
  have h2 := hashed_len leaf i n P out ho
  refine ⟨fun s hs => ?_, by simp; omega, by simp⟩
  rcases List.mem_append.1 hs with h3 | h3
  · exact h1 s h3
  · rw [List.mem_singleton.1 h3, arr_size]
    have := topB_length (n : Int) (dg (out.getLastD ⟨#[]⟩).data.toList)
    have := dg_size (out.getLastD ⟨#[]⟩).data.toList
    omega
theorem allOf_len {leaf : List UInt8} {i n : Nat} {P mine : List ByteArray} (h : allOf leaf i n P = some mine) : mine.length = depth i n + 2 := by
  unfold allOf at h
  obtain ⟨out, ho, rfl⟩ := Option.map_eq_some_iff.1 h
  rw [List.length_append, hashed_length _ _ _ _ _ ho]; rfl
/-- two texts and whether they clash come back -/
def PAPost (w : World) (r : ByteArray × ByteArray × Bool) (e : Ending) (w' : World) : Prop := e = .returned (.tuple #[.string r.1, .string r.2.1, .bool r.2.2]) ∧ Below w.heap.size w w'
theorem pa_is {w w' : World} {r : ByteArray × ByteArray × Bool} {a b : ByteArray} {c : Bool} (hr : r = (a, b, c)) (hB : Below w.heap.size w w') : PAPost w r (.returned (.tuple #[.string a, .string b, .bool c])) w' := by
  subst hr; exact ⟨rfl, hB⟩
theorem topOf_size (l : List Pr) : (topOf l).size ≤ 100 := by
  unfold topOf
  rw [arr_size]
  have := topB_length (l.length : Int) (inner l)
  have := inner_size l
  omega
end Go.Proofs.YtdebbgodhpcijaaGreatDoor.clash
