/- Draws of any orders. Draws of any records. -/
import Derived.Test.YtddolmklnifnmaaDoorBund9bc
namespace Go.Proofs.YtddolmklnifnmaaDoor.ords
open Go Go.RowKit Go.Proofs.YtddolmklnifnmaaDoor.base Go.Proofs.YtddolmklnifnmaaDoor.pairs Go.Proofs.YtddolmklnifnmaaDoor.draw
set_option linter.unusedVariables false
set_option linter.unusedSimpArgs false

def tinyO (o : Od) : Prop := 0 ≤ o.1 ∧ o.1 ≤ 5 ∧ o.2.1.size ≤ 13 ∧ o.2.2.size ≤ 21
theorem tinyO_ok {o : Od} (h : odOk o = true) : tinyO o := by
  obtain ⟨h1, _, h3, h4⟩ := (odOk_iff o).1 h
  have := keyOk_size h3
  exact ⟨by omega, by omega, by omega, by omega⟩
theorem tinyO_small {o : Od} (h : tinyO o) : smallO o := by
  obtain ⟨h1, h2, h3, h4⟩ := h
  exact ⟨WalkArith.wf_i64 (by omega), by unfold maxLen; omega, by unfold maxLen; omega⟩
theorem OwnO.none {w : World} {base g n cap : Nat} {l : List Od} (h : OwnO w base g n cap l) : OwnO w base g 0 cap [] := by
  refine ⟨rfl, fun p hp => absurd hp List.not_mem_nil, rfl, ?_⟩
  rcases h.2.2.2 with ⟨h', _⟩ | ⟨g', cap', cur, h', h0, hg, h1, h2, h3, h4⟩
  · simp at h'
  · simp only [Value.slice.injEq, Option.some.injEq, Addr.mk.injEq, and_true, true_and] at h'
    obtain ⟨rfl, rfl⟩ := h'
    exact .inr ⟨g, cap, cur, rfl, h0, hg, Nat.zero_le _, h2, h3, by simp [ordVals]⟩
def GotAnyO (w0 w : World) (gc : Nat) (a : Option Addr) (len cap : Nat) (code : List UInt8) (e : Ending) (w' : World) : Prop :=
  ∃ (g n cp : Nat) (l : List Od), n ≤ 5 ∧ (∀ p ∈ l, tinyO p) ∧ e = .returned (.slice (some ⟨g, 0, none⟩) n cp) ∧ OwnO w' w.heap.size g n cp l ∧ Cur w0 w' gc a len cap code ∧ w.grownBy w' (some gc)
theorem tiny_set {l : List Od} {i : Nat} {p : Od} (h : ∀ q ∈ l, tinyO q) (hp : tinyO p) : ∀ q ∈ l.set i p, tinyO q := by
  intro q hq
  rcases List.mem_or_eq_of_mem_set hq with h1 | h1
  · exact h q h1
  · subst h1; exact hp
end Go.Proofs.YtddolmklnifnmaaDoor.ords

namespace Go.Proofs.YtddolmklnifnmaaDoor.recs
open Go Go.RowKit Go.Proofs.YtddolmklnifnmaaDoor.base Go.Proofs.YtddolmklnifnmaaDoor.pairs Go.Proofs.YtddolmklnifnmaaDoor.draw Go.Proofs.YtddolmklnifnmaaDoor.ords
set_option linter.unusedVariables false
set_option linter.unusedSimpArgs false

def tinyR (r : Rc) : Prop := (0 ≤ r.1 ∧ r.1 ≤ 5) ∧ (0 ≤ r.2.1 ∧ r.2.1 ≤ 1000001) ∧ r.2.2.length ≤ 8 ∧ ∀ p ∈ r.2.2, tinyO p
theorem tinyR_ok {r : Rc} (h : recOk r = true) : tinyR r := by
  obtain ⟨h1, h2⟩ := (recOk_iff r).1 h
  have hk : 1 ≤ r.1 ∧ r.1 ≤ 3 := by rcases h2 with ⟨h3, _⟩ | ⟨h3, _⟩ <;> omega
  refine ⟨by omega, by omega, ?_, ?_⟩
  · rcases h2 with ⟨_, h3⟩ | ⟨_, h3⟩
    · exact ((opsOk_iff _).1 h3).2.2
    · rw [h3]; simp
  · intro p hp
    rcases h2 with ⟨_, h3⟩ | ⟨_, h3⟩
    · exact tinyO_ok (((opsOk_iff _).1 h3).1.1 p hp)
    · rw [h3] at hp; exact absurd hp List.not_mem_nil
def GotAnyR (w0 w : World) (gc : Nat) (a : Option Addr) (len cap : Nat) (code : List UInt8) (e : Ending) (w' : World) : Prop :=
  ∃ (r : Rc) (v : Value), tinyR r ∧ e = .returned (.agg #[.int .i64 r.1, .int .i64 r.2.1, v]) ∧ OwnV w' w.heap.size v r.2.2 ∧ Cur w0 w' gc a len cap code ∧ w.grownBy w' (some gc)
def GotR (w : World) (e : Ending) (w' : World) : Prop :=
  ∃ (r : Rc) (v : Value), tinyR r ∧ e = .returned (.agg #[.int .i64 r.1, .int .i64 r.2.1, v]) ∧ OwnV w' w.heap.size v r.2.2 ∧ Below w.heap.size w w'
end Go.Proofs.YtddolmklnifnmaaDoor.recs
