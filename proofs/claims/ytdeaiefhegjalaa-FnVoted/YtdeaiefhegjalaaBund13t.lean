/- Draws of orders that are right: some of them. Draws of any orders. -/
import Derived.Test.YtdeaiefhegjalaaBund13s
namespace Go.Proofs.Ytdeaiefhegjalaa.ords
open Go Go.RowKit Go.Proofs.Ytdeaiefhegjalaa.base Go.Proofs.Ytdeaiefhegjalaa.pairs Go.Proofs.Ytdeaiefhegjalaa.draw
set_option linter.unusedVariables false
set_option linter.unusedSimpArgs false

theorem oneGo_has (o : Od) (l : List Od) : o ∈ oneGo o false l := by
  induction l with
  | nil => exact List.mem_singleton.2 rfl
  | cons p l ih =>
    rw [oneGo]
    cases hl : ltB p.2.1 o.2.1
    · exact List.mem_append.2 (.inl (List.mem_append.2 (.inl (by simp))))
    · exact List.mem_append.2 (.inr ih)
def GotOps (w0 w : World) (gc : Nat) (a : Option Addr) (len cap : Nat) (code : List UInt8) (e : Ending) (w' : World) : Prop :=
  ∃ (g n cp : Nat) (l : List Od), n ≤ 4 ∧ opsOk l = true ∧ e = .returned (.slice (some ⟨g, 0, none⟩) n cp) ∧ OwnO w' w.heap.size g n cp l ∧ Cur w0 w' gc a len cap code ∧ w.grownBy w' (some gc)
set_option maxRecDepth 100000 in
set_option maxHeartbeats 2000000 in
theorem d_ops (w0 w : World) (gc : Nat) (a : Option Addr) (len cap : Nat) (code : List UInt8) (h : Cur w0 w gc a len cap code) :
    Calls Try.prog 49 #[.pointer (some ⟨gc, 0, none⟩)] w fun e w' => GotOps w0 w gc a len cap code e w' := by
  have hba : Below w.heap.size w (w.alloc (.cells #[] 76)) := (Below.refl _ _).alloc (Nat.le_refl _) _
  have hcl := h.lt
  go_enter Try.func49, Try.ntmps49
  go_wp2_with fail
  refine (below_ w0 _ gc a len cap code _ (h.below hba) (by omega) (by omega)).mono ?_
  rintro e w1 ⟨x, hx, rfl, hc1, hg1⟩
  have hO1 : OwnO w1 w.heap.size w.heap.size 0 0 [] := (ownO_made w w.heap.size (Nat.le_refl _)).grown hg1 (by simp; omega)
  have hG1 : w.grownBy w1 (some gc) := grown_of_alloc hg1
  clear hg1 hba
  go_wp2_with fail
  go_loopw [3, 4] (fun v i wr => ∃ (k g n cp : Nat) (l : List Od), n + k ≤ 4 ∧ (1 ≤ k ∨ 1 ≤ n) ∧ i = .int .i64 (k : Int) ∧ v = .slice (some ⟨g, 0, none⟩) n cp ∧ (∀ p ∈ l, odOk p = true) ∧ RiseO l ∧ OwnO wr w.heap.size g n cp l ∧ Cur w0 wr gc a len cap code ∧ w.grownBy wr (some gc)) (fun _ i _ => (intOf i).toNat)
  case atStart => exact ⟨x + 1, w.heap.size, 0, 0, [], by omega, .inl (by omega), by go_num, rfl, (fun p hp => absurd hp List.not_mem_nil), List.Pairwise.nil, hO1, hc1, hG1⟩
  case round =>
    clear hO1 hc1 hG1
    obtain ⟨k, g, n, cp, l, hnk, hk1, rfl, rfl, hall, hri, hO, hC, hG⟩ := hrel
    by_cases hk0 : 0 < k
    · have hgne : g ≠ gc := by have := hO.lt; omega
      go_wp2_with fail
      refine (d_op1 w0 _ gc a len cap code hC).mono ?_
      rintro e w2 ⟨o, hok, rfl, hC2, hG2⟩
      have hO2 := hO.grown hG2 (by simpa using hgne)
      have hln := hO2.1
      go_wp2_with fail
      refine (spec_l7One _ n cp l o _ hO2.sl (odOk_small hok) (by omega)).mono ?_
      rintro e w4 ⟨g4, n4, cp4, rfl, hO4, hB4⟩
      have hpl := oneGo_length o false l
      have hhas := List.length_pos_of_mem (oneGo_has o l)
      simp at hpl
      have hn4 : n4 ≤ n + 1 ∧ 1 ≤ n4 := by have := hO4.1; omega
      have hC4 := hC2.below hB4
      have hG4 := grown_below (grownBy_trans hG hG2) hB4
      have hO5 := hO4.mono (base' := w.heap.size) (by have := hG.size; have := hG2.size; omega)
      have hall4 : ∀ p ∈ oneGo o false l, odOk p = true := fun p hp => by
        rcases oneGo_mem hp with h1 | rfl
        · exact hall p h1
        · exact hok
      have hri4 := oneGo_rise (o := o) hri
      generalize oneGo o false l = l4 at *
      clear hO hO2 hO4 hB4 hC hC2 hG hG2 hpl hhas hall hri
      go_wp2_with fail
      go_roundw
      case rel => exact ⟨k - 1, g4, n4, cp4, l4, by omega, .inr hn4.2, by go_num, rfl, hall4, hri4, hO5, hC4, hG4⟩
      case measure => simp [intOf]; omega
    · go_wp2_with fail
      go_ret
      have := hO.1
      exact ⟨g, n, cp, l, by omega, (opsOk_iff l).2 ⟨⟨hall, hri⟩, by omega, by omega⟩, rfl, hO, hC, hG⟩
end Go.Proofs.Ytdeaiefhegjalaa.ords

namespace Go.Proofs.Ytdeaiefhegjalaa.ords
open Go Go.RowKit Go.Proofs.Ytdeaiefhegjalaa.base Go.Proofs.Ytdeaiefhegjalaa.pairs Go.Proofs.Ytdeaiefhegjalaa.draw
set_option linter.unusedVariables false
set_option linter.unusedSimpArgs false

def tinyO (o : Od) : Prop := 0 ≤ o.1 ∧ o.1 ≤ 5 ∧ o.2.1.size ≤ 13 ∧ o.2.2.size ≤ 21
theorem tinyO_ok {o : Od} (h : odOk o = true) : tinyO o := by
  obtain ⟨h1, _, h3, h4⟩ := (odOk_iff o).1 h
  have := keyOk_size h3
  exact ⟨by omega, by omega, by omega, by omega⟩
theorem tinyO_small {o : Od} (h : tinyO o) : smallO o := by
  obtain ⟨h1, h2, h3, h4⟩ := h
  exact ⟨WalkArith.wf_i64 (by omega), by unfold maxLen; omega, by unfold maxLen; omega⟩
theorem OwnO.none {w : World} {base g n cap : Nat} {l : List Od} (h : OwnO w base g n cap l) : OwnO w base g 0 cap [] := by
  refine ⟨rfl, fun p hp => absurd hp List.not_mem_nil, rfl, ?_⟩
  rcases h.2.2.2 with ⟨h', _⟩ | ⟨g', cap', cur, h', h0, hg, h1, h2, h3, h4⟩
  · simp at h'
  · simp only [Value.slice.injEq, Option.some.injEq, Addr.mk.injEq, and_true, true_and] at h'
    obtain ⟨rfl, rfl⟩ := h'
    exact .inr ⟨g, cap, cur, rfl, h0, hg, Nat.zero_le _, h2, h3, by simp [ordVals]⟩
def GotAnyO (w0 w : World) (gc : Nat) (a : Option Addr) (len cap : Nat) (code : List UInt8) (e : Ending) (w' : World) : Prop :=
  ∃ (g n cp : Nat) (l : List Od), n ≤ 5 ∧ (∀ p ∈ l, tinyO p) ∧ e = .returned (.slice (some ⟨g, 0, none⟩) n cp) ∧ OwnO w' w.heap.size g n cp l ∧ Cur w0 w' gc a len cap code ∧ w.grownBy w' (some gc)
theorem tiny_set {l : List Od} {i : Nat} {p : Od} (h : ∀ q ∈ l, tinyO q) (hp : tinyO p) : ∀ q ∈ l.set i p, tinyO q := by
  intro q hq
  rcases List.mem_or_eq_of_mem_set hq with h1 | h1
  · exact h q h1
  · subst h1; exact hp
end Go.Proofs.Ytdeaiefhegjalaa.ords
