/- The specification's inner digests and roots. -/
import Derived.Test.YtmdhkoiimffmlaaDoorTreeS
namespace Go.Proofs.YtmdhkoiimffmlaaDoor.tree
open Go Go.RowKit Go.Proofs.YtmdhkoiimffmlaaDoor.base Go.Proofs.YtmdhkoiimffmlaaDoor.pairs Go.Proofs.YtmdhkoiimffmlaaDoor.puttext Go.Proofs.YtmdhkoiimffmlaaDoor.putnum
set_option linter.unusedVariables false
set_option linter.unusedSimpArgs false

theorem slp_take {w : World} {b off : Nat} {l : List Pr} (h : SlP w (some ⟨b, off, none⟩) l.length l) (k : Nat) (hk : k ≤ l.length) : SlP w (some ⟨b, off, none⟩) (l.take k).length (l.take k) := by
  refine ⟨rfl, by have := h.2.1; simp; omega, fun p hp => h.2.2.1 p (List.mem_of_mem_take hp), fun _ => ⟨b, off, rfl, fun i hi => ?_⟩⟩
  rw [List.getElem_take]
  exact h.cells i (by simp at hi; omega)
theorem slp_drop {w : World} {b off : Nat} {l : List Pr} (h : SlP w (some ⟨b, off, none⟩) l.length l) (k : Nat) : SlP w (some ⟨b, off + k * 2, none⟩) (l.drop k).length (l.drop k) := by
  refine ⟨rfl, by have := h.2.1; simp; omega, fun p hp => h.2.2.1 p (List.mem_of_mem_drop hp), fun _ => ⟨b, _, rfl, fun i hi => ?_⟩⟩
  have := h.cells (k + i) (by simp at hi; omega)
  rw [List.getElem_drop, show off + k * 2 + i * 2 = off + (k + i) * 2 by omega]
  exact this

set_option maxRecDepth 100000 in
set_option maxHeartbeats 2000000 in
theorem spec_l4Inner (m : Nat) : ∀ (l : List Pr), l.length = m → m ≤ 60 → (∀ p ∈ l, lim p) → ∀ (b off cap : Nat) (w : World), SlP w (some ⟨b, off, none⟩) l.length l → l.length ≤ cap →
    Calls Tryd.prog 57 #[.slice (some ⟨b, off, none⟩) l.length cap] w fun e w' => e = .returned (.string (inner l)) ∧ Below w.heap.size w w' := by
  induction m using Nat.strongRecOn with
  | _ m ih =>
    intro l hlm h60 hlim b off cap w h hcap
    by_cases h0 : l.length = 0
    · obtain rfl : l = [] := List.eq_nil_of_length_eq_zero h0
      have hba : Below w.heap.size w (w.alloc (.cells #[] 5)) := (Below.refl _ _).alloc (Nat.le_refl _) _
      have HD := Hid.mk' (sha.spec_digest w.heap.size 0 0 0 [] _ (own_made w w.heap.size (Nat.le_refl _)).sl (by omega))
      rw [inner_nil]
      clear ih hlim h hlm
      go_enter Tryd.func57, Tryd.ntmps57
      go_wp2_with fail
      refine HD.out.mono ?_
      rintro e w2 ⟨rfl, hb2⟩
      have hB2 : Below w.heap.size w w2 := hba.trans (hb2.mono hba.size)
      go_wp2_with fail
      go_ret
      exact ⟨rfl, hB2⟩
    by_cases h1 : l.length = 1
    · obtain ⟨p, rfl⟩ : ∃ p, l = [p] := List.length_eq_one_iff.1 h1
      obtain ⟨c1, c2⟩ := h.cells 0 (by simp)
      have HL := Hid.mk' (spec_leafOf p w (hlim p (by simp)))
      rw [inner_one]
      simp only [List.getElem_cons_zero, Nat.zero_mul, Nat.add_zero] at c1 c2
      clear ih hlim h hlm
      go_enter Tryd.func57, Tryd.ntmps57
      go_wp2_with fail
      refine HL.out.mono ?_
      rintro e w2 ⟨rfl, hb2⟩
      go_wp2_with fail
      go_ret
      exact ⟨rfl, hb2⟩
    have h2 : 2 ≤ l.length := by omega
    have hbd := half_bd l.length h2
    have HH := Hid.mk' (spec_half l.length w h2 (by omega))
    have hst := inner_step l h2
    obtain ⟨k, hk⟩ : ∃ k, half l.length = k := ⟨_, rfl⟩
    rw [hk] at hbd HH hst
    have hltk : (l.take k).length = k := by simp; omega
    have hldk : (l.drop k).length = l.length - k := by simp
    have hs1 := inner_size (l.take k)
    have hs2 := inner_size (l.drop k)
    have hB : w.heap.size ≤ w.heap.size := Nat.le_refl _
    have hc1 : ∀ x : last.On w.heap.size w, Calls Tryd.prog 57 #[.slice (some ⟨b, off, none⟩) k cap] x.w fun e w' => e = .returned (.string (inner (l.take k))) ∧ ∃ y : last.On w.heap.size w, w' = y.w := fun x => last.Calls.on x (Nat.le_refl _) (by
      have := ih k (by omega) (l.take k) hltk (by omega) (fun p hp => hlim p (List.mem_of_mem_take hp)) b off cap x.w (slp_take (h.below x.2) k (by omega)) (by omega)
      rw [hltk] at this; exact this)
    have hc2 : ∀ x : last.On w.heap.size w, Calls Tryd.prog 57 #[.slice (some ⟨b, off + k * 2, none⟩) (l.length - k) (cap - k)] x.w fun e w' => e = .returned (.string (inner (l.drop k))) ∧ ∃ y : last.On w.heap.size w, w' = y.w := fun x => last.Calls.on x (Nat.le_refl _) (by
      have := ih (l.length - k) (by omega) (l.drop k) hldk (by omega) (fun p hp => hlim p (List.mem_of_mem_drop hp)) b (off + k * 2) (cap - k) x.w (slp_drop (h.below x.2) k) (by omega)
      rw [hldk] at this; exact this)
    have hc3 : ∀ x : last.On w.heap.size w, Calls Tryd.prog 16 #[.string (inner (l.take k)), .string (inner (l.drop k))] x.w fun e w' => e = .returned (.string (inner l)) ∧ ∃ y : last.On w.heap.size w, w' = y.w := fun x => last.Calls.on x (Nat.le_refl _) (by
      rw [hst]; exact spec_nodeOf _ _ x.w (by omega) (by omega))
    have q1 : (k : Int) ≤ (cap : Int) := by omega
    have q2 : ¬ cap = k := by omega
    have q3 : (k : Int) ≤ (l.length : Int) := by omega
    have q4 : ¬ (l.length : Int) = 0 := by omega
    have q5 : ¬ (l.length : Int) = 1 := by omega
    generalize inner (l.take k) = x1 at *
    generalize inner (l.drop k) = x2 at *
    generalize inner l = x0 at *
    clear ih hlim h hlm hst hltk hldk hs1 hs2 hk
    go_enter Tryd.func57, Tryd.ntmps57
    go_wp2_with fail
    refine HH.out.mono ?_
    rintro e w2 ⟨rfl, hw2⟩
    subst hw2
    go_wp2_with fail
    have hinh := last.On.inh w2.heap.size w2
    refine last.wp_region_on w2.heap.size (by kernel_rfl) (by kernel_rfl) ?_
    repeat (go_big_quiet_step ((first | (go_at_call 16; exact hc3 _) | (go_at_call 57; first | (with_reducible exact hc1 _) | (with_reducible exact hc2 _)))))
    refine wpQuiet_nil ?_
    intro w5 hw5
    obtain ⟨x5, hw5⟩ := hw5
    subst hw5
    have hB5 : Below w2.heap.size w2 x5.w := x5.2
    go_wp2_with fail
    go_ret
    exact ⟨rfl, hB5⟩

set_option maxHeartbeats 1000000 in
theorem spec_innerOf (b off len cap : Nat) (l : List Pr) (w : World) (h : SlP w (some ⟨b, off, none⟩) len l) (hcap : len ≤ cap) (hlim : ∀ p ∈ l, lim p) :
    Calls Tryd.prog 26 #[.slice (some ⟨b, off, none⟩) len cap] w fun e w' => e = .returned (.string (innerI l)) ∧ Below w.heap.size w w' := by
  have hl := h.1
  have hm := h.2.1
  subst hl
  unfold maxLen at hm
  unfold innerI
  by_cases h60 : 60 < l.length
  · rw [if_neg (by omega)]
    go_enter Tryd.func26, Tryd.ntmps26
    go_wp2_with fail
    go_ret
    exact ⟨rfl, Below.refl _ _⟩
  · rw [if_pos (by omega)]
    have HI := Hid.mk' (spec_l4Inner l.length l rfl (by omega) hlim b off cap w h hcap)
    go_enter Tryd.func26, Tryd.ntmps26
    go_wp2_with fail
    refine HI.out.mono ?_
    rintro e w2 ⟨rfl, hb⟩
    go_wp2_with fail
    go_ret
    exact ⟨rfl, hb⟩

set_option maxHeartbeats 1000000 in
theorem spec_l4Root (l : List Pr) (b off cap : Nat) (w : World) (h : SlP w (some ⟨b, off, none⟩) l.length l) (hcap : l.length ≤ cap) (h60 : l.length ≤ 60) (hlim : ∀ p ∈ l, lim p) :
    Calls Tryd.prog 60 #[.slice (some ⟨b, off, none⟩) l.length cap] w fun e w' => e = .returned (.string (rootOf l)) ∧ Below w.heap.size w w' := by
  have HI := Hid.mk' (spec_l4Inner l.length l rfl h60 hlim b off cap w h hcap)
  have hs := inner_size l
  have htl := topB_length (l.length : Int) (inner l)
  have HT := Hid.mk' (fun wx => spec_l4Top (l.length : Int) (inner l) wx (WalkArith.wf_i64 (by omega)) (by omega))
  go_enter Tryd.func60, Tryd.ntmps60
  go_wp2_with fail
  refine HI.out.mono ?_
  rintro e w1 ⟨rfl, hB1⟩
  go_wp2_with fail
  refine (HT.out _).mono ?_
  rintro e w2 ⟨g, n, cp, rfl, hO, hb2⟩
  have hB2 : Below w.heap.size w w2 := hB1.trans (hb2.mono hB1.size)
  have hn : n ≤ 1099511627776 := by have := hO.1; omega
  have HD := Hid.mk' (sha.spec_digest g 0 n cp (topB (l.length : Int) (inner l)) w2 hO.sl hn)
  clear hO hB1 hb2
  go_wp2_with fail
  refine HD.out.mono ?_
  rintro e w3 ⟨rfl, hb3⟩
  have hB3 : Below w.heap.size w w3 := hB2.trans (hb3.mono hB2.size)
  go_wp2_with fail
  go_ret
  exact ⟨rfl, hB3⟩

set_option maxHeartbeats 1000000 in
theorem spec_rootOf (b off len cap : Nat) (l : List Pr) (w : World) (h : SlP w (some ⟨b, off, none⟩) len l) (hcap : len ≤ cap) (hlim : ∀ p ∈ l, lim p) :
    Calls Tryd.prog 30 #[.slice (some ⟨b, off, none⟩) len cap] w fun e w' => e = .returned (.string (rootI l)) ∧ Below w.heap.size w w' := by
  have hl := h.1
  have hm := h.2.1
  subst hl
  unfold maxLen at hm
  unfold rootI
  by_cases h60 : 60 < l.length
  · rw [if_neg (by omega)]
    go_enter Tryd.func30, Tryd.ntmps30
    go_wp2_with fail
    go_ret
    exact ⟨rfl, Below.refl _ _⟩
  · rw [if_pos (by omega)]
    have HI := Hid.mk' (spec_l4Root l b off cap w h hcap (by omega) hlim)
    go_enter Tryd.func30, Tryd.ntmps30
    go_wp2_with fail
    refine HI.out.mono ?_
    rintro e w2 ⟨rfl, hb⟩
    go_wp2_with fail
    go_ret
    exact ⟨rfl, hb⟩

end Go.Proofs.YtmdhkoiimffmlaaDoor.tree
