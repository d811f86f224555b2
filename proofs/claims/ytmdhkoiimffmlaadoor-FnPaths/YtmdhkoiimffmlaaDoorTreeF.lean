/- The program's inner digests and roots: a closure that calls itself. -/
import Derived.Test.YtmdhkoiimffmlaaDoorTreeA
import Derived.Laws.EntriesVeiled
namespace Go.Proofs.YtmdhkoiimffmlaaDoor.tree
open Go Go.RowKit Go.Proofs.YtmdhkoiimffmlaaDoor.base Go.Proofs.YtmdhkoiimffmlaaDoor.pairs Go.Proofs.YtmdhkoiimffmlaaDoor.puttext Go.Proofs.YtmdhkoiimffmlaaDoor.putnum
set_option linter.unusedVariables false
set_option linter.unusedSimpArgs false

theorem makeFunc_run (fn : Fn) (first cap : Array Value) (w : World) : (Instr.makeFunc fn first cap).run Tryd.prog w = .ok (.func fn first cap) w := rfl
/-- the variable at block t holds the closure that reaches itself by that variable -/
def Self (w : World) (f t : Nat) : Prop := w.cell? ⟨t, 0, none⟩ = some (.func (.func f) #[] #[.pointer (some ⟨t, 0, none⟩)])
theorem Self.below {w w' : World} {f t : Nat} (h : Self w f t) (hb : Below w.heap.size w w') : Self w' f t :=
  (hb.cell (p := ⟨t, 0, none⟩) (World.block_lt_of_cell? w _ h)).trans h

set_option maxRecDepth 100000 in
set_option maxHeartbeats 2000000 in
theorem impl_tree (m : Nat) : ∀ (l : List Pr), l.length = m → m ≤ 60 → (∀ p ∈ l, lim p) → ∀ (b off cap t : Nat) (w : World), SlP w (some ⟨b, off, none⟩) l.length l → l.length ≤ cap → Self w 58 t → sha.KW w →
    Calls Tryd.prog 58 #[.slice (some ⟨b, off, none⟩) l.length cap, .pointer (some ⟨t, 0, none⟩)] w fun e w' => e = .returned (.string (inner l)) ∧ Below w.heap.size w w' := by
  induction m using Nat.strongRecOn with
  | _ m ih =>
    intro l hlm h60 hlim b off cap t w h hcap hT hK
    by_cases h0 : l.length = 0
    · obtain rfl : l = [] := List.eq_nil_of_length_eq_zero h0
      have HD := Hid.mk' (sha.impl_digestA none 0 0 [] w (sl_nil _ _) (by omega) hK)
      rw [inner_nil]
      clear ih hlim h hlm hT hK
      go_enter Tryd.func58, Tryd.ntmps58
      go_wp2_with fail
      refine HD.out.mono ?_
      rintro e w2 ⟨rfl, hb2⟩
      go_wp2_with fail
      go_ret
      exact ⟨rfl, hb2⟩
    by_cases h1 : l.length = 1
    · obtain ⟨p, rfl⟩ : ∃ p, l = [p] := List.length_eq_one_iff.1 h1
      obtain ⟨c1, c2⟩ := h.cells 0 (by simp)
      have HL := Hid.mk' (impl_leafOf p w (hlim p (by simp)) hK)
      rw [inner_one]
      simp only [List.getElem_cons_zero, Nat.zero_mul, Nat.add_zero] at c1 c2
      clear ih hlim h hlm hT hK
      go_enter Tryd.func58, Tryd.ntmps58
      go_wp2_with fail
      refine HL.out.mono ?_
      rintro e w2 ⟨rfl, hb2⟩
      go_wp2_with fail
      go_ret
      exact ⟨rfl, hb2⟩
    have h2 : 2 ≤ l.length := by omega
    have hbd := half_bd l.length h2
    have hst := inner_step l h2
    obtain ⟨k, hk⟩ : ∃ k, half l.length = k := ⟨_, rfl⟩
    have HH := Hid.mk' (impl_halves b off l.length cap w h2 (by omega) hcap k hk)
    rw [hk] at hbd hst
    have hltk : (l.take k).length = k := by simp; omega
    have hldk : (l.drop k).length = l.length - k := by simp
    have hs1 := inner_size (l.take k)
    have hs2 := inner_size (l.drop k)
    have HC1 : Hid (∀ wx, Below w.heap.size w wx → Calls Tryd.prog 58 #[.slice (some ⟨b, off, none⟩) k k, .pointer (some ⟨t, 0, none⟩)] wx fun e w' => e = .returned (.string (inner (l.take k))) ∧ Below wx.heap.size wx w') := fun wx hx => by
      have := ih k (by omega) (l.take k) hltk (by omega) (fun p hp => hlim p (List.mem_of_mem_take hp)) b off k t wx (slp_take (h.below hx) k (by omega)) (by omega) (hT.below hx) (hK.below hx)
      rw [hltk] at this; exact this
    have HC2 : Hid (∀ wx, Below w.heap.size w wx → Calls Tryd.prog 58 #[.slice (some ⟨b, off + k * 2, none⟩) (l.length - k) (l.length - k), .pointer (some ⟨t, 0, none⟩)] wx fun e w' => e = .returned (.string (inner (l.drop k))) ∧ Below wx.heap.size wx w') := fun wx hx => by
      have := ih (l.length - k) (by omega) (l.drop k) hldk (by omega) (fun p hp => hlim p (List.mem_of_mem_drop hp)) b (off + k * 2) (l.length - k) t wx (slp_drop (h.below hx) k) (by omega) (hT.below hx) (hK.below hx)
      rw [hldk] at this; exact this
    have HC3 : Hid (∀ wx, Below w.heap.size w wx → Calls Tryd.prog 13 #[.string (inner (l.take k)), .string (inner (l.drop k))] wx fun e w' => e = .returned (.string (inner l)) ∧ Below wx.heap.size wx w') := fun wx hx => by
      rw [hst]; exact impl_nodeOf _ _ wx (by omega) (by omega) (hK.below hx)
    have HT := Hid.mk' hT
    have q4 : ¬ (l.length : Int) = 0 := by omega
    have q5 : ¬ (l.length : Int) = 1 := by omega
    generalize inner (l.take k) = x1 at *
    generalize inner (l.drop k) = x2 at *
    generalize inner l = x0 at *
    clear ih hlim h hlm hst hltk hldk hs1 hs2 hk hT hK
    go_enter Tryd.func58, Tryd.ntmps58
    go_wp2_with fail
    refine HH.out.mono ?_
    rintro e w2 ⟨rfl, hB2⟩
    have hT2 := HT.out.below hB2
    have htl : t < w2.heap.size := World.block_lt_of_cell? w2 _ hT2
    have hcl := last.On.cell (B := w2.heap.size) (w := w2) hT2 htl
    have hc1 : ∀ x : last.On w2.heap.size w2, Calls Tryd.prog 58 #[.slice (some ⟨b, off, none⟩) k k, .pointer (some ⟨t, 0, none⟩)] x.w fun e w' => e = .returned (.string x1) ∧ ∃ y : last.On w2.heap.size w2, w' = y.w := fun x => last.Calls.on x (Nat.le_refl _) (HC1.out x.w (hB2.trans (x.2.mono hB2.size)))
    have hc2 : ∀ x : last.On w2.heap.size w2, Calls Tryd.prog 58 #[.slice (some ⟨b, off + k * 2, none⟩) (l.length - k) (l.length - k), .pointer (some ⟨t, 0, none⟩)] x.w fun e w' => e = .returned (.string x2) ∧ ∃ y : last.On w2.heap.size w2, w' = y.w := fun x => last.Calls.on x (Nat.le_refl _) (HC2.out x.w (hB2.trans (x.2.mono hB2.size)))
    have hc3 : ∀ x : last.On w2.heap.size w2, Calls Tryd.prog 13 #[.string x1, .string x2] x.w fun e w' => e = .returned (.string x0) ∧ ∃ y : last.On w2.heap.size w2, w' = y.w := fun x => last.Calls.on x (Nat.le_refl _) (HC3.out x.w (hB2.trans (x.2.mono hB2.size)))
    have hTl : w2.cell? ⟨t, 0, none⟩ = some (.func (.func 58) #[] #[.pointer (some ⟨t, 0, none⟩)]) := hT2
    clear hT2 HT HC1 HC2 HC3 HH
    go_wp2_with fail
    have hinh := last.On.inh w2.heap.size w2
    refine last.wp_region_on w2.heap.size (by kernel_rfl) (by kernel_rfl) ?_
    repeat (go_big_quiet_step ((first | (go_at_call 13; exact hc3 _) | (go_at_call 58; first | (with_reducible exact hc1 _) | (with_reducible exact hc2 _)))))
    refine wpQuiet_nil ?_
    intro w5 hw5
    obtain ⟨x5, hw5⟩ := hw5
    subst hw5
    have hB5 : Below w2.heap.size w2 x5.w := x5.2
    have hB6 : Below w.heap.size w x5.w := hB2.trans (hB5.mono hB2.size)
    go_wp2_with fail
    go_ret
    exact ⟨rfl, hB6⟩

theorem self_made (w : World) (t : TypeId) (f : Nat) : Self (w.alloc (.cells #[.func (.func f) #[] #[.pointer (some ⟨w.heap.size, 0, none⟩)]] t)) f w.heap.size := cell_of_one (heap_alloc_new w _)

set_option maxHeartbeats 1000000 in
theorem impl_innerOf (b off len cap : Nat) (l : List Pr) (w : World) (h : SlP w (some ⟨b, off, none⟩) len l) (hcap : len ≤ cap) (hlim : ∀ p ∈ l, lim p) (hK : sha.KW w) :
    Calls Tryd.prog 28 #[.slice (some ⟨b, off, none⟩) len cap] w fun e w' => e = .returned (.string (innerI l)) ∧ Below w.heap.size w w' := by
  have hl := h.1
  have hm := h.2.1
  subst hl
  unfold maxLen at hm
  unfold innerI
  by_cases h60 : 60 < l.length
  · rw [if_neg (by omega)]
    go_enter Tryd.func28, Tryd.ntmps28
    go_wp2_with fail
    go_ret
    exact ⟨rfl, Below.refl _ _⟩
  · rw [if_pos (by omega)]
    have hmf := makeFunc_run
    have HI : Hid (∀ wx, Below w.heap.size w wx → Self wx 58 w.heap.size → Calls Tryd.prog 58 #[.slice (some ⟨b, off, none⟩) l.length cap, .pointer (some ⟨w.heap.size, 0, none⟩)] wx fun e w' => e = .returned (.string (inner l)) ∧ Below wx.heap.size wx w') :=
      fun wx hx hT => impl_tree l.length l rfl (by omega) hlim b off cap w.heap.size wx (h.below hx) hcap hT (hK.below hx)
    clear h hK hlim
    go_enter Tryd.func28, Tryd.ntmps28
    go_wp2_with fail
    refine (HI.out _ ?hb ?ht).mono ?_
    case hb => exact (Below.refl _ _).alloc (Nat.le_refl _) _
    case ht => exact self_made w _ _
    rintro e w2 ⟨rfl, hb⟩
    have hB : Below w.heap.size w w2 := ((Below.refl _ _).alloc (Nat.le_refl _) _).trans (hb.mono (by simp))
    go_wp2_with fail
    go_ret
    exact ⟨rfl, hB⟩

set_option maxHeartbeats 1000000 in
theorem impl_rootOf (b off len cap : Nat) (l : List Pr) (w : World) (h : SlP w (some ⟨b, off, none⟩) len l) (hcap : len ≤ cap) (hlim : ∀ p ∈ l, lim p) (hK : sha.KW w) :
    Calls Tryd.prog 19 #[.slice (some ⟨b, off, none⟩) len cap] w fun e w' => e = .returned (.string (rootI l)) ∧ Below w.heap.size w w' := by
  have hI := impl_innerOf b off len cap l w h hcap hlim hK
  have hl := h.1
  have hm := h.2.1
  subst hl
  unfold maxLen at hm
  unfold rootI
  by_cases h60 : 60 < l.length
  · rw [if_neg (by omega)]
    clear hI
    go_enter Tryd.func19, Tryd.ntmps19
    go_wp2_with fail
    go_ret
    exact ⟨rfl, Below.refl _ _⟩
  · rw [if_pos (by omega)]
    unfold innerI at hI
    rw [if_pos (by omega)] at hI
    have hs := inner_size l
    have htl := topB_length (l.length : Int) (inner l)
    have HT := Hid.mk' (fun wx => impl_rootBytes (l.length : Int) (inner l) wx (WalkArith.wf_i64 (by omega)) (by omega))
    have HI := Hid.mk' hI
    have HK := Hid.mk' hK
    clear hI h hlim hK
    go_enter Tryd.func19, Tryd.ntmps19
    go_wp2_with fail
    refine HI.out.mono ?_
    rintro e w1 ⟨rfl, hB1⟩
    go_wp2_with fail
    refine (HT.out _).mono ?_
    rintro e w2 ⟨g, n, cp, rfl, hO, hb2⟩
    have hB2 : Below w.heap.size w w2 := hB1.trans (hb2.mono hB1.size)
    have hn : n ≤ 1099511627776 := by have := hO.1; omega
    have HD := Hid.mk' (sha.impl_digest g 0 n cp (topB (l.length : Int) (inner l)) w2 hO.sl hn (HK.out.below hB2))
    clear hO hB1 hb2
    go_wp2_with fail
    refine HD.out.mono ?_
    rintro e w3 ⟨rfl, hb3⟩
    have hB3 : Below w.heap.size w w3 := hB2.trans (hb3.mono hB2.size)
    go_wp2_with fail
    go_ret
    exact ⟨rfl, hB3⟩
end Go.Proofs.YtmdhkoiimffmlaaDoor.tree
