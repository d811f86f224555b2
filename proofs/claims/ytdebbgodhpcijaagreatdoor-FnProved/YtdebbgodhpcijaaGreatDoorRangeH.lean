/- The program's ends of a proof. -/
import Derived.Test.YtdebbgodhpcijaaGreatDoorRangeT
import Derived.Test.YtdebbgodhpcijaaGreatDoorTreeR
namespace Go.Proofs.YtdebbgodhpcijaaGreatDoor.range
open Go Go.RowKit Go.Proofs.YtdebbgodhpcijaaGreatDoor.base Go.Proofs.YtdebbgodhpcijaaGreatDoor.pairs Go.Proofs.YtdebbgodhpcijaaGreatDoor.tree
set_option linter.unusedVariables false
set_option linter.unusedSimpArgs false

/-! ### the root of no pairs -/
set_option maxRecDepth 100000 in
set_option maxHeartbeats 1000000 in
theorem impl_treeNil (t : Nat) (w : World) (hK : sha.KW w) : Calls Tryz.prog 54 #[.slice none 0 0, .pointer (some ⟨t, 0, none⟩)] w fun e w' => e = .returned (.string (inner [])) ∧ Below w.heap.size w w' := by
  have HD := Hid.mk' (sha.impl_digestA none 0 0 [] w (sl_nil _ _) (by omega) hK)
  go_enter Tryz.func54, Tryz.ntmps54
  go_wp2_with fail
  refine HD.out.mono ?_
  rintro e w1 ⟨rfl, hb1⟩
  go_wp2_with fail
  go_ret
  exact ⟨by rw [inner_nil]; rfl, hb1⟩
set_option maxHeartbeats 1000000 in
theorem impl_innerNil (w : World) (hK : sha.KW w) : Calls Tryz.prog 22 #[.slice none 0 0] w fun e w' => e = .returned (.string (inner [])) ∧ Below w.heap.size w w' := by
  have hmf := makeFunc_run
  have HI : Hid (∀ wx, Below w.heap.size w wx → Calls Tryz.prog 54 #[.slice none 0 0, .pointer (some ⟨w.heap.size, 0, none⟩)] wx fun e w' => e = .returned (.string (inner [])) ∧ Below wx.heap.size wx w') :=
    fun wx hx => impl_treeNil w.heap.size wx (hK.below hx)
  clear hK
  go_enter Tryz.func22, Tryz.ntmps22
  go_wp2_with fail
  refine (HI.out _ ?hb).mono ?_
  case hb => exact (Below.refl _ _).alloc (Nat.le_refl _) _
  rintro e w2 ⟨rfl, hb⟩
  have hB : Below w.heap.size w w2 := ((Below.refl _ _).alloc (Nat.le_refl _) _).trans (hb.mono (by simp))
  go_wp2_with fail
  go_ret
  exact ⟨rfl, hB⟩
set_option maxHeartbeats 1000000 in
theorem impl_rootNil (w : World) (hK : sha.KW w) : Calls Tryz.prog 6 #[.slice none 0 0] w fun e w' => e = .returned (.string (rootOf [])) ∧ Below w.heap.size w w' := by
  have hs := inner_size []
  have htl := topB_length 0 (inner [])
  have HT := Hid.mk' (fun wx => impl_rootBytes 0 (inner []) wx (WalkArith.wf_i64 (by omega)) (by omega))
  have HI := Hid.mk' (impl_innerNil w hK)
  have HK := Hid.mk' hK
  have HR : Hid (rootOf [] = dg (topB 0 (inner []))) := rfl
  generalize inner [] = y at *
  clear hK
  go_enter Tryz.func6, Tryz.ntmps6
  go_wp2_with fail
  refine HI.out.mono ?_
  rintro e w1 ⟨rfl, hB1⟩
  go_wp2_with fail
  refine (HT.out _).mono ?_
  rintro e w2 ⟨g, n, cp, rfl, hO, hb2⟩
  have hB2 : Below w.heap.size w w2 := hB1.trans (hb2.mono hB1.size)
  have hn : n ≤ 1099511627776 := by have := hO.1; omega
  have HD := Hid.mk' (sha.impl_digest g 0 n cp (topB 0 y) w2 hO.sl hn (HK.out.below hB2))
  clear hO hB1 hb2
  go_wp2_with fail
  refine HD.out.mono ?_
  rintro e w3 ⟨rfl, hb3⟩
  have hB3 : Below w.heap.size w w3 := hB2.trans (hb3.mono hB2.size)
  go_wp2_with fail
  go_ret
  exact ⟨by rw [HR.out]; rfl, hB3⟩

/-! ### a proof of none -/
set_option maxRecDepth 100000 in
set_option maxHeartbeats 1000000 in
theorem impl_provesNone (root : ByteArray) (n fr : Int) (a : Option Addr) (len cap : Nat) (w : World) (hK : sha.KW w) :
    Calls Tryz.prog 24 #[.agg #[.int .i64 n, .int .i64 fr, .slice a len cap], .string root] w fun e w' => e = .returned (.bool (decide (len = 0 ∧ fr = 0 ∧ root = rootOf []))) ∧ Below w.heap.size w w' := by
  obtain ⟨W, hW⟩ : ∃ W, W = w.alloc (.cells #[.int .i64 n, .int .i64 fr, .slice a len cap] 27) := ⟨_, rfl⟩
  have hB : Below w.heap.size w W := by rw [hW]; exact (Below.refl _ _).alloc (Nat.le_refl _) _
  have HR := Hid.mk' (impl_rootNil W (hK.below hB))
  have HW := Hid.mk' hW
  clear hW hK
  by_cases h0 : len = 0
  · subst h0
    by_cases hf : fr = 0
    · subst hf
      by_cases hr : root = rootOf []
      · have HD : Hid (decide ((0 : Nat) = 0 ∧ (0 : Int) = 0 ∧ root = rootOf []) = true) := decide_eq_true ⟨rfl, rfl, hr⟩
        rw [HD.out]
        clear HD
        rw [← hr] at HR
        clear hr
        go_enter Tryz.func24, Tryz.ntmps24
        go_wp2_with fail
        rw [← HW.out]
        refine HR.out.mono ?_
        rintro e w1 ⟨rfl, hb1⟩
        have hB1 := hB.trans (hb1.mono hB.size)
        go_wp2_with fail
        go_ret
        exact ⟨rfl, hB1⟩
      · have HD : Hid (decide ((0 : Nat) = 0 ∧ (0 : Int) = 0 ∧ root = rootOf []) = false) := decide_eq_false (fun h => hr h.2.2)
        rw [HD.out]
        have hq := str_ne' hr
        generalize rootOf [] = R at *
        clear HD hr
        go_enter Tryz.func24, Tryz.ntmps24
        go_wp2_with fail
        rw [← HW.out]
        refine HR.out.mono ?_
        rintro e w1 ⟨rfl, hb1⟩
        have hB1 := hB.trans (hb1.mono hB.size)
        go_wp2_with fail
        go_ret
        exact ⟨rfl, hB1⟩
    · have HD : Hid (decide ((0 : Nat) = 0 ∧ fr = 0 ∧ root = rootOf []) = false) := decide_eq_false (fun h => hf h.2.1)
      rw [HD.out]
      have hq : (fr == 0) = false := by simpa using hf
      clear HD HR
      go_enter Tryz.func24, Tryz.ntmps24
      go_wp2_with fail
      go_ret
      rw [← HW.out]
      exact ⟨rfl, hB⟩
  · have HD : Hid (decide (len = 0 ∧ fr = 0 ∧ root = rootOf []) = false) := decide_eq_false (fun h => h0 h.1)
    rw [HD.out]
    have hq : ((len : Int) == 0) = false := by simp; omega
    have hq2 : ¬ (len : Int) = 0 := by omega
    clear HD HR
    go_enter Tryz.func24, Tryz.ntmps24
    go_wp2_with fail
    go_ret
    rw [← HW.out]
    exact ⟨rfl, hB⟩

/-! ### where a proof begins and ends -/
set_option maxRecDepth 100000 in
set_option maxHeartbeats 1000000 in
theorem impl_beginsBelow (lo : ByteArray) (n fr : Int) (b off cap : Nat) (l : List It) (w : World) (h : SlJ w (some ⟨b, off, none⟩) l.length l) (h0 : 0 < l.length) :
    Calls Tryz.prog 27 #[.agg #[.int .i64 n, .int .i64 fr, .slice (some ⟨b, off, none⟩) l.length cap], .string lo] w fun e w' => e = .returned (.bool (decide (fr = 0) || ltB l[0].1.1 lo)) ∧ Below w.heap.size w w' := by
  obtain ⟨W, hW⟩ : ∃ W, W = w.alloc (.cells #[.int .i64 n, .int .i64 fr, .slice (some ⟨b, off, none⟩) l.length cap] 27) := ⟨_, rfl⟩
  have hB : Below w.heap.size w W := by rw [hW]; exact (Below.refl _ _).alloc (Nat.le_refl _) _
  have hll := h.2.1
  have c1 := (h.at 0 h0).1
  have hbb : b < w.heap.size := World.block_lt_of_cell? w _ c1
  simp only [Nat.zero_mul, Nat.add_zero] at c1
  have HW := Hid.mk' hW
  have hl0 : (0 : Int) < (l.length : Int) := by omega
  clear hW h
  by_cases hf : fr = 0
  · subst hf
    go_enter Tryz.func27, Tryz.ntmps27
    go_wp2_with fail
    go_ret
    rw [← HW.out]
    exact ⟨by simp, hB⟩
  · have hq : (fr == 0) = false := by simpa using hf
    have hd : decide (fr = 0) = false := decide_eq_false hf
    rw [hd]
    generalize l[0].1.1 = q at *
    cases hb : ltB q lo with
    | true =>
      have hq2 : Op.bytesLess q.toList lo.toList = true := hb
      clear hb
      go_enter Tryz.func27, Tryz.ntmps27
      go_wp2_with fail
      go_ret
      rw [← HW.out]
      exact ⟨rfl, hB⟩
    | false =>
      have hq2 : Op.bytesLess q.toList lo.toList = false := hb
      clear hb
      go_enter Tryz.func27, Tryz.ntmps27
      go_wp2_with fail
      go_ret
      rw [← HW.out]
      exact ⟨rfl, hB⟩

set_option maxRecDepth 100000 in
set_option maxHeartbeats 1000000 in
theorem impl_endsBehind (hi : ByteArray) (n fr : Int) (b off cap : Nat) (l : List It) (w : World) (h : SlJ w (some ⟨b, off, none⟩) l.length l) (m : Nat) (hm : l.length = m + 1) (hfr : 0 ≤ fr ∧ fr ≤ 60) (hn : 1 ≤ n ∧ n ≤ 60) :
    Calls Tryz.prog 28 #[.agg #[.int .i64 n, .int .i64 fr, .slice (some ⟨b, off, none⟩) l.length cap], .string hi] w fun e w' => e = .returned (.bool (decide (fr + (m : Int) = n - 1) || (!decide (hi.size = 0) && !ltB (l[m]'(by omega)).1.1 hi))) ∧ Below w.heap.size w w' := by
  obtain ⟨W, hW⟩ : ∃ W, W = w.alloc (.cells #[.int .i64 n, .int .i64 fr, .slice (some ⟨b, off, none⟩) l.length cap] 27) := ⟨_, rfl⟩
  have hB : Below w.heap.size w W := by rw [hW]; exact (Below.refl _ _).alloc (Nat.le_refl _) _
  have hll := h.2.1
  have c1 := (h.at m (by omega)).1
  have hbb : b < w.heap.size := World.block_lt_of_cell? w _ c1
  have HW := Hid.mk' hW
  have hl0 : (m : Int) < (l.length : Int) := by omega
  have hlm : (l.length : Int) - 1 = (m : Int) := by omega
  clear hW h
  generalize (l[m]'(by omega)).1.1 = q at *
  simp only [hm] at HW hl0 hlm hll ⊢
  by_cases hf : fr + (m : Int) = n - 1
  · have hd : decide (fr + (m : Int) = n - 1) = true := decide_eq_true hf
    rw [hd]
    have hq : (fr + (m : Int) == n - 1) = true := by simpa using hf
    go_enter Tryz.func28, Tryz.ntmps28
    go_wp2_with fail
    go_ret
    rw [← HW.out]
    exact ⟨rfl, hB⟩
  · have hq : (fr + (m : Int) == n - 1) = false := by simpa using hf
    have hd : decide (fr + (m : Int) = n - 1) = false := decide_eq_false hf
    rw [hd]
    by_cases he : hi.size = 0
    · have hhi : hi = ⟨#[]⟩ := by
        have : hi.data = #[] := Array.eq_empty_of_size_eq_zero he
        cases hi; cases this; rfl
      subst hhi
      go_enter Tryz.func28, Tryz.ntmps28
      go_wp2_with fail
      go_ret
      rw [← HW.out]
      exact ⟨by simp [he], hB⟩
    · have hd2 : decide (hi.size = 0) = false := decide_eq_false he
      rw [hd2]
      have hq4 : ¬ hi.toList = [] := fun e => he (by have h1 : hi = ⟨#[]⟩ := bytes_ext (by rw [← ByteArray.toList_eq]; exact e); rw [h1]; rfl)
      have hq3 : hi.toList.isEmpty = false := by rw [Bool.eq_false_iff]; intro e; exact hq4 (List.isEmpty_iff.1 e)
      cases hb : ltB q hi with
      | true =>
        have hq2 : Op.bytesLess q.toList hi.toList = true := hb
        clear hb
        go_enter Tryz.func28, Tryz.ntmps28
        go_wp2_with fail
        go_ret
        rw [← HW.out]
        exact ⟨rfl, hB⟩
      | false =>
        have hq2 : Op.bytesLess q.toList hi.toList = false := hb
        clear hb
        go_enter Tryz.func28, Tryz.ntmps28
        go_wp2_with fail
        go_ret
        rw [← HW.out]
        exact ⟨rfl, hB⟩
end Go.Proofs.YtdebbgodhpcijaaGreatDoor.range
