/- The program's stretch of a proof. -/
import Derived.Test.YtdebbgodhpcijaaGreatDoorClashM
import Derived.Test.YtdebbgodhpcijaaGreatDoorPairR
namespace Go.Proofs.YtdebbgodhpcijaaGreatDoor.range
open Go Go.RowKit Go.Proofs.YtdebbgodhpcijaaGreatDoor.base Go.Proofs.YtdebbgodhpcijaaGreatDoor.pairs Go.Proofs.YtdebbgodhpcijaaGreatDoor.tree
set_option linter.unusedVariables false
set_option linter.unusedSimpArgs false

theorem lowN_filter (lo : ByteArray) (l : List Pr) (hr : Rise l) : lowN lo l = (l.filter fun p => ltB p.1 lo).length := by
  unfold lowN
  rw [filter_eq_takeWhile (l := l) (f := fun p => ltB p.1 lo)]
  exact List.Pairwise.imp (fun {p q} h hq => ltB_trans h hq) hr
theorem between_open (lo : ByteArray) (l : List Pr) (hr : Rise l) : (between lo ⟨#[]⟩ l).length + lowN lo l = l.length := by
  rw [lowN_filter lo l hr]
  have h : between lo ⟨#[]⟩ l = l.filter fun p => !ltB p.1 lo := by
    unfold between; congr 1; funext p; unfold inB
    simp [ByteArray.size]
  rw [h]
  clear h hr
  induction l with
  | nil => rfl
  | cons p l ih => cases hp : ltB p.1 lo <;> simp [List.filter_cons, hp] <;> omega

set_option maxRecDepth 100000 in
set_option maxHeartbeats 1000000 in
theorem impl_stretchOf (b off cap : Nat) (l : List Pr) (lo hi : ByteArray) (w : World) (h : SlP w (some ⟨b, off, none⟩) l.length l) (hcap : l.length ≤ cap) (hr : Rise l) (h60 : l.length ≤ 60) :
    Calls Tryz.prog 30 #[.slice (some ⟨b, off, none⟩) l.length cap, .string lo, .string hi] w fun e w' =>
      e = .returned (.tuple #[.int .i64 (fromN lo l : Int), .int .i64 (toN lo hi l : Int)]) ∧ Below w.heap.size w w' := by
  have H1 := Hid.mk' (impl_between b off l.length cap l lo ⟨#[]⟩ w h hcap (by omega))
  have H2 : Hid (∀ wx, Below w.heap.size w wx → Calls Tryz.prog 7 #[.slice (some ⟨b, off, none⟩) l.length cap, .string lo, .string hi] wx fun e w' =>
      ∃ g' n' cap', e = .returned (.slice (some ⟨g', 0, none⟩) n' cap') ∧ OwnP w' wx.heap.size g' n' cap' (between lo hi l) ∧ Below wx.heap.size wx w') :=
    fun wx hx => impl_between b off l.length cap l lo hi wx (h.below hx) hcap (by omega)
  have e1 := between_open lo l hr
  have e2 := between_count lo hi l hr
  have e3 := segN_le lo hi l
  obtain ⟨N, hN⟩ : ∃ N, l.length = N := ⟨_, rfl⟩
  obtain ⟨L, hL⟩ : ∃ L, lowN lo l = L := ⟨_, rfl⟩
  obtain ⟨S, hS⟩ : ∃ S, segN lo hi l = S := ⟨_, rfl⟩
  have hF : fromN lo l = L - 1 := by unfold fromN; rw [hL]
  have hT : toN lo hi l = if L + S < N then L + S + 1 else L + S := by unfold toN; rw [hL, hS, hN]
  have HF := Hid.mk' hF
  have HT := Hid.mk' hT
  rw [hL, hN] at e1
  rw [hS] at e2
  rw [hL, hS, hN] at e3
  rw [hN] at h60
  simp only [hN] at H1 H2 ⊢
  have HE1 := Hid.mk' e1
  have HE2 := Hid.mk' e2
  clear h hr hL hS hN hF hT e1 e2
  go_enter Tryz.func30, Tryz.ntmps30
  go_wp2_with (at_builtin; fail)
  refine H1.out.mono ?_
  rintro e w1 ⟨g1, n1, c1, rfl, hO1, hb1⟩
  have hn1 : n1 + L = N := by have := hO1.1; have := HE1.out; omega
  clear H1 hO1
  have q1 : (N : Int) - (n1 : Int) = (L : Int) := by omega
  go_wp2_with (at_builtin; fail)
  refine (H2.out _ hb1).mono ?_
  rintro e w2 ⟨g2, n2, c2, rfl, hO2, hb2⟩
  have hn2 : n2 = S := by have := hO2.1; have := HE2.out; omega
  subst hn2
  have hB2 := hb1.trans (hb2.mono hb1.size)
  clear H2 hO2
  go_wp2_with (at_builtin; fail)
  go_ret2
  have k1 : max ((L : Int) - 1) 0 = ((fromN lo l : Nat) : Int) := by rw [HF.out]; omega
  have k2 : min ((L : Int) + (n2 : Int) + 1) (N : Int) = ((toN lo hi l : Nat) : Int) := by rw [HT.out]; split <;> omega
  refine ⟨?_, hB2⟩
  show Ending.returned (.tuple #[.int .i64 (max ((L : Int) - 1) 0), .int .i64 (min ((L : Int) + (n2 : Int) + 1) (N : Int))]) = _
  rw [k1, k2]
end Go.Proofs.YtdebbgodhpcijaaGreatDoor.range
