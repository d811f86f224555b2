/- Draws of two texts and a number. -/
import Derived.Test.YtdebbgodhpcijaaDoorDrawA
import Derived.Test.YtdebbgodhpcijaaDoorShaP
namespace Go.Proofs.YtdebbgodhpcijaaDoor.draw
open Go Go.RowKit Go.Proofs.YtdebbgodhpcijaaDoor.base Go.Proofs.YtdebbgodhpcijaaDoor.pairs
set_option linter.unusedVariables false
set_option linter.unusedSimpArgs false

theorem list_size_le (l : List UInt8) (n : Nat) (h : l.length ≤ n) : (⟨l.toArray⟩ : ByteArray).size ≤ n := by
  show l.toArray.size ≤ n
  rw [List.size_toArray]; exact h
theorem sl_two (w : World) (x y : Int) (u v : UInt8) (hx : x = (u.toNat : Int)) (hy : y = (v.toNat : Int)) : Sl (w.alloc (.cells #[.int .u8 x, .int .u8 y] 5)) (some ⟨w.heap.size, 0, none⟩) 2 [u, v] := by
  subst hx hy
  have := (own_of_row (w := w.alloc (.cells #[.int .u8 (u.toNat : Int), .int .u8 (v.toNat : Int)] 5)) (base := w.heap.size) (g := w.heap.size) (n := 2) (bs := [u, v]) rfl (by decide) (Nat.le_refl _) (heap_alloc_new w _))
  exact this.sl
theorem sl_one (w : World) (x : Int) (u : UInt8) (hx : x = (u.toNat : Int)) : Sl (w.alloc (.cells #[.int .u8 x] 5)) (some ⟨w.heap.size, 0, none⟩) 1 [u] := by
  subst hx
  have := (own_of_row (w := w.alloc (.cells #[.int .u8 (u.toNat : Int)] 5)) (base := w.heap.size) (g := w.heap.size) (n := 1) (bs := [u]) rfl (by decide) (Nat.le_refl _) (heap_alloc_new w _))
  exact this.sl
theorem conv_sl {w : World} {b off n : Nat} {bs : List UInt8} (h : Sl w (some ⟨b, off, none⟩) n bs) (c : Nat) :
    (convert 22 9 (.slice (some ⟨b, off, none⟩) n c)).run Tryd.prog w = .ok (.string ⟨bs.toArray⟩) w := by
  have h1 := conv_cut (w := w) (b := b) (off := off) (p := 0) (n := n) h (by have := h.1; omega) c
  have e : cut bs 0 n = ⟨bs.toArray⟩ := by unfold cut; rw [List.drop_zero, List.take_of_length_le (by have := h.1; omega)]
  rw [e] at h1
  exact h1
set_option maxRecDepth 100000 in
set_option maxHeartbeats 2000000 in
theorem d_twin (w : World) : Calls Tryd.prog 61 #[] w fun e w' => ∃ s : ByteArray, s.size ≤ 1000 ∧ e = .returned (.string s) ∧ Below w.heap.size w w' := by
  have HD0 := Hid.mk' (sha.spec_digest w.heap.size 0 1 1 [0] _ (sl_one w 0 0 rfl) (by omega))
  obtain ⟨d0, hd0, hz0⟩ : ∃ d0 : ByteArray, (⟨(sha.digest [0]).toArray⟩ : ByteArray) = d0 ∧ d0.size = 32 := ⟨_, rfl, by show (sha.digest [0]).toArray.size = 32; rw [List.size_toArray]; exact sha.digest_length _⟩
  rw [hd0] at HD0
  clear hd0
  go_enter Tryd.func61, Tryd.ntmps61
  go_wp2_with fail
  refine HD0.out.mono ?_
  rintro e w1 ⟨rfl, hb1⟩
  have hB1 : Below w.heap.size w w1 := ((Below.refl _ _).alloc (Nat.le_refl _) _).trans (hb1.mono (by simp))
  clear HD0 hb1
  go_wp2_with fail
  generalize ((d0[0]'(by omega)).toNat : Int) = x0
  go_loopw [2] (fun i wr => ∃ k : Int, 0 ≤ k ∧ k ≤ 65536 ∧ i = .int .i64 k ∧ Below w.heap.size w wr) (fun i _ => 65536 - (intOf i).toNat)
  case atStart => exact ⟨1, by omega, by omega, rfl, hB1⟩
  case round =>
    obtain ⟨k, hk0, hk, rfl, hB⟩ := hrel
    clear hB1
    by_cases hlt : k < 65536
    · have hu : k % 256 = ((UInt8.ofNat (k % 256).toNat).toNat : Int) := byte_x _ (by omega) (by omega)
      have hv : k / 256 = ((UInt8.ofNat (k / 256).toNat).toNat : Int) := byte_x _ (by omega) (by omega)
      have hS := sl_two wr (k % 256) (k / 256) _ _ hu hv
      generalize UInt8.ofNat (k % 256).toNat = u at *
      generalize UInt8.ofNat (k / 256).toNat = v at *
      have HD := Hid.mk' (sha.spec_digest wr.heap.size 0 2 2 [u, v] _ hS (by omega))
      obtain ⟨dk, hdk, hzk⟩ : ∃ dk : ByteArray, (⟨(sha.digest [u, v]).toArray⟩ : ByteArray) = dk ∧ dk.size = 32 := ⟨_, rfl, by show (sha.digest [u, v]).toArray.size = 32; rw [List.size_toArray]; exact sha.digest_length _⟩
      rw [hdk] at HD
      have HS := Hid.mk' hS
      have hBa : Below w.heap.size w (wr.alloc (.cells #[.int .u8 (k % 256), .int .u8 (k / 256)] 5)) := hB.alloc hB.size _
      clear hdk hS hu hv
      go_wp2_with fail
      refine HD.out.mono ?_
      rintro e w2 ⟨rfl, hb2⟩
      have hcv := conv_sl (HS.out.below hb2) 2
      have hB2 := hBa.trans (hb2.mono hBa.size)
      clear HD HS hb2 hBa
      cases hq : (((dk[0]'(by omega)).toNat : Int) == x0) with
      | true =>
        go_wp2_with fail
        go_ret
        exact ⟨_, by show (2 : Nat) ≤ 1000; omega, rfl, hB2⟩
      | false =>
        go_wp2_with fail
        go_roundw
        case rel => exact ⟨k + 1, by omega, by omega, by go_num, hB2⟩
        case measure => simp [intOf]; omega
    · go_wp2_with fail
      go_ret
      exact ⟨_, by decide, rfl, hB⟩
def GotClash (w : World) (e : Ending) (w' : World) : Prop :=
  ∃ (a b : ByteArray) (k : Int), a.size ≤ 1000 ∧ b.size ≤ 1000 ∧ -1 ≤ k ∧ k ≤ 33 ∧ e = .returned (.tuple #[.string a, .string b, .int .i64 k]) ∧ Below w.heap.size w w'
set_option maxRecDepth 100000 in
set_option maxHeartbeats 2000000 in
theorem drawIsClash (a : Option Addr) (len cap : Nat) (code : List UInt8) (w : World) (h : Sl w a len code) (hln : len ≤ 1099511627776) :
    Calls Tryd.prog 21 #[.slice a len cap] w fun e w' => GotClash w e w' := by
  go_enter Tryd.func21, Tryd.ntmps21
  go_wp2_with fail
  refine (new_ w w a len cap code h (Below.refl _ _) hln).mono ?_
  rintro e w1 ⟨rfl, hC1, hB1⟩
  go_wp2_with fail
  refine (some_ w _ _ a len cap code hC1).mono ?_
  rintro e w2 ⟨g, m, cp, bs, hm, rfl, hO2, hC2, hG2⟩
  have hcv := conv_own hO2
  have hbl := hO2.1
  have hsz := list_size_le bs 1000 (by omega)
  generalize (⟨bs.toArray⟩ : ByteArray) = s1 at *
  have hlt2 := hC2.lt
  have hba : ∀ o, Below w2.heap.size w2 (w2.alloc o) := fun o => (Below.refl _ _).alloc (Nat.le_refl _) _
  clear hC1 hO2 hG2
  go_wp2_with fail
  refine (int_ w _ _ a len cap code w2.heap.size 6 6 _ _ (hC2.below (hba _)) (heap_alloc_new w2 _) rfl (by omega) (by omega) (by omega) (fun z => -1 ≤ z ∧ z ≤ 33) ?_).mono ?_
  · intro i hi
    match i, hi with
    | 0, _ => exact ⟨_, rfl, by omega⟩
    | 1, _ => exact ⟨_, rfl, by omega⟩
    | 2, _ => exact ⟨_, rfl, by omega⟩
    | 3, _ => exact ⟨_, rfl, by omega⟩
    | 4, _ => exact ⟨_, rfl, by omega⟩
    | 5, _ => exact ⟨_, rfl, by omega⟩
  rintro e w3 ⟨z, hz, rfl, hC3, hG3⟩
  clear hcv hG3 hC2 hba hlt2
  go_wp2_with fail
  refine (d_once w _ _ a len cap code _ hC3 (by omega) (by omega)).mono ?_
  rintro e w4 ⟨b, rfl, hC4, hG4⟩
  clear hC3 hG4
  cases b with
  | true =>
    go_wp2_with fail
    go_ret3
    exact ⟨s1, s1, z, hsz, hsz, hz.1, hz.2, rfl, hC4.bel⟩
  | false =>
    go_wp2_with fail
    refine (d_once w _ _ a len cap code _ hC4 (by omega) (by omega)).mono ?_
    rintro e w5 ⟨b, rfl, hC5, hG5⟩
    clear hC4 hG5
    have hB5 := hC5.bel
    cases b with
    | true =>
      have hc1 : ∀ (wx : World) (c : Nat), (convert 22 9 (.slice (some ⟨wx.heap.size, 0, none⟩) 1 c)).run Tryd.prog (wx.alloc (.cells #[.int .u8 0] 5)) = .ok (.string ⟨#[0]⟩) (wx.alloc (.cells #[.int .u8 0] 5)) := fun wx c => conv_one wx 0 0 rfl c
      have hBd : Below w.heap.size w w5.drew := hB5.drew
      have hc0 : ∀ c : Nat, (convert 22 9 (.slice (some ⟨w5.heap.size, 0, none⟩) 1 c)).run Tryd.prog (w5.alloc (.cells #[.int .u8 0] 5)).drew = .ok (.string ⟨#[0]⟩) (w5.alloc (.cells #[.int .u8 0] 5)).drew := fun c => conv_sl ((sl_one w5 0 0 rfl).below (Below.refl _ _).drew) c
      go_wp2_with fail
      go_region_with (go_at_call 61; refine (d_twin _).mono ?_; rintro e w6 ⟨s6, hs6, rfl, hb6⟩; (try have hc2 : ∀ c : Nat, (convert 22 9 (.slice (some ⟨w5.heap.size, 0, none⟩) 1 c)).run Tryd.prog w6 = .ok (.string ⟨#[0]⟩) w6 := fun c => conv_sl ((sl_one w5.drew 0 0 rfl).below hb6) c))
      all_goals
        first
        | (have hBz : Below w.heap.size w w6 := (hBd.alloc hBd.size (.cells #[.int .u8 0] 5)).trans (hb6.mono (hBd.alloc hBd.size _).size)
           go_wp2_with fail
           go_ret3
           exact ⟨_, _, 1, hs6, by show (1 : Nat) ≤ 1000; omega, by omega, by omega, rfl, hBz⟩)
        | (have hBz : Below w.heap.size w w6 := hBd.trans (hb6.mono hBd.size)
           go_wp2_with fail
           go_ret3
           exact ⟨_, _, 1, hs6, by show (1 : Nat) ≤ 1000; omega, by omega, by omega, rfl, hBz.alloc hBz.size _⟩)
    | false =>
      have hCd := hC5.drew
      go_wp2_with fail
      go_region_with (go_at_call 59; refine (some_ w _ _ a len cap code hCd).mono ?_; rintro e w6 ⟨g6, m6, cp6, bs6, hm6, rfl, hO6, hC6, hG6⟩; have hcv6 := conv_own hO6)
      all_goals
        have hl6 := hO6.1
        have hB6 := hC6.bel
        have hsz6 := list_size_le bs6 1000 (by omega)
        clear hcv6 hO6 hC6 hG6 hC5 hCd
        go_wp2_with fail
        go_ret3
        exact ⟨_, _, z, hsz, hsz6, hz.1, hz.2, rfl, hB6⟩
end Go.Proofs.YtdebbgodhpcijaaDoor.draw
