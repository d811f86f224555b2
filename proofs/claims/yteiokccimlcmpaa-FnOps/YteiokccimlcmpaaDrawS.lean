/- Draws of the bytes of orders, bent or not. -/
import Derived.Test.YteiokccimlcmpaaDrawU
namespace Go.Proofs.Yteiokccimlcmpaa.ords
open Go Go.RowKit Go.Proofs.Yteiokccimlcmpaa.base Go.Proofs.Yteiokccimlcmpaa.pairs Go.Proofs.Yteiokccimlcmpaa.draw
set_option linter.unusedVariables false
set_option linter.unusedSimpArgs false

def GotB (w : World) (e : Ending) (w' : World) : Prop :=
  ∃ (g n cp : Nat) (bs : List UInt8), n ≤ 400 ∧ n ≤ cp ∧ e = .returned (.slice (some ⟨g, 0, none⟩) n cp) ∧ Sl w' (some ⟨g, 0, none⟩) n bs ∧ Below w.heap.size w w'
theorem Sl.cut {w : World} {b n x : Nat} {bs : List UInt8} (h : Sl w (some ⟨b, 0, none⟩) n bs) (hx : x ≤ n) : Sl w (some ⟨b, 0, none⟩) x (bs.take x) := by
  have hat := h.at
  have hl := h.1
  refine ⟨by simp; omega, by have := h.2.1; omega, fun _ => ⟨b, 0, rfl, fun i hi => ?_⟩⟩
  have hi' : i < bs.length := by simp at hi; omega
  rw [hat i hi', List.getElem_take]
theorem putOps_pos {l : List Od} (h : opsOk l = true) : 1 ≤ (putOps l).length := by
  unfold putOps
  rw [if_pos h, List.length_append]
  have := Go.Proofs.Yteiokccimlcmpaa.putnum.numBytes_length (l.length : Int)
  omega
set_option maxRecDepth 100000 in
set_option maxHeartbeats 2000000 in
theorem drawGetOps (a : Option Addr) (len cap : Nat) (code : List UInt8) (w : World) (h : Sl w a len code) (hln : len ≤ 1099511627776) :
    Calls Try.prog 18 #[.slice a len cap] w fun e w' => GotB w e w' := by
  go_enter Try.func18, Try.ntmps18
  go_wp2_with fail
  refine (new_ w w a len cap code h (Below.refl _ _) hln).mono ?_
  rintro e w1 ⟨rfl, hC1, hB1⟩
  go_wp2_with fail
  refine (d_ops w _ _ a len cap code hC1).mono ?_
  rintro e w2 ⟨g, n, cp, l, hn, hok, rfl, hO2, hC2, hG2⟩
  obtain ⟨⟨hall, _⟩, hl1, hl8⟩ := (opsOk_iff l).1 hok
  have hlen := putOps_length l
  have hpos := putOps_pos hok
  have HP := Hid.mk' (spec_putOps g 0 n cp l w2 hO2.sl (fun p hp => by have := keyOk_size ((odOk_iff p).1 (hall p hp)).2.2.1; omega))
  have hlt1 := hC1.lt
  have hlt2 := hC2.lt
  have hgg := hO2.lt
  generalize putOps l = bs at *
  clear hall hok hO2 hG2
  go_wp2_with fail
  refine HP.out.mono ?_
  rintro e w3 ⟨g3, n3, cp3, rfl, hO3, hb3⟩
  have hC3 := hC2.below hb3
  have hn3 := hO3.1
  have hgg3 := hO3.lt
  have hmx := hO3.max
  unfold maxLen at hmx
  clear HP hb3
  subst hn3
  go_wp2_with fail
  refine (below_ w _ _ a len cap code _ hC3 (by omega) (by omega)).mono ?_
  rintro e w4 ⟨x, hx, rfl, hC4, hG4⟩
  have hO4 := hO3.grown hG4 (by simp; omega)
  clear hO3 hG4 hC3
  by_cases x0 : x = 0
  · subst x0
    go_wp2_with fail
    refine (below_ w _ _ a len cap code _ hC4 (by omega) (by omega)).mono ?_
    rintro e w5 ⟨y, hy, rfl, hC5, hG5⟩
    have hO5 := hO4.grown hG5 (by simp; omega)
    have hlt5 := hC5.lt
    clear hO4 hG5 hC4
    go_wp2_with fail
    refine (int_ w _ _ a len cap code w5.heap.size 5 5 _ _ (hC5.below ((Below.refl _ _).alloc (Nat.le_refl _) _)) (heap_alloc_new w5 _) rfl (by omega) (by omega) (by omega) (fun z => decide (0 ≤ z ∧ z ≤ 255) = true) (some_atI _ 5 (fun z => decide (0 ≤ z ∧ z ≤ 255)) (by kernel_rfl))).mono ?_
    rintro e w6 ⟨z, hz, rfl, hC6, hG6⟩
    have hz' := of_decide_eq_true hz
    obtain ⟨u, hu⟩ : ∃ u : UInt8, z = (u.toNat : Int) := ⟨UInt8.ofNat z.toNat, by rw [byte_of]; omega⟩
    have hO6 := (hO5.below ((Below.refl _ _).alloc (Nat.le_refl _) _)).grown hG6 (by simp; omega)
    have hyl : y < bs.length := by omega
    have c1 := hO6.at y hyl
    have f1 := hO6.frozen y
    obtain ⟨R1, R2⟩ := own_set hO6 y u
    have hgg6 := hO6.lt
    have hC7 : Cur w (w6.setCell ⟨g3, y, none⟩ (.int .u8 u.toNat)) w.heap.size a len cap code := hC6.grown R2 (by simp; omega) (fun k e => by cases e; omega)
    have HS := Hid.mk' R1.sl
    have HB := Hid.mk' hC7.bel
    have hu2 := u.toNat_lt
    clear R1 R2 hC7 hC6 hO6 hO5 hC5 hG6 hz hz'
    subst hu
    go_wp2_with fail
    go_ret
    exact ⟨g3, bs.length, cp3, _, by omega, by omega, rfl, HS.out, HB.out⟩
  by_cases x1 : x = 1
  · subst x1
    go_wp2_with fail
    refine (below_ w _ _ a len cap code _ hC4 (by omega) (by omega)).mono ?_
    rintro e w5 ⟨y, hy, rfl, hC5, hG5⟩
    have hO5 := hO4.grown hG5 (by simp; omega)
    have hS5 := Sl.cut hO5.sl (by omega : y ≤ bs.length)
    have HS := Hid.mk' hS5
    clear hO4 hO5 hG5 hC4 hS5
    go_wp2_with fail
    go_ret
    exact ⟨g3, y, cp3, _, by omega, by omega, rfl, HS.out, hC5.bel⟩
  · have e0 : ((x : Int) == 0) = false := by simp; omega
    have e1 : ((x : Int) == 1) = false := by simp; omega
    go_wp2_with fail
    go_ret
    exact ⟨g3, bs.length, cp3, bs, by omega, by omega, rfl, hO4.sl, hC4.bel⟩
end Go.Proofs.Yteiokccimlcmpaa.ords
