/- The program's Padded. -/
import Derived.Test.YtmdhkoiimffmlaaDoorPadMath
namespace Go.Proofs.YtmdhkoiimffmlaaDoor.padmath
open Go.RowKit Go.Proofs.YtmdhkoiimffmlaaDoor.base
set_option linter.unusedVariables false
set_option linter.unusedSimpArgs false

/-- the row behind i rounds: the bytes, the mark, noughts, the last i of the count's bytes -/
def padAt (bs : List UInt8) (i : Nat) : List UInt8 := padTo bs (zeros bs.length + (8 - i)) ++ (be8 (bs.length * 8)).drop (8 - i)
theorem padAt_length (bs : List UInt8) (i : Nat) (h : i ≤ 8) : (padAt bs i).length = bs.length + 9 + zeros bs.length := by
  rw [padAt, List.length_append, padTo_length, List.length_drop, be8_length]; omega
theorem padAt_zero (bs : List UInt8) : padAt bs 0 = padTo bs (zeros bs.length + 8) := by
  rw [padAt, List.drop_eq_nil_of_le (by rw [be8_length]; omega), List.append_nil]
theorem padAt_all (bs : List UInt8) : padAt bs 8 = padded bs := by
  rw [padAt, padded]; rfl
theorem padAt_set (bs : List UInt8) (i : Nat) (h : i < 8) (u : UInt8) (hu : u = (be8 (bs.length * 8))[7 - i]'(by rw [be8_length]; omega)) : (padAt bs i).set (bs.length + 9 + zeros bs.length - 1 - i) u = padAt bs (i + 1) := by
  have e1 : zeros bs.length + (8 - i) = zeros bs.length + (8 - (i + 1)) + 1 := by omega
  rw [padAt, e1, ← padTo_snoc, List.append_assoc, List.set_append_right _ _ (by rw [padTo_length]; omega), padTo_length, show bs.length + 9 + zeros bs.length - 1 - i - (bs.length + 1 + (zeros bs.length + (8 - (i + 1)))) = 0 by omega]
  rw [padAt, hu]
  have e2 : (be8 (bs.length * 8)).drop (8 - (i + 1)) = (be8 (bs.length * 8))[7 - i]'(by rw [be8_length]; omega) :: (be8 (bs.length * 8)).drop (8 - i) := by
    rw [show 8 - (i + 1) = 7 - i by omega, List.drop_eq_getElem_cons (by rw [be8_length]; omega), show 7 - i + 1 = 8 - i by omega]
  rw [e2]; rfl
theorem be8_up (len i : Nat) (h : i < 8) : (len : Int) * 8 / 2 ^ (8 * i) % 256 = (((be8 (len * 8))[7 - i]'(by rw [be8_length]; omega)).toNat : Int) := by
  have := be8_at len (7 - i) (by omega)
  rw [show 56 - 8 * (7 - i) = 8 * i by omega, getElem!_pos (be8 (len * 8)) (7 - i) (by rw [be8_length]; omega)] at this
  exact this

set_option maxRecDepth 100000 in
set_option maxHeartbeats 2000000 in
theorem impl_padded (a : Option Addr) (len cap : Nat) (bs : List UInt8) (w : World) (h : Sl w a len bs) (hsz : len ≤ 1099511627776) :
    Calls Tryd.prog 67 #[.slice a len cap] w fun e w' =>
      ∃ g' n' cap', e = .returned (.slice (some ⟨g', 0, none⟩) n' cap') ∧ Own w' w.heap.size g' n' cap' (padded bs) ∧ Below w.heap.size w w' := by
  obtain ⟨hl, hm, hc⟩ := h
  obtain ⟨i0, hi, hz0, hz1, hz2⟩ := info_parts info8
  have hzl := zeros_lt len
  obtain ⟨N, hN⟩ : ∃ N, N = len + 9 + zeros len := ⟨_, rfl⟩
  have hNb : N ≤ 1099511627900 := by omega
  have hNs : (len : Int) + 1 + 8 + -(((len : Int) + 1 + 8) % 64) % 64 = (N : Int) := by rw [hN]; unfold zeros; omega
  have hNl : len < N := by omega
  have HN := Hid.mk' hN
  clear hN hzl
  go_enter Tryd.func67, Tryd.ntmps67
  go_wp2_with (at_make; refine wpList_make_full _ rfl _ _ 22 rfl w.heap.size 5 i0 (.int .u8 0) 1 Tryd.underlying22 hi hz0 hz1 _ _ _ _ N rfl rfl (by omega) (by omega) ?b2 ?b3 ?b4 ?_)
  case b2 => rw [hz2]; omega
  case b3 => unfold maxLen; omega
  case b4 => exact Nat.le_refl _
  intro w1 hown hgrow
  have hOwn : Own w1 w.heap.size w.heap.size N N (List.replicate N 0) := by
    refine ⟨by simp, ?_⟩
    have e : byteVals (List.replicate N 0) = (madeCells #[.int .u8 0] N).toList := by
      simp [byteVals, toList_madeCells_one]
    rw [e]; simpa using hown
  have hbel : Below w.heap.size w w1 := (Below.refl _ _).grown hgrow (Nat.le_refl _) (fun k e => by cases e)
  have hrow := own_row hOwn
  have hpos : 0 < (byteVals bs).length → (some (⟨w.heap.size, 0, none⟩ : Addr)) = some ⟨w.heap.size, 0, none⟩ ∧ ∃ ad, a = some ad ∧ ∀ j v, (byteVals bs)[j]? = some v → w1.cell? (ad.add j) = some v := by
    intro h0
    rw [byteVals_length] at h0
    obtain ⟨b, off, ha, hcl⟩ := hc (by omega)
    refine ⟨rfl, ⟨b, off, none⟩, ha, fun j v hj => ?_⟩
    have hjl : j < bs.length := by have := (List.getElem?_eq_some_iff.1 hj).1; rwa [byteVals_length] at this
    rw [Addr.add_lit, hbel.cell (p := ⟨b, off + j, none⟩) (World.block_lt_of_cell? w _ (hcl j hjl)), hcl j hjl, ← hj]
    simp [byteVals, hjl]
  have HROW := Hid.mk' hrow
  have HPOS := Hid.mk' hpos
  clear hown hgrow hrow hpos hc hOwn
  have hsz1 : (Tryd.prog.info? 5).map (·.size) = some 1 := by rw [hi]; simp [hz1]
  go_wp2_with (refine wpList_copy_splice rfl (.tmp 19) (.tmp 20) 22 22 rfl 5 Tryd.underlying22 hsz1 _ _ _ _ _ _ rfl rfl w.heap.size 0 (byteVals (List.replicate N 0)) 5 HROW.out (byteVals bs) ?d1 HPOS.out ?d2 (byteVals_oneCell _) w.heap.size w hbel (Nat.le_refl _) ?_)
  case d1 => rw [byteVals_length, hl]; show len = min len N; omega
  case d2 => rw [byteVals_length, byteVals_length]; simp; omega
  intro w2 hrow2 hb2
  have e : splice (byteVals (List.replicate N 0)) 0 (byteVals bs) = byteVals (bs ++ List.replicate (N - len) 0) := by
    simp [splice, byteVals, hl]
  have hx := hrow2.out
  rw [e] at hx
  have hO2 : Own w2 w.heap.size w.heap.size N N (bs ++ List.replicate (N - len) 0) := own_of_row (by simp; omega) (by unfold maxLen; omega) (Nat.le_refl _) hx
  have c2 : w2.cell? ⟨w.heap.size, len, none⟩ = some (.int .u8 0) := by
    rw [hO2.at len (by simp; omega)]; simp [List.getElem_append, hl]
  have c3 : w2.frozen? ⟨w.heap.size, len, none⟩ = false := hO2.frozen len
  have R := own_set hO2 len 128
  have e3 : (bs ++ List.replicate (N - len) 0).set len 128 = padAt bs 0 := by
    rw [padAt_zero, List.set_append_right _ _ (by omega), hl, Nat.sub_self, padTo, show N - len = (zeros len + 8) + 1 by have := HN.out; omega]; rfl
  rw [e3] at R
  have HR := Hid.mk' R
  clear hrow2 hx hO2 R e e3 HROW HPOS
  go_wp2_with (at_builtin; fail)
  go_loopw [30] (fun iv wr => ∃ i : Nat, i ≤ 8 ∧ iv = .int .i64 (i : Int) ∧ Own wr w.heap.size w.heap.size N N (padAt bs i) ∧ Below w.heap.size w wr) (fun iv _ => 8 - (intOf iv).toNat)
  case atStart => exact ⟨0, by omega, rfl, HR.out.1, hb2.trans (below_grown HR.out.2 (Nat.le_refl _) hb2.size)⟩
  case round =>
    clear hb2 c2 c3 HR
    obtain ⟨i, hi8, rfl, hO, hB⟩ := hrel
    by_cases hlt : i < 8
    · clear hNs
      obtain ⟨p, hp, hp2⟩ : ∃ p : Nat, (N : Int) - 1 - (i : Int) = (p : Int) ∧ p = len + 9 + zeros len - 1 - i := ⟨N - 1 - i, by have := HN.out; omega, by rw [HN.out]⟩
      have hpN : p < N := by omega
      have hpl : p < (padAt bs i).length := by rw [hO.1]; exact hpN
      have c2 : wr.cell? ⟨w.heap.size, p, none⟩ = some (.int .u8 (padAt bs i)[p].toNat) := hO.at p hpl
      have c3 : wr.frozen? ⟨w.heap.size, p, none⟩ = false := hO.frozen p
      have hup := be8_up len i hlt
      have hst := fun u hu => padAt_set bs i hlt u hu
      rw [hl, ← hp2] at hst
      generalize hU : (be8 (len * 8))[7 - i]'(by rw [be8_length]; omega) = u at hup
      have R := own_set hO p u
      rw [hst u hU.symm] at R
      have HR := Hid.mk' R
      generalize (padAt bs i)[p].toNat = old at c2
      have hul := u.toNat_lt
      have HU := Hid.mk' hup
      clear R hst hU hp2 hpl hO hup
      go_wp2_with (at_builtin; fail)
      go_roundw
      case rel =>
        rw [HU.out]
        exact ⟨i + 1, by omega, by go_num, HR.out.1, hB.trans (below_grown HR.out.2 (Nat.le_refl _) hB.size)⟩
      case measure => simp [intOf]; omega
    · have HE : Hid (i = 8) := by show _ = _; omega
      go_wp2_with (at_builtin; fail)
      go_ret
      rw [HE.out, padAt_all] at hO
      exact ⟨_, _, _, rfl, hO, hB⟩

end Go.Proofs.YtmdhkoiimffmlaaDoor.padmath
