/- The laws' marks on pairs, and pairs that are the same. -/
import Derived.Test.YtmdhkoiimffmlaaDoorHelpP
namespace Go.Proofs.YtmdhkoiimffmlaaDoor.pairs
open Go Go.RowKit Go.Proofs.YtmdhkoiimffmlaaDoor.base Go.Proofs.YtmdhkoiimffmlaaDoor.helps
set_option linter.unusedVariables false
set_option linter.unusedSimpArgs false

def marksP (k0 n : Nat) : List Pr := (List.range n).map fun j => (markBytes (k0 + 2 * j), markBytes (k0 + 2 * j + 1))
def markPTo (l : List Pr) (k0 i : Nat) : List Pr := marksP k0 i ++ l.drop i
theorem marksP_length (k0 n : Nat) : (marksP k0 n).length = n := by simp [marksP]
theorem marksP_get (k0 n i : Nat) (h : i < n) : (marksP k0 n)[i]'(by rw [marksP_length]; exact h) = (markBytes (k0 + 2 * i), markBytes (k0 + 2 * i + 1)) := by simp [marksP]
theorem markPTo_length (l : List Pr) (k0 i : Nat) (h : i ≤ l.length) : (markPTo l k0 i).length = l.length := by simp [markPTo, marksP]; omega
theorem markPTo_zero (l : List Pr) (k0 : Nat) : markPTo l k0 0 = l := by simp [markPTo, marksP]
theorem markPTo_all (l : List Pr) (k0 : Nat) : markPTo l k0 l.length = marksP k0 l.length := by simp [markPTo]
theorem markPTo_set (l : List Pr) (k0 i : Nat) (h : i < l.length) : (markPTo l k0 i).set i (markBytes (k0 + 2 * i), markBytes (k0 + 2 * i + 1)) = markPTo l k0 (i + 1) := by
  unfold markPTo marksP
  rw [List.set_append_right _ _ (by simp)]
  simp only [List.length_map, List.length_range, Nat.sub_self, List.range_succ, List.map_append, List.map_cons, List.map_nil, List.append_assoc]
  congr 1
  rw [List.drop_eq_getElem_cons h]
  rfl

set_option maxRecDepth 100000 in
set_option maxHeartbeats 1000000 in
theorem markPairS (g len cap k0 base : Nat) (l : List Pr) (w : World) (h : OwnP w base g len cap l) (hk1 : 1 ≤ k0) (hk0 : k0 + 2 * len ≤ 1099511627776) :
    Calls Tryd.prog 33 #[.slice (some ⟨g, 0, none⟩) len cap, .int .i64 (k0 : Nat)] w fun e w' => e = .returned (.int .i64 ((k0 + 2 * len : Nat) : Int)) ∧ OwnP w' base g len cap (marksP k0 len) ∧ w.grownBy w' (some g) := by
  have hl := h.1
  subst hl
  go_enter Tryd.func33, Tryd.ntmps33
  go_wp2_with fail
  go_loopw [1, 5] (fun kv i wr => ∃ k : Nat, k ≤ l.length ∧ i = .int .i64 k ∧ kv = .int .i64 ((k0 + 2 * k : Nat) : Int) ∧ OwnP wr base g l.length cap (markPTo l k0 k) ∧ w.grownBy wr (some g)) (fun _ i _ => l.length - (intOf i).toNat)
  case atStart => exact ⟨0, Nat.zero_le _, rfl, rfl, by rw [markPTo_zero]; exact h, World.grownBy.refl _ _⟩
  case round =>
    obtain ⟨k, hk, rfl, rfl, hO, hG⟩ := hrel
    by_cases hlt : k < l.length
    · have hlen : k < (markPTo l k0 k).length := by rw [markPTo_length l k0 k hk]; exact hlt
      have HS := Hid.mk' (markPTo_set l k0 k hlt)
      have hki : (k : Int) < (l.length : Int) := by omega
      go_wp2_with fail
      refine (markTextI _ (k0 + 2 * k) _ (by show _ = _; omega) (by omega) (by omega)).mono ?_
      rintro e w1 ⟨rfl, hB1⟩
      have hO1 := hO.below hB1
      have hG1 := grown_below hG hB1
      have d1 := hO1.key k hlen
      have f1 := hO1.frozen (k * 2)
      have R := hO1.setKey k hlen (markBytes (k0 + 2 * k)) (mark_max _)
      have HR := Hid.mk' R
      have hG2 := grownBy_trans hG1 R.2
      clear R hO hG hO1 hG1
      go_wp2_with fail
      refine (markTextI _ (k0 + 2 * k + 1) _ (by show _ = _; omega) (by omega) (by omega)).mono ?_
      rintro e w2 ⟨rfl, hB2⟩
      have hO2 := HR.out.1.below hB2
      have hG3 := grown_below hG2 hB2
      have hlen2 : k < ((markPTo l k0 k).set k (markBytes (k0 + 2 * k), (markPTo l k0 k)[k].2)).length := by simpa using hlen
      have d2 := hO2.val k hlen2
      have f2 := hO2.frozen (k * 2 + 1)
      have R2 := hO2.setVal k hlen2 (markBytes (k0 + 2 * k + 1)) (mark_max _)
      simp only [List.getElem_set_self, List.set_set] at R2
      rw [HS.out] at R2
      have HR2 := Hid.mk' R2
      have hG4 := grownBy_trans hG3 R2.2
      clear R2 hO2 hG3 hG2 HR d1 f1
      go_wp2_with fail
      go_roundw
      case rel => exact ⟨k + 1, by omega, by go_num, by go_num, HR2.out.1, hG4⟩
      case measure => simp [intOf]; omega
    · go_wp2_with fail
      go_ret
      have e : k = l.length := by omega
      subst e
      rw [markPTo_all] at hO
      exact ⟨rfl, hO, hG⟩



end Go.Proofs.YtmdhkoiimffmlaaDoor.pairs
