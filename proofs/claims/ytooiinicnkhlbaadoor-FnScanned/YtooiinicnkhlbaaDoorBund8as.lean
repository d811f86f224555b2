/- The laws' marks on orders and on rows of numbers, and orders that are the same. The laws' helpers for one record: its size, alike, marked, held. A block of three cells: small facts on worlds; no function of the program is named here. Rows of pairs that a law made, kept from step to step; arguments that are pairs, opened. An argument that is a slice of orders, opened. -/
import Derived.Test.YtooiinicnkhlbaaDoorBund8ar
import Derived.Test.YtooiinicnkhlbaaDoorBund8ak
import Derived.Test.YtooiinicnkhlbaaDoorBund8aj
import Derived.Test.YtooiinicnkhlbaaDoorBund8af
import Derived.Test.YtooiinicnkhlbaaDoorBund8ai
import Derived.Test.YtooiinicnkhlbaaDoorBund8aq
import Derived.Deep.SlicePairs
import Derived.ChangeArms
namespace Go.Proofs.YtooiinicnkhlbaaDoor.ords
open Go Go.RowKit Go.Proofs.YtooiinicnkhlbaaDoor.base Go.Proofs.YtooiinicnkhlbaaDoor.helps Go.Proofs.YtooiinicnkhlbaaDoor.pairs
set_option linter.unusedVariables false
set_option linter.unusedSimpArgs false

def marksO (k0 n : Nat) : List Od := (List.range n).map fun j => (((k0 + 3 * j : Nat) : Int), markBytes (k0 + 3 * j + 1), markBytes (k0 + 3 * j + 2))
def markOTo (l : List Od) (k0 i : Nat) : List Od := marksO k0 i ++ l.drop i
theorem marksO_length (k0 n : Nat) : (marksO k0 n).length = n := by simp [marksO]
theorem marksO_get (k0 n i : Nat) (h : i < n) : (marksO k0 n)[i]'(by rw [marksO_length]; exact h) = (((k0 + 3 * i : Nat) : Int), markBytes (k0 + 3 * i + 1), markBytes (k0 + 3 * i + 2)) := by simp [marksO]
theorem markOTo_length (l : List Od) (k0 i : Nat) (h : i ≤ l.length) : (markOTo l k0 i).length = l.length := by simp [markOTo, marksO]; omega
theorem markOTo_zero (l : List Od) (k0 : Nat) : markOTo l k0 0 = l := by simp [markOTo, marksO]
theorem markOTo_all (l : List Od) (k0 : Nat) : markOTo l k0 l.length = marksO k0 l.length := by simp [markOTo]
theorem markOTo_set (l : List Od) (k0 i : Nat) (h : i < l.length) : (markOTo l k0 i).set i (((k0 + 3 * i : Nat) : Int), markBytes (k0 + 3 * i + 1), markBytes (k0 + 3 * i + 2)) = markOTo l k0 (i + 1) := by
  unfold markOTo marksO
  rw [List.set_append_right _ _ (by simp)]
  simp only [List.length_map, List.length_range, Nat.sub_self, List.range_succ, List.map_append, List.map_cons, List.map_nil, List.append_assoc]
  congr 1
  rw [List.drop_eq_getElem_cons h]
  rfl

set_option maxRecDepth 100000 in
set_option maxHeartbeats 1000000 in
theorem markOpS (g len cap k0 base : Nat) (l : List Od) (w : World) (h : OwnO w base g len cap l) (hk1 : 1 ≤ k0) (hk0 : k0 + 3 * len ≤ 1099511627776) :
    Calls Tryd.prog 60 #[.slice (some ⟨g, 0, none⟩) len cap, .int .i64 (k0 : Nat)] w fun e w' => e = .returned (.int .i64 ((k0 + 3 * len : Nat) : Int)) ∧ OwnO w' base g len cap (marksO k0 len) ∧ w.grownBy w' (some g) := by
  have hl := h.1
  subst hl
  go_enter Tryd.func60, Tryd.ntmps60
  go_wp2_with fail
  go_loopw [1, 5] (fun kv i wr => ∃ k : Nat, k ≤ l.length ∧ i = .int .i64 k ∧ kv = .int .i64 ((k0 + 3 * k : Nat) : Int) ∧ OwnO wr base g l.length cap (markOTo l k0 k) ∧ w.grownBy wr (some g)) (fun _ i _ => l.length - (intOf i).toNat)
  case atStart => exact ⟨0, Nat.zero_le _, rfl, rfl, by rw [markOTo_zero]; exact h, World.grownBy.refl _ _⟩
  case round =>
    obtain ⟨k, hk, rfl, rfl, hO, hG⟩ := hrel
    by_cases hlt : k < l.length
    · have hlen : k < (markOTo l k0 k).length := by rw [markOTo_length l k0 k hk]; exact hlt
      have HS := Hid.mk' (markOTo_set l k0 k hlt)
      have hki : (k : Int) < (l.length : Int) := by omega
      have d0 := hO.kind k hlen
      have f0 := hO.frozen (k * 3)
      have R0 := hO.setKind k hlen ((k0 + 3 * k : Nat) : Int) (WalkArith.wf_i64 (by omega))
      have HR0 := Hid.mk' R0
      have hG0 := grownBy_trans hG R0.2
      clear R0 hO hG
      go_wp2_with fail
      refine (markTextI _ (k0 + 3 * k + 1) _ (by show _ = _; omega) (by omega) (by omega)).mono ?_
      rintro e w1 ⟨rfl, hB1⟩
      have hO1 := HR0.out.1.below hB1
      have hG1 := grown_below hG0 hB1
      have hlen1 : k < ((markOTo l k0 k).set k (((k0 + 3 * k : Nat) : Int), (markOTo l k0 k)[k].2)).length := by simpa using hlen
      have d1 := hO1.key k hlen1
      have f1 := hO1.frozen (k * 3 + 1)
      have R := hO1.setKey k hlen1 (markBytes (k0 + 3 * k + 1)) (mark_max _)
      simp only [List.getElem_set_self, List.set_set] at R
      have HR := Hid.mk' R
      have hG2 := grownBy_trans hG1 R.2
      clear R hO1 hG1 HR0 hG0 d0 f0
      go_wp2_with fail
      refine (markTextI _ (k0 + 3 * k + 2) _ (by show _ = _; omega) (by omega) (by omega)).mono ?_
      rintro e w2 ⟨rfl, hB2⟩
      have hO2 := HR.out.1.below hB2
      have hG3 := grown_below hG2 hB2
      have hlen2 : k < ((markOTo l k0 k).set k (((k0 + 3 * k : Nat) : Int), markBytes (k0 + 3 * k + 1), (markOTo l k0 k)[k].2.2)).length := by simpa using hlen
      have d2 := hO2.val k hlen2
      have f2 := hO2.frozen (k * 3 + 2)
      have R2 := hO2.setVal k hlen2 (markBytes (k0 + 3 * k + 2)) (mark_max _)
      simp only [List.getElem_set_self, List.set_set] at R2
      rw [HS.out] at R2
      have HR2 := Hid.mk' R2
      have hG4 := grownBy_trans hG3 R2.2
      clear R2 hO2 hG3 hG2 HR d1 f1
      go_wp2_with fail
      go_roundw
      case rel => exact ⟨k + 1, by omega, by go_num, by go_num, HR2.out.1, hG4⟩
      case measure => simp [intOf]; omega
    · go_wp2_with fail
      go_ret
      have e : k = l.length := by omega
      subst e
      rw [markOTo_all] at hO
      exact ⟨rfl, hO, hG⟩

set_option maxRecDepth 100000 in
set_option maxHeartbeats 1000000 in
theorem heldOpS (a : Option Addr) (len cap k0 : Nat) (w : World) (h : SlO w a len (marksO k0 len)) (hk1 : 1 ≤ k0) (hk0 : k0 + 3 * len ≤ 1099511627776) :
    Calls Tryd.prog 61 #[.slice a len cap, .int .i64 (k0 : Nat)] w fun e w' => e = .returned (.int .i64 ((k0 + 3 * len : Nat) : Int)) ∧ Below w.heap.size w w' := by
  obtain ⟨hl, hm, _, hc⟩ := h
  go_enter Tryd.func61, Tryd.ntmps61
  go_wp2_with fail
  go_loopw [1, 5] (fun kv i wr => ∃ k : Nat, k ≤ len ∧ i = .int .i64 k ∧ kv = .int .i64 ((k0 + 3 * k : Nat) : Int) ∧ Below w.heap.size w wr) (fun _ i _ => len - (intOf i).toNat)
  case atStart => exact ⟨0, Nat.zero_le _, rfl, rfl, Below.refl _ _⟩
  case round =>
    obtain ⟨k, hk, rfl, rfl, hB⟩ := hrel
    by_cases hlt : k < len
    · obtain ⟨b, off, ha, hcl⟩ := hc (by omega)
      subst ha
      have hkl : k < (marksO k0 len).length := by omega
      obtain ⟨d0, d1, d2⟩ := hcl k hkl
      rw [marksO_get k0 len k hlt] at d0 d1 d2
      have hbb : b < w.heap.size := World.block_lt_of_cell? w _ d1
      have c0 := (hB.cell (p := ⟨b, off + k * 3, none⟩) hbb).trans d0
      have c1 := (hB.cell (p := ⟨b, off + k * 3 + 1, none⟩) hbb).trans d1
      have c2 := (hB.cell (p := ⟨b, off + k * 3 + 2, none⟩) hbb).trans d2
      have hbw := hB.size
      have o1 := last.On.cell (B := wr.heap.size) c1 (by omega)
      have hinh := last.On.inh wr.heap.size wr
      have hki : (k : Int) < (len : Int) := by omega
      have hm1 : ∀ x : last.On wr.heap.size wr, Calls Tryd.prog 86 #[.int .i64 ((k0 : Int) + 3 * (k : Int) + 1)] x.w fun e w' => e = .returned (.string (markBytes (k0 + 3 * k + 1))) ∧ ∃ y : last.On wr.heap.size wr, w' = y.w := fun x => last.Calls.on x (Nat.le_refl _) (markTextI _ (k0 + 3 * k + 1) x.w (by show _ = _; omega) (by omega) (by omega))
      clear hcl hc d0 d1 d2 hkl
      generalize hM1 : markBytes (k0 + 3 * k + 1) = M1 at *
      generalize hM2 : markBytes (k0 + 3 * k + 2) = M2 at *
      have HM2 := Hid.mk' hM2
      clear hM1 hM2
      go_wp2_with fail
      refine last.wp_region_on wr.heap.size (by kernel_rfl) (by kernel_rfl) ?_
      repeat (go_big_quiet_step ((go_at_call 86; exact hm1 _)))
      refine wpQuiet_nil ?_
      intro w5 hw5
      obtain ⟨x5, hw5⟩ := hw5
      subst hw5
      have hB5 : Below w.heap.size w x5.w := hB.trans (x5.2.mono hB.size)
      have c2' : x5.w.cell? ⟨b, off + k * 3 + 2, none⟩ = some (.string M2) := (x5.2.cell (p := ⟨b, off + k * 3 + 2, none⟩) (by show b < _; omega)).trans c2
      generalize x5.w = w6 at *
      clear o1 hinh hm1 c0 c1 c2
      have hbw6 := hB5.size
      have o2 := last.On.cell (B := w6.heap.size) c2' (by omega)
      have hinh := last.On.inh w6.heap.size w6
      have hm2 : ∀ x : last.On w6.heap.size w6, Calls Tryd.prog 86 #[.int .i64 ((k0 : Int) + 3 * (k : Int) + 1 + 1)] x.w fun e w' => e = .returned (.string M2) ∧ ∃ y : last.On w6.heap.size w6, w' = y.w := fun x => last.Calls.on x (Nat.le_refl _) (by rw [← HM2.out]; exact markTextI _ (k0 + 3 * k + 2) x.w (by show _ = _; omega) (by omega) (by omega))
      clear HM2
      go_wp2_with fail
      refine last.wp_region_on w6.heap.size (by kernel_rfl) (by kernel_rfl) ?_
      repeat (go_big_quiet_step ((go_at_call 86; exact hm2 _)))
      refine wpQuiet_nil ?_
      intro w7 hw7
      obtain ⟨x7, hw7⟩ := hw7
      subst hw7
      have hB7 : Below w.heap.size w x7.w := hB5.trans (x7.2.mono hB5.size)
      go_wp2_with fail
      go_roundw
      case rel => exact ⟨k + 1, by omega, by go_num, by go_num, hB7⟩
      case measure => simp [intOf]; omega
    · go_wp2_with fail
      go_ret
      have e : k = len := by omega
      subst e
      exact ⟨rfl, hB⟩

/-! ### rows of numbers -/
theorem take_eqZ {l l2 : List Int} {k : Nat} (h : l.take k = l2.take k) (h1 : k < l.length) (h2 : k < l2.length) (e : l[k] = l2[k]) : l.take (k + 1) = l2.take (k + 1) := by
  rw [List.take_succ_eq_append_getElem h1, List.take_succ_eq_append_getElem h2, h, e]
def marksZ (k0 n : Nat) : List Int := (List.range n).map fun j => ((k0 + j : Nat) : Int)
theorem marksZ_length (k0 n : Nat) : (marksZ k0 n).length = n := by simp [marksZ]
theorem marksZ_get (k0 n i : Nat) (h : i < n) : (marksZ k0 n)[i]'(by rw [marksZ_length]; exact h) = ((k0 + i : Nat) : Int) := by simp [marksZ]
def markZTo (l : List Int) (k0 i : Nat) : List Int := marksZ k0 i ++ l.drop i
theorem markZTo_length (l : List Int) (k0 i : Nat) (h : i ≤ l.length) : (markZTo l k0 i).length = l.length := by simp [markZTo, marksZ]; omega
theorem markZTo_set (l : List Int) (k0 i : Nat) (h : i < l.length) : (markZTo l k0 i).set i ((k0 + i : Nat) : Int) = markZTo l k0 (i + 1) := by
  unfold markZTo marksZ
  rw [List.set_append_right _ _ (by simp)]
  simp only [List.length_map, List.length_range, Nat.sub_self, List.range_succ, List.map_append, List.map_cons, List.map_nil, List.append_assoc]
  congr 1
  rw [List.drop_eq_getElem_cons h]
  rfl

set_option maxRecDepth 100000 in
set_option maxHeartbeats 1000000 in
theorem sameOps (a a2 : Option Addr) (len cap len2 cap2 : Nat) (l l2 : List Od) (w : World) (h : SlO w a len l) (h2 : SlO w a2 len2 l2) :
    Calls Tryd.prog 48 #[.slice a len cap, .slice a2 len2 cap2] w fun e w' => e = .returned (.bool (decide (l = l2))) ∧ ∃ n, w' = w.drewN n := by
  obtain ⟨hl, hm, _, hc⟩ := h
  obtain ⟨hl2, hm2, _, hc2⟩ := h2
  subst hl hl2
  unfold maxLen at hm hm2
  by_cases hne : l.length = l2.length
  · have hb : ((l.length : Int) == (l2.length : Int)) = true := by simp; omega
    go_enter Tryd.func48, Tryd.ntmps48
    go_wp2_with fail
    go_loopw [5] (fun i wr => ∃ k : Nat, k ≤ l.length ∧ i = .int .i64 k ∧ l.take k = l2.take k ∧ ∃ n, wr = w.drewN n) (fun i _ => l.length - (intOf i).toNat)
    case atStart => exact ⟨0, Nat.zero_le _, rfl, rfl, 0, rfl⟩
    case round =>
      obtain ⟨k, hk, rfl, htk, n, rfl⟩ := hrel
      by_cases hlt : k < l.length
      · obtain ⟨b, off, ha, hcl⟩ := hc (by omega)
        obtain ⟨b2, off2, ha2, hcl2⟩ := hc2 (by omega)
        subst ha ha2
        have hlt2 : k < l2.length := by omega
        have hi1 : (k : Int) < (l.length : Int) := by omega
        have hi2 : (k : Int) < (l2.length : Int) := by omega
        obtain ⟨c0, c1, c2⟩ := hcl k hlt
        obtain ⟨d0, d1, d2⟩ := hcl2 k hlt2
        by_cases e : l[k] = l2[k]
        · have HE := Hid.mk' (take_eqO htk hlt hlt2 e)
          rw [← e] at d0 d1 d2
          clear hcl hcl2 hc hc2 htk hne e
          generalize l[k] = p at *
          go_wp2_with fail
          go_quiet (fail)
          go_wp2_with fail
          go_roundw
          case rel => exact ⟨k + 1, by omega, by go_num, HE.out, _, rfl⟩
          case measure => simp [intOf]; omega
        · have HE : Hid (¬ l = l2) := by
            show ¬ _
            rintro rfl; exact e rfl
          generalize l[k] = p at *
          generalize l2[k] = q at *
          clear hcl hcl2 hc hc2 htk hne
          obtain ⟨p0, p1, p2⟩ := p
          obtain ⟨q0, q1, q2⟩ := q
          simp only [] at c0 c1 c2 d0 d1 d2
          by_cases e0 : p0 = q0
          · subst e0
            have h0 : (p0 == p0) = true := beq_self_eq_true _
            by_cases e1 : p1 = q1
            · subst e1
              have hq := str_ne (fun e2 : p2 = q2 => e (by rw [e2]))
              clear e
              go_wp2_with fail
              go_quiet (fail)
              go_wp2_with fail
              go_ret
              exact ⟨ret_bool (by symm; rw [decide_eq_false_iff_not]; exact HE.out), _, World.drewN_drewN _ _ _⟩
            · have hq := str_ne e1
              clear e e1
              go_wp2_with fail
              go_quiet (fail)
              go_wp2_with fail
              go_ret
              exact ⟨ret_bool (by symm; rw [decide_eq_false_iff_not]; exact HE.out), _, World.drewN_drewN _ _ _⟩
          · have h0 : (p0 == q0) = false := beq_eq_false_iff_ne.2 e0
            clear e e0
            go_wp2_with fail
            go_quiet (fail)
            go_wp2_with fail
            go_ret
            exact ⟨ret_bool (by symm; rw [decide_eq_false_iff_not]; exact HE.out), _, World.drewN_drewN _ _ _⟩
      · have e : k = l.length := by omega
        have hfin : l = l2 := by
          subst e
          rw [List.take_of_length_le (Nat.le_refl _), List.take_of_length_le (by omega)] at htk
          exact htk
        have HF := Hid.mk' hfin
        clear hfin htk
        go_wp2_with fail
        go_ret
        exact ⟨ret_bool (by symm; rw [decide_eq_true_iff]; exact HF.out), _, rfl⟩
  · have hb : ((l.length : Int) == (l2.length : Int)) = false := by simp; omega
    go_enter Tryd.func48, Tryd.ntmps48
    go_wp2
    go_ret
    exact ⟨ret_bool (by symm; rw [decide_eq_false_iff_not]; intro h; exact hne (by rw [h])), 0, rfl⟩


theorem eqO (a a2 : Option Addr) (len cap len2 cap2 : Nat) (l l2 : List Od) (w : World) (h : SlO w a len l) (h2 : SlO w a2 len2 l2) (he : l = l2) :
    Calls Tryd.prog 59 #[.slice a len cap, .slice a2 len2 cap2] w fun e w' => e = .returned (.bool true) ∧ Below w.heap.size w w' := by
  refine (eqOpS a a2 len cap len2 cap2 l l2 w h h2).mono ?_
  rintro e w' ⟨rfl, hb⟩
  exact ⟨ret_bool (decide_eq_true he), hb⟩
theorem markO (g len cap base k0 : Nat) (l : List Od) (w : World) (h : OwnO w base g len cap l) (hk : len ≤ 274877906944) (hk0 : 1 ≤ k0) (hk2 : k0 ≤ 274877906944) (K : Int) (hK : Hid (K = (k0 : Int))) :
    Calls Tryd.prog 60 #[.slice (some ⟨g, 0, none⟩) len cap, .int .i64 K] w fun e w' => e = .returned (.int .i64 ((k0 : Int) + 3 * (len : Int))) ∧ OwnO w' base g len cap (marksO k0 len) ∧ w.grownBy w' (some g) := by
  have e := hK.out
  subst e
  refine (markOpS g len cap k0 base l w h hk0 (by omega)).mono ?_
  rintro e w' ⟨rfl, h1, h2⟩
  exact ⟨ret_int (by omega), h1, h2⟩
theorem heldO (a : Option Addr) (len cap : Nat) (w : World) (h : SlO w a len (marksO 1 len)) (hk : len ≤ 274877906944) :
    Calls Tryd.prog 61 #[.slice a len cap, .int .i64 1] w fun e w' => e = .returned (.int .i64 (1 + 3 * (len : Int))) ∧ Below w.heap.size w w' := by
  refine (show Calls Tryd.prog 61 #[.slice a len cap, .int .i64 ((1 : Nat) : Int)] w _ from heldOpS a len cap 1 w h (by omega) (by omega)).mono ?_
  rintro e w' ⟨rfl, hb⟩
  exact ⟨ret_int (by omega), hb⟩
end Go.Proofs.YtooiinicnkhlbaaDoor.ords

namespace Go.Proofs.YtooiinicnkhlbaaDoor.recs
open Go Go.RowKit Go.Proofs.YtooiinicnkhlbaaDoor.base Go.Proofs.YtooiinicnkhlbaaDoor.pairs Go.Proofs.YtooiinicnkhlbaaDoor.ords Go.Proofs.YtooiinicnkhlbaaDoor.helps
set_option linter.unusedVariables false
set_option linter.unusedSimpArgs false

set_option maxRecDepth 100000 in
set_option maxHeartbeats 1000000 in
theorem szRec (kind tx : Int) (a : Option Addr) (len cap : Nat) (l : List Od) (L : Nat) (w : World) (h : SlO w a len l) (hL : L ≤ 1099511627776) :
    Calls Tryd.prog 24 #[.agg #[.int .i64 kind, .int .i64 tx, .slice a len cap], .int .i64 (L : Int)] w fun e w' => e = .returned (.int .i64 (pairs.szR L (l.length + sumO l))) ∧ Below w.heap.size w w' := by
  have hba : Below w.heap.size w (w.alloc (.cells #[.int .i64 kind, .int .i64 tx, .slice a len cap] 46)) := (Below.refl _ _).alloc (Nat.le_refl _) _
  have HS := Hid.mk' (szOpS a len cap l L _ (h.below hba) hL)
  by_cases hc : l.length + sumO l ≤ L
  · rw [pairs.szR_pos hc] at HS ⊢
    have hn : ¬ (L : Int) - ((l.length + sumO l : Nat) : Int) < 0 := by omega
    generalize (L : Int) - ((l.length + sumO l : Nat) : Int) = S at *
    go_enter Tryd.func24, Tryd.ntmps24
    go_wp2_with fail
    refine HS.out.mono ?_
    rintro e w1 ⟨rfl, hb1⟩
    go_wp2_with fail
    go_ret
    exact ⟨rfl, hba.trans (hb1.mono hba.size)⟩
  · rw [pairs.szR_neg (by omega)] at HS ⊢
    go_enter Tryd.func24, Tryd.ntmps24
    go_wp2_with fail
    refine HS.out.mono ?_
    rintro e w1 ⟨rfl, hb1⟩
    go_wp2_with fail
    go_ret
    exact ⟨rfl, hba.trans (hb1.mono hba.size)⟩

set_option maxRecDepth 100000 in
set_option maxHeartbeats 1000000 in
theorem eqRecT (kind tx : Int) (pa qa : Option Addr) (pl pc ql qc : Nat) (l : List Od) (w : World) (hx : SlO w pa pl l) (hy : SlO w qa ql l) :
    Calls Tryd.prog 28 #[.agg #[.int .i64 kind, .int .i64 tx, .slice pa pl pc], .agg #[.int .i64 kind, .int .i64 tx, .slice qa ql qc]] w fun e w' => e = .returned (.bool true) ∧ Below w.heap.size w w' := by
  obtain ⟨W, hW⟩ : ∃ W, (w.alloc (.cells #[.int .i64 kind, .int .i64 tx, .slice pa pl pc] 26)).alloc (.cells #[.int .i64 kind, .int .i64 tx, .slice qa ql qc] 26) = W := ⟨_, rfl⟩
  have hB : Below w.heap.size w W := by rw [← hW]; exact ((Below.refl _ _).alloc (Nat.le_refl _) _).alloc (by simp) _
  have HE := Hid.mk' (eqO pa qa pl pc ql qc l l W (hx.below hB) (hy.below hB) rfl)
  have HW := Hid.mk' hW
  clear hW
  have hn : (kind == kind) = true := by simp
  have hf : (tx == tx) = true := by simp
  go_enter Tryd.func28, Tryd.ntmps28
  go_wp2_with fail
  rw [HW.out]
  refine HE.out.mono ?_
  rintro e w1 ⟨rfl, hb1⟩
  have hB1 := hB.trans (hb1.mono hB.size)
  clear HE HW hb1
  go_wp2_with fail
  go_ret
  exact ⟨rfl, hB1⟩

set_option maxRecDepth 100000 in
set_option maxHeartbeats 1000000 in
theorem markNil (K : Int) (w : World) :
    Calls Tryd.prog 60 #[.slice none 0 0, .int .i64 K] w fun e w' => e = .returned (.int .i64 K) ∧ w' = w := by
  go_enter Tryd.func60, Tryd.ntmps60
  go_wp2_with fail
  refine wp_loop_rounds 1 ?_
  rw [rounds_succ]
  go_wp2_with fail
  go_ret
  exact ⟨rfl, rfl⟩
/-- orders of the call's own, or nil, marked -/
theorem markV (v : Value) (base k0 : Nat) (l : List Od) (w : World) (h : OwnV w base v l) (hk1 : 1 ≤ k0) (hk0 : k0 + 3 * l.length ≤ 1099511627776) (K : Int) (hK : Hid (K = (k0 : Int))) :
    Calls Tryd.prog 60 #[v, .int .i64 K] w fun e w' => e = .returned (.int .i64 ((k0 + 3 * l.length : Nat) : Int)) ∧ OwnV w' base v (marksO k0 l.length) ∧ w.grownBy w' v.ownBlock := by
  have e := hK.out
  subst e
  rcases h.shape with ⟨rfl, rfl⟩ | ⟨g, cap, rfl, hO⟩
  · refine (markNil (k0 : Int) w).mono ?_
    rintro e w' ⟨rfl, rfl⟩
    exact ⟨by simp, by simpa [marksO] using ownV_nil _ _, rfl, rfl, rfl, Nat.le_refl _, fun _ _ _ => rfl⟩
  · refine (markOpS g l.length cap k0 base l w hO hk1 hk0).mono ?_
    rintro e w' ⟨rfl, hO', hg⟩
    have := ownV_of hO'
    exact ⟨rfl, this, hg⟩
set_option maxRecDepth 100000 in
set_option maxHeartbeats 1000000 in
theorem markRec1 (kind tx : Int) (v : Value) (base : Nat) (l : List Od) (w : World) (h : OwnV w base v l) (hb : base ≤ w.heap.size) (hk0 : 1 + 3 * l.length ≤ 1099511627776) :
    Calls Tryd.prog 29 #[.agg #[.int .i64 kind, .int .i64 tx, v], .int .i64 1] w fun e w' => e = .returned (.int .i64 ((1 + 3 * l.length : Nat) : Int)) ∧ OwnV w' base v (marksO 1 l.length) ∧ w.grownBy w' v.ownBlock := by
  have hba : Below w.heap.size w (w.alloc (.cells #[.int .i64 kind, .int .i64 tx, v] 26)) := (Below.refl _ _).alloc (Nat.le_refl _) _
  have HM := Hid.mk' (markV v base 1 l _ (h.below hba) (by omega) hk0 1 (by show _ = _; rfl))
  have hga : w.grownBy (w.alloc (.cells #[.int .i64 kind, .int .i64 tx, v] 26)) v.ownBlock := World.grownBy_alloc w _ _
  rcases h.shape with ⟨rfl, rfl⟩ | ⟨g, cap, rfl, _⟩
  all_goals
    clear h
    go_enter Tryd.func29, Tryd.ntmps29
    go_wp2_with fail
    refine HM.out.mono ?_
    rintro e w1 ⟨rfl, hO, hg⟩
    have HO := Hid.mk' hO
    have HG := Hid.mk' (grownBy_trans hga hg)
    clear hO hg HM
    go_wp2_with fail
    go_ret
    exact ⟨rfl, HO.out, HG.out⟩
set_option maxRecDepth 100000 in
set_option maxHeartbeats 1000000 in
theorem heldRec1 (kind tx : Int) (a : Option Addr) (len cap : Nat) (w : World) (h : SlO w a len (marksO 1 len)) (hk0 : 1 + 3 * len ≤ 1099511627776) :
    Calls Tryd.prog 33 #[.agg #[.int .i64 kind, .int .i64 tx, .slice a len cap], .int .i64 1] w fun e w' => e = .returned (.int .i64 ((1 + 3 * len : Nat) : Int)) ∧ Below w.heap.size w w' := by
  have hba : Below w.heap.size w (w.alloc (.cells #[.int .i64 kind, .int .i64 tx, .slice a len cap] 26)) := (Below.refl _ _).alloc (Nat.le_refl _) _
  have HM := Hid.mk' (show Calls Tryd.prog 61 #[.slice a len cap, .int .i64 ((1 : Nat) : Int)] _ _ from heldOpS a len cap 1 _ (h.below hba) (by omega) hk0)
  generalize hN : 1 + 3 * len = N at *
  clear hN h
  go_enter Tryd.func33, Tryd.ntmps33
  go_wp2_with fail
  refine HM.out.mono ?_
  rintro e w1 ⟨rfl, hb1⟩
  go_wp2_with fail
  go_ret
  exact ⟨rfl, hba.trans (hb1.mono hba.size)⟩
end Go.Proofs.YtooiinicnkhlbaaDoor.recs

namespace Go.Proofs.YtooiinicnkhlbaaDoor.ords
open Go Go.RowKit Go.Proofs.YtooiinicnkhlbaaDoor.base Go.Proofs.YtooiinicnkhlbaaDoor.pairs
set_option linter.unusedVariables false

def V3 (w : World) (g : Nat) (t : TypeId) (x y z : Value) : Prop := w.heap[g]? = some (.cells #[x, y, z] t (0, 0))
section
variable {w w' : World} {g : Nat} {t : TypeId} {x y z : Value}
theorem V3.c0 (h : V3 w g t x y z) : w.cell? ⟨g, 0, none⟩ = some x := cell_cur h 0 _ rfl
theorem V3.c1 (h : V3 w g t x y z) : w.cell? ⟨g, 1, none⟩ = some y := cell_cur h 1 _ rfl
theorem V3.c2 (h : V3 w g t x y z) : w.cell? ⟨g, 2, none⟩ = some z := cell_cur h 2 _ rfl
theorem V3.lt (h : V3 w g t x y z) : g < w.heap.size := (Array.getElem?_eq_some_iff.1 h).1
theorem V3.below (h : V3 w g t x y z) (hb : Below w.heap.size w w') : V3 w' g t x y z := (hb.block g h.lt).trans h
end
theorem v3_grown {w w' : World} {g : Nat} {t : TypeId} {x y z : Value} {row : Option Nat} (h : V3 w g t x y z) (hg : w.grownBy w' row) (hne : some g ≠ row) : V3 w' g t x y z := (hg.block g h.lt hne).trans h
theorem v3_fz {w : World} {g : Nat} {t : TypeId} {x y z : Value} (h : V3 w g t x y z) (j : Nat) : w.frozen? ⟨g, j, none⟩ = false := by
  unfold V3 at h; simp [World.frozen?, h]
theorem v3_set {w : World} {g : Nat} {t : TypeId} {x y z : Value} (h : V3 w g t x y z) : (∀ u, V3 (w.setCell ⟨g, 0, none⟩ u) g t u y z ∧ w.grownBy (w.setCell ⟨g, 0, none⟩ u) (some g)) ∧ (∀ u, V3 (w.setCell ⟨g, 1, none⟩ u) g t x u z ∧ w.grownBy (w.setCell ⟨g, 1, none⟩ u) (some g)) ∧ (∀ u, V3 (w.setCell ⟨g, 2, none⟩ u) g t x y u ∧ w.grownBy (w.setCell ⟨g, 2, none⟩ u) (some g)) :=
  ⟨fun u => ⟨(set_cur h 0 u).1, (set_cur h 0 u).2⟩, fun u => ⟨(set_cur h 1 u).1, (set_cur h 1 u).2⟩, fun u => ⟨(set_cur h 2 u).1, (set_cur h 2 u).2⟩⟩
theorem v3_all {w : World} {g : Nat} {t : TypeId} {x y z : Value} (h : V3 w g t x y z) (a b c : Value) : V3 (((w.setCell ⟨g, 0, none⟩ a).setCell ⟨g, 1, none⟩ b).setCell ⟨g, 2, none⟩ c) g t a b c ∧ w.grownBy (((w.setCell ⟨g, 0, none⟩ a).setCell ⟨g, 1, none⟩ b).setCell ⟨g, 2, none⟩ c) (some g) := by
  have h1 := (v3_set h).1 a
  have h2 := (v3_set h1.1).2.1 b
  have h3 := (v3_set h2.1).2.2 c
  exact ⟨h3.1, grownBy_trans (grownBy_trans h1.2 h2.2) h3.2⟩
end Go.Proofs.YtooiinicnkhlbaaDoor.ords

namespace Go.Proofs.YtooiinicnkhlbaaDoor.pairs
open Go Go.RowKit Go.Proofs.YtooiinicnkhlbaaDoor.base Go.Proofs.YtooiinicnkhlbaaDoor.helps
set_option linter.unusedVariables false
set_option linter.unusedSimpArgs false


structure TrioP (w0 w : World) (gx lx cx : Nat) (X : List Pr) (gg lg cg : Nat) (G : List Pr) (gw lw cw : Nat) (W : List Pr) : Prop where
  bel : Below w0.heap.size w0 w
  x : OwnP w w0.heap.size gx lx cx X
  g : OwnP w w0.heap.size gg lg cg G
  s : OwnP w w0.heap.size gw lw cw W
  xg : gx ≠ gg
  xs : gx ≠ gw
  gs : gg ≠ gw
section
variable {w0 w w' : World} {gx lx cx gg lg cg gw lw cw : Nat} {X G W : List Pr}
theorem TrioP.below (h : TrioP w0 w gx lx cx X gg lg cg G gw lw cw W) (hb : Below w.heap.size w w') : TrioP w0 w' gx lx cx X gg lg cg G gw lw cw W :=
  ⟨h.bel.trans (hb.mono h.bel.size), h.x.below hb, h.g.below hb, h.s.below hb, h.xg, h.xs, h.gs⟩
theorem TrioP.markX (h : TrioP w0 w gx lx cx X gg lg cg G gw lw cw W) {X' : List Pr} (ho : OwnP w' w0.heap.size gx lx cx X') (hg : w.grownBy w' (some gx)) : TrioP w0 w' gx lx cx X' gg lg cg G gw lw cw W :=
  ⟨h.bel.grown hg h.bel.size (fun k e => by cases e; exact h.x.lt.1), ho, h.g.grown hg (by simpa using h.xg.symm), h.s.grown hg (by simpa using h.xs.symm), h.xg, h.xs, h.gs⟩
theorem TrioP.markG (h : TrioP w0 w gx lx cx X gg lg cg G gw lw cw W) {G' : List Pr} (ho : OwnP w' w0.heap.size gg lg cg G') (hg : w.grownBy w' (some gg)) : TrioP w0 w' gx lx cx X gg lg cg G' gw lw cw W :=
  ⟨h.bel.grown hg h.bel.size (fun k e => by cases e; exact h.g.lt.1), h.x.grown hg (by simpa using h.xg), ho, h.s.grown hg (by simpa using h.gs.symm), h.xg, h.xs, h.gs⟩
end

/-! ### arguments -/
def strOf : Value → ByteArray
  | .string s => s
  | _ => ⟨#[]⟩
theorem slp_open {W : World} {ad : Addr} {len cap : Nat} {V0 V1 : Nat → Value} (hl : len ≤ cap) (hm : cap ≤ maxLen)
    (hs : ∀ i, i < len → V0 i = .string (strOf (V0 i)) ∧ V1 i = .string (strOf (V1 i)) ∧ (strOf (V0 i)).size ≤ maxLen ∧ (strOf (V1 i)).size ≤ maxLen)
    (hc : ∀ i, i < len → W.cell? (ad.add (i * 2)) = some (V0 i) ∧ W.cell? (ad.add (i * 2 + 1)) = some (V1 i)) : ∃ l, SlP W (some ad) len l := by
  obtain ⟨b, off, spot⟩ := ad
  refine ⟨(List.range len).map fun i => (strOf (V0 i), strOf (V1 i)), by simp, by omega, ?_, fun h0 => ?_⟩
  · intro p hp
    obtain ⟨i, hi, rfl⟩ := List.mem_map.1 hp
    have := hs i (List.mem_range.1 hi)
    exact ⟨this.2.2.1, this.2.2.2⟩
  · have hspot : spot = none := by simpa [Addr.add] using World.cell?_spot (hc 0 h0).1
    subst hspot
    refine ⟨b, off, rfl, fun i hi => ?_⟩
    have hi' : i < len := by simpa using hi
    have h1 := hc i hi'
    have h2 := hs i hi'
    rw [Addr.add_lit, Addr.add_lit, h2.1, h2.2.1] at h1
    simp only [List.getElem_map, List.getElem_range]
    rw [← Nat.add_assoc] at h1
    exact h1
theorem slp_arg {H : Type} {enc : TypeId × Value → H} {W : World} {a : Option Addr} {len cap fuel : Nat} {x : DataW H × List MemPlace} (t : TypeId) (e : TypeId) (f0 f1 : Field) (ht : Tryd.prog.underlying t = some (.slice e)) (he : Tryd.prog.underlying e = some (.struct #[f0, f1]))
    (ce : Tryd.prog.cellsOf e = 2) (o0 : f0.offset = 0) (o1 : f1.offset = 1) (t0 : f0.type = 9) (t1 : f1.type = 9) (c9 : Tryd.prog.cellsOf 9 = 1)
    (h : DataW.trod enc Tryd.prog W 0 (fun _ => true) true fuel t (Value.cells (.slice a len cap)).toList = some x) : ∃ l, SlP W a len l := by
  rcases Deep.open_slice_pairs ht he ce o0 o1 (by rw [t0]; exact c9) (by rw [t1]; exact c9) h with ⟨hcs, _⟩ | ⟨ad, len', cap', m, n, V0, V1, D0, D1, P0, P1, hcs, _, hl, hm, hmm, _, hx⟩
  · simp [Value.cells] at hcs
    obtain ⟨rfl, rfl, rfl⟩ := hcs
    exact ⟨[], slp_nil _ _⟩
  · simp [Value.cells] at hcs
    obtain ⟨rfl, rfl, rfl⟩ := hcs
    simp at hmm
    refine slp_open (V0 := V0) (V1 := V1) hl hm (fun i hi => ?_) (fun i hi => ⟨(hx i (by omega)).1, (hx i (by omega)).2.1⟩)
    obtain ⟨_, _, h3, h4⟩ := hx i (by omega)
    rw [t0] at h3
    rw [t1] at h4
    obtain ⟨s0, e0, _, z0⟩ := DataW.trod_string Tryd.underlying9 h3
    obtain ⟨s1, e1, _, z1⟩ := DataW.trod_string Tryd.underlying9 h4
    simp at e0 e1
    rw [e0, e1]
    exact ⟨rfl, rfl, z0, z1⟩

set_option maxRecDepth 100000 in
theorem pair_arg {H : Type} {enc : TypeId × Value → H} {W : World} {v : Value} {r : Reach} {base fuel : Nat} {x : DataW H × List MemPlace} (e : TypeId) (f0 f1 : Field) (he : Tryd.prog.underlying e = some (.struct #[f0, f1]))
    (ce : Tryd.prog.cellsOf e = 2) (o0 : f0.offset = 0) (o1 : f1.offset = 1) (t0 : f0.type = 9) (t1 : f1.type = 9) (c9 : Tryd.prog.cellsOf 9 = 1)
    (hok : Value.okWide Tryd.prog W r base e v) (h : DataW.trod enc Tryd.prog W 0 (fun _ => true) true fuel e v.cells.toList = some x) : ∃ p : Pr, v = .agg #[.string p.1, .string p.2] ∧ small p := by
  obtain ⟨cs, rfl, hsz⟩ := WideShapes.okWide_struct he hok
  rw [ce] at hsz
  obtain ⟨xs, m, _, _, _, hxl, hel⟩ := DataW.trod_struct he h
  have g0 := hel 0 f0 rfl
  have g1 := hel 1 f1 rfl
  obtain ⟨l⟩ := cs
  match l, hsz, xs, hxl with
  | [c0, c1], _, [y0, y1], _ =>
    simp [o0, o1, t0, t1, c9, Value.cells] at g0 g1
    obtain ⟨s0, e0, _, z0⟩ := DataW.trod_string Tryd.underlying9 g0
    obtain ⟨s1, e1, _, z1⟩ := DataW.trod_string Tryd.underlying9 g1
    simp at e0 e1
    subst e0 e1
    exact ⟨(s0, s1), rfl, z0, z1⟩

end Go.Proofs.YtooiinicnkhlbaaDoor.pairs

namespace Go.Proofs.YtooiinicnkhlbaaDoor.ords
open Go Go.RowKit Go.Proofs.YtooiinicnkhlbaaDoor.base Go.Proofs.YtooiinicnkhlbaaDoor.pairs
set_option linter.unusedVariables false
set_option linter.unusedSimpArgs false

theorem slo_open {W : World} {ad : Addr} {len cap : Nat} (hl : len ≤ cap) (hm : cap ≤ maxLen) (q : Nat → Od) (hs : ∀ i, i < len → smallO (q i))
    (hc : ∀ i, i < len → W.cell? (ad.add (i * 3)) = some (.int .i64 (q i).1) ∧ W.cell? (ad.add (i * 3 + 1)) = some (.string (q i).2.1) ∧ W.cell? (ad.add (i * 3 + 2)) = some (.string (q i).2.2)) : ∃ l, SlO W (some ad) len l := by
  obtain ⟨b, off, spot⟩ := ad
  refine ⟨(List.range len).map q, by simp, by omega, ?_, fun h0 => ?_⟩
  · intro p hp
    obtain ⟨i, hi, rfl⟩ := List.mem_map.1 hp
    exact hs i (List.mem_range.1 hi)
  · have hspot : spot = none := by simpa [Addr.add] using World.cell?_spot (hc 0 h0).1
    subst hspot
    refine ⟨b, off, rfl, fun i hi => ?_⟩
    have hi' : i < len := by simpa using hi
    have h1 := hc i hi'
    rw [Addr.add_lit, Addr.add_lit, Addr.add_lit] at h1
    simp only [List.getElem_map, List.getElem_range]
    rw [← Nat.add_assoc, ← Nat.add_assoc] at h1
    exact h1
set_option maxRecDepth 100000 in
theorem slo_arg {H : Type} {enc : TypeId × Value → H} {W : World} {a : Option Addr} {len cap fuel : Nat} {x : DataW H × List MemPlace} (t e : TypeId) (f0 f1 f2 : Field) (ht : Tryd.prog.underlying t = some (.slice e)) (he : Tryd.prog.underlying e = some (.struct #[f0, f1, f2]))
    (ce : Tryd.prog.cellsOf e = 3) (o0 : f0.offset = 0) (o1 : f1.offset = 1) (o2 : f2.offset = 2) (t0 : f0.type = 3) (t1 : f1.type = 9) (t2 : f2.type = 9) (c3 : Tryd.prog.cellsOf 3 = 1) (c9 : Tryd.prog.cellsOf 9 = 1)
    (h : DataW.trod enc Tryd.prog W 0 (fun _ => true) true fuel t (Value.cells (.slice a len cap)).toList = some x) : ∃ l, SlO W a len l := by
  rcases Deep.open_slice ht h with ⟨hcs, _⟩ | ⟨ad, len', cap', m, n, D, Pl, hcs, hb, hl, hm, hmm, _, hx⟩
  · simp [Value.cells] at hcs
    obtain ⟨rfl, rfl, rfl⟩ := hcs
    exact ⟨[], slo_nil _ _⟩
  · simp [Value.cells] at hcs
    obtain ⟨rfl, rfl, rfl⟩ := hcs
    simp at hmm
    have each : ∀ i, i < len → ∃ y : Od, smallO y ∧ W.cell? (ad.add (i * 3)) = some (.int .i64 y.1) ∧ W.cell? (ad.add (i * 3 + 1)) = some (.string y.2.1) ∧ W.cell? (ad.add (i * 3 + 2)) = some (.string y.2.2) := by
      intro i hi
      obtain ⟨cs', h1, h2⟩ := hx i (by omega)
      rw [ce] at h1
      obtain ⟨_, hlen, hcell⟩ := World.cells?_some h1
      obtain ⟨xs, k, hk, _, _, hxl, hf⟩ := DataW.trod_struct he h2
      match xs, hxl, cs', hlen with
      | [y0, y1, y2], _, [v0, v1, v2], _ =>
        have k0 := hf 0 f0 rfl
        have k1 := hf 1 f1 rfl
        have k2 := hf 2 f2 rfl
        rw [t0] at k0
        rw [t1] at k1
        rw [t2] at k2
        simp [o0, o1, o2, c3, c9] at k0 k1 k2
        obtain ⟨n0, e0, _, w0⟩ := DataW.trod_int Tryd.underlying3 k0
        obtain ⟨s1, e1, _, w1⟩ := DataW.trod_string Tryd.underlying9 k1
        obtain ⟨s2, e2, _, w2⟩ := DataW.trod_string Tryd.underlying9 k2
        simp at e0 e1 e2
        subst e0 e1 e2
        have d0 := hcell 0 (by omega)
        have d1 := hcell 1 (by omega)
        have d2 := hcell 2 (by omega)
        rw [Deep.add_add] at d0 d1 d2
        exact ⟨(n0, s1, s2), ⟨w0, w1, w2⟩, by simpa using d0, by simpa using d1, by simpa using d2⟩
    obtain ⟨q, hq⟩ := Deep.choose_lt each
    exact slo_open hl hm q (fun i hi => (hq i hi).1) (fun i hi => (hq i hi).2)
end Go.Proofs.YtooiinicnkhlbaaDoor.ords
