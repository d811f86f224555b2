/- The laws' marks on orders and on rows of numbers, and orders that are the same. -/
import Derived.Test.YtmpggohilmngpaaHelpO
import Derived.Test.YtmpggohilmngpaaRowZ
namespace Go.Proofs.Ytmpggohilmngpaa.ords
open Go Go.RowKit Go.Proofs.Ytmpggohilmngpaa.base Go.Proofs.Ytmpggohilmngpaa.helps Go.Proofs.Ytmpggohilmngpaa.pairs
set_option linter.unusedVariables false
set_option linter.unusedSimpArgs false

def marksO (k0 n : Nat) : List Od := (List.range n).map fun j => (((k0 + 3 * j : Nat) : Int), markBytes (k0 + 3 * j + 1), markBytes (k0 + 3 * j + 2))
def markOTo (l : List Od) (k0 i : Nat) : List Od := marksO k0 i ++ l.drop i
theorem marksO_length (k0 n : Nat) : (marksO k0 n).length = n := by simp [marksO]
theorem marksO_get (k0 n i : Nat) (h : i < n) : (marksO k0 n)[i]'(by rw [marksO_length]; exact h) = (((k0 + 3 * i : Nat) : Int), markBytes (k0 + 3 * i + 1), markBytes (k0 + 3 * i + 2)) := by simp [marksO]
theorem markOTo_length (l : List Od) (k0 i : Nat) (h : i ≤ l.length) : (markOTo l k0 i).length = l.length := by simp [markOTo, marksO]; omega
theorem markOTo_zero (l : List Od) (k0 : Nat) : markOTo l k0 0 = l := by simp [markOTo, marksO]
theorem markOTo_all (l : List Od) (k0 : Nat) : markOTo l k0 l.length = marksO k0 l.length := by simp [markOTo]
theorem markOTo_set (l : List Od) (k0 i : Nat) (h : i < l.length) : (markOTo l k0 i).set i (((k0 + 3 * i : Nat) : Int), markBytes (k0 + 3 * i + 1), markBytes (k0 + 3 * i + 2)) = markOTo l k0 (i + 1) := by
  unfold markOTo marksO
  rw [List.set_append_right _ _ (by simp)]
  simp only [List.length_map, List.length_range, Nat.sub_self, List.range_succ, List.map_append, List.map_cons, List.map_nil, List.append_assoc]
  congr 1
  rw [List.drop_eq_getElem_cons h]
  rfl

set_option maxRecDepth 100000 in
set_option maxHeartbeats 1000000 in
theorem markOpS (g len cap k0 base : Nat) (l : List Od) (w : World) (h : OwnO w base g len cap l) (hk1 : 1 ≤ k0) (hk0 : k0 + 3 * len ≤ 1099511627776) :
    Calls Try.prog 19 #[.slice (some ⟨g, 0, none⟩) len cap, .int .i64 (k0 : Nat)] w fun e w' => e = .returned (.int .i64 ((k0 + 3 * len : Nat) : Int)) ∧ OwnO w' base g len cap (marksO k0 len) ∧ w.grownBy w' (some g) := by
  have hl := h.1
  subst hl
  go_enter Try.func19, Try.ntmps19
  go_wp2_with fail
  go_loopw [1, 5] (fun kv i wr => ∃ k : Nat, k ≤ l.length ∧ i = .int .i64 k ∧ kv = .int .i64 ((k0 + 3 * k : Nat) : Int) ∧ OwnO wr base g l.length cap (markOTo l k0 k) ∧ w.grownBy wr (some g)) (fun _ i _ => l.length - (intOf i).toNat)
  case atStart => exact ⟨0, Nat.zero_le _, rfl, rfl, by rw [markOTo_zero]; exact h, World.grownBy.refl _ _⟩
  case round =>
    obtain ⟨k, hk, rfl, rfl, hO, hG⟩ := hrel
    by_cases hlt : k < l.length
    · have hlen : k < (markOTo l k0 k).length := by rw [markOTo_length l k0 k hk]; exact hlt
      have HS := Hid.mk' (markOTo_set l k0 k hlt)
      have hki : (k : Int) < (l.length : Int) := by omega
      have d0 := hO.kind k hlen
      have f0 := hO.frozen (k * 3)
      have R0 := hO.setKind k hlen ((k0 + 3 * k : Nat) : Int) (WalkArith.wf_i64 (by omega))
      have HR0 := Hid.mk' R0
      have hG0 := grownBy_trans hG R0.2
      clear R0 hO hG
      go_wp2_with fail
      refine (markTextI _ (k0 + 3 * k + 1) _ (by show _ = _; omega) (by omega) (by omega)).mono ?_
      rintro e w1 ⟨rfl, hB1⟩
      have hO1 := HR0.out.1.below hB1
      have hG1 := grown_below hG0 hB1
      have hlen1 : k < ((markOTo l k0 k).set k (((k0 + 3 * k : Nat) : Int), (markOTo l k0 k)[k].2)).length := by simpa using hlen
      have d1 := hO1.key k hlen1
      have f1 := hO1.frozen (k * 3 + 1)
      have R := hO1.setKey k hlen1 (markBytes (k0 + 3 * k + 1)) (mark_max _)
      simp only [List.getElem_set_self, List.set_set] at R
      have HR := Hid.mk' R
      have hG2 := grownBy_trans hG1 R.2
      clear R hO1 hG1 HR0 hG0 d0 f0
      go_wp2_with fail
      refine (markTextI _ (k0 + 3 * k + 2) _ (by show _ = _; omega) (by omega) (by omega)).mono ?_
      rintro e w2 ⟨rfl, hB2⟩
      have hO2 := HR.out.1.below hB2
      have hG3 := grown_below hG2 hB2
      have hlen2 : k < ((markOTo l k0 k).set k (((k0 + 3 * k : Nat) : Int), markBytes (k0 + 3 * k + 1), (markOTo l k0 k)[k].2.2)).length := by simpa using hlen
      have d2 := hO2.val k hlen2
      have f2 := hO2.frozen (k * 3 + 2)
      have R2 := hO2.setVal k hlen2 (markBytes (k0 + 3 * k + 2)) (mark_max _)
      simp only [List.getElem_set_self, List.set_set] at R2
      rw [HS.out] at R2
      have HR2 := Hid.mk' R2
      have hG4 := grownBy_trans hG3 R2.2
      clear R2 hO2 hG3 hG2 HR d1 f1
      go_wp2_with fail
      go_roundw
      case rel => exact ⟨k + 1, by omega, by go_num, by go_num, HR2.out.1, hG4⟩
      case measure => simp [intOf]; omega
    · go_wp2_with fail
      go_ret
      have e : k = l.length := by omega
      subst e
      rw [markOTo_all] at hO
      exact ⟨rfl, hO, hG⟩

set_option maxRecDepth 100000 in
set_option maxHeartbeats 1000000 in
theorem heldOpS (a : Option Addr) (len cap k0 : Nat) (w : World) (h : SlO w a len (marksO k0 len)) (hk1 : 1 ≤ k0) (hk0 : k0 + 3 * len ≤ 1099511627776) :
    Calls Try.prog 21 #[.slice a len cap, .int .i64 (k0 : Nat)] w fun e w' => e = .returned (.int .i64 ((k0 + 3 * len : Nat) : Int)) ∧ Below w.heap.size w w' := by
  obtain ⟨hl, hm, _, hc⟩ := h
  go_enter Try.func21, Try.ntmps21
  go_wp2_with fail
  go_loopw [1, 5] (fun kv i wr => ∃ k : Nat, k ≤ len ∧ i = .int .i64 k ∧ kv = .int .i64 ((k0 + 3 * k : Nat) : Int) ∧ Below w.heap.size w wr) (fun _ i _ => len - (intOf i).toNat)
  case atStart => exact ⟨0, Nat.zero_le _, rfl, rfl, Below.refl _ _⟩
  case round =>
    obtain ⟨k, hk, rfl, rfl, hB⟩ := hrel
    by_cases hlt : k < len
    · obtain ⟨b, off, ha, hcl⟩ := hc (by omega)
      subst ha
      have hkl : k < (marksO k0 len).length := by omega
      obtain ⟨d0, d1, d2⟩ := hcl k hkl
      rw [marksO_get k0 len k hlt] at d0 d1 d2
      have hbb : b < w.heap.size := World.block_lt_of_cell? w _ d1
      have c0 := (hB.cell (p := ⟨b, off + k * 3, none⟩) hbb).trans d0
      have c1 := (hB.cell (p := ⟨b, off + k * 3 + 1, none⟩) hbb).trans d1
      have c2 := (hB.cell (p := ⟨b, off + k * 3 + 2, none⟩) hbb).trans d2
      have hbw := hB.size
      have o1 := last.On.cell (B := wr.heap.size) c1 (by omega)
      have hinh := last.On.inh wr.heap.size wr
      have hki : (k : Int) < (len : Int) := by omega
      have hm1 : ∀ x : last.On wr.heap.size wr, Calls Try.prog 25 #[.int .i64 ((k0 : Int) + 3 * (k : Int) + 1)] x.w fun e w' => e = .returned (.string (markBytes (k0 + 3 * k + 1))) ∧ ∃ y : last.On wr.heap.size wr, w' = y.w := fun x => last.Calls.on x (Nat.le_refl _) (markTextI _ (k0 + 3 * k + 1) x.w (by show _ = _; omega) (by omega) (by omega))
      clear hcl hc d0 d1 d2 hkl
      generalize hM1 : markBytes (k0 + 3 * k + 1) = M1 at *
      generalize hM2 : markBytes (k0 + 3 * k + 2) = M2 at *
      have HM2 := Hid.mk' hM2
      clear hM1 hM2
      go_wp2_with fail
      refine last.wp_region_on wr.heap.size (by kernel_rfl) (by kernel_rfl) ?_
      repeat (go_big_quiet_step ((go_at_call 25; exact hm1 _)))
      refine wpQuiet_nil ?_
      intro w5 hw5
      obtain ⟨x5, hw5⟩ := hw5
      subst hw5
      have hB5 : Below w.heap.size w x5.w := hB.trans (x5.2.mono hB.size)
      have c2' : x5.w.cell? ⟨b, off + k * 3 + 2, none⟩ = some (.string M2) := (x5.2.cell (p := ⟨b, off + k * 3 + 2, none⟩) (by show b < _; omega)).trans c2
      generalize x5.w = w6 at *
      clear o1 hinh hm1 c0 c1 c2
      have hbw6 := hB5.size
      have o2 := last.On.cell (B := w6.heap.size) c2' (by omega)
      have hinh := last.On.inh w6.heap.size w6
      have hm2 : ∀ x : last.On w6.heap.size w6, Calls Try.prog 25 #[.int .i64 ((k0 : Int) + 3 * (k : Int) + 1 + 1)] x.w fun e w' => e = .returned (.string M2) ∧ ∃ y : last.On w6.heap.size w6, w' = y.w := fun x => last.Calls.on x (Nat.le_refl _) (by rw [← HM2.out]; exact markTextI _ (k0 + 3 * k + 2) x.w (by show _ = _; omega) (by omega) (by omega))
      clear HM2
      go_wp2_with fail
      refine last.wp_region_on w6.heap.size (by kernel_rfl) (by kernel_rfl) ?_
      repeat (go_big_quiet_step ((go_at_call 25; exact hm2 _)))
      refine wpQuiet_nil ?_
      intro w7 hw7
      obtain ⟨x7, hw7⟩ := hw7
      subst hw7
      have hB7 : Below w.heap.size w x7.w := hB5.trans (x7.2.mono hB5.size)
      go_wp2_with fail
      go_roundw
      case rel => exact ⟨k + 1, by omega, by go_num, by go_num, hB7⟩
      case measure => simp [intOf]; omega
    · go_wp2_with fail
      go_ret
      have e : k = len := by omega
      subst e
      exact ⟨rfl, hB⟩

/-! ### rows of numbers -/
theorem take_eqZ {l l2 : List Int} {k : Nat} (h : l.take k = l2.take k) (h1 : k < l.length) (h2 : k < l2.length) (e : l[k] = l2[k]) : l.take (k + 1) = l2.take (k + 1) := by
  rw [List.take_succ_eq_append_getElem h1, List.take_succ_eq_append_getElem h2, h, e]
set_option maxRecDepth 100000 in
set_option maxHeartbeats 1000000 in
theorem eqIntS (a a2 : Option Addr) (len cap len2 cap2 : Nat) (l l2 : List Int) (w : World) (h : SlZ w a len l) (h2 : SlZ w a2 len2 l2) :
    Calls Try.prog 24 #[.slice a len cap, .slice a2 len2 cap2] w fun e w' => e = .returned (.bool (decide (l = l2))) ∧ Below w.heap.size w w' := by
  obtain ⟨hl, hm, hc⟩ := h
  obtain ⟨hl2, hm2, hc2⟩ := h2
  subst hl hl2
  unfold maxLen at hm hm2
  by_cases hne : l.length = l2.length
  · have hb : ((l.length : Int) == (l2.length : Int)) = true := by simp; omega
    go_enter Try.func24, Try.ntmps24
    go_wp2_with fail
    go_loopw [5] (fun i wr => ∃ k : Nat, k ≤ l.length ∧ i = .int .i64 k ∧ l.take k = l2.take k ∧ Below w.heap.size w wr) (fun i _ => l.length - (intOf i).toNat)
    case atStart => exact ⟨0, Nat.zero_le _, rfl, rfl, Below.refl _ _⟩
    case round =>
      obtain ⟨k, hk, rfl, htk, hB⟩ := hrel
      by_cases hlt : k < l.length
      · obtain ⟨b, off, ha, hcl⟩ := hc (by omega)
        obtain ⟨b2, off2, ha2, hcl2⟩ := hc2 (by omega)
        subst ha ha2
        have hlt2 : k < l2.length := by omega
        have hi1 : (k : Int) < (l.length : Int) := by omega
        have hi2 : (k : Int) < (l2.length : Int) := by omega
        have hb1 : b < w.heap.size := World.block_lt_of_cell? w _ (hcl k hlt)
        have hb2 : b2 < w.heap.size := World.block_lt_of_cell? w _ (hcl2 k hlt2)
        have c1 := (hB.cell (p := ⟨b, off + k, none⟩) hb1).trans (hcl k hlt)
        have c2 := (hB.cell (p := ⟨b2, off2 + k, none⟩) hb2).trans (hcl2 k hlt2)
        by_cases e : l[k] = l2[k]
        · have HE := Hid.mk' (take_eqZ htk hlt hlt2 e)
          rw [← e] at c2
          generalize l[k] = z at *
          clear hcl hcl2 hc hc2 htk hne e
          have hq : (z == z) = true := beq_self_eq_true _
          go_wp2_with fail
          go_quiet (fail)
          go_wp2_with fail
          go_roundw
          case rel => exact ⟨k + 1, by omega, by go_num, HE.out, by first | exact hB | exact hB.drew | exact below_drewN hB _⟩
          case measure => simp [intOf]; omega
        · have HE : Hid (¬ l = l2) := by
            show ¬ _
            rintro rfl; exact e rfl
          have hq : (l[k] == l2[k]) = false := beq_eq_false_iff_ne.2 e
          generalize l[k] = z at *
          generalize l2[k] = z2 at *
          clear hcl hcl2 hc hc2 htk hne
          go_wp2_with fail
          go_quiet (fail)
          go_wp2_with fail
          go_ret
          exact ⟨ret_bool (by symm; rw [decide_eq_false_iff_not]; exact HE.out), by first | exact hB | exact hB.drew | exact below_drewN hB _⟩
      · have e : k = l.length := by omega
        have hfin : l = l2 := by
          subst e
          rw [List.take_of_length_le (Nat.le_refl _), List.take_of_length_le (by omega)] at htk
          exact htk
        have HF := Hid.mk' hfin
        clear hfin htk
        go_wp2_with fail
        go_ret
        exact ⟨ret_bool (by symm; rw [decide_eq_true_iff]; exact HF.out), hB⟩
  · have hb : ((l.length : Int) == (l2.length : Int)) = false := by simp; omega
    go_enter Try.func24, Try.ntmps24
    go_wp2
    go_ret
    exact ⟨ret_bool (by symm; rw [decide_eq_false_iff_not]; intro h; exact hne (by rw [h])), Below.refl _ _⟩
def marksZ (k0 n : Nat) : List Int := (List.range n).map fun j => ((k0 + j : Nat) : Int)
theorem marksZ_length (k0 n : Nat) : (marksZ k0 n).length = n := by simp [marksZ]
theorem marksZ_get (k0 n i : Nat) (h : i < n) : (marksZ k0 n)[i]'(by rw [marksZ_length]; exact h) = ((k0 + i : Nat) : Int) := by simp [marksZ]
def markZTo (l : List Int) (k0 i : Nat) : List Int := marksZ k0 i ++ l.drop i
theorem markZTo_length (l : List Int) (k0 i : Nat) (h : i ≤ l.length) : (markZTo l k0 i).length = l.length := by simp [markZTo, marksZ]; omega
theorem markZTo_set (l : List Int) (k0 i : Nat) (h : i < l.length) : (markZTo l k0 i).set i ((k0 + i : Nat) : Int) = markZTo l k0 (i + 1) := by
  unfold markZTo marksZ
  rw [List.set_append_right _ _ (by simp)]
  simp only [List.length_map, List.length_range, Nat.sub_self, List.range_succ, List.map_append, List.map_cons, List.map_nil, List.append_assoc]
  congr 1
  rw [List.drop_eq_getElem_cons h]
  rfl
set_option maxRecDepth 100000 in
set_option maxHeartbeats 1000000 in
theorem markIntS (g len cap k0 base : Nat) (l : List Int) (w : World) (h : OwnZ w base g len cap l) (hk0 : k0 + len ≤ 1099511627776) :
    Calls Try.prog 20 #[.slice (some ⟨g, 0, none⟩) len cap, .int .i64 (k0 : Nat)] w fun e w' => e = .returned (.int .i64 ((k0 + len : Nat) : Int)) ∧ OwnZ w' base g len cap (marksZ k0 len) ∧ w.grownBy w' (some g) := by
  have hl := h.1
  subst hl
  go_enter Try.func20, Try.ntmps20
  go_wp2_with fail
  go_loopw [1, 5] (fun kv i wr => ∃ k : Nat, k ≤ l.length ∧ i = .int .i64 k ∧ kv = .int .i64 ((k0 + k : Nat) : Int) ∧ OwnZ wr base g l.length cap (markZTo l k0 k) ∧ w.grownBy wr (some g)) (fun _ i _ => l.length - (intOf i).toNat)
  case atStart => exact ⟨0, Nat.zero_le _, rfl, rfl, by simpa [markZTo, marksZ] using h, World.grownBy.refl _ _⟩
  case round =>
    obtain ⟨k, hk, rfl, rfl, hO, hG⟩ := hrel
    by_cases hlt : k < l.length
    · have hlen : k < (markZTo l k0 k).length := by rw [markZTo_length l k0 k hk]; exact hlt
      have hki : (k : Int) < (l.length : Int) := by omega
      have d0 := hO.at k hlen
      have f0 := hO.frozen k
      have R := ownZ_set hO k ((k0 + k : Nat) : Int)
      rw [markZTo_set l k0 k hlt] at R
      have HR := Hid.mk' R
      have hG2 := grownBy_trans hG R.2
      generalize (markZTo l k0 k)[k] = z at *
      clear R hO hG
      go_wp2_with fail
      go_roundw
      case rel => exact ⟨k + 1, by omega, by go_num, by go_num, HR.out.1, hG2⟩
      case measure => simp [intOf]; omega
    · go_wp2_with fail
      go_ret
      have e : k = l.length := by omega
      subst e
      have : markZTo l k0 l.length = marksZ k0 l.length := by simp [markZTo]
      rw [this] at hO
      exact ⟨rfl, hO, hG⟩
set_option maxRecDepth 100000 in
set_option maxHeartbeats 1000000 in
theorem heldIntS (a : Option Addr) (len cap k0 : Nat) (w : World) (h : SlZ w a len (marksZ k0 len)) (hk0 : k0 + len ≤ 1099511627776) :
    Calls Try.prog 22 #[.slice a len cap, .int .i64 (k0 : Nat)] w fun e w' => e = .returned (.int .i64 ((k0 + len : Nat) : Int)) ∧ w' = w := by
  obtain ⟨hl, hm, hc⟩ := h
  go_enter Try.func22, Try.ntmps22
  go_wp2
  go_loop [1, 5] (fun kv i => ∃ k : Nat, k ≤ len ∧ i = .int .i64 k ∧ kv = .int .i64 ((k0 + k : Nat) : Int)) (fun _ i => len - (intOf i).toNat)
  case atStart => exact ⟨0, Nat.zero_le _, rfl, rfl⟩
  case round =>
    obtain ⟨k, hk, rfl, rfl⟩ := hrel
    by_cases hlt : k < len
    · obtain ⟨b, off, ha, hcl⟩ := hc (by omega)
      subst ha
      have c0 := hcl k (by rw [marksZ_length]; exact hlt)
      rw [marksZ_get k0 len k hlt] at c0
      have hki : (k : Int) < (len : Int) := by omega
      clear hcl hc
      go_wp2
      go_round
      case rel => exact ⟨k + 1, by omega, by go_num, by go_num⟩
      case measure => simp [intOf]; omega
    · go_wp2
      go_ret
      have e : k = len := by omega
      subst e
      exact ⟨rfl, rfl⟩



theorem eqO (a a2 : Option Addr) (len cap len2 cap2 : Nat) (l l2 : List Od) (w : World) (h : SlO w a len l) (h2 : SlO w a2 len2 l2) (he : l = l2) :
    Calls Try.prog 23 #[.slice a len cap, .slice a2 len2 cap2] w fun e w' => e = .returned (.bool true) ∧ Below w.heap.size w w' := by
  refine (eqOpS a a2 len cap len2 cap2 l l2 w h h2).mono ?_
  rintro e w' ⟨rfl, hb⟩
  exact ⟨ret_bool (decide_eq_true he), hb⟩
theorem markO (g len cap base k0 : Nat) (l : List Od) (w : World) (h : OwnO w base g len cap l) (hk : len ≤ 274877906944) (hk0 : 1 ≤ k0) (hk2 : k0 ≤ 274877906944) (K : Int) (hK : Hid (K = (k0 : Int))) :
    Calls Try.prog 19 #[.slice (some ⟨g, 0, none⟩) len cap, .int .i64 K] w fun e w' => e = .returned (.int .i64 ((k0 : Int) + 3 * (len : Int))) ∧ OwnO w' base g len cap (marksO k0 len) ∧ w.grownBy w' (some g) := by
  have e := hK.out
  subst e
  refine (markOpS g len cap k0 base l w h hk0 (by omega)).mono ?_
  rintro e w' ⟨rfl, h1, h2⟩
  exact ⟨ret_int (by omega), h1, h2⟩
theorem heldO (a : Option Addr) (len cap : Nat) (w : World) (h : SlO w a len (marksO 1 len)) (hk : len ≤ 274877906944) :
    Calls Try.prog 21 #[.slice a len cap, .int .i64 1] w fun e w' => e = .returned (.int .i64 (1 + 3 * (len : Int))) ∧ Below w.heap.size w w' := by
  refine (show Calls Try.prog 21 #[.slice a len cap, .int .i64 ((1 : Nat) : Int)] w _ from heldOpS a len cap 1 w h (by omega) (by omega)).mono ?_
  rintro e w' ⟨rfl, hb⟩
  exact ⟨ret_int (by omega), hb⟩
theorem eqZ (a a2 : Option Addr) (len cap len2 cap2 : Nat) (l l2 : List Int) (w : World) (h : SlZ w a len l) (h2 : SlZ w a2 len2 l2) (he : l = l2) :
    Calls Try.prog 24 #[.slice a len cap, .slice a2 len2 cap2] w fun e w' => e = .returned (.bool true) ∧ Below w.heap.size w w' := by
  refine (eqIntS a a2 len cap len2 cap2 l l2 w h h2).mono ?_
  rintro e w' ⟨rfl, hb⟩
  exact ⟨ret_bool (decide_eq_true he), hb⟩
theorem markZ (g len cap base k0 : Nat) (l : List Int) (w : World) (h : OwnZ w base g len cap l) (hk : len ≤ 274877906944) (hk2 : k0 ≤ 274877906944) (K : Int) (hK : Hid (K = (k0 : Int))) :
    Calls Try.prog 20 #[.slice (some ⟨g, 0, none⟩) len cap, .int .i64 K] w fun e w' => e = .returned (.int .i64 ((k0 : Int) + (len : Int))) ∧ OwnZ w' base g len cap (marksZ k0 len) ∧ w.grownBy w' (some g) := by
  have e := hK.out
  subst e
  refine (markIntS g len cap k0 base l w h (by omega)).mono ?_
  rintro e w' ⟨rfl, h1, h2⟩
  exact ⟨ret_int (by omega), h1, h2⟩
theorem heldZ (a : Option Addr) (len cap : Nat) (w : World) (h : SlZ w a len (marksZ 1 len)) (hk : len ≤ 274877906944) :
    Calls Try.prog 22 #[.slice a len cap, .int .i64 1] w fun e w' => e = .returned (.int .i64 (1 + (len : Int))) ∧ Below w.heap.size w w' := by
  refine (show Calls Try.prog 22 #[.slice a len cap, .int .i64 ((1 : Nat) : Int)] w _ from heldIntS a len cap 1 w h (by omega)).mono ?_
  rintro e w' ⟨rfl, hb⟩
  exact ⟨ret_int (by omega), by rw [hb]; exact Below.refl _ _⟩
end Go.Proofs.Ytmpggohilmngpaa.ords
