/- The laws' marks on orders and on rows of numbers, and orders that are the same. The laws' helpers for one record: its size, alike, marked, held. A block of three cells: small facts on worlds; no function of the program is named here. Rows of pairs that a law made, kept from step to step; arguments that are pairs, opened. An argument that is a slice of orders, opened. The laws' helpers for records that are handed in: copied; and the arguments, opened. A slice of records that came in. How values of a type lie in memory: what is read, what a call owns (with the blocks that it owns), and what a step leaves as it was. No function of the program is named here. -/
import Derived.Test.YteniflajiklffaaGreatDoorShad
import Derived.Test.YteniflajiklffaaGreatDoorShac
import Derived.Test.YteniflajiklffaaGreatDoorShaa
import Derived.Deep.SlicePairs
import Derived.ChangeArms
import Derived.WalkKit
import Derived.WalkSpells
import Derived.WalkLawsBesides
import Derived.OwnWalk
import Derived.Deep.AppendLies
namespace Go.Proofs.YteniflajiklffaaGreatDoor.ords
open Go Go.RowKit Go.Proofs.YteniflajiklffaaGreatDoor.base Go.Proofs.YteniflajiklffaaGreatDoor.helps Go.Proofs.YteniflajiklffaaGreatDoor.pairs
set_option linter.unusedVariables false
set_option linter.unusedSimpArgs false

def marksO (k0 n : Nat) : List Od := (List.range n).map fun j => (((k0 + 3 * j : Nat) : Int), markBytes (k0 + 3 * j + 1), markBytes (k0 + 3 * j + 2))
def markOTo (l : List Od) (k0 i : Nat) : List Od := marksO k0 i ++ l.drop i
theorem marksO_length (k0 n : Nat) : (marksO k0 n).length = n := by simp [marksO]
theorem marksO_get (k0 n i : Nat) (h : i < n) : (marksO k0 n)[i]'(by rw [marksO_length]; exact h) = (((k0 + 3 * i : Nat) : Int), markBytes (k0 + 3 * i + 1), markBytes (k0 + 3 * i + 2)) := by simp [marksO]
theorem markOTo_length (l : List Od) (k0 i : Nat) (h : i ≤ l.length) : (markOTo l k0 i).length = l.length := by simp [markOTo, marksO]; omega
theorem markOTo_zero (l : List Od) (k0 : Nat) : markOTo l k0 0 = l := by simp [markOTo, marksO]
theorem markOTo_all (l : List Od) (k0 : Nat) : markOTo l k0 l.length = marksO k0 l.length := by simp [markOTo]
theorem markOTo_set (l : List Od) (k0 i : Nat) (h : i < l.length) : (markOTo l k0 i).set i (((k0 + 3 * i : Nat) : Int), markBytes (k0 + 3 * i + 1), markBytes (k0 + 3 * i + 2)) = markOTo l k0 (i + 1) := by
  unfold markOTo marksO
  rw [List.set_append_right _ _ (by simp)]
  simp only [List.length_map, List.length_range, Nat.sub_self, List.range_succ, List.map_append, List.map_cons, List.map_nil, List.append_assoc]
  congr 1
  rw [List.drop_eq_getElem_cons h]
  rfl

set_option maxRecDepth 100000 in
set_option maxHeartbeats 1000000 in
theorem markOpS (g len cap k0 base : Nat) (l : List Od) (w : World) (h : OwnO w base g len cap l) (hk1 : 1 ≤ k0) (hk0 : k0 + 3 * len ≤ 1099511627776) :
    Calls Tryz.prog 25 #[.slice (some ⟨g, 0, none⟩) len cap, .int .i64 (k0 : Nat)] w fun e w' => e = .returned (.int .i64 ((k0 + 3 * len : Nat) : Int)) ∧ OwnO w' base g len cap (marksO k0 len) ∧ w.grownBy w' (some g) := by
  have hl := h.1
  subst hl
  go_enter Tryz.func25, Tryz.ntmps25
  go_wp2_with fail
  go_loopw [1, 5] (fun kv i wr => ∃ k : Nat, k ≤ l.length ∧ i = .int .i64 k ∧ kv = .int .i64 ((k0 + 3 * k : Nat) : Int) ∧ OwnO wr base g l.length cap (markOTo l k0 k) ∧ w.grownBy wr (some g)) (fun _ i _ => l.length - (intOf i).toNat)
  case atStart => exact ⟨0, Nat.zero_le _, rfl, rfl, by rw [markOTo_zero]; exact h, World.grownBy.refl _ _⟩
  case round =>
    obtain ⟨k, hk, rfl, rfl, hO, hG⟩ := hrel
    by_cases hlt : k < l.length
    · have hlen : k < (markOTo l k0 k).length := by rw [markOTo_length l k0 k hk]; exact hlt
      have HS := Hid.mk' (markOTo_set l k0 k hlt)
      have hki : (k : Int) < (l.length : Int) := by omega
      have d0 := hO.kind k hlen
      have f0 := hO.frozen (k * 3)
      have R0 := hO.setKind k hlen ((k0 + 3 * k : Nat) : Int) (WalkArith.wf_i64 (by omega))
      have HR0 := Hid.mk' R0
      have hG0 := grownBy_trans hG R0.2
      clear R0 hO hG
      go_wp2_with fail
      refine (markTextI _ (k0 + 3 * k + 1) _ (by show _ = _; omega) (by omega) (by omega)).mono ?_
      rintro e w1 ⟨rfl, hB1⟩
      have hO1 := HR0.out.1.below hB1
      have hG1 := grown_below hG0 hB1
      have hlen1 : k < ((markOTo l k0 k).set k (((k0 + 3 * k : Nat) : Int), (markOTo l k0 k)[k].2)).length := by simpa using hlen
      have d1 := hO1.key k hlen1
      have f1 := hO1.frozen (k * 3 + 1)
      have R := hO1.setKey k hlen1 (markBytes (k0 + 3 * k + 1)) (mark_max _)
      simp only [List.getElem_set_self, List.set_set] at R
      have HR := Hid.mk' R
      have hG2 := grownBy_trans hG1 R.2
      clear R hO1 hG1 HR0 hG0 d0 f0
      go_wp2_with fail
      refine (markTextI _ (k0 + 3 * k + 2) _ (by show _ = _; omega) (by omega) (by omega)).mono ?_
      rintro e w2 ⟨rfl, hB2⟩
      have hO2 := HR.out.1.below hB2
      have hG3 := grown_below hG2 hB2
      have hlen2 : k < ((markOTo l k0 k).set k (((k0 + 3 * k : Nat) : Int), markBytes (k0 + 3 * k + 1), (markOTo l k0 k)[k].2.2)).length := by simpa using hlen
      have d2 := hO2.val k hlen2
      have f2 := hO2.frozen (k * 3 + 2)
      have R2 := hO2.setVal k hlen2 (markBytes (k0 + 3 * k + 2)) (mark_max _)
      simp only [List.getElem_set_self, List.set_set] at R2
      rw [HS.out] at R2
      have HR2 := Hid.mk' R2
      have hG4 := grownBy_trans hG3 R2.2
      clear R2 hO2 hG3 hG2 HR d1 f1
      go_wp2_with fail
      go_roundw
      case rel => exact ⟨k + 1, by omega, by go_num, by go_num, HR2.out.1, hG4⟩
      case measure => simp [intOf]; omega
    · go_wp2_with fail
      go_ret
      have e : k = l.length := by omega
      subst e
      rw [markOTo_all] at hO
      exact ⟨rfl, hO, hG⟩

set_option maxRecDepth 100000 in
set_option maxHeartbeats 1000000 in
theorem heldOpS (a : Option Addr) (len cap k0 : Nat) (w : World) (h : SlO w a len (marksO k0 len)) (hk1 : 1 ≤ k0) (hk0 : k0 + 3 * len ≤ 1099511627776) :
    Calls Tryz.prog 104 #[.slice a len cap, .int .i64 (k0 : Nat)] w fun e w' => e = .returned (.int .i64 ((k0 + 3 * len : Nat) : Int)) ∧ Below w.heap.size w w' := by
  obtain ⟨hl, hm, _, hc⟩ := h
  go_enter Tryz.func104, Tryz.ntmps104
  go_wp2_with fail
  go_loopw [1, 5] (fun kv i wr => ∃ k : Nat, k ≤ len ∧ i = .int .i64 k ∧ kv = .int .i64 ((k0 + 3 * k : Nat) : Int) ∧ Below w.heap.size w wr) (fun _ i _ => len - (intOf i).toNat)
  case atStart => exact ⟨0, Nat.zero_le _, rfl, rfl, Below.refl _ _⟩
  case round =>
    obtain ⟨k, hk, rfl, rfl, hB⟩ := hrel
    by_cases hlt : k < len
    · obtain ⟨b, off, ha, hcl⟩ := hc (by omega)
      subst ha
      have hkl : k < (marksO k0 len).length := by omega
      obtain ⟨d0, d1, d2⟩ := hcl k hkl
      rw [marksO_get k0 len k hlt] at d0 d1 d2
      have hbb : b < w.heap.size := World.block_lt_of_cell? w _ d1
      have c0 := (hB.cell (p := ⟨b, off + k * 3, none⟩) hbb).trans d0
      have c1 := (hB.cell (p := ⟨b, off + k * 3 + 1, none⟩) hbb).trans d1
      have c2 := (hB.cell (p := ⟨b, off + k * 3 + 2, none⟩) hbb).trans d2
      have hbw := hB.size
      have o1 := last.On.cell (B := wr.heap.size) c1 (by omega)
      have hinh := last.On.inh wr.heap.size wr
      have hki : (k : Int) < (len : Int) := by omega
      have hm1 : ∀ x : last.On wr.heap.size wr, Calls Tryz.prog 63 #[.int .i64 ((k0 : Int) + 3 * (k : Int) + 1)] x.w fun e w' => e = .returned (.string (markBytes (k0 + 3 * k + 1))) ∧ ∃ y : last.On wr.heap.size wr, w' = y.w := fun x => last.Calls.on x (Nat.le_refl _) (markTextI _ (k0 + 3 * k + 1) x.w (by show _ = _; omega) (by omega) (by omega))
      clear hcl hc d0 d1 d2 hkl
      generalize hM1 : markBytes (k0 + 3 * k + 1) = M1 at *
      generalize hM2 : markBytes (k0 + 3 * k + 2) = M2 at *
      have HM2 := Hid.mk' hM2
      clear hM1 hM2
      go_wp2_with fail
      refine last.wp_region_on wr.heap.size (by kernel_rfl) (by kernel_rfl) ?_
      repeat (go_big_quiet_step ((go_at_call 63; exact hm1 _)))
      refine wpQuiet_nil ?_
      intro w5 hw5
      obtain ⟨x5, hw5⟩ := hw5
      subst hw5
      have hB5 : Below w.heap.size w x5.w := hB.trans (x5.2.mono hB.size)
      have c2' : x5.w.cell? ⟨b, off + k * 3 + 2, none⟩ = some (.string M2) := (x5.2.cell (p := ⟨b, off + k * 3 + 2, none⟩) (by show b < _; omega)).trans c2
      generalize x5.w = w6 at *
      clear o1 hinh hm1 c0 c1 c2
      have hbw6 := hB5.size
      have o2 := last.On.cell (B := w6.heap.size) c2' (by omega)
      have hinh := last.On.inh w6.heap.size w6
      have hm2 : ∀ x : last.On w6.heap.size w6, Calls Tryz.prog 63 #[.int .i64 ((k0 : Int) + 3 * (k : Int) + 1 + 1)] x.w fun e w' => e = .returned (.string M2) ∧ ∃ y : last.On w6.heap.size w6, w' = y.w := fun x => last.Calls.on x (Nat.le_refl _) (by rw [← HM2.out]; exact markTextI _ (k0 + 3 * k + 2) x.w (by show _ = _; omega) (by omega) (by omega))
      clear HM2
      go_wp2_with fail
      refine last.wp_region_on w6.heap.size (by kernel_rfl) (by kernel_rfl) ?_
      repeat (go_big_quiet_step ((go_at_call 63; exact hm2 _)))
      refine wpQuiet_nil ?_
      intro w7 hw7
      obtain ⟨x7, hw7⟩ := hw7
      subst hw7
      have hB7 : Below w.heap.size w x7.w := hB5.trans (x7.2.mono hB5.size)
      go_wp2_with fail
      go_roundw
      case rel => exact ⟨k + 1, by omega, by go_num, by go_num, hB7⟩
      case measure => simp [intOf]; omega
    · go_wp2_with fail
      go_ret
      have e : k = len := by omega
      subst e
      exact ⟨rfl, hB⟩

/-! ### rows of numbers -/
theorem eqO (a a2 : Option Addr) (len cap len2 cap2 : Nat) (l l2 : List Od) (w : World) (h : SlO w a len l) (h2 : SlO w a2 len2 l2) (he : l = l2) :
    Calls Tryz.prog 23 #[.slice a len cap, .slice a2 len2 cap2] w fun e w' => e = .returned (.bool true) ∧ Below w.heap.size w w' := by
  refine (eqOpS a a2 len cap len2 cap2 l l2 w h h2).mono ?_
  rintro e w' ⟨rfl, hb⟩
  exact ⟨ret_bool (decide_eq_true he), hb⟩
end Go.Proofs.YteniflajiklffaaGreatDoor.ords

namespace Go.Proofs.YteniflajiklffaaGreatDoor.recs
open Go Go.RowKit Go.Proofs.YteniflajiklffaaGreatDoor.base Go.Proofs.YteniflajiklffaaGreatDoor.pairs Go.Proofs.YteniflajiklffaaGreatDoor.ords Go.Proofs.YteniflajiklffaaGreatDoor.helps
set_option linter.unusedVariables false
set_option linter.unusedSimpArgs false

set_option maxRecDepth 100000 in
set_option maxHeartbeats 1000000 in
theorem szRec (kind tx : Int) (a : Option Addr) (len cap : Nat) (l : List Od) (L : Nat) (w : World) (h : SlO w a len l) (hL : L ≤ 1099511627776) :
    Calls Tryz.prog 98 #[.agg #[.int .i64 kind, .int .i64 tx, .slice a len cap], .int .i64 (L : Int)] w fun e w' => e = .returned (.int .i64 (pairs.szR L (l.length + sumO l))) ∧ Below w.heap.size w w' := by
  have hba : Below w.heap.size w (w.alloc (.cells #[.int .i64 kind, .int .i64 tx, .slice a len cap] 133)) := (Below.refl _ _).alloc (Nat.le_refl _) _
  have HS := Hid.mk' (szOpS a len cap l L _ (h.below hba) hL)
  by_cases hc : l.length + sumO l ≤ L
  · rw [pairs.szR_pos hc] at HS ⊢
    have hn : ¬ (L : Int) - ((l.length + sumO l : Nat) : Int) < 0 := by omega
    generalize (L : Int) - ((l.length + sumO l : Nat) : Int) = S at *
    go_enter Tryz.func98, Tryz.ntmps98
    go_wp2_with fail
    refine HS.out.mono ?_
    rintro e w1 ⟨rfl, hb1⟩
    go_wp2_with fail
    go_ret
    exact ⟨rfl, hba.trans (hb1.mono hba.size)⟩
  · rw [pairs.szR_neg (by omega)] at HS ⊢
    go_enter Tryz.func98, Tryz.ntmps98
    go_wp2_with fail
    refine HS.out.mono ?_
    rintro e w1 ⟨rfl, hb1⟩
    go_wp2_with fail
    go_ret
    exact ⟨rfl, hba.trans (hb1.mono hba.size)⟩

set_option maxRecDepth 100000 in
set_option maxHeartbeats 1000000 in
theorem eqRecT (kind tx : Int) (pa qa : Option Addr) (pl pc ql qc : Nat) (l : List Od) (w : World) (hx : SlO w pa pl l) (hy : SlO w qa ql l) :
    Calls Tryz.prog 102 #[.agg #[.int .i64 kind, .int .i64 tx, .slice pa pl pc], .agg #[.int .i64 kind, .int .i64 tx, .slice qa ql qc]] w fun e w' => e = .returned (.bool true) ∧ Below w.heap.size w w' := by
  obtain ⟨W, hW⟩ : ∃ W, (w.alloc (.cells #[.int .i64 kind, .int .i64 tx, .slice pa pl pc] 41)).alloc (.cells #[.int .i64 kind, .int .i64 tx, .slice qa ql qc] 41) = W := ⟨_, rfl⟩
  have hB : Below w.heap.size w W := by rw [← hW]; exact ((Below.refl _ _).alloc (Nat.le_refl _) _).alloc (by simp) _
  have HE := Hid.mk' (eqO pa qa pl pc ql qc l l W (hx.below hB) (hy.below hB) rfl)
  have HW := Hid.mk' hW
  clear hW
  have hn : (kind == kind) = true := by simp
  have hf : (tx == tx) = true := by simp
  go_enter Tryz.func102, Tryz.ntmps102
  go_wp2_with fail
  rw [HW.out]
  refine HE.out.mono ?_
  rintro e w1 ⟨rfl, hb1⟩
  have hB1 := hB.trans (hb1.mono hB.size)
  clear HE HW hb1
  go_wp2_with fail
  go_ret
  exact ⟨rfl, hB1⟩

set_option maxRecDepth 100000 in
set_option maxHeartbeats 1000000 in
theorem markNil (K : Int) (w : World) :
    Calls Tryz.prog 25 #[.slice none 0 0, .int .i64 K] w fun e w' => e = .returned (.int .i64 K) ∧ w' = w := by
  go_enter Tryz.func25, Tryz.ntmps25
  go_wp2_with fail
  refine wp_loop_rounds 1 ?_
  rw [rounds_succ]
  go_wp2_with fail
  go_ret
  exact ⟨rfl, rfl⟩
theorem markV (v : Value) (base k0 : Nat) (l : List Od) (w : World) (h : OwnV w base v l) (hk1 : 1 ≤ k0) (hk0 : k0 + 3 * l.length ≤ 1099511627776) (K : Int) (hK : Hid (K = (k0 : Int))) :
    Calls Tryz.prog 25 #[v, .int .i64 K] w fun e w' => e = .returned (.int .i64 ((k0 + 3 * l.length : Nat) : Int)) ∧ OwnV w' base v (marksO k0 l.length) ∧ w.grownBy w' v.ownBlock := by
  have e := hK.out
  subst e
  rcases h.shape with ⟨rfl, rfl⟩ | ⟨g, cap, rfl, hO⟩
  · refine (markNil (k0 : Int) w).mono ?_
    rintro e w' ⟨rfl, rfl⟩
    exact ⟨by simp, by simpa [marksO] using ownV_nil _ _, rfl, rfl, rfl, Nat.le_refl _, fun _ _ _ => rfl⟩
  · refine (markOpS g l.length cap k0 base l w hO hk1 hk0).mono ?_
    rintro e w' ⟨rfl, hO', hg⟩
    have := ownV_of hO'
    exact ⟨rfl, this, hg⟩
end Go.Proofs.YteniflajiklffaaGreatDoor.recs

namespace Go.Proofs.YteniflajiklffaaGreatDoor.ords
open Go Go.RowKit Go.Proofs.YteniflajiklffaaGreatDoor.base Go.Proofs.YteniflajiklffaaGreatDoor.pairs
set_option linter.unusedVariables false

def V3 (w : World) (g : Nat) (t : TypeId) (x y z : Value) : Prop := w.heap[g]? = some (.cells #[x, y, z] t (0, 0))
section
variable {w w' : World} {g : Nat} {t : TypeId} {x y z : Value}
theorem V3.c0 (h : V3 w g t x y z) : w.cell? ⟨g, 0, none⟩ = some x := cell_cur h 0 _ rfl
theorem V3.c1 (h : V3 w g t x y z) : w.cell? ⟨g, 1, none⟩ = some y := cell_cur h 1 _ rfl
theorem V3.c2 (h : V3 w g t x y z) : w.cell? ⟨g, 2, none⟩ = some z := cell_cur h 2 _ rfl
theorem V3.lt (h : V3 w g t x y z) : g < w.heap.size := (Array.getElem?_eq_some_iff.1 h).1
theorem V3.below (h : V3 w g t x y z) (hb : Below w.heap.size w w') : V3 w' g t x y z := (hb.block g h.lt).trans h
end
theorem v3_grown {w w' : World} {g : Nat} {t : TypeId} {x y z : Value} {row : Option Nat} (h : V3 w g t x y z) (hg : w.grownBy w' row) (hne : some g ≠ row) : V3 w' g t x y z := (hg.block g h.lt hne).trans h
theorem v3_fz {w : World} {g : Nat} {t : TypeId} {x y z : Value} (h : V3 w g t x y z) (j : Nat) : w.frozen? ⟨g, j, none⟩ = false := by
  unfold V3 at h; simp [World.frozen?, h]
theorem v3_set {w : World} {g : Nat} {t : TypeId} {x y z : Value} (h : V3 w g t x y z) : (∀ u, V3 (w.setCell ⟨g, 0, none⟩ u) g t u y z ∧ w.grownBy (w.setCell ⟨g, 0, none⟩ u) (some g)) ∧ (∀ u, V3 (w.setCell ⟨g, 1, none⟩ u) g t x u z ∧ w.grownBy (w.setCell ⟨g, 1, none⟩ u) (some g)) ∧ (∀ u, V3 (w.setCell ⟨g, 2, none⟩ u) g t x y u ∧ w.grownBy (w.setCell ⟨g, 2, none⟩ u) (some g)) :=
  ⟨fun u => ⟨(set_cur h 0 u).1, (set_cur h 0 u).2⟩, fun u => ⟨(set_cur h 1 u).1, (set_cur h 1 u).2⟩, fun u => ⟨(set_cur h 2 u).1, (set_cur h 2 u).2⟩⟩
theorem v3_all {w : World} {g : Nat} {t : TypeId} {x y z : Value} (h : V3 w g t x y z) (a b c : Value) : V3 (((w.setCell ⟨g, 0, none⟩ a).setCell ⟨g, 1, none⟩ b).setCell ⟨g, 2, none⟩ c) g t a b c ∧ w.grownBy (((w.setCell ⟨g, 0, none⟩ a).setCell ⟨g, 1, none⟩ b).setCell ⟨g, 2, none⟩ c) (some g) := by
  have h1 := (v3_set h).1 a
  have h2 := (v3_set h1.1).2.1 b
  have h3 := (v3_set h2.1).2.2 c
  exact ⟨h3.1, grownBy_trans (grownBy_trans h1.2 h2.2) h3.2⟩
end Go.Proofs.YteniflajiklffaaGreatDoor.ords

namespace Go.Proofs.YteniflajiklffaaGreatDoor.pairs
open Go Go.RowKit Go.Proofs.YteniflajiklffaaGreatDoor.base Go.Proofs.YteniflajiklffaaGreatDoor.helps
set_option linter.unusedVariables false
set_option linter.unusedSimpArgs false

section
variable {w0 w w' : World} {gx lx cx gg lg cg gw lw cw : Nat} {X G W : List Pr}
end

/-! ### arguments -/
def strOf : Value → ByteArray
  | .string s => s
  | _ => ⟨#[]⟩
theorem slp_open {W : World} {ad : Addr} {len cap : Nat} {V0 V1 : Nat → Value} (hl : len ≤ cap) (hm : cap ≤ maxLen)
    (hs : ∀ i, i < len → V0 i = .string (strOf (V0 i)) ∧ V1 i = .string (strOf (V1 i)) ∧ (strOf (V0 i)).size ≤ maxLen ∧ (strOf (V1 i)).size ≤ maxLen)
    (hc : ∀ i, i < len → W.cell? (ad.add (i * 2)) = some (V0 i) ∧ W.cell? (ad.add (i * 2 + 1)) = some (V1 i)) : ∃ l, SlP W (some ad) len l := by
  obtain ⟨b, off, spot⟩ := ad
  refine ⟨(List.range len).map fun i => (strOf (V0 i), strOf (V1 i)), by simp, by omega, ?_, fun h0 => ?_⟩
  · intro p hp
    obtain ⟨i, hi, rfl⟩ := List.mem_map.1 hp
    have := hs i (List.mem_range.1 hi)
    exact ⟨this.2.2.1, this.2.2.2⟩
  · have hspot : spot = none := by simpa [Addr.add] using World.cell?_spot (hc 0 h0).1
    subst hspot
    refine ⟨b, off, rfl, fun i hi => ?_⟩
    have hi' : i < len := by simpa using hi
    have h1 := hc i hi'
    have h2 := hs i hi'
    rw [Addr.add_lit, Addr.add_lit, h2.1, h2.2.1] at h1
    simp only [List.getElem_map, List.getElem_range]
    rw [← Nat.add_assoc] at h1
    exact h1
theorem slp_arg {H : Type} {enc : TypeId × Value → H} {W : World} {a : Option Addr} {len cap fuel : Nat} {x : DataW H × List MemPlace} (t : TypeId) (e : TypeId) (f0 f1 : Field) (ht : Tryz.prog.underlying t = some (.slice e)) (he : Tryz.prog.underlying e = some (.struct #[f0, f1]))
    (ce : Tryz.prog.cellsOf e = 2) (o0 : f0.offset = 0) (o1 : f1.offset = 1) (t0 : f0.type = 9) (t1 : f1.type = 9) (c9 : Tryz.prog.cellsOf 9 = 1)
    (h : DataW.trod enc Tryz.prog W 0 (fun _ => true) true fuel t (Value.cells (.slice a len cap)).toList = some x) : ∃ l, SlP W a len l := by
  rcases Deep.open_slice_pairs ht he ce o0 o1 (by rw [t0]; exact c9) (by rw [t1]; exact c9) h with ⟨hcs, _⟩ | ⟨ad, len', cap', m, n, V0, V1, D0, D1, P0, P1, hcs, _, hl, hm, hmm, _, hx⟩
  · simp [Value.cells] at hcs
    obtain ⟨rfl, rfl, rfl⟩ := hcs
    exact ⟨[], slp_nil _ _⟩
  · simp [Value.cells] at hcs
    obtain ⟨rfl, rfl, rfl⟩ := hcs
    simp at hmm
    refine slp_open (V0 := V0) (V1 := V1) hl hm (fun i hi => ?_) (fun i hi => ⟨(hx i (by omega)).1, (hx i (by omega)).2.1⟩)
    obtain ⟨_, _, h3, h4⟩ := hx i (by omega)
    rw [t0] at h3
    rw [t1] at h4
    obtain ⟨s0, e0, _, z0⟩ := DataW.trod_string Tryz.underlying9 h3
    obtain ⟨s1, e1, _, z1⟩ := DataW.trod_string Tryz.underlying9 h4
    simp at e0 e1
    rw [e0, e1]
    exact ⟨rfl, rfl, z0, z1⟩

end Go.Proofs.YteniflajiklffaaGreatDoor.pairs

namespace Go.Proofs.YteniflajiklffaaGreatDoor.ords
open Go Go.RowKit Go.Proofs.YteniflajiklffaaGreatDoor.base Go.Proofs.YteniflajiklffaaGreatDoor.pairs
set_option linter.unusedVariables false
set_option linter.unusedSimpArgs false

theorem slo_open {W : World} {ad : Addr} {len cap : Nat} (hl : len ≤ cap) (hm : cap ≤ maxLen) (q : Nat → Od) (hs : ∀ i, i < len → smallO (q i))
    (hc : ∀ i, i < len → W.cell? (ad.add (i * 3)) = some (.int .i64 (q i).1) ∧ W.cell? (ad.add (i * 3 + 1)) = some (.string (q i).2.1) ∧ W.cell? (ad.add (i * 3 + 2)) = some (.string (q i).2.2)) : ∃ l, SlO W (some ad) len l := by
  obtain ⟨b, off, spot⟩ := ad
  refine ⟨(List.range len).map q, by simp, by omega, ?_, fun h0 => ?_⟩
  · intro p hp
    obtain ⟨i, hi, rfl⟩ := List.mem_map.1 hp
    exact hs i (List.mem_range.1 hi)
  · have hspot : spot = none := by simpa [Addr.add] using World.cell?_spot (hc 0 h0).1
    subst hspot
    refine ⟨b, off, rfl, fun i hi => ?_⟩
    have hi' : i < len := by simpa using hi
    have h1 := hc i hi'
    rw [Addr.add_lit, Addr.add_lit, Addr.add_lit] at h1
    simp only [List.getElem_map, List.getElem_range]
    rw [← Nat.add_assoc, ← Nat.add_assoc] at h1
    exact h1
set_option maxRecDepth 100000 in
theorem slo_arg {H : Type} {enc : TypeId × Value → H} {W : World} {a : Option Addr} {len cap fuel : Nat} {x : DataW H × List MemPlace} (t e : TypeId) (f0 f1 f2 : Field) (ht : Tryz.prog.underlying t = some (.slice e)) (he : Tryz.prog.underlying e = some (.struct #[f0, f1, f2]))
    (ce : Tryz.prog.cellsOf e = 3) (o0 : f0.offset = 0) (o1 : f1.offset = 1) (o2 : f2.offset = 2) (t0 : f0.type = 3) (t1 : f1.type = 9) (t2 : f2.type = 9) (c3 : Tryz.prog.cellsOf 3 = 1) (c9 : Tryz.prog.cellsOf 9 = 1)
    (h : DataW.trod enc Tryz.prog W 0 (fun _ => true) true fuel t (Value.cells (.slice a len cap)).toList = some x) : ∃ l, SlO W a len l := by
  rcases Deep.open_slice ht h with ⟨hcs, _⟩ | ⟨ad, len', cap', m, n, D, Pl, hcs, hb, hl, hm, hmm, _, hx⟩
  · simp [Value.cells] at hcs
    obtain ⟨rfl, rfl, rfl⟩ := hcs
    exact ⟨[], slo_nil _ _⟩
  · simp [Value.cells] at hcs
    obtain ⟨rfl, rfl, rfl⟩ := hcs
    simp at hmm
    have each : ∀ i, i < len → ∃ y : Od, smallO y ∧ W.cell? (ad.add (i * 3)) = some (.int .i64 y.1) ∧ W.cell? (ad.add (i * 3 + 1)) = some (.string y.2.1) ∧ W.cell? (ad.add (i * 3 + 2)) = some (.string y.2.2) := by
      intro i hi
      obtain ⟨cs', h1, h2⟩ := hx i (by omega)
      rw [ce] at h1
      obtain ⟨_, hlen, hcell⟩ := World.cells?_some h1
      obtain ⟨xs, k, hk, _, _, hxl, hf⟩ := DataW.trod_struct he h2
      match xs, hxl, cs', hlen with
      | [y0, y1, y2], _, [v0, v1, v2], _ =>
        have k0 := hf 0 f0 rfl
        have k1 := hf 1 f1 rfl
        have k2 := hf 2 f2 rfl
        rw [t0] at k0
        rw [t1] at k1
        rw [t2] at k2
        simp [o0, o1, o2, c3, c9] at k0 k1 k2
        obtain ⟨n0, e0, _, w0⟩ := DataW.trod_int Tryz.underlying3 k0
        obtain ⟨s1, e1, _, w1⟩ := DataW.trod_string Tryz.underlying9 k1
        obtain ⟨s2, e2, _, w2⟩ := DataW.trod_string Tryz.underlying9 k2
        simp at e0 e1 e2
        subst e0 e1 e2
        have d0 := hcell 0 (by omega)
        have d1 := hcell 1 (by omega)
        have d2 := hcell 2 (by omega)
        rw [Deep.add_add] at d0 d1 d2
        exact ⟨(n0, s1, s2), ⟨w0, w1, w2⟩, by simpa using d0, by simpa using d1, by simpa using d2⟩
    obtain ⟨q, hq⟩ := Deep.choose_lt each
    exact slo_open hl hm q (fun i hi => (hq i hi).1) (fun i hi => (hq i hi).2)
end Go.Proofs.YteniflajiklffaaGreatDoor.ords

namespace Go.Proofs.YteniflajiklffaaGreatDoor.recs
open Go Go.RowKit Go.Proofs.YteniflajiklffaaGreatDoor.base Go.Proofs.YteniflajiklffaaGreatDoor.pairs Go.Proofs.YteniflajiklffaaGreatDoor.ords Go.Proofs.YteniflajiklffaaGreatDoor.helps
set_option linter.unusedVariables false
set_option linter.unusedSimpArgs false

theorem v3n (w : World) (t : TypeId) (x y z : Value) : V3 (w.alloc (.cells #[x, y, z] t)) w.heap.size t x y z := heap_alloc_new w _
theorem v3a {w : World} {g : Nat} {t : TypeId} {x y z : Value} (h : V3 w g t x y z) (o : Obj) : V3 (w.alloc o) g t x y z := h.below ((Below.refl _ _).alloc (Nat.le_refl _) _)
theorem v3n1 (w : World) (o : Obj) (t : TypeId) (x y z : Value) : V3 ((w.alloc o).alloc (.cells #[x, y, z] t)) (w.heap.size + 1) t x y z := by
  have := v3n (w.alloc o) t x y z
  have e : (w.alloc o).heap.size = w.heap.size + 1 := by simp
  rw [e] at this; exact this
theorem v3n2 (w : World) (o o2 : Obj) (t : TypeId) (x y z : Value) : V3 (((w.alloc o).alloc o2).alloc (.cells #[x, y, z] t)) (w.heap.size + 2) t x y z := by
  have := v3n1 (w.alloc o) o2 t x y z
  have e : (w.alloc o).heap.size = w.heap.size + 1 := by simp
  rw [e] at this; exact this

set_option maxRecDepth 100000 in
set_option maxHeartbeats 2000000 in
theorem toRec (kind tx : Int) (pa : Option Addr) (pl pc : Nat) (l : List Od) (w : World) (h : SlO w pa pl l) (hsz : pl ≤ 1099511627776) :
    Calls Tryz.prog 100 #[.agg #[.int .i64 kind, .int .i64 tx, .slice pa pl pc]] w fun e w' =>
      ∃ g, e = .returned (.agg #[.int .i64 kind, .int .i64 tx, .slice (some ⟨g, 0, none⟩) pl pl]) ∧ OwnO w' w.heap.size g pl pl l ∧ Below w.heap.size w w' := by
  obtain ⟨W0, hW0⟩ : ∃ W, ((w.alloc (.cells #[.int .i64 kind, .int .i64 tx, .slice pa pl pc] 133)).alloc (.cells #[.int .i64 0, .int .i64 0, .slice none 0 0] 41)).alloc (.cells #[.int .i64 kind, .int .i64 tx, .slice none 0 0] 41) = W := ⟨_, rfl⟩
  have hB : Below w.heap.size w W0 := by rw [← hW0]; exact (((Below.refl _ _).alloc (Nat.le_refl _) _).alloc (by simp) _).alloc (by simp; omega) _
  have v1 : V3 W0 (w.heap.size + 1) 41 (.int .i64 0) (.int .i64 0) (.slice none 0 0) := by
    rw [← hW0]; exact v3a (v3n1 w _ _ _ _ _) _
  have v2 : V3 W0 (w.heap.size + 1 + 1) 41 (.int .i64 kind) (.int .i64 tx) (.slice none 0 0) := by
    rw [← hW0]; exact v3n2 w _ _ _ _ _ _
  have HW := Hid.mk' hW0
  have HT := Hid.mk' (toOpS pa pl pc l W0 (h.below hB) hsz)
  clear hW0
  go_enter Tryz.func100, Tryz.ntmps100
  go_wp2_with fail
  rw [HW.out]
  refine HT.out.mono ?_
  rintro e w2 ⟨g, rfl, hO, hb2⟩
  have u1 := v1.below hb2
  have u2 := v2.below hb2
  have hB2 := hB.trans (hb2.mono hB.size)
  have hgl := hO.lt
  have hl2 := v2.lt
  have s2 := (v3_set u2).2.2 (.slice (some ⟨g, 0, none⟩) pl pl)
  have t1 := v3_grown u1 s2.2 (by simp)
  have hO2 := hO.grown s2.2 (by simp; omega)
  have hB3 := hB2.grown s2.2 hB2.size (fun j e => by cases e; omega)
  have z := v3_all t1 (.int .i64 kind) (.int .i64 tx) (.slice (some ⟨g, 0, none⟩) pl pl)
  have HO := Hid.mk' ((hO2.grown z.2 (by simp; omega)).mono (base' := w.heap.size) hB.size)
  have HBz := Hid.mk' (hB3.grown z.2 hB3.size (fun j e => by cases e; omega))
  have z0 := z.1.c0
  have z1 := z.1.c1
  have z2 := z.1.c2
  have m2 := u2.c2
  have q2 := v3_fz u2 2
  have a0 := s2.1.c0
  have a1 := s2.1.c1
  have a2 := s2.1.c2
  have b0 := t1.c0
  have b1 := t1.c1
  have b2 := t1.c2
  have k0 := v3_fz t1 0
  have k1 := v3_fz t1 1
  have k2 := v3_fz t1 2
  clear v1 v2 u1 u2 s2 t1 z hO hO2 hb2 hB hB2 hB3 HW HT
  go_wp2_with fail
  refine bodyPost_ret (v := .agg #[.int .i64 kind, .int .i64 tx, .slice (some ⟨g, 0, none⟩) pl pl]) ?h1 rfl ⟨g, rfl, HO.out, HBz.out⟩
  simp [results, Tryz.results100, go_sem, z0, z1, z2]

/-! ### arguments -/
theorem slo_arg2 {H : Type} {enc : TypeId × Value → H} {W : World} {n : Nat} {v : Value} {y : DataW H × List MemPlace} (f0 f1 f2 : Field) (he : Tryz.prog.underlying 91 = some (.struct #[f0, f1, f2]))
    (ce : Tryz.prog.cellsOf 91 = 3) (o0 : f0.offset = 0) (o1 : f1.offset = 1) (o2 : f2.offset = 2) (t0 : f0.type = 3) (t1 : f1.type = 9) (t2 : f2.type = 9) (c3 : Tryz.prog.cellsOf 3 = 1) (c9 : Tryz.prog.cellsOf 9 = 1)
    (h : DataW.trod enc Tryz.prog W 0 (fun _ => true) true n 47 [v] = some y) : ∃ pa pl pc l, v = .slice pa pl pc ∧ SlO W pa pl l ∧ pl ≤ pc := by
  obtain ⟨pa, pl, pc, hv, hpc⟩ : ∃ a len cap, v = .slice a len cap ∧ len ≤ cap := by
    rcases Deep.open_slice Tryz.underlying47 h with ⟨hcs, _⟩ | ⟨ad, len, cap, _, _, _, _, hcs, _, hl, _⟩
    · simp at hcs; exact ⟨_, _, _, hcs, Nat.le_refl _⟩
    · simp at hcs; exact ⟨_, _, _, hcs, hl⟩
  subst hv
  obtain ⟨l, hl⟩ := slo_arg (cap := pc) 47 91 f0 f1 f2 Tryz.underlying47 he ce o0 o1 o2 t0 t1 t2 c3 c9 h
  exact ⟨pa, pl, pc, l, rfl, hl, hpc⟩
end Go.Proofs.YteniflajiklffaaGreatDoor.recs

namespace Go.Proofs.YteniflajiklffaaGreatDoor.recs
open Go Go.RowKit Go.Proofs.YteniflajiklffaaGreatDoor.base Go.Proofs.YteniflajiklffaaGreatDoor.pairs Go.Proofs.YteniflajiklffaaGreatDoor.ords
set_option linter.unusedVariables false
set_option linter.unusedSimpArgs false

theorem slr_open {W : World} {ad : Addr} {len cap : Nat} (hl : len ≤ cap) (hm : cap ≤ maxLen) (q : Nat → Rc) (hs : ∀ i, i < len → smallR (q i)) (hc : ∀ i, i < len → W.cell? (ad.add (i * 3)) = some (.int .i64 (q i).1) ∧ W.cell? (ad.add (i * 3 + 1)) = some (.int .i64 (q i).2.1) ∧ ∃ pa pl pc, W.cell? (ad.add (i * 3 + 2)) = some (.slice pa pl pc) ∧ SlO W pa pl (q i).2.2 ∧ pl ≤ pc) : ∃ l, SlR W (some ad) len l := by
  obtain ⟨b, off, spot⟩ := ad
  refine ⟨(List.range len).map q, by simp, by omega, ?_, fun h0 => ?_⟩
  · intro x hx
    obtain ⟨i, hi, rfl⟩ := List.mem_map.1 hx
    exact hs i (List.mem_range.1 hi)
  · have hspot : spot = none := by simpa [Addr.add] using World.cell?_spot (hc 0 h0).1
    subst hspot
    refine ⟨b, off, rfl, fun i hi => ?_⟩
    have hi' : i < len := by simpa using hi
    have h1 := hc i hi'
    rw [Addr.add_lit, Addr.add_lit, Addr.add_lit] at h1
    simp only [List.getElem_map, List.getElem_range]
    rw [← Nat.add_assoc, ← Nat.add_assoc] at h1
    exact h1
set_option maxRecDepth 100000 in
theorem slr_arg {H : Type} {enc : TypeId × Value → H} {W : World} {a : Option Addr} {len cap fuel : Nat} {x : DataW H × List MemPlace} (t e : TypeId) (f0 f1 f2 : Field) (ht : Tryz.prog.underlying t = some (.slice e)) (he : Tryz.prog.underlying e = some (.struct #[f0, f1, f2]))
    (ce : Tryz.prog.cellsOf e = 3) (o0 : f0.offset = 0) (o1 : f1.offset = 1) (o2 : f2.offset = 2) (t0 : f0.type = 3) (t1 : f1.type = 3) (t2 : f2.type = 47) (c3 : Tryz.prog.cellsOf 3 = 1) (cs1 : Tryz.prog.cellsOf 47 = 1)
    (g0 g1 g2 : Field) (hI : Tryz.prog.underlying 91 = some (.struct #[g0, g1, g2])) (cI : Tryz.prog.cellsOf 91 = 3) (i0 : g0.offset = 0) (i1 : g1.offset = 1) (i2 : g2.offset = 2) (u0 : g0.type = 3) (u1 : g1.type = 9) (u2 : g2.type = 9) (c9 : Tryz.prog.cellsOf 9 = 1)
    (h : DataW.trod enc Tryz.prog W 0 (fun _ => true) true fuel t (Value.cells (.slice a len cap)).toList = some x) : ∃ l, SlR W a len l := by
  rcases Deep.open_slice ht h with ⟨hcs, _⟩ | ⟨ad, len', cap', m, n, D, Pl, hcs, hb, hl, hm, hmm, _, hx⟩
  · simp [Value.cells] at hcs
    obtain ⟨rfl, rfl, rfl⟩ := hcs
    exact ⟨[], slr_nil _ _⟩
  · simp [Value.cells] at hcs
    obtain ⟨rfl, rfl, rfl⟩ := hcs
    simp at hmm
    have each : ∀ i, i < len → ∃ y : Rc, smallR y ∧ W.cell? (ad.add (i * 3)) = some (.int .i64 y.1) ∧ W.cell? (ad.add (i * 3 + 1)) = some (.int .i64 y.2.1) ∧ ∃ pa pl pc, W.cell? (ad.add (i * 3 + 2)) = some (.slice pa pl pc) ∧ SlO W pa pl y.2.2 ∧ pl ≤ pc := by
      intro i hi
      obtain ⟨cs', h1, h2⟩ := hx i (by omega)
      rw [ce] at h1
      obtain ⟨_, hlen, hcell⟩ := World.cells?_some h1
      obtain ⟨xs, k, hk, _, _, hxl, hf⟩ := DataW.trod_struct he h2
      match xs, hxl, cs', hlen with
      | [y0, y1, y2], _, [v0, v1, v2], _ =>
        have k0 := hf 0 f0 rfl
        have k1 := hf 1 f1 rfl
        have k2 := hf 2 f2 rfl
        rw [t0] at k0
        rw [t1] at k1
        rw [t2] at k2
        simp [o0, o1, o2, c3, cs1] at k0 k1 k2
        obtain ⟨n0, e0, _, w0⟩ := DataW.trod_int Tryz.underlying3 k0
        obtain ⟨n1, e1, _, w1⟩ := DataW.trod_int Tryz.underlying3 k1
        simp at e0 e1
        subst e0 e1
        obtain ⟨pa, pl, pc, ops, rfl, hS, hpc⟩ := slo_arg2 g0 g1 g2 hI cI i0 i1 i2 u0 u1 u2 c3 c9 k2
        have d0 := hcell 0 (by omega)
        have d1 := hcell 1 (by omega)
        have d2 := hcell 2 (by omega)
        rw [Deep.add_add] at d0 d1 d2
        exact ⟨(n0, n1, ops), ⟨w0, w1, hS.2.2.1⟩, by simpa using d0, by simpa using d1, pa, pl, pc, by simpa using d2, hS, hpc⟩
    obtain ⟨q, hq⟩ := Deep.choose_lt each
    exact slr_open hl hm q (fun i hi => (hq i hi).1) (fun i hi => (hq i hi).2)
end Go.Proofs.YteniflajiklffaaGreatDoor.recs

namespace Go.Proofs.YteniflajiklffaaGreatDoor.lay
open Go Go.RowKit
set_option linter.unusedVariables false

/-! ### what a step leaves as it was -/
structure Frame (G : List Nat) (w w' : World) : Prop where
  os : w'.os = w.os
  tape : w'.tape = w.tape
  output : w'.output = w.output
  size : w.heap.size ≤ w'.heap.size
  block : ∀ j, j < w.heap.size → j ∉ G → w'.heap[j]? = w.heap[j]?
def Fresh (w : World) (F F' : List Nat) : Prop := ∀ k ∈ F', k ∈ F ∨ w.heap.size ≤ k
section
variable {G G' F F' F'' : List Nat} {w w' w'' : World} {B : Nat}
theorem Frame.refl (G : List Nat) (w : World) : Frame G w w := ⟨rfl, rfl, rfl, Nat.le_refl _, fun _ _ _ => rfl⟩
theorem Frame.trans (h : Frame G w w') (k : Frame G' w' w'') (hf : Fresh w G G') : Frame G w w'' :=
  ⟨k.os.trans h.os, k.tape.trans h.tape, k.output.trans h.output, Nat.le_trans h.size k.size, fun j hj hn => (k.block j (Nat.lt_of_lt_of_le hj h.size) (fun e => by
    rcases hf j e with e | e
    · exact hn e
    · omega)).trans (h.block j hj hn)⟩
theorem Frame.mono (h : Frame G w w') (hg : ∀ k ∈ G, k ∈ G') : Frame G' w w' :=
  ⟨h.os, h.tape, h.output, h.size, fun j hj hn => h.block j hj (fun e => hn (hg j e))⟩
theorem Frame.of_below (h : Below w.heap.size w w') : Frame G w w' := ⟨h.os, h.tape, h.output, h.size, fun j hj _ => h.block j hj⟩
theorem Frame.below (h : Frame G w w') (k : Below w'.heap.size w' w'') : Frame G w w'' :=
  h.trans (G' := []) (Frame.of_below k) (fun _ e => absurd e List.not_mem_nil)
theorem Frame.grown {row : Option Nat} (h : Frame G w w') (k : w'.grownBy w'' row) (hr : ∀ k, row = some k → k ∈ G ∨ w.heap.size ≤ k) : Frame G w w'' :=
  ⟨k.os.trans h.os, k.tape.trans h.tape, k.output.trans h.output, Nat.le_trans h.size k.size, fun j hj hn => (k.block j (Nat.lt_of_lt_of_le hj h.size) (fun e => by
    rcases hr j e.symm with e2 | e2
    · exact hn e2
    · omega)).trans (h.block j hj hn)⟩
theorem Frame.bel (h : Frame G w w') (hB : B ≤ w.heap.size) (hG : ∀ k ∈ G, B ≤ k) : Below B w w' :=
  ⟨h.os, h.tape, h.output, h.size, fun j hj => h.block j (Nat.lt_of_lt_of_le hj hB) (fun e => by have := hG j e; omega)⟩
theorem Fresh.refl (w : World) (F : List Nat) : Fresh w F F := fun _ h => .inl h
theorem Fresh.trans (h : Fresh w F F') (k : Fresh w' F' F'') (hs : w.heap.size ≤ w'.heap.size) : Fresh w F F'' := fun j hj => by
  rcases k j hj with e | e
  · exact h j e
  · exact .inr (by omega)
theorem Fresh.new (h : ∀ k ∈ F', w.heap.size ≤ k) : Fresh w F F' := fun k hk => .inr (h k hk)
theorem Fresh.mono (h : Fresh w F F') (hF : ∀ k ∈ F, k ∈ G) : Fresh w G F' := fun k hk => (h k hk).imp_left (hF k)
theorem Fresh.append (h : Fresh w F F') (k : Fresh w F F'') : Fresh w F (F' ++ F'') := fun j hj => by
  rcases List.mem_append.1 hj with e | e
  · exact h j e
  · exact k j e
theorem nodup_parts (h : (F ++ F').Nodup) : F.Nodup ∧ F'.Nodup ∧ ∀ k ∈ F, k ∉ F' := by
  rw [List.nodup_append] at h
  exact ⟨h.1, h.2.1, fun k hk hk' => h.2.2 k hk k hk' rfl⟩
theorem nodup_mk (h1 : F.Nodup) (h2 : F'.Nodup) (h : ∀ k ∈ F, k ∉ F') : (F ++ F').Nodup := by
  rw [List.nodup_append]
  exact ⟨h1, h2, fun a ha b hb e => h a ha (e ▸ hb)⟩
end

/-! ### a type's way to lie -/
structure Rd (α : Type) where
  size : Nat
  see : World → List Value → α → Prop
  own : World → List Value → α → List Nat → Prop
  seeLen : ∀ {w vs x}, see w vs x → vs.length = size
  seeCells : ∀ {w w' vs x}, see w vs x → (∀ b o v, w.cell? ⟨b, o, none⟩ = some v → w'.cell? ⟨b, o, none⟩ = some v) → see w' vs x
  ownSee : ∀ {w vs x F}, own w vs x F → see w vs x
  ownAt : ∀ {w w' vs x F}, own w vs x F → (∀ k ∈ F, w'.heap[k]? = w.heap[k]?) → own w' vs x F
  ownLt : ∀ {w vs x F}, own w vs x F → ∀ k ∈ F, k < w.heap.size
  ownNodup : ∀ {w vs x F}, own w vs x F → F.Nodup
  ownOne : ∀ {w vs x F}, own w vs x F → ∀ v ∈ vs, v.oneCell' = true
section
variable {α β : Type} {R : Rd α} {S : Rd β} {w w' w'' : World} {vs us : List Value} {x : α} {F G : List Nat}
theorem Rd.ownLen (R : Rd α) (h : R.own w vs x F) : vs.length = R.size := R.seeLen (R.ownSee h)
theorem Rd.ownGrown (R : Rd α) (h : R.own w vs x F) {row : Option Nat} (hg : w.grownBy w' row) (hd : ∀ k ∈ F, some k ≠ row) : R.own w' vs x F :=
  R.ownAt h fun k hk => hg.block k (R.ownLt h k hk) (hd k hk)
end
def int : Rd Int where
  size := 1
  see _ vs x := vs = [.int .i64 x] ∧ (Lit.int .i64 x).wf = true
  own _ vs x F := (vs = [.int .i64 x] ∧ (Lit.int .i64 x).wf = true) ∧ F = []
  seeLen h := by rw [h.1]; rfl
  seeCells h _ := h
  ownSee h := h.1
  ownAt h _ := h
  ownLt h k hk := by rw [h.2] at hk; cases hk
  ownNodup h := by rw [h.2]; exact List.nodup_nil
  ownOne h v hv := by rw [h.1.1] at hv; rw [List.mem_singleton.1 hv]; rfl
def bool : Rd Bool where
  size := 1
  see _ vs x := vs = [.bool x]
  own _ vs x F := vs = [.bool x] ∧ F = []
  seeLen h := by rw [h]; rfl
  seeCells h _ := h
  ownSee h := h.1
  ownAt h _ := h
  ownLt h k hk := by rw [h.2] at hk; cases hk
  ownNodup h := by rw [h.2]; exact List.nodup_nil
  ownOne h v hv := by rw [h.1] at hv; rw [List.mem_singleton.1 hv]; rfl
def str : Rd ByteArray where
  size := 1
  see _ vs x := vs = [.string x] ∧ x.size ≤ maxLen
  own _ vs x F := (vs = [.string x] ∧ x.size ≤ maxLen) ∧ F = []
  seeLen h := by rw [h.1]; rfl
  seeCells h _ := h
  ownSee h := h.1
  ownAt h _ := h
  ownLt h k hk := by rw [h.2] at hk; cases hk
  ownNodup h := by rw [h.2]; exact List.nodup_nil
  ownOne h v hv := by rw [h.1.1] at hv; rw [List.mem_singleton.1 hv]; rfl
def both {α β : Type} (R : Rd α) (S : Rd β) : Rd (α × β) where
  size := R.size + S.size
  see w vs x := ∃ us ts, vs = us ++ ts ∧ R.see w us x.1 ∧ S.see w ts x.2
  own w vs x F := ∃ us ts F1 F2, vs = us ++ ts ∧ F = F1 ++ F2 ∧ R.own w us x.1 F1 ∧ S.own w ts x.2 F2 ∧ F.Nodup
  seeLen := by
    rintro w vs x ⟨us, ts, rfl, h1, h2⟩
    rw [List.length_append, R.seeLen h1, S.seeLen h2]
  seeCells := by
    rintro w w' vs x ⟨us, ts, rfl, h1, h2⟩ hc
    exact ⟨us, ts, rfl, R.seeCells h1 hc, S.seeCells h2 hc⟩
  ownSee := by
    rintro w vs x F ⟨us, ts, F1, F2, rfl, rfl, h1, h2, _⟩
    exact ⟨us, ts, rfl, R.ownSee h1, S.ownSee h2⟩
  ownAt := by
    rintro w w' vs x F ⟨us, ts, F1, F2, rfl, rfl, h1, h2, hn⟩ hk
    exact ⟨us, ts, F1, F2, rfl, rfl, R.ownAt h1 (fun k e => hk k (List.mem_append.2 (.inl e))), S.ownAt h2 (fun k e => hk k (List.mem_append.2 (.inr e))), hn⟩
  ownLt := by
    rintro w vs x F ⟨us, ts, F1, F2, rfl, rfl, h1, h2, _⟩ k hk
    rcases List.mem_append.1 hk with e | e
    · exact R.ownLt h1 k e
    · exact S.ownLt h2 k e
  ownNodup := by
    rintro w vs x F ⟨us, ts, F1, F2, _, _, _, _, hn⟩
    exact hn
  ownOne := by
    rintro w vs x F ⟨us, ts, F1, F2, rfl, rfl, h1, h2, _⟩ v hv
    rcases List.mem_append.1 hv with e | e
    · exact R.ownOne h1 v e
    · exact S.ownOne h2 v e

/-! ### slices -/
def CellsAt (w : World) (b o : Nat) (vs : List Value) : Prop := ∀ j u, vs[j]? = some u → w.cell? ⟨b, o + j, none⟩ = some u
def SlG {α : Type} (R : Rd α) (w : World) (a : Option Addr) (len : Nat) (l : List α) : Prop :=
  l.length = len ∧ len ≤ maxLen ∧ (∀ x ∈ l, ∃ vs, R.see w vs x) ∧ (0 < len → ∃ b off, a = some ⟨b, off, none⟩ ∧ ∀ i (h : i < l.length), ∃ vs, R.see w vs l[i] ∧ CellsAt w b (off + i * R.size) vs)
abbrev Parts := List (List Value × List Nat)
def cellsOf (q : Parts) : List Value := q.flatMap fun p => p.1
def blocksOf (q : Parts) : List Nat := q.flatMap fun p => p.2
theorem cellsOf_append (p q : Parts) : cellsOf (p ++ q) = cellsOf p ++ cellsOf q := by simp [cellsOf]
theorem blocksOf_append (p q : Parts) : blocksOf (p ++ q) = blocksOf p ++ blocksOf q := by simp [blocksOf]
theorem cellsOf_get {q : Parts} {n : Nat} (h : ∀ p ∈ q, p.1.length = n) (i : Nat) (hi : i < q.length) (j : Nat) (hj : j < n) : (cellsOf q)[i * n + j]? = (q[i].1)[j]? := by
  induction q generalizing i with
  | nil => simp at hi
  | cons p q ih =>
    have h1 := h p List.mem_cons_self
    unfold cellsOf at ih ⊢
    rw [List.flatMap_cons]
    cases i with
    | zero => rw [List.getElem?_append_left (by omega)]; simp
    | succ i =>
      rw [List.getElem?_append_right (by rw [h1, Nat.add_mul]; omega), h1, show (i + 1) * n + j - n = i * n + j by rw [Nat.add_mul]; omega]
      exact ih (fun x hx => h x (List.mem_cons_of_mem _ hx)) i (by simpa using hi)
structure OwnG {α : Type} (ty : TypeId) (R : Rd α) (w : World) (v : Value) (l : List α) (q : Parts) : Prop where
  len : q.length = l.length
  row : w.ownsRow 0 ty R.size v l.length (cellsOf q)
  each : ∀ i (h : i < l.length), R.own w (q[i]'(by omega)).1 l[i] (q[i]'(by omega)).2
  nodup : (v.ownBlock.toList ++ blocksOf q).Nodup
section
variable {α : Type} {ty : TypeId} {R : Rd α} {w w' : World} {v : Value} {l : List α} {q : Parts}
theorem OwnG.parts (h : OwnG ty R w v l q) : ∀ p ∈ q, p.1.length = R.size := fun p hp => by
  obtain ⟨i, hi, rfl⟩ := List.getElem_of_mem hp
  exact R.ownLen (h.each i (by have := h.len; omega))
theorem OwnG.shape (h : OwnG ty R w v l q) : (v = .slice none 0 0 ∧ l = [] ∧ q = []) ∨ ∃ g cap, v = .slice (some ⟨g, 0, none⟩) l.length cap ∧ l.length ≤ cap ∧ cap ≤ maxLen := by
  rcases h.row.2 with ⟨rfl, h0⟩ | ⟨g, cap, cur, rfl, _, _, h1, h2, _⟩
  · have : l = [] := List.eq_nil_of_length_eq_zero h0
    subst this
    exact .inl ⟨rfl, rfl, List.eq_nil_of_length_eq_zero (by simpa using h.len)⟩
  · exact .inr ⟨g, cap, rfl, h1, h2⟩
theorem OwnG.slice (h : OwnG ty R w v l q) : ∃ a cap, v = .slice a l.length cap ∧ l.length ≤ cap ∧ cap ≤ maxLen := by
  rcases h.shape with ⟨rfl, rfl, _⟩ | ⟨g, cap, rfl, h1, h2⟩
  · exact ⟨none, 0, rfl, Nat.le_refl _, Nat.zero_le _⟩
  · exact ⟨_, cap, rfl, h1, h2⟩
theorem OwnG.at_ (h : OwnG ty R w v l q) (k : Nat) (hk : k ∈ v.ownBlock.toList ++ blocksOf q) : k < w.heap.size := by
  rcases List.mem_append.1 hk with e | e
  · exact (h.row.lt k (by simpa using e)).2
  · obtain ⟨p, hp, e⟩ := List.mem_flatMap.1 e
    obtain ⟨i, hi, rfl⟩ := List.getElem_of_mem hp
    exact R.ownLt (h.each i (by have := h.len; omega)) k e
theorem row_of_block {base : Nat} {e : TypeId} {size n : Nat} {xs : List Value} (h : w.ownsRow base e size v n xs) (hk : ∀ k, v.ownBlock = some k → w'.heap[k]? = w.heap[k]?) : w'.ownsRow base e size v n xs := by
  refine ⟨h.1, ?_⟩
  rcases h.2 with h' | ⟨g, cap, cur, rfl, h0, hg, r⟩
  · exact .inl h'
  · exact .inr ⟨g, cap, cur, rfl, h0, (hk g rfl).trans hg, r⟩
theorem OwnG.keep (h : OwnG ty R w v l q) (hk : ∀ k ∈ v.ownBlock.toList ++ blocksOf q, w'.heap[k]? = w.heap[k]?) : OwnG ty R w' v l q :=
  ⟨h.len, row_of_block h.row (fun k e => hk k (List.mem_append.2 (.inl (by simp [e])))),
   fun i hi => R.ownAt (h.each i hi) (fun k e => hk k (List.mem_append.2 (.inr (List.mem_flatMap.2 ⟨_, List.getElem_mem _, e⟩)))), h.nodup⟩
theorem OwnG.cells {g n cap : Nat} (h : OwnG ty R w (.slice (some ⟨g, 0, none⟩) n cap) l q) (i : Nat) (hi : i < l.length) : CellsAt w g (i * R.size) (q[i]'(by have := h.len; omega)).1 := by
  intro j u hu
  have hj : j < R.size := by
    have h1 := (List.getElem?_eq_some_iff.1 hu).1
    rwa [h.parts _ (List.getElem_mem _)] at h1
  have hn : n = l.length := by
    rcases h.shape with ⟨e, _⟩ | ⟨g', c', e, _⟩
    · cases e
    · cases e; rfl
  subst hn
  have := h.row.cells (g := g) rfl (i * R.size + j) u (by rw [cellsOf_get h.parts i (by have := h.len; omega) j hj]; exact hu)
  rwa [Addr.add_lit, Nat.zero_add] at this
theorem OwnG.fz {g n cap : Nat} (h : OwnG ty R w (.slice (some ⟨g, 0, none⟩) n cap) l q) (j : Nat) : w.frozen? ⟨g, j, none⟩ = false := by
  have hn : n = l.length := by
    rcases h.shape with ⟨e, _⟩ | ⟨g', c', e, _⟩
    · cases e
    · cases e; rfl
  subst hn
  exact h.row.frozenAt j
theorem OwnG.sl {a : Option Addr} {n cap : Nat} (h : OwnG ty R w (.slice a n cap) l q) : SlG R w a n l := by
  have hsee : ∀ x ∈ l, ∃ vs, R.see w vs x := fun x hx => by
    obtain ⟨i, hi, rfl⟩ := List.getElem_of_mem hx
    exact ⟨_, R.ownSee (h.each i hi)⟩
  rcases h.shape with ⟨e, rfl, _⟩ | ⟨g, c, e, h1, h2⟩
  · cases e; exact ⟨rfl, Nat.zero_le _, hsee, fun h => absurd h (by omega)⟩
  · cases e
    refine ⟨rfl, by omega, hsee, fun _ => ⟨g, 0, rfl, fun i hi => ⟨_, R.ownSee (h.each i hi), ?_⟩⟩⟩
    rw [Nat.zero_add]
    exact h.cells i hi
end
theorem SlG.keep {α : Type} {R : Rd α} {w w' : World} {a : Option Addr} {len : Nat} {l : List α} (h : SlG R w a len l) (hc : ∀ b o v, w.cell? ⟨b, o, none⟩ = some v → w'.cell? ⟨b, o, none⟩ = some v) : SlG R w' a len l := by
  obtain ⟨h1, h2, h3, h4⟩ := h
  refine ⟨h1, h2, fun x hx => ?_, fun h0 => ?_⟩
  · obtain ⟨vs, hv⟩ := h3 x hx
    exact ⟨vs, R.seeCells hv hc⟩
  · obtain ⟨b, off, e, hi⟩ := h4 h0
    refine ⟨b, off, e, fun i h => ?_⟩
    obtain ⟨vs, hs, hcl⟩ := hi i h
    exact ⟨vs, R.seeCells hs hc, fun j u hu => hc _ _ _ (hcl j u hu)⟩
theorem SlG.below {α : Type} {R : Rd α} {w w' : World} {a : Option Addr} {len : Nat} {l : List α} (h : SlG R w a len l) (hb : Below w.heap.size w w') : SlG R w' a len l :=
  h.keep fun b o v hv => (hb.cell (p := ⟨b, o, none⟩) (World.block_lt_of_cell? w _ hv)).trans hv
def slice {α : Type} (ty : TypeId) (R : Rd α) : Rd (List α) where
  size := 1
  see w vs l := ∃ a len cap, vs = [.slice a len cap] ∧ len ≤ cap ∧ SlG R w a len l
  own w vs l F := ∃ v q, vs = [v] ∧ F = v.ownBlock.toList ++ blocksOf q ∧ OwnG ty R w v l q
  seeLen := by rintro w vs x ⟨a, len, cap, rfl, _⟩; rfl
  seeCells := by
    rintro w w' vs x ⟨a, len, cap, rfl, hc, h⟩ hk
    exact ⟨a, len, cap, rfl, hc, h.keep hk⟩
  ownSee := by
    rintro w vs x F ⟨v, q, rfl, rfl, h⟩
    obtain ⟨a, cap, rfl, hc, _⟩ := h.slice
    exact ⟨a, _, cap, rfl, hc, h.sl⟩
  ownAt := by
    rintro w w' vs x F ⟨v, q, rfl, rfl, h⟩ hk
    exact ⟨v, q, rfl, rfl, h.keep hk⟩
  ownLt := by
    rintro w vs x F ⟨v, q, rfl, rfl, h⟩ k hk
    exact h.at_ k hk
  ownNodup := by
    rintro w vs x F ⟨v, q, rfl, rfl, h⟩
    exact h.nodup
  ownOne := by
    rintro w vs x F ⟨v, q, rfl, rfl, h⟩ u hu
    rw [List.mem_singleton.1 hu]
    obtain ⟨a, cap, rfl, _⟩ := h.slice
    rfl
section
variable {α : Type} {ty : TypeId} {R : Rd α} {w w' w7 : World} {v v7 : Value} {l : List α} {q : Parts} {F : List Nat}
theorem own_open {vs : List Value} (h : (slice ty R).own w vs l F) : ∃ a cap q, vs = [.slice a l.length cap] ∧ l.length ≤ cap ∧ cap ≤ maxLen ∧ F = (Value.slice a l.length cap).ownBlock.toList ++ blocksOf q ∧ OwnG ty R w (.slice a l.length cap) l q := by
  obtain ⟨v, q, rfl, rfl, h⟩ := h
  obtain ⟨a, cap, rfl, h1, h2⟩ := h.slice
  exact ⟨a, cap, q, rfl, h1, h2, rfl, h⟩
theorem OwnG.snoc {x : α} {vs : List Value} {G : List Nat} {g cap H : Nat} (h : OwnG ty R w v l q) (hx : R.own w vs x G) (hd : ∀ k ∈ G, k ∉ v.ownBlock.toList ++ blocksOf q)
    (hown : w7.ownsRow 0 ty R.size (.slice (some ⟨g, 0, none⟩) (l.length + 1) cap) (l.length + 1) (cellsOf q ++ vs)) (hgrow : w.grownBy w7 v.ownBlock) (hat : v.ownBlock = some g ∨ g = H) (hH : w.heap.size = H) :
    OwnG ty R w7 (.slice (some ⟨g, 0, none⟩) (l.length + 1) cap) (l ++ [x]) (q ++ [(vs, G)]) := by
  have hlen := h.len
  obtain ⟨n1, n2, n3⟩ := nodup_parts h.nodup
  have hg1 : ∀ k ∈ blocksOf q, some k ≠ v.ownBlock := fun k hk e => n3 k (by rw [← e]; simp) hk
  have hg2 : ∀ k ∈ G, some k ≠ v.ownBlock := fun k hk e => hd k hk (List.mem_append.2 (.inl (by rw [← e]; simp)))
  refine ⟨by simp [hlen], ?_, fun i hi => ?_, ?_⟩
  · rw [cellsOf_append, List.length_append]
    simpa [cellsOf] using hown
  · by_cases e : i < l.length
    · simp only [List.getElem_append_left e, List.getElem_append_left (show i < q.length by omega)]
      exact R.ownGrown (h.each i e) hgrow (fun k hk => hg1 k (List.mem_flatMap.2 ⟨_, List.getElem_mem _, hk⟩))
    · have : i = l.length := by simp at hi; omega
      subst this
      rw [List.getElem_append_right (Nat.le_refl _)]
      simp only [List.getElem_append_right (show q.length ≤ l.length by omega)]
      simp only [hlen, Nat.sub_self, List.getElem_cons_zero]
      exact R.ownGrown hx hgrow hg2
  · have hgq : g ∉ blocksOf q := by
      rcases hat with e | e
      · exact n3 g (by rw [e]; simp)
      · intro hk
        have := h.at_ g (List.mem_append.2 (.inr hk))
        omega
    have hgG : g ∉ G := by
      rcases hat with e | e
      · exact fun hk => hg2 g hk e.symm
      · intro hk
        have := R.ownLt hx g hk
        omega
    have e1 : (Value.slice (some ⟨g, 0, none⟩) (l.length + 1) cap).ownBlock.toList ++ blocksOf (q ++ [(vs, G)]) = g :: (blocksOf q ++ G) := by
      rw [blocksOf_append]; simp [Value.ownBlock, blocksOf]
    rw [e1, List.nodup_cons]
    refine ⟨fun hk => ?_, nodup_mk n2 (R.ownNodup hx) (fun k hk hk2 => hd k hk2 (List.mem_append.2 (.inr hk)))⟩
    rcases List.mem_append.1 hk with e | e
    · exact hgq e
    · exact hgG e
theorem OwnG.take {a : Option Addr} {n cap : Nat} (h : OwnG ty R w (.slice a n cap) l q) (k : Nat) (hk : k ≤ l.length) : OwnG ty R w (.slice a k cap) (l.take k) (q.take k) := by
  have hlen := h.len
  have hsub : ∀ j ∈ blocksOf (q.take k), j ∈ blocksOf q := fun j hj => by
    obtain ⟨p, hp, e⟩ := List.mem_flatMap.1 hj
    exact List.mem_flatMap.2 ⟨p, List.mem_of_mem_take hp, e⟩
  have hcells : cellsOf (q.take k) = (cellsOf q).take (k * R.size) := by
    have hp := h.parts
    clear h hsub
    induction q generalizing k l with
    | nil => simp [cellsOf]
    | cons p q ih =>
      cases k with
      | zero => simp [cellsOf]
      | succ k =>
        have h1 := hp p List.mem_cons_self
        cases l with
        | nil => simp at hk
        | cons y l =>
          have := ih (l := l) k (by simpa using hk) (by simpa using hlen) (fun x hx => hp x (List.mem_cons_of_mem _ hx))
          unfold cellsOf at this ⊢
          rw [List.take_succ_cons, List.flatMap_cons, List.flatMap_cons, this, List.take_append, h1, List.take_of_length_le (l := p.1) (by rw [h1, Nat.add_mul]; omega), show (k + 1) * R.size - R.size = k * R.size by rw [Nat.add_mul]; omega]
  refine ⟨by simp [hlen], ?_, fun i hi => ?_, ?_⟩
  · have hl2 : (l.take k).length = k := by simp; omega
    rw [hl2, hcells]
    have hcl := h.row.1
    refine ⟨by rw [List.length_take, hcl]; exact Nat.min_eq_left (Nat.mul_le_mul_right _ hk), ?_⟩
    rcases h.row.2 with ⟨e, h0⟩ | ⟨g, c, cur, e, hb, hg, h1, h2, h3, h4⟩
    · cases e; exact .inl ⟨by have : k = 0 := by omega
                              subst this; rfl, by omega⟩
    · cases e
      refine .inr ⟨g, _, cur, rfl, hb, hg, by omega, h2, h3, ?_⟩
      rw [← h4, List.take_take, Nat.min_eq_left (Nat.mul_le_mul_right _ hk)]
  · have hi' : i < l.length := by simp at hi; omega
    simp only [List.getElem_take]
    exact h.each i hi'
  · obtain ⟨n1, n2, n3⟩ := nodup_parts h.nodup
    refine nodup_mk (by cases a <;> simp [Value.ownBlock]) ?_ (fun j hj hj2 => ?_)
    · refine List.Nodup.sublist ?_ n2
      rw [← List.take_append_drop k q, blocksOf_append]
      rw [List.take_append_drop]
      exact List.sublist_append_left _ _
    · exact n3 j (by cases a with
        | none => simp [Value.ownBlock] at hj
        | some ad => simpa [Value.ownBlock] using hj) (hsub j hj2)
end
end Go.Proofs.YteniflajiklffaaGreatDoor.lay
