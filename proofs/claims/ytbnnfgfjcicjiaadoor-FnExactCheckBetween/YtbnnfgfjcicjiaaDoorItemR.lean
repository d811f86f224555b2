/- The laws' helpers for items and proofs: alike, marked, held. The laws' helpers for items and proofs: held; proofs marked and held. -/
import Derived.Test.YtbnnfgfjcicjiaaDoorItemQ
import Derived.Test.YtbnnfgfjcicjiaaDoorHelpR
namespace Go.Proofs.YtbnnfgfjcicjiaaDoor.range
open Go Go.RowKit Go.Proofs.YtbnnfgfjcicjiaaDoor.base Go.Proofs.YtbnnfgfjcicjiaaDoor.pairs Go.Proofs.YtbnnfgfjcicjiaaDoor.tree Go.Proofs.YtbnnfgfjcicjiaaDoor.helps
set_option linter.unusedVariables false
set_option linter.unusedSimpArgs false

set_option maxRecDepth 100000 in
set_option maxHeartbeats 1000000 in
theorem eqItemT (x : It) (pa qa : Option Addr) (pl pc ql qc : Nat) (w : World) (hx : SlS w pa pl x.2) (hy : SlS w qa ql x.2) :
    Calls Tryd.prog 68 #[.agg #[.string x.1.1, .string x.1.2, .slice pa pl pc], .agg #[.string x.1.1, .string x.1.2, .slice qa ql qc]] w fun e w' => e = .returned (.bool true) ∧ Below w.heap.size w w' := by
  obtain ⟨W0, hW0⟩ : ∃ W, W = w.alloc (.cells #[.string x.1.1, .string x.1.2, .slice pa pl pc] 37) := ⟨_, rfl⟩
  obtain ⟨W, hW⟩ : ∃ W, W = W0.alloc (.cells #[.string x.1.1, .string x.1.2, .slice qa ql qc] 37) := ⟨_, rfl⟩
  have hs0 : W0.heap.size = w.heap.size + 1 := by rw [hW0]; simp
  have hB0 : Below w.heap.size w W0 := by rw [hW0]; exact (Below.refl _ _).alloc (Nat.le_refl _) _
  have hB : Below w.heap.size w W := by rw [hW]; exact hB0.alloc hB0.size _
  have k1 : W.cell? ⟨w.heap.size, 2, none⟩ = some (.slice pa pl pc) := by rw [hW, hW0]; simp
  have k2 : W.cell? ⟨w.heap.size + 1, 2, none⟩ = some (.slice qa ql qc) := by rw [hW, ← hs0]; simp
  have hl1 : w.heap.size < W.heap.size := World.block_lt_of_cell? W _ k1
  have hl2 : w.heap.size + 1 < W.heap.size := World.block_lt_of_cell? W _ k2
  have hE := eqPair x.1 x.1 W
  rw [decide_eq_true rfl] at hE
  have HE := Hid.mk' hE
  have HW : Hid ((w.alloc (.cells #[.string x.1.1, .string x.1.2, .slice pa pl pc] 37)).alloc (.cells #[.string x.1.1, .string x.1.2, .slice qa ql qc] 37) = W) := by show _ = _; rw [hW, hW0]
  clear hE hW hW0 hs0 hB0
  go_enter Tryd.func68, Tryd.ntmps68
  go_wp2_with fail
  rw [HW.out]
  refine HE.out.mono ?_
  rintro e w1 ⟨rfl, hb1⟩
  have d1 := (hb1.cell (p := ⟨w.heap.size, 2, none⟩) hl1).trans k1
  have d2 := (hb1.cell (p := ⟨w.heap.size + 1, 2, none⟩) hl2).trans k2
  have hB1 := hB.trans (hb1.mono hB.size)
  have hT := eqStringS pa qa pl pc ql qc x.2 x.2 w1 (hx.below hB1) (hy.below hB1)
  rw [decide_eq_true rfl] at hT
  have HT := Hid.mk' hT
  clear hT k1 k2 HE HW hb1 hl1 hl2 hB
  go_wp2_with fail
  refine HT.out.mono ?_
  rintro e w2 ⟨rfl, n, rfl⟩
  have hB2 := below_drewN hB1 n
  clear HT d1 d2
  go_wp2_with fail
  go_ret
  exact ⟨rfl, hB2⟩

set_option maxRecDepth 100000 in
set_option maxHeartbeats 2000000 in
theorem eqItemsT (a a2 : Option Addr) (len cap cap2 : Nat) (l : List It) (w : World) (h : SlI w a len l) (h2 : SlI w a2 len l) :
    Calls Tryd.prog 40 #[.slice a len cap, .slice a2 len cap2] w fun e w' => e = .returned (.bool true) ∧ Below w.heap.size w w' := by
  obtain ⟨hl, hm, hsm, hc⟩ := id h
  obtain ⟨_, _, _, hc2⟩ := id h2
  subst hl
  unfold maxLen at hm
  have hb : ((l.length : Int) == (l.length : Int)) = true := by simp
  go_enter Tryd.func40, Tryd.ntmps40
  go_wp2_with fail
  go_loopw [5] (fun i wr => ∃ k : Nat, k ≤ l.length ∧ i = .int .i64 k ∧ Below w.heap.size w wr) (fun i _ => l.length - (intOf i).toNat)
  case atStart => exact ⟨0, Nat.zero_le _, rfl, Below.refl _ _⟩
  case round =>
    obtain ⟨k, hk, rfl, hB⟩ := hrel
    by_cases hlt : k < l.length
    · obtain ⟨b, off, ha, hcl⟩ := hc (by omega)
      obtain ⟨b2, off2, ha2, hcl2⟩ := hc2 (by omega)
      subst ha ha2
      have hki : (k : Int) < (l.length : Int) := by omega
      have i1 := h.at k hlt
      have i2 := h2.at k hlt
      have hb1 : b < w.heap.size := World.block_lt_of_cell? w _ i1.1
      have hb2 : b2 < w.heap.size := World.block_lt_of_cell? w _ i2.1
      have hbs := hB.size
      obtain ⟨c1, c2, pa, pl, pc, c3, hS1, _⟩ := i1.below hB
      obtain ⟨c4, c5, qa, ql, qc, c6, hS2, _⟩ := i2.below hB
      have o1 := last.On.cell (B := wr.heap.size) c1 (by omega)
      have o2 := last.On.cell (B := wr.heap.size) c2 (by omega)
      have o3 := last.On.cell (B := wr.heap.size) c3 (by omega)
      have o4 := last.On.cell (B := wr.heap.size) c4 (by omega)
      have o5 := last.On.cell (B := wr.heap.size) c5 (by omega)
      have o6 := last.On.cell (B := wr.heap.size) c6 (by omega)
      have hinh := last.On.inh wr.heap.size wr
      have hcall : ∀ x : last.On wr.heap.size wr, Calls Tryd.prog 68 #[.agg #[.string l[k].1.1, .string l[k].1.2, .slice pa pl pc], .agg #[.string l[k].1.1, .string l[k].1.2, .slice qa ql qc]] x.w fun e w' => e = .returned (.bool true) ∧ ∃ y : last.On wr.heap.size wr, w' = y.w := fun x => last.Calls.on x (Nat.le_refl _) (eqItemT l[k] pa qa pl pc ql qc x.w (hS1.below x.2) (hS2.below x.2))
      clear hcl hcl2 hc hc2 i1 i2 hsm h h2 hS1 hS2
      generalize l[k] = p at *
      go_wp2_with fail
      refine last.wp_region_on wr.heap.size (by kernel_rfl) (by kernel_rfl) ?_
      repeat (go_big_quiet_step ((go_at_call 68; exact hcall _)))
      refine wpQuiet_nil ?_
      intro w5 hw5
      obtain ⟨x5, hw5⟩ := hw5
      subst hw5
      have hB5 : Below w.heap.size w x5.w := hB.trans (x5.2.mono hB.size)
      go_wp2_with fail
      go_roundw
      case rel => exact ⟨k + 1, by omega, by go_num, hB5⟩
      case measure => simp [intOf]; omega
    · go_wp2_with fail
      go_ret
      exact ⟨rfl, hB⟩

set_option maxRecDepth 100000 in
set_option maxHeartbeats 1000000 in
theorem eqProofT (n fr : Int) (a a2 : Option Addr) (len cap cap2 : Nat) (l : List It) (w : World) (h : SlI w a len l) (h2 : SlI w a2 len l) :
    Calls Tryd.prog 16 #[.agg #[.int .i64 n, .int .i64 fr, .slice a len cap], .agg #[.int .i64 n, .int .i64 fr, .slice a2 len cap2]] w fun e w' => e = .returned (.bool true) ∧ Below w.heap.size w w' := by
  obtain ⟨W, hW⟩ : ∃ W, (w.alloc (.cells #[.int .i64 n, .int .i64 fr, .slice a len cap] 29)).alloc (.cells #[.int .i64 n, .int .i64 fr, .slice a2 len cap2] 29) = W := ⟨_, rfl⟩
  have hB : Below w.heap.size w W := by rw [← hW]; exact ((Below.refl _ _).alloc (Nat.le_refl _) _).alloc (by simp) _
  have HE := Hid.mk' (eqItemsT a a2 len cap cap2 l W (h.below hB) (h2.below hB))
  have HW := Hid.mk' hW
  clear hW
  have hn : (n == n) = true := by simp
  have hf : (fr == fr) = true := by simp
  go_enter Tryd.func16, Tryd.ntmps16
  go_wp2_with fail
  rw [HW.out]
  refine HE.out.mono ?_
  rintro e w1 ⟨rfl, hb1⟩
  have hB1 := hB.trans (hb1.mono hB.size)
  clear HE HW hb1
  go_wp2_with fail
  go_ret
  exact ⟨rfl, hB1⟩

/-! ### marks -/
def cnt (l : List It) : Nat := (l.map fun x => 2 + x.2.length).sum
def markI : Nat → List It → List It
  | _, [] => []
  | k, x :: l => ((markBytes k, markBytes (k + 1)), markS (k + 2) x.2.length) :: markI (k + 2 + x.2.length) l
theorem cnt_cons (x : It) (l : List It) : cnt (x :: l) = 2 + x.2.length + cnt l := by simp [cnt]
theorem cnt_append (a b : List It) : cnt (a ++ b) = cnt a + cnt b := by simp [cnt]
theorem cnt_take (l : List It) (i : Nat) (h : i < l.length) : cnt (l.take (i + 1)) = cnt (l.take i) + 2 + l[i].2.length := by
  rw [List.take_succ_eq_append_getElem h, cnt_append]; simp [cnt]; omega
theorem cnt_take_le (l : List It) (i : Nat) : cnt (l.take i) ≤ cnt l := by
  have : cnt l = cnt (l.take i) + cnt (l.drop i) := by rw [← cnt_append, List.take_append_drop]
  omega
theorem markI_length (k : Nat) (l : List It) : (markI k l).length = l.length := by
  induction l generalizing k with
  | nil => rfl
  | cons x l ih => simp [markI, ih]
theorem markI_append (k : Nat) (a b : List It) : markI k (a ++ b) = markI k a ++ markI (k + cnt a) b := by
  induction a generalizing k with
  | nil => simp [markI, cnt]
  | cons x a ih => simp only [List.cons_append, markI, ih, cnt_cons, Nat.add_assoc]
def markITo (l : List It) (k i : Nat) : List It := markI k (l.take i) ++ l.drop i
theorem markITo_zero (l : List It) (k : Nat) : markITo l k 0 = l := by simp [markITo, markI]
theorem markITo_all (l : List It) (k : Nat) : markITo l k l.length = markI k l := by simp [markITo]
theorem markITo_length (l : List It) (k i : Nat) (h : i ≤ l.length) : (markITo l k i).length = l.length := by simp [markITo, markI_length]; omega
theorem markITo_at (l : List It) (k i : Nat) (h : i < l.length) : (markITo l k i)[i]'(by rw [markITo_length l k i (by omega)]; exact h) = l[i] := by
  unfold markITo
  rw [List.getElem_append_right (by rw [markI_length, List.length_take]; exact Nat.min_le_left _ _)]
  simp [markI_length, Nat.min_eq_left (Nat.le_of_lt h)]
theorem markITo_set (l : List It) (k i : Nat) (h : i < l.length) :
    (markITo l k i).set i ((markBytes (k + cnt (l.take i)), markBytes (k + cnt (l.take i) + 1)), markS (k + cnt (l.take i) + 2) l[i].2.length) = markITo l k (i + 1) := by
  unfold markITo
  rw [List.set_append_right _ _ (by rw [markI_length, List.length_take]; exact Nat.min_le_left _ _), markI_length, List.length_take, Nat.min_eq_left (Nat.le_of_lt h), Nat.sub_self, List.drop_eq_getElem_cons h, List.set_cons_zero,
    List.take_succ_eq_append_getElem h, markI_append, List.append_assoc]
  rfl
theorem markI_at (k : Nat) (l : List It) (i : Nat) (h : i < l.length) : (markI k l)[i]'(by rw [markI_length]; exact h) = ((markBytes (k + cnt (l.take i)), markBytes (k + cnt (l.take i) + 1)), markS (k + cnt (l.take i) + 2) l[i].2.length) := by
  induction l generalizing k i with
  | nil => simp at h
  | cons x l ih =>
    cases i with
    | zero => simp [markI, cnt]
    | succ i =>
      simp only [markI, List.getElem_cons_succ, List.take_succ_cons, cnt_cons]
      rw [ih _ i (by simpa using h)]
      simp only [Nat.add_assoc]

theorem markStringI (g len cap k0 base : Nat) (ss : List ByteArray) (w : World) (h : OwnS w base g len cap ss) (hk1 : 1 ≤ k0) (hk0 : k0 + len ≤ 1099511627776) (K : Int) (hK : Hid (K = (k0 : Int))) :
    Calls Tryd.prog 69 #[.slice (some ⟨g, 0, none⟩) len cap, .int .i64 K] w fun e w' => e = .returned (.int .i64 ((k0 + len : Nat) : Int)) ∧ OwnS w' base g len cap (markS k0 len) ∧ w.grownBy w' (some g) := by
  have e := hK.out
  subst e
  exact markStringS g len cap k0 base ss w h hk1 hk0
set_option maxRecDepth 100000 in
set_option maxHeartbeats 2000000 in
theorem markItemS (v : Value) (base k0 : Nat) (l : List It) (hs : List Hd) (w : World) (h : OwnI w base v l hs) (hb : base ≤ w.heap.size) (hk1 : 1 ≤ k0) (hk0 : k0 + cnt l ≤ 1099511627776) (hll : l.length ≤ 1099511627776) :
    Calls Tryd.prog 43 #[v, .int .i64 (k0 : Nat)] w fun e w' => e = .returned (.int .i64 ((k0 + cnt l : Nat) : Int)) ∧ OwnI w' base v (markI k0 l) hs ∧ KeepB v hs w w' := by
  rcases h.shape with ⟨rfl, rfl, rfl⟩ | ⟨g, cap, rfl, hcap, hmx⟩
  · go_enter Tryd.func43, Tryd.ntmps43
    go_wp2_with fail
    refine wp_loop_rounds 1 ?_
    rw [rounds_succ]
    go_wp2_with fail
    go_ret
    exact ⟨rfl, h, KeepB.refl _ _ _⟩
  have hlen := h.len
  go_enter Tryd.func43, Tryd.ntmps43
  go_wp2_with fail
  go_loopw [1, 5] (fun kv i wr => ∃ k : Nat, k ≤ l.length ∧ i = .int .i64 k ∧ kv = .int .i64 ((k0 + cnt (l.take k) : Nat) : Int) ∧ OwnI wr base (.slice (some ⟨g, 0, none⟩) l.length cap) (markITo l k0 k) hs ∧ KeepB (.slice (some ⟨g, 0, none⟩) l.length cap) hs w wr) (fun _ i _ => l.length - (intOf i).toNat)
  case atStart => exact ⟨0, Nat.zero_le _, rfl, rfl, by rw [markITo_zero]; exact h, KeepB.refl _ _ _⟩
  case round =>
    obtain ⟨k, hk, rfl, rfl, hO, hB⟩ := hrel
    by_cases hlt : k < l.length
    · have hml := markITo_length l k0 k hk
      have hlen2 : k < (markITo l k0 k).length := by omega
      have hat : (markITo l k0 k)[k]? = some l[k] := by rw [List.getElem?_eq_getElem hlen2, markITo_at l k0 k hlt]
      have hset := markITo_set l k0 k hlt
      have hct := cnt_take l k hlt
      have hcl := cnt_take_le l (k + 1)
      have hki : (k : Int) < (l.length : Int) := by omega
      obtain ⟨c, hc⟩ : ∃ c, k0 + cnt (l.take k) = c := ⟨_, rfl⟩
      have hnext : k0 + cnt (l.take (k + 1)) = c + 2 + l[k].2.length := by omega
      rw [hc] at hset
      have hc2 : c + 2 + l[k].2.length ≤ 1099511627776 := by omega
      have hc1 : 1 ≤ c := by omega
      have hgl := (hO.row.lt g rfl).1
      obtain ⟨L, hL⟩ : ∃ L, markITo l k0 k = L := ⟨_, rfl⟩
      rw [hL] at hO hat hset hlen2
      have hat : L[k] = l[k] := by rw [List.getElem?_eq_getElem hlen2] at hat; exact Option.some.inj hat
      have HN := Hid.mk' hnext
      have HS := Hid.mk' hset
      have HLK := Hid.mk' hat
      have hkh : k < hs.length := by omega
      rw [hc]
      clear hnext hset hct hcl hL hc hml hat
      go_wp2_with fail
      refine (markTextI _ c _ (by show _ = _; omega) (by omega) (by omega)).mono ?_
      rintro e w1 ⟨rfl, hB1⟩
      have hO1 := hO.below hB1
      have d1 := (hO1.at k hlen2).1
      have f1 := hO1.frozen (k * 3)
      have R := hO1.setKey k hlen2 (markBytes c) (mark_max _)
      have hB2 := hB.below hB1
      have hB3 := hB2.grown R.2 (.inl rfl)
      have HR := Hid.mk' R.1
      clear R hO1 hO hB1 hB hB2
      go_wp2_with fail
      refine (markTextI _ (c + 1) _ (by show _ = _; omega) (by omega) (by omega)).mono ?_
      rintro e w2 ⟨rfl, hB4⟩
      have hO2 := HR.out.below hB4
      have hlen3 : k < (L.set k ((markBytes c, L[k].1.2), L[k].2)).length := by simpa using hlen2
      have d2 := (hO2.at k hlen3).2.1
      have f2 := hO2.frozen (k * 3 + 1)
      have R2 := hO2.setVal k hlen3 (markBytes (c + 1)) (mark_max _)
      simp only [List.getElem_set_self, List.set_set] at R2
      have hB5 := hB3.below hB4
      have hB6 := hB5.grown R2.2 (.inl rfl)
      have hlen4 : k < (L.set k ((markBytes c, markBytes (c + 1)), L[k].2)).length := by simpa using hlen2
      have d3 := (R2.1.at k hlen4).2.2
      have hPk := R2.1.paths k hlen4
      simp only [List.getElem_set_self] at hPk
      obtain ⟨yg, yn, yc, hy⟩ : ∃ yg yn yc, hs[k] = (yg, yn, yc) := ⟨_, _, _, rfl⟩
      simp only [hy] at hPk d3
      have HR2 := Hid.mk' R2.1
      have hpn := hPk.1
      have hpl : L[k].2.length = l[k].2.length := by rw [HLK.out]
      have HPk := Hid.mk' hPk
      have hyn : yn ≤ 1099511627776 := by omega
      have HYN : Hid (l[k].2.length = yn) := by show _ = _; omega
      have hc3 : c + 2 + yn ≤ 1099511627776 := by omega
      have HYK := Hid.mk' hy
      clear R2 hO2 hB4 hB3 hB5 HR d1 f1 hPk hpn hpl hy
      have HM := fun K (hK : Hid (K = ((c + 2 : Nat) : Int))) => markStringI yg yn yc (c + 2) base _ _ HPk.out (by omega) hc3 K hK
      have HMM := Hid.mk' HM
      clear HM
      go_wp2_with fail
      refine (HMM.out _ (by show _ = _; omega)).mono ?_
      rintro e w3 ⟨rfl, hP3, hG3⟩
      have hO3 := HR2.out.setPath k hlen4 (markS (c + 2) yn) (by simp only [HYK.out]; exact hP3) (by simp only [HYK.out]; exact hG3)
      simp only [List.getElem_set_self, List.set_set] at hO3
      rw [← HYN.out, HS.out] at hO3
      have hB7 := hB6.grown hG3 (.inr ⟨hs[k], List.getElem_mem _, by rw [HYK.out]⟩)
      have HO3 := Hid.mk' hO3
      clear hO3 hP3 hG3 HMM HPk HR2 d2 f2 d3 hB6
      go_wp2_with fail
      go_roundw
      case rel => exact ⟨k + 1, by omega, by go_num, by have h1 := HN.out; have h2 := HYN.out; refine val_int ?_; omega, HO3.out, hB7⟩
      case measure => simp [intOf]; omega
    · have e : k = l.length := by omega
      subst e
      rw [markITo_all] at hO
      have HO := Hid.mk' hO
      have HE : Hid (k0 + cnt (l.take l.length) = k0 + cnt l) := by show _ = _; rw [List.take_length]
      clear hO
      go_wp2_with fail
      go_ret
      exact ⟨ret_int (by rw [HE.out]), HO.out, hB⟩
end Go.Proofs.YtbnnfgfjcicjiaaDoor.range

namespace Go.Proofs.YtbnnfgfjcicjiaaDoor.range
open Go Go.RowKit Go.Proofs.YtbnnfgfjcicjiaaDoor.base Go.Proofs.YtbnnfgfjcicjiaaDoor.pairs Go.Proofs.YtbnnfgfjcicjiaaDoor.tree Go.Proofs.YtbnnfgfjcicjiaaDoor.helps
set_option linter.unusedVariables false
set_option linter.unusedSimpArgs false

theorem heldStringI (a : Option Addr) (len cap k0 : Nat) (w : World) (h : SlS w a len (markS k0 len)) (hk1 : 1 ≤ k0) (hk0 : k0 + len ≤ 1099511627776) (K : Int) (hK : Hid (K = (k0 : Int))) :
    Calls Tryd.prog 70 #[.slice a len cap, .int .i64 K] w fun e w' => e = .returned (.int .i64 ((k0 + len : Nat) : Int)) ∧ Below w.heap.size w w' := by
  have e := hK.out
  subst e
  exact heldStringS a len cap k0 w h hk1 hk0

set_option maxRecDepth 100000 in
set_option maxHeartbeats 2000000 in
theorem heldItemS (a : Option Addr) (len cap k0 : Nat) (l : List It) (w : World) (h : SlI w a len (markI k0 l)) (hk1 : 1 ≤ k0) (hk0 : k0 + cnt l ≤ 1099511627776) (hll : l.length ≤ 1099511627776) :
    Calls Tryd.prog 44 #[.slice a len cap, .int .i64 (k0 : Nat)] w fun e w' => e = .returned (.int .i64 ((k0 + cnt l : Nat) : Int)) ∧ Below w.heap.size w w' := by
  have hl0 := h.1
  rw [markI_length] at hl0
  subst hl0
  have hc := h.2.2.2
  go_enter Tryd.func44, Tryd.ntmps44
  go_wp2_with fail
  go_loopw [1, 5] (fun kv i wr => ∃ k : Nat, k ≤ l.length ∧ i = .int .i64 k ∧ kv = .int .i64 ((k0 + cnt (l.take k) : Nat) : Int) ∧ Below w.heap.size w wr) (fun _ i _ => l.length - (intOf i).toNat)
  case atStart => exact ⟨0, Nat.zero_le _, rfl, rfl, Below.refl _ _⟩
  case round =>
    obtain ⟨k, hk, rfl, rfl, hB⟩ := hrel
    by_cases hlt : k < l.length
    · obtain ⟨b, off, ha⟩ : ∃ b off, a = some ⟨b, off, none⟩ := by
        obtain ⟨b, off, ha, _⟩ := hc (by omega)
        exact ⟨b, off, ha⟩
      subst ha
      have hkl : k < (markI k0 l).length := by rw [markI_length]; exact hlt
      have hbb : b < w.heap.size := World.block_lt_of_cell? w _ (h.at k hkl).1
      have hit := (h.at k hkl).below hB
      rw [markI_at k0 l k hlt] at hit
      have hct := cnt_take l k hlt
      have hcl := cnt_take_le l (k + 1)
      have hki : (k : Int) < (l.length : Int) := by omega
      obtain ⟨c, hce⟩ : ∃ c, k0 + cnt (l.take k) = c := ⟨_, rfl⟩
      have hnext : k0 + cnt (l.take (k + 1)) = c + 2 + l[k].2.length := by omega
      rw [hce] at hit
      have hc2 : c + 2 + l[k].2.length ≤ 1099511627776 := by omega
      have hc1 : 1 ≤ c := by omega
      obtain ⟨c1, c2, pa, pl, pc, c3, hS, _⟩ := hit
      have hpl := hS.1
      simp only [markS_length] at hpl
      simp only [hpl] at hS hc2 hnext
      have HN := Hid.mk' hnext
      have HS := Hid.mk' hS
      have hbw := hB.size
      have o1 := last.On.cell (B := wr.heap.size) c1 (by omega)
      have hinh := last.On.inh wr.heap.size wr
      have hm1 : ∀ K, Hid (K = (c : Int)) → ∀ x : last.On wr.heap.size wr, Calls Tryd.prog 42 #[.int .i64 K] x.w fun e w' => e = .returned (.string (markBytes c)) ∧ ∃ y : last.On wr.heap.size wr, w' = y.w := fun K hK x => last.Calls.on x (Nat.le_refl _) (markTextI _ c x.w hK (by omega) (by omega))
      simp only at c1 c2 c3 o1
      generalize hM1 : markBytes c = M1 at *
      generalize hM2 : markBytes (c + 1) = M2 at *
      have HM2 := Hid.mk' hM2
      rw [hce]
      clear hM1 hM2 hpl hnext hct hcl hS hkl hce h hc
      go_wp2_with fail
      refine last.wp_region_on wr.heap.size (by kernel_rfl) (by kernel_rfl) ?_
      repeat (go_big_quiet_step ((go_at_call 42; exact hm1 _ (by show _ = _; omega) _)))
      refine wpQuiet_nil ?_
      intro w5 hw5
      obtain ⟨x5, hw5⟩ := hw5
      subst hw5
      have hB5 : Below w.heap.size w x5.w := hB.trans (x5.2.mono hB.size)
      have c2' := (x5.2.cell (p := ⟨b, off + k * 3 + 1, none⟩) (by show b < _; omega)).trans c2
      have c3' := (x5.2.cell (p := ⟨b, off + k * 3 + 2, none⟩) (by show b < _; omega)).trans c3
      have HS5 : Hid (SlS x5.w pa pl (markS (c + 2) pl)) := HS.out.below x5.2
      change x5.w.cell? _ = _ at c2' c3'
      generalize x5.w = w6 at *
      clear o1 hinh hm1 c1 c2 c3 HS
      have hbw6 := hB5.size
      have o2 := last.On.cell (B := w6.heap.size) c2' (by omega)
      have hinh := last.On.inh w6.heap.size w6
      have hm2 : ∀ K, Hid (K = (c : Int) + 1) → ∀ x : last.On w6.heap.size w6, Calls Tryd.prog 42 #[.int .i64 K] x.w fun e w' => e = .returned (.string M2) ∧ ∃ y : last.On w6.heap.size w6, w' = y.w := fun K hK x => last.Calls.on x (Nat.le_refl _) (by rw [← HM2.out]; exact markTextI _ (c + 1) x.w (by show _ = _; have := hK.out; omega) (by omega) (by omega))
      clear HM2
      go_wp2_with fail
      refine last.wp_region_on w6.heap.size (by kernel_rfl) (by kernel_rfl) ?_
      repeat (go_big_quiet_step ((go_at_call 42; exact hm2 _ (by show _ = _; omega) _)))
      refine wpQuiet_nil ?_
      intro w7 hw7
      obtain ⟨x7, hw7⟩ := hw7
      subst hw7
      have hB7 : Below w.heap.size w x7.w := hB5.trans (x7.2.mono hB5.size)
      have c3'' := (x7.2.cell (p := ⟨b, off + k * 3 + 2, none⟩) (by show b < _; omega)).trans c3'
      have HS7 : Hid (SlS x7.w pa pl (markS (c + 2) pl)) := HS5.out.below x7.2
      change x7.w.cell? _ = _ at c3''
      generalize x7.w = w8 at *
      clear o2 hinh hm2 c2' c3' HS5
      go_wp2_with fail
      refine (heldStringI pa pl pc (c + 2) _ HS7.out (by omega) hc2 _ (by show _ = _; omega)).mono ?_
      rintro e w9 ⟨rfl, hb9⟩
      have hB9 := hB7.trans (hb9.mono hB7.size)
      clear HS7 hb9
      go_wp2_with fail
      go_roundw
      case rel => exact ⟨k + 1, by omega, by go_num, by have h1 := HN.out; refine val_int ?_; omega, hB9⟩
      case measure => simp [intOf]; omega
    · have e : k = l.length := by omega
      subst e
      have HE : Hid (k0 + cnt (l.take l.length) = k0 + cnt l) := by show _ = _; rw [List.take_length]
      go_wp2_with fail
      go_ret
      exact ⟨ret_int (by rw [HE.out]), hB⟩

theorem keep_trans {v : Value} {hs : List Hd} {a b c : World} (h : KeepB v hs a b) (k : KeepB v hs b c) : KeepB v hs a c :=
  ⟨k.os.trans h.os, k.tape.trans h.tape, k.output.trans h.output, Nat.le_trans h.size k.size, fun j hj hn => (k.block j (Nat.lt_of_lt_of_le hj h.size) hn).trans (h.block j hj hn)⟩
set_option maxRecDepth 100000 in
set_option maxHeartbeats 1000000 in
theorem markProof1 (n fr : Int) (v : Value) (base : Nat) (l : List It) (hs : List Hd) (w : World) (h : OwnI w base v l hs) (hb : base ≤ w.heap.size) (hk0 : 1 + cnt l ≤ 1099511627776) (hll : l.length ≤ 1099511627776) :
    Calls Tryd.prog 19 #[.agg #[.int .i64 n, .int .i64 fr, v], .int .i64 1] w fun e w' => e = .returned (.int .i64 ((1 + cnt l : Nat) : Int)) ∧ OwnI w' base v (markI 1 l) hs ∧ KeepB v hs w w' := by
  have hba : Below w.heap.size w (w.alloc (.cells #[.int .i64 n, .int .i64 fr, v] 29)) := (Below.refl _ _).alloc (Nat.le_refl _) _
  have HM := Hid.mk' (show Calls Tryd.prog 43 #[v, .int .i64 1] _ _ from markItemS v base 1 l hs _ (h.below hba) (by simp; omega) (by omega) hk0 hll)
  have HB := Hid.mk' ((KeepB.refl v hs w).below hba)
  rcases h.shape with ⟨rfl, rfl, rfl⟩ | ⟨g, cap, rfl, _, _⟩
  all_goals
    clear h hba
    go_enter Tryd.func19, Tryd.ntmps19
    go_wp2_with fail
    refine HM.out.mono ?_
    rintro e w1 ⟨rfl, hO, hB⟩
    have HO := Hid.mk' hO
    have hB1 := keep_trans HB.out hB
    clear hO HM hB
    go_wp2_with fail
    go_ret
    exact ⟨rfl, HO.out, hB1⟩
set_option maxRecDepth 100000 in
set_option maxHeartbeats 1000000 in
theorem heldProof1 (n fr : Int) (a : Option Addr) (len cap : Nat) (l : List It) (w : World) (h : SlI w a len (markI 1 l)) (hk0 : 1 + cnt l ≤ 1099511627776) (hll : l.length ≤ 1099511627776) :
    Calls Tryd.prog 20 #[.agg #[.int .i64 n, .int .i64 fr, .slice a len cap], .int .i64 1] w fun e w' => e = .returned (.int .i64 ((1 + cnt l : Nat) : Int)) ∧ Below w.heap.size w w' := by
  have hba : Below w.heap.size w (w.alloc (.cells #[.int .i64 n, .int .i64 fr, .slice a len cap] 29)) := (Below.refl _ _).alloc (Nat.le_refl _) _
  have HM := Hid.mk' (show Calls Tryd.prog 44 #[.slice a len cap, .int .i64 1] _ _ from heldItemS a len cap 1 l _ (h.below hba) (by omega) hk0 hll)
  have HB := Hid.mk' hba
  clear h hba
  go_enter Tryd.func20, Tryd.ntmps20
  go_wp2_with fail
  refine HM.out.mono ?_
  rintro e w1 ⟨rfl, hB⟩
  have hB1 := HB.out.trans (hB.mono HB.out.size)
  clear HM hB
  go_wp2_with fail
  go_ret
  exact ⟨rfl, hB1⟩
end Go.Proofs.YtbnnfgfjcicjiaaDoor.range
