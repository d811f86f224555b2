/- The laws' helpers for items and proofs: alike, marked, held. The laws' helpers for bundles: alike. The laws' helpers for items and proofs that are handed in: copied, and their size. The laws' copies of items: a row that is filled item by item. -/
import Derived.Test.YteammdkipnfmnaaGreatDoorShah
import Derived.Test.YteammdkipnfmnaaGreatDoorShal
import Derived.Test.YteammdkipnfmnaaGreatDoorShaj
import Derived.Test.YteammdkipnfmnaaGreatDoorShae
namespace Go.Proofs.YteammdkipnfmnaaGreatDoor.range
open Go Go.RowKit Go.Proofs.YteammdkipnfmnaaGreatDoor.base Go.Proofs.YteammdkipnfmnaaGreatDoor.pairs Go.Proofs.YteammdkipnfmnaaGreatDoor.tree Go.Proofs.YteammdkipnfmnaaGreatDoor.helps
set_option linter.unusedVariables false
set_option linter.unusedSimpArgs false

set_option maxRecDepth 100000 in
set_option maxHeartbeats 1000000 in
theorem eqItemT (x : It) (pa qa : Option Addr) (pl pc ql qc : Nat) (w : World) (hx : SlS w pa pl x.2) (hy : SlS w qa ql x.2) :
    Calls Tryz.prog 133 #[.agg #[.string x.1.1, .string x.1.2, .slice pa pl pc], .agg #[.string x.1.1, .string x.1.2, .slice qa ql qc]] w fun e w' => e = .returned (.bool true) ∧ Below w.heap.size w w' := by
  obtain ⟨W0, hW0⟩ : ∃ W, W = w.alloc (.cells #[.string x.1.1, .string x.1.2, .slice pa pl pc] 107) := ⟨_, rfl⟩
  obtain ⟨W, hW⟩ : ∃ W, W = W0.alloc (.cells #[.string x.1.1, .string x.1.2, .slice qa ql qc] 107) := ⟨_, rfl⟩
  have hs0 : W0.heap.size = w.heap.size + 1 := by rw [hW0]; simp
  have hB0 : Below w.heap.size w W0 := by rw [hW0]; exact (Below.refl _ _).alloc (Nat.le_refl _) _
  have hB : Below w.heap.size w W := by rw [hW]; exact hB0.alloc hB0.size _
  have k1 : W.cell? ⟨w.heap.size, 2, none⟩ = some (.slice pa pl pc) := by rw [hW, hW0]; simp
  have k2 : W.cell? ⟨w.heap.size + 1, 2, none⟩ = some (.slice qa ql qc) := by rw [hW, ← hs0]; simp
  have hl1 : w.heap.size < W.heap.size := World.block_lt_of_cell? W _ k1
  have hl2 : w.heap.size + 1 < W.heap.size := World.block_lt_of_cell? W _ k2
  have hE := eqPair x.1 x.1 W
  rw [decide_eq_true rfl] at hE
  have HE := Hid.mk' hE
  have HW : Hid ((w.alloc (.cells #[.string x.1.1, .string x.1.2, .slice pa pl pc] 107)).alloc (.cells #[.string x.1.1, .string x.1.2, .slice qa ql qc] 107) = W) := by show _ = _; rw [hW, hW0]
  clear hE hW hW0 hs0 hB0
  go_enter Tryz.func133, Tryz.ntmps133
  go_wp2_with fail
  rw [HW.out]
  refine HE.out.mono ?_
  rintro e w1 ⟨rfl, hb1⟩
  have d1 := (hb1.cell (p := ⟨w.heap.size, 2, none⟩) hl1).trans k1
  have d2 := (hb1.cell (p := ⟨w.heap.size + 1, 2, none⟩) hl2).trans k2
  have hB1 := hB.trans (hb1.mono hB.size)
  have hT := eqStringS pa qa pl pc ql qc x.2 x.2 w1 (hx.below hB1) (hy.below hB1)
  rw [decide_eq_true rfl] at hT
  have HT := Hid.mk' hT
  clear hT k1 k2 HE HW hb1 hl1 hl2 hB
  go_wp2_with fail
  refine HT.out.mono ?_
  rintro e w2 ⟨rfl, n, rfl⟩
  have hB2 := below_drewN hB1 n
  clear HT d1 d2
  go_wp2_with fail
  go_ret
  exact ⟨rfl, hB2⟩

set_option maxRecDepth 100000 in
set_option maxHeartbeats 2000000 in
theorem eqItemsT (a a2 : Option Addr) (len cap cap2 : Nat) (l : List It) (w : World) (h : SlI w a len l) (h2 : SlI w a2 len l) :
    Calls Tryz.prog 114 #[.slice a len cap, .slice a2 len cap2] w fun e w' => e = .returned (.bool true) ∧ Below w.heap.size w w' := by
  obtain ⟨hl, hm, hsm, hc⟩ := id h
  obtain ⟨_, _, _, hc2⟩ := id h2
  subst hl
  unfold maxLen at hm
  have hb : ((l.length : Int) == (l.length : Int)) = true := by simp
  go_enter Tryz.func114, Tryz.ntmps114
  go_wp2_with fail
  go_loopw [5] (fun i wr => ∃ k : Nat, k ≤ l.length ∧ i = .int .i64 k ∧ Below w.heap.size w wr) (fun i _ => l.length - (intOf i).toNat)
  case atStart => exact ⟨0, Nat.zero_le _, rfl, Below.refl _ _⟩
  case round =>
    obtain ⟨k, hk, rfl, hB⟩ := hrel
    by_cases hlt : k < l.length
    · obtain ⟨b, off, ha, hcl⟩ := hc (by omega)
      obtain ⟨b2, off2, ha2, hcl2⟩ := hc2 (by omega)
      subst ha ha2
      have hki : (k : Int) < (l.length : Int) := by omega
      have i1 := h.at k hlt
      have i2 := h2.at k hlt
      have hb1 : b < w.heap.size := World.block_lt_of_cell? w _ i1.1
      have hb2 : b2 < w.heap.size := World.block_lt_of_cell? w _ i2.1
      have hbs := hB.size
      obtain ⟨c1, c2, pa, pl, pc, c3, hS1, _⟩ := i1.below hB
      obtain ⟨c4, c5, qa, ql, qc, c6, hS2, _⟩ := i2.below hB
      have o1 := last.On.cell (B := wr.heap.size) c1 (by omega)
      have o2 := last.On.cell (B := wr.heap.size) c2 (by omega)
      have o3 := last.On.cell (B := wr.heap.size) c3 (by omega)
      have o4 := last.On.cell (B := wr.heap.size) c4 (by omega)
      have o5 := last.On.cell (B := wr.heap.size) c5 (by omega)
      have o6 := last.On.cell (B := wr.heap.size) c6 (by omega)
      have hinh := last.On.inh wr.heap.size wr
      have hcall : ∀ x : last.On wr.heap.size wr, Calls Tryz.prog 133 #[.agg #[.string l[k].1.1, .string l[k].1.2, .slice pa pl pc], .agg #[.string l[k].1.1, .string l[k].1.2, .slice qa ql qc]] x.w fun e w' => e = .returned (.bool true) ∧ ∃ y : last.On wr.heap.size wr, w' = y.w := fun x => last.Calls.on x (Nat.le_refl _) (eqItemT l[k] pa qa pl pc ql qc x.w (hS1.below x.2) (hS2.below x.2))
      clear hcl hcl2 hc hc2 i1 i2 hsm h h2 hS1 hS2
      generalize l[k] = p at *
      go_wp2_with fail
      refine last.wp_region_on wr.heap.size (by kernel_rfl) (by kernel_rfl) ?_
      repeat (go_big_quiet_step ((go_at_call 133; exact hcall _)))
      refine wpQuiet_nil ?_
      intro w5 hw5
      obtain ⟨x5, hw5⟩ := hw5
      subst hw5
      have hB5 : Below w.heap.size w x5.w := hB.trans (x5.2.mono hB.size)
      go_wp2_with fail
      go_roundw
      case rel => exact ⟨k + 1, by omega, by go_num, hB5⟩
      case measure => simp [intOf]; omega
    · go_wp2_with fail
      go_ret
      exact ⟨rfl, hB⟩

set_option maxRecDepth 100000 in
set_option maxHeartbeats 1000000 in
theorem eqProofT (n fr : Int) (a a2 : Option Addr) (len cap cap2 : Nat) (l : List It) (w : World) (h : SlI w a len l) (h2 : SlI w a2 len l) :
    Calls Tryz.prog 82 #[.agg #[.int .i64 n, .int .i64 fr, .slice a len cap], .agg #[.int .i64 n, .int .i64 fr, .slice a2 len cap2]] w fun e w' => e = .returned (.bool true) ∧ Below w.heap.size w w' := by
  obtain ⟨W, hW⟩ : ∃ W, (w.alloc (.cells #[.int .i64 n, .int .i64 fr, .slice a len cap] 64)).alloc (.cells #[.int .i64 n, .int .i64 fr, .slice a2 len cap2] 64) = W := ⟨_, rfl⟩
  have hB : Below w.heap.size w W := by rw [← hW]; exact ((Below.refl _ _).alloc (Nat.le_refl _) _).alloc (by simp) _
  have HE := Hid.mk' (eqItemsT a a2 len cap cap2 l W (h.below hB) (h2.below hB))
  have HW := Hid.mk' hW
  clear hW
  have hn : (n == n) = true := by simp
  have hf : (fr == fr) = true := by simp
  go_enter Tryz.func82, Tryz.ntmps82
  go_wp2_with fail
  rw [HW.out]
  refine HE.out.mono ?_
  rintro e w1 ⟨rfl, hb1⟩
  have hB1 := hB.trans (hb1.mono hB.size)
  clear HE HW hb1
  go_wp2_with fail
  go_ret
  exact ⟨rfl, hB1⟩

/-! ### marks -/
def cnt (l : List It) : Nat := (l.map fun x => 2 + x.2.length).sum
def markI : Nat → List It → List It
  | _, [] => []
  | k, x :: l => ((markBytes k, markBytes (k + 1)), markS (k + 2) x.2.length) :: markI (k + 2 + x.2.length) l
theorem cnt_cons (x : It) (l : List It) : cnt (x :: l) = 2 + x.2.length + cnt l := by simp [cnt]
theorem cnt_append (a b : List It) : cnt (a ++ b) = cnt a + cnt b := by simp [cnt]
theorem cnt_take (l : List It) (i : Nat) (h : i < l.length) : cnt (l.take (i + 1)) = cnt (l.take i) + 2 + l[i].2.length := by
  rw [List.take_succ_eq_append_getElem h, cnt_append]; simp [cnt]; omega
theorem cnt_take_le (l : List It) (i : Nat) : cnt (l.take i) ≤ cnt l := by
  have : cnt l = cnt (l.take i) + cnt (l.drop i) := by rw [← cnt_append, List.take_append_drop]
  omega
theorem markI_length (k : Nat) (l : List It) : (markI k l).length = l.length := by
  induction l generalizing k with
  | nil => rfl
  | cons x l ih => simp [markI, ih]
theorem markI_append (k : Nat) (a b : List It) : markI k (a ++ b) = markI k a ++ markI (k + cnt a) b := by
  induction a generalizing k with
  | nil => simp [markI, cnt]
  | cons x a ih => simp only [List.cons_append, markI, ih, cnt_cons, Nat.add_assoc]
def markITo (l : List It) (k i : Nat) : List It := markI k (l.take i) ++ l.drop i
theorem markITo_zero (l : List It) (k : Nat) : markITo l k 0 = l := by simp [markITo, markI]
theorem markITo_all (l : List It) (k : Nat) : markITo l k l.length = markI k l := by simp [markITo]
theorem markITo_length (l : List It) (k i : Nat) (h : i ≤ l.length) : (markITo l k i).length = l.length := by simp [markITo, markI_length]; omega
theorem markITo_at (l : List It) (k i : Nat) (h : i < l.length) : (markITo l k i)[i]'(by rw [markITo_length l k i (by omega)]; exact h) = l[i] := by
  unfold markITo
  rw [List.getElem_append_right (by rw [markI_length, List.length_take]; exact Nat.min_le_left _ _)]
  simp [markI_length, Nat.min_eq_left (Nat.le_of_lt h)]
theorem markITo_set (l : List It) (k i : Nat) (h : i < l.length) :
    (markITo l k i).set i ((markBytes (k + cnt (l.take i)), markBytes (k + cnt (l.take i) + 1)), markS (k + cnt (l.take i) + 2) l[i].2.length) = markITo l k (i + 1) := by
  unfold markITo
  rw [List.set_append_right _ _ (by rw [markI_length, List.length_take]; exact Nat.min_le_left _ _), markI_length, List.length_take, Nat.min_eq_left (Nat.le_of_lt h), Nat.sub_self, List.drop_eq_getElem_cons h, List.set_cons_zero,
    List.take_succ_eq_append_getElem h, markI_append, List.append_assoc]
  rfl
theorem markStringI (g len cap k0 base : Nat) (ss : List ByteArray) (w : World) (h : OwnS w base g len cap ss) (hk1 : 1 ≤ k0) (hk0 : k0 + len ≤ 1099511627776) (K : Int) (hK : Hid (K = (k0 : Int))) :
    Calls Tryz.prog 45 #[.slice (some ⟨g, 0, none⟩) len cap, .int .i64 K] w fun e w' => e = .returned (.int .i64 ((k0 + len : Nat) : Int)) ∧ OwnS w' base g len cap (markS k0 len) ∧ w.grownBy w' (some g) := by
  have e := hK.out
  subst e
  exact markStringS g len cap k0 base ss w h hk1 hk0
set_option maxRecDepth 100000 in
set_option maxHeartbeats 2000000 in
theorem markItemS (v : Value) (base k0 : Nat) (l : List It) (hs : List Hd) (w : World) (h : OwnI w base v l hs) (hb : base ≤ w.heap.size) (hk1 : 1 ≤ k0) (hk0 : k0 + cnt l ≤ 1099511627776) (hll : l.length ≤ 1099511627776) :
    Calls Tryz.prog 83 #[v, .int .i64 (k0 : Nat)] w fun e w' => e = .returned (.int .i64 ((k0 + cnt l : Nat) : Int)) ∧ OwnI w' base v (markI k0 l) hs ∧ KeepB v hs w w' := by
  rcases h.shape with ⟨rfl, rfl, rfl⟩ | ⟨g, cap, rfl, hcap, hmx⟩
  · go_enter Tryz.func83, Tryz.ntmps83
    go_wp2_with fail
    refine wp_loop_rounds 1 ?_
    rw [rounds_succ]
    go_wp2_with fail
    go_ret
    exact ⟨rfl, h, KeepB.refl _ _ _⟩
  have hlen := h.len
  go_enter Tryz.func83, Tryz.ntmps83
  go_wp2_with fail
  go_loopw [1, 5] (fun kv i wr => ∃ k : Nat, k ≤ l.length ∧ i = .int .i64 k ∧ kv = .int .i64 ((k0 + cnt (l.take k) : Nat) : Int) ∧ OwnI wr base (.slice (some ⟨g, 0, none⟩) l.length cap) (markITo l k0 k) hs ∧ KeepB (.slice (some ⟨g, 0, none⟩) l.length cap) hs w wr) (fun _ i _ => l.length - (intOf i).toNat)
  case atStart => exact ⟨0, Nat.zero_le _, rfl, rfl, by rw [markITo_zero]; exact h, KeepB.refl _ _ _⟩
  case round =>
    obtain ⟨k, hk, rfl, rfl, hO, hB⟩ := hrel
    by_cases hlt : k < l.length
    · have hml := markITo_length l k0 k hk
      have hlen2 : k < (markITo l k0 k).length := by omega
      have hat : (markITo l k0 k)[k]? = some l[k] := by rw [List.getElem?_eq_getElem hlen2, markITo_at l k0 k hlt]
      have hset := markITo_set l k0 k hlt
      have hct := cnt_take l k hlt
      have hcl := cnt_take_le l (k + 1)
      have hki : (k : Int) < (l.length : Int) := by omega
      obtain ⟨c, hc⟩ : ∃ c, k0 + cnt (l.take k) = c := ⟨_, rfl⟩
      have hnext : k0 + cnt (l.take (k + 1)) = c + 2 + l[k].2.length := by omega
      rw [hc] at hset
      have hc2 : c + 2 + l[k].2.length ≤ 1099511627776 := by omega
      have hc1 : 1 ≤ c := by omega
      have hgl := (hO.row.lt g rfl).1
      obtain ⟨L, hL⟩ : ∃ L, markITo l k0 k = L := ⟨_, rfl⟩
      rw [hL] at hO hat hset hlen2
      have hat : L[k] = l[k] := by rw [List.getElem?_eq_getElem hlen2] at hat; exact Option.some.inj hat
      have HN := Hid.mk' hnext
      have HS := Hid.mk' hset
      have HLK := Hid.mk' hat
      have hkh : k < hs.length := by omega
      rw [hc]
      clear hnext hset hct hcl hL hc hml hat
      go_wp2_with fail
      refine (markTextI _ c _ (by show _ = _; omega) (by omega) (by omega)).mono ?_
      rintro e w1 ⟨rfl, hB1⟩
      have hO1 := hO.below hB1
      have d1 := (hO1.at k hlen2).1
      have f1 := hO1.frozen (k * 3)
      have R := hO1.setKey k hlen2 (markBytes c) (mark_max _)
      have hB2 := hB.below hB1
      have hB3 := hB2.grown R.2 (.inl rfl)
      have HR := Hid.mk' R.1
      clear R hO1 hO hB1 hB hB2
      go_wp2_with fail
      refine (markTextI _ (c + 1) _ (by show _ = _; omega) (by omega) (by omega)).mono ?_
      rintro e w2 ⟨rfl, hB4⟩
      have hO2 := HR.out.below hB4
      have hlen3 : k < (L.set k ((markBytes c, L[k].1.2), L[k].2)).length := by simpa using hlen2
      have d2 := (hO2.at k hlen3).2.1
      have f2 := hO2.frozen (k * 3 + 1)
      have R2 := hO2.setVal k hlen3 (markBytes (c + 1)) (mark_max _)
      simp only [List.getElem_set_self, List.set_set] at R2
      have hB5 := hB3.below hB4
      have hB6 := hB5.grown R2.2 (.inl rfl)
      have hlen4 : k < (L.set k ((markBytes c, markBytes (c + 1)), L[k].2)).length := by simpa using hlen2
      have d3 := (R2.1.at k hlen4).2.2
      have hPk := R2.1.paths k hlen4
      simp only [List.getElem_set_self] at hPk
      obtain ⟨yg, yn, yc, hy⟩ : ∃ yg yn yc, hs[k] = (yg, yn, yc) := ⟨_, _, _, rfl⟩
      simp only [hy] at hPk d3
      have HR2 := Hid.mk' R2.1
      have hpn := hPk.1
      have hpl : L[k].2.length = l[k].2.length := by rw [HLK.out]
      have HPk := Hid.mk' hPk
      have hyn : yn ≤ 1099511627776 := by omega
      have HYN : Hid (l[k].2.length = yn) := by show _ = _; omega
      have hc3 : c + 2 + yn ≤ 1099511627776 := by omega
      have HYK := Hid.mk' hy
      clear R2 hO2 hB4 hB3 hB5 HR d1 f1 hPk hpn hpl hy
      have HM := fun K (hK : Hid (K = ((c + 2 : Nat) : Int))) => markStringI yg yn yc (c + 2) base _ _ HPk.out (by omega) hc3 K hK
      have HMM := Hid.mk' HM
      clear HM
      go_wp2_with fail
      refine (HMM.out _ (by show _ = _; omega)).mono ?_
      rintro e w3 ⟨rfl, hP3, hG3⟩
      have hO3 := HR2.out.setPath k hlen4 (markS (c + 2) yn) (by simp only [HYK.out]; exact hP3) (by simp only [HYK.out]; exact hG3)
      simp only [List.getElem_set_self, List.set_set] at hO3
      rw [← HYN.out, HS.out] at hO3
      have hB7 := hB6.grown hG3 (.inr ⟨hs[k], List.getElem_mem _, by rw [HYK.out]⟩)
      have HO3 := Hid.mk' hO3
      clear hO3 hP3 hG3 HMM HPk HR2 d2 f2 d3 hB6
      go_wp2_with fail
      go_roundw
      case rel => exact ⟨k + 1, by omega, by go_num, by have h1 := HN.out; have h2 := HYN.out; refine val_int ?_; omega, HO3.out, hB7⟩
      case measure => simp [intOf]; omega
    · have e : k = l.length := by omega
      subst e
      rw [markITo_all] at hO
      have HO := Hid.mk' hO
      have HE : Hid (k0 + cnt (l.take l.length) = k0 + cnt l) := by show _ = _; rw [List.take_length]
      clear hO
      go_wp2_with fail
      go_ret
      exact ⟨ret_int (by rw [HE.out]), HO.out, hB⟩
end Go.Proofs.YteammdkipnfmnaaGreatDoor.range

namespace Go.Proofs.YteammdkipnfmnaaGreatDoor.bun
open Go Go.RowKit Go.Proofs.YteammdkipnfmnaaGreatDoor.base Go.Proofs.YteammdkipnfmnaaGreatDoor.pairs Go.Proofs.YteammdkipnfmnaaGreatDoor.lay Go.Proofs.YteammdkipnfmnaaGreatDoor.range Go.Proofs.YteammdkipnfmnaaGreatDoor.seals
set_option linter.unusedVariables false
set_option linter.unusedSimpArgs false

set_option maxRecDepth 100000 in
set_option maxHeartbeats 2000000 in
theorem eqProofsT (a a2 : Option Addr) (len cap cap2 : Nat) (l : List Pf) (w : World) (h : SlG proofR w a len l) (h2 : SlG proofR w a2 len l) :
    Calls Tryz.prog 44 #[.slice a len cap, .slice a2 len cap2] w fun e w' => e = .returned (.bool true) ∧ Below w.heap.size w w' := by
  have hl := h.1
  have hm := h.2.1
  unfold maxLen at hm
  have hb : ((len : Int) == (len : Int)) = true := by simp
  go_enter Tryz.func44, Tryz.ntmps44
  go_wp2_with fail
  go_loopw [5] (fun i wr => ∃ k : Nat, k ≤ len ∧ i = .int .i64 k ∧ Below w.heap.size w wr) (fun i _ => len - (intOf i).toNat)
  case atStart => exact ⟨0, Nat.zero_le _, rfl, Below.refl _ _⟩
  case round =>
    obtain ⟨k, hk, rfl, hB⟩ := hrel
    by_cases hlt : k < len
    · have hltl : k < l.length := by omega
      obtain ⟨b, off, e⟩ := slg_some h (by omega)
      obtain ⟨b2, off2, e2⟩ := slg_some h2 (by omega)
      subst e e2
      have hki : (k : Int) < (len : Int) := by omega
      obtain ⟨ra, rn, rc, c0, c1, c2, hS1, _⟩ := proof_at (h.below hB) k hltl
      obtain ⟨zra, zrn, zrc, d0, d1, d2, hS2, _⟩ := proof_at (h2.below hB) k hltl
      obtain rfl : rn = zrn := hS1.1.symm.trans hS2.1
      have o0 := last.On.cell (B := wr.heap.size) c0 (World.block_lt_of_cell? _ _ c0)
      have p0 := last.On.cell (B := wr.heap.size) d0 (World.block_lt_of_cell? _ _ d0)
      have o1 := last.On.cell (B := wr.heap.size) c1 (World.block_lt_of_cell? _ _ c1)
      have p1 := last.On.cell (B := wr.heap.size) d1 (World.block_lt_of_cell? _ _ d1)
      have o2 := last.On.cell (B := wr.heap.size) c2 (World.block_lt_of_cell? _ _ c2)
      have p2 := last.On.cell (B := wr.heap.size) d2 (World.block_lt_of_cell? _ _ d2)
      have hinh := last.On.inh wr.heap.size wr
      have hcall : ∀ x : last.On wr.heap.size wr, Calls Tryz.prog 82 #[.agg #[.int .i64 l[k].1, .int .i64 l[k].2.1, .slice ra rn rc], .agg #[.int .i64 l[k].1, .int .i64 l[k].2.1, .slice zra rn zrc]] x.w fun e w' => e = .returned (.bool true) ∧ ∃ y : last.On wr.heap.size wr, w' = y.w := fun x => last.Calls.on x (Nat.le_refl _) (eqProofT _ _ ra zra rn rc zrc l[k].2.2 x.w (hS1.below x.2) (hS2.below x.2))
      clear h h2 hS1 hS2
      generalize l[k] = p at *
      go_wp2_with fail
      refine last.wp_region_on wr.heap.size (by kernel_rfl) (by kernel_rfl) ?_
      repeat (go_big_quiet_step ((go_at_call 82; exact hcall _)))
      refine wpQuiet_nil ?_
      intro w5 hw5
      obtain ⟨x5, hw5⟩ := hw5
      subst hw5
      have hB5 : Below w.heap.size w x5.w := hB.trans (x5.2.mono hB.size)
      go_wp2_with fail
      go_roundw
      case rel => exact ⟨k + 1, by omega, by go_num, hB5⟩
      case measure => simp [intOf]; omega
    · have hnk : ¬ (k : Int) < (len : Int) := by omega
      go_wp2_with fail
      go_ret
      exact ⟨rfl, hB⟩
set_option maxRecDepth 100000 in
set_option maxHeartbeats 1000000 in
theorem eqBundleT (ra : Option Addr) (rn rc : Nat) (pa : Option Addr) (pn pc : Nat) (zra : Option Addr) (zrn zrc : Nat) (zpa : Option Addr) (zpn zpc : Nat) (x : Bun) (w : World) (h1 : SeeBu w ra rn rc pa pn pc x) (h2 : SeeBu w zra zrn zrc zpa zpn zpc x) :
    Calls Tryz.prog 13 #[.agg #[.int .i64 x.1, .string x.2.1, .slice ra rn rc, .slice pa pn pc], .agg #[.int .i64 x.1, .string x.2.1, .slice zra zrn zrc, .slice zpa zpn zpc]] w fun e w' => e = .returned (.bool true) ∧ Below w.heap.size w w' := by
  obtain rfl : pn = zpn := h1.proofs.1.symm.trans h2.proofs.1
  obtain ⟨W, hW⟩ : ∃ W, (w.alloc (.cells #[.int .i64 x.1, .string x.2.1, .slice ra rn rc, .slice pa pn pc] 27)).alloc (.cells #[.int .i64 x.1, .string x.2.1, .slice zra zrn zrc, .slice zpa pn zpc] 27) = W := ⟨_, rfl⟩
  have hB : Below w.heap.size w W := by rw [← hW]; exact below_two _ _ _
  have hx : BoxIn w.heap.size 27 [] [.int .i64 x.1, .string x.2.1, .slice ra rn rc, .slice pa pn pc] [] W := by rw [← hW]; exact (boxIn_new w _ _).below below_make
  have hy : BoxIn (w.heap.size + 1) 27 [] [.int .i64 x.1, .string x.2.1, .slice zra zrn zrc, .slice zpa pn zpc] [] W := by
    rw [← hW]
    have := boxIn_new (w.alloc (.cells #[.int .i64 x.1, .string x.2.1, .slice ra rn rc, .slice pa pn pc] 27)) [.int .i64 x.1, .string x.2.1, .slice zra zrn zrc, .slice zpa pn zpc] 27
    rwa [show (w.alloc (.cells #[.int .i64 x.1, .string x.2.1, .slice ra rn rc, .slice pa pn pc] 27)).heap.size = w.heap.size + 1 by simp] at this
  have hT := helps.eqStringS ra zra rn rc zrn zrc x.2.2.1 x.2.2.1 W (h1.roots.below hB) (h2.roots.below hB)
  rw [decide_eq_true rfl] at hT
  have H0 := Hid.mk' hT
  have H1 := Hid.mk' (fun wx (hb : Below W.heap.size W wx) => eqProofsT pa zpa pn pc zpc x.2.2.2 wx ((h1.proofs.below hB).below hb) ((h2.proofs.below hB).below hb))
  have HW := Hid.mk' hW
  have hn : (x.1 == x.1) = true := by simp
  have hp := str_same x.2.1
  obtain ⟨a0, a1, a2, a3⟩ := box4 hx
  obtain ⟨b0, b1, b2, b3⟩ := box4 hy
  rw [← hW] at a0 a1 a2 a3 b0 b1 b2 b3
  clear hW h1 h2 hT
  go_enter Tryz.func13, Tryz.ntmps13
  go_wp2_with fail
  rw [HW.out]
  refine H0.out.mono ?_
  rintro e w1 ⟨rfl, n, rfl⟩
  have hb1 : Below W.heap.size W (W.drewN n) := below_drewN (Below.refl _ _) n
  clear a0 a1 a2 a3 b0 b1 b2 b3 H0 HW
  obtain ⟨a0, a1, a2, a3⟩ := box4 (hx.below hb1)
  obtain ⟨b0, b1, b2, b3⟩ := box4 (hy.below hb1)
  go_wp2_with fail
  refine (H1.out _ hb1).mono ?_
  rintro e w2 ⟨rfl, hb2⟩
  have hb3 := hb1.trans (hb2.mono hb1.size)
  go_wp2_with fail
  go_ret
  exact ⟨rfl, hB.trans (hb3.mono hB.size)⟩
end Go.Proofs.YteammdkipnfmnaaGreatDoor.bun

namespace Go.Proofs.YteammdkipnfmnaaGreatDoor.range
open Go Go.RowKit Go.Proofs.YteammdkipnfmnaaGreatDoor.base Go.Proofs.YteammdkipnfmnaaGreatDoor.pairs Go.Proofs.YteammdkipnfmnaaGreatDoor.tree Go.Proofs.YteammdkipnfmnaaGreatDoor.helps
set_option linter.unusedVariables false
set_option linter.unusedSimpArgs false

theorem infoIt : (Tryz.prog.info? 107).map (fun i => (i.zero, i.size, i.bytes)) = some (some (.agg #[.string ⟨#[]⟩, .string ⟨#[]⟩, .slice none 0 0]), 3, 56) := by kernel_rfl
theorem v3_new (w : World) (t : TypeId) (x y z : Value) : V3 (w.alloc (.cells #[x, y, z] t)) w.heap.size t x y z := heap_alloc_new w _
theorem v3_alloc {w : World} {g : Nat} {t : TypeId} {x y z : Value} (h : V3 w g t x y z) (o : Obj) : V3 (w.alloc o) g t x y z := h.below ((Below.refl _ _).alloc (Nat.le_refl _) _)
theorem v3_new1 (w : World) (o : Obj) (t : TypeId) (x y z : Value) : V3 ((w.alloc o).alloc (.cells #[x, y, z] t)) (w.heap.size + 1) t x y z := by
  have := v3_new (w.alloc o) t x y z
  have e : (w.alloc o).heap.size = w.heap.size + 1 := by simp
  rw [e] at this; exact this
theorem v3_new2 (w : World) (o o2 : Obj) (t : TypeId) (x y z : Value) : V3 (((w.alloc o).alloc o2).alloc (.cells #[x, y, z] t)) (w.heap.size + 2) t x y z := by
  have := v3_new1 (w.alloc o) o2 t x y z
  have e : (w.alloc o).heap.size = w.heap.size + 1 := by simp
  rw [e] at this; exact this
section
variable {w : World} {g g2 : Nat} {t : TypeId} {x y z : Value}
theorem V3.set0 (h : V3 w g t x y z) (v : Value) : V3 (w.setCell ⟨g, 0, none⟩ v) g t v y z := (set_cur h 0 v).1
theorem V3.set1 (h : V3 w g t x y z) (v : Value) : V3 (w.setCell ⟨g, 1, none⟩ v) g t x v z := (set_cur h 1 v).1
theorem V3.set2 (h : V3 w g t x y z) (v : Value) : V3 (w.setCell ⟨g, 2, none⟩ v) g t x y v := (set_cur h 2 v).1
theorem V3.other (h : V3 w g t x y z) (j : Nat) (v : Value) (hne : g ≠ g2) : V3 (w.setCell ⟨g2, j, none⟩ v) g t x y z := (heap_setCell_other w ⟨g2, j, none⟩ g v hne).trans h
theorem V3.fz (h : V3 w g t x y z) (j : Nat) : w.frozen? ⟨g, j, none⟩ = false := by unfold V3 at h; simp [World.frozen?, h]
end
theorem ownS_other {w : World} {base g g2 n cap j : Nat} {ss : List ByteArray} {v : Value} (h : OwnS w base g n cap ss) (hne : g ≠ g2) : OwnS (w.setCell ⟨g2, j, none⟩ v) base g n cap ss :=
  ownS_of_block h (heap_setCell_other w ⟨g2, j, none⟩ g v hne)

set_option maxRecDepth 100000 in
set_option maxHeartbeats 2000000 in
theorem toItem (x : It) (pa : Option Addr) (pl pc : Nat) (w : World) (h : SlS w pa pl x.2) (hsz : pl ≤ 1099511627776) :
    Calls Tryz.prog 132 #[.agg #[.string x.1.1, .string x.1.2, .slice pa pl pc]] w fun e w' =>
      ∃ g, e = .returned (.agg #[.string x.1.1, .string x.1.2, .slice (some ⟨g, 0, none⟩) pl pl]) ∧ OwnS w' w.heap.size g pl pl x.2 ∧ Below w.heap.size w w' := by
  obtain ⟨W, hW⟩ : ∃ W, ((w.alloc (.cells #[.string x.1.1, .string x.1.2, .slice pa pl pc] 168)).alloc (.cells #[.string ⟨#[]⟩, .string ⟨#[]⟩, .slice none 0 0] 107)).alloc (.cells #[.string ⟨#[]⟩, .string ⟨#[]⟩, .slice none 0 0] 107) = W := ⟨_, rfl⟩
  have hB : Below w.heap.size w W := by rw [← hW]; exact (((Below.refl _ _).alloc (Nat.le_refl _) _).alloc (by simp) _).alloc (by simp; omega) _
  have v0 : V3 W w.heap.size 168 (.string x.1.1) (.string x.1.2) (.slice pa pl pc) := by
    rw [← hW]; exact v3_alloc (v3_alloc (v3_new w _ _ _ _) _) _
  have v1 : V3 W (w.heap.size + 1) 107 (.string ⟨#[]⟩) (.string ⟨#[]⟩) (.slice none 0 0) := by
    rw [← hW]; exact v3_alloc (v3_new1 w _ _ _ _ _) _
  have v2 : V3 W (w.heap.size + 2) 107 (.string ⟨#[]⟩) (.string ⟨#[]⟩) (.slice none 0 0) := by
    rw [← hW]; exact v3_new2 w _ _ _ _ _ _
  have HW := Hid.mk' hW
  have HP := Hid.mk' (toPair x.1.1 x.1.2 W)
  clear hW
  go_enter Tryz.func132, Tryz.ntmps132
  go_wp2_with fail
  rw [HW.out]
  refine HP.out.mono ?_
  rintro e w1 ⟨rfl, hb1⟩
  have u0 := v0.below hb1
  have u1 := v1.below hb1
  have u2 := v2.below hb1
  have hB1 := hB.trans (hb1.mono hB.size)
  have m0 := u2.c0
  have m1 := u2.c1
  have f0 := u2.fz 0
  have f1 := u2.fz 1
  have t0 := (u0.other 0 (.string x.1.1) (show w.heap.size ≠ w.heap.size + 2 by omega)).other 1 (.string x.1.2) (show w.heap.size ≠ w.heap.size + 2 by omega)
  have t1 := (u1.other 0 (.string x.1.1) (show w.heap.size + 1 ≠ w.heap.size + 2 by omega)).other 1 (.string x.1.2) (show w.heap.size + 1 ≠ w.heap.size + 2 by omega)
  have t2 := (u2.set0 (.string x.1.1)).set1 (.string x.1.2)
  have hB2 := (hB1.setCell (p := ⟨w.heap.size + 2, 0, none⟩) (by show w.heap.size ≤ w.heap.size + 2; omega) (.string x.1.1)).setCell (p := ⟨w.heap.size + 2, 1, none⟩) (by show w.heap.size ≤ w.heap.size + 2; omega) (.string x.1.2)
  have s2 := t0.c2
  have HTS := Hid.mk' (toStringS pa pl pc x.2 _ (h.below hB2) hsz)
  have H0 := Hid.mk' t0
  have H1 := Hid.mk' t1
  have H2 := Hid.mk' t2
  clear v0 v1 v2 u0 u1 u2 t0 t1 t2 hb1 hB HW HP hB1
  go_wp2_with fail
  refine HTS.out.mono ?_
  rintro e w2 ⟨g, rfl, hO, hb2⟩
  have r1 := H1.out.below hb2
  have r2 := H2.out.below hb2
  have hB3 := hB2.trans (hb2.mono hB2.size)
  have n2 := r2.c2
  have g2 := r2.fz 2
  have y2 := r2.set2 (.slice (some ⟨g, 0, none⟩) pl pl)
  have y1 := r1.other 2 (.slice (some ⟨g, 0, none⟩) pl pl) (show w.heap.size + 1 ≠ w.heap.size + 2 by omega)
  have a0 := y2.c0
  have a1 := y2.c1
  have a2 := y2.c2
  have b0 := y1.c0
  have b1 := y1.c1
  have b2 := y1.c2
  have k0 := y1.fz 0
  have k1 := y1.fz 1
  have k2 := y1.fz 2
  have hgl : w.heap.size + 2 < g := by
    have h1 := hO.lt.1
    have h2 := H2.out.lt
    omega
  have hOz := ownS_other (g2 := w.heap.size + 1) (j := 2) (v := .slice (some ⟨g, 0, none⟩) pl pl) (ownS_other (g2 := w.heap.size + 1) (j := 1) (v := .string x.1.2) (ownS_other (g2 := w.heap.size + 1) (j := 0) (v := .string x.1.1) (ownS_other (g2 := w.heap.size + 2) (j := 2) (v := .slice (some ⟨g, 0, none⟩) pl pl) (hO.mono (base' := w.heap.size) hB2.size) (by omega)) (by omega)) (by omega)) (by omega)
  have hBz := (((hB3.setCell (p := ⟨w.heap.size + 2, 2, none⟩) (by show w.heap.size ≤ w.heap.size + 2; omega) (.slice (some ⟨g, 0, none⟩) pl pl)).setCell (p := ⟨w.heap.size + 1, 0, none⟩) (by show w.heap.size ≤ w.heap.size + 1; omega) (.string x.1.1)).setCell (p := ⟨w.heap.size + 1, 1, none⟩) (by show w.heap.size ≤ w.heap.size + 1; omega) (.string x.1.2)).setCell (p := ⟨w.heap.size + 1, 2, none⟩) (by show w.heap.size ≤ w.heap.size + 1; omega) (.slice (some ⟨g, 0, none⟩) pl pl)
  have HOZ := Hid.mk' hOz
  have HBZ := Hid.mk' hBz
  have z1 := ((y1.set0 (.string x.1.1)).set1 (.string x.1.2)).set2 (.slice (some ⟨g, 0, none⟩) pl pl)
  have e0 := z1.c0
  have e1 := z1.c1
  have e2 := z1.c2
  clear r1 r2 y1 y2 z1 H0 H1 H2 HTS hOz hBz hO hb2 hB3 hB2 m0 m1 f0 f1 s2
  go_wp2_with fail
  refine bodyPost_ret (v := .agg #[.string x.1.1, .string x.1.2, .slice (some ⟨g, 0, none⟩) pl pl]) ?h1 rfl ⟨g, rfl, HOZ.out, HBZ.out⟩
  simp [results, Tryz.results132, go_sem, e0, e1, e2, a0, a1, a2, b0, b1, b2]
end Go.Proofs.YteammdkipnfmnaaGreatDoor.range

namespace Go.Proofs.YteammdkipnfmnaaGreatDoor.range
open Go Go.RowKit Go.Proofs.YteammdkipnfmnaaGreatDoor.base Go.Proofs.YteammdkipnfmnaaGreatDoor.pairs Go.Proofs.YteammdkipnfmnaaGreatDoor.tree Go.Proofs.YteammdkipnfmnaaGreatDoor.helps
set_option linter.unusedVariables false
set_option linter.unusedSimpArgs false

theorem take_set3 (v : List Value) (i : Nat) (a b c : Value) (h : i + 3 ≤ v.length) : (((v.set i a).set (i + 1) b).set (i + 2) c).take (i + 3) = v.take i ++ [a, b, c] := by
  apply List.ext_getElem?
  intro j
  rw [List.getElem?_take, List.getElem?_append]
  have hl : (v.take i).length = i := by simp; omega
  rw [hl]
  by_cases h1 : j < i
  · rw [if_pos (by omega), if_pos h1, List.getElem?_take, if_pos h1, List.getElem?_set_ne (by omega), List.getElem?_set_ne (by omega), List.getElem?_set_ne (by omega)]
  rw [if_neg h1]
  by_cases h2 : j = i
  · subst h2
    rw [if_pos (by omega), List.getElem?_set_ne (by omega), List.getElem?_set_ne (by omega), List.getElem?_set_self (by omega)]; simp
  by_cases h3 : j = i + 1
  · subst h3
    rw [if_pos (by omega), List.getElem?_set_ne (by omega), List.getElem?_set_self (by simp; omega), show i + 1 - i = 1 by omega]; rfl
  by_cases h4 : j = i + 2
  · subst h4
    rw [if_pos (by omega), List.getElem?_set_self (by simp; omega), show i + 2 - i = 2 by omega]; rfl
  · rw [if_neg (by omega), List.getElem?_eq_none]; simp; omega

structure PartI (w : World) (base g n : Nat) (vals : List Value) (L : List It) (hs : List Hd) : Prop where
  len : hs.length = L.length
  sm : ∀ x ∈ L, smallI x
  row : w.ownsRow base 107 3 (.slice (some ⟨g, 0, none⟩) n n) n vals
  tk : vals.take (L.length * 3) = itVals L hs
  paths : ∀ i (h : i < L.length), OwnS w base (hs[i]'(by omega)).1 (hs[i]'(by omega)).2.1 (hs[i]'(by omega)).2.2 L[i].2
  apart : hs.Pairwise fun a b => a.1 ≠ b.1
section
variable {w w2 : World} {base g n : Nat} {vals : List Value} {L : List It} {hs : List Hd}
theorem PartI.own (h : PartI w base g n vals L hs) (hn : L.length = n) : OwnI w base (.slice (some ⟨g, 0, none⟩) n n) L hs := by
  subst hn
  have hv : vals = itVals L hs := by rw [← h.tk, List.take_of_length_le (by rw [h.row.1]; omega)]
  refine ⟨h.len, h.sm, by rw [← hv]; exact h.row, h.paths, h.apart, fun k hk y hy e => ?_⟩
  obtain ⟨i, hi, rfl⟩ := List.getElem_of_mem hy
  have hS := h.paths i (by have := h.len; omega)
  exact row_ne h.row hS.2.2 hk (by rw [← e]; rfl) (by decide)
theorem PartI.step {p : Pr} {P : List ByteArray} {g5 n5 c5 : Nat} (h : PartI w base g n vals L hs) (hb : Below w.heap.size w w2) (hP : OwnS w2 base g5 n5 c5 P) (hg5 : w.heap.size ≤ g5) (hp : small p) (hL : L.length < n) :
    ∃ vals', PartI (((w2.setCell ⟨g, L.length * 3, none⟩ (.string p.1)).setCell ⟨g, L.length * 3 + 1, none⟩ (.string p.2)).setCell ⟨g, L.length * 3 + 2, none⟩ (.slice (some ⟨g5, 0, none⟩) n5 c5)) base g n vals' (L ++ [(p, P)]) (hs ++ [(g5, n5, c5)]) ∧
      w2.grownBy (((w2.setCell ⟨g, L.length * 3, none⟩ (.string p.1)).setCell ⟨g, L.length * 3 + 1, none⟩ (.string p.2)).setCell ⟨g, L.length * 3 + 2, none⟩ (.slice (some ⟨g5, 0, none⟩) n5 c5)) (some g) := by
  have hlen := h.len
  have hr2 : w2.ownsRow base 107 3 (.slice (some ⟨g, 0, none⟩) n n) n vals := row_of_block h.row (fun k e => by cases e; exact hb.block g (h.row.lt g rfl).2)
  have s1 := hr2.stored (L.length * 3) (.string p.1)
  have s2 := s1.1.stored (L.length * 3 + 1) (.string p.2)
  have s3 := s2.1.stored (L.length * 3 + 2) (.slice (some ⟨g5, 0, none⟩) n5 c5)
  have hgr := grownBy_trans (grownBy_trans s1.2 s2.2) s3.2
  have hgl := (h.row.lt g rfl).2
  have hps0 : ∀ i (hi : i < L.length), OwnS w2 base (hs[i]'(by omega)).1 (hs[i]'(by omega)).2.1 (hs[i]'(by omega)).2.2 L[i].2 := fun i hi => (h.paths i hi).below hb
  have hne : ∀ {g' m c : Nat} {ss : List ByteArray}, OwnS w2 base g' m c ss → some g' ≠ some g := fun hS e => by
    cases e
    exact row_ne hr2 hS.2.2 rfl rfl (by decide)
  refine ⟨_, ⟨by simp [hlen], fun x hx => ?_, s3.1, ?_, fun i hi => ?_, ?_⟩, hgr⟩
  · rcases List.mem_append.1 hx with h1 | h1
    · exact h.sm x h1
    · rw [List.mem_singleton.1 h1]; exact ⟨hp, hP.2.1⟩
  · rw [itVals_snoc L hs hlen, ← h.tk, List.length_append, List.length_singleton, show (L.length + 1) * 3 = L.length * 3 + 3 by omega]
    exact take_set3 vals (L.length * 3) _ _ _ (by rw [h.row.1]; omega)
  · by_cases e : i < L.length
    · rw [List.getElem_append_left e]
      simp only [List.getElem_append_left (show i < hs.length by omega)]
      exact (hps0 i e).grown hgr (hne (hps0 i e))
    · have : i = L.length := by simp at hi; omega
      subst this
      rw [List.getElem_append_right (Nat.le_refl _)]
      simp only [List.getElem_append_right (show hs.length ≤ L.length by omega)]
      simp only [hlen, Nat.sub_self, List.getElem_cons_zero]
      exact hP.grown hgr (hne hP)
  · rw [List.pairwise_append]
    refine ⟨h.apart, List.pairwise_singleton _ _, fun a ha y hy => ?_⟩
    rw [List.mem_singleton.1 hy]
    obtain ⟨i, hi, rfl⟩ := List.getElem_of_mem ha
    have := (h.paths i (by omega)).lt.2
    show (hs[i]).1 ≠ g5
    omega
end

set_option maxRecDepth 100000 in
set_option maxHeartbeats 2000000 in
theorem toItemS (a : Option Addr) (len cap : Nat) (l : List It) (w : World) (h : SlI w a len l) (hsz : len ≤ 1099511627776) (hps : ∀ x ∈ l, x.2.length ≤ 1099511627776) :
    Calls Tryz.prog 113 #[.slice a len cap] w fun e w' => ∃ g hs, e = .returned (.slice (some ⟨g, 0, none⟩) len len) ∧ OwnI w' w.heap.size (.slice (some ⟨g, 0, none⟩) len len) l hs ∧ Below w.heap.size w w' := by
  obtain ⟨hl, hm, hsm, hc⟩ := id h
  subst hl
  obtain ⟨i0, hif, hz0, hz1, hz2⟩ := info_parts infoIt
  go_enter Tryz.func113, Tryz.ntmps113
  go_wp2_with (at_make; refine wpList_make_full _ rfl _ _ 62 rfl w.heap.size 107 i0 (.agg #[.string ⟨#[]⟩, .string ⟨#[]⟩, .slice none 0 0]) 3 Tryz.underlying62 hif hz0 hz1 _ _ _ _ l.length rfl rfl rfl rfl ?b2 ?b3 ?b4 ?_)
  case b2 => rw [hz2]; omega
  case b3 => exact hm
  case b4 => exact Nat.le_refl _
  intro w1 hown hgrow
  have hbel : Below w.heap.size w w1 := (Below.refl _ _).grown hgrow (Nat.le_refl _) (fun k e => by cases e)
  have hP0 : PartI w1 w.heap.size w.heap.size l.length _ [] [] := ⟨rfl, (fun _ h => absurd h List.not_mem_nil), hown, rfl, fun i hi => absurd hi (by simp), List.Pairwise.nil⟩
  clear hgrow hif hz0 hz1 hz2
  go_wp2_with fail
  go_loopw [4] (fun i wr => ∃ (k : Nat) (vals : List Value) (hs : List Hd), k ≤ l.length ∧ i = .int .i64 k ∧ PartI wr w.heap.size w.heap.size l.length vals (l.take k) hs ∧ Below w.heap.size w wr) (fun i _ => l.length - (intOf i).toNat)
  case atStart => exact ⟨0, _, [], Nat.zero_le _, rfl, hP0, hbel⟩
  case round =>
    clear hP0 hbel hown
    obtain ⟨k, vals, hs, hk, rfl, hP, hB⟩ := hrel
    by_cases hlt : k < l.length
    · obtain ⟨b, off, ha⟩ : ∃ b off, a = some ⟨b, off, none⟩ := by
        obtain ⟨b, off, ha, _⟩ := hc (by omega)
        exact ⟨b, off, ha⟩
      subst ha
      obtain ⟨c1, c2, pa, pl, pc, c3, hS, _⟩ := (h.at k hlt).below hB
      have hpk := hsm l[k] (List.getElem_mem hlt)
      have hpn := hps l[k] (List.getElem_mem hlt)
      have hpl := hS.1
      have hki : (k : Int) < (l.length : Int) := by omega
      have htl : (l.take k).length = k := by simp; omega
      have htk : l.take (k + 1) = l.take k ++ [l[k]] := List.take_succ_eq_append_getElem hlt
      have HTI := Hid.mk' (toItem l[k] pa pl pc wr hS (by omega))
      have HTK := Hid.mk' htk
      have HP := Hid.mk' hP
      obtain ⟨x, hx⟩ : ∃ x, l[k] = x := ⟨_, rfl⟩
      simp only [hx] at HTI c1 c2 hpk HTK
      clear hc hsm hps h hS hpl hpn htk hP hx
      go_wp2_with fail
      refine HTI.out.mono ?_
      rintro e w2 ⟨g5, rfl, hO5, hB2⟩
      have hB3 := hB.trans (hB2.mono hB.size)
      obtain ⟨vals', hP2, hG2⟩ := HP.out.step hB2 (hO5.mono (base' := w.heap.size) hB.size) hO5.lt.1 hpk.1 (by omega)
      rw [← HTK.out, htl] at hP2
      rw [htl] at hG2
      have hr2 : w2.ownsRow w.heap.size 107 3 (.slice (some ⟨w.heap.size, 0, none⟩) l.length l.length) l.length vals := row_of_block HP.out.row (fun j e => by cases e; exact hB2.block _ (HP.out.row.lt _ rfl).2)
      have hvl := hr2.1
      have d0 := hr2.cellAt (k * 3) (by omega)
      have d1 := hr2.cellAt (k * 3 + 1) (by omega)
      have d2 := hr2.cellAt (k * 3 + 2) (by omega)
      rw [List.getElem?_eq_getElem (by omega)] at d0 d1 d2
      have f0 := hr2.frozenAt (k * 3)
      have f1 := hr2.frozenAt (k * 3 + 1)
      have f2 := hr2.frozenAt (k * 3 + 2)
      generalize vals[k * 3] = z0 at *
      generalize vals[k * 3 + 1] = z1 at *
      generalize vals[k * 3 + 2] = z2 at *
      have HP2 := Hid.mk' hP2
      have HB4 := Hid.mk' (hB3.trans (below_grown hG2 (Nat.le_refl _) hB3.size))
      clear hP2 hG2 hr2 hO5 hB2 hB3 HP HTI c1 c2 c3
      go_wp2_with fail
      go_roundw
      case rel => exact ⟨k + 1, vals', _, by omega, by go_num, HP2.out, HB4.out⟩
      case measure => simp [intOf]; omega
    · have hkl : k = l.length := by omega
      subst hkl
      rw [List.take_length] at hP
      have HO := Hid.mk' (hP.own rfl)
      clear hP
      go_wp2_with fail
      go_ret
      exact ⟨_, hs, rfl, HO.out, hB⟩
end Go.Proofs.YteammdkipnfmnaaGreatDoor.range
