/- What the law on words draws; words that are alike. -/
import Derived.Test.YtjodbijcgcjndaaBund10bd
import Derived.Test.YtjodbijcgcjndaaBund10ax
namespace Go.Proofs.Ytjodbijcgcjndaa.wds
open Go Go.RowKit Go.Proofs.Ytjodbijcgcjndaa.base Go.Proofs.Ytjodbijcgcjndaa.pairs Go.Proofs.Ytjodbijcgcjndaa.draw Go.Proofs.Ytjodbijcgcjndaa.ords
set_option linter.unusedVariables false
set_option linter.unusedSimpArgs false

theorem putWord_small (d : Wd) : (putWord d).length ≤ 420 := by
  unfold putWord
  split
  · exact wordBytes_small d
  · simp
theorem putWord_pos {d : Wd} (h : wordOk d = true) : 1 ≤ (putWord d).length := by
  unfold putWord wordBytes
  rw [if_pos h, List.length_append]
  have := headB_length d.1 d.2.1 d.2.2.1 d.2.2.2.2
  omega
def GotBW (w : World) (e : Ending) (w' : World) : Prop :=
  ∃ (g n cp : Nat) (bs : List UInt8), n ≤ 420 ∧ n ≤ cp ∧ e = .returned (.slice (some ⟨g, 0, none⟩) n cp) ∧ Sl w' (some ⟨g, 0, none⟩) n bs ∧ Below w.heap.size w w'
set_option maxRecDepth 100000 in
set_option maxHeartbeats 1000000 in
theorem drawPutWord (a : Option Addr) (len cap : Nat) (code : List UInt8) (w : World) (h : Sl w a len code) (hln : len ≤ 1099511627776) :
    Calls Try.prog 8 #[.slice a len cap] w fun e w' => GotPW w e w' := by
  obtain ⟨wa, hwa⟩ : ∃ wa, w.alloc (.cells #[.int .i64 0, .int .i64 0, .int .i64 0, .slice none 0 0, .bool false] 26) = wa := ⟨_, rfl⟩
  have hba : Below w.heap.size w wa := by rw [← hwa]; exact (Below.refl _ _).alloc (Nat.le_refl _) _
  have hRa : V5 wa w.heap.size 26 (.int .i64 0) (.int .i64 0) (.int .i64 0) (.slice none 0 0) (.bool false) := by rw [← hwa]; exact heap_alloc_new w _
  have HWA := Hid.mk' hwa
  clear hwa
  go_enter Try.func8, Try.ntmps8
  go_wp2_with fail
  rw [HWA.out]
  clear HWA
  refine (new_ w wa a len cap code h hba hln).mono ?_
  rintro e w1 ⟨rfl, hC1, hB1⟩
  have hR1 := hRa.below hB1
  have hRl := hRa.lt
  go_wp2_with fail
  refine (d_anyW w _ _ a len cap code hC1).mono ?_
  rintro e w2 ⟨k, s, t, l, y, v, ht, rfl, hO2, hC2, hG2⟩
  have hR2 := v5_grown hR1 hG2 (by simp; omega)
  have HT := Hid.mk' ht
  have hfin := v5_all hR2 (.int .i64 k) (.int .i64 s) (.int .i64 t) v (.bool y)
  have hB2 := hC2.bel
  have hs1 := hB1.size
  have hl2 : ∀ g, v.ownBlock = some g → w1.heap.size ≤ g := fun g e => (hO2.lt g e).1
  have HOz : Hid (OwnV (put5 w2 w.heap.size (.int .i64 k) (.int .i64 s) (.int .i64 t) v (.bool y)) w.heap.size v l) := by
    refine (hO2.grown hfin.2 ?_).mono (base' := w.heap.size) (by omega)
    cases hv : v.ownBlock with
    | none => exact .inl rfl
    | some k => exact .inr (by have := hl2 k hv; simp; omega)
  have HBz := Hid.mk' (hB2.grown hfin.2 hB2.size (fun j e => by cases e; exact Nat.le_refl _))
  have HVz := Hid.mk' hfin.1
  obtain ⟨pa, pc, hv, _, _⟩ := hO2.sl
  obtain ⟨n, hn⟩ : ∃ n, l.length = n := ⟨_, rfl⟩
  rw [hn] at hv
  subst hv
  have r0 := hR2.c0
  have r1 := hR2.c1
  have r2 := hR2.c2
  have r3 := hR2.c3
  have r4 := hR2.c4
  have q0 := v5_fz hR2 0
  have q1 := v5_fz hR2 1
  have q2 := v5_fz hR2 2
  have q3 := v5_fz hR2 3
  have q4 := v5_fz hR2 4
  clear ht hfin hO2 hC2 hG2 hR2 hR1 hRa hB2 hl2 hC1 hB1
  go_wp2_with fail
  refine bodyPost_ret (v := .agg #[.int .i64 k, .int .i64 s, .int .i64 t, .slice pa n pc, .bool y]) ?_ rfl ⟨k, s, t, l, y, _, HT.out, rfl, HOz.out, HBz.out⟩
  simp [results, Try.results8, go_sem, HVz.out.c0, HVz.out.c1, HVz.out.c2, HVz.out.c3, HVz.out.c4]
set_option maxRecDepth 100000 in
set_option maxHeartbeats 2000000 in
theorem drawGetWord (a : Option Addr) (len cap : Nat) (code : List UInt8) (w : World) (h : Sl w a len code) (hln : len ≤ 1099511627776) :
    Calls Try.prog 10 #[.slice a len cap] w fun e w' => GotBW w e w' := by
  go_enter Try.func10, Try.ntmps10
  go_wp2_with fail
  refine (new_ w w a len cap code h (Below.refl _ _) hln).mono ?_
  rintro e w1 ⟨rfl, hC1, hB1⟩
  go_wp2_with fail
  refine (d_word w _ _ a len cap code hC1).mono ?_
  rintro e w2 ⟨k, s, t, l, y, v, hok, rfl, hO2, hC2, hG2⟩
  have hlen := putWord_small (k, s, t, l, y)
  have hpos := putWord_pos hok
  obtain ⟨pa, pc, rfl, hSL, _⟩ := hO2.sl
  have HP := Hid.mk' (spec_putWord k s t pa l.length pc l y w2 hSL (wordOk_keys hok))
  have hlt1 := hC1.lt
  have hlt2 := hC2.lt
  generalize putWord (k, s, t, l, y) = bs at *
  clear hok hO2 hG2 hSL
  go_wp2_with fail
  refine HP.out.mono ?_
  rintro e w3 ⟨g3, n3, cp3, rfl, hO3, hb3⟩
  have hC3 := hC2.below hb3
  have hn3 := hO3.1
  have hgg3 := hO3.lt
  have hmx := hO3.max
  unfold maxLen at hmx
  clear HP hb3
  subst hn3
  go_wp2_with fail
  refine (below_ w _ _ a len cap code _ hC3 (by omega) (by omega)).mono ?_
  rintro e w4 ⟨x, hx, rfl, hC4, hG4⟩
  have hO4 := hO3.grown hG4 (by simp; omega)
  clear hO3 hG4 hC3
  by_cases x0 : x = 0
  · subst x0
    go_wp2_with fail
    refine (below_ w _ _ a len cap code _ hC4 (by omega) (by omega)).mono ?_
    rintro e w5 ⟨y, hy, rfl, hC5, hG5⟩
    have hO5 := hO4.grown hG5 (by simp; omega)
    have hlt5 := hC5.lt
    clear hO4 hG5 hC4
    go_wp2_with fail
    refine (int_ w _ _ a len cap code w5.heap.size 5 5 _ _ (hC5.below ((Below.refl _ _).alloc (Nat.le_refl _) _)) (heap_alloc_new w5 _) rfl (by omega) (by omega) (by omega) (fun z => decide (0 ≤ z ∧ z ≤ 255) = true) (some_atI _ 5 (fun z => decide (0 ≤ z ∧ z ≤ 255)) (by kernel_rfl))).mono ?_
    rintro e w6 ⟨z, hz, rfl, hC6, hG6⟩
    have hz' := of_decide_eq_true hz
    obtain ⟨u, hu⟩ : ∃ u : UInt8, z = (u.toNat : Int) := ⟨UInt8.ofNat z.toNat, by rw [byte_of]; omega⟩
    have hO6 := (hO5.below ((Below.refl _ _).alloc (Nat.le_refl _) _)).grown hG6 (by simp; omega)
    have hyl : y < bs.length := by omega
    have c1 := hO6.at y hyl
    have f1 := hO6.frozen y
    obtain ⟨R1, R2⟩ := own_set hO6 y u
    have hgg6 := hO6.lt
    have hC7 : Cur w (w6.setCell ⟨g3, y, none⟩ (.int .u8 u.toNat)) w.heap.size a len cap code := hC6.grown R2 (by simp; omega) (fun k e => by cases e; omega)
    have HS := Hid.mk' R1.sl
    have HB := Hid.mk' hC7.bel
    have hu2 := u.toNat_lt
    clear R1 R2 hC7 hC6 hO6 hO5 hC5 hG6 hz hz'
    subst hu
    go_wp2_with fail
    go_ret
    exact ⟨g3, bs.length, cp3, _, by omega, by omega, rfl, HS.out, HB.out⟩
  by_cases x1 : x = 1
  · subst x1
    go_wp2_with fail
    refine (below_ w _ _ a len cap code _ hC4 (by omega) (by omega)).mono ?_
    rintro e w5 ⟨y, hy, rfl, hC5, hG5⟩
    have hO5 := hO4.grown hG5 (by simp; omega)
    have hS5 := ords.Sl.cut hO5.sl (by omega : y ≤ bs.length)
    have HS := Hid.mk' hS5
    clear hO4 hO5 hG5 hC4 hS5
    go_wp2_with fail
    go_ret
    exact ⟨g3, y, cp3, _, by omega, by omega, rfl, HS.out, hC5.bel⟩
  · have e0 : ((x : Int) == 0) = false := by simp; omega
    have e1 : ((x : Int) == 1) = false := by simp; omega
    go_wp2_with fail
    go_ret
    exact ⟨g3, bs.length, cp3, bs, by omega, by omega, rfl, hO4.sl, hC4.bel⟩
set_option maxRecDepth 100000 in
set_option maxHeartbeats 1000000 in
theorem sameWordT (k s t : Int) (y : Bool) (pa qa : Option Addr) (pl pc ql qc : Nat) (l : List Od) (w : World) (hx : SlO w pa pl l) (hy : SlO w qa ql l) :
    Calls Try.prog 16 #[.agg #[.int .i64 k, .int .i64 s, .int .i64 t, .slice pa pl pc, .bool y], .agg #[.int .i64 k, .int .i64 s, .int .i64 t, .slice qa ql qc, .bool y]] w fun e w' => e = .returned (.bool true) ∧ Below w.heap.size w w' := by
  obtain ⟨W, hW⟩ : ∃ W, (w.alloc (.cells #[.int .i64 k, .int .i64 s, .int .i64 t, .slice pa pl pc, .bool y] 26)).alloc (.cells #[.int .i64 k, .int .i64 s, .int .i64 t, .slice qa ql qc, .bool y] 26) = W := ⟨_, rfl⟩
  have hB : Below w.heap.size w W := by rw [← hW]; exact ((Below.refl _ _).alloc (Nat.le_refl _) _).alloc (by simp) _
  have HE := Hid.mk' (sameOps pa qa pl pc ql qc l l W (hx.below hB) (hy.below hB))
  rw [decide_eq_true rfl] at HE
  have HW := Hid.mk' hW
  clear hW
  cases y
  all_goals
    have hn1 : (k == k) = true := by simp
    have hn2 : (s == s) = true := by simp
    have hn3 : (t == t) = true := by simp
    go_enter Try.func16, Try.ntmps16
    go_wp2_with fail
    rw [HW.out]
    refine HE.out.mono ?_
    rintro e w1 ⟨rfl, kq, hw1⟩
    have hB1 : Below w.heap.size w w1 := by rw [hw1]; exact below_drewN hB _
    clear HE HW hw1
    go_wp2_with fail
    go_ret
    exact ⟨rfl, hB1⟩
end Go.Proofs.Ytjodbijcgcjndaa.wds
