/- The draws of those who decide, as the laws call them. Codes that are too long. -/
import Derived.Test.YtgiibadbjgdjcaaBund13w
import Derived.Test.YtgiibadbjgdjcaaBund12ab
namespace Go.Proofs.Ytgiibadbjgdjcaa.cos
open Go Go.RowKit Go.Proofs.Ytgiibadbjgdjcaa.base Go.Proofs.Ytgiibadbjgdjcaa.pairs Go.Proofs.Ytgiibadbjgdjcaa.ords Go.Proofs.Ytgiibadbjgdjcaa.lay Go.Proofs.Ytgiibadbjgdjcaa.wds Go.Proofs.Ytgiibadbjgdjcaa.draw
set_option linter.unusedVariables false
set_option linter.unusedSimpArgs false

/-- a drawn one who decides, and more -/
def GotC (P : Co → Prop) (w : World) (v : Value → Value) (e : Ending) (w' : World) : Prop :=
  ∃ (ja : Option Addr) (jn jc : Nat) (la : Option Addr) (ln lc : Nat) (c : Co) (F : List Nat), P c ∧ e = .returned (v (.agg #[.int .i64 c.1, .int .i64 c.2.1, .int .i64 c.2.2.1, .slice ja jn jc, .slice la ln lc, .int .i64 c.2.2.2.2.2])) ∧ coordR.own w' [.int .i64 c.1, .int .i64 c.2.1, .int .i64 c.2.2.1, .slice ja jn jc, .slice la ln lc, .int .i64 c.2.2.2.2.2] c F ∧ (∀ k ∈ F, w.heap.size ≤ k) ∧ Below w.heap.size w w'
set_option maxRecDepth 100000 in
set_option maxHeartbeats 4000000 in
theorem drawTellAll (a : Option Addr) (len cap : Nat) (code : List UInt8) (w : World) (h : Sl w a len code) (hln : len ≤ 1099511627776) :
    Calls Try.prog 26 #[.slice a len cap] w (GotC (fun c => csz c ≤ 400000) w id) := by
  obtain ⟨W, hW⟩ : ∃ W, w.alloc (.cells #[.int .i64 0, .int .i64 0, .int .i64 0, .slice none 0 0, .slice none 0 0, .int .i64 0] 27) = W := ⟨_, rfl⟩
  have hB : Below w.heap.size w W := by rw [← hW]; exact below_make
  have hR : BoxIn w.heap.size TCo [] [.int .i64 0, .int .i64 0, .int .i64 0, .slice none 0 0, .slice none 0 0, .int .i64 0] [] W := by rw [← hW]; exact boxIn_new w _ _
  have hXl := hR.lt
  have HW := Hid.mk' hW
  clear hW
  go_enter Try.func26, Try.ntmps26
  go_wp2_with fail
  rw [HW.out]
  refine (new_ w W a len cap code h hB hln).mono ?_
  rintro e w1 ⟨rfl, hc1, hb1⟩
  have hR1 := hR.below hb1
  have hB1 := hB.trans (hb1.mono hB.size)
  have hgc := hc1.lt
  clear HW
  go_wp2_with fail
  refine (sizeC a len cap 16 w1 (by omega) (by omega) hln).mono ?_
  rintro e w2 ⟨n, hn3, hn24, rfl, hw2⟩
  subst hw2
  have HDS := Hid.mk' (d_anyC w w2 W.heap.size a len cap code n hc1 (by omega) (by omega))
  go_wp2_with fail
  refine HDS.out.mono ?_
  rintro e w3 ⟨ja, jn, jc, la, ln, lc, c, F, hD, rfl, hOS, hFn, hc3, hg3⟩
  clear HDS
  have hR3 := hR1.grown hg3 (fun e => by have := Option.some.inj e; omega)
  have hB3 : Below w.heap.size w w3 := hB1.grown hg3 hB1.size (fun k e => by cases e; exact hB.size)
  have hs2 := hB1.size
  have hs1 := hb1.size
  have hs0 := hB.size
  have hs3 := hg3.size
  obtain ⟨z0, z1, z2, z3, z4, z5⟩ := cells6 hR3
  have f0 := hR3.fz 0
  have f1 := hR3.fz 1
  have f2 := hR3.fz 2
  have f3 := hR3.fz 3
  have f4 := hR3.fz 4
  have f5 := hR3.fz 5
  have hS := hR3.whole [.int .i64 c.1, .int .i64 c.2.1, .int .i64 c.2.2.1, .slice ja jn jc, .slice la ln lc, .int .i64 c.2.2.2.2.2] rfl
  obtain ⟨y0, y1, y2, y3, y4, y5⟩ := cells6 hS.1
  have hOz := coordR.ownGrown hOS hS.2 (fun j hj e => by have := hFn j hj; have := Option.some.inj e; omega)
  have hBz := hB3.grown hS.2 hB3.size (fun j e => by cases e; exact Nat.le_refl _)
  have HP : Hid (GotC (fun c => csz c ≤ 400000) w id (.returned (.agg #[.int .i64 c.1, .int .i64 c.2.1, .int .i64 c.2.2.1, .slice ja jn jc, .slice la ln lc, .int .i64 c.2.2.2.2.2])) (putAll w3 w.heap.size 0 [.int .i64 c.1, .int .i64 c.2.1, .int .i64 c.2.2.1, .slice ja jn jc, .slice la ln lc, .int .i64 c.2.2.2.2.2])) := ⟨ja, jn, jc, la, ln, lc, c, F, hD, rfl, hOz, fun k hk => Nat.le_trans hs2 (hFn k hk), hBz⟩
  clear hBz hOS hR3 hR1 hR hc3 hc1 hg3
  simp only [putAll, Nat.zero_add, Nat.reduceAdd] at HP y0 y1 y2 y3 y4 y5
  have HY := Hid.mk' (And.intro y0 (And.intro y1 (And.intro y2 (And.intro y3 (And.intro y4 y5)))))
  clear hOz hS y0 y1 y2 y3 y4 y5
  go_wp2_with fail
  obtain ⟨y0, y1, y2, y3, y4, y5⟩ := HY.out
  refine bodyPost_ret (v := .agg #[.int .i64 c.1, .int .i64 c.2.1, .int .i64 c.2.2.1, .slice ja jn jc, .slice la ln lc, .int .i64 c.2.2.2.2.2]) ?_ rfl HP.out
  simp [results, Try.results26, go_sem, y0, y1, y2, y3, y4, y5]
set_option maxRecDepth 100000 in
set_option maxHeartbeats 4000000 in
theorem drawCoord (a : Option Addr) (len cap : Nat) (code : List UInt8) (w : World) (h : Sl w a len code) (hln : len ≤ 1099511627776) :
    Calls Try.prog 21 #[.slice a len cap] w (GotC (fun c => RightCo c ∧ c.2.1 ≤ 100) w id) := by
  obtain ⟨W, hW⟩ : ∃ W, w.alloc (.cells #[.int .i64 0, .int .i64 0, .int .i64 0, .slice none 0 0, .slice none 0 0, .int .i64 0] 27) = W := ⟨_, rfl⟩
  have hB : Below w.heap.size w W := by rw [← hW]; exact below_make
  have hR : BoxIn w.heap.size TCo [] [.int .i64 0, .int .i64 0, .int .i64 0, .slice none 0 0, .slice none 0 0, .int .i64 0] [] W := by rw [← hW]; exact boxIn_new w _ _
  have hXl := hR.lt
  have HW := Hid.mk' hW
  clear hW
  go_enter Try.func21, Try.ntmps21
  go_wp2_with fail
  rw [HW.out]
  refine (new_ w W a len cap code h hB hln).mono ?_
  rintro e w1 ⟨rfl, hc1, hb1⟩
  have hR1 := hR.below hb1
  have hB1 := hB.trans (hb1.mono hB.size)
  have hgc := hc1.lt
  clear HW
  go_wp2_with fail
  refine (sizeC a len cap 24 w1 (by omega) (by omega) hln).mono ?_
  rintro e w2 ⟨n, hn3, hn24, rfl, hw2⟩
  subst hw2
  have HDS := Hid.mk' (d_coord w w2 W.heap.size a len cap code (6 + n) hc1 (by omega) (by omega))
  rw [show ((6 + n : Nat) : Int) = 6 + (n : Int) by omega] at HDS
  have hwr1 : IntKind.i64.wrap (6 + (n : Int)) = 6 + (n : Int) := wraps_i64 _ (by omega) (by omega)
  go_wp2_with fail
  refine HDS.out.mono ?_
  rintro e w3 ⟨ja, jn, jc, la, ln, lc, c, F, hRt, hlf, rfl, hOS, hFn, hc3, hg3⟩
  have hD : RightCo c ∧ c.2.1 ≤ 100 := ⟨hRt, by omega⟩
  clear HDS
  have hR3 := hR1.grown hg3 (fun e => by have := Option.some.inj e; omega)
  have hB3 : Below w.heap.size w w3 := hB1.grown hg3 hB1.size (fun k e => by cases e; exact hB.size)
  have hs2 := hB1.size
  have hs1 := hb1.size
  have hs0 := hB.size
  have hs3 := hg3.size
  obtain ⟨z0, z1, z2, z3, z4, z5⟩ := cells6 hR3
  have f0 := hR3.fz 0
  have f1 := hR3.fz 1
  have f2 := hR3.fz 2
  have f3 := hR3.fz 3
  have f4 := hR3.fz 4
  have f5 := hR3.fz 5
  have hS := hR3.whole [.int .i64 c.1, .int .i64 c.2.1, .int .i64 c.2.2.1, .slice ja jn jc, .slice la ln lc, .int .i64 c.2.2.2.2.2] rfl
  obtain ⟨y0, y1, y2, y3, y4, y5⟩ := cells6 hS.1
  have hOz := coordR.ownGrown hOS hS.2 (fun j hj e => by have := hFn j hj; have := Option.some.inj e; omega)
  have hBz := hB3.grown hS.2 hB3.size (fun j e => by cases e; exact Nat.le_refl _)
  have HP : Hid (GotC (fun c => RightCo c ∧ c.2.1 ≤ 100) w id (.returned (.agg #[.int .i64 c.1, .int .i64 c.2.1, .int .i64 c.2.2.1, .slice ja jn jc, .slice la ln lc, .int .i64 c.2.2.2.2.2])) (putAll w3 w.heap.size 0 [.int .i64 c.1, .int .i64 c.2.1, .int .i64 c.2.2.1, .slice ja jn jc, .slice la ln lc, .int .i64 c.2.2.2.2.2])) := ⟨ja, jn, jc, la, ln, lc, c, F, hD, rfl, hOz, fun k hk => Nat.le_trans hs2 (hFn k hk), hBz⟩
  clear hBz hOS hR3 hR1 hR hc3 hc1 hg3
  simp only [putAll, Nat.zero_add, Nat.reduceAdd] at HP y0 y1 y2 y3 y4 y5
  have HY := Hid.mk' (And.intro y0 (And.intro y1 (And.intro y2 (And.intro y3 (And.intro y4 y5)))))
  clear hOz hS y0 y1 y2 y3 y4 y5
  go_wp2_with fail
  obtain ⟨y0, y1, y2, y3, y4, y5⟩ := HY.out
  refine bodyPost_ret (v := .agg #[.int .i64 c.1, .int .i64 c.2.1, .int .i64 c.2.2.1, .slice ja jn jc, .slice la ln lc, .int .i64 c.2.2.2.2.2]) ?_ rfl HP.out
  simp [results, Try.results21, go_sem, y0, y1, y2, y3, y4, y5]
set_option maxRecDepth 100000 in
set_option maxHeartbeats 4000000 in
theorem drawCrashCoord (a : Option Addr) (len cap : Nat) (code : List UInt8) (w : World) (h : Sl w a len code) (hln : len ≤ 1099511627776) :
    Calls Try.prog 24 #[.slice a len cap] w (fun e w' => ∃ z : Int, (Lit.int .i64 z).wf = true ∧ GotC (fun c => csz c ≤ 400000) w (fun v => .tuple #[v, .int .i64 z]) e w') := by
  obtain ⟨W, hW⟩ : ∃ W, w.alloc (.cells #[.int .i64 0, .int .i64 0, .int .i64 0, .slice none 0 0, .slice none 0 0, .int .i64 0] 27) = W := ⟨_, rfl⟩
  have hB : Below w.heap.size w W := by rw [← hW]; exact below_make
  have hR : BoxIn w.heap.size TCo [] [.int .i64 0, .int .i64 0, .int .i64 0, .slice none 0 0, .slice none 0 0, .int .i64 0] [] W := by rw [← hW]; exact boxIn_new w _ _
  have hXl := hR.lt
  have HW := Hid.mk' hW
  clear hW
  go_enter Try.func24, Try.ntmps24
  go_wp2_with fail
  rw [HW.out]
  refine (new_ w W a len cap code h hB hln).mono ?_
  rintro e w1 ⟨rfl, hc1, hb1⟩
  have hR1 := hR.below hb1
  have hB1 := hB.trans (hb1.mono hB.size)
  have hgc := hc1.lt
  clear HW
  go_wp2_with fail
  refine (sizeC a len cap 16 w1 (by omega) (by omega) hln).mono ?_
  rintro e w2 ⟨n, hn3, hn24, rfl, hw2⟩
  subst hw2
  have HDS := Hid.mk' (d_anyC w w2 W.heap.size a len cap code n hc1 (by omega) (by omega))
  go_wp2_with fail
  refine HDS.out.mono ?_
  rintro e w3 ⟨ja, jn, jc, la, ln, lc, c, F, hD, rfl, hOS, hFn, hc3, hg3⟩
  clear HDS
  have hR3 := hR1.grown hg3 (fun e => by have := Option.some.inj e; omega)
  have hB3 : Below w.heap.size w w3 := hB1.grown hg3 hB1.size (fun k e => by cases e; exact hB.size)
  have hs2 := hB1.size
  have hs1 := hb1.size
  have hs0 := hB.size
  have hs3 := hg3.size
  obtain ⟨w4, hw4⟩ : ∃ w4, w3.alloc (.cells #[.int .i64 0, .int .i64 1, .int .i64 2, .int .i64 100, .int .i64 (-1), .int .i64 9223372036854775807] 3) = w4 := ⟨_, rfl⟩
  have hb4 : Below w3.heap.size w3 w4 := by rw [← hw4]; exact below_make
  have hL4 : w4.heap[w3.heap.size]? = some (.cells #[.int .i64 0, .int .i64 1, .int .i64 2, .int .i64 100, .int .i64 (-1), .int .i64 9223372036854775807] 3 (0, 0)) := by rw [← hw4]; exact heap_alloc_new w3 _
  have HIN := Hid.mk' (int_ w w4 W.heap.size a len cap code w3.heap.size 6 6 _ _ (hc3.below hb4) hL4 rfl (by omega) (by omega) (by omega) (fun z => decide (-1 ≤ z ∧ z ≤ 9223372036854775807) = true) (some_atI _ 6 (fun z => decide (-1 ≤ z ∧ z ≤ 9223372036854775807)) (by kernel_rfl)))
  rw [← hw4] at HIN
  have HW4 := Hid.mk' hw4
  have hR4 := hR3.below hb4
  have hB4 := hB3.trans (hb4.mono hB3.size)
  have hO4 := coordR.ownBelow hOS hb4
  have hs34 := hb4.size
  clear hw4 hL4 hOS hR3 hR1 hR hc3 hc1 hB1 hb1
  go_wp2_with fail
  refine HIN.out.mono ?_
  rw [HW4.out]
  rintro e w5 ⟨z, hz0, rfl, hc5, hg5⟩
  have hz : -1 ≤ z ∧ z ≤ 9223372036854775807 := of_decide_eq_true hz0
  have hzw : (Lit.int .i64 z).wf = true := WalkArith.wf_i64 (by omega)
  have hR5 := hR4.grown hg5 (fun e => by have := Option.some.inj e; omega)
  have hB5 : Below w.heap.size w w5 := hB4.grown hg5 hB4.size (fun k e => by cases e; exact hB.size)
  have hO5 := coordR.ownGrown hO4 hg5 (fun j hj e => by have := hFn j hj; have := Option.some.inj e; omega)
  have hs5 := hg5.size
  clear HIN HW4 hR4 hB4 hO4 hg5 hb4 hB3 hg3 hc5
  obtain ⟨z0, z1, z2, z3, z4, z5⟩ := cells6 hR5
  have f0 := hR5.fz 0
  have f1 := hR5.fz 1
  have f2 := hR5.fz 2
  have f3 := hR5.fz 3
  have f4 := hR5.fz 4
  have f5 := hR5.fz 5
  have hS := hR5.whole [.int .i64 c.1, .int .i64 c.2.1, .int .i64 c.2.2.1, .slice ja jn jc, .slice la ln lc, .int .i64 c.2.2.2.2.2] rfl
  obtain ⟨y0, y1, y2, y3, y4, y5⟩ := cells6 hS.1
  have hOz := coordR.ownGrown hO5 hS.2 (fun j hj e => by have := hFn j hj; have := Option.some.inj e; omega)
  have hBz := hB5.grown hS.2 hB5.size (fun j e => by cases e; exact Nat.le_refl _)
  have HP : Hid (∃ z' : Int, (Lit.int .i64 z').wf = true ∧ GotC (fun c => csz c ≤ 400000) w (fun v => .tuple #[v, .int .i64 z']) (.returned (.tuple #[.agg #[.int .i64 c.1, .int .i64 c.2.1, .int .i64 c.2.2.1, .slice ja jn jc, .slice la ln lc, .int .i64 c.2.2.2.2.2], .int .i64 z])) (putAll w5 w.heap.size 0 [.int .i64 c.1, .int .i64 c.2.1, .int .i64 c.2.2.1, .slice ja jn jc, .slice la ln lc, .int .i64 c.2.2.2.2.2])) := ⟨z, hzw, ja, jn, jc, la, ln, lc, c, F, hD, rfl, hOz, fun k hk => Nat.le_trans hs2 (hFn k hk), hBz⟩
  clear hBz hO5 hR5
  simp only [putAll, Nat.zero_add, Nat.reduceAdd] at HP y0 y1 y2 y3 y4 y5
  have HY := Hid.mk' (And.intro y0 (And.intro y1 (And.intro y2 (And.intro y3 (And.intro y4 y5)))))
  clear hOz hS y0 y1 y2 y3 y4 y5
  go_wp2_with fail
  obtain ⟨y0, y1, y2, y3, y4, y5⟩ := HY.out
  refine bodyPost_ret (v := .tuple #[.agg #[.int .i64 c.1, .int .i64 c.2.1, .int .i64 c.2.2.1, .slice ja jn jc, .slice la ln lc, .int .i64 c.2.2.2.2.2], .int .i64 z]) ?_ rfl HP.out
  simp [results, Try.results24, go_sem, y0, y1, y2, y3, y4, y5]
set_option maxRecDepth 100000 in
set_option maxHeartbeats 4000000 in
theorem drawBegin (a : Option Addr) (len cap : Nat) (code : List UInt8) (w : World) (h : Sl w a len code) (hln : len ≤ 1099511627776) :
    Calls Try.prog 9 #[.slice a len cap] w (fun e w' => ∃ (go m cp : Nat) (l : List Od), m ≤ 8 ∧ (∀ p ∈ l, tinyO p) ∧ OwnO w' w.heap.size go m cp l ∧ GotC (fun c => csz c ≤ 400000) w (fun v => .tuple #[v, .slice (some ⟨go, 0, none⟩) m cp]) e w') := by
  obtain ⟨W, hW⟩ : ∃ W, w.alloc (.cells #[.int .i64 0, .int .i64 0, .int .i64 0, .slice none 0 0, .slice none 0 0, .int .i64 0] 27) = W := ⟨_, rfl⟩
  have hB : Below w.heap.size w W := by rw [← hW]; exact below_make
  have hR : BoxIn w.heap.size TCo [] [.int .i64 0, .int .i64 0, .int .i64 0, .slice none 0 0, .slice none 0 0, .int .i64 0] [] W := by rw [← hW]; exact boxIn_new w _ _
  have hXl := hR.lt
  have HW := Hid.mk' hW
  clear hW
  go_enter Try.func9, Try.ntmps9
  go_wp2_with fail
  rw [HW.out]
  refine (new_ w W a len cap code h hB hln).mono ?_
  rintro e w1 ⟨rfl, hc1, hb1⟩
  have hR1 := hR.below hb1
  have hB1 := hB.trans (hb1.mono hB.size)
  have hgc := hc1.lt
  clear HW
  go_wp2_with fail
  refine (sizeC a len cap 16 w1 (by omega) (by omega) hln).mono ?_
  rintro e w2 ⟨n, hn3, hn24, rfl, hw2⟩
  subst hw2
  have HDS := Hid.mk' (d_anyC w w2 W.heap.size a len cap code n hc1 (by omega) (by omega))
  go_wp2_with fail
  refine HDS.out.mono ?_
  rintro e w3 ⟨ja, jn, jc, la, ln, lc, c, F, hD, rfl, hOS, hFn, hc3, hg3⟩
  clear HDS
  have hR3 := hR1.grown hg3 (fun e => by have := Option.some.inj e; omega)
  have hB3 : Below w.heap.size w w3 := hB1.grown hg3 hB1.size (fun k e => by cases e; exact hB.size)
  have hs2 := hB1.size
  have hs1 := hb1.size
  have hs0 := hB.size
  have hs3 := hg3.size
  have HAN := Hid.mk' (d_anyO w w3 W.heap.size a len cap code hc3)
  clear hR1 hR hc1 hB1 hb1
  go_wp2_with fail
  refine HAN.out.mono ?_
  rintro e w5 ⟨go, m, cp, l, hm, htt, rfl, hOo, hc5, hg5⟩
  have hR5 := hR3.grown hg5 (fun e => by have := Option.some.inj e; omega)
  have hB5 : Below w.heap.size w w5 := hB3.grown hg5 hB3.size (fun k e => by cases e; exact hB.size)
  have hFl3 := coordR.ownLt hOS
  have hO5 := coordR.ownGrown hOS hg5 (fun j hj e => by have := hFn j hj; have := Option.some.inj e; omega)
  have hol := hOo.lt
  clear HAN hR3 hB3 hOS hc3 hg3 hc5 hg5
  obtain ⟨z0, z1, z2, z3, z4, z5⟩ := cells6 hR5
  have f0 := hR5.fz 0
  have f1 := hR5.fz 1
  have f2 := hR5.fz 2
  have f3 := hR5.fz 3
  have f4 := hR5.fz 4
  have f5 := hR5.fz 5
  have hS := hR5.whole [.int .i64 c.1, .int .i64 c.2.1, .int .i64 c.2.2.1, .slice ja jn jc, .slice la ln lc, .int .i64 c.2.2.2.2.2] rfl
  obtain ⟨y0, y1, y2, y3, y4, y5⟩ := cells6 hS.1
  have hOz := coordR.ownGrown hO5 hS.2 (fun j hj e => by have := hFn j hj; have := Option.some.inj e; omega)
  have hBz := hB5.grown hS.2 hB5.size (fun j e => by cases e; exact Nat.le_refl _)
  have hOoz := (hOo.grown hS.2 (by simp; omega)).mono (base' := w.heap.size) (by omega)
  have HP : Hid (∃ (go' m' cp' : Nat) (l' : List Od), m' ≤ 8 ∧ (∀ p ∈ l', tinyO p) ∧ OwnO (putAll w5 w.heap.size 0 [.int .i64 c.1, .int .i64 c.2.1, .int .i64 c.2.2.1, .slice ja jn jc, .slice la ln lc, .int .i64 c.2.2.2.2.2]) w.heap.size go' m' cp' l' ∧ GotC (fun c => csz c ≤ 400000) w (fun v => .tuple #[v, .slice (some ⟨go', 0, none⟩) m' cp']) (.returned (.tuple #[.agg #[.int .i64 c.1, .int .i64 c.2.1, .int .i64 c.2.2.1, .slice ja jn jc, .slice la ln lc, .int .i64 c.2.2.2.2.2], .slice (some ⟨go, 0, none⟩) m cp])) (putAll w5 w.heap.size 0 [.int .i64 c.1, .int .i64 c.2.1, .int .i64 c.2.2.1, .slice ja jn jc, .slice la ln lc, .int .i64 c.2.2.2.2.2])) := ⟨go, m, cp, l, by omega, htt, hOoz, ja, jn, jc, la, ln, lc, c, F, hD, rfl, hOz, fun k hk => Nat.le_trans hs2 (hFn k hk), hBz⟩
  clear hBz hO5 hR5 hOo hOoz
  simp only [putAll, Nat.zero_add, Nat.reduceAdd] at HP y0 y1 y2 y3 y4 y5
  have HY := Hid.mk' (And.intro y0 (And.intro y1 (And.intro y2 (And.intro y3 (And.intro y4 y5)))))
  clear hOz hS y0 y1 y2 y3 y4 y5
  go_wp2_with fail
  obtain ⟨y0, y1, y2, y3, y4, y5⟩ := HY.out
  refine bodyPost_ret (v := .tuple #[.agg #[.int .i64 c.1, .int .i64 c.2.1, .int .i64 c.2.2.1, .slice ja jn jc, .slice la ln lc, .int .i64 c.2.2.2.2.2], .slice (some ⟨go, 0, none⟩) m cp]) ?_ rfl HP.out
  simp [results, Try.results9, go_sem, y0, y1, y2, y3, y4, y5]
end Go.Proofs.Ytgiibadbjgdjcaa.cos

namespace Go.Proofs.Ytgiibadbjgdjcaa.base
open Go.RowKit
set_option linter.unusedVariables false
theorem big_ (a0 : Option Addr) (len0 cap0 : Nat) (w : World) (h : len0 ≤ maxLen) :
    Calls Try.prog 8 #[.slice a0 len0 cap0] w fun e w' => e = .returned (.bool (decide (1048576 < (len0 : Int)))) ∧ w' = w := by
  unfold maxLen at h
  go_enter Try.func8, Try.ntmps8
  go_wp2
  go_ret
  exact ⟨rfl, rfl⟩
end Go.Proofs.Ytgiibadbjgdjcaa.base
