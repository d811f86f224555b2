/- The laws' helpers for those who decide: alike. -/
import Derived.Test.YtmpggohilmngpaaCoT
import Derived.Test.YtmpggohilmngpaaHelpN
import Derived.Handy
namespace Go.Proofs.Ytmpggohilmngpaa.cos
open Go Go.RowKit Go.Proofs.Ytmpggohilmngpaa.base Go.Proofs.Ytmpggohilmngpaa.pairs Go.Proofs.Ytmpggohilmngpaa.ords Go.Proofs.Ytmpggohilmngpaa.lay Go.Proofs.Ytmpggohilmngpaa.wds
set_option linter.unusedVariables false
set_option linter.unusedSimpArgs false

theorem below_two (w : World) (o o2 : Obj) : Below w.heap.size w ((w.alloc o).alloc o2) := ((Below.refl _ _).alloc (Nat.le_refl _) _).alloc (by simp) _
set_option maxRecDepth 100000 in
set_option maxHeartbeats 1000000 in
theorem eqChoiceT (tx : Int) (y : Bool) (w : World) :
    Calls Try.prog 18 #[.agg #[.int .i64 tx, .bool y], .agg #[.int .i64 tx, .bool y]] w fun e w' => e = .returned (.bool true) ∧ Below w.heap.size w w' := by
  have hn : (tx == tx) = true := by simp
  cases y
  all_goals
    go_enter Try.func18, Try.ntmps18
    go_wp2_with fail
    go_ret
    exact ⟨rfl, below_two _ _ _⟩
set_option maxRecDepth 100000 in
set_option maxHeartbeats 2000000 in
theorem eqChoicesT (a a2 : Option Addr) (len cap cap2 : Nat) (l : List Ch) (w : World) (h : SlG chR w a len l) (h2 : SlG chR w a2 len l) :
    Calls Try.prog 12 #[.slice a len cap, .slice a2 len cap2] w fun e w' => e = .returned (.bool true) ∧ Below w.heap.size w w' := by
  have hl := h.1
  have hm := h.2.1
  unfold maxLen at hm
  have hb : ((len : Int) == (len : Int)) = true := by simp
  go_enter Try.func12, Try.ntmps12
  go_wp2_with fail
  go_loopw [5] (fun i wr => ∃ k : Nat, k ≤ len ∧ i = .int .i64 k ∧ Below w.heap.size w wr) (fun i _ => len - (intOf i).toNat)
  case atStart => exact ⟨0, Nat.zero_le _, rfl, Below.refl _ _⟩
  case round =>
    obtain ⟨k, hk, rfl, hB⟩ := hrel
    by_cases hlt : k < len
    · have hltl : k < l.length := by omega
      obtain ⟨b, off, e⟩ := slg_some h (by omega)
      obtain ⟨b2, off2, e2⟩ := slg_some h2 (by omega)
      subst e e2
      have hki : (k : Int) < (len : Int) := by omega
      obtain ⟨c1, c2⟩ := ch_at (h.below hB) k hltl
      obtain ⟨c3, c4⟩ := ch_at (h2.below hB) k hltl
      have o1 := last.On.cell (B := wr.heap.size) c1 (World.block_lt_of_cell? _ _ c1)
      have o2 := last.On.cell (B := wr.heap.size) c2 (World.block_lt_of_cell? _ _ c2)
      have o3 := last.On.cell (B := wr.heap.size) c3 (World.block_lt_of_cell? _ _ c3)
      have o4 := last.On.cell (B := wr.heap.size) c4 (World.block_lt_of_cell? _ _ c4)
      have hinh := last.On.inh wr.heap.size wr
      have hcall : ∀ x : last.On wr.heap.size wr, Calls Try.prog 18 #[.agg #[.int .i64 l[k].1, .bool l[k].2], .agg #[.int .i64 l[k].1, .bool l[k].2]] x.w fun e w' => e = .returned (.bool true) ∧ ∃ y : last.On wr.heap.size wr, w' = y.w := fun x => last.Calls.on x (Nat.le_refl _) (eqChoiceT _ _ x.w)
      clear h h2
      generalize l[k] = p at *
      go_wp2_with fail
      refine last.wp_region_on wr.heap.size (by kernel_rfl) (by kernel_rfl) ?_
      repeat (go_big_quiet_step ((go_at_call 18; exact hcall _)))
      refine wpQuiet_nil ?_
      intro w5 hw5
      obtain ⟨x5, hw5⟩ := hw5
      subst hw5
      have hB5 : Below w.heap.size w x5.w := hB.trans (x5.2.mono hB.size)
      go_wp2_with fail
      go_roundw
      case rel => exact ⟨k + 1, by omega, by go_num, hB5⟩
      case measure => simp [intOf]; omega
    · have hnk : ¬ (k : Int) < (len : Int) := by omega
      go_wp2_with fail
      go_ret
      exact ⟨rfl, hB⟩
set_option maxRecDepth 100000 in
set_option maxHeartbeats 1000000 in
theorem eqJobT (tx st : Int) (oa ob : Option Addr) (ol oc bl bc : Nat) (ya yb : Option Addr) (yl yc zl zc : Nat) (ops : List Od) (yes : List Int) (w : World) (h1 : SlO w oa ol ops) (h2 : SlO w ob bl ops) (h3 : SlZ w ya yl yes) (h4 : SlZ w yb zl yes) :
    Calls Try.prog 17 #[.agg #[.int .i64 tx, .slice oa ol oc, .int .i64 st, .slice ya yl yc], .agg #[.int .i64 tx, .slice ob bl bc, .int .i64 st, .slice yb zl zc]] w fun e w' => e = .returned (.bool true) ∧ Below w.heap.size w w' := by
  obtain ⟨W, hW⟩ : ∃ W, (w.alloc (.cells #[.int .i64 tx, .slice oa ol oc, .int .i64 st, .slice ya yl yc] 39)).alloc (.cells #[.int .i64 tx, .slice ob bl bc, .int .i64 st, .slice yb zl zc] 39) = W := ⟨_, rfl⟩
  have hB : Below w.heap.size w W := by rw [← hW]; exact below_two _ _ _
  have hx : BoxJ w.heap.size tx st (.slice oa ol oc) (.slice ya yl yc) W := by rw [← hW]; exact BoxJ.below (heap_alloc_new w _) (below_new _ _)
  have hy : BoxJ (w.heap.size + 1) tx st (.slice ob bl bc) (.slice yb zl zc) W := by
    rw [← hW]
    have := heap_alloc_new (w.alloc (.cells #[.int .i64 tx, .slice oa ol oc, .int .i64 st, .slice ya yl yc] 39)) (.cells #[.int .i64 tx, .slice ob bl bc, .int .i64 st, .slice yb zl zc] 39)
    have e : (w.alloc (.cells #[.int .i64 tx, .slice oa ol oc, .int .i64 st, .slice ya yl yc] 39)).heap.size = w.heap.size + 1 := by simp
    rw [e] at this; exact this
  have HO := Hid.mk' (eqO oa ob ol oc bl bc ops ops W (h1.below hB) (h2.below hB) rfl)
  have HZ := Hid.mk' (fun wx (hx : Below W.heap.size W wx) => eqZ ya yb yl yc zl zc yes yes wx ((h3.below hB).below hx) ((h4.below hB).below hx) rfl)
  have HW := Hid.mk' hW
  have hn : (tx == tx) = true := by simp
  have hs : (st == st) = true := by simp
  clear hW h1 h2 h3 h4
  go_enter Try.func17, Try.ntmps17
  go_wp2_with fail
  rw [HW.out]
  refine HO.out.mono ?_
  rintro e w1 ⟨rfl, hb1⟩
  have hB1 := hB.trans (hb1.mono hB.size)
  obtain ⟨x0, x1, x2, x3⟩ := (hx.below hb1).cells
  obtain ⟨y0, y1, y2, y3⟩ := (hy.below hb1).cells
  clear HO HW hx hy
  go_wp2_with fail
  refine (HZ.out _ hb1).mono ?_
  rintro e w2 ⟨rfl, hb2⟩
  have hB2 := hB1.trans (hb2.mono hB1.size)
  clear HZ x0 x1 x2 x3 y0 y1 y2 y3
  go_wp2_with fail
  go_ret
  exact ⟨rfl, hB2⟩
set_option maxRecDepth 100000 in
set_option maxHeartbeats 2000000 in
theorem eqJobsT (a a2 : Option Addr) (len cap cap2 : Nat) (l : List Jb) (w : World) (h : SlG jobR w a len l) (h2 : SlG jobR w a2 len l) :
    Calls Try.prog 11 #[.slice a len cap, .slice a2 len cap2] w fun e w' => e = .returned (.bool true) ∧ Below w.heap.size w w' := by
  have hl := h.1
  have hm := h.2.1
  unfold maxLen at hm
  have hb : ((len : Int) == (len : Int)) = true := by simp
  go_enter Try.func11, Try.ntmps11
  go_wp2_with fail
  go_loopw [5] (fun i wr => ∃ k : Nat, k ≤ len ∧ i = .int .i64 k ∧ Below w.heap.size w wr) (fun i _ => len - (intOf i).toNat)
  case atStart => exact ⟨0, Nat.zero_le _, rfl, Below.refl _ _⟩
  case round =>
    obtain ⟨k, hk, rfl, hB⟩ := hrel
    by_cases hlt : k < len
    · have hltl : k < l.length := by omega
      obtain ⟨b, off, e⟩ := slg_some h (by omega)
      obtain ⟨b2, off2, e2⟩ := slg_some h2 (by omega)
      subst e e2
      have hki : (k : Int) < (len : Int) := by omega
      obtain ⟨c0, c2, ⟨oa, ol, oc, c1, hO1, _⟩, ya, yl, yc, c3, hY1, _⟩ := job_at (h.below hB) k hltl
      obtain ⟨d0, d2, ⟨ob, bl, bc, d1, hO2, _⟩, yb, zl, zc, d3, hY2, _⟩ := job_at (h2.below hB) k hltl
      have o0 := last.On.cell (B := wr.heap.size) c0 (World.block_lt_of_cell? _ _ c0)
      have o1 := last.On.cell (B := wr.heap.size) c1 (World.block_lt_of_cell? _ _ c1)
      have o2 := last.On.cell (B := wr.heap.size) c2 (World.block_lt_of_cell? _ _ c2)
      have o3 := last.On.cell (B := wr.heap.size) c3 (World.block_lt_of_cell? _ _ c3)
      have p0 := last.On.cell (B := wr.heap.size) d0 (World.block_lt_of_cell? _ _ d0)
      have p1 := last.On.cell (B := wr.heap.size) d1 (World.block_lt_of_cell? _ _ d1)
      have p2 := last.On.cell (B := wr.heap.size) d2 (World.block_lt_of_cell? _ _ d2)
      have p3 := last.On.cell (B := wr.heap.size) d3 (World.block_lt_of_cell? _ _ d3)
      have hinh := last.On.inh wr.heap.size wr
      have hcall : ∀ x : last.On wr.heap.size wr, Calls Try.prog 17 #[.agg #[.int .i64 l[k].1, .slice oa ol oc, .int .i64 l[k].2.2.1, .slice ya yl yc], .agg #[.int .i64 l[k].1, .slice ob bl bc, .int .i64 l[k].2.2.1, .slice yb zl zc]] x.w fun e w' => e = .returned (.bool true) ∧ ∃ y : last.On wr.heap.size wr, w' = y.w := fun x => last.Calls.on x (Nat.le_refl _) (eqJobT _ _ oa ob ol oc bl bc ya yb yl yc zl zc l[k].2.1 l[k].2.2.2 x.w (hO1.below x.2) (hO2.below x.2) (hY1.below x.2) (hY2.below x.2))
      clear h h2 hO1 hO2 hY1 hY2
      generalize l[k] = p at *
      go_wp2_with fail
      refine last.wp_region_on wr.heap.size (by kernel_rfl) (by kernel_rfl) ?_
      repeat (go_big_quiet_step ((go_at_call 17; exact hcall _)))
      refine wpQuiet_nil ?_
      intro w5 hw5
      obtain ⟨x5, hw5⟩ := hw5
      subst hw5
      have hB5 : Below w.heap.size w x5.w := hB.trans (x5.2.mono hB.size)
      go_wp2_with fail
      go_roundw
      case rel => exact ⟨k + 1, by omega, by go_num, hB5⟩
      case measure => simp [intOf]; omega
    · have hnk : ¬ (k : Int) < (len : Int) := by omega
      go_wp2_with fail
      go_ret
      exact ⟨rfl, hB⟩
set_option maxRecDepth 100000 in
set_option maxHeartbeats 2000000 in
theorem eqCoordT (ja jb : Option Addr) (jn jc jm jd : Nat) (la lb : Option Addr) (ln lc lm ld : Nat) (c : Co) (w : World) (h1 : SeeCo w ja jn jc la ln lc c) (h2 : SeeCo w jb jm jd lb lm ld c) :
    Calls Try.prog 6 #[coV c.1 c.2.1 c.2.2.1 c.2.2.2.2.2 ja jn jc la ln lc, coV c.1 c.2.1 c.2.2.1 c.2.2.2.2.2 jb jm jd lb lm ld] w fun e w' => e = .returned (.bool true) ∧ Below w.heap.size w w' := by
  have e1 : jm = jn := h2.jobs.1.symm.trans h1.jobs.1
  have e2 : lm = ln := h2.log.1.symm.trans h1.log.1
  subst e1 e2
  obtain ⟨W, hW⟩ : ∃ W, (w.alloc (coO c.1 c.2.1 c.2.2.1 c.2.2.2.2.2 ja jm jc la lm lc)).alloc (coO c.1 c.2.1 c.2.2.1 c.2.2.2.2.2 jb jm jd lb lm ld) = W := ⟨_, rfl⟩
  have hB : Below w.heap.size w W := by rw [← hW]; exact below_two _ _ _
  have hx : BoxC w.heap.size c.1 c.2.1 c.2.2.1 c.2.2.2.2.2 ja jm jc la lm lc W := by rw [← hW]; exact BoxC.below (boxC_new w _ _ _ _ _ _ _ _ _ _) (below_new _ _)
  have hy : BoxC (w.heap.size + 1) c.1 c.2.1 c.2.2.1 c.2.2.2.2.2 jb jm jd lb lm ld W := by
    rw [← hW]
    have := boxC_new (w.alloc (coO c.1 c.2.1 c.2.2.1 c.2.2.2.2.2 ja jm jc la lm lc)) c.1 c.2.1 c.2.2.1 c.2.2.2.2.2 jb jm jd lb lm ld
    have e : (w.alloc (coO c.1 c.2.1 c.2.2.1 c.2.2.2.2.2 ja jm jc la lm lc)).heap.size = w.heap.size + 1 := by simp
    rw [e] at this; exact this
  have HJ := Hid.mk' (eqJobsT ja jb jm jc jd c.2.2.2.1 W (h1.jobs.below hB) (h2.jobs.below hB))
  have HL := Hid.mk' (fun wx (hx : Below W.heap.size W wx) => eqChoicesT la lb lm lc ld c.2.2.2.2.1 wx ((h1.log.below hB).below hx) ((h2.log.below hB).below hx))
  have HW := Hid.mk' hW
  clear hW h1 h2
  generalize c.1 = n at *
  generalize c.2.1 = life at *
  generalize c.2.2.1 = next at *
  generalize c.2.2.2.2.2 = sure at *
  have n1 : (n == n) = true := by simp
  have n2 : (life == life) = true := by simp
  have n3 : (next == next) = true := by simp
  have n4 : (sure == sure) = true := by simp
  go_enter Try.func6, Try.ntmps6
  go_wp2_with fail
  rw [HW.out]
  refine HJ.out.mono ?_
  rintro e w1 ⟨rfl, hb1⟩
  have hB1 := hB.trans (hb1.mono hB.size)
  obtain ⟨x0, x1, x2, x3, x4, x5⟩ := (hx.below hb1).cells
  obtain ⟨y0, y1, y2, y3, y4, y5⟩ := (hy.below hb1).cells
  clear HJ HW
  go_wp2_with fail
  refine (HL.out _ hb1).mono ?_
  rintro e w2 ⟨rfl, hb2⟩
  have hb3 := hb1.trans (hb2.mono hb1.size)
  have hB2 := hB1.trans (hb2.mono hB1.size)
  clear HL x0 x1 x2 x3 x4 x5 y0 y1 y2 y3 y4 y5
  obtain ⟨x0, x1, x2, x3, x4, x5⟩ := (hx.below hb3).cells
  obtain ⟨y0, y1, y2, y3, y4, y5⟩ := (hy.below hb3).cells
  go_wp2_with fail
  go_ret
  exact ⟨rfl, hB2⟩
end Go.Proofs.Ytmpggohilmngpaa.cos
