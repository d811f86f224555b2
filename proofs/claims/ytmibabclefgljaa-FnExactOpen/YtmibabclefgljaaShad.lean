/- The laws' helpers for those who decide: alike. The laws' helpers for those who decide: their sizes. A struct in a block, whole or in the midst of it. No function of the program is named here. A struct in a block of its own, and what it owns, whatever the struct. No function of the program is named here. -/
import Derived.Test.YtmibabclefgljaaShab
import Derived.Test.YtmibabclefgljaaShac
import Derived.Handy
import Derived.Test.YtmibabclefgljaaShaa
namespace Go.Proofs.Ytmibabclefgljaa.cos
open Go Go.RowKit Go.Proofs.Ytmibabclefgljaa.base Go.Proofs.Ytmibabclefgljaa.pairs Go.Proofs.Ytmibabclefgljaa.ords Go.Proofs.Ytmibabclefgljaa.lay Go.Proofs.Ytmibabclefgljaa.wds
set_option linter.unusedVariables false
set_option linter.unusedSimpArgs false

theorem below_two (w : World) (o o2 : Obj) : Below w.heap.size w ((w.alloc o).alloc o2) := ((Below.refl _ _).alloc (Nat.le_refl _) _).alloc (by simp) _
set_option maxRecDepth 100000 in
set_option maxHeartbeats 1000000 in
theorem eqChoiceT (tx : Int) (y : Bool) (w : World) :
    Calls Try.prog 47 #[.agg #[.int .i64 tx, .bool y], .agg #[.int .i64 tx, .bool y]] w fun e w' => e = .returned (.bool true) ∧ Below w.heap.size w w' := by
  have hn : (tx == tx) = true := by simp
  cases y
  all_goals
    go_enter Try.func47, Try.ntmps47
    go_wp2_with fail
    go_ret
    exact ⟨rfl, below_two _ _ _⟩
set_option maxRecDepth 100000 in
set_option maxHeartbeats 2000000 in
theorem eqChoicesT (a a2 : Option Addr) (len cap cap2 : Nat) (l : List Ch) (w : World) (h : SlG chR w a len l) (h2 : SlG chR w a2 len l) :
    Calls Try.prog 33 #[.slice a len cap, .slice a2 len cap2] w fun e w' => e = .returned (.bool true) ∧ Below w.heap.size w w' := by
  have hl := h.1
  have hm := h.2.1
  unfold maxLen at hm
  have hb : ((len : Int) == (len : Int)) = true := by simp
  go_enter Try.func33, Try.ntmps33
  go_wp2_with fail
  go_loopw [5] (fun i wr => ∃ k : Nat, k ≤ len ∧ i = .int .i64 k ∧ Below w.heap.size w wr) (fun i _ => len - (intOf i).toNat)
  case atStart => exact ⟨0, Nat.zero_le _, rfl, Below.refl _ _⟩
  case round =>
    obtain ⟨k, hk, rfl, hB⟩ := hrel
    by_cases hlt : k < len
    · have hltl : k < l.length := by omega
      obtain ⟨b, off, e⟩ := slg_some h (by omega)
      obtain ⟨b2, off2, e2⟩ := slg_some h2 (by omega)
      subst e e2
      have hki : (k : Int) < (len : Int) := by omega
      obtain ⟨c1, c2⟩ := ch_at (h.below hB) k hltl
      obtain ⟨c3, c4⟩ := ch_at (h2.below hB) k hltl
      have o1 := last.On.cell (B := wr.heap.size) c1 (World.block_lt_of_cell? _ _ c1)
      have o2 := last.On.cell (B := wr.heap.size) c2 (World.block_lt_of_cell? _ _ c2)
      have o3 := last.On.cell (B := wr.heap.size) c3 (World.block_lt_of_cell? _ _ c3)
      have o4 := last.On.cell (B := wr.heap.size) c4 (World.block_lt_of_cell? _ _ c4)
      have hinh := last.On.inh wr.heap.size wr
      have hcall : ∀ x : last.On wr.heap.size wr, Calls Try.prog 47 #[.agg #[.int .i64 l[k].1, .bool l[k].2], .agg #[.int .i64 l[k].1, .bool l[k].2]] x.w fun e w' => e = .returned (.bool true) ∧ ∃ y : last.On wr.heap.size wr, w' = y.w := fun x => last.Calls.on x (Nat.le_refl _) (eqChoiceT _ _ x.w)
      clear h h2
      generalize l[k] = p at *
      go_wp2_with fail
      refine last.wp_region_on wr.heap.size (by kernel_rfl) (by kernel_rfl) ?_
      repeat (go_big_quiet_step ((go_at_call 47; exact hcall _)))
      refine wpQuiet_nil ?_
      intro w5 hw5
      obtain ⟨x5, hw5⟩ := hw5
      subst hw5
      have hB5 : Below w.heap.size w x5.w := hB.trans (x5.2.mono hB.size)
      go_wp2_with fail
      go_roundw
      case rel => exact ⟨k + 1, by omega, by go_num, hB5⟩
      case measure => simp [intOf]; omega
    · have hnk : ¬ (k : Int) < (len : Int) := by omega
      go_wp2_with fail
      go_ret
      exact ⟨rfl, hB⟩
set_option maxRecDepth 100000 in
set_option maxHeartbeats 1000000 in
theorem eqJobT (tx st : Int) (oa ob : Option Addr) (ol oc bl bc : Nat) (ya yb : Option Addr) (yl yc zl zc : Nat) (ops : List Od) (yes : List Int) (w : World) (h1 : SlO w oa ol ops) (h2 : SlO w ob bl ops) (h3 : SlZ w ya yl yes) (h4 : SlZ w yb zl yes) :
    Calls Try.prog 46 #[.agg #[.int .i64 tx, .slice oa ol oc, .int .i64 st, .slice ya yl yc], .agg #[.int .i64 tx, .slice ob bl bc, .int .i64 st, .slice yb zl zc]] w fun e w' => e = .returned (.bool true) ∧ Below w.heap.size w w' := by
  obtain ⟨W, hW⟩ : ∃ W, (w.alloc (.cells #[.int .i64 tx, .slice oa ol oc, .int .i64 st, .slice ya yl yc] 56)).alloc (.cells #[.int .i64 tx, .slice ob bl bc, .int .i64 st, .slice yb zl zc] 56) = W := ⟨_, rfl⟩
  have hB : Below w.heap.size w W := by rw [← hW]; exact below_two _ _ _
  have hx : BoxJ w.heap.size tx st (.slice oa ol oc) (.slice ya yl yc) W := by rw [← hW]; exact BoxJ.below (heap_alloc_new w _) (below_new _ _)
  have hy : BoxJ (w.heap.size + 1) tx st (.slice ob bl bc) (.slice yb zl zc) W := by
    rw [← hW]
    have := heap_alloc_new (w.alloc (.cells #[.int .i64 tx, .slice oa ol oc, .int .i64 st, .slice ya yl yc] 56)) (.cells #[.int .i64 tx, .slice ob bl bc, .int .i64 st, .slice yb zl zc] 56)
    have e : (w.alloc (.cells #[.int .i64 tx, .slice oa ol oc, .int .i64 st, .slice ya yl yc] 56)).heap.size = w.heap.size + 1 := by simp
    rw [e] at this; exact this
  have HO := Hid.mk' (eqO oa ob ol oc bl bc ops ops W (h1.below hB) (h2.below hB) rfl)
  have HZ := Hid.mk' (fun wx (hx : Below W.heap.size W wx) => eqZ ya yb yl yc zl zc yes yes wx ((h3.below hB).below hx) ((h4.below hB).below hx) rfl)
  have HW := Hid.mk' hW
  have hn : (tx == tx) = true := by simp
  have hs : (st == st) = true := by simp
  clear hW h1 h2 h3 h4
  go_enter Try.func46, Try.ntmps46
  go_wp2_with fail
  rw [HW.out]
  refine HO.out.mono ?_
  rintro e w1 ⟨rfl, hb1⟩
  have hB1 := hB.trans (hb1.mono hB.size)
  obtain ⟨x0, x1, x2, x3⟩ := (hx.below hb1).cells
  obtain ⟨y0, y1, y2, y3⟩ := (hy.below hb1).cells
  clear HO HW hx hy
  go_wp2_with fail
  refine (HZ.out _ hb1).mono ?_
  rintro e w2 ⟨rfl, hb2⟩
  have hB2 := hB1.trans (hb2.mono hB1.size)
  clear HZ x0 x1 x2 x3 y0 y1 y2 y3
  go_wp2_with fail
  go_ret
  exact ⟨rfl, hB2⟩
set_option maxRecDepth 100000 in
set_option maxHeartbeats 2000000 in
theorem eqJobsT (a a2 : Option Addr) (len cap cap2 : Nat) (l : List Jb) (w : World) (h : SlG jobR w a len l) (h2 : SlG jobR w a2 len l) :
    Calls Try.prog 32 #[.slice a len cap, .slice a2 len cap2] w fun e w' => e = .returned (.bool true) ∧ Below w.heap.size w w' := by
  have hl := h.1
  have hm := h.2.1
  unfold maxLen at hm
  have hb : ((len : Int) == (len : Int)) = true := by simp
  go_enter Try.func32, Try.ntmps32
  go_wp2_with fail
  go_loopw [5] (fun i wr => ∃ k : Nat, k ≤ len ∧ i = .int .i64 k ∧ Below w.heap.size w wr) (fun i _ => len - (intOf i).toNat)
  case atStart => exact ⟨0, Nat.zero_le _, rfl, Below.refl _ _⟩
  case round =>
    obtain ⟨k, hk, rfl, hB⟩ := hrel
    by_cases hlt : k < len
    · have hltl : k < l.length := by omega
      obtain ⟨b, off, e⟩ := slg_some h (by omega)
      obtain ⟨b2, off2, e2⟩ := slg_some h2 (by omega)
      subst e e2
      have hki : (k : Int) < (len : Int) := by omega
      obtain ⟨c0, c2, ⟨oa, ol, oc, c1, hO1, _⟩, ya, yl, yc, c3, hY1, _⟩ := job_at (h.below hB) k hltl
      obtain ⟨d0, d2, ⟨ob, bl, bc, d1, hO2, _⟩, yb, zl, zc, d3, hY2, _⟩ := job_at (h2.below hB) k hltl
      have o0 := last.On.cell (B := wr.heap.size) c0 (World.block_lt_of_cell? _ _ c0)
      have o1 := last.On.cell (B := wr.heap.size) c1 (World.block_lt_of_cell? _ _ c1)
      have o2 := last.On.cell (B := wr.heap.size) c2 (World.block_lt_of_cell? _ _ c2)
      have o3 := last.On.cell (B := wr.heap.size) c3 (World.block_lt_of_cell? _ _ c3)
      have p0 := last.On.cell (B := wr.heap.size) d0 (World.block_lt_of_cell? _ _ d0)
      have p1 := last.On.cell (B := wr.heap.size) d1 (World.block_lt_of_cell? _ _ d1)
      have p2 := last.On.cell (B := wr.heap.size) d2 (World.block_lt_of_cell? _ _ d2)
      have p3 := last.On.cell (B := wr.heap.size) d3 (World.block_lt_of_cell? _ _ d3)
      have hinh := last.On.inh wr.heap.size wr
      have hcall : ∀ x : last.On wr.heap.size wr, Calls Try.prog 46 #[.agg #[.int .i64 l[k].1, .slice oa ol oc, .int .i64 l[k].2.2.1, .slice ya yl yc], .agg #[.int .i64 l[k].1, .slice ob bl bc, .int .i64 l[k].2.2.1, .slice yb zl zc]] x.w fun e w' => e = .returned (.bool true) ∧ ∃ y : last.On wr.heap.size wr, w' = y.w := fun x => last.Calls.on x (Nat.le_refl _) (eqJobT _ _ oa ob ol oc bl bc ya yb yl yc zl zc l[k].2.1 l[k].2.2.2 x.w (hO1.below x.2) (hO2.below x.2) (hY1.below x.2) (hY2.below x.2))
      clear h h2 hO1 hO2 hY1 hY2
      generalize l[k] = p at *
      go_wp2_with fail
      refine last.wp_region_on wr.heap.size (by kernel_rfl) (by kernel_rfl) ?_
      repeat (go_big_quiet_step ((go_at_call 46; exact hcall _)))
      refine wpQuiet_nil ?_
      intro w5 hw5
      obtain ⟨x5, hw5⟩ := hw5
      subst hw5
      have hB5 : Below w.heap.size w x5.w := hB.trans (x5.2.mono hB.size)
      go_wp2_with fail
      go_roundw
      case rel => exact ⟨k + 1, by omega, by go_num, hB5⟩
      case measure => simp [intOf]; omega
    · have hnk : ¬ (k : Int) < (len : Int) := by omega
      go_wp2_with fail
      go_ret
      exact ⟨rfl, hB⟩
set_option maxRecDepth 100000 in
set_option maxHeartbeats 2000000 in
theorem eqCoordT (ja jb : Option Addr) (jn jc jm jd : Nat) (la lb : Option Addr) (ln lc lm ld : Nat) (c : Co) (w : World) (h1 : SeeCo w ja jn jc la ln lc c) (h2 : SeeCo w jb jm jd lb lm ld c) :
    Calls Try.prog 18 #[coV c.1 c.2.1 c.2.2.1 c.2.2.2.2.2 ja jn jc la ln lc, coV c.1 c.2.1 c.2.2.1 c.2.2.2.2.2 jb jm jd lb lm ld] w fun e w' => e = .returned (.bool true) ∧ Below w.heap.size w w' := by
  have e1 : jm = jn := h2.jobs.1.symm.trans h1.jobs.1
  have e2 : lm = ln := h2.log.1.symm.trans h1.log.1
  subst e1 e2
  obtain ⟨W, hW⟩ : ∃ W, (w.alloc (coO c.1 c.2.1 c.2.2.1 c.2.2.2.2.2 ja jm jc la lm lc)).alloc (coO c.1 c.2.1 c.2.2.1 c.2.2.2.2.2 jb jm jd lb lm ld) = W := ⟨_, rfl⟩
  have hB : Below w.heap.size w W := by rw [← hW]; exact below_two _ _ _
  have hx : BoxC w.heap.size c.1 c.2.1 c.2.2.1 c.2.2.2.2.2 ja jm jc la lm lc W := by rw [← hW]; exact BoxC.below (boxC_new w _ _ _ _ _ _ _ _ _ _) (below_new _ _)
  have hy : BoxC (w.heap.size + 1) c.1 c.2.1 c.2.2.1 c.2.2.2.2.2 jb jm jd lb lm ld W := by
    rw [← hW]
    have := boxC_new (w.alloc (coO c.1 c.2.1 c.2.2.1 c.2.2.2.2.2 ja jm jc la lm lc)) c.1 c.2.1 c.2.2.1 c.2.2.2.2.2 jb jm jd lb lm ld
    have e : (w.alloc (coO c.1 c.2.1 c.2.2.1 c.2.2.2.2.2 ja jm jc la lm lc)).heap.size = w.heap.size + 1 := by simp
    rw [e] at this; exact this
  have HJ := Hid.mk' (eqJobsT ja jb jm jc jd c.2.2.2.1 W (h1.jobs.below hB) (h2.jobs.below hB))
  have HL := Hid.mk' (fun wx (hx : Below W.heap.size W wx) => eqChoicesT la lb lm lc ld c.2.2.2.2.1 wx ((h1.log.below hB).below hx) ((h2.log.below hB).below hx))
  have HW := Hid.mk' hW
  clear hW h1 h2
  generalize c.1 = n at *
  generalize c.2.1 = life at *
  generalize c.2.2.1 = next at *
  generalize c.2.2.2.2.2 = sure at *
  have n1 : (n == n) = true := by simp
  have n2 : (life == life) = true := by simp
  have n3 : (next == next) = true := by simp
  have n4 : (sure == sure) = true := by simp
  go_enter Try.func18, Try.ntmps18
  go_wp2_with fail
  rw [HW.out]
  refine HJ.out.mono ?_
  rintro e w1 ⟨rfl, hb1⟩
  have hB1 := hB.trans (hb1.mono hB.size)
  obtain ⟨x0, x1, x2, x3, x4, x5⟩ := (hx.below hb1).cells
  obtain ⟨y0, y1, y2, y3, y4, y5⟩ := (hy.below hb1).cells
  clear HJ HW
  go_wp2_with fail
  refine (HL.out _ hb1).mono ?_
  rintro e w2 ⟨rfl, hb2⟩
  have hb3 := hb1.trans (hb2.mono hb1.size)
  have hB2 := hB1.trans (hb2.mono hB1.size)
  clear HL x0 x1 x2 x3 x4 x5 y0 y1 y2 y3 y4 y5
  obtain ⟨x0, x1, x2, x3, x4, x5⟩ := (hx.below hb3).cells
  obtain ⟨y0, y1, y2, y3, y4, y5⟩ := (hy.below hb3).cells
  go_wp2_with fail
  go_ret
  exact ⟨rfl, hB2⟩
end Go.Proofs.Ytmibabclefgljaa.cos

namespace Go.Proofs.Ytmibabclefgljaa.cos
open Go Go.RowKit Go.Proofs.Ytmibabclefgljaa.base Go.Proofs.Ytmibabclefgljaa.pairs Go.Proofs.Ytmibabclefgljaa.ords Go.Proofs.Ytmibabclefgljaa.lay Go.Proofs.Ytmibabclefgljaa.wds
set_option linter.unusedVariables false
set_option linter.unusedSimpArgs false

def jsz (j : Jb) : Nat := j.2.1.length + sumO j.2.1 + j.2.2.2.length
def sumJ (l : List Jb) : Nat := (l.map jsz).sum
theorem sumJ_take (l : List Jb) (k : Nat) (h : k < l.length) : sumJ (l.take (k + 1)) = sumJ (l.take k) + jsz l[k] := by
  unfold sumJ
  rw [List.take_succ_eq_append_getElem h, List.map_append, List.sum_append]; simp
theorem sumJ_le (l : List Jb) (k : Nat) : sumJ (l.take k) ≤ sumJ l := by
  conv => rhs; rw [← List.take_append_drop k l]
  unfold sumJ
  rw [List.map_append, List.sum_append]; omega
theorem sumJ_mem {l : List Jb} {j : Jb} (h : j ∈ l) : jsz j ≤ sumJ l := by
  obtain ⟨i, hi, rfl⟩ := List.getElem_of_mem h
  have h1 := sumJ_take l i hi
  have h2 := sumJ_le l (i + 1)
  omega
theorem szIntS (a : Option Addr) (len cap : Nat) (L : Nat) (w : World) (hm : len ≤ 9223372036854775807) (hL : L ≤ 1099511627776) :
    Calls Try.prog 51 #[.slice a len cap, .int .i64 (L : Int)] w fun e w' => e = .returned (.int .i64 (pairs.szR L len)) ∧ w' = w := by
  by_cases h : len ≤ L
  · have h1 : ¬ (L : Int) - (len : Int) < 0 := by omega
    rw [pairs.szR_pos h]
    go_enter Try.func51, Try.ntmps51
    go_wp2
    go_ret
    exact ⟨rfl, rfl⟩
  · have h1 : (L : Int) - (len : Int) < 0 := by omega
    rw [pairs.szR_neg (by omega)]
    go_enter Try.func51, Try.ntmps51
    go_wp2
    go_ret
    exact ⟨rfl, rfl⟩
theorem szChoiceS (a : Option Addr) (len cap : Nat) (L : Nat) (w : World) (hm : len ≤ 9223372036854775807) (hL : L ≤ 1099511627776) :
    Calls Try.prog 23 #[.slice a len cap, .int .i64 (L : Int)] w fun e w' => e = .returned (.int .i64 (pairs.szR L len)) ∧ w' = w := by
  by_cases h : len ≤ L
  · have h1 : ¬ (L : Int) - (len : Int) < 0 := by omega
    rw [pairs.szR_pos h]
    go_enter Try.func23, Try.ntmps23
    go_wp2
    go_ret
    exact ⟨rfl, rfl⟩
  · have h1 : (L : Int) - (len : Int) < 0 := by omega
    rw [pairs.szR_neg (by omega)]
    go_enter Try.func23, Try.ntmps23
    go_wp2
    go_ret
    exact ⟨rfl, rfl⟩
set_option maxRecDepth 100000 in
set_option maxHeartbeats 1000000 in
theorem szJob (tx st : Int) (oa : Option Addr) (ol oc : Nat) (ya : Option Addr) (yl yc : Nat) (ops : List Od) (yes : List Int) (L : Nat) (w : World) (h1 : SlO w oa ol ops) (h2 : SlZ w ya yl yes) (hL : L ≤ 1099511627776) :
    Calls Try.prog 37 #[.agg #[.int .i64 tx, .slice oa ol oc, .int .i64 st, .slice ya yl yc], .int .i64 (L : Int)] w fun e w' => e = .returned (.int .i64 (pairs.szR L (ops.length + sumO ops + yes.length))) ∧ Below w.heap.size w w' := by
  obtain ⟨W, hW⟩ : ∃ W, w.alloc (.cells #[.int .i64 tx, .slice oa ol oc, .int .i64 st, .slice ya yl yc] 96) = W := ⟨_, rfl⟩
  have hB : Below w.heap.size w W := by rw [← hW]; exact below_new _ _
  have hbx : W.heap[w.heap.size]? = some (.cells #[.int .i64 tx, .slice oa ol oc, .int .i64 st, .slice ya yl yc] 96 (0, 0)) := by rw [← hW]; exact heap_alloc_new w _
  have HW := Hid.mk' hW
  have hs := szOpS oa ol oc ops L W (h1.below hB) hL
  have hyl := h2.1
  have hym := h2.2.1
  unfold maxLen at hym
  clear hW h1 h2
  by_cases hc : ops.length + sumO ops ≤ L
  · rw [pairs.szR_pos hc] at hs
    obtain ⟨m, hm⟩ : ∃ m : Nat, (L : Int) - ((ops.length + sumO ops : Nat) : Int) = (m : Int) := ⟨L - (ops.length + sumO ops), by omega⟩
    rw [hm] at hs
    have HS := Hid.mk' hs
    have hmn : ¬ (m : Int) < 0 := by omega
    have HI := Hid.mk' (fun wx => szIntS ya yl yc m wx (by omega) (by omega))
    by_cases hc2 : yl ≤ m
    · rw [pairs.szR_pos hc2] at HI
      have HR : Hid (pairs.szR L (ops.length + sumO ops + yes.length) = (m : Int) - (yl : Int)) := by show _ = _; rw [pairs.szR_pos (by omega)]; omega
      have h3 : ¬ (m : Int) - (yl : Int) < 0 := by omega
      clear hs hc hc2 hm
      generalize (m : Int) - (yl : Int) = Z at *
      go_enter Try.func37, Try.ntmps37
      go_wp2_with fail
      rw [HW.out]
      refine HS.out.mono ?_
      rintro e w1 ⟨rfl, hb1⟩
      have hB1 := hB.trans (hb1.mono hB.size)
      have hbx1 := (hb1.block _ (Array.getElem?_eq_some_iff.1 hbx).1).trans hbx
      have c3 : w1.cell? ⟨w.heap.size, 3, none⟩ = some (.slice ya yl yc) := cell_cur hbx1 3 _ rfl
      go_wp2_with fail
      refine (HI.out _).mono ?_
      rintro e w2 ⟨rfl, hw2⟩
      replace hw2 := hw2.symm
      subst hw2
      go_wp2_with fail
      go_ret
      exact ⟨ret_int HR.out.symm, hB1⟩
    · rw [pairs.szR_neg (by omega)] at HI
      have HR : Hid (pairs.szR L (ops.length + sumO ops + yes.length) = -1) := by show _ = _; rw [pairs.szR_neg (by omega)]
      clear hs hc hc2 hm
      go_enter Try.func37, Try.ntmps37
      go_wp2_with fail
      rw [HW.out]
      refine HS.out.mono ?_
      rintro e w1 ⟨rfl, hb1⟩
      have hB1 := hB.trans (hb1.mono hB.size)
      have hbx1 := (hb1.block _ (Array.getElem?_eq_some_iff.1 hbx).1).trans hbx
      have c3 : w1.cell? ⟨w.heap.size, 3, none⟩ = some (.slice ya yl yc) := cell_cur hbx1 3 _ rfl
      go_wp2_with fail
      refine (HI.out _).mono ?_
      rintro e w2 ⟨rfl, hw2⟩
      replace hw2 := hw2.symm
      subst hw2
      go_wp2_with fail
      go_ret
      exact ⟨ret_int HR.out.symm, hB1⟩
  · rw [pairs.szR_neg (by omega)] at hs
    have HR : Hid (pairs.szR L (ops.length + sumO ops + yes.length) = -1) := by show _ = _; rw [pairs.szR_neg (by omega)]
    have HS := Hid.mk' hs
    clear hs hc
    go_enter Try.func37, Try.ntmps37
    go_wp2_with fail
    rw [HW.out]
    refine HS.out.mono ?_
    rintro e w1 ⟨rfl, hb1⟩
    have hB1 := hB.trans (hb1.mono hB.size)
    go_wp2_with fail
    go_ret
    exact ⟨ret_int HR.out.symm, hB1⟩
set_option maxRecDepth 100000 in
set_option maxHeartbeats 2000000 in
theorem szJobS (a : Option Addr) (len cap : Nat) (l : List Jb) (L : Nat) (w : World) (h : SlG jobR w a len l) (hL : L ≤ 1099511627776) :
    Calls Try.prog 22 #[.slice a len cap, .int .i64 (L : Int)] w fun e w' => e = .returned (.int .i64 (pairs.szR L (l.length + sumJ l))) ∧ Below w.heap.size w w' := by
  have hl := h.1
  have hm := h.2.1
  subst hl
  unfold maxLen at hm
  by_cases hneg : L < l.length
  · rw [pairs.szR_neg (by omega)]
    have h1 : (L : Int) - (l.length : Int) < 0 := by omega
    go_enter Try.func22, Try.ntmps22
    go_wp2
    go_ret
    exact ⟨rfl, Below.refl _ _⟩
  · have h1 : ¬ (L : Int) - (l.length : Int) < 0 := by omega
    go_enter Try.func22, Try.ntmps22
    go_wp2_with fail
    go_loopw [1, 5] (fun lv i wr => ∃ k m : Nat, k ≤ l.length ∧ i = .int .i64 (k : Int) ∧ lv = .int .i64 (m : Int) ∧ m + (l.length + sumJ (l.take k)) = L ∧ Below w.heap.size w wr) (fun _ i _ => l.length - (intOf i).toNat)
    case atStart => exact ⟨0, L - l.length, Nat.zero_le _, rfl, by go_num, by simp [sumJ]; omega, Below.refl _ _⟩
    case round =>
      obtain ⟨k, m, hk, rfl, rfl, hmL, hB⟩ := hrel
      by_cases hlt : k < l.length
      · obtain ⟨b, off, ha⟩ := slg_some h (by omega)
        subst ha
        obtain ⟨c0, c2, ⟨oa, ol, oc, c1, hSo, _⟩, ya, yl, yc, c3, hSy, _⟩ := job_at (h.below hB) k hlt
        have hst := sumJ_take l k hlt
        have hle := sumJ_le l (k + 1)
        have hi1 : (k : Int) < (l.length : Int) := by omega
        have hmB : m ≤ 1099511627776 := by omega
        have HML := Hid.mk' hmL
        have HST := Hid.mk' hst
        have HLE := Hid.mk' hle
        generalize l[k] = p at *
        clear hmL hst hle
        have hcall : Calls Try.prog 37 #[.agg #[.int .i64 p.1, .slice oa ol oc, .int .i64 p.2.2.1, .slice ya yl yc], .int .i64 (m : Int)] wr fun e w' => e = .returned (.int .i64 (pairs.szR m (jsz p))) ∧ Below wr.heap.size wr w' := szJob p.1 p.2.2.1 oa ol oc ya yl yc p.2.1 p.2.2.2 m wr hSo hSy hmB
        by_cases hover : m < jsz p
        · rw [pairs.szR_neg hover] at hcall
          have HC := Hid.mk' hcall
          clear hcall
          go_wp2_with fail
          refine HC.out.mono ?_
          rintro e w2 ⟨rfl, hB2⟩
          go_wp2_with fail
          go_ret
          have e1 := HML.out
          have e2 := HST.out
          have e3 := HLE.out
          rw [pairs.szR_neg (by omega)]
          exact ⟨rfl, hB.trans (hB2.mono hB.size)⟩
        · rw [pairs.szR_pos (by omega), show (m : Int) - (jsz p : Int) = ((m - jsz p : Nat) : Int) by omega] at hcall
          have HC := Hid.mk' hcall
          obtain ⟨m2, hm2⟩ : ∃ m2, m - jsz p = m2 := ⟨_, rfl⟩
          rw [hm2] at HC
          have HM2 := Hid.mk' hm2
          have hm2b : m2 ≤ 1099511627776 := by omega
          clear hcall hm2
          go_wp2_with fail
          refine HC.out.mono ?_
          rintro e w2 ⟨rfl, hB2⟩
          go_wp2_with fail
          go_roundw
          case rel => exact ⟨k + 1, m2, by omega, by go_num, rfl, by have e1 := HML.out; have e2 := HST.out; have e3 := HM2.out; omega, hB.trans (hB2.mono hB.size)⟩
          case measure => simp [intOf]; omega
      · have e : k = l.length := by omega
        subst e
        rw [List.take_length] at hmL
        go_wp2_with fail
        go_ret
        rw [pairs.szR_pos (by omega), show (L : Int) - ((l.length + sumJ l : Nat) : Int) = (m : Int) by omega]
        exact ⟨rfl, hB⟩

def csz (c : Co) : Nat := c.2.2.2.1.length + sumJ c.2.2.2.1 + c.2.2.2.2.1.length
set_option maxRecDepth 100000 in
set_option maxHeartbeats 1000000 in
theorem szCoord (ja : Option Addr) (jn jc : Nat) (la : Option Addr) (ln lc : Nat) (c : Co) (L : Nat) (w : World) (h : SeeCo w ja jn jc la ln lc c) (hL : L ≤ 1099511627776) :
    Calls Try.prog 9 #[coV c.1 c.2.1 c.2.2.1 c.2.2.2.2.2 ja jn jc la ln lc, .int .i64 (L : Int)] w fun e w' => e = .returned (.int .i64 (pairs.szR L (csz c))) ∧ Below w.heap.size w w' := by
  obtain ⟨W, hW⟩ : ∃ W, w.alloc (.cells #[.int .i64 c.1, .int .i64 c.2.1, .int .i64 c.2.2.1, .slice ja jn jc, .slice la ln lc, .int .i64 c.2.2.2.2.2] 25) = W := ⟨_, rfl⟩
  have hB : Below w.heap.size w W := by rw [← hW]; exact below_new _ _
  have hbx : W.heap[w.heap.size]? = some (.cells #[.int .i64 c.1, .int .i64 c.2.1, .int .i64 c.2.2.1, .slice ja jn jc, .slice la ln lc, .int .i64 c.2.2.2.2.2] 25 (0, 0)) := by rw [← hW]; exact heap_alloc_new w _
  have HW := Hid.mk' hW
  have hs := szJobS ja jn jc c.2.2.2.1 L W (h.jobs.below hB) hL
  have hll := h.log.1
  have hlm := h.log.2.1
  unfold maxLen at hlm
  have hcz : csz c = c.2.2.2.1.length + sumJ c.2.2.2.1 + ln := by unfold csz; rw [hll]
  clear hW h
  by_cases hc : c.2.2.2.1.length + sumJ c.2.2.2.1 ≤ L
  · rw [pairs.szR_pos hc] at hs
    obtain ⟨m, hm⟩ : ∃ m : Nat, (L : Int) - ((c.2.2.2.1.length + sumJ c.2.2.2.1 : Nat) : Int) = (m : Int) := ⟨L - (c.2.2.2.1.length + sumJ c.2.2.2.1), by omega⟩
    rw [hm] at hs
    have HS := Hid.mk' hs
    have hmn : ¬ (m : Int) < 0 := by omega
    have HI := Hid.mk' (fun wx => szChoiceS la ln lc m wx (by omega) (by omega))
    by_cases hc2 : ln ≤ m
    · rw [pairs.szR_pos hc2] at HI
      have HR : Hid (pairs.szR L (csz c) = (m : Int) - (ln : Int)) := by show _ = _; rw [hcz, pairs.szR_pos (by omega)]; omega
      have h3 : ¬ (m : Int) - (ln : Int) < 0 := by omega
      clear hs hc hc2 hm hcz
      generalize (m : Int) - (ln : Int) = Z at *
      go_enter Try.func9, Try.ntmps9
      go_wp2_with fail
      rw [HW.out]
      refine HS.out.mono ?_
      rintro e w1 ⟨rfl, hb1⟩
      have hB1 := hB.trans (hb1.mono hB.size)
      have hbx1 := (hb1.block _ (Array.getElem?_eq_some_iff.1 hbx).1).trans hbx
      have c3 : w1.cell? ⟨w.heap.size, 4, none⟩ = some (.slice la ln lc) := cell_cur hbx1 4 _ rfl
      go_wp2_with fail
      refine (HI.out _).mono ?_
      rintro e w2 ⟨rfl, hw2⟩
      replace hw2 := hw2.symm
      subst hw2
      go_wp2_with fail
      go_ret
      exact ⟨ret_int HR.out.symm, hB1⟩
    · rw [pairs.szR_neg (by omega)] at HI
      have HR : Hid (pairs.szR L (csz c) = -1) := by show _ = _; rw [hcz, pairs.szR_neg (by omega)]
      clear hs hc hc2 hm hcz
      go_enter Try.func9, Try.ntmps9
      go_wp2_with fail
      rw [HW.out]
      refine HS.out.mono ?_
      rintro e w1 ⟨rfl, hb1⟩
      have hB1 := hB.trans (hb1.mono hB.size)
      have hbx1 := (hb1.block _ (Array.getElem?_eq_some_iff.1 hbx).1).trans hbx
      have c3 : w1.cell? ⟨w.heap.size, 4, none⟩ = some (.slice la ln lc) := cell_cur hbx1 4 _ rfl
      go_wp2_with fail
      refine (HI.out _).mono ?_
      rintro e w2 ⟨rfl, hw2⟩
      replace hw2 := hw2.symm
      subst hw2
      go_wp2_with fail
      go_ret
      exact ⟨ret_int HR.out.symm, hB1⟩
  · rw [pairs.szR_neg (by omega)] at hs
    have HR : Hid (pairs.szR L (csz c) = -1) := by show _ = _; rw [hcz, pairs.szR_neg (by omega)]
    have HS := Hid.mk' hs
    clear hs hc hcz
    go_enter Try.func9, Try.ntmps9
    go_wp2_with fail
    rw [HW.out]
    refine HS.out.mono ?_
    rintro e w1 ⟨rfl, hb1⟩
    have hB1 := hB.trans (hb1.mono hB.size)
    go_wp2_with fail
    go_ret
    exact ⟨ret_int HR.out.symm, hB1⟩
end Go.Proofs.Ytmibabclefgljaa.cos

namespace Go.Proofs.Ytmibabclefgljaa.lay
open Go Go.RowKit Go.Proofs.Ytmibabclefgljaa.base
set_option linter.unusedVariables false

def BoxIn (X : Nat) (T : TypeId) (pre vs post : List Value) (w : World) : Prop := w.heap[X]? = some (.cells (pre ++ vs ++ post).toArray T (0, 0))
section
variable {X : Nat} {T : TypeId} {pre vs post : List Value} {w w' : World} {G F : List Nat}
theorem BoxIn.lt (h : BoxIn X T pre vs post w) : X < w.heap.size := (Array.getElem?_eq_some_iff.1 h).1
theorem BoxIn.keep (h : BoxIn X T pre vs post w) (hk : w'.heap[X]? = w.heap[X]?) : BoxIn X T pre vs post w' := hk.trans h
theorem BoxIn.below (h : BoxIn X T pre vs post w) (hb : Below w.heap.size w w') : BoxIn X T pre vs post w' := h.keep (hb.block X h.lt)
theorem BoxIn.frame (h : BoxIn X T pre vs post w) (hf : Frame G w w') (hn : X ∉ G) : BoxIn X T pre vs post w' := h.keep (hf.block X h.lt hn)
theorem BoxIn.grown {row : Option Nat} (h : BoxIn X T pre vs post w) (hg : w.grownBy w' row) (hn : some X ≠ row) : BoxIn X T pre vs post w' := h.keep (hg.block X h.lt hn)
theorem BoxIn.cell (h : BoxIn X T pre vs post w) (j : Nat) (u : Value) (hj : vs[j]? = some u) : w.cell? ⟨X, pre.length + j, none⟩ = some u := by
  unfold BoxIn at h
  have hl := (List.getElem?_eq_some_iff.1 hj).1
  simp only [World.cell?, h]
  have hu := (List.getElem?_eq_some_iff.1 hj).2
  simp [List.getElem?_append, hl, hu]
theorem BoxIn.fz (h : BoxIn X T pre vs post w) (j : Nat) : w.frozen? ⟨X, j, none⟩ = false := by unfold BoxIn at h; simp [World.frozen?, h]
theorem BoxIn.set (h : BoxIn X T pre vs post w) (j : Nat) (hj : j < vs.length) (u : Value) : BoxIn X T pre (vs.set j u) post (w.setCell ⟨X, pre.length + j, none⟩ u) ∧ w.grownBy (w.setCell ⟨X, pre.length + j, none⟩ u) (some X) := by
  have h1 := set_cur h (pre.length + j) u
  refine ⟨?_, h1.2⟩
  unfold BoxIn
  rw [h1.1]
  congr 2
  rw [List.setIfInBounds_toArray]
  congr 1
  rw [List.append_assoc, List.set_append_right _ _ (by omega), Nat.add_sub_cancel_left, List.set_append_left _ _ hj, List.append_assoc]
theorem boxIn_new (w : World) (vs : List Value) (T : TypeId) : BoxIn w.heap.size T [] vs [] (w.alloc (.cells vs.toArray T)) := by
  unfold BoxIn
  rw [List.nil_append, List.append_nil]
  exact heap_alloc_new w _
end
end Go.Proofs.Ytmibabclefgljaa.lay

namespace Go.Proofs.Ytmibabclefgljaa.lay
open Go Go.RowKit Go.Proofs.Ytmibabclefgljaa.base
set_option linter.unusedVariables false

theorem below_make {w : World} {o : Obj} : Below w.heap.size w (w.alloc o) := (Below.refl _ _).alloc (Nat.le_refl _) _
structure InR {α : Type} (R : Rd α) (T : TypeId) (w : World) (X : Nat) (vs : List Value) (x : α) (F : List Nat) : Prop where
  box : BoxIn X T [] vs [] w
  own : R.own w vs x F
  out : X ∉ F
def RetR {α : Type} (R : Rd α) (w : World) (x : α) (e : Ending) (w' : World) : Prop := ∃ vs F, e = .returned (.agg vs.toArray) ∧ R.own w' vs x F ∧ (∀ k ∈ F, w.heap.size ≤ k) ∧ Below w.heap.size w w'
section
variable {α : Type} {R : Rd α} {T : TypeId} {w w' : World} {X : Nat} {vs : List Value} {x : α} {F G : List Nat}
theorem inR_new (h : R.own w vs x F) : InR R T (w.alloc (.cells vs.toArray T)) w.heap.size vs x F :=
  ⟨boxIn_new w _ _, R.ownBelow h below_make, fun e => by have := R.ownLt h _ e; omega⟩
theorem InR.below (h : InR R T w X vs x F) (hb : Below w.heap.size w w') : InR R T w' X vs x F := ⟨h.box.below hb, R.ownBelow h.own hb, h.out⟩
theorem InR.see (h : InR R T w X vs x F) : R.see w vs x := R.ownSee h.own
theorem InR.lt (h : InR R T w X vs x F) : X < w.heap.size := h.box.lt
end
theorem cells2 {X : Nat} {T : TypeId} {w : World} {v0 v1 : Value} (h : BoxIn X T [] [v0, v1] [] w) : w.cell? ⟨X, 0, none⟩ = some v0 ∧ w.cell? ⟨X, 1, none⟩ = some v1 := by
  have a0 := h.cell 0 _ rfl
  have a1 := h.cell 1 _ rfl
  simp only [List.length_nil, Nat.zero_add] at a0 a1
  exact ⟨a0, a1⟩
theorem cells4 {X : Nat} {T : TypeId} {w : World} {v0 v1 v2 v3 : Value} (h : BoxIn X T [] [v0, v1, v2, v3] [] w) : w.cell? ⟨X, 0, none⟩ = some v0 ∧ w.cell? ⟨X, 1, none⟩ = some v1 ∧ w.cell? ⟨X, 2, none⟩ = some v2 ∧ w.cell? ⟨X, 3, none⟩ = some v3 := by
  have a0 := h.cell 0 _ rfl
  have a1 := h.cell 1 _ rfl
  have a2 := h.cell 2 _ rfl
  have a3 := h.cell 3 _ rfl
  simp only [List.length_nil, Nat.zero_add] at a0 a1 a2 a3
  exact ⟨a0, a1, a2, a3⟩
theorem cells6 {X : Nat} {T : TypeId} {w : World} {v0 v1 v2 v3 v4 v5 : Value} (h : BoxIn X T [] [v0, v1, v2, v3, v4, v5] [] w) : w.cell? ⟨X, 0, none⟩ = some v0 ∧ w.cell? ⟨X, 1, none⟩ = some v1 ∧ w.cell? ⟨X, 2, none⟩ = some v2 ∧ w.cell? ⟨X, 3, none⟩ = some v3 ∧ w.cell? ⟨X, 4, none⟩ = some v4 ∧ w.cell? ⟨X, 5, none⟩ = some v5 := by
  have a0 := h.cell 0 _ rfl
  have a1 := h.cell 1 _ rfl
  have a2 := h.cell 2 _ rfl
  have a3 := h.cell 3 _ rfl
  have a4 := h.cell 4 _ rfl
  have a5 := h.cell 5 _ rfl
  simp only [List.length_nil, Nat.zero_add] at a0 a1 a2 a3 a4 a5
  exact ⟨a0, a1, a2, a3, a4, a5⟩
theorem vals10 {vs : List Value} (h : vs.length = 10) : ∃ v0 v1 v2 v3 v4 v5 v6 v7 v8 v9, vs = [v0, v1, v2, v3, v4, v5, v6, v7, v8, v9] := by
  match vs, h with
  | [v0, v1, v2, v3, v4, v5, v6, v7, v8, v9], _ => exact ⟨v0, v1, v2, v3, v4, v5, v6, v7, v8, v9, rfl⟩
theorem cells10 {X : Nat} {T : TypeId} {w : World} {v0 v1 v2 v3 v4 v5 v6 v7 v8 v9 : Value} (h : BoxIn X T [] [v0, v1, v2, v3, v4, v5, v6, v7, v8, v9] [] w) : w.cell? ⟨X, 0, none⟩ = some v0 ∧ w.cell? ⟨X, 1, none⟩ = some v1 ∧ w.cell? ⟨X, 2, none⟩ = some v2 ∧ w.cell? ⟨X, 3, none⟩ = some v3 ∧ w.cell? ⟨X, 4, none⟩ = some v4 ∧ w.cell? ⟨X, 5, none⟩ = some v5 ∧ w.cell? ⟨X, 6, none⟩ = some v6 ∧ w.cell? ⟨X, 7, none⟩ = some v7 ∧ w.cell? ⟨X, 8, none⟩ = some v8 ∧ w.cell? ⟨X, 9, none⟩ = some v9 := by
  have a0 := h.cell 0 _ rfl
  have a1 := h.cell 1 _ rfl
  have a2 := h.cell 2 _ rfl
  have a3 := h.cell 3 _ rfl
  have a4 := h.cell 4 _ rfl
  have a5 := h.cell 5 _ rfl
  have a6 := h.cell 6 _ rfl
  have a7 := h.cell 7 _ rfl
  have a8 := h.cell 8 _ rfl
  have a9 := h.cell 9 _ rfl
  simp only [List.length_nil, Nat.zero_add] at a0 a1 a2 a3 a4 a5 a6 a7 a8 a9
  exact ⟨a0, a1, a2, a3, a4, a5, a6, a7, a8, a9⟩
theorem keepBoth10 {w w' : World} {X A : Nat} {x0 x1 x2 x3 x4 x5 x6 x7 x8 x9 a0 a1 a2 a3 a4 a5 a6 a7 a8 a9 : Value} (hb : Below w.heap.size w w') (h : w.cell? ⟨X, 0, none⟩ = some x0 ∧ w.cell? ⟨X, 1, none⟩ = some x1 ∧ w.cell? ⟨X, 2, none⟩ = some x2 ∧ w.cell? ⟨X, 3, none⟩ = some x3 ∧ w.cell? ⟨X, 4, none⟩ = some x4 ∧ w.cell? ⟨X, 5, none⟩ = some x5 ∧ w.cell? ⟨X, 6, none⟩ = some x6 ∧ w.cell? ⟨X, 7, none⟩ = some x7 ∧ w.cell? ⟨X, 8, none⟩ = some x8 ∧ w.cell? ⟨X, 9, none⟩ = some x9 ∧ w.cell? ⟨A, 0, none⟩ = some a0 ∧ w.cell? ⟨A, 1, none⟩ = some a1 ∧ w.cell? ⟨A, 2, none⟩ = some a2 ∧ w.cell? ⟨A, 3, none⟩ = some a3 ∧ w.cell? ⟨A, 4, none⟩ = some a4 ∧ w.cell? ⟨A, 5, none⟩ = some a5 ∧ w.cell? ⟨A, 6, none⟩ = some a6 ∧ w.cell? ⟨A, 7, none⟩ = some a7 ∧ w.cell? ⟨A, 8, none⟩ = some a8 ∧ w.cell? ⟨A, 9, none⟩ = some a9) :
    w'.cell? ⟨X, 0, none⟩ = some x0 ∧ w'.cell? ⟨X, 1, none⟩ = some x1 ∧ w'.cell? ⟨X, 2, none⟩ = some x2 ∧ w'.cell? ⟨X, 3, none⟩ = some x3 ∧ w'.cell? ⟨X, 4, none⟩ = some x4 ∧ w'.cell? ⟨X, 5, none⟩ = some x5 ∧ w'.cell? ⟨X, 6, none⟩ = some x6 ∧ w'.cell? ⟨X, 7, none⟩ = some x7 ∧ w'.cell? ⟨X, 8, none⟩ = some x8 ∧ w'.cell? ⟨X, 9, none⟩ = some x9 ∧ w'.cell? ⟨A, 0, none⟩ = some a0 ∧ w'.cell? ⟨A, 1, none⟩ = some a1 ∧ w'.cell? ⟨A, 2, none⟩ = some a2 ∧ w'.cell? ⟨A, 3, none⟩ = some a3 ∧ w'.cell? ⟨A, 4, none⟩ = some a4 ∧ w'.cell? ⟨A, 5, none⟩ = some a5 ∧ w'.cell? ⟨A, 6, none⟩ = some a6 ∧ w'.cell? ⟨A, 7, none⟩ = some a7 ∧ w'.cell? ⟨A, 8, none⟩ = some a8 ∧ w'.cell? ⟨A, 9, none⟩ = some a9 := by
  have keep : ∀ b o v, w.cell? ⟨b, o, none⟩ = some v → w'.cell? ⟨b, o, none⟩ = some v := fun b o v hv => (hb.cell (p := ⟨b, o, none⟩) (World.block_lt_of_cell? w _ hv)).trans hv
  obtain ⟨h0, h1, h2, h3, h4, h5, h6, h7, h8, h9, k0, k1, k2, k3, k4, k5, k6, k7, k8, k9⟩ := h
  exact ⟨keep _ _ _ h0, keep _ _ _ h1, keep _ _ _ h2, keep _ _ _ h3, keep _ _ _ h4, keep _ _ _ h5, keep _ _ _ h6, keep _ _ _ h7, keep _ _ _ h8, keep _ _ _ h9, keep _ _ _ k0, keep _ _ _ k1, keep _ _ _ k2, keep _ _ _ k3, keep _ _ _ k4, keep _ _ _ k5, keep _ _ _ k6, keep _ _ _ k7, keep _ _ _ k8, keep _ _ _ k9⟩
end Go.Proofs.Ytmibabclefgljaa.lay
