/- The draw of what a shard is asked to hold. -/
import Derived.Test.YtddolmklnifnmaaGreatDoorBund9bk
namespace Go.Proofs.YtddolmklnifnmaaGreatDoor.recs
open Go Go.RowKit Go.Proofs.YtddolmklnifnmaaGreatDoor.base Go.Proofs.YtddolmklnifnmaaGreatDoor.pairs Go.Proofs.YtddolmklnifnmaaGreatDoor.ords Go.Proofs.YtddolmklnifnmaaGreatDoor.helps Go.Proofs.YtddolmklnifnmaaGreatDoor.help Go.Proofs.YtddolmklnifnmaaGreatDoor.lay Go.Proofs.YtddolmklnifnmaaGreatDoor.draw
set_option linter.unusedVariables false
set_option linter.unusedSimpArgs false

def GotHS (w : World) (e : Ending) (w' : World) : Prop :=
  ∃ (la : Option Addr) (ln lc : Nat) (ma : Option Addr) (mn mc : Nat) (ha : Option Addr) (hn hc : Nat) (s : Shd) (F : List Nat) (z : Int) (g m cp : Nat) (l : List Od), AnyS s ∧ (0 ≤ z ∧ z ≤ 9) ∧ (m ≤ 8 ∧ ∀ p ∈ l, tinyO p) ∧ e = .returned (.tuple #[aggSh s.1 s.2.2.1 la ln lc ma mn mc ha hn hc, .int .i64 z, .slice (some ⟨g, 0, none⟩) m cp]) ∧ OwnSh w' la ln lc ma mn mc ha hn hc s F ∧ (∀ k ∈ F, w.heap.size ≤ k) ∧ OwnO w' w.heap.size g m cp l ∧ Below w.heap.size w w'
theorem gotHS_mk {w w' : World} {la ma ha : Option Addr} {ln lc mn mc hn hc : Nat} {s : Shd} {F : List Nat} {z : Int} {g m cp : Nat} {l : List Od} (hd : AnyS s) (hz : 0 ≤ z ∧ z ≤ 9) (hl : m ≤ 8 ∧ ∀ p ∈ l, tinyO p) (h : OwnSh w' la ln lc ma mn mc ha hn hc s F) (hF : ∀ k ∈ F, w.heap.size ≤ k) (ho : OwnO w' w.heap.size g m cp l) (hb : Below w.heap.size w w') : GotHS w (.returned (.tuple #[aggSh s.1 s.2.2.1 la ln lc ma mn mc ha hn hc, .int .i64 z, .slice (some ⟨g, 0, none⟩) m cp])) w' :=
  ⟨la, ln, lc, ma, mn, mc, ha, hn, hc, s, F, z, g, m, cp, l, hd, hz, hl, rfl, h, hF, ho, hb⟩
set_option maxRecDepth 100000 in
set_option maxHeartbeats 4000000 in
theorem drawHold (a : Option Addr) (len cap : Nat) (code : List UInt8) (w : World) (h : Sl w a len code) (hln : len ≤ 1099511627776) :
    Calls Tryz.prog 8 #[.slice a len cap] w (GotHS w) := by
  obtain ⟨W, hW⟩ : ∃ W, w.alloc (boxSh 0 0 none 0 0 none 0 0 none 0 0) = W := ⟨_, rfl⟩
  have hB : Below w.heap.size w W := by rw [← hW]; exact below_two
  have hR : BoxIn w.heap.size TSh [] (shVals 0 0 none 0 0 none 0 0 none 0 0) [] W := by rw [← hW]; exact boxIn_new w _ _
  have hXl := hR.lt
  have HW := Hid.mk' hW
  clear hW
  go_enter Tryz.func8, Tryz.ntmps8
  go_wp2_with fail
  rw [HW.out]
  refine (new_ w W a len cap code h hB hln).mono ?_
  rintro e w1 ⟨rfl, hc1, hb1⟩
  have hR1 := hR.below hb1
  have hB1 := hB.trans (hb1.mono hB.size)
  have hgc := hc1.lt
  clear HW
  go_wp2_with fail
  refine (size_ a len cap 16 w1 (by omega) (by omega) hln).mono ?_
  rintro e w2 ⟨n, hn3, hn24, rfl, hw2⟩
  subst hw2
  have HDS := Hid.mk' (d_any w w2 W.heap.size a len cap code n hc1 (by omega) (by omega))
  go_wp2_with fail
  refine HDS.out.mono ?_
  rintro e w3 ⟨la, ln, lc, ma, mn, mc, ha, hn, hc, s, F, hD, rfl, hOS, hFn, hc3, hg3⟩
  have hR3 := hR1.grown hg3 (fun e => by have := Option.some.inj e; omega)
  have hB3 : Below w.heap.size w w3 := hB1.grown hg3 hB1.size (fun k e => by cases e; exact hB.size)
  have hs2 := hB1.size
  have hs3 := hg3.size
  have hs1 := hb1.size
  have hs0 := hB.size
  obtain ⟨w4, hw4⟩ : ∃ w4, w3.alloc (.cells #[.int .i64 1, .int .i64 2, .int .i64 7, .int .i64 8, .int .i64 9, .int .i64 0] 3) = w4 := ⟨_, rfl⟩
  have hb4 : Below w3.heap.size w3 w4 := by rw [← hw4]; exact below_two
  have hL4 : w4.heap[w3.heap.size]? = some (.cells #[.int .i64 1, .int .i64 2, .int .i64 7, .int .i64 8, .int .i64 9, .int .i64 0] 3) := by rw [← hw4]; exact heap_alloc_new w3 _
  have HIN := Hid.mk' (int_ w w4 W.heap.size a len cap code w3.heap.size 6 6 _ _ (hc3.below hb4) hL4 rfl (by omega) (by omega) (by omega) (fun z => decide (0 ≤ z ∧ z ≤ 9) = true) (some_atI _ 6 (fun z => decide (0 ≤ z ∧ z ≤ 9)) (by kernel_rfl)))
  rw [← hw4] at HIN
  have HW4 := Hid.mk' hw4
  have hR4 := hR3.below hb4
  have hB4 := hB3.trans (hb4.mono hB3.size)
  have hO4 := hOS.below hb4
  have hs34 := hb4.size
  clear hw4 hL4 hOS hR3 hR1 hR hc3 hc1 hB1 hb1 HDS
  go_wp2_with fail
  refine HIN.out.mono ?_
  rw [HW4.out]
  rintro e w5 ⟨z, hz, rfl, hc5, hg5⟩
  have hz' := of_decide_eq_true hz
  have hR5 := hR4.grown hg5 (fun e => by have := Option.some.inj e; omega)
  have hB5 : Below w.heap.size w w5 := hB4.grown hg5 hB4.size (fun k e => by cases e; exact hB.size)
  have hO5 := hO4.keep (fun j hj => hg5.block j (hO4.lt j hj) (fun e => by have := hFn j hj; have := Option.some.inj e; omega))
  have HAN := Hid.mk' (d_anyO w w5 W.heap.size a len cap code hc5)
  have hs5 := hg5.size
  clear HIN HW4 hR4 hB4 hO4 hg5 hb4 hB3 hg3
  go_wp2_with fail
  refine HAN.out.mono ?_
  rintro e w6 ⟨go, m, cp, l, hm, htt, rfl, hOo, hc6, hg6⟩
  have hR6 := hR5.grown hg6 (fun e => by have := Option.some.inj e; omega)
  have hB6 : Below w.heap.size w w6 := hB5.grown hg6 hB5.size (fun k e => by cases e; exact hB.size)
  have hO6 := hO5.keep (fun j hj => hg6.block j (hO5.lt j hj) (fun e => by have := hFn j hj; have := Option.some.inj e; omega))
  have hol := hOo.lt
  clear HAN hR5 hB5 hO5 hc5 hc6 hg6
  have z0 := hR6.cell 0 _ rfl
  have z1 := hR6.cell 1 _ rfl
  have z2 := hR6.cell 2 _ rfl
  have z3 := hR6.cell 3 _ rfl
  have z4 := hR6.cell 4 _ rfl
  simp only [List.length_nil, Nat.zero_add] at z0 z1 z2 z3 z4
  have f0 := hR6.fz 0
  have f1 := hR6.fz 1
  have f2 := hR6.fz 2
  have f3 := hR6.fz 3
  have f4 := hR6.fz 4
  have hS5 := hR6.set5 (.int .i64 s.1) (.slice la ln lc) (.int .i64 s.2.2.1) (.slice ma mn mc) (.slice ha hn hc)
  simp only [List.length_nil, Nat.zero_add] at hS5
  have hOz := hO6.keep (fun j hj => hS5.2.block j (hO6.lt j hj) (fun e => by have := hFn j hj; have := Option.some.inj e; omega))
  have hOoz : OwnO _ w.heap.size go m cp l := (hOo.grown hS5.2 (by simp; omega)).mono (by omega)
  have hBz := hB6.grown hS5.2 hB6.size (fun j e => by cases e; exact Nat.le_refl _)
  have hzc0 := hS5.1.cell 0 _ rfl
  have hzc1 := hS5.1.cell 1 _ rfl
  have hzc2 := hS5.1.cell 2 _ rfl
  have hzc3 := hS5.1.cell 3 _ rfl
  have hzc4 := hS5.1.cell 4 _ rfl
  simp only [List.length_nil, Nat.zero_add] at hzc0 hzc1 hzc2 hzc3 hzc4
  have HP := Hid.mk' (gotHS_mk (w := w) hD hz' ⟨by omega, htt⟩ hOz (fun k hk => Nat.le_trans hs2 (hFn k hk)) hOoz hBz)
  clear hOz hBz hS5 hO6 hR6 hB6 hOo hOoz
  go_wp2_with fail
  refine bodyPost_ret (v := .tuple #[aggSh s.1 s.2.2.1 la ln lc ma mn mc ha hn hc, .int .i64 z, .slice (some ⟨go, 0, none⟩) m cp]) ?_ rfl HP.out
  simp [results, Tryz.results8, go_sem, hzc0, hzc1, hzc2, hzc3, hzc4]
end Go.Proofs.YtddolmklnifnmaaGreatDoor.recs
