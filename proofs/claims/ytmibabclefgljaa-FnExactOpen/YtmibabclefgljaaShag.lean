/- The laws' helpers for one record: its size, alike, marked, held. The laws' helpers for records: alike, marked, held. A block of three cells: small facts on worlds; no function of the program is named here. Rows of pairs that a law made, kept from step to step; arguments that are pairs, opened. An argument that is a slice of orders, opened. The laws' helpers for records that are handed in: copied; and the arguments, opened. The laws' own harness at slices of records: made anew, and counted. What the exact law of ReplayRecs keeps from step to step: the records that were handed in, the answer's pairs and records and the specification's. The specification's shard: whether it is right. The specification's copy of records. The specification's shard: a copy of it. -/
import Derived.Test.YtmibabclefgljaaShae
import Derived.Test.YtmibabclefgljaaShac
import Derived.Test.YtmibabclefgljaaShab
import Derived.Deep.SlicePairs
import Derived.ChangeArms
import Derived.Test.YtmibabclefgljaaShaf
namespace Go.Proofs.Ytmibabclefgljaa.recs
open Go Go.RowKit Go.Proofs.Ytmibabclefgljaa.base Go.Proofs.Ytmibabclefgljaa.pairs Go.Proofs.Ytmibabclefgljaa.ords Go.Proofs.Ytmibabclefgljaa.helps
set_option linter.unusedVariables false
set_option linter.unusedSimpArgs false

set_option maxRecDepth 100000 in
set_option maxHeartbeats 1000000 in
theorem szRec (kind tx : Int) (a : Option Addr) (len cap : Nat) (l : List Od) (L : Nat) (w : World) (h : SlO w a len l) (hL : L ≤ 1099511627776) :
    Calls Try.prog 52 #[.agg #[.int .i64 kind, .int .i64 tx, .slice a len cap], .int .i64 (L : Int)] w fun e w' => e = .returned (.int .i64 (pairs.szR L (l.length + sumO l))) ∧ Below w.heap.size w w' := by
  have hba : Below w.heap.size w (w.alloc (.cells #[.int .i64 kind, .int .i64 tx, .slice a len cap] 116)) := (Below.refl _ _).alloc (Nat.le_refl _) _
  have HS := Hid.mk' (szOpS a len cap l L _ (h.below hba) hL)
  by_cases hc : l.length + sumO l ≤ L
  · rw [pairs.szR_pos hc] at HS ⊢
    have hn : ¬ (L : Int) - ((l.length + sumO l : Nat) : Int) < 0 := by omega
    generalize (L : Int) - ((l.length + sumO l : Nat) : Int) = S at *
    go_enter Try.func52, Try.ntmps52
    go_wp2_with fail
    refine HS.out.mono ?_
    rintro e w1 ⟨rfl, hb1⟩
    go_wp2_with fail
    go_ret
    exact ⟨rfl, hba.trans (hb1.mono hba.size)⟩
  · rw [pairs.szR_neg (by omega)] at HS ⊢
    go_enter Try.func52, Try.ntmps52
    go_wp2_with fail
    refine HS.out.mono ?_
    rintro e w1 ⟨rfl, hb1⟩
    go_wp2_with fail
    go_ret
    exact ⟨rfl, hba.trans (hb1.mono hba.size)⟩

set_option maxRecDepth 100000 in
set_option maxHeartbeats 1000000 in
theorem eqRecT (kind tx : Int) (pa qa : Option Addr) (pl pc ql qc : Nat) (l : List Od) (w : World) (hx : SlO w pa pl l) (hy : SlO w qa ql l) :
    Calls Try.prog 60 #[.agg #[.int .i64 kind, .int .i64 tx, .slice pa pl pc], .agg #[.int .i64 kind, .int .i64 tx, .slice qa ql qc]] w fun e w' => e = .returned (.bool true) ∧ Below w.heap.size w w' := by
  obtain ⟨W, hW⟩ : ∃ W, (w.alloc (.cells #[.int .i64 kind, .int .i64 tx, .slice pa pl pc] 125)).alloc (.cells #[.int .i64 kind, .int .i64 tx, .slice qa ql qc] 125) = W := ⟨_, rfl⟩
  have hB : Below w.heap.size w W := by rw [← hW]; exact ((Below.refl _ _).alloc (Nat.le_refl _) _).alloc (by simp) _
  have HE := Hid.mk' (eqO pa qa pl pc ql qc l l W (hx.below hB) (hy.below hB) rfl)
  have HW := Hid.mk' hW
  clear hW
  have hn : (kind == kind) = true := by simp
  have hf : (tx == tx) = true := by simp
  go_enter Try.func60, Try.ntmps60
  go_wp2_with fail
  rw [HW.out]
  refine HE.out.mono ?_
  rintro e w1 ⟨rfl, hb1⟩
  have hB1 := hB.trans (hb1.mono hB.size)
  clear HE HW hb1
  go_wp2_with fail
  go_ret
  exact ⟨rfl, hB1⟩

end Go.Proofs.Ytmibabclefgljaa.recs

namespace Go.Proofs.Ytmibabclefgljaa.recs
open Go Go.RowKit Go.Proofs.Ytmibabclefgljaa.base Go.Proofs.Ytmibabclefgljaa.pairs Go.Proofs.Ytmibabclefgljaa.ords Go.Proofs.Ytmibabclefgljaa.helps
set_option linter.unusedVariables false
set_option linter.unusedSimpArgs false

set_option maxRecDepth 100000 in
set_option maxHeartbeats 2000000 in
theorem eqRecsT (a a2 : Option Addr) (len cap cap2 : Nat) (l : List Rc) (w : World) (h : SlR w a len l) (h2 : SlR w a2 len l) :
    Calls Try.prog 48 #[.slice a len cap, .slice a2 len cap2] w fun e w' => e = .returned (.bool true) ∧ Below w.heap.size w w' := by
  obtain ⟨hl, hm, hsm, hc⟩ := id h
  obtain ⟨_, _, _, hc2⟩ := id h2
  subst hl
  unfold maxLen at hm
  have hb : ((l.length : Int) == (l.length : Int)) = true := by simp
  go_enter Try.func48, Try.ntmps48
  go_wp2_with fail
  go_loopw [5] (fun i wr => ∃ k : Nat, k ≤ l.length ∧ i = .int .i64 k ∧ Below w.heap.size w wr) (fun i _ => l.length - (intOf i).toNat)
  case atStart => exact ⟨0, Nat.zero_le _, rfl, Below.refl _ _⟩
  case round =>
    obtain ⟨k, hk, rfl, hB⟩ := hrel
    by_cases hlt : k < l.length
    · obtain ⟨b, off, ha, hcl⟩ := hc (by omega)
      obtain ⟨b2, off2, ha2, hcl2⟩ := hc2 (by omega)
      subst ha ha2
      have hki : (k : Int) < (l.length : Int) := by omega
      have i1 := h.at k hlt
      have i2 := h2.at k hlt
      have hb1 : b < w.heap.size := World.block_lt_of_cell? w _ i1.1
      have hb2 : b2 < w.heap.size := World.block_lt_of_cell? w _ i2.1
      have hbs := hB.size
      obtain ⟨c1, c2, pa, pl, pc, c3, hS1, _⟩ := i1.below hB
      obtain ⟨c4, c5, qa, ql, qc, c6, hS2, _⟩ := i2.below hB
      have o1 := last.On.cell (B := wr.heap.size) c1 (by omega)
      have o2 := last.On.cell (B := wr.heap.size) c2 (by omega)
      have o3 := last.On.cell (B := wr.heap.size) c3 (by omega)
      have o4 := last.On.cell (B := wr.heap.size) c4 (by omega)
      have o5 := last.On.cell (B := wr.heap.size) c5 (by omega)
      have o6 := last.On.cell (B := wr.heap.size) c6 (by omega)
      have hinh := last.On.inh wr.heap.size wr
      have hcall : ∀ x : last.On wr.heap.size wr, Calls Try.prog 60 #[.agg #[.int .i64 l[k].1, .int .i64 l[k].2.1, .slice pa pl pc], .agg #[.int .i64 l[k].1, .int .i64 l[k].2.1, .slice qa ql qc]] x.w fun e w' => e = .returned (.bool true) ∧ ∃ y : last.On wr.heap.size wr, w' = y.w := fun x => last.Calls.on x (Nat.le_refl _) (eqRecT l[k].1 l[k].2.1 pa qa pl pc ql qc l[k].2.2 x.w (hS1.below x.2) (hS2.below x.2))
      clear hcl hcl2 hc hc2 i1 i2 hsm h h2 hS1 hS2
      generalize l[k] = p at *
      go_wp2_with fail
      refine last.wp_region_on wr.heap.size (by kernel_rfl) (by kernel_rfl) ?_
      repeat (go_big_quiet_step ((go_at_call 60; exact hcall _)))
      refine wpQuiet_nil ?_
      intro w5 hw5
      obtain ⟨x5, hw5⟩ := hw5
      subst hw5
      have hB5 : Below w.heap.size w x5.w := hB.trans (x5.2.mono hB.size)
      go_wp2_with fail
      go_roundw
      case rel => exact ⟨k + 1, by omega, by go_num, hB5⟩
      case measure => simp [intOf]; omega
    · go_wp2_with fail
      go_ret
      exact ⟨rfl, hB⟩

/-! ### marks -/
end Go.Proofs.Ytmibabclefgljaa.recs

namespace Go.Proofs.Ytmibabclefgljaa.ords
open Go Go.RowKit Go.Proofs.Ytmibabclefgljaa.base Go.Proofs.Ytmibabclefgljaa.pairs
set_option linter.unusedVariables false

def V3 (w : World) (g : Nat) (t : TypeId) (x y z : Value) : Prop := w.heap[g]? = some (.cells #[x, y, z] t (0, 0))
section
variable {w w' : World} {g : Nat} {t : TypeId} {x y z : Value}
theorem V3.c0 (h : V3 w g t x y z) : w.cell? ⟨g, 0, none⟩ = some x := cell_cur h 0 _ rfl
theorem V3.c1 (h : V3 w g t x y z) : w.cell? ⟨g, 1, none⟩ = some y := cell_cur h 1 _ rfl
theorem V3.c2 (h : V3 w g t x y z) : w.cell? ⟨g, 2, none⟩ = some z := cell_cur h 2 _ rfl
theorem V3.lt (h : V3 w g t x y z) : g < w.heap.size := (Array.getElem?_eq_some_iff.1 h).1
theorem V3.below (h : V3 w g t x y z) (hb : Below w.heap.size w w') : V3 w' g t x y z := (hb.block g h.lt).trans h
end
theorem v3_grown {w w' : World} {g : Nat} {t : TypeId} {x y z : Value} {row : Option Nat} (h : V3 w g t x y z) (hg : w.grownBy w' row) (hne : some g ≠ row) : V3 w' g t x y z := (hg.block g h.lt hne).trans h
theorem v3_fz {w : World} {g : Nat} {t : TypeId} {x y z : Value} (h : V3 w g t x y z) (j : Nat) : w.frozen? ⟨g, j, none⟩ = false := by
  unfold V3 at h; simp [World.frozen?, h]
theorem v3_set {w : World} {g : Nat} {t : TypeId} {x y z : Value} (h : V3 w g t x y z) : (∀ u, V3 (w.setCell ⟨g, 0, none⟩ u) g t u y z ∧ w.grownBy (w.setCell ⟨g, 0, none⟩ u) (some g)) ∧ (∀ u, V3 (w.setCell ⟨g, 1, none⟩ u) g t x u z ∧ w.grownBy (w.setCell ⟨g, 1, none⟩ u) (some g)) ∧ (∀ u, V3 (w.setCell ⟨g, 2, none⟩ u) g t x y u ∧ w.grownBy (w.setCell ⟨g, 2, none⟩ u) (some g)) :=
  ⟨fun u => ⟨(set_cur h 0 u).1, (set_cur h 0 u).2⟩, fun u => ⟨(set_cur h 1 u).1, (set_cur h 1 u).2⟩, fun u => ⟨(set_cur h 2 u).1, (set_cur h 2 u).2⟩⟩
theorem v3_all {w : World} {g : Nat} {t : TypeId} {x y z : Value} (h : V3 w g t x y z) (a b c : Value) : V3 (((w.setCell ⟨g, 0, none⟩ a).setCell ⟨g, 1, none⟩ b).setCell ⟨g, 2, none⟩ c) g t a b c ∧ w.grownBy (((w.setCell ⟨g, 0, none⟩ a).setCell ⟨g, 1, none⟩ b).setCell ⟨g, 2, none⟩ c) (some g) := by
  have h1 := (v3_set h).1 a
  have h2 := (v3_set h1.1).2.1 b
  have h3 := (v3_set h2.1).2.2 c
  exact ⟨h3.1, grownBy_trans (grownBy_trans h1.2 h2.2) h3.2⟩
end Go.Proofs.Ytmibabclefgljaa.ords

namespace Go.Proofs.Ytmibabclefgljaa.pairs
open Go Go.RowKit Go.Proofs.Ytmibabclefgljaa.base Go.Proofs.Ytmibabclefgljaa.helps
set_option linter.unusedVariables false
set_option linter.unusedSimpArgs false

section
variable {w0 w w' : World} {gx lx cx gg lg cg gw lw cw : Nat} {X G W : List Pr}
end

/-! ### arguments -/
end Go.Proofs.Ytmibabclefgljaa.pairs

namespace Go.Proofs.Ytmibabclefgljaa.ords
open Go Go.RowKit Go.Proofs.Ytmibabclefgljaa.base Go.Proofs.Ytmibabclefgljaa.pairs
set_option linter.unusedVariables false
set_option linter.unusedSimpArgs false

end Go.Proofs.Ytmibabclefgljaa.ords

namespace Go.Proofs.Ytmibabclefgljaa.recs
open Go Go.RowKit Go.Proofs.Ytmibabclefgljaa.base Go.Proofs.Ytmibabclefgljaa.pairs Go.Proofs.Ytmibabclefgljaa.ords Go.Proofs.Ytmibabclefgljaa.helps
set_option linter.unusedVariables false
set_option linter.unusedSimpArgs false

theorem v3n (w : World) (t : TypeId) (x y z : Value) : V3 (w.alloc (.cells #[x, y, z] t)) w.heap.size t x y z := heap_alloc_new w _
theorem v3a {w : World} {g : Nat} {t : TypeId} {x y z : Value} (h : V3 w g t x y z) (o : Obj) : V3 (w.alloc o) g t x y z := h.below ((Below.refl _ _).alloc (Nat.le_refl _) _)
theorem v3n1 (w : World) (o : Obj) (t : TypeId) (x y z : Value) : V3 ((w.alloc o).alloc (.cells #[x, y, z] t)) (w.heap.size + 1) t x y z := by
  have := v3n (w.alloc o) t x y z
  have e : (w.alloc o).heap.size = w.heap.size + 1 := by simp
  rw [e] at this; exact this
theorem v3n2 (w : World) (o o2 : Obj) (t : TypeId) (x y z : Value) : V3 (((w.alloc o).alloc o2).alloc (.cells #[x, y, z] t)) (w.heap.size + 2) t x y z := by
  have := v3n1 (w.alloc o) o2 t x y z
  have e : (w.alloc o).heap.size = w.heap.size + 1 := by simp
  rw [e] at this; exact this

set_option maxRecDepth 100000 in
set_option maxHeartbeats 2000000 in
theorem toRec (kind tx : Int) (pa : Option Addr) (pl pc : Nat) (l : List Od) (w : World) (h : SlO w pa pl l) (hsz : pl ≤ 1099511627776) :
    Calls Try.prog 56 #[.agg #[.int .i64 kind, .int .i64 tx, .slice pa pl pc]] w fun e w' =>
      ∃ g, e = .returned (.agg #[.int .i64 kind, .int .i64 tx, .slice (some ⟨g, 0, none⟩) pl pl]) ∧ OwnO w' w.heap.size g pl pl l ∧ Below w.heap.size w w' := by
  obtain ⟨W0, hW0⟩ : ∃ W, ((w.alloc (.cells #[.int .i64 kind, .int .i64 tx, .slice pa pl pc] 116)).alloc (.cells #[.int .i64 0, .int .i64 0, .slice none 0 0] 125)).alloc (.cells #[.int .i64 kind, .int .i64 tx, .slice none 0 0] 125) = W := ⟨_, rfl⟩
  have hB : Below w.heap.size w W0 := by rw [← hW0]; exact (((Below.refl _ _).alloc (Nat.le_refl _) _).alloc (by simp) _).alloc (by simp; omega) _
  have v1 : V3 W0 (w.heap.size + 1) 125 (.int .i64 0) (.int .i64 0) (.slice none 0 0) := by
    rw [← hW0]; exact v3a (v3n1 w _ _ _ _ _) _
  have v2 : V3 W0 (w.heap.size + 1 + 1) 125 (.int .i64 kind) (.int .i64 tx) (.slice none 0 0) := by
    rw [← hW0]; exact v3n2 w _ _ _ _ _ _
  have HW := Hid.mk' hW0
  have HT := Hid.mk' (toOpS pa pl pc l W0 (h.below hB) hsz)
  clear hW0
  go_enter Try.func56, Try.ntmps56
  go_wp2_with fail
  rw [HW.out]
  refine HT.out.mono ?_
  rintro e w2 ⟨g, rfl, hO, hb2⟩
  have u1 := v1.below hb2
  have u2 := v2.below hb2
  have hB2 := hB.trans (hb2.mono hB.size)
  have hgl := hO.lt
  have hl2 := v2.lt
  have s2 := (v3_set u2).2.2 (.slice (some ⟨g, 0, none⟩) pl pl)
  have t1 := v3_grown u1 s2.2 (by simp)
  have hO2 := hO.grown s2.2 (by simp; omega)
  have hB3 := hB2.grown s2.2 hB2.size (fun j e => by cases e; omega)
  have z := v3_all t1 (.int .i64 kind) (.int .i64 tx) (.slice (some ⟨g, 0, none⟩) pl pl)
  have HO := Hid.mk' ((hO2.grown z.2 (by simp; omega)).mono (base' := w.heap.size) hB.size)
  have HBz := Hid.mk' (hB3.grown z.2 hB3.size (fun j e => by cases e; omega))
  have z0 := z.1.c0
  have z1 := z.1.c1
  have z2 := z.1.c2
  have m2 := u2.c2
  have q2 := v3_fz u2 2
  have a0 := s2.1.c0
  have a1 := s2.1.c1
  have a2 := s2.1.c2
  have b0 := t1.c0
  have b1 := t1.c1
  have b2 := t1.c2
  have k0 := v3_fz t1 0
  have k1 := v3_fz t1 1
  have k2 := v3_fz t1 2
  clear v1 v2 u1 u2 s2 t1 z hO hO2 hb2 hB hB2 hB3 HW HT
  go_wp2_with fail
  refine bodyPost_ret (v := .agg #[.int .i64 kind, .int .i64 tx, .slice (some ⟨g, 0, none⟩) pl pl]) ?h1 rfl ⟨g, rfl, HO.out, HBz.out⟩
  simp [results, Try.results56, go_sem, z0, z1, z2]

/-! ### arguments -/
end Go.Proofs.Ytmibabclefgljaa.recs

namespace Go.Proofs.Ytmibabclefgljaa.recs
open Go Go.RowKit Go.Proofs.Ytmibabclefgljaa.base Go.Proofs.Ytmibabclefgljaa.pairs Go.Proofs.Ytmibabclefgljaa.ords
set_option linter.unusedVariables false
set_option linter.unusedSimpArgs false

theorem recVals_put (l : List Rc) (hs : List Value) (h : hs.length = l.length) (i : Nat) (hi : i < l.length) (x : Rc) (y : Value) : (((recVals l hs).set (i * 3) (.int .i64 x.1)).set (i * 3 + 1) (.int .i64 x.2.1)).set (i * 3 + 2) y = recVals (l.set i x) (hs.set i y) := by
  induction l generalizing hs i with
  | nil => simp at hi
  | cons r l ih =>
    cases hs with
    | nil => simp at h
    | cons u hs =>
      cases i with
      | zero => rfl
      | succ i =>
        rw [recVals_cons, show (i + 1) * 3 = i * 3 + 1 + 1 + 1 by omega, show i * 3 + 1 + 1 + 1 + 1 = (i * 3 + 1) + 1 + 1 + 1 by omega, show i * 3 + 1 + 1 + 1 + 2 = (i * 3 + 2) + 1 + 1 + 1 by omega]
        simp only [List.set_cons_succ, recVals_cons]
        rw [ih hs (by simpa using h) i (by simpa using hi)]
theorem OwnR.put {w : World} {base g n cap : Nat} {l : List Rc} {hs : List Value} (h : OwnR w base (.slice (some ⟨g, 0, none⟩) n cap) l hs) (i : Nat) (hi : i < l.length) (x : Rc) (y : Value) (hx : smallR x) (hy : OwnV w base y x.2.2) (hout : ∀ k, y.ownBlock = some k → ¬ BlkR (.slice (some ⟨g, 0, none⟩) n cap) hs k) :
    OwnR (((w.setCell ⟨g, i * 3, none⟩ (.int .i64 x.1)).setCell ⟨g, i * 3 + 1, none⟩ (.int .i64 x.2.1)).setCell ⟨g, i * 3 + 2, none⟩ y) base (.slice (some ⟨g, 0, none⟩) n cap) (l.set i x) (hs.set i y) ∧
      w.grownBy (((w.setCell ⟨g, i * 3, none⟩ (.int .i64 x.1)).setCell ⟨g, i * 3 + 1, none⟩ (.int .i64 x.2.1)).setCell ⟨g, i * 3 + 2, none⟩ y) (some g) := by
  obtain rfl := h.nlen
  have hlen := h.len
  have s0 := h.row.stored (i * 3) (.int .i64 x.1)
  have s1 := s0.1.stored (i * 3 + 1) (.int .i64 x.2.1)
  have s2 := s1.1.stored (i * 3 + 2) y
  rw [recVals_put l hs h.len i hi x y] at s2
  have hg := grownBy_trans (grownBy_trans s0.2 s1.2) s2.2
  have hyg : y.ownBlock ≠ some g := fun e => hout g e (.inl rfl)
  refine ⟨⟨by simpa using h.len, mem_set_smallR h.sm hx, by simpa using s2.1, fun j hj => ?_, ?_, ?_⟩, hg⟩
  · have hjl : j < l.length := by simpa using hj
    by_cases e : i = j
    · subst e
      rw [List.getElem_set_self, List.getElem_set_self]
      exact hy.grown hg (.inr hyg)
    · rw [List.getElem_set_ne e, List.getElem_set_ne e]
      exact (h.ops j hjl).grown hg (.inr (h.out g rfl _ (List.getElem_mem _)))
  · rw [List.pairwise_iff_getElem]
    intro a b ha hb hab
    have ha' : a < hs.length := by simpa using ha
    have hb' : b < hs.length := by simpa using hb
    have hp := List.pairwise_iff_getElem.1 h.apart a b ha' hb' hab
    by_cases ea : i = a
    · subst ea
      rw [List.getElem_set_self, List.getElem_set_ne (by omega)]
      cases e : y.ownBlock with
      | none => exact .inl rfl
      | some k => exact .inr (fun e2 => hout k e (.inr ⟨hs[b], List.getElem_mem _, e2.symm⟩))
    · rw [List.getElem_set_ne ea]
      by_cases eb : i = b
      · subst eb
        rw [List.getElem_set_self]
        cases e : hs[a].ownBlock with
        | none => exact .inl rfl
        | some k => exact .inr (fun e2 => hout k e2.symm (.inr ⟨hs[a], List.getElem_mem _, e⟩))
      · rw [List.getElem_set_ne eb]; exact hp
  · intro k hk z hz
    rcases List.mem_or_eq_of_mem_set hz with h1 | h1
    · exact h.out k hk z h1
    · subst h1
      have : k = g := by simpa [Value.ownBlock] using hk.symm
      rw [this]; exact hyg
def copyR (l : List Rc) (k : Nat) : List Rc := l.take k ++ List.replicate (l.length - k) (0, 0, [])
theorem copyR_length (l : List Rc) (k : Nat) (h : k ≤ l.length) : (copyR l k).length = l.length := by simp [copyR]; omega
theorem copyR_set (l : List Rc) (k : Nat) (h : k < l.length) : (copyR l k).set k l[k] = copyR l (k + 1) := by
  unfold copyR
  rw [List.take_succ_eq_append_getElem h]
  have e1 : (l.take k).length = k := by simp; omega
  have e2 : l.length - k = (l.length - (k + 1)) + 1 := by omega
  rw [List.set_append_right _ _ (by omega), e1, Nat.sub_self, e2, List.replicate_succ, List.set_cons_zero, List.append_assoc]
  rfl
theorem copyR_all (l : List Rc) : copyR l l.length = l := by simp [copyR]
theorem recVals_rep (n : Nat) : recVals (List.replicate n (0, 0, [])) (List.replicate n (.slice none 0 0)) = (madeCells (Value.agg #[.int .i64 0, .int .i64 0, .slice none 0 0]).cells (n * 3)).toList := by
  apply List.ext_getElem?
  intro j
  by_cases hj : j < n * 3
  · have hd : j / 3 < n := by omega
    have hc := recVals_get (List.replicate n ((0, 0, []) : Rc)) (List.replicate n (.slice none 0 0)) (by simp) (j / 3) (by simpa using hd)
    have hmod : j % 3 = 0 ∨ j % 3 = 1 ∨ j % 3 = 2 := by omega
    rcases hmod with h3 | h3 | h3
    · have e : j = j / 3 * 3 := by omega
      conv => lhs; rw [e, hc.1]
      simp [madeCells, h3, hj, Value.cells]
    · have e : j = j / 3 * 3 + 1 := by omega
      conv => lhs; rw [e, hc.2.1]
      simp [madeCells, h3, hj, Value.cells]
    · have e : j = j / 3 * 3 + 2 := by omega
      conv => lhs; rw [e, hc.2.2]
      simp [madeCells, h3, hj, Value.cells]
  · rw [List.getElem?_eq_none (by rw [recVals_length _ _ (by simp)]; simp; omega), List.getElem?_eq_none (by simp [madeCells]; omega)]
theorem infoRH : (Try.prog.info? 125).map (fun i => (i.zero, i.size, i.bytes)) = some (some (.agg #[.int .i64 0, .int .i64 0, .slice none 0 0]), 3, 40) := by kernel_rfl
theorem copyR_small {l : List Rc} (k : Nat) (h : ∀ x ∈ l, smallR x) : ∀ x ∈ copyR l k, smallR x := by
  intro x hx
  rcases List.mem_append.1 hx with h1 | h1
  · exact h x (List.mem_of_mem_take h1)
  · obtain rfl := (List.mem_replicate.1 h1).2
    exact ⟨rfl, rfl, fun o ho => absurd ho List.not_mem_nil⟩

set_option maxRecDepth 100000 in
set_option maxHeartbeats 2000000 in
theorem toRecS (a : Option Addr) (len cap : Nat) (l : List Rc) (w : World) (h : SlR w a len l) (hsz : len ≤ 1099511627776) (hops : ∀ r ∈ l, r.2.2.length ≤ 1099511627776) :
    Calls Try.prog 43 #[.slice a len cap] w fun e w' => ∃ g hs, e = .returned (.slice (some ⟨g, 0, none⟩) len len) ∧ OwnR w' w.heap.size (.slice (some ⟨g, 0, none⟩) len len) l hs ∧ Below w.heap.size w w' := by
  obtain ⟨hl, hm, hsm, hc⟩ := id h
  subst hl
  have hm' := hm
  unfold maxLen at hm'
  obtain ⟨i0, hif, hz0, hz1, hz2⟩ := info_parts infoRH
  go_enter Try.func43, Try.ntmps43
  go_wp2_with (at_make; refine wpList_make_full _ rfl _ _ 49 rfl w.heap.size 125 i0 (.agg #[.int .i64 0, .int .i64 0, .slice none 0 0]) 3 Try.underlying49 hif hz0 hz1 _ _ _ _ l.length rfl rfl rfl rfl ?b2 ?b3 ?b4 ?_)
  case b2 => rw [hz2]; omega
  case b3 => exact hm
  case b4 => exact Nat.le_refl _
  intro w1 hown hgrow
  have hOwn : OwnR w1 w.heap.size (.slice (some ⟨w.heap.size, 0, none⟩) l.length l.length) (copyR l 0) (List.replicate l.length (.slice none 0 0)) := by
    have e0 : copyR l 0 = List.replicate l.length (0, 0, []) := by simp [copyR]
    refine ⟨by rw [e0]; simp, copyR_small 0 hsm, ?_, fun i hi => ?_, ?_, ?_⟩
    · rw [e0, recVals_rep, List.length_replicate]; exact hown
    · have hi' : i < l.length := by rw [e0] at hi; simpa using hi
      simp only [e0, List.getElem_replicate]
      exact ownV_nil _ _
    · rw [List.pairwise_iff_getElem]
      intro x y hx hy hxy
      left
      rw [List.getElem_replicate]; rfl
    · intro k hk y hy
      obtain rfl := (List.mem_replicate.1 hy).2
      simp [Value.ownBlock]
  have hbel : Below w.heap.size w w1 := (Below.refl _ _).grown hgrow (Nat.le_refl _) (fun k e => by cases e)
  clear hown hgrow hif hz0 hz1 hz2
  go_wp2_with fail
  go_loopw [4] (fun i wr => ∃ (k : Nat) (hs : List Value), k ≤ l.length ∧ i = .int .i64 k ∧ OwnR wr w.heap.size (.slice (some ⟨w.heap.size, 0, none⟩) l.length l.length) (copyR l k) hs ∧ Below w.heap.size w wr) (fun i _ => l.length - (intOf i).toNat)
  case atStart => exact ⟨0, _, Nat.zero_le _, rfl, hOwn, hbel⟩
  case round =>
    clear hOwn hbel
    obtain ⟨k, hs, hk, rfl, hO, hB⟩ := hrel
    by_cases hlt : k < l.length
    · obtain ⟨b, off, ha, _⟩ := hc (by omega)
      subst ha
      obtain ⟨c0, c1, pa, pl, pc, c2, hSo, _⟩ := (h.at k hlt).below hB
      have hpk := hsm _ (List.getElem_mem hlt)
      have hki : (k : Int) < (l.length : Int) := by omega
      have HS := Hid.mk' (copyR_set l k hlt)
      have hol := hops _ (List.getElem_mem hlt)
      have hpl := hSo.1
      generalize l[k] = p at *
      clear hc
      go_wp2_with fail
      refine (toRec p.1 p.2.1 pa pl pc p.2.2 _ hSo (by omega)).mono ?_
      rintro e w2 ⟨g2, rfl, hO2, hb2⟩
      have hOR := hO.below hb2
      have hB2 := hB.trans (hb2.mono hB.size)
      have hkl : k < (copyR l k).length := by rw [copyR_length l k hk]; exact hlt
      have hV2 := (ownV_of hO2).mono (base' := w.heap.size) hB.size
      have hg2 := hO2.lt
      have R := hOR.put k hkl p (.slice (some ⟨g2, 0, none⟩) pl pl) hpk hV2 (fun j hj hb => by
        have e1 : g2 = j := by simpa [Value.ownBlock] using hj
        have := (hO.lt j hb).2
        omega)
      rw [HS.out] at R
      have HR := Hid.mk' R
      obtain ⟨d0, d1, d2⟩ := hOR.at k hkl
      have f0 := hOR.frozen (k * 3)
      have f1 := hOR.frozen (k * 3 + 1)
      have f2 := hOR.frozen (k * 3 + 2)
      generalize (copyR l k)[k].1 = z0 at *
      generalize (copyR l k)[k].2.1 = z1 at *
      generalize hs[k]'(by have := hO.len; omega) = z2 at *
      have hsz2 := hB2.size
      clear R hO hOR hO2 hV2 hB hb2 c0 c1 c2 hSo
      go_wp2_with fail
      go_roundw
      case rel => exact ⟨k + 1, _, by omega, by go_num, HR.out.1, hB2.trans (below_grown HR.out.2 (Nat.le_refl _) hsz2)⟩
      case measure => simp [intOf]; omega
    · have e : k = l.length := by omega
      subst e
      rw [copyR_all] at hO
      go_wp2_with fail
      go_ret
      exact ⟨_, _, rfl, hO, hB⟩
def rsz (r : Rc) : Nat := r.2.2.length + sumO r.2.2
def sumR (l : List Rc) : Nat := (l.map rsz).sum
theorem sumR_take (l : List Rc) (k : Nat) (h : k < l.length) : sumR (l.take (k + 1)) = sumR (l.take k) + rsz l[k] := by
  unfold sumR
  rw [List.take_succ_eq_append_getElem h, List.map_append, List.sum_append]; simp
theorem sumR_le (l : List Rc) (k : Nat) : sumR (l.take k) ≤ sumR l := by
  conv => rhs; rw [← List.take_append_drop k l]
  unfold sumR
  rw [List.map_append, List.sum_append]; omega
set_option maxRecDepth 100000 in
set_option maxHeartbeats 2000000 in
theorem szRecS (a : Option Addr) (len cap : Nat) (l : List Rc) (L : Nat) (w : World) (h : SlR w a len l) (hL : L ≤ 1099511627776) :
    Calls Try.prog 38 #[.slice a len cap, .int .i64 (L : Int)] w fun e w' => e = .returned (.int .i64 (pairs.szR L (l.length + sumR l))) ∧ Below w.heap.size w w' := by
  obtain ⟨hl, hm, hsm, hc⟩ := id h
  subst hl
  unfold maxLen at hm
  by_cases hneg : L < l.length
  · rw [pairs.szR_neg (by omega)]
    have h1 : (L : Int) - (l.length : Int) < 0 := by omega
    go_enter Try.func38, Try.ntmps38
    go_wp2
    go_ret
    exact ⟨rfl, Below.refl _ _⟩
  · have h1 : ¬ (L : Int) - (l.length : Int) < 0 := by omega
    go_enter Try.func38, Try.ntmps38
    go_wp2_with fail
    go_loopw [1, 5] (fun lv i wr => ∃ k m : Nat, k ≤ l.length ∧ i = .int .i64 (k : Int) ∧ lv = .int .i64 (m : Int) ∧ m + (l.length + sumR (l.take k)) = L ∧ Below w.heap.size w wr) (fun _ i _ => l.length - (intOf i).toNat)
    case atStart => exact ⟨0, L - l.length, Nat.zero_le _, rfl, by go_num, by simp [sumR]; omega, Below.refl _ _⟩
    case round =>
      obtain ⟨k, m, hk, rfl, rfl, hmL, hB⟩ := hrel
      by_cases hlt : k < l.length
      · obtain ⟨b, off, ha, _⟩ := hc (by omega)
        subst ha
        obtain ⟨c0, c1, pa, pl, pc, c2, hSo, _⟩ := (h.at k hlt).below hB
        have hst := sumR_take l k hlt
        have hle := sumR_le l (k + 1)
        have hi1 : (k : Int) < (l.length : Int) := by omega
        have hmB : m ≤ 1099511627776 := by omega
        have HML := Hid.mk' hmL
        have HST := Hid.mk' hst
        have HLE := Hid.mk' hle
        generalize l[k] = p at *
        clear hc hsm hmL hst hle
        have hcall : Calls Try.prog 52 #[.agg #[.int .i64 p.1, .int .i64 p.2.1, .slice pa pl pc], .int .i64 (m : Int)] wr fun e w' => e = .returned (.int .i64 (pairs.szR m (rsz p))) ∧ Below wr.heap.size wr w' := szRec p.1 p.2.1 pa pl pc p.2.2 m wr hSo hmB
        by_cases hover : m < rsz p
        · rw [pairs.szR_neg hover] at hcall
          have HC := Hid.mk' hcall
          clear hcall
          go_wp2_with fail
          refine HC.out.mono ?_
          rintro e w2 ⟨rfl, hB2⟩
          go_wp2_with fail
          go_ret
          have e1 := HML.out
          have e2 := HST.out
          have e3 := HLE.out
          rw [pairs.szR_neg (by omega)]
          exact ⟨rfl, hB.trans (hB2.mono hB.size)⟩
        · rw [pairs.szR_pos (by omega), show (m : Int) - (rsz p : Int) = ((m - rsz p : Nat) : Int) by omega] at hcall
          have HC := Hid.mk' hcall
          obtain ⟨m2, hm2⟩ : ∃ m2, m - rsz p = m2 := ⟨_, rfl⟩
          rw [hm2] at HC
          have HM2 := Hid.mk' hm2
          have hm2b : m2 ≤ 1099511627776 := by omega
          clear hcall hm2
          go_wp2_with fail
          refine HC.out.mono ?_
          rintro e w2 ⟨rfl, hB2⟩
          go_wp2_with fail
          go_roundw
          case rel => exact ⟨k + 1, m2, by omega, by go_num, rfl, by have e1 := HML.out; have e2 := HST.out; have e3 := HM2.out; omega, hB.trans (hB2.mono hB.size)⟩
          case measure => simp [intOf]; omega
      · have e : k = l.length := by omega
        subst e
        rw [List.take_length] at hmL
        go_wp2_with fail
        go_ret
        rw [pairs.szR_pos (by omega), show (L : Int) - ((l.length + sumR l : Nat) : Int) = (m : Int) by omega]
        exact ⟨rfl, hB⟩
end Go.Proofs.Ytmibabclefgljaa.recs

namespace Go.Proofs.Ytmibabclefgljaa.recs
open Go Go.RowKit Go.Proofs.Ytmibabclefgljaa.base Go.Proofs.Ytmibabclefgljaa.pairs Go.Proofs.Ytmibabclefgljaa.ords
set_option linter.unusedVariables false

section
variable {w0 w w' : World} {B1 B2 gw n cw gg cg : Nat} {vs vx vg : Value} {hss hsx hsg : List Value} {P G : List Pr} {R X H : List Rc}
end
end Go.Proofs.Ytmibabclefgljaa.recs

namespace Go.Proofs.Ytmibabclefgljaa.recs
open Go Go.RowKit Go.Proofs.Ytmibabclefgljaa.base Go.Proofs.Ytmibabclefgljaa.pairs Go.Proofs.Ytmibabclefgljaa.ords Go.Proofs.Ytmibabclefgljaa.helps Go.Proofs.Ytmibabclefgljaa.help Go.Proofs.Ytmibabclefgljaa.lay
set_option linter.unusedVariables false
set_option linter.unusedSimpArgs false

def Few (l : List Rc) : Prop := ∀ r ∈ l, r.2.2.length ≤ 1099511627776 ∧ ∀ p ∈ r.2.2, p.2.1.size ≤ 1099511627776
abbrev aggSh (id sure : Int) (la : Option Addr) (ln lc : Nat) (ma : Option Addr) (mn mc : Nat) (ha : Option Addr) (hn hc : Nat) : Value := .agg #[.int .i64 id, .slice la ln lc, .int .i64 sure, .slice ma mn mc, .slice ha hn hc]
abbrev boxSh (id sure : Int) (la : Option Addr) (ln lc : Nat) (ma : Option Addr) (mn mc : Nat) (ha : Option Addr) (hn hc : Nat) : Obj := .cells #[.int .i64 id, .slice la ln lc, .int .i64 sure, .slice ma mn mc, .slice ha hn hc] 52
end Go.Proofs.Ytmibabclefgljaa.recs

namespace Go.Proofs.Ytmibabclefgljaa.recs
open Go Go.RowKit Go.Proofs.Ytmibabclefgljaa.base Go.Proofs.Ytmibabclefgljaa.pairs Go.Proofs.Ytmibabclefgljaa.ords
set_option linter.unusedVariables false
set_option linter.unusedSimpArgs false

end Go.Proofs.Ytmibabclefgljaa.recs

namespace Go.Proofs.Ytmibabclefgljaa.lay
open Go Go.RowKit Go.Proofs.Ytmibabclefgljaa.base Go.Proofs.Ytmibabclefgljaa.pairs Go.Proofs.Ytmibabclefgljaa.ords Go.Proofs.Ytmibabclefgljaa.recs
theorem BoxIn.set5 {X : Nat} {T : TypeId} {pre post : List Value} {a0 a1 a2 a3 a4 : Value} {w : World} (h : BoxIn X T pre [a0, a1, a2, a3, a4] post w) (b0 b1 b2 b3 b4 : Value) :
    BoxIn X T pre [b0, b1, b2, b3, b4] post (((((w.setCell ⟨X, pre.length, none⟩ b0).setCell ⟨X, pre.length + 1, none⟩ b1).setCell ⟨X, pre.length + 2, none⟩ b2).setCell ⟨X, pre.length + 3, none⟩ b3).setCell ⟨X, pre.length + 4, none⟩ b4) ∧
    w.grownBy (((((w.setCell ⟨X, pre.length, none⟩ b0).setCell ⟨X, pre.length + 1, none⟩ b1).setCell ⟨X, pre.length + 2, none⟩ b2).setCell ⟨X, pre.length + 3, none⟩ b3).setCell ⟨X, pre.length + 4, none⟩ b4) (some X) := by
  have h0 := h.set 0 (by simp) b0
  have h1 := h0.1.set 1 (by simp) b1
  have h2 := h1.1.set 2 (by simp) b2
  have h3 := h2.1.set 3 (by simp) b3
  have h4 := h3.1.set 4 (by simp) b4
  exact ⟨h4.1, grownBy_trans (grownBy_trans (grownBy_trans (grownBy_trans h0.2 h1.2) h2.2) h3.2) h4.2⟩
end Go.Proofs.Ytmibabclefgljaa.lay
namespace Go.Proofs.Ytmibabclefgljaa.recs
open Go Go.RowKit Go.Proofs.Ytmibabclefgljaa.base Go.Proofs.Ytmibabclefgljaa.pairs Go.Proofs.Ytmibabclefgljaa.ords Go.Proofs.Ytmibabclefgljaa.helps Go.Proofs.Ytmibabclefgljaa.help Go.Proofs.Ytmibabclefgljaa.lay
set_option linter.unusedVariables false
set_option linter.unusedSimpArgs false

theorem OwnR.notPair {w : World} {base b2 g n cap : Nat} {v : Value} {l : List Rc} {hs : List Value} {P : List Pr} (h : OwnR w base v l hs) (hp : OwnP w b2 g n cap P) : ¬ BlkR v hs g := by
  rintro (e | ⟨y, hy, e⟩)
  · exact recRow_ne h.row hp.2.2 e rfl (by decide)
  · obtain ⟨i, hi, rfl⟩ := List.getElem_of_mem hy
    exact recRow_ne (h.ops i (by have := h.len; omega)).2 hp.2.2 e rfl (by decide)
theorem ownSh_of {w : World} {B C gl ln cl gm mn cm gh hn ch : Nat} {s : Shd} {hl hh : List Value} (hid : (Lit.int .i64 s.1).wf = true) (hsu : (Lit.int .i64 s.2.2.1).wf = true)
    (h1 : OwnR w B (.slice (some ⟨gl, 0, none⟩) ln cl) s.2.1 hl) (h2 : OwnP w B gm mn cm s.2.2.2.1) (h3 : OwnR w B (.slice (some ⟨gh, 0, none⟩) hn ch) s.2.2.2.2 hh) (hlo : ∀ k, BlkR (.slice (some ⟨gl, 0, none⟩) ln cl) hl k → k < C) (hhi : ∀ k, BlkR (.slice (some ⟨gh, 0, none⟩) hn ch) hh k → C ≤ k) :
    ∃ F, OwnSh w (some ⟨gl, 0, none⟩) ln cl (some ⟨gm, 0, none⟩) mn cm (some ⟨gh, 0, none⟩) hn ch s F ∧ ∀ k ∈ F, B ≤ k := by
  have o1 := h1.mono (base' := 0) (Nat.zero_le _)
  have o3 := h3.mono (base' := 0) (Nat.zero_le _)
  have d1 := lay.recsR.ownNodup (lay.recs_own.2 ⟨hl, o1, rfl⟩)
  have d3 := lay.recsR.ownNodup (lay.recs_own.2 ⟨hh, o3, rfl⟩)
  refine ⟨_, ⟨hid, hsu, ⟨hl, o1, hh, o3, rfl⟩, ownPV_of h2, ?_⟩, fun k hk => ?_⟩
  · refine nodup_mk d1 (nodup_mk (by simp [Value.ownBlock]) d3 (fun k hk hk2 => ?_)) (fun k hk hk2 => ?_)
    · have : k = gm := by simpa [Value.ownBlock] using hk
      subst this
      exact h3.notPair h2 (lay.mem_blkR.1 hk2)
    · have hk := lay.mem_blkR.1 hk
      rcases List.mem_append.1 hk2 with e | e
      · have : k = gm := by simpa [Value.ownBlock] using e
        subst this
        exact h1.notPair h2 hk
      · have := hlo k hk
        have := hhi k (lay.mem_blkR.1 e)
        omega
  · rcases List.mem_append.1 hk with e | e
    · exact (h1.lt k (lay.mem_blkR.1 e)).1
    · rcases List.mem_append.1 e with e | e
      · have : k = gm := by simpa [Value.ownBlock] using e
        subst this
        exact h2.lt.1
      · exact (h3.lt k (lay.mem_blkR.1 e)).1
end Go.Proofs.Ytmibabclefgljaa.recs
