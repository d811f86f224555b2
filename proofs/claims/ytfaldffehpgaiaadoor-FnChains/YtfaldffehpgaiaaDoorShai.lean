/- The program's seals: whether one is right. The program's chains. A region that draws its order: what is held from one operation to the next may fall with the last one, which waits for all the others. No function of the program is named here. A call as a step of a region that draws its order. No function of the program is named here. -/
import Derived.Test.YtfaldffehpgaiaaDoorShag
import Derived.Test.YtfaldffehpgaiaaDoorShah
import Derived.Defers
import Derived.Recover
import Derived.Test.YtfaldffehpgaiaaDoorShab
import Derived.Deep.RegionHeld
import Derived.WalkKit
import Derived.WalkSpells
import Derived.WalkLawsBesides
namespace Go.Proofs.YtfaldffehpgaiaaDoor.seals
open Go Go.RowKit Go.Proofs.YtfaldffehpgaiaaDoor.base Go.Proofs.YtfaldffehpgaiaaDoor.pairs Go.Proofs.YtfaldffehpgaiaaDoor.tree Go.Proofs.YtfaldffehpgaiaaDoor.lay
set_option linter.unusedVariables false
set_option linter.unusedSimpArgs false

def sealI (s : Seal) : Bool := sealOk s && (!decide (s.1 = 1) || decide (s.2.1 = dg []))
theorem eq_stamp (a a' : Int) (b b' c c' : ByteArray) (w : World) : (Op.equalIn 10000 49 (.agg #[.int .i64 a, .string b, .string c]) (.agg #[.int .i64 a', .string b', .string c'])).run Tryd.prog w = .ok (a == a' && (b.toList == b'.toList && c.toList == c'.toList)) w := by
  have u3 := Tryd.underlying3
  have u9 := Tryd.underlying9
  have a3 := Tryd.isAgg3
  have z3 := Tryd.sizeOf3
  have a9 := Tryd.isAgg9
  have z9 := Tryd.sizeOf9
  have hS : Tryd.prog.underlying 49 = some (.struct (Tryd.prog.fieldsOf 49)) := by kernel_rfl
  have hp : Tryd.prog.stoodInHeld 49 = false := by kernel_rfl
  rw [show (10000 : Nat) = 9999 + 1 from rfl, run_equalIn_agg w 9999 49 _ _ hS hp]
  simp only [Program.fieldsOf, Tryd.underlying49]
  go_simp
  by_cases h1 : a = a' <;> by_cases h2 : b.toList = b'.toList <;> by_cases h3 : c.toList = c'.toList <;> simp [h1, h2, h3]
theorem stamp_same (a : Int) (b c : ByteArray) (w : World) : (Op.equalIn 10000 49 (.agg #[.int .i64 a, .string b, .string c]) (.agg #[.int .i64 a, .string b, .string c])).run Tryd.prog w = .ok true w := by
  rw [eq_stamp]; simp
theorem stamp_other {a a' : Int} {b b' c c' : ByteArray} (h : ¬ (a = a' ∧ b = b' ∧ c = c')) (w : World) : (Op.equalIn 10000 49 (.agg #[.int .i64 a, .string b, .string c]) (.agg #[.int .i64 a', .string b', .string c'])).run Tryd.prog w = .ok false w := by
  rw [eq_stamp]
  congr 1
  by_cases h1 : a = a'
  · by_cases h2 : b = b'
    · have h3 : ¬ c = c' := fun e => h ⟨h1, h2, e⟩
      rw [str_ne h3]; simp
    · rw [str_ne h2]; simp
  · rw [beq_eq_false_iff_ne.2 h1]; rfl
theorem guard_stamp : Tryd.prog.eqGuardType Tryd.prog.depth 49 = false := by kernel_rfl
set_option maxRecDepth 100000 in
set_option maxHeartbeats 8000000 in
theorem i_sealOk (a : Option Addr) (n cap : Nat) (s : Seal) (w : World) (h : SlS w a n s.2.2.2) (hno : (Lit.int .i64 s.1).wf = true) (hp : s.2.1.size ≤ maxLen) (hK : sha.KW w) :
    Calls Tryd.prog 10 #[.agg #[.int .i64 s.1, .string s.2.1, .string s.2.2.1, .slice a n cap]] w fun e w' => e = .returned (.bool (sealI s)) ∧ Below w.heap.size w w' := by
  obtain ⟨no, pv, su, rs⟩ := s
  simp only [] at *
  obtain ⟨W, hW⟩ : ∃ W, w.alloc (.cells #[.int .i64 no, .string pv, .string su, .slice a n cap] 29) = W := ⟨_, rfl⟩
  have hB : Below w.heap.size w W := by rw [← hW]; exact (Below.refl _ _).alloc (Nat.le_refl _) _
  have hX : BoxIn w.heap.size 29 [] [.int .i64 no, .string pv, .string su, .slice a n cap] [] W := by rw [← hW]; exact boxIn_new w _ _
  have hS := h.below hB
  have hKW := hK.below hB
  have hl := h.1
  have hm := h.2.1
  unfold maxLen at hm
  have HLL := Hid.mk' hl
  have HR : Hid (sealI (no, pv, su, rs) = ((decide (1 ≤ no) && decide (no ≤ 1000)) && is32 pv && (decide (1 ≤ (n : Int) ∧ (n : Int) ≤ 8) && rs.all is32) && decide (su = superOf no pv rs) && (!decide (no = 1) || decide (pv = dg [])))) := by
    show _ = _
    unfold sealI sealOk is32
    simp only [hl]
    rw [show (decide (1 ≤ n ∧ n ≤ 8)) = decide (1 ≤ (n : Int) ∧ (n : Int) ≤ 8) from decide_eq_decide.2 ⟨fun e => ⟨by omega, by omega⟩, fun e => ⟨by omega, by omega⟩⟩]
    rw [Bool.decide_and (p := 1 ≤ no)]
    simp only [Bool.and_assoc]
  generalize sealI (no, pv, su, rs) = R at *
  have HN := Hid.mk' (i_isNo pv W hp)
  have HO := Hid.mk' (i_rootsOk a n cap rs W hS)
  have HN8 : Hid ((decide (1 ≤ (n : Int) ∧ (n : Int) ≤ 8) && rs.all is32) = true → rs.length + puttexts.sum rs ≤ 1048576) := fun e => by
    obtain ⟨e1, e2⟩ := Bool.and_eq_true_iff.1 e
    have e3 := of_decide_eq_true e1
    have e4 := sum_32 (fun r hr => of_decide_eq_true (List.all_eq_true.1 e2 r hr))
    omega
  have HP8 : Hid (is32 pv = true → pv.size ≤ 1048576) := fun e => by have := of_decide_eq_true e; omega
  generalize (decide (1 ≤ (n : Int) ∧ (n : Int) ≤ 8) && rs.all is32) = r2 at *
  generalize is32 pv = r1 at *
  have HW := Hid.mk' hW
  obtain ⟨a0, a1, a2, a3⟩ := box4 hX
  rw [← hW] at a0 a1 a2 a3
  clear hW h hl hp
  by_cases q0 : no < 1
  · have HF : Hid (R = false) := by show _ = _; rw [HR.out, decide_eq_false (show ¬ 1 ≤ no by omega)]; simp
    clear HR
    go_enter Tryd.func10, Tryd.ntmps10
    go_wp2_with fail
    go_ret
    exact ⟨by rw [HF.out]; rfl, by rw [HW.out]; exact hB⟩
  by_cases q1 : no > 1000
  · have HF : Hid (R = false) := by show _ = _; rw [HR.out, decide_eq_false (show ¬ no ≤ 1000 by omega)]; simp
    clear HR
    go_enter Tryd.func10, Tryd.ntmps10
    go_wp2_with fail
    go_ret
    exact ⟨by rw [HF.out]; rfl, by rw [HW.out]; exact hB⟩
  have HR1 : Hid (R = (r1 && r2 && decide (su = superOf no pv rs) && (!decide (no = 1) || decide (pv = dg [])))) := by show _ = _; rw [HR.out, decide_eq_true (show 1 ≤ no by omega), decide_eq_true (show no ≤ 1000 by omega)]; simp
  clear HR
  go_enter Tryd.func10, Tryd.ntmps10
  go_wp2_with fail
  rw [HW.out]
  rw [HW.out] at a0 a1 a2 a3
  refine HN.out.mono ?_
  rintro e w1 ⟨rfl, hw1⟩
  replace hw1 := hw1.symm
  subst hw1
  clear HW
  cases r1
  · have HF : Hid (R = false) := by show _ = _; rw [HR1.out]; simp
    clear HR1
    go_wp2_with fail
    go_ret
    exact ⟨by rw [HF.out]; rfl, hB⟩
  go_wp2_with fail
  refine HO.out.mono ?_
  rintro e w1 ⟨rfl, hw1⟩
  replace hw1 := hw1.symm
  subst hw1
  cases r2
  · have HF : Hid (R = false) := by show _ = _; rw [HR1.out]; simp
    clear HR1
    go_wp2_with fail
    go_ret
    exact ⟨by rw [HF.out]; rfl, hB⟩
  have hpv := HP8.out (by first | rfl | trivial)
  have hrs := HN8.out (by first | rfl | trivial)
  have HR2 : Hid (R = (decide (su = superOf no pv rs) && (!decide (no = 1) || decide (pv = dg [])))) := by show _ = _; rw [HR1.out]; simp
  have HA := Hid.mk' (fun wx (hx : Below W.heap.size W wx) => i_ahead none 0 0 [] wx ⟨rfl, Nat.zero_le _, fun x hx => absurd hx List.not_mem_nil, fun h => absurd h (by omega)⟩ (hKW.below hx))
  have HSO := Hid.mk' (fun wx (hx : Below W.heap.size W wx) => i_sealOf no pv a n cap rs wx (hS.below hx) hno hpv hrs (hKW.below hx))
  rw [prevOf_nil] at HA
  generalize superOf no pv rs = so at *
  generalize dg [] = d0 at *
  clear HR1 HN HO HP8 HN8
  have p0 := last.On.cell (B := W.heap.size) a0 (World.block_lt_of_cell? _ _ a0)
  have p1 := last.On.cell (B := W.heap.size) a1 (World.block_lt_of_cell? _ _ a1)
  have p2 := last.On.cell (B := W.heap.size) a2 (World.block_lt_of_cell? _ _ a2)
  have p3 := last.On.cell (B := W.heap.size) a3 (World.block_lt_of_cell? _ _ a3)
  have hinh := last.On.inh W.heap.size W
  have hc0 : ∀ xx : last.On W.heap.size W, Calls Tryd.prog 27 #[.slice none 0 0] xx.w fun e w' => e = .returned (.string d0) ∧ ∃ yv : last.On W.heap.size W, w' = yv.w := fun xx => last.Calls.on xx (Nat.le_refl _) (HA.out xx.w xx.2)
  have hgd := guard_stamp
  by_cases e1 : no = 1
  · have hq1 : (no == 1) = true := by simp [e1]
    by_cases e2 : pv = d0
    · have HR3 : Hid (R = decide (su = so)) := by show _ = _; rw [HR2.out, decide_eq_true e2]; simp
      subst e2
      have hq2 := str_same pv
      clear HR2 e1
      go_wp2_with fail
      refine last.wp_region_on W.heap.size (by kernel_rfl) (by kernel_rfl) ?_
      repeat (go_big_quiet_step (first | (go_at_call 27; with_reducible exact hc0 _)))
      refine wpQuiet_nil ?_
      intro wq hwq
      obtain ⟨xq, hwq⟩ := hwq
      subst hwq
      have hbq : Below W.heap.size W xq.w := xq.2
      go_wp2_with fail
      clear p0 p1 p2 p3 hinh hc0 hq1 hq2
      obtain ⟨V, hV⟩ : ∃ V, xq.w = V := ⟨_, rfl⟩
      rw [hV] at hbq ⊢
      obtain ⟨b0, b1, b2, b3⟩ := box4 (hX.below hbq)
      have hBV := hB.trans (hbq.mono hB.size)
      have v0 := last.On.cell (B := V.heap.size) b0 (World.block_lt_of_cell? _ _ b0)
      have v1 := last.On.cell (B := V.heap.size) b1 (World.block_lt_of_cell? _ _ b1)
      have v2 := last.On.cell (B := V.heap.size) b2 (World.block_lt_of_cell? _ _ b2)
      have v3 := last.On.cell (B := V.heap.size) b3 (World.block_lt_of_cell? _ _ b3)
      have hinv := last.On.inh V.heap.size V
      have hs0 : ∀ xx : last.On V.heap.size V, Calls Tryd.prog 28 #[.agg #[.int .i64 no, .string pv, .string su, .slice a n cap]] xx.w fun e w' => e = .returned (.agg #[.int .i64 no, .string pv, .string su]) ∧ ∃ yv : last.On V.heap.size V, w' = yv.w := fun xx => last.Calls.on xx (Nat.le_refl _) (i_stamp no pv su (.slice a n cap) rfl xx.w)
      have hs1 : ∀ xx : last.On V.heap.size V, Calls Tryd.prog 28 #[.agg #[.int .i64 no, .string pv, .string so, .slice a n cap]] xx.w fun e w' => e = .returned (.agg #[.int .i64 no, .string pv, .string so]) ∧ ∃ yv : last.On V.heap.size V, w' = yv.w := fun xx => last.Calls.on xx (Nat.le_refl _) (i_stamp no pv so (.slice a n cap) rfl xx.w)
      have hs2 : ∀ xx : last.On V.heap.size V, Calls Tryd.prog 29 #[.int .i64 no, .string pv, .slice a n cap] xx.w fun e w' => e = .returned (.agg #[.int .i64 no, .string pv, .string so, .slice a n cap]) ∧ ∃ yv : last.On V.heap.size V, w' = yv.w := fun xx => last.Calls.on xx (Nat.le_refl _) (HSO.out xx.w (hbq.trans (xx.2.mono hbq.size)))
      clear HSO HA
      by_cases e : su = so
      · subst e
        have hq := stamp_same no pv su
        have HF : Hid (R = true) := by show _ = _; rw [HR3.out]; simp
        clear HR3 b0 b1 b2 b3
        go_wp2_with fail
        refine last.wp_region_on V.heap.size (by kernel_rfl) (by kernel_rfl) ?_
        repeat (go_big_quiet_step (first | (go_at_call 28; with_reducible exact hs0 _) | (go_at_call 28; with_reducible exact hs1 _) | (go_at_call 29; with_reducible exact hs2 _)))
        refine wpQuiet_nil ?_
        intro wq hwq
        obtain ⟨xq, hwq⟩ := hwq
        subst hwq
        have hbq : Below V.heap.size V xq.w := xq.2
        go_wp2_with fail
        go_ret
        exact ⟨by rw [HF.out]; rfl, hBV.trans (hbq.mono hBV.size)⟩
      · have hq := stamp_other (a := no) (a' := no) (b := pv) (b' := pv) (c := su) (c' := so) (fun h => e h.2.2)
        have HF : Hid (R = false) := by show _ = _; rw [HR3.out]; simp [e]
        clear HR3 b0 b1 b2 b3
        go_wp2_with fail
        refine last.wp_region_on V.heap.size (by kernel_rfl) (by kernel_rfl) ?_
        repeat (go_big_quiet_step (first | (go_at_call 28; with_reducible exact hs0 _) | (go_at_call 28; with_reducible exact hs1 _) | (go_at_call 29; with_reducible exact hs2 _)))
        refine wpQuiet_nil ?_
        intro wq hwq
        obtain ⟨xq, hwq⟩ := hwq
        subst hwq
        have hbq : Below V.heap.size V xq.w := xq.2
        go_wp2_with fail
        go_ret
        exact ⟨by rw [HF.out]; rfl, hBV.trans (hbq.mono hBV.size)⟩
    · have HF : Hid (R = false) := by show _ = _; rw [HR2.out, decide_eq_true e1, decide_eq_false e2]; simp
      have hq2 := str_ne e2
      clear HR2 e1 e2
      go_wp2_with fail
      refine last.wp_region_on W.heap.size (by kernel_rfl) (by kernel_rfl) ?_
      repeat (go_big_quiet_step (first | (go_at_call 27; with_reducible exact hc0 _)))
      refine wpQuiet_nil ?_
      intro wq hwq
      obtain ⟨xq, hwq⟩ := hwq
      subst hwq
      have hbq : Below W.heap.size W xq.w := xq.2
      go_wp2_with fail
      go_ret
      exact ⟨by rw [HF.out]; rfl, hB.trans (hbq.mono hB.size)⟩
  · have hq1 : (no == 1) = false := by simp [e1]
    have HR3 : Hid (R = decide (su = so)) := by show _ = _; rw [HR2.out, decide_eq_false e1]; simp
    clear HR2 e1
    go_wp2_with fail
    refine last.wp_region_on W.heap.size (by kernel_rfl) (by kernel_rfl) ?_
    repeat (go_big_quiet_step (first | (go_at_call 27; with_reducible exact hc0 _)))
    refine wpQuiet_nil ?_
    intro wq hwq
    obtain ⟨xq, hwq⟩ := hwq
    subst hwq
    have hbq : Below W.heap.size W xq.w := xq.2
    go_wp2_with fail
    clear p0 p1 p2 p3 hinh hc0 hq1
    obtain ⟨V, hV⟩ : ∃ V, xq.w = V := ⟨_, rfl⟩
    rw [hV] at hbq ⊢
    obtain ⟨b0, b1, b2, b3⟩ := box4 (hX.below hbq)
    have hBV := hB.trans (hbq.mono hB.size)
    have v0 := last.On.cell (B := V.heap.size) b0 (World.block_lt_of_cell? _ _ b0)
    have v1 := last.On.cell (B := V.heap.size) b1 (World.block_lt_of_cell? _ _ b1)
    have v2 := last.On.cell (B := V.heap.size) b2 (World.block_lt_of_cell? _ _ b2)
    have v3 := last.On.cell (B := V.heap.size) b3 (World.block_lt_of_cell? _ _ b3)
    have hinv := last.On.inh V.heap.size V
    have hs0 : ∀ xx : last.On V.heap.size V, Calls Tryd.prog 28 #[.agg #[.int .i64 no, .string pv, .string su, .slice a n cap]] xx.w fun e w' => e = .returned (.agg #[.int .i64 no, .string pv, .string su]) ∧ ∃ yv : last.On V.heap.size V, w' = yv.w := fun xx => last.Calls.on xx (Nat.le_refl _) (i_stamp no pv su (.slice a n cap) rfl xx.w)
    have hs1 : ∀ xx : last.On V.heap.size V, Calls Tryd.prog 28 #[.agg #[.int .i64 no, .string pv, .string so, .slice a n cap]] xx.w fun e w' => e = .returned (.agg #[.int .i64 no, .string pv, .string so]) ∧ ∃ yv : last.On V.heap.size V, w' = yv.w := fun xx => last.Calls.on xx (Nat.le_refl _) (i_stamp no pv so (.slice a n cap) rfl xx.w)
    have hs2 : ∀ xx : last.On V.heap.size V, Calls Tryd.prog 29 #[.int .i64 no, .string pv, .slice a n cap] xx.w fun e w' => e = .returned (.agg #[.int .i64 no, .string pv, .string so, .slice a n cap]) ∧ ∃ yv : last.On V.heap.size V, w' = yv.w := fun xx => last.Calls.on xx (Nat.le_refl _) (HSO.out xx.w (hbq.trans (xx.2.mono hbq.size)))
    clear HSO HA
    by_cases e : su = so
    · subst e
      have hq := stamp_same no pv su
      have HF : Hid (R = true) := by show _ = _; rw [HR3.out]; simp
      clear HR3 b0 b1 b2 b3
      go_wp2_with fail
      refine last.wp_region_on V.heap.size (by kernel_rfl) (by kernel_rfl) ?_
      repeat (go_big_quiet_step (first | (go_at_call 28; with_reducible exact hs0 _) | (go_at_call 28; with_reducible exact hs1 _) | (go_at_call 29; with_reducible exact hs2 _)))
      refine wpQuiet_nil ?_
      intro wq hwq
      obtain ⟨xq, hwq⟩ := hwq
      subst hwq
      have hbq : Below V.heap.size V xq.w := xq.2
      go_wp2_with fail
      go_ret
      exact ⟨by rw [HF.out]; rfl, hBV.trans (hbq.mono hBV.size)⟩
    · have hq := stamp_other (a := no) (a' := no) (b := pv) (b' := pv) (c := su) (c' := so) (fun h => e h.2.2)
      have HF : Hid (R = false) := by show _ = _; rw [HR3.out]; simp [e]
      clear HR3 b0 b1 b2 b3
      go_wp2_with fail
      refine last.wp_region_on V.heap.size (by kernel_rfl) (by kernel_rfl) ?_
      repeat (go_big_quiet_step (first | (go_at_call 28; with_reducible exact hs0 _) | (go_at_call 28; with_reducible exact hs1 _) | (go_at_call 29; with_reducible exact hs2 _)))
      refine wpQuiet_nil ?_
      intro wq hwq
      obtain ⟨xq, hwq⟩ := hwq
      subst hwq
      have hbq : Below V.heap.size V xq.w := xq.2
      go_wp2_with fail
      go_ret
      exact ⟨by rw [HF.out]; rfl, hBV.trans (hbq.mono hBV.size)⟩
end Go.Proofs.YtfaldffehpgaiaaDoor.seals

namespace Go.Proofs.YtfaldffehpgaiaaDoor.seals
open Go Go.RowKit Go.Proofs.YtfaldffehpgaiaaDoor.base Go.Proofs.YtfaldffehpgaiaaDoor.pairs Go.Proofs.YtfaldffehpgaiaaDoor.tree Go.Proofs.YtfaldffehpgaiaaDoor.lay
set_option linter.unusedVariables false
set_option linter.unusedSimpArgs false

def linkI (l : List Seal) (k : Nat) : Bool := match l[k]? with
  | none => true
  | some s => sealI s && decide (s.1 = (k : Int) + 1 ∧ s.2.1 = prevOf (l.take k) ∧ s.2.2.1 = superOf ((k : Int) + 1) (prevOf (l.take k)) s.2.2.2)
theorem linkI_at {l : List Seal} {k : Nat} (h : k < l.length) : linkI l k = (sealI l[k] && decide (l[k].1 = (k : Int) + 1 ∧ l[k].2.1 = prevOf (l.take k) ∧ l[k].2.2.1 = superOf ((k : Int) + 1) (prevOf (l.take k)) l[k].2.2.2)) := by
  unfold linkI
  rw [List.getElem?_eq_getElem h]
theorem seal_super {s : Seal} (h : sealOk s = true) : s.2.2.1 = superOf s.1 s.2.1 s.2.2.2 := by
  unfold sealOk at h
  exact of_decide_eq_true (Bool.and_eq_true_iff.1 h).2
theorem link_same (l : List Seal) (k : Nat) : linkI l k = link l k := by
  by_cases hk : k < l.length
  · rw [linkI_at hk, link_at hk]
    generalize hs : l[k] = s
    by_cases h1 : s.1 = (k : Int) + 1
    · by_cases h2 : s.2.1 = prevOf (l.take k)
      · cases h3 : sealOk s with
        | false =>
          have : sealI s = false := by unfold sealI; rw [h3]; rfl
          rw [this]; rfl
        | true =>
          have h4 := seal_super h3
          have h5 : sealI s = true := by
            unfold sealI
            rw [h3, Bool.true_and]
            by_cases h6 : k = 0
            · subst h6
              have : s.2.1 = dg [] := h2
              rw [decide_eq_true this]; simp
            · rw [decide_eq_false (show ¬ s.1 = 1 by omega)]; rfl
          rw [h5, decide_eq_true h1, decide_eq_true h2, Bool.true_and]
          have h7 : s.2.2.1 = superOf ((k : Int) + 1) (prevOf (l.take k)) s.2.2.2 := by rw [← h1, ← h2]; exact h4
          rw [decide_eq_true ⟨h1, h2, h7⟩]; rfl
      · rw [decide_eq_false h2, decide_eq_false (fun e => h2 e.2.1)]; simp
    · rw [decide_eq_false h1, decide_eq_false (fun e => h1 e.1)]; simp
  · unfold linkI link
    rw [List.getElem?_eq_none (by omega)]
def Mod (l : List Seal) : Prop := ∀ s ∈ l, s.2.1.size ≤ 1048576 ∧ s.2.2.1.size ≤ 1048576 ∧ s.2.2.2.length + puttexts.sum s.2.2.2 ≤ 1048576
theorem Mod.pre {l : List Seal} (h : Mod l) (k : Nat) : Mod (l.take k) := fun s hs => h s (List.mem_of_mem_take hs)
theorem Mod.prev {l : List Seal} (h : Mod l) : (prevOf l).size ≤ 1048576 := by
  by_cases h0 : 0 < l.length
  · rw [prevOf_some h0]; exact (h _ (List.getElem_mem _)).2.1
  · have : l = [] := List.eq_nil_of_length_eq_zero (by omega)
    subst this
    rw [prevOf_nil]
    have : (dg []).size = 32 := by
      show (sha.digest []).toArray.size = 32
      rw [List.size_toArray]; exact sha.digest_length []
    omega
def gaveUp : List PanicEntry := [{ v := .iface 9 (.string ⟨#[97, 32, 115, 101, 97, 108, 32, 116, 104, 97, 116, 32, 100, 111, 101, 115, 32, 110, 111, 116, 32, 102, 111, 108, 108, 111, 119, 32, 116, 104, 101, 32, 111, 110, 101, 32, 97, 104, 101, 97, 100]⟩), recovered := false }]
def endOf (R : Bool) : Ending := bif R then .returned (.tuple #[]) else .panicked gaveUp
set_option maxRecDepth 100000 in
set_option maxHeartbeats 8000000 in
theorem i_follow (a : Option Addr) (n cap : Nat) (l : List Seal) (w : World) (h : SlG sealR w a n l) (hcap : n ≤ cap) (hcm : cap ≤ maxLen) (hmod : Mod l) (hK : sha.KW w) (R : Bool) (hR : chainOk l = R) :
    Calls Tryd.prog 23 #[.slice a n cap] w fun e w' => e = endOf R ∧ Below w.heap.size w w' := by
  have hl := h.1
  have hm := h.2.1
  unfold maxLen at hm hcm
  by_cases hbig : (n : Int) > 1000
  · have HR : Hid (R = false) := by
      show _ = _
      rw [← hR]
      unfold chainOk
      rw [decide_eq_false (show ¬ l.length ≤ 1000 by omega)]; simp
    clear hR
    go_enter Tryd.func23, Tryd.ntmps23
    go_wp2_with fail
    refine ⟨rfl, ?_⟩
    rw [HR.out]
    exact ⟨rfl, Below.refl _ _⟩
  have HLE : Hid (l.length ≤ 1000) := by show _ ≤ _; omega
  have HRR := Hid.mk' hR
  clear hR
  go_enter Tryd.func23, Tryd.ntmps23
  go_wp2_with fail
  go_loopw [10] (fun i wr => ∃ k : Nat, k ≤ n ∧ i = .int .i64 (k : Int) ∧ (∀ j, j < k → link l j = true) ∧ Below w.heap.size w wr) (fun i _ => n - (intOf i).toNat)
  case atStart => exact ⟨0, Nat.zero_le _, rfl, fun j hj => absurd hj (Nat.not_lt_zero _), Below.refl _ _⟩
  case round =>
    obtain ⟨k, hk, rfl, hno, hb⟩ := hrel
    have HNO := Hid.mk' hno
    clear hno
    by_cases hlt : k < n
    · have hkl : k < l.length := by omega
      obtain ⟨b, off, ha, _⟩ := h.2.2.2 (by omega)
      subst ha
      obtain ⟨ra, rn, rc, c0, c1, c2, c3, hS, _, hno1, hp1, _⟩ := seal_at (h.below hb) k hkl
      have hki : (k : Int) < (n : Int) := by omega
      have hkc : (k : Int) ≤ (cap : Int) := by omega
      have hwk : (Lit.int .i64 ((k : Int) + 1)).wf = true := WalkArith.wf_i64 (by omega)
      have HLK := Hid.mk' ((link_same l k).symm.trans (linkI_at hkl))
      have hmk := hmod l[k] (List.getElem_mem hkl)
      have hmp := (hmod.pre k).prev
      obtain ⟨W, hW⟩ : ∃ W, wr.alloc (.cells #[.int .i64 l[k].1, .string l[k].2.1, .string l[k].2.2.1, .slice ra rn rc] 29) = W := ⟨_, rfl⟩
      have hB0 : Below wr.heap.size wr W := by rw [← hW]; exact below_make
      have hX : BoxIn wr.heap.size 29 [] [.int .i64 l[k].1, .string l[k].2.1, .string l[k].2.2.1, .slice ra rn rc] [] W := by rw [← hW]; exact boxIn_new wr _ _
      have hBW := hb.trans (hB0.mono hb.size)
      have HW := Hid.mk' hW
      clear hW
      obtain ⟨b0, b1, b2, b3⟩ := box4 hX
      have hinh := last.On.inh W.heap.size W
      have p0 := last.On.cell (B := W.heap.size) b0 (World.block_lt_of_cell? _ _ b0)
      have p1 := last.On.cell (B := W.heap.size) b1 (World.block_lt_of_cell? _ _ b1)
      have p2 := last.On.cell (B := W.heap.size) b2 (World.block_lt_of_cell? _ _ b2)
      have p3 := last.On.cell (B := W.heap.size) b3 (World.block_lt_of_cell? _ _ b3)
      have hc0 : ∀ xx : last.On W.heap.size W, Calls Tryd.prog 10 #[.agg #[.int .i64 l[k].1, .string l[k].2.1, .string l[k].2.2.1, .slice ra rn rc]] xx.w fun e w' => e = .returned (.bool (sealI l[k])) ∧ ∃ yv : last.On W.heap.size W, w' = yv.w := fun xx => last.Calls.on xx (Nat.le_refl _) (i_sealOk ra rn rc l[k] xx.w ((hS.below hB0).below xx.2) hno1 hp1 ((hK.below hBW).below xx.2))
      have hc1 : ∀ xx : last.On W.heap.size W, Calls Tryd.prog 27 #[.slice (some ⟨b, off, none⟩) k cap] xx.w fun e w' => e = .returned (.string (prevOf (l.take k))) ∧ ∃ yv : last.On W.heap.size W, w' = yv.w := fun xx => last.Calls.on xx (Nat.le_refl _) (i_ahead _ k cap (l.take k) xx.w (slg_pre ((h.below hBW).below xx.2) k (by omega)) ((hK.below hBW).below xx.2))
      have hc2 : ∀ xx : last.On W.heap.size W, Calls Tryd.prog 28 #[.agg #[.int .i64 l[k].1, .string l[k].2.1, .string l[k].2.2.1, .slice ra rn rc]] xx.w fun e w' => e = .returned (.agg #[.int .i64 l[k].1, .string l[k].2.1, .string l[k].2.2.1]) ∧ ∃ yv : last.On W.heap.size W, w' = yv.w := fun xx => last.Calls.on xx (Nat.le_refl _) (i_stamp l[k].1 l[k].2.1 l[k].2.2.1 (.slice ra rn rc) rfl xx.w)
      have hc3 : ∀ xx : last.On W.heap.size W, Calls Tryd.prog 29 #[.int .i64 ((k : Int) + 1), .string (prevOf (l.take k)), .slice ra rn rc] xx.w fun e w' => e = .returned (.agg #[.int .i64 ((k : Int) + 1), .string (prevOf (l.take k)), .string (superOf ((k : Int) + 1) (prevOf (l.take k)) l[k].2.2.2), .slice ra rn rc]) ∧ ∃ yv : last.On W.heap.size W, w' = yv.w := fun xx => last.Calls.on xx (Nat.le_refl _) (i_sealOf ((k : Int) + 1) (prevOf (l.take k)) ra rn rc l[k].2.2.2 xx.w ((hS.below hB0).below xx.2) hwk hmp hmk.2.2 ((hK.below hBW).below xx.2))
      have hc4 : ∀ (x : ByteArray) (y : ByteArray) (xx : last.On W.heap.size W), Calls Tryd.prog 28 #[.agg #[.int .i64 ((k : Int) + 1), .string x, .string y, .slice ra rn rc]] xx.w fun e w' => e = .returned (.agg #[.int .i64 ((k : Int) + 1), .string x, .string y]) ∧ ∃ yv : last.On W.heap.size W, w' = yv.w := fun x y xx => last.Calls.on xx (Nat.le_refl _) (i_stamp ((k : Int) + 1) x y (.slice ra rn rc) rfl xx.w)
      have hgd := guard_stamp
      clear b0 b1 b2 b3 hS hno1 hp1 hmk hmp hwk
      generalize prevOf (l.take k) = pv at *
      generalize sealI l[k] = r0 at *
      have HF : Hid (r0 = false → R = false) := fun e => HRR.out.symm.trans (chain_bad hkl (by rw [HLK.out, e]; rfl))
      have HF1 : Hid (¬ (l[k].1 = (k : Int) + 1 ∧ l[k].2.1 = pv ∧ l[k].2.2.1 = superOf ((k : Int) + 1) pv l[k].2.2.2) → R = false) := fun e => HRR.out.symm.trans (chain_bad hkl (by rw [HLK.out, decide_eq_false e]; simp))
      have HG : Hid (r0 = true → (l[k].1 = (k : Int) + 1 ∧ l[k].2.1 = pv ∧ l[k].2.2.1 = superOf ((k : Int) + 1) pv l[k].2.2.2) → ∀ j, j < k + 1 → link l j = true) := fun e1 e2 j hj => by
        by_cases hjk : j = k
        · subst hjk; rw [HLK.out, e1, decide_eq_true e2]; rfl
        · exact HNO.out j (by omega)
      clear HLK
      generalize superOf ((k : Int) + 1) pv l[k].2.2.2 = so at *
      generalize l[k] = s at *
      obtain ⟨no, pp, su, rs⟩ := s
      simp only [] at *
      go_wp2_with fail
      rw [HW.out]
      clear c0 c1 c2 c3 HW
      cases r0
      · have HR := Hid.mk' (HF.out rfl)
        clear HF HF1 HG hX
        refine last.wp_region_on W.heap.size (by kernel_rfl) (by kernel_rfl) ?_
        repeat (go_big_quiet_step (first | (go_at_call 10; with_reducible exact hc0 _) | (go_at_call 27; with_reducible exact hc1 _) | (go_at_call 28; with_reducible exact hc2 _) | (go_at_call 29; with_reducible exact hc3 _) | (go_at_call 28; with_reducible exact hc4 _ _ _)))
        refine wpQuiet_nil ?_
        intro wq hwq
        obtain ⟨xq, hwq⟩ := hwq
        subst hwq
        have hbq : Below W.heap.size W xq.w := xq.2
        go_wp2_with fail
        refine ⟨rfl, ?_⟩
        rw [HR.out]
        exact ⟨rfl, hBW.trans (hbq.mono hBW.size)⟩
      by_cases e1 : no = (k : Int) + 1 ∧ pp = pv ∧ su = so
      · have HR := Hid.mk' (HG.out rfl e1)
        obtain ⟨e2, e3, e4⟩ := e1
        subst e2 e3 e4
        have hq := stamp_same ((k : Int) + 1) pp su
        clear HF HF1 HG hX
        refine last.wp_region_on W.heap.size (by kernel_rfl) (by kernel_rfl) ?_
        repeat (go_big_quiet_step (first | (go_at_call 10; with_reducible exact hc0 _) | (go_at_call 27; with_reducible exact hc1 _) | (go_at_call 28; with_reducible exact hc2 _) | (go_at_call 29; with_reducible exact hc3 _) | (go_at_call 28; with_reducible exact hc4 _ _ _)))
        refine wpQuiet_nil ?_
        intro wq hwq
        obtain ⟨xq, hwq⟩ := hwq
        subst hwq
        have hbq : Below W.heap.size W xq.w := xq.2
        go_wp2_with fail
        go_roundw
        case rel => exact ⟨k + 1, by omega, by go_num, HR.out, hBW.trans (hbq.mono hBW.size)⟩
        case measure => simp [intOf]; omega
      · have HR := Hid.mk' (HF1.out e1)
        have hq := stamp_other e1
        clear HF HF1 HG hX e1
        refine last.wp_region_on W.heap.size (by kernel_rfl) (by kernel_rfl) ?_
        repeat (go_big_quiet_step (first | (go_at_call 10; with_reducible exact hc0 _) | (go_at_call 27; with_reducible exact hc1 _) | (go_at_call 28; with_reducible exact hc2 _) | (go_at_call 29; with_reducible exact hc3 _) | (go_at_call 28; with_reducible exact hc4 _ _ _)))
        refine wpQuiet_nil ?_
        intro wq hwq
        obtain ⟨xq, hwq⟩ := hwq
        subst hwq
        have hbq : Below W.heap.size W xq.w := xq.2
        go_wp2_with fail
        refine ⟨rfl, ?_⟩
        rw [HR.out]
        exact ⟨rfl, hBW.trans (hbq.mono hBW.size)⟩
    · have hki : ¬ (k : Int) < (n : Int) := by omega
      have HR : Hid (R = true) := by
        show _ = _
        rw [← HRR.out, chain_good (l := l) (fun j hj => HNO.out j (by omega))]
        exact decide_eq_true HLE.out
      go_wp2_with fail
      go_end0
      rw [HR.out]
      exact ⟨rfl, hb⟩
theorem catch_up (p : Addr) (x : Bool) (w : World) (hc : w.cell? p = some (.bool x)) (hz : w.frozen? p = false) :
    CallsD Tryd.prog 22 #[.pointer (some p)] (.panicking gaveUp) w fun e u' w' =>
      e = .returned (.tuple #[]) ∧ u' = .panicking [{ v := .iface 9 (.string ⟨#[97, 32, 115, 101, 97, 108, 32, 116, 104, 97, 116, 32, 100, 111, 101, 115, 32, 110, 111, 116, 32, 102, 111, 108, 108, 111, 119, 32, 116, 104, 101, 32, 111, 110, 101, 32, 97, 104, 101, 97, 100]⟩), recovered := true }] ∧ w' = w.setCell p (.bool false) := by
  unfold gaveUp
  refine callsD_of_wpS Tryd.func22 rfl fun c₀ cs hu => ?_
  apply wpS_seq
  apply wpS_region
  simp [wpOpsS, go_sem, recoverD, hu, Tryd.ntmps22, Exit.thenS]
  refine wpS_cond (t := true) (by simp [Act.eval, Array.replicate]) ?_
  simp only [if_true]
  apply wpS_region
  simp [wpOpsS, go_sem, hc, hz, bodyPostS, results, Tryd.results22]
theorem catch_idle (p : Addr) (w : World) :
    CallsD Tryd.prog 22 #[.pointer (some p)] .returning w fun e u' w' => e = .returned (.tuple #[]) ∧ u' = .returning ∧ w' = w := by
  refine callsD_of_wpS Tryd.func22 rfl fun c₀ cs hu => ?_
  apply wpS_seq
  apply wpS_region
  simp [wpOpsS, go_sem, recoverD, hu, Tryd.ntmps22, Exit.thenS]
  refine wpS_cond (t := false) (by simp [Act.eval, Array.replicate]) ?_
  simp only [Bool.false_eq_true, if_false]
  refine wpS_of_wp (wp_skip ?_)
  cases c₀
  simp_all [bodyPostS, results, Tryd.results22]
set_option maxRecDepth 100000 in
set_option maxHeartbeats 1000000 in
theorem i_chainOk (a : Option Addr) (n cap : Nat) (l : List Seal) (w : World) (h : SlG sealR w a n l) (hcap : n ≤ cap) (hcm : cap ≤ maxLen) (hmod : Mod l) (hK : sha.KW w) :
    Calls Tryd.prog 8 #[.slice a n cap] w fun e w' => e = .returned (.bool (chainOk l)) ∧ Below w.heap.size w w' := by
  have hmf : ∀ (fn : Fn) (first cap : Array Value) (w : World), (Instr.makeFunc fn first cap).run Tryd.prog w = .ok (.func fn first cap) w := fun _ _ _ _ => rfl
  obtain ⟨W, hW⟩ : ∃ W, w.alloc (.cells #[.bool false] 4) = W := ⟨_, rfl⟩
  have hB0 : Below w.heap.size w W := by rw [← hW]; exact below_make
  have hX : BoxIn w.heap.size 4 [] [.bool false] [] W := by rw [← hW]; exact boxIn_new w _ _
  have HFO := Hid.mk' (fun R hR => i_follow a n cap l W (h.below hB0) hcap hcm hmod (hK.below hB0) R hR)
  have HW := Hid.mk' hW
  clear hW h
  cases hR : chainOk l with
  | false =>
    have HF := Hid.mk' (HFO.out false hR)
    clear HFO
    go_enter_defers Tryd.func8, Tryd.ntmps8
    go_wp2_with fail
    rw [HW.out]
    refine HF.out.mono ?_
    rintro e w1 ⟨he, hb1⟩
    have he2 : e = .panicked gaveUp := he
    clear he
    subst he2
    have hX1 := hX.below hb1
    have hB1 := hB0.trans (hb1.mono hB0.size)
    have c0 := hX1.cell 0 _ rfl
    have f0 := hX1.fz 0
    simp only [List.length_nil, Nat.zero_add] at c0
    have n0 := hX1.set 0 (by simp) (.bool false)
    have y0 := n0.1.cell 0 _ rfl
    simp only [List.length_nil, Nat.zero_add] at n0 y0
    have HBz := Hid.mk' (hB1.grown n0.2 hB1.size (fun j e => by cases e; exact Nat.le_refl _))
    refine leaves_cons (f := 22) (args := #[.pointer (some ⟨w.heap.size, 0, none⟩)]) (by simp) (by simp [go_sem]) ?_
    refine (catch_up ⟨w.heap.size, 0, none⟩ false _ c0 f0).mono ?_
    rintro e u' w'' ⟨rfl, rfl, rfl⟩
    refine ⟨.bool false, ?_, rfl, HBz.out⟩
    simp [results, Tryd.results8, go_sem, y0]
  | true =>
    have HF := Hid.mk' (HFO.out true hR)
    clear HFO
    go_enter_defers Tryd.func8, Tryd.ntmps8
    go_wp2_with fail
    rw [HW.out]
    refine HF.out.mono ?_
    rintro e w1 ⟨he, hb1⟩
    have he2 : e = .returned (.tuple #[]) := he
    clear he
    subst he2
    have hX1 := hX.below hb1
    have hB1 := hB0.trans (hb1.mono hB0.size)
    have c0 := hX1.cell 0 _ rfl
    have f0 := hX1.fz 0
    simp only [List.length_nil, Nat.zero_add] at c0
    have n0 := hX1.set 0 (by simp) (.bool true)
    have y0 := n0.1.cell 0 _ rfl
    simp only [List.length_nil, Nat.zero_add] at n0 y0
    have HBz := Hid.mk' (hB1.grown n0.2 hB1.size (fun j e => by cases e; exact Nat.le_refl _))
    have HY0 := Hid.mk' y0
    clear y0 n0
    go_wp2_with fail
    refine leaves_cons (f := 22) (args := #[.pointer (some ⟨w.heap.size, 0, none⟩)]) (by simp) (by simp [go_sem]) ?_
    refine (catch_idle ⟨w.heap.size, 0, none⟩ _).mono ?_
    rintro e u' w'' ⟨rfl, rfl, rfl⟩
    refine ⟨.bool true, ?_, rfl, HBz.out⟩
    have y0 := HY0.out
    simp [results, Tryd.results8, go_sem, y0]
end Go.Proofs.YtfaldffehpgaiaaDoor.seals

namespace Go.Proofs.YtfaldffehpgaiaaDoor.last
open Go Go.RowKit
section
variable {P : Program} {ops : Array Oper} {md : Region.Mode} {Q : Exit → Act → World → Prop} {S : World → Prop} {z : Nat}

def wpAnyL (P : Program) (md : Region.Mode) (ops : Array Oper) (Q : Exit → Act → World → Prop) (S : World → Prop) (z : Nat) : Nat → Array Bool → Act → World → Prop
  | 0, listed, a, w => Region.ready md ops listed = [] ∧ Q .normal a w
  | fuel + 1, listed, a, w =>
    (Region.ready md ops listed = [] → Q .normal a w) ∧
    ∀ i ∈ Region.ready md ops listed, wpOp P ops Q i (fun a' w' => (i ≠ z → S w') ∧ wpAnyL P md ops Q S z fuel (listed.setIfInBounds i true) a' w') a w
theorem wpAny_of_later : ∀ (fuel : Nat) (listed : Array Bool) (a : Act) (w : World), wpAnyL P md ops Q S z fuel listed a w → wpAny P md ops Q fuel listed a w
  | 0, _, _, _, h => h
  | fuel + 1, _, _, _, h => ⟨h.1, fun i hi => wpOp_mono (fun a' w' h' => wpAny_of_later fuel _ a' w' h'.2) (h.2 i hi)⟩
theorem wpAnyL_first {i : Nat} {oi : Oper} {v : Value} (hi : ops[i]? = some oi) (hsel : ∀ (j : Nat) (o : Oper) cs b, ops[j]? = some o → o.op ≠ .select cs b)
    (hQ : ∀ c a w, Q (.panic c) (a.put oi.dst v) w → Q (.panic c) a w) {oz : Oper} (hz : ops[z]? = some oz) (hzi : ∃ e ∈ oz.after, Region.binds md e = true ∧ e.on = i) :
    ∀ (fuel : Nat) (listed : Array Bool) (a : Act) (w : World),
      (∀ j oj, ops[j]? = some oj → j ≠ i → listed.getD j true = false → (∀ e ∈ oj.after, Region.binds md e = true → e.on ≠ i) → oi.apart ops oj = true) →
      i ∈ Region.ready md ops listed → YieldsIf P ops S oi v a → S w →
      wpAnyL P md ops Q S z fuel (listed.setIfInBounds i true) (a.put oi.dst v) w → wpAnyL P md ops Q S z (fuel + 1) listed a w := by
  have hnz : ∀ {listed : Array Bool} {j : Nat}, i ∈ Region.ready md ops listed → j ∈ Region.ready md ops listed → j ≠ z := fun hr hj e => by
    subst e
    obtain ⟨e, he, hb, heq⟩ := hzi
    exact both_ready hr hj hz e he hb heq
  intro fuel
  induction fuel with
  | zero =>
    intro listed a w _ hr hy hS H
    refine ⟨fun h => (by rw [h] at hr; cases hr), fun j hj => ?_⟩
    by_cases hji : j = i
    · subst hji; exact hy.wpOp hi hS ⟨fun _ => hS, H⟩
    · have := ready_mono hj hji
      rw [H.1] at this
      cases this
  | succ fuel ih =>
    intro listed a w hfree hr hy hS H
    refine ⟨fun h => (by rw [h] at hr; cases hr), fun j hj => ?_⟩
    by_cases hji : j = i
    · subst hji; exact hy.wpOp hi hS ⟨fun _ => hS, H⟩
    · have h1 := H.2 j (ready_mono hj hji)
      obtain ⟨hjun, oj, hoj, hall⟩ := mem_ready.1 hj
      have hnot : ∀ e ∈ oj.after, Region.binds md e = true → e.on ≠ i := both_ready hr hj hoj
      have h2 := wpOp_putIf hoj (hfree j oj hoj hji hjun hnot) (fun cs b => hsel i oi cs b hi) (fun cs b => hsel j oj cs b hoj) hQ hy h1
      have hfree' : ∀ k ok, ops[k]? = some ok → k ≠ i → (listed.setIfInBounds j true).getD k true = false →
          (∀ e ∈ ok.after, Region.binds md e = true → e.on ≠ i) → oi.apart ops ok = true := fun k ok hk hki hun hno => by
        refine hfree k ok hk hki ?_ hno
        by_cases hjk : j = k
        · subst hjk; exact hjun
        · rw [getD_set_ne true hjk] at hun; exact hun
      have hjz := hnz hr hj
      refine wpOp_mono (fun a' w' h3 => ⟨h3.2.1, ih (listed.setIfInBounds j true) a' w' hfree' (ready_mono hr (Ne.symm hji)) h3.1 (h3.2.1 hjz) ?_⟩) h2
      rw [Array.setIfInBounds_comm _ _ hji]
      exact h3.2.2
theorem wpAnyL_take {i : Nat} {oi oz : Oper} {v : Value} {fuel : Nat} {listed : Array Bool} {a : Act} {w : World} (hi : ops[i]? = some oi) (hz : ops[z]? = some oz)
    (hs : Region.noSelect ops = true) (hf : Region.free md ops listed i = true) (hr : (Region.ready md ops listed).contains i = true) (hw : waits md oz i = true)
    (hQ : ∀ c a w, Q (.panic c) (a.put oi.dst v) w → Q (.panic c) a w) (hy : YieldsIf P ops S oi v a) (hS : S w)
    (h : wpAnyL P md ops Q S z fuel (listed.setIfInBounds i true) (a.put oi.dst v) w) : wpAnyL P md ops Q S z (fuel + 1) listed a w := by
  have hwz : ∃ e ∈ oz.after, Region.binds md e = true ∧ e.on = i := by
    obtain ⟨e, he, hb⟩ := Array.any_eq_true'.1 hw
    simp only [Bool.and_eq_true, beq_iff_eq] at hb
    exact ⟨e, he, hb⟩
  exact wpAnyL_first hi (Region.noSelect_spec hs) hQ hz hwz fuel listed a w (Region.free_spec hi hf) (by simpa using hr) hy hS h
theorem wpAnyL_one {i : Nat} {o : Oper} {fuel : Nat} {listed : Array Bool} {a : Act} {w : World} (hr : Region.ready md ops listed = [i]) (ho : ops[i]? = some o)
    (h : ∀ K' : Act → World → Prop, Shut (∀ a w, S w → (S w → wpAnyL P md ops Q S z fuel (listed.setIfInBounds i true) a w) → K' a w) → if Region.wanted o (yielded ops a.tmps) = true then Oper.wp P o a w K' Q else K' (a.put o.dst undef) w) :
    wpAnyL P md ops Q S z (fuel + 1) listed a w :=
  by
  refine ⟨fun h0 => ?_, fun j hj => ?_⟩
  · rw [hr] at h0; cases h0
  · rw [hr] at hj
    obtain rfl := List.mem_singleton.1 hj
    exact wpOp_step ho (fun K' hK => h K' (fun a w hS hW => hK a w ⟨fun _ => hS, hW hS⟩))
theorem wpAnyL_last {o : Oper} {fuel : Nat} {listed : Array Bool} {a : Act} {w : World} (hr : Region.ready md ops listed = [z]) (ho : ops[z]? = some o) (hd : Region.ready md ops (listed.setIfInBounds z true) = [])
    (h : ∀ K' : Act → World → Prop, Shut (∀ a w, Q .normal a w → K' a w) → if Region.wanted o (yielded ops a.tmps) = true then Oper.wp P o a w K' Q else K' (a.put o.dst undef) w) :
    wpAnyL P md ops Q S z (fuel + 1) listed a w :=
  by
  refine ⟨fun h0 => ?_, fun j hj => ?_⟩
  · rw [hr] at h0; cases h0
  · rw [hr] at hj
    obtain rfl := List.mem_singleton.1 hj
    refine wpOp_step ho (fun K' hK => h K' (fun a w hq => hK a w ⟨fun h => absurd rfl h, ?_⟩))
    cases fuel with
    | zero => exact ⟨hd, hq⟩
    | succ k => exact ⟨fun _ => hq, by rw [hd]; simp⟩
theorem wp_region_later {id : Nat} {a : Act} {w : World} (z : Nat) (hm : P.follows .mixedOrders = true) (hS : S w.drew)
    (h : S w.drew → wpAnyL P .any ops Q S z ops.size (Array.replicate ops.size false) a w.drew) : (Code.region id ops true).wp P Q a w :=
  wp_region_any hm (wpAny_of_later _ _ _ _ (h hS))
end
end Go.Proofs.YtfaldffehpgaiaaDoor.last

namespace Go.Proofs.YtfaldffehpgaiaaDoor.stepg
open Go Go.RowKit
theorem call1 {P : Program} {ops : Array Oper} {o : Oper} {a : Act} {w : World} {K : Act → World → Prop} {Q : Exit → Act → World → Prop} {E : Prop} (hgd : o.guard = none) (f : FuncId) (x0 : Operand) (ts : Array TypeId)
    (ho : o.op = .call { callee := .value (.func f), args := #[x0], argTypes := ts }) (hent : ∀ args w, (callFunc f args).run P w = .ok (.enter f args) w)
    (v0 : Value) (h0 : a.eval x0 = v0) (R : Ending → World → Prop) (hc : Calls P f #[v0] w R)
    (h : ∀ e w', R e w' → ∃ v, e = .returned v ∧ K (a.put o.dst v) w') :
    if Region.wanted o (yielded ops a.tmps) = true then Oper.wp P o a w K Q else E := by
  have hw : Region.wanted o (yielded ops a.tmps) = true := by simp [Region.wanted, hgd]
  rw [if_pos hw]
  unfold Oper.wp execOp
  have hf : a.eval (.func f) = .func (.func f) #[] #[] := rfl
  have hof : (Deferred.ofValue (Value.func (Fn.func f) #[] #[]) #[v0]).run P w = .ok { target := .fn (.func f) #[], args := #[v0] } w := rfl
  simp only [ho, resolve, invoke, Sem.run_bind, List.map_toArray, List.map_cons, List.map_nil, h0, hf, hof, Result.andThen_ok, hent]
  show Calls P f #[v0] w _
  exact hc.mono (fun e w' he => by obtain ⟨v, rfl, hr⟩ := h e w' he; exact hr)
theorem call2 {P : Program} {ops : Array Oper} {o : Oper} {a : Act} {w : World} {K : Act → World → Prop} {Q : Exit → Act → World → Prop} {E : Prop} (hgd : o.guard = none) (f : FuncId) (x0 x1 : Operand) (ts : Array TypeId)
    (ho : o.op = .call { callee := .value (.func f), args := #[x0, x1], argTypes := ts }) (hent : ∀ args w, (callFunc f args).run P w = .ok (.enter f args) w)
    (v0 v1 : Value) (h0 : a.eval x0 = v0) (h1 : a.eval x1 = v1) (R : Ending → World → Prop) (hc : Calls P f #[v0, v1] w R)
    (h : ∀ e w', R e w' → ∃ v, e = .returned v ∧ K (a.put o.dst v) w') :
    if Region.wanted o (yielded ops a.tmps) = true then Oper.wp P o a w K Q else E := by
  have hw : Region.wanted o (yielded ops a.tmps) = true := by simp [Region.wanted, hgd]
  rw [if_pos hw]
  unfold Oper.wp execOp
  have hf : a.eval (.func f) = .func (.func f) #[] #[] := rfl
  have hof : (Deferred.ofValue (Value.func (Fn.func f) #[] #[]) #[v0, v1]).run P w = .ok { target := .fn (.func f) #[], args := #[v0, v1] } w := rfl
  simp only [ho, resolve, invoke, Sem.run_bind, List.map_toArray, List.map_cons, List.map_nil, h0, h1, hf, hof, Result.andThen_ok, hent]
  show Calls P f #[v0, v1] w _
  exact hc.mono (fun e w' he => by obtain ⟨v, rfl, hr⟩ := h e w' he; exact hr)
end Go.Proofs.YtfaldffehpgaiaaDoor.stepg
