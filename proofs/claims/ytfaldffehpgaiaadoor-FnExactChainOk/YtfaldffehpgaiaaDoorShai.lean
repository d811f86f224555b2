/- The program's chains. The laws' helpers for seals: alike. The laws' helpers for seals: their sizes. An answer of one cell that is new. No function of the program is named here. The laws' own copies of seals. Arguments: what came in is read as a value of its type. No function of the program is named here. -/
import Derived.Test.YtfaldffehpgaiaaDoorShah
import Derived.Defers
import Derived.Recover
import Derived.Test.YtfaldffehpgaiaaDoorShag
import Derived.Test.YtfaldffehpgaiaaDoorShad
import Derived.ChangeArms
import Derived.Deep.Slices
import Derived.WideShapes
import Derived.Deep.SlicePairs
namespace Go.Proofs.YtfaldffehpgaiaaDoor.seals
open Go Go.RowKit Go.Proofs.YtfaldffehpgaiaaDoor.base Go.Proofs.YtfaldffehpgaiaaDoor.pairs Go.Proofs.YtfaldffehpgaiaaDoor.tree Go.Proofs.YtfaldffehpgaiaaDoor.lay
set_option linter.unusedVariables false
set_option linter.unusedSimpArgs false

def linkI (l : List Seal) (k : Nat) : Bool := match l[k]? with
  | none => true
  | some s => sealI s && decide (s.1 = (k : Int) + 1 ∧ s.2.1 = prevOf (l.take k) ∧ s.2.2.1 = superOf ((k : Int) + 1) (prevOf (l.take k)) s.2.2.2)
theorem linkI_at {l : List Seal} {k : Nat} (h : k < l.length) : linkI l k = (sealI l[k] && decide (l[k].1 = (k : Int) + 1 ∧ l[k].2.1 = prevOf (l.take k) ∧ l[k].2.2.1 = superOf ((k : Int) + 1) (prevOf (l.take k)) l[k].2.2.2)) := by
  unfold linkI
  rw [List.getElem?_eq_getElem h]
theorem seal_super {s : Seal} (h : sealOk s = true) : s.2.2.1 = superOf s.1 s.2.1 s.2.2.2 := by
  unfold sealOk at h
  exact of_decide_eq_true (Bool.and_eq_true_iff.1 h).2
theorem link_same (l : List Seal) (k : Nat) : linkI l k = link l k := by
  by_cases hk : k < l.length
  · rw [linkI_at hk, link_at hk]
    generalize hs : l[k] = s
    by_cases h1 : s.1 = (k : Int) + 1
    · by_cases h2 : s.2.1 = prevOf (l.take k)
      · cases h3 : sealOk s with
        | false =>
          have : sealI s = false := by unfold sealI; rw [h3]; rfl
          rw [this]; rfl
        | true =>
          have h4 := seal_super h3
          have h5 : sealI s = true := by
            unfold sealI
            rw [h3, Bool.true_and]
            by_cases h6 : k = 0
            · subst h6
              have : s.2.1 = dg [] := h2
              rw [decide_eq_true this]; simp
            · rw [decide_eq_false (show ¬ s.1 = 1 by omega)]; rfl
          rw [h5, decide_eq_true h1, decide_eq_true h2, Bool.true_and]
          have h7 : s.2.2.1 = superOf ((k : Int) + 1) (prevOf (l.take k)) s.2.2.2 := by rw [← h1, ← h2]; exact h4
          rw [decide_eq_true ⟨h1, h2, h7⟩]; rfl
      · rw [decide_eq_false h2, decide_eq_false (fun e => h2 e.2.1)]; simp
    · rw [decide_eq_false h1, decide_eq_false (fun e => h1 e.1)]; simp
  · unfold linkI link
    rw [List.getElem?_eq_none (by omega)]
def Mod (l : List Seal) : Prop := ∀ s ∈ l, s.2.1.size ≤ 1048576 ∧ s.2.2.1.size ≤ 1048576 ∧ s.2.2.2.length + puttexts.sum s.2.2.2 ≤ 1048576
theorem Mod.pre {l : List Seal} (h : Mod l) (k : Nat) : Mod (l.take k) := fun s hs => h s (List.mem_of_mem_take hs)
theorem Mod.prev {l : List Seal} (h : Mod l) : (prevOf l).size ≤ 1048576 := by
  by_cases h0 : 0 < l.length
  · rw [prevOf_some h0]; exact (h _ (List.getElem_mem _)).2.1
  · have : l = [] := List.eq_nil_of_length_eq_zero (by omega)
    subst this
    rw [prevOf_nil]
    have : (dg []).size = 32 := by
      show (sha.digest []).toArray.size = 32
      rw [List.size_toArray]; exact sha.digest_length []
    omega
def gaveUp : List PanicEntry := [{ v := .iface 9 (.string ⟨#[97, 32, 115, 101, 97, 108, 32, 116, 104, 97, 116, 32, 100, 111, 101, 115, 32, 110, 111, 116, 32, 102, 111, 108, 108, 111, 119, 32, 116, 104, 101, 32, 111, 110, 101, 32, 97, 104, 101, 97, 100]⟩), recovered := false }]
def endOf (R : Bool) : Ending := bif R then .returned (.tuple #[]) else .panicked gaveUp
set_option maxRecDepth 100000 in
set_option maxHeartbeats 8000000 in
theorem i_follow (a : Option Addr) (n cap : Nat) (l : List Seal) (w : World) (h : SlG sealR w a n l) (hcap : n ≤ cap) (hcm : cap ≤ maxLen) (hmod : Mod l) (hK : sha.KW w) (R : Bool) (hR : chainOk l = R) :
    Calls Tryd.prog 23 #[.slice a n cap] w fun e w' => e = endOf R ∧ Below w.heap.size w w' := by
  have hl := h.1
  have hm := h.2.1
  unfold maxLen at hm hcm
  by_cases hbig : (n : Int) > 1000
  · have HR : Hid (R = false) := by
      show _ = _
      rw [← hR]
      unfold chainOk
      rw [decide_eq_false (show ¬ l.length ≤ 1000 by omega)]; simp
    clear hR
    go_enter Tryd.func23, Tryd.ntmps23
    go_wp2_with fail
    refine ⟨rfl, ?_⟩
    rw [HR.out]
    exact ⟨rfl, Below.refl _ _⟩
  have HLE : Hid (l.length ≤ 1000) := by show _ ≤ _; omega
  have HRR := Hid.mk' hR
  clear hR
  go_enter Tryd.func23, Tryd.ntmps23
  go_wp2_with fail
  go_loopw [10] (fun i wr => ∃ k : Nat, k ≤ n ∧ i = .int .i64 (k : Int) ∧ (∀ j, j < k → link l j = true) ∧ Below w.heap.size w wr) (fun i _ => n - (intOf i).toNat)
  case atStart => exact ⟨0, Nat.zero_le _, rfl, fun j hj => absurd hj (Nat.not_lt_zero _), Below.refl _ _⟩
  case round =>
    obtain ⟨k, hk, rfl, hno, hb⟩ := hrel
    have HNO := Hid.mk' hno
    clear hno
    by_cases hlt : k < n
    · have hkl : k < l.length := by omega
      obtain ⟨b, off, ha, _⟩ := h.2.2.2 (by omega)
      subst ha
      obtain ⟨ra, rn, rc, c0, c1, c2, c3, hS, _, hno1, hp1, _⟩ := seal_at (h.below hb) k hkl
      have hki : (k : Int) < (n : Int) := by omega
      have hkc : (k : Int) ≤ (cap : Int) := by omega
      have hwk : (Lit.int .i64 ((k : Int) + 1)).wf = true := WalkArith.wf_i64 (by omega)
      have HLK := Hid.mk' ((link_same l k).symm.trans (linkI_at hkl))
      have hmk := hmod l[k] (List.getElem_mem hkl)
      have hmp := (hmod.pre k).prev
      obtain ⟨W, hW⟩ : ∃ W, wr.alloc (.cells #[.int .i64 l[k].1, .string l[k].2.1, .string l[k].2.2.1, .slice ra rn rc] 29) = W := ⟨_, rfl⟩
      have hB0 : Below wr.heap.size wr W := by rw [← hW]; exact below_make
      have hX : BoxIn wr.heap.size 29 [] [.int .i64 l[k].1, .string l[k].2.1, .string l[k].2.2.1, .slice ra rn rc] [] W := by rw [← hW]; exact boxIn_new wr _ _
      have hBW := hb.trans (hB0.mono hb.size)
      have HW := Hid.mk' hW
      clear hW
      obtain ⟨b0, b1, b2, b3⟩ := box4 hX
      have hinh := last.On.inh W.heap.size W
      have p0 := last.On.cell (B := W.heap.size) b0 (World.block_lt_of_cell? _ _ b0)
      have p1 := last.On.cell (B := W.heap.size) b1 (World.block_lt_of_cell? _ _ b1)
      have p2 := last.On.cell (B := W.heap.size) b2 (World.block_lt_of_cell? _ _ b2)
      have p3 := last.On.cell (B := W.heap.size) b3 (World.block_lt_of_cell? _ _ b3)
      have hc0 : ∀ xx : last.On W.heap.size W, Calls Tryd.prog 10 #[.agg #[.int .i64 l[k].1, .string l[k].2.1, .string l[k].2.2.1, .slice ra rn rc]] xx.w fun e w' => e = .returned (.bool (sealI l[k])) ∧ ∃ yv : last.On W.heap.size W, w' = yv.w := fun xx => last.Calls.on xx (Nat.le_refl _) (i_sealOk ra rn rc l[k] xx.w ((hS.below hB0).below xx.2) hno1 hp1 ((hK.below hBW).below xx.2))
      have hc1 : ∀ xx : last.On W.heap.size W, Calls Tryd.prog 27 #[.slice (some ⟨b, off, none⟩) k cap] xx.w fun e w' => e = .returned (.string (prevOf (l.take k))) ∧ ∃ yv : last.On W.heap.size W, w' = yv.w := fun xx => last.Calls.on xx (Nat.le_refl _) (i_ahead _ k cap (l.take k) xx.w (slg_pre ((h.below hBW).below xx.2) k (by omega)) ((hK.below hBW).below xx.2))
      have hc2 : ∀ xx : last.On W.heap.size W, Calls Tryd.prog 28 #[.agg #[.int .i64 l[k].1, .string l[k].2.1, .string l[k].2.2.1, .slice ra rn rc]] xx.w fun e w' => e = .returned (.agg #[.int .i64 l[k].1, .string l[k].2.1, .string l[k].2.2.1]) ∧ ∃ yv : last.On W.heap.size W, w' = yv.w := fun xx => last.Calls.on xx (Nat.le_refl _) (i_stamp l[k].1 l[k].2.1 l[k].2.2.1 (.slice ra rn rc) rfl xx.w)
      have hc3 : ∀ xx : last.On W.heap.size W, Calls Tryd.prog 29 #[.int .i64 ((k : Int) + 1), .string (prevOf (l.take k)), .slice ra rn rc] xx.w fun e w' => e = .returned (.agg #[.int .i64 ((k : Int) + 1), .string (prevOf (l.take k)), .string (superOf ((k : Int) + 1) (prevOf (l.take k)) l[k].2.2.2), .slice ra rn rc]) ∧ ∃ yv : last.On W.heap.size W, w' = yv.w := fun xx => last.Calls.on xx (Nat.le_refl _) (i_sealOf ((k : Int) + 1) (prevOf (l.take k)) ra rn rc l[k].2.2.2 xx.w ((hS.below hB0).below xx.2) hwk hmp hmk.2.2 ((hK.below hBW).below xx.2))
      have hc4 : ∀ (x : ByteArray) (y : ByteArray) (xx : last.On W.heap.size W), Calls Tryd.prog 28 #[.agg #[.int .i64 ((k : Int) + 1), .string x, .string y, .slice ra rn rc]] xx.w fun e w' => e = .returned (.agg #[.int .i64 ((k : Int) + 1), .string x, .string y]) ∧ ∃ yv : last.On W.heap.size W, w' = yv.w := fun x y xx => last.Calls.on xx (Nat.le_refl _) (i_stamp ((k : Int) + 1) x y (.slice ra rn rc) rfl xx.w)
      have hgd := guard_stamp
      clear b0 b1 b2 b3 hS hno1 hp1 hmk hmp hwk
      generalize prevOf (l.take k) = pv at *
      generalize sealI l[k] = r0 at *
      have HF : Hid (r0 = false → R = false) := fun e => HRR.out.symm.trans (chain_bad hkl (by rw [HLK.out, e]; rfl))
      have HF1 : Hid (¬ (l[k].1 = (k : Int) + 1 ∧ l[k].2.1 = pv ∧ l[k].2.2.1 = superOf ((k : Int) + 1) pv l[k].2.2.2) → R = false) := fun e => HRR.out.symm.trans (chain_bad hkl (by rw [HLK.out, decide_eq_false e]; simp))
      have HG : Hid (r0 = true → (l[k].1 = (k : Int) + 1 ∧ l[k].2.1 = pv ∧ l[k].2.2.1 = superOf ((k : Int) + 1) pv l[k].2.2.2) → ∀ j, j < k + 1 → link l j = true) := fun e1 e2 j hj => by
        by_cases hjk : j = k
        · subst hjk; rw [HLK.out, e1, decide_eq_true e2]; rfl
        · exact HNO.out j (by omega)
      clear HLK
      generalize superOf ((k : Int) + 1) pv l[k].2.2.2 = so at *
      generalize l[k] = s at *
      obtain ⟨no, pp, su, rs⟩ := s
      simp only [] at *
      go_wp2_with fail
      rw [HW.out]
      clear c0 c1 c2 c3 HW
      cases r0
      · have HR := Hid.mk' (HF.out rfl)
        clear HF HF1 HG hX
        refine last.wp_region_on W.heap.size (by kernel_rfl) (by kernel_rfl) ?_
        repeat (go_big_quiet_step (first | (go_at_call 10; with_reducible exact hc0 _) | (go_at_call 27; with_reducible exact hc1 _) | (go_at_call 28; with_reducible exact hc2 _) | (go_at_call 29; with_reducible exact hc3 _) | (go_at_call 28; with_reducible exact hc4 _ _ _)))
        refine wpQuiet_nil ?_
        intro wq hwq
        obtain ⟨xq, hwq⟩ := hwq
        subst hwq
        have hbq : Below W.heap.size W xq.w := xq.2
        go_wp2_with fail
        refine ⟨rfl, ?_⟩
        rw [HR.out]
        exact ⟨rfl, hBW.trans (hbq.mono hBW.size)⟩
      by_cases e1 : no = (k : Int) + 1 ∧ pp = pv ∧ su = so
      · have HR := Hid.mk' (HG.out rfl e1)
        obtain ⟨e2, e3, e4⟩ := e1
        subst e2 e3 e4
        have hq := stamp_same ((k : Int) + 1) pp su
        clear HF HF1 HG hX
        refine last.wp_region_on W.heap.size (by kernel_rfl) (by kernel_rfl) ?_
        repeat (go_big_quiet_step (first | (go_at_call 10; with_reducible exact hc0 _) | (go_at_call 27; with_reducible exact hc1 _) | (go_at_call 28; with_reducible exact hc2 _) | (go_at_call 29; with_reducible exact hc3 _) | (go_at_call 28; with_reducible exact hc4 _ _ _)))
        refine wpQuiet_nil ?_
        intro wq hwq
        obtain ⟨xq, hwq⟩ := hwq
        subst hwq
        have hbq : Below W.heap.size W xq.w := xq.2
        go_wp2_with fail
        go_roundw
        case rel => exact ⟨k + 1, by omega, by go_num, HR.out, hBW.trans (hbq.mono hBW.size)⟩
        case measure => simp [intOf]; omega
      · have HR := Hid.mk' (HF1.out e1)
        have hq := stamp_other e1
        clear HF HF1 HG hX e1
        refine last.wp_region_on W.heap.size (by kernel_rfl) (by kernel_rfl) ?_
        repeat (go_big_quiet_step (first | (go_at_call 10; with_reducible exact hc0 _) | (go_at_call 27; with_reducible exact hc1 _) | (go_at_call 28; with_reducible exact hc2 _) | (go_at_call 29; with_reducible exact hc3 _) | (go_at_call 28; with_reducible exact hc4 _ _ _)))
        refine wpQuiet_nil ?_
        intro wq hwq
        obtain ⟨xq, hwq⟩ := hwq
        subst hwq
        have hbq : Below W.heap.size W xq.w := xq.2
        go_wp2_with fail
        refine ⟨rfl, ?_⟩
        rw [HR.out]
        exact ⟨rfl, hBW.trans (hbq.mono hBW.size)⟩
    · have hki : ¬ (k : Int) < (n : Int) := by omega
      have HR : Hid (R = true) := by
        show _ = _
        rw [← HRR.out, chain_good (l := l) (fun j hj => HNO.out j (by omega))]
        exact decide_eq_true HLE.out
      go_wp2_with fail
      go_end0
      rw [HR.out]
      exact ⟨rfl, hb⟩
theorem catch_up (p : Addr) (x : Bool) (w : World) (hc : w.cell? p = some (.bool x)) (hz : w.frozen? p = false) :
    CallsD Tryd.prog 22 #[.pointer (some p)] (.panicking gaveUp) w fun e u' w' =>
      e = .returned (.tuple #[]) ∧ u' = .panicking [{ v := .iface 9 (.string ⟨#[97, 32, 115, 101, 97, 108, 32, 116, 104, 97, 116, 32, 100, 111, 101, 115, 32, 110, 111, 116, 32, 102, 111, 108, 108, 111, 119, 32, 116, 104, 101, 32, 111, 110, 101, 32, 97, 104, 101, 97, 100]⟩), recovered := true }] ∧ w' = w.setCell p (.bool false) := by
  unfold gaveUp
  refine callsD_of_wpS Tryd.func22 rfl fun c₀ cs hu => ?_
  apply wpS_seq
  apply wpS_region
  simp [wpOpsS, go_sem, recoverD, hu, Tryd.ntmps22, Exit.thenS]
  refine wpS_cond (t := true) (by simp [Act.eval, Array.replicate]) ?_
  simp only [if_true]
  apply wpS_region
  simp [wpOpsS, go_sem, hc, hz, bodyPostS, results, Tryd.results22]
theorem catch_idle (p : Addr) (w : World) :
    CallsD Tryd.prog 22 #[.pointer (some p)] .returning w fun e u' w' => e = .returned (.tuple #[]) ∧ u' = .returning ∧ w' = w := by
  refine callsD_of_wpS Tryd.func22 rfl fun c₀ cs hu => ?_
  apply wpS_seq
  apply wpS_region
  simp [wpOpsS, go_sem, recoverD, hu, Tryd.ntmps22, Exit.thenS]
  refine wpS_cond (t := false) (by simp [Act.eval, Array.replicate]) ?_
  simp only [Bool.false_eq_true, if_false]
  refine wpS_of_wp (wp_skip ?_)
  cases c₀
  simp_all [bodyPostS, results, Tryd.results22]
set_option maxRecDepth 100000 in
set_option maxHeartbeats 1000000 in
theorem i_chainOk (a : Option Addr) (n cap : Nat) (l : List Seal) (w : World) (h : SlG sealR w a n l) (hcap : n ≤ cap) (hcm : cap ≤ maxLen) (hmod : Mod l) (hK : sha.KW w) :
    Calls Tryd.prog 8 #[.slice a n cap] w fun e w' => e = .returned (.bool (chainOk l)) ∧ Below w.heap.size w w' := by
  have hmf : ∀ (fn : Fn) (first cap : Array Value) (w : World), (Instr.makeFunc fn first cap).run Tryd.prog w = .ok (.func fn first cap) w := fun _ _ _ _ => rfl
  obtain ⟨W, hW⟩ : ∃ W, w.alloc (.cells #[.bool false] 4) = W := ⟨_, rfl⟩
  have hB0 : Below w.heap.size w W := by rw [← hW]; exact below_make
  have hX : BoxIn w.heap.size 4 [] [.bool false] [] W := by rw [← hW]; exact boxIn_new w _ _
  have HFO := Hid.mk' (fun R hR => i_follow a n cap l W (h.below hB0) hcap hcm hmod (hK.below hB0) R hR)
  have HW := Hid.mk' hW
  clear hW h
  cases hR : chainOk l with
  | false =>
    have HF := Hid.mk' (HFO.out false hR)
    clear HFO
    go_enter_defers Tryd.func8, Tryd.ntmps8
    go_wp2_with fail
    rw [HW.out]
    refine HF.out.mono ?_
    rintro e w1 ⟨he, hb1⟩
    have he2 : e = .panicked gaveUp := he
    clear he
    subst he2
    have hX1 := hX.below hb1
    have hB1 := hB0.trans (hb1.mono hB0.size)
    have c0 := hX1.cell 0 _ rfl
    have f0 := hX1.fz 0
    simp only [List.length_nil, Nat.zero_add] at c0
    have n0 := hX1.set 0 (by simp) (.bool false)
    have y0 := n0.1.cell 0 _ rfl
    simp only [List.length_nil, Nat.zero_add] at n0 y0
    have HBz := Hid.mk' (hB1.grown n0.2 hB1.size (fun j e => by cases e; exact Nat.le_refl _))
    refine leaves_cons (f := 22) (args := #[.pointer (some ⟨w.heap.size, 0, none⟩)]) (by simp) (by simp [go_sem]) ?_
    refine (catch_up ⟨w.heap.size, 0, none⟩ false _ c0 f0).mono ?_
    rintro e u' w'' ⟨rfl, rfl, rfl⟩
    refine ⟨.bool false, ?_, rfl, HBz.out⟩
    simp [results, Tryd.results8, go_sem, y0]
  | true =>
    have HF := Hid.mk' (HFO.out true hR)
    clear HFO
    go_enter_defers Tryd.func8, Tryd.ntmps8
    go_wp2_with fail
    rw [HW.out]
    refine HF.out.mono ?_
    rintro e w1 ⟨he, hb1⟩
    have he2 : e = .returned (.tuple #[]) := he
    clear he
    subst he2
    have hX1 := hX.below hb1
    have hB1 := hB0.trans (hb1.mono hB0.size)
    have c0 := hX1.cell 0 _ rfl
    have f0 := hX1.fz 0
    simp only [List.length_nil, Nat.zero_add] at c0
    have n0 := hX1.set 0 (by simp) (.bool true)
    have y0 := n0.1.cell 0 _ rfl
    simp only [List.length_nil, Nat.zero_add] at n0 y0
    have HBz := Hid.mk' (hB1.grown n0.2 hB1.size (fun j e => by cases e; exact Nat.le_refl _))
    have HY0 := Hid.mk' y0
    clear y0 n0
    go_wp2_with fail
    refine leaves_cons (f := 22) (args := #[.pointer (some ⟨w.heap.size, 0, none⟩)]) (by simp) (by simp [go_sem]) ?_
    refine (catch_idle ⟨w.heap.size, 0, none⟩ _).mono ?_
    rintro e u' w'' ⟨rfl, rfl, rfl⟩
    refine ⟨.bool true, ?_, rfl, HBz.out⟩
    have y0 := HY0.out
    simp [results, Tryd.results8, go_sem, y0]
end Go.Proofs.YtfaldffehpgaiaaDoor.seals

namespace Go.Proofs.YtfaldffehpgaiaaDoor.seals
open Go Go.RowKit Go.Proofs.YtfaldffehpgaiaaDoor.base Go.Proofs.YtfaldffehpgaiaaDoor.pairs Go.Proofs.YtfaldffehpgaiaaDoor.lay
set_option linter.unusedVariables false
set_option linter.unusedSimpArgs false

theorem slg_some {α : Type} {R : Rd α} {w : World} {a : Option Addr} {len : Nat} {l : List α} (h : SlG R w a len l) (h0 : 0 < len) : ∃ b off, a = some ⟨b, off, none⟩ := by
  obtain ⟨b, off, e, _⟩ := h.2.2.2 h0
  exact ⟨b, off, e⟩
theorem below_two (w : World) (o o2 : Obj) : Below w.heap.size w ((w.alloc o).alloc o2) := ((Below.refl _ _).alloc (Nat.le_refl _) _).alloc (by simp) _
set_option maxRecDepth 100000 in
set_option maxHeartbeats 1000000 in
theorem eqSealT (no : Int) (pv su : ByteArray) (oa ob : Option Addr) (ol oc bl bc : Nat) (rs : List ByteArray) (w : World) (h1 : SlS w oa ol rs) (h2 : SlS w ob bl rs) :
    Calls Tryd.prog 39 #[.agg #[.int .i64 no, .string pv, .string su, .slice oa ol oc], .agg #[.int .i64 no, .string pv, .string su, .slice ob bl bc]] w fun e w' => e = .returned (.bool true) ∧ Below w.heap.size w w' := by
  obtain ⟨W, hW⟩ : ∃ W, (w.alloc (.cells #[.int .i64 no, .string pv, .string su, .slice oa ol oc] 29)).alloc (.cells #[.int .i64 no, .string pv, .string su, .slice ob bl bc] 29) = W := ⟨_, rfl⟩
  have hB : Below w.heap.size w W := by rw [← hW]; exact below_two _ _ _
  have hT := helps.eqStringS oa ob ol oc bl bc rs rs W (h1.below hB) (h2.below hB)
  rw [decide_eq_true rfl] at hT
  have HO := Hid.mk' hT
  have HW := Hid.mk' hW
  have hn : (no == no) = true := by simp
  have hp := str_same pv
  have hu := str_same su
  clear hW h1 h2 hT
  go_enter Tryd.func39, Tryd.ntmps39
  go_wp2_with fail
  rw [HW.out]
  refine HO.out.mono ?_
  rintro e w1 ⟨rfl, n, rfl⟩
  have hB1 := below_drewN hB n
  clear HO HW
  go_wp2_with fail
  go_ret
  exact ⟨rfl, hB1⟩
set_option maxRecDepth 100000 in
set_option maxHeartbeats 2000000 in
theorem eqSealsT (a a2 : Option Addr) (len cap cap2 : Nat) (l : List Seal) (w : World) (h : SlG sealR w a len l) (h2 : SlG sealR w a2 len l) :
    Calls Tryd.prog 19 #[.slice a len cap, .slice a2 len cap2] w fun e w' => e = .returned (.bool true) ∧ Below w.heap.size w w' := by
  have hl := h.1
  have hm := h.2.1
  unfold maxLen at hm
  have hb : ((len : Int) == (len : Int)) = true := by simp
  go_enter Tryd.func19, Tryd.ntmps19
  go_wp2_with fail
  go_loopw [5] (fun i wr => ∃ k : Nat, k ≤ len ∧ i = .int .i64 k ∧ Below w.heap.size w wr) (fun i _ => len - (intOf i).toNat)
  case atStart => exact ⟨0, Nat.zero_le _, rfl, Below.refl _ _⟩
  case round =>
    obtain ⟨k, hk, rfl, hB⟩ := hrel
    by_cases hlt : k < len
    · have hltl : k < l.length := by omega
      obtain ⟨b, off, e⟩ := slg_some h (by omega)
      obtain ⟨b2, off2, e2⟩ := slg_some h2 (by omega)
      subst e e2
      have hki : (k : Int) < (len : Int) := by omega
      obtain ⟨ra, rn, rc, c0, c1, c2, c3, hS1, _⟩ := seal_at (h.below hB) k hltl
      obtain ⟨zra, zrn, zrc, d0, d1, d2, d3, hS2, _⟩ := seal_at (h2.below hB) k hltl
      have o0 := last.On.cell (B := wr.heap.size) c0 (World.block_lt_of_cell? _ _ c0)
      have p0 := last.On.cell (B := wr.heap.size) d0 (World.block_lt_of_cell? _ _ d0)
      have o1 := last.On.cell (B := wr.heap.size) c1 (World.block_lt_of_cell? _ _ c1)
      have p1 := last.On.cell (B := wr.heap.size) d1 (World.block_lt_of_cell? _ _ d1)
      have o2 := last.On.cell (B := wr.heap.size) c2 (World.block_lt_of_cell? _ _ c2)
      have p2 := last.On.cell (B := wr.heap.size) d2 (World.block_lt_of_cell? _ _ d2)
      have o3 := last.On.cell (B := wr.heap.size) c3 (World.block_lt_of_cell? _ _ c3)
      have p3 := last.On.cell (B := wr.heap.size) d3 (World.block_lt_of_cell? _ _ d3)
      have hinh := last.On.inh wr.heap.size wr
      have hcall : ∀ x : last.On wr.heap.size wr, Calls Tryd.prog 39 #[.agg #[.int .i64 l[k].1, .string l[k].2.1, .string l[k].2.2.1, .slice ra rn rc], .agg #[.int .i64 l[k].1, .string l[k].2.1, .string l[k].2.2.1, .slice zra zrn zrc]] x.w fun e w' => e = .returned (.bool true) ∧ ∃ y : last.On wr.heap.size wr, w' = y.w := fun x => last.Calls.on x (Nat.le_refl _) (eqSealT _ _ _ ra zra rn rc zrn zrc l[k].2.2.2 x.w (hS1.below x.2) (hS2.below x.2))
      clear h h2 hS1 hS2
      generalize l[k] = p at *
      go_wp2_with fail
      refine last.wp_region_on wr.heap.size (by kernel_rfl) (by kernel_rfl) ?_
      repeat (go_big_quiet_step ((go_at_call 39; exact hcall _)))
      refine wpQuiet_nil ?_
      intro w5 hw5
      obtain ⟨x5, hw5⟩ := hw5
      subst hw5
      have hB5 : Below w.heap.size w x5.w := hB.trans (x5.2.mono hB.size)
      go_wp2_with fail
      go_roundw
      case rel => exact ⟨k + 1, by omega, by go_num, hB5⟩
      case measure => simp [intOf]; omega
    · have hnk : ¬ (k : Int) < (len : Int) := by omega
      go_wp2_with fail
      go_ret
      exact ⟨rfl, hB⟩
end Go.Proofs.YtfaldffehpgaiaaDoor.seals

namespace Go.Proofs.YtfaldffehpgaiaaDoor.seals
open Go Go.RowKit Go.Proofs.YtfaldffehpgaiaaDoor.base Go.Proofs.YtfaldffehpgaiaaDoor.pairs Go.Proofs.YtfaldffehpgaiaaDoor.lay
set_option linter.unusedVariables false
set_option linter.unusedSimpArgs false

def slz (x : Seal) : Nat := x.2.1.size + (x.2.2.1.size + (x.2.2.2.length + puttexts.sum x.2.2.2))
def sumL (l : List Seal) : Nat := (l.map slz).sum
theorem sumL_take (l : List Seal) (k : Nat) (h : k < l.length) : sumL (l.take (k + 1)) = sumL (l.take k) + slz l[k] := by
  unfold sumL
  rw [List.take_succ_eq_append_getElem h, List.map_append, List.sum_append]; simp
theorem sumL_le (l : List Seal) (k : Nat) : sumL (l.take k) ≤ sumL l := by
  conv => rhs; rw [← List.take_append_drop k l]
  unfold sumL
  rw [List.map_append, List.sum_append]; omega
theorem sumL_mem {l : List Seal} {j : Seal} (h : j ∈ l) : slz j ≤ sumL l := by
  obtain ⟨i, hi, rfl⟩ := List.getElem_of_mem h
  have h1 := sumL_take l i hi
  have h2 := sumL_le l (i + 1)
  omega
set_option maxRecDepth 100000 in
set_option maxHeartbeats 2000000 in
theorem szSeal (x : Seal) (ra : Option Addr) (rn rc : Nat) (L : Nat) (w : World) (h1 : SlS w ra rn x.2.2.2) (hp : x.2.1.size ≤ maxLen) (hs : x.2.2.1.size ≤ maxLen) (hL : L ≤ 1099511627776) :
    Calls Tryd.prog 37 #[.agg #[.int .i64 x.1, .string x.2.1, .string x.2.2.1, .slice ra rn rc], .int .i64 (L : Int)] w fun e w' => e = .returned (.int .i64 (puttexts.szR L (slz x))) ∧ Below w.heap.size w w' := by
  unfold maxLen at hp hs
  obtain ⟨W, hW⟩ : ∃ W, w.alloc (.cells #[.int .i64 x.1, .string x.2.1, .string x.2.2.1, .slice ra rn rc] 59) = W := ⟨_, rfl⟩
  have hB : Below w.heap.size w W := by rw [← hW]; exact below_make
  have HW := Hid.mk' hW
  have HH := Hid.mk' (fun (M : Nat) (hM : M ≤ 1099511627776) => puttexts.szStringS ra rn rc x.2.2.2 M W (h1.below hB) hM)
  have HZ : Hid (slz x = x.2.1.size + (x.2.2.1.size + (x.2.2.2.length + puttexts.sum x.2.2.2))) := rfl
  generalize slz x = Z at *
  generalize x.2.2.2.length + puttexts.sum x.2.2.2 = z2 at *
  clear hW h1
  by_cases q0 : (L : Int) - (x.2.1.size : Int) < 0
  · have HR : Hid (puttexts.szR L Z = -1) := by show _ = _; rw [HZ.out, puttexts.szR_neg (by omega)]
    clear HZ HH
    go_enter Tryd.func37, Tryd.ntmps37
    go_wp2_with fail
    go_ret
    rw [HW.out]
    exact ⟨ret_int HR.out.symm, hB⟩
  obtain ⟨m, e0⟩ : ∃ m : Nat, (L : Int) - (x.2.1.size : Int) = (m : Int) := ⟨L - x.2.1.size, by omega⟩
  rw [e0] at q0
  by_cases q1 : (m : Int) - (x.2.2.1.size : Int) < 0
  · have HR : Hid (puttexts.szR L Z = -1) := by show _ = _; rw [HZ.out, puttexts.szR_neg (by omega)]
    clear HZ HH
    go_enter Tryd.func37, Tryd.ntmps37
    go_wp2_with fail
    go_ret
    rw [HW.out]
    exact ⟨ret_int HR.out.symm, hB⟩
  obtain ⟨m2, e1⟩ : ∃ m2 : Nat, (m : Int) - (x.2.2.1.size : Int) = (m2 : Int) := ⟨m - x.2.2.1.size, by omega⟩
  rw [e1] at q1
  have hS := HH.out m2 (by omega)
  by_cases q2 : z2 ≤ m2
  · rw [puttexts.szR_pos q2] at hS
    obtain ⟨m3, e2⟩ : ∃ m3 : Nat, (m2 : Int) - (z2 : Int) = (m3 : Int) := ⟨m2 - z2, by omega⟩
    rw [e2] at hS
    have q3 : ¬ (m3 : Int) < 0 := by omega
    have HR : Hid (puttexts.szR L Z = (m3 : Int)) := by show _ = _; rw [HZ.out, puttexts.szR_pos (by omega)]; omega
    have HS := Hid.mk' hS
    clear HZ HH hS q2 e2
    go_enter Tryd.func37, Tryd.ntmps37
    go_wp2_with fail
    rw [HW.out]
    refine HS.out.mono ?_
    rintro e w1 ⟨rfl, rfl⟩
    go_wp2_with fail
    go_ret
    exact ⟨ret_int HR.out.symm, hB⟩
  · rw [puttexts.szR_neg (by omega)] at hS
    have HR : Hid (puttexts.szR L Z = -1) := by show _ = _; rw [HZ.out, puttexts.szR_neg (by omega)]
    have HS := Hid.mk' hS
    clear HZ HH hS q2
    go_enter Tryd.func37, Tryd.ntmps37
    go_wp2_with fail
    rw [HW.out]
    refine HS.out.mono ?_
    rintro e w1 ⟨rfl, rfl⟩
    go_wp2_with fail
    go_ret
    exact ⟨ret_int HR.out.symm, hB⟩
set_option maxRecDepth 100000 in
set_option maxHeartbeats 2000000 in
theorem szSealS (a : Option Addr) (len cap : Nat) (l : List Seal) (L : Nat) (w : World) (h : SlG sealR w a len l) (hL : L ≤ 1099511627776) :
    Calls Tryd.prog 17 #[.slice a len cap, .int .i64 (L : Int)] w fun e w' => e = .returned (.int .i64 (puttexts.szR L (l.length + sumL l))) ∧ Below w.heap.size w w' := by
  have hl := h.1
  have hm := h.2.1
  subst hl
  unfold maxLen at hm
  by_cases hneg : L < l.length
  · rw [puttexts.szR_neg (by omega)]
    have h1 : (L : Int) - (l.length : Int) < 0 := by omega
    go_enter Tryd.func17, Tryd.ntmps17
    go_wp2
    go_ret
    exact ⟨rfl, Below.refl _ _⟩
  · have h1 : ¬ (L : Int) - (l.length : Int) < 0 := by omega
    go_enter Tryd.func17, Tryd.ntmps17
    go_wp2_with fail
    go_loopw [1, 5] (fun lv i wr => ∃ k m : Nat, k ≤ l.length ∧ i = .int .i64 (k : Int) ∧ lv = .int .i64 (m : Int) ∧ m + (l.length + sumL (l.take k)) = L ∧ Below w.heap.size w wr) (fun _ i _ => l.length - (intOf i).toNat)
    case atStart => exact ⟨0, L - l.length, Nat.zero_le _, rfl, by go_num, by simp [sumL]; omega, Below.refl _ _⟩
    case round =>
      obtain ⟨k, m, hk, rfl, rfl, hmL, hB⟩ := hrel
      by_cases hlt : k < l.length
      · obtain ⟨b, off, ha⟩ := slg_some h (by omega)
        subst ha
        obtain ⟨ra, rn, rc, c0, c1, c2, c3, hSo, _, _, hS1, hS2⟩ := seal_at (h.below hB) k hlt
        have hst := sumL_take l k hlt
        have hle := sumL_le l (k + 1)
        have hi1 : (k : Int) < (l.length : Int) := by omega
        have hmB : m ≤ 1099511627776 := by omega
        have HML := Hid.mk' hmL
        have HST := Hid.mk' hst
        have HLE := Hid.mk' hle
        generalize l[k] = p at *
        clear hmL hst hle
        have hcall : Calls Tryd.prog 37 #[.agg #[.int .i64 p.1, .string p.2.1, .string p.2.2.1, .slice ra rn rc], .int .i64 (m : Int)] wr fun e w' => e = .returned (.int .i64 (puttexts.szR m (slz p))) ∧ Below wr.heap.size wr w' := szSeal p ra rn rc m wr hSo hS1 hS2 hmB
        by_cases hover : m < slz p
        · rw [puttexts.szR_neg hover] at hcall
          have HC := Hid.mk' hcall
          clear hcall
          go_wp2_with fail
          refine HC.out.mono ?_
          rintro e w2 ⟨rfl, hB2⟩
          go_wp2_with fail
          go_ret
          have e1 := HML.out
          have e2 := HST.out
          have e3 := HLE.out
          rw [puttexts.szR_neg (by omega)]
          exact ⟨rfl, hB.trans (hB2.mono hB.size)⟩
        · rw [puttexts.szR_pos (by omega), show (m : Int) - (slz p : Int) = ((m - slz p : Nat) : Int) by omega] at hcall
          have HC := Hid.mk' hcall
          obtain ⟨m2, hm2⟩ : ∃ m2, m - slz p = m2 := ⟨_, rfl⟩
          rw [hm2] at HC
          have HM2 := Hid.mk' hm2
          have hm2b : m2 ≤ 1099511627776 := by omega
          clear hcall hm2
          go_wp2_with fail
          refine HC.out.mono ?_
          rintro e w2 ⟨rfl, hB2⟩
          go_wp2_with fail
          go_roundw
          case rel => exact ⟨k + 1, m2, by omega, by go_num, rfl, by have e1 := HML.out; have e2 := HST.out; have e3 := HM2.out; omega, hB.trans (hB2.mono hB.size)⟩
          case measure => simp [intOf]; omega
      · have e : k = l.length := by omega
        subst e
        rw [List.take_length] at hmL
        go_wp2_with fail
        go_ret
        rw [puttexts.szR_pos (by omega), show (L : Int) - ((l.length + sumL l : Nat) : Int) = (m : Int) by omega]
        exact ⟨rfl, hB⟩
end Go.Proofs.YtfaldffehpgaiaaDoor.seals

namespace Go.Proofs.YtfaldffehpgaiaaDoor.lay
open Go Go.RowKit
def RetV {α : Type} (R : Rd α) (w : World) (x : α) (e : Ending) (w' : World) : Prop := ∃ v F, e = .returned v ∧ R.own w' [v] x F ∧ (∀ k ∈ F, w.heap.size ≤ k) ∧ Below w.heap.size w w'
theorem slice_shape {α : Type} {ty : TypeId} {R : Rd α} {w : World} {v : Value} {l : List α} {F : List Nat} (h : (lay.slice ty R).own w [v] l F) : ∃ a n c, v = .slice a n c := by
  obtain ⟨v', q, e, _, h⟩ := h
  cases e
  rcases h.shape with ⟨e, _⟩ | ⟨g, c, e, _⟩
  · exact ⟨_, _, _, e⟩
  · exact ⟨_, _, _, e⟩
end Go.Proofs.YtfaldffehpgaiaaDoor.lay

namespace Go.Proofs.YtfaldffehpgaiaaDoor.seals
open Go Go.RowKit Go.Proofs.YtfaldffehpgaiaaDoor.base Go.Proofs.YtfaldffehpgaiaaDoor.pairs Go.Proofs.YtfaldffehpgaiaaDoor.lay
set_option linter.unusedVariables false
set_option linter.unusedSimpArgs false

theorem toStringS_V (a : Option Addr) (len cap : Nat) (l : List ByteArray) (w : World) (h : SlS w a len l) (hsz : len ≤ 1099511627776) : Calls Tryd.prog 15 #[.slice a len cap] w (RetV textsR w l) := by
  refine (helps.toStringS a len cap l w h hsz).mono ?_
  rintro e w' ⟨g, rfl, hO, hb⟩
  have hO' := hO.mono (Nat.zero_le _)
  refine ⟨_, _, rfl, texts_own.2 ⟨by rw [h.1]; exact hO'.2.2, hO.2.1, rfl⟩, fun k hk => ?_, hb⟩
  have : k = g := by simpa [Value.ownBlock] using hk
  subst this
  exact hO.lt.1
set_option maxRecDepth 100000 in
set_option maxHeartbeats 4000000 in
theorem toSeal (no : Int) (pv su : ByteArray) (oa : Option Addr) (ol oc : Nat) (rs : List ByteArray) (w : World) (k1 : (Lit.int .i64 no).wf = true) (k2 : pv.size ≤ maxLen) (k3 : su.size ≤ maxLen) (hO0 : SlS w oa ol rs) (hs1_ : ol ≤ 1099511627776) :
    Calls Tryd.prog 38 #[.agg #[.int .i64 no, .string pv, .string su, .slice oa ol oc]] w (RetR sealR w (no, pv, su, rs)) := by
  have H1 := Hid.mk' (fun wx (hx : Below w.heap.size w wx) => toStringS_V oa ol oc rs wx (hO0.below hx) hs1_)
  clear hO0
  obtain ⟨W1, hW1⟩ : ∃ W1, w.alloc (.cells #[.int .i64 no, .string pv, .string su, .slice oa ol oc] 59) = W1 := ⟨_, rfl⟩
  have hb1 : Below w.heap.size w W1 := by rw [← hW1]; exact below_make
  have hA1 : BoxIn w.heap.size 59 [] [.int .i64 no, .string pv, .string su, .slice oa ol oc] [] W1 := by rw [← hW1]; exact boxIn_new w _ _
  have hs1 : W1.heap.size = w.heap.size + 1 := by rw [← hW1]; simp
  obtain ⟨W2, hW2⟩ : ∃ W2, W1.alloc (.cells #[.int .i64 0, .string ⟨#[]⟩, .string ⟨#[]⟩, .slice none 0 0] 29) = W2 := ⟨_, rfl⟩
  have hb2 : Below W1.heap.size W1 W2 := by rw [← hW2]; exact below_make
  have hR2 : BoxIn (w.heap.size + 1) 29 [] [.int .i64 0, .string ⟨#[]⟩, .string ⟨#[]⟩, .slice none 0 0] [] W2 := by rw [← hW2, ← hs1]; exact boxIn_new W1 _ _
  have hs2 : W2.heap.size = w.heap.size + 1 + 1 := by rw [← hW2]; simp [hs1]
  obtain ⟨W, hW⟩ : ∃ W, W2.alloc (.cells #[.int .i64 no, .string pv, .string su, .slice none 0 0] 29) = W := ⟨_, rfl⟩
  have hb3 : Below W2.heap.size W2 W := by rw [← hW]; exact below_make
  have hO : BoxIn (w.heap.size + 1 + 1) 29 [] [.int .i64 no, .string pv, .string su, .slice none 0 0] [] W := by rw [← hW, ← hs2]; exact boxIn_new W2 _ _
  have hA := (hA1.below hb2).below hb3
  have hR := hR2.below hb3
  have hB := (hb1.trans (hb2.mono hb1.size)).trans (hb3.mono (Nat.le_trans hb1.size hb2.size))
  have HWW : Hid (((w.alloc (.cells #[.int .i64 no, .string pv, .string su, .slice oa ol oc] 59)).alloc (.cells #[.int .i64 0, .string ⟨#[]⟩, .string ⟨#[]⟩, .slice none 0 0] 29)).alloc (.cells #[.int .i64 no, .string pv, .string su, .slice none 0 0] 29) = W) := by show _ = _; rw [hW1, hW2, hW]
  clear hb1 hb2 hb3 hA1 hR2 hs1 hs2 hW1 hW2 hW
  obtain ⟨c0, c1, c2, c3⟩ := cells4 hA
  rw [← HWW.out] at c0 c1 c2 c3
  have hbs0 := hO.lt
  go_enter Tryd.func38, Tryd.ntmps38
  go_wp2_with fail
  rw [HWW.out]
  refine (H1.out W hB).mono ?_
  rintro e w1 ⟨r0, F0, rfl, h0, hF0, hbn⟩
  obtain ⟨ra0, rn0, rc0, rfl⟩ := slice_shape h0
  replace hO := hO.below hbn
  replace hA := hA.below hbn
  replace hR := hR.below hbn
  replace hB := hB.trans (hbn.mono hB.size)
  have n0 := hO.set 3 (by simp) (.slice ra0 rn0 rc0)
  have u0 := hO.cell 3 _ rfl
  have v0 := hO.fz 3
  simp only [List.length_nil, Nat.zero_add] at n0 u0
  have gg := n0.2
  replace hB := hB.grown gg hB.size (fun k e => by cases e; omega)
  replace hR := hR.grown gg (by simp)
  replace hA := hA.grown gg (by simp; omega)
  replace h0 := textsR.ownGrown h0 gg (fun k hk e => by have := hF0 k hk; cases e; omega)
  replace hO : BoxIn (w.heap.size + 1 + 1) 29 [] [.int .i64 no, .string pv, .string su, .slice ra0 rn0 rc0] [] _ := n0.1
  clear c0 c1 c2 c3
  obtain ⟨q0, q1, q2, q3⟩ := cells4 hO
  obtain ⟨z0, z1, z2, z3⟩ := cells4 hR
  have f0 := hR.fz 0
  have f1 := hR.fz 1
  have f2 := hR.fz 2
  have f3 := hR.fz 3
  have hS := hR.whole [.int .i64 no, .string pv, .string su, .slice ra0 rn0 rc0] rfl
  obtain ⟨y0, y1, y2, y3⟩ := cells4 hS.1
  simp only [putAll, Nat.zero_add, Nat.reduceAdd] at y0 y1 y2 y3
  have HBz := Hid.mk' (hB.grown hS.2 hB.size (fun j e => by cases e; omega))
  replace h0 := textsR.ownGrown h0 hS.2 (fun k hk e => by have := hF0 k hk; cases e; omega)
  have HOW : Hid (sealR.own (putAll (w1.setCell ⟨w.heap.size + 1 + 1, 3, none⟩ (.slice ra0 rn0 rc0)) (w.heap.size + 1) 0 [.int .i64 no, .string pv, .string su, .slice ra0 rn0 rc0]) [.int .i64 no, .string pv, .string su, .slice ra0 rn0 rc0] (no, pv, su, rs) (F0)) := seal_own.2 ⟨_, rfl, k1, k2, k3, h0⟩
  have HFN : Hid (∀ k ∈ F0, w.heap.size ≤ k) := fun k hk => by
    have := hF0 k hk; omega
  clear h0 hS 
  go_wp2_with fail
  refine bodyPost_ret (v := .agg #[.int .i64 no, .string pv, .string su, .slice ra0 rn0 rc0]) ?_ rfl ⟨_, _, rfl, HOW.out, HFN.out, HBz.out⟩
  simp [results, Tryd.results38, go_sem, y0, y1, y2, y3]
theorem toSealR (u0 u1 u2 u3 : Value) (x : Seal) (w : World) (h : sealR.see w [u0, u1, u2, u3] x) (h1 : x.2.2.2.length ≤ 1099511627776) : Calls Tryd.prog 38 #[.agg #[u0, u1, u2, u3]] w (RetR sealR w x) := by
  obtain ⟨oa, ol, oc, e, k1, k2, k3, hO, _⟩ := seal_see.1 h
  simp only [List.cons.injEq, and_true] at e
  obtain ⟨rfl, rfl, rfl, rfl⟩ := e
  exact toSeal x.1 x.2.1 x.2.2.1 oa ol oc x.2.2.2 w k1 k2 k3 hO (by have := hO.1; omega)
theorem info_toSealS : (Tryd.prog.info? 29).map (fun i => (i.zero, i.size, i.bytes)) = some (some (.agg #[.int .i64 0, .string ⟨#[]⟩, .string ⟨#[]⟩, .slice none 0 0]), 4, 64) := by kernel_rfl
set_option maxRecDepth 100000 in
set_option maxHeartbeats 4000000 in
theorem toSealS (a : Option Addr) (len cap : Nat) (l : List Seal) (w : World) (h : SlG sealR w a len l) (hsz : len ≤ 1099511627776) (hfit : ∀ j ∈ l, j.2.2.2.length ≤ 1099511627776) :
    Calls Tryd.prog 18 #[.slice a len cap] w (RetV (lay.slice 29 sealR) w l) := by
  have hl := h.1
  have hm := h.2.1
  subst hl
  have hm' := hm
  unfold maxLen at hm'
  obtain ⟨i0, hif, hz0, hz1, hz2⟩ := info_parts info_toSealS
  go_enter Tryd.func18, Tryd.ntmps18
  go_wp2_with (at_make; refine wpList_make_full _ rfl _ _ 24 rfl w.heap.size 29 i0 (.agg #[.int .i64 0, .string ⟨#[]⟩, .string ⟨#[]⟩, .slice none 0 0]) 4 Tryd.underlying24 hif hz0 hz1 _ _ _ _ l.length rfl rfl rfl rfl ?b2 ?b3 ?b4 ?_)
  case b2 => rw [hz2]; omega
  case b3 => exact hm
  case b4 => exact Nat.le_refl _
  intro w1 hown hgrow
  have hOwn := ownG_zeros (R := sealR) (z := .agg #[.int .i64 0, .string ⟨#[]⟩, .string ⟨#[]⟩, .slice none 0 0]) (x := ((0, ⟨#[]⟩, ⟨#[]⟩, []) : Seal)) hown (seal_zero _)
  have hbel : Below w.heap.size w w1 := (Below.refl _ _).grown hgrow (Nat.le_refl _) (fun k e => by cases e)
  have hOwn0 : OwnG 29 sealR w1 (.slice (some ⟨w.heap.size, 0, none⟩) l.length l.length) (copyG ((0, ⟨#[]⟩, ⟨#[]⟩, []) : Seal) l 0) (List.replicate l.length ((.agg #[.int .i64 0, .string ⟨#[]⟩, .string ⟨#[]⟩, .slice none 0 0] : Value).cells.toList, [])) := by rw [copyG_zero]; exact hOwn
  have hq0 : ∀ b ∈ w.heap.size :: blocksOf (List.replicate l.length ((.agg #[.int .i64 0, .string ⟨#[]⟩, .string ⟨#[]⟩, .slice none 0 0] : Value).cells.toList, ([] : List Nat))), w.heap.size ≤ b := fun b hb => by
    have e1 : blocksOf (List.replicate l.length ((.agg #[.int .i64 0, .string ⟨#[]⟩, .string ⟨#[]⟩, .slice none 0 0] : Value).cells.toList, ([] : List Nat))) = [] := by unfold blocksOf; simp
    rw [e1, List.mem_singleton] at hb; omega
  clear hown hgrow hif hz0 hz1 hz2 hOwn
  go_wp2_with fail
  go_loopw [4] (fun i wr => ∃ (k : Nat) (q : Parts), k ≤ l.length ∧ i = .int .i64 k ∧ OwnG 29 sealR wr (.slice (some ⟨w.heap.size, 0, none⟩) l.length l.length) (copyG ((0, ⟨#[]⟩, ⟨#[]⟩, []) : Seal) l k) q ∧ (∀ b ∈ w.heap.size :: blocksOf q, w.heap.size ≤ b) ∧ Below w.heap.size w wr) (fun i _ => l.length - (intOf i).toNat)
  case atStart => exact ⟨0, _, Nat.zero_le _, rfl, hOwn0, hq0, hbel⟩
  case round =>
    clear hOwn0 hbel hq0
    obtain ⟨k, q, hk, rfl, hO, hq, hB⟩ := hrel
    by_cases hlt : k < l.length
    · obtain ⟨b, off, e⟩ : ∃ b off, a = some ⟨b, off, none⟩ := by
        obtain ⟨b, off, e, _⟩ := h.2.2.2 (by omega)
        exact ⟨b, off, e⟩
      subst e
      obtain ⟨u0, u1, u2, u3, hsee, c0, c1, c2, c3⟩ := slg_at4 rfl (h.below hB) k hlt
      have hki : (k : Int) < (l.length : Int) := by omega
      have HS := Hid.mk' (copyG_set (z := ((0, ⟨#[]⟩, ⟨#[]⟩, []) : Seal)) k hlt)
      have hfk := hfit _ (List.getElem_mem hlt)
      have HE := Hid.mk' (toSealR u0 u1 u2 u3 l[k] wr hsee hfk)
      generalize l[k] = p at *
      clear hsee
      go_wp2_with fail
      refine HE.out.mono ?_
      rintro e w2 ⟨us, F, rfl, hOx, hF, hb2⟩
      obtain ⟨ra, rn, rc, rfl⟩ := seal_vals hOx
      have hOR := hO.below hb2
      have hB2 := hB.trans (hb2.mono hB.size)
      have hkl : k < (copyG ((0, ⟨#[]⟩, ⟨#[]⟩, []) : Seal) l k).length := by rw [copyG_length k hk]; exact hlt
      have hlts := hO.lts
      have Rp := hOR.put k hkl [.int .i64 p.1, .string p.2.1, .string p.2.2.1, .slice ra rn rc] p F hOx (fun j hj hjb => by have h1 := hF j hj; have h2 := hlts j hjb; omega)
      rw [HS.out] at Rp
      have HR := Hid.mk' Rp
      obtain ⟨y0, y1, y2, y3, _, d0, d1, d2, d3⟩ := slg_at4 rfl hOR.sl k hkl
      simp only [Nat.zero_add] at d0 d1 d2 d3
      have f0 := hOR.frozen (k * 4)
      have f1 := hOR.frozen (k * 4 + 1)
      have f2 := hOR.frozen (k * 4 + 2)
      have f3 := hOR.frozen (k * 4 + 3)
      have hqn : Hid (∀ b ∈ w.heap.size :: blocksOf (q.set k ([.int .i64 p.1, .string p.2.1, .string p.2.2.1, .slice ra rn rc], F)), w.heap.size ≤ b) := fun j hj => by
        rcases List.mem_cons.1 hj with e | e
        · omega
        · obtain ⟨pp, hpp, hjp⟩ := List.mem_flatMap.1 e
          rcases List.mem_or_eq_of_mem_set hpp with h1 | h1
          · exact hq j (List.mem_cons_of_mem _ (List.mem_flatMap.2 ⟨pp, h1, hjp⟩))
          · subst h1
            have h1 := hF j hjp
            have h2 := hB.size
            omega
      have hsz2 := hB2.size
      clear Rp hO hOR hOx hB hb2 c0 c1 c2 c3 hlts
      go_wp2_with fail
      go_roundw
      case rel => exact ⟨k + 1, _, by omega, by go_num, HR.out.1, hqn.out, hB2.trans (below_grown HR.out.2 (Nat.le_refl _) hsz2)⟩
      case measure => simp [intOf]; omega
    · have e : k = l.length := by omega
      subst e
      rw [copyG_all] at hO
      go_wp2_with fail
      go_ret
      exact ⟨_, _, rfl, ⟨_, q, rfl, rfl, hO⟩, fun b hb => hq b (by simpa [Value.ownBlock] using hb), hB⟩
end Go.Proofs.YtfaldffehpgaiaaDoor.seals

namespace Go.Proofs.YtfaldffehpgaiaaDoor.lay
open Go Go.RowKit Go.Proofs.YtfaldffehpgaiaaDoor.base
set_option linter.unusedVariables false
set_option linter.unusedSimpArgs false

def Reads {α : Type} (P : Program) (t : TypeId) (R : Rd α) : Prop :=
  ∀ (H : Type) (enc : TypeId × Value → H) (W : World) (fuel : Nat) (vs : List Value) (x : DataW H × List MemPlace), vs.length = R.size → DataW.trod enc P W 0 (fun _ => true) true fuel t vs = some x → ∃ y, R.see W vs y
section
variable {α : Type} {P : Program} {t e : TypeId} {R : Rd α}
theorem reads_int (ht : P.underlying t = some (.int .i64)) : Reads P t int := fun H enc W fuel vs x hl h => by
  obtain ⟨n, rfl, _, hw⟩ := DataW.trod_int ht h
  exact ⟨n, rfl, hw⟩
theorem reads_str (ht : P.underlying t = some .string) : Reads P t str := fun H enc W fuel vs x hl h => by
  obtain ⟨s, rfl, _, hs⟩ := DataW.trod_string ht h
  exact ⟨s, rfl, hs⟩
theorem reads_slice [Inhabited α] (ty : TypeId) (ht : P.underlying t = some (.slice e)) (hc : P.cellsOf e = R.size) (h0 : 0 < R.size) (hR : Reads P e R) : Reads P t (lay.slice ty R) := fun H enc W fuel vs x hl h => by
  rcases Deep.open_slice ht h with ⟨rfl, _⟩ | ⟨ad, len, cap, m, n, D, Pl, rfl, hb, hlc, hm, hmm, _, hx⟩
  · exact ⟨[], none, 0, 0, rfl, Nat.le_refl _, rfl, Nat.zero_le _, fun x hx => absurd hx List.not_mem_nil, fun h => absurd h (by omega)⟩
  · simp at hmm
    have each : ∀ i, i < len → ∃ y : α, ∃ us, R.see W us y ∧ ∀ j u, us[j]? = some u → W.cell? (ad.add (i * R.size + j)) = some u := by
      intro i hi
      obtain ⟨cs', h1, h2⟩ := hx i (by omega)
      rw [hc] at h1
      obtain ⟨_, hlen, hcell⟩ := World.cells?_some h1
      obtain ⟨y, hy⟩ := hR H enc W n cs' _ hlen h2
      refine ⟨y, cs', hy, fun j u hj => ?_⟩
      have hjl := (List.getElem?_eq_some_iff.1 hj).1
      have := hcell j (by omega)
      rw [Deep.add_add] at this
      rw [this]; exact hj
    obtain ⟨q, hq⟩ := Deep.choose_lt each
    refine ⟨(List.range len).map q, some ad, len, cap, rfl, hlc, by simp, by omega, fun x hx => ?_, fun hl0 => ?_⟩
    · obtain ⟨i, hi, rfl⟩ := List.mem_map.1 hx
      obtain ⟨us, h1, _⟩ := hq i (List.mem_range.1 hi)
      exact ⟨us, h1⟩
    · obtain ⟨b, off, spot⟩ := ad
      obtain ⟨us0, hs0, hc0⟩ := hq 0 hl0
      have hl0 := R.seeLen hs0
      obtain ⟨u0, hu0⟩ : ∃ u, us0[0]? = some u := ⟨us0[0]'(by omega), List.getElem?_eq_getElem (by omega)⟩
      have hspot : spot = none := by simpa [Addr.add] using World.cell?_spot (hc0 0 u0 hu0)
      subst hspot
      refine ⟨b, off, rfl, fun i hi => ?_⟩
      have hi' : i < len := by simpa using hi
      obtain ⟨us, h1, h2⟩ := hq i hi'
      simp only [List.getElem_map, List.getElem_range]
      refine ⟨us, h1, fun j u hj => ?_⟩
      have := h2 j u hj
      rw [Addr.add_lit, ← Nat.add_assoc] at this
      exact this
end
end Go.Proofs.YtfaldffehpgaiaaDoor.lay
