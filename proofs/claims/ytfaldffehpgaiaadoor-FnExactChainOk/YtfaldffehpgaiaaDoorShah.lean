/- The program's seals: their parts. The program's seals: whether one is right. The specification's chains. -/
import Derived.Test.YtfaldffehpgaiaaDoorShaf
import Derived.Test.YtfaldffehpgaiaaDoorShag
import Derived.Laws.StructEq
namespace Go.Proofs.YtfaldffehpgaiaaDoor.seals
open Go Go.RowKit Go.Proofs.YtfaldffehpgaiaaDoor.base Go.Proofs.YtfaldffehpgaiaaDoor.pairs Go.Proofs.YtfaldffehpgaiaaDoor.tree Go.Proofs.YtfaldffehpgaiaaDoor.lay
set_option linter.unusedVariables false
set_option linter.unusedSimpArgs false

def is32 (r : ByteArray) : Bool := decide (r.size = 32)
def prevOf (l : List Seal) : ByteArray := match l.getLast? with
  | none => dg []
  | some s => s.2.2.1
theorem prevOf_nil : prevOf [] = dg [] := rfl
theorem prevOf_some {l : List Seal} (h : 0 < l.length) : prevOf l = (l[l.length - 1]'(by omega)).2.2.1 := by
  unfold prevOf
  rw [List.getLast?_eq_getElem?, List.getElem?_eq_getElem (by omega)]
theorem i_isNo (s : ByteArray) (w : World) (hs : s.size ≤ maxLen) :
    Calls Tryd.prog 25 #[.string s] w fun e w' => e = .returned (.bool (!is32 s)) ∧ w' = w := by
  unfold maxLen at hs
  have HR : Hid ((!is32 s) = ((s.size : Int) != 32)) := by
    show _ = _
    unfold is32
    by_cases h : s.size = 32
    · rw [decide_eq_true h, h]; rfl
    · rw [decide_eq_false h]; have : (s.size : Int) ≠ 32 := by omega
      simp [this]
  go_enter Tryd.func25, Tryd.ntmps25
  go_wp2
  go_ret
  exact ⟨by rw [HR.out]; rfl, rfl⟩
theorem i_count (n : Int) (w : World) : Calls Tryd.prog 44 #[.int .i64 n] w fun e w' => e = .returned (.bool (decide (1 ≤ n ∧ n ≤ 8))) ∧ w' = w := by
  by_cases h1 : n ≥ 1
  · have h1' : 1 ≤ n := h1
    by_cases h2 : n ≤ 8
    · go_enter Tryd.func44, Tryd.ntmps44
      go_wp2
      go_ret
      exact ⟨by simp [h1', h2], rfl⟩
    · go_enter Tryd.func44, Tryd.ntmps44
      go_wp2
      go_ret
      exact ⟨by simp [h1', h2], rfl⟩
  · go_enter Tryd.func44, Tryd.ntmps44
    go_wp2
    go_ret
    exact ⟨by have h3 : ¬ 1 ≤ n := by omega
              simp [h3], rfl⟩
set_option maxRecDepth 100000 in
set_option maxHeartbeats 1000000 in
theorem i_indexNo (a : Option Addr) (n cap : Nat) (l : List ByteArray) (w : World) (h : SlS w a n l) :
    Calls Tryd.prog 63 #[.slice a n cap, .func (.func 25) #[] #[]] w fun e w' => ∃ z : Int, e = .returned (.int .i64 z) ∧ (l.all is32 = decide (z < 0)) ∧ w' = w := by
  obtain ⟨hl, hm, hsm, hc⟩ := h
  subst hl
  have HM := Hid.mk' hsm
  unfold maxLen at hm
  clear hsm
  go_enter Tryd.func63, Tryd.ntmps63
  go_wp2_with fail
  go_loopw [8] (fun i wr => ∃ k : Nat, k ≤ l.length ∧ i = .int .i64 (k : Int) ∧ (∀ j (hj : j < k) (hl : j < l.length), is32 l[j] = true) ∧ wr = w) (fun i _ => l.length - (intOf i).toNat)
  case atStart => exact ⟨0, Nat.zero_le _, rfl, fun j hj => absurd hj (Nat.not_lt_zero _), rfl⟩
  case round =>
    obtain ⟨k, hk, rfl, hno, rfl⟩ := hrel
    have HNO := Hid.mk' hno
    clear hno
    by_cases hlt : k < l.length
    · obtain ⟨b, off, ha, hcl⟩ := hc (by omega)
      subst ha
      have c0 := hcl k hlt
      have hki : (k : Int) < (l.length : Int) := by omega
      have HC := Hid.mk' (i_isNo l[k] wr (HM.out _ (List.getElem_mem hlt)))
      cases hr : is32 l[k] with
      | false =>
        have HF : Hid (l.all is32 = false) := by
          show _ = _
          rw [List.all_eq_false]
          exact ⟨l[k], List.getElem_mem hlt, by rw [hr]; simp⟩
        rw [hr] at HC
        clear hr hcl hc
        generalize l[k] = s at *
        go_wp2_with fail
        refine HC.out.mono ?_
        rintro e w1 ⟨rfl, hw1⟩
        replace hw1 := hw1.symm
        subst hw1
        go_wp2_with fail
        go_ret
        exact ⟨_, rfl, by rw [HF.out]; symm; rw [decide_eq_false_iff_not]; omega, rfl⟩
      | true =>
        have HF : Hid (∀ j (hj : j < k + 1) (hl : j < l.length), is32 l[j] = true) := fun j hj hl => by
          by_cases hjk : j = k
          · subst hjk; exact hr
          · exact HNO.out j (by omega) hl
        rw [hr] at HC
        clear hr hcl
        generalize l[k] = s at *
        go_wp2_with fail
        refine HC.out.mono ?_
        rintro e w1 ⟨rfl, hw1⟩
        replace hw1 := hw1.symm
        subst hw1
        go_wp2_with fail
        go_roundw
        case rel => exact ⟨k + 1, by omega, by go_num, HF.out, by first | rfl | trivial⟩
        case measure => simp [intOf]; omega
    · have hki : ¬ (k : Int) < (l.length : Int) := by omega
      have HF : Hid (l.all is32 = true) := by
        show _ = _
        rw [List.all_eq_true]
        intro r hr
        obtain ⟨j, hj, rfl⟩ := List.getElem_of_mem hr
        exact HNO.out j (by omega) hj
      go_wp2_with fail
      go_ret
      exact ⟨_, rfl, by rw [HF.out]; rfl, rfl⟩
set_option maxRecDepth 100000 in
theorem i_containsNo (a : Option Addr) (n cap : Nat) (l : List ByteArray) (w : World) (h : SlS w a n l) :
    Calls Tryd.prog 45 #[.slice a n cap, .func (.func 25) #[] #[]] w fun e w' => e = .returned (.bool (!l.all is32)) ∧ w' = w := by
  have HC := Hid.mk' (i_indexNo a n cap l w h)
  clear h
  go_enter Tryd.func45, Tryd.ntmps45
  go_wp2_with fail
  refine HC.out.mono ?_
  rintro e w1 ⟨z, rfl, hz, hw1⟩
  replace hw1 := hw1.symm
  subst hw1
  have HZ := Hid.mk' hz
  clear hz
  by_cases h0 : z ≥ 0
  · go_wp2_with fail
    go_ret
    exact ⟨by rw [HZ.out, decide_eq_false (show ¬ z < 0 by omega)]; first | rfl | simp [h0], rfl⟩
  · go_wp2_with fail
    go_ret
    exact ⟨by rw [HZ.out, decide_eq_true (show z < 0 by omega)]; first | rfl | simp [h0], rfl⟩
set_option maxRecDepth 100000 in
theorem i_rootsOk (a : Option Addr) (n cap : Nat) (l : List ByteArray) (w : World) (h : SlS w a n l) :
    Calls Tryd.prog 26 #[.slice a n cap] w fun e w' => e = .returned (.bool (decide (1 ≤ (n : Int) ∧ (n : Int) ≤ 8) && l.all is32)) ∧ w' = w := by
  have hm := h.2.1
  unfold maxLen at hm
  have HC := Hid.mk' (i_containsNo a n cap l w h)
  have HN := Hid.mk' (i_count (n : Int) w)
  generalize decide (1 ≤ (n : Int) ∧ (n : Int) ≤ 8) = r1 at *
  generalize l.all is32 = r2 at *
  clear h
  cases r1 <;> cases r2
  all_goals
    go_enter Tryd.func26, Tryd.ntmps26
    go_wp2_with fail
    refine HN.out.mono ?_
    rintro e w1 ⟨rfl, hw1⟩
    replace hw1 := hw1.symm
    subst hw1
    go_wp2_with fail
    first
      | (go_ret
         exact ⟨rfl, rfl⟩)
      | (refine HC.out.mono ?_
         rintro e w1 ⟨rfl, hw1⟩
         replace hw1 := hw1.symm
         subst hw1
         go_wp2_with fail
         go_ret
         exact ⟨rfl, rfl⟩)
set_option maxRecDepth 100000 in
theorem i_ahead (a : Option Addr) (n cap : Nat) (l : List Seal) (w : World) (h : SlG sealR w a n l) (hK : sha.KW w) :
    Calls Tryd.prog 27 #[.slice a n cap] w fun e w' => e = .returned (.string (prevOf l)) ∧ Below w.heap.size w w' := by
  have hl := h.1
  have hm := h.2.1
  unfold maxLen at hm
  by_cases h0 : n = 0
  · subst h0
    have e0 : l = [] := List.eq_nil_of_length_eq_zero hl
    subst e0
    have HD := Hid.mk' (sha.impl_digestA none 0 0 [] w (sl_nil _ _) (by omega) hK)
    clear h
    go_enter Tryd.func27, Tryd.ntmps27
    go_wp2_with fail
    refine HD.out.mono ?_
    rintro e w1 ⟨rfl, hb⟩
    go_wp2_with fail
    go_ret
    exact ⟨rfl, hb⟩
  · obtain ⟨b, off, ha, _⟩ := h.2.2.2 (by omega)
    subst ha
    obtain ⟨k, hk⟩ : ∃ k, n = k + 1 := ⟨n - 1, by omega⟩
    have hkl : k < l.length := by omega
    obtain ⟨ra, rn, rc, c0, c1, c2, c3, _⟩ := seal_at h k hkl
    have HP : Hid (prevOf l = l[k].2.2.1) := by
      show _ = _
      rw [prevOf_some (by omega)]
      have e1 : l.length - 1 = k := by omega
      simp only [e1]
    have hn0 : ((n : Int) == 0) = false := by simp; omega
    have hn1 : (n : Int) - 1 = (k : Int) := by omega
    have hlt : (k : Int) < (n : Int) := by omega
    clear hk hl
    generalize l[k] = s at *
    clear h
    go_enter Tryd.func27, Tryd.ntmps27
    go_wp2_with fail
    go_ret
    exact ⟨by rw [HP.out]; rfl, Below.refl _ _⟩
set_option maxRecDepth 100000 in
theorem i_stamp (no : Int) (pv su : ByteArray) (v : Value) (hv : v.oneCell' = true) (w : World) :
    Calls Tryd.prog 28 #[.agg #[.int .i64 no, .string pv, .string su, v]] w fun e w' => e = .returned (.agg #[.int .i64 no, .string pv, .string su]) ∧ Below w.heap.size w w' := by
  have hB : Below w.heap.size w (w.alloc (.cells #[.int .i64 no, .string pv, .string su, v] 29)) := below_make
  have hB2 := hB.alloc hB.size (.cells #[.int .i64 no, .string pv, .string su] 49)
  go_enter Tryd.func28, Tryd.ntmps28
  go_wp2_with fail
  refine bodyPost_ret (v := .agg #[.int .i64 no, .string pv, .string su]) ?_ rfl ⟨rfl, hB2⟩
  simp [results, Tryd.results28, go_sem]
set_option maxRecDepth 100000 in
set_option maxHeartbeats 1000000 in
theorem i_sealOf (no : Int) (pv : ByteArray) (a : Option Addr) (n cap : Nat) (rs : List ByteArray) (w : World) (h : SlS w a n rs) (hno : (Lit.int .i64 no).wf = true) (hp : pv.size ≤ 1048576) (hr : rs.length + puttexts.sum rs ≤ 1048576) (hK : sha.KW w) :
    Calls Tryd.prog 29 #[.int .i64 no, .string pv, .slice a n cap] w fun e w' => e = .returned (.agg #[.int .i64 no, .string pv, .string (superOf no pv rs), .slice a n cap]) ∧ Below w.heap.size w w' := by
  obtain ⟨W, hW⟩ : ∃ W, w.alloc (.cells #[.int .i64 0, .string ⟨#[]⟩, .string ⟨#[]⟩, .slice none 0 0] 29) = W := ⟨_, rfl⟩
  have hB : Below w.heap.size w W := by rw [← hW]; exact below_make
  have hX : BoxIn w.heap.size 29 [] [.int .i64 0, .string ⟨#[]⟩, .string ⟨#[]⟩, .slice none 0 0] [] W := by rw [← hW]; exact boxIn_new w _ _
  have HS := Hid.mk' (impl_superOf no pv a n cap rs W (h.below hB) hno hp hr (hK.below hB))
  have HW := Hid.mk' hW
  generalize superOf no pv rs = so at *
  clear hW h
  go_enter Tryd.func29, Tryd.ntmps29
  go_wp2_with fail
  rw [HW.out]
  refine HS.out.mono ?_
  rintro e w1 ⟨rfl, hb1⟩
  have hX1 := hX.below hb1
  have hB1 := hB.trans (hb1.mono hB.size)
  obtain ⟨z0, z1, z2, z3⟩ := cells4 hX1
  have f0 := hX1.fz 0
  have f1 := hX1.fz 1
  have f2 := hX1.fz 2
  have f3 := hX1.fz 3
  have hS := hX1.whole [.int .i64 no, .string pv, .string so, .slice a n cap] rfl
  obtain ⟨y0, y1, y2, y3⟩ := cells4 hS.1
  simp only [putAll, Nat.zero_add, Nat.reduceAdd] at y0 y1 y2 y3
  have HBz := Hid.mk' (hB1.grown hS.2 hB1.size (fun j e => by cases e; exact Nat.le_refl _))
  clear HS HW hS hb1
  go_wp2_with fail
  refine bodyPost_ret (v := .agg #[.int .i64 no, .string pv, .string so, .slice a n cap]) ?_ rfl ⟨rfl, HBz.out⟩
  simp [results, Tryd.results29, go_sem, y0, y1, y2, y3]
end Go.Proofs.YtfaldffehpgaiaaDoor.seals

namespace Go.Proofs.YtfaldffehpgaiaaDoor.seals
open Go Go.RowKit Go.Proofs.YtfaldffehpgaiaaDoor.base Go.Proofs.YtfaldffehpgaiaaDoor.pairs Go.Proofs.YtfaldffehpgaiaaDoor.tree Go.Proofs.YtfaldffehpgaiaaDoor.lay
set_option linter.unusedVariables false
set_option linter.unusedSimpArgs false

def sealI (s : Seal) : Bool := sealOk s && (!decide (s.1 = 1) || decide (s.2.1 = dg []))
theorem eq_stamp (a a' : Int) (b b' c c' : ByteArray) (w : World) : (Op.equalIn 10000 49 (.agg #[.int .i64 a, .string b, .string c]) (.agg #[.int .i64 a', .string b', .string c'])).run Tryd.prog w = .ok (a == a' && (b.toList == b'.toList && c.toList == c'.toList)) w := by
  have u3 := Tryd.underlying3
  have u9 := Tryd.underlying9
  have a3 := Tryd.isAgg3
  have z3 := Tryd.sizeOf3
  have a9 := Tryd.isAgg9
  have z9 := Tryd.sizeOf9
  have hS : Tryd.prog.underlying 49 = some (.struct (Tryd.prog.fieldsOf 49)) := by kernel_rfl
  have hp : Tryd.prog.stoodInHeld 49 = false := by kernel_rfl
  rw [show (10000 : Nat) = 9999 + 1 from rfl, run_equalIn_agg w 9999 49 _ _ hS hp]
  simp only [Program.fieldsOf, Tryd.underlying49]
  go_simp
  by_cases h1 : a = a' <;> by_cases h2 : b.toList = b'.toList <;> by_cases h3 : c.toList = c'.toList <;> simp [h1, h2, h3]
theorem stamp_same (a : Int) (b c : ByteArray) (w : World) : (Op.equalIn 10000 49 (.agg #[.int .i64 a, .string b, .string c]) (.agg #[.int .i64 a, .string b, .string c])).run Tryd.prog w = .ok true w := by
  rw [eq_stamp]; simp
theorem stamp_other {a a' : Int} {b b' c c' : ByteArray} (h : ¬ (a = a' ∧ b = b' ∧ c = c')) (w : World) : (Op.equalIn 10000 49 (.agg #[.int .i64 a, .string b, .string c]) (.agg #[.int .i64 a', .string b', .string c'])).run Tryd.prog w = .ok false w := by
  rw [eq_stamp]
  congr 1
  by_cases h1 : a = a'
  · by_cases h2 : b = b'
    · have h3 : ¬ c = c' := fun e => h ⟨h1, h2, e⟩
      rw [str_ne h3]; simp
    · rw [str_ne h2]; simp
  · rw [beq_eq_false_iff_ne.2 h1]; rfl
theorem guard_stamp : Tryd.prog.eqGuardType Tryd.prog.depth 49 = false := by kernel_rfl
set_option maxRecDepth 100000 in
set_option maxHeartbeats 8000000 in
theorem i_sealOk (a : Option Addr) (n cap : Nat) (s : Seal) (w : World) (h : SlS w a n s.2.2.2) (hno : (Lit.int .i64 s.1).wf = true) (hp : s.2.1.size ≤ maxLen) (hK : sha.KW w) :
    Calls Tryd.prog 10 #[.agg #[.int .i64 s.1, .string s.2.1, .string s.2.2.1, .slice a n cap]] w fun e w' => e = .returned (.bool (sealI s)) ∧ Below w.heap.size w w' := by
  obtain ⟨no, pv, su, rs⟩ := s
  simp only [] at *
  obtain ⟨W, hW⟩ : ∃ W, w.alloc (.cells #[.int .i64 no, .string pv, .string su, .slice a n cap] 29) = W := ⟨_, rfl⟩
  have hB : Below w.heap.size w W := by rw [← hW]; exact (Below.refl _ _).alloc (Nat.le_refl _) _
  have hX : BoxIn w.heap.size 29 [] [.int .i64 no, .string pv, .string su, .slice a n cap] [] W := by rw [← hW]; exact boxIn_new w _ _
  have hS := h.below hB
  have hKW := hK.below hB
  have hl := h.1
  have hm := h.2.1
  unfold maxLen at hm
  have HLL := Hid.mk' hl
  have HR : Hid (sealI (no, pv, su, rs) = ((decide (1 ≤ no) && decide (no ≤ 1000)) && is32 pv && (decide (1 ≤ (n : Int) ∧ (n : Int) ≤ 8) && rs.all is32) && decide (su = superOf no pv rs) && (!decide (no = 1) || decide (pv = dg [])))) := by
    show _ = _
    unfold sealI sealOk is32
    simp only [hl]
    rw [show (decide (1 ≤ n ∧ n ≤ 8)) = decide (1 ≤ (n : Int) ∧ (n : Int) ≤ 8) from decide_eq_decide.2 ⟨fun e => ⟨by omega, by omega⟩, fun e => ⟨by omega, by omega⟩⟩]
    rw [Bool.decide_and (p := 1 ≤ no)]
    simp only [Bool.and_assoc]
  generalize sealI (no, pv, su, rs) = R at *
  have HN := Hid.mk' (i_isNo pv W hp)
  have HO := Hid.mk' (i_rootsOk a n cap rs W hS)
  have HN8 : Hid ((decide (1 ≤ (n : Int) ∧ (n : Int) ≤ 8) && rs.all is32) = true → rs.length + puttexts.sum rs ≤ 1048576) := fun e => by
    obtain ⟨e1, e2⟩ := Bool.and_eq_true_iff.1 e
    have e3 := of_decide_eq_true e1
    have e4 := sum_32 (fun r hr => of_decide_eq_true (List.all_eq_true.1 e2 r hr))
    omega
  have HP8 : Hid (is32 pv = true → pv.size ≤ 1048576) := fun e => by have := of_decide_eq_true e; omega
  generalize (decide (1 ≤ (n : Int) ∧ (n : Int) ≤ 8) && rs.all is32) = r2 at *
  generalize is32 pv = r1 at *
  have HW := Hid.mk' hW
  obtain ⟨a0, a1, a2, a3⟩ := box4 hX
  rw [← hW] at a0 a1 a2 a3
  clear hW h hl hp
  by_cases q0 : no < 1
  · have HF : Hid (R = false) := by show _ = _; rw [HR.out, decide_eq_false (show ¬ 1 ≤ no by omega)]; simp
    clear HR
    go_enter Tryd.func10, Tryd.ntmps10
    go_wp2_with fail
    go_ret
    exact ⟨by rw [HF.out]; rfl, by rw [HW.out]; exact hB⟩
  by_cases q1 : no > 1000
  · have HF : Hid (R = false) := by show _ = _; rw [HR.out, decide_eq_false (show ¬ no ≤ 1000 by omega)]; simp
    clear HR
    go_enter Tryd.func10, Tryd.ntmps10
    go_wp2_with fail
    go_ret
    exact ⟨by rw [HF.out]; rfl, by rw [HW.out]; exact hB⟩
  have HR1 : Hid (R = (r1 && r2 && decide (su = superOf no pv rs) && (!decide (no = 1) || decide (pv = dg [])))) := by show _ = _; rw [HR.out, decide_eq_true (show 1 ≤ no by omega), decide_eq_true (show no ≤ 1000 by omega)]; simp
  clear HR
  go_enter Tryd.func10, Tryd.ntmps10
  go_wp2_with fail
  rw [HW.out]
  rw [HW.out] at a0 a1 a2 a3
  refine HN.out.mono ?_
  rintro e w1 ⟨rfl, hw1⟩
  replace hw1 := hw1.symm
  subst hw1
  clear HW
  cases r1
  · have HF : Hid (R = false) := by show _ = _; rw [HR1.out]; simp
    clear HR1
    go_wp2_with fail
    go_ret
    exact ⟨by rw [HF.out]; rfl, hB⟩
  go_wp2_with fail
  refine HO.out.mono ?_
  rintro e w1 ⟨rfl, hw1⟩
  replace hw1 := hw1.symm
  subst hw1
  cases r2
  · have HF : Hid (R = false) := by show _ = _; rw [HR1.out]; simp
    clear HR1
    go_wp2_with fail
    go_ret
    exact ⟨by rw [HF.out]; rfl, hB⟩
  have hpv := HP8.out (by first | rfl | trivial)
  have hrs := HN8.out (by first | rfl | trivial)
  have HR2 : Hid (R = (decide (su = superOf no pv rs) && (!decide (no = 1) || decide (pv = dg [])))) := by show _ = _; rw [HR1.out]; simp
  have HA := Hid.mk' (fun wx (hx : Below W.heap.size W wx) => i_ahead none 0 0 [] wx ⟨rfl, Nat.zero_le _, fun x hx => absurd hx List.not_mem_nil, fun h => absurd h (by omega)⟩ (hKW.below hx))
  have HSO := Hid.mk' (fun wx (hx : Below W.heap.size W wx) => i_sealOf no pv a n cap rs wx (hS.below hx) hno hpv hrs (hKW.below hx))
  rw [prevOf_nil] at HA
  generalize superOf no pv rs = so at *
  generalize dg [] = d0 at *
  clear HR1 HN HO HP8 HN8
  have p0 := last.On.cell (B := W.heap.size) a0 (World.block_lt_of_cell? _ _ a0)
  have p1 := last.On.cell (B := W.heap.size) a1 (World.block_lt_of_cell? _ _ a1)
  have p2 := last.On.cell (B := W.heap.size) a2 (World.block_lt_of_cell? _ _ a2)
  have p3 := last.On.cell (B := W.heap.size) a3 (World.block_lt_of_cell? _ _ a3)
  have hinh := last.On.inh W.heap.size W
  have hc0 : ∀ xx : last.On W.heap.size W, Calls Tryd.prog 27 #[.slice none 0 0] xx.w fun e w' => e = .returned (.string d0) ∧ ∃ yv : last.On W.heap.size W, w' = yv.w := fun xx => last.Calls.on xx (Nat.le_refl _) (HA.out xx.w xx.2)
  have hgd := guard_stamp
  by_cases e1 : no = 1
  · have hq1 : (no == 1) = true := by simp [e1]
    by_cases e2 : pv = d0
    · have HR3 : Hid (R = decide (su = so)) := by show _ = _; rw [HR2.out, decide_eq_true e2]; simp
      subst e2
      have hq2 := str_same pv
      clear HR2 e1
      go_wp2_with fail
      refine last.wp_region_on W.heap.size (by kernel_rfl) (by kernel_rfl) ?_
      repeat (go_big_quiet_step (first | (go_at_call 27; with_reducible exact hc0 _)))
      refine wpQuiet_nil ?_
      intro wq hwq
      obtain ⟨xq, hwq⟩ := hwq
      subst hwq
      have hbq : Below W.heap.size W xq.w := xq.2
      go_wp2_with fail
      clear p0 p1 p2 p3 hinh hc0 hq1 hq2
      obtain ⟨V, hV⟩ : ∃ V, xq.w = V := ⟨_, rfl⟩
      rw [hV] at hbq ⊢
      obtain ⟨b0, b1, b2, b3⟩ := box4 (hX.below hbq)
      have hBV := hB.trans (hbq.mono hB.size)
      have v0 := last.On.cell (B := V.heap.size) b0 (World.block_lt_of_cell? _ _ b0)
      have v1 := last.On.cell (B := V.heap.size) b1 (World.block_lt_of_cell? _ _ b1)
      have v2 := last.On.cell (B := V.heap.size) b2 (World.block_lt_of_cell? _ _ b2)
      have v3 := last.On.cell (B := V.heap.size) b3 (World.block_lt_of_cell? _ _ b3)
      have hinv := last.On.inh V.heap.size V
      have hs0 : ∀ xx : last.On V.heap.size V, Calls Tryd.prog 28 #[.agg #[.int .i64 no, .string pv, .string su, .slice a n cap]] xx.w fun e w' => e = .returned (.agg #[.int .i64 no, .string pv, .string su]) ∧ ∃ yv : last.On V.heap.size V, w' = yv.w := fun xx => last.Calls.on xx (Nat.le_refl _) (i_stamp no pv su (.slice a n cap) rfl xx.w)
      have hs1 : ∀ xx : last.On V.heap.size V, Calls Tryd.prog 28 #[.agg #[.int .i64 no, .string pv, .string so, .slice a n cap]] xx.w fun e w' => e = .returned (.agg #[.int .i64 no, .string pv, .string so]) ∧ ∃ yv : last.On V.heap.size V, w' = yv.w := fun xx => last.Calls.on xx (Nat.le_refl _) (i_stamp no pv so (.slice a n cap) rfl xx.w)
      have hs2 : ∀ xx : last.On V.heap.size V, Calls Tryd.prog 29 #[.int .i64 no, .string pv, .slice a n cap] xx.w fun e w' => e = .returned (.agg #[.int .i64 no, .string pv, .string so, .slice a n cap]) ∧ ∃ yv : last.On V.heap.size V, w' = yv.w := fun xx => last.Calls.on xx (Nat.le_refl _) (HSO.out xx.w (hbq.trans (xx.2.mono hbq.size)))
      clear HSO HA
      by_cases e : su = so
      · subst e
        have hq := stamp_same no pv su
        have HF : Hid (R = true) := by show _ = _; rw [HR3.out]; simp
        clear HR3 b0 b1 b2 b3
        go_wp2_with fail
        refine last.wp_region_on V.heap.size (by kernel_rfl) (by kernel_rfl) ?_
        repeat (go_big_quiet_step (first | (go_at_call 28; with_reducible exact hs0 _) | (go_at_call 28; with_reducible exact hs1 _) | (go_at_call 29; with_reducible exact hs2 _)))
        refine wpQuiet_nil ?_
        intro wq hwq
        obtain ⟨xq, hwq⟩ := hwq
        subst hwq
        have hbq : Below V.heap.size V xq.w := xq.2
        go_wp2_with fail
        go_ret
        exact ⟨by rw [HF.out]; rfl, hBV.trans (hbq.mono hBV.size)⟩
      · have hq := stamp_other (a := no) (a' := no) (b := pv) (b' := pv) (c := su) (c' := so) (fun h => e h.2.2)
        have HF : Hid (R = false) := by show _ = _; rw [HR3.out]; simp [e]
        clear HR3 b0 b1 b2 b3
        go_wp2_with fail
        refine last.wp_region_on V.heap.size (by kernel_rfl) (by kernel_rfl) ?_
        repeat (go_big_quiet_step (first | (go_at_call 28; with_reducible exact hs0 _) | (go_at_call 28; with_reducible exact hs1 _) | (go_at_call 29; with_reducible exact hs2 _)))
        refine wpQuiet_nil ?_
        intro wq hwq
        obtain ⟨xq, hwq⟩ := hwq
        subst hwq
        have hbq : Below V.heap.size V xq.w := xq.2
        go_wp2_with fail
        go_ret
        exact ⟨by rw [HF.out]; rfl, hBV.trans (hbq.mono hBV.size)⟩
    · have HF : Hid (R = false) := by show _ = _; rw [HR2.out, decide_eq_true e1, decide_eq_false e2]; simp
      have hq2 := str_ne e2
      clear HR2 e1 e2
      go_wp2_with fail
      refine last.wp_region_on W.heap.size (by kernel_rfl) (by kernel_rfl) ?_
      repeat (go_big_quiet_step (first | (go_at_call 27; with_reducible exact hc0 _)))
      refine wpQuiet_nil ?_
      intro wq hwq
      obtain ⟨xq, hwq⟩ := hwq
      subst hwq
      have hbq : Below W.heap.size W xq.w := xq.2
      go_wp2_with fail
      go_ret
      exact ⟨by rw [HF.out]; rfl, hB.trans (hbq.mono hB.size)⟩
  · have hq1 : (no == 1) = false := by simp [e1]
    have HR3 : Hid (R = decide (su = so)) := by show _ = _; rw [HR2.out, decide_eq_false e1]; simp
    clear HR2 e1
    go_wp2_with fail
    refine last.wp_region_on W.heap.size (by kernel_rfl) (by kernel_rfl) ?_
    repeat (go_big_quiet_step (first | (go_at_call 27; with_reducible exact hc0 _)))
    refine wpQuiet_nil ?_
    intro wq hwq
    obtain ⟨xq, hwq⟩ := hwq
    subst hwq
    have hbq : Below W.heap.size W xq.w := xq.2
    go_wp2_with fail
    clear p0 p1 p2 p3 hinh hc0 hq1
    obtain ⟨V, hV⟩ : ∃ V, xq.w = V := ⟨_, rfl⟩
    rw [hV] at hbq ⊢
    obtain ⟨b0, b1, b2, b3⟩ := box4 (hX.below hbq)
    have hBV := hB.trans (hbq.mono hB.size)
    have v0 := last.On.cell (B := V.heap.size) b0 (World.block_lt_of_cell? _ _ b0)
    have v1 := last.On.cell (B := V.heap.size) b1 (World.block_lt_of_cell? _ _ b1)
    have v2 := last.On.cell (B := V.heap.size) b2 (World.block_lt_of_cell? _ _ b2)
    have v3 := last.On.cell (B := V.heap.size) b3 (World.block_lt_of_cell? _ _ b3)
    have hinv := last.On.inh V.heap.size V
    have hs0 : ∀ xx : last.On V.heap.size V, Calls Tryd.prog 28 #[.agg #[.int .i64 no, .string pv, .string su, .slice a n cap]] xx.w fun e w' => e = .returned (.agg #[.int .i64 no, .string pv, .string su]) ∧ ∃ yv : last.On V.heap.size V, w' = yv.w := fun xx => last.Calls.on xx (Nat.le_refl _) (i_stamp no pv su (.slice a n cap) rfl xx.w)
    have hs1 : ∀ xx : last.On V.heap.size V, Calls Tryd.prog 28 #[.agg #[.int .i64 no, .string pv, .string so, .slice a n cap]] xx.w fun e w' => e = .returned (.agg #[.int .i64 no, .string pv, .string so]) ∧ ∃ yv : last.On V.heap.size V, w' = yv.w := fun xx => last.Calls.on xx (Nat.le_refl _) (i_stamp no pv so (.slice a n cap) rfl xx.w)
    have hs2 : ∀ xx : last.On V.heap.size V, Calls Tryd.prog 29 #[.int .i64 no, .string pv, .slice a n cap] xx.w fun e w' => e = .returned (.agg #[.int .i64 no, .string pv, .string so, .slice a n cap]) ∧ ∃ yv : last.On V.heap.size V, w' = yv.w := fun xx => last.Calls.on xx (Nat.le_refl _) (HSO.out xx.w (hbq.trans (xx.2.mono hbq.size)))
    clear HSO HA
    by_cases e : su = so
    · subst e
      have hq := stamp_same no pv su
      have HF : Hid (R = true) := by show _ = _; rw [HR3.out]; simp
      clear HR3 b0 b1 b2 b3
      go_wp2_with fail
      refine last.wp_region_on V.heap.size (by kernel_rfl) (by kernel_rfl) ?_
      repeat (go_big_quiet_step (first | (go_at_call 28; with_reducible exact hs0 _) | (go_at_call 28; with_reducible exact hs1 _) | (go_at_call 29; with_reducible exact hs2 _)))
      refine wpQuiet_nil ?_
      intro wq hwq
      obtain ⟨xq, hwq⟩ := hwq
      subst hwq
      have hbq : Below V.heap.size V xq.w := xq.2
      go_wp2_with fail
      go_ret
      exact ⟨by rw [HF.out]; rfl, hBV.trans (hbq.mono hBV.size)⟩
    · have hq := stamp_other (a := no) (a' := no) (b := pv) (b' := pv) (c := su) (c' := so) (fun h => e h.2.2)
      have HF : Hid (R = false) := by show _ = _; rw [HR3.out]; simp [e]
      clear HR3 b0 b1 b2 b3
      go_wp2_with fail
      refine last.wp_region_on V.heap.size (by kernel_rfl) (by kernel_rfl) ?_
      repeat (go_big_quiet_step (first | (go_at_call 28; with_reducible exact hs0 _) | (go_at_call 28; with_reducible exact hs1 _) | (go_at_call 29; with_reducible exact hs2 _)))
      refine wpQuiet_nil ?_
      intro wq hwq
      obtain ⟨xq, hwq⟩ := hwq
      subst hwq
      have hbq : Below V.heap.size V xq.w := xq.2
      go_wp2_with fail
      go_ret
      exact ⟨by rw [HF.out]; rfl, hBV.trans (hbq.mono hBV.size)⟩
end Go.Proofs.YtfaldffehpgaiaaDoor.seals

namespace Go.Proofs.YtfaldffehpgaiaaDoor.seals
open Go Go.RowKit Go.Proofs.YtfaldffehpgaiaaDoor.base Go.Proofs.YtfaldffehpgaiaaDoor.pairs Go.Proofs.YtfaldffehpgaiaaDoor.tree Go.Proofs.YtfaldffehpgaiaaDoor.lay
set_option linter.unusedVariables false
set_option linter.unusedSimpArgs false

def link (l : List Seal) (k : Nat) : Bool := match l[k]? with
  | none => true
  | some s => sealOk s && decide (s.1 = (k : Int) + 1) && decide (s.2.1 = prevOf (l.take k))
def chainOk (l : List Seal) : Bool := (List.range l.length).all (link l) && decide (l.length ≤ 1000)
theorem link_at {l : List Seal} {k : Nat} (h : k < l.length) : link l k = (sealOk l[k] && decide (l[k].1 = (k : Int) + 1) && decide (l[k].2.1 = prevOf (l.take k))) := by
  unfold link
  rw [List.getElem?_eq_getElem h]
theorem chain_bad {l : List Seal} {k : Nat} (h : k < l.length) (hl : link l k = false) : chainOk l = false := by
  unfold chainOk
  have : (List.range l.length).all (link l) = false := by
    rw [List.all_eq_false]
    exact ⟨k, List.mem_range.2 h, by rw [hl]; simp⟩
  rw [this]; rfl
theorem chain_good {l : List Seal} (h : ∀ j, j < l.length → link l j = true) : chainOk l = decide (l.length ≤ 1000) := by
  unfold chainOk
  have : (List.range l.length).all (link l) = true := by
    rw [List.all_eq_true]
    exact fun j hj => h j (List.mem_range.1 hj)
  rw [this]; rfl
theorem slg_pre {α : Type} {R : Rd α} {w : World} {a : Option Addr} {n : Nat} {l : List α} (h : SlG R w a n l) (k : Nat) (hk : k ≤ n) : SlG R w a k (l.take k) := by
  obtain ⟨h1, h2, h3, h4⟩ := h
  refine ⟨by simp; omega, by omega, fun x hx => h3 x (List.mem_of_mem_take hx), fun h0 => ?_⟩
  obtain ⟨b, off, e, hi⟩ := h4 (by omega)
  refine ⟨b, off, e, fun i hl => ?_⟩
  have hl' : i < l.length := by simp at hl; omega
  rw [List.getElem_take]
  exact hi i hl'
set_option maxRecDepth 100000 in
theorem spec_prev (a : Option Addr) (n cap : Nat) (l : List Seal) (w : World) (h : SlG sealR w a n l) :
    Calls Tryd.prog 24 #[.slice a n cap] w fun e w' => e = .returned (.string (prevOf l)) ∧ Below w.heap.size w w' := by
  have hl := h.1
  have hm := h.2.1
  unfold maxLen at hm
  by_cases h0 : n = 0
  · subst h0
    have e0 : l = [] := List.eq_nil_of_length_eq_zero hl
    subst e0
    obtain ⟨w0, hw0⟩ : ∃ w0, w.alloc (.cells #[] 5) = w0 := ⟨_, rfl⟩
    have hb0 : Below w.heap.size w w0 := by rw [← hw0]; exact (Below.refl _ _).alloc (Nat.le_refl _) _
    have HD := Hid.mk' (sha.spec_digest w.heap.size 0 0 0 [] w0 (sl_nil _ _) (by omega))
    have HW := Hid.mk' hw0
    clear h hw0
    go_enter Tryd.func24, Tryd.ntmps24
    go_wp2_with fail
    rw [HW.out]
    refine HD.out.mono ?_
    rintro e w1 ⟨rfl, hb⟩
    go_wp2_with fail
    go_ret
    exact ⟨rfl, hb0.trans (hb.mono hb0.size)⟩
  · obtain ⟨b, off, ha, _⟩ := h.2.2.2 (by omega)
    subst ha
    obtain ⟨k, hk⟩ : ∃ k, n = k + 1 := ⟨n - 1, by omega⟩
    have hkl : k < l.length := by omega
    obtain ⟨ra, rn, rc, c0, c1, c2, c3, _⟩ := seal_at h k hkl
    have HP : Hid (prevOf l = l[k].2.2.1) := by
      show _ = _
      rw [prevOf_some (by omega)]
      have e1 : l.length - 1 = k := by omega
      simp only [e1]
    have hn0 : ((n : Int) == 0) = false := by simp; omega
    have hn1 : (n : Int) - 1 = (k : Int) := by omega
    have hlt : (k : Int) < (n : Int) := by omega
    clear hk hl
    generalize l[k] = s at *
    clear h
    go_enter Tryd.func24, Tryd.ntmps24
    go_wp2_with fail
    go_ret
    exact ⟨by rw [HP.out]; rfl, Below.refl _ _⟩
set_option maxRecDepth 100000 in
set_option maxHeartbeats 8000000 in
theorem spec_chainOk (a : Option Addr) (n cap : Nat) (l : List Seal) (w : World) (h : SlG sealR w a n l) (hcap : n ≤ cap) (hcm : cap ≤ maxLen) :
    Calls Tryd.prog 9 #[.slice a n cap] w fun e w' => e = .returned (.bool (chainOk l)) ∧ Below w.heap.size w w' := by
  have hl := h.1
  have hm := h.2.1
  unfold maxLen at hm hcm
  have HL := Hid.mk' hl
  have HH := Hid.mk' h
  go_enter Tryd.func9, Tryd.ntmps9
  go_wp2_with fail
  go_loopw [3] (fun i wr => ∃ k : Nat, k ≤ n ∧ i = .int .i64 (k : Int) ∧ (∀ j, j < k → link l j = true) ∧ Below w.heap.size w wr) (fun i _ => n - (intOf i).toNat)
  case atStart => exact ⟨0, Nat.zero_le _, rfl, fun j hj => absurd hj (Nat.not_lt_zero _), Below.refl _ _⟩
  case round =>
    obtain ⟨k, hk, rfl, hno, hb⟩ := hrel
    have HNO := Hid.mk' hno
    clear hno
    by_cases hlt : k < n
    · have hkl : k < l.length := by omega
      obtain ⟨b, off, ha, _⟩ := h.2.2.2 (by omega)
      subst ha
      obtain ⟨ra, rn, rc, c0, c1, c2, c3, hS, _, hno1, hp1, _⟩ := seal_at (h.below hb) k hkl
      have hki : (k : Int) < (n : Int) := by omega
      have hkc : (k : Int) ≤ (cap : Int) := by omega
      have HLK := Hid.mk' (link_at hkl)
      have hB := hb
      have hinh := last.On.inh wr.heap.size wr
      have p0 := last.On.cell (B := wr.heap.size) c0 (World.block_lt_of_cell? _ _ c0)
      have p1 := last.On.cell (B := wr.heap.size) c1 (World.block_lt_of_cell? _ _ c1)
      have p2 := last.On.cell (B := wr.heap.size) c2 (World.block_lt_of_cell? _ _ c2)
      have p3 := last.On.cell (B := wr.heap.size) c3 (World.block_lt_of_cell? _ _ c3)
      have hc0 : ∀ xx : last.On wr.heap.size wr, Calls Tryd.prog 11 #[.agg #[.int .i64 l[k].1, .string l[k].2.1, .string l[k].2.2.1, .slice ra rn rc]] xx.w fun e w' => e = .returned (.bool (sealOk l[k])) ∧ ∃ yv : last.On wr.heap.size wr, w' = yv.w := fun xx => last.Calls.on xx (Nat.le_refl _) (spec_sealOk ra rn rc l[k] xx.w (hS.below xx.2) hno1 hp1)
      have hc1 : ∀ xx : last.On wr.heap.size wr, Calls Tryd.prog 24 #[.slice (some ⟨b, off, none⟩) k cap] xx.w fun e w' => e = .returned (.string (prevOf (l.take k))) ∧ ∃ yv : last.On wr.heap.size wr, w' = yv.w := fun xx => last.Calls.on xx (Nat.le_refl _) (spec_prev _ k cap (l.take k) xx.w (slg_pre ((h.below hb).below xx.2) k (by omega)))
      clear h c0 c1 c2 c3 hS hno1 hp1
      generalize hr0 : sealOk l[k] = r0 at *
      generalize hr2 : prevOf (l.take k) = pv at *
      have HF : Hid (r0 = false → chainOk l = false) := fun e => chain_bad hkl (by rw [HLK.out, e]; rfl)
      have HF1 : Hid (l[k].1 ≠ (k : Int) + 1 → chainOk l = false) := fun e => chain_bad hkl (by rw [HLK.out, decide_eq_false e]; simp)
      have HF2 : Hid (l[k].2.1 ≠ pv → chainOk l = false) := fun e => chain_bad hkl (by rw [HLK.out, decide_eq_false e]; simp)
      have HG : Hid (r0 = true → l[k].1 = (k : Int) + 1 → l[k].2.1 = pv → ∀ j, j < k + 1 → link l j = true) := fun e1 e2 e3 j hj => by
        by_cases hjk : j = k
        · subst hjk; rw [HLK.out, e1, decide_eq_true e2, decide_eq_true e3]; rfl
        · exact HNO.out j (by omega)
      clear HLK hr0 hr2
      generalize l[k] = s at *
      obtain ⟨no, pp, su, rs⟩ := s
      simp only [] at *
      cases r0
      · have HR := Hid.mk' (HF.out rfl)
        clear HF HF1 HF2 HG
        go_wp2_with fail
        refine last.wp_region_on wr.heap.size (by kernel_rfl) (by kernel_rfl) ?_
        repeat (go_big_quiet_step (first | (go_at_call 11; with_reducible exact hc0 _) | (go_at_call 24; with_reducible exact hc1 _)))
        refine wpQuiet_nil ?_
        intro wq hwq
        obtain ⟨xq, hwq⟩ := hwq
        subst hwq
        have hbq : Below wr.heap.size wr xq.w := xq.2
        go_wp2_with fail
        go_ret
        exact ⟨by rw [HR.out]; rfl, hB.trans (hbq.mono hB.size)⟩
      by_cases e1 : no = (k : Int) + 1
      · have hd : (no != (k : Int) + 1) = false := by simp [e1]
        by_cases e2 : pp = pv
        · have HR := Hid.mk' (HG.out rfl e1 e2)
          subst e2
          have hq := str_same pp
          clear HF HF1 HF2 HG e1
          go_wp2_with fail
          refine last.wp_region_on wr.heap.size (by kernel_rfl) (by kernel_rfl) ?_
          repeat (go_big_quiet_step (first | (go_at_call 11; with_reducible exact hc0 _) | (go_at_call 24; with_reducible exact hc1 _)))
          refine wpQuiet_nil ?_
          intro wq hwq
          obtain ⟨xq, hwq⟩ := hwq
          subst hwq
          have hbq : Below wr.heap.size wr xq.w := xq.2
          go_wp2_with fail
          go_roundw
          case rel => exact ⟨k + 1, by omega, by go_num, HR.out, hB.trans (hbq.mono hB.size)⟩
          case measure => simp [intOf]; omega
        · have HR := Hid.mk' (HF2.out e2)
          have hq := str_ne e2
          clear HF HF1 HF2 HG e1 e2
          go_wp2_with fail
          refine last.wp_region_on wr.heap.size (by kernel_rfl) (by kernel_rfl) ?_
          repeat (go_big_quiet_step (first | (go_at_call 11; with_reducible exact hc0 _) | (go_at_call 24; with_reducible exact hc1 _)))
          refine wpQuiet_nil ?_
          intro wq hwq
          obtain ⟨xq, hwq⟩ := hwq
          subst hwq
          have hbq : Below wr.heap.size wr xq.w := xq.2
          go_wp2_with fail
          go_ret
          exact ⟨by rw [HR.out]; rfl, hB.trans (hbq.mono hB.size)⟩
      · have HR := Hid.mk' (HF1.out e1)
        have hd : (no != (k : Int) + 1) = true := by simp [e1]
        clear HF HF1 HF2 HG e1
        go_wp2_with fail
        refine last.wp_region_on wr.heap.size (by kernel_rfl) (by kernel_rfl) ?_
        repeat (go_big_quiet_step (first | (go_at_call 11; with_reducible exact hc0 _) | (go_at_call 24; with_reducible exact hc1 _)))
        refine wpQuiet_nil ?_
        intro wq hwq
        obtain ⟨xq, hwq⟩ := hwq
        subst hwq
        have hbq : Below wr.heap.size wr xq.w := xq.2
        go_wp2_with fail
        go_ret
        exact ⟨by rw [HR.out]; rfl, hB.trans (hbq.mono hB.size)⟩
    · have hki : ¬ (k : Int) < (n : Int) := by omega
      have HR := Hid.mk' (chain_good (l := l) (fun j hj => HNO.out j (by omega)))
      have HD : Hid (decide (l.length ≤ 1000) = decide ((n : Int) ≤ 1000)) := by show _ = _; rw [hl]; exact decide_eq_decide.2 ⟨fun e => by omega, fun e => by omega⟩
      by_cases h1 : (n : Int) ≤ 1000
      · go_wp2_with fail
        go_ret
        exact ⟨by rw [HR.out, HD.out]; simp [h1], hb⟩
      · go_wp2_with fail
        go_ret
        exact ⟨by rw [HR.out, HD.out]; simp [h1], hb⟩
end Go.Proofs.YtfaldffehpgaiaaDoor.seals
