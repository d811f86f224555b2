/- WoPr WoNs WoNt -/
import Derived.Test.YtijplooogplccaaGreatShba
import Derived.Test.YtijplooogplccaaGreatShbj
import Derived.BigRegion
set_option linter.unusedVariables false
set_option linter.unusedSimpArgs false
namespace Go.Proofs.YtijplooogplccaaGreat
namespace wos
open Go Go.RowKit base pairs ords lay
def sayA (kind tx : Int) (r : recs.Rc) : Bool := decide (r.1 = kind) && decide (r.2.1 = tx)
def saysS (l : List recs.Rc) (first kind tx : Int) : Bool := (l.take (sureN first l.length)).any (sayA kind tx)
def keepA (tx : Int) (r : recs.Rc) : Bool := decide (r.2.1 = tx) && (decide (r.1 = 1) || decide (r.1 = 2))
def keepS (s : recs.Shd) (tx : Int) : Bool := (s.2.1.take (sureN s.2.2.1 s.2.1.length)).any (keepA tx)
theorem keepS_says (s : recs.Shd) (tx : Int) : keepS s tx = (saysS s.2.1 s.2.2.1 1 tx || saysS s.2.1 s.2.2.1 2 tx) := by
 unfold keepS saysS
 generalize s.2.1.take (sureN s.2.2.1 s.2.1.length) = l
 induction l with
 | nil => rfl
 | cons r l ih =>
  simp only [List.any_cons, ih, keepA, sayA]
  cases decide (r.2.1 = tx) <;> cases decide (r.1 = 1) <;> cases decide (r.1 = 2) <;> cases l.any (sayA 1 tx) <;> cases l.any (sayA 2 tx) <;> rfl
set_option maxRecDepth 100000 in
set_option maxHeartbeats 2000000 in
theorem spec_l13Says (la : Option Addr) (ln lc : Nat) (l : List recs.Rc) (first kind tx : Int) (w : World) (h : recs.SlR w la ln l) :
 Calls Tryz.prog 70 #[.slice la ln lc, .int .i64 first, .int .i64 kind, .int .i64 tx] w fun e w' => e = .returned (.bool (saysS l first kind tx)) ∧ Below w.heap.size w w' := by
 have hll := h.1
 have hm := h.2.1
 unfold maxLen at hm
 have HY : Hid (saysS l first kind tx = (l.take (sureN first ln)).any (sayA kind tx)) := by show _ = _; unfold saysS; rw [hll]
 have HLL := Hid.mk' hll
 clear hll
 go_enter Tryz.func70, Tryz.ntmps70
 go_wp2_with fail
 go_loopw [9] (fun i wr => ∃ k : Nat, k ≤ sureN first ln ∧ i = .int .i64 (k : Int) ∧ Below w.heap.size w wr ∧ ∀ j (hj : j < k) (hl : j < l.length), sayA kind tx l[j] = false) (fun i _ => ln - (intOf i).toNat)
 case atStart => exact ⟨0, Nat.zero_le _, rfl, Below.refl _ _, fun j hj => absurd hj (Nat.not_lt_zero _)⟩
 case round =>
  obtain ⟨k, hk, rfl, hb, hno⟩ := hrel
  have HNO := Hid.mk' hno
  have hle := sureN_le first ln
  clear hno
  by_cases hlt : k < sureN first ln
  · obtain ⟨h1, h2⟩ := sureN_lt.1 hlt
    have h1i : (k : Int) < (ln : Int) := by omega
    have hkl : k < l.length := by have := HLL.out; omega
    obtain ⟨b, off, hla⟩ := slr_some h (by omega)
    subst hla
    obtain ⟨c0, c1, _⟩ := rec_at (h.below hb) k hkl
    have HP : Hid (∀ v, sayA kind tx l[k] = v → (v = true → (l.take (sureN first ln)).any (sayA kind tx) = true) ∧ (v = false → ∀ j (hj : j < k + 1) (hl : j < l.length), sayA kind tx l[j] = false)) := fun v hv => ⟨fun e => any_hit hkl hlt (hv.trans e), fun e j hj hl => by
     by_cases hjk : j = k
     · subst hjk; exact hv.trans e
     · exact HNO.out j (by omega) hl⟩
    have HV : Hid (sayA kind tx l[k] = (decide (l[k].1 = kind) && decide (l[k].2.1 = tx))) := rfl
    generalize l[k] = r at *
    obtain ⟨rk, rt, ro⟩ := r
    simp only [] at c0 c1 HV
    by_cases e0 : rk = kind
    · have d0 : (rk == kind) = true := beq_iff_eq.2 e0
      by_cases e1 : rt = tx
      · have d1 : (rt == tx) = true := beq_iff_eq.2 e1
        have HT := Hid.mk' ((HP.out true (by rw [HV.out]; simp [e0, e1])).1 rfl)
        clear HP HV e0 e1
        go_wp2_with fail
        go_ret
        exact ⟨by rw [HY.out, HT.out]; rfl, hb⟩
      · have d1 : (rt == tx) = false := beq_eq_false_iff_ne.2 e1
        have HF := Hid.mk' ((HP.out false (by rw [HV.out]; simp [e1])).2 rfl)
        clear HP HV e0 e1
        go_wp2_with fail
        go_roundw
        case rel => exact ⟨k + 1, by omega, by go_num, hb, HF.out⟩
        case measure => simp [intOf]; omega
    · have d0 : (rk == kind) = false := beq_eq_false_iff_ne.2 e0
      have HF := Hid.mk' ((HP.out false (by rw [HV.out]; simp [e0])).2 rfl)
      clear HP HV e0
      go_wp2_with fail
      go_roundw
      case rel => exact ⟨k + 1, by omega, by go_num, hb, HF.out⟩
      case measure => simp [intOf]; omega
  · have HT : Hid ((l.take (sureN first ln)).any (sayA kind tx) = false) := any_none fun j hj hl => HNO.out j (by omega) hl
    have hor : ¬ (k < ln ∧ (k : Int) < first) := fun e => hlt (sureN_lt.2 e)
    clear hlt
    by_cases h2 : (k : Int) < first
    · have h1i : ¬ (k : Int) < (ln : Int) := fun e => hor ⟨by omega, h2⟩
      clear hor
      go_wp2_with fail
      go_ret
      exact ⟨by rw [HY.out, HT.out]; rfl, hb⟩
    · clear hor
      go_wp2_with fail
      go_ret
      exact ⟨by rw [HY.out, HT.out]; rfl, hb⟩
theorem slr_take {w : World} {a : Option Addr} {n N : Nat} {l : List recs.Rc} (h : recs.SlR w a n l) (hN : N ≤ n) : recs.SlR w a N (l.take N) := by
 obtain ⟨h1, h2, h3, h4⟩ := h
 refine ⟨by simp; omega, by omega, fun x hx => h3 x (List.mem_of_mem_take hx), fun h0 => ?_⟩
 obtain ⟨b, off, e, hi⟩ := h4 (by omega)
 refine ⟨b, off, e, fun i hl => ?_⟩
 have := hi i (by simp at hl; omega)
 rw [List.getElem_take]
 exact this
set_option maxRecDepth 100000 in
set_option maxHeartbeats 4000000 in
theorem i_keepsSh (la : Option Addr) (ln lc : Nat) (ma : Option Addr) (mn mc : Nat) (ha : Option Addr) (hn hc : Nat) (s : recs.Shd) (tx : Int) (w : World) (h : SeeSh w la ln lc ma mn mc ha hn hc s) :
 Calls Tryz.prog 149 #[.agg #[.int .i64 s.1, .slice la ln lc, .int .i64 s.2.2.1, .slice ma mn mc, .slice ha hn hc], .int .i64 tx] w fun e w' => e = .returned (.bool (keepS s tx)) ∧ Below w.heap.size w w' := by
 obtain ⟨W, hW⟩ : ∃ W, w.alloc (.cells #[.int .i64 s.1, .slice la ln lc, .int .i64 s.2.2.1, .slice ma mn mc, .slice ha hn hc] 55) = W := ⟨_, rfl⟩
 have hB : Below w.heap.size w W := by rw [← hW]; exact below_make
 have hX : BoxIn w.heap.size 55 [] [.int .i64 s.1, .slice la ln lc, .int .i64 s.2.2.1, .slice ma mn mc, .slice ha hn hc] [] W := by rw [← hW]; exact boxIn_new w _ _
 have hll := h.log.1
 have hm := h.log.2.1
 unfold maxLen at hm
 have hlc := h.lc
 have hsw := h.sure
 have hN := sureN_le s.2.2.1 ln
 have hTK := slr_take (h.log.below hB) hN
 have HY : Hid (keepS s tx = (s.2.1.take (sureN s.2.2.1 ln)).any (keepA tx)) := by show _ = _; unfold keepS; rw [hll]
 have HW := Hid.mk' hW
 obtain ⟨a0, a1, a2, a3, a4⟩ := cells5 hX
 have p1 := last.On.cell (B := W.heap.size) a1 (World.block_lt_of_cell? _ _ a1)
 have p2 := last.On.cell (B := W.heap.size) a2 (World.block_lt_of_cell? _ _ a2)
 have hinh := last.On.inh W.heap.size W
 have hcall0 : ∀ xx : last.On W.heap.size W, Calls Tryz.prog 146 #[.int .i64 s.2.2.1, .int .i64 (ln : Int)] xx.w fun e w' => e = .returned (.int .i64 ((sureN s.2.2.1 ln : Nat) : Int)) ∧ ∃ yv : last.On W.heap.size W, w' = yv.w := fun xx => (i_sureCount s.2.2.1 ln xx.w hsw (by omega)).mono (fun e w' ⟨he, hw⟩ => ⟨he, xx, hw⟩)
 generalize sureN s.2.2.1 ln = N at *
 have hNi : (N : Int) ≤ (lc : Int) := by omega
 generalize s.2.1.take N = l at *
 have HTL := Hid.mk' hTK.1
 clear hW h hll a0 a1 a2 a3 a4 hX
 go_enter Tryz.func149, Tryz.ntmps149
 go_wp2_with fail
 rw [HW.out]
 refine last.wp_region_on W.heap.size (by kernel_rfl) (by kernel_rfl) ?_
 repeat (go_big_quiet_step ((go_at_call 146; exact hcall0 _)))
 refine wpQuiet_nil ?_
 intro wq hwq
 obtain ⟨xq, hwq⟩ := hwq
 subst hwq
 have hbq : Below W.heap.size W xq.w := xq.2
 generalize xq.w = W1 at *
 clear p1 p2 hinh hcall0 HW
 go_wp2_with fail
 go_loopw [17] (fun i wr => ∃ k : Nat, k ≤ N ∧ i = .int .i64 (k : Int) ∧ Below W1.heap.size W1 wr ∧ ∀ j (hj : j < k) (hl : j < l.length), keepA tx l[j] = false) (fun i _ => N - (intOf i).toNat)
 case atStart => exact ⟨0, Nat.zero_le _, rfl, Below.refl _ _, fun j hj => absurd hj (Nat.not_lt_zero _)⟩
 case round =>
  obtain ⟨k, hk, rfl, hb, hno⟩ := hrel
  have HNO := Hid.mk' hno
  have hbw := hbq.trans (hb.mono hbq.size)
  have hBw := hB.trans (hbw.mono hB.size)
  clear hno
  by_cases hlt : k < N
  · have hki : (k : Int) < (N : Int) := by omega
    have hkl : k < l.length := by have := HTL.out; omega
    obtain ⟨b, off, hla⟩ := slr_some hTK (by omega)
    subst hla
    obtain ⟨c0, c1, pa, pl, pc, c2, _, _⟩ := rec_at (hTK.below hbw) k hkl
    have HP : Hid (∀ v, keepA tx l[k] = v → (v = true → l.any (keepA tx) = true) ∧ (v = false → ∀ j (hj : j < k + 1) (hl : j < l.length), keepA tx l[j] = false)) := fun v hv => ⟨fun e => List.any_eq_true.2 ⟨l[k], List.getElem_mem hkl, hv.trans e⟩, fun e j hj hl => by
     by_cases hjk : j = k
     · subst hjk; exact hv.trans e
     · exact HNO.out j (by omega) hl⟩
    have HV : Hid (keepA tx l[k] = (decide (l[k].2.1 = tx) && (decide (l[k].1 = 1) || decide (l[k].1 = 2)))) := rfl
    generalize l[k] = r at *
    obtain ⟨rk, rt, ro⟩ := r
    simp only [] at c0 c1 c2 HV
    obtain ⟨u1, hu1⟩ : ∃ u1, wr.alloc (.cells #[.int .i64 rk, .int .i64 rt, .slice pa pl pc] 133) = u1 := ⟨_, rfl⟩
    have hbu : Below wr.heap.size wr u1 := by rw [← hu1]; exact below_make
    have hC := boxIn_new wr [.int .i64 rk, .int .i64 rt, .slice pa pl pc] 133
    rw [hu1] at hC
    obtain ⟨x0, x1, x2⟩ := cells3 hC
    rw [← hu1] at x0 x1 x2
    have HU := Hid.mk' hu1
    have hbv := hb.trans (hbu.mono hb.size)
    have hBu := hBw.trans (hbu.mono hBw.size)
    clear hu1 hC
    by_cases e1 : rt = tx
    · have d1 : (rt == tx) = true := beq_iff_eq.2 e1
      by_cases e0 : rk = 1
      · have d0 : (rk == 1) = true := beq_iff_eq.2 e0
        have HT := Hid.mk' ((HP.out true (by rw [HV.out]; simp [e0, e1])).1 rfl)
        clear HP HV e0 e1
        go_wp2_with fail
        rw [HU.out]
        go_ret
        exact ⟨by rw [HY.out, HT.out]; rfl, hBu⟩
      · have d0 : (rk == 1) = false := beq_eq_false_iff_ne.2 e0
        by_cases e2 : rk = 2
        · have d2 : (rk == 2) = true := beq_iff_eq.2 e2
          have HT := Hid.mk' ((HP.out true (by rw [HV.out]; simp [e2, e1])).1 rfl)
          clear HP HV e0 e1 e2
          go_wp2_with fail
          rw [HU.out]
          go_ret
          exact ⟨by rw [HY.out, HT.out]; rfl, hBu⟩
        · have d2 : (rk == 2) = false := beq_eq_false_iff_ne.2 e2
          have HF := Hid.mk' ((HP.out false (by rw [HV.out]; simp [e0, e2])).2 rfl)
          clear HP HV e0 e1 e2
          go_wp2_with fail
          rw [HU.out]
          go_roundw
          case rel => exact ⟨k + 1, by omega, by go_num, hbv, HF.out⟩
          case measure => simp [intOf]; omega
    · have d1 : (rt == tx) = false := beq_eq_false_iff_ne.2 e1
      have HF := Hid.mk' ((HP.out false (by rw [HV.out]; simp [e1])).2 rfl)
      clear HP HV e1
      go_wp2_with fail
      rw [HU.out]
      go_roundw
      case rel => exact ⟨k + 1, by omega, by go_num, hbv, HF.out⟩
      case measure => simp [intOf]; omega
  · have hki : ¬ (k : Int) < (N : Int) := by omega
    have HT : Hid (l.any (keepA tx) = false) := by
     show _ = _
     rw [List.any_eq_false]
     intro c hc
     obtain ⟨j, hj, rfl⟩ := List.getElem_of_mem hc
     rw [HNO.out j (by have := HTL.out; omega) hj]
     decide
    go_wp2_with fail
    go_ret
    exact ⟨by rw [HY.out, HT.out]; rfl, hBw⟩
end wos
namespace wos
open Go Go.RowKit base pairs ords lay
def isEnd (r : recs.Rc) : Bool := decide (r.1 = 2) || decide (r.1 = 3)
def endC (r : recs.Rc) : cos.Ch := (r.2.1, decide (r.1 = 2))
def endsIn (l : List recs.Rc) (c : cos.Ch) : Bool := l.any fun r => isEnd r && decide (endC r = c)
def turned (p : cos.Ch → Bool) (l : List recs.Rc) : Bool := l.any fun r => isEnd r && p (r.2.1, !decide (r.1 = 2))
def ahead (l : List recs.Shd) (k : Nat) (c : cos.Ch) : Bool := (l.take k).any fun s => endsIn s.2.1 c
def nospA (l : List recs.Shd) (k : Nat) : Bool := match l[k]? with
 | none => true
 | some s => !turned (ahead l k) s.2.1
def nospI (l : List recs.Shd) : Bool := (List.range l.length).all (nospA l)
def gone (l : List recs.Shd) (tx : Int) : Bool := l.any fun s => s.2.1.any (sayA 3 tx)
def nospR (l : List recs.Shd) (r : recs.Rc) : Bool := !decide (r.1 = 2) || !gone l r.2.1
def nospS (l : List recs.Shd) : Bool := l.all fun s => s.2.1.all (nospR l)
theorem nospA_at {l : List recs.Shd} {k : Nat} (hk : k < l.length) : nospA l k = !turned (ahead l k) l[k].2.1 := by
 unfold nospA
 rw [List.getElem?_eq_getElem hk]
theorem mem_ends {l : List recs.Rc} {r : recs.Rc} {c : cos.Ch} (hr : r ∈ l) (h : isEnd r = true) (e : endC r = c) : endsIn l c = true := List.any_eq_true.2 ⟨r, hr, by rw [h]; simp [e]⟩
def Unsplit (l : List recs.Rc) : Prop := ∀ r ∈ l, ∀ r' ∈ l, r.1 = 2 → r'.1 = 3 → r'.2.1 ≠ r.2.1
theorem nosp_eq {l : List recs.Shd} (h : ∀ s ∈ l, Unsplit s.2.1) : nospI l = nospS l := by
 cases e : nospS l
 · unfold nospS at e
   rw [List.all_eq_false] at e
   obtain ⟨s, hs, e⟩ := e
   have e1 : s.2.1.all (nospR l) = false := by simpa using e
   rw [List.all_eq_false] at e1
   obtain ⟨r, hr, e1⟩ := e1
   unfold nospR gone at e1
   simp only [Bool.or_eq_true, Bool.not_eq_true', decide_eq_false_iff_not, not_or, Decidable.not_not, Bool.not_eq_false, List.any_eq_true] at e1
   obtain ⟨e2, s', hs', r', hr', e3⟩ := e1
   unfold sayA at e3
   simp only [Bool.and_eq_true, decide_eq_true_eq] at e3
   obtain ⟨i, hi, rfl⟩ := List.getElem_of_mem hs
   obtain ⟨m, hm, rfl⟩ := List.getElem_of_mem hs'
   have hne : i ≠ m := fun e => by
    subst e
    exact h _ hs r hr r' hr' e2 e3.1 e3.2
   unfold nospI
   rcases Nat.lt_or_ge i m with hlt | hge
   · refine range_miss hm ?_
     rw [nospA_at hm]
     have : turned (ahead l m) l[m].2.1 = true := List.any_eq_true.2 ⟨r', hr', by
      have a1 : isEnd r' = true := by unfold isEnd; simp [e3.1]
      have a2 : (!decide (r'.1 = 2)) = true := by simp [e3.1]
      rw [a1, a2, Bool.true_and]
      exact List.any_eq_true.2 ⟨l[i], List.mem_take_iff_getElem.2 ⟨i, by omega, rfl⟩, mem_ends hr (by unfold isEnd; simp [e2]) (by unfold endC; simp [e2, e3.2])⟩⟩
     rw [this]; rfl
   · refine range_miss hi ?_
     rw [nospA_at hi]
     have : turned (ahead l i) l[i].2.1 = true := List.any_eq_true.2 ⟨r, hr, by
      have a1 : isEnd r = true := by unfold isEnd; simp [e2]
      have a2 : (!decide (r.1 = 2)) = false := by simp [e2]
      rw [a1, a2, Bool.true_and]
      exact List.any_eq_true.2 ⟨l[m], List.mem_take_iff_getElem.2 ⟨m, by omega, rfl⟩, mem_ends hr' (by unfold isEnd; simp [e3.1]) (by unfold endC; simp [e3.1, e3.2])⟩⟩
     rw [this]; rfl
 · unfold nospI
   refine range_every fun k hk => ?_
   rw [nospA_at hk]
   cases e2 : turned (ahead l k) l[k].2.1
   · rfl
   · exfalso
     unfold turned at e2
     rw [List.any_eq_true] at e2
     obtain ⟨r, hr, e2⟩ := e2
     rw [Bool.and_eq_true] at e2
     obtain ⟨e3, e4⟩ := e2
     unfold ahead at e4
     rw [List.any_eq_true] at e4
     obtain ⟨s', hs', e4⟩ := e4
     have hs'l := List.mem_of_mem_take hs'
     unfold endsIn at e4
     rw [List.any_eq_true] at e4
     obtain ⟨r', hr', e4⟩ := e4
     rw [Bool.and_eq_true, decide_eq_true_eq] at e4
     obtain ⟨e5, e6⟩ := e4
     unfold endC at e6
     simp only [Prod.mk.injEq] at e6
     obtain ⟨e7, e8⟩ := e6
     have hall : ∀ s ∈ l, ∀ r ∈ s.2.1, r.1 = 2 → ∀ s' ∈ l, ∀ r' ∈ s'.2.1, r'.1 = 3 → r'.2.1 = r.2.1 → False := fun s hs r hr h2 s' hs' r' hr' h3 h4 => by
      unfold nospS at e
      have a := List.all_eq_true.1 (List.all_eq_true.1 e s hs) r hr
      have b : gone l r.2.1 = true := List.any_eq_true.2 ⟨s', hs', List.any_eq_true.2 ⟨r', hr', by unfold sayA; simp [h3, h4]⟩⟩
      unfold nospR at a
      rw [b] at a
      simp [h2] at a
     by_cases h2 : r.1 = 2
     · have : decide (r'.1 = 2) = false := by rw [e8]; simp [h2]
       have h3 : r'.1 = 3 := by unfold isEnd at e5; rw [this] at e5; simpa using e5
       exact hall _ (List.getElem_mem hk) r hr h2 s' hs'l r' hr' h3 e7
     · have h2' : r'.1 = 2 := by rw [decide_eq_false h2] at e8; simpa using e8
       have h3 : r.1 = 3 := by unfold isEnd at e3; rw [decide_eq_false h2] at e3; simpa using e3
       exact hall s' hs'l r' hr' h2' _ (List.getElem_mem hk) r hr h3 e7.symm
set_option maxRecDepth 100000 in
set_option maxHeartbeats 1000000 in
theorem i_endOf (k t : Int) (a : Option Addr) (n c : Nat) (w : World) :
 Calls Tryz.prog 144 #[.agg #[.int .i64 k, .int .i64 t, .slice a n c]] w fun e w' => e = .returned (.tuple #[.agg #[.int .i64 t, .bool (decide (k = 2))], .bool (decide (k = 2) || decide (k = 3))]) ∧ Below w.heap.size w w' := by
 by_cases e2 : k = 2
 · have d2 : (k == 2) = true := by simp [e2]
   rw [decide_eq_true e2]
   clear e2
   go_enter Tryz.func144, Tryz.ntmps144
   go_wp2_with fail
   go_region
   go_wp2_with fail
   refine bodyPost_ret (v := .tuple #[.agg #[.int .i64 t, .bool true], .bool true]) (by simp [results, Tryz.results144, go_sem]) rfl ⟨by simp, ?_⟩
   exact (((Below.refl _ _).alloc (Nat.le_refl _) _).alloc (by simp) _).drew
 · have d2 : (k == 2) = false := by simp [e2]
   rw [decide_eq_false e2]
   clear e2
   by_cases e3 : k = 3
   · have d3 : (k == 3) = true := by simp [e3]
     rw [decide_eq_true e3]
     clear e3
     go_enter Tryz.func144, Tryz.ntmps144
     go_wp2_with fail
     go_region
     go_wp2_with fail
     refine bodyPost_ret (v := .tuple #[.agg #[.int .i64 t, .bool false], .bool true]) (by simp [results, Tryz.results144, go_sem]) rfl ⟨by simp, ?_⟩
     exact (((Below.refl _ _).alloc (Nat.le_refl _) _).alloc (by simp) _).drew
   · have d3 : (k == 3) = false := by simp [e3]
     rw [decide_eq_false e3]
     clear e3
     go_enter Tryz.func144, Tryz.ntmps144
     go_wp2_with fail
     go_region
     go_wp2_with fail
     refine bodyPost_ret (v := .tuple #[.agg #[.int .i64 t, .bool false], .bool false]) (by simp [results, Tryz.results144, go_sem]) rfl ⟨by simp, ?_⟩
     exact (((Below.refl _ _).alloc (Nat.le_refl _) _).alloc (by simp) _).drew
def MadeP (w : World) (B n : Nat) (p : cos.Ch → Bool) : Prop :=
 ∃ D : DataW Unit, w.ownsMap Tryz.prog 94 (plainElem Tryz.prog 3) B n D ∧ ∀ c : cos.Ch, (Lit.int .i64 c.1).wf = true → Maps.has D (cos.chK c.1 c.2) = p c
section
variable {w w' : World} {B n : Nat} {p : cos.Ch → Bool}
theorem madeP_new (w : World) : MadeP (w.alloc (.map #[] 0)) w.heap.size 0 (fun _ => false) :=
 ⟨.map [], World.ownsMap_made _ _ _ _, fun c hc => rfl⟩
theorem MadeP.lt (h : MadeP w B n p) : B < w.heap.size := by
 obtain ⟨D, ⟨es, clock, hb, _⟩, _⟩ := h
 exact (Array.getElem?_eq_some_iff.1 hb).1
theorem MadeP.keep (h : MadeP w B n p) (hk : w'.heap[B]? = w.heap[B]?) : MadeP w' B n p := by
 obtain ⟨D, ⟨es, clock, hb, r⟩, h3⟩ := h
 exact ⟨D, ⟨es, clock, hk.trans hb, r⟩, h3⟩
theorem MadeP.below (h : MadeP w B n p) (hb : Below w.heap.size w w') : MadeP w' B n p := h.keep (hb.block B h.lt)
theorem MadeP.congr {q : cos.Ch → Bool} (h : MadeP w B n p) (e : ∀ c, p c = q c) : MadeP w B n q := by
 obtain ⟨D, h1, h3⟩ := h
 exact ⟨D, h1, fun c hc => (h3 c hc).trans (e c)⟩
theorem MadeP.look (h : MadeP w B n p) {tx : Int} {y : Bool} (hw : (Lit.int .i64 tx).wf = true) : ∃ v : Int, (Instr.lookup 119 (.map (some B)) (cos.chV tx y) true).run Tryz.prog w = .ok (.tuple #[.int .i64 v, .bool (p (tx, y))]) w := by
 obtain ⟨D, h1, h3⟩ := h
 obtain ⟨v, ps, hrun, hR⟩ := h1.look_ok cos.keyCh Tryz.underlying119 (cos.zeroI w) (plainElem_int Tryz.underlying3 (by decide)) (cos.keyOf_ch (y := y) hw)
 have hh := h3 (tx, y) hw
 simp only [] at hh
 obtain ⟨c, rfl, _, _⟩ := plainElem_int_inv Tryz.underlying3 hR
 exact ⟨c, by rw [hrun, hh]⟩
theorem MadeP.put {D : DataW Unit} {c : cos.Ch} {d : DataW Unit} (hD : Maps.IsMap D) (h3 : ∀ d : cos.Ch, (Lit.int .i64 d.1).wf = true → Maps.has D (cos.chK d.1 d.2) = p d) (hw : (Lit.int .i64 c.1).wf = true) (h1 : w'.ownsMap Tryz.prog 94 (plainElem Tryz.prog 3) B n (D.put (cos.chK c.1 c.2) d)) : MadeP w' B n (fun x => p x || decide (x = c)) := by
 refine ⟨_, h1, fun x hx => ?_⟩
 by_cases e : x = c
 · subst e
   rw [Maps.has_put_same hD (cos.keyCh.key (cos.keyOf_ch (y := x.2) hx))]
   simp
 · rw [Maps.has_put_other (cos.chK_ne (y := x.2) (y' := c.2) hx hw (fun e2 => e e2)), h3 x hx]
   simp [e]
end
set_option maxRecDepth 100000 in
set_option maxHeartbeats 1000000 in
theorem i_hasP (B m : Nat) (p : cos.Ch → Bool) (tx : Int) (y : Bool) (w : World) (h : MadeP w B m p) (hw : (Lit.int .i64 tx).wf = true) :
 Calls Tryz.prog 145 #[.map (some B), cos.chV tx y] w fun e w' => e = .returned (.bool (p (tx, y))) ∧ Below w.heap.size w w' := by
 have hb : Below w.heap.size w (w.alloc (.cells #[.int .i64 tx, .bool y] 94)) := below_make
 obtain ⟨v, hlk⟩ := (h.below hb).look (y := y) hw
 generalize p (tx, y) = r at *
 clear h hw
 go_enter Tryz.func145, Tryz.ntmps145
 go_wp2_with fail
 go_ret
 exact ⟨rfl, hb⟩
set_option maxRecDepth 100000 in
set_option maxHeartbeats 4000000 in
theorem i_turnedBy (B m : Nat) (p : cos.Ch → Bool) (a : Option Addr) (n cap : Nat) (l : List recs.Rc) (w : World) (hM : MadeP w B m p) (h : recs.SlR w a n l) :
 Calls Tryz.prog 110 #[.map (some B), .slice a n cap] w fun e w' => e = .returned (.bool (turned p l)) ∧ Below w.heap.size w w' := by
 have hm := h.2.1
 unfold maxLen at hm
 have HLL := Hid.mk' h.1
 have HR : Hid (turned p l = !(List.range n).all (holdsAt (fun r => !(isEnd r && p (r.2.1, !decide (r.1 = 2)))) l)) := by
  show _ = _
  rw [← h.1, ← all_at, turned, List.not_all_eq_any_not]
  simp
 generalize turned p l = R at *
 go_enter Tryz.func110, Tryz.ntmps110
 go_wp2_with fail
 go_loopw [11] (fun i wr => ∃ k : Nat, k ≤ n ∧ i = .int .i64 (k : Int) ∧ Below w.heap.size w wr ∧ ∀ j, j < k → holdsAt (fun r => !(isEnd r && p (r.2.1, !decide (r.1 = 2)))) l j = true) (fun i _ => n - (intOf i).toNat)
 case atStart => exact ⟨0, Nat.zero_le _, rfl, Below.refl _ _, fun j hj => absurd hj (Nat.not_lt_zero _)⟩
 case round =>
  obtain ⟨k, hk, rfl, hb, hno⟩ := hrel
  have HNO := Hid.mk' hno
  clear hno
  by_cases hlt : k < n
  · have hki : (k : Int) < (n : Int) := by omega
    have hkl : k < l.length := by have := HLL.out; omega
    obtain ⟨rb, roff, hra⟩ := slr_some h (by omega)
    subst hra
    obtain ⟨c0, c1, pa, pl, pc, c2, _, _⟩ := rec_at (h.below hb) k hkl
    have htw : (Lit.int .i64 l[k].2.1).wf = true := (h.2.2.1 _ (List.getElem_mem hkl)).2.1
    have HV : Hid (holdsAt (fun r => !(isEnd r && p (r.2.1, !decide (r.1 = 2)))) l k = !((decide (l[k].1 = 2) || decide (l[k].1 = 3)) && p (l[k].2.1, !decide (l[k].1 = 2)))) := holdsAt_at hkl
    have HP : Hid ((holdsAt (fun r => !(isEnd r && p (r.2.1, !decide (r.1 = 2)))) l k = false → R = true) ∧ (holdsAt (fun r => !(isEnd r && p (r.2.1, !decide (r.1 = 2)))) l k = true → ∀ j, j < k + 1 → holdsAt (fun r => !(isEnd r && p (r.2.1, !decide (r.1 = 2)))) l j = true)) := ⟨fun e => by rw [HR.out, range_miss hlt e]; rfl, upto_next HNO.out⟩
    generalize holdsAt (fun r => !(isEnd r && p (r.2.1, !decide (r.1 = 2)))) l k = hv at *
    generalize l[k] = r at *
    obtain ⟨rk, rt, ro⟩ := r
    simp only [] at c0 c1 c2 htw HV
    obtain ⟨u1, hu1⟩ : ∃ u1, wr.alloc (.cells #[.int .i64 rk, .int .i64 rt, .slice pa pl pc] 133) = u1 := ⟨_, rfl⟩
    have hbu : Below wr.heap.size wr u1 := by rw [← hu1]; exact below_make
    have hX := boxIn_new wr [.int .i64 rk, .int .i64 rt, .slice pa pl pc] 133
    rw [hu1] at hX
    obtain ⟨x0, x1, x2⟩ := cells3 hX
    rw [← hu1] at x0 x1 x2
    have HU := Hid.mk' hu1
    have hbw := hb.trans (hbu.mono hb.size)
    have HE := Hid.mk' (i_endOf rk rt pa pl pc u1)
    have HH := Hid.mk' (fun wx (hx : Below w.heap.size w wx) => i_hasP B m p rt (!decide (rk = 2)) wx (hM.below hx) htw)
    generalize decide (rk = 2) = y2 at *
    generalize (y2 || decide (rk = 3)) = ie at *
    generalize p (rt, !y2) = pv at *
    clear hu1
    go_wp2_with fail
    rw [HU.out]
    refine HE.out.mono ?_
    rintro e u2 ⟨rfl, hb2⟩
    obtain ⟨u3, hu3⟩ : ∃ u3, u2.alloc (.cells #[.int .i64 rt, .bool y2] 94) = u3 := ⟨_, rfl⟩
    have hbu3 : Below u2.heap.size u2 u3 := by rw [← hu3]; exact below_make
    have hY := boxIn_new u2 [.int .i64 rt, .bool y2] 94
    rw [hu3] at hY
    obtain ⟨y0, y1⟩ := cells2 hY
    rw [← hu3] at y0 y1
    have HU3 := Hid.mk' hu3
    have hbw2 := hbw.trans (hb2.mono hbw.size)
    have hbw3 := hbw2.trans (hbu3.mono hbw2.size)
    clear hu3 HE HU c0 c1 c2 x0 x1 x2
    cases ie
    · have HF := Hid.mk' (HP.out.2 (by rw [HV.out]; rfl))
      clear HP HV HH
      go_wp2_with fail
      rw [HU3.out]
      go_roundw
      case rel => exact ⟨k + 1, by omega, by go_num, hbw3, HF.out⟩
      case measure => simp [intOf]; omega
    · have HH3 := Hid.mk' (HH.out u3 hbw3)
      clear HH
      cases pv
      · have HF := Hid.mk' (HP.out.2 (by rw [HV.out]; rfl))
        clear HP HV
        cases y2
        all_goals
         go_wp2_with fail
         rw [HU3.out]
         refine HH3.out.mono ?_
         rintro e w9 ⟨rfl, hb9⟩
         clear HH3 HU3 y0 y1
         go_wp2_with fail
         go_roundw
         case rel => exact ⟨k + 1, by omega, by go_num, hbw3.trans (hb9.mono hbw3.size), HF.out⟩
         case measure => simp [intOf]; omega
      · have HF := Hid.mk' (HP.out.1 (by rw [HV.out]; rfl))
        clear HP HV
        cases y2
        all_goals
         go_wp2_with fail
         rw [HU3.out]
         refine HH3.out.mono ?_
         rintro e w9 ⟨rfl, hb9⟩
         clear HH3 HU3 y0 y1
         go_wp2_with fail
         go_ret
         exact ⟨by rw [HF.out]; rfl, hbw3.trans (hb9.mono hbw3.size)⟩
  · have hki : ¬ (k : Int) < (n : Int) := by omega
    have HF : Hid (R = false) := by show _ = _; rw [HR.out, range_every (fun j hj => HNO.out j (by omega))]; rfl
    go_wp2_with fail
    go_ret
    exact ⟨by rw [HF.out]; rfl, hb⟩
end wos
namespace wos
open Go Go.RowKit base pairs ords lay
theorem ends_take {l : List recs.Rc} {k : Nat} (hk : k < l.length) (c : cos.Ch) : endsIn (l.take (k + 1)) c = (endsIn (l.take k) c || (isEnd l[k] && decide (endC l[k] = c))) := by
 unfold endsIn
 rw [List.take_succ_eq_append_getElem hk, List.any_append]
 simp
theorem ahead_succ {l : List recs.Shd} {k : Nat} (hk : k < l.length) (c : cos.Ch) : ahead l (k + 1) c = (ahead l k c || endsIn l[k].2.1 c) := by
 unfold ahead
 rw [List.take_succ_eq_append_getElem hk, List.any_append]
 simp
set_option maxRecDepth 100000 in
set_option maxHeartbeats 4000000 in
theorem i_addEnds (W : World) (B m : Nat) (p : cos.Ch → Bool) (a : Option Addr) (n cap : Nat) (l : List recs.Rc) (z : Int) (w : World) (hW : Below W.heap.size W w) (hB : W.heap.size ≤ B) (hM : MadeP w B m p) (h : recs.SlR W a n l) (hz : (Lit.int .i64 z).wf = true) (hbd : m + n ≤ 1125899906842624) :
 Calls Tryz.prog 111 #[.map (some B), .slice a n cap, .int .i64 z] w fun e w' => e = .returned (.tuple #[]) ∧ (∃ n', n' ≤ m + n ∧ MadeP w' B n' (fun c => p c || endsIn l c)) ∧ Below W.heap.size W w' := by
 have hm := h.2.1
 unfold maxLen at hm
 have HLL := Hid.mk' h.1
 go_enter Tryz.func111, Tryz.ntmps111
 go_wp2_with fail
 go_loopw [12] (fun i wr => ∃ k n' : Nat, k ≤ n ∧ n' ≤ m + k ∧ i = .int .i64 (k : Int) ∧ Below W.heap.size W wr ∧ MadeP wr B n' (fun c => p c || endsIn (l.take k) c)) (fun i _ => n - (intOf i).toNat)
 case atStart => exact ⟨0, m, Nat.zero_le _, Nat.le_refl _, rfl, hW, hM.congr (fun c => by simp [endsIn])⟩
 case round =>
  clear hW hM
  obtain ⟨k, n', hk, hn', rfl, hb, hM⟩ := hrel
  by_cases hlt : k < n
  · have hki : (k : Int) < (n : Int) := by omega
    have hkl : k < l.length := by have := HLL.out; omega
    obtain ⟨rb, roff, hra⟩ := slr_some h (by omega)
    subst hra
    obtain ⟨c0, c1, pa, pl, pc, c2, _, _⟩ := rec_at (h.below hb) k hkl
    have htw : (Lit.int .i64 l[k].2.1).wf = true := (h.2.2.1 _ (List.getElem_mem hkl)).2.1
    have HT : Hid (∀ c, endsIn (l.take (k + 1)) c = (endsIn (l.take k) c || ((decide (l[k].1 = 2) || decide (l[k].1 = 3)) && decide ((l[k].2.1, decide (l[k].1 = 2)) = c)))) := fun c => ends_take hkl c
    generalize l[k] = r at *
    obtain ⟨rk, rt, ro⟩ := r
    simp only [] at c0 c1 c2 htw HT
    obtain ⟨u1, hu1⟩ : ∃ u1, wr.alloc (.cells #[.int .i64 rk, .int .i64 rt, .slice pa pl pc] 133) = u1 := ⟨_, rfl⟩
    have hbu : Below wr.heap.size wr u1 := by rw [← hu1]; exact below_make
    have hX := boxIn_new wr [.int .i64 rk, .int .i64 rt, .slice pa pl pc] 133
    rw [hu1] at hX
    obtain ⟨x0, x1, x2⟩ := cells3 hX
    rw [← hu1] at x0 x1 x2
    have HU := Hid.mk' hu1
    have hbw := hb.trans (hbu.mono hb.size)
    have HE := Hid.mk' (i_endOf rk rt pa pl pc u1)
    generalize decide (rk = 2) = y2 at *
    generalize (y2 || decide (rk = 3)) = ie at *
    clear hu1
    go_wp2_with fail
    rw [HU.out]
    refine HE.out.mono ?_
    rintro e u2 ⟨rfl, hb2⟩
    obtain ⟨u3, hu3⟩ : ∃ u3, u2.alloc (.cells #[.int .i64 rt, .bool y2] 94) = u3 := ⟨_, rfl⟩
    have hbu3 : Below u2.heap.size u2 u3 := by rw [← hu3]; exact below_make
    have hY := boxIn_new u2 [.int .i64 rt, .bool y2] 94
    rw [hu3] at hY
    have HU3 := Hid.mk' hu3
    have hbw2 := hbw.trans (hb2.mono hbw.size)
    have hbw3 := hbw2.trans (hbu3.mono hbw2.size)
    have hM3 := ((hM.below hbu).below hb2).below hbu3
    clear hu3 HE HU c0 c1 c2 x0 x1 x2 hM
    cases ie
    · have hMF := hM3.congr (q := fun c => p c || endsIn (l.take (k + 1)) c) (fun c => by rw [HT.out c]; simp)
      clear HT hM3
      go_wp2_with fail
      rw [HU3.out]
      go_roundw
      case rel => exact ⟨k + 1, n', by omega, by omega, by go_num, hbw3, hMF⟩
      case measure => simp [intOf]; omega
    · obtain ⟨D, hown, h3⟩ := hM3
      have H3 := Hid.mk' h3
      have hkey := cos.keyOf_ch (y := y2) htw
      obtain ⟨y0, y1⟩ := cells2 hY
      have HO := Hid.mk' hown
      have hown0 := hown
      rw [← HU3.out] at y0 y1 hown0
      clear h3 hown
      go_wp2_with (at_mapUpdate; refine wpList_mapUpdate_own _ rfl _ _ _ 119 rfl 94 3 cos.keyCh Tryz.underlying119 _ B n' D rfl hown0 (by unfold maxLen; omega) _ _ _ rfl rfl hkey _ [] (plainElem_int Tryz.underlying3 hz) ?_)
      intro w5 hown5 hgrow5
      rw [HU3.out] at hgrow5
      have hM5 : MadeP w5 B (n' + 1) (fun c => p c || endsIn (l.take (k + 1)) c) := (MadeP.put (c := (rt, y2)) HO.out.isMap H3.out htw hown5).congr (fun c => by
       rw [HT.out c, Bool.true_and]
       by_cases e : c = (rt, y2)
       · subst e; simp
       · have e2 : ¬ (rt, y2) = c := fun h => e h.symm
         simp [e, e2])
      have hB5 := hbw3.grown hgrow5 hbw3.size (fun j hj => by cases hj; exact hB)
      clear hown5 hgrow5 hown0 y0 y1 HT
      go_wp2_with fail
      go_roundw
      case rel => exact ⟨k + 1, n' + 1, by omega, by omega, by go_num, hB5, hM5⟩
      case measure => simp [intOf]; omega
  · have hki : ¬ (k : Int) < (n : Int) := by omega
    have hMF := hM.congr (q := fun c => p c || endsIn l c) (fun c => by rw [List.take_of_length_le (by have := HLL.out; omega)])
    have HP : Hid ((∃ n', n' ≤ m + n ∧ MadeP wr B n' (fun c => p c || endsIn l c)) ∧ Below W.heap.size W wr) := ⟨⟨n', by omega, hMF⟩, hb⟩
    clear hM hMF
    go_wp2_with fail
    first | (refine bodyPost_end (v := .tuple #[]) ?_ rfl ⟨rfl, HP.out⟩) | (refine bodyPost_ret (v := .tuple #[]) ?_ rfl ⟨rfl, HP.out⟩)
    simp [results, Tryz.results111, go_sem]
set_option maxRecDepth 100000 in
set_option maxHeartbeats 2000000 in
theorem impl_noSplit (ja : Option Addr) (jn jc : Nat) (la : Option Addr) (ln lc : Nat) (sa : Option Addr) (sn sc : Nat) (na : Option Addr) (nn nc : Nat) (oa : Option Addr) (on oc : Nat) (ba : Option Addr) (bn bc : Nat) (x : Wo) (w : World) (h : SeeWo w ja jn jc la ln lc sa sn sc na nn nc oa on oc ba bn bc x) (hsn : sn ≤ 1048576) (hf : ∀ s ∈ x.2.1, s.2.1.length ≤ 1048576) :
 Calls Tryz.prog 74 #[.agg #[.int .i64 x.1.1, .int .i64 x.1.2.1, .int .i64 x.1.2.2.1, .slice ja jn jc, .slice la ln lc, .int .i64 x.1.2.2.2.2.2, .slice sa sn sc, .slice na nn nc, .slice oa on oc, .slice ba bn bc]] w fun e w' => e = .returned (.bool (nospI x.2.1)) ∧ Below w.heap.size w w' := by
 obtain ⟨W, hW⟩ : ∃ W, w.alloc (.cells #[.int .i64 x.1.1, .int .i64 x.1.2.1, .int .i64 x.1.2.2.1, .slice ja jn jc, .slice la ln lc, .int .i64 x.1.2.2.2.2.2, .slice sa sn sc, .slice na nn nc, .slice oa on oc, .slice ba bn bc] 41) = W := ⟨_, rfl⟩
 have hB : Below w.heap.size w W := by rw [← hW]; exact below_make
 have hX : BoxIn w.heap.size 41 [] [.int .i64 x.1.1, .int .i64 x.1.2.1, .int .i64 x.1.2.2.1, .slice ja jn jc, .slice la ln lc, .int .i64 x.1.2.2.2.2.2, .slice sa sn sc, .slice na nn nc, .slice oa on oc, .slice ba bn bc] [] W := by rw [← hW]; exact boxIn_new w _ _
 have hS := h.sh.below hB
 have HSL := Hid.mk' h.sh.1
 have HFW := Hid.mk' hf
 have HR : Hid (nospI x.2.1 = (List.range sn).all (nospA x.2.1)) := by show _ = _; unfold nospI; rw [h.sh.1]
 generalize nospI x.2.1 = R at *
 have hmm : ∀ wx : World, (Instr.makeMap 119 none).run Tryz.prog wx = .ok (.map (some wx.heap.size)) (wx.alloc (.map #[] 0)) := fun wx => by kernel_rfl
 have HW := Hid.mk' hW
 have hWs : W.heap.size = w.heap.size + 1 := by rw [← hW]; simp
 have HWS := Hid.mk' hWs
 clear hW h hf hWs
 go_enter Tryz.func74, Tryz.ntmps74
 go_wp2_with (at_builtin; fail)
 rw [HW.out]
 clear HW
 obtain ⟨V, hV⟩ : ∃ V, W.alloc (.map #[] 0) = V := ⟨_, rfl⟩
 have hbV : Below W.heap.size W V := by rw [← hV]; exact below_make
 have hM0 := madeP_new W
 rw [hV] at hM0 ⊢
 rw [HWS.out] at hM0
 obtain ⟨a0, a1, a2, a3, a4, a5, a6, a7, a8, a9⟩ := cells10 (hX.below hbV)
 clear a0 a1 a2 a3 a4 a5 a7 a8 a9 hmm hV
 go_wp2_with fail
 clear a6
 go_loopw [10] (fun i wr => ∃ k n' : Nat, k ≤ sn ∧ n' ≤ k * 1048576 ∧ i = .int .i64 (k : Int) ∧ Below W.heap.size W wr ∧ MadeP wr (w.heap.size + 1) n' (ahead x.2.1 k) ∧ ∀ j, j < k → nospA x.2.1 j = true) (fun i _ => sn - (intOf i).toNat)
 case atStart => exact ⟨0, 0, Nat.zero_le _, Nat.zero_le _, rfl, hbV, hM0.congr (fun c => by simp [ahead]), fun j hj => absurd hj (Nat.not_lt_zero _)⟩
 case round =>
  clear hbV hM0
  obtain ⟨k, n', hk, hn', rfl, hb, hM, hno⟩ := hrel
  have HNO := Hid.mk' hno
  have hBw := hB.trans (hb.mono hB.size)
  clear hno
  by_cases hlt : k < sn
  · have hki : (k : Int) < (sn : Int) := by omega
    have hkl : k < x.2.1.length := by have := HSL.out; omega
    obtain ⟨b, off, hsa⟩ := cos.slg_some hS (by omega)
    subst hsa
    obtain ⟨rla, rln, rlc, rma, rmn, rmc, rha, rhn, rhc, q0, q1, q2, q3, q4, hsee0⟩ := shard_at hS k hkl
    have s0 := (hb.cell (p := ⟨b, off + k * 5, none⟩) (World.block_lt_of_cell? _ _ q0)).trans q0
    have s1 := (hb.cell (p := ⟨b, off + k * 5 + 1, none⟩) (World.block_lt_of_cell? _ _ q1)).trans q1
    have s2 := (hb.cell (p := ⟨b, off + k * 5 + 2, none⟩) (World.block_lt_of_cell? _ _ q2)).trans q2
    have s3 := (hb.cell (p := ⟨b, off + k * 5 + 3, none⟩) (World.block_lt_of_cell? _ _ q3)).trans q3
    have s4 := (hb.cell (p := ⟨b, off + k * 5 + 4, none⟩) (World.block_lt_of_cell? _ _ q4)).trans q4
    have HV : Hid (nospA x.2.1 k = !turned (ahead x.2.1 k) x.2.1[k].2.1) := nospA_at hkl
    have HP : Hid ((nospA x.2.1 k = false → R = false) ∧ (nospA x.2.1 k = true → ∀ j, j < k + 1 → nospA x.2.1 j = true)) := ⟨fun e => by rw [HR.out, range_miss hlt e], upto_next HNO.out⟩
    have HAS := Hid.mk' (fun c => ahead_succ hkl c)
    have hln := HFW.out _ (List.getElem_mem hkl)
    have hlog := hsee0.log
    have hll := hlog.1
    have hrl : rln ≤ 1048576 := by omega
    have hzw : (Lit.int .i64 (k : Int)).wf = true := WalkArith.wf_i64 (by omega)
    generalize nospA x.2.1 k = hv at *
    generalize x.2.1[k] = s at *
    obtain ⟨u1, hu1⟩ : ∃ u1, wr.alloc (.cells #[.int .i64 s.1, .slice rla rln rlc, .int .i64 s.2.2.1, .slice rma rmn rmc, .slice rha rhn rhc] 55) = u1 := ⟨_, rfl⟩
    have hbu : Below wr.heap.size wr u1 := by rw [← hu1]; exact below_make
    have hC := boxIn_new wr [.int .i64 s.1, .slice rla rln rlc, .int .i64 s.2.2.1, .slice rma rmn rmc, .slice rha rhn rhc] 55
    rw [hu1] at hC
    have y1 := hC.cell 1 _ rfl
    simp only [List.length_nil, Nat.zero_add] at y1
    rw [← hu1] at y1
    have HU := Hid.mk' hu1
    have hbw := hb.trans (hbu.mono hb.size)
    have hMu := hM.below hbu
    have HTB := Hid.mk' (i_turnedBy (w.heap.size + 1) n' (ahead x.2.1 k) rla rln rlc s.2.1 u1 hMu (hlog.below hbw))
    generalize turned (ahead x.2.1 k) s.2.1 = tv at *
    clear hu1 hM q0 q1 q2 q3 q4 hsee0 hll hln
    cases tv
    · have HF := Hid.mk' (HP.out.2 HV.out)
      clear HP HV
      go_wp2_with fail
      rw [HU.out]
      refine HTB.out.mono ?_
      rintro e u2 ⟨rfl, hb2⟩
      have hbw2 := hbw.trans (hb2.mono hbw.size)
      have y1b := (hC.below hb2).cell 1 _ rfl
      simp only [List.length_nil, Nat.zero_add] at y1b
      have HAE := Hid.mk' (i_addEnds W (w.heap.size + 1) n' (ahead x.2.1 k) rla rln rlc s.2.1 (k : Int) u2 hbw2 (by rw [HWS.out]; exact Nat.le_refl _) (hMu.below hb2) hlog hzw (by have : k * 1048576 ≤ 1048576 * 1048576 := Nat.mul_le_mul_right _ (by omega); omega))
      clear HTB HU y1 s0 s1 s2 s3 s4 hMu
      go_wp2_with fail
      refine HAE.out.mono ?_
      rintro e u3 ⟨rfl, ⟨n3, hn3, hM3⟩, hbw3⟩
      have hMF := hM3.congr (q := ahead x.2.1 (k + 1)) (fun c => (HAS.out c).symm)
      clear HAE hM3 y1b
      go_wp2_with fail
      go_roundw
      case rel => exact ⟨k + 1, n3, by omega, by omega, by go_num, hbw3, hMF, HF.out⟩
      case measure => simp [intOf]; omega
    · have HF := Hid.mk' (HP.out.1 HV.out)
      clear HP HV
      go_wp2_with fail
      rw [HU.out]
      refine HTB.out.mono ?_
      rintro e u2 ⟨rfl, hb2⟩
      have hbw2 := hbw.trans (hb2.mono hbw.size)
      clear HTB HU y1 s0 s1 s2 s3 s4
      go_wp2_with fail
      go_ret
      exact ⟨by rw [HF.out]; rfl, hB.trans (hbw2.mono hB.size)⟩
  · have hki : ¬ (k : Int) < (sn : Int) := by omega
    have HF : Hid (R = true) := by show _ = _; rw [HR.out, range_every (fun j hj => HNO.out j (by omega))]
    go_wp2_with fail
    go_ret
    exact ⟨by rw [HF.out]; rfl, hBw⟩
end wos
end Go.Proofs.YtijplooogplccaaGreat
