/- CoZ LayB0 Gen GenRow GenAt CoOwn WdMath WdLay PadMath ShaMath -/
import Derived.Test.YtijplooogplccaaGreatShah
import Derived.Test.YtijplooogplccaaGreatShaa
import Derived.Test.YtijplooogplccaaGreatShag
import Derived.Test.YtijplooogplccaaGreatShac
set_option linter.unusedVariables false
set_option linter.unusedSimpArgs false
namespace Go.Proofs.YtijplooogplccaaGreat
namespace cos
open Go Go.RowKit base pairs ords lay wds
def jsz (j : Jb) : Nat := j.2.1.length + sumO j.2.1 + j.2.2.2.length
def sumJ (l : List Jb) : Nat := (l.map jsz).sum
theorem sumJ_take (l : List Jb) (k : Nat) (h : k < l.length) : sumJ (l.take (k + 1)) = sumJ (l.take k) + jsz l[k] := by
 unfold sumJ
 rw [List.take_succ_eq_append_getElem h, List.map_append, List.sum_append]; simp
theorem sumJ_le (l : List Jb) (k : Nat) : sumJ (l.take k) ≤ sumJ l := by
 conv => rhs; rw [← List.take_append_drop k l]
 unfold sumJ
 rw [List.map_append, List.sum_append]; omega
theorem sumJ_mem {l : List Jb} {j : Jb} (h : j ∈ l) : jsz j ≤ sumJ l := by
 obtain ⟨i, hi, rfl⟩ := List.getElem_of_mem h
 have h1 := sumJ_take l i hi
 have h2 := sumJ_le l (i + 1)
 omega
theorem szIntS (a : Option Addr) (len cap : Nat) (L : Nat) (w : World) (hm : len ≤ 9223372036854775807) (hL : L ≤ 1099511627776) :
 Calls Tryz.prog 117 #[.slice a len cap, .int .i64 (L : Int)] w fun e w' => e = .returned (.int .i64 (pairs.szR L len)) ∧ w' = w := by
 by_cases h : len ≤ L
 · have h1 : ¬ (L : Int) - (len : Int) < 0 := by omega
   rw [pairs.szR_pos h]
   go_enter Tryz.func117, Tryz.ntmps117
   go_wp2
   go_ret
   exact ⟨rfl, rfl⟩
 · have h1 : (L : Int) - (len : Int) < 0 := by omega
   rw [pairs.szR_neg (by omega)]
   go_enter Tryz.func117, Tryz.ntmps117
   go_wp2
   go_ret
   exact ⟨rfl, rfl⟩
theorem szChoiceS (a : Option Addr) (len cap : Nat) (L : Nat) (w : World) (hm : len ≤ 9223372036854775807) (hL : L ≤ 1099511627776) :
 Calls Tryz.prog 39 #[.slice a len cap, .int .i64 (L : Int)] w fun e w' => e = .returned (.int .i64 (pairs.szR L len)) ∧ w' = w := by
 by_cases h : len ≤ L
 · have h1 : ¬ (L : Int) - (len : Int) < 0 := by omega
   rw [pairs.szR_pos h]
   go_enter Tryz.func39, Tryz.ntmps39
   go_wp2
   go_ret
   exact ⟨rfl, rfl⟩
 · have h1 : (L : Int) - (len : Int) < 0 := by omega
   rw [pairs.szR_neg (by omega)]
   go_enter Tryz.func39, Tryz.ntmps39
   go_wp2
   go_ret
   exact ⟨rfl, rfl⟩
set_option maxRecDepth 100000 in
set_option maxHeartbeats 1000000 in
theorem szJob (tx st : Int) (oa : Option Addr) (ol oc : Nat) (ya : Option Addr) (yl yc : Nat) (ops : List Od) (yes : List Int) (L : Nat) (w : World) (h1 : SlO w oa ol ops) (h2 : SlZ w ya yl yes) (hL : L ≤ 1099511627776) :
 Calls Tryz.prog 78 #[.agg #[.int .i64 tx, .slice oa ol oc, .int .i64 st, .slice ya yl yc], .int .i64 (L : Int)] w fun e w' => e = .returned (.int .i64 (pairs.szR L (ops.length + sumO ops + yes.length))) ∧ Below w.heap.size w w' := by
 obtain ⟨W, hW⟩ : ∃ W, w.alloc (.cells #[.int .i64 tx, .slice oa ol oc, .int .i64 st, .slice ya yl yc] 139) = W := ⟨_, rfl⟩
 have hB : Below w.heap.size w W := by rw [← hW]; exact below_new _ _
 have hbx : W.heap[w.heap.size]? = some (.cells #[.int .i64 tx, .slice oa ol oc, .int .i64 st, .slice ya yl yc] 139 (0, 0)) := by rw [← hW]; exact heap_alloc_new w _
 have HW := Hid.mk' hW
 have hs := szOpS oa ol oc ops L W (h1.below hB) hL
 have hyl := h2.1
 have hym := h2.2.1
 unfold maxLen at hym
 clear hW h1 h2
 by_cases hc : ops.length + sumO ops ≤ L
 · rw [pairs.szR_pos hc] at hs
   obtain ⟨m, hm⟩ : ∃ m : Nat, (L : Int) - ((ops.length + sumO ops : Nat) : Int) = (m : Int) := ⟨L - (ops.length + sumO ops), by omega⟩
   rw [hm] at hs
   have HS := Hid.mk' hs
   have hmn : ¬ (m : Int) < 0 := by omega
   have HI := Hid.mk' (fun wx => szIntS ya yl yc m wx (by omega) (by omega))
   by_cases hc2 : yl ≤ m
   · rw [pairs.szR_pos hc2] at HI
     have HR : Hid (pairs.szR L (ops.length + sumO ops + yes.length) = (m : Int) - (yl : Int)) := by show _ = _; rw [pairs.szR_pos (by omega)]; omega
     have h3 : ¬ (m : Int) - (yl : Int) < 0 := by omega
     clear hs hc hc2 hm
     generalize (m : Int) - (yl : Int) = Z at *
     go_enter Tryz.func78, Tryz.ntmps78
     go_wp2_with fail
     rw [HW.out]
     refine HS.out.mono ?_
     rintro e w1 ⟨rfl, hb1⟩
     have hB1 := hB.trans (hb1.mono hB.size)
     have hbx1 := (hb1.block _ (Array.getElem?_eq_some_iff.1 hbx).1).trans hbx
     have c3 : w1.cell? ⟨w.heap.size, 3, none⟩ = some (.slice ya yl yc) := cell_cur hbx1 3 _ rfl
     go_wp2_with fail
     refine (HI.out _).mono ?_
     rintro e w2 ⟨rfl, hw2⟩
     replace hw2 := hw2.symm
     subst hw2
     go_wp2_with fail
     go_ret
     exact ⟨ret_int HR.out.symm, hB1⟩
   · rw [pairs.szR_neg (by omega)] at HI
     have HR : Hid (pairs.szR L (ops.length + sumO ops + yes.length) = -1) := by show _ = _; rw [pairs.szR_neg (by omega)]
     clear hs hc hc2 hm
     go_enter Tryz.func78, Tryz.ntmps78
     go_wp2_with fail
     rw [HW.out]
     refine HS.out.mono ?_
     rintro e w1 ⟨rfl, hb1⟩
     have hB1 := hB.trans (hb1.mono hB.size)
     have hbx1 := (hb1.block _ (Array.getElem?_eq_some_iff.1 hbx).1).trans hbx
     have c3 : w1.cell? ⟨w.heap.size, 3, none⟩ = some (.slice ya yl yc) := cell_cur hbx1 3 _ rfl
     go_wp2_with fail
     refine (HI.out _).mono ?_
     rintro e w2 ⟨rfl, hw2⟩
     replace hw2 := hw2.symm
     subst hw2
     go_wp2_with fail
     go_ret
     exact ⟨ret_int HR.out.symm, hB1⟩
 · rw [pairs.szR_neg (by omega)] at hs
   have HR : Hid (pairs.szR L (ops.length + sumO ops + yes.length) = -1) := by show _ = _; rw [pairs.szR_neg (by omega)]
   have HS := Hid.mk' hs
   clear hs hc
   go_enter Tryz.func78, Tryz.ntmps78
   go_wp2_with fail
   rw [HW.out]
   refine HS.out.mono ?_
   rintro e w1 ⟨rfl, hb1⟩
   have hB1 := hB.trans (hb1.mono hB.size)
   go_wp2_with fail
   go_ret
   exact ⟨ret_int HR.out.symm, hB1⟩
set_option maxRecDepth 100000 in
set_option maxHeartbeats 2000000 in
theorem szJobS (a : Option Addr) (len cap : Nat) (l : List Jb) (L : Nat) (w : World) (h : SlG jobR w a len l) (hL : L ≤ 1099511627776) :
 Calls Tryz.prog 38 #[.slice a len cap, .int .i64 (L : Int)] w fun e w' => e = .returned (.int .i64 (pairs.szR L (l.length + sumJ l))) ∧ Below w.heap.size w w' := by
 have hl := h.1
 have hm := h.2.1
 subst hl
 unfold maxLen at hm
 by_cases hneg : L < l.length
 · rw [pairs.szR_neg (by omega)]
   have h1 : (L : Int) - (l.length : Int) < 0 := by omega
   go_enter Tryz.func38, Tryz.ntmps38
   go_wp2
   go_ret
   exact ⟨rfl, Below.refl _ _⟩
 · have h1 : ¬ (L : Int) - (l.length : Int) < 0 := by omega
   go_enter Tryz.func38, Tryz.ntmps38
   go_wp2_with fail
   go_loopw [1, 5] (fun lv i wr => ∃ k m : Nat, k ≤ l.length ∧ i = .int .i64 (k : Int) ∧ lv = .int .i64 (m : Int) ∧ m + (l.length + sumJ (l.take k)) = L ∧ Below w.heap.size w wr) (fun _ i _ => l.length - (intOf i).toNat)
   case atStart => exact ⟨0, L - l.length, Nat.zero_le _, rfl, by go_num, by simp [sumJ]; omega, Below.refl _ _⟩
   case round =>
    obtain ⟨k, m, hk, rfl, rfl, hmL, hB⟩ := hrel
    by_cases hlt : k < l.length
    · obtain ⟨b, off, ha⟩ := slg_some h (by omega)
      subst ha
      obtain ⟨c0, c2, ⟨oa, ol, oc, c1, hSo, _⟩, ya, yl, yc, c3, hSy, _⟩ := job_at (h.below hB) k hlt
      have hst := sumJ_take l k hlt
      have hle := sumJ_le l (k + 1)
      have hi1 : (k : Int) < (l.length : Int) := by omega
      have hmB : m ≤ 1099511627776 := by omega
      have HML := Hid.mk' hmL
      have HST := Hid.mk' hst
      have HLE := Hid.mk' hle
      generalize l[k] = p at *
      clear hmL hst hle
      have hcall : Calls Tryz.prog 78 #[.agg #[.int .i64 p.1, .slice oa ol oc, .int .i64 p.2.2.1, .slice ya yl yc], .int .i64 (m : Int)] wr fun e w' => e = .returned (.int .i64 (pairs.szR m (jsz p))) ∧ Below wr.heap.size wr w' := szJob p.1 p.2.2.1 oa ol oc ya yl yc p.2.1 p.2.2.2 m wr hSo hSy hmB
      by_cases hover : m < jsz p
      · rw [pairs.szR_neg hover] at hcall
        have HC := Hid.mk' hcall
        clear hcall
        go_wp2_with fail
        refine HC.out.mono ?_
        rintro e w2 ⟨rfl, hB2⟩
        go_wp2_with fail
        go_ret
        have e1 := HML.out
        have e2 := HST.out
        have e3 := HLE.out
        rw [pairs.szR_neg (by omega)]
        exact ⟨rfl, hB.trans (hB2.mono hB.size)⟩
      · rw [pairs.szR_pos (by omega), show (m : Int) - (jsz p : Int) = ((m - jsz p : Nat) : Int) by omega] at hcall
        have HC := Hid.mk' hcall
        obtain ⟨m2, hm2⟩ : ∃ m2, m - jsz p = m2 := ⟨_, rfl⟩
        rw [hm2] at HC
        have HM2 := Hid.mk' hm2
        have hm2b : m2 ≤ 1099511627776 := by omega
        clear hcall hm2
        go_wp2_with fail
        refine HC.out.mono ?_
        rintro e w2 ⟨rfl, hB2⟩
        go_wp2_with fail
        go_roundw
        case rel => exact ⟨k + 1, m2, by omega, by go_num, rfl, by have e1 := HML.out; have e2 := HST.out; have e3 := HM2.out; omega, hB.trans (hB2.mono hB.size)⟩
        case measure => simp [intOf]; omega
    · have e : k = l.length := by omega
      subst e
      rw [List.take_length] at hmL
      go_wp2_with fail
      go_ret
      rw [pairs.szR_pos (by omega), show (L : Int) - ((l.length + sumJ l : Nat) : Int) = (m : Int) by omega]
      exact ⟨rfl, hB⟩
def csz (c : Co) : Nat := c.2.2.2.1.length + sumJ c.2.2.2.1 + c.2.2.2.2.1.length
set_option maxRecDepth 100000 in
set_option maxHeartbeats 1000000 in
theorem szCoord (ja : Option Addr) (jn jc : Nat) (la : Option Addr) (ln lc : Nat) (c : Co) (L : Nat) (w : World) (h : SeeCo w ja jn jc la ln lc c) (hL : L ≤ 1099511627776) :
 Calls Tryz.prog 12 #[coV c.1 c.2.1 c.2.2.1 c.2.2.2.2.2 ja jn jc la ln lc, .int .i64 (L : Int)] w fun e w' => e = .returned (.int .i64 (pairs.szR L (csz c))) ∧ Below w.heap.size w w' := by
 obtain ⟨W, hW⟩ : ∃ W, w.alloc (.cells #[.int .i64 c.1, .int .i64 c.2.1, .int .i64 c.2.2.1, .slice ja jn jc, .slice la ln lc, .int .i64 c.2.2.2.2.2] 25) = W := ⟨_, rfl⟩
 have hB : Below w.heap.size w W := by rw [← hW]; exact below_new _ _
 have hbx : W.heap[w.heap.size]? = some (.cells #[.int .i64 c.1, .int .i64 c.2.1, .int .i64 c.2.2.1, .slice ja jn jc, .slice la ln lc, .int .i64 c.2.2.2.2.2] 25 (0, 0)) := by rw [← hW]; exact heap_alloc_new w _
 have HW := Hid.mk' hW
 have hs := szJobS ja jn jc c.2.2.2.1 L W (h.jobs.below hB) hL
 have hll := h.log.1
 have hlm := h.log.2.1
 unfold maxLen at hlm
 have hcz : csz c = c.2.2.2.1.length + sumJ c.2.2.2.1 + ln := by unfold csz; rw [hll]
 clear hW h
 by_cases hc : c.2.2.2.1.length + sumJ c.2.2.2.1 ≤ L
 · rw [pairs.szR_pos hc] at hs
   obtain ⟨m, hm⟩ : ∃ m : Nat, (L : Int) - ((c.2.2.2.1.length + sumJ c.2.2.2.1 : Nat) : Int) = (m : Int) := ⟨L - (c.2.2.2.1.length + sumJ c.2.2.2.1), by omega⟩
   rw [hm] at hs
   have HS := Hid.mk' hs
   have hmn : ¬ (m : Int) < 0 := by omega
   have HI := Hid.mk' (fun wx => szChoiceS la ln lc m wx (by omega) (by omega))
   by_cases hc2 : ln ≤ m
   · rw [pairs.szR_pos hc2] at HI
     have HR : Hid (pairs.szR L (csz c) = (m : Int) - (ln : Int)) := by show _ = _; rw [hcz, pairs.szR_pos (by omega)]; omega
     have h3 : ¬ (m : Int) - (ln : Int) < 0 := by omega
     clear hs hc hc2 hm hcz
     generalize (m : Int) - (ln : Int) = Z at *
     go_enter Tryz.func12, Tryz.ntmps12
     go_wp2_with fail
     rw [HW.out]
     refine HS.out.mono ?_
     rintro e w1 ⟨rfl, hb1⟩
     have hB1 := hB.trans (hb1.mono hB.size)
     have hbx1 := (hb1.block _ (Array.getElem?_eq_some_iff.1 hbx).1).trans hbx
     have c3 : w1.cell? ⟨w.heap.size, 4, none⟩ = some (.slice la ln lc) := cell_cur hbx1 4 _ rfl
     go_wp2_with fail
     refine (HI.out _).mono ?_
     rintro e w2 ⟨rfl, hw2⟩
     replace hw2 := hw2.symm
     subst hw2
     go_wp2_with fail
     go_ret
     exact ⟨ret_int HR.out.symm, hB1⟩
   · rw [pairs.szR_neg (by omega)] at HI
     have HR : Hid (pairs.szR L (csz c) = -1) := by show _ = _; rw [hcz, pairs.szR_neg (by omega)]
     clear hs hc hc2 hm hcz
     go_enter Tryz.func12, Tryz.ntmps12
     go_wp2_with fail
     rw [HW.out]
     refine HS.out.mono ?_
     rintro e w1 ⟨rfl, hb1⟩
     have hB1 := hB.trans (hb1.mono hB.size)
     have hbx1 := (hb1.block _ (Array.getElem?_eq_some_iff.1 hbx).1).trans hbx
     have c3 : w1.cell? ⟨w.heap.size, 4, none⟩ = some (.slice la ln lc) := cell_cur hbx1 4 _ rfl
     go_wp2_with fail
     refine (HI.out _).mono ?_
     rintro e w2 ⟨rfl, hw2⟩
     replace hw2 := hw2.symm
     subst hw2
     go_wp2_with fail
     go_ret
     exact ⟨ret_int HR.out.symm, hB1⟩
 · rw [pairs.szR_neg (by omega)] at hs
   have HR : Hid (pairs.szR L (csz c) = -1) := by show _ = _; rw [hcz, pairs.szR_neg (by omega)]
   have HS := Hid.mk' hs
   clear hs hc hcz
   go_enter Tryz.func12, Tryz.ntmps12
   go_wp2_with fail
   rw [HW.out]
   refine HS.out.mono ?_
   rintro e w1 ⟨rfl, hb1⟩
   have hB1 := hB.trans (hb1.mono hB.size)
   go_wp2_with fail
   go_ret
   exact ⟨ret_int HR.out.symm, hB1⟩
end cos
namespace lay
open Go Go.RowKit base
def BoxIn (X : Nat) (T : TypeId) (pre vs post : List Value) (w : World) : Prop := w.heap[X]? = some (.cells (pre ++ vs ++ post).toArray T (0, 0))
section
variable {X : Nat} {T : TypeId} {pre vs post : List Value} {w w' : World} {G F : List Nat}
theorem BoxIn.lt (h : BoxIn X T pre vs post w) : X < w.heap.size := (Array.getElem?_eq_some_iff.1 h).1
theorem BoxIn.keep (h : BoxIn X T pre vs post w) (hk : w'.heap[X]? = w.heap[X]?) : BoxIn X T pre vs post w' := hk.trans h
theorem BoxIn.below (h : BoxIn X T pre vs post w) (hb : Below w.heap.size w w') : BoxIn X T pre vs post w' := h.keep (hb.block X h.lt)
theorem BoxIn.frame (h : BoxIn X T pre vs post w) (hf : Frame G w w') (hn : X ∉ G) : BoxIn X T pre vs post w' := h.keep (hf.block X h.lt hn)
theorem BoxIn.grown {row : Option Nat} (h : BoxIn X T pre vs post w) (hg : w.grownBy w' row) (hn : some X ≠ row) : BoxIn X T pre vs post w' := h.keep (hg.block X h.lt hn)
theorem BoxIn.cell (h : BoxIn X T pre vs post w) (j : Nat) (u : Value) (hj : vs[j]? = some u) : w.cell? ⟨X, pre.length + j, none⟩ = some u := by
 unfold BoxIn at h
 have hl := (List.getElem?_eq_some_iff.1 hj).1
 simp only [World.cell?, h]
 have hu := (List.getElem?_eq_some_iff.1 hj).2
 simp [List.getElem?_append, hl, hu]
theorem BoxIn.fz (h : BoxIn X T pre vs post w) (j : Nat) : w.frozen? ⟨X, j, none⟩ = false := by unfold BoxIn at h; simp [World.frozen?, h]
theorem BoxIn.set (h : BoxIn X T pre vs post w) (j : Nat) (hj : j < vs.length) (u : Value) : BoxIn X T pre (vs.set j u) post (w.setCell ⟨X, pre.length + j, none⟩ u) ∧ w.grownBy (w.setCell ⟨X, pre.length + j, none⟩ u) (some X) := by
 have h1 := set_cur h (pre.length + j) u
 refine ⟨?_, h1.2⟩
 unfold BoxIn
 rw [h1.1]
 congr 2
 rw [List.setIfInBounds_toArray]
 congr 1
 rw [List.append_assoc, List.set_append_right _ _ (by omega), Nat.add_sub_cancel_left, List.set_append_left _ _ hj, List.append_assoc]
theorem boxIn_new (w : World) (vs : List Value) (T : TypeId) : BoxIn w.heap.size T [] vs [] (w.alloc (.cells vs.toArray T)) := by
 unfold BoxIn
 rw [List.nil_append, List.append_nil]
 exact heap_alloc_new w _
end
end lay
namespace lay
open Go Go.RowKit base
theorem below_make {w : World} {o : Obj} : Below w.heap.size w (w.alloc o) := (Below.refl _ _).alloc (Nat.le_refl _) _
structure InR {α : Type} (R : Rd α) (T : TypeId) (w : World) (X : Nat) (vs : List Value) (x : α) (F : List Nat) : Prop where
 box : BoxIn X T [] vs [] w
 own : R.own w vs x F
 out : X ∉ F
def RetR {α : Type} (R : Rd α) (w : World) (x : α) (e : Ending) (w' : World) : Prop := ∃ vs F, e = .returned (.agg vs.toArray) ∧ R.own w' vs x F ∧ (∀ k ∈ F, w.heap.size ≤ k) ∧ Below w.heap.size w w'
section
variable {α : Type} {R : Rd α} {T : TypeId} {w w' : World} {X : Nat} {vs : List Value} {x : α} {F G : List Nat}
theorem inR_new (h : R.own w vs x F) : InR R T (w.alloc (.cells vs.toArray T)) w.heap.size vs x F :=
 ⟨boxIn_new w _ _, R.ownBelow h below_make, fun e => by have := R.ownLt h _ e; omega⟩
theorem InR.below (h : InR R T w X vs x F) (hb : Below w.heap.size w w') : InR R T w' X vs x F := ⟨h.box.below hb, R.ownBelow h.own hb, h.out⟩
theorem InR.see (h : InR R T w X vs x F) : R.see w vs x := R.ownSee h.own
theorem InR.lt (h : InR R T w X vs x F) : X < w.heap.size := h.box.lt
end
theorem cells2 {X : Nat} {T : TypeId} {w : World} {v0 v1 : Value} (h : BoxIn X T [] [v0, v1] [] w) : w.cell? ⟨X, 0, none⟩ = some v0 ∧ w.cell? ⟨X, 1, none⟩ = some v1 := by
 have a0 := h.cell 0 _ rfl
 have a1 := h.cell 1 _ rfl
 simp only [List.length_nil, Nat.zero_add] at a0 a1
 exact ⟨a0, a1⟩
theorem cells3 {X : Nat} {T : TypeId} {w : World} {v0 v1 v2 : Value} (h : BoxIn X T [] [v0, v1, v2] [] w) : w.cell? ⟨X, 0, none⟩ = some v0 ∧ w.cell? ⟨X, 1, none⟩ = some v1 ∧ w.cell? ⟨X, 2, none⟩ = some v2 := by
 have a0 := h.cell 0 _ rfl
 have a1 := h.cell 1 _ rfl
 have a2 := h.cell 2 _ rfl
 simp only [List.length_nil, Nat.zero_add] at a0 a1 a2
 exact ⟨a0, a1, a2⟩
theorem cells4 {X : Nat} {T : TypeId} {w : World} {v0 v1 v2 v3 : Value} (h : BoxIn X T [] [v0, v1, v2, v3] [] w) : w.cell? ⟨X, 0, none⟩ = some v0 ∧ w.cell? ⟨X, 1, none⟩ = some v1 ∧ w.cell? ⟨X, 2, none⟩ = some v2 ∧ w.cell? ⟨X, 3, none⟩ = some v3 := by
 have a0 := h.cell 0 _ rfl
 have a1 := h.cell 1 _ rfl
 have a2 := h.cell 2 _ rfl
 have a3 := h.cell 3 _ rfl
 simp only [List.length_nil, Nat.zero_add] at a0 a1 a2 a3
 exact ⟨a0, a1, a2, a3⟩
theorem cells6 {X : Nat} {T : TypeId} {w : World} {v0 v1 v2 v3 v4 v5 : Value} (h : BoxIn X T [] [v0, v1, v2, v3, v4, v5] [] w) : w.cell? ⟨X, 0, none⟩ = some v0 ∧ w.cell? ⟨X, 1, none⟩ = some v1 ∧ w.cell? ⟨X, 2, none⟩ = some v2 ∧ w.cell? ⟨X, 3, none⟩ = some v3 ∧ w.cell? ⟨X, 4, none⟩ = some v4 ∧ w.cell? ⟨X, 5, none⟩ = some v5 := by
 have a0 := h.cell 0 _ rfl
 have a1 := h.cell 1 _ rfl
 have a2 := h.cell 2 _ rfl
 have a3 := h.cell 3 _ rfl
 have a4 := h.cell 4 _ rfl
 have a5 := h.cell 5 _ rfl
 simp only [List.length_nil, Nat.zero_add] at a0 a1 a2 a3 a4 a5
 exact ⟨a0, a1, a2, a3, a4, a5⟩
theorem vals10 {vs : List Value} (h : vs.length = 10) : ∃ v0 v1 v2 v3 v4 v5 v6 v7 v8 v9, vs = [v0, v1, v2, v3, v4, v5, v6, v7, v8, v9] := by
 match vs, h with
 | [v0, v1, v2, v3, v4, v5, v6, v7, v8, v9], _ => exact ⟨v0, v1, v2, v3, v4, v5, v6, v7, v8, v9, rfl⟩
theorem cells10 {X : Nat} {T : TypeId} {w : World} {v0 v1 v2 v3 v4 v5 v6 v7 v8 v9 : Value} (h : BoxIn X T [] [v0, v1, v2, v3, v4, v5, v6, v7, v8, v9] [] w) : w.cell? ⟨X, 0, none⟩ = some v0 ∧ w.cell? ⟨X, 1, none⟩ = some v1 ∧ w.cell? ⟨X, 2, none⟩ = some v2 ∧ w.cell? ⟨X, 3, none⟩ = some v3 ∧ w.cell? ⟨X, 4, none⟩ = some v4 ∧ w.cell? ⟨X, 5, none⟩ = some v5 ∧ w.cell? ⟨X, 6, none⟩ = some v6 ∧ w.cell? ⟨X, 7, none⟩ = some v7 ∧ w.cell? ⟨X, 8, none⟩ = some v8 ∧ w.cell? ⟨X, 9, none⟩ = some v9 := by
 have a0 := h.cell 0 _ rfl
 have a1 := h.cell 1 _ rfl
 have a2 := h.cell 2 _ rfl
 have a3 := h.cell 3 _ rfl
 have a4 := h.cell 4 _ rfl
 have a5 := h.cell 5 _ rfl
 have a6 := h.cell 6 _ rfl
 have a7 := h.cell 7 _ rfl
 have a8 := h.cell 8 _ rfl
 have a9 := h.cell 9 _ rfl
 simp only [List.length_nil, Nat.zero_add] at a0 a1 a2 a3 a4 a5 a6 a7 a8 a9
 exact ⟨a0, a1, a2, a3, a4, a5, a6, a7, a8, a9⟩
theorem keepBoth10 {w w' : World} {X A : Nat} {x0 x1 x2 x3 x4 x5 x6 x7 x8 x9 a0 a1 a2 a3 a4 a5 a6 a7 a8 a9 : Value} (hb : Below w.heap.size w w') (h : w.cell? ⟨X, 0, none⟩ = some x0 ∧ w.cell? ⟨X, 1, none⟩ = some x1 ∧ w.cell? ⟨X, 2, none⟩ = some x2 ∧ w.cell? ⟨X, 3, none⟩ = some x3 ∧ w.cell? ⟨X, 4, none⟩ = some x4 ∧ w.cell? ⟨X, 5, none⟩ = some x5 ∧ w.cell? ⟨X, 6, none⟩ = some x6 ∧ w.cell? ⟨X, 7, none⟩ = some x7 ∧ w.cell? ⟨X, 8, none⟩ = some x8 ∧ w.cell? ⟨X, 9, none⟩ = some x9 ∧ w.cell? ⟨A, 0, none⟩ = some a0 ∧ w.cell? ⟨A, 1, none⟩ = some a1 ∧ w.cell? ⟨A, 2, none⟩ = some a2 ∧ w.cell? ⟨A, 3, none⟩ = some a3 ∧ w.cell? ⟨A, 4, none⟩ = some a4 ∧ w.cell? ⟨A, 5, none⟩ = some a5 ∧ w.cell? ⟨A, 6, none⟩ = some a6 ∧ w.cell? ⟨A, 7, none⟩ = some a7 ∧ w.cell? ⟨A, 8, none⟩ = some a8 ∧ w.cell? ⟨A, 9, none⟩ = some a9) :
 w'.cell? ⟨X, 0, none⟩ = some x0 ∧ w'.cell? ⟨X, 1, none⟩ = some x1 ∧ w'.cell? ⟨X, 2, none⟩ = some x2 ∧ w'.cell? ⟨X, 3, none⟩ = some x3 ∧ w'.cell? ⟨X, 4, none⟩ = some x4 ∧ w'.cell? ⟨X, 5, none⟩ = some x5 ∧ w'.cell? ⟨X, 6, none⟩ = some x6 ∧ w'.cell? ⟨X, 7, none⟩ = some x7 ∧ w'.cell? ⟨X, 8, none⟩ = some x8 ∧ w'.cell? ⟨X, 9, none⟩ = some x9 ∧ w'.cell? ⟨A, 0, none⟩ = some a0 ∧ w'.cell? ⟨A, 1, none⟩ = some a1 ∧ w'.cell? ⟨A, 2, none⟩ = some a2 ∧ w'.cell? ⟨A, 3, none⟩ = some a3 ∧ w'.cell? ⟨A, 4, none⟩ = some a4 ∧ w'.cell? ⟨A, 5, none⟩ = some a5 ∧ w'.cell? ⟨A, 6, none⟩ = some a6 ∧ w'.cell? ⟨A, 7, none⟩ = some a7 ∧ w'.cell? ⟨A, 8, none⟩ = some a8 ∧ w'.cell? ⟨A, 9, none⟩ = some a9 := by
 have keep : ∀ b o v, w.cell? ⟨b, o, none⟩ = some v → w'.cell? ⟨b, o, none⟩ = some v := fun b o v hv => (hb.cell (p := ⟨b, o, none⟩) (World.block_lt_of_cell? w _ hv)).trans hv
 obtain ⟨h0, h1, h2, h3, h4, h5, h6, h7, h8, h9, k0, k1, k2, k3, k4, k5, k6, k7, k8, k9⟩ := h
 exact ⟨keep _ _ _ h0, keep _ _ _ h1, keep _ _ _ h2, keep _ _ _ h3, keep _ _ _ h4, keep _ _ _ h5, keep _ _ _ h6, keep _ _ _ h7, keep _ _ _ h8, keep _ _ _ h9, keep _ _ _ k0, keep _ _ _ k1, keep _ _ _ k2, keep _ _ _ k3, keep _ _ _ k4, keep _ _ _ k5, keep _ _ _ k6, keep _ _ _ k7, keep _ _ _ k8, keep _ _ _ k9⟩
end lay
namespace lay
open Go Go.RowKit base
def putAll (w : World) (g : Nat) : Nat → List Value → World
 | _, [] => w
 | o, u :: us => putAll (w.setCell ⟨g, o, none⟩ u) g (o + 1) us
def setAll (xs : List Value) : Nat → List Value → List Value
 | _, [] => xs
 | o, u :: us => setAll (xs.set o u) (o + 1) us
theorem setAll_length (us : List Value) : ∀ (xs : List Value) (o : Nat), (setAll xs o us).length = xs.length := by
 induction us with
 | nil => intro xs o; rfl
 | cons u us ih => intro xs o; rw [setAll, ih, List.length_set]
theorem setAll_get (us : List Value) : ∀ (xs : List Value) (o j : Nat) (h : o + us.length ≤ xs.length), (setAll xs o us)[j]? = if o ≤ j ∧ j < o + us.length then us[j - o]? else xs[j]? := by
 induction us with
 | nil => intro xs o j h; rw [setAll, if_neg (by simp)]
 | cons u us ih =>
  intro xs o j h
  simp only [List.length_cons] at h ⊢
  rw [setAll, ih _ _ _ (by rw [List.length_set]; omega)]
  by_cases e : j = o
  · subst e
    rw [if_neg (by omega), if_pos (by omega), List.getElem?_set_self (by omega), Nat.sub_self]; rfl
  · rw [List.getElem?_set_ne (by omega)]
    by_cases h1 : o + 1 ≤ j ∧ j < o + 1 + us.length
    · rw [if_pos h1, if_pos (by omega), show j - o = (j - (o + 1)) + 1 by omega, List.getElem?_cons_succ]
    · rw [if_neg h1, if_neg (by omega)]
theorem cellsOf_set {q : Parts} {n : Nat} (h : ∀ p ∈ q, p.1.length = n) (i : Nat) (hi : i < q.length) (us : List Value) (hu : us.length = n) (F : List Nat) : setAll (cellsOf q) (i * n) us = cellsOf (q.set i (us, F)) := by
 have hq : ∀ p ∈ q.set i (us, F), p.1.length = n := fun p hp => by
  rcases List.mem_or_eq_of_mem_set hp with h1 | h1
  · exact h p h1
  · subst h1; exact hu
 have hl1 := cellsOf_length h
 have hl2 := cellsOf_length hq
 rw [List.length_set] at hl2
 have hin : i * n + n ≤ q.length * n := by
  have := Nat.mul_le_mul_right n (show i + 1 ≤ q.length from hi)
  rw [Nat.add_mul] at this; omega
 refine List.ext_getElem? fun j => ?_
 by_cases hj : j < q.length * n
 · have hn0 : 0 < n := by
    rcases Nat.eq_zero_or_pos n with e | e
    · subst e; omega
    · exact e
   have hd := Nat.div_add_mod j n
   have hm := Nat.mod_lt j hn0
   have hjd : j / n < q.length := by
    rcases Nat.lt_or_ge (j / n) q.length with h1 | h1
    · exact h1
    · have := Nat.mul_le_mul_left n h1
      rw [Nat.mul_comm n q.length] at this; omega
   have e : j = j / n * n + j % n := by rw [Nat.mul_comm]; omega
   rw [setAll_get us _ _ _ (by omega)]
   conv => rhs; rw [e, cellsOf_get hq (j / n) (by simpa using hjd) (j % n) hm]
   by_cases hi2 : j / n = i
   · have e3 : j = i * n + j % n := by rw [← hi2]; exact e
     rw [if_pos (by omega), show j - i * n = j % n by omega]
     subst hi2
     rw [List.getElem_set_self]
   · have hne : ¬ (i * n ≤ j ∧ j < i * n + us.length) := by
      rintro ⟨h1, h2⟩
      rw [hu] at h2
      apply hi2
      rcases Nat.lt_trichotomy (j / n) i with h3 | h3 | h3
      · have := Nat.mul_le_mul_right n (show j / n + 1 ≤ i from h3)
        rw [Nat.add_mul] at this; omega
      · exact h3
      · have := Nat.mul_le_mul_right n (show i + 1 ≤ j / n from h3)
        rw [Nat.add_mul] at this; omega
     rw [if_neg hne, List.getElem_set_ne (fun e => hi2 e.symm)]
     conv => lhs; rw [e, cellsOf_get h (j / n) hjd (j % n) hm]
 · rw [List.getElem?_eq_none (by rw [setAll_length]; omega), List.getElem?_eq_none (by omega)]
section
variable {α : Type} {ty : TypeId} {R : Rd α} {w w' : World} {l : List α} {q : Parts} {g n cap : Nat}
theorem row_putAll {base size : Nat} (us : List Value) : ∀ {w : World} {xs : List Value} (o : Nat), w.ownsRow base ty size (.slice (some ⟨g, 0, none⟩) n cap) n xs → (putAll w g o us).ownsRow base ty size (.slice (some ⟨g, 0, none⟩) n cap) n (setAll xs o us) ∧ w.grownBy (putAll w g o us) (some g) := by
 induction us with
 | nil => intro w xs o h; exact ⟨h, World.grownBy.refl _ _⟩
 | cons u us ih =>
  intro w xs o h
  have s := h.stored o u
  have t := ih (o + 1) s.1
  exact ⟨t.1, grownBy_trans s.2 t.2⟩
theorem OwnG.turn {v : Value} (h : OwnG ty R w v l q) (i : Nat) (hi : i < l.length) (us : List Value) (x : α) (F : List Nat) (hr : w'.ownsRow 0 ty R.size v l.length (cellsOf (q.set i (us, F)))) (hx : R.own w' us x F)
 (hk : ∀ j (hj : j < l.length), j ≠ i → ∀ b ∈ (q[j]'(by have := h.len; omega)).2, w'.heap[b]? = w.heap[b]?) (hF : ∀ b ∈ F, b ∈ (q[i]'(by have := h.len; omega)).2 ∨ b ∉ v.ownBlock.toList ++ blocksOf q) : OwnG ty R w' v (l.set i x) (q.set i (us, F)) := by
 have hl := h.len
 have hnd := h.nodup
 refine ⟨by simp [hl], by simpa using hr, fun j hj => ?_, ?_⟩
 · have hjl : j < l.length := by simpa using hj
   by_cases e : i = j
   · subst e
     simp only [List.getElem_set_self]
     exact hx
   · simp only [List.getElem_set_ne e]
     exact R.ownAt (h.each j hjl) (hk j hjl fun e2 => e e2.symm)
 · have hxn := R.ownNodup hx
   have hqi : i < q.length := by omega
   have e1 : blocksOf q = blocksOf (q.take i) ++ (q[i].2 ++ blocksOf (q.drop (i + 1))) := by
    conv => lhs; rw [← List.take_append_drop i q, List.drop_eq_getElem_cons hqi]
    rw [blocksOf_append]; rfl
   have e2 : blocksOf (q.set i (us, F)) = blocksOf (q.take i) ++ (F ++ blocksOf (q.drop (i + 1))) := by
    rw [List.set_eq_take_append_cons_drop, if_pos hqi, blocksOf_append]; rfl
   have hF2 : ∀ b ∈ F, b ∉ v.ownBlock.toList ∧ b ∉ blocksOf (q.take i) ∧ b ∉ blocksOf (q.drop (i + 1)) := fun b hb => by
    rw [e1] at hnd
    rcases hF b hb with h1 | h1
    · obtain ⟨n1, n2, n3⟩ := nodup_parts hnd
      obtain ⟨m1, m2, m3⟩ := nodup_parts n2
      obtain ⟨k1, k2, k3⟩ := nodup_parts m2
      exact ⟨fun e => n3 b e (List.mem_append.2 (.inr (List.mem_append.2 (.inl h1)))), fun e => m3 b e (List.mem_append.2 (.inl h1)), k3 b h1⟩
    · rw [e1] at h1
      simp only [List.mem_append, not_or] at h1
      exact ⟨h1.1, h1.2.1, h1.2.2.2⟩
   rw [e1] at hnd
   obtain ⟨n1, n2, n3⟩ := nodup_parts hnd
   obtain ⟨m1, m2, m3⟩ := nodup_parts n2
   obtain ⟨k1, k2, k3⟩ := nodup_parts m2
   rw [e2]
   refine nodup_mk n1 (nodup_mk m1 (nodup_mk hxn k2 fun b hb => (hF2 b hb).2.2) fun b hb hb2 => ?_) fun b hb hb2 => ?_
   · rcases List.mem_append.1 hb2 with h1 | h1
     · exact (hF2 b h1).2.1 hb
     · exact m3 b hb (List.mem_append.2 (.inr h1))
   · rcases List.mem_append.1 hb2 with h1 | h1
     · exact n3 b hb (List.mem_append.2 (.inl h1))
     · rcases List.mem_append.1 h1 with h1 | h1
       · exact (hF2 b h1).1 hb
       · exact n3 b hb (List.mem_append.2 (.inr (List.mem_append.2 (.inr h1))))
theorem OwnG.put (h : OwnG ty R w (.slice (some ⟨g, 0, none⟩) n cap) l q) (i : Nat) (hi : i < l.length) (us : List Value) (x : α) (F : List Nat) (hx : R.own w us x F) (hF : ∀ b ∈ F, b ∉ g :: blocksOf q) :
 OwnG ty R (putAll w g (i * R.size) us) (.slice (some ⟨g, 0, none⟩) n cap) (l.set i x) (q.set i (us, F)) ∧ w.grownBy (putAll w g (i * R.size) us) (some g) := by
 have hn : n = l.length := by
  rcases h.shape with ⟨e, _⟩ | ⟨g', c', e, _⟩
  · cases e
  · cases e; rfl
 subst hn
 have hl := h.len
 have hr := row_putAll us (i * R.size) h.row
 rw [cellsOf_set h.parts i (by omega) us (R.ownLen hx) F] at hr
 have hgn : ∀ b ∈ blocksOf q, b ≠ g := fun b hb e => by
  have := (nodup_parts h.nodup).2.2 g (by simp [Value.ownBlock])
  exact this (e ▸ hb)
 refine ⟨h.turn i hi us x F hr.1 (R.ownAt hx fun k hk => hr.2.block k (R.ownLt hx k hk) fun e => hF k hk (by simp [Option.some.inj e])) (fun j hj hne b hb => ?_) (fun b hb => .inr (by simpa [Value.ownBlock] using hF b hb)), hr.2⟩
 have hbq : b ∈ blocksOf q := List.mem_flatMap.2 ⟨_, List.getElem_mem _, hb⟩
 exact hr.2.block b (R.ownLt (h.each j hj) b hb) fun e => hgn b hbq (Option.some.inj e)
theorem ownG_zeros {z : Value} {x : α} {k : Nat} (hr : w.ownsRow k ty R.size (.slice (some ⟨g, 0, none⟩) n n) n (madeCells z.cells (n * R.size)).toList) (hz : R.own w z.cells.toList x []) : OwnG ty R w (.slice (some ⟨g, 0, none⟩) n n) (List.replicate n x) (List.replicate n (z.cells.toList, [])) := by
 have hzl : z.cells.toList.length = R.size := R.ownLen hz
 have e1 : blocksOf (List.replicate n (z.cells.toList, ([] : List Nat))) = [] := by unfold blocksOf; simp
 have hp : ∀ p ∈ List.replicate n (z.cells.toList, ([] : List Nat)), p.1.length = R.size := fun p hp => by rw [(List.mem_replicate.1 hp).2]; exact hzl
 have e2 : cellsOf (List.replicate n (z.cells.toList, ([] : List Nat))) = (madeCells z.cells (n * R.size)).toList := by
  refine List.ext_getElem? fun j => ?_
  by_cases hj : j < n * R.size
  · have hn0 : 0 < R.size := by
     rcases Nat.eq_zero_or_pos R.size with e | e
     · rw [e] at hj; omega
     · exact e
    have hd := Nat.div_add_mod j R.size
    have hm := Nat.mod_lt j hn0
    have hjd : j / R.size < n := Nat.div_lt_of_lt_mul (by rw [Nat.mul_comm]; exact hj)
    have e : j = j / R.size * R.size + j % R.size := by rw [Nat.mul_comm]; omega
    conv => lhs; rw [e, cellsOf_get hp (j / R.size) (by simpa using hjd) (j % R.size) hm]
    have hzs : z.cells.size = R.size := by rw [← hzl]; simp
    have hm2 : j % R.size < z.cells.size := by omega
    simp [madeCells, hj, hzs, List.getElem_replicate]
    rw [Array.getElem?_eq_getElem hm2, getElem!_pos z.cells _ hm2]
  · rw [List.getElem?_eq_none (by rw [cellsOf_length hp, List.length_replicate]; omega), List.getElem?_eq_none (by simp [madeCells]; omega)]
 refine ⟨by simp, ?_, fun i hi => ?_, by rw [e1]; simp [Value.ownBlock]⟩
 · rw [List.length_replicate, e2]
   obtain ⟨h1, h2⟩ := hr
   refine ⟨h1, ?_⟩
   rcases h2 with h2 | ⟨g', c', cur, h2, h3, h4⟩
   · exact .inl h2
   · exact .inr ⟨g', c', cur, h2, Nat.zero_le _, h4⟩
 · simp only [List.getElem_replicate]
   exact hz
end
def copyG {α : Type} (z : α) (l : List α) (k : Nat) : List α := l.take k ++ List.replicate (l.length - k) z
section
variable {α : Type} {z : α} {l : List α}
theorem copyG_length (k : Nat) (h : k ≤ l.length) : (copyG z l k).length = l.length := by simp [copyG]; omega
theorem copyG_zero : copyG z l 0 = List.replicate l.length z := by simp [copyG]
theorem copyG_set (k : Nat) (h : k < l.length) : (copyG z l k).set k l[k] = copyG z l (k + 1) := by
 unfold copyG
 rw [List.take_succ_eq_append_getElem h]
 have e1 : (l.take k).length = k := by simp; omega
 have e2 : l.length - k = (l.length - (k + 1)) + 1 := by omega
 rw [List.set_append_right _ _ (by omega), e1, Nat.sub_self, e2, List.replicate_succ, List.set_cons_zero, List.append_assoc]
 rfl
theorem copyG_all : copyG z l l.length = l := by simp [copyG]
end
end lay
namespace lay
open Go Go.RowKit base
theorem BoxIn.all {X : Nat} {T : TypeId} (us : List Value) : ∀ {vs done : List Value} {w : World}, vs.length = us.length → BoxIn X T done vs [] w → BoxIn X T done us [] (putAll w X done.length us) ∧ w.grownBy (putAll w X done.length us) (some X) := by
 induction us with
 | nil =>
  intro vs done w hl h
  have : vs = [] := List.eq_nil_of_length_eq_zero hl
  subst this
  exact ⟨h, World.grownBy.refl _ _⟩
 | cons u us ih =>
  intro vs done w hl h
  match vs, hl with
  | v :: vs, hl =>
   have s := h.set 0 (by simp) u
   rw [Nat.add_zero] at s
   have h2 : BoxIn X T (done ++ [u]) vs [] (w.setCell ⟨X, done.length, none⟩ u) := by
    have := s.1
    unfold BoxIn at this ⊢
    simpa using this
   have t := ih (by simpa using hl) h2
   rw [List.length_append, List.length_singleton] at t
   refine ⟨?_, grownBy_trans s.2 t.2⟩
   have := t.1
   unfold BoxIn at this ⊢
   simpa [putAll] using this
theorem BoxIn.whole {X : Nat} {T : TypeId} {vs : List Value} {w : World} (h : BoxIn X T [] vs [] w) (us : List Value) (hl : vs.length = us.length) : BoxIn X T [] us [] (putAll w X 0 us) ∧ w.grownBy (putAll w X 0 us) (some X) := BoxIn.all us hl h
theorem OwnG.frozen {α : Type} {ty : TypeId} {R : Rd α} {w : World} {g n cap : Nat} {l : List α} {q : Parts} (h : OwnG ty R w (.slice (some ⟨g, 0, none⟩) n cap) l q) (j : Nat) : w.frozen? ⟨g, j, none⟩ = false := by
 have hn : n = l.length := by
  rcases h.shape with ⟨e, _⟩ | ⟨g', c', e, _⟩
  · cases e
  · cases e; rfl
 subst hn
 exact h.row.frozenAt j
theorem OwnG.nlen {α : Type} {ty : TypeId} {R : Rd α} {w : World} {g n cap : Nat} {l : List α} {q : Parts} (h : OwnG ty R w (.slice (some ⟨g, 0, none⟩) n cap) l q) : n = l.length := by
 rcases h.shape with ⟨e, _⟩ | ⟨g', c', e, _⟩
 · cases e
 · cases e; rfl
theorem OwnG.lts {α : Type} {ty : TypeId} {R : Rd α} {w : World} {g n cap : Nat} {l : List α} {q : Parts} (h : OwnG ty R w (.slice (some ⟨g, 0, none⟩) n cap) l q) : ∀ b ∈ g :: blocksOf q, b < w.heap.size := fun b hb => h.at_ b (by simpa [Value.ownBlock] using hb)
theorem OwnG.below {α : Type} {ty : TypeId} {R : Rd α} {w w' : World} {v : Value} {l : List α} {q : Parts} (h : OwnG ty R w v l q) (hb : Below w.heap.size w w') : OwnG ty R w' v l q := h.keep fun b hb2 => hb.block b (h.at_ b hb2)
theorem slg_at2 {α : Type} {R : Rd α} {w : World} {b off len : Nat} {l : List α} (hR : R.size = 2) (h : SlG R w (some ⟨b, off, none⟩) len l) (i : Nat) (hi : i < l.length) : ∃ u0 u1, R.see w [u0, u1] l[i] ∧ w.cell? ⟨b, off + i * 2, none⟩ = some u0 ∧ w.cell? ⟨b, off + i * 2 + 1, none⟩ = some u1 := by
 obtain ⟨b', off', e, hc⟩ := h.2.2.2 (by have := h.1; omega)
 simp only [Option.some.injEq, Addr.mk.injEq, and_true] at e
 obtain ⟨rfl, rfl⟩ := e
 obtain ⟨vs, hs, hcl⟩ := hc i hi
 have hl := R.seeLen hs
 rw [hR] at hl hcl
 match vs, hl with
 | [u0, u1], _ => exact ⟨u0, u1, hs, hcl 0 _ rfl, hcl 1 _ rfl⟩
theorem slg_at4 {α : Type} {R : Rd α} {w : World} {b off len : Nat} {l : List α} (hR : R.size = 4) (h : SlG R w (some ⟨b, off, none⟩) len l) (i : Nat) (hi : i < l.length) : ∃ u0 u1 u2 u3, R.see w [u0, u1, u2, u3] l[i] ∧ w.cell? ⟨b, off + i * 4, none⟩ = some u0 ∧ w.cell? ⟨b, off + i * 4 + 1, none⟩ = some u1 ∧ w.cell? ⟨b, off + i * 4 + 2, none⟩ = some u2 ∧ w.cell? ⟨b, off + i * 4 + 3, none⟩ = some u3 := by
 obtain ⟨b', off', e, hc⟩ := h.2.2.2 (by have := h.1; omega)
 simp only [Option.some.injEq, Addr.mk.injEq, and_true] at e
 obtain ⟨rfl, rfl⟩ := e
 obtain ⟨vs, hs, hcl⟩ := hc i hi
 have hl := R.seeLen hs
 rw [hR] at hl hcl
 match vs, hl with
 | [u0, u1, u2, u3], _ => exact ⟨u0, u1, u2, u3, hs, hcl 0 _ rfl, hcl 1 _ rfl, hcl 2 _ rfl, hcl 3 _ rfl⟩
theorem slg_at5 {α : Type} {R : Rd α} {w : World} {b off len : Nat} {l : List α} (hR : R.size = 5) (h : SlG R w (some ⟨b, off, none⟩) len l) (i : Nat) (hi : i < l.length) : ∃ u0 u1 u2 u3 u4, R.see w [u0, u1, u2, u3, u4] l[i] ∧ w.cell? ⟨b, off + i * 5, none⟩ = some u0 ∧ w.cell? ⟨b, off + i * 5 + 1, none⟩ = some u1 ∧ w.cell? ⟨b, off + i * 5 + 2, none⟩ = some u2 ∧ w.cell? ⟨b, off + i * 5 + 3, none⟩ = some u3 ∧ w.cell? ⟨b, off + i * 5 + 4, none⟩ = some u4 := by
 obtain ⟨b', off', e, hc⟩ := h.2.2.2 (by have := h.1; omega)
 simp only [Option.some.injEq, Addr.mk.injEq, and_true] at e
 obtain ⟨rfl, rfl⟩ := e
 obtain ⟨vs, hs, hcl⟩ := hc i hi
 have hl := R.seeLen hs
 rw [hR] at hl hcl
 match vs, hl with
 | [u0, u1, u2, u3, u4], _ => exact ⟨u0, u1, u2, u3, u4, hs, hcl 0 _ rfl, hcl 1 _ rfl, hcl 2 _ rfl, hcl 3 _ rfl, hcl 4 _ rfl⟩
end lay
namespace cos
open Go Go.RowKit base pairs ords lay wds
section
variable {w w' : World} {vs : List Value} {c : Co} {F : List Nat} {e : Ending}
structure WfCo (c : Co) : Prop where
 n : (Lit.int .i64 c.1).wf = true
 life : (Lit.int .i64 c.2.1).wf = true
 next : (Lit.int .i64 c.2.2.1).wf = true
 sure : (Lit.int .i64 c.2.2.2.2.2).wf = true
theorem coord_own : coordR.own w vs c F ↔ ∃ x y F1 F2, vs = [.int .i64 c.1, .int .i64 c.2.1, .int .i64 c.2.2.1, x, y, .int .i64 c.2.2.2.2.2] ∧ WfCo c ∧ jobsR.own w [x] c.2.2.2.1 F1 ∧ logR.own w [y] c.2.2.2.2.1 F2 ∧ F = F1 ++ F2 ∧ F.Nodup := by
 constructor
 · rintro ⟨us, ts, G1, G2, rfl, rfl, h1, ⟨us2, ts2, G3, G4, rfl, rfl, h2, ⟨us3, ts3, G5, G6, rfl, rfl, h3, ⟨us4, ts4, G7, G8, rfl, rfl, h4, ⟨us5, ts5, G9, G10, rfl, rfl, h5, h6, n5⟩, n4⟩, n3⟩, n2⟩, n1⟩
   obtain ⟨rfl, k1, rfl⟩ := flat_int.own.1 h1
   obtain ⟨rfl, k2, rfl⟩ := flat_int.own.1 h2
   obtain ⟨rfl, k3, rfl⟩ := flat_int.own.1 h3
   obtain ⟨rfl, k6, rfl⟩ := flat_int.own.1 h6
   obtain ⟨v4, q4, rfl, _⟩ := id h4
   obtain ⟨v5, q5, rfl, _⟩ := id h5
   exact ⟨v4, v5, G7, G9, rfl, ⟨k1, k2, k3, k6⟩, h4, h5, by simp, n1⟩
 · rintro ⟨x, y, F1, F2, rfl, ⟨k1, k2, k3, k6⟩, h4, h5, rfl, hn⟩
   exact ⟨[_], [_, _, x, y, _], [], F1 ++ F2, rfl, rfl, flat_int.own.2 ⟨rfl, k1, rfl⟩, ⟨[_], [_, x, y, _], [], F1 ++ F2, rfl, rfl, flat_int.own.2 ⟨rfl, k2, rfl⟩, ⟨[_], [x, y, _], [], F1 ++ F2, rfl, rfl, flat_int.own.2 ⟨rfl, k3, rfl⟩, ⟨[x], [y, _], F1, F2, rfl, rfl, h4, ⟨[y], [_], F2, [], rfl, (List.append_nil _).symm, h5, flat_int.own.2 ⟨rfl, k6, rfl⟩, (nodup_parts hn).2.1⟩, hn⟩, hn⟩, hn⟩, hn⟩
theorem SeeCo.wf {ja la : Option Addr} {jn jc ln lc : Nat} (h : SeeCo w ja jn jc la ln lc c) : WfCo c := ⟨h.n, h.life, h.next, h.sure⟩
structure BoundCo (c : Co) : Prop where
 fits : FitsCo c
 yes : ∀ j ∈ c.2.2.2.1, j.2.2.2.length ≤ 1099511627776
 jobs : c.2.2.2.1.length ≤ 1048576
 log : c.2.2.2.2.1.length ≤ 1048576
 sum : sumJ c.2.2.2.1 ≤ 1048576
theorem sumO_at {l : List Od} {p : Od} (h : p ∈ l) : p.2.1.size ≤ sumO l := by
 obtain ⟨i, hi, rfl⟩ := List.getElem_of_mem h
 have h1 := sumO_take l i hi
 have h2 := sumO_le l (i + 1)
 unfold osz at h1
 omega
theorem bound_co {c : Co} (h : csz c ≤ 1048576) : BoundCo c := by
 unfold csz at h
 refine ⟨⟨by omega, by omega, fun j hj => ?_⟩, fun j hj => ?_, by omega, by omega, by omega⟩
 · have h1 := sumJ_mem hj
   unfold jsz at h1
   refine ⟨by omega, fun p hp => ?_⟩
   have h2 := sumO_at hp
   omega
 · have h1 := sumJ_mem hj
   unfold jsz at h1
   omega
end
end cos
namespace wds
open Go Go.RowKit base pairs ords putnum puttext getnum gettext gettexts nummath
abbrev Wd := Int × Int × Int × List Od × Bool
def kindOk (k : Int) (l : List Od) (y : Bool) : Bool := if k = 1 then opsOk l && !y else if k = 2 ∨ k = 3 then l.isEmpty else if k = 4 then l.isEmpty && !y else false
def placeOk (s t : Int) : Bool := decide (0 ≤ s ∧ s ≤ 7) && decide (1 ≤ t ∧ t ≤ 1000000)
def wordOk (d : Wd) : Bool := placeOk d.2.1 d.2.2.1 && kindOk d.1 d.2.2.2.1 d.2.2.2.2
end wds
namespace cos
open Go Go.RowKit base pairs ords lay wds
def wordR : Rd Wd := both int (both int (both int (both opsR bool)))
def wordsR : Rd (List Wd) := slice 100 wordR
section
variable {w : World} {vs : List Value} {x : Wd} {F : List Nat}
theorem word_see : wordR.see w vs x ↔ ∃ oa ol oc, vs = [.int .i64 x.1, .int .i64 x.2.1, .int .i64 x.2.2.1, .slice oa ol oc, .bool x.2.2.2.2] ∧ (Lit.int .i64 x.1).wf = true ∧ (Lit.int .i64 x.2.1).wf = true ∧ (Lit.int .i64 x.2.2.1).wf = true ∧ SlO w oa ol x.2.2.2.1 ∧ ol ≤ oc := by
 constructor
 · rintro ⟨u1, t1, rfl, h1, u2, t2, rfl, h2, u3, t3, rfl, h3, u4, t4, rfl, h4, h5⟩
   obtain ⟨rfl, k1⟩ := flat_int.see.1 h1
   obtain ⟨rfl, k2⟩ := flat_int.see.1 h2
   obtain ⟨rfl, k3⟩ := flat_int.see.1 h3
   obtain ⟨rfl, _⟩ := flat_bool.see.1 h5
   obtain ⟨oa, ol, oc, rfl, _⟩ := id h4
   have h6 := ops_see.1 h4
   exact ⟨oa, ol, oc, rfl, k1, k2, k3, h6.1, h6.2⟩
 · rintro ⟨oa, ol, oc, rfl, k1, k2, k3, h4, h5⟩
   exact ⟨[_], [_, _, _, _], rfl, flat_int.see.2 ⟨rfl, k1⟩, [_], [_, _, _], rfl, flat_int.see.2 ⟨rfl, k2⟩, [_], [_, _], rfl, flat_int.see.2 ⟨rfl, k3⟩, [_], [_], rfl, ops_see.2 ⟨h4, h5⟩, flat_bool.see.2 ⟨rfl, trivial⟩⟩
theorem word_own : wordR.own w vs x F ↔ ∃ v, vs = [.int .i64 x.1, .int .i64 x.2.1, .int .i64 x.2.2.1, v, .bool x.2.2.2.2] ∧ (Lit.int .i64 x.1).wf = true ∧ (Lit.int .i64 x.2.1).wf = true ∧ (Lit.int .i64 x.2.2.1).wf = true ∧ opsR.own w [v] x.2.2.2.1 F := by
 constructor
 · rintro ⟨u1, t1, F1, G1, rfl, rfl, h1, ⟨u2, t2, F2, G2, rfl, rfl, h2, ⟨u3, t3, F3, G3, rfl, rfl, h3, ⟨u4, t4, F4, G4, rfl, rfl, h4, h5, _⟩, _⟩, _⟩, _⟩
   obtain ⟨rfl, k1, rfl⟩ := flat_int.own.1 h1
   obtain ⟨rfl, k2, rfl⟩ := flat_int.own.1 h2
   obtain ⟨rfl, k3, rfl⟩ := flat_int.own.1 h3
   obtain ⟨rfl, _, rfl⟩ := flat_bool.own.1 h5
   obtain ⟨v, q, rfl, _⟩ := id h4
   exact ⟨v, rfl, k1, k2, k3, by simpa using h4⟩
 · rintro ⟨v, rfl, k1, k2, k3, h4⟩
   have hn := opsR.ownNodup h4
   exact ⟨[_], [_, _, v, _], [], F, rfl, rfl, flat_int.own.2 ⟨rfl, k1, rfl⟩, ⟨[_], [_, v, _], [], F, rfl, rfl, flat_int.own.2 ⟨rfl, k2, rfl⟩, ⟨[_], [v, _], [], F, rfl, rfl, flat_int.own.2 ⟨rfl, k3, rfl⟩, ⟨[v], [_], F, [], rfl, (List.append_nil _).symm, h4, flat_bool.own.2 ⟨rfl, trivial, rfl⟩, hn⟩, hn⟩, hn⟩, hn⟩
end
end cos
namespace padmath
open Go.RowKit base
end padmath
namespace sha
open Go.RowKit base padmath
def rotr (n x : Nat) : Nat := (x / 2 ^ n) ||| (x * 2 ^ (32 - n) % 4294967296)
def ssig0 (x : Nat) : Nat := rotr 7 x ^^^ rotr 18 x ^^^ x / 8
def ssig1 (x : Nat) : Nat := rotr 17 x ^^^ rotr 19 x ^^^ x / 1024
def bsig0 (x : Nat) : Nat := rotr 2 x ^^^ rotr 13 x ^^^ rotr 22 x
def bsig1 (x : Nat) : Nat := rotr 6 x ^^^ rotr 11 x ^^^ rotr 25 x
def ch (e f g : Nat) : Nat := (e &&& f) ^^^ ((4294967295 ^^^ e) &&& g)
def maj (a b c : Nat) : Nat := (a &&& b) ^^^ (a &&& c) ^^^ (b &&& c)
def be32 (bs : List UInt8) (i : Nat) : Nat := (bs.getD (4 * i) 0).toNat * 16777216 + (bs.getD (4 * i + 1) 0).toNat * 65536 + (bs.getD (4 * i + 2) 0).toNat * 256 + (bs.getD (4 * i + 3) 0).toNat
def nextWord (bs : List UInt8) (w : List Nat) (k : Nat) : Nat :=
 if k < 16 then be32 bs k else (w.getD (k - 16) 0 + ssig0 (w.getD (k - 15) 0) + w.getD (k - 7) 0 + ssig1 (w.getD (k - 2) 0)) % 4294967296
def ws (bs : List UInt8) : Nat → List Nat
 | 0 => []
 | k + 1 => ws bs k ++ [nextWord bs (ws bs k) k]
def rnd (s : List Nat) (kw : Nat) : List Nat :=
 let t1 := s.getD 7 0 + bsig1 (s.getD 4 0) + ch (s.getD 4 0) (s.getD 5 0) (s.getD 6 0) + kw
 let t2 := bsig0 (s.getD 0 0) + maj (s.getD 0 0) (s.getD 1 0) (s.getD 2 0)
 [(t1 + t2) % 4294967296, s.getD 0 0, s.getD 1 0, s.getD 2 0, (s.getD 3 0 + t1) % 4294967296, s.getD 4 0, s.getD 5 0, s.getD 6 0]
def rounds (ks w s : List Nat) : Nat → List Nat
 | 0 => s
 | i + 1 => rnd (rounds ks w s i) (ks.getD i 0 + w.getD i 0)
def addAll (a b : List Nat) : List Nat := (List.range 8).map fun i => (a.getD i 0 + b.getD i 0) % 4294967296
def block (ks h : List Nat) (bs : List UInt8) : List Nat := addAll (rounds ks (ws bs 64) h 64) h
end sha
end Go.Proofs.YtijplooogplccaaGreat
