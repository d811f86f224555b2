/- WdS WoOs -/
import Derived.Test.YtijplooogplccaaGreatShai
import Derived.Test.YtijplooogplccaaGreatShad
import Derived.Test.YtijplooogplccaaGreatShal
import Derived.Test.YtijplooogplccaaGreatShbc
import Derived.Test.YtijplooogplccaaGreatShag
import Derived.Test.YtijplooogplccaaGreatShav
set_option linter.unusedVariables false
set_option linter.unusedSimpArgs false
namespace Go.Proofs.YtijplooogplccaaGreat
namespace wds
open Go Go.RowKit base pairs ords
set_option maxRecDepth 100000 in
set_option maxHeartbeats 1000000 in
theorem spec_opsNil (a : Option Addr) (cap : Nat) (w : World) :
 Calls Tryz.prog 47 #[.slice a 0 cap] w fun e w' => e = .returned (.bool false) ∧ w' = w := by
 go_enter Tryz.func47, Tryz.ntmps47
 go_wp2_with fail
 refine wp_loop_rounds 1 ?_
 rw [rounds_succ]
 go_wp2_with fail
 refine (s_inZ 0 1 8 _).mono ?_
 rintro e w9 ⟨rfl, rfl⟩
 go_wp2_with fail
 go_ret
 exact ⟨ret_bool (by decide), rfl⟩
theorem spec_opsOkA (a : Option Addr) (len cap : Nat) (l : List Od) (w : World) (h : SlO w a len l) (hks : ∀ p ∈ l, p.2.1.size ≤ 1099511627776) :
 Calls Tryz.prog 47 #[.slice a len cap] w fun e w' => e = .returned (.bool (opsOk l)) ∧ Below w.heap.size w w' := by
 by_cases h0 : len = 0
 · subst h0
   obtain rfl : l = [] := List.eq_nil_of_length_eq_zero h.1
   refine (spec_opsNil a cap w).mono ?_
   rintro e w' ⟨rfl, rfl⟩
   exact ⟨rfl, Below.refl _ _⟩
 · obtain ⟨b, off, ha, _⟩ := h.2.2.2 (by omega)
   subst ha
   exact spec_opsOk b off len cap l w h hks
theorem impl_opsOkA (a : Option Addr) (len cap : Nat) (l : List Od) (w : World) (h : SlO w a len l) (hks : ∀ p ∈ l, p.2.1.size ≤ 1099511627776) :
 Calls Tryz.prog 63 #[.slice a len cap] w fun e w' => e = .returned (.bool (opsOk l)) ∧ Below w.heap.size w w' := by
 by_cases h0 : len = 0
 · subst h0
   obtain rfl : l = [] := List.eq_nil_of_length_eq_zero h.1
   go_enter Tryz.func63, Tryz.ntmps63
   go_wp2_with fail
   go_ret
   exact ⟨ret_bool (by decide), Below.refl _ _⟩
 · obtain ⟨b, off, ha, _⟩ := h.2.2.2 (by omega)
   subst ha
   exact impl_opsOk b off len cap l w h hks
abbrev wdV (k s t : Int) (v : Value) (y : Bool) : Value := .agg #[.int .i64 k, .int .i64 s, .int .i64 t, v, .bool y]
def BoxW (X : Nat) (k s t : Int) (v : Value) (y : Bool) (w : World) : Prop := w.heap[X]? = some (.cells #[.int .i64 k, .int .i64 s, .int .i64 t, v, .bool y] 100 (0, 0))
theorem boxW_new (w : World) (k s t : Int) (v : Value) (y : Bool) : BoxW w.heap.size k s t v y (w.alloc (.cells #[.int .i64 k, .int .i64 s, .int .i64 t, v, .bool y] 100)) := heap_alloc_new w _
section
variable {X : Nat} {k s t : Int} {v : Value} {y : Bool} {w w' : World}
theorem BoxW.cells (h : BoxW X k s t v y w) : w.cell? ⟨X, 0, none⟩ = some (.int .i64 k) ∧ w.cell? ⟨X, 1, none⟩ = some (.int .i64 s) ∧ w.cell? ⟨X, 2, none⟩ = some (.int .i64 t) ∧ w.cell? ⟨X, 3, none⟩ = some v ∧ w.cell? ⟨X, 4, none⟩ = some (.bool y) := by
 unfold BoxW at h
 simp [World.cell?, h]
theorem BoxW.lt (h : BoxW X k s t v y w) : X < w.heap.size := (Array.getElem?_eq_some_iff.1 h).1
theorem BoxW.below (h : BoxW X k s t v y w) (hb : Below w.heap.size w w') : BoxW X k s t v y w' := by
 have h' := h.lt
 unfold BoxW at h ⊢
 rw [hb.block X h', h]
theorem BoxW.grown {row : Option Nat} (h : BoxW X k s t v y w) (hg : w.grownBy w' row) (hne : some X ≠ row) : BoxW X k s t v y w' := by
 have h' := h.lt
 unfold BoxW at h ⊢
 rw [hg.block X h' hne, h]
end
set_option maxRecDepth 100000 in
set_option maxHeartbeats 2000000 in
theorem spec_wordOk (k s t : Int) (a : Option Addr) (len cap : Nat) (l : List Od) (y : Bool) (w : World) (h : SlO w a len l) (hks : ∀ p ∈ l, p.2.1.size ≤ 1099511627776) :
 Calls Tryz.prog 46 #[wdV k s t (.slice a len cap) y] w fun e w' => e = .returned (.bool (wordOk (k, s, t, l, y))) ∧ Below w.heap.size w w' := by
 have hba : Below w.heap.size w (w.alloc (.cells #[.int .i64 k, .int .i64 s, .int .i64 t, .slice a len cap, .bool y] 100)) := (Below.refl _ _).alloc (Nat.le_refl _) _
 have hin1 := s_inZ s 0 7 (w.alloc (.cells #[.int .i64 k, .int .i64 s, .int .i64 t, .slice a len cap, .bool y] 100))
 have hin2 := s_inZ t 1 1000000 (w.alloc (.cells #[.int .i64 k, .int .i64 s, .int .i64 t, .slice a len cap, .bool y] 100))
 have hl := h.1
 have hm := h.2.1
 unfold maxLen at hm
 have HR : Hid (wordOk (k, s, t, l, y) = (decide (0 ≤ s ∧ s ≤ 7) && decide (1 ≤ t ∧ t ≤ 1000000) && kindOk k l y)) := rfl
 by_cases hs : 0 ≤ s ∧ s ≤ 7
 · rw [decide_eq_true hs] at hin1
   rw [decide_eq_true hs] at HR
   have HI := Hid.mk' hin1
   clear hin1 hs
   by_cases ht : 1 ≤ t ∧ t ≤ 1000000
   · rw [decide_eq_true ht] at hin2
     rw [decide_eq_true ht, Bool.true_and, Bool.true_and] at HR
     have HJ := Hid.mk' hin2
     clear hin2 ht
     by_cases h1 : k = 1
     · subst h1
       have HO := Hid.mk' (spec_opsOkA a len cap l _ (h.below hba) hks)
       have HK : Hid (kindOk 1 l y = (opsOk l && !y)) := rfl
       generalize opsOk l = K at *
       have hb5 := boxW_new w 1 s t (.slice a len cap) y
       obtain ⟨_, _, _, _, c4⟩ := hb5.cells
       cases K <;> cases y
       all_goals
        go_enter Tryz.func46, Tryz.ntmps46
        go_wp2_with fail
        refine HI.out.mono ?_
        rintro e w1 ⟨rfl, hw1⟩
        subst hw1
        go_wp2_with fail
        refine HJ.out.mono ?_
        rintro e w1 ⟨rfl, hw1⟩
        subst hw1
        go_wp2_with fail
        refine HO.out.mono ?_
        rintro e w1 ⟨rfl, hb1⟩
        have hbx1 := hb5.below hb1
        obtain ⟨_, _, _, _, d4⟩ := hbx1.cells
        clear hb5 hbx1 c4
        go_wp2_with fail
        go_ret
        exact ⟨ret_bool (by rw [HR.out, HK.out]; rfl), hba.trans (hb1.mono hba.size)⟩
     · have hk1 : (k == 1) = false := beq_eq_false_iff_ne.2 h1
       by_cases h23 : k = 2 ∨ k = 3
       · have HK : Hid (kindOk k l y = l.isEmpty) := by show _ = _; unfold kindOk; rw [if_neg h1, if_pos h23]
         by_cases h0 : len = 0
         · have HE : Hid (wordOk (k, s, t, l, y) = true) := by show _ = _; rw [HR.out, HK.out, List.isEmpty_iff]; exact List.eq_nil_of_length_eq_zero (by omega)
           subst h0
           rcases h23 with rfl | rfl
           all_goals
            clear HR h1 hk1 HK
            go_enter Tryz.func46, Tryz.ntmps46
            go_wp2_with fail
            refine HI.out.mono ?_
            rintro e w1 ⟨rfl, hw1⟩
            subst hw1
            go_wp2_with fail
            refine HJ.out.mono ?_
            rintro e w1 ⟨rfl, hw1⟩
            subst hw1
            go_wp2_with fail
            go_ret
            exact ⟨ret_bool HE.out.symm, hba⟩
         · have HE : Hid (wordOk (k, s, t, l, y) = false) := by
            show _ = _
            rw [HR.out, HK.out]
            cases l with
            | nil => simp at hl; omega
            | cons x l => rfl
           have hl0 : ((len : Int) == 0) = false := by simp; omega
           rcases h23 with rfl | rfl
           all_goals
            clear HR h1 hk1 HK
            go_enter Tryz.func46, Tryz.ntmps46
            go_wp2_with fail
            refine HI.out.mono ?_
            rintro e w1 ⟨rfl, hw1⟩
            subst hw1
            go_wp2_with fail
            refine HJ.out.mono ?_
            rintro e w1 ⟨rfl, hw1⟩
            subst hw1
            go_wp2_with fail
            go_ret
            exact ⟨ret_bool HE.out.symm, hba⟩
       · have hk2 : (k == 2) = false := beq_eq_false_iff_ne.2 (fun e => h23 (.inl e))
         have hk3 : (k == 3) = false := beq_eq_false_iff_ne.2 (fun e => h23 (.inr e))
         by_cases h4 : k = 4
         · subst h4
           have HK : Hid (kindOk 4 l y = (l.isEmpty && !y)) := rfl
           by_cases h0 : len = 0
           · obtain rfl : l = [] := List.eq_nil_of_length_eq_zero (by omega)
             subst h0
             cases y
             all_goals
              clear h1 hk1 h23 hk2 hk3
              go_enter Tryz.func46, Tryz.ntmps46
              go_wp2_with fail
              refine HI.out.mono ?_
              rintro e w1 ⟨rfl, hw1⟩
              subst hw1
              go_wp2_with fail
              refine HJ.out.mono ?_
              rintro e w1 ⟨rfl, hw1⟩
              subst hw1
              go_wp2_with fail
              go_ret
              exact ⟨ret_bool (by rw [HR.out, HK.out]; rfl), hba⟩
           · have HE : Hid (wordOk (4, s, t, l, y) = false) := by
              show _ = _
              rw [HR.out, HK.out]
              cases l with
              | nil => simp at hl; omega
              | cons x l => rfl
             have hl0 : ((len : Int) == 0) = false := by simp; omega
             clear h1 hk1 h23 hk2 hk3 HR HK
             go_enter Tryz.func46, Tryz.ntmps46
             go_wp2_with fail
             refine HI.out.mono ?_
             rintro e w1 ⟨rfl, hw1⟩
             subst hw1
             go_wp2_with fail
             refine HJ.out.mono ?_
             rintro e w1 ⟨rfl, hw1⟩
             subst hw1
             go_wp2_with fail
             go_ret
             exact ⟨ret_bool HE.out.symm, hba⟩
         · have HK : Hid (kindOk k l y = false) := by show _ = _; unfold kindOk; rw [if_neg h1, if_neg h23, if_neg h4]
           have hk4 : (k == 4) = false := beq_eq_false_iff_ne.2 h4
           clear h1 h23 h4
           go_enter Tryz.func46, Tryz.ntmps46
           go_wp2_with fail
           refine HI.out.mono ?_
           rintro e w1 ⟨rfl, hw1⟩
           subst hw1
           go_wp2_with fail
           refine HJ.out.mono ?_
           rintro e w1 ⟨rfl, hw1⟩
           subst hw1
           go_wp2_with fail
           go_ret
           exact ⟨ret_bool (by rw [HR.out, HK.out]), hba⟩
   · rw [decide_eq_false ht] at hin2
     rw [decide_eq_false ht] at HR
     have HJ := Hid.mk' hin2
     clear hin2 ht
     go_enter Tryz.func46, Tryz.ntmps46
     go_wp2_with fail
     refine HI.out.mono ?_
     rintro e w1 ⟨rfl, hw1⟩
     subst hw1
     go_wp2_with fail
     refine HJ.out.mono ?_
     rintro e w1 ⟨rfl, hw1⟩
     subst hw1
     go_wp2_with fail
     go_ret
     exact ⟨ret_bool HR.out.symm, hba⟩
 · rw [decide_eq_false hs] at hin1
   rw [decide_eq_false hs] at HR
   have HI := Hid.mk' hin1
   clear hin1 hs hin2
   go_enter Tryz.func46, Tryz.ntmps46
   go_wp2_with fail
   refine HI.out.mono ?_
   rintro e w1 ⟨rfl, hw1⟩
   subst hw1
   go_wp2_with fail
   go_ret
   exact ⟨ret_bool HR.out.symm, hba⟩
end wds
namespace wos
open Go Go.RowKit base pairs ords lay
theorem on_same {f : FuncId} {args : Array Value} {B : Nat} {w : World} {v : Value} (x : last.On B w) (h : Calls Tryz.prog f args x.w fun e w' => e = .returned v ∧ w' = x.w) : Calls Tryz.prog f args x.w fun e w' => e = .returned v ∧ ∃ y : last.On B w, w' = y.w :=
 h.mono fun e w' ⟨he, hw⟩ => ⟨he, x, hw⟩
theorem upto_next {p : Nat → Bool} {k : Nat} (h : ∀ j, j < k → p j = true) (hk : p k = true) : ∀ j, j < k + 1 → p j = true := fun j hj => by
 by_cases e : j = k
 · subst e; exact hk
 · exact h j (by omega)
def holdsAt {α : Type} (p : α → Bool) (l : List α) (j : Nat) : Bool := match l[j]? with
 | none => true
 | some y => p y
theorem holdsAt_at {α : Type} {p : α → Bool} {l : List α} {k : Nat} (hk : k < l.length) : holdsAt p l k = p l[k] := by
 unfold holdsAt
 rw [List.getElem?_eq_getElem hk]
theorem all_at {α : Type} {p : α → Bool} {l : List α} : l.all p = (List.range l.length).all (holdsAt p l) := by
 cases e : (List.range l.length).all (holdsAt p l)
 · rw [List.all_eq_false] at e ⊢
   obtain ⟨k, hk, hp⟩ := e
   have hk := List.mem_range.1 hk
   rw [holdsAt_at hk] at hp
   exact ⟨l[k], List.getElem_mem hk, hp⟩
 · rw [List.all_eq_true] at e ⊢
   intro y hy
   obtain ⟨k, hk, rfl⟩ := List.getElem_of_mem hy
   have := e k (List.mem_range.2 hk)
   rwa [holdsAt_at hk] at this
set_option maxRecDepth 100000 in
set_option maxHeartbeats 4000000 in
theorem spec_l12Words (ja : Option Addr) (jn jc : Nat) (la : Option Addr) (ln lc : Nat) (sa : Option Addr) (sn sc : Nat) (na : Option Addr) (nn nc : Nat) (oa : Option Addr) (on oc : Nat) (ba : Option Addr) (bn bc : Nat) (x : Wo) (va : Option Addr) (vn vc : Nat) (l : List wds.Wd) (w : World) (h : SeeWo w ja jn jc la ln lc sa sn sc na nn nc oa on oc ba bn bc x) (hv : SlG cos.wordR w va vn l) (hks : ∀ y ∈ l, ∀ p ∈ y.2.2.2.1, p.2.1.size ≤ 1099511627776) :
 Calls Tryz.prog 17 #[.agg #[.int .i64 x.1.1, .int .i64 x.1.2.1, .int .i64 x.1.2.2.1, .slice ja jn jc, .slice la ln lc, .int .i64 x.1.2.2.2.2.2, .slice sa sn sc, .slice na nn nc, .slice oa on oc, .slice ba bn bc], .slice va vn vc] w fun e w' => e = .returned (.bool (wordsO (sn : Int) l)) ∧ Below w.heap.size w w' := by
 obtain ⟨W, hW⟩ : ∃ W, w.alloc (.cells #[.int .i64 x.1.1, .int .i64 x.1.2.1, .int .i64 x.1.2.2.1, .slice ja jn jc, .slice la ln lc, .int .i64 x.1.2.2.2.2.2, .slice sa sn sc, .slice na nn nc, .slice oa on oc, .slice ba bn bc] 41) = W := ⟨_, rfl⟩
 have hB : Below w.heap.size w W := by rw [← hW]; exact below_make
 have hX : BoxIn w.heap.size 41 [] [.int .i64 x.1.1, .int .i64 x.1.2.1, .int .i64 x.1.2.2.1, .slice ja jn jc, .slice la ln lc, .int .i64 x.1.2.2.2.2.2, .slice sa sn sc, .slice na nn nc, .slice oa on oc, .slice ba bn bc] [] W := by rw [← hW]; exact boxIn_new w _ _
 have hL := hv.below hB
 have hm := hv.2.1
 have hsm := h.sh.2.1
 unfold maxLen at hm hsm
 have HLL := Hid.mk' hv.1
 have HR : Hid (wordsO (sn : Int) l = (decide (vn ≤ 400) && (List.range vn).all (holdsAt (wordA (sn : Int)) l))) := by show _ = _; unfold wordsO; rw [all_at, hv.1]
 have HW := Hid.mk' hW
 have HKS := Hid.mk' hks
 clear hW h hv hks
 go_enter Tryz.func17, Tryz.ntmps17
 go_wp2_with fail
 rw [HW.out]
 go_loopw [5] (fun i wr => ∃ k : Nat, k ≤ vn ∧ i = .int .i64 (k : Int) ∧ Below W.heap.size W wr ∧ ∀ j, j < k → holdsAt (wordA (sn : Int)) l j = true) (fun i _ => vn - (intOf i).toNat)
 case atStart => exact ⟨0, Nat.zero_le _, rfl, Below.refl _ _, fun j hj => absurd hj (Nat.not_lt_zero _)⟩
 case round =>
  obtain ⟨k, hk, rfl, hb, hno⟩ := hrel
  have HNO := Hid.mk' hno
  have hBw := hB.trans (hb.mono hB.size)
  clear hno
  by_cases hlt : k < vn
  · have hki : (k : Int) < (vn : Int) := by omega
    have hkl : k < l.length := by have := HLL.out; omega
    obtain ⟨b, off, hba⟩ := cos.slg_some hL (by omega)
    subst hba
    obtain ⟨oa', ol', oc', c0, c1, c2, c3, c4, hSo, _, _⟩ := word_at (hL.below hb) k hkl
    obtain ⟨a0, a1, a2, a3, a4, a5, a6, a7, a8, a9⟩ := cells10 (hX.below hb)
    have HV : Hid (holdsAt (wordA (sn : Int)) l k = (wds.wordOk l[k] && decide (l[k].2.1 < (sn : Int)))) := by show _ = _; rw [holdsAt_at hkl]; rfl
    have HP : Hid ((holdsAt (wordA (sn : Int)) l k = false → wordsO (sn : Int) l = false) ∧ (holdsAt (wordA (sn : Int)) l k = true → ∀ j, j < k + 1 → holdsAt (wordA (sn : Int)) l j = true)) := ⟨fun e => by rw [HR.out, range_miss hlt e, Bool.and_false], upto_next HNO.out⟩
    have HC := Hid.mk' (fun wx (hx : Below wr.heap.size wr wx) => wds.spec_wordOk l[k].1 l[k].2.1 l[k].2.2.1 oa' ol' oc' l[k].2.2.2.1 l[k].2.2.2.2 wx (hSo.below hx) (HKS.out _ (List.getElem_mem hkl)))
    generalize holdsAt (wordA (sn : Int)) l k = hv at *
    generalize l[k] = m at *
    obtain ⟨mk, ms, mt, mo, my⟩ := m
    simp only [] at c0 c1 c2 c3 c4 hSo HV HC
    generalize wds.wordOk (mk, ms, mt, mo, my) = r at *
    have pc0 := last.On.cell (B := wr.heap.size) c0 (World.block_lt_of_cell? _ _ c0)
    have pc1 := last.On.cell (B := wr.heap.size) c1 (World.block_lt_of_cell? _ _ c1)
    have pc2 := last.On.cell (B := wr.heap.size) c2 (World.block_lt_of_cell? _ _ c2)
    have pc3 := last.On.cell (B := wr.heap.size) c3 (World.block_lt_of_cell? _ _ c3)
    have pc4 := last.On.cell (B := wr.heap.size) c4 (World.block_lt_of_cell? _ _ c4)
    have pa6 := last.On.cell (B := wr.heap.size) a6 (World.block_lt_of_cell? _ _ a6)
    have hinh := last.On.inh wr.heap.size wr
    have hc0 : ∀ xx : last.On wr.heap.size wr, Calls Tryz.prog 46 #[.agg #[.int .i64 mk, .int .i64 ms, .int .i64 mt, .slice oa' ol' oc', .bool my]] xx.w fun e w' => e = .returned (.bool r) ∧ ∃ yv : last.On wr.heap.size wr, w' = yv.w := fun xx => last.Calls.on xx (Nat.le_refl _) (HC.out xx.w xx.2)
    clear c0 c1 c2 c3 c4 HC a0 a1 a2 a3 a4 a5 a6 a7 a8 a9
    cases r
    · have HF := Hid.mk' (HP.out.1 (by rw [HV.out]; rfl))
      clear HP HV
      go_wp2_with fail
      refine last.wp_region_on wr.heap.size (by kernel_rfl) (by kernel_rfl) ?_
      repeat (go_big_quiet_step ((first | (go_at_call 46; with_reducible exact hc0 _))))
      refine wpQuiet_nil ?_
      intro wq hwq
      obtain ⟨xq, hwq⟩ := hwq
      subst hwq
      have hbq : Below wr.heap.size wr xq.w := xq.2
      go_wp2_with fail
      go_ret
      exact ⟨by rw [HF.out]; rfl, hBw.trans (hbq.mono hBw.size)⟩
    · by_cases e : ms < (sn : Int)
      · have HF := Hid.mk' (HP.out.2 (by rw [HV.out]; simp [e]))
        have d1 : decide ((sn : Int) ≤ ms) = false := decide_eq_false (by omega)
        clear HP HV e
        go_wp2_with fail
        refine last.wp_region_on wr.heap.size (by kernel_rfl) (by kernel_rfl) ?_
        repeat (go_big_quiet_step ((first | (go_at_call 46; with_reducible exact hc0 _))))
        refine wpQuiet_nil ?_
        intro wq hwq
        obtain ⟨xq, hwq⟩ := hwq
        subst hwq
        have hbq : Below wr.heap.size wr xq.w := xq.2
        go_wp2_with fail
        go_roundw
        case rel => exact ⟨k + 1, by omega, by go_num, hb.trans (hbq.mono hb.size), HF.out⟩
        case measure => simp [intOf]; omega
      · have HF := Hid.mk' (HP.out.1 (by rw [HV.out]; simp [e]))
        have d1 : decide ((sn : Int) ≤ ms) = true := decide_eq_true (by omega)
        clear HP HV e
        go_wp2_with fail
        refine last.wp_region_on wr.heap.size (by kernel_rfl) (by kernel_rfl) ?_
        repeat (go_big_quiet_step ((first | (go_at_call 46; with_reducible exact hc0 _))))
        refine wpQuiet_nil ?_
        intro wq hwq
        obtain ⟨xq, hwq⟩ := hwq
        subst hwq
        have hbq : Below wr.heap.size wr xq.w := xq.2
        go_wp2_with fail
        go_ret
        exact ⟨by rw [HF.out]; rfl, hBw.trans (hbq.mono hBw.size)⟩
  · have hki : ¬ (k : Int) < (vn : Int) := by omega
    have HF : Hid (wordsO (sn : Int) l = decide (vn ≤ 400)) := by show _ = _; rw [HR.out, range_every (fun j hj => HNO.out j (by omega)), Bool.and_true]
    by_cases e : vn ≤ 400
    · rw [decide_eq_true e] at HF
      have e1 : (vn : Int) ≤ 400 := by omega
      clear e
      go_wp2_with fail
      go_ret
      exact ⟨by rw [HF.out]; first | rfl | simp [e1], hBw⟩
    · rw [decide_eq_false e] at HF
      have e1 : ¬ (vn : Int) ≤ 400 := by omega
      clear e
      go_wp2_with fail
      go_ret
      exact ⟨by rw [HF.out]; first | rfl | simp [e1], hBw⟩
end wos
end Go.Proofs.YtijplooogplccaaGreat
