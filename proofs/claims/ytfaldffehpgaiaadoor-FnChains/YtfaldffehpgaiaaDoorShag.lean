/- The specification's seals: whether one is right. Types without slices. No function of the program is named here. A struct in a block of its own, and what it owns, whatever the struct. No function of the program is named here. Rows of structs that own memory: made, an element written, an element turned. No function of the program is named here. Cells of elements of rows; a struct written whole. No function of the program is named here. How seals lie in memory. No function of the program is named here. The program's seals: their parts. -/
import Derived.Test.YtfaldffehpgaiaaDoorShad
import Derived.Test.YtfaldffehpgaiaaDoorShab
import Derived.Test.YtfaldffehpgaiaaDoorShaf
import Derived.Test.YtfaldffehpgaiaaDoorShaa
import Derived.Laws.StructEq
namespace Go.Proofs.YtfaldffehpgaiaaDoor.seals
open Go Go.RowKit Go.Proofs.YtfaldffehpgaiaaDoor.base Go.Proofs.YtfaldffehpgaiaaDoor.pairs Go.Proofs.YtfaldffehpgaiaaDoor.tree Go.Proofs.YtfaldffehpgaiaaDoor.putnum Go.Proofs.YtfaldffehpgaiaaDoor.puttext Go.Proofs.YtfaldffehpgaiaaDoor.puttexts Go.Proofs.YtfaldffehpgaiaaDoor.lay
set_option linter.unusedVariables false
set_option linter.unusedSimpArgs false

abbrev Seal := Int × ByteArray × ByteArray × List ByteArray
def sealOk (s : Seal) : Bool := decide (1 ≤ s.1 ∧ s.1 ≤ 1000) && decide (s.2.1.size = 32) && decide (1 ≤ s.2.2.2.length ∧ s.2.2.2.length ≤ 8) && s.2.2.2.all (fun r => decide (r.size = 32)) && decide (s.2.2.1 = superOf s.1 s.2.1 s.2.2.2)
theorem str_ne {a b : ByteArray} (h : a ≠ b) : (a.toList == b.toList) = false := by
  rw [beq_eq_false_iff_ne]; intro e; rw [ByteArray.toList_eq, ByteArray.toList_eq] at e; exact h (by cases a; cases b; simp only [ByteArray.mk.injEq]; exact Array.toList_inj.1 e)
theorem str_same (a : ByteArray) : (a.toList == a.toList) = true := by simp
theorem sum_32 {l : List ByteArray} (h : ∀ r ∈ l, r.size = 32) : sum l = 32 * l.length := by
  induction l with
  | nil => rfl
  | cons r l ih =>
    have h1 := ih (fun x hx => h x (List.mem_cons_of_mem _ hx))
    have h2 := h r List.mem_cons_self
    simp only [sum, List.map_cons, List.sum_cons, List.length_cons] at *
    omega
theorem s_in (x a b : Int) (w : World) :
    Calls Tryd.prog 30 #[.int .i64 x, .int .i64 a, .int .i64 b] w fun e w' => e = .returned (.bool (decide (a ≤ x ∧ x ≤ b))) ∧ w' = w := by
  by_cases h1 : a ≤ x
  · by_cases h2 : x ≤ b
    · go_enter Tryd.func30, Tryd.ntmps30
      go_wp2
      go_ret
      exact ⟨by simp [h1, h2], rfl⟩
    · go_enter Tryd.func30, Tryd.ntmps30
      go_wp2
      go_ret
      exact ⟨by simp [h1, h2], rfl⟩
  · go_enter Tryd.func30, Tryd.ntmps30
    go_wp2
    go_ret
    exact ⟨by have h3 : ¬ a ≤ x := by omega
              simp [h3], rfl⟩
theorem box4 {X : Nat} {T : TypeId} {w : World} {v0 v1 v2 v3 : Value} (h : BoxIn X T [] [v0, v1, v2, v3] [] w) : w.cell? ⟨X, 0, none⟩ = some v0 ∧ w.cell? ⟨X, 1, none⟩ = some v1 ∧ w.cell? ⟨X, 2, none⟩ = some v2 ∧ w.cell? ⟨X, 3, none⟩ = some v3 := by
  have a0 := h.cell 0 _ rfl
  have a1 := h.cell 1 _ rfl
  have a2 := h.cell 2 _ rfl
  have a3 := h.cell 3 _ rfl
  simp only [List.length_nil, Nat.zero_add] at a0 a1 a2 a3
  exact ⟨a0, a1, a2, a3⟩
set_option maxRecDepth 100000 in
set_option maxHeartbeats 4000000 in
theorem spec_sealOk (a : Option Addr) (n cap : Nat) (s : Seal) (w : World) (h : SlS w a n s.2.2.2) (hno : (Lit.int .i64 s.1).wf = true) (hp : s.2.1.size ≤ maxLen) :
    Calls Tryd.prog 11 #[.agg #[.int .i64 s.1, .string s.2.1, .string s.2.2.1, .slice a n cap]] w fun e w' => e = .returned (.bool (sealOk s)) ∧ Below w.heap.size w w' := by
  obtain ⟨no, pv, su, rs⟩ := s
  simp only [] at *
  obtain ⟨W, hW⟩ : ∃ W, w.alloc (.cells #[.int .i64 no, .string pv, .string su, .slice a n cap] 29) = W := ⟨_, rfl⟩
  have hB : Below w.heap.size w W := by rw [← hW]; exact (Below.refl _ _).alloc (Nat.le_refl _) _
  have hX : BoxIn w.heap.size 29 [] [.int .i64 no, .string pv, .string su, .slice a n cap] [] W := by rw [← hW]; exact boxIn_new w _ _
  have hS := h.below hB
  have hl := h.1
  have hm := h.2.1
  unfold maxLen at hm hp
  have HLL := Hid.mk' hl
  have HR : Hid (sealOk (no, pv, su, rs) = (decide (1 ≤ no ∧ no ≤ 1000) && decide (pv.size = 32) && decide (1 ≤ (n : Int) ∧ (n : Int) ≤ 8) && rs.all (fun r => decide (r.size = 32)) && decide (su = superOf no pv rs))) := by
    show _ = _
    unfold sealOk
    simp only [hl]
    rw [show (decide (1 ≤ n ∧ n ≤ 8)) = decide (1 ≤ (n : Int) ∧ (n : Int) ≤ 8) from decide_eq_decide.2 ⟨fun e => ⟨by omega, by omega⟩, fun e => ⟨by omega, by omega⟩⟩]
  generalize sealOk (no, pv, su, rs) = R at *
  have HI1 := Hid.mk' (s_in no 1 1000 W)
  have HI2 := Hid.mk' (s_in (n : Int) 1 8 W)
  have HW := Hid.mk' hW
  obtain ⟨a0, a1, a2, a3⟩ := box4 hX
  rw [← hW] at a0 a1 a2 a3
  clear hW h hl
  generalize decide (1 ≤ no ∧ no ≤ 1000) = r0 at *
  have HN8 : Hid (decide (1 ≤ (n : Int) ∧ (n : Int) ≤ 8) = true → n ≤ 8) := fun e => by have := of_decide_eq_true e; omega
  generalize decide (1 ≤ (n : Int) ∧ (n : Int) ≤ 8) = r2 at *
  go_enter Tryd.func11, Tryd.ntmps11
  go_wp2_with fail
  rw [HW.out]
  rw [HW.out] at a0 a1 a2 a3
  refine HI1.out.mono ?_
  rintro e w1 ⟨rfl, hw1⟩
  replace hw1 := hw1.symm
  subst hw1
  cases r0
  · have HF : Hid (R = false) := by show _ = _; rw [HR.out]; simp
    clear HR
    go_wp2_with fail
    go_ret
    exact ⟨by rw [HF.out]; rfl, hB⟩
  by_cases e32 : pv.size = 32
  · have d32 : ((pv.size : Int) != 32) = false := by simp; omega
    have HR2 : Hid (R = (r2 && rs.all (fun r => decide (r.size = 32)) && decide (su = superOf no pv rs))) := by show _ = _; rw [HR.out]; simp [e32]
    have hpv : pv.size ≤ 1048576 := by omega
    clear HR e32
    go_wp2_with fail
    refine HI2.out.mono ?_
    rintro e w1 ⟨rfl, hw1⟩
    replace hw1 := hw1.symm
    subst hw1
    cases r2
    · have HF : Hid (R = false) := by show _ = _; rw [HR2.out]; simp
      clear HR2
      go_wp2_with fail
      go_ret
      exact ⟨by rw [HF.out]; rfl, hB⟩
    have hn8 : n ≤ 8 := HN8.out rfl
    go_wp2_with fail
    clear a0 a1 a2 a3
    go_loopw [3] (fun i wr => ∃ k : Nat, k ≤ n ∧ i = .int .i64 (k : Int) ∧ Below W.heap.size W wr ∧ ∀ j (hj : j < k) (hl : j < rs.length), rs[j].size = 32) (fun i _ => n - (intOf i).toNat)
    case atStart => exact ⟨0, Nat.zero_le _, rfl, Below.refl _ _, fun j hj => absurd hj (Nat.not_lt_zero _)⟩
    case round =>
      obtain ⟨k, hk, rfl, hb, hno2⟩ := hrel
      have hBw := hB.trans (hb.mono hB.size)
      have HNO := Hid.mk' hno2
      clear hno2
      obtain ⟨a0, a1, a2, a3⟩ := box4 (hX.below hb)
      by_cases hlt : k < n
      · have hki : (k : Int) < (n : Int) := by omega
        have hkl : k < rs.length := by have := HLL.out; omega
        obtain ⟨b, off, hba, hc⟩ := (hS.below hb).2.2.2 (by omega)
        subst hba
        have c0 : wr.cell? ⟨b, off + k, none⟩ = some (.string rs[k]) := hc k hkl
        clear hc
        have hsz : rs[k].size ≤ maxLen := hS.2.2.1 _ (List.getElem_mem hkl)
        unfold maxLen at hsz
        by_cases e : rs[k].size = 32
        · have de : ((rs[k].size : Int) != 32) = false := by simp; omega
          have HF : Hid (∀ j (hj : j < k + 1) (hl : j < rs.length), rs[j].size = 32) := fun j hj hl => by
            by_cases hjk : j = k
            · subst hjk; exact e
            · exact HNO.out j (by omega) hl
          clear e
          generalize rs[k] = r at *
          go_wp2_with fail
          go_roundw
          case rel => exact ⟨k + 1, by omega, by go_num, hb, HF.out⟩
          case measure => simp [intOf]; omega
        · have de : ((rs[k].size : Int) != 32) = true := by simp; omega
          have HF : Hid (R = false) := by
            show _ = _
            rw [HR2.out]
            have : rs.all (fun r => decide (r.size = 32)) = false := by
              rw [List.all_eq_false]
              exact ⟨rs[k], List.getElem_mem hkl, by simp [e]⟩
            rw [this]; simp
          clear e
          generalize rs[k] = r at *
          go_wp2_with fail
          go_ret
          exact ⟨by rw [HF.out]; rfl, hBw⟩
      · have hki : ¬ (k : Int) < (n : Int) := by omega
        have hall : ∀ r ∈ rs, r.size = 32 := fun r hr => by
          obtain ⟨j, hj, rfl⟩ := List.getElem_of_mem hr
          exact HNO.out j (by have := HLL.out; omega) hj
        have HR3 : Hid (R = decide (su = superOf no pv rs)) := by
          show _ = _
          rw [HR2.out]
          have : rs.all (fun r => decide (r.size = 32)) = true := List.all_eq_true.2 fun r hr => by simp [hall r hr]
          rw [this]; simp
        have hsum := sum_32 hall
        have HSU := Hid.mk' (fun wx (hx : Below wr.heap.size wr wx) => spec_superOf no pv a n cap rs wx ((hS.below hb).below hx) hno hpv (by rw [hsum, HLL.out]; omega))
        generalize superOf no pv rs = so at *
        have p0 := last.On.cell (B := wr.heap.size) a0 (World.block_lt_of_cell? _ _ a0)
        have p1 := last.On.cell (B := wr.heap.size) a1 (World.block_lt_of_cell? _ _ a1)
        have p2 := last.On.cell (B := wr.heap.size) a2 (World.block_lt_of_cell? _ _ a2)
        have p3 := last.On.cell (B := wr.heap.size) a3 (World.block_lt_of_cell? _ _ a3)
        have hinh := last.On.inh wr.heap.size wr
        have hc0 : ∀ xx : last.On wr.heap.size wr, Calls Tryd.prog 14 #[.int .i64 no, .string pv, .slice a n cap] xx.w fun e w' => e = .returned (.string so) ∧ ∃ yv : last.On wr.heap.size wr, w' = yv.w := fun xx => last.Calls.on xx (Nat.le_refl _) (HSU.out xx.w xx.2)
        clear HSU hall hsum HR2 HNO
        by_cases e : su = so
        · subst e
          have hq := str_same su
          have HF : Hid (R = true) := by show _ = _; rw [HR3.out]; simp
          clear HR3
          go_wp2_with fail
          clear a0 a1 a2 a3
          refine last.wp_region_on wr.heap.size (by kernel_rfl) (by kernel_rfl) ?_
          repeat (go_big_quiet_step ((go_at_call 14; with_reducible exact hc0 _)))
          refine wpQuiet_nil ?_
          intro wq hwq
          obtain ⟨xq, hwq⟩ := hwq
          subst hwq
          have hbq : Below wr.heap.size wr xq.w := xq.2
          go_wp2_with fail
          go_ret
          exact ⟨by rw [HF.out]; first | rfl | simp, hBw.trans (hbq.mono hBw.size)⟩
        · have hq := str_ne e
          have HF : Hid (R = false) := by show _ = _; rw [HR3.out]; simp [e]
          clear HR3
          go_wp2_with fail
          clear a0 a1 a2 a3
          refine last.wp_region_on wr.heap.size (by kernel_rfl) (by kernel_rfl) ?_
          repeat (go_big_quiet_step ((go_at_call 14; with_reducible exact hc0 _)))
          refine wpQuiet_nil ?_
          intro wq hwq
          obtain ⟨xq, hwq⟩ := hwq
          subst hwq
          have hbq : Below wr.heap.size wr xq.w := xq.2
          go_wp2_with fail
          go_ret
          exact ⟨by rw [HF.out]; first | rfl | simp [hq], hBw.trans (hbq.mono hBw.size)⟩
  · have d32 : ((pv.size : Int) != 32) = true := by simp; omega
    have HF : Hid (R = false) := by show _ = _; rw [HR.out]; simp [e32]
    clear HR e32
    go_wp2_with fail
    go_ret
    exact ⟨by rw [HF.out]; rfl, hB⟩
end Go.Proofs.YtfaldffehpgaiaaDoor.seals

namespace Go.Proofs.YtfaldffehpgaiaaDoor.cos
open Go Go.RowKit Go.Proofs.YtfaldffehpgaiaaDoor.base Go.Proofs.YtfaldffehpgaiaaDoor.lay
set_option linter.unusedVariables false
set_option linter.unusedSimpArgs false

/-! ### types without slices -/
structure Flat {α : Type} (R : Rd α) (enc : α → List Value) (ok : α → Prop) : Prop where
  own : ∀ {w vs x F}, R.own w vs x F ↔ vs = enc x ∧ ok x ∧ F = []
  see : ∀ {w vs x}, R.see w vs x ↔ vs = enc x ∧ ok x
theorem flat_int : Flat int (fun x => [.int .i64 x]) (fun x => (Lit.int .i64 x).wf = true) :=
  ⟨fun {_ _ _ _} => ⟨fun h => ⟨h.1.1, h.1.2, h.2⟩, fun h => ⟨⟨h.1, h.2.1⟩, h.2.2⟩⟩, fun {_ _ _} => Iff.rfl⟩
theorem flat_str : Flat str (fun x => [.string x]) (fun x => x.size ≤ maxLen) :=
  ⟨fun {_ _ _ _} => ⟨fun h => ⟨h.1.1, h.1.2, h.2⟩, fun h => ⟨⟨h.1, h.2.1⟩, h.2.2⟩⟩, fun {_ _ _} => Iff.rfl⟩
section
variable {α : Type} {R : Rd α} {enc : α → List Value} {ok : α → Prop} {ty : TypeId} {w : World} {v : Value} {l : List α} {q : Parts} {F : List Nat}
theorem Flat.parts (hR : Flat R enc ok) (h : OwnG ty R w v l q) : q = l.map (fun x => (enc x, [])) ∧ (∀ x ∈ l, ok x) ∧ blocksOf q = [] ∧ cellsOf q = l.flatMap enc := by
  have hl := h.len
  have e : q = l.map (fun x => (enc x, [])) := by
    refine List.ext_getElem (by simp [hl]) fun i h1 h2 => ?_
    have h3 := hR.own.1 (h.each i (by omega))
    rw [List.getElem_map]
    exact Prod.ext h3.1 h3.2.2
  refine ⟨e, fun x hx => ?_, ?_, ?_⟩
  · obtain ⟨i, hi, rfl⟩ := List.getElem_of_mem hx
    exact (hR.own.1 (h.each i hi)).2.1
  · rw [e]; unfold blocksOf; rw [List.flatMap_map]; simp
  · rw [e]; unfold cellsOf; rw [List.flatMap_map]
theorem Flat.row (hR : Flat R enc ok) (h : OwnG ty R w v l q) : w.ownsRow 0 ty R.size v l.length (l.flatMap enc) := by
  rw [← (hR.parts h).2.2.2]; exact h.row
theorem Flat.made (hR : Flat R enc ok) (hr : w.ownsRow 0 ty R.size v l.length (l.flatMap enc)) (hok : ∀ x ∈ l, ok x) : OwnG ty R w v l (l.map (fun x => (enc x, []))) := by
  have e1 : cellsOf (l.map (fun x => (enc x, ([] : List Nat)))) = l.flatMap enc := by unfold cellsOf; rw [List.flatMap_map]
  have e2 : blocksOf (l.map (fun x => (enc x, ([] : List Nat)))) = [] := by unfold blocksOf; rw [List.flatMap_map]; simp
  refine ⟨by simp, by rw [e1]; exact hr, fun i hi => ?_, by rw [e2]; cases v.ownBlock <;> simp⟩
  simp only [List.getElem_map]
  exact hR.own.2 ⟨rfl, hok _ (List.getElem_mem _), rfl⟩
theorem Flat.slice (hR : Flat R enc ok) : (lay.slice ty R).own w [v] l F ↔ w.ownsRow 0 ty R.size v l.length (l.flatMap enc) ∧ (∀ x ∈ l, ok x) ∧ F = v.ownBlock.toList := by
  constructor
  · rintro ⟨v', q, e, rfl, h⟩
    cases e
    exact ⟨hR.row h, (hR.parts h).2.1, by rw [(hR.parts h).2.2.1, List.append_nil]⟩
  · rintro ⟨h1, h2, rfl⟩
    have h3 := hR.made h1 h2
    exact ⟨v, _, rfl, by rw [(hR.parts h3).2.2.1, List.append_nil], h3⟩
end
end Go.Proofs.YtfaldffehpgaiaaDoor.cos

namespace Go.Proofs.YtfaldffehpgaiaaDoor.lay
open Go Go.RowKit Go.Proofs.YtfaldffehpgaiaaDoor.base
set_option linter.unusedVariables false

theorem below_make {w : World} {o : Obj} : Below w.heap.size w (w.alloc o) := (Below.refl _ _).alloc (Nat.le_refl _) _
section
variable {α : Type} {R : Rd α} {T : TypeId} {w w' : World} {X : Nat} {vs : List Value} {x : α} {F G : List Nat}
end
theorem cells4 {X : Nat} {T : TypeId} {w : World} {v0 v1 v2 v3 : Value} (h : BoxIn X T [] [v0, v1, v2, v3] [] w) : w.cell? ⟨X, 0, none⟩ = some v0 ∧ w.cell? ⟨X, 1, none⟩ = some v1 ∧ w.cell? ⟨X, 2, none⟩ = some v2 ∧ w.cell? ⟨X, 3, none⟩ = some v3 := by
  have a0 := h.cell 0 _ rfl
  have a1 := h.cell 1 _ rfl
  have a2 := h.cell 2 _ rfl
  have a3 := h.cell 3 _ rfl
  simp only [List.length_nil, Nat.zero_add] at a0 a1 a2 a3
  exact ⟨a0, a1, a2, a3⟩
end Go.Proofs.YtfaldffehpgaiaaDoor.lay

namespace Go.Proofs.YtfaldffehpgaiaaDoor.lay
open Go Go.RowKit Go.Proofs.YtfaldffehpgaiaaDoor.base
set_option linter.unusedVariables false
set_option linter.unusedSimpArgs false

def putAll (w : World) (g : Nat) : Nat → List Value → World
  | _, [] => w
  | o, u :: us => putAll (w.setCell ⟨g, o, none⟩ u) g (o + 1) us
def setAll (xs : List Value) : Nat → List Value → List Value
  | _, [] => xs
  | o, u :: us => setAll (xs.set o u) (o + 1) us
theorem setAll_length (us : List Value) : ∀ (xs : List Value) (o : Nat), (setAll xs o us).length = xs.length := by
  induction us with
  | nil => intro xs o; rfl
  | cons u us ih => intro xs o; rw [setAll, ih, List.length_set]
theorem setAll_get (us : List Value) : ∀ (xs : List Value) (o j : Nat) (h : o + us.length ≤ xs.length), (setAll xs o us)[j]? = if o ≤ j ∧ j < o + us.length then us[j - o]? else xs[j]? := by
  induction us with
  | nil => intro xs o j h; rw [setAll, if_neg (by simp)]
  | cons u us ih =>
    intro xs o j h
    simp only [List.length_cons] at h ⊢
    rw [setAll, ih _ _ _ (by rw [List.length_set]; omega)]
    by_cases e : j = o
    · subst e
      rw [if_neg (by omega), if_pos (by omega), List.getElem?_set_self (by omega), Nat.sub_self]; rfl
    · rw [List.getElem?_set_ne (by omega)]
      by_cases h1 : o + 1 ≤ j ∧ j < o + 1 + us.length
      · rw [if_pos h1, if_pos (by omega), show j - o = (j - (o + 1)) + 1 by omega, List.getElem?_cons_succ]
      · rw [if_neg h1, if_neg (by omega)]
theorem cellsOf_set {q : Parts} {n : Nat} (h : ∀ p ∈ q, p.1.length = n) (i : Nat) (hi : i < q.length) (us : List Value) (hu : us.length = n) (F : List Nat) : setAll (cellsOf q) (i * n) us = cellsOf (q.set i (us, F)) := by
  have hq : ∀ p ∈ q.set i (us, F), p.1.length = n := fun p hp => by
    rcases List.mem_or_eq_of_mem_set hp with h1 | h1
    · exact h p h1
    · subst h1; exact hu
  have hl1 := cellsOf_length h
  have hl2 := cellsOf_length hq
  rw [List.length_set] at hl2
  have hin : i * n + n ≤ q.length * n := by
    have := Nat.mul_le_mul_right n (show i + 1 ≤ q.length from hi)
    rw [Nat.add_mul] at this; omega
  refine List.ext_getElem? fun j => ?_
  by_cases hj : j < q.length * n
  · have hn0 : 0 < n := by
      rcases Nat.eq_zero_or_pos n with e | e
      · subst e; omega
      · exact e
    have hd := Nat.div_add_mod j n
    have hm := Nat.mod_lt j hn0
    have hjd : j / n < q.length := by
      rcases Nat.lt_or_ge (j / n) q.length with h1 | h1
      · exact h1
      · have := Nat.mul_le_mul_left n h1
        rw [Nat.mul_comm n q.length] at this; omega
    have e : j = j / n * n + j % n := by rw [Nat.mul_comm]; omega
    rw [setAll_get us _ _ _ (by omega)]
    conv => rhs; rw [e, cellsOf_get hq (j / n) (by simpa using hjd) (j % n) hm]
    by_cases hi2 : j / n = i
    · have e3 : j = i * n + j % n := by rw [← hi2]; exact e
      rw [if_pos (by omega), show j - i * n = j % n by omega]
      subst hi2
      rw [List.getElem_set_self]
    · have hne : ¬ (i * n ≤ j ∧ j < i * n + us.length) := by
        rintro ⟨h1, h2⟩
        rw [hu] at h2
        apply hi2
        rcases Nat.lt_trichotomy (j / n) i with h3 | h3 | h3
        · have := Nat.mul_le_mul_right n (show j / n + 1 ≤ i from h3)
          rw [Nat.add_mul] at this; omega
        · exact h3
        · have := Nat.mul_le_mul_right n (show i + 1 ≤ j / n from h3)
          rw [Nat.add_mul] at this; omega
      rw [if_neg hne, List.getElem_set_ne (fun e => hi2 e.symm)]
      conv => lhs; rw [e, cellsOf_get h (j / n) hjd (j % n) hm]
  · rw [List.getElem?_eq_none (by rw [setAll_length]; omega), List.getElem?_eq_none (by omega)]
section
variable {α : Type} {ty : TypeId} {R : Rd α} {w w' : World} {l : List α} {q : Parts} {g n cap : Nat}
theorem row_putAll {base size : Nat} (us : List Value) : ∀ {w : World} {xs : List Value} (o : Nat), w.ownsRow base ty size (.slice (some ⟨g, 0, none⟩) n cap) n xs → (putAll w g o us).ownsRow base ty size (.slice (some ⟨g, 0, none⟩) n cap) n (setAll xs o us) ∧ w.grownBy (putAll w g o us) (some g) := by
  induction us with
  | nil => intro w xs o h; exact ⟨h, World.grownBy.refl _ _⟩
  | cons u us ih =>
    intro w xs o h
    have s := h.stored o u
    have t := ih (o + 1) s.1
    exact ⟨t.1, grownBy_trans s.2 t.2⟩
theorem OwnG.turn {v : Value} (h : OwnG ty R w v l q) (i : Nat) (hi : i < l.length) (us : List Value) (x : α) (F : List Nat) (hr : w'.ownsRow 0 ty R.size v l.length (cellsOf (q.set i (us, F)))) (hx : R.own w' us x F)
    (hk : ∀ j (hj : j < l.length), j ≠ i → ∀ b ∈ (q[j]'(by have := h.len; omega)).2, w'.heap[b]? = w.heap[b]?) (hF : ∀ b ∈ F, b ∈ (q[i]'(by have := h.len; omega)).2 ∨ b ∉ v.ownBlock.toList ++ blocksOf q) : OwnG ty R w' v (l.set i x) (q.set i (us, F)) := by
  have hl := h.len
  have hnd := h.nodup
  refine ⟨by simp [hl], by simpa using hr, fun j hj => ?_, ?_⟩
  · have hjl : j < l.length := by simpa using hj
    by_cases e : i = j
    · subst e
      simp only [List.getElem_set_self]
      exact hx
    · simp only [List.getElem_set_ne e]
      exact R.ownAt (h.each j hjl) (hk j hjl fun e2 => e e2.symm)
  · have hxn := R.ownNodup hx
    have hqi : i < q.length := by omega
    have e1 : blocksOf q = blocksOf (q.take i) ++ (q[i].2 ++ blocksOf (q.drop (i + 1))) := by
      conv => lhs; rw [← List.take_append_drop i q, List.drop_eq_getElem_cons hqi]
      rw [blocksOf_append]; rfl
    have e2 : blocksOf (q.set i (us, F)) = blocksOf (q.take i) ++ (F ++ blocksOf (q.drop (i + 1))) := by
      rw [List.set_eq_take_append_cons_drop, if_pos hqi, blocksOf_append]; rfl
    have hF2 : ∀ b ∈ F, b ∉ v.ownBlock.toList ∧ b ∉ blocksOf (q.take i) ∧ b ∉ blocksOf (q.drop (i + 1)) := fun b hb => by
      rw [e1] at hnd
      rcases hF b hb with h1 | h1
      · obtain ⟨n1, n2, n3⟩ := nodup_parts hnd
        obtain ⟨m1, m2, m3⟩ := nodup_parts n2
        obtain ⟨k1, k2, k3⟩ := nodup_parts m2
        exact ⟨fun e => n3 b e (List.mem_append.2 (.inr (List.mem_append.2 (.inl h1)))), fun e => m3 b e (List.mem_append.2 (.inl h1)), k3 b h1⟩
      · rw [e1] at h1
        simp only [List.mem_append, not_or] at h1
        exact ⟨h1.1, h1.2.1, h1.2.2.2⟩
    rw [e1] at hnd
    obtain ⟨n1, n2, n3⟩ := nodup_parts hnd
    obtain ⟨m1, m2, m3⟩ := nodup_parts n2
    obtain ⟨k1, k2, k3⟩ := nodup_parts m2
    rw [e2]
    refine nodup_mk n1 (nodup_mk m1 (nodup_mk hxn k2 fun b hb => (hF2 b hb).2.2) fun b hb hb2 => ?_) fun b hb hb2 => ?_
    · rcases List.mem_append.1 hb2 with h1 | h1
      · exact (hF2 b h1).2.1 hb
      · exact m3 b hb (List.mem_append.2 (.inr h1))
    · rcases List.mem_append.1 hb2 with h1 | h1
      · exact n3 b hb (List.mem_append.2 (.inl h1))
      · rcases List.mem_append.1 h1 with h1 | h1
        · exact (hF2 b h1).1 hb
        · exact n3 b hb (List.mem_append.2 (.inr (List.mem_append.2 (.inr h1))))
theorem OwnG.put (h : OwnG ty R w (.slice (some ⟨g, 0, none⟩) n cap) l q) (i : Nat) (hi : i < l.length) (us : List Value) (x : α) (F : List Nat) (hx : R.own w us x F) (hF : ∀ b ∈ F, b ∉ g :: blocksOf q) :
    OwnG ty R (putAll w g (i * R.size) us) (.slice (some ⟨g, 0, none⟩) n cap) (l.set i x) (q.set i (us, F)) ∧ w.grownBy (putAll w g (i * R.size) us) (some g) := by
  have hn : n = l.length := by
    rcases h.shape with ⟨e, _⟩ | ⟨g', c', e, _⟩
    · cases e
    · cases e; rfl
  subst hn
  have hl := h.len
  have hr := row_putAll us (i * R.size) h.row
  rw [cellsOf_set h.parts i (by omega) us (R.ownLen hx) F] at hr
  have hgn : ∀ b ∈ blocksOf q, b ≠ g := fun b hb e => by
    have := (nodup_parts h.nodup).2.2 g (by simp [Value.ownBlock])
    exact this (e ▸ hb)
  refine ⟨h.turn i hi us x F hr.1 (R.ownAt hx fun k hk => hr.2.block k (R.ownLt hx k hk) fun e => hF k hk (by simp [Option.some.inj e])) (fun j hj hne b hb => ?_) (fun b hb => .inr (by simpa [Value.ownBlock] using hF b hb)), hr.2⟩
  have hbq : b ∈ blocksOf q := List.mem_flatMap.2 ⟨_, List.getElem_mem _, hb⟩
  exact hr.2.block b (R.ownLt (h.each j hj) b hb) fun e => hgn b hbq (Option.some.inj e)
end
section
variable {α : Type} {z : α} {l : List α}
end
end Go.Proofs.YtfaldffehpgaiaaDoor.lay

namespace Go.Proofs.YtfaldffehpgaiaaDoor.lay
open Go Go.RowKit Go.Proofs.YtfaldffehpgaiaaDoor.base
set_option linter.unusedVariables false
set_option linter.unusedSimpArgs false

theorem BoxIn.all {X : Nat} {T : TypeId} (us : List Value) : ∀ {vs done : List Value} {w : World}, vs.length = us.length → BoxIn X T done vs [] w → BoxIn X T done us [] (putAll w X done.length us) ∧ w.grownBy (putAll w X done.length us) (some X) := by
  induction us with
  | nil =>
    intro vs done w hl h
    have : vs = [] := List.eq_nil_of_length_eq_zero hl
    subst this
    exact ⟨h, World.grownBy.refl _ _⟩
  | cons u us ih =>
    intro vs done w hl h
    match vs, hl with
    | v :: vs, hl =>
      have s := h.set 0 (by simp) u
      rw [Nat.add_zero] at s
      have h2 : BoxIn X T (done ++ [u]) vs [] (w.setCell ⟨X, done.length, none⟩ u) := by
        have := s.1
        unfold BoxIn at this ⊢
        simpa using this
      have t := ih (by simpa using hl) h2
      rw [List.length_append, List.length_singleton] at t
      refine ⟨?_, grownBy_trans s.2 t.2⟩
      have := t.1
      unfold BoxIn at this ⊢
      simpa [putAll] using this
theorem BoxIn.whole {X : Nat} {T : TypeId} {vs : List Value} {w : World} (h : BoxIn X T [] vs [] w) (us : List Value) (hl : vs.length = us.length) : BoxIn X T [] us [] (putAll w X 0 us) ∧ w.grownBy (putAll w X 0 us) (some X) := BoxIn.all us hl h
theorem OwnG.frozen {α : Type} {ty : TypeId} {R : Rd α} {w : World} {g n cap : Nat} {l : List α} {q : Parts} (h : OwnG ty R w (.slice (some ⟨g, 0, none⟩) n cap) l q) (j : Nat) : w.frozen? ⟨g, j, none⟩ = false := by
  have hn : n = l.length := by
    rcases h.shape with ⟨e, _⟩ | ⟨g', c', e, _⟩
    · cases e
    · cases e; rfl
  subst hn
  exact h.row.frozenAt j
theorem OwnG.below {α : Type} {ty : TypeId} {R : Rd α} {w w' : World} {v : Value} {l : List α} {q : Parts} (h : OwnG ty R w v l q) (hb : Below w.heap.size w w') : OwnG ty R w' v l q := h.keep fun b hb2 => hb.block b (h.at_ b hb2)
end Go.Proofs.YtfaldffehpgaiaaDoor.lay

namespace Go.Proofs.YtfaldffehpgaiaaDoor.seals
open Go Go.RowKit Go.Proofs.YtfaldffehpgaiaaDoor.base Go.Proofs.YtfaldffehpgaiaaDoor.pairs Go.Proofs.YtfaldffehpgaiaaDoor.lay
set_option linter.unusedVariables false
set_option linter.unusedSimpArgs false

def textsR : Rd (List ByteArray) := slice 9 str
def sealR : Rd Seal := both int (both str (both str textsR))
section
variable {w w' : World} {F : List Nat} {vs : List Value} {a : Option Addr} {n cap : Nat} {v : Value}
theorem texts_see {l : List ByteArray} : textsR.see w [.slice a n cap] l ↔ SlS w a n l ∧ n ≤ cap := by
  constructor
  · rintro ⟨a', n', c', e, hc, h1, h2, h3, h4⟩
    cases e
    refine ⟨⟨h1, h2, fun p hp => ?_, fun h0 => ?_⟩, hc⟩
    · obtain ⟨vs, hv⟩ := h3 p hp
      exact (cos.flat_str.see.1 hv).2
    · obtain ⟨b, off, e, hi⟩ := h4 h0
      refine ⟨b, off, e, fun i hl => ?_⟩
      obtain ⟨vs, hs, hcl⟩ := hi i hl
      obtain ⟨rfl, _⟩ := cos.flat_str.see.1 hs
      have := hcl 0 _ rfl
      simpa [str] using this
  · rintro ⟨⟨h1, h2, h3, h4⟩, hc⟩
    refine ⟨a, n, cap, rfl, hc, h1, h2, fun p hp => ⟨_, cos.flat_str.see.2 ⟨rfl, h3 p hp⟩⟩, fun h0 => ?_⟩
    obtain ⟨b, off, e, hi⟩ := h4 h0
    refine ⟨b, off, e, fun i hl => ⟨_, cos.flat_str.see.2 ⟨rfl, h3 _ (List.getElem_mem hl)⟩, fun j u hu => ?_⟩⟩
    have c0 := hi i hl
    match j, hu with
    | 0, hu => cases hu; simpa [str] using c0
theorem seal_see {x : Seal} : sealR.see w vs x ↔ ∃ ra rn rc, vs = [.int .i64 x.1, .string x.2.1, .string x.2.2.1, .slice ra rn rc] ∧ (Lit.int .i64 x.1).wf = true ∧ x.2.1.size ≤ maxLen ∧ x.2.2.1.size ≤ maxLen ∧ SlS w ra rn x.2.2.2 ∧ rn ≤ rc := by
  constructor
  · rintro ⟨u1, t1, rfl, h1, u2, t2, rfl, h2, u3, t3, rfl, h3, h4⟩
    obtain ⟨rfl, k1⟩ := cos.flat_int.see.1 h1
    obtain ⟨rfl, k2⟩ := cos.flat_str.see.1 h2
    obtain ⟨rfl, k3⟩ := cos.flat_str.see.1 h3
    obtain ⟨ra, rn, rc, rfl, _⟩ := id h4
    have h6 := texts_see.1 h4
    exact ⟨ra, rn, rc, rfl, k1, k2, k3, h6.1, h6.2⟩
  · rintro ⟨ra, rn, rc, rfl, k1, k2, k3, h4, h5⟩
    exact ⟨[_], [_, _, _], rfl, cos.flat_int.see.2 ⟨rfl, k1⟩, [_], [_, _], rfl, cos.flat_str.see.2 ⟨rfl, k2⟩, [_], [_], rfl, cos.flat_str.see.2 ⟨rfl, k3⟩, texts_see.2 ⟨h4, h5⟩⟩
theorem seal_own {x : Seal} : sealR.own w vs x F ↔ ∃ v, vs = [.int .i64 x.1, .string x.2.1, .string x.2.2.1, v] ∧ (Lit.int .i64 x.1).wf = true ∧ x.2.1.size ≤ maxLen ∧ x.2.2.1.size ≤ maxLen ∧ textsR.own w [v] x.2.2.2 F := by
  constructor
  · rintro ⟨u1, t1, F1, G1, rfl, rfl, h1, ⟨u2, t2, F2, G2, rfl, rfl, h2, ⟨u3, t3, F3, G3, rfl, rfl, h3, h4, _⟩, _⟩, _⟩
    obtain ⟨rfl, k1, rfl⟩ := cos.flat_int.own.1 h1
    obtain ⟨rfl, k2, rfl⟩ := cos.flat_str.own.1 h2
    obtain ⟨rfl, k3, rfl⟩ := cos.flat_str.own.1 h3
    obtain ⟨v, q, rfl, _⟩ := id h4
    exact ⟨v, rfl, k1, k2, k3, by simpa using h4⟩
  · rintro ⟨v, rfl, k1, k2, k3, h4⟩
    have hn := textsR.ownNodup h4
    exact ⟨[_], [_, _, v], [], F, rfl, rfl, cos.flat_int.own.2 ⟨rfl, k1, rfl⟩, ⟨[_], [_, v], [], F, rfl, rfl, cos.flat_str.own.2 ⟨rfl, k2, rfl⟩, ⟨[_], [v], [], F, rfl, rfl, cos.flat_str.own.2 ⟨rfl, k3, rfl⟩, h4, hn⟩, hn⟩, hn⟩
theorem seal_at {b off len : Nat} {l : List Seal} (h : SlG sealR w (some ⟨b, off, none⟩) len l) (i : Nat) (hi : i < l.length) : ∃ ra rn rc, w.cell? ⟨b, off + i * 4, none⟩ = some (.int .i64 l[i].1) ∧ w.cell? ⟨b, off + i * 4 + 1, none⟩ = some (.string l[i].2.1) ∧ w.cell? ⟨b, off + i * 4 + 2, none⟩ = some (.string l[i].2.2.1) ∧ w.cell? ⟨b, off + i * 4 + 3, none⟩ = some (.slice ra rn rc) ∧ SlS w ra rn l[i].2.2.2 ∧ rn ≤ rc ∧ (Lit.int .i64 l[i].1).wf = true ∧ l[i].2.1.size ≤ maxLen ∧ l[i].2.2.1.size ≤ maxLen := by
  obtain ⟨b', off', e, hc⟩ := h.2.2.2 (by have := h.1; omega)
  simp only [Option.some.injEq, Addr.mk.injEq, and_true] at e
  obtain ⟨rfl, rfl⟩ := e
  obtain ⟨vs, hs, hcl⟩ := hc i hi
  obtain ⟨ra, rn, rc, rfl, k1, k2, k3, h5⟩ := seal_see.1 hs
  exact ⟨ra, rn, rc, hcl 0 _ rfl, hcl 1 _ rfl, hcl 2 _ rfl, hcl 3 _ rfl, h5.1, h5.2, k1, k2, k3⟩
theorem seal_vals {p : Seal} (h : sealR.own w vs p F) : ∃ ra rn rc, vs = [.int .i64 p.1, .string p.2.1, .string p.2.2.1, .slice ra rn rc] := by
  obtain ⟨ra, rn, rc, e, _⟩ := seal_see.1 (sealR.ownSee h)
  exact ⟨ra, rn, rc, e⟩
end
end Go.Proofs.YtfaldffehpgaiaaDoor.seals

namespace Go.Proofs.YtfaldffehpgaiaaDoor.seals
open Go Go.RowKit Go.Proofs.YtfaldffehpgaiaaDoor.base Go.Proofs.YtfaldffehpgaiaaDoor.pairs Go.Proofs.YtfaldffehpgaiaaDoor.tree Go.Proofs.YtfaldffehpgaiaaDoor.lay
set_option linter.unusedVariables false
set_option linter.unusedSimpArgs false

def is32 (r : ByteArray) : Bool := decide (r.size = 32)
def prevOf (l : List Seal) : ByteArray := match l.getLast? with
  | none => dg []
  | some s => s.2.2.1
theorem prevOf_nil : prevOf [] = dg [] := rfl
theorem prevOf_some {l : List Seal} (h : 0 < l.length) : prevOf l = (l[l.length - 1]'(by omega)).2.2.1 := by
  unfold prevOf
  rw [List.getLast?_eq_getElem?, List.getElem?_eq_getElem (by omega)]
theorem i_isNo (s : ByteArray) (w : World) (hs : s.size ≤ maxLen) :
    Calls Tryd.prog 25 #[.string s] w fun e w' => e = .returned (.bool (!is32 s)) ∧ w' = w := by
  unfold maxLen at hs
  have HR : Hid ((!is32 s) = ((s.size : Int) != 32)) := by
    show _ = _
    unfold is32
    by_cases h : s.size = 32
    · rw [decide_eq_true h, h]; rfl
    · rw [decide_eq_false h]; have : (s.size : Int) ≠ 32 := by omega
      simp [this]
  go_enter Tryd.func25, Tryd.ntmps25
  go_wp2
  go_ret
  exact ⟨by rw [HR.out]; rfl, rfl⟩
theorem i_count (n : Int) (w : World) : Calls Tryd.prog 44 #[.int .i64 n] w fun e w' => e = .returned (.bool (decide (1 ≤ n ∧ n ≤ 8))) ∧ w' = w := by
  by_cases h1 : n ≥ 1
  · have h1' : 1 ≤ n := h1
    by_cases h2 : n ≤ 8
    · go_enter Tryd.func44, Tryd.ntmps44
      go_wp2
      go_ret
      exact ⟨by simp [h1', h2], rfl⟩
    · go_enter Tryd.func44, Tryd.ntmps44
      go_wp2
      go_ret
      exact ⟨by simp [h1', h2], rfl⟩
  · go_enter Tryd.func44, Tryd.ntmps44
    go_wp2
    go_ret
    exact ⟨by have h3 : ¬ 1 ≤ n := by omega
              simp [h3], rfl⟩
set_option maxRecDepth 100000 in
set_option maxHeartbeats 1000000 in
theorem i_indexNo (a : Option Addr) (n cap : Nat) (l : List ByteArray) (w : World) (h : SlS w a n l) :
    Calls Tryd.prog 63 #[.slice a n cap, .func (.func 25) #[] #[]] w fun e w' => ∃ z : Int, e = .returned (.int .i64 z) ∧ (l.all is32 = decide (z < 0)) ∧ w' = w := by
  obtain ⟨hl, hm, hsm, hc⟩ := h
  subst hl
  have HM := Hid.mk' hsm
  unfold maxLen at hm
  clear hsm
  go_enter Tryd.func63, Tryd.ntmps63
  go_wp2_with fail
  go_loopw [8] (fun i wr => ∃ k : Nat, k ≤ l.length ∧ i = .int .i64 (k : Int) ∧ (∀ j (hj : j < k) (hl : j < l.length), is32 l[j] = true) ∧ wr = w) (fun i _ => l.length - (intOf i).toNat)
  case atStart => exact ⟨0, Nat.zero_le _, rfl, fun j hj => absurd hj (Nat.not_lt_zero _), rfl⟩
  case round =>
    obtain ⟨k, hk, rfl, hno, rfl⟩ := hrel
    have HNO := Hid.mk' hno
    clear hno
    by_cases hlt : k < l.length
    · obtain ⟨b, off, ha, hcl⟩ := hc (by omega)
      subst ha
      have c0 := hcl k hlt
      have hki : (k : Int) < (l.length : Int) := by omega
      have HC := Hid.mk' (i_isNo l[k] wr (HM.out _ (List.getElem_mem hlt)))
      cases hr : is32 l[k] with
      | false =>
        have HF : Hid (l.all is32 = false) := by
          show _ = _
          rw [List.all_eq_false]
          exact ⟨l[k], List.getElem_mem hlt, by rw [hr]; simp⟩
        rw [hr] at HC
        clear hr hcl hc
        generalize l[k] = s at *
        go_wp2_with fail
        refine HC.out.mono ?_
        rintro e w1 ⟨rfl, hw1⟩
        replace hw1 := hw1.symm
        subst hw1
        go_wp2_with fail
        go_ret
        exact ⟨_, rfl, by rw [HF.out]; symm; rw [decide_eq_false_iff_not]; omega, rfl⟩
      | true =>
        have HF : Hid (∀ j (hj : j < k + 1) (hl : j < l.length), is32 l[j] = true) := fun j hj hl => by
          by_cases hjk : j = k
          · subst hjk; exact hr
          · exact HNO.out j (by omega) hl
        rw [hr] at HC
        clear hr hcl
        generalize l[k] = s at *
        go_wp2_with fail
        refine HC.out.mono ?_
        rintro e w1 ⟨rfl, hw1⟩
        replace hw1 := hw1.symm
        subst hw1
        go_wp2_with fail
        go_roundw
        case rel => exact ⟨k + 1, by omega, by go_num, HF.out, by first | rfl | trivial⟩
        case measure => simp [intOf]; omega
    · have hki : ¬ (k : Int) < (l.length : Int) := by omega
      have HF : Hid (l.all is32 = true) := by
        show _ = _
        rw [List.all_eq_true]
        intro r hr
        obtain ⟨j, hj, rfl⟩ := List.getElem_of_mem hr
        exact HNO.out j (by omega) hj
      go_wp2_with fail
      go_ret
      exact ⟨_, rfl, by rw [HF.out]; rfl, rfl⟩
set_option maxRecDepth 100000 in
theorem i_containsNo (a : Option Addr) (n cap : Nat) (l : List ByteArray) (w : World) (h : SlS w a n l) :
    Calls Tryd.prog 45 #[.slice a n cap, .func (.func 25) #[] #[]] w fun e w' => e = .returned (.bool (!l.all is32)) ∧ w' = w := by
  have HC := Hid.mk' (i_indexNo a n cap l w h)
  clear h
  go_enter Tryd.func45, Tryd.ntmps45
  go_wp2_with fail
  refine HC.out.mono ?_
  rintro e w1 ⟨z, rfl, hz, hw1⟩
  replace hw1 := hw1.symm
  subst hw1
  have HZ := Hid.mk' hz
  clear hz
  by_cases h0 : z ≥ 0
  · go_wp2_with fail
    go_ret
    exact ⟨by rw [HZ.out, decide_eq_false (show ¬ z < 0 by omega)]; first | rfl | simp [h0], rfl⟩
  · go_wp2_with fail
    go_ret
    exact ⟨by rw [HZ.out, decide_eq_true (show z < 0 by omega)]; first | rfl | simp [h0], rfl⟩
set_option maxRecDepth 100000 in
theorem i_rootsOk (a : Option Addr) (n cap : Nat) (l : List ByteArray) (w : World) (h : SlS w a n l) :
    Calls Tryd.prog 26 #[.slice a n cap] w fun e w' => e = .returned (.bool (decide (1 ≤ (n : Int) ∧ (n : Int) ≤ 8) && l.all is32)) ∧ w' = w := by
  have hm := h.2.1
  unfold maxLen at hm
  have HC := Hid.mk' (i_containsNo a n cap l w h)
  have HN := Hid.mk' (i_count (n : Int) w)
  generalize decide (1 ≤ (n : Int) ∧ (n : Int) ≤ 8) = r1 at *
  generalize l.all is32 = r2 at *
  clear h
  cases r1 <;> cases r2
  all_goals
    go_enter Tryd.func26, Tryd.ntmps26
    go_wp2_with fail
    refine HN.out.mono ?_
    rintro e w1 ⟨rfl, hw1⟩
    replace hw1 := hw1.symm
    subst hw1
    go_wp2_with fail
    first
      | (go_ret
         exact ⟨rfl, rfl⟩)
      | (refine HC.out.mono ?_
         rintro e w1 ⟨rfl, hw1⟩
         replace hw1 := hw1.symm
         subst hw1
         go_wp2_with fail
         go_ret
         exact ⟨rfl, rfl⟩)
set_option maxRecDepth 100000 in
theorem i_ahead (a : Option Addr) (n cap : Nat) (l : List Seal) (w : World) (h : SlG sealR w a n l) (hK : sha.KW w) :
    Calls Tryd.prog 27 #[.slice a n cap] w fun e w' => e = .returned (.string (prevOf l)) ∧ Below w.heap.size w w' := by
  have hl := h.1
  have hm := h.2.1
  unfold maxLen at hm
  by_cases h0 : n = 0
  · subst h0
    have e0 : l = [] := List.eq_nil_of_length_eq_zero hl
    subst e0
    have HD := Hid.mk' (sha.impl_digestA none 0 0 [] w (sl_nil _ _) (by omega) hK)
    clear h
    go_enter Tryd.func27, Tryd.ntmps27
    go_wp2_with fail
    refine HD.out.mono ?_
    rintro e w1 ⟨rfl, hb⟩
    go_wp2_with fail
    go_ret
    exact ⟨rfl, hb⟩
  · obtain ⟨b, off, ha, _⟩ := h.2.2.2 (by omega)
    subst ha
    obtain ⟨k, hk⟩ : ∃ k, n = k + 1 := ⟨n - 1, by omega⟩
    have hkl : k < l.length := by omega
    obtain ⟨ra, rn, rc, c0, c1, c2, c3, _⟩ := seal_at h k hkl
    have HP : Hid (prevOf l = l[k].2.2.1) := by
      show _ = _
      rw [prevOf_some (by omega)]
      have e1 : l.length - 1 = k := by omega
      simp only [e1]
    have hn0 : ((n : Int) == 0) = false := by simp; omega
    have hn1 : (n : Int) - 1 = (k : Int) := by omega
    have hlt : (k : Int) < (n : Int) := by omega
    clear hk hl
    generalize l[k] = s at *
    clear h
    go_enter Tryd.func27, Tryd.ntmps27
    go_wp2_with fail
    go_ret
    exact ⟨by rw [HP.out]; rfl, Below.refl _ _⟩
set_option maxRecDepth 100000 in
theorem i_stamp (no : Int) (pv su : ByteArray) (v : Value) (hv : v.oneCell' = true) (w : World) :
    Calls Tryd.prog 28 #[.agg #[.int .i64 no, .string pv, .string su, v]] w fun e w' => e = .returned (.agg #[.int .i64 no, .string pv, .string su]) ∧ Below w.heap.size w w' := by
  have hB : Below w.heap.size w (w.alloc (.cells #[.int .i64 no, .string pv, .string su, v] 29)) := below_make
  have hB2 := hB.alloc hB.size (.cells #[.int .i64 no, .string pv, .string su] 49)
  go_enter Tryd.func28, Tryd.ntmps28
  go_wp2_with fail
  refine bodyPost_ret (v := .agg #[.int .i64 no, .string pv, .string su]) ?_ rfl ⟨rfl, hB2⟩
  simp [results, Tryd.results28, go_sem]
set_option maxRecDepth 100000 in
set_option maxHeartbeats 1000000 in
theorem i_sealOf (no : Int) (pv : ByteArray) (a : Option Addr) (n cap : Nat) (rs : List ByteArray) (w : World) (h : SlS w a n rs) (hno : (Lit.int .i64 no).wf = true) (hp : pv.size ≤ 1048576) (hr : rs.length + puttexts.sum rs ≤ 1048576) (hK : sha.KW w) :
    Calls Tryd.prog 29 #[.int .i64 no, .string pv, .slice a n cap] w fun e w' => e = .returned (.agg #[.int .i64 no, .string pv, .string (superOf no pv rs), .slice a n cap]) ∧ Below w.heap.size w w' := by
  obtain ⟨W, hW⟩ : ∃ W, w.alloc (.cells #[.int .i64 0, .string ⟨#[]⟩, .string ⟨#[]⟩, .slice none 0 0] 29) = W := ⟨_, rfl⟩
  have hB : Below w.heap.size w W := by rw [← hW]; exact below_make
  have hX : BoxIn w.heap.size 29 [] [.int .i64 0, .string ⟨#[]⟩, .string ⟨#[]⟩, .slice none 0 0] [] W := by rw [← hW]; exact boxIn_new w _ _
  have HS := Hid.mk' (impl_superOf no pv a n cap rs W (h.below hB) hno hp hr (hK.below hB))
  have HW := Hid.mk' hW
  generalize superOf no pv rs = so at *
  clear hW h
  go_enter Tryd.func29, Tryd.ntmps29
  go_wp2_with fail
  rw [HW.out]
  refine HS.out.mono ?_
  rintro e w1 ⟨rfl, hb1⟩
  have hX1 := hX.below hb1
  have hB1 := hB.trans (hb1.mono hB.size)
  obtain ⟨z0, z1, z2, z3⟩ := cells4 hX1
  have f0 := hX1.fz 0
  have f1 := hX1.fz 1
  have f2 := hX1.fz 2
  have f3 := hX1.fz 3
  have hS := hX1.whole [.int .i64 no, .string pv, .string so, .slice a n cap] rfl
  obtain ⟨y0, y1, y2, y3⟩ := cells4 hS.1
  simp only [putAll, Nat.zero_add, Nat.reduceAdd] at y0 y1 y2 y3
  have HBz := Hid.mk' (hB1.grown hS.2 hB1.size (fun j e => by cases e; exact Nat.le_refl _))
  clear HS HW hS hb1
  go_wp2_with fail
  refine bodyPost_ret (v := .agg #[.int .i64 no, .string pv, .string so, .slice a n cap]) ?_ rfl ⟨rfl, HBz.out⟩
  simp [results, Tryd.results29, go_sem, y0, y1, y2, y3]
end Go.Proofs.YtfaldffehpgaiaaDoor.seals
