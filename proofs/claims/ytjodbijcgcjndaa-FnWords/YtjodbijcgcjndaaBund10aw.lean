/- The specification's words: what is right; a box of a word. The program's orders as bytes. addNum writes into its own row alone: every other block is as it was. -/
import Derived.Test.YtjodbijcgcjndaaBund10au
import Derived.Test.YtjodbijcgcjndaaBund10ap
import Derived.Test.YtjodbijcgcjndaaBund10av
import Derived.Test.YtjodbijcgcjndaaBund10at
import Derived.Test.YtjodbijcgcjndaaBund10am
import Derived.Deep.AppendLies
namespace Go.Proofs.Ytjodbijcgcjndaa.wds
open Go Go.RowKit Go.Proofs.Ytjodbijcgcjndaa.base Go.Proofs.Ytjodbijcgcjndaa.pairs Go.Proofs.Ytjodbijcgcjndaa.ords
set_option linter.unusedVariables false
set_option linter.unusedSimpArgs false

set_option maxRecDepth 100000 in
set_option maxHeartbeats 1000000 in
theorem spec_opsNil (a : Option Addr) (cap : Nat) (w : World) :
    Calls Try.prog 40 #[.slice a 0 cap] w fun e w' => e = .returned (.bool false) ∧ w' = w := by
  go_enter Try.func40, Try.ntmps40
  go_wp2_with fail
  refine wp_loop_rounds 1 ?_
  rw [rounds_succ]
  go_wp2_with fail
  refine (s_inZ 0 1 8 _).mono ?_
  rintro e w9 ⟨rfl, rfl⟩
  go_wp2_with fail
  go_ret
  exact ⟨ret_bool (by decide), rfl⟩
theorem spec_opsOkA (a : Option Addr) (len cap : Nat) (l : List Od) (w : World) (h : SlO w a len l) (hks : ∀ p ∈ l, p.2.1.size ≤ 1099511627776) :
    Calls Try.prog 40 #[.slice a len cap] w fun e w' => e = .returned (.bool (opsOk l)) ∧ Below w.heap.size w w' := by
  by_cases h0 : len = 0
  · subst h0
    obtain rfl : l = [] := List.eq_nil_of_length_eq_zero h.1
    refine (spec_opsNil a cap w).mono ?_
    rintro e w' ⟨rfl, rfl⟩
    exact ⟨rfl, Below.refl _ _⟩
  · obtain ⟨b, off, ha, _⟩ := h.2.2.2 (by omega)
    subst ha
    exact spec_opsOk b off len cap l w h hks
theorem impl_opsOkA (a : Option Addr) (len cap : Nat) (l : List Od) (w : World) (h : SlO w a len l) (hks : ∀ p ∈ l, p.2.1.size ≤ 1099511627776) :
    Calls Try.prog 51 #[.slice a len cap] w fun e w' => e = .returned (.bool (opsOk l)) ∧ Below w.heap.size w w' := by
  by_cases h0 : len = 0
  · subst h0
    obtain rfl : l = [] := List.eq_nil_of_length_eq_zero h.1
    go_enter Try.func51, Try.ntmps51
    go_wp2_with fail
    go_ret
    exact ⟨ret_bool (by decide), Below.refl _ _⟩
  · obtain ⟨b, off, ha, _⟩ := h.2.2.2 (by omega)
    subst ha
    exact impl_opsOk b off len cap l w h hks

/-- the value of a word, and its cells -/
abbrev wdV (k s t : Int) (v : Value) (y : Bool) : Value := .agg #[.int .i64 k, .int .i64 s, .int .i64 t, v, .bool y]
/-- a box of a word -/
def BoxW (X : Nat) (k s t : Int) (v : Value) (y : Bool) (w : World) : Prop := w.heap[X]? = some (.cells #[.int .i64 k, .int .i64 s, .int .i64 t, v, .bool y] 26 (0, 0))
theorem boxW_new (w : World) (k s t : Int) (v : Value) (y : Bool) : BoxW w.heap.size k s t v y (w.alloc (.cells #[.int .i64 k, .int .i64 s, .int .i64 t, v, .bool y] 26)) := heap_alloc_new w _
section
variable {X : Nat} {k s t : Int} {v : Value} {y : Bool} {w w' : World}
theorem BoxW.cells (h : BoxW X k s t v y w) : w.cell? ⟨X, 0, none⟩ = some (.int .i64 k) ∧ w.cell? ⟨X, 1, none⟩ = some (.int .i64 s) ∧ w.cell? ⟨X, 2, none⟩ = some (.int .i64 t) ∧ w.cell? ⟨X, 3, none⟩ = some v ∧ w.cell? ⟨X, 4, none⟩ = some (.bool y) := by
  unfold BoxW at h
  simp [World.cell?, h]
theorem BoxW.lt (h : BoxW X k s t v y w) : X < w.heap.size := (Array.getElem?_eq_some_iff.1 h).1
theorem BoxW.below (h : BoxW X k s t v y w) (hb : Below w.heap.size w w') : BoxW X k s t v y w' := by
  have h' := h.lt
  unfold BoxW at h ⊢
  rw [hb.block X h', h]
theorem BoxW.grown {row : Option Nat} (h : BoxW X k s t v y w) (hg : w.grownBy w' row) (hne : some X ≠ row) : BoxW X k s t v y w' := by
  have h' := h.lt
  unfold BoxW at h ⊢
  rw [hg.block X h' hne, h]
end

set_option maxRecDepth 100000 in
set_option maxHeartbeats 2000000 in
theorem spec_wordOk (k s t : Int) (a : Option Addr) (len cap : Nat) (l : List Od) (y : Bool) (w : World) (h : SlO w a len l) (hks : ∀ p ∈ l, p.2.1.size ≤ 1099511627776) :
    Calls Try.prog 14 #[wdV k s t (.slice a len cap) y] w fun e w' => e = .returned (.bool (wordOk (k, s, t, l, y))) ∧ Below w.heap.size w w' := by
  have hba : Below w.heap.size w (w.alloc (.cells #[.int .i64 k, .int .i64 s, .int .i64 t, .slice a len cap, .bool y] 26)) := (Below.refl _ _).alloc (Nat.le_refl _) _
  have hin1 := s_inZ s 0 7 (w.alloc (.cells #[.int .i64 k, .int .i64 s, .int .i64 t, .slice a len cap, .bool y] 26))
  have hin2 := s_inZ t 1 1000000 (w.alloc (.cells #[.int .i64 k, .int .i64 s, .int .i64 t, .slice a len cap, .bool y] 26))
  have hl := h.1
  have hm := h.2.1
  unfold maxLen at hm
  have HR : Hid (wordOk (k, s, t, l, y) = (decide (0 ≤ s ∧ s ≤ 7) && decide (1 ≤ t ∧ t ≤ 1000000) && kindOk k l y)) := rfl
  by_cases hs : 0 ≤ s ∧ s ≤ 7
  · rw [decide_eq_true hs] at hin1
    rw [decide_eq_true hs] at HR
    have HI := Hid.mk' hin1
    clear hin1 hs
    by_cases ht : 1 ≤ t ∧ t ≤ 1000000
    · rw [decide_eq_true ht] at hin2
      rw [decide_eq_true ht, Bool.true_and, Bool.true_and] at HR
      have HJ := Hid.mk' hin2
      clear hin2 ht
      by_cases h1 : k = 1
      · subst h1
        have HO := Hid.mk' (spec_opsOkA a len cap l _ (h.below hba) hks)
        have HK : Hid (kindOk 1 l y = (opsOk l && !y)) := rfl
        generalize opsOk l = K at *
        have hb5 := boxW_new w 1 s t (.slice a len cap) y
        obtain ⟨_, _, _, _, c4⟩ := hb5.cells
        cases K <;> cases y
        all_goals
          go_enter Try.func14, Try.ntmps14
          go_wp2_with fail
          refine HI.out.mono ?_
          rintro e w1 ⟨rfl, hw1⟩
          subst hw1
          go_wp2_with fail
          refine HJ.out.mono ?_
          rintro e w1 ⟨rfl, hw1⟩
          subst hw1
          go_wp2_with fail
          refine HO.out.mono ?_
          rintro e w1 ⟨rfl, hb1⟩
          have hbx1 := hb5.below hb1
          obtain ⟨_, _, _, _, d4⟩ := hbx1.cells
          clear hb5 hbx1 c4
          go_wp2_with fail
          go_ret
          exact ⟨ret_bool (by rw [HR.out, HK.out]; rfl), hba.trans (hb1.mono hba.size)⟩
      · have hk1 : (k == 1) = false := beq_eq_false_iff_ne.2 h1
        by_cases h23 : k = 2 ∨ k = 3
        · have HK : Hid (kindOk k l y = l.isEmpty) := by show _ = _; unfold kindOk; rw [if_neg h1, if_pos h23]
          by_cases h0 : len = 0
          · have HE : Hid (wordOk (k, s, t, l, y) = true) := by show _ = _; rw [HR.out, HK.out, List.isEmpty_iff]; exact List.eq_nil_of_length_eq_zero (by omega)
            subst h0
            rcases h23 with rfl | rfl
            all_goals
              clear HR h1 hk1 HK
              go_enter Try.func14, Try.ntmps14
              go_wp2_with fail
              refine HI.out.mono ?_
              rintro e w1 ⟨rfl, hw1⟩
              subst hw1
              go_wp2_with fail
              refine HJ.out.mono ?_
              rintro e w1 ⟨rfl, hw1⟩
              subst hw1
              go_wp2_with fail
              go_ret
              exact ⟨ret_bool HE.out.symm, hba⟩
          · have HE : Hid (wordOk (k, s, t, l, y) = false) := by
              show _ = _
              rw [HR.out, HK.out]
              cases l with
              | nil => simp at hl; omega
              | cons x l => rfl
            have hl0 : ((len : Int) == 0) = false := by simp; omega
            rcases h23 with rfl | rfl
            all_goals
              clear HR h1 hk1 HK
              go_enter Try.func14, Try.ntmps14
              go_wp2_with fail
              refine HI.out.mono ?_
              rintro e w1 ⟨rfl, hw1⟩
              subst hw1
              go_wp2_with fail
              refine HJ.out.mono ?_
              rintro e w1 ⟨rfl, hw1⟩
              subst hw1
              go_wp2_with fail
              go_ret
              exact ⟨ret_bool HE.out.symm, hba⟩
        · have hk2 : (k == 2) = false := beq_eq_false_iff_ne.2 (fun e => h23 (.inl e))
          have hk3 : (k == 3) = false := beq_eq_false_iff_ne.2 (fun e => h23 (.inr e))
          by_cases h4 : k = 4
          · subst h4
            have HK : Hid (kindOk 4 l y = (l.isEmpty && !y)) := rfl
            by_cases h0 : len = 0
            · obtain rfl : l = [] := List.eq_nil_of_length_eq_zero (by omega)
              subst h0
              cases y
              all_goals
                clear h1 hk1 h23 hk2 hk3
                go_enter Try.func14, Try.ntmps14
                go_wp2_with fail
                refine HI.out.mono ?_
                rintro e w1 ⟨rfl, hw1⟩
                subst hw1
                go_wp2_with fail
                refine HJ.out.mono ?_
                rintro e w1 ⟨rfl, hw1⟩
                subst hw1
                go_wp2_with fail
                go_ret
                exact ⟨ret_bool (by rw [HR.out, HK.out]; rfl), hba⟩
            · have HE : Hid (wordOk (4, s, t, l, y) = false) := by
                show _ = _
                rw [HR.out, HK.out]
                cases l with
                | nil => simp at hl; omega
                | cons x l => rfl
              have hl0 : ((len : Int) == 0) = false := by simp; omega
              clear h1 hk1 h23 hk2 hk3 HR HK
              go_enter Try.func14, Try.ntmps14
              go_wp2_with fail
              refine HI.out.mono ?_
              rintro e w1 ⟨rfl, hw1⟩
              subst hw1
              go_wp2_with fail
              refine HJ.out.mono ?_
              rintro e w1 ⟨rfl, hw1⟩
              subst hw1
              go_wp2_with fail
              go_ret
              exact ⟨ret_bool HE.out.symm, hba⟩
          · have HK : Hid (kindOk k l y = false) := by show _ = _; unfold kindOk; rw [if_neg h1, if_neg h23, if_neg h4]
            have hk4 : (k == 4) = false := beq_eq_false_iff_ne.2 h4
            clear h1 h23 h4
            go_enter Try.func14, Try.ntmps14
            go_wp2_with fail
            refine HI.out.mono ?_
            rintro e w1 ⟨rfl, hw1⟩
            subst hw1
            go_wp2_with fail
            refine HJ.out.mono ?_
            rintro e w1 ⟨rfl, hw1⟩
            subst hw1
            go_wp2_with fail
            go_ret
            exact ⟨ret_bool (by rw [HR.out, HK.out]), hba⟩
    · rw [decide_eq_false ht] at hin2
      rw [decide_eq_false ht] at HR
      have HJ := Hid.mk' hin2
      clear hin2 ht
      go_enter Try.func14, Try.ntmps14
      go_wp2_with fail
      refine HI.out.mono ?_
      rintro e w1 ⟨rfl, hw1⟩
      subst hw1
      go_wp2_with fail
      refine HJ.out.mono ?_
      rintro e w1 ⟨rfl, hw1⟩
      subst hw1
      go_wp2_with fail
      go_ret
      exact ⟨ret_bool HR.out.symm, hba⟩
  · rw [decide_eq_false hs] at hin1
    rw [decide_eq_false hs] at HR
    have HI := Hid.mk' hin1
    clear hin1 hs hin2
    go_enter Try.func14, Try.ntmps14
    go_wp2_with fail
    refine HI.out.mono ?_
    rintro e w1 ⟨rfl, hw1⟩
    subst hw1
    go_wp2_with fail
    go_ret
    exact ⟨ret_bool HR.out.symm, hba⟩
end Go.Proofs.Ytjodbijcgcjndaa.wds

namespace Go.Proofs.Ytjodbijcgcjndaa.ords
open Go Go.RowKit Go.Proofs.Ytjodbijcgcjndaa.base Go.Proofs.Ytjodbijcgcjndaa.pairs Go.Proofs.Ytjodbijcgcjndaa.putnum Go.Proofs.Ytjodbijcgcjndaa.puttext Go.Proofs.Ytjodbijcgcjndaa.getnum Go.Proofs.Ytjodbijcgcjndaa.gettext
set_option linter.unusedVariables false
set_option linter.unusedSimpArgs false

/-- an order in a block of its own -/
def BoxO (X : Nat) (p : Od) (w : World) : Prop := w.heap[X]? = some (.cells #[.int .i64 p.1, .string p.2.1, .string p.2.2] 90 (0, 0))
theorem boxO_new (w : World) (p : Od) : BoxO w.heap.size p (w.alloc (.cells #[.int .i64 p.1, .string p.2.1, .string p.2.2] 90)) := heap_alloc_new w _
theorem BoxO.cells {X : Nat} {p : Od} {w : World} (h : BoxO X p w) : w.cell? ⟨X, 0, none⟩ = some (.int .i64 p.1) ∧ w.cell? ⟨X, 1, none⟩ = some (.string p.2.1) ∧ w.cell? ⟨X, 2, none⟩ = some (.string p.2.2) := by
  unfold BoxO at h
  simp [World.cell?, h]
theorem BoxO.lt {X : Nat} {p : Od} {w : World} (h : BoxO X p w) : X < w.heap.size := (Array.getElem?_eq_some_iff.1 h).1
theorem BoxO.keep {X : Nat} {p : Od} {w w' : World} (h : BoxO X p w) (hk : Keeps w w') : BoxO X p w' := by
  have h' := h
  unfold BoxO at h ⊢
  rw [hk.2 X h'.lt (fun cur e => by rw [h] at e; simp at e), h]
theorem BoxO.alloc {X : Nat} {p : Od} {w : World} (h : BoxO X p w) (o : Obj) : BoxO X p (w.alloc o) := by
  have h' := h.lt
  unfold BoxO at h ⊢
  rw [(World.grownBy_alloc w o none).block X h' (by simp), h]
def HoldO (X : Nat) (p : Od) (w' : World) : Prop := BoxO X p w' ∧ w'.cell? ⟨X, 0, none⟩ = some (.int .i64 p.1) ∧ w'.cell? ⟨X, 1, none⟩ = some (.string p.2.1) ∧ w'.cell? ⟨X, 2, none⟩ = some (.string p.2.2)
theorem keepO {X : Nat} {p : Od} {w w' : World} (hk : Keeps w w') (h : BoxO X p w ∧ w.cell? ⟨X, 0, none⟩ = some (.int .i64 p.1) ∧ w.cell? ⟨X, 1, none⟩ = some (.string p.2.1) ∧ w.cell? ⟨X, 2, none⟩ = some (.string p.2.2)) :
    BoxO X p w' ∧ w'.cell? ⟨X, 0, none⟩ = some (.int .i64 p.1) ∧ w'.cell? ⟨X, 1, none⟩ = some (.string p.2.1) ∧ w'.cell? ⟨X, 2, none⟩ = some (.string p.2.2) :=
  ⟨h.1.keep hk, (h.1.keep hk).cells⟩
theorem keepOa {X : Nat} {p : Od} {w : World} {o : Obj} (h : BoxO X p w ∧ w.cell? ⟨X, 0, none⟩ = some (.int .i64 p.1) ∧ w.cell? ⟨X, 1, none⟩ = some (.string p.2.1) ∧ w.cell? ⟨X, 2, none⟩ = some (.string p.2.2)) :
    BoxO X p (w.alloc o) ∧ (w.alloc o).cell? ⟨X, 0, none⟩ = some (.int .i64 p.1) ∧ (w.alloc o).cell? ⟨X, 1, none⟩ = some (.string p.2.1) ∧ (w.alloc o).cell? ⟨X, 2, none⟩ = some (.string p.2.2) :=
  ⟨h.1.alloc o, (h.1.alloc o).cells⟩
/-- two strings in a block of their own -/
def TwoS (X : Nat) (k v : ByteArray) (w : World) : Prop := w.heap[X]? = some (.cells #[.string k, .string v] 9 (0, 0))
theorem twoS_new (w : World) (k v : ByteArray) : TwoS w.heap.size k v (w.alloc (.cells #[.string k, .string v] 9)) := heap_alloc_new w _
theorem TwoS.keep {X : Nat} {k v : ByteArray} {w w' : World} (h : TwoS X k v w) (hk : Keeps w w') : TwoS X k v w' := by
  unfold TwoS at h ⊢
  rw [hk.2 X (Array.getElem?_eq_some_iff.1 h).1 (fun cur e => by rw [h] at e; simp at e), h]
theorem TwoS.sl {X : Nat} {k v : ByteArray} {w : World} (h : TwoS X k v w) (hk : k.size ≤ maxLen) (hv : v.size ≤ maxLen) : SlS w (some ⟨X, 0, none⟩) 2 [k, v] := by
  refine ⟨rfl, by unfold maxLen; omega, ?_, fun _ => ⟨X, 0, rfl, ?_⟩⟩
  · intro s hs
    simp at hs
    rcases hs with rfl | rfl
    · exact hk
    · exact hv
  · intro i hi
    unfold TwoS at h
    match i, hi with
    | 0, _ => simp [World.cell?, h]
    | 1, _ => simp [World.cell?, h]
theorem TwoS.blk {X : Nat} {k v : ByteArray} {w : World} (h : TwoS X k v w) : ∀ b off, (some ⟨X, 0, none⟩ : Option Addr) = some ⟨b, off, none⟩ → ∃ cur mk, w.heap[b]? = some (.cells cur 9 mk) := by
  intro b off e
  cases e
  exact ⟨_, _, h⟩
theorem own_alloc {w : World} {base g n cap : Nat} {bs : List UInt8} (h : Own w base g n cap bs) (o : Obj) : Own (w.alloc o) base g n cap bs := h.below ((Below.refl _ _).alloc (Nat.le_refl _) _)
theorem texts_two (k v : ByteArray) : textsBytes [k, v] = textBytes k ++ textBytes v := by simp [textsBytes]

set_option maxRecDepth 100000 in
set_option maxHeartbeats 4000000 in
theorem impl_putOps (b off len cap : Nat) (l : List Od) (w : World) (h : SlO w (some ⟨b, off, none⟩) len l) (hks : ∀ p ∈ l, p.2.1.size ≤ 1099511627776) :
    Calls Try.prog 54 #[.slice (some ⟨b, off, none⟩) len cap] w fun e w' =>
      ∃ g' n' cap', e = .returned (.slice (some ⟨g', 0, none⟩) n' cap') ∧ Own w' w.heap.size g' n' cap' (putOps l) ∧ Below w.heap.size w w' := by
  have HOK := Hid.mk' (impl_opsOk b off len cap l w h hks)
  have hl := h.1
  subst hl
  cases hok : opsOk l
  · rw [hok] at HOK
    have HP : Hid (putOps l = []) := opsOk_put l hok
    clear hok
    go_enter Try.func54, Try.ntmps54
    go_wp2_with fail
    refine HOK.out.mono ?_
    rintro e w1 ⟨rfl, hb1⟩
    have hO1 := own_made w1 w.heap.size hb1.size
    go_wp2_with fail
    go_ret
    exact ⟨_, _, _, rfl, by rw [HP.out]; exact hO1, hb1.alloc hb1.size _⟩
  · rw [hok] at HOK
    have HP : Hid (putOps l = numBytes (l.length : Int) ++ odsBytes l) := by show _ = _; unfold putOps; rw [if_pos hok]
    obtain ⟨⟨hall, _⟩, hl1, hl8⟩ := (opsOk_iff l).1 hok
    clear hok
    have hnb := numBytes_length (l.length : Int)
    go_enter Try.func54, Try.ntmps54
    go_wp2_with fail
    refine HOK.out.mono ?_
    rintro e w1 ⟨rfl, hb1⟩
    have hO1 := own_made w1 w.heap.size hb1.size
    have hb1' : Below w.heap.size w (w1.alloc (.cells #[] 5)) := hb1.alloc hb1.size _
    have HPN := Hid.mk' (addNum w1.heap.size 0 0 w.heap.size [] (l.length : Int) _ hO1 hb1'.size (WalkArith.wf_i64 (by omega)) (by omega))
    clear HOK hO1
    go_wp2_with fail
    refine HPN.out.mono ?_
    rintro e w2 ⟨g2, n2, cp2, rfl, hO2, hb2, hk2⟩
    have hB2 : Below w.heap.size w w2 := hb1'.trans hb2
    clear HPN hb2 hb1 hb1' hk2
    have hn2 := hO2.1
    go_wp2_with fail
    go_loopw [3, 16] (fun v i wr => ∃ (k g n cp : Nat), k ≤ l.length ∧ n ≤ 5 + 47 * k ∧ i = .int .i64 (k : Int) ∧ v = .slice (some ⟨g, 0, none⟩) n cp ∧ Own wr w.heap.size g n cp (numBytes (l.length : Int) ++ odsBytes (l.take k)) ∧ Below w.heap.size w wr) (fun _ i _ => l.length - (intOf i).toNat)
    case atStart => exact ⟨0, g2, n2, cp2, Nat.zero_le _, by simp at hn2; omega, rfl, rfl, by simpa [odsBytes] using hO2, hB2⟩
    case round =>
      clear hO2 hB2 hn2
      obtain ⟨k, g, n, cp, hk, hn, rfl, rfl, hO, hB⟩ := hrel
      by_cases hlt : k < l.length
      · obtain ⟨c0, c1, c2⟩ := (h.below hB).cells k hlt
        have hki : (k : Int) < (l.length : Int) := by omega
        have hpk := hall _ (List.getElem_mem hlt)
        have HT : Hid (numBytes (l.length : Int) ++ odsBytes (l.take (k + 1)) = (numBytes (l.length : Int) ++ odsBytes (l.take k)) ++ odBytes l[k]) := by show _ = _; rw [odsBytes_take l k hlt, List.append_assoc]
        have hol := odBytes_length hpk
        obtain ⟨hz, _, hkey, hval⟩ := (odOk_iff _).1 hpk
        have hks' := keyOk_size hkey
        have hzf : (Lit.int .i64 l[k].1).wf = true := WalkArith.wf_i64 (by omega)
        generalize l[k] = p at *
        generalize numBytes (l.length : Int) ++ odsBytes (l.take k) = B at *
        have hnz := numBytes_length p.1
        have htk := textBytes_length p.2.1
        have htv := textBytes_length p.2.2
        have hbx := boxO_new wr p
        have hBA : Below w.heap.size w (wr.alloc (.cells #[.int .i64 p.1, .string p.2.1, .string p.2.2] 90)) := hB.alloc hB.size _
        have hOA := own_alloc hO (.cells #[.int .i64 p.1, .string p.2.1, .string p.2.2] 90)
        have hbw := hBA.size
        go_wp2_with fail
        generalize hX : wr.heap.size = X at *
        generalize hW : wr.alloc (.cells #[.int .i64 p.1, .string p.2.1, .string p.2.2] 90) = W at *
        obtain ⟨d0, d1, d2⟩ := hbx.cells
        have hOB : ∀ o, Own (W.drew.alloc o) w.heap.size g n cp B := fun o => own_alloc (show Own W.drew w.heap.size g n cp B from hOA) o
        have hOC : Own W.drew w.heap.size g n cp B := hOA
        have hnB := hOA.1
        have htt : (textsBytes [p.2.1, p.2.2]).length ≤ 42 := by rw [texts_two, List.length_append]; omega
        have HSS : Hid (∀ s ∈ [p.2.1, p.2.2], s.size ≤ 549755813888) := by
          intro s hs
          simp at hs
          rcases hs with rfl | rfl <;> omega
        have hkm : p.2.1.size ≤ maxLen := by unfold maxLen; omega
        have hvm : p.2.2.size ≤ maxLen := by unfold maxLen; omega
        clear hW hO hB c0 c1 c2 hX
        go_region_held3 (fun w' => BoxO X p w' ∧ w'.cell? ⟨X, 0, none⟩ = some (.int .i64 p.1) ∧ w'.cell? ⟨X, 1, none⟩ = some (.string p.2.1) ∧ w'.cell? ⟨X, 2, none⟩ = some (.string p.2.2)) (first | (exact ⟨hbx, d0, d1, d2⟩) | (exact keepO hk6 (by assumption)) | (exact keepO hk5 (by assumption)) | (exact keepOa (by assumption)) | (go_keep)) (first | (go_at_call 72; have h9 : Keeps W.drew w5 := (by with_reducible exact hk5); refine (puttext.addTexts g5 n5 cp5 w.heap.size (B ++ numBytes p.1) (some ⟨w5.heap.size, 0, none⟩) 2 2 [p.2.1, p.2.2] _ (own_alloc hO5 _) (le_alloc _ _ (Nat.le_trans hbw h9.1)) ((twoS_new w5 p.2.1 p.2.2).sl hkm hvm) (twoS_new w5 p.2.1 p.2.2).blk (by have := hO5.1; simp only [List.length_append] at this; omega) HSS.out).mono ?_; rintro e w6 ⟨g6, n6, cp6, rfl, hO6, hb6, hk6⟩) | (go_at_call 72; have h9 : Keeps (W.alloc (.cells #[.string p.2.1, .string p.2.2] 9)).drew w5 := (by with_reducible exact hk5); have h8 : TwoS W.heap.size p.2.1 p.2.2 w5 := TwoS.keep (w := (W.alloc (.cells #[.string p.2.1, .string p.2.2] 9)).drew) (twoS_new W p.2.1 p.2.2) h9; refine (puttext.addTexts g5 n5 cp5 w.heap.size (B ++ numBytes p.1) (some ⟨W.heap.size, 0, none⟩) 2 2 [p.2.1, p.2.2] _ hO5 (Nat.le_trans (le_alloc _ _ hbw) h9.1) (h8.sl hkm hvm) h8.blk (by have := hO5.1; simp only [List.length_append] at this; omega) HSS.out).mono ?_; rintro e w6 ⟨g6, n6, cp6, rfl, hO6, hb6, hk6⟩) | (go_at_call 71; refine (addNum g n cp w.heap.size B p.1 _ (by first | exact hOC | exact hOB _) (by first | exact hbw | exact le_alloc _ _ hbw) hzf (by omega)).mono ?_; rintro e w5 ⟨g5, n5, cp5, rfl, hO5, hb5, hk5⟩))
        all_goals
          have hB5 : Below w.heap.size w w5 := (by first | exact hBA.drew.trans hb5 | exact ((hBA.alloc hBA.size _).drew).trans hb5)
          have hB6 : Below w.heap.size w w6 := (by first | exact hB5.trans hb6 | exact (hB5.alloc hB5.size _).trans hb6)
          have hn6 : n6 ≤ 5 + 47 * (k + 1) := by
            have e1 := hO6.1
            have e2 := hO5.1
            rw [texts_two] at e1
            simp [odBytes] at e1 e2 hol
            omega
          have e : B ++ numBytes p.1 ++ textsBytes [p.2.1, p.2.2] = B ++ odBytes p := by rw [texts_two]; simp [odBytes]
          rw [e] at hO6
          have HO6 := Hid.mk' hO6
          clear hb5 hb6 hO5 hO6 hOA hOB hOC hBA hB5 d0 d1 d2 e hk5 hk6
          go_wp2_with fail
          go_roundw
          case rel => exact ⟨k + 1, g6, n6, cp6, by omega, hn6, by go_num, rfl, by rw [HT.out]; exact HO6.out, hB6⟩
          case measure => simp [intOf]; omega
      · have HE : Hid (l.take k = l) := List.take_of_length_le (by omega)
        go_wp2_with fail
        go_ret
        rw [HE.out, ← HP.out] at hO
        exact ⟨g, n, cp, rfl, hO, hB⟩
end Go.Proofs.Ytjodbijcgcjndaa.ords

namespace Go.Proofs.Ytjodbijcgcjndaa.putnum
open Go Go.RowKit Go.Proofs.Ytjodbijcgcjndaa.base
set_option linter.unusedVariables false
set_option linter.unusedSimpArgs false

theorem grown_on {a b c : World} {g h : Nat} (h1 : a.grownBy b (some g)) (h2 : b.grownBy c (some h)) (hh : h = g ∨ a.heap.size ≤ h) : a.grownBy c (some g) :=
  ⟨h2.os.trans h1.os, h2.tape.trans h1.tape, h2.output.trans h1.output, Nat.le_trans h1.size h2.size, fun i hi hr => (h2.block i (Nat.lt_of_lt_of_le hi h1.size) (by intro e; cases e; rcases hh with rfl | hh; exact hr rfl; omega)).trans (h1.block i hi hr)⟩
theorem own_lies {w' : World} {base g n m cap : Nat} {bs ns : List UInt8} {news : List Value} (hl : bs.length = n) (hln : ns.length = m) (he : news = byteVals ns) (h : w'.ownsRow base 5 1 (.slice (some ⟨g, 0, none⟩) (n + m) cap) (n + m) (byteVals bs ++ news)) : Own w' base g (n + m) cap (bs ++ ns) := by
  subst he
  refine ⟨by simp [hl, hln], ?_⟩
  rw [byteVals_append]; exact h
set_option maxRecDepth 100000 in
set_option maxHeartbeats 1000000 in
theorem addNumG (g n cap base : Nat) (bs : List UInt8) (N : Int) (w : World) (h : Own w base g n cap bs) (hb : base ≤ w.heap.size) (hN : (Lit.int .i64 N).wf = true) (hsz : n ≤ 1099511627776) :
    Calls Try.prog 71 #[.slice (some ⟨g, 0, none⟩) n cap, .int .i64 N] w fun e w' =>
      ∃ g' n' cap', e = .returned (.slice (some ⟨g', 0, none⟩) n' cap') ∧ Own w' base g' n' cap' (bs ++ numBytes N) ∧ Below base w w' ∧ w.grownBy w' (some g) ∧ (g' = g ∨ w.heap.size ≤ g') := by
  have hNb : -9223372036854775808 ≤ N ∧ N ≤ 9223372036854775807 := by simpa [Lit.wf, IntKind.min, IntKind.max, IntKind.signed, IntKind.bits] using hN
  obtain ⟨i0, hi, hz0, hz1, hz2⟩ := info_parts info8
  have hcases : N < 0 ∨ 1000000000 < N ∨ (0 ≤ N ∧ N ≤ 1000000000) := by omega
  rcases hcases with hc | hc | ⟨hc, hc'⟩
  all_goals
    go_enter Try.func71, Try.ntmps71
    go_wp2
    go_loopw [0, 1] (fun v nv wr => ∃ (f m : Nat) (done : List UInt8) (g' n' cap' : Nat), v = .slice (some ⟨g', 0, none⟩) n' cap' ∧ nv = .int .i64 (m : Int) ∧ m ≤ 1000000000 ∧ m < 128 ^ (f + 1) ∧ f ≤ 4 ∧ Own wr base g' n' cap' (bs ++ done) ∧ done.length + f = 4 ∧ (Below base w wr ∧ w.grownBy wr (some g) ∧ (g' = g ∨ w.heap.size ≤ g')) ∧ done ++ groups f m = numBytes N) (fun _ nv _ => (intOf nv).toNat)
    case atStart =>
      exact ⟨4, clamp N, [], g, n, cap, rfl, val_int (by unfold clamp; split <;> (try split) <;> omega), clamp_le N, by have := clamp_le N; omega, by omega, by rw [List.append_nil]; exact h, rfl, ⟨Below.refl _ _, ⟨rfl, rfl, rfl, Nat.le_refl _, fun _ _ _ => rfl⟩, .inl rfl⟩, rfl⟩
    case round =>
      obtain ⟨f, m, done, g', n', cap', rfl, rfl, hm9, hm, hf, hO, hdl, ⟨hB, hK, hgl⟩, hgr⟩ := hrel
      have HG := Hid.mk' hgr
      have hlen := hO.1
      simp only [List.length_append] at hlen
      have hbl := h.1
      have HM := Hid.mk' hm
      have HL := Hid.mk' hlen
      have hn' : n' ≤ 1099511627781 := by omega
      have hBs := hB.size
      have hbw : base ≤ wr.heap.size := by omega
      have hc3 : n' + 1 ≤ maxLen := by unfold maxLen; omega
      have hc4 : (n' + 1) * 1 ≤ 140737488355328 := by omega
      have HD := Hid.mk' hdl
      clear hgr hm hlen hbl hdl
      by_cases hge : 128 ≤ m
      · obtain ⟨f', rfl⟩ : ∃ f', f = f' + 1 := by
          cases f with
          | zero => exact absurd HM.out (by omega)
          | succ f' => exact ⟨f', rfl⟩
        go_wp2_with (at_builtin; refine wpList_append_lies _ rfl _ _ 22 rfl base 5 i0 (.int .u8 0) 1 1 Try.underlying22 hi hz0 hz1 hz2 rfl (by decide) _ _ _ rfl (hO.2.alloc _) ⟨wr.heap.size, 0, none⟩ 1 1 [_] rfl rfl (cell_one_new _ _ _) (one_oneCell _ _) (by decide) hc3 hc4 (le_alloc _ _ hbw) _ rfl ?_)
        intro g2 cap2 w1 hown hgrow hat hlt2
        have hO2 := own_lies (m := 1) (ns := [UInt8.ofNat (128 + m % 128)]) hO.1 rfl (one_val (byte_hi m)) hown
        have hB2 : Below base w w1 := (hB.alloc hbw _).grown hgrow (le_alloc _ _ hbw) (fun k e => by simp [Value.ownBlock] at e; have := hO.lt; omega)
        have hK2 : w.grownBy w1 (some g) := grown_on (grownBy_trans hK (World.grownBy_alloc wr _ _)) hgrow hgl
        have hgl2 : g2 = g ∨ w.heap.size ≤ g2 := by
          rcases hat with e | e
          · have e2 : g' = g2 := by simpa [Value.ownBlock] using e
            rw [← e2]; exact hgl
          · right; omega
        have HO2 := Hid.mk' hO2
        clear hown hgrow hO hO2 hB hat hlt2 hK hgl
        go_wp2
        go_roundw
        case rel =>
          refine ⟨f', m / 128, done ++ [UInt8.ofNat (128 + m % 128)], g2, n' + 1, cap2, rfl, by go_num, by omega, ?_, by omega, by rw [← List.append_assoc]; exact HO2.out, ?_, ⟨hB2, hK2, hgl2⟩, ?_⟩
          · have := HM.out; rw [Nat.pow_succ] at this; exact Nat.div_lt_of_lt_mul (by omega)
          · have := HD.out; simp; omega
          · rw [List.append_assoc, List.singleton_append, ← groups_high f' m hge]; exact HG.out
        case measure => simp [intOf]; omega
      · go_wp2_with (at_builtin; refine wpList_append_lies _ rfl _ _ 22 rfl base 5 i0 (.int .u8 0) 1 1 Try.underlying22 hi hz0 hz1 hz2 rfl (by decide) _ _ _ rfl (hO.2.alloc _) ⟨wr.heap.size, 0, none⟩ 1 1 [_] rfl rfl (cell_one_new _ _ _) (one_oneCell _ _) (by decide) hc3 hc4 (le_alloc _ _ hbw) _ rfl ?_)
        intro g2 cap2 w1 hown hgrow hat hlt2
        have hO2 := own_lies (m := 1) (ns := [UInt8.ofNat m]) hO.1 rfl (one_val (byte_lo m (by omega)).symm) hown
        have hB2 : Below base w w1 := (hB.alloc hbw _).grown hgrow (le_alloc _ _ hbw) (fun k e => by simp [Value.ownBlock] at e; have := hO.lt; omega)
        have hK2 : w.grownBy w1 (some g) := grown_on (grownBy_trans hK (World.grownBy_alloc wr _ _)) hgrow hgl
        have hgl2 : g2 = g ∨ w.heap.size ≤ g2 := by
          rcases hat with e | e
          · have e2 : g' = g2 := by simpa [Value.ownBlock] using e
            rw [← e2]; exact hgl
          · right; omega
        have HO2 := Hid.mk' hO2
        clear hown hgrow hO hO2 hB hat hlt2 hK hgl
        go_wp2
        go_ret
        refine ⟨g2, _, cap2, rfl, ?_, hB2, hK2, hgl2⟩
        have hx := HO2.out
        rw [List.append_assoc, ← groups_low f m (by omega), HG.out] at hx
        exact hx
end Go.Proofs.Ytjodbijcgcjndaa.putnum
