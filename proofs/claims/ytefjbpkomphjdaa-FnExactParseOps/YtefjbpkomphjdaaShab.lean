/- Rows of orders (three cells each): small facts on worlds; no function of the program is named here. The specification's keys and pairs: what is right, what is got. The specification's lists of pairs. The specification's putting of keys. A region that draws its order, whose operations only read, but for its last, which waits for all the others: one walk of the text's order serves every order. No function of the program is named here. The specification's right pairs, and pairs put into others. The specification's orders: what is right, what is met. The specification's statements: what is plain, the words of a text. -/
import Derived.Test.YtefjbpkomphjdaaShaa
import Derived.OwnWalk
import Derived.Deep.RegionHeld3
import Derived.Deep.QuietTactic
import Derived.BigQuiet
import Derived.WalkKit
import Derived.WalkSpells
import Derived.WalkLawsBesides
import Derived.Lib.Strings
namespace Go.Proofs.Ytefjbpkomphjdaa.ords
open Go Go.RowKit Go.Proofs.Ytefjbpkomphjdaa.base Go.Proofs.Ytefjbpkomphjdaa.pairs
set_option linter.unusedVariables false
set_option linter.unusedSimpArgs false

def smallO (o : Od) : Prop := (Lit.int .i64 o.1).wf = true ∧ o.2.1.size ≤ maxLen ∧ o.2.2.size ≤ maxLen
def ordVals (l : List Od) : List Value := l.flatMap fun o => [.int .i64 o.1, .string o.2.1, .string o.2.2]
theorem ordVals_cons (o : Od) (l : List Od) : ordVals (o :: l) = .int .i64 o.1 :: .string o.2.1 :: .string o.2.2 :: ordVals l := rfl
theorem ordVals_append (a b : List Od) : ordVals (a ++ b) = ordVals a ++ ordVals b := by simp [ordVals]
theorem ordVals_at (l : List Od) (i : Nat) (h : i < l.length) : (ordVals l)[i * 3]? = some (.int .i64 l[i].1) ∧ (ordVals l)[i * 3 + 1]? = some (.string l[i].2.1) ∧ (ordVals l)[i * 3 + 2]? = some (.string l[i].2.2) := by
  induction l generalizing i with
  | nil => simp at h
  | cons p l ih =>
    cases i with
    | zero => exact ⟨rfl, rfl, rfl⟩
    | succ i =>
      rw [ordVals_cons, show (i + 1) * 3 = i * 3 + 1 + 1 + 1 by omega, show i * 3 + 1 + 1 + 1 + 1 = (i * 3 + 1) + 1 + 1 + 1 by omega, show i * 3 + 1 + 1 + 1 + 2 = (i * 3 + 2) + 1 + 1 + 1 by omega]
      simpa using ih i (by simpa using h)
theorem ordVals_oneCell (l : List Od) : ∀ v ∈ ordVals l, v.oneCell' = true := by
  intro v hv
  obtain ⟨p, _, hp⟩ := List.mem_flatMap.1 hv
  simp at hp
  rcases hp with rfl | rfl | rfl <;> rfl
theorem ordVals_setKind (l : List Od) (i : Nat) (h : i < l.length) (z : Int) : (ordVals l).set (i * 3) (.int .i64 z) = ordVals (l.set i (z, l[i].2)) := by
  induction l generalizing i with
  | nil => simp at h
  | cons p l ih =>
    cases i with
    | zero => rfl
    | succ i => rw [ordVals_cons, show (i + 1) * 3 = i * 3 + 1 + 1 + 1 by omega]; simp only [List.set_cons_succ, ordVals_cons, List.getElem_cons_succ]; rw [ih i (by simpa using h)]
theorem ordVals_setKey (l : List Od) (i : Nat) (h : i < l.length) (k : ByteArray) : (ordVals l).set (i * 3 + 1) (.string k) = ordVals (l.set i (l[i].1, k, l[i].2.2)) := by
  induction l generalizing i with
  | nil => simp at h
  | cons p l ih =>
    cases i with
    | zero => rfl
    | succ i => rw [ordVals_cons, show (i + 1) * 3 + 1 = i * 3 + 1 + 1 + 1 + 1 by omega]; simp only [List.set_cons_succ, ordVals_cons, List.getElem_cons_succ]; rw [ih i (by simpa using h)]
theorem ordVals_setVal (l : List Od) (i : Nat) (h : i < l.length) (v : ByteArray) : (ordVals l).set (i * 3 + 2) (.string v) = ordVals (l.set i (l[i].1, l[i].2.1, v)) := by
  induction l generalizing i with
  | nil => simp at h
  | cons p l ih =>
    cases i with
    | zero => rfl
    | succ i => rw [ordVals_cons, show (i + 1) * 3 + 2 = i * 3 + 2 + 1 + 1 + 1 by omega]; simp only [List.set_cons_succ, ordVals_cons, List.getElem_cons_succ]; rw [ih i (by simpa using h)]

/-! ### slices of orders that are read -/
def CellsO (w : World) (b off : Nat) (l : List Od) : Prop := ∀ i (h : i < l.length), w.cell? ⟨b, off + i * 3, none⟩ = some (.int .i64 l[i].1) ∧ w.cell? ⟨b, off + i * 3 + 1, none⟩ = some (.string l[i].2.1) ∧ w.cell? ⟨b, off + i * 3 + 2, none⟩ = some (.string l[i].2.2)
def SlO (w : World) (a : Option Addr) (len : Nat) (l : List Od) : Prop :=
  l.length = len ∧ len ≤ maxLen ∧ (∀ p ∈ l, smallO p) ∧ (0 < len → ∃ b off, a = some ⟨b, off, none⟩ ∧ CellsO w b off l)
section
variable {w w' : World} {a : Option Addr} {b off len base base' g n cap : Nat} {l : List Od} {row : Option Nat}
theorem SlO.cells (h : SlO w (some ⟨b, off, none⟩) len l) : CellsO w b off l := by
  intro i hi
  obtain ⟨b', off', e, hc⟩ := h.2.2.2 (by have := h.1; omega)
  simp only [Option.some.injEq, Addr.mk.injEq, and_true] at e
  obtain ⟨rfl, rfl⟩ := e
  exact hc i hi
theorem SlO.lt (h : SlO w (some ⟨b, off, none⟩) len l) (h0 : 0 < len) : b < w.heap.size :=
  World.block_lt_of_cell? w _ (h.cells 0 (by have := h.1; omega)).1
theorem CellsO.keep (h : CellsO w b off l) (hk : ∀ o v, w.cell? ⟨b, o, none⟩ = some v → w'.cell? ⟨b, o, none⟩ = some v) : CellsO w' b off l :=
  fun i hi => ⟨hk _ _ (h i hi).1, hk _ _ (h i hi).2.1, hk _ _ (h i hi).2.2⟩
theorem SlO.below (h : SlO w a len l) (hb : Below w.heap.size w w') : SlO w' a len l := by
  obtain ⟨h1, h2, h4, h3⟩ := h
  refine ⟨h1, h2, h4, fun h0 => ?_⟩
  obtain ⟨b, off, rfl, hc⟩ := h3 h0
  exact ⟨b, off, rfl, hc.keep fun o v hv => (hb.cell (p := ⟨b, o, none⟩) (World.block_lt_of_cell? w _ hv)).trans hv⟩
theorem SlO.grown (h : SlO w (some ⟨b, off, none⟩) len l) (hg : w.grownBy w' row) (hne : some b ≠ row) : SlO w' (some ⟨b, off, none⟩) len l :=
  ⟨h.1, h.2.1, h.2.2.1, fun _ => ⟨b, off, rfl, h.cells.keep fun o v hv => hg.cell hv hne⟩⟩

/-! ### rows of orders that a call made -/
def OwnO (w : World) (base g n cap : Nat) (l : List Od) : Prop := l.length = n ∧ (∀ p ∈ l, smallO p) ∧ w.ownsRow base 53 3 (.slice (some ⟨g, 0, none⟩) n cap) n (ordVals l)
theorem OwnO.lt (h : OwnO w base g n cap l) : base ≤ g ∧ g < w.heap.size := h.2.2.lt g rfl
theorem OwnO.cases (h : OwnO w base g n cap l) : n ≤ cap ∧ cap ≤ maxLen := by
  rcases h.2.2.2 with ⟨h', _⟩ | ⟨g', cap', cur, h', _, hg, h1, h2, _⟩
  · simp at h'
  · simp only [Value.slice.injEq, Option.some.injEq, Addr.mk.injEq, and_true, true_and] at h'
    obtain ⟨rfl, rfl⟩ := h'
    exact ⟨h1, h2⟩
theorem OwnO.mono (h : OwnO w base g n cap l) (hb : base' ≤ base) : OwnO w base' g n cap l := by
  refine ⟨h.1, h.2.1, h.2.2.1, ?_⟩
  rcases h.2.2.2 with h' | ⟨g', cap', cur, h', h0, r⟩
  · exact .inl h'
  · exact .inr ⟨g', cap', cur, h', by omega, r⟩
theorem OwnO.cell (h : OwnO w base g n cap l) : CellsO w g 0 l := by
  intro i hi
  have hl := h.1
  have k0 := h.2.2.cellAt (i * 3) (by omega)
  have k1 := h.2.2.cellAt (i * 3 + 1) (by omega)
  have k2 := h.2.2.cellAt (i * 3 + 2) (by omega)
  obtain ⟨e0, e1, e2⟩ := ordVals_at l i hi
  rw [e0] at k0
  rw [e1] at k1
  rw [e2] at k2
  rw [Nat.zero_add]
  exact ⟨k0, k1, k2⟩
theorem OwnO.kind (h : OwnO w base g n cap l) (i : Nat) (hi : i < l.length) : w.cell? ⟨g, i * 3, none⟩ = some (.int .i64 l[i].1) := by
  have := (h.cell i hi).1; rwa [Nat.zero_add] at this
theorem OwnO.key (h : OwnO w base g n cap l) (i : Nat) (hi : i < l.length) : w.cell? ⟨g, i * 3 + 1, none⟩ = some (.string l[i].2.1) := by
  have := (h.cell i hi).2.1; rwa [Nat.zero_add] at this
theorem OwnO.val (h : OwnO w base g n cap l) (i : Nat) (hi : i < l.length) : w.cell? ⟨g, i * 3 + 2, none⟩ = some (.string l[i].2.2) := by
  have := (h.cell i hi).2.2; rwa [Nat.zero_add] at this
theorem OwnO.frozen (h : OwnO w base g n cap l) (i : Nat) : w.frozen? ⟨g, i, none⟩ = false := h.2.2.frozenAt i
theorem OwnO.sl (h : OwnO w base g n cap l) : SlO w (some ⟨g, 0, none⟩) n l :=
  ⟨h.1, by have := h.cases; omega, h.2.1, fun _ => ⟨g, 0, rfl, h.cell⟩⟩
theorem OwnO.grown (h : OwnO w base g n cap l) (hg : w.grownBy w' row) (hne : some g ≠ row) : OwnO w' base g n cap l :=
  ⟨h.1, h.2.1, h.2.2.kept hg (.inr hne)⟩
theorem OwnO.below (h : OwnO w base g n cap l) (hb : Below w.heap.size w w') : OwnO w' base g n cap l :=
  ⟨h.1, h.2.1, h.2.2.kept (row := none) ⟨hb.os, hb.tape, hb.output, hb.size, fun k hk _ => hb.block k hk⟩ (.inr (by simp [Value.ownBlock]))⟩
theorem mem_set_smallO {i : Nat} {p : Od} (h : ∀ q ∈ l, smallO q) (hp : smallO p) : ∀ q ∈ l.set i p, smallO q := by
  intro q hq
  rcases List.mem_or_eq_of_mem_set hq with h1 | h1
  · exact h q h1
  · subst h1; exact hp
theorem OwnO.setKind (h : OwnO w base g n cap l) (i : Nat) (hi : i < l.length) (z : Int) (hz : (Lit.int .i64 z).wf = true) :
    OwnO (w.setCell ⟨g, i * 3, none⟩ (.int .i64 z)) base g n cap (l.set i (z, l[i].2)) ∧ w.grownBy (w.setCell ⟨g, i * 3, none⟩ (.int .i64 z)) (some g) := by
  have hs := h.2.2.stored (i * 3) (.int .i64 z)
  rw [ordVals_setKind l i hi] at hs
  exact ⟨⟨by simpa using h.1, mem_set_smallO h.2.1 ⟨hz, (h.2.1 _ (List.getElem_mem hi)).2⟩, hs.1⟩, hs.2⟩
theorem OwnO.setKey (h : OwnO w base g n cap l) (i : Nat) (hi : i < l.length) (k : ByteArray) (hk : k.size ≤ maxLen) :
    OwnO (w.setCell ⟨g, i * 3 + 1, none⟩ (.string k)) base g n cap (l.set i (l[i].1, k, l[i].2.2)) ∧ w.grownBy (w.setCell ⟨g, i * 3 + 1, none⟩ (.string k)) (some g) := by
  have hs := h.2.2.stored (i * 3 + 1) (.string k)
  rw [ordVals_setKey l i hi] at hs
  exact ⟨⟨by simpa using h.1, mem_set_smallO h.2.1 ⟨(h.2.1 _ (List.getElem_mem hi)).1, hk, (h.2.1 _ (List.getElem_mem hi)).2.2⟩, hs.1⟩, hs.2⟩
theorem OwnO.setVal (h : OwnO w base g n cap l) (i : Nat) (hi : i < l.length) (v : ByteArray) (hv : v.size ≤ maxLen) :
    OwnO (w.setCell ⟨g, i * 3 + 2, none⟩ (.string v)) base g n cap (l.set i (l[i].1, l[i].2.1, v)) ∧ w.grownBy (w.setCell ⟨g, i * 3 + 2, none⟩ (.string v)) (some g) := by
  have hs := h.2.2.stored (i * 3 + 2) (.string v)
  rw [ordVals_setVal l i hi] at hs
  exact ⟨⟨by simpa using h.1, mem_set_smallO h.2.1 ⟨(h.2.1 _ (List.getElem_mem hi)).1, (h.2.1 _ (List.getElem_mem hi)).2.1, hv⟩, hs.1⟩, hs.2⟩
theorem ownO_val {v' : Value} (hl : l.length = n) (hs : ∀ p ∈ l, smallO p) (h0 : ¬ v' = .slice none 0 0)
    (h : w'.ownsRow base 53 3 v' n (ordVals l)) : ∃ g' cap', v' = .slice (some ⟨g', 0, none⟩) n cap' ∧ OwnO w' base g' n cap' l := by
  rcases h.2 with ⟨h2, _⟩ | ⟨g', cap', cur, hv, _⟩
  · exact absurd h2 h0
  · subst hv
    exact ⟨g', cap', rfl, hl, hs, h⟩
theorem ownO_made (w : World) (base : Nat) (hb : base ≤ w.heap.size) : OwnO (w.alloc (.cells #[] 53)) base w.heap.size 0 0 [] :=
  ⟨rfl, fun s h => absurd h List.not_mem_nil, World.ownsRow_made w #[] 0 hb (Nat.zero_le _) rfl⟩
end
theorem infoO : (Try.prog.info? 53).map (fun i => (i.zero, i.size, i.bytes)) = some (some (.agg #[.int .i64 0, .string ⟨#[]⟩, .string ⟨#[]⟩]), 3, 40) := by kernel_rfl

end Go.Proofs.Ytefjbpkomphjdaa.ords

namespace Go.Proofs.Ytefjbpkomphjdaa.pairs
open Go Go.RowKit Go.Proofs.Ytefjbpkomphjdaa.base
set_option linter.unusedVariables false
set_option linter.unusedSimpArgs false

theorem bcell {W w1 : World} (hb : Below W.heap.size W w1) : (∀ b o, b < W.heap.size → w1.cell? ⟨b, o, none⟩ = W.cell? ⟨b, o, none⟩) :=
  fun b o h => hb.cell (p := ⟨b, o, none⟩) h
set_option maxHeartbeats 400000 in
theorem s_in (x a b : Int) (w : World) (hx : -1000 ≤ x ∧ x ≤ 1099511627776) (ha : 0 ≤ a ∧ a ≤ 1000) (hb : 0 ≤ b ∧ b ≤ 1000) :
    Calls Try.prog 62 #[.int .i64 x, .int .i64 a, .int .i64 b] w fun e w' => e = .returned (.bool (decide (a ≤ x ∧ x ≤ b))) ∧ w' = w := by
  by_cases h1 : a ≤ x
  · by_cases h2 : x ≤ b
    · go_enter Try.func62, Try.ntmps62
      go_wp2
      go_ret
      exact ⟨ret_bool (by simp [h1, h2]), rfl⟩
    · go_enter Try.func62, Try.ntmps62
      go_wp2
      go_ret
      exact ⟨ret_bool (by simp [h1, h2]), rfl⟩
  · go_enter Try.func62, Try.ntmps62
    go_wp2
    go_ret
    exact ⟨ret_bool (by have h3 : ¬ a ≤ x := by omega
                        simp [h3]), rfl⟩

theorem keyAll_drop (s : ByteArray) (k : Nat) (h : k < s.size) : keyAll (s.data.toList.drop k) = (keyCh s[k].toNat && keyAll (s.data.toList.drop (k + 1))) := by
  rw [List.drop_eq_getElem_cons (by simpa using h)]; rfl

set_option maxRecDepth 100000 in
set_option maxHeartbeats 1000000 in
theorem spec_keyOk (s : ByteArray) (w : World) (hs : s.size ≤ 1099511627776) :
    Calls Try.prog 77 #[.string s] w fun e w' => e = .returned (.bool (keyOk s)) ∧ w' = w := by
  generalize hR : keyAll s.data.toList = R
  have HR := Hid.mk' hR
  clear hR
  go_enter Try.func77, Try.ntmps77
  go_wp2
  go_loop [3] (fun i => ∃ k : Nat, k ≤ s.size ∧ i = .int .i64 (k : Int) ∧ keyAll (s.data.toList.drop k) = R) (fun i => s.size - (intOf i).toNat)
  case atStart => exact ⟨0, Nat.zero_le _, rfl, HR.out⟩
  case round =>
    obtain ⟨k, hk, rfl, hr⟩ := hrel
    by_cases hlt : k < s.size
    · have hst := keyAll_drop s k hlt
      rw [hr] at hst
      have hc := s[k].toNat_lt
      generalize hC : s[k].toNat = c at *
      have HST := Hid.mk' hst
      have HC := Hid.mk' hC
      clear hst hr
      have hki : (k : Int) < (s.size : Int) := by omega
      by_cases h1 : 97 ≤ c ∧ c ≤ 122
      · have HF : Hid (keyAll (s.data.toList.drop (k + 1)) = R) := by
          show _ = _
          have := HST.out; rw [show keyCh c = true by simp [keyCh, h1]] at this; simpa using this.symm
        have hl := s_in (c : Int) 97 122 w (by omega) (by omega) (by omega)
        rw [decide_eq_true (by omega)] at hl
        have HL := Hid.mk' hl
        clear hl HST
        go_wp2_with fail
        refine HL.out.mono ?_
        rintro e w1 ⟨rfl, rfl⟩
        go_wp2_with fail
        go_round
        case rel => exact ⟨k + 1, by omega, by go_num, HF.out⟩
        case measure => simp [intOf]; omega
      · have hl := s_in (c : Int) 97 122 w (by omega) (by omega) (by omega)
        rw [decide_eq_false (by omega)] at hl
        have HL := Hid.mk' hl
        clear hl
        by_cases h2 : 48 ≤ c ∧ c ≤ 57
        · have HF : Hid (keyAll (s.data.toList.drop (k + 1)) = R) := by
            show _ = _
            have := HST.out; rw [show keyCh c = true by simp [keyCh, h2]] at this; simpa using this.symm
          have hl := s_in (c : Int) 48 57 w (by omega) (by omega) (by omega)
          rw [decide_eq_true (by omega)] at hl
          have HL2 := Hid.mk' hl
          clear hl HST
          go_wp2_with fail
          refine HL.out.mono ?_
          rintro e w1 ⟨rfl, rfl⟩
          go_wp2_with fail
          refine HL2.out.mono ?_
          rintro e w1 ⟨rfl, rfl⟩
          go_wp2_with fail
          go_round
          case rel => exact ⟨k + 1, by omega, by go_num, HF.out⟩
          case measure => simp [intOf]; omega
        · have HF : Hid (R = false) := by
            show _ = _
            have := HST.out; rw [show keyCh c = false by simp only [keyCh, h1, h2]; rfl] at this; simpa using this
          have hl := s_in (c : Int) 48 57 w (by omega) (by omega) (by omega)
          rw [decide_eq_false (by omega)] at hl
          have HL2 := Hid.mk' hl
          clear hl HST
          go_wp2_with fail
          refine HL.out.mono ?_
          rintro e w1 ⟨rfl, rfl⟩
          go_wp2_with fail
          refine HL2.out.mono ?_
          rintro e w1 ⟨rfl, rfl⟩
          go_wp2_with fail
          go_ret
          exact ⟨ret_bool (by unfold keyOk; rw [HR.out, HF.out]; rfl), rfl⟩
    · have HF : Hid (R = true) := by show _ = _; rw [← hr, List.drop_eq_nil_of_le (by simp; omega)]; rfl
      have hl := s_in (s.size : Int) 1 12 w (by omega) (by omega) (by omega)
      rw [show decide ((1 : Int) ≤ (s.size : Int) ∧ (s.size : Int) ≤ 12) = decide (1 ≤ s.size ∧ s.size ≤ 12) by rw [decide_eq_decide]; omega] at hl
      have HL := Hid.mk' hl
      clear hl hr
      go_wp2_with fail
      refine HL.out.mono ?_
      rintro e w1 ⟨rfl, rfl⟩
      go_wp2_with fail
      go_ret
      exact ⟨ret_bool (by unfold keyOk; rw [HR.out, HF.out]; simp), rfl⟩


theorem str_ne {a b : ByteArray} (h : a ≠ b) : (a.toList == b.toList) = false := by
  rw [beq_eq_false_iff_ne]; intro e; rw [ByteArray.toList_eq, ByteArray.toList_eq] at e; exact h (bytes_ext e)



end Go.Proofs.Ytefjbpkomphjdaa.pairs

namespace Go.Proofs.Ytefjbpkomphjdaa.pairs
open Go Go.RowKit Go.Proofs.Ytefjbpkomphjdaa.base
set_option linter.unusedVariables false
set_option linter.unusedSimpArgs false

end Go.Proofs.Ytefjbpkomphjdaa.pairs

namespace Go.Proofs.Ytefjbpkomphjdaa.pairs
open Go Go.RowKit Go.Proofs.Ytefjbpkomphjdaa.base
set_option linter.unusedVariables false
set_option linter.unusedSimpArgs false

end Go.Proofs.Ytefjbpkomphjdaa.pairs

namespace Go.Proofs.Ytefjbpkomphjdaa.last
open Go Go.RowKit
section
variable {P : Program} {ops : Array Oper} {md : Region.Mode} {C : World → Prop}

/-! ### calls that make memory: the class of the worlds that go on from w -/
def On (B : Nat) (w : World) : Type := { w' : World // Below B w w' }
def On.w {B : Nat} {w : World} (x : On B w) : World := x.1
theorem On.inh (B : Nat) (w : World) : Nonempty (On B w) := ⟨⟨w, Below.refl _ _⟩⟩
theorem wp_region_on {id : Nat} {Q : Exit → Act → World → Prop} {a : Act} {w : World} {l : List Oper} (B : Nat) (hm : P.follows .mixedOrders = true) (hB : Region.lexB .any l.toArray = true)
    (h : wpQuiet P l.toArray (fun w' => ∃ x : On B w, w' = x.w) (fun a' => ∀ w', (∃ x : On B w, w' = x.w) → Q .normal a' w') l a) : (Code.region id l.toArray true).wp P Q a w :=
  wp_region_quiet (C := fun w' => ∃ x : On B w, w' = x.w) hm hB ⟨⟨w.drew, (Below.refl _ _).drew⟩, rfl⟩ (by simpa using h)
theorem Calls.on {f : FuncId} {args : Array Value} {B : Nat} {w : World} {v : Value} (x : On B w) (hBw : B ≤ w.heap.size) (h : Calls P f args x.w fun e w' => e = .returned v ∧ Below x.w.heap.size x.w w') :
    Calls P f args x.w fun e w'' => e = .returned v ∧ ∃ y : On B w, w'' = y.w :=
  h.mono fun _ w'' ⟨he, hb⟩ => ⟨he, ⟨w'', x.2.trans (hb.mono (Nat.le_trans hBw x.2.size))⟩, rfl⟩
theorem On.cell {B : Nat} {w : World} {b o : Nat} {v : Value} (h : w.cell? ⟨b, o, none⟩ = some v) (hb : b < B) : ∀ x : On B w, x.w.cell? ⟨b, o, none⟩ = some v :=
  fun x => (x.2.cell (p := ⟨b, o, none⟩) hb).trans h

end
end Go.Proofs.Ytefjbpkomphjdaa.last

namespace Go.Proofs.Ytefjbpkomphjdaa.pairs
open Go Go.RowKit Go.Proofs.Ytefjbpkomphjdaa.base
set_option linter.unusedVariables false
set_option linter.unusedSimpArgs false

end Go.Proofs.Ytefjbpkomphjdaa.pairs

namespace Go.Proofs.Ytefjbpkomphjdaa.ords
open Go Go.RowKit Go.Proofs.Ytefjbpkomphjdaa.base Go.Proofs.Ytefjbpkomphjdaa.pairs
set_option linter.unusedVariables false
set_option linter.unusedSimpArgs false

set_option maxHeartbeats 400000 in
theorem s_inZ (x a b : Int) (w : World) :
    Calls Try.prog 62 #[.int .i64 x, .int .i64 a, .int .i64 b] w fun e w' => e = .returned (.bool (decide (a ≤ x ∧ x ≤ b))) ∧ w' = w := by
  by_cases h1 : a ≤ x
  · by_cases h2 : x ≤ b
    · go_enter Try.func62, Try.ntmps62
      go_wp2
      go_ret
      exact ⟨ret_bool (by simp [h1, h2]), rfl⟩
    · go_enter Try.func62, Try.ntmps62
      go_wp2
      go_ret
      exact ⟨ret_bool (by simp [h1, h2]), rfl⟩
  · go_enter Try.func62, Try.ntmps62
    go_wp2
    go_ret
    exact ⟨ret_bool (by have h3 : ¬ a ≤ x := by omega
                        simp [h3]), rfl⟩

theorem size_empty {v : ByteArray} (h : v.size = 0) : v = ⟨#[]⟩ := by
  apply bytes_ext; exact List.eq_nil_of_length_eq_zero (by rw [Array.length_toList]; exact h)
theorem not_empty {v : ByteArray} (h : ¬ v.size = 0) : ¬ v.toList = [] ∧ v.toList.isEmpty = false := by
  have hq : ¬ v.toList = [] := fun e => h (by have : v = ⟨#[]⟩ := bytes_ext (by rw [← ByteArray.toList_eq]; exact e)
                                              rw [this]; rfl)
  exact ⟨hq, by rw [Bool.eq_false_iff]; intro e; exact hq (List.isEmpty_iff.1 e)⟩

set_option maxRecDepth 100000 in
set_option maxHeartbeats 1000000 in
theorem spec_l7Op (o : Od) (w : World) (ho : smallO o) (hs : o.2.1.size ≤ 1099511627776) :
    Calls Try.prog 61 #[.agg #[.int .i64 o.1, .string o.2.1, .string o.2.2]] w fun e w' => e = .returned (.bool (odOk o)) ∧ Below w.heap.size w w' := by
  obtain ⟨z, k, v⟩ := o
  have h2 := ho.2.2
  simp only [] at h2 hs ⊢
  unfold maxLen at h2
  have hba : Below w.heap.size w (w.alloc (.cells #[.int .i64 z, .string k, .string v] 53)) := (Below.refl _ _).alloc (Nat.le_refl _) _
  have hin := s_inZ z 1 3 (w.alloc (.cells #[.int .i64 z, .string k, .string v] 53))
  have hk := spec_keyOk k (w.alloc (.cells #[.int .i64 z, .string k, .string v] 53)) hs
  generalize hK : keyOk k = K at hk
  have H1 := Hid.mk' hK
  have HK := Hid.mk' hk
  clear hk hK ho
  by_cases hz : 1 ≤ z ∧ z ≤ 3
  · rw [decide_eq_true hz] at hin
    have HI := Hid.mk' hin
    clear hin
    by_cases hz2 : z = 2
    · subst hz2
      by_cases hv : v.size = 0
      · obtain rfl := size_empty hv
        clear hz hv
        go_enter Try.func61, Try.ntmps61
        go_wp2_with fail
        refine HI.out.mono ?_
        rintro e w1 ⟨rfl, rfl⟩
        go_wp2_with fail
        refine HK.out.mono ?_
        rintro e w1 ⟨rfl, rfl⟩
        cases K
        all_goals
          go_wp2_with fail
          go_ret
          exact ⟨ret_bool (by unfold odOk; rw [H1.out]; rfl), hba⟩
      · have HV := Hid.mk' hv
        obtain ⟨hq, hq2⟩ := not_empty hv
        clear hz hv
        go_enter Try.func61, Try.ntmps61
        go_wp2_with fail
        refine HI.out.mono ?_
        rintro e w1 ⟨rfl, rfl⟩
        go_wp2_with fail
        go_ret
        exact ⟨ret_bool (by have := HV.out; unfold odOk; simp [this]), hba⟩
    · have HZ := Hid.mk' hz
      have HZ2 := Hid.mk' hz2
      have hb : (z == 2) = false := beq_eq_false_iff_ne.2 hz2
      clear hz hz2
      go_enter Try.func61, Try.ntmps61
      go_wp2_with fail
      refine HI.out.mono ?_
      rintro e w1 ⟨rfl, rfl⟩
      go_wp2_with fail
      refine HK.out.mono ?_
      rintro e w1 ⟨rfl, rfl⟩
      cases K
      all_goals
        go_wp2_with fail
        go_ret
        exact ⟨ret_bool (by have a := HZ.out; have b := HZ2.out; unfold odOk; rw [H1.out]; simp [a, b]; try omega), hba⟩
  · rw [decide_eq_false hz] at hin
    have HI := Hid.mk' hin
    have HZ := Hid.mk' hz
    clear hin hz
    go_enter Try.func61, Try.ntmps61
    go_wp2_with fail
    refine HI.out.mono ?_
    rintro e w1 ⟨rfl, rfl⟩
    go_wp2_with fail
    go_ret
    exact ⟨ret_bool (by unfold odOk; rw [decide_eq_false HZ.out]; rfl), hba⟩

end Go.Proofs.Ytefjbpkomphjdaa.ords

namespace Go.Proofs.Ytefjbpkomphjdaa.txts
open Go Go.RowKit Go.Proofs.Ytefjbpkomphjdaa.base Go.Proofs.Ytefjbpkomphjdaa.pairs Go.Proofs.Ytefjbpkomphjdaa.ords
set_option linter.unusedVariables false
set_option linter.unusedSimpArgs false

set_option maxRecDepth 100000 in
set_option maxHeartbeats 1000000 in
theorem spec_plain (s : ByteArray) (w : World) (hs : s.size ≤ 1099511627776) :
    Calls Try.prog 36 #[.string s] w fun e w' => e = .returned (.bool (plainS s)) ∧ w' = w := by
  generalize hR : keyAll s.data.toList = R
  have HR := Hid.mk' hR
  clear hR
  go_enter Try.func36, Try.ntmps36
  go_wp2
  go_loop [3] (fun i => ∃ k : Nat, k ≤ s.size ∧ i = .int .i64 (k : Int) ∧ keyAll (s.data.toList.drop k) = R) (fun i => s.size - (intOf i).toNat)
  case atStart => exact ⟨0, Nat.zero_le _, rfl, HR.out⟩
  case round =>
    obtain ⟨k, hk, rfl, hr⟩ := hrel
    by_cases hlt : k < s.size
    · have hst := keyAll_drop s k hlt
      rw [hr] at hst
      have hc := s[k].toNat_lt
      generalize hC : s[k].toNat = c at *
      have HST := Hid.mk' hst
      have HC := Hid.mk' hC
      clear hst hr
      have hki : (k : Int) < (s.size : Int) := by omega
      by_cases h1 : 97 ≤ c ∧ c ≤ 122
      · have HF : Hid (keyAll (s.data.toList.drop (k + 1)) = R) := by
          show _ = _
          have := HST.out; rw [show keyCh c = true by simp [keyCh, h1]] at this; simpa using this.symm
        have hl := s_inZ (c : Int) 97 122 w
        rw [decide_eq_true (by omega)] at hl
        have HL := Hid.mk' hl
        clear hl HST
        go_wp2_with fail
        refine HL.out.mono ?_
        rintro e w1 ⟨rfl, rfl⟩
        go_wp2_with fail
        go_round
        case rel => exact ⟨k + 1, by omega, by go_num, HF.out⟩
        case measure => simp [intOf]; omega
      · have hl := s_inZ (c : Int) 97 122 w
        rw [decide_eq_false (by omega)] at hl
        have HL := Hid.mk' hl
        clear hl
        by_cases h2 : 48 ≤ c ∧ c ≤ 57
        · have HF : Hid (keyAll (s.data.toList.drop (k + 1)) = R) := by
            show _ = _
            have := HST.out; rw [show keyCh c = true by simp [keyCh, h2]] at this; simpa using this.symm
          have hl := s_inZ (c : Int) 48 57 w
          rw [decide_eq_true (by omega)] at hl
          have HL2 := Hid.mk' hl
          clear hl HST
          go_wp2_with fail
          refine HL.out.mono ?_
          rintro e w1 ⟨rfl, rfl⟩
          go_wp2_with fail
          refine HL2.out.mono ?_
          rintro e w1 ⟨rfl, rfl⟩
          go_wp2_with fail
          go_round
          case rel => exact ⟨k + 1, by omega, by go_num, HF.out⟩
          case measure => simp [intOf]; omega
        · have HF : Hid (R = false) := by
            show _ = _
            have := HST.out; rw [show keyCh c = false by simp only [keyCh, h1, h2]; rfl] at this; simpa using this
          have hl := s_inZ (c : Int) 48 57 w
          rw [decide_eq_false (by omega)] at hl
          have HL2 := Hid.mk' hl
          clear hl HST
          go_wp2_with fail
          refine HL.out.mono ?_
          rintro e w1 ⟨rfl, rfl⟩
          go_wp2_with fail
          refine HL2.out.mono ?_
          rintro e w1 ⟨rfl, rfl⟩
          go_wp2_with fail
          go_ret
          exact ⟨ret_bool (by unfold plainS; rw [HR.out, HF.out]; rfl), rfl⟩
    · have HF : Hid (R = true) := by show _ = _; rw [← hr, List.drop_eq_nil_of_le (by simp; omega)]; rfl
      clear hr
      by_cases h20 : s.size ≤ 20
      · have h20i : (s.size : Int) ≤ 20 := by omega
        go_wp2_with fail
        go_ret
        exact ⟨ret_bool (by unfold plainS; rw [HR.out, HF.out, decide_eq_true h20]; simp [h20i]), rfl⟩
      · have h20i : ¬ (s.size : Int) ≤ 20 := by omega
        go_wp2_with fail
        go_ret
        exact ⟨ret_bool (by unfold plainS; rw [HR.out, HF.out, decide_eq_false h20]; simp [h20i]), rfl⟩

def wordsOf (b : UInt8) (s : ByteArray) : List ByteArray := (splitGo b [] s.data.toList).map fun l => ⟨l.toArray⟩
def begun (s : ByteArray) (f k : Nat) : List UInt8 := (s.data.toList.drop f).take (k - f)
theorem extract_begun (s : ByteArray) (f k : Nat) : s.extract f k = ⟨(begun s f k).toArray⟩ := by
  apply bytes_ext; rw [Lib.extract_data]; rfl
theorem begun_none (s : ByteArray) (k : Nat) : begun s k k = [] := by simp [begun]
theorem begun_more (s : ByteArray) (f k : Nat) (hf : f ≤ k) (hk : k < s.size) : begun s f (k + 1) = begun s f k ++ [s[k]] := by
  unfold begun
  rw [show k + 1 - f = (k - f) + 1 by omega, List.take_succ_eq_append_getElem (by simp; omega)]
  congr 1
  simp only [List.getElem_drop]
  have : f + (k - f) = k := by omega
  simp only [this]
  rfl
theorem begun_size (s : ByteArray) (f k : Nat) (hs : s.size ≤ maxLen) : (s.extract f k).size ≤ maxLen := by
  rw [extract_begun, ba_size]
  unfold begun
  have := size_len s
  simp; omega
def Spl (b : UInt8) (s : ByteArray) (R acc : List ByteArray) (f k : Nat) : Prop :=
  if k ≤ s.size then acc ++ (splitGo b (begun s f k) (s.data.toList.drop k)).map (fun l => (⟨l.toArray⟩ : ByteArray)) = R else acc = R
theorem spl_start (b : UInt8) (s : ByteArray) : Spl b s (wordsOf b s) [] 0 0 := by
  unfold Spl; rw [if_pos (Nat.zero_le _), begun_none]; simp [wordsOf]
theorem spl_word {b : UInt8} {s : ByteArray} {R acc : List ByteArray} {f k : Nat} (h : Spl b s R acc f k) (hk : k < s.size) (hb : s[k] = b) : Spl b s R (acc ++ [s.extract f k]) (k + 1) (k + 1) := by
  unfold Spl at h ⊢
  rw [if_pos (by omega)] at h
  rw [if_pos (by omega), begun_none, ← h, List.drop_eq_getElem_cons (i := k) (by simpa using hk), splitGo, if_pos (show s.data.toList[k] = b from hb), extract_begun]
  simp
theorem spl_more {b : UInt8} {s : ByteArray} {R acc : List ByteArray} {f k : Nat} (h : Spl b s R acc f k) (hf : f ≤ k) (hk : k < s.size) (hb : ¬ s[k] = b) : Spl b s R acc f (k + 1) := by
  unfold Spl at h ⊢
  rw [if_pos (by omega)] at h
  rw [if_pos (by omega), begun_more s f k hf hk, ← h, List.drop_eq_getElem_cons (i := k) (by simpa using hk), splitGo, if_neg (show ¬ s.data.toList[k] = b from hb)]
  rfl
theorem spl_last {b : UInt8} {s : ByteArray} {R acc : List ByteArray} {f : Nat} (h : Spl b s R acc f s.size) : Spl b s R (acc ++ [s.extract f s.size]) (s.size + 1) (s.size + 1) := by
  unfold Spl at h ⊢
  rw [if_pos (Nat.le_refl _), List.drop_eq_nil_of_le (by rw [size_len]; exact Nat.le_refl _), splitGo] at h
  rw [if_neg (by omega), ← h, extract_begun]
  rfl
theorem spl_end {b : UInt8} {s : ByteArray} {R acc : List ByteArray} {f k : Nat} (h : Spl b s R acc f k) (hk : s.size < k) : acc = R := by
  unfold Spl at h; rwa [if_neg (by omega)] at h

set_option maxRecDepth 100000 in
set_option maxHeartbeats 2000000 in
theorem spec_split (s : ByteArray) (b : UInt8) (z : Int) (w : World) (hz : z = (b.toNat : Int)) (hs : s.size ≤ 1099511627776) :
    Calls Try.prog 40 #[.string s, .int .u8 z] w fun e w' => ∃ g n cp, e = .returned (.slice (some ⟨g, 0, none⟩) n cp) ∧ OwnS w' w.heap.size g n cp (wordsOf b s) ∧ Below w.heap.size w w' := by
  subst hz
  generalize hR : wordsOf b s = R
  have HS : Hid (Spl b s R [] 0 0) := hR ▸ spl_start b s
  clear hR
  obtain ⟨i0, hi, hz0, hz1, hz2⟩ := info_parts info9
  go_enter Try.func40, Try.ntmps40
  go_wp2_with fail
  go_loopw [5, 6, 7] (fun o f i wr => ∃ (fn k g n cp : Nat) (acc : List ByteArray), o = .slice (some ⟨g, 0, none⟩) n cp ∧ f = .int .i64 (fn : Int) ∧ i = .int .i64 (k : Int) ∧ fn ≤ k ∧ k ≤ s.size + 1 ∧ n ≤ k ∧ OwnS wr w.heap.size g n cp acc ∧ Below w.heap.size w wr ∧ Spl b s R acc fn k) (fun o f i _ => s.size + 1 - (intOf i).toNat)
  case atStart => exact ⟨0, 0, w.heap.size, 0, 0, [], rfl, rfl, rfl, by omega, by omega, by omega, ownS_made _ _ (Nat.le_refl _), (Below.refl _ _).alloc (Nat.le_refl _) _, HS.out⟩
  case round =>
    obtain ⟨fn, k, g, n, cp, acc, rfl, rfl, rfl, hfk, hk, hnk, hO, hB, hsp⟩ := hrel
    clear HS
    have HSP := Hid.mk' hsp
    clear hsp
    have hbw := hB.size
    have hc3 : n + 1 ≤ maxLen := by unfold maxLen; omega
    have hc4 : (n + 1) * 16 ≤ 140737488355328 := by omega
    have hsx := begun_size s fn k (by unfold maxLen; omega)
    by_cases hle : k ≤ s.size
    · have hki : (k : Int) ≤ (s.size : Int) := by omega
      have hsl : ∀ W, (Instr.slice 9 (.string s) (some (.int .i64 (fn : Int))) (some (.int .i64 (k : Int))) none).run Try.prog W = .ok (.string (s.extract fn k)) W := fun W => by
        rw [run_slice_string W 9 s .i64 .i64 (fn : Int) (k : Int) Try.underlying9 (by omega) (by omega) (by omega)]; rfl
      by_cases hke : k = s.size
      · subst hke
        have HN : Hid (Spl b s R (acc ++ [s.extract fn s.size]) (s.size + 1) (s.size + 1)) := spl_last HSP.out
        clear HSP
        go_wp2_with (at_builtin; refine wpList_append_own _ rfl _ _ 66 rfl w.heap.size 9 i0 (.string ⟨#[]⟩) 1 16 Try.underlying66 hi hz0 hz1 hz2 rfl (by decide) _ _ _ rfl (hO.2.2.alloc _) ⟨wr.heap.size, 0, none⟩ 1 1 [_] rfl rfl (cell_one_new _ _ _) (str_oneCell _) hc3 hc4 (leAlloc _ _ hbw) ?_)
        intro v3 w3 hown hgrow hnn
        rw [← strVals_snoc] at hown
        obtain ⟨g3, cp3, hv, hO3⟩ := ownS_val (by have := hO.1; simp; omega) (by
          intro x hx
          rcases List.mem_append.1 hx with hx | hx
          · exact hO.2.1 x hx
          · simp at hx; subst hx; exact hsx) hnn hown
        subst hv
        have hB3 : Below w.heap.size w w3 := (hB.alloc hbw _).grown hgrow (leAlloc _ _ hbw) (fun k e => by simp [Value.ownBlock] at e; have := hO.lt; omega)
        have HO3 := Hid.mk' hO3
        clear hown hgrow hnn hO hO3 hB
        go_wp2_with fail
        go_roundw
        case rel => exact ⟨s.size + 1, s.size + 1, g3, n + 1, cp3, acc ++ [s.extract fn s.size], rfl, by go_num, by go_num, by omega, by omega, by omega, HO3.out, hB3, HN.out⟩
        case measure => simp [intOf]
      · have hlt : k < s.size := by omega
        have hkz : ¬ (k : Int) = (s.size : Int) := by omega
        have hkz2 : ((k : Int) == (s.size : Int)) = false := by simp [hkz]
        have hlti : (k : Int) < (s.size : Int) := by omega
        by_cases hb : s[k] = b
        · have HN : Hid (Spl b s R (acc ++ [s.extract fn k]) (k + 1) (k + 1)) := spl_word HSP.out hlt hb
          have hbt : ((s[k].toNat : Int) == (b.toNat : Int)) = true := by rw [hb]; simp
          clear HSP hb
          go_wp2_with (at_builtin; refine wpList_append_own _ rfl _ _ 66 rfl w.heap.size 9 i0 (.string ⟨#[]⟩) 1 16 Try.underlying66 hi hz0 hz1 hz2 rfl (by decide) _ _ _ rfl (hO.2.2.alloc _) ⟨wr.heap.size, 0, none⟩ 1 1 [_] rfl rfl (cell_one_new _ _ _) (str_oneCell _) hc3 hc4 (leAlloc _ _ hbw) ?_)
          intro v3 w3 hown hgrow hnn
          rw [← strVals_snoc] at hown
          obtain ⟨g3, cp3, hv, hO3⟩ := ownS_val (by have := hO.1; simp; omega) (by
            intro x hx
            rcases List.mem_append.1 hx with hx | hx
            · exact hO.2.1 x hx
            · simp at hx; subst hx; exact hsx) hnn hown
          subst hv
          have hB3 : Below w.heap.size w w3 := (hB.alloc hbw _).grown hgrow (leAlloc _ _ hbw) (fun k e => by simp [Value.ownBlock] at e; have := hO.lt; omega)
          have HO3 := Hid.mk' hO3
          clear hown hgrow hnn hO hO3 hB
          go_wp2_with fail
          go_roundw
          case rel => exact ⟨k + 1, k + 1, g3, n + 1, cp3, acc ++ [s.extract fn k], rfl, by go_num, by go_num, by omega, by omega, by omega, HO3.out, hB3, HN.out⟩
          case measure => simp [intOf]; omega
        · have HN : Hid (Spl b s R acc fn (k + 1)) := spl_more HSP.out hfk hlt hb
          have hbt : ¬ s[k].toNat = b.toNat := fun e => hb (UInt8.toNat_inj.1 e)
          have hcd2 : ((s[k].toNat : Int) == (b.toNat : Int)) = false := by rw [beq_eq_false_iff_ne]; omega
          clear HSP hb hbt
          go_wp2_with fail
          go_roundw
          case rel => exact ⟨fn, k + 1, g, n, cp, acc, rfl, rfl, by go_num, by omega, by omega, by omega, hO, hB, HN.out⟩
          case measure => simp [intOf]; omega
    · have hki : ¬ (k : Int) ≤ (s.size : Int) := by omega
      obtain rfl := spl_end HSP.out (by omega)
      clear HSP
      go_wp2_with fail
      go_ret
      exact ⟨g, n, cp, rfl, hO, hB⟩

end Go.Proofs.Ytefjbpkomphjdaa.txts
