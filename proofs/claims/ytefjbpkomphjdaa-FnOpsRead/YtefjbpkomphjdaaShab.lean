/- Plain mathematics of orders: what is told of them, their bytes, and that these come back. Rows of orders (three cells each): small facts on worlds; no function of the program is named here. The specification's orders: what is right, what is met. The specification's orders: all of them are right. hash walks The specification's orders: what is met, what is done, at which shard. The specification's orders: what is done, and those of a shard. -/
import Derived.Test.YtefjbpkomphjdaaShaa
import Derived.OwnWalk
import Derived.Test.YtefjbpkomphjdaaRows
namespace Go.Proofs.Ytefjbpkomphjdaa.ords
open Go Go.RowKit Go.Proofs.Ytefjbpkomphjdaa.base Go.Proofs.Ytefjbpkomphjdaa.pairs Go.Proofs.Ytefjbpkomphjdaa.putnum Go.Proofs.Ytefjbpkomphjdaa.puttext Go.Proofs.Ytefjbpkomphjdaa.getnum Go.Proofs.Ytefjbpkomphjdaa.gettext Go.Proofs.Ytefjbpkomphjdaa.gettexts Go.Proofs.Ytefjbpkomphjdaa.nummath
set_option linter.unusedVariables false

abbrev Od := Int × ByteArray × ByteArray
def odOk (o : Od) : Bool := decide (1 ≤ o.1 ∧ o.1 ≤ 3) && (decide (o.1 ≠ 2) || decide (o.2.2.size = 0)) && keyOk o.2.1 && decide (o.2.2.size ≤ 20)
def opsFrom : Option ByteArray → List Od → Bool
  | _, [] => true
  | none, o :: l => odOk o && opsFrom (some o.2.1) l
  | some k, o :: l => odOk o && ltB k o.2.1 && opsFrom (some o.2.1) l
def opsOk (l : List Od) : Bool := opsFrom none l && decide (1 ≤ l.length ∧ l.length ≤ 8)
/-! ### orders that are right -/
def RiseO (l : List Od) : Prop := l.Pairwise fun p q => ltB p.2.1 q.2.1 = true
theorem opsFrom_iff (o : Option ByteArray) (l : List Od) : opsFrom o l = true ↔ (∀ p ∈ l, odOk p = true) ∧ RiseO l ∧ ∀ k, o = some k → ∀ p ∈ l, ltB k p.2.1 = true := by
  induction l generalizing o with
  | nil => simp [opsFrom, RiseO]
  | cons p l ih =>
    have hi := ih (some p.2.1)
    unfold RiseO at hi ⊢
    rw [List.pairwise_cons]
    cases o with
    | none =>
      simp only [opsFrom, Bool.and_eq_true, hi, List.mem_cons, forall_eq_or_imp]
      constructor
      · rintro ⟨h1, h2, h3, h4⟩
        exact ⟨⟨h1, h2⟩, ⟨h4 _ rfl, h3⟩, fun k e => by cases e⟩
      · rintro ⟨⟨h1, h2⟩, ⟨h3, h4⟩, _⟩
        exact ⟨h1, h2, h4, fun k e q hq => by cases e; exact h3 q hq⟩
    | some k0 =>
      simp only [opsFrom, Bool.and_eq_true, hi, List.mem_cons, forall_eq_or_imp]
      constructor
      · rintro ⟨⟨h1, h0⟩, h2, h3, h4⟩
        refine ⟨⟨h1, h2⟩, ⟨h4 _ rfl, h3⟩, fun k e => ?_⟩
        cases e
        exact ⟨h0, fun q hq => ltB_trans h0 (h4 _ rfl q hq)⟩
      · rintro ⟨⟨h1, h2⟩, ⟨h3, h4⟩, h5⟩
        exact ⟨⟨h1, (h5 k0 rfl).1⟩, h2, h4, fun k e q hq => by cases e; exact h3 q hq⟩
theorem opsOk_iff (l : List Od) : opsOk l = true ↔ ((∀ p ∈ l, odOk p = true) ∧ RiseO l) ∧ 1 ≤ l.length ∧ l.length ≤ 8 := by
  unfold opsOk
  rw [Bool.and_eq_true, opsFrom_iff, decide_eq_true_iff]
  constructor
  · rintro ⟨⟨h1, h2, _⟩, h3⟩; exact ⟨⟨h1, h2⟩, h3⟩
  · rintro ⟨⟨h1, h2⟩, h3⟩; exact ⟨⟨h1, h2, fun k e => by cases e⟩, h3⟩
theorem odOk_iff (o : Od) : odOk o = true ↔ (1 ≤ o.1 ∧ o.1 ≤ 3) ∧ (o.1 = 2 → o.2.2.size = 0) ∧ keyOk o.2.1 = true ∧ o.2.2.size ≤ 20 := by
  unfold odOk
  simp only [Bool.and_eq_true, Bool.or_eq_true, decide_eq_true_iff]
  constructor
  · rintro ⟨⟨⟨h1, h2⟩, h3⟩, h4⟩
    exact ⟨h1, fun e => by rcases h2 with h | h; exact absurd e h; exact h, h3, h4⟩
  · rintro ⟨h1, h2, h3, h4⟩
    exact ⟨⟨⟨h1, by by_cases e : o.1 = 2; exact .inr (h2 e); exact .inl e⟩, h3⟩, h4⟩
theorem keyOk_size {s : ByteArray} (h : keyOk s = true) : 1 ≤ s.size ∧ s.size ≤ 12 := by
  unfold keyOk at h
  simp at h
  exact h.2

/-! ### bytes of numbers and texts, read -/
/-! ### orders come back of their bytes -/
/-! ### behind orders -/
/-! ### shards -/
end Go.Proofs.Ytefjbpkomphjdaa.ords

namespace Go.Proofs.Ytefjbpkomphjdaa.ords
open Go Go.RowKit Go.Proofs.Ytefjbpkomphjdaa.base Go.Proofs.Ytefjbpkomphjdaa.pairs
set_option linter.unusedVariables false
set_option linter.unusedSimpArgs false

def smallO (o : Od) : Prop := (Lit.int .i64 o.1).wf = true ∧ o.2.1.size ≤ maxLen ∧ o.2.2.size ≤ maxLen
def ordVals (l : List Od) : List Value := l.flatMap fun o => [.int .i64 o.1, .string o.2.1, .string o.2.2]
theorem ordVals_cons (o : Od) (l : List Od) : ordVals (o :: l) = .int .i64 o.1 :: .string o.2.1 :: .string o.2.2 :: ordVals l := rfl
theorem ordVals_append (a b : List Od) : ordVals (a ++ b) = ordVals a ++ ordVals b := by simp [ordVals]
theorem ordVals_at (l : List Od) (i : Nat) (h : i < l.length) : (ordVals l)[i * 3]? = some (.int .i64 l[i].1) ∧ (ordVals l)[i * 3 + 1]? = some (.string l[i].2.1) ∧ (ordVals l)[i * 3 + 2]? = some (.string l[i].2.2) := by
  induction l generalizing i with
  | nil => simp at h
  | cons p l ih =>
    cases i with
    | zero => exact ⟨rfl, rfl, rfl⟩
    | succ i =>
      rw [ordVals_cons, show (i + 1) * 3 = i * 3 + 1 + 1 + 1 by omega, show i * 3 + 1 + 1 + 1 + 1 = (i * 3 + 1) + 1 + 1 + 1 by omega, show i * 3 + 1 + 1 + 1 + 2 = (i * 3 + 2) + 1 + 1 + 1 by omega]
      simpa using ih i (by simpa using h)
theorem ordVals_oneCell (l : List Od) : ∀ v ∈ ordVals l, v.oneCell' = true := by
  intro v hv
  obtain ⟨p, _, hp⟩ := List.mem_flatMap.1 hv
  simp at hp
  rcases hp with rfl | rfl | rfl <;> rfl
/-! ### slices of orders that are read -/
def CellsO (w : World) (b off : Nat) (l : List Od) : Prop := ∀ i (h : i < l.length), w.cell? ⟨b, off + i * 3, none⟩ = some (.int .i64 l[i].1) ∧ w.cell? ⟨b, off + i * 3 + 1, none⟩ = some (.string l[i].2.1) ∧ w.cell? ⟨b, off + i * 3 + 2, none⟩ = some (.string l[i].2.2)
def SlO (w : World) (a : Option Addr) (len : Nat) (l : List Od) : Prop :=
  l.length = len ∧ len ≤ maxLen ∧ (∀ p ∈ l, smallO p) ∧ (0 < len → ∃ b off, a = some ⟨b, off, none⟩ ∧ CellsO w b off l)
section
variable {w w' : World} {a : Option Addr} {b off len base base' g n cap : Nat} {l : List Od} {row : Option Nat}
theorem SlO.cells (h : SlO w (some ⟨b, off, none⟩) len l) : CellsO w b off l := by
  intro i hi
  obtain ⟨b', off', e, hc⟩ := h.2.2.2 (by have := h.1; omega)
  simp only [Option.some.injEq, Addr.mk.injEq, and_true] at e
  obtain ⟨rfl, rfl⟩ := e
  exact hc i hi
theorem SlO.lt (h : SlO w (some ⟨b, off, none⟩) len l) (h0 : 0 < len) : b < w.heap.size :=
  World.block_lt_of_cell? w _ (h.cells 0 (by have := h.1; omega)).1
theorem CellsO.keep (h : CellsO w b off l) (hk : ∀ o v, w.cell? ⟨b, o, none⟩ = some v → w'.cell? ⟨b, o, none⟩ = some v) : CellsO w' b off l :=
  fun i hi => ⟨hk _ _ (h i hi).1, hk _ _ (h i hi).2.1, hk _ _ (h i hi).2.2⟩
theorem SlO.below (h : SlO w a len l) (hb : Below w.heap.size w w') : SlO w' a len l := by
  obtain ⟨h1, h2, h4, h3⟩ := h
  refine ⟨h1, h2, h4, fun h0 => ?_⟩
  obtain ⟨b, off, rfl, hc⟩ := h3 h0
  exact ⟨b, off, rfl, hc.keep fun o v hv => (hb.cell (p := ⟨b, o, none⟩) (World.block_lt_of_cell? w _ hv)).trans hv⟩
theorem SlO.grown (h : SlO w (some ⟨b, off, none⟩) len l) (hg : w.grownBy w' row) (hne : some b ≠ row) : SlO w' (some ⟨b, off, none⟩) len l :=
  ⟨h.1, h.2.1, h.2.2.1, fun _ => ⟨b, off, rfl, h.cells.keep fun o v hv => hg.cell hv hne⟩⟩

/-! ### rows of orders that a call made -/
def OwnO (w : World) (base g n cap : Nat) (l : List Od) : Prop := l.length = n ∧ (∀ p ∈ l, smallO p) ∧ w.ownsRow base 53 3 (.slice (some ⟨g, 0, none⟩) n cap) n (ordVals l)
theorem OwnO.lt (h : OwnO w base g n cap l) : base ≤ g ∧ g < w.heap.size := h.2.2.lt g rfl
theorem OwnO.cases (h : OwnO w base g n cap l) : n ≤ cap ∧ cap ≤ maxLen := by
  rcases h.2.2.2 with ⟨h', _⟩ | ⟨g', cap', cur, h', _, hg, h1, h2, _⟩
  · simp at h'
  · simp only [Value.slice.injEq, Option.some.injEq, Addr.mk.injEq, and_true, true_and] at h'
    obtain ⟨rfl, rfl⟩ := h'
    exact ⟨h1, h2⟩
theorem OwnO.mono (h : OwnO w base g n cap l) (hb : base' ≤ base) : OwnO w base' g n cap l := by
  refine ⟨h.1, h.2.1, h.2.2.1, ?_⟩
  rcases h.2.2.2 with h' | ⟨g', cap', cur, h', h0, r⟩
  · exact .inl h'
  · exact .inr ⟨g', cap', cur, h', by omega, r⟩
theorem OwnO.cell (h : OwnO w base g n cap l) : CellsO w g 0 l := by
  intro i hi
  have hl := h.1
  have k0 := h.2.2.cellAt (i * 3) (by omega)
  have k1 := h.2.2.cellAt (i * 3 + 1) (by omega)
  have k2 := h.2.2.cellAt (i * 3 + 2) (by omega)
  obtain ⟨e0, e1, e2⟩ := ordVals_at l i hi
  rw [e0] at k0
  rw [e1] at k1
  rw [e2] at k2
  rw [Nat.zero_add]
  exact ⟨k0, k1, k2⟩
theorem OwnO.kind (h : OwnO w base g n cap l) (i : Nat) (hi : i < l.length) : w.cell? ⟨g, i * 3, none⟩ = some (.int .i64 l[i].1) := by
  have := (h.cell i hi).1; rwa [Nat.zero_add] at this
theorem OwnO.key (h : OwnO w base g n cap l) (i : Nat) (hi : i < l.length) : w.cell? ⟨g, i * 3 + 1, none⟩ = some (.string l[i].2.1) := by
  have := (h.cell i hi).2.1; rwa [Nat.zero_add] at this
theorem OwnO.val (h : OwnO w base g n cap l) (i : Nat) (hi : i < l.length) : w.cell? ⟨g, i * 3 + 2, none⟩ = some (.string l[i].2.2) := by
  have := (h.cell i hi).2.2; rwa [Nat.zero_add] at this
theorem OwnO.sl (h : OwnO w base g n cap l) : SlO w (some ⟨g, 0, none⟩) n l :=
  ⟨h.1, by have := h.cases; omega, h.2.1, fun _ => ⟨g, 0, rfl, h.cell⟩⟩
theorem OwnO.grown (h : OwnO w base g n cap l) (hg : w.grownBy w' row) (hne : some g ≠ row) : OwnO w' base g n cap l :=
  ⟨h.1, h.2.1, h.2.2.kept hg (.inr hne)⟩
theorem OwnO.below (h : OwnO w base g n cap l) (hb : Below w.heap.size w w') : OwnO w' base g n cap l :=
  ⟨h.1, h.2.1, h.2.2.kept (row := none) ⟨hb.os, hb.tape, hb.output, hb.size, fun k hk _ => hb.block k hk⟩ (.inr (by simp [Value.ownBlock]))⟩
theorem ownO_val {v' : Value} (hl : l.length = n) (hs : ∀ p ∈ l, smallO p) (h0 : ¬ v' = .slice none 0 0)
    (h : w'.ownsRow base 53 3 v' n (ordVals l)) : ∃ g' cap', v' = .slice (some ⟨g', 0, none⟩) n cap' ∧ OwnO w' base g' n cap' l := by
  rcases h.2 with ⟨h2, _⟩ | ⟨g', cap', cur, hv, _⟩
  · exact absurd h2 h0
  · subst hv
    exact ⟨g', cap', rfl, hl, hs, h⟩
theorem ownO_made (w : World) (base : Nat) (hb : base ≤ w.heap.size) : OwnO (w.alloc (.cells #[] 53)) base w.heap.size 0 0 [] :=
  ⟨rfl, fun s h => absurd h List.not_mem_nil, World.ownsRow_made w #[] 0 hb (Nat.zero_le _) rfl⟩
end
theorem infoO : (Try.prog.info? 53).map (fun i => (i.zero, i.size, i.bytes)) = some (some (.agg #[.int .i64 0, .string ⟨#[]⟩, .string ⟨#[]⟩]), 3, 40) := by kernel_rfl

end Go.Proofs.Ytefjbpkomphjdaa.ords

namespace Go.Proofs.Ytefjbpkomphjdaa.ords
open Go Go.RowKit Go.Proofs.Ytefjbpkomphjdaa.base Go.Proofs.Ytefjbpkomphjdaa.pairs
set_option linter.unusedVariables false
set_option linter.unusedSimpArgs false

set_option maxHeartbeats 400000 in
theorem s_inZ (x a b : Int) (w : World) :
    Calls Try.prog 62 #[.int .i64 x, .int .i64 a, .int .i64 b] w fun e w' => e = .returned (.bool (decide (a ≤ x ∧ x ≤ b))) ∧ w' = w := by
  by_cases h1 : a ≤ x
  · by_cases h2 : x ≤ b
    · go_enter Try.func62, Try.ntmps62
      go_wp2
      go_ret
      exact ⟨ret_bool (by simp [h1, h2]), rfl⟩
    · go_enter Try.func62, Try.ntmps62
      go_wp2
      go_ret
      exact ⟨ret_bool (by simp [h1, h2]), rfl⟩
  · go_enter Try.func62, Try.ntmps62
    go_wp2
    go_ret
    exact ⟨ret_bool (by have h3 : ¬ a ≤ x := by omega
                        simp [h3]), rfl⟩

theorem size_empty {v : ByteArray} (h : v.size = 0) : v = ⟨#[]⟩ := by
  apply bytes_ext; exact List.eq_nil_of_length_eq_zero (by rw [Array.length_toList]; exact h)
theorem not_empty {v : ByteArray} (h : ¬ v.size = 0) : ¬ v.toList = [] ∧ v.toList.isEmpty = false := by
  have hq : ¬ v.toList = [] := fun e => h (by have : v = ⟨#[]⟩ := bytes_ext (by rw [← ByteArray.toList_eq]; exact e)
                                              rw [this]; rfl)
  exact ⟨hq, by rw [Bool.eq_false_iff]; intro e; exact hq (List.isEmpty_iff.1 e)⟩

set_option maxRecDepth 100000 in
set_option maxHeartbeats 1000000 in
theorem spec_l7Op (o : Od) (w : World) (ho : smallO o) (hs : o.2.1.size ≤ 1099511627776) :
    Calls Try.prog 61 #[.agg #[.int .i64 o.1, .string o.2.1, .string o.2.2]] w fun e w' => e = .returned (.bool (odOk o)) ∧ Below w.heap.size w w' := by
  obtain ⟨z, k, v⟩ := o
  have h2 := ho.2.2
  simp only [] at h2 hs ⊢
  unfold maxLen at h2
  have hba : Below w.heap.size w (w.alloc (.cells #[.int .i64 z, .string k, .string v] 53)) := (Below.refl _ _).alloc (Nat.le_refl _) _
  have hin := s_inZ z 1 3 (w.alloc (.cells #[.int .i64 z, .string k, .string v] 53))
  have hk := spec_keyOk k (w.alloc (.cells #[.int .i64 z, .string k, .string v] 53)) hs
  generalize hK : keyOk k = K at hk
  have H1 := Hid.mk' hK
  have HK := Hid.mk' hk
  clear hk hK ho
  by_cases hz : 1 ≤ z ∧ z ≤ 3
  · rw [decide_eq_true hz] at hin
    have HI := Hid.mk' hin
    clear hin
    by_cases hz2 : z = 2
    · subst hz2
      by_cases hv : v.size = 0
      · obtain rfl := size_empty hv
        clear hz hv
        go_enter Try.func61, Try.ntmps61
        go_wp2_with fail
        refine HI.out.mono ?_
        rintro e w1 ⟨rfl, rfl⟩
        go_wp2_with fail
        refine HK.out.mono ?_
        rintro e w1 ⟨rfl, rfl⟩
        cases K
        all_goals
          go_wp2_with fail
          go_ret
          exact ⟨ret_bool (by unfold odOk; rw [H1.out]; rfl), hba⟩
      · have HV := Hid.mk' hv
        obtain ⟨hq, hq2⟩ := not_empty hv
        clear hz hv
        go_enter Try.func61, Try.ntmps61
        go_wp2_with fail
        refine HI.out.mono ?_
        rintro e w1 ⟨rfl, rfl⟩
        go_wp2_with fail
        go_ret
        exact ⟨ret_bool (by have := HV.out; unfold odOk; simp [this]), hba⟩
    · have HZ := Hid.mk' hz
      have HZ2 := Hid.mk' hz2
      have hb : (z == 2) = false := beq_eq_false_iff_ne.2 hz2
      clear hz hz2
      go_enter Try.func61, Try.ntmps61
      go_wp2_with fail
      refine HI.out.mono ?_
      rintro e w1 ⟨rfl, rfl⟩
      go_wp2_with fail
      refine HK.out.mono ?_
      rintro e w1 ⟨rfl, rfl⟩
      cases K
      all_goals
        go_wp2_with fail
        go_ret
        exact ⟨ret_bool (by have a := HZ.out; have b := HZ2.out; unfold odOk; rw [H1.out]; simp [a, b]; try omega), hba⟩
  · rw [decide_eq_false hz] at hin
    have HI := Hid.mk' hin
    have HZ := Hid.mk' hz
    clear hin hz
    go_enter Try.func61, Try.ntmps61
    go_wp2_with fail
    refine HI.out.mono ?_
    rintro e w1 ⟨rfl, rfl⟩
    go_wp2_with fail
    go_ret
    exact ⟨ret_bool (by unfold odOk; rw [decide_eq_false HZ.out]; rfl), hba⟩

end Go.Proofs.Ytefjbpkomphjdaa.ords

namespace Go.Proofs.Ytefjbpkomphjdaa.ords
open Go Go.RowKit Go.Proofs.Ytefjbpkomphjdaa.base Go.Proofs.Ytefjbpkomphjdaa.pairs
set_option linter.unusedVariables false
set_option linter.unusedSimpArgs false

def prevO (l : List Od) (k : Nat) : Option ByteArray := if k = 0 then none else (l[k - 1]?).map (·.2.1)
theorem opsFrom_zero (l : List Od) (k : Nat) (h : k < l.length) (h0 : k = 0) : opsFrom (prevO l k) (l.drop k) = (odOk l[k] && opsFrom (prevO l (k + 1)) (l.drop (k + 1))) := by
  subst h0
  cases l with
  | nil => simp at h
  | cons p l => simp [prevO, opsFrom]
theorem opsFrom_step (l : List Od) (k : Nat) (h : k < l.length) (h0 : 0 < k) : opsFrom (prevO l k) (l.drop k) = (odOk l[k] && ltB l[k - 1].2.1 l[k].2.1 && opsFrom (prevO l (k + 1)) (l.drop (k + 1))) := by
  have e1 : prevO l k = some l[k - 1].2.1 := by unfold prevO; rw [if_neg (by omega), List.getElem?_eq_getElem (by omega)]; rfl
  have e2 : prevO l (k + 1) = some l[k].2.1 := by unfold prevO; rw [if_neg (by omega), Nat.add_sub_cancel, List.getElem?_eq_getElem h]; rfl
  rw [e1, e2, List.drop_eq_getElem_cons h, opsFrom]

set_option maxRecDepth 100000 in
set_option maxHeartbeats 2000000 in
theorem spec_opsOk (b off len cap : Nat) (l : List Od) (w : World) (h : SlO w (some ⟨b, off, none⟩) len l) (hks : ∀ p ∈ l, p.2.1.size ≤ 1099511627776) :
    Calls Try.prog 35 #[.slice (some ⟨b, off, none⟩) len cap] w fun e w' => e = .returned (.bool (opsOk l)) ∧ Below w.heap.size w w' := by
  have hl := h.1
  have hm := h.2.1
  have hsm := h.2.2.1
  subst hl
  unfold maxLen at hm
  generalize hR : opsFrom none l = R
  have HR := Hid.mk' hR
  clear hR
  go_enter Try.func35, Try.ntmps35
  go_wp2_with fail
  go_loopw [3] (fun i wr => ∃ k : Nat, k ≤ l.length ∧ i = .int .i64 (k : Int) ∧ opsFrom (prevO l k) (l.drop k) = R ∧ Below w.heap.size w wr) (fun i _ => l.length - (intOf i).toNat)
  case atStart => exact ⟨0, Nat.zero_le _, rfl, HR.out, Below.refl _ _⟩
  case round =>
    obtain ⟨k, hk, rfl, hr, hB⟩ := hrel
    by_cases hlt : k < l.length
    · have hS := h.below hB
      obtain ⟨c0, c1, c2⟩ := hS.cells k hlt
      have hbl := hS.lt (by omega)
      have hpk := hsm _ (List.getElem_mem hlt)
      have hks' := hks _ (List.getElem_mem hlt)
      have hki : (k : Int) < (l.length : Int) := by omega
      have hbd : b < wr.drew.heap.size := hbl
      by_cases h0 : k = 0
      · have hst := opsFrom_zero l k hlt h0
        rw [hr] at hst
        have hk0 : ¬ (0 : Int) < (k : Int) := by omega
        have hk1 : decide (0 < k) = false := by simp; omega
        have hk2 : decide ((0 : Int) < (k : Int)) = false := by simp; omega
        cases hP : odOk l[k]
        · have HF : Hid (R = false) := by rw [hP] at hst; exact hst
          have HP := Hid.mk' hP
          clear hst hr hP hS h0
          generalize l[k] = p at *
          have o0 := last.On.cell c0 hbl
          have o1 := last.On.cell c1 hbl
          have o2 := last.On.cell c2 hbl
          go_wp2_with fail
          have hinh := last.On.inh wr.heap.size wr
          have hcall : ∀ x : last.On wr.heap.size wr, Calls Try.prog 61 #[.agg #[.int .i64 p.1, .string p.2.1, .string p.2.2]] x.w fun e w' => e = .returned (.bool false) ∧ ∃ y : last.On wr.heap.size wr, w' = y.w := fun x => last.Calls.on x (Nat.le_refl _) (by have := spec_l7Op p x.w hpk hks'; rw [HP.out] at this; exact this)
          refine last.wp_region_on wr.heap.size (by kernel_rfl) (by kernel_rfl) ?_
          repeat (go_big_quiet_step ((go_at_call 61; exact hcall _)))
          refine wpQuiet_nil ?_
          intro w5 hw5
          obtain ⟨x5, hw5⟩ := hw5
          subst hw5
          have hB5 : Below w.heap.size w x5.w := hB.trans (x5.2.mono hB.size)
          go_wp2_with fail
          go_ret
          exact ⟨ret_bool (by unfold opsOk; rw [HR.out, HF.out]; rfl), hB5⟩
        · have HF : Hid (opsFrom (prevO l (k + 1)) (l.drop (k + 1)) = R) := by show _ = _; rw [hP] at hst; simpa using hst.symm
          have HP := Hid.mk' hP
          clear hst hr hP hS h0
          generalize l[k] = p at *
          have o0 := last.On.cell c0 hbl
          have o1 := last.On.cell c1 hbl
          have o2 := last.On.cell c2 hbl
          go_wp2_with fail
          have hinh := last.On.inh wr.heap.size wr
          have hcall : ∀ x : last.On wr.heap.size wr, Calls Try.prog 61 #[.agg #[.int .i64 p.1, .string p.2.1, .string p.2.2]] x.w fun e w' => e = .returned (.bool true) ∧ ∃ y : last.On wr.heap.size wr, w' = y.w := fun x => last.Calls.on x (Nat.le_refl _) (by have := spec_l7Op p x.w hpk hks'; rw [HP.out] at this; exact this)
          refine last.wp_region_on wr.heap.size (by kernel_rfl) (by kernel_rfl) ?_
          repeat (go_big_quiet_step ((go_at_call 61; exact hcall _)))
          refine wpQuiet_nil ?_
          intro w5 hw5
          obtain ⟨x5, hw5⟩ := hw5
          subst hw5
          have hB5 : Below w.heap.size w x5.w := hB.trans (x5.2.mono hB.size)
          go_wp2_with fail
          go_roundw
          case rel => exact ⟨k + 1, by omega, by go_num, HF.out, hB5⟩
          case measure => simp [intOf]; omega
      · have hst := opsFrom_step l k hlt (by omega)
        rw [hr] at hst
        have hk0 : (0 : Int) < (k : Int) := by omega
        have hk1 : decide (0 < k) = true := by simp; omega
        have hk2 : decide ((0 : Int) < (k : Int)) = true := by simp; omega
        have c3 := (hS.cells (k - 1) (by omega)).2.1
        obtain ⟨j, hj⟩ : ∃ j, k - 1 = j := ⟨_, rfl⟩
        have hjw : (k : Int) - 1 = (j : Int) := by omega
        have hjk : (j : Int) < (l.length : Int) := by omega
        generalize l[k - 1].2.1 = q at *
        rw [hj] at c3
        have o3 := last.On.cell c3 hbl
        cases hP : odOk l[k]
        · have HF : Hid (R = false) := by rw [hP] at hst; exact hst
          have HP := Hid.mk' hP
          clear hst hr hP hS h0 hj
          generalize l[k] = p at *
          have o0 := last.On.cell c0 hbl
          have o1 := last.On.cell c1 hbl
          have o2 := last.On.cell c2 hbl
          go_wp2_with fail
          have hinh := last.On.inh wr.heap.size wr
          have hcall : ∀ x : last.On wr.heap.size wr, Calls Try.prog 61 #[.agg #[.int .i64 p.1, .string p.2.1, .string p.2.2]] x.w fun e w' => e = .returned (.bool false) ∧ ∃ y : last.On wr.heap.size wr, w' = y.w := fun x => last.Calls.on x (Nat.le_refl _) (by have := spec_l7Op p x.w hpk hks'; rw [HP.out] at this; exact this)
          refine last.wp_region_on wr.heap.size (by kernel_rfl) (by kernel_rfl) ?_
          repeat (go_big_quiet_step ((go_at_call 61; exact hcall _)))
          refine wpQuiet_nil ?_
          intro w5 hw5
          obtain ⟨x5, hw5⟩ := hw5
          subst hw5
          have hB5 : Below w.heap.size w x5.w := hB.trans (x5.2.mono hB.size)
          go_wp2_with fail
          go_ret
          exact ⟨ret_bool (by unfold opsOk; rw [HR.out, HF.out]; rfl), hB5⟩
        · cases hL : ltB q l[k].2.1
          · have HF : Hid (R = false) := by show _ = _; rw [hP, hL] at hst; simpa using hst
            have HP := Hid.mk' hP
            have hl2 : Op.bytesLess q.toList l[k].2.1.toList = false := hL
            clear hst hr hP hS h0 hj hL
            generalize l[k] = p at *
            have o0 := last.On.cell c0 hbl
            have o1 := last.On.cell c1 hbl
            have o2 := last.On.cell c2 hbl
            go_wp2_with fail
            have hinh := last.On.inh wr.heap.size wr
            have hcall : ∀ x : last.On wr.heap.size wr, Calls Try.prog 61 #[.agg #[.int .i64 p.1, .string p.2.1, .string p.2.2]] x.w fun e w' => e = .returned (.bool true) ∧ ∃ y : last.On wr.heap.size wr, w' = y.w := fun x => last.Calls.on x (Nat.le_refl _) (by have := spec_l7Op p x.w hpk hks'; rw [HP.out] at this; exact this)
            refine last.wp_region_on wr.heap.size (by kernel_rfl) (by kernel_rfl) ?_
            repeat (go_big_quiet_step ((go_at_call 61; exact hcall _)))
            refine wpQuiet_nil ?_
            intro w5 hw5
            obtain ⟨x5, hw5⟩ := hw5
            subst hw5
            have hB5 : Below w.heap.size w x5.w := hB.trans (x5.2.mono hB.size)
            go_wp2_with fail
            go_ret
            exact ⟨ret_bool (by unfold opsOk; rw [HR.out, HF.out]; rfl), hB5⟩
          · have HF : Hid (opsFrom (prevO l (k + 1)) (l.drop (k + 1)) = R) := by show _ = _; rw [hP, hL] at hst; simpa using hst.symm
            have HP := Hid.mk' hP
            have hl2 : Op.bytesLess q.toList l[k].2.1.toList = true := hL
            clear hst hr hP hS h0 hj hL
            generalize l[k] = p at *
            have o0 := last.On.cell c0 hbl
            have o1 := last.On.cell c1 hbl
            have o2 := last.On.cell c2 hbl
            go_wp2_with fail
            have hinh := last.On.inh wr.heap.size wr
            have hcall : ∀ x : last.On wr.heap.size wr, Calls Try.prog 61 #[.agg #[.int .i64 p.1, .string p.2.1, .string p.2.2]] x.w fun e w' => e = .returned (.bool true) ∧ ∃ y : last.On wr.heap.size wr, w' = y.w := fun x => last.Calls.on x (Nat.le_refl _) (by have := spec_l7Op p x.w hpk hks'; rw [HP.out] at this; exact this)
            refine last.wp_region_on wr.heap.size (by kernel_rfl) (by kernel_rfl) ?_
            repeat (go_big_quiet_step ((go_at_call 61; exact hcall _)))
            refine wpQuiet_nil ?_
            intro w5 hw5
            obtain ⟨x5, hw5⟩ := hw5
            subst hw5
            have hB5 : Below w.heap.size w x5.w := hB.trans (x5.2.mono hB.size)
            go_wp2_with fail
            go_roundw
            case rel => exact ⟨k + 1, by omega, by go_num, HF.out, hB5⟩
            case measure => simp [intOf]; omega
    · have HF : Hid (R = true) := by show _ = _; rw [← hr, List.drop_eq_nil_of_le (by omega)]; cases prevO l k <;> rfl
      clear hr
      go_wp2_with fail
      refine (s_inZ (l.length : Int) 1 8 _).mono ?_
      rintro e w9 ⟨rfl, rfl⟩
      go_wp2_with fail
      go_ret
      exact ⟨ret_bool (by unfold opsOk; rw [HR.out, HF.out, Bool.true_and]; have e : (1 ≤ (l.length : Int) ∧ (l.length : Int) ≤ 8) ↔ (1 ≤ l.length ∧ l.length ≤ 8) := by omega
                          rw [← Bool.decide_and]; exact decide_eq_decide.2 e), hB⟩

end Go.Proofs.Ytefjbpkomphjdaa.ords

namespace Go.Proofs.Ytefjbpkomphjdaa.hash
open Go.RowKit Go.Proofs.Ytefjbpkomphjdaa.base
set_option linter.unusedVariables false
set_option linter.unusedSimpArgs false


end Go.Proofs.Ytefjbpkomphjdaa.hash

namespace Go.Proofs.Ytefjbpkomphjdaa.ords
open Go Go.RowKit Go.Proofs.Ytefjbpkomphjdaa.base Go.Proofs.Ytefjbpkomphjdaa.pairs
set_option linter.unusedVariables false
set_option linter.unusedSimpArgs false

end Go.Proofs.Ytefjbpkomphjdaa.ords

namespace Go.Proofs.Ytefjbpkomphjdaa.ords
open Go Go.RowKit Go.Proofs.Ytefjbpkomphjdaa.base Go.Proofs.Ytefjbpkomphjdaa.pairs
set_option linter.unusedVariables false
set_option linter.unusedSimpArgs false

theorem cells_three (w : World) (v1 v2 v3 : Value) (t : TypeId) : ∀ j u, [v1, v2, v3][j]? = some u → (w.alloc (.cells #[v1, v2, v3] t)).cell? ((⟨w.heap.size, 0, none⟩ : Addr).add j) = some u := by
  intro j u hj
  have hl : j < 3 := by have := (List.getElem?_eq_some_iff.1 hj).1; simpa using this
  rw [Addr.add_lit]
  match j, hl with
  | 0, _ => simp at hj; subst hj; simp [go_sem]
  | 1, _ => simp at hj; subst hj; simp [go_sem]
  | 2, _ => simp at hj; subst hj; simp [go_sem]
theorem one_ord_cells (w : World) (p : Od) (t : TypeId) : ∀ j u, (ordVals [p])[j]? = some u → (w.alloc (.cells #[.int .i64 p.1, .string p.2.1, .string p.2.2] t)).cell? ((⟨w.heap.size, 0, none⟩ : Addr).add j) = some u :=
  cells_three w (.int .i64 p.1) (.string p.2.1) (.string p.2.2) t
theorem ownO_app {w' : World} {base n : Nat} {v' : Value} {l : List Od} {p : Od} (hl : l.length = n) (hs : ∀ q ∈ l, smallO q) (hp : smallO p) (h0 : ¬ v' = .slice none 0 0)
    (h : w'.ownsRow base 53 3 v' (n + 1) (ordVals l ++ ordVals [p])) : ∃ g' cap', v' = .slice (some ⟨g', 0, none⟩) (n + 1) cap' ∧ OwnO w' base g' (n + 1) cap' (l ++ [p]) := by
  rw [← ordVals_append] at h
  refine ownO_val (by simp; omega) ?_ h0 h
  intro q hq
  rcases List.mem_append.1 hq with h1 | h1
  · exact hs q h1
  · simp at h1; subst h1; exact hp

end Go.Proofs.Ytefjbpkomphjdaa.ords
