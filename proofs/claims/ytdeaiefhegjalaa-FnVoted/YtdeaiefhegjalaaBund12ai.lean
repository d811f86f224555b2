/- The specification's putting of keys. A region that draws its order, whose operations only read, but for its last, which waits for all the others: one walk of the text's order serves every order. No function of the program is named here. -/
import Derived.Test.YtdeaiefhegjalaaBund12ah
import Derived.Deep.QuietTactic
import Derived.BigQuiet
import Derived.WalkKit
import Derived.WalkSpells
import Derived.WalkLawsBesides
namespace Go.Proofs.Ytdeaiefhegjalaa.pairs
open Go Go.RowKit Go.Proofs.Ytdeaiefhegjalaa.base
set_option linter.unusedVariables false
set_option linter.unusedSimpArgs false

theorem getKey_none {key : ByteArray} {l : List Pr} (h : getKey key l = none) (k : Nat) (hk : k < l.length) : l[k].1 ≠ key := by
  intro e
  have h2 := getKey_append key (l.take k) (l.drop k)
  rw [List.take_append_drop, h, getKey_drop key l k hk, if_pos e] at h2
  cases h3 : getKey key (l.take k) <;> rw [h3] at h2 <;> cases h2
theorem put_found {key val : ByteArray} {l : List Pr} (k : Nat) (hk : k < l.length) (he : l[k].1 = key) (hn : getKey key (l.take k) = none) : putKey key val l = l.set k (l[k].1, val) := by
  have h2 := getKey_append key (l.take k) (l.drop k)
  rw [List.take_append_drop, hn, getKey_drop key l k hk, if_pos he] at h2
  unfold putKey
  rw [h2, if_pos (by rfl), setFirst_at key val l k hk he hn, he]
theorem put_new {key val : ByteArray} {l : List Pr} (hn : getKey key l = none) : putKey key val l = l.take (below key l) ++ (key, val) :: l.drop (below key l) := by
  unfold putKey; rw [hn]; rfl
theorem take_none (key : ByteArray) (l : List Pr) (k : Nat) (hk : k < l.length) (hn : getKey key (l.take k) = none) (he : l[k].1 ≠ key) : getKey key (l.take (k + 1)) = none := by
  rw [take_snocP l k hk]; exact getKey_snoc_none key _ _ hn he
theorem put_small {key val : ByteArray} {l : List Pr} (h : ∀ p ∈ l, small p) (hk : key.size ≤ maxLen) (hv : val.size ≤ maxLen) : ∀ p ∈ putKey key val l, small p := by
  unfold putKey
  split
  · intro p hp
    have : ∀ l : List Pr, (∀ p ∈ l, small p) → ∀ p ∈ setFirst key val l, small p := by
      intro l
      induction l with
      | nil => intro _ p hp; exact absurd hp List.not_mem_nil
      | cons q l ih =>
        intro hl p hp
        unfold setFirst at hp
        split at hp
        · rcases List.mem_cons.1 hp with h1 | h1
          · subst h1; exact ⟨(hl q List.mem_cons_self).1, hv⟩
          · exact hl p (List.mem_cons_of_mem _ h1)
        · rcases List.mem_cons.1 hp with h1 | h1
          · subst h1; exact hl _ List.mem_cons_self
          · exact ih (fun r hr => hl r (List.mem_cons_of_mem _ hr)) p h1
    exact this l h p hp
  · intro p hp
    rcases List.mem_append.1 hp with h1 | h1
    · exact h p (List.mem_of_mem_take h1)
    · rcases List.mem_cons.1 h1 with h2 | h2
      · subst h2; exact ⟨hk, hv⟩
      · exact h p (List.mem_of_mem_drop h2)
theorem less_flip {a b : ByteArray} (h : a ≠ b) : Op.bytesLess a.toList b.toList = !Op.bytesLess b.toList a.toList := by
  cases h1 : Op.bytesLess b.toList a.toList
  · cases h2 : Op.bytesLess a.toList b.toList
    · exact absurd (ltB_total (a := a) (b := b) h2 h1) h
    · rfl
  · exact ltB_asymm (a := b) (b := a) h1
theorem cellsP_drop {w : World} {b off : Nat} {l : List Pr} (h : CellsP w b off l) (k : Nat) : CellsP w b (off + k * 2) (l.drop k) := by
  intro i hi
  have hki : k + i < l.length := by simp at hi; omega
  have := h (k + i) hki
  rw [List.getElem_drop, show off + k * 2 + i * 2 = off + (k + i) * 2 by omega]
  exact this
theorem cellsP_take {w : World} {b off : Nat} {l : List Pr} (h : CellsP w b off l) (k : Nat) : CellsP w b off (l.take k) := by
  intro i hi
  rw [List.getElem_take]
  exact h i (by simp at hi; omega)


end Go.Proofs.Ytdeaiefhegjalaa.pairs

namespace Go.Proofs.Ytdeaiefhegjalaa.last
open Go Go.RowKit
section
variable {P : Program} {ops : Array Oper} {md : Region.Mode} {C : World → Prop}

/-- whatever order is picked from here on, till only number z is left -/
def wpAnyZ (P : Program) (md : Region.Mode) (ops : Array Oper) (C : World → Prop) (z : Nat) (Q : Act → Prop) : Nat → Array Bool → Act → Prop
  | 0, listed, a => (Region.ready md ops listed = [z] ∧ Region.ready md ops (listed.setIfInBounds z true) = []) ∧ Q a
  | fuel + 1, listed, a => (z ∉ Region.ready md ops listed ∧ Region.ready md ops listed ≠ []) ∧
    ∀ i ∈ Region.ready md ops listed, qOp P ops C i (wpAnyZ P md ops C z Q fuel (listed.setIfInBounds i true)) a

theorem wpAny_of_z {z : Nat} {Q : Act → Prop} {Q' : Exit → Act → World → Prop} (hQ : ∀ a w, C w → Q a → wpOp P ops Q' z (fun a' w' => Q' .normal a' w') a w) : ∀ (fuel : Nat) (listed : Array Bool) (a : Act) (w : World), C w →
    wpAnyZ P md ops C z Q fuel listed a → wpAny P md ops Q' (fuel + 1) listed a w
  | 0, listed, a, w, hw, h => by
    refine ⟨fun h0 => (by rw [h.1.1] at h0; cases h0), fun i hi => ?_⟩
    rw [h.1.1] at hi
    have : i = z := by simpa using hi
    subst this
    exact wpOp_mono (fun a' w' h' => ⟨h.1.2, h'⟩) (hQ a w hw h.2)
  | fuel + 1, listed, a, w, hw, h =>
    ⟨fun h0 => absurd h0 h.1.2, fun i hi => wpOp_of_qOp hw (fun a' w' hw' => wpAny_of_z hQ fuel _ a' w' hw') (h.2 i hi)⟩

/-- of two that may both come up now neither waits for the other -/
theorem both_ready {i j : Nat} {o : Oper} {listed : Array Bool} (hi : i ∈ Region.ready md ops listed) (hj : j ∈ Region.ready md ops listed) (ho : ops[j]? = some o) :
    ∀ e ∈ o.after, Region.binds md e = true → e.on ≠ i := by
  rintro e he hb rfl
  obtain ⟨_, o', ho', hall⟩ := mem_ready.1 hj
  obtain rfl := Option.some.inj (ho'.symm.trans ho)
  have yes := hall e he hb
  have no := (mem_ready.1 hi).1
  by_cases hs : e.on < listed.size
  · simp only [Array.getD, hs, dif_pos] at yes no
    exact Bool.noConfusion (yes.symm.trans no)
  · simp [Array.getD, hs] at yes
/-- all that are still to come, and do not wait for number i, are apart from it -/
def Apart (md : Region.Mode) (ops : Array Oper) (i : Nat) (oi : Oper) (listed : Array Bool) : Prop :=
  ∀ j oj, ops[j]? = some oj → j ≠ i → listed.getD j true = false → (∀ e ∈ oj.after, Region.binds md e = true → e.on ≠ i) → oi.apart ops oj = true
theorem Apart.less {i : Nat} {oi : Oper} {listed : Array Bool} (h : Apart md ops i oi listed) (k : Nat) : Apart md ops i oi (listed.setIfInBounds k true) := by
  intro j oj hj hne hun
  refine h j oj hj hne ?_
  by_cases e : k = j
  · subst e
    by_cases hs : k < listed.size
    · simp [Array.getD, hs] at hun
    · simp [Array.getD, hs] at hun
  · rwa [getD_set_ne true e] at hun

theorem wpAnyZ_first {z : Nat} {Q : Act → Prop} {i : Nat} {oi : Oper} {v : Value} (hi : ops[i]? = some oi) (hsel : ∀ (j : Nat) (o : Oper) cs b, ops[j]? = some o → o.op ≠ .select cs b)
    {oz : Oper} (hz : ops[z]? = some oz) (hzi : ∃ e ∈ oz.after, Region.binds md e = true ∧ e.on = i) (fuel : Nat) :
    ∀ (listed : Array Bool) (a : Act), Apart md ops i oi listed → i ∈ Region.ready md ops listed → YieldsIn P ops C oi v a →
      wpAnyZ P md ops C z Q fuel (listed.setIfInBounds i true) (a.put oi.dst v) → wpAnyZ P md ops C z Q (fuel + 1) listed a := by
  have hnz : ∀ {listed : Array Bool}, i ∈ Region.ready md ops listed → z ∉ Region.ready md ops listed := fun hr hzr => by
    obtain ⟨e, he, hb, heq⟩ := hzi
    exact both_ready hr hzr hz e he hb heq
  induction fuel with
  | zero =>
    intro listed a _ hr hy H
    refine ⟨⟨hnz hr, List.ne_nil_of_mem hr⟩, fun j hj => ?_⟩
    rcases Decidable.em (j = i) with rfl | hji
    · exact hy.qOp hi H
    · have hjz := H.1.1 ▸ ready_mono hj hji
      exact absurd (List.mem_singleton.1 hjz ▸ hj) (hnz hr)
  | succ fuel ih =>
    intro listed a hap hr hy H
    refine ⟨⟨hnz hr, List.ne_nil_of_mem hr⟩, fun j hj => ?_⟩
    rcases Decidable.em (j = i) with rfl | hji
    · exact hy.qOp hi H
    · obtain ⟨hun, oj, hoj, _⟩ := mem_ready.1 hj
      have step := qOp_put hoj (hap j oj hoj hji hun (both_ready hr hj hoj)) (hsel i oi · · hi) (hsel j oj · · hoj) hy (H.2 j (ready_mono hj hji))
      refine qOp_mono (fun a' (h : _ ∧ _) => ih _ a' (hap.less j) (ready_mono hr (Ne.symm hji)) h.1 ?_) step
      exact Array.setIfInBounds_comm (xs := listed) true true hji ▸ h.2

/-- number z waits for number k -/
def waits (md : Region.Mode) (oz : Oper) (k : Nat) : Bool := oz.after.any fun e => Region.binds md e && e.on == k
def lexZ (md : Region.Mode) (ops : Array Oper) (z : Nat) (oz : Oper) : Nat → Nat → Array Bool → Bool
  | 0, _, listed => decide (Region.ready md ops listed = [z]) && decide (Region.ready md ops (listed.setIfInBounds z true) = [])
  | fuel + 1, k, listed => (Region.ready md ops listed).contains k && Region.free md ops listed k && waits md oz k && lexZ md ops z oz fuel (k + 1) (listed.setIfInBounds k true)

theorem wpAnyZ_lex {z : Nat} {oz : Oper} {Q : Act → Prop} (hs : Region.noSelect ops = true) (hz : ops[z]? = some oz) : ∀ (l : List Oper) (k : Nat) (listed : Array Bool) (a : Act), (∀ j, j < l.length → l[j]? = ops[k + j]?) →
    lexZ md ops z oz l.length k listed = true → wpQuiet P ops C Q l a → wpAnyZ P md ops C z Q l.length listed a
  | [], _, _, _, _, hB, h => ⟨by simpa [lexZ] using hB, h⟩
  | o :: l, k, listed, a, hl, hB, h => by
    have h0 : ops[k]? = some o := by simpa using (hl 0 (by simp)).symm
    simp only [List.length_cons, lexZ, Bool.and_eq_true] at hB
    obtain ⟨⟨⟨hr, hf⟩, hw⟩, hB'⟩ := hB
    have hst : qOp P ops C k (wpQuiet P ops C Q l) a := by unfold qOp; simp only [h0]; exact h
    obtain ⟨v, hy, hK⟩ := yieldsIn_of_qOp h0 hst
    have hwz : ∃ e ∈ oz.after, Region.binds md e = true ∧ e.on = k := by
      obtain ⟨e, he, hb⟩ := Array.any_eq_true'.1 hw
      simp only [Bool.and_eq_true, beq_iff_eq] at hb
      exact ⟨e, he, hb⟩
    exact wpAnyZ_first h0 (Region.noSelect_spec hs) hz hwz l.length listed a (Region.free_spec h0 hf) (by simpa using hr) hy
      (wpAnyZ_lex hs hz l (k + 1) _ _ (fun j hj => by have := hl (j + 1) (by simpa using hj); simpa [Nat.add_assoc, Nat.add_comm 1 j] using this) hB' hK)

/-- a region of the operations l and st, the last of which waits for all the others, which are quiet in the class C -/
theorem wp_region_lastC {id : Nat} {Q : Exit → Act → World → Prop} {a : Act} {w : World} (l : List Oper) (st : Oper) (hm : P.follows .mixedOrders = true) (hs : Region.noSelect (l ++ [st]).toArray = true)
    (hB : lexZ .any (l ++ [st]).toArray l.length st l.length 0 (Array.replicate (l ++ [st]).toArray.size false) = true) (hC : C { w with drawn := w.drawn + 1 })
    (h : wpQuiet P (l ++ [st]).toArray C (fun a' => ∀ w', C w' → wpList P (l ++ [st]).toArray Q [st] a' w') l a) :
    (Code.region id (l ++ [st]).toArray true).wp P Q a w := by
  have hz : (l ++ [st]).toArray[l.length]? = some st := by simp
  have hsz : (l ++ [st]).toArray.size = l.length + 1 := by simp
  have h1 := wpAnyZ_lex (md := .any) hs hz l 0 (Array.replicate (l ++ [st]).toArray.size false) a (fun j hj => by simp [List.getElem?_append, hj]) hB h
  have h2 := wpAny_of_z (Q' := Q) (fun a' w' hw' h' => by
    have := h' w' hw'
    unfold wpOp
    simp only [hz]
    exact this) l.length _ a ({ w with drawn := w.drawn + 1 }) hC h1
  refine wp_region_any hm ?_
  rw [hsz] at h2 ⊢
  exact h2
/-- the same, of a region that is written out -/
theorem wp_region_last_litC {id : Nat} {Q : Exit → Act → World → Prop} {a : Act} {w : World} {L : List Oper} (n : Nat) (st : Oper) (hL : L = L.take n ++ [st]) (hm : P.follows .mixedOrders = true) (hs : Region.noSelect L.toArray = true)
    (hB : lexZ .any L.toArray (L.take n).length st (L.take n).length 0 (Array.replicate L.toArray.size false) = true) (hC : C { w with drawn := w.drawn + 1 })
    (h : wpQuiet P L.toArray C (fun a' => ∀ w', C w' → wpList P L.toArray Q [st] a' w') (L.take n) a) :
    (Code.region id L.toArray true).wp P Q a w := by
  have := wp_region_lastC (P := P) (id := id) (Q := Q) (a := a) (w := w) (C := C) (L.take n) st hm
  rw [← hL] at this
  exact this hs hB hC h
theorem wp_region_last_lit {id : Nat} {Q : Exit → Act → World → Prop} {a : Act} {w : World} {L : List Oper} (n : Nat) (st : Oper) (hL : L = L.take n ++ [st]) (hm : P.follows .mixedOrders = true) (hs : Region.noSelect L.toArray = true)
    (hB : lexZ .any L.toArray (L.take n).length st (L.take n).length 0 (Array.replicate L.toArray.size false) = true)
    (h : wpQuiet P L.toArray (fun w' => ∃ n, w' = w.drewN n) (fun a' => ∀ w', (∃ n, w' = w.drewN n) → wpList P L.toArray Q [st] a' w') (L.take n) a) :
    (Code.region id L.toArray true).wp P Q a w := wp_region_last_litC n st hL hm hs hB ⟨1, rfl⟩ h

/-! ### calls that make memory: the class of the worlds that go on from w -/
/-- a world in which all that lay below B is as in w -/
def On (B : Nat) (w : World) : Type := { w' : World // Below B w w' }
def On.w {B : Nat} {w : World} (x : On B w) : World := x.1
theorem On.inh (B : Nat) (w : World) : Nonempty (On B w) := ⟨⟨w, Below.refl _ _⟩⟩
/-- a region whose operations only read, and whose callees only read or make memory -/
theorem wp_region_on {id : Nat} {Q : Exit → Act → World → Prop} {a : Act} {w : World} {l : List Oper} (B : Nat) (hm : P.follows .mixedOrders = true) (hB : Region.lexB .any l.toArray = true)
    (h : wpQuiet P l.toArray (fun w' => ∃ x : On B w, w' = x.w) (fun a' => ∀ w', (∃ x : On B w, w' = x.w) → Q .normal a' w') l a) : (Code.region id l.toArray true).wp P Q a w :=
  wp_region_quiet (C := fun w' => ∃ x : On B w, w' = x.w) hm hB ⟨⟨w.drew, (Below.refl _ _).drew⟩, rfl⟩ (by simpa using h)
theorem wp_region_last_on {id : Nat} {Q : Exit → Act → World → Prop} {a : Act} {w : World} {L : List Oper} (B : Nat) (n : Nat) (st : Oper) (hL : L = L.take n ++ [st]) (hm : P.follows .mixedOrders = true) (hs : Region.noSelect L.toArray = true)
    (hB : lexZ .any L.toArray (L.take n).length st (L.take n).length 0 (Array.replicate L.toArray.size false) = true)
    (h : wpQuiet P L.toArray (fun w' => ∃ x : On B w, w' = x.w) (fun a' => ∀ w', (∃ x : On B w, w' = x.w) → wpList P L.toArray Q [st] a' w') (L.take n) a) :
    (Code.region id L.toArray true).wp P Q a w := wp_region_last_litC n st hL hm hs hB ⟨⟨w.drew, (Below.refl _ _).drew⟩, rfl⟩ h
/-- a callee's contract, met in such a world -/
theorem Calls.on {f : FuncId} {args : Array Value} {B : Nat} {w : World} {v : Value} (x : On B w) (hBw : B ≤ w.heap.size) (h : Calls P f args x.w fun e w' => e = .returned v ∧ Below x.w.heap.size x.w w') :
    Calls P f args x.w fun e w'' => e = .returned v ∧ ∃ y : On B w, w'' = y.w :=
  h.mono fun _ w'' ⟨he, hb⟩ => ⟨he, ⟨w'', x.2.trans (hb.mono (Nat.le_trans hBw x.2.size))⟩, rfl⟩
theorem On.cell {B : Nat} {w : World} {b o : Nat} {v : Value} (h : w.cell? ⟨b, o, none⟩ = some v) (hb : b < B) : ∀ x : On B w, x.w.cell? ⟨b, o, none⟩ = some v :=
  fun x => (x.2.cell (p := ⟨b, o, none⟩) hb).trans h

end
end Go.Proofs.Ytdeaiefhegjalaa.last
