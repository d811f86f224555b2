/- A region that draws its order, whose operations only read, but for its last, which waits for all the others: one walk of the text's order serves every order. No function of the program is named here. The specification's right pairs, and pairs put into others. The specification's orders: what is right, what is met. The specification's orders: all of them are right. The specification's records: what is right. The laws' own helpers on pairs: what each call does. The laws' marks on pairs, and pairs that are the same. -/
import Derived.Deep.QuietTactic
import Derived.BigQuiet
import Derived.WalkKit
import Derived.WalkSpells
import Derived.WalkLawsBesides
import Derived.Test.YteniflajiklffaaShab
import Derived.Test.YteniflajiklffaaShaa
namespace Go.Proofs.Yteniflajiklffaa.last
open Go Go.RowKit
section
variable {P : Program} {ops : Array Oper} {md : Region.Mode} {C : World → Prop}

def wpAnyZ (P : Program) (md : Region.Mode) (ops : Array Oper) (C : World → Prop) (z : Nat) (Q : Act → Prop) : Nat → Array Bool → Act → Prop
  | 0, listed, a => (Region.ready md ops listed = [z] ∧ Region.ready md ops (listed.setIfInBounds z true) = []) ∧ Q a
  | fuel + 1, listed, a => (z ∉ Region.ready md ops listed ∧ Region.ready md ops listed ≠ []) ∧
    ∀ i ∈ Region.ready md ops listed, qOp P ops C i (wpAnyZ P md ops C z Q fuel (listed.setIfInBounds i true)) a

theorem wpAny_of_z {z : Nat} {Q : Act → Prop} {Q' : Exit → Act → World → Prop} (hQ : ∀ a w, C w → Q a → wpOp P ops Q' z (fun a' w' => Q' .normal a' w') a w) : ∀ (fuel : Nat) (listed : Array Bool) (a : Act) (w : World), C w →
    wpAnyZ P md ops C z Q fuel listed a → wpAny P md ops Q' (fuel + 1) listed a w
  | 0, listed, a, w, hw, h => by
    refine ⟨fun h0 => (by rw [h.1.1] at h0; cases h0), fun i hi => ?_⟩
    rw [h.1.1] at hi
    have : i = z := by simpa using hi
    subst this
    exact wpOp_mono (fun a' w' h' => ⟨h.1.2, h'⟩) (hQ a w hw h.2)
  | fuel + 1, listed, a, w, hw, h =>
    ⟨fun h0 => absurd h0 h.1.2, fun i hi => wpOp_of_qOp hw (fun a' w' hw' => wpAny_of_z hQ fuel _ a' w' hw') (h.2 i hi)⟩

theorem both_ready {i j : Nat} {o : Oper} {listed : Array Bool} (hi : i ∈ Region.ready md ops listed) (hj : j ∈ Region.ready md ops listed) (ho : ops[j]? = some o) :
    ∀ e ∈ o.after, Region.binds md e = true → e.on ≠ i := by
  rintro e he hb rfl
  obtain ⟨_, o', ho', hall⟩ := mem_ready.1 hj
  obtain rfl := Option.some.inj (ho'.symm.trans ho)
  have yes := hall e he hb
  have no := (mem_ready.1 hi).1
  by_cases hs : e.on < listed.size
  · simp only [Array.getD, hs, dif_pos] at yes no
    exact Bool.noConfusion (yes.symm.trans no)
  · simp [Array.getD, hs] at yes
def Apart (md : Region.Mode) (ops : Array Oper) (i : Nat) (oi : Oper) (listed : Array Bool) : Prop :=
  ∀ j oj, ops[j]? = some oj → j ≠ i → listed.getD j true = false → (∀ e ∈ oj.after, Region.binds md e = true → e.on ≠ i) → oi.apart ops oj = true
theorem Apart.less {i : Nat} {oi : Oper} {listed : Array Bool} (h : Apart md ops i oi listed) (k : Nat) : Apart md ops i oi (listed.setIfInBounds k true) := by
  intro j oj hj hne hun
  refine h j oj hj hne ?_
  by_cases e : k = j
  · subst e
    by_cases hs : k < listed.size
    · simp [Array.getD, hs] at hun
    · simp [Array.getD, hs] at hun
  · rwa [getD_set_ne true e] at hun

theorem wpAnyZ_first {z : Nat} {Q : Act → Prop} {i : Nat} {oi : Oper} {v : Value} (hi : ops[i]? = some oi) (hsel : ∀ (j : Nat) (o : Oper) cs b, ops[j]? = some o → o.op ≠ .select cs b)
    {oz : Oper} (hz : ops[z]? = some oz) (hzi : ∃ e ∈ oz.after, Region.binds md e = true ∧ e.on = i) (fuel : Nat) :
    ∀ (listed : Array Bool) (a : Act), Apart md ops i oi listed → i ∈ Region.ready md ops listed → YieldsIn P ops C oi v a →
      wpAnyZ P md ops C z Q fuel (listed.setIfInBounds i true) (a.put oi.dst v) → wpAnyZ P md ops C z Q (fuel + 1) listed a := by
  have hnz : ∀ {listed : Array Bool}, i ∈ Region.ready md ops listed → z ∉ Region.ready md ops listed := fun hr hzr => by
    obtain ⟨e, he, hb, heq⟩ := hzi
    exact both_ready hr hzr hz e he hb heq
  induction fuel with
  | zero =>
    intro listed a _ hr hy H
    refine ⟨⟨hnz hr, List.ne_nil_of_mem hr⟩, fun j hj => ?_⟩
    rcases Decidable.em (j = i) with rfl | hji
    · exact hy.qOp hi H
    · have hjz := H.1.1 ▸ ready_mono hj hji
      exact absurd (List.mem_singleton.1 hjz ▸ hj) (hnz hr)
  | succ fuel ih =>
    intro listed a hap hr hy H
    refine ⟨⟨hnz hr, List.ne_nil_of_mem hr⟩, fun j hj => ?_⟩
    rcases Decidable.em (j = i) with rfl | hji
    · exact hy.qOp hi H
    · obtain ⟨hun, oj, hoj, _⟩ := mem_ready.1 hj
      have step := qOp_put hoj (hap j oj hoj hji hun (both_ready hr hj hoj)) (hsel i oi · · hi) (hsel j oj · · hoj) hy (H.2 j (ready_mono hj hji))
      refine qOp_mono (fun a' (h : _ ∧ _) => ih _ a' (hap.less j) (ready_mono hr (Ne.symm hji)) h.1 ?_) step
      exact Array.setIfInBounds_comm (xs := listed) true true hji ▸ h.2

def waits (md : Region.Mode) (oz : Oper) (k : Nat) : Bool := oz.after.any fun e => Region.binds md e && e.on == k
def lexZ (md : Region.Mode) (ops : Array Oper) (z : Nat) (oz : Oper) : Nat → Nat → Array Bool → Bool
  | 0, _, listed => decide (Region.ready md ops listed = [z]) && decide (Region.ready md ops (listed.setIfInBounds z true) = [])
  | fuel + 1, k, listed => (Region.ready md ops listed).contains k && Region.free md ops listed k && waits md oz k && lexZ md ops z oz fuel (k + 1) (listed.setIfInBounds k true)

theorem wpAnyZ_lex {z : Nat} {oz : Oper} {Q : Act → Prop} (hs : Region.noSelect ops = true) (hz : ops[z]? = some oz) : ∀ (l : List Oper) (k : Nat) (listed : Array Bool) (a : Act), (∀ j, j < l.length → l[j]? = ops[k + j]?) →
    lexZ md ops z oz l.length k listed = true → wpQuiet P ops C Q l a → wpAnyZ P md ops C z Q l.length listed a
  | [], _, _, _, _, hB, h => ⟨by simpa [lexZ] using hB, h⟩
  | o :: l, k, listed, a, hl, hB, h => by
    have h0 : ops[k]? = some o := by simpa using (hl 0 (by simp)).symm
    simp only [List.length_cons, lexZ, Bool.and_eq_true] at hB
    obtain ⟨⟨⟨hr, hf⟩, hw⟩, hB'⟩ := hB
    have hst : qOp P ops C k (wpQuiet P ops C Q l) a := by unfold qOp; simp only [h0]; exact h
    obtain ⟨v, hy, hK⟩ := yieldsIn_of_qOp h0 hst
    have hwz : ∃ e ∈ oz.after, Region.binds md e = true ∧ e.on = k := by
      obtain ⟨e, he, hb⟩ := Array.any_eq_true'.1 hw
      simp only [Bool.and_eq_true, beq_iff_eq] at hb
      exact ⟨e, he, hb⟩
    exact wpAnyZ_first h0 (Region.noSelect_spec hs) hz hwz l.length listed a (Region.free_spec h0 hf) (by simpa using hr) hy
      (wpAnyZ_lex hs hz l (k + 1) _ _ (fun j hj => by have := hl (j + 1) (by simpa using hj); simpa [Nat.add_assoc, Nat.add_comm 1 j] using this) hB' hK)

theorem wp_region_lastC {id : Nat} {Q : Exit → Act → World → Prop} {a : Act} {w : World} (l : List Oper) (st : Oper) (hm : P.follows .mixedOrders = true) (hs : Region.noSelect (l ++ [st]).toArray = true)
    (hB : lexZ .any (l ++ [st]).toArray l.length st l.length 0 (Array.replicate (l ++ [st]).toArray.size false) = true) (hC : C { w with drawn := w.drawn + 1 })
    (h : wpQuiet P (l ++ [st]).toArray C (fun a' => ∀ w', C w' → wpList P (l ++ [st]).toArray Q [st] a' w') l a) :
    (Code.region id (l ++ [st]).toArray true).wp P Q a w := by
  have hz : (l ++ [st]).toArray[l.length]? = some st := by simp
  have hsz : (l ++ [st]).toArray.size = l.length + 1 := by simp
  have h1 := wpAnyZ_lex (md := .any) hs hz l 0 (Array.replicate (l ++ [st]).toArray.size false) a (fun j hj => by simp [List.getElem?_append, hj]) hB h
  have h2 := wpAny_of_z (Q' := Q) (fun a' w' hw' h' => by
    have := h' w' hw'
    unfold wpOp
    simp only [hz]
    exact this) l.length _ a ({ w with drawn := w.drawn + 1 }) hC h1
  refine wp_region_any hm ?_
  rw [hsz] at h2 ⊢
  exact h2
theorem wp_region_last_litC {id : Nat} {Q : Exit → Act → World → Prop} {a : Act} {w : World} {L : List Oper} (n : Nat) (st : Oper) (hL : L = L.take n ++ [st]) (hm : P.follows .mixedOrders = true) (hs : Region.noSelect L.toArray = true)
    (hB : lexZ .any L.toArray (L.take n).length st (L.take n).length 0 (Array.replicate L.toArray.size false) = true) (hC : C { w with drawn := w.drawn + 1 })
    (h : wpQuiet P L.toArray C (fun a' => ∀ w', C w' → wpList P L.toArray Q [st] a' w') (L.take n) a) :
    (Code.region id L.toArray true).wp P Q a w := by
  have := wp_region_lastC (P := P) (id := id) (Q := Q) (a := a) (w := w) (C := C) (L.take n) st hm
  rw [← hL] at this
  exact this hs hB hC h
/-! ### calls that make memory: the class of the worlds that go on from w -/
def On (B : Nat) (w : World) : Type := { w' : World // Below B w w' }
def On.w {B : Nat} {w : World} (x : On B w) : World := x.1
theorem On.inh (B : Nat) (w : World) : Nonempty (On B w) := ⟨⟨w, Below.refl _ _⟩⟩
theorem wp_region_on {id : Nat} {Q : Exit → Act → World → Prop} {a : Act} {w : World} {l : List Oper} (B : Nat) (hm : P.follows .mixedOrders = true) (hB : Region.lexB .any l.toArray = true)
    (h : wpQuiet P l.toArray (fun w' => ∃ x : On B w, w' = x.w) (fun a' => ∀ w', (∃ x : On B w, w' = x.w) → Q .normal a' w') l a) : (Code.region id l.toArray true).wp P Q a w :=
  wp_region_quiet (C := fun w' => ∃ x : On B w, w' = x.w) hm hB ⟨⟨w.drew, (Below.refl _ _).drew⟩, rfl⟩ (by simpa using h)
theorem wp_region_last_on {id : Nat} {Q : Exit → Act → World → Prop} {a : Act} {w : World} {L : List Oper} (B : Nat) (n : Nat) (st : Oper) (hL : L = L.take n ++ [st]) (hm : P.follows .mixedOrders = true) (hs : Region.noSelect L.toArray = true)
    (hB : lexZ .any L.toArray (L.take n).length st (L.take n).length 0 (Array.replicate L.toArray.size false) = true)
    (h : wpQuiet P L.toArray (fun w' => ∃ x : On B w, w' = x.w) (fun a' => ∀ w', (∃ x : On B w, w' = x.w) → wpList P L.toArray Q [st] a' w') (L.take n) a) :
    (Code.region id L.toArray true).wp P Q a w := wp_region_last_litC n st hL hm hs hB ⟨⟨w.drew, (Below.refl _ _).drew⟩, rfl⟩ h
theorem Calls.on {f : FuncId} {args : Array Value} {B : Nat} {w : World} {v : Value} (x : On B w) (hBw : B ≤ w.heap.size) (h : Calls P f args x.w fun e w' => e = .returned v ∧ Below x.w.heap.size x.w w') :
    Calls P f args x.w fun e w'' => e = .returned v ∧ ∃ y : On B w, w'' = y.w :=
  h.mono fun _ w'' ⟨he, hb⟩ => ⟨he, ⟨w'', x.2.trans (hb.mono (Nat.le_trans hBw x.2.size))⟩, rfl⟩
theorem On.cell {B : Nat} {w : World} {b o : Nat} {v : Value} (h : w.cell? ⟨b, o, none⟩ = some v) (hb : b < B) : ∀ x : On B w, x.w.cell? ⟨b, o, none⟩ = some v :=
  fun x => (x.2.cell (p := ⟨b, o, none⟩) hb).trans h

end
end Go.Proofs.Yteniflajiklffaa.last

namespace Go.Proofs.Yteniflajiklffaa.pairs
open Go Go.RowKit Go.Proofs.Yteniflajiklffaa.base
set_option linter.unusedVariables false
set_option linter.unusedSimpArgs false

theorem keepC {W w' : World} {b o : Nat} {v : Value} (hb : Below W.heap.size W w') (h : W.cell? ⟨b, o, none⟩ = some v) : w'.cell? ⟨b, o, none⟩ = some v :=
  (hb.cell (p := ⟨b, o, none⟩) (World.block_lt_of_cell? W _ h)).trans h
theorem keepB2 {W w' : World} {b o1 o2 : Nat} {v1 v2 : Value} (hb : Below W.heap.size W w') (h : W.cell? ⟨b, o1, none⟩ = some v1 ∧ W.cell? ⟨b, o2, none⟩ = some v2) :
    w'.cell? ⟨b, o1, none⟩ = some v1 ∧ w'.cell? ⟨b, o2, none⟩ = some v2 := ⟨keepC hb h.1, keepC hb h.2⟩
end Go.Proofs.Yteniflajiklffaa.pairs

namespace Go.Proofs.Yteniflajiklffaa.ords
open Go Go.RowKit Go.Proofs.Yteniflajiklffaa.base Go.Proofs.Yteniflajiklffaa.pairs
set_option linter.unusedVariables false
set_option linter.unusedSimpArgs false

set_option maxHeartbeats 400000 in
theorem s_inZ (x a b : Int) (w : World) :
    Calls Try.prog 63 #[.int .i64 x, .int .i64 a, .int .i64 b] w fun e w' => e = .returned (.bool (decide (a ≤ x ∧ x ≤ b))) ∧ w' = w := by
  by_cases h1 : a ≤ x
  · by_cases h2 : x ≤ b
    · go_enter Try.func63, Try.ntmps63
      go_wp2
      go_ret
      exact ⟨ret_bool (by simp [h1, h2]), rfl⟩
    · go_enter Try.func63, Try.ntmps63
      go_wp2
      go_ret
      exact ⟨ret_bool (by simp [h1, h2]), rfl⟩
  · go_enter Try.func63, Try.ntmps63
    go_wp2
    go_ret
    exact ⟨ret_bool (by have h3 : ¬ a ≤ x := by omega
                        simp [h3]), rfl⟩

theorem size_empty {v : ByteArray} (h : v.size = 0) : v = ⟨#[]⟩ := by
  apply bytes_ext; exact List.eq_nil_of_length_eq_zero (by rw [Array.length_toList]; exact h)
theorem not_empty {v : ByteArray} (h : ¬ v.size = 0) : ¬ v.toList = [] ∧ v.toList.isEmpty = false := by
  have hq : ¬ v.toList = [] := fun e => h (by have : v = ⟨#[]⟩ := bytes_ext (by rw [← ByteArray.toList_eq]; exact e)
                                              rw [this]; rfl)
  exact ⟨hq, by rw [Bool.eq_false_iff]; intro e; exact hq (List.isEmpty_iff.1 e)⟩

set_option maxRecDepth 100000 in
set_option maxHeartbeats 1000000 in
theorem spec_l7Op (o : Od) (w : World) (ho : smallO o) (hs : o.2.1.size ≤ 1099511627776) :
    Calls Try.prog 103 #[.agg #[.int .i64 o.1, .string o.2.1, .string o.2.2]] w fun e w' => e = .returned (.bool (odOk o)) ∧ Below w.heap.size w w' := by
  obtain ⟨z, k, v⟩ := o
  have h2 := ho.2.2
  simp only [] at h2 hs ⊢
  unfold maxLen at h2
  have hba : Below w.heap.size w (w.alloc (.cells #[.int .i64 z, .string k, .string v] 111)) := (Below.refl _ _).alloc (Nat.le_refl _) _
  have hin := s_inZ z 1 3 (w.alloc (.cells #[.int .i64 z, .string k, .string v] 111))
  have hk := spec_keyOk k (w.alloc (.cells #[.int .i64 z, .string k, .string v] 111)) hs
  generalize hK : keyOk k = K at hk
  have H1 := Hid.mk' hK
  have HK := Hid.mk' hk
  clear hk hK ho
  by_cases hz : 1 ≤ z ∧ z ≤ 3
  · rw [decide_eq_true hz] at hin
    have HI := Hid.mk' hin
    clear hin
    by_cases hz2 : z = 2
    · subst hz2
      by_cases hv : v.size = 0
      · obtain rfl := size_empty hv
        clear hz hv
        go_enter Try.func103, Try.ntmps103
        go_wp2_with fail
        refine HI.out.mono ?_
        rintro e w1 ⟨rfl, rfl⟩
        go_wp2_with fail
        refine HK.out.mono ?_
        rintro e w1 ⟨rfl, rfl⟩
        cases K
        all_goals
          go_wp2_with fail
          go_ret
          exact ⟨ret_bool (by unfold odOk; rw [H1.out]; rfl), hba⟩
      · have HV := Hid.mk' hv
        obtain ⟨hq, hq2⟩ := not_empty hv
        clear hz hv
        go_enter Try.func103, Try.ntmps103
        go_wp2_with fail
        refine HI.out.mono ?_
        rintro e w1 ⟨rfl, rfl⟩
        go_wp2_with fail
        go_ret
        exact ⟨ret_bool (by have := HV.out; unfold odOk; simp [this]), hba⟩
    · have HZ := Hid.mk' hz
      have HZ2 := Hid.mk' hz2
      have hb : (z == 2) = false := beq_eq_false_iff_ne.2 hz2
      clear hz hz2
      go_enter Try.func103, Try.ntmps103
      go_wp2_with fail
      refine HI.out.mono ?_
      rintro e w1 ⟨rfl, rfl⟩
      go_wp2_with fail
      refine HK.out.mono ?_
      rintro e w1 ⟨rfl, rfl⟩
      cases K
      all_goals
        go_wp2_with fail
        go_ret
        exact ⟨ret_bool (by have a := HZ.out; have b := HZ2.out; unfold odOk; rw [H1.out]; simp [a, b]; try omega), hba⟩
  · rw [decide_eq_false hz] at hin
    have HI := Hid.mk' hin
    have HZ := Hid.mk' hz
    clear hin hz
    go_enter Try.func103, Try.ntmps103
    go_wp2_with fail
    refine HI.out.mono ?_
    rintro e w1 ⟨rfl, rfl⟩
    go_wp2_with fail
    go_ret
    exact ⟨ret_bool (by unfold odOk; rw [decide_eq_false HZ.out]; rfl), hba⟩

end Go.Proofs.Yteniflajiklffaa.ords

namespace Go.Proofs.Yteniflajiklffaa.ords
open Go Go.RowKit Go.Proofs.Yteniflajiklffaa.base Go.Proofs.Yteniflajiklffaa.pairs
set_option linter.unusedVariables false
set_option linter.unusedSimpArgs false

def prevO (l : List Od) (k : Nat) : Option ByteArray := if k = 0 then none else (l[k - 1]?).map (·.2.1)
theorem opsFrom_zero (l : List Od) (k : Nat) (h : k < l.length) (h0 : k = 0) : opsFrom (prevO l k) (l.drop k) = (odOk l[k] && opsFrom (prevO l (k + 1)) (l.drop (k + 1))) := by
  subst h0
  cases l with
  | nil => simp at h
  | cons p l => simp [prevO, opsFrom]
theorem opsFrom_step (l : List Od) (k : Nat) (h : k < l.length) (h0 : 0 < k) : opsFrom (prevO l k) (l.drop k) = (odOk l[k] && ltB l[k - 1].2.1 l[k].2.1 && opsFrom (prevO l (k + 1)) (l.drop (k + 1))) := by
  have e1 : prevO l k = some l[k - 1].2.1 := by unfold prevO; rw [if_neg (by omega), List.getElem?_eq_getElem (by omega)]; rfl
  have e2 : prevO l (k + 1) = some l[k].2.1 := by unfold prevO; rw [if_neg (by omega), Nat.add_sub_cancel, List.getElem?_eq_getElem h]; rfl
  rw [e1, e2, List.drop_eq_getElem_cons h, opsFrom]

set_option maxRecDepth 100000 in
set_option maxHeartbeats 2000000 in
theorem spec_opsOk (b off len cap : Nat) (l : List Od) (w : World) (h : SlO w (some ⟨b, off, none⟩) len l) (hks : ∀ p ∈ l, p.2.1.size ≤ 1099511627776) :
    Calls Try.prog 66 #[.slice (some ⟨b, off, none⟩) len cap] w fun e w' => e = .returned (.bool (opsOk l)) ∧ Below w.heap.size w w' := by
  have hl := h.1
  have hm := h.2.1
  have hsm := h.2.2.1
  subst hl
  unfold maxLen at hm
  generalize hR : opsFrom none l = R
  have HR := Hid.mk' hR
  clear hR
  go_enter Try.func66, Try.ntmps66
  go_wp2_with fail
  go_loopw [3] (fun i wr => ∃ k : Nat, k ≤ l.length ∧ i = .int .i64 (k : Int) ∧ opsFrom (prevO l k) (l.drop k) = R ∧ Below w.heap.size w wr) (fun i _ => l.length - (intOf i).toNat)
  case atStart => exact ⟨0, Nat.zero_le _, rfl, HR.out, Below.refl _ _⟩
  case round =>
    obtain ⟨k, hk, rfl, hr, hB⟩ := hrel
    by_cases hlt : k < l.length
    · have hS := h.below hB
      obtain ⟨c0, c1, c2⟩ := hS.cells k hlt
      have hbl := hS.lt (by omega)
      have hpk := hsm _ (List.getElem_mem hlt)
      have hks' := hks _ (List.getElem_mem hlt)
      have hki : (k : Int) < (l.length : Int) := by omega
      have hbd : b < wr.drew.heap.size := hbl
      by_cases h0 : k = 0
      · have hst := opsFrom_zero l k hlt h0
        rw [hr] at hst
        have hk0 : ¬ (0 : Int) < (k : Int) := by omega
        have hk1 : decide (0 < k) = false := by simp; omega
        have hk2 : decide ((0 : Int) < (k : Int)) = false := by simp; omega
        cases hP : odOk l[k]
        · have HF : Hid (R = false) := by rw [hP] at hst; exact hst
          have HP := Hid.mk' hP
          clear hst hr hP hS h0
          generalize l[k] = p at *
          have o0 := last.On.cell c0 hbl
          have o1 := last.On.cell c1 hbl
          have o2 := last.On.cell c2 hbl
          go_wp2_with fail
          have hinh := last.On.inh wr.heap.size wr
          have hcall : ∀ x : last.On wr.heap.size wr, Calls Try.prog 103 #[.agg #[.int .i64 p.1, .string p.2.1, .string p.2.2]] x.w fun e w' => e = .returned (.bool false) ∧ ∃ y : last.On wr.heap.size wr, w' = y.w := fun x => last.Calls.on x (Nat.le_refl _) (by have := spec_l7Op p x.w hpk hks'; rw [HP.out] at this; exact this)
          refine last.wp_region_on wr.heap.size (by kernel_rfl) (by kernel_rfl) ?_
          repeat (go_big_quiet_step ((go_at_call 103; exact hcall _)))
          refine wpQuiet_nil ?_
          intro w5 hw5
          obtain ⟨x5, hw5⟩ := hw5
          subst hw5
          have hB5 : Below w.heap.size w x5.w := hB.trans (x5.2.mono hB.size)
          go_wp2_with fail
          go_ret
          exact ⟨ret_bool (by unfold opsOk; rw [HR.out, HF.out]; rfl), hB5⟩
        · have HF : Hid (opsFrom (prevO l (k + 1)) (l.drop (k + 1)) = R) := by show _ = _; rw [hP] at hst; simpa using hst.symm
          have HP := Hid.mk' hP
          clear hst hr hP hS h0
          generalize l[k] = p at *
          have o0 := last.On.cell c0 hbl
          have o1 := last.On.cell c1 hbl
          have o2 := last.On.cell c2 hbl
          go_wp2_with fail
          have hinh := last.On.inh wr.heap.size wr
          have hcall : ∀ x : last.On wr.heap.size wr, Calls Try.prog 103 #[.agg #[.int .i64 p.1, .string p.2.1, .string p.2.2]] x.w fun e w' => e = .returned (.bool true) ∧ ∃ y : last.On wr.heap.size wr, w' = y.w := fun x => last.Calls.on x (Nat.le_refl _) (by have := spec_l7Op p x.w hpk hks'; rw [HP.out] at this; exact this)
          refine last.wp_region_on wr.heap.size (by kernel_rfl) (by kernel_rfl) ?_
          repeat (go_big_quiet_step ((go_at_call 103; exact hcall _)))
          refine wpQuiet_nil ?_
          intro w5 hw5
          obtain ⟨x5, hw5⟩ := hw5
          subst hw5
          have hB5 : Below w.heap.size w x5.w := hB.trans (x5.2.mono hB.size)
          go_wp2_with fail
          go_roundw
          case rel => exact ⟨k + 1, by omega, by go_num, HF.out, hB5⟩
          case measure => simp [intOf]; omega
      · have hst := opsFrom_step l k hlt (by omega)
        rw [hr] at hst
        have hk0 : (0 : Int) < (k : Int) := by omega
        have hk1 : decide (0 < k) = true := by simp; omega
        have hk2 : decide ((0 : Int) < (k : Int)) = true := by simp; omega
        have c3 := (hS.cells (k - 1) (by omega)).2.1
        obtain ⟨j, hj⟩ : ∃ j, k - 1 = j := ⟨_, rfl⟩
        have hjw : (k : Int) - 1 = (j : Int) := by omega
        have hjk : (j : Int) < (l.length : Int) := by omega
        generalize l[k - 1].2.1 = q at *
        rw [hj] at c3
        have o3 := last.On.cell c3 hbl
        cases hP : odOk l[k]
        · have HF : Hid (R = false) := by rw [hP] at hst; exact hst
          have HP := Hid.mk' hP
          clear hst hr hP hS h0 hj
          generalize l[k] = p at *
          have o0 := last.On.cell c0 hbl
          have o1 := last.On.cell c1 hbl
          have o2 := last.On.cell c2 hbl
          go_wp2_with fail
          have hinh := last.On.inh wr.heap.size wr
          have hcall : ∀ x : last.On wr.heap.size wr, Calls Try.prog 103 #[.agg #[.int .i64 p.1, .string p.2.1, .string p.2.2]] x.w fun e w' => e = .returned (.bool false) ∧ ∃ y : last.On wr.heap.size wr, w' = y.w := fun x => last.Calls.on x (Nat.le_refl _) (by have := spec_l7Op p x.w hpk hks'; rw [HP.out] at this; exact this)
          refine last.wp_region_on wr.heap.size (by kernel_rfl) (by kernel_rfl) ?_
          repeat (go_big_quiet_step ((go_at_call 103; exact hcall _)))
          refine wpQuiet_nil ?_
          intro w5 hw5
          obtain ⟨x5, hw5⟩ := hw5
          subst hw5
          have hB5 : Below w.heap.size w x5.w := hB.trans (x5.2.mono hB.size)
          go_wp2_with fail
          go_ret
          exact ⟨ret_bool (by unfold opsOk; rw [HR.out, HF.out]; rfl), hB5⟩
        · cases hL : ltB q l[k].2.1
          · have HF : Hid (R = false) := by show _ = _; rw [hP, hL] at hst; simpa using hst
            have HP := Hid.mk' hP
            have hl2 : Op.bytesLess q.toList l[k].2.1.toList = false := hL
            clear hst hr hP hS h0 hj hL
            generalize l[k] = p at *
            have o0 := last.On.cell c0 hbl
            have o1 := last.On.cell c1 hbl
            have o2 := last.On.cell c2 hbl
            go_wp2_with fail
            have hinh := last.On.inh wr.heap.size wr
            have hcall : ∀ x : last.On wr.heap.size wr, Calls Try.prog 103 #[.agg #[.int .i64 p.1, .string p.2.1, .string p.2.2]] x.w fun e w' => e = .returned (.bool true) ∧ ∃ y : last.On wr.heap.size wr, w' = y.w := fun x => last.Calls.on x (Nat.le_refl _) (by have := spec_l7Op p x.w hpk hks'; rw [HP.out] at this; exact this)
            refine last.wp_region_on wr.heap.size (by kernel_rfl) (by kernel_rfl) ?_
            repeat (go_big_quiet_step ((go_at_call 103; exact hcall _)))
            refine wpQuiet_nil ?_
            intro w5 hw5
            obtain ⟨x5, hw5⟩ := hw5
            subst hw5
            have hB5 : Below w.heap.size w x5.w := hB.trans (x5.2.mono hB.size)
            go_wp2_with fail
            go_ret
            exact ⟨ret_bool (by unfold opsOk; rw [HR.out, HF.out]; rfl), hB5⟩
          · have HF : Hid (opsFrom (prevO l (k + 1)) (l.drop (k + 1)) = R) := by show _ = _; rw [hP, hL] at hst; simpa using hst.symm
            have HP := Hid.mk' hP
            have hl2 : Op.bytesLess q.toList l[k].2.1.toList = true := hL
            clear hst hr hP hS h0 hj hL
            generalize l[k] = p at *
            have o0 := last.On.cell c0 hbl
            have o1 := last.On.cell c1 hbl
            have o2 := last.On.cell c2 hbl
            go_wp2_with fail
            have hinh := last.On.inh wr.heap.size wr
            have hcall : ∀ x : last.On wr.heap.size wr, Calls Try.prog 103 #[.agg #[.int .i64 p.1, .string p.2.1, .string p.2.2]] x.w fun e w' => e = .returned (.bool true) ∧ ∃ y : last.On wr.heap.size wr, w' = y.w := fun x => last.Calls.on x (Nat.le_refl _) (by have := spec_l7Op p x.w hpk hks'; rw [HP.out] at this; exact this)
            refine last.wp_region_on wr.heap.size (by kernel_rfl) (by kernel_rfl) ?_
            repeat (go_big_quiet_step ((go_at_call 103; exact hcall _)))
            refine wpQuiet_nil ?_
            intro w5 hw5
            obtain ⟨x5, hw5⟩ := hw5
            subst hw5
            have hB5 : Below w.heap.size w x5.w := hB.trans (x5.2.mono hB.size)
            go_wp2_with fail
            go_roundw
            case rel => exact ⟨k + 1, by omega, by go_num, HF.out, hB5⟩
            case measure => simp [intOf]; omega
    · have HF : Hid (R = true) := by show _ = _; rw [← hr, List.drop_eq_nil_of_le (by omega)]; cases prevO l k <;> rfl
      clear hr
      go_wp2_with fail
      refine (s_inZ (l.length : Int) 1 8 _).mono ?_
      rintro e w9 ⟨rfl, rfl⟩
      go_wp2_with fail
      go_ret
      exact ⟨ret_bool (by unfold opsOk; rw [HR.out, HF.out, Bool.true_and]; have e : (1 ≤ (l.length : Int) ∧ (l.length : Int) ≤ 8) ↔ (1 ≤ l.length ∧ l.length ≤ 8) := by omega
                          rw [← Bool.decide_and]; exact decide_eq_decide.2 e), hB⟩

end Go.Proofs.Yteniflajiklffaa.ords

namespace Go.Proofs.Yteniflajiklffaa.recs
open Go Go.RowKit Go.Proofs.Yteniflajiklffaa.base Go.Proofs.Yteniflajiklffaa.pairs Go.Proofs.Yteniflajiklffaa.ords
set_option linter.unusedVariables false
set_option linter.unusedSimpArgs false

set_option maxRecDepth 100000 in
set_option maxHeartbeats 1000000 in
theorem spec_opsNil (a : Option Addr) (cap : Nat) (w : World) :
    Calls Try.prog 66 #[.slice a 0 cap] w fun e w' => e = .returned (.bool false) ∧ w' = w := by
  go_enter Try.func66, Try.ntmps66
  go_wp2_with fail
  refine wp_loop_rounds 1 ?_
  rw [rounds_succ]
  go_wp2_with fail
  refine (s_inZ 0 1 8 _).mono ?_
  rintro e w9 ⟨rfl, rfl⟩
  go_wp2_with fail
  go_ret
  exact ⟨ret_bool (by decide), rfl⟩
theorem spec_opsOkA (a : Option Addr) (len cap : Nat) (l : List Od) (w : World) (h : SlO w a len l) (hks : ∀ p ∈ l, p.2.1.size ≤ 1099511627776) :
    Calls Try.prog 66 #[.slice a len cap] w fun e w' => e = .returned (.bool (opsOk l)) ∧ Below w.heap.size w w' := by
  by_cases h0 : len = 0
  · subst h0
    obtain rfl : l = [] := List.eq_nil_of_length_eq_zero h.1
    refine (spec_opsNil a cap w).mono ?_
    rintro e w' ⟨rfl, rfl⟩
    exact ⟨rfl, Below.refl _ _⟩
  · obtain ⟨b, off, ha, _⟩ := h.2.2.2 (by omega)
    subst ha
    exact spec_opsOk b off len cap l w h hks

def BoxR (X : Nat) (kind tx : Int) (v : Value) (w : World) : Prop := w.heap[X]? = some (.cells #[.int .i64 kind, .int .i64 tx, v] 91 (0, 0))
theorem boxR_new (w : World) (kind tx : Int) (v : Value) : BoxR w.heap.size kind tx v (w.alloc (.cells #[.int .i64 kind, .int .i64 tx, v] 91)) := heap_alloc_new w _
section
variable {X : Nat} {kind tx : Int} {v : Value} {w w' : World}
theorem BoxR.cells (h : BoxR X kind tx v w) : w.cell? ⟨X, 0, none⟩ = some (.int .i64 kind) ∧ w.cell? ⟨X, 1, none⟩ = some (.int .i64 tx) ∧ w.cell? ⟨X, 2, none⟩ = some v := by
  unfold BoxR at h
  simp [World.cell?, h]
theorem BoxR.lt (h : BoxR X kind tx v w) : X < w.heap.size := (Array.getElem?_eq_some_iff.1 h).1
theorem BoxR.below (h : BoxR X kind tx v w) (hb : Below w.heap.size w w') : BoxR X kind tx v w' := by
  have h' := h.lt
  unfold BoxR at h ⊢
  rw [hb.block X h', h]
theorem BoxR.grown {row : Option Nat} (h : BoxR X kind tx v w) (hg : w.grownBy w' row) (hne : some X ≠ row) : BoxR X kind tx v w' := by
  have h' := h.lt
  unfold BoxR at h ⊢
  rw [hg.block X h' hne, h]
end

set_option maxRecDepth 100000 in
set_option maxHeartbeats 2000000 in
theorem spec_recOk (kind tx : Int) (a : Option Addr) (len cap : Nat) (l : List Od) (w : World) (h : SlO w a len l) (hks : ∀ p ∈ l, p.2.1.size ≤ 1099511627776) :
    Calls Try.prog 78 #[.agg #[.int .i64 kind, .int .i64 tx, .slice a len cap]] w fun e w' => e = .returned (.bool (recOk (kind, tx, l))) ∧ Below w.heap.size w w' := by
  have hba : Below w.heap.size w (w.alloc (.cells #[.int .i64 kind, .int .i64 tx, .slice a len cap] 91)) := (Below.refl _ _).alloc (Nat.le_refl _) _
  have hin := s_inZ tx 1 1000000 (w.alloc (.cells #[.int .i64 kind, .int .i64 tx, .slice a len cap] 91))
  have hl := h.1
  have hm := h.2.1
  unfold maxLen at hm
  by_cases ht : 1 ≤ tx ∧ tx ≤ 1000000
  · rw [decide_eq_true ht] at hin
    have HI := Hid.mk' hin
    have HR : Hid (recOk (kind, tx, l) = if kind = 1 then opsOk l else decide (kind = 2 ∨ kind = 3) && l.isEmpty) := by show _ = _; unfold recOk; rw [decide_eq_true ht]; simp
    clear hin ht
    by_cases h1 : kind = 1
    · subst h1
      have HO := Hid.mk' (spec_opsOkA a len cap l _ (h.below hba) hks)
      rw [if_pos rfl] at HR
      generalize opsOk l = K at *
      go_enter Try.func78, Try.ntmps78
      go_wp2_with fail
      refine HI.out.mono ?_
      rintro e w1 ⟨rfl, hw1⟩
      subst hw1
      go_wp2_with fail
      refine HO.out.mono ?_
      rintro e w1 ⟨rfl, hb1⟩
      go_wp2_with fail
      go_ret
      exact ⟨ret_bool HR.out.symm, hba.trans (hb1.mono hba.size)⟩
    · rw [if_neg h1] at HR
      have hk1 : (kind == 1) = false := beq_eq_false_iff_ne.2 h1
      by_cases h23 : kind = 2 ∨ kind = 3
      · rw [decide_eq_true h23, Bool.true_and] at HR
        by_cases h0 : len = 0
        · have HE : Hid (recOk (kind, tx, l) = true) := by show _ = _; rw [HR.out, List.isEmpty_iff]; exact List.eq_nil_of_length_eq_zero (by omega)
          subst h0
          rcases h23 with rfl | rfl
          all_goals
            clear HR h1 hk1
            go_enter Try.func78, Try.ntmps78
            go_wp2_with fail
            refine HI.out.mono ?_
            rintro e w1 ⟨rfl, hw1⟩
            subst hw1
            go_wp2_with fail
            go_ret
            exact ⟨ret_bool HE.out.symm, hba⟩
        · have HE : Hid (recOk (kind, tx, l) = false) := by
            show _ = _
            rw [HR.out]
            cases l with
            | nil => simp at hl; omega
            | cons x l => rfl
          have hl0 : ((len : Int) == 0) = false := by simp; omega
          rcases h23 with rfl | rfl
          all_goals
            clear HR h1 hk1
            go_enter Try.func78, Try.ntmps78
            go_wp2_with fail
            refine HI.out.mono ?_
            rintro e w1 ⟨rfl, hw1⟩
            subst hw1
            go_wp2_with fail
            go_ret
            exact ⟨ret_bool HE.out.symm, hba⟩
      · rw [decide_eq_false h23, Bool.false_and] at HR
        have hk2 : (kind == 2) = false := beq_eq_false_iff_ne.2 (fun e => h23 (.inl e))
        have hk3 : (kind == 3) = false := beq_eq_false_iff_ne.2 (fun e => h23 (.inr e))
        clear h1 h23
        go_enter Try.func78, Try.ntmps78
        go_wp2_with fail
        refine HI.out.mono ?_
        rintro e w1 ⟨rfl, hw1⟩
        subst hw1
        go_wp2_with fail
        go_ret
        exact ⟨ret_bool HR.out.symm, hba⟩
  · rw [decide_eq_false ht] at hin
    have HI := Hid.mk' hin
    have HR : Hid (recOk (kind, tx, l) = false) := by show _ = _; unfold recOk; rw [decide_eq_false ht]; rfl
    clear hin ht
    go_enter Try.func78, Try.ntmps78
    go_wp2_with fail
    refine HI.out.mono ?_
    rintro e w1 ⟨rfl, hw1⟩
    subst hw1
    go_wp2_with fail
    go_ret
    exact ⟨ret_bool HR.out.symm, hba⟩
end Go.Proofs.Yteniflajiklffaa.recs

namespace Go.Proofs.Yteniflajiklffaa.pairs
open Go Go.RowKit Go.Proofs.Yteniflajiklffaa.base Go.Proofs.Yteniflajiklffaa.helps
set_option linter.unusedVariables false
set_option linter.unusedSimpArgs false


def szR (L t : Nat) : Int := if t ≤ L then (L : Int) - (t : Int) else -1
theorem szR_neg {L t : Nat} (h : L < t) : szR L t = -1 := by unfold szR; rw [if_neg (by omega)]
theorem szR_pos {L t : Nat} (h : t ≤ L) : szR L t = (L : Int) - (t : Int) := by unfold szR; rw [if_pos h]
set_option maxHeartbeats 400000 in
theorem eqPair (p q : Pr) (w : World) :
    Calls Try.prog 47 #[.agg #[.string p.1, .string p.2], .agg #[.string q.1, .string q.2]] w fun e w' => e = .returned (.bool (decide (p = q))) ∧ Below w.heap.size w w' := by
  have hB : Below w.heap.size w ((w.alloc (.cells #[.string p.1, .string p.2] 102)).alloc (.cells #[.string q.1, .string q.2] 102)) := ((Below.refl _ _).alloc (Nat.le_refl _) _).alloc (by simp) _
  obtain ⟨p1, p2⟩ := p
  obtain ⟨q1, q2⟩ := q
  by_cases e1 : p1 = q1
  · subst e1
    by_cases e2 : p2 = q2
    · subst e2
      go_enter Try.func47, Try.ntmps47
      go_wp2
      go_ret
      exact ⟨ret_bool (by simp), hB⟩
    · have hq := str_ne e2
      have HE := Hid.mk' e2
      clear e2
      go_enter Try.func47, Try.ntmps47
      go_wp2
      go_ret
      exact ⟨ret_bool (by have := HE.out; simp [this]), hB⟩
  · have hq := str_ne e1
    have HE := Hid.mk' e1
    clear e1
    go_enter Try.func47, Try.ntmps47
    go_wp2
    go_ret
    exact ⟨ret_bool (by have := HE.out; simp [this]), hB⟩

theorem take_eqP {l l2 : List Pr} {k : Nat} (h : l.take k = l2.take k) (h1 : k < l.length) (h2 : k < l2.length) (e : l[k] = l2[k]) : l.take (k + 1) = l2.take (k + 1) := by
  rw [take_snocP l k h1, take_snocP l2 k h2, h, e]
set_option maxRecDepth 100000 in
set_option maxHeartbeats 1000000 in
theorem eqPairS (a a2 : Option Addr) (len cap len2 cap2 : Nat) (l l2 : List Pr) (w : World) (h : SlP w a len l) (h2 : SlP w a2 len2 l2) :
    Calls Try.prog 18 #[.slice a len cap, .slice a2 len2 cap2] w fun e w' => e = .returned (.bool (decide (l = l2))) ∧ Below w.heap.size w w' := by
  obtain ⟨hl, hm, _, hc⟩ := h
  obtain ⟨hl2, hm2, _, hc2⟩ := h2
  subst hl hl2
  unfold maxLen at hm hm2
  by_cases hne : l.length = l2.length
  · have hb : ((l.length : Int) == (l2.length : Int)) = true := by simp; omega
    go_enter Try.func18, Try.ntmps18
    go_wp2_with fail
    go_loopw [5] (fun i wr => ∃ k : Nat, k ≤ l.length ∧ i = .int .i64 k ∧ l.take k = l2.take k ∧ Below w.heap.size w wr) (fun i _ => l.length - (intOf i).toNat)
    case atStart => exact ⟨0, Nat.zero_le _, rfl, rfl, Below.refl _ _⟩
    case round =>
      obtain ⟨k, hk, rfl, htk, hB⟩ := hrel
      by_cases hlt : k < l.length
      · obtain ⟨b, off, ha, hcl⟩ := hc (by omega)
        obtain ⟨b2, off2, ha2, hcl2⟩ := hc2 (by omega)
        subst ha ha2
        have hlt2 : k < l2.length := by omega
        have hi1 : (k : Int) < (l.length : Int) := by omega
        have hi2 : (k : Int) < (l2.length : Int) := by omega
        have HT := Hid.mk' htk
        have hb1 : b < w.heap.size := World.block_lt_of_cell? w _ (hcl k hlt).1
        have hb2 : b2 < w.heap.size := World.block_lt_of_cell? w _ (hcl2 k hlt2).1
        have c1 := (hB.cell (p := ⟨b, off + k * 2, none⟩) hb1).trans (hcl k hlt).1
        have c2 := (hB.cell (p := ⟨b, off + k * 2 + 1, none⟩) hb1).trans (hcl k hlt).2
        have c3 := (hB.cell (p := ⟨b2, off2 + k * 2, none⟩) hb2).trans (hcl2 k hlt2).1
        have c4 := (hB.cell (p := ⟨b2, off2 + k * 2 + 1, none⟩) hb2).trans (hcl2 k hlt2).2
        have o1 := last.On.cell (B := wr.heap.size) c1 (by have := hB.size; omega)
        have o2 := last.On.cell (B := wr.heap.size) c2 (by have := hB.size; omega)
        have o3 := last.On.cell (B := wr.heap.size) c3 (by have := hB.size; omega)
        have o4 := last.On.cell (B := wr.heap.size) c4 (by have := hB.size; omega)
        have hinh := last.On.inh wr.heap.size wr
        have hcall : ∀ x : last.On wr.heap.size wr, Calls Try.prog 47 #[.agg #[.string l[k].1, .string l[k].2], .agg #[.string l2[k].1, .string l2[k].2]] x.w fun e w' => e = .returned (.bool (decide (l[k] = l2[k]))) ∧ ∃ y : last.On wr.heap.size wr, w' = y.w := fun x => last.Calls.on x (Nat.le_refl _) (eqPair l[k] l2[k] x.w)
        by_cases e : l[k] = l2[k]
        · rw [decide_eq_true e] at hcall
          have HE := Hid.mk' (take_eqP htk hlt hlt2 e)
          clear hcl hcl2 hc hc2 htk hne e
          generalize l[k] = p at *
          generalize l2[k] = q at *
          go_wp2_with fail
          refine last.wp_region_on wr.heap.size (by kernel_rfl) (by kernel_rfl) ?_
          repeat (go_big_quiet_step ((go_at_call 47; exact hcall _)))
          refine wpQuiet_nil ?_
          intro w5 hw5
          obtain ⟨x5, hw5⟩ := hw5
          subst hw5
          have hB5 : Below w.heap.size w x5.w := hB.trans (x5.2.mono hB.size)
          go_wp2_with fail
          go_roundw
          case rel => exact ⟨k + 1, by omega, by go_num, HE.out, hB5⟩
          case measure => simp [intOf]; omega
        · rw [decide_eq_false e] at hcall
          have HE : Hid (¬ l = l2) := by
            show ¬ _
            rintro rfl; exact e rfl
          clear hcl hcl2 hc hc2 htk hne e
          generalize l[k] = p at *
          generalize l2[k] = q at *
          go_wp2_with fail
          refine last.wp_region_on wr.heap.size (by kernel_rfl) (by kernel_rfl) ?_
          repeat (go_big_quiet_step ((go_at_call 47; exact hcall _)))
          refine wpQuiet_nil ?_
          intro w5 hw5
          obtain ⟨x5, hw5⟩ := hw5
          subst hw5
          have hB5 : Below w.heap.size w x5.w := hB.trans (x5.2.mono hB.size)
          go_wp2_with fail
          go_ret
          exact ⟨ret_bool (by symm; rw [decide_eq_false_iff_not]; exact HE.out), hB5⟩
      · have e : k = l.length := by omega
        have hfin : l = l2 := by
          subst e
          rw [List.take_of_length_le (Nat.le_refl _), List.take_of_length_le (by omega)] at htk
          exact htk
        have HF := Hid.mk' hfin
        clear hfin htk
        go_wp2_with fail
        go_ret
        exact ⟨ret_bool (by symm; rw [decide_eq_true_iff]; exact HF.out), hB⟩
  · have hb : ((l.length : Int) == (l2.length : Int)) = false := by simp; omega
    go_enter Try.func18, Try.ntmps18
    go_wp2
    go_ret
    exact ⟨ret_bool (by symm; rw [decide_eq_false_iff_not]; intro h; exact hne (by rw [h])), Below.refl _ _⟩

end Go.Proofs.Yteniflajiklffaa.pairs

namespace Go.Proofs.Yteniflajiklffaa.pairs
open Go Go.RowKit Go.Proofs.Yteniflajiklffaa.base Go.Proofs.Yteniflajiklffaa.helps
set_option linter.unusedVariables false
set_option linter.unusedSimpArgs false

def marksP (k0 n : Nat) : List Pr := (List.range n).map fun j => (markBytes (k0 + 2 * j), markBytes (k0 + 2 * j + 1))
def markPTo (l : List Pr) (k0 i : Nat) : List Pr := marksP k0 i ++ l.drop i
theorem marksP_length (k0 n : Nat) : (marksP k0 n).length = n := by simp [marksP]
theorem marksP_get (k0 n i : Nat) (h : i < n) : (marksP k0 n)[i]'(by rw [marksP_length]; exact h) = (markBytes (k0 + 2 * i), markBytes (k0 + 2 * i + 1)) := by simp [marksP]
theorem markPTo_length (l : List Pr) (k0 i : Nat) (h : i ≤ l.length) : (markPTo l k0 i).length = l.length := by simp [markPTo, marksP]; omega
theorem markPTo_zero (l : List Pr) (k0 : Nat) : markPTo l k0 0 = l := by simp [markPTo, marksP]
theorem markPTo_all (l : List Pr) (k0 : Nat) : markPTo l k0 l.length = marksP k0 l.length := by simp [markPTo]
theorem markPTo_set (l : List Pr) (k0 i : Nat) (h : i < l.length) : (markPTo l k0 i).set i (markBytes (k0 + 2 * i), markBytes (k0 + 2 * i + 1)) = markPTo l k0 (i + 1) := by
  unfold markPTo marksP
  rw [List.set_append_right _ _ (by simp)]
  simp only [List.length_map, List.length_range, Nat.sub_self, List.range_succ, List.map_append, List.map_cons, List.map_nil, List.append_assoc]
  congr 1
  rw [List.drop_eq_getElem_cons h]
  rfl

set_option maxRecDepth 100000 in
set_option maxHeartbeats 1000000 in
theorem markPairS (g len cap k0 base : Nat) (l : List Pr) (w : World) (h : OwnP w base g len cap l) (hk1 : 1 ≤ k0) (hk0 : k0 + 2 * len ≤ 1099511627776) :
    Calls Try.prog 21 #[.slice (some ⟨g, 0, none⟩) len cap, .int .i64 (k0 : Nat)] w fun e w' => e = .returned (.int .i64 ((k0 + 2 * len : Nat) : Int)) ∧ OwnP w' base g len cap (marksP k0 len) ∧ w.grownBy w' (some g) := by
  have hl := h.1
  subst hl
  go_enter Try.func21, Try.ntmps21
  go_wp2_with fail
  go_loopw [1, 5] (fun kv i wr => ∃ k : Nat, k ≤ l.length ∧ i = .int .i64 k ∧ kv = .int .i64 ((k0 + 2 * k : Nat) : Int) ∧ OwnP wr base g l.length cap (markPTo l k0 k) ∧ w.grownBy wr (some g)) (fun _ i _ => l.length - (intOf i).toNat)
  case atStart => exact ⟨0, Nat.zero_le _, rfl, rfl, by rw [markPTo_zero]; exact h, World.grownBy.refl _ _⟩
  case round =>
    obtain ⟨k, hk, rfl, rfl, hO, hG⟩ := hrel
    by_cases hlt : k < l.length
    · have hlen : k < (markPTo l k0 k).length := by rw [markPTo_length l k0 k hk]; exact hlt
      have HS := Hid.mk' (markPTo_set l k0 k hlt)
      have hki : (k : Int) < (l.length : Int) := by omega
      go_wp2_with fail
      refine (markTextI _ (k0 + 2 * k) _ (by show _ = _; omega) (by omega) (by omega)).mono ?_
      rintro e w1 ⟨rfl, hB1⟩
      have hO1 := hO.below hB1
      have hG1 := grown_below hG hB1
      have d1 := hO1.key k hlen
      have f1 := hO1.frozen (k * 2)
      have R := hO1.setKey k hlen (markBytes (k0 + 2 * k)) (mark_max _)
      have HR := Hid.mk' R
      have hG2 := grownBy_trans hG1 R.2
      clear R hO hG hO1 hG1
      go_wp2_with fail
      refine (markTextI _ (k0 + 2 * k + 1) _ (by show _ = _; omega) (by omega) (by omega)).mono ?_
      rintro e w2 ⟨rfl, hB2⟩
      have hO2 := HR.out.1.below hB2
      have hG3 := grown_below hG2 hB2
      have hlen2 : k < ((markPTo l k0 k).set k (markBytes (k0 + 2 * k), (markPTo l k0 k)[k].2)).length := by simpa using hlen
      have d2 := hO2.val k hlen2
      have f2 := hO2.frozen (k * 2 + 1)
      have R2 := hO2.setVal k hlen2 (markBytes (k0 + 2 * k + 1)) (mark_max _)
      simp only [List.getElem_set_self, List.set_set] at R2
      rw [HS.out] at R2
      have HR2 := Hid.mk' R2
      have hG4 := grownBy_trans hG3 R2.2
      clear R2 hO2 hG3 hG2 HR d1 f1
      go_wp2_with fail
      go_roundw
      case rel => exact ⟨k + 1, by omega, by go_num, by go_num, HR2.out.1, hG4⟩
      case measure => simp [intOf]; omega
    · go_wp2_with fail
      go_ret
      have e : k = l.length := by omega
      subst e
      rw [markPTo_all] at hO
      exact ⟨rfl, hO, hG⟩

set_option maxRecDepth 100000 in
set_option maxHeartbeats 1000000 in
theorem heldPairS (a : Option Addr) (len cap k0 : Nat) (w : World) (h : SlP w a len (marksP k0 len)) (hk1 : 1 ≤ k0) (hk0 : k0 + 2 * len ≤ 1099511627776) :
    Calls Try.prog 22 #[.slice a len cap, .int .i64 (k0 : Nat)] w fun e w' => e = .returned (.int .i64 ((k0 + 2 * len : Nat) : Int)) ∧ Below w.heap.size w w' := by
  obtain ⟨hl, hm, _, hc⟩ := h
  go_enter Try.func22, Try.ntmps22
  go_wp2_with fail
  go_loopw [1, 5] (fun kv i wr => ∃ k : Nat, k ≤ len ∧ i = .int .i64 k ∧ kv = .int .i64 ((k0 + 2 * k : Nat) : Int) ∧ Below w.heap.size w wr) (fun _ i _ => len - (intOf i).toNat)
  case atStart => exact ⟨0, Nat.zero_le _, rfl, rfl, Below.refl _ _⟩
  case round =>
    obtain ⟨k, hk, rfl, rfl, hB⟩ := hrel
    by_cases hlt : k < len
    · obtain ⟨b, off, ha, hcl⟩ := hc (by omega)
      subst ha
      have hkl : k < (marksP k0 len).length := by omega
      obtain ⟨d1, d2⟩ := hcl k hkl
      rw [marksP_get k0 len k hlt] at d1 d2
      have hbb : b < w.heap.size := World.block_lt_of_cell? w _ d1
      have c1 := (hB.cell (p := ⟨b, off + k * 2, none⟩) hbb).trans d1
      have c2 := (hB.cell (p := ⟨b, off + k * 2 + 1, none⟩) hbb).trans d2
      have hbw := hB.size
      have o1 := last.On.cell (B := wr.heap.size) c1 (by omega)
      have hinh := last.On.inh wr.heap.size wr
      have hki : (k : Int) < (len : Int) := by omega
      have hm1 : ∀ x : last.On wr.heap.size wr, Calls Try.prog 50 #[.int .i64 ((k0 : Int) + 2 * (k : Int))] x.w fun e w' => e = .returned (.string (markBytes (k0 + 2 * k))) ∧ ∃ y : last.On wr.heap.size wr, w' = y.w := fun x => last.Calls.on x (Nat.le_refl _) (markTextI _ (k0 + 2 * k) x.w (by show _ = _; omega) (by omega) (by omega))
      clear hcl hc d1 d2 hkl
      generalize hM1 : markBytes (k0 + 2 * k) = M1 at *
      generalize hM2 : markBytes (k0 + 2 * k + 1) = M2 at *
      have HM2 := Hid.mk' hM2
      clear hM1 hM2
      go_wp2_with fail
      refine last.wp_region_on wr.heap.size (by kernel_rfl) (by kernel_rfl) ?_
      repeat (go_big_quiet_step ((go_at_call 50; exact hm1 _)))
      refine wpQuiet_nil ?_
      intro w5 hw5
      obtain ⟨x5, hw5⟩ := hw5
      subst hw5
      have hB5 : Below w.heap.size w x5.w := hB.trans (x5.2.mono hB.size)
      have c2' : x5.w.cell? ⟨b, off + k * 2 + 1, none⟩ = some (.string M2) := (x5.2.cell (p := ⟨b, off + k * 2 + 1, none⟩) (by show b < _; omega)).trans c2
      generalize x5.w = w6 at *
      clear o1 hinh hm1 c1 c2
      have hbw6 := hB5.size
      have o2 := last.On.cell (B := w6.heap.size) c2' (by omega)
      have hinh := last.On.inh w6.heap.size w6
      have hm2 : ∀ x : last.On w6.heap.size w6, Calls Try.prog 50 #[.int .i64 ((k0 : Int) + 2 * (k : Int) + 1)] x.w fun e w' => e = .returned (.string M2) ∧ ∃ y : last.On w6.heap.size w6, w' = y.w := fun x => last.Calls.on x (Nat.le_refl _) (by rw [← HM2.out]; exact markTextI _ (k0 + 2 * k + 1) x.w (by show _ = _; omega) (by omega) (by omega))
      clear HM2
      go_wp2_with fail
      refine last.wp_region_on w6.heap.size (by kernel_rfl) (by kernel_rfl) ?_
      repeat (go_big_quiet_step ((go_at_call 50; exact hm2 _)))
      refine wpQuiet_nil ?_
      intro w7 hw7
      obtain ⟨x7, hw7⟩ := hw7
      subst hw7
      have hB7 : Below w.heap.size w x7.w := hB5.trans (x7.2.mono hB5.size)
      go_wp2_with fail
      go_roundw
      case rel => exact ⟨k + 1, by omega, by go_num, by go_num, hB7⟩
      case measure => simp [intOf]; omega
    · go_wp2_with fail
      go_ret
      have e : k = len := by omega
      subst e
      exact ⟨rfl, hB⟩


end Go.Proofs.Yteniflajiklffaa.pairs
