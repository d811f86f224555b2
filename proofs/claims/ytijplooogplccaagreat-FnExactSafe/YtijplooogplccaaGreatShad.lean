/- Last PairV OrdS OrdT Hash OrdU -/
import Derived.Deep.QuietTactic
import Derived.BigQuiet
import Derived.WalkKit
import Derived.WalkSpells
import Derived.WalkLawsBesides
import Derived.Test.YtijplooogplccaaGreatShac
import Derived.Test.YtijplooogplccaaGreatShab
import Derived.Test.YtijplooogplccaaGreatRows
import Derived.Test.YtijplooogplccaaGreatShaa
set_option linter.unusedVariables false
set_option linter.unusedSimpArgs false
namespace Go.Proofs.YtijplooogplccaaGreat
namespace last
open Go Go.RowKit
section
variable {P : Program} {ops : Array Oper} {md : Region.Mode} {C : World → Prop}
def wpAnyZ (P : Program) (md : Region.Mode) (ops : Array Oper) (C : World → Prop) (z : Nat) (Q : Act → Prop) : Nat → Array Bool → Act → Prop
 | 0, listed, a => (Region.ready md ops listed = [z] ∧ Region.ready md ops (listed.setIfInBounds z true) = []) ∧ Q a
 | fuel + 1, listed, a => (z ∉ Region.ready md ops listed ∧ Region.ready md ops listed ≠ []) ∧
  ∀ i ∈ Region.ready md ops listed, qOp P ops C i (wpAnyZ P md ops C z Q fuel (listed.setIfInBounds i true)) a
theorem wpAny_of_z {z : Nat} {Q : Act → Prop} {Q' : Exit → Act → World → Prop} (hQ : ∀ a w, C w → Q a → wpOp P ops Q' z (fun a' w' => Q' .normal a' w') a w) : ∀ (fuel : Nat) (listed : Array Bool) (a : Act) (w : World), C w →
 wpAnyZ P md ops C z Q fuel listed a → wpAny P md ops Q' (fuel + 1) listed a w
 | 0, listed, a, w, hw, h => by
  refine ⟨fun h0 => (by rw [h.1.1] at h0; cases h0), fun i hi => ?_⟩
  rw [h.1.1] at hi
  have : i = z := by simpa using hi
  subst this
  exact wpOp_mono (fun a' w' h' => ⟨h.1.2, h'⟩) (hQ a w hw h.2)
 | fuel + 1, listed, a, w, hw, h =>
  ⟨fun h0 => absurd h0 h.1.2, fun i hi => wpOp_of_qOp hw (fun a' w' hw' => wpAny_of_z hQ fuel _ a' w' hw') (h.2 i hi)⟩
theorem both_ready {i j : Nat} {o : Oper} {listed : Array Bool} (hi : i ∈ Region.ready md ops listed) (hj : j ∈ Region.ready md ops listed) (ho : ops[j]? = some o) :
 ∀ e ∈ o.after, Region.binds md e = true → e.on ≠ i := by
 rintro e he hb rfl
 obtain ⟨_, o', ho', hall⟩ := mem_ready.1 hj
 obtain rfl := Option.some.inj (ho'.symm.trans ho)
 have yes := hall e he hb
 have no := (mem_ready.1 hi).1
 by_cases hs : e.on < listed.size
 · simp only [Array.getD, hs, dif_pos] at yes no
   exact Bool.noConfusion (yes.symm.trans no)
 · simp [Array.getD, hs] at yes
def Apart (md : Region.Mode) (ops : Array Oper) (i : Nat) (oi : Oper) (listed : Array Bool) : Prop :=
 ∀ j oj, ops[j]? = some oj → j ≠ i → listed.getD j true = false → (∀ e ∈ oj.after, Region.binds md e = true → e.on ≠ i) → oi.apart ops oj = true
theorem Apart.less {i : Nat} {oi : Oper} {listed : Array Bool} (h : Apart md ops i oi listed) (k : Nat) : Apart md ops i oi (listed.setIfInBounds k true) := by
 intro j oj hj hne hun
 refine h j oj hj hne ?_
 by_cases e : k = j
 · subst e
   by_cases hs : k < listed.size
   · simp [Array.getD, hs] at hun
   · simp [Array.getD, hs] at hun
 · rwa [getD_set_ne true e] at hun
theorem wpAnyZ_first {z : Nat} {Q : Act → Prop} {i : Nat} {oi : Oper} {v : Value} (hi : ops[i]? = some oi) (hsel : ∀ (j : Nat) (o : Oper) cs b, ops[j]? = some o → o.op ≠ .select cs b)
 {oz : Oper} (hz : ops[z]? = some oz) (hzi : ∃ e ∈ oz.after, Region.binds md e = true ∧ e.on = i) (fuel : Nat) :
 ∀ (listed : Array Bool) (a : Act), Apart md ops i oi listed → i ∈ Region.ready md ops listed → YieldsIn P ops C oi v a →
  wpAnyZ P md ops C z Q fuel (listed.setIfInBounds i true) (a.put oi.dst v) → wpAnyZ P md ops C z Q (fuel + 1) listed a := by
 have hnz : ∀ {listed : Array Bool}, i ∈ Region.ready md ops listed → z ∉ Region.ready md ops listed := fun hr hzr => by
  obtain ⟨e, he, hb, heq⟩ := hzi
  exact both_ready hr hzr hz e he hb heq
 induction fuel with
 | zero =>
  intro listed a _ hr hy H
  refine ⟨⟨hnz hr, List.ne_nil_of_mem hr⟩, fun j hj => ?_⟩
  rcases Decidable.em (j = i) with rfl | hji
  · exact hy.qOp hi H
  · have hjz := H.1.1 ▸ ready_mono hj hji
    exact absurd (List.mem_singleton.1 hjz ▸ hj) (hnz hr)
 | succ fuel ih =>
  intro listed a hap hr hy H
  refine ⟨⟨hnz hr, List.ne_nil_of_mem hr⟩, fun j hj => ?_⟩
  rcases Decidable.em (j = i) with rfl | hji
  · exact hy.qOp hi H
  · obtain ⟨hun, oj, hoj, _⟩ := mem_ready.1 hj
    have step := qOp_put hoj (hap j oj hoj hji hun (both_ready hr hj hoj)) (hsel i oi · · hi) (hsel j oj · · hoj) hy (H.2 j (ready_mono hj hji))
    refine qOp_mono (fun a' (h : _ ∧ _) => ih _ a' (hap.less j) (ready_mono hr (Ne.symm hji)) h.1 ?_) step
    exact Array.setIfInBounds_comm (xs := listed) true true hji ▸ h.2
def waits (md : Region.Mode) (oz : Oper) (k : Nat) : Bool := oz.after.any fun e => Region.binds md e && e.on == k
def lexZ (md : Region.Mode) (ops : Array Oper) (z : Nat) (oz : Oper) : Nat → Nat → Array Bool → Bool
 | 0, _, listed => decide (Region.ready md ops listed = [z]) && decide (Region.ready md ops (listed.setIfInBounds z true) = [])
 | fuel + 1, k, listed => (Region.ready md ops listed).contains k && Region.free md ops listed k && waits md oz k && lexZ md ops z oz fuel (k + 1) (listed.setIfInBounds k true)
theorem wpAnyZ_lex {z : Nat} {oz : Oper} {Q : Act → Prop} (hs : Region.noSelect ops = true) (hz : ops[z]? = some oz) : ∀ (l : List Oper) (k : Nat) (listed : Array Bool) (a : Act), (∀ j, j < l.length → l[j]? = ops[k + j]?) →
 lexZ md ops z oz l.length k listed = true → wpQuiet P ops C Q l a → wpAnyZ P md ops C z Q l.length listed a
 | [], _, _, _, _, hB, h => ⟨by simpa [lexZ] using hB, h⟩
 | o :: l, k, listed, a, hl, hB, h => by
  have h0 : ops[k]? = some o := by simpa using (hl 0 (by simp)).symm
  simp only [List.length_cons, lexZ, Bool.and_eq_true] at hB
  obtain ⟨⟨⟨hr, hf⟩, hw⟩, hB'⟩ := hB
  have hst : qOp P ops C k (wpQuiet P ops C Q l) a := by unfold qOp; simp only [h0]; exact h
  obtain ⟨v, hy, hK⟩ := yieldsIn_of_qOp h0 hst
  have hwz : ∃ e ∈ oz.after, Region.binds md e = true ∧ e.on = k := by
   obtain ⟨e, he, hb⟩ := Array.any_eq_true'.1 hw
   simp only [Bool.and_eq_true, beq_iff_eq] at hb
   exact ⟨e, he, hb⟩
  exact wpAnyZ_first h0 (Region.noSelect_spec hs) hz hwz l.length listed a (Region.free_spec h0 hf) (by simpa using hr) hy
   (wpAnyZ_lex hs hz l (k + 1) _ _ (fun j hj => by have := hl (j + 1) (by simpa using hj); simpa [Nat.add_assoc, Nat.add_comm 1 j] using this) hB' hK)
theorem wp_region_lastC {id : Nat} {Q : Exit → Act → World → Prop} {a : Act} {w : World} (l : List Oper) (st : Oper) (hm : P.follows .mixedOrders = true) (hs : Region.noSelect (l ++ [st]).toArray = true)
 (hB : lexZ .any (l ++ [st]).toArray l.length st l.length 0 (Array.replicate (l ++ [st]).toArray.size false) = true) (hC : C { w with drawn := w.drawn + 1 })
 (h : wpQuiet P (l ++ [st]).toArray C (fun a' => ∀ w', C w' → wpList P (l ++ [st]).toArray Q [st] a' w') l a) :
 (Code.region id (l ++ [st]).toArray true).wp P Q a w := by
 have hz : (l ++ [st]).toArray[l.length]? = some st := by simp
 have hsz : (l ++ [st]).toArray.size = l.length + 1 := by simp
 have h1 := wpAnyZ_lex (md := .any) hs hz l 0 (Array.replicate (l ++ [st]).toArray.size false) a (fun j hj => by simp [List.getElem?_append, hj]) hB h
 have h2 := wpAny_of_z (Q' := Q) (fun a' w' hw' h' => by
  have := h' w' hw'
  unfold wpOp
  simp only [hz]
  exact this) l.length _ a ({ w with drawn := w.drawn + 1 }) hC h1
 refine wp_region_any hm ?_
 rw [hsz] at h2 ⊢
 exact h2
theorem wp_region_last_litC {id : Nat} {Q : Exit → Act → World → Prop} {a : Act} {w : World} {L : List Oper} (n : Nat) (st : Oper) (hL : L = L.take n ++ [st]) (hm : P.follows .mixedOrders = true) (hs : Region.noSelect L.toArray = true)
 (hB : lexZ .any L.toArray (L.take n).length st (L.take n).length 0 (Array.replicate L.toArray.size false) = true) (hC : C { w with drawn := w.drawn + 1 })
 (h : wpQuiet P L.toArray C (fun a' => ∀ w', C w' → wpList P L.toArray Q [st] a' w') (L.take n) a) :
 (Code.region id L.toArray true).wp P Q a w := by
 have := wp_region_lastC (P := P) (id := id) (Q := Q) (a := a) (w := w) (C := C) (L.take n) st hm
 rw [← hL] at this
 exact this hs hB hC h
/-! ### calls that make memory: the class of the worlds that go on from w -/
def On (B : Nat) (w : World) : Type := { w' : World // Below B w w' }
def On.w {B : Nat} {w : World} (x : On B w) : World := x.1
theorem On.inh (B : Nat) (w : World) : Nonempty (On B w) := ⟨⟨w, Below.refl _ _⟩⟩
theorem wp_region_on {id : Nat} {Q : Exit → Act → World → Prop} {a : Act} {w : World} {l : List Oper} (B : Nat) (hm : P.follows .mixedOrders = true) (hB : Region.lexB .any l.toArray = true)
 (h : wpQuiet P l.toArray (fun w' => ∃ x : On B w, w' = x.w) (fun a' => ∀ w', (∃ x : On B w, w' = x.w) → Q .normal a' w') l a) : (Code.region id l.toArray true).wp P Q a w :=
 wp_region_quiet (C := fun w' => ∃ x : On B w, w' = x.w) hm hB ⟨⟨w.drew, (Below.refl _ _).drew⟩, rfl⟩ (by simpa using h)
theorem wp_region_last_on {id : Nat} {Q : Exit → Act → World → Prop} {a : Act} {w : World} {L : List Oper} (B : Nat) (n : Nat) (st : Oper) (hL : L = L.take n ++ [st]) (hm : P.follows .mixedOrders = true) (hs : Region.noSelect L.toArray = true)
 (hB : lexZ .any L.toArray (L.take n).length st (L.take n).length 0 (Array.replicate L.toArray.size false) = true)
 (h : wpQuiet P L.toArray (fun w' => ∃ x : On B w, w' = x.w) (fun a' => ∀ w', (∃ x : On B w, w' = x.w) → wpList P L.toArray Q [st] a' w') (L.take n) a) :
 (Code.region id L.toArray true).wp P Q a w := wp_region_last_litC n st hL hm hs hB ⟨⟨w.drew, (Below.refl _ _).drew⟩, rfl⟩ h
theorem Calls.on {f : FuncId} {args : Array Value} {B : Nat} {w : World} {v : Value} (x : On B w) (hBw : B ≤ w.heap.size) (h : Calls P f args x.w fun e w' => e = .returned v ∧ Below x.w.heap.size x.w w') :
 Calls P f args x.w fun e w'' => e = .returned v ∧ ∃ y : On B w, w'' = y.w :=
 h.mono fun _ w'' ⟨he, hb⟩ => ⟨he, ⟨w'', x.2.trans (hb.mono (Nat.le_trans hBw x.2.size))⟩, rfl⟩
theorem On.cell {B : Nat} {w : World} {b o : Nat} {v : Value} (h : w.cell? ⟨b, o, none⟩ = some v) (hb : b < B) : ∀ x : On B w, x.w.cell? ⟨b, o, none⟩ = some v :=
 fun x => (x.2.cell (p := ⟨b, o, none⟩) hb).trans h
end
end last
namespace pairs
open Go Go.RowKit base
theorem keepC {W w' : World} {b o : Nat} {v : Value} (hb : Below W.heap.size W w') (h : W.cell? ⟨b, o, none⟩ = some v) : w'.cell? ⟨b, o, none⟩ = some v :=
 (hb.cell (p := ⟨b, o, none⟩) (World.block_lt_of_cell? W _ h)).trans h
theorem keepB2 {W w' : World} {b o1 o2 : Nat} {v1 v2 : Value} (hb : Below W.heap.size W w') (h : W.cell? ⟨b, o1, none⟩ = some v1 ∧ W.cell? ⟨b, o2, none⟩ = some v2) :
 w'.cell? ⟨b, o1, none⟩ = some v1 ∧ w'.cell? ⟨b, o2, none⟩ = some v2 := ⟨keepC hb h.1, keepC hb h.2⟩
end pairs
namespace ords
open Go Go.RowKit base pairs
set_option maxHeartbeats 400000 in
theorem s_inZ (x a b : Int) (w : World) :
    Calls Tryz.prog 43 #[.int .i64 x, .int .i64 a, .int .i64 b] w fun e w' => e = .returned (.bool (decide (a ≤ x ∧ x ≤ b))) ∧ w' = w := by
  by_cases h1 : a ≤ x
  · by_cases h2 : x ≤ b
    · go_enter Tryz.func43, Tryz.ntmps43
      go_wp2
      go_ret
      exact ⟨ret_bool (by simp [h1, h2]), rfl⟩
    · go_enter Tryz.func43, Tryz.ntmps43
      go_wp2
      go_ret
      exact ⟨ret_bool (by simp [h1, h2]), rfl⟩
  · go_enter Tryz.func43, Tryz.ntmps43
    go_wp2
    go_ret
    exact ⟨ret_bool (by have h3 : ¬ a ≤ x := by omega
                        simp [h3]), rfl⟩
theorem size_empty {v : ByteArray} (h : v.size = 0) : v = ⟨#[]⟩ := by
 apply bytes_ext; exact List.eq_nil_of_length_eq_zero (by rw [Array.length_toList]; exact h)
theorem not_empty {v : ByteArray} (h : ¬ v.size = 0) : ¬ v.toList = [] ∧ v.toList.isEmpty = false := by
  have hq : ¬ v.toList = [] := fun e => h (by have : v = ⟨#[]⟩ := bytes_ext (by rw [← ByteArray.toList_eq]; exact e)
                                              rw [this]; rfl)
  exact ⟨hq, by rw [Bool.eq_false_iff]; intro e; exact hq (List.isEmpty_iff.1 e)⟩
set_option maxRecDepth 100000 in
set_option maxHeartbeats 1000000 in
theorem spec_l7Op (o : Od) (w : World) (ho : smallO o) (hs : o.2.1.size ≤ 1099511627776) :
 Calls Tryz.prog 84 #[.agg #[.int .i64 o.1, .string o.2.1, .string o.2.2]] w fun e w' => e = .returned (.bool (odOk o)) ∧ Below w.heap.size w w' := by
 obtain ⟨z, k, v⟩ := o
 have h2 := ho.2.2
 simp only [] at h2 hs ⊢
 unfold maxLen at h2
 have hba : Below w.heap.size w (w.alloc (.cells #[.int .i64 z, .string k, .string v] 126)) := (Below.refl _ _).alloc (Nat.le_refl _) _
 have hin := s_inZ z 1 3 (w.alloc (.cells #[.int .i64 z, .string k, .string v] 126))
 have hk := spec_keyOk k (w.alloc (.cells #[.int .i64 z, .string k, .string v] 126)) hs
 generalize hK : keyOk k = K at hk
 have H1 := Hid.mk' hK
 have HK := Hid.mk' hk
 clear hk hK ho
 by_cases hz : 1 ≤ z ∧ z ≤ 3
 · rw [decide_eq_true hz] at hin
   have HI := Hid.mk' hin
   clear hin
   by_cases hz2 : z = 2
   · subst hz2
     by_cases hv : v.size = 0
     · obtain rfl := size_empty hv
       clear hz hv
       go_enter Tryz.func84, Tryz.ntmps84
       go_wp2_with fail
       refine HI.out.mono ?_
       rintro e w1 ⟨rfl, rfl⟩
       go_wp2_with fail
       refine HK.out.mono ?_
       rintro e w1 ⟨rfl, rfl⟩
       cases K
       all_goals
        go_wp2_with fail
        go_ret
        exact ⟨ret_bool (by unfold odOk; rw [H1.out]; rfl), hba⟩
     · have HV := Hid.mk' hv
       obtain ⟨hq, hq2⟩ := not_empty hv
       clear hz hv
       go_enter Tryz.func84, Tryz.ntmps84
       go_wp2_with fail
       refine HI.out.mono ?_
       rintro e w1 ⟨rfl, rfl⟩
       go_wp2_with fail
       go_ret
       exact ⟨ret_bool (by have := HV.out; unfold odOk; simp [this]), hba⟩
   · have HZ := Hid.mk' hz
     have HZ2 := Hid.mk' hz2
     have hb : (z == 2) = false := beq_eq_false_iff_ne.2 hz2
     clear hz hz2
     go_enter Tryz.func84, Tryz.ntmps84
     go_wp2_with fail
     refine HI.out.mono ?_
     rintro e w1 ⟨rfl, rfl⟩
     go_wp2_with fail
     refine HK.out.mono ?_
     rintro e w1 ⟨rfl, rfl⟩
     cases K
     all_goals
      go_wp2_with fail
      go_ret
      exact ⟨ret_bool (by have a := HZ.out; have b := HZ2.out; unfold odOk; rw [H1.out]; simp [a, b]; try omega), hba⟩
 · rw [decide_eq_false hz] at hin
   have HI := Hid.mk' hin
   have HZ := Hid.mk' hz
   clear hin hz
   go_enter Tryz.func84, Tryz.ntmps84
   go_wp2_with fail
   refine HI.out.mono ?_
   rintro e w1 ⟨rfl, rfl⟩
   go_wp2_with fail
   go_ret
   exact ⟨ret_bool (by unfold odOk; rw [decide_eq_false HZ.out]; rfl), hba⟩
end ords
namespace ords
open Go Go.RowKit base pairs
def prevO (l : List Od) (k : Nat) : Option ByteArray := if k = 0 then none else (l[k - 1]?).map (·.2.1)
theorem opsFrom_zero (l : List Od) (k : Nat) (h : k < l.length) (h0 : k = 0) : opsFrom (prevO l k) (l.drop k) = (odOk l[k] && opsFrom (prevO l (k + 1)) (l.drop (k + 1))) := by
 subst h0
 cases l with
 | nil => simp at h
 | cons p l => simp [prevO, opsFrom]
theorem opsFrom_step (l : List Od) (k : Nat) (h : k < l.length) (h0 : 0 < k) : opsFrom (prevO l k) (l.drop k) = (odOk l[k] && ltB l[k - 1].2.1 l[k].2.1 && opsFrom (prevO l (k + 1)) (l.drop (k + 1))) := by
 have e1 : prevO l k = some l[k - 1].2.1 := by unfold prevO; rw [if_neg (by omega), List.getElem?_eq_getElem (by omega)]; rfl
 have e2 : prevO l (k + 1) = some l[k].2.1 := by unfold prevO; rw [if_neg (by omega), Nat.add_sub_cancel, List.getElem?_eq_getElem h]; rfl
 rw [e1, e2, List.drop_eq_getElem_cons h, opsFrom]
set_option maxRecDepth 100000 in
set_option maxHeartbeats 2000000 in
theorem spec_opsOk (b off len cap : Nat) (l : List Od) (w : World) (h : SlO w (some ⟨b, off, none⟩) len l) (hks : ∀ p ∈ l, p.2.1.size ≤ 1099511627776) :
    Calls Tryz.prog 47 #[.slice (some ⟨b, off, none⟩) len cap] w fun e w' => e = .returned (.bool (opsOk l)) ∧ Below w.heap.size w w' := by
  have hl := h.1
  have hm := h.2.1
  have hsm := h.2.2.1
  subst hl
  unfold maxLen at hm
  generalize hR : opsFrom none l = R
  have HR := Hid.mk' hR
  clear hR
  go_enter Tryz.func47, Tryz.ntmps47
  go_wp2_with fail
  go_loopw [3] (fun i wr => ∃ k : Nat, k ≤ l.length ∧ i = .int .i64 (k : Int) ∧ opsFrom (prevO l k) (l.drop k) = R ∧ Below w.heap.size w wr) (fun i _ => l.length - (intOf i).toNat)
  case atStart => exact ⟨0, Nat.zero_le _, rfl, HR.out, Below.refl _ _⟩
  case round =>
    obtain ⟨k, hk, rfl, hr, hB⟩ := hrel
    by_cases hlt : k < l.length
    · have hS := h.below hB
      obtain ⟨c0, c1, c2⟩ := hS.cells k hlt
      have hbl := hS.lt (by omega)
      have hpk := hsm _ (List.getElem_mem hlt)
      have hks' := hks _ (List.getElem_mem hlt)
      have hki : (k : Int) < (l.length : Int) := by omega
      have hbd : b < wr.drew.heap.size := hbl
      by_cases h0 : k = 0
      · have hst := opsFrom_zero l k hlt h0
        rw [hr] at hst
        have hk0 : ¬ (0 : Int) < (k : Int) := by omega
        have hk1 : decide (0 < k) = false := by simp; omega
        have hk2 : decide ((0 : Int) < (k : Int)) = false := by simp; omega
        cases hP : odOk l[k]
        · have HF : Hid (R = false) := by rw [hP] at hst; exact hst
          have HP := Hid.mk' hP
          clear hst hr hP hS h0
          generalize l[k] = p at *
          have o0 := last.On.cell c0 hbl
          have o1 := last.On.cell c1 hbl
          have o2 := last.On.cell c2 hbl
          go_wp2_with fail
          have hinh := last.On.inh wr.heap.size wr
          have hcall : ∀ x : last.On wr.heap.size wr, Calls Tryz.prog 84 #[.agg #[.int .i64 p.1, .string p.2.1, .string p.2.2]] x.w fun e w' => e = .returned (.bool false) ∧ ∃ y : last.On wr.heap.size wr, w' = y.w := fun x => last.Calls.on x (Nat.le_refl _) (by have := spec_l7Op p x.w hpk hks'; rw [HP.out] at this; exact this)
          refine last.wp_region_on wr.heap.size (by kernel_rfl) (by kernel_rfl) ?_
          repeat (go_big_quiet_step ((go_at_call 84; exact hcall _)))
          refine wpQuiet_nil ?_
          intro w5 hw5
          obtain ⟨x5, hw5⟩ := hw5
          subst hw5
          have hB5 : Below w.heap.size w x5.w := hB.trans (x5.2.mono hB.size)
          go_wp2_with fail
          go_ret
          exact ⟨ret_bool (by unfold opsOk; rw [HR.out, HF.out]; rfl), hB5⟩
        · have HF : Hid (opsFrom (prevO l (k + 1)) (l.drop (k + 1)) = R) := by show _ = _; rw [hP] at hst; simpa using hst.symm
          have HP := Hid.mk' hP
          clear hst hr hP hS h0
          generalize l[k] = p at *
          have o0 := last.On.cell c0 hbl
          have o1 := last.On.cell c1 hbl
          have o2 := last.On.cell c2 hbl
          go_wp2_with fail
          have hinh := last.On.inh wr.heap.size wr
          have hcall : ∀ x : last.On wr.heap.size wr, Calls Tryz.prog 84 #[.agg #[.int .i64 p.1, .string p.2.1, .string p.2.2]] x.w fun e w' => e = .returned (.bool true) ∧ ∃ y : last.On wr.heap.size wr, w' = y.w := fun x => last.Calls.on x (Nat.le_refl _) (by have := spec_l7Op p x.w hpk hks'; rw [HP.out] at this; exact this)
          refine last.wp_region_on wr.heap.size (by kernel_rfl) (by kernel_rfl) ?_
          repeat (go_big_quiet_step ((go_at_call 84; exact hcall _)))
          refine wpQuiet_nil ?_
          intro w5 hw5
          obtain ⟨x5, hw5⟩ := hw5
          subst hw5
          have hB5 : Below w.heap.size w x5.w := hB.trans (x5.2.mono hB.size)
          go_wp2_with fail
          go_roundw
          case rel => exact ⟨k + 1, by omega, by go_num, HF.out, hB5⟩
          case measure => simp [intOf]; omega
      · have hst := opsFrom_step l k hlt (by omega)
        rw [hr] at hst
        have hk0 : (0 : Int) < (k : Int) := by omega
        have hk1 : decide (0 < k) = true := by simp; omega
        have hk2 : decide ((0 : Int) < (k : Int)) = true := by simp; omega
        have c3 := (hS.cells (k - 1) (by omega)).2.1
        obtain ⟨j, hj⟩ : ∃ j, k - 1 = j := ⟨_, rfl⟩
        have hjw : (k : Int) - 1 = (j : Int) := by omega
        have hjk : (j : Int) < (l.length : Int) := by omega
        generalize l[k - 1].2.1 = q at *
        rw [hj] at c3
        have o3 := last.On.cell c3 hbl
        cases hP : odOk l[k]
        · have HF : Hid (R = false) := by rw [hP] at hst; exact hst
          have HP := Hid.mk' hP
          clear hst hr hP hS h0 hj
          generalize l[k] = p at *
          have o0 := last.On.cell c0 hbl
          have o1 := last.On.cell c1 hbl
          have o2 := last.On.cell c2 hbl
          go_wp2_with fail
          have hinh := last.On.inh wr.heap.size wr
          have hcall : ∀ x : last.On wr.heap.size wr, Calls Tryz.prog 84 #[.agg #[.int .i64 p.1, .string p.2.1, .string p.2.2]] x.w fun e w' => e = .returned (.bool false) ∧ ∃ y : last.On wr.heap.size wr, w' = y.w := fun x => last.Calls.on x (Nat.le_refl _) (by have := spec_l7Op p x.w hpk hks'; rw [HP.out] at this; exact this)
          refine last.wp_region_on wr.heap.size (by kernel_rfl) (by kernel_rfl) ?_
          repeat (go_big_quiet_step ((go_at_call 84; exact hcall _)))
          refine wpQuiet_nil ?_
          intro w5 hw5
          obtain ⟨x5, hw5⟩ := hw5
          subst hw5
          have hB5 : Below w.heap.size w x5.w := hB.trans (x5.2.mono hB.size)
          go_wp2_with fail
          go_ret
          exact ⟨ret_bool (by unfold opsOk; rw [HR.out, HF.out]; rfl), hB5⟩
        · cases hL : ltB q l[k].2.1
          · have HF : Hid (R = false) := by show _ = _; rw [hP, hL] at hst; simpa using hst
            have HP := Hid.mk' hP
            have hl2 : Op.bytesLess q.toList l[k].2.1.toList = false := hL
            clear hst hr hP hS h0 hj hL
            generalize l[k] = p at *
            have o0 := last.On.cell c0 hbl
            have o1 := last.On.cell c1 hbl
            have o2 := last.On.cell c2 hbl
            go_wp2_with fail
            have hinh := last.On.inh wr.heap.size wr
            have hcall : ∀ x : last.On wr.heap.size wr, Calls Tryz.prog 84 #[.agg #[.int .i64 p.1, .string p.2.1, .string p.2.2]] x.w fun e w' => e = .returned (.bool true) ∧ ∃ y : last.On wr.heap.size wr, w' = y.w := fun x => last.Calls.on x (Nat.le_refl _) (by have := spec_l7Op p x.w hpk hks'; rw [HP.out] at this; exact this)
            refine last.wp_region_on wr.heap.size (by kernel_rfl) (by kernel_rfl) ?_
            repeat (go_big_quiet_step ((go_at_call 84; exact hcall _)))
            refine wpQuiet_nil ?_
            intro w5 hw5
            obtain ⟨x5, hw5⟩ := hw5
            subst hw5
            have hB5 : Below w.heap.size w x5.w := hB.trans (x5.2.mono hB.size)
            go_wp2_with fail
            go_ret
            exact ⟨ret_bool (by unfold opsOk; rw [HR.out, HF.out]; rfl), hB5⟩
          · have HF : Hid (opsFrom (prevO l (k + 1)) (l.drop (k + 1)) = R) := by show _ = _; rw [hP, hL] at hst; simpa using hst.symm
            have HP := Hid.mk' hP
            have hl2 : Op.bytesLess q.toList l[k].2.1.toList = true := hL
            clear hst hr hP hS h0 hj hL
            generalize l[k] = p at *
            have o0 := last.On.cell c0 hbl
            have o1 := last.On.cell c1 hbl
            have o2 := last.On.cell c2 hbl
            go_wp2_with fail
            have hinh := last.On.inh wr.heap.size wr
            have hcall : ∀ x : last.On wr.heap.size wr, Calls Tryz.prog 84 #[.agg #[.int .i64 p.1, .string p.2.1, .string p.2.2]] x.w fun e w' => e = .returned (.bool true) ∧ ∃ y : last.On wr.heap.size wr, w' = y.w := fun x => last.Calls.on x (Nat.le_refl _) (by have := spec_l7Op p x.w hpk hks'; rw [HP.out] at this; exact this)
            refine last.wp_region_on wr.heap.size (by kernel_rfl) (by kernel_rfl) ?_
            repeat (go_big_quiet_step ((go_at_call 84; exact hcall _)))
            refine wpQuiet_nil ?_
            intro w5 hw5
            obtain ⟨x5, hw5⟩ := hw5
            subst hw5
            have hB5 : Below w.heap.size w x5.w := hB.trans (x5.2.mono hB.size)
            go_wp2_with fail
            go_roundw
            case rel => exact ⟨k + 1, by omega, by go_num, HF.out, hB5⟩
            case measure => simp [intOf]; omega
    · have HF : Hid (R = true) := by show _ = _; rw [← hr, List.drop_eq_nil_of_le (by omega)]; cases prevO l k <;> rfl
      clear hr
      go_wp2_with fail
      refine (s_inZ (l.length : Int) 1 8 _).mono ?_
      rintro e w9 ⟨rfl, rfl⟩
      go_wp2_with fail
      go_ret
      exact ⟨ret_bool (by unfold opsOk; rw [HR.out, HF.out, Bool.true_and]; have e : (1 ≤ (l.length : Int) ∧ (l.length : Int) ≤ 8) ↔ (1 ≤ l.length ∧ l.length ≤ 8) := by omega
                          rw [← Bool.decide_and]; exact decide_eq_decide.2 e), hB⟩
end ords
namespace hash
open Go.RowKit base
set_option maxHeartbeats 400000 in
theorem spec_hash (s : ByteArray) (w : World) (hs : s.size ≤ maxLen) :
 Calls Tryz.prog 143 #[.string s] w fun e w' => e = .returned (.int .i64 (hashOf s.data.toList)) ∧ w' = w := by
 unfold maxLen at hs
 go_enter Tryz.func143, Tryz.ntmps143
 go_wp2
 go_loop [3, 4] (fun h i => ∃ k : Nat, k ≤ s.size ∧ i = .int .i64 k ∧ h = .int .i64 (hashOf (s.data.toList.take k))) (fun _ i => s.size - (intOf i).toNat)
 case atStart => exact ⟨0, Nat.zero_le _, rfl, rfl⟩
 case round =>
  obtain ⟨k, hk, rfl, rfl⟩ := hrel
  have hd := hashOf_lt (s.data.toList.take k)
  by_cases hlt : k < s.size
  · have HS : Hid (hashOf (s.data.toList.take (k + 1)) = hstep (hashOf (s.data.toList.take k)) s[k].toNat) := by rw [take_snoc s k hlt]; exact hashOf_snoc _ _
    go_wp2
    have hb : s[k].toNat < 256 := s[k].toNat_lt
    go_round
    case rel =>
     refine ⟨k + 1, by omega, by go_num, ?_⟩
     rw [HS.out, IntWalk.wrap64_in (s[k].toNat : Int) (by omega)]
     exact val_int (i64_step' _ _ hd hb)
    case measure => simp [intOf]; omega
  · go_wp2
    go_ret
    exact ⟨ret_int (by rw [List.take_of_length_le (by simp; omega)]), rfl⟩
set_option maxHeartbeats 400000 in
theorem impl_hash (s : ByteArray) (w : World) (hs : s.size ≤ maxLen) :
 Calls Tryz.prog 172 #[.string s] w fun e w' => e = .returned (.int .i64 (hashOf s.data.toList)) ∧ Below w.heap.size w w' := by
 unfold maxLen at hs
 have hconv := Lib.run_convert_string_bytes (P := Tryz.prog) w 9 234 5 s Tryz.underlying9 Tryz.underlying234 Tryz.underlying5
 go_enter Tryz.func172, Tryz.ntmps172
 go_wp2
 go_loop [3, 9] (fun h i => ∃ k : Nat, k ≤ s.size ∧ i = .int .i64 k ∧ h = .int .u32 (hashOf (s.data.toList.take k))) (fun _ i => s.size - (intOf i).toNat)
 case atStart => exact ⟨0, Nat.zero_le _, rfl, rfl⟩
 case round =>
  obtain ⟨k, hk, rfl, rfl⟩ := hrel
  have hd := hashOf_lt (s.data.toList.take k)
  by_cases hlt : k < s.size
  · have HS : Hid (hashOf (s.data.toList.take (k + 1)) = hstep (hashOf (s.data.toList.take k)) s[k].toNat) := by rw [take_snoc s k hlt]; exact hashOf_snoc _ _
    have hcell : (Lib.bytesWorld w 5 s).cell? ⟨w.heap.size, k, none⟩ = some (.int .u8 s[k].toNat) := by
     rw [Lib.bytesWorld_cell w 5 s k hlt]; simp [List.getD, hlt]; rfl
    go_wp2
    have hb : s[k].toNat < 256 := s[k].toNat_lt
    go_round
    case rel =>
     refine ⟨k + 1, by omega, by go_num, ?_⟩
     rw [HS.out]
     refine val_int ?_
     rw [← u32_step _ _ hd hb, IntKind.wrap_u32, Int.emod_eq_of_lt (a := (s[k].toNat : Int)) (by omega) (by omega)]
    case measure => simp [intOf]; omega
  · go_wp2
    go_ret
    exact ⟨ret_int (by rw [List.take_of_length_le (by simp; omega)]), below_bytesWorld _ _ _⟩
end hash
namespace ords
open Go Go.RowKit base pairs
theorem meets_drop (m : List Pr) (l : List Od) (k : Nat) (h : k < l.length) : meets m (l.drop k) = (meet1 m l[k] && meets m (l.drop (k + 1))) := by
 rw [List.drop_eq_getElem_cons h]; rfl
set_option maxHeartbeats 400000 in
theorem spec_shardOf (key : ByteArray) (n : Int) (w : World) (hs : key.size ≤ maxLen) (hn : (Lit.int .i64 n).wf = true) :
 Calls Tryz.prog 109 #[.string key, .int .i64 n] w fun e w' => e = .returned (.int .i64 (shardOf key n)) ∧ w' = w := by
 have hH := hashOf_lt key.data.toList
 have HC := Hid.mk' (hash.spec_hash key w hs)
 unfold shardOf
 generalize hashOf key.data.toList = H at *
 by_cases h1 : n < 1
 · rw [if_pos h1]
   go_enter Tryz.func109, Tryz.ntmps109
   go_wp2_with fail
   go_ret
   exact ⟨rfl, rfl⟩
 · rw [if_neg h1]
   have h2 : Int.tmod (H : Int) n = (H : Int) % n := Int.tmod_eq_emod_of_nonneg (by omega)
   have h3 : 0 ≤ (H : Int) % n := Int.emod_nonneg _ (by omega)
   have h4 : (H : Int) % n ≤ 4294967296 := by
    have h5 := Int.emod_add_ediv_mul (H : Int) n
    have h6 : 0 ≤ (H : Int) / n * n := Int.mul_nonneg (Int.ediv_nonneg (by omega) (by omega)) (by omega)
    omega
   generalize (H : Int) % n = R at *
   go_enter Tryz.func109, Tryz.ntmps109
   go_wp2_with fail
   refine HC.out.mono ?_
   rintro e w1 ⟨rfl, rfl⟩
   go_wp2_with fail
   go_ret
   exact ⟨rfl, rfl⟩
set_option maxRecDepth 100000 in
set_option maxHeartbeats 2000000 in
theorem spec_meets (a : Option Addr) (len cap : Nat) (m : List Pr) (a2 : Option Addr) (len2 cap2 : Nat) (l : List Od) (w : World) (h : SlP w a len m) (h2 : SlO w a2 len2 l) :
 Calls Tryz.prog 126 #[.slice a len cap, .slice a2 len2 cap2] w fun e w' => e = .returned (.bool (meets m l)) ∧ Below w.heap.size w w' := by
 have hl := h2.1
 have hm := h2.2.1
 subst hl
 unfold maxLen at hm
 generalize hR : meets m l = R
 have HR := Hid.mk' hR
 clear hR
 go_enter Tryz.func126, Tryz.ntmps126
 go_wp2_with fail
 go_loopw [5] (fun i wr => ∃ k : Nat, k ≤ l.length ∧ i = .int .i64 (k : Int) ∧ meets m (l.drop k) = R ∧ Below w.heap.size w wr) (fun i _ => l.length - (intOf i).toNat)
 case atStart => exact ⟨0, Nat.zero_le _, rfl, HR.out, Below.refl _ _⟩
 case round =>
  obtain ⟨k, hk, rfl, hr, hB⟩ := hrel
  by_cases hlt : k < l.length
  · obtain ⟨b, off, ha, hcl⟩ := h2.2.2.2 (by omega)
    subst ha
    have hS := h2.below hB
    obtain ⟨c0, c1, c2⟩ := hS.cells k hlt
    have hP := h.below hB
    have hst := meets_drop m l k hlt
    rw [hr] at hst
    have hki : (k : Int) < (l.length : Int) := by omega
    unfold meet1 at hst
    have HG := Hid.mk' (spec_getKey a len cap m l[k].2.1 wr hP)
    generalize getKey l[k].2.1 m = G at *
    have HST := Hid.mk' hst
    clear hst hr hS hcl hP
    generalize l[k] = o at *
    obtain ⟨z, key, val⟩ := o
    simp only [] at c0 c1 c2
    by_cases hz : z = 3
    · subst hz
      cases G with
      | none =>
       simp only [getRet] at HG
       by_cases hv : val.size = 0
       · have HF : Hid (meets m (l.drop (k + 1)) = R) := by show _ = _; have := HST.out; simp [hv] at this; exact this.symm
         obtain rfl := size_empty hv
         clear HST hv
         go_wp2_with fail
         refine HG.out.mono ?_
         rintro e w1 ⟨rfl, hw1⟩
         subst hw1
         go_wp2_with fail
         go_roundw
         case rel => exact ⟨k + 1, by omega, by go_num, HF.out, by first | exact hB | exact hB.drew⟩
         case measure => simp [intOf]; omega
       · have HF : Hid (R = false) := by show _ = _; have := HST.out; simpa [hv] using this
         obtain ⟨hq, hq2⟩ := not_empty hv
         clear HST hv
         go_wp2_with fail
         refine HG.out.mono ?_
         rintro e w1 ⟨rfl, hw1⟩
         subst hw1
         go_wp2_with fail
         go_ret
         exact ⟨ret_bool HF.out.symm, by first | exact hB | exact hB.drew⟩
      | some v =>
       simp only [getRet] at HG
       by_cases hv : val.size = 0
       · have HF : Hid (R = false) := by show _ = _; have := HST.out; simpa [hv] using this
         obtain rfl := size_empty hv
         clear HST hv
         go_wp2_with fail
         refine HG.out.mono ?_
         rintro e w1 ⟨rfl, hw1⟩
         subst hw1
         go_wp2_with fail
         go_ret
         exact ⟨ret_bool HF.out.symm, by first | exact hB | exact hB.drew⟩
       · obtain ⟨hq, hq2⟩ := not_empty hv
         by_cases hvv : v = val
         · have HF : Hid (meets m (l.drop (k + 1)) = R) := by show _ = _; have := HST.out; simp [hv, hvv] at this; exact this.symm
           subst hvv
           clear HST hv
           go_wp2_with fail
           refine HG.out.mono ?_
           rintro e w1 ⟨rfl, hw1⟩
           subst hw1
           go_wp2_with fail
           go_roundw
           case rel => exact ⟨k + 1, by omega, by go_num, HF.out, by first | exact hB | exact hB.drew⟩
           case measure => simp [intOf]; omega
         · have HF : Hid (R = false) := by show _ = _; have := HST.out; simpa [hv, hvv] using this
           have hne := str_ne hvv
           clear HST hv hvv
           go_wp2_with fail
           refine HG.out.mono ?_
           rintro e w1 ⟨rfl, hw1⟩
           subst hw1
           go_wp2_with fail
           go_ret
           exact ⟨ret_bool HF.out.symm, by first | exact hB | exact hB.drew⟩
    · have HF : Hid (meets m (l.drop (k + 1)) = R) := by show _ = _; have := HST.out; simp [hz] at this; exact this.symm
      have hzz : (z == 3) = false := beq_eq_false_iff_ne.2 hz
      clear HST hz
      go_wp2_with fail
      go_roundw
      case rel => exact ⟨k + 1, by omega, by go_num, HF.out, hB⟩
      case measure => simp [intOf]; omega
  · have HF : Hid (R = true) := by show _ = _; rw [← hr, List.drop_eq_nil_of_le (by omega)]; rfl
    clear hr
    go_wp2_with fail
    go_ret
    exact ⟨ret_bool HF.out.symm, hB⟩
end ords
end Go.Proofs.YtijplooogplccaaGreat
