/- A map of rows of orders that the call itself made: small facts on worlds; no function of the program is named here. The contract of slices.Sort at []int, as the library proves it, at this program. -/
import Derived.Test.YtdeaiefhegjalaaBund12ak
import Derived.Test.YtdeaiefhegjalaaBund12ag
import Derived.Maps.OwnSet
import Derived.Maps.OwnOps
import Derived.Maps.Views
import Derived.Maps.AppendAt
import Derived.Maps.RangeWalk
import Derived.Shelf.Sort.Plain
import Derived.Shelf.Slices.In.SortNone
import Derived.Test.YtdeaiefhegjalaaProg
namespace Go.Proofs.Ytdeaiefhegjalaa.ords
open Go Go.RowKit Go.Proofs.Ytdeaiefhegjalaa.base Go.Proofs.Ytdeaiefhegjalaa.pairs
open Go.ChangeMaps Go.MapKept
open Go.WideElems (Fit rd rg pl rd_val rd_key rg_of)
open Go.Maps (Keyed)
open Go.Maps (keyOf_int_mk)
set_option linter.unusedVariables false
set_option linter.unusedSimpArgs false

theorem intLaw : Keyed Try.prog 3 := Maps.int_keyed Try.underlying3
/-- a reader that reads nothing of an element -/
def noR : Value → Option (DataW Unit × List MemPlace) := fun _ => some (.nil, [])
/-- what a map's keys are -/
def KeysD (es : Array MapEntry) (D : DataW Unit) : Prop := D = .map ((es.toList.map (rg Try.prog 3 noR)).foldr DataW.insert [])
def upd (f : Int → List Od) (s : Int) (l : List Od) (t : Int) : List Od := if t = s then l else f t
theorem upd_same (f : Int → List Od) (s : Int) (l : List Od) : upd f s l s = l := if_pos rfl
theorem upd_other {f : Int → List Od} {s t : Int} {l : List Od} (h : t ≠ s) : upd f s l t = f t := if_neg h
/-- block B is a map: at each key whose orders are some, a row of them; no two of these rows in one block -/
def Groups (w : World) (B base n : Nat) (f : Int → List Od) : Prop :=
  ∃ es clock, w.heap[B]? = some (.map es clock) ∧ Fit Try.prog 3 noR es clock ∧ es.size ≤ n ∧ B < base ∧
    (∀ x ∈ es.toList, ∃ (s : Int) (g m cp : Nat), x.key = .int .i64 s ∧ x.val = .slice (some ⟨g, 0, none⟩) m cp ∧ f s ≠ [] ∧ OwnO w base g m cp (f s)) ∧
    (∀ D, KeysD es D → ∀ s, (Lit.int .i64 s).wf = true → (Maps.has D (.int .i64 s) = true ↔ f s ≠ [])) ∧
    ∀ x ∈ es.toList, ∀ y ∈ es.toList, x.key ≠ y.key → x.val.ownBlock ≠ y.val.ownBlock
section
variable {w w' : World} {B base n : Nat} {f : Int → List Od} {row : Option Nat}
theorem groups_made (w : World) : Groups (w.alloc (.map #[] 0)) w.heap.size (w.heap.size + 1) 0 (fun _ => []) :=
  ⟨#[], 0, (MapKept.heap_alloc w _).1, ⟨by simp, stamped_empty 0, by simp⟩, Nat.le_refl _, Nat.lt_succ_self _, by simp, fun D hD s _ => by unfold KeysD at hD; subst hD; simp [Maps.has], by simp⟩
theorem Groups.lt (h : Groups w B base n f) : B < w.heap.size := by
  obtain ⟨es, clock, hb, _⟩ := h
  exact (Array.getElem?_eq_some_iff.1 hb).1
theorem Groups.size (h : Groups w B base n f) : B < base := by
  obtain ⟨es, clock, hb, _, _, h1, _⟩ := h
  exact h1
theorem Groups.grown (h : Groups w B base n f) (hg : w.grownBy w' row) (hB : some B ≠ row) (hr : ∀ j, row = some j → j < base) : Groups w' B base n f := by
  have hlt := h.lt
  obtain ⟨es, clock, hb, F, hs, hbb, hel, hhas, hap⟩ := h
  refine ⟨es, clock, (hg.block B hlt hB).trans hb, F, hs, hbb, fun x hx => ?_, hhas, hap⟩
  obtain ⟨s, g, m, cp, h1, h2, h3, h4⟩ := hel x hx
  exact ⟨s, g, m, cp, h1, h2, h3, h4.grown hg (fun e => by have := hr g e.symm; have := h4.lt; omega)⟩
theorem Groups.below (h : Groups w B base n f) (hb : Below w.heap.size w w') : Groups w' B base n f :=
  h.grown (row := none) ⟨hb.os, hb.tape, hb.output, hb.size, fun k hk _ => hb.block k hk⟩ (by simp) (fun j e => by cases e)
theorem Groups.owns (h : Groups w B base n f) : ∃ D, w.ownsMap Try.prog 3 noR B n D ∧ Maps.IsMap D ∧ ∀ s, (Lit.int .i64 s).wf = true → (Maps.has D (.int .i64 s) = true ↔ f s ≠ []) := by
  obtain ⟨es, clock, hb, F, hs, hbb, hel, hhas, hap⟩ := h
  exact ⟨_, ⟨es, clock, hb, F, hs, rfl⟩, ⟨_, rfl⟩, hhas _ rfl⟩

/-- from the look-up at a key to the store there: whatever was done to that row and to new blocks alone -/
def Back (w : World) (B base n : Nat) (f : Int → List Od) (s : Int) (v : Value) : Prop :=
  ∀ (w1 : World) (g m cp : Nat) (l' : List Od), w.grownBy w1 v.ownBlock → OwnO w1 base g m cp l' → l' ≠ [] → (some g = v.ownBlock ∨ w.heap.size ≤ g) →
    ∃ w2, (Instr.mapUpdate 59 (.map (some B)) (.int .i64 s) (.slice (some ⟨g, 0, none⟩) m cp)).run Try.prog w1 = .ok () w2 ∧
      Groups w2 B base (n + 1) (upd f s l') ∧ w1.grownBy w2 (some B)

theorem groups_back {es : Array MapEntry} {clock : Nat} {s : Int} {v : Value} (hsw : (Lit.int .i64 s).wf = true) (hb : w.heap[B]? = some (.map es clock)) (F : Fit Try.prog 3 noR es clock) (hs : es.size ≤ n) (hn : n < maxLen) (hbb : B < base)
    (hel : ∀ x ∈ es.toList, ∃ (s : Int) (g m cp : Nat), x.key = .int .i64 s ∧ x.val = .slice (some ⟨g, 0, none⟩) m cp ∧ f s ≠ [] ∧ OwnO w base g m cp (f s))
    (hhas : ∀ D, KeysD es D → ∀ s, (Lit.int .i64 s).wf = true → (Maps.has D (.int .i64 s) = true ↔ f s ≠ []))
    (hap : ∀ x ∈ es.toList, ∀ y ∈ es.toList, x.key ≠ y.key → x.val.ownBlock ≠ y.val.ownBlock)
    (hv : ∀ x ∈ es.toList, x.key ≠ .int .i64 s → x.val.ownBlock ≠ v.ownBlock) (hvb : v.ownBlock ≠ some B) : Back w B base n f s v := by
  intro w1 g m cp l' hg hO' hne' hloc
  have hblt : B < w.heap.size := (Array.getElem?_eq_some_iff.1 hb).1
  have hb1 : w1.heap[B]? = some (.map es clock) := (hg.block B hblt (fun e1 => hvb e1.symm)).trans hb
  have hkey := keyOf_int_mk (P := Try.prog) Try.underlying3 hsw
  obtain ⟨es', clock', hrun, F', hput, _, _, hwho⟩ := Maps.fit_store (R := noR) (R' := noR) (val := .slice (some ⟨g, 0, none⟩) m cp) intLaw Try.underlying59 hb1 F (Nat.lt_of_le_of_lt hs hn) (fun x hx _ z hz => hz) hkey (yv := (.nil, [])) rfl
  have hg2 : w1.grownBy (setBlock w1 B (.map es' clock')) (some B) := ⟨rfl, rfl, rfl, by simp [setBlock], fun i _ hi => heap_setBlock_other hb1 _ (fun e1 => hi (by rw [e1]))⟩
  obtain ⟨D0, hD0⟩ : ∃ D, KeysD es D := ⟨_, rfl⟩
  have hD : ∀ D', KeysD es' D' → D' = D0.put (.int .i64 s) .nil := by intro D' h'; unfold KeysD at h' hD0; rw [h', hD0, DataW.put_eq, hput]
  have hD1 : Maps.IsMap D0 := ⟨_, hD0⟩
  have hgb := hO'.lt
  refine ⟨_, hrun, ⟨es', clock', heap_setBlock_same hb1 _, F', ?_, hbb, ?_, ?_, ?_⟩, hg2⟩
  · have e1 : es'.size = ((es'.toList.map (rg Try.prog 3 noR)).foldr DataW.insert []).length := by rw [length_sorted]; simp
    rw [e1, hput]
    unfold Go.ChangeMaps.putKey
    rw [length_insert]
    have e2 := List.length_filter_le (notKey (.int .i64 s)) ((es.toList.map (rg Try.prog 3 noR)).foldr DataW.insert [])
    rw [length_sorted] at e2
    simp at e2
    omega
  · intro x hx
    rcases hwho x hx with ⟨hx0, hxk⟩ | ⟨hxk, hxv⟩
    · obtain ⟨t, gx, mx, cx, h1, h2, h3, h4⟩ := hel x hx0
      have hts : t ≠ s := fun e => hxk (by rw [h1, e])
      have hgx : some gx ≠ v.ownBlock := fun e => hv x hx0 hxk (by rw [h2]; exact e)
      have := h4.lt
      exact ⟨t, gx, mx, cx, h1, h2, by rw [upd_other hts]; exact h3, by rw [upd_other hts]; exact (h4.grown hg hgx).grown hg2 (fun e => by cases e; omega)⟩
    · exact ⟨s, g, m, cp, hxk, hxv, by rw [upd_same]; exact hne', by rw [upd_same]; exact hO'.grown hg2 (fun e => by cases e; omega)⟩
  · intro D' h' t ht
    rw [hD D' h']
    by_cases e : t = s
    · subst e
      rw [Maps.has_put_same hD1 (by trivial)]
      rw [upd_same]; simpa using hne'
    · rw [Maps.has_put_other (fun e1 => e (by cases e1; rfl)), hhas D0 hD0 t ht, upd_other e]
  · have old_new : ∀ x ∈ es.toList, x.key ≠ .int .i64 s → x.val.ownBlock ≠ some g := by
      intro x hx hxk e1
      rcases hloc with h1 | h1
      · exact hv x hx hxk (by rw [e1, h1])
      · obtain ⟨t, gx, mx, cx, _, h2, _, h4⟩ := hel x hx
        have := h4.lt
        rw [h2] at e1
        simp [Value.ownBlock] at e1
        omega
    intro x hx y hy hne
    rcases hwho x hx with ⟨hx0, hxk⟩ | ⟨hxk, hxv⟩ <;> rcases hwho y hy with ⟨hy0, hyk⟩ | ⟨hyk, hyv⟩
    · exact hap x hx0 y hy0 hne
    · rw [hyv]; exact old_new x hx0 hxk
    · rw [hxv]; exact fun e => old_new y hy0 hyk e.symm
    · exact absurd (hxk.trans hyk.symm) hne

/-- the element at a key: nil and nothing, or its row; and the way back -/
theorem Groups.look (h : Groups w B base n f) {s : Int} (hsw : (Lit.int .i64 s).wf = true) (hn : n < maxLen) :
    ∃ v, (Instr.lookup 59 (.map (some B)) (.int .i64 s) false).run Try.prog w = .ok v w ∧ w.ownsRow base 76 3 v (f s).length (ordVals (f s)) ∧ (∀ p ∈ f s, smallO p) ∧ Back w B base n f s v := by
  obtain ⟨es, clock, hb, F, hs, hbb, hel, hhas, hap⟩ := h
  have hkey := keyOf_int_mk (P := Try.prog) Try.underlying3 hsw
  rcases Maps.fit_look (R := noR) false intLaw Try.underlying59 (z := .slice none 0 0) (by kernel_rfl) hb F hkey with ⟨hrun, hno, hat⟩ | ⟨e0, y, hm0, h3, hrun, hR, hat, _⟩
  · have hf : f s = [] := by
      have := Maps.has_false_of_atKey hat
      have h1 := hhas _ rfl s hsw
      cases hfs : f s with
      | nil => rfl
      | cons a l =>
        have h2 := h1.2 (by rw [hfs]; simp)
        rw [this] at h2; cases h2
    refine ⟨.slice none 0 0, by simpa using hrun, by rw [hf]; exact World.ownsRow_nil _ _ _ _, by rw [hf]; exact fun p hp => absurd hp List.not_mem_nil, groups_back hsw hb F hs hn hbb hel hhas hap (fun x hx _ => ?_) (by simp [Value.ownBlock])⟩
    obtain ⟨t, g, m, cp, _, h2, _, _⟩ := hel x hx
    rw [h2]; simp [Value.ownBlock]
  · obtain ⟨t, g, m, cp, h1, h2, h4, h5⟩ := hel e0 hm0
    obtain rfl : t = s := by rw [h3] at h1; cases h1; rfl
    have hlt := h5.lt
    refine ⟨e0.val, by simpa using hrun, by rw [h2, h5.1]; exact h5.2.2, h5.2.1, groups_back hsw hb F hs hn hbb hel hhas hap (fun x hx hne => hap x hx e0 hm0 (by rw [h3]; exact hne)) ?_⟩
    rw [h2]; simp [Value.ownBlock]; omega
end

/-- the look-up, at its operation -/
theorem wpList_look_groups (w : World) {ops : Array Oper} {rest : List Oper} {o : Oper} {a : Act} {Q : Exit → Act → World → Prop}
    (hg : o.guard = none) (m x : Operand) (hop : o.op = Op.lookup 59 m x false) {B base n : Nat} {f : Int → List Od} {s : Int}
    (hm : a.eval m = .map (some B)) (hx : a.eval x = .int .i64 s) (h : Groups w B base n f) (hsw : (Lit.int .i64 s).wf = true) (hn : n < maxLen)
    (hK : ∀ v, w.ownsRow base 76 3 v (f s).length (ordVals (f s)) → (∀ p ∈ f s, smallO p) → Back w B base n f s v → wpList Try.prog ops Q rest (a.put o.dst v) w) :
    wpList Try.prog ops Q (o :: rest) a w := by
  refine wpList_plain hg fun K' hK' => ?_
  obtain ⟨v, hrun, h1, h2, h3⟩ := h.look hsw hn
  unfold Oper.wp
  simp [execOp, hop, hm, hx, hrun, Result.andThen]
  exact hK' _ _ (hK v h1 h2 h3)
/-- the store, at its operation -/
theorem wpList_store_back (w : World) {ops : Array Oper} {rest : List Oper} {o : Oper} {a : Act} {Q : Exit → Act → World → Prop}
    (hg : o.guard = none) (m x y : Operand) (hop : o.op = Op.mapUpdate 59 m x y) {w0 : World} {B base n g k cp : Nat} {f : Int → List Od} {s : Int} {v : Value} {l' : List Od}
    (hback : Back w0 B base n f s v) (hm : a.eval m = .map (some B)) (hx : a.eval x = .int .i64 s) (hy : a.eval y = .slice (some ⟨g, 0, none⟩) k cp)
    (hgr : w0.grownBy w v.ownBlock) (hO : OwnO w base g k cp l') (hne : l' ≠ []) (hloc : some g = v.ownBlock ∨ w0.heap.size ≤ g)
    (hK : ∀ w2, Groups w2 B base (n + 1) (upd f s l') → w.grownBy w2 (some B) → wpList Try.prog ops Q rest (a.put o.dst undef) w2) :
    wpList Try.prog ops Q (o :: rest) a w := by
  refine wpList_plain hg fun K' hK' => ?_
  obtain ⟨w2, hrun, r1, r2⟩ := hback w g k cp l' hgr hO hne hloc
  unfold Oper.wp
  simp [execOp, hop, hm, hx, hy, hrun, Result.andThen]
  exact hK' _ _ (hK w2 r1 r2)
end Go.Proofs.Ytdeaiefhegjalaa.ords

namespace Go.Proofs.Ytdeaiefhegjalaa.sorts
open Go Go.Proofs Go.Shelf
def ren189 : Go.Shelf.Ren := ⟨fun | 189 => 27 | 125 => 46 | 257 => 45 | 128 => 72 | 129 => 73 | 294 => 63 | 295 => 64 | 296 => 65 | 297 => 66 | 298 => 67 | 299 => 68 | 216 => 69 | 300 => 70 | 301 => 71 | 328 => 85 | 329 => 86 | 330 => 87 | 331 => 88 | 332 => 89 | 215 => 90 | 343 => 97 | n => n, fun | 28 => 35 | 3 => 3 | 46 => 80 | 0 => 0 | 51 => 104 | 53 => 106 | 4 => 4 | 183 => 97 | 182 => 96 | 131 => 88 | 5 => 5 | 9 => 9 | 218 => 116 | 222 => 120 | 228 => 132 | 229 => 133 | n => n, fun | n => n⟩
theorem lays189 : Go.Proofs.Lays.n189 Try.prog ren189 := {
  mixed := by kernel_rfl
  f125 := Try.func46.trans (congrArg some (by kernel_rfl))
  f128 := Try.func72.trans (congrArg some (by kernel_rfl))
  f129 := Try.func73.trans (congrArg some (by kernel_rfl))
  f189 := Try.func27.trans (congrArg some (by kernel_rfl))
  f215 := Try.func90.trans (congrArg some (by kernel_rfl))
  f216 := Try.func69.trans (congrArg some (by kernel_rfl))
  f257 := Try.func45.trans (congrArg some (by kernel_rfl))
  f294 := Try.func63.trans (congrArg some (by kernel_rfl))
  f295 := Try.func64.trans (congrArg some (by kernel_rfl))
  f296 := Try.func65.trans (congrArg some (by kernel_rfl))
  f297 := Try.func66.trans (congrArg some (by kernel_rfl))
  f298 := Try.func67.trans (congrArg some (by kernel_rfl))
  f299 := Try.func68.trans (congrArg some (by kernel_rfl))
  f300 := Try.func70.trans (congrArg some (by kernel_rfl))
  f301 := Try.func71.trans (congrArg some (by kernel_rfl))
  f328 := Try.func85.trans (congrArg some (by kernel_rfl))
  f329 := Try.func86.trans (congrArg some (by kernel_rfl))
  f330 := Try.func87.trans (congrArg some (by kernel_rfl))
  f331 := Try.func88.trans (congrArg some (by kernel_rfl))
  f332 := Try.func89.trans (congrArg some (by kernel_rfl))
  f343 := Try.func97.trans (congrArg some (by kernel_rfl))
  t0 := Try.underlying0
  a0 := Try.isAgg0
  z0 := Try.sizeOf0
  v0 := Try.zeroValue0
  t3 := Try.underlying3
  a3 := Try.isAgg3
  z3 := Try.sizeOf3
  v3 := Try.zeroValue3
  t4 := Try.underlying4
  a4 := Try.isAgg4
  z4 := Try.sizeOf4
  v4 := Try.zeroValue4
  t5 := Try.underlying5
  a5 := Try.isAgg5
  z5 := Try.sizeOf5
  v5 := Try.zeroValue5
  t9 := Try.underlying9
  a9 := Try.isAgg9
  z9 := Try.sizeOf9
  v9 := Try.zeroValue9
  t28 := Try.underlying35
  a28 := Try.isAgg35
  z28 := Try.sizeOf35
  v28 := Try.zeroValue35
  t46 := Try.underlying80
  a46 := Try.isAgg80
  z46 := Try.sizeOf80
  v46 := Try.zeroValue80
  t51 := Try.underlying104
  a51 := Try.isAgg104
  z51 := Try.sizeOf104
  v51 := Try.zeroValue104
  t53 := Try.underlying106
  a53 := Try.isAgg106
  z53 := Try.sizeOf106
  v53 := Try.zeroValue106
  t131 := Try.underlying88
  a131 := Try.isAgg88
  z131 := Try.sizeOf88
  v131 := Try.zeroValue88
  t182 := Try.underlying96
  a182 := Try.isAgg96
  z182 := Try.sizeOf96
  v182 := Try.zeroValue96
  t183 := Try.underlying97
  a183 := Try.isAgg97
  z183 := Try.sizeOf97
  v183 := Try.zeroValue97
  t218 := Try.underlying116
  a218 := Try.isAgg116
  z218 := Try.sizeOf116
  v218 := Try.zeroValue116
  t222 := Try.underlying120
  a222 := Try.isAgg120
  z222 := Try.sizeOf120
  v222 := Try.zeroValue120
  t228 := Try.underlying132
  a228 := Try.isAgg132
  z228 := Try.sizeOf132
  v228 := Try.zeroValue132
  t229 := Try.underlying133
  a229 := Try.isAgg133
  z229 := Try.sizeOf133
  v229 := Try.zeroValue133 }
open Go.Sort Go.RowKit in
theorem sort_int (blk off cap : Nat) (zs : List Int) (w : World) (hH : Holds (Value.int .i64) w blk off zs.toArray) (hblk : blk < w.heap.size) (hsz : zs.length < 4611686018427387904) :
    Calls Try.prog 27 #[.slice (some ⟨blk, off, none⟩) zs.length cap] w fun e w' =>
      e = .returned (.tuple #[]) ∧ ∃ n os, w' = grow (putRow (Value.int .i64) (Sort.ahead w n) blk off (zs.mergeSort fun x y => decide (x ≤ y)).toArray) os := Any.slices_Sort_int lays189 blk off cap zs w hH hblk hsz
open Go.RowKit Go.Sort in
theorem sort_int_none (p : Option Addr) (cap : Nat) (w : World) :
    Calls Try.prog 27 #[.slice p 0 cap] w fun e w' => e = .returned (.tuple #[]) ∧ w' = w := Any.slices_Sort_int_none lays189 p cap w
end Go.Proofs.Ytdeaiefhegjalaa.sorts
