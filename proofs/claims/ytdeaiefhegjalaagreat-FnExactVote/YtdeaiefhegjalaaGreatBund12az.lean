/- A map of rows of orders that the call itself made: small facts on worlds; no function of the program is named here. The contract of slices.Sort at []int, as the library proves it, at this program. -/
import Derived.Test.YtdeaiefhegjalaaGreatBund12ak
import Derived.Test.YtdeaiefhegjalaaGreatBund12ag
import Derived.Maps.OwnSet
import Derived.Maps.OwnOps
import Derived.Maps.Views
import Derived.Maps.AppendAt
import Derived.Maps.RangeWalk
import Derived.Shelf.Sort.Plain
import Derived.Shelf.Slices.In.SortNone
import Derived.Test.YtdeaiefhegjalaaGreatProg
namespace Go.Proofs.YtdeaiefhegjalaaGreat.ords
open Go Go.RowKit Go.Proofs.YtdeaiefhegjalaaGreat.base Go.Proofs.YtdeaiefhegjalaaGreat.pairs
open Go.ChangeMaps Go.MapKept
open Go.WideElems (Fit rd rg pl rd_val rd_key rg_of)
open Go.Maps (Keyed)
open Go.Maps (keyOf_int_mk)
set_option linter.unusedVariables false
set_option linter.unusedSimpArgs false

theorem intLaw : Keyed Tryz.prog 3 := Maps.int_keyed Tryz.underlying3
/-- a reader that reads nothing of an element -/
def noR : Value → Option (DataW Unit × List MemPlace) := fun _ => some (.nil, [])
/-- what a map's keys are -/
def KeysD (es : Array MapEntry) (D : DataW Unit) : Prop := D = .map ((es.toList.map (rg Tryz.prog 3 noR)).foldr DataW.insert [])
def upd (f : Int → List Od) (s : Int) (l : List Od) (t : Int) : List Od := if t = s then l else f t
theorem upd_same (f : Int → List Od) (s : Int) (l : List Od) : upd f s l s = l := if_pos rfl
theorem upd_other {f : Int → List Od} {s t : Int} {l : List Od} (h : t ≠ s) : upd f s l t = f t := if_neg h
/-- block B is a map: at each key whose orders are some, a row of them; no two of these rows in one block -/
def Groups (w : World) (B base n : Nat) (f : Int → List Od) : Prop :=
  ∃ es clock, w.heap[B]? = some (.map es clock) ∧ Fit Tryz.prog 3 noR es clock ∧ es.size ≤ n ∧ B < base ∧
    (∀ x ∈ es.toList, ∃ (s : Int) (g m cp : Nat), x.key = .int .i64 s ∧ x.val = .slice (some ⟨g, 0, none⟩) m cp ∧ f s ≠ [] ∧ OwnO w base g m cp (f s)) ∧
    (∀ D, KeysD es D → ∀ s, (Lit.int .i64 s).wf = true → (Maps.has D (.int .i64 s) = true ↔ f s ≠ [])) ∧
    ∀ x ∈ es.toList, ∀ y ∈ es.toList, x.key ≠ y.key → x.val.ownBlock ≠ y.val.ownBlock
section
variable {w w' : World} {B base n : Nat} {f : Int → List Od} {row : Option Nat}
theorem groups_made (w : World) : Groups (w.alloc (.map #[] 0)) w.heap.size (w.heap.size + 1) 0 (fun _ => []) :=
  ⟨#[], 0, (MapKept.heap_alloc w _).1, ⟨by simp, stamped_empty 0, by simp⟩, Nat.le_refl _, Nat.lt_succ_self _, by simp, fun D hD s _ => by unfold KeysD at hD; subst hD; simp [Maps.has], by simp⟩
theorem Groups.lt (h : Groups w B base n f) : B < w.heap.size := by
  obtain ⟨es, clock, hb, _⟩ := h
  exact (Array.getElem?_eq_some_iff.1 hb).1
theorem Groups.size (h : Groups w B base n f) : B < base := by
  obtain ⟨es, clock, hb, _, _, h1, _⟩ := h
  exact h1
theorem Groups.grown (h : Groups w B base n f) (hg : w.grownBy w' row) (hB : some B ≠ row) (hr : ∀ j, row = some j → j < base) : Groups w' B base n f := by
  have hlt := h.lt
  obtain ⟨es, clock, hb, F, hs, hbb, hel, hhas, hap⟩ := h
  refine ⟨es, clock, (hg.block B hlt hB).trans hb, F, hs, hbb, fun x hx => ?_, hhas, hap⟩
  obtain ⟨s, g, m, cp, h1, h2, h3, h4⟩ := hel x hx
  exact ⟨s, g, m, cp, h1, h2, h3, h4.grown hg (fun e => by have := hr g e.symm; have := h4.lt; omega)⟩
theorem Groups.below (h : Groups w B base n f) (hb : Below w.heap.size w w') : Groups w' B base n f :=
  h.grown (row := none) ⟨hb.os, hb.tape, hb.output, hb.size, fun k hk _ => hb.block k hk⟩ (by simp) (fun j e => by cases e)
theorem Groups.owns (h : Groups w B base n f) : ∃ D, w.ownsMap Tryz.prog 3 noR B n D ∧ Maps.IsMap D ∧ ∀ s, (Lit.int .i64 s).wf = true → (Maps.has D (.int .i64 s) = true ↔ f s ≠ []) := by
  obtain ⟨es, clock, hb, F, hs, hbb, hel, hhas, hap⟩ := h
  exact ⟨_, ⟨es, clock, hb, F, hs, rfl⟩, ⟨_, rfl⟩, hhas _ rfl⟩

/-- from the look-up at a key to the store there: whatever was done to that row and to new blocks alone -/
def Back (w : World) (B base n : Nat) (f : Int → List Od) (s : Int) (v : Value) : Prop :=
  ∀ (w1 : World) (g m cp : Nat) (l' : List Od), w.grownBy w1 v.ownBlock → OwnO w1 base g m cp l' → l' ≠ [] → (some g = v.ownBlock ∨ w.heap.size ≤ g) →
    ∃ w2, (Instr.mapUpdate 155 (.map (some B)) (.int .i64 s) (.slice (some ⟨g, 0, none⟩) m cp)).run Tryz.prog w1 = .ok () w2 ∧
      Groups w2 B base (n + 1) (upd f s l') ∧ w1.grownBy w2 (some B)

theorem groups_back {es : Array MapEntry} {clock : Nat} {s : Int} {v : Value} (hsw : (Lit.int .i64 s).wf = true) (hb : w.heap[B]? = some (.map es clock)) (F : Fit Tryz.prog 3 noR es clock) (hs : es.size ≤ n) (hn : n < maxLen) (hbb : B < base)
    (hel : ∀ x ∈ es.toList, ∃ (s : Int) (g m cp : Nat), x.key = .int .i64 s ∧ x.val = .slice (some ⟨g, 0, none⟩) m cp ∧ f s ≠ [] ∧ OwnO w base g m cp (f s))
    (hhas : ∀ D, KeysD es D → ∀ s, (Lit.int .i64 s).wf = true → (Maps.has D (.int .i64 s) = true ↔ f s ≠ []))
    (hap : ∀ x ∈ es.toList, ∀ y ∈ es.toList, x.key ≠ y.key → x.val.ownBlock ≠ y.val.ownBlock)
    (hv : ∀ x ∈ es.toList, x.key ≠ .int .i64 s → x.val.ownBlock ≠ v.ownBlock) (hvb : v.ownBlock ≠ some B) : Back w B base n f s v := by
  intro w1 g m cp l' hg hO' hne' hloc
  have hblt : B < w.heap.size := (Array.getElem?_eq_some_iff.1 hb).1
  have hb1 : w1.heap[B]? = some (.map es clock) := (hg.block B hblt (fun e1 => hvb e1.symm)).trans hb
  have hkey := keyOf_int_mk (P := Tryz.prog) Tryz.underlying3 hsw
  obtain ⟨es', clock', hrun, F', hput, _, _, hwho⟩ := Maps.fit_store (R := noR) (R' := noR) (val := .slice (some ⟨g, 0, none⟩) m cp) intLaw Tryz.underlying155 hb1 F (Nat.lt_of_le_of_lt hs hn) (fun x hx _ z hz => hz) hkey (yv := (.nil, [])) rfl
  have hg2 : w1.grownBy (setBlock w1 B (.map es' clock')) (some B) := ⟨rfl, rfl, rfl, by simp [setBlock], fun i _ hi => heap_setBlock_other hb1 _ (fun e1 => hi (by rw [e1]))⟩
  obtain ⟨D0, hD0⟩ : ∃ D, KeysD es D := ⟨_, rfl⟩
  have hD : ∀ D', KeysD es' D' → D' = D0.put (.int .i64 s) .nil := by intro D' h'; unfold KeysD at h' hD0; rw [h', hD0, DataW.put_eq, hput]
  have hD1 : Maps.IsMap D0 := ⟨_, hD0⟩
  have hgb := hO'.lt
  refine ⟨_, hrun, ⟨es', clock', heap_setBlock_same hb1 _, F', ?_, hbb, ?_, ?_, ?_⟩, hg2⟩
  · have e1 : es'.size = ((es'.toList.map (rg Tryz.prog 3 noR)).foldr DataW.insert []).length := by rw [length_sorted]; simp
    rw [e1, hput]
    unfold Go.ChangeMaps.putKey
    rw [length_insert]
    have e2 := List.length_filter_le (notKey (.int .i64 s)) ((es.toList.map (rg Tryz.prog 3 noR)).foldr DataW.insert [])
    rw [length_sorted] at e2
    simp at e2
    omega
  · intro x hx
    rcases hwho x hx with ⟨hx0, hxk⟩ | ⟨hxk, hxv⟩
    · obtain ⟨t, gx, mx, cx, h1, h2, h3, h4⟩ := hel x hx0
      have hts : t ≠ s := fun e => hxk (by rw [h1, e])
      have hgx : some gx ≠ v.ownBlock := fun e => hv x hx0 hxk (by rw [h2]; exact e)
      have := h4.lt
      exact ⟨t, gx, mx, cx, h1, h2, by rw [upd_other hts]; exact h3, by rw [upd_other hts]; exact (h4.grown hg hgx).grown hg2 (fun e => by cases e; omega)⟩
    · exact ⟨s, g, m, cp, hxk, hxv, by rw [upd_same]; exact hne', by rw [upd_same]; exact hO'.grown hg2 (fun e => by cases e; omega)⟩
  · intro D' h' t ht
    rw [hD D' h']
    by_cases e : t = s
    · subst e
      rw [Maps.has_put_same hD1 (by trivial)]
      rw [upd_same]; simpa using hne'
    · rw [Maps.has_put_other (fun e1 => e (by cases e1; rfl)), hhas D0 hD0 t ht, upd_other e]
  · have old_new : ∀ x ∈ es.toList, x.key ≠ .int .i64 s → x.val.ownBlock ≠ some g := by
      intro x hx hxk e1
      rcases hloc with h1 | h1
      · exact hv x hx hxk (by rw [e1, h1])
      · obtain ⟨t, gx, mx, cx, _, h2, _, h4⟩ := hel x hx
        have := h4.lt
        rw [h2] at e1
        simp [Value.ownBlock] at e1
        omega
    intro x hx y hy hne
    rcases hwho x hx with ⟨hx0, hxk⟩ | ⟨hxk, hxv⟩ <;> rcases hwho y hy with ⟨hy0, hyk⟩ | ⟨hyk, hyv⟩
    · exact hap x hx0 y hy0 hne
    · rw [hyv]; exact old_new x hx0 hxk
    · rw [hxv]; exact fun e => old_new y hy0 hyk e.symm
    · exact absurd (hxk.trans hyk.symm) hne

/-- the element at a key: nil and nothing, or its row; and the way back -/
theorem Groups.look (h : Groups w B base n f) {s : Int} (hsw : (Lit.int .i64 s).wf = true) (hn : n < maxLen) :
    ∃ v, (Instr.lookup 155 (.map (some B)) (.int .i64 s) false).run Tryz.prog w = .ok v w ∧ w.ownsRow base 101 3 v (f s).length (ordVals (f s)) ∧ (∀ p ∈ f s, smallO p) ∧ Back w B base n f s v := by
  obtain ⟨es, clock, hb, F, hs, hbb, hel, hhas, hap⟩ := h
  have hkey := keyOf_int_mk (P := Tryz.prog) Tryz.underlying3 hsw
  rcases Maps.fit_look (R := noR) false intLaw Tryz.underlying155 (z := .slice none 0 0) (by kernel_rfl) hb F hkey with ⟨hrun, hno, hat⟩ | ⟨e0, y, hm0, h3, hrun, hR, hat, _⟩
  · have hf : f s = [] := by
      have := Maps.has_false_of_atKey hat
      have h1 := hhas _ rfl s hsw
      cases hfs : f s with
      | nil => rfl
      | cons a l =>
        have h2 := h1.2 (by rw [hfs]; simp)
        rw [this] at h2; cases h2
    refine ⟨.slice none 0 0, by simpa using hrun, by rw [hf]; exact World.ownsRow_nil _ _ _ _, by rw [hf]; exact fun p hp => absurd hp List.not_mem_nil, groups_back hsw hb F hs hn hbb hel hhas hap (fun x hx _ => ?_) (by simp [Value.ownBlock])⟩
    obtain ⟨t, g, m, cp, _, h2, _, _⟩ := hel x hx
    rw [h2]; simp [Value.ownBlock]
  · obtain ⟨t, g, m, cp, h1, h2, h4, h5⟩ := hel e0 hm0
    obtain rfl : t = s := by rw [h3] at h1; cases h1; rfl
    have hlt := h5.lt
    refine ⟨e0.val, by simpa using hrun, by rw [h2, h5.1]; exact h5.2.2, h5.2.1, groups_back hsw hb F hs hn hbb hel hhas hap (fun x hx hne => hap x hx e0 hm0 (by rw [h3]; exact hne)) ?_⟩
    rw [h2]; simp [Value.ownBlock]; omega
end

/-- the look-up, at its operation -/
theorem wpList_look_groups (w : World) {ops : Array Oper} {rest : List Oper} {o : Oper} {a : Act} {Q : Exit → Act → World → Prop}
    (hg : o.guard = none) (m x : Operand) (hop : o.op = Op.lookup 155 m x false) {B base n : Nat} {f : Int → List Od} {s : Int}
    (hm : a.eval m = .map (some B)) (hx : a.eval x = .int .i64 s) (h : Groups w B base n f) (hsw : (Lit.int .i64 s).wf = true) (hn : n < maxLen)
    (hK : ∀ v, w.ownsRow base 101 3 v (f s).length (ordVals (f s)) → (∀ p ∈ f s, smallO p) → Back w B base n f s v → wpList Tryz.prog ops Q rest (a.put o.dst v) w) :
    wpList Tryz.prog ops Q (o :: rest) a w := by
  refine wpList_plain hg fun K' hK' => ?_
  obtain ⟨v, hrun, h1, h2, h3⟩ := h.look hsw hn
  unfold Oper.wp
  simp [execOp, hop, hm, hx, hrun, Result.andThen]
  exact hK' _ _ (hK v h1 h2 h3)
/-- the store, at its operation -/
theorem wpList_store_back (w : World) {ops : Array Oper} {rest : List Oper} {o : Oper} {a : Act} {Q : Exit → Act → World → Prop}
    (hg : o.guard = none) (m x y : Operand) (hop : o.op = Op.mapUpdate 155 m x y) {w0 : World} {B base n g k cp : Nat} {f : Int → List Od} {s : Int} {v : Value} {l' : List Od}
    (hback : Back w0 B base n f s v) (hm : a.eval m = .map (some B)) (hx : a.eval x = .int .i64 s) (hy : a.eval y = .slice (some ⟨g, 0, none⟩) k cp)
    (hgr : w0.grownBy w v.ownBlock) (hO : OwnO w base g k cp l') (hne : l' ≠ []) (hloc : some g = v.ownBlock ∨ w0.heap.size ≤ g)
    (hK : ∀ w2, Groups w2 B base (n + 1) (upd f s l') → w.grownBy w2 (some B) → wpList Tryz.prog ops Q rest (a.put o.dst undef) w2) :
    wpList Tryz.prog ops Q (o :: rest) a w := by
  refine wpList_plain hg fun K' hK' => ?_
  obtain ⟨w2, hrun, r1, r2⟩ := hback w g k cp l' hgr hO hne hloc
  unfold Oper.wp
  simp [execOp, hop, hm, hx, hy, hrun, Result.andThen]
  exact hK' _ _ (hK w2 r1 r2)
end Go.Proofs.YtdeaiefhegjalaaGreat.ords

namespace Go.Proofs.YtdeaiefhegjalaaGreat.sorts
open Go Go.Proofs Go.Shelf
def ren189 : Go.Shelf.Ren := ⟨fun | 189 => 129 | 125 => 159 | 257 => 158 | 128 => 182 | 129 => 183 | 294 => 174 | 295 => 175 | 296 => 176 | 297 => 177 | 298 => 178 | 299 => 179 | 216 => 160 | 300 => 180 | 301 => 181 | 328 => 190 | 329 => 191 | 330 => 192 | 331 => 193 | 332 => 194 | 215 => 184 | 343 => 197 | n => n, fun | 28 => 92 | 3 => 3 | 46 => 168 | 0 => 0 | 51 => 205 | 53 => 207 | 4 => 4 | 183 => 199 | 182 => 198 | 131 => 158 | 5 => 5 | 9 => 9 | 218 => 212 | 222 => 216 | 228 => 219 | 229 => 220 | n => n, fun | n => n⟩
theorem lays189 : Go.Proofs.Lays.n189 Tryz.prog ren189 := {
  mixed := by kernel_rfl
  f125 := Tryz.func159.trans (congrArg some (by kernel_rfl))
  f128 := Tryz.func182.trans (congrArg some (by kernel_rfl))
  f129 := Tryz.func183.trans (congrArg some (by kernel_rfl))
  f189 := Tryz.func129.trans (congrArg some (by kernel_rfl))
  f215 := Tryz.func184.trans (congrArg some (by kernel_rfl))
  f216 := Tryz.func160.trans (congrArg some (by kernel_rfl))
  f257 := Tryz.func158.trans (congrArg some (by kernel_rfl))
  f294 := Tryz.func174.trans (congrArg some (by kernel_rfl))
  f295 := Tryz.func175.trans (congrArg some (by kernel_rfl))
  f296 := Tryz.func176.trans (congrArg some (by kernel_rfl))
  f297 := Tryz.func177.trans (congrArg some (by kernel_rfl))
  f298 := Tryz.func178.trans (congrArg some (by kernel_rfl))
  f299 := Tryz.func179.trans (congrArg some (by kernel_rfl))
  f300 := Tryz.func180.trans (congrArg some (by kernel_rfl))
  f301 := Tryz.func181.trans (congrArg some (by kernel_rfl))
  f328 := Tryz.func190.trans (congrArg some (by kernel_rfl))
  f329 := Tryz.func191.trans (congrArg some (by kernel_rfl))
  f330 := Tryz.func192.trans (congrArg some (by kernel_rfl))
  f331 := Tryz.func193.trans (congrArg some (by kernel_rfl))
  f332 := Tryz.func194.trans (congrArg some (by kernel_rfl))
  f343 := Tryz.func197.trans (congrArg some (by kernel_rfl))
  t0 := Tryz.underlying0
  a0 := Tryz.isAgg0
  z0 := Tryz.sizeOf0
  v0 := Tryz.zeroValue0
  t3 := Tryz.underlying3
  a3 := Tryz.isAgg3
  z3 := Tryz.sizeOf3
  v3 := Tryz.zeroValue3
  t4 := Tryz.underlying4
  a4 := Tryz.isAgg4
  z4 := Tryz.sizeOf4
  v4 := Tryz.zeroValue4
  t5 := Tryz.underlying5
  a5 := Tryz.isAgg5
  z5 := Tryz.sizeOf5
  v5 := Tryz.zeroValue5
  t9 := Tryz.underlying9
  a9 := Tryz.isAgg9
  z9 := Tryz.sizeOf9
  v9 := Tryz.zeroValue9
  t28 := Tryz.underlying92
  a28 := Tryz.isAgg92
  z28 := Tryz.sizeOf92
  v28 := Tryz.zeroValue92
  t46 := Tryz.underlying168
  a46 := Tryz.isAgg168
  z46 := Tryz.sizeOf168
  v46 := Tryz.zeroValue168
  t51 := Tryz.underlying205
  a51 := Tryz.isAgg205
  z51 := Tryz.sizeOf205
  v51 := Tryz.zeroValue205
  t53 := Tryz.underlying207
  a53 := Tryz.isAgg207
  z53 := Tryz.sizeOf207
  v53 := Tryz.zeroValue207
  t131 := Tryz.underlying158
  a131 := Tryz.isAgg158
  z131 := Tryz.sizeOf158
  v131 := Tryz.zeroValue158
  t182 := Tryz.underlying198
  a182 := Tryz.isAgg198
  z182 := Tryz.sizeOf198
  v182 := Tryz.zeroValue198
  t183 := Tryz.underlying199
  a183 := Tryz.isAgg199
  z183 := Tryz.sizeOf199
  v183 := Tryz.zeroValue199
  t218 := Tryz.underlying212
  a218 := Tryz.isAgg212
  z218 := Tryz.sizeOf212
  v218 := Tryz.zeroValue212
  t222 := Tryz.underlying216
  a222 := Tryz.isAgg216
  z222 := Tryz.sizeOf216
  v222 := Tryz.zeroValue216
  t228 := Tryz.underlying219
  a228 := Tryz.isAgg219
  z228 := Tryz.sizeOf219
  v228 := Tryz.zeroValue219
  t229 := Tryz.underlying220
  a229 := Tryz.isAgg220
  z229 := Tryz.sizeOf220
  v229 := Tryz.zeroValue220 }
open Go.Sort Go.RowKit in
theorem sort_int (blk off cap : Nat) (zs : List Int) (w : World) (hH : Holds (Value.int .i64) w blk off zs.toArray) (hblk : blk < w.heap.size) (hsz : zs.length < 4611686018427387904) :
    Calls Tryz.prog 129 #[.slice (some ⟨blk, off, none⟩) zs.length cap] w fun e w' =>
      e = .returned (.tuple #[]) ∧ ∃ n os, w' = grow (putRow (Value.int .i64) (Sort.ahead w n) blk off (zs.mergeSort fun x y => decide (x ≤ y)).toArray) os := Any.slices_Sort_int lays189 blk off cap zs w hH hblk hsz
open Go.RowKit Go.Sort in
theorem sort_int_none (p : Option Addr) (cap : Nat) (w : World) :
    Calls Tryz.prog 129 #[.slice p 0 cap] w fun e w' => e = .returned (.tuple #[]) ∧ w' = w := Any.slices_Sort_int_none lays189 p cap w
end Go.Proofs.YtdeaiefhegjalaaGreat.sorts
