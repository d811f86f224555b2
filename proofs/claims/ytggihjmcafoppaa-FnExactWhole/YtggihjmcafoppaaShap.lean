/- A map of rows of orders that the call itself made: small facts on worlds; no function of the program is named here. The contract of slices.Sort at []int, as the library proves it, at this program. The program's orders by shards: a map of rows, one shard's row, and the shards in order. The program's OpsFor and ShardsOf, also of orders that are nil. The specification's shard: how it is with a transaction, and how many keys there are. The program's shard: what is alike, and whether it is right. -/
import Derived.Test.YtggihjmcafoppaaShac
import Derived.Test.YtggihjmcafoppaaShab
import Derived.Maps.OwnSet
import Derived.Maps.OwnOps
import Derived.Maps.Views
import Derived.Maps.AppendAt
import Derived.Maps.RangeWalk
import Derived.Shelf.Sort.Plain
import Derived.Shelf.Slices.In.SortNone
import Derived.Test.YtggihjmcafoppaaProg
import Derived.Test.YtggihjmcafoppaaShag
import Derived.Sort.OwnSortedInts
import Derived.Test.YtggihjmcafoppaaShai
namespace Go.Proofs.Ytggihjmcafoppaa.ords
open Go Go.RowKit Go.Proofs.Ytggihjmcafoppaa.base Go.Proofs.Ytggihjmcafoppaa.pairs
open Go.ChangeMaps Go.MapKept
open Go.WideElems (Fit rd rg pl rd_val rd_key rg_of)
open Go.Maps (Keyed)
open Go.Maps (keyOf_int_mk)
set_option linter.unusedVariables false
set_option linter.unusedSimpArgs false

theorem intLaw : Keyed Try.prog 3 := Maps.int_keyed Try.underlying3
def noR : Value → Option (DataW Unit × List MemPlace) := fun _ => some (.nil, [])
def KeysD (es : Array MapEntry) (D : DataW Unit) : Prop := D = .map ((es.toList.map (rg Try.prog 3 noR)).foldr DataW.insert [])
def upd (f : Int → List Od) (s : Int) (l : List Od) (t : Int) : List Od := if t = s then l else f t
theorem upd_same (f : Int → List Od) (s : Int) (l : List Od) : upd f s l s = l := if_pos rfl
theorem upd_other {f : Int → List Od} {s t : Int} {l : List Od} (h : t ≠ s) : upd f s l t = f t := if_neg h
def Groups (w : World) (B base n : Nat) (f : Int → List Od) : Prop :=
  ∃ es clock, w.heap[B]? = some (.map es clock) ∧ Fit Try.prog 3 noR es clock ∧ es.size ≤ n ∧ B < base ∧
    (∀ x ∈ es.toList, ∃ (s : Int) (g m cp : Nat), x.key = .int .i64 s ∧ x.val = .slice (some ⟨g, 0, none⟩) m cp ∧ f s ≠ [] ∧ OwnO w base g m cp (f s)) ∧
    (∀ D, KeysD es D → ∀ s, (Lit.int .i64 s).wf = true → (Maps.has D (.int .i64 s) = true ↔ f s ≠ [])) ∧
    ∀ x ∈ es.toList, ∀ y ∈ es.toList, x.key ≠ y.key → x.val.ownBlock ≠ y.val.ownBlock
section
variable {w w' : World} {B base n : Nat} {f : Int → List Od} {row : Option Nat}
theorem groups_made (w : World) : Groups (w.alloc (.map #[] 0)) w.heap.size (w.heap.size + 1) 0 (fun _ => []) :=
  ⟨#[], 0, (MapKept.heap_alloc w _).1, ⟨by simp, stamped_empty 0, by simp⟩, Nat.le_refl _, Nat.lt_succ_self _, by simp, fun D hD s _ => by unfold KeysD at hD; subst hD; simp [Maps.has], by simp⟩
theorem Groups.lt (h : Groups w B base n f) : B < w.heap.size := by
  obtain ⟨es, clock, hb, _⟩ := h
  exact (Array.getElem?_eq_some_iff.1 hb).1
theorem Groups.size (h : Groups w B base n f) : B < base := by
  obtain ⟨es, clock, hb, _, _, h1, _⟩ := h
  exact h1
theorem Groups.grown (h : Groups w B base n f) (hg : w.grownBy w' row) (hB : some B ≠ row) (hr : ∀ j, row = some j → j < base) : Groups w' B base n f := by
  have hlt := h.lt
  obtain ⟨es, clock, hb, F, hs, hbb, hel, hhas, hap⟩ := h
  refine ⟨es, clock, (hg.block B hlt hB).trans hb, F, hs, hbb, fun x hx => ?_, hhas, hap⟩
  obtain ⟨s, g, m, cp, h1, h2, h3, h4⟩ := hel x hx
  exact ⟨s, g, m, cp, h1, h2, h3, h4.grown hg (fun e => by have := hr g e.symm; have := h4.lt; omega)⟩
theorem Groups.below (h : Groups w B base n f) (hb : Below w.heap.size w w') : Groups w' B base n f :=
  h.grown (row := none) ⟨hb.os, hb.tape, hb.output, hb.size, fun k hk _ => hb.block k hk⟩ (by simp) (fun j e => by cases e)
def Back (w : World) (B base n : Nat) (f : Int → List Od) (s : Int) (v : Value) : Prop :=
  ∀ (w1 : World) (g m cp : Nat) (l' : List Od), w.grownBy w1 v.ownBlock → OwnO w1 base g m cp l' → l' ≠ [] → (some g = v.ownBlock ∨ w.heap.size ≤ g) →
    ∃ w2, (Instr.mapUpdate 151 (.map (some B)) (.int .i64 s) (.slice (some ⟨g, 0, none⟩) m cp)).run Try.prog w1 = .ok () w2 ∧
      Groups w2 B base (n + 1) (upd f s l') ∧ w1.grownBy w2 (some B)

theorem groups_back {es : Array MapEntry} {clock : Nat} {s : Int} {v : Value} (hsw : (Lit.int .i64 s).wf = true) (hb : w.heap[B]? = some (.map es clock)) (F : Fit Try.prog 3 noR es clock) (hs : es.size ≤ n) (hn : n < maxLen) (hbb : B < base)
    (hel : ∀ x ∈ es.toList, ∃ (s : Int) (g m cp : Nat), x.key = .int .i64 s ∧ x.val = .slice (some ⟨g, 0, none⟩) m cp ∧ f s ≠ [] ∧ OwnO w base g m cp (f s))
    (hhas : ∀ D, KeysD es D → ∀ s, (Lit.int .i64 s).wf = true → (Maps.has D (.int .i64 s) = true ↔ f s ≠ []))
    (hap : ∀ x ∈ es.toList, ∀ y ∈ es.toList, x.key ≠ y.key → x.val.ownBlock ≠ y.val.ownBlock)
    (hv : ∀ x ∈ es.toList, x.key ≠ .int .i64 s → x.val.ownBlock ≠ v.ownBlock) (hvb : v.ownBlock ≠ some B) : Back w B base n f s v := by
  intro w1 g m cp l' hg hO' hne' hloc
  have hblt : B < w.heap.size := (Array.getElem?_eq_some_iff.1 hb).1
  have hb1 : w1.heap[B]? = some (.map es clock) := (hg.block B hblt (fun e1 => hvb e1.symm)).trans hb
  have hkey := keyOf_int_mk (P := Try.prog) Try.underlying3 hsw
  obtain ⟨es', clock', hrun, F', hput, _, _, hwho⟩ := Maps.fit_store (R := noR) (R' := noR) (val := .slice (some ⟨g, 0, none⟩) m cp) intLaw Try.underlying151 hb1 F (Nat.lt_of_le_of_lt hs hn) (fun x hx _ z hz => hz) hkey (yv := (.nil, [])) rfl
  have hg2 : w1.grownBy (setBlock w1 B (.map es' clock')) (some B) := ⟨rfl, rfl, rfl, by simp [setBlock], fun i _ hi => heap_setBlock_other hb1 _ (fun e1 => hi (by rw [e1]))⟩
  obtain ⟨D0, hD0⟩ : ∃ D, KeysD es D := ⟨_, rfl⟩
  have hD : ∀ D', KeysD es' D' → D' = D0.put (.int .i64 s) .nil := by intro D' h'; unfold KeysD at h' hD0; rw [h', hD0, DataW.put_eq, hput]
  have hD1 : Maps.IsMap D0 := ⟨_, hD0⟩
  have hgb := hO'.lt
  refine ⟨_, hrun, ⟨es', clock', heap_setBlock_same hb1 _, F', ?_, hbb, ?_, ?_, ?_⟩, hg2⟩
  · have e1 : es'.size = ((es'.toList.map (rg Try.prog 3 noR)).foldr DataW.insert []).length := by rw [length_sorted]; simp
    rw [e1, hput]
    unfold Go.ChangeMaps.putKey
    rw [length_insert]
    have e2 := List.length_filter_le (notKey (.int .i64 s)) ((es.toList.map (rg Try.prog 3 noR)).foldr DataW.insert [])
    rw [length_sorted] at e2
    simp at e2
    omega
  · intro x hx
    rcases hwho x hx with ⟨hx0, hxk⟩ | ⟨hxk, hxv⟩
    · obtain ⟨t, gx, mx, cx, h1, h2, h3, h4⟩ := hel x hx0
      have hts : t ≠ s := fun e => hxk (by rw [h1, e])
      have hgx : some gx ≠ v.ownBlock := fun e => hv x hx0 hxk (by rw [h2]; exact e)
      have := h4.lt
      exact ⟨t, gx, mx, cx, h1, h2, by rw [upd_other hts]; exact h3, by rw [upd_other hts]; exact (h4.grown hg hgx).grown hg2 (fun e => by cases e; omega)⟩
    · exact ⟨s, g, m, cp, hxk, hxv, by rw [upd_same]; exact hne', by rw [upd_same]; exact hO'.grown hg2 (fun e => by cases e; omega)⟩
  · intro D' h' t ht
    rw [hD D' h']
    by_cases e : t = s
    · subst e
      rw [Maps.has_put_same hD1 (by trivial)]
      rw [upd_same]; simpa using hne'
    · rw [Maps.has_put_other (fun e1 => e (by cases e1; rfl)), hhas D0 hD0 t ht, upd_other e]
  · have old_new : ∀ x ∈ es.toList, x.key ≠ .int .i64 s → x.val.ownBlock ≠ some g := by
      intro x hx hxk e1
      rcases hloc with h1 | h1
      · exact hv x hx hxk (by rw [e1, h1])
      · obtain ⟨t, gx, mx, cx, _, h2, _, h4⟩ := hel x hx
        have := h4.lt
        rw [h2] at e1
        simp [Value.ownBlock] at e1
        omega
    intro x hx y hy hne
    rcases hwho x hx with ⟨hx0, hxk⟩ | ⟨hxk, hxv⟩ <;> rcases hwho y hy with ⟨hy0, hyk⟩ | ⟨hyk, hyv⟩
    · exact hap x hx0 y hy0 hne
    · rw [hyv]; exact old_new x hx0 hxk
    · rw [hxv]; exact fun e => old_new y hy0 hyk e.symm
    · exact absurd (hxk.trans hyk.symm) hne

theorem Groups.look (h : Groups w B base n f) {s : Int} (hsw : (Lit.int .i64 s).wf = true) (hn : n < maxLen) :
    ∃ v, (Instr.lookup 151 (.map (some B)) (.int .i64 s) false).run Try.prog w = .ok v w ∧ w.ownsRow base 121 3 v (f s).length (ordVals (f s)) ∧ (∀ p ∈ f s, smallO p) ∧ Back w B base n f s v := by
  obtain ⟨es, clock, hb, F, hs, hbb, hel, hhas, hap⟩ := h
  have hkey := keyOf_int_mk (P := Try.prog) Try.underlying3 hsw
  rcases Maps.fit_look (R := noR) false intLaw Try.underlying151 (z := .slice none 0 0) (by kernel_rfl) hb F hkey with ⟨hrun, hno, hat⟩ | ⟨e0, y, hm0, h3, hrun, hR, hat, _⟩
  · have hf : f s = [] := by
      have := Maps.has_false_of_atKey hat
      have h1 := hhas _ rfl s hsw
      cases hfs : f s with
      | nil => rfl
      | cons a l =>
        have h2 := h1.2 (by rw [hfs]; simp)
        rw [this] at h2; cases h2
    refine ⟨.slice none 0 0, by simpa using hrun, by rw [hf]; exact World.ownsRow_nil _ _ _ _, by rw [hf]; exact fun p hp => absurd hp List.not_mem_nil, groups_back hsw hb F hs hn hbb hel hhas hap (fun x hx _ => ?_) (by simp [Value.ownBlock])⟩
    obtain ⟨t, g, m, cp, _, h2, _, _⟩ := hel x hx
    rw [h2]; simp [Value.ownBlock]
  · obtain ⟨t, g, m, cp, h1, h2, h4, h5⟩ := hel e0 hm0
    obtain rfl : t = s := by rw [h3] at h1; cases h1; rfl
    have hlt := h5.lt
    refine ⟨e0.val, by simpa using hrun, by rw [h2, h5.1]; exact h5.2.2, h5.2.1, groups_back hsw hb F hs hn hbb hel hhas hap (fun x hx hne => hap x hx e0 hm0 (by rw [h3]; exact hne)) ?_⟩
    rw [h2]; simp [Value.ownBlock]; omega
end

theorem wpList_look_groups (w : World) {ops : Array Oper} {rest : List Oper} {o : Oper} {a : Act} {Q : Exit → Act → World → Prop}
    (hg : o.guard = none) (m x : Operand) (hop : o.op = Op.lookup 151 m x false) {B base n : Nat} {f : Int → List Od} {s : Int}
    (hm : a.eval m = .map (some B)) (hx : a.eval x = .int .i64 s) (h : Groups w B base n f) (hsw : (Lit.int .i64 s).wf = true) (hn : n < maxLen)
    (hK : ∀ v, w.ownsRow base 121 3 v (f s).length (ordVals (f s)) → (∀ p ∈ f s, smallO p) → Back w B base n f s v → wpList Try.prog ops Q rest (a.put o.dst v) w) :
    wpList Try.prog ops Q (o :: rest) a w := by
  refine wpList_plain hg fun K' hK' => ?_
  obtain ⟨v, hrun, h1, h2, h3⟩ := h.look hsw hn
  unfold Oper.wp
  simp [execOp, hop, hm, hx, hrun, Result.andThen]
  exact hK' _ _ (hK v h1 h2 h3)
theorem wpList_store_back (w : World) {ops : Array Oper} {rest : List Oper} {o : Oper} {a : Act} {Q : Exit → Act → World → Prop}
    (hg : o.guard = none) (m x y : Operand) (hop : o.op = Op.mapUpdate 151 m x y) {w0 : World} {B base n g k cp : Nat} {f : Int → List Od} {s : Int} {v : Value} {l' : List Od}
    (hback : Back w0 B base n f s v) (hm : a.eval m = .map (some B)) (hx : a.eval x = .int .i64 s) (hy : a.eval y = .slice (some ⟨g, 0, none⟩) k cp)
    (hgr : w0.grownBy w v.ownBlock) (hO : OwnO w base g k cp l') (hne : l' ≠ []) (hloc : some g = v.ownBlock ∨ w0.heap.size ≤ g)
    (hK : ∀ w2, Groups w2 B base (n + 1) (upd f s l') → w.grownBy w2 (some B) → wpList Try.prog ops Q rest (a.put o.dst undef) w2) :
    wpList Try.prog ops Q (o :: rest) a w := by
  refine wpList_plain hg fun K' hK' => ?_
  obtain ⟨w2, hrun, r1, r2⟩ := hback w g k cp l' hgr hO hne hloc
  unfold Oper.wp
  simp [execOp, hop, hm, hx, hy, hrun, Result.andThen]
  exact hK' _ _ (hK w2 r1 r2)
end Go.Proofs.Ytggihjmcafoppaa.ords

namespace Go.Proofs.Ytggihjmcafoppaa.sorts
open Go Go.Proofs Go.Shelf
end Go.Proofs.Ytggihjmcafoppaa.sorts

namespace Go.Proofs.Ytggihjmcafoppaa.ords
open Go Go.RowKit Go.Proofs.Ytggihjmcafoppaa.base Go.Proofs.Ytggihjmcafoppaa.pairs
open Go.Maps (Keyed keyOf_int_mk)
open Go.Sort (Holds)
set_option linter.unusedVariables false
set_option linter.unusedSimpArgs false

theorem box_cellO (w w' : World) (z : Int) (x y : ByteArray) (hB : Below (w.alloc (.cells #[.int .i64 z, .string x, .string y] 121)).heap.size (w.alloc (.cells #[.int .i64 z, .string x, .string y] 121)) w') :
    w'.cell? ⟨w.heap.size, 0, none⟩ = some (.int .i64 z) ∧ w'.cell? ⟨w.heap.size, 1, none⟩ = some (.string x) ∧ w'.cell? ⟨w.heap.size, 2, none⟩ = some (.string y) := by
  have hlt : w.heap.size < (w.alloc (.cells #[.int .i64 z, .string x, .string y] 121)).heap.size := by simp
  refine ⟨(hB.cell (p := ⟨w.heap.size, 0, none⟩) hlt).trans ?_, (hB.cell (p := ⟨w.heap.size, 1, none⟩) hlt).trans ?_, (hB.cell (p := ⟨w.heap.size, 2, none⟩) hlt).trans ?_⟩
  · simp
  · simp
  · simp
theorem opsFor_upd (n : Int) (l : List Od) (k : Nat) (h : k < l.length) : upd (fun s => opsFor s n (l.take k)) (shardOf l[k].2.1 n) (opsFor (shardOf l[k].2.1 n) n (l.take k) ++ [l[k]]) = fun s => opsFor s n (l.take (k + 1)) := by
  funext t
  show upd _ _ _ _ = List.filter _ _
  rw [filter_snocO (fun o => decide (shardOf o.2.1 n = t)) l k h]
  by_cases e : t = shardOf l[k].2.1 n
  · subst e
    rw [upd_same]; simp [opsFor]
  · rw [upd_other e]
    have e' : ¬ shardOf l[k].2.1 n = t := fun x => e x.symm
    simp [opsFor, e']
theorem shardOf_wf (key : ByteArray) (n : Int) : (Lit.int .i64 (shardOf key n)).wf = true := by
  have h1 := (shardOf_range key n).1
  have h2 := shardOf_lt key n
  exact WalkArith.wf_i64 (by omega)
theorem opsFor_le (s n : Int) (l : List Od) : (opsFor s n l).length ≤ l.length := List.length_filter_le _ _

theorem append_nil_arg (w : World) (g : Nat) : (Builtin.append_ #[67, 67] 67 #[.slice (some ⟨g, 0, none⟩) 0 0, .slice none 0 0]).run Try.prog w = .ok (.slice (some ⟨g, 0, none⟩) 0 0) w := by kernel_rfl

/-! ### the shards that have any, in order -/
end Go.Proofs.Ytggihjmcafoppaa.ords

namespace Go.Proofs.Ytggihjmcafoppaa.ords
open Go Go.RowKit Go.Proofs.Ytggihjmcafoppaa.base Go.Proofs.Ytggihjmcafoppaa.pairs
open Go.Maps (Keyed keyOf_int_mk)
open Go.Sort (Holds)
set_option linter.unusedVariables false
set_option linter.unusedSimpArgs false

set_option maxRecDepth 100000 in
set_option maxHeartbeats 2000000 in
theorem i_byShardA (a : Option Addr) (len cap : Nat) (l : List Od) (n : Int) (w : World) (h : SlO w a len l) (hks : ∀ p ∈ l, p.2.1.size ≤ 1099511627776) (hsz : len ≤ 1099511627776) (hn : (Lit.int .i64 n).wf = true) :
    Calls Try.prog 108 #[.slice a len cap, .int .i64 n] w fun e w' =>
      e = .returned (.map (some w.heap.size)) ∧ Groups w' w.heap.size (w.heap.size + 1) len (fun s => opsFor s n l) ∧ Below w.heap.size w w' := by
  obtain ⟨i0, hi, hz0, hz1, hz2⟩ := info_parts infoO
  have hl := h.1
  have hsm := h.2.2.1
  have hmm := @run_makeMap Try.prog
  subst hl
  go_enter Try.func108, Try.ntmps108
  go_wp2_with (at_builtin; fail)
  go_loopw [12] (fun i wr => ∃ k : Nat, k ≤ l.length ∧ i = .int .i64 (k : Int) ∧ Groups wr w.heap.size (w.heap.size + 1) k (fun s => opsFor s n (l.take k)) ∧ Below w.heap.size w wr) (fun i _ => l.length - (intOf i).toNat)
  case atStart => exact ⟨0, Nat.zero_le _, rfl, groups_made w, (Below.refl _ _).alloc (Nat.le_refl _) _⟩
  case round =>
    obtain ⟨k, hk, rfl, hT, hB⟩ := hrel
    clear hmm
    by_cases hlt : k < l.length
    · obtain ⟨b, off, hab, _⟩ := h.2.2.2 (by omega)
      subst hab
      obtain ⟨c0, c1, c2⟩ := (h.below hB).cells k hlt
      have hki : (k : Int) < (l.length : Int) := by omega
      have hpk := hsm _ (List.getElem_mem hlt)
      have hks' := hks _ (List.getElem_mem hlt)
      have HU := Hid.mk' (opsFor_upd n l k hlt)
      have hfl := opsFor_le (shardOf l[k].2.1 n) n (l.take k)
      have hlk : (l.take k).length ≤ k := List.length_take_le _ _
      have hsw := shardOf_wf l[k].2.1 n
      have hba : Below wr.heap.size wr (wr.alloc (.cells #[.int .i64 l[k].1, .string l[k].2.1, .string l[k].2.2] 121)) := (Below.refl _ _).alloc (Nat.le_refl _) _
      have HC := Hid.mk' (impl_shardOf l[k].2.1 n (wr.alloc (.cells #[.int .i64 l[k].1, .string l[k].2.1, .string l[k].2.2] 121)) hks' hn)
      generalize shardOf l[k].2.1 n = sh at *
      generalize l[k] = p at *
      go_wp2_with (at_builtin; fail)
      refine HC.out.mono ?_
      rintro e w3 ⟨rfl, hb3⟩
      obtain ⟨d0, d1, d2⟩ := box_cellO wr w3 p.1 p.2.1 p.2.2 hb3
      have hX3 : Below wr.heap.size wr w3 := hba.trans (hb3.mono hba.size)
      have hB3 : Below w.heap.size w w3 := hB.trans (hX3.mono hB.size)
      have hT3 := hT.below hX3
      have hsz3 : w.heap.size + 1 ≤ w3.heap.size := hT3.lt
      clear HC hb3 hX3 hB hT c0 c1 c2 hba
      go_wp2_with (at_lookup; refine wpList_look_groups _ rfl _ _ rfl rfl rfl hT3 hsw (by unfold maxLen; omega) ?_)
      intro v hown hsmv hback
      have hc3 : (opsFor sh n (l.take k)).length + 1 ≤ maxLen := by unfold maxLen; omega
      have hc4 : ((opsFor sh n (l.take k)).length + 1) * 40 ≤ 140737488355328 := by omega
      have HT3 := Hid.mk' hT3
      have HBK := Hid.mk' hback
      have HSM : Hid (∀ q ∈ opsFor sh n (l.take k), smallO q) := fun q hq => hsmv q.1 q.2.1 q.2.2 hq
      clear hback hT3 hsmv
      go_wp2_with (at_builtin; refine wpList_append_own_at _ rfl (.tmp 24) (.tmp 26) 67 rfl (w.heap.size + 1) 121 i0 (.agg #[.int .i64 0, .string ⟨#[]⟩, .string ⟨#[]⟩]) 3 40 Try.underlying67 hi hz0 hz1 hz2 rfl (by decide) _ _ _ rfl (hown.alloc _) ⟨w3.heap.size, 0, none⟩ 1 1 (ordVals [p]) rfl rfl (one_ord_cells _ _ _) (ordVals_oneCell _) hc3 hc4 (le_alloc _ _ hsz3) ?_)
      intro v4 w4 hown4 hgrow4 hnn hloc
      have hnn' : ¬ v4 = .slice none 0 0 := by simpa using hnn
      obtain ⟨g4, cp4, hv4, hO4⟩ := ownO_app rfl HSM.out hpk hnn' hown4
      subst hv4
      have hgr4 : w3.grownBy w4 v.ownBlock := World.grownBy.andThen ((World.grownBy_alloc w3 _ none).but v.ownBlock) hgrow4 (fun j hj => Or.inr hj)
      have hloc4 : some g4 = v.ownBlock ∨ w3.heap.size ≤ g4 := by
        rcases hloc with h1 | h1
        · exact Or.inl h1
        · simp [Value.ownBlock] at h1; exact Or.inr (by omega)
      have hB4 : Below w.heap.size w w4 := hB3.grown hgr4 hB3.size (fun j hj => by have := (hown.lt j hj).1; omega)
      clear hown hown4 hgrow4 hnn hnn' hloc hB3 HT3
      go_wp2_with (at_mapUpdate; refine wpList_store_back _ rfl _ _ _ rfl HBK.out rfl rfl rfl hgr4 hO4 (by simp) hloc4 ?_)
      intro w5 hT5 hgrow5
      rw [HU.out] at hT5
      have hB5 : Below w.heap.size w w5 := hB4.grown hgrow5 hB4.size (fun j hj => by cases hj; exact Nat.le_refl _)
      have HT5 := Hid.mk' hT5
      clear hgrow5 hB4 hT5 hO4 hgr4 hloc4 HBK
      go_wp2_with (at_builtin; fail)
      go_roundw
      case rel => exact ⟨k + 1, by omega, by go_num, HT5.out, hB5⟩
      case measure => simp [intOf]; omega
    · have HE : Hid (l.take k = l) := List.take_of_length_le (by omega)
      have hkl : k = l.length := by omega
      rw [HE.out] at hT
      go_wp2_with (at_builtin; fail)
      go_ret
      subst hkl
      exact ⟨rfl, hT, hB⟩
set_option maxRecDepth 100000 in
set_option maxHeartbeats 2000000 in
theorem impl_opsForA (a : Option Addr) (len cap : Nat) (l : List Od) (s n : Int) (w : World) (h : SlO w a len l) (hks : ∀ p ∈ l, p.2.1.size ≤ 1099511627776) (hsz : len ≤ 1099511627776) (hn : (Lit.int .i64 n).wf = true) (hs : (Lit.int .i64 s).wf = true) :
    Calls Try.prog 85 #[.slice a len cap, .int .i64 s, .int .i64 n] w fun e w' =>
      ∃ g' n' cap', e = .returned (.slice (some ⟨g', 0, none⟩) n' cap') ∧ OwnO w' w.heap.size g' n' cap' (opsFor s n l) ∧ Below w.heap.size w w' := by
  obtain ⟨i0, hi, hz0, hz1, hz2⟩ := info_parts infoO
  have hba : Below w.heap.size w (w.alloc (.cells #[] 121)) := (Below.refl _ _).alloc (Nat.le_refl _) _
  have hO1 := ownO_made w w.heap.size (Nat.le_refl _)
  have hC := i_byShardA a len cap l n _ (h.below hba) hks hsz hn
  have hsz1 : (w.alloc (.cells #[] 121)).heap.size = w.heap.size + 1 := by simp
  rw [hsz1] at hC
  have HC := Hid.mk' hC
  clear hC hsz1
  have hfl := opsFor_le s n l
  have hl := h.1
  go_enter Try.func85, Try.ntmps85
  go_wp2_with (at_builtin; fail)
  refine HC.out.mono ?_
  rintro e w2 ⟨rfl, hT, hb2⟩
  have hb2' : Below (w.alloc (.cells #[] 121)).heap.size (w.alloc (.cells #[] 121)) w2 := hb2.mono (by simp)
  have hB2 : Below w.heap.size w w2 := hba.trans (hb2'.mono hba.size)
  have hO2 := hO1.below hb2'
  have hbs := hB2.size
  clear HC hb2 hb2' hO1 hba
  go_wp2_with (at_lookup; refine wpList_look_groups _ rfl _ _ rfl rfl rfl hT hs (by unfold maxLen; omega) ?_)
  intro v hown hsmv hback
  have HSM : Hid (∀ q ∈ opsFor s n l, smallO q) := fun q hq => hsmv q.1 q.2.1 q.2.2 hq
  clear hback hsmv
  rcases hown.2 with ⟨hv, h0⟩ | ⟨g, cp, cur, hv, hbg, hgh, hnc, hcm, hcs, htk⟩
  · subst hv
    have hap := append_nil_arg w2 w.heap.size
    have hf : opsFor s n l = [] := List.eq_nil_of_length_eq_zero h0
    rw [← hf] at hO2
    have HO2 := Hid.mk' hO2
    clear hf h0 hown hO2 hT
    go_wp2_with fail
    go_ret
    exact ⟨_, _, _, rfl, HO2.out, hB2⟩
  · subst hv
    have hOg : OwnO w2 (w.heap.size + 1 + 1) g (opsFor s n l).length cp (opsFor s n l) := ⟨rfl, HSM.out, hown⟩
    have HCL := Hid.mk' (cells_ords hOg.cell)
    have hn0 := ordVals_length (opsFor s n l)
    have hm1 : 0 + (opsFor s n l).length ≤ maxLen := by unfold maxLen; omega
    have hm2 : (0 + (opsFor s n l).length) * 40 ≤ 140737488355328 := by omega
    have hown0 := hO2.2.2
    clear hown hbg hgh hnc hcm hcs htk hT hOg hO2
    generalize hF : opsFor s n l = F at *
    have HF := Hid.mk' hF
    clear hF
    generalize hFl : F.length = fl at *
    go_wp2_with (at_builtin; refine wpList_append_own _ rfl (.tmp 7) (.tmp 12) 67 rfl w.heap.size 121 i0 (.agg #[.int .i64 0, .string ⟨#[]⟩, .string ⟨#[]⟩]) 3 40 Try.underlying67 hi hz0 hz1 hz2 rfl (by decide) _ _ _ rfl hown0 ⟨g, 0, none⟩ fl cp (ordVals F) rfl hn0 HCL.out (ordVals_oneCell _) hm1 hm2 hbs ?_)
    intro v4 w4 hown4 hgrow4 hnn
    have hnn' : ¬ v4 = .slice none 0 0 := by simpa using hnn
    obtain ⟨g4, cp4, hv4, hO4⟩ := ownO_val (l := F) (n := 0 + fl) (by omega) HSM.out hnn' (by simpa [ordVals] using hown4)
    subst hv4
    have hB4 : Below w.heap.size w w4 := hB2.grown hgrow4 hbs (fun j hj => by simp [Value.ownBlock] at hj; omega)
    have HO4 := Hid.mk' hO4
    clear hown4 hgrow4 hnn hnn' hO4
    go_wp2_with (at_builtin; fail)
    go_ret
    exact ⟨_, _, _, rfl, by rw [HF.out]; exact HO4.out, hB4⟩
end Go.Proofs.Ytggihjmcafoppaa.ords

namespace Go.Proofs.Ytggihjmcafoppaa.recs
open Go Go.RowKit Go.Proofs.Ytggihjmcafoppaa.base Go.Proofs.Ytggihjmcafoppaa.pairs Go.Proofs.Ytggihjmcafoppaa.ords Go.Proofs.Ytggihjmcafoppaa.helps Go.Proofs.Ytggihjmcafoppaa.help Go.Proofs.Ytggihjmcafoppaa.lay
set_option linter.unusedVariables false
set_option linter.unusedSimpArgs false

end Go.Proofs.Ytggihjmcafoppaa.recs

namespace Go.Proofs.Ytggihjmcafoppaa.recs
open Go Go.RowKit Go.Proofs.Ytggihjmcafoppaa.base Go.Proofs.Ytggihjmcafoppaa.pairs Go.Proofs.Ytggihjmcafoppaa.ords Go.Proofs.Ytggihjmcafoppaa.helps Go.Proofs.Ytggihjmcafoppaa.help Go.Proofs.Ytggihjmcafoppaa.lay
set_option linter.unusedVariables false
set_option linter.unusedSimpArgs false

set_option maxRecDepth 100000 in
set_option maxHeartbeats 1000000 in
theorem eq_ops (a a2 : Option Addr) (len cap len2 cap2 : Nat) (l l2 : List Od) (w : World) (h : SlO w a len l) (h2 : SlO w a2 len2 l2) :
    Calls Try.prog 84 #[.slice a len cap, .slice a2 len2 cap2] w fun e w' => e = .returned (.bool (decide (l = l2))) ∧ ∃ n, w' = w.drewN n := by
  obtain ⟨hl, hm, _, hc⟩ := h
  obtain ⟨hl2, hm2, _, hc2⟩ := h2
  subst hl hl2
  unfold maxLen at hm hm2
  by_cases hne : l.length = l2.length
  · have hb : ((l.length : Int) == (l2.length : Int)) = true := by simp; omega
    go_enter Try.func84, Try.ntmps84
    go_wp2_with fail
    go_loopw [13] (fun i wr => ∃ k : Nat, k ≤ l.length ∧ i = .int .i64 k ∧ l.take k = l2.take k ∧ ∃ n, wr = w.drewN n) (fun i _ => l.length - (intOf i).toNat)
    case atStart => exact ⟨0, Nat.zero_le _, rfl, rfl, 0, rfl⟩
    case round =>
      obtain ⟨k, hk, rfl, htk, n, rfl⟩ := hrel
      by_cases hlt : k < l.length
      · obtain ⟨b, off, ha, hcl⟩ := hc (by omega)
        obtain ⟨b2, off2, ha2, hcl2⟩ := hc2 (by omega)
        subst ha ha2
        have hlt2 : k < l2.length := by omega
        have hi1 : (k : Int) < (l.length : Int) := by omega
        have hi2 : (k : Int) < (l2.length : Int) := by omega
        obtain ⟨c0, c1, c2⟩ := hcl k hlt
        obtain ⟨d0, d1, d2⟩ := hcl2 k hlt2
        by_cases e : l[k] = l2[k]
        · have HE := Hid.mk' (take_eqO htk hlt hlt2 e)
          rw [← e] at d0 d1 d2
          clear hcl hcl2 hc hc2 htk hne e
          generalize l[k] = p at *
          go_wp2_with fail
          go_quiet (fail)
          go_wp2_with fail
          go_roundw
          case rel => exact ⟨k + 1, by omega, by go_num, HE.out, _, rfl⟩
          case measure => simp [intOf]; omega
        · have HE : Hid (¬ l = l2) := by
            show ¬ _
            rintro rfl; exact e rfl
          generalize l[k] = p at *
          generalize l2[k] = q at *
          clear hcl hcl2 hc hc2 htk hne
          obtain ⟨p0, p1, p2⟩ := p
          obtain ⟨q0, q1, q2⟩ := q
          simp only [] at c0 c1 c2 d0 d1 d2
          by_cases e0 : p0 = q0
          · subst e0
            have h0 : (p0 == p0) = true := beq_self_eq_true _
            by_cases e1 : p1 = q1
            · subst e1
              have hq := str_ne (fun e2 : p2 = q2 => e (by rw [e2]))
              clear e
              go_wp2_with fail
              go_quiet (fail)
              go_wp2_with fail
              go_ret
              exact ⟨ret_bool (by symm; rw [decide_eq_false_iff_not]; exact HE.out), _, World.drewN_drewN _ _ _⟩
            · have hq := str_ne e1
              clear e e1
              go_wp2_with fail
              go_quiet (fail)
              go_wp2_with fail
              go_ret
              exact ⟨ret_bool (by symm; rw [decide_eq_false_iff_not]; exact HE.out), _, World.drewN_drewN _ _ _⟩
          · have h0 : (p0 == q0) = false := beq_eq_false_iff_ne.2 e0
            clear e e0
            go_wp2_with fail
            go_quiet (fail)
            go_wp2_with fail
            go_ret
            exact ⟨ret_bool (by symm; rw [decide_eq_false_iff_not]; exact HE.out), _, World.drewN_drewN _ _ _⟩
      · have e : k = l.length := by omega
        have hfin : l = l2 := by
          subst e
          rw [List.take_of_length_le (Nat.le_refl _), List.take_of_length_le (by omega)] at htk
          exact htk
        have HF := Hid.mk' hfin
        clear hfin htk
        go_wp2_with fail
        go_ret
        exact ⟨ret_bool (by symm; rw [decide_eq_true_iff]; exact HF.out), _, rfl⟩
  · have hb : ((l.length : Int) == (l2.length : Int)) = false := by simp; omega
    go_enter Try.func84, Try.ntmps84
    go_wp2
    go_ret
    exact ⟨ret_bool (by symm; rw [decide_eq_false_iff_not]; intro h; exact hne (by rw [h])), 0, rfl⟩
end Go.Proofs.Ytggihjmcafoppaa.recs
