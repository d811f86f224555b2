/- A copy of a slice by append to an empty row of the call's own, nil or not. No function of the program is named here. A region that draws its order: what is held from one operation to the next may fall with the last one, which waits for all the others. No function of the program is named here. -/
import Derived.Test.YtdeaiefhegjalaaBund12ah
import Derived.Test.YtdeaiefhegjalaaBund12at
import Derived.Maps.AppendAt
import Derived.Deep.AppendLies
import Derived.Test.YtdeaiefhegjalaaBund12ai
import Derived.Deep.RegionHeld
namespace Go.Proofs.Ytdeaiefhegjalaa.cos
open Go Go.RowKit Go.Proofs.Ytdeaiefhegjalaa.base Go.Proofs.Ytdeaiefhegjalaa.pairs Go.Proofs.Ytdeaiefhegjalaa.ords Go.Proofs.Ytdeaiefhegjalaa.lay Go.Proofs.Ytdeaiefhegjalaa.wds
set_option linter.unusedVariables false
set_option linter.unusedSimpArgs false

section
variable {α : Type} {R : Rd α} {enc : α → List Value} {ok : α → Prop} {w : World} {l : List α}
theorem Flat.cells (hR : Flat R enc ok) {b off n : Nat} (h : SlG R w (some ⟨b, off, none⟩) n l) : ∀ j u, (l.flatMap enc)[j]? = some u → w.cell? ((⟨b, off, none⟩ : Addr).add j) = some u := by
  intro j u hj
  have hp : ∀ p ∈ l.map (fun x => (enc x, ([] : List Nat))), p.1.length = R.size := fun p hp => by
    obtain ⟨x, hx, rfl⟩ := List.mem_map.1 hp
    obtain ⟨vs, hv⟩ := h.2.2.1 x hx
    have := R.seeLen hv
    rwa [(hR.see.1 hv).1] at this
  have e1 : cellsOf (l.map (fun x => (enc x, ([] : List Nat)))) = l.flatMap enc := by unfold cellsOf; rw [List.flatMap_map]
  have hjl := (List.getElem?_eq_some_iff.1 hj).1
  rw [← e1, cellsOf_length hp, List.length_map] at hjl
  have hn0 : 0 < R.size := by
    rcases Nat.eq_zero_or_pos R.size with e | e
    · rw [e] at hjl; omega
    · exact e
  have hm := Nat.mod_lt j hn0
  have hjd : j / R.size < l.length := Nat.div_lt_of_lt_mul (by rw [Nat.mul_comm]; exact hjl)
  have e : j = j / R.size * R.size + j % R.size := by rw [Nat.mul_comm]; have := Nat.div_add_mod j R.size; omega
  rw [← e1] at hj
  obtain ⟨d, m, hd, hm2, hjm⟩ : ∃ d m, d < l.length ∧ m < R.size ∧ j = d * R.size + m := ⟨_, _, hjd, hm, e⟩
  clear e hm hjd hjl
  subst hjm
  rw [cellsOf_get hp d (by simpa using hd) m hm2] at hj
  simp only [List.getElem_map] at hj
  obtain ⟨b', off', e2, hc⟩ := h.2.2.2 (by have := h.1; omega)
  simp only [Option.some.injEq, Addr.mk.injEq, and_true] at e2
  obtain ⟨rfl, rfl⟩ := e2
  obtain ⟨vs, hs, hcl⟩ := hc d hd
  rw [(hR.see.1 hs).1] at hcl
  have := hcl _ _ hj
  rw [Addr.add_lit, ← Nat.add_assoc]
  exact this
theorem Flat.len (hR : Flat R enc ok) {a : Option Addr} {n : Nat} (h : SlG R w a n l) : (l.flatMap enc).length = n * R.size := by
  have hp : ∀ p ∈ l.map (fun x => (enc x, ([] : List Nat))), p.1.length = R.size := fun p hp => by
    obtain ⟨x, hx, rfl⟩ := List.mem_map.1 hp
    obtain ⟨vs, hv⟩ := h.2.2.1 x hx
    have := R.seeLen hv
    rwa [(hR.see.1 hv).1] at this
  have e1 : cellsOf (l.map (fun x => (enc x, ([] : List Nat)))) = l.flatMap enc := by unfold cellsOf; rw [List.flatMap_map]
  rw [← e1, cellsOf_length hp, List.length_map, h.1]
theorem Flat.oks (hR : Flat R enc ok) {a : Option Addr} {n : Nat} (h : SlG R w a n l) : ∀ x ∈ l, ok x := fun x hx => by
  obtain ⟨vs, hv⟩ := h.2.2.1 x hx
  exact (hR.see.1 hv).2
/-- the elements of a slice appended to an empty row of the call's own -/
theorem Flat.copyRun {P : Program} (hR : Flat R enc ok) (h1 : ∀ x, ∀ u ∈ enc x, u.oneCell' = true) (hsz : 0 < R.size) {t e : TypeId} {z : Value} {bytes : Nat} (ht : P.underlying t = some (.slice e)) (hinfo : (P.info? e).map (fun i => (i.zero, i.size, i.bytes)) = some (some z, R.size, bytes)) (hzs : z.cells.size = R.size)
    (hnone : ∀ (w : World) (g c : Nat) (ty : TypeId), (Builtin.append_ #[t, t] ty #[.slice (some ⟨g, 0, none⟩) 0 0, .slice none 0 c]).run P w = .ok (.slice (some ⟨g, 0, none⟩) 0 0) w)
    (g : Nat) (a : Option Addr) (n c : Nat) (hg : w.ownsRow 0 e R.size (.slice (some ⟨g, 0, none⟩) 0 0) 0 []) (h : SlG R w a n l) (hb : n * bytes ≤ 140737488355328) (ty : TypeId) :
    ∃ g' cap' w', (Builtin.append_ #[t, t] ty #[.slice (some ⟨g, 0, none⟩) 0 0, .slice a n c]).run P w = .ok (.slice (some ⟨g', 0, none⟩) n cap') w' ∧ OwnG e R w' (.slice (some ⟨g', 0, none⟩) n cap') l (l.map fun x => (enc x, [])) ∧ w.grownBy w' (some g) ∧ (g' = g ∨ w.heap.size ≤ g') := by
  have hoks := hR.oks h
  have hlen := hR.len h
  have hl := h.1
  obtain ⟨i, hi, hz0, hz1, hz2⟩ := info_parts hinfo
  cases a with
  | none =>
    have hn0 : n = 0 := by
      rcases Nat.eq_zero_or_pos n with e | e
      · exact e
      · obtain ⟨b, off, e2, _⟩ := h.2.2.2 e; cases e2
    subst hn0
    have : l = [] := List.eq_nil_of_length_eq_zero hl
    subst this
    exact ⟨g, 0, w, hnone w g c ty, hR.made hg (fun x hx => absurd hx List.not_mem_nil), World.grownBy.refl _ _, .inl rfl⟩
  | some ad =>
    obtain ⟨v', w', hr, h2, h3, h4, h5⟩ := run_append_own_at (P := P) w 0 t ty e i z R.size bytes ht hi hz0 hz1 hz2 hzs hsz (.slice (some ⟨g, 0, none⟩) 0 0) 0 [] hg ad n c (l.flatMap enc) hlen (fun j u hj => by
      rcases Nat.eq_zero_or_pos n with e0 | e0
      · have : l = [] := List.eq_nil_of_length_eq_zero (by omega)
        subst this
        simp at hj
      · obtain ⟨b, off, e2, _⟩ := h.2.2.2 e0
        cases e2
        exact hR.cells h j u hj) (fun u hu => by
      obtain ⟨x, _, hx⟩ := List.mem_flatMap.1 hu
      exact h1 x u hx) (by have := h.2.1; omega) (by rw [Nat.zero_add]; exact hb) (Nat.zero_le _)
    rw [Nat.zero_add, List.nil_append] at h2
    rcases h2.2 with ⟨e2, _⟩ | ⟨g', cap', cur, e2, _⟩
    · exact absurd (h4.1 e2).1 (by simp)
    · subst e2
      refine ⟨g', cap', w', hr, hR.made (by rw [hl]; exact h2) hoks, h3, ?_⟩
      rcases h5 with h5 | h5
      · left; simpa [Value.ownBlock] using h5
      · right
        have : g' = w.heap.size := by simpa [Value.ownBlock] using h5
        omega
end
/-- one struct appended to a row of the call's own -/
theorem OwnG.appRun {α : Type} {R : Rd α} {P : Program} {V : World} {t ty : TypeId} {z : Value} {bytes : Nat} (ht : P.underlying t = some (.slice ty)) (hinfo : (P.info? ty).map (fun i => (i.zero, i.size, i.bytes)) = some (some z, R.size, bytes)) (hzs : z.cells.size = R.size) (hsz : 0 < R.size)
    {v : Value} {l : List α} {q : Parts} {us : List Value} {x : α} {F : List Nat} (h : OwnG ty R V v l q) (hx : R.own V us x F) (hd : ∀ k ∈ F, k ∉ v.ownBlock.toList ++ blocksOf q) {X : Nat} {T : TypeId} (hX : BoxIn X T [] us [] V) (hm : l.length + 1 ≤ maxLen) (hb : (l.length + 1) * bytes ≤ 140737488355328) (tyo : TypeId) :
    ∃ g cap w', (Builtin.append_ #[t, t] tyo #[v, .slice (some ⟨X, 0, none⟩) 1 1]).run P V = .ok (.slice (some ⟨g, 0, none⟩) (l.length + 1) cap) w' ∧ OwnG ty R w' (.slice (some ⟨g, 0, none⟩) (l.length + 1) cap) (l ++ [x]) (q ++ [(us, F)]) ∧ V.grownBy w' v.ownBlock ∧ (v.ownBlock = some g ∨ g = V.heap.size) := by
  obtain ⟨i, hi, hz0, hz1, hz2⟩ := info_parts hinfo
  obtain ⟨g, cap, w', h1, h2, h3, h4, h5⟩ := run_append_lies (P := P) V t tyo 0 ty i z R.size bytes ht hi hz0 hz1 hz2 hzs hsz v l.length (cellsOf q) h.row ⟨X, 0, none⟩ 1 1 us (by rw [R.ownLen hx, Nat.one_mul]) (fun j u hj => by
    have := hX.cell j u hj
    rw [Addr.add_lit, Nat.zero_add]
    simpa using this) (R.ownOne hx) (by omega) hm hb (Nat.zero_le _) V.heap.size rfl
  exact ⟨g, cap, w', h1, OwnG.snoc h hx hd h2 h3 h4 rfl, h3, h4⟩
/-- an append whose run is known -/
theorem wp_append_run {P : Program} {w w' : World} {o : Oper} {a : Act} {K : Act → World → Prop} {Q : Exit → Act → World → Prop} (s x : Operand) (t : TypeId) (ho : o.op = .call { callee := .builtin .append, args := #[s, x], argTypes := #[t, t] }) {v1 v2 v' : Value} (hs : a.eval s = v1) (hx : a.eval x = v2)
    (hr : (Builtin.append_ #[t, t] o.type #[v1, v2]).run P w = .ok v' w') (h : K (a.put o.dst v') w') : o.wp P a w K Q := by
  unfold Oper.wp execOp
  simp only [ho, resolve, invoke, builtin, Sem.run_bind, Sem.run_pure, Result.andThen_ok, List.map_toArray, List.map_cons, List.map_nil, hs, hx, hr]
  exact h
theorem step_append_run {P : Program} {ops : Array Oper} {o : Oper} {a : Act} {w w' : World} {K : Act → World → Prop} {Q : Exit → Act → World → Prop} {E : Prop} (hgd : o.guard = none) (s x : Operand) (t : TypeId)
    (ho : o.op = .call { callee := .builtin .append, args := #[s, x], argTypes := #[t, t] }) {v1 v2 v' : Value} (hs : a.eval s = v1) (hx : a.eval x = v2) (hr : (Builtin.append_ #[t, t] o.type #[v1, v2]).run P w = .ok v' w') (h : K (a.put o.dst v') w') :
    if Region.wanted o (yielded ops a.tmps) = true then Oper.wp P o a w K Q else E := by
  have hw : Region.wanted o (yielded ops a.tmps) = true := by simp [Region.wanted, hgd]
  rw [if_pos hw]
  exact wp_append_run s x t ho hs hx hr h
theorem wpList_append_run {P : Program} {ops : Array Oper} {rest : List Oper} {o : Oper} {a : Act} {w w' : World} {Q : Exit → Act → World → Prop} (hgd : o.guard = none) (s x : Operand) (t : TypeId)
    (ho : o.op = .call { callee := .builtin .append, args := #[s, x], argTypes := #[t, t] }) {v1 v2 v' : Value} (hs : a.eval s = v1) (hx : a.eval x = v2) (hr : (Builtin.append_ #[t, t] o.type #[v1, v2]).run P w = .ok v' w') (h : wpList P ops Q rest (a.put o.dst v') w') : wpList P ops Q (o :: rest) a w :=
  wpList_plain hgd fun _ hK => wp_append_run s x t ho hs hx hr (hK _ _ h)
theorem infoOp : (Try.prog.info? 76).map (fun i => (i.zero, i.size, i.bytes)) = some (some (.agg #[.int .i64 0, .string ⟨#[]⟩, .string ⟨#[]⟩]), 3, 40) := by kernel_rfl
theorem none_op (w : World) (g c : Nat) (ty : TypeId) : (Builtin.append_ #[34, 34] ty #[.slice (some ⟨g, 0, none⟩) 0 0, .slice none 0 c]).run Try.prog w = .ok (.slice (some ⟨g, 0, none⟩) 0 0) w := by kernel_rfl
theorem none_int (w : World) (g c : Nat) (ty : TypeId) : (Builtin.append_ #[35, 35] ty #[.slice (some ⟨g, 0, none⟩) 0 0, .slice none 0 c]).run Try.prog w = .ok (.slice (some ⟨g, 0, none⟩) 0 0) w := by kernel_rfl
theorem none_ch (w : World) (g c : Nat) (ty : TypeId) : (Builtin.append_ #[25, 25] ty #[.slice (some ⟨g, 0, none⟩) 0 0, .slice none 0 c]).run Try.prog w = .ok (.slice (some ⟨g, 0, none⟩) 0 0) w := by kernel_rfl
theorem infoCh : (Try.prog.info? 33).map (fun i => (i.zero, i.size, i.bytes)) = some (some (.agg #[.int .i64 0, .bool false]), 2, 16) := by kernel_rfl
section
variable {w : World} (g : Nat) (a : Option Addr) (n c : Nat) (ty : TypeId)
theorem copy_ops {l : List Od} (hg : w.ownsRow 0 76 3 (.slice (some ⟨g, 0, none⟩) 0 0) 0 []) (h : SlO w a n l) (hc : n ≤ c) (hb : n ≤ 1099511627776) :
    ∃ g' cap' w', (Builtin.append_ #[34, 34] ty #[.slice (some ⟨g, 0, none⟩) 0 0, .slice a n c]).run Try.prog w = .ok (.slice (some ⟨g', 0, none⟩) n cap') w' ∧ opsR.own w' [.slice (some ⟨g', 0, none⟩) n cap'] l [g'] ∧ w.grownBy w' (some g) ∧ (g' = g ∨ w.heap.size ≤ g') := by
  obtain ⟨a', n', c', e, _, h'⟩ := ops_see.2 ⟨h, hc⟩
  simp only [List.cons.injEq, Value.slice.injEq, and_true] at e
  obtain ⟨rfl, rfl, rfl⟩ := e
  obtain ⟨g', cap', w', h1, h2, h3, h4⟩ := flat_op.copyRun (P := Try.prog) (fun x u hu => by simp at hu; rcases hu with rfl | rfl | rfl <;> rfl) (by decide) Try.underlying34 infoOp rfl none_op g a n c hg h' (by omega) ty
  exact ⟨g', cap', w', h1, ⟨_, _, rfl, by rw [(flat_op.parts h2).2.2.1]; rfl, h2⟩, h3, h4⟩
theorem copy_ints {l : List Int} (hg : w.ownsRow 0 3 1 (.slice (some ⟨g, 0, none⟩) 0 0) 0 []) (h : SlZ w a n l) (hw : ∀ z ∈ l, (Lit.int .i64 z).wf = true) (hc : n ≤ c) (hb : n ≤ 1099511627776) :
    ∃ g' cap' w', (Builtin.append_ #[35, 35] ty #[.slice (some ⟨g, 0, none⟩) 0 0, .slice a n c]).run Try.prog w = .ok (.slice (some ⟨g', 0, none⟩) n cap') w' ∧ intsR.own w' [.slice (some ⟨g', 0, none⟩) n cap'] l [g'] ∧ w.grownBy w' (some g) ∧ (g' = g ∨ w.heap.size ≤ g') := by
  obtain ⟨a', n', c', e, _, h'⟩ := ints_see.2 ⟨⟨h, hw⟩, hc⟩
  simp only [List.cons.injEq, Value.slice.injEq, and_true] at e
  obtain ⟨rfl, rfl, rfl⟩ := e
  obtain ⟨g', cap', w', h1, h2, h3, h4⟩ := flat_int.copyRun (P := Try.prog) (fun x u hu => by simp at hu; subst hu; rfl) (by decide) Try.underlying35 infoZ rfl none_int g a n c hg h' (by omega) ty
  exact ⟨g', cap', w', h1, ⟨_, _, rfl, by rw [(flat_int.parts h2).2.2.1]; rfl, h2⟩, h3, h4⟩
theorem copy_chs {l : List Ch} (hg : w.ownsRow 0 33 2 (.slice (some ⟨g, 0, none⟩) 0 0) 0 []) (h : SlG chR w a n l) (hb : n ≤ 1099511627776) :
    ∃ g' cap' w', (Builtin.append_ #[25, 25] ty #[.slice (some ⟨g, 0, none⟩) 0 0, .slice a n c]).run Try.prog w = .ok (.slice (some ⟨g', 0, none⟩) n cap') w' ∧ logR.own w' [.slice (some ⟨g', 0, none⟩) n cap'] l [g'] ∧ w.grownBy w' (some g) ∧ (g' = g ∨ w.heap.size ≤ g') := by
  obtain ⟨g', cap', w', h1, h2, h3, h4⟩ := flat_ch.copyRun (P := Try.prog) (fun x u hu => by simp at hu; rcases hu with rfl | rfl <;> rfl) (by decide) Try.underlying25 infoCh rfl none_ch g a n c hg h (by omega) ty
  exact ⟨g', cap', w', h1, ⟨_, _, rfl, by rw [(flat_ch.parts h2).2.2.1]; rfl, h2⟩, h3, h4⟩
end
end Go.Proofs.Ytdeaiefhegjalaa.cos

namespace Go.Proofs.Ytdeaiefhegjalaa.last
open Go Go.RowKit
section
variable {P : Program} {ops : Array Oper} {md : Region.Mode} {Q : Exit → Act → World → Prop} {S : World → Prop} {z : Nat}

/-- whatever order is picked from here on, and S holds behind every operation but number z -/
def wpAnyL (P : Program) (md : Region.Mode) (ops : Array Oper) (Q : Exit → Act → World → Prop) (S : World → Prop) (z : Nat) : Nat → Array Bool → Act → World → Prop
  | 0, listed, a, w => Region.ready md ops listed = [] ∧ Q .normal a w
  | fuel + 1, listed, a, w =>
    (Region.ready md ops listed = [] → Q .normal a w) ∧
    ∀ i ∈ Region.ready md ops listed, wpOp P ops Q i (fun a' w' => (i ≠ z → S w') ∧ wpAnyL P md ops Q S z fuel (listed.setIfInBounds i true) a' w') a w
theorem wpAny_of_later : ∀ (fuel : Nat) (listed : Array Bool) (a : Act) (w : World), wpAnyL P md ops Q S z fuel listed a w → wpAny P md ops Q fuel listed a w
  | 0, _, _, _, h => h
  | fuel + 1, _, _, _, h => ⟨h.1, fun i hi => wpOp_mono (fun a' w' h' => wpAny_of_later fuel _ a' w' h'.2) (h.2 i hi)⟩
theorem wpAnyL_first {i : Nat} {oi : Oper} {v : Value} (hi : ops[i]? = some oi) (hsel : ∀ (j : Nat) (o : Oper) cs b, ops[j]? = some o → o.op ≠ .select cs b)
    (hQ : ∀ c a w, Q (.panic c) (a.put oi.dst v) w → Q (.panic c) a w) {oz : Oper} (hz : ops[z]? = some oz) (hzi : ∃ e ∈ oz.after, Region.binds md e = true ∧ e.on = i) :
    ∀ (fuel : Nat) (listed : Array Bool) (a : Act) (w : World),
      (∀ j oj, ops[j]? = some oj → j ≠ i → listed.getD j true = false → (∀ e ∈ oj.after, Region.binds md e = true → e.on ≠ i) → oi.apart ops oj = true) →
      i ∈ Region.ready md ops listed → YieldsIf P ops S oi v a → S w →
      wpAnyL P md ops Q S z fuel (listed.setIfInBounds i true) (a.put oi.dst v) w → wpAnyL P md ops Q S z (fuel + 1) listed a w := by
  have hnz : ∀ {listed : Array Bool} {j : Nat}, i ∈ Region.ready md ops listed → j ∈ Region.ready md ops listed → j ≠ z := fun hr hj e => by
    subst e
    obtain ⟨e, he, hb, heq⟩ := hzi
    exact both_ready hr hj hz e he hb heq
  intro fuel
  induction fuel with
  | zero =>
    intro listed a w _ hr hy hS H
    refine ⟨fun h => (by rw [h] at hr; cases hr), fun j hj => ?_⟩
    by_cases hji : j = i
    · subst hji; exact hy.wpOp hi hS ⟨fun _ => hS, H⟩
    · have := ready_mono hj hji
      rw [H.1] at this
      cases this
  | succ fuel ih =>
    intro listed a w hfree hr hy hS H
    refine ⟨fun h => (by rw [h] at hr; cases hr), fun j hj => ?_⟩
    by_cases hji : j = i
    · subst hji; exact hy.wpOp hi hS ⟨fun _ => hS, H⟩
    · have h1 := H.2 j (ready_mono hj hji)
      obtain ⟨hjun, oj, hoj, hall⟩ := mem_ready.1 hj
      have hnot : ∀ e ∈ oj.after, Region.binds md e = true → e.on ≠ i := both_ready hr hj hoj
      have h2 := wpOp_putIf hoj (hfree j oj hoj hji hjun hnot) (fun cs b => hsel i oi cs b hi) (fun cs b => hsel j oj cs b hoj) hQ hy h1
      have hfree' : ∀ k ok, ops[k]? = some ok → k ≠ i → (listed.setIfInBounds j true).getD k true = false →
          (∀ e ∈ ok.after, Region.binds md e = true → e.on ≠ i) → oi.apart ops ok = true := fun k ok hk hki hun hno => by
        refine hfree k ok hk hki ?_ hno
        by_cases hjk : j = k
        · subst hjk; exact hjun
        · rw [getD_set_ne true hjk] at hun; exact hun
      have hjz := hnz hr hj
      refine wpOp_mono (fun a' w' h3 => ⟨h3.2.1, ih (listed.setIfInBounds j true) a' w' hfree' (ready_mono hr (Ne.symm hji)) h3.1 (h3.2.1 hjz) ?_⟩) h2
      rw [Array.setIfInBounds_comm _ _ hji]
      exact h3.2.2
theorem wpAnyL_take {i : Nat} {oi oz : Oper} {v : Value} {fuel : Nat} {listed : Array Bool} {a : Act} {w : World} (hi : ops[i]? = some oi) (hz : ops[z]? = some oz)
    (hs : Region.noSelect ops = true) (hf : Region.free md ops listed i = true) (hr : (Region.ready md ops listed).contains i = true) (hw : waits md oz i = true)
    (hQ : ∀ c a w, Q (.panic c) (a.put oi.dst v) w → Q (.panic c) a w) (hy : YieldsIf P ops S oi v a) (hS : S w)
    (h : wpAnyL P md ops Q S z fuel (listed.setIfInBounds i true) (a.put oi.dst v) w) : wpAnyL P md ops Q S z (fuel + 1) listed a w := by
  have hwz : ∃ e ∈ oz.after, Region.binds md e = true ∧ e.on = i := by
    obtain ⟨e, he, hb⟩ := Array.any_eq_true'.1 hw
    simp only [Bool.and_eq_true, beq_iff_eq] at hb
    exact ⟨e, he, hb⟩
  exact wpAnyL_first hi (Region.noSelect_spec hs) hQ hz hwz fuel listed a w (Region.free_spec hi hf) (by simpa using hr) hy hS h
/-- the one operation that may come up now -/
theorem wpAnyL_one {i : Nat} {o : Oper} {fuel : Nat} {listed : Array Bool} {a : Act} {w : World} (hr : Region.ready md ops listed = [i]) (ho : ops[i]? = some o)
    (h : ∀ K' : Act → World → Prop, Shut (∀ a w, S w → (S w → wpAnyL P md ops Q S z fuel (listed.setIfInBounds i true) a w) → K' a w) → if Region.wanted o (yielded ops a.tmps) = true then Oper.wp P o a w K' Q else K' (a.put o.dst undef) w) :
    wpAnyL P md ops Q S z (fuel + 1) listed a w :=
  by
  refine ⟨fun h0 => ?_, fun j hj => ?_⟩
  · rw [hr] at h0; cases h0
  · rw [hr] at hj
    obtain rfl := List.mem_singleton.1 hj
    exact wpOp_step ho (fun K' hK => h K' (fun a w hS hW => hK a w ⟨fun _ => hS, hW hS⟩))
/-- one of two may come up now -/
theorem wpAnyL_two {i j : Nat} {o o' : Oper} {fuel : Nat} {listed : Array Bool} {a : Act} {w : World} (hr : Region.ready md ops listed = [i, j]) (ho : ops[i]? = some o) (ho' : ops[j]? = some o')
    (h : ∀ K' : Act → World → Prop, Shut (∀ a w, S w → (S w → wpAnyL P md ops Q S z fuel (listed.setIfInBounds i true) a w) → K' a w) → if Region.wanted o (yielded ops a.tmps) = true then Oper.wp P o a w K' Q else K' (a.put o.dst undef) w)
    (h' : ∀ K' : Act → World → Prop, Shut (∀ a w, S w → (S w → wpAnyL P md ops Q S z fuel (listed.setIfInBounds j true) a w) → K' a w) → if Region.wanted o' (yielded ops a.tmps) = true then Oper.wp P o' a w K' Q else K' (a.put o'.dst undef) w) :
    wpAnyL P md ops Q S z (fuel + 1) listed a w := by
  refine ⟨fun h0 => ?_, fun k hk => ?_⟩
  · rw [hr] at h0; cases h0
  · rw [hr] at hk
    rcases List.mem_cons.1 hk with rfl | hk
    · exact wpOp_step ho (fun K' hK => h K' (fun a w hS hW => hK a w ⟨fun _ => hS, hW hS⟩))
    · obtain rfl := List.mem_singleton.1 hk
      exact wpOp_step ho' (fun K' hK => h' K' (fun a w hS hW => hK a w ⟨fun _ => hS, hW hS⟩))
/-- the last one -/
theorem wpAnyL_last {o : Oper} {fuel : Nat} {listed : Array Bool} {a : Act} {w : World} (hr : Region.ready md ops listed = [z]) (ho : ops[z]? = some o) (hd : Region.ready md ops (listed.setIfInBounds z true) = [])
    (h : ∀ K' : Act → World → Prop, Shut (∀ a w, Q .normal a w → K' a w) → if Region.wanted o (yielded ops a.tmps) = true then Oper.wp P o a w K' Q else K' (a.put o.dst undef) w) :
    wpAnyL P md ops Q S z (fuel + 1) listed a w :=
  by
  refine ⟨fun h0 => ?_, fun j hj => ?_⟩
  · rw [hr] at h0; cases h0
  · rw [hr] at hj
    obtain rfl := List.mem_singleton.1 hj
    refine wpOp_step ho (fun K' hK => h K' (fun a w hq => hK a w ⟨fun h => absurd rfl h, ?_⟩))
    cases fuel with
    | zero => exact ⟨hd, hq⟩
    | succ k => exact ⟨fun _ => hq, by rw [hd]; simp⟩
theorem wp_region_later {id : Nat} {a : Act} {w : World} (z : Nat) (hm : P.follows .mixedOrders = true) (hS : S w.drew)
    (h : S w.drew → wpAnyL P .any ops Q S z ops.size (Array.replicate ops.size false) a w.drew) : (Code.region id ops true).wp P Q a w :=
  wp_region_any hm (wpAny_of_later _ _ _ _ (h hS))
end
end Go.Proofs.Ytdeaiefhegjalaa.last
