/- The specification's shard: whether it is right. The specification's shard: how it is with a transaction, and how many keys there are. The program's shard: what is alike, and whether it is right. A copy of a slice by append to an empty row of the call's own, nil or not. No function of the program is named here. A call as a step of a region that draws its order. No function of the program is named here. -/
import Derived.Test.YtijplooogplccaaShae
import Derived.Test.YtijplooogplccaaShad
import Derived.Test.YtijplooogplccaaShab
import Derived.Maps.AppendAt
import Derived.Deep.AppendLies
import Derived.WalkKit
import Derived.WalkSpells
import Derived.WalkLawsBesides
namespace Go.Proofs.Ytijplooogplccaa.recs
open Go Go.RowKit Go.Proofs.Ytijplooogplccaa.base Go.Proofs.Ytijplooogplccaa.pairs Go.Proofs.Ytijplooogplccaa.ords Go.Proofs.Ytijplooogplccaa.helps Go.Proofs.Ytijplooogplccaa.help Go.Proofs.Ytijplooogplccaa.lay
set_option linter.unusedVariables false
set_option linter.unusedSimpArgs false

abbrev aggSh (id sure : Int) (la : Option Addr) (ln lc : Nat) (ma : Option Addr) (mn mc : Nat) (ha : Option Addr) (hn hc : Nat) : Value := .agg #[.int .i64 id, .slice la ln lc, .int .i64 sure, .slice ma mn mc, .slice ha hn hc]
abbrev boxSh (id sure : Int) (la : Option Addr) (ln lc : Nat) (ma : Option Addr) (mn mc : Nat) (ha : Option Addr) (hn hc : Nat) : Obj := .cells #[.int .i64 id, .slice la ln lc, .int .i64 sure, .slice ma mn mc, .slice ha hn hc] 56
end Go.Proofs.Ytijplooogplccaa.recs

namespace Go.Proofs.Ytijplooogplccaa.recs
open Go Go.RowKit Go.Proofs.Ytijplooogplccaa.base Go.Proofs.Ytijplooogplccaa.pairs Go.Proofs.Ytijplooogplccaa.ords Go.Proofs.Ytijplooogplccaa.helps Go.Proofs.Ytijplooogplccaa.help Go.Proofs.Ytijplooogplccaa.lay
set_option linter.unusedVariables false
set_option linter.unusedSimpArgs false

end Go.Proofs.Ytijplooogplccaa.recs

namespace Go.Proofs.Ytijplooogplccaa.recs
open Go Go.RowKit Go.Proofs.Ytijplooogplccaa.base Go.Proofs.Ytijplooogplccaa.pairs Go.Proofs.Ytijplooogplccaa.ords Go.Proofs.Ytijplooogplccaa.helps Go.Proofs.Ytijplooogplccaa.help Go.Proofs.Ytijplooogplccaa.lay
set_option linter.unusedVariables false
set_option linter.unusedSimpArgs false

theorem i_idOk (id : Int) (w : World) :
    Calls Try.prog 51 #[.int .i64 id] w fun e w' => e = .returned (.bool (decide (0 ≤ id ∧ id ≤ 7))) ∧ w = w' := by
  by_cases h1 : 0 ≤ id
  · by_cases h2 : id ≤ 7
    · go_enter Try.func51, Try.ntmps51
      go_wp2
      go_ret
      exact ⟨ret_bool (by simp [h1, h2]), rfl⟩
    · go_enter Try.func51, Try.ntmps51
      go_wp2
      go_ret
      exact ⟨ret_bool (by simp [h1, h2]), rfl⟩
  · go_enter Try.func51, Try.ntmps51
    go_wp2
    go_ret
    exact ⟨ret_bool (by have h3 : ¬ 0 ≤ id := by omega
                        simp [h3]), rfl⟩
set_option maxRecDepth 100000 in
theorem impl_shardNew (id : Int) (w : World) :
    Calls Try.prog 22 #[.int .i64 id] w fun e w' => e = .returned (nilShd (newShd id).1) ∧ Below w.heap.size w w' := by
  have HI := Hid.mk' (fun wx => i_idOk id wx)
  by_cases h : 0 ≤ id ∧ id ≤ 7
  · rw [decide_eq_true h] at HI
    have e0 : (newShd id).1 = id := by unfold newShd; rw [if_pos h]
    rw [e0]
    clear h e0
    go_enter Try.func22, Try.ntmps22
    go_wp2_with fail
    refine (HI.out _).mono ?_
    rintro e w1 ⟨rfl, rfl⟩
    clear HI
    go_wp2_with fail
    exact bodyPost_ret (v := nilShd id) (by simp [results, Try.results22, go_sem, nilShd]) rfl ⟨rfl, (Below.refl _ _).alloc (Nat.le_refl _) _⟩
  · rw [decide_eq_false h] at HI
    have e0 : (newShd id).1 = 0 := by unfold newShd; rw [if_neg h]
    rw [e0]
    clear h e0
    go_enter Try.func22, Try.ntmps22
    go_wp2_with fail
    refine (HI.out _).mono ?_
    rintro e w1 ⟨rfl, rfl⟩
    clear HI
    go_wp2_with fail
    exact bodyPost_ret (v := nilShd 0) (by simp [results, Try.results22, go_sem, nilShd]) rfl ⟨rfl, (Below.refl _ _).alloc (Nat.le_refl _) _⟩
end Go.Proofs.Ytijplooogplccaa.recs

namespace Go.Proofs.Ytijplooogplccaa.cos
open Go Go.RowKit Go.Proofs.Ytijplooogplccaa.base Go.Proofs.Ytijplooogplccaa.pairs Go.Proofs.Ytijplooogplccaa.ords Go.Proofs.Ytijplooogplccaa.lay Go.Proofs.Ytijplooogplccaa.wds
set_option linter.unusedVariables false
set_option linter.unusedSimpArgs false

section
variable {α : Type} {R : Rd α} {enc : α → List Value} {ok : α → Prop} {w : World} {l : List α}
theorem Flat.cells (hR : Flat R enc ok) {b off n : Nat} (h : SlG R w (some ⟨b, off, none⟩) n l) : ∀ j u, (l.flatMap enc)[j]? = some u → w.cell? ((⟨b, off, none⟩ : Addr).add j) = some u := by
  intro j u hj
  have hp : ∀ p ∈ l.map (fun x => (enc x, ([] : List Nat))), p.1.length = R.size := fun p hp => by
    obtain ⟨x, hx, rfl⟩ := List.mem_map.1 hp
    obtain ⟨vs, hv⟩ := h.2.2.1 x hx
    have := R.seeLen hv
    rwa [(hR.see.1 hv).1] at this
  have e1 : cellsOf (l.map (fun x => (enc x, ([] : List Nat)))) = l.flatMap enc := by unfold cellsOf; rw [List.flatMap_map]
  have hjl := (List.getElem?_eq_some_iff.1 hj).1
  rw [← e1, cellsOf_length hp, List.length_map] at hjl
  have hn0 : 0 < R.size := by
    rcases Nat.eq_zero_or_pos R.size with e | e
    · rw [e] at hjl; omega
    · exact e
  have hm := Nat.mod_lt j hn0
  have hjd : j / R.size < l.length := Nat.div_lt_of_lt_mul (by rw [Nat.mul_comm]; exact hjl)
  have e : j = j / R.size * R.size + j % R.size := by rw [Nat.mul_comm]; have := Nat.div_add_mod j R.size; omega
  rw [← e1] at hj
  obtain ⟨d, m, hd, hm2, hjm⟩ : ∃ d m, d < l.length ∧ m < R.size ∧ j = d * R.size + m := ⟨_, _, hjd, hm, e⟩
  clear e hm hjd hjl
  subst hjm
  rw [cellsOf_get hp d (by simpa using hd) m hm2] at hj
  simp only [List.getElem_map] at hj
  obtain ⟨b', off', e2, hc⟩ := h.2.2.2 (by have := h.1; omega)
  simp only [Option.some.injEq, Addr.mk.injEq, and_true] at e2
  obtain ⟨rfl, rfl⟩ := e2
  obtain ⟨vs, hs, hcl⟩ := hc d hd
  rw [(hR.see.1 hs).1] at hcl
  have := hcl _ _ hj
  rw [Addr.add_lit, ← Nat.add_assoc]
  exact this
theorem Flat.len (hR : Flat R enc ok) {a : Option Addr} {n : Nat} (h : SlG R w a n l) : (l.flatMap enc).length = n * R.size := by
  have hp : ∀ p ∈ l.map (fun x => (enc x, ([] : List Nat))), p.1.length = R.size := fun p hp => by
    obtain ⟨x, hx, rfl⟩ := List.mem_map.1 hp
    obtain ⟨vs, hv⟩ := h.2.2.1 x hx
    have := R.seeLen hv
    rwa [(hR.see.1 hv).1] at this
  have e1 : cellsOf (l.map (fun x => (enc x, ([] : List Nat)))) = l.flatMap enc := by unfold cellsOf; rw [List.flatMap_map]
  rw [← e1, cellsOf_length hp, List.length_map, h.1]
end
theorem OwnG.appRun {α : Type} {R : Rd α} {P : Program} {V : World} {t ty : TypeId} {z : Value} {bytes : Nat} (ht : P.underlying t = some (.slice ty)) (hinfo : (P.info? ty).map (fun i => (i.zero, i.size, i.bytes)) = some (some z, R.size, bytes)) (hzs : z.cells.size = R.size) (hsz : 0 < R.size)
    {v : Value} {l : List α} {q : Parts} {us : List Value} {x : α} {F : List Nat} (h : OwnG ty R V v l q) (hx : R.own V us x F) (hd : ∀ k ∈ F, k ∉ v.ownBlock.toList ++ blocksOf q) {X : Nat} {T : TypeId} (hX : BoxIn X T [] us [] V) (hm : l.length + 1 ≤ maxLen) (hb : (l.length + 1) * bytes ≤ 140737488355328) (tyo : TypeId) :
    ∃ g cap w', (Builtin.append_ #[t, t] tyo #[v, .slice (some ⟨X, 0, none⟩) 1 1]).run P V = .ok (.slice (some ⟨g, 0, none⟩) (l.length + 1) cap) w' ∧ OwnG ty R w' (.slice (some ⟨g, 0, none⟩) (l.length + 1) cap) (l ++ [x]) (q ++ [(us, F)]) ∧ V.grownBy w' v.ownBlock ∧ (v.ownBlock = some g ∨ g = V.heap.size) := by
  obtain ⟨i, hi, hz0, hz1, hz2⟩ := info_parts hinfo
  obtain ⟨g, cap, w', h1, h2, h3, h4, h5⟩ := run_append_lies (P := P) V t tyo 0 ty i z R.size bytes ht hi hz0 hz1 hz2 hzs hsz v l.length (cellsOf q) h.row ⟨X, 0, none⟩ 1 1 us (by rw [R.ownLen hx, Nat.one_mul]) (fun j u hj => by
    have := hX.cell j u hj
    rw [Addr.add_lit, Nat.zero_add]
    simpa using this) (R.ownOne hx) (by omega) hm hb (Nat.zero_le _) V.heap.size rfl
  exact ⟨g, cap, w', h1, OwnG.snoc h hx hd h2 h3 h4 rfl, h3, h4⟩
theorem wp_append_run {P : Program} {w w' : World} {o : Oper} {a : Act} {K : Act → World → Prop} {Q : Exit → Act → World → Prop} (s x : Operand) (t : TypeId) (ho : o.op = .call { callee := .builtin .append, args := #[s, x], argTypes := #[t, t] }) {v1 v2 v' : Value} (hs : a.eval s = v1) (hx : a.eval x = v2)
    (hr : (Builtin.append_ #[t, t] o.type #[v1, v2]).run P w = .ok v' w') (h : K (a.put o.dst v') w') : o.wp P a w K Q := by
  unfold Oper.wp execOp
  simp only [ho, resolve, invoke, builtin, Sem.run_bind, Sem.run_pure, Result.andThen_ok, List.map_toArray, List.map_cons, List.map_nil, hs, hx, hr]
  exact h
theorem step_append_run {P : Program} {ops : Array Oper} {o : Oper} {a : Act} {w w' : World} {K : Act → World → Prop} {Q : Exit → Act → World → Prop} {E : Prop} (hgd : o.guard = none) (s x : Operand) (t : TypeId)
    (ho : o.op = .call { callee := .builtin .append, args := #[s, x], argTypes := #[t, t] }) {v1 v2 v' : Value} (hs : a.eval s = v1) (hx : a.eval x = v2) (hr : (Builtin.append_ #[t, t] o.type #[v1, v2]).run P w = .ok v' w') (h : K (a.put o.dst v') w') :
    if Region.wanted o (yielded ops a.tmps) = true then Oper.wp P o a w K Q else E := by
  have hw : Region.wanted o (yielded ops a.tmps) = true := by simp [Region.wanted, hgd]
  rw [if_pos hw]
  exact wp_append_run s x t ho hs hx hr h
section
variable {w : World} (g : Nat) (a : Option Addr) (n c : Nat) (ty : TypeId)
end
end Go.Proofs.Ytijplooogplccaa.cos

namespace Go.Proofs.Ytijplooogplccaa.stepg
open Go Go.RowKit
theorem call1 {P : Program} {ops : Array Oper} {o : Oper} {a : Act} {w : World} {K : Act → World → Prop} {Q : Exit → Act → World → Prop} {E : Prop} (hgd : o.guard = none) (f : FuncId) (x0 : Operand) (ts : Array TypeId)
    (ho : o.op = .call { callee := .value (.func f), args := #[x0], argTypes := ts }) (hent : ∀ args w, (callFunc f args).run P w = .ok (.enter f args) w)
    (v0 : Value) (h0 : a.eval x0 = v0) (R : Ending → World → Prop) (hc : Calls P f #[v0] w R)
    (h : ∀ e w', R e w' → ∃ v, e = .returned v ∧ K (a.put o.dst v) w') :
    if Region.wanted o (yielded ops a.tmps) = true then Oper.wp P o a w K Q else E := by
  have hw : Region.wanted o (yielded ops a.tmps) = true := by simp [Region.wanted, hgd]
  rw [if_pos hw]
  unfold Oper.wp execOp
  have hf : a.eval (.func f) = .func (.func f) #[] #[] := rfl
  have hof : (Deferred.ofValue (Value.func (Fn.func f) #[] #[]) #[v0]).run P w = .ok { target := .fn (.func f) #[], args := #[v0] } w := rfl
  simp only [ho, resolve, invoke, Sem.run_bind, List.map_toArray, List.map_cons, List.map_nil, h0, hf, hof, Result.andThen_ok, hent]
  show Calls P f #[v0] w _
  exact hc.mono (fun e w' he => by obtain ⟨v, rfl, hr⟩ := h e w' he; exact hr)
end Go.Proofs.Ytijplooogplccaa.stepg
