/- How words lie in memory, and rows of them. No function of the program is named here. A call as a step of a region that draws its order. No function of the program is named here. The program's words that ask shards to hold a job. -/
import Derived.Test.YtdeaiefhegjalaaBund12ah
import Derived.Test.YtdeaiefhegjalaaBund12ba
import Derived.Test.YtdeaiefhegjalaaBund12at
import Derived.WalkKit
import Derived.WalkSpells
import Derived.WalkLawsBesides
import Derived.Test.YtdeaiefhegjalaaBund12bb
import Derived.Test.YtdeaiefhegjalaaBund12au
import Derived.Test.YtdeaiefhegjalaaBund12be
namespace Go.Proofs.Ytdeaiefhegjalaa.cos
open Go Go.RowKit Go.Proofs.Ytdeaiefhegjalaa.base Go.Proofs.Ytdeaiefhegjalaa.pairs Go.Proofs.Ytdeaiefhegjalaa.ords Go.Proofs.Ytdeaiefhegjalaa.lay Go.Proofs.Ytdeaiefhegjalaa.wds
set_option linter.unusedVariables false
set_option linter.unusedSimpArgs false

def wordR : Rd Wd := both int (both int (both int (both opsR bool)))
def wordsR : Rd (List Wd) := slice 124 wordR
theorem infoW : (Try.prog.info? 124).map (fun i => (i.zero, i.size, i.bytes)) = some (some (.agg #[.int .i64 0, .int .i64 0, .int .i64 0, .slice none 0 0, .bool false]), 5, 56) := by kernel_rfl
section
variable {w : World} {vs : List Value} {x : Wd} {F : List Nat}
theorem word_see : wordR.see w vs x ↔ ∃ oa ol oc, vs = [.int .i64 x.1, .int .i64 x.2.1, .int .i64 x.2.2.1, .slice oa ol oc, .bool x.2.2.2.2] ∧ (Lit.int .i64 x.1).wf = true ∧ (Lit.int .i64 x.2.1).wf = true ∧ (Lit.int .i64 x.2.2.1).wf = true ∧ SlO w oa ol x.2.2.2.1 ∧ ol ≤ oc := by
  constructor
  · rintro ⟨u1, t1, rfl, h1, u2, t2, rfl, h2, u3, t3, rfl, h3, u4, t4, rfl, h4, h5⟩
    obtain ⟨rfl, k1⟩ := flat_int.see.1 h1
    obtain ⟨rfl, k2⟩ := flat_int.see.1 h2
    obtain ⟨rfl, k3⟩ := flat_int.see.1 h3
    obtain ⟨rfl, _⟩ := flat_bool.see.1 h5
    obtain ⟨oa, ol, oc, rfl, _⟩ := id h4
    have h6 := ops_see.1 h4
    exact ⟨oa, ol, oc, rfl, k1, k2, k3, h6.1, h6.2⟩
  · rintro ⟨oa, ol, oc, rfl, k1, k2, k3, h4, h5⟩
    exact ⟨[_], [_, _, _, _], rfl, flat_int.see.2 ⟨rfl, k1⟩, [_], [_, _, _], rfl, flat_int.see.2 ⟨rfl, k2⟩, [_], [_, _], rfl, flat_int.see.2 ⟨rfl, k3⟩, [_], [_], rfl, ops_see.2 ⟨h4, h5⟩, flat_bool.see.2 ⟨rfl, trivial⟩⟩
theorem word_own : wordR.own w vs x F ↔ ∃ v, vs = [.int .i64 x.1, .int .i64 x.2.1, .int .i64 x.2.2.1, v, .bool x.2.2.2.2] ∧ (Lit.int .i64 x.1).wf = true ∧ (Lit.int .i64 x.2.1).wf = true ∧ (Lit.int .i64 x.2.2.1).wf = true ∧ opsR.own w [v] x.2.2.2.1 F := by
  constructor
  · rintro ⟨u1, t1, F1, G1, rfl, rfl, h1, ⟨u2, t2, F2, G2, rfl, rfl, h2, ⟨u3, t3, F3, G3, rfl, rfl, h3, ⟨u4, t4, F4, G4, rfl, rfl, h4, h5, _⟩, _⟩, _⟩, _⟩
    obtain ⟨rfl, k1, rfl⟩ := flat_int.own.1 h1
    obtain ⟨rfl, k2, rfl⟩ := flat_int.own.1 h2
    obtain ⟨rfl, k3, rfl⟩ := flat_int.own.1 h3
    obtain ⟨rfl, _, rfl⟩ := flat_bool.own.1 h5
    obtain ⟨v, q, rfl, _⟩ := id h4
    exact ⟨v, rfl, k1, k2, k3, by simpa using h4⟩
  · rintro ⟨v, rfl, k1, k2, k3, h4⟩
    have hn := opsR.ownNodup h4
    exact ⟨[_], [_, _, v, _], [], F, rfl, rfl, flat_int.own.2 ⟨rfl, k1, rfl⟩, ⟨[_], [_, v, _], [], F, rfl, rfl, flat_int.own.2 ⟨rfl, k2, rfl⟩, ⟨[_], [v, _], [], F, rfl, rfl, flat_int.own.2 ⟨rfl, k3, rfl⟩, ⟨[v], [_], F, [], rfl, (List.append_nil _).symm, h4, flat_bool.own.2 ⟨rfl, trivial, rfl⟩, hn⟩, hn⟩, hn⟩, hn⟩
end
/-- words that ask shards to hold, but those that said yes -/
def holdsW (n tx : Int) (ops : List Od) (yes : List Int) (l : List Int) : List Wd := (l.filter fun s => !decide (s ∈ yes)).map fun s => (1, s, tx, opsFor s n ops, false)
theorem holdsW_snoc (n tx : Int) (ops : List Od) (yes : List Int) (l : List Int) (s : Int) : holdsW n tx ops yes (l ++ [s]) = if s ∈ yes then holdsW n tx ops yes l else holdsW n tx ops yes l ++ [(1, s, tx, opsFor s n ops, false)] := by
  unfold holdsW
  rw [List.filter_append, List.map_append]
  by_cases h : s ∈ yes
  · rw [if_pos h]; simp [List.filter_cons, h]
  · rw [if_neg h]; simp [List.filter_cons, h]
theorem holdsW_len (n tx : Int) (ops : List Od) (yes : List Int) (l : List Int) : (holdsW n tx ops yes l).length ≤ l.length := by
  unfold holdsW; rw [List.length_map]; exact List.length_filter_le _ _
def tellsW (tx : Int) (y : Bool) (l : List Int) : List Wd := l.map fun s => (3, s, tx, [], y)
end Go.Proofs.Ytdeaiefhegjalaa.cos

namespace Go.Proofs.Ytdeaiefhegjalaa.stepg
open Go Go.RowKit
theorem call1 {P : Program} {ops : Array Oper} {o : Oper} {a : Act} {w : World} {K : Act → World → Prop} {Q : Exit → Act → World → Prop} {E : Prop} (hgd : o.guard = none) (f : FuncId) (x0 : Operand) (ts : Array TypeId)
    (ho : o.op = .call { callee := .value (.func f), args := #[x0], argTypes := ts }) (hent : ∀ args w, (callFunc f args).run P w = .ok (.enter f args) w)
    (v0 : Value) (h0 : a.eval x0 = v0) (R : Ending → World → Prop) (hc : Calls P f #[v0] w R)
    (h : ∀ e w', R e w' → ∃ v, e = .returned v ∧ K (a.put o.dst v) w') :
    if Region.wanted o (yielded ops a.tmps) = true then Oper.wp P o a w K Q else E := by
  have hw : Region.wanted o (yielded ops a.tmps) = true := by simp [Region.wanted, hgd]
  rw [if_pos hw]
  unfold Oper.wp execOp
  have hf : a.eval (.func f) = .func (.func f) #[] #[] := rfl
  have hof : (Deferred.ofValue (Value.func (Fn.func f) #[] #[]) #[v0]).run P w = .ok { target := .fn (.func f) #[], args := #[v0] } w := rfl
  simp only [ho, resolve, invoke, Sem.run_bind, List.map_toArray, List.map_cons, List.map_nil, h0, hf, hof, Result.andThen_ok, hent]
  show Calls P f #[v0] w _
  exact hc.mono (fun e w' he => by obtain ⟨v, rfl, hr⟩ := h e w' he; exact hr)
theorem call2 {P : Program} {ops : Array Oper} {o : Oper} {a : Act} {w : World} {K : Act → World → Prop} {Q : Exit → Act → World → Prop} {E : Prop} (hgd : o.guard = none) (f : FuncId) (x0 x1 : Operand) (ts : Array TypeId)
    (ho : o.op = .call { callee := .value (.func f), args := #[x0, x1], argTypes := ts }) (hent : ∀ args w, (callFunc f args).run P w = .ok (.enter f args) w)
    (v0 v1 : Value) (h0 : a.eval x0 = v0) (h1 : a.eval x1 = v1) (R : Ending → World → Prop) (hc : Calls P f #[v0, v1] w R)
    (h : ∀ e w', R e w' → ∃ v, e = .returned v ∧ K (a.put o.dst v) w') :
    if Region.wanted o (yielded ops a.tmps) = true then Oper.wp P o a w K Q else E := by
  have hw : Region.wanted o (yielded ops a.tmps) = true := by simp [Region.wanted, hgd]
  rw [if_pos hw]
  unfold Oper.wp execOp
  have hf : a.eval (.func f) = .func (.func f) #[] #[] := rfl
  have hof : (Deferred.ofValue (Value.func (Fn.func f) #[] #[]) #[v0, v1]).run P w = .ok { target := .fn (.func f) #[], args := #[v0, v1] } w := rfl
  simp only [ho, resolve, invoke, Sem.run_bind, List.map_toArray, List.map_cons, List.map_nil, h0, h1, hf, hof, Result.andThen_ok, hent]
  show Calls P f #[v0, v1] w _
  exact hc.mono (fun e w' he => by obtain ⟨v, rfl, hr⟩ := h e w' he; exact hr)
theorem call3 {P : Program} {ops : Array Oper} {o : Oper} {a : Act} {w : World} {K : Act → World → Prop} {Q : Exit → Act → World → Prop} {E : Prop} (hgd : o.guard = none) (f : FuncId) (x0 x1 x2 : Operand) (ts : Array TypeId)
    (ho : o.op = .call { callee := .value (.func f), args := #[x0, x1, x2], argTypes := ts }) (hent : ∀ args w, (callFunc f args).run P w = .ok (.enter f args) w)
    (v0 v1 v2 : Value) (h0 : a.eval x0 = v0) (h1 : a.eval x1 = v1) (h2 : a.eval x2 = v2) (R : Ending → World → Prop) (hc : Calls P f #[v0, v1, v2] w R)
    (h : ∀ e w', R e w' → ∃ v, e = .returned v ∧ K (a.put o.dst v) w') :
    if Region.wanted o (yielded ops a.tmps) = true then Oper.wp P o a w K Q else E := by
  have hw : Region.wanted o (yielded ops a.tmps) = true := by simp [Region.wanted, hgd]
  rw [if_pos hw]
  unfold Oper.wp execOp
  have hf : a.eval (.func f) = .func (.func f) #[] #[] := rfl
  have hof : (Deferred.ofValue (Value.func (Fn.func f) #[] #[]) #[v0, v1, v2]).run P w = .ok { target := .fn (.func f) #[], args := #[v0, v1, v2] } w := rfl
  simp only [ho, resolve, invoke, Sem.run_bind, List.map_toArray, List.map_cons, List.map_nil, h0, h1, h2, hf, hof, Result.andThen_ok, hent]
  show Calls P f #[v0, v1, v2] w _
  exact hc.mono (fun e w' he => by obtain ⟨v, rfl, hr⟩ := h e w' he; exact hr)
theorem call4 {P : Program} {ops : Array Oper} {o : Oper} {a : Act} {w : World} {K : Act → World → Prop} {Q : Exit → Act → World → Prop} {E : Prop} (hgd : o.guard = none) (f : FuncId) (x0 x1 x2 x3 : Operand) (ts : Array TypeId)
    (ho : o.op = .call { callee := .value (.func f), args := #[x0, x1, x2, x3], argTypes := ts }) (hent : ∀ args w, (callFunc f args).run P w = .ok (.enter f args) w)
    (v0 v1 v2 v3 : Value) (h0 : a.eval x0 = v0) (h1 : a.eval x1 = v1) (h2 : a.eval x2 = v2) (h3 : a.eval x3 = v3) (R : Ending → World → Prop) (hc : Calls P f #[v0, v1, v2, v3] w R)
    (h : ∀ e w', R e w' → ∃ v, e = .returned v ∧ K (a.put o.dst v) w') :
    if Region.wanted o (yielded ops a.tmps) = true then Oper.wp P o a w K Q else E := by
  have hw : Region.wanted o (yielded ops a.tmps) = true := by simp [Region.wanted, hgd]
  rw [if_pos hw]
  unfold Oper.wp execOp
  have hf : a.eval (.func f) = .func (.func f) #[] #[] := rfl
  have hof : (Deferred.ofValue (Value.func (Fn.func f) #[] #[]) #[v0, v1, v2, v3]).run P w = .ok { target := .fn (.func f) #[], args := #[v0, v1, v2, v3] } w := rfl
  simp only [ho, resolve, invoke, Sem.run_bind, List.map_toArray, List.map_cons, List.map_nil, h0, h1, h2, h3, hf, hof, Result.andThen_ok, hent]
  show Calls P f #[v0, v1, v2, v3] w _
  exact hc.mono (fun e w' he => by obtain ⟨v, rfl, hr⟩ := h e w' he; exact hr)
end Go.Proofs.Ytdeaiefhegjalaa.stepg

namespace Go.Proofs.Ytdeaiefhegjalaa.cos
open Go Go.RowKit Go.Proofs.Ytdeaiefhegjalaa.base Go.Proofs.Ytdeaiefhegjalaa.pairs Go.Proofs.Ytdeaiefhegjalaa.ords Go.Proofs.Ytdeaiefhegjalaa.lay Go.Proofs.Ytdeaiefhegjalaa.wds
set_option linter.unusedVariables false
set_option linter.unusedSimpArgs false

/-- words of the call's own, not nil -/
def RetW (w : World) (x : List Wd) (e : Ending) (w' : World) : Prop := ∃ g m cap q, e = .returned (.slice (some ⟨g, 0, none⟩) m cap) ∧ OwnG 124 wordR w' (.slice (some ⟨g, 0, none⟩) m cap) x q ∧ (∀ k ∈ g :: blocksOf q, w.heap.size ≤ k) ∧ Below w.heap.size w w'
theorem RetW.v {w w' : World} {x : List Wd} {e : Ending} (h : RetW w x e w') : RetV wordsR w x e w' := by
  obtain ⟨g, m, cap, q, rfl, hO, hq, hb⟩ := h
  exact ⟨_, _, rfl, ⟨_, q, rfl, rfl, hO⟩, fun bb hb => hq bb (by simpa [Value.ownBlock] using hb), hb⟩
theorem row_new0 (w : World) : (w.alloc (.cells #[] 124)).ownsRow 0 124 5 (.slice (some ⟨w.heap.size, 0, none⟩) 0 0) 0 [] := World.ownsRow_made w #[] 0 (Nat.zero_le _) (Nat.zero_le _) (by simp)
theorem ownG_row0 {α : Type} {R : Rd α} {ty : TypeId} {w : World} {g n : Nat} {k : Nat} (h : w.ownsRow k ty R.size (.slice (some ⟨g, 0, none⟩) 0 n) 0 []) : OwnG ty R w (.slice (some ⟨g, 0, none⟩) 0 n) [] [] := by
  refine ⟨rfl, ?_, fun i hi => absurd hi (by simp), by simp [blocksOf, Value.ownBlock]⟩
  obtain ⟨h1, h2⟩ := h
  refine ⟨h1, ?_⟩
  rcases h2 with h2 | ⟨g', c', cur, h2, h3, h4⟩
  · exact .inl h2
  · exact .inr ⟨g', c', cur, h2, Nat.zero_le _, h4⟩
theorem _root_.Go.Proofs.Ytdeaiefhegjalaa.ords.OwnZ.kept {w w' : World} {base g n cap : Nat} {zs : List Int} (h : OwnZ w base g n cap zs) (hb : w'.heap[g]? = w.heap[g]?) : OwnZ w' base g n cap zs := by
  obtain ⟨h1, h2, h3⟩ := h
  refine ⟨h1, h2, ?_⟩
  rcases h3 with h3 | ⟨g', c', cur, e, h4, h5, h6⟩
  · exact .inl h3
  · cases e
    exact .inr ⟨g, _, cur, rfl, h4, hb.trans h5, h6⟩
theorem putI_len (l : List Int) (x : Int) : (putI l x).length ≤ l.length + 1 := by
  unfold putI
  split
  · omega
  · have h1 : (l.filter fun z => decide (z < x)).length + (l.filter fun z => decide (x < z)).length ≤ l.length := by
      induction l with
      | nil => simp
      | cons y l ih =>
        have ih2 : ∀ l : List Int, (l.filter fun z => decide (z < x)).length + (l.filter fun z => decide (x < z)).length ≤ l.length := by
          intro l
          induction l with
          | nil => simp
          | cons y l ih => by_cases h1 : y < x <;> by_cases h2 : x < y <;> simp [List.filter_cons, h1, h2] <;> omega
        exact ih2 _
    simp; omega
theorem shards_len (n : Int) (ops : List Od) {k : Nat} (h : ops.length ≤ k) : (shardsOf n ops).length ≤ k := by
  have : ∀ (l : List Od) (u : List Int), (l.foldl (fun u o => putI u (shardOf o.2.1 n)) u).length ≤ u.length + l.length := by
    intro l
    induction l with
    | nil => intro u; simp
    | cons o l ih =>
      intro u
      have h1 := ih (putI u (shardOf o.2.1 n))
      have h2 := putI_len u (shardOf o.2.1 n)
      simp only [List.foldl_cons, List.length_cons]
      omega
  have h1 := this ops []
  unfold shardsOf
  simp at h1
  omega
end Go.Proofs.Ytdeaiefhegjalaa.cos
