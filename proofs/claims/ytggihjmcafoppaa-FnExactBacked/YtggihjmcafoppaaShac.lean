/- How jobs, choices and one who decides lie in memory. No function of the program is named here. The specification's keys and pairs: what is right, what is got. The specification's lists of pairs. The specification's putting of keys. A region that draws its order, whose operations only read, but for its last, which waits for all the others: one walk of the text's order serves every order. No function of the program is named here. The specification's right pairs, and pairs put into others. The specification's orders: what is right, what is met. The specification's orders: all of them are right. hash walks The specification's orders: what is met, what is done, at which shard. The specification's orders: what is done, and those of a shard. The specification's shards of orders. The specification's places of choices and jobs; a box of one who decides. The specification's jobs: whether one is right. The specification's one who decides: whether it is right. The specification's answers of one who decides, and a new one. The specification's copy of orders. The specification's copy of one who decides: what is owned. -/
import Derived.Test.YtggihjmcafoppaaShaa
import Derived.Test.YtggihjmcafoppaaShab
import Derived.Deep.RegionHeld3
import Derived.Deep.QuietTactic
import Derived.BigQuiet
import Derived.WalkKit
import Derived.WalkSpells
import Derived.WalkLawsBesides
import Derived.Test.YtggihjmcafoppaaRows
import Derived.Handy
import Derived.Deep.Onto
namespace Go.Proofs.Ytggihjmcafoppaa.cos
open Go Go.RowKit Go.Proofs.Ytggihjmcafoppaa.base Go.Proofs.Ytggihjmcafoppaa.pairs Go.Proofs.Ytggihjmcafoppaa.ords Go.Proofs.Ytggihjmcafoppaa.lay Go.Proofs.Ytggihjmcafoppaa.wds
set_option linter.unusedVariables false
set_option linter.unusedSimpArgs false

/-! ### types without slices -/
structure Flat {α : Type} (R : Rd α) (enc : α → List Value) (ok : α → Prop) : Prop where
  own : ∀ {w vs x F}, R.own w vs x F ↔ vs = enc x ∧ ok x ∧ F = []
  see : ∀ {w vs x}, R.see w vs x ↔ vs = enc x ∧ ok x
theorem flat_int : Flat int (fun x => [.int .i64 x]) (fun x => (Lit.int .i64 x).wf = true) :=
  ⟨fun {_ _ _ _} => ⟨fun h => ⟨h.1.1, h.1.2, h.2⟩, fun h => ⟨⟨h.1, h.2.1⟩, h.2.2⟩⟩, fun {_ _ _} => Iff.rfl⟩
theorem flat_bool : Flat bool (fun x => [.bool x]) (fun _ => True) :=
  ⟨fun {_ _ _ _} => ⟨fun h => ⟨h.1, trivial, h.2⟩, fun h => ⟨h.1, h.2.2⟩⟩, fun {_ _ _} => ⟨fun h => ⟨h, trivial⟩, fun h => h.1⟩⟩
theorem flat_str : Flat str (fun x => [.string x]) (fun x => x.size ≤ maxLen) :=
  ⟨fun {_ _ _ _} => ⟨fun h => ⟨h.1.1, h.1.2, h.2⟩, fun h => ⟨⟨h.1, h.2.1⟩, h.2.2⟩⟩, fun {_ _ _} => Iff.rfl⟩
theorem flat_both {α β : Type} {R : Rd α} {S : Rd β} {e1 : α → List Value} {e2 : β → List Value} {o1 : α → Prop} {o2 : β → Prop} (h1 : Flat R e1 o1) (h2 : Flat S e2 o2) : Flat (both R S) (fun x => e1 x.1 ++ e2 x.2) (fun x => o1 x.1 ∧ o2 x.2) := by
  constructor
  · intro w vs x F
    constructor
    · rintro ⟨us, ts, F1, F2, rfl, rfl, h3, h4, _⟩
      obtain ⟨rfl, k1, rfl⟩ := h1.own.1 h3
      obtain ⟨rfl, k2, rfl⟩ := h2.own.1 h4
      exact ⟨rfl, ⟨k1, k2⟩, rfl⟩
    · rintro ⟨rfl, ⟨k1, k2⟩, rfl⟩
      exact ⟨_, _, [], [], rfl, rfl, h1.own.2 ⟨rfl, k1, rfl⟩, h2.own.2 ⟨rfl, k2, rfl⟩, List.nodup_nil⟩
  · intro w vs x
    constructor
    · rintro ⟨us, ts, rfl, h3, h4⟩
      obtain ⟨rfl, k1⟩ := h1.see.1 h3
      obtain ⟨rfl, k2⟩ := h2.see.1 h4
      exact ⟨rfl, k1, k2⟩
    · rintro ⟨rfl, k1, k2⟩
      exact ⟨_, _, rfl, h1.see.2 ⟨rfl, k1⟩, h2.see.2 ⟨rfl, k2⟩⟩
section
variable {α : Type} {R : Rd α} {enc : α → List Value} {ok : α → Prop} {ty : TypeId} {w : World} {v : Value} {l : List α} {q : Parts} {F : List Nat}
theorem Flat.parts (hR : Flat R enc ok) (h : OwnG ty R w v l q) : q = l.map (fun x => (enc x, [])) ∧ (∀ x ∈ l, ok x) ∧ blocksOf q = [] ∧ cellsOf q = l.flatMap enc := by
  have hl := h.len
  have e : q = l.map (fun x => (enc x, [])) := by
    refine List.ext_getElem (by simp [hl]) fun i h1 h2 => ?_
    have h3 := hR.own.1 (h.each i (by omega))
    rw [List.getElem_map]
    exact Prod.ext h3.1 h3.2.2
  refine ⟨e, fun x hx => ?_, ?_, ?_⟩
  · obtain ⟨i, hi, rfl⟩ := List.getElem_of_mem hx
    exact (hR.own.1 (h.each i hi)).2.1
  · rw [e]; unfold blocksOf; rw [List.flatMap_map]; simp
  · rw [e]; unfold cellsOf; rw [List.flatMap_map]
theorem Flat.row (hR : Flat R enc ok) (h : OwnG ty R w v l q) : w.ownsRow 0 ty R.size v l.length (l.flatMap enc) := by
  rw [← (hR.parts h).2.2.2]; exact h.row
theorem Flat.made (hR : Flat R enc ok) (hr : w.ownsRow 0 ty R.size v l.length (l.flatMap enc)) (hok : ∀ x ∈ l, ok x) : OwnG ty R w v l (l.map (fun x => (enc x, []))) := by
  have e1 : cellsOf (l.map (fun x => (enc x, ([] : List Nat)))) = l.flatMap enc := by unfold cellsOf; rw [List.flatMap_map]
  have e2 : blocksOf (l.map (fun x => (enc x, ([] : List Nat)))) = [] := by unfold blocksOf; rw [List.flatMap_map]; simp
  refine ⟨by simp, by rw [e1]; exact hr, fun i hi => ?_, by rw [e2]; cases v.ownBlock <;> simp⟩
  simp only [List.getElem_map]
  exact hR.own.2 ⟨rfl, hok _ (List.getElem_mem _), rfl⟩
theorem Flat.slice (hR : Flat R enc ok) : (lay.slice ty R).own w [v] l F ↔ w.ownsRow 0 ty R.size v l.length (l.flatMap enc) ∧ (∀ x ∈ l, ok x) ∧ F = v.ownBlock.toList := by
  constructor
  · rintro ⟨v', q, e, rfl, h⟩
    cases e
    exact ⟨hR.row h, (hR.parts h).2.1, by rw [(hR.parts h).2.2.1, List.append_nil]⟩
  · rintro ⟨h1, h2, rfl⟩
    have h3 := hR.made h1 h2
    exact ⟨v, _, rfl, by rw [(hR.parts h3).2.2.1, List.append_nil], h3⟩
end
/-! ### pairs, orders, whole numbers -/
def opR : Rd Od := both int (both str str)
theorem flat_op : Flat opR (fun o => [.int .i64 o.1, .string o.2.1, .string o.2.2]) smallO := flat_both flat_int (flat_both flat_str flat_str)
def opsR : Rd (List Od) := slice 121 opR
def intsR : Rd (List Int) := slice 3 int
section
variable {w w' : World} {a : Option Addr} {n cap : Nat} {F : List Nat} {v : Value}
theorem ops_own {l : List Od} : opsR.own w [v] l F ↔ OwnV w 0 v l ∧ F = v.ownBlock.toList := by
  unfold opsR
  rw [flat_op.slice]
  constructor
  · rintro ⟨h1, h2, h3⟩
    exact ⟨⟨h2, h1⟩, h3⟩
  · rintro ⟨⟨h1, h2⟩, h4⟩
    exact ⟨h2, h1, h4⟩
theorem ops_see {l : List Od} : opsR.see w [.slice a n cap] l ↔ SlO w a n l ∧ n ≤ cap := by
  constructor
  · rintro ⟨a', n', c', e, hc, h1, h2, h3, h4⟩
    cases e
    refine ⟨⟨h1, h2, fun p hp => ?_, fun h0 => ?_⟩, hc⟩
    · obtain ⟨vs, hv⟩ := h3 p hp
      exact (flat_op.see.1 hv).2
    · obtain ⟨b, off, e, hi⟩ := h4 h0
      refine ⟨b, off, e, fun i hl => ?_⟩
      obtain ⟨vs, hs, hcl⟩ := hi i hl
      obtain ⟨rfl, _⟩ := flat_op.see.1 hs
      exact ⟨hcl 0 _ rfl, hcl 1 _ rfl, hcl 2 _ rfl⟩
  · rintro ⟨⟨h1, h2, h3, h4⟩, hc⟩
    refine ⟨a, n, cap, rfl, hc, h1, h2, fun p hp => ⟨_, flat_op.see.2 ⟨rfl, h3 p hp⟩⟩, fun h0 => ?_⟩
    obtain ⟨b, off, e, hi⟩ := h4 h0
    refine ⟨b, off, e, fun i hl => ⟨_, flat_op.see.2 ⟨rfl, h3 _ (List.getElem_mem hl)⟩, fun j u hu => ?_⟩⟩
    obtain ⟨c0, c1, c2⟩ := hi i hl
    match j, hu with
    | 0, hu => cases hu; exact c0
    | 1, hu => cases hu; exact c1
    | 2, hu => cases hu; exact c2
def OwnZV (w : World) (v : Value) (l : List Int) : Prop := (∀ z ∈ l, (Lit.int .i64 z).wf = true) ∧ w.ownsRow 0 3 1 v l.length (intVals l)
theorem flatMap_ints (l : List Int) : (l.flatMap fun x => [Value.int .i64 x]) = intVals l := by
  induction l with
  | nil => rfl
  | cons x l ih => simp only [List.flatMap_cons, ih]; rfl
theorem ints_own {l : List Int} : intsR.own w [v] l F ↔ OwnZV w v l ∧ F = v.ownBlock.toList := by
  unfold intsR
  rw [flat_int.slice, flatMap_ints]
  constructor
  · rintro ⟨h1, h2, h3⟩
    exact ⟨⟨h2, h1⟩, h3⟩
  · rintro ⟨⟨h1, h2⟩, h4⟩
    exact ⟨h2, h1, h4⟩
theorem ints_see {l : List Int} : intsR.see w [.slice a n cap] l ↔ (SlZ w a n l ∧ ∀ z ∈ l, (Lit.int .i64 z).wf = true) ∧ n ≤ cap := by
  constructor
  · rintro ⟨a', n', c', e, hc, h1, h2, h3, h4⟩
    cases e
    refine ⟨⟨⟨h1, h2, fun h0 => ?_⟩, fun p hp => ?_⟩, hc⟩
    · obtain ⟨b, off, e, hi⟩ := h4 h0
      refine ⟨b, off, e, fun i hl => ?_⟩
      obtain ⟨vs, hs, hcl⟩ := hi i hl
      obtain ⟨rfl, _⟩ := flat_int.see.1 hs
      have := hcl 0 _ rfl
      simpa [int] using this
    · obtain ⟨vs, hv⟩ := h3 p hp
      exact (flat_int.see.1 hv).2
  · rintro ⟨⟨⟨h1, h2, h4⟩, h3⟩, hc⟩
    refine ⟨a, n, cap, rfl, hc, h1, h2, fun p hp => ⟨_, flat_int.see.2 ⟨rfl, h3 p hp⟩⟩, fun h0 => ?_⟩
    obtain ⟨b, off, e, hi⟩ := h4 h0
    refine ⟨b, off, e, fun i hl => ⟨_, flat_int.see.2 ⟨rfl, h3 _ (List.getElem_mem hl)⟩, fun j u hu => ?_⟩⟩
    have c0 := hi i hl
    match j, hu with
    | 0, hu => cases hu; simpa [int] using c0
end

/-! ### jobs and choices -/
def jobR : Rd Jb := both int (both opsR (both int intsR))
def jobsR : Rd (List Jb) := slice 130 jobR
def chR : Rd Ch := both int bool
def logR : Rd (List Ch) := slice 86 chR
theorem flat_ch : Flat chR (fun c => [.int .i64 c.1, .bool c.2]) (fun c => (Lit.int .i64 c.1).wf = true ∧ True) := flat_both flat_int flat_bool
section
variable {w w' : World} {a : Option Addr} {n cap : Nat} {F : List Nat} {v : Value}
theorem job_see {vs : List Value} {j : Jb} : jobR.see w vs j ↔ ∃ oa ol oc ya yl yc, vs = [.int .i64 j.1, .slice oa ol oc, .int .i64 j.2.2.1, .slice ya yl yc] ∧ (Lit.int .i64 j.1).wf = true ∧ (Lit.int .i64 j.2.2.1).wf = true ∧ (SlO w oa ol j.2.1 ∧ ol ≤ oc) ∧ (SlZ w ya yl j.2.2.2 ∧ ∀ z ∈ j.2.2.2, (Lit.int .i64 z).wf = true) ∧ yl ≤ yc := by
  constructor
  · rintro ⟨us, ts, rfl, h1, us2, ts2, rfl, h2, us3, ts3, rfl, h3, h4⟩
    obtain ⟨rfl, k1⟩ := flat_int.see.1 h1
    obtain ⟨rfl, k3⟩ := flat_int.see.1 h3
    obtain ⟨oa, ol, oc, rfl, _⟩ := id h2
    obtain ⟨ya, yl, yc, rfl, _⟩ := id h4
    have h5 := ops_see.1 h2
    have h6 := ints_see.1 h4
    exact ⟨oa, ol, oc, ya, yl, yc, rfl, k1, k3, h5, h6.1, h6.2⟩
  · rintro ⟨oa, ol, oc, ya, yl, yc, rfl, k1, k3, h5, h6, h7⟩
    exact ⟨[_], [_, _, _], rfl, flat_int.see.2 ⟨rfl, k1⟩, [_], [_, _], rfl, ops_see.2 h5, [_], [_], rfl, flat_int.see.2 ⟨rfl, k3⟩, ints_see.2 ⟨h6, h7⟩⟩
theorem job_own {vs : List Value} {j : Jb} : jobR.own w vs j F ↔ ∃ x y, vs = [.int .i64 j.1, x, .int .i64 j.2.2.1, y] ∧ (Lit.int .i64 j.1).wf = true ∧ (Lit.int .i64 j.2.2.1).wf = true ∧ OwnV w 0 x j.2.1 ∧ OwnZV w y j.2.2.2 ∧ F = x.ownBlock.toList ++ y.ownBlock.toList ∧ F.Nodup := by
  constructor
  · rintro ⟨us, ts, F1, F2, rfl, rfl, h1, ⟨us2, ts2, F3, F4, rfl, rfl, h2, ⟨us3, ts3, F5, F6, rfl, rfl, h3, h4, n3⟩, n2⟩, n1⟩
    obtain ⟨rfl, k1, rfl⟩ := flat_int.own.1 h1
    obtain ⟨rfl, k3, rfl⟩ := flat_int.own.1 h3
    obtain ⟨a1, c1, q1, rfl, _⟩ := own_open h2
    obtain ⟨a2, c2, q2, rfl, _⟩ := own_open h4
    obtain ⟨h5, rfl⟩ := ops_own.1 h2
    obtain ⟨h6, rfl⟩ := ints_own.1 h4
    exact ⟨_, _, rfl, k1, k3, h5, h6, rfl, n1⟩
  · rintro ⟨x, y, rfl, k1, k3, h5, h6, rfl, hn⟩
    have hn2 := (nodup_parts hn).2.1
    exact ⟨[_], [x, _, y], [], _, rfl, rfl, flat_int.own.2 ⟨rfl, k1, rfl⟩, ⟨[x], [_, y], _, _, rfl, rfl, ops_own.2 ⟨h5, rfl⟩, ⟨[_], [y], [], _, rfl, rfl, flat_int.own.2 ⟨rfl, k3, rfl⟩, ints_own.2 ⟨h6, rfl⟩, hn2⟩, hn⟩, hn⟩
theorem job_at {b off len : Nat} {l : List Jb} (h : SlG jobR w (some ⟨b, off, none⟩) len l) (i : Nat) (hi : i < l.length) :
    w.cell? ⟨b, off + i * 4, none⟩ = some (.int .i64 l[i].1) ∧ w.cell? ⟨b, off + i * 4 + 2, none⟩ = some (.int .i64 l[i].2.2.1) ∧
      (∃ oa ol oc, w.cell? ⟨b, off + i * 4 + 1, none⟩ = some (.slice oa ol oc) ∧ SlO w oa ol l[i].2.1 ∧ ol ≤ oc) ∧ (∃ ya yl yc, w.cell? ⟨b, off + i * 4 + 3, none⟩ = some (.slice ya yl yc) ∧ SlZ w ya yl l[i].2.2.2 ∧ yl ≤ yc) := by
  obtain ⟨b', off', e, hc⟩ := h.2.2.2 (by have := h.1; omega)
  simp only [Option.some.injEq, Addr.mk.injEq, and_true] at e
  obtain ⟨rfl, rfl⟩ := e
  obtain ⟨vs, hs, hcl⟩ := hc i hi
  obtain ⟨oa, ol, oc, ya, yl, yc, rfl, k1, k3, h5, h6, h7⟩ := job_see.1 hs
  exact ⟨hcl 0 _ rfl, hcl 2 _ rfl, ⟨oa, ol, oc, hcl 1 _ rfl, h5.1, h5.2⟩, ya, yl, yc, hcl 3 _ rfl, h6.1, h7⟩
theorem ch_at {b off len : Nat} {l : List Ch} (h : SlG chR w (some ⟨b, off, none⟩) len l) (i : Nat) (hi : i < l.length) : w.cell? ⟨b, off + i * 2, none⟩ = some (.int .i64 l[i].1) ∧ w.cell? ⟨b, off + i * 2 + 1, none⟩ = some (.bool l[i].2) := by
  obtain ⟨b', off', e, hc⟩ := h.2.2.2 (by have := h.1; omega)
  simp only [Option.some.injEq, Addr.mk.injEq, and_true] at e
  obtain ⟨rfl, rfl⟩ := e
  obtain ⟨vs, hs, hcl⟩ := hc i hi
  obtain ⟨rfl, _⟩ := flat_ch.see.1 hs
  exact ⟨hcl 0 _ rfl, hcl 1 _ rfl⟩
theorem slg_some {α : Type} {R : Rd α} {len : Nat} {l : List α} (h : SlG R w a len l) (h0 : 0 < len) : ∃ b off, a = some ⟨b, off, none⟩ := by
  obtain ⟨b, off, e, _⟩ := h.2.2.2 h0
  exact ⟨b, off, e⟩
end

/-! ### one who decides -/
def coordR : Rd Co := both int (both int (both int (both jobsR (both logR int))))
def coVals (n life next sure : Int) (ja : Option Addr) (jn jc : Nat) (la : Option Addr) (ln lc : Nat) : List Value := [.int .i64 n, .int .i64 life, .int .i64 next, .slice ja jn jc, .slice la ln lc, .int .i64 sure]
structure SeeCo (w : World) (ja : Option Addr) (jn jc : Nat) (la : Option Addr) (ln lc : Nat) (c : Co) : Prop where
  n : (Lit.int .i64 c.1).wf = true
  life : (Lit.int .i64 c.2.1).wf = true
  next : (Lit.int .i64 c.2.2.1).wf = true
  sure : (Lit.int .i64 c.2.2.2.2.2).wf = true
  jobs : SlG jobR w ja jn c.2.2.2.1
  log : SlG chR w la ln c.2.2.2.2.1
  jc : jn ≤ jc
  lc : ln ≤ lc
section
variable {w w' : World} {ja : Option Addr} {jn jc : Nat} {la : Option Addr} {ln lc : Nat} {c : Co} {vs : List Value} {F : List Nat}
theorem SeeCo.below (h : SeeCo w ja jn jc la ln lc c) (hb : Below w.heap.size w w') : SeeCo w' ja jn jc la ln lc c := ⟨h.n, h.life, h.next, h.sure, h.jobs.below hb, h.log.below hb, h.jc, h.lc⟩
theorem coord_see : coordR.see w vs c ↔ ∃ ja jn jc la ln lc, vs = coVals c.1 c.2.1 c.2.2.1 c.2.2.2.2.2 ja jn jc la ln lc ∧ SeeCo w ja jn jc la ln lc c := by
  constructor
  · rintro ⟨u1, t1, rfl, h1, u2, t2, rfl, h2, u3, t3, rfl, h3, u4, t4, rfl, h4, u5, t5, rfl, h5, h6⟩
    obtain ⟨rfl, k1⟩ := flat_int.see.1 h1
    obtain ⟨rfl, k2⟩ := flat_int.see.1 h2
    obtain ⟨rfl, k3⟩ := flat_int.see.1 h3
    obtain ⟨rfl, k6⟩ := flat_int.see.1 h6
    obtain ⟨ja, jn, jc, rfl, j1, j2⟩ := h4
    obtain ⟨la, ln, lc, rfl, l1, l2⟩ := h5
    exact ⟨ja, jn, jc, la, ln, lc, rfl, k1, k2, k3, k6, j2, l2, j1, l1⟩
  · rintro ⟨ja, jn, jc, la, ln, lc, rfl, h⟩
    exact ⟨[_], [_, _, _, _, _], rfl, flat_int.see.2 ⟨rfl, h.n⟩, [_], [_, _, _, _], rfl, flat_int.see.2 ⟨rfl, h.life⟩, [_], [_, _, _], rfl, flat_int.see.2 ⟨rfl, h.next⟩, [_], [_, _], rfl, ⟨_, _, _, rfl, h.jc, h.jobs⟩, [_], [_], rfl, ⟨_, _, _, rfl, h.lc, h.log⟩, flat_int.see.2 ⟨rfl, h.sure⟩⟩
end
end Go.Proofs.Ytggihjmcafoppaa.cos

namespace Go.Proofs.Ytggihjmcafoppaa.pairs
open Go Go.RowKit Go.Proofs.Ytggihjmcafoppaa.base
set_option linter.unusedVariables false
set_option linter.unusedSimpArgs false

theorem str_ne {a b : ByteArray} (h : a ≠ b) : (a.toList == b.toList) = false := by
  rw [beq_eq_false_iff_ne]; intro e; rw [ByteArray.toList_eq, ByteArray.toList_eq] at e; exact h (bytes_ext e)



end Go.Proofs.Ytggihjmcafoppaa.pairs

namespace Go.Proofs.Ytggihjmcafoppaa.pairs
open Go Go.RowKit Go.Proofs.Ytggihjmcafoppaa.base
set_option linter.unusedVariables false
set_option linter.unusedSimpArgs false

theorem take_snocP (l : List Pr) (k : Nat) (h : k < l.length) : l.take (k + 1) = l.take k ++ [l[k]] := List.take_succ_eq_append_getElem h
end Go.Proofs.Ytggihjmcafoppaa.pairs

namespace Go.Proofs.Ytggihjmcafoppaa.pairs
open Go Go.RowKit Go.Proofs.Ytggihjmcafoppaa.base
set_option linter.unusedVariables false
set_option linter.unusedSimpArgs false

end Go.Proofs.Ytggihjmcafoppaa.pairs

namespace Go.Proofs.Ytggihjmcafoppaa.last
open Go Go.RowKit
section
variable {P : Program} {ops : Array Oper} {md : Region.Mode} {C : World → Prop}

/-! ### calls that make memory: the class of the worlds that go on from w -/
def On (B : Nat) (w : World) : Type := { w' : World // Below B w w' }
def On.w {B : Nat} {w : World} (x : On B w) : World := x.1
theorem On.inh (B : Nat) (w : World) : Nonempty (On B w) := ⟨⟨w, Below.refl _ _⟩⟩
theorem wp_region_on {id : Nat} {Q : Exit → Act → World → Prop} {a : Act} {w : World} {l : List Oper} (B : Nat) (hm : P.follows .mixedOrders = true) (hB : Region.lexB .any l.toArray = true)
    (h : wpQuiet P l.toArray (fun w' => ∃ x : On B w, w' = x.w) (fun a' => ∀ w', (∃ x : On B w, w' = x.w) → Q .normal a' w') l a) : (Code.region id l.toArray true).wp P Q a w :=
  wp_region_quiet (C := fun w' => ∃ x : On B w, w' = x.w) hm hB ⟨⟨w.drew, (Below.refl _ _).drew⟩, rfl⟩ (by simpa using h)
theorem Calls.on {f : FuncId} {args : Array Value} {B : Nat} {w : World} {v : Value} (x : On B w) (hBw : B ≤ w.heap.size) (h : Calls P f args x.w fun e w' => e = .returned v ∧ Below x.w.heap.size x.w w') :
    Calls P f args x.w fun e w'' => e = .returned v ∧ ∃ y : On B w, w'' = y.w :=
  h.mono fun _ w'' ⟨he, hb⟩ => ⟨he, ⟨w'', x.2.trans (hb.mono (Nat.le_trans hBw x.2.size))⟩, rfl⟩
theorem On.cell {B : Nat} {w : World} {b o : Nat} {v : Value} (h : w.cell? ⟨b, o, none⟩ = some v) (hb : b < B) : ∀ x : On B w, x.w.cell? ⟨b, o, none⟩ = some v :=
  fun x => (x.2.cell (p := ⟨b, o, none⟩) hb).trans h

end
end Go.Proofs.Ytggihjmcafoppaa.last

namespace Go.Proofs.Ytggihjmcafoppaa.pairs
open Go Go.RowKit Go.Proofs.Ytggihjmcafoppaa.base
set_option linter.unusedVariables false
set_option linter.unusedSimpArgs false

end Go.Proofs.Ytggihjmcafoppaa.pairs

namespace Go.Proofs.Ytggihjmcafoppaa.ords
open Go Go.RowKit Go.Proofs.Ytggihjmcafoppaa.base Go.Proofs.Ytggihjmcafoppaa.pairs
set_option linter.unusedVariables false
set_option linter.unusedSimpArgs false

end Go.Proofs.Ytggihjmcafoppaa.ords

namespace Go.Proofs.Ytggihjmcafoppaa.ords
open Go Go.RowKit Go.Proofs.Ytggihjmcafoppaa.base Go.Proofs.Ytggihjmcafoppaa.pairs
set_option linter.unusedVariables false
set_option linter.unusedSimpArgs false

end Go.Proofs.Ytggihjmcafoppaa.ords

namespace Go.Proofs.Ytggihjmcafoppaa.hash
open Go.RowKit Go.Proofs.Ytggihjmcafoppaa.base
set_option linter.unusedVariables false
set_option linter.unusedSimpArgs false

end Go.Proofs.Ytggihjmcafoppaa.hash

namespace Go.Proofs.Ytggihjmcafoppaa.ords
open Go Go.RowKit Go.Proofs.Ytggihjmcafoppaa.base Go.Proofs.Ytggihjmcafoppaa.pairs
set_option linter.unusedVariables false
set_option linter.unusedSimpArgs false

end Go.Proofs.Ytggihjmcafoppaa.ords

namespace Go.Proofs.Ytggihjmcafoppaa.ords
open Go Go.RowKit Go.Proofs.Ytggihjmcafoppaa.base Go.Proofs.Ytggihjmcafoppaa.pairs
set_option linter.unusedVariables false
set_option linter.unusedSimpArgs false

end Go.Proofs.Ytggihjmcafoppaa.ords

namespace Go.Proofs.Ytggihjmcafoppaa.ords
open Go Go.RowKit Go.Proofs.Ytggihjmcafoppaa.base Go.Proofs.Ytggihjmcafoppaa.pairs
set_option linter.unusedVariables false
set_option linter.unusedSimpArgs false

end Go.Proofs.Ytggihjmcafoppaa.ords

namespace Go.Proofs.Ytggihjmcafoppaa.cos
open Go Go.RowKit Go.Proofs.Ytggihjmcafoppaa.base Go.Proofs.Ytggihjmcafoppaa.pairs Go.Proofs.Ytggihjmcafoppaa.ords Go.Proofs.Ytggihjmcafoppaa.lay Go.Proofs.Ytggihjmcafoppaa.wds
set_option linter.unusedVariables false
set_option linter.unusedSimpArgs false

abbrev coV (n life next sure : Int) (ja : Option Addr) (jn jc : Nat) (la : Option Addr) (ln lc : Nat) : Value := .agg #[.int .i64 n, .int .i64 life, .int .i64 next, .slice ja jn jc, .slice la ln lc, .int .i64 sure]
abbrev coO (n life next sure : Int) (ja : Option Addr) (jn jc : Nat) (la : Option Addr) (ln lc : Nat) : Obj := .cells #[.int .i64 n, .int .i64 life, .int .i64 next, .slice ja jn jc, .slice la ln lc, .int .i64 sure] 25
def BoxC (X : Nat) (n life next sure : Int) (ja : Option Addr) (jn jc : Nat) (la : Option Addr) (ln lc : Nat) (w : World) : Prop := w.heap[X]? = some (.cells #[.int .i64 n, .int .i64 life, .int .i64 next, .slice ja jn jc, .slice la ln lc, .int .i64 sure] 25 (0, 0))
section
variable {X : Nat} {n life next sure : Int} {ja : Option Addr} {jn jc : Nat} {la : Option Addr} {ln lc : Nat} {w w' : World}
theorem boxC_new (w : World) (n life next sure : Int) (ja : Option Addr) (jn jc : Nat) (la : Option Addr) (ln lc : Nat) : BoxC w.heap.size n life next sure ja jn jc la ln lc (w.alloc (coO n life next sure ja jn jc la ln lc)) := heap_alloc_new w _
theorem BoxC.cells (h : BoxC X n life next sure ja jn jc la ln lc w) : w.cell? ⟨X, 0, none⟩ = some (.int .i64 n) ∧ w.cell? ⟨X, 1, none⟩ = some (.int .i64 life) ∧ w.cell? ⟨X, 2, none⟩ = some (.int .i64 next) ∧ w.cell? ⟨X, 3, none⟩ = some (.slice ja jn jc) ∧ w.cell? ⟨X, 4, none⟩ = some (.slice la ln lc) ∧ w.cell? ⟨X, 5, none⟩ = some (.int .i64 sure) := by
  unfold BoxC at h
  simp [World.cell?, h]
theorem BoxC.lt (h : BoxC X n life next sure ja jn jc la ln lc w) : X < w.heap.size := (Array.getElem?_eq_some_iff.1 h).1
theorem BoxC.below (h : BoxC X n life next sure ja jn jc la ln lc w) (hb : Below w.heap.size w w') : BoxC X n life next sure ja jn jc la ln lc w' := (hb.block X h.lt).trans h
theorem BoxC.grown {row : Option Nat} (h : BoxC X n life next sure ja jn jc la ln lc w) (hg : w.grownBy w' row) (hne : some X ≠ row) : BoxC X n life next sure ja jn jc la ln lc w' := (hg.block X h.lt hne).trans h
theorem BoxC.fz (h : BoxC X n life next sure ja jn jc la ln lc w) (j : Nat) : w.frozen? ⟨X, j, none⟩ = false := by unfold BoxC at h; simp [World.frozen?, h]
end
theorem below_new (w : World) (o : Obj) : Below w.heap.size w (w.alloc o) := (Below.refl _ _).alloc (Nat.le_refl _) _
end Go.Proofs.Ytggihjmcafoppaa.cos

namespace Go.Proofs.Ytggihjmcafoppaa.cos
open Go Go.RowKit Go.Proofs.Ytggihjmcafoppaa.base Go.Proofs.Ytggihjmcafoppaa.pairs Go.Proofs.Ytggihjmcafoppaa.ords Go.Proofs.Ytggihjmcafoppaa.lay Go.Proofs.Ytggihjmcafoppaa.wds
set_option linter.unusedVariables false
set_option linter.unusedSimpArgs false

def BoxJ (X : Nat) (tx st : Int) (v y : Value) (w : World) : Prop := w.heap[X]? = some (.cells #[.int .i64 tx, v, .int .i64 st, y] 130 (0, 0))
section
variable {X : Nat} {tx st : Int} {v y : Value} {w w' : World}
theorem BoxJ.cells (h : BoxJ X tx st v y w) : w.cell? ⟨X, 0, none⟩ = some (.int .i64 tx) ∧ w.cell? ⟨X, 1, none⟩ = some v ∧ w.cell? ⟨X, 2, none⟩ = some (.int .i64 st) ∧ w.cell? ⟨X, 3, none⟩ = some y := by
  unfold BoxJ at h
  simp [World.cell?, h]
theorem BoxJ.lt (h : BoxJ X tx st v y w) : X < w.heap.size := (Array.getElem?_eq_some_iff.1 h).1
theorem BoxJ.below (h : BoxJ X tx st v y w) (hb : Below w.heap.size w w') : BoxJ X tx st v y w' := (hb.block X h.lt).trans h
end
structure AtJ (w0 w : World) (n life next sure : Int) (ja : Option Addr) (jn jc : Nat) (la : Option Addr) (ln lc : Nat) (tx st : Int) (oa : Option Addr) (ol oc : Nat) (ya : Option Addr) (yl yc : Nat) (ops : List Od) (yes : List Int) (log : List Ch) : Prop where
  bel : Below w0.heap.size w0 w
  bc : BoxC w0.heap.size n life next sure ja jn jc la ln lc w
  bj : BoxJ (w0.heap.size + 1) tx st (.slice oa ol oc) (.slice ya yl yc) w
  ops : SlO w oa ol ops
  yes : SlZ w ya yl yes
  log : SlG chR w la ln log
theorem AtJ.below {w0 w w' : World} {n life next sure : Int} {ja : Option Addr} {jn jc : Nat} {la : Option Addr} {ln lc : Nat} {tx st : Int} {oa : Option Addr} {ol oc : Nat} {ya : Option Addr} {yl yc : Nat} {ops : List Od} {yes : List Int} {log : List Ch} (h : AtJ w0 w n life next sure ja jn jc la ln lc tx st oa ol oc ya yl yc ops yes log) (hb : Below w.heap.size w w') : AtJ w0 w' n life next sure ja jn jc la ln lc tx st oa ol oc ya yl yc ops yes log :=
  ⟨h.bel.trans (hb.mono h.bel.size), h.bc.below hb, h.bj.below hb, h.ops.below hb, h.yes.below hb, h.log.below hb⟩
end Go.Proofs.Ytggihjmcafoppaa.cos

namespace Go.Proofs.Ytggihjmcafoppaa.cos
open Go Go.RowKit Go.Proofs.Ytggihjmcafoppaa.base Go.Proofs.Ytggihjmcafoppaa.pairs Go.Proofs.Ytggihjmcafoppaa.ords Go.Proofs.Ytggihjmcafoppaa.lay Go.Proofs.Ytggihjmcafoppaa.wds
set_option linter.unusedVariables false
set_option linter.unusedSimpArgs false

def FitsCo (c : Co) : Prop := c.2.2.2.1.length ≤ 1099511627776 ∧ c.2.2.2.2.1.length ≤ 1099511627776 ∧ ∀ j ∈ c.2.2.2.1, j.2.1.length ≤ 1099511627776 ∧ (∀ p ∈ j.2.1, p.2.1.size ≤ 1099511627776)

end Go.Proofs.Ytggihjmcafoppaa.cos

namespace Go.Proofs.Ytggihjmcafoppaa.cos
open Go Go.RowKit Go.Proofs.Ytggihjmcafoppaa.base Go.Proofs.Ytggihjmcafoppaa.pairs Go.Proofs.Ytggihjmcafoppaa.ords Go.Proofs.Ytggihjmcafoppaa.lay Go.Proofs.Ytggihjmcafoppaa.wds
set_option linter.unusedVariables false
set_option linter.unusedSimpArgs false

end Go.Proofs.Ytggihjmcafoppaa.cos

namespace Go.Proofs.Ytggihjmcafoppaa.wds
open Go Go.RowKit Go.Proofs.Ytggihjmcafoppaa.base Go.Proofs.Ytggihjmcafoppaa.pairs Go.Proofs.Ytggihjmcafoppaa.ords
set_option linter.unusedVariables false
set_option linter.unusedSimpArgs false

end Go.Proofs.Ytggihjmcafoppaa.wds

namespace Go.Proofs.Ytggihjmcafoppaa.cos
open Go Go.RowKit Go.Proofs.Ytggihjmcafoppaa.base Go.Proofs.Ytggihjmcafoppaa.pairs Go.Proofs.Ytggihjmcafoppaa.ords Go.Proofs.Ytggihjmcafoppaa.lay Go.Proofs.Ytggihjmcafoppaa.wds
set_option linter.unusedVariables false
set_option linter.unusedSimpArgs false

theorem BoxJ.fz {X : Nat} {tx st : Int} {v y : Value} {w : World} (h : BoxJ X tx st v y w) (j : Nat) : w.frozen? ⟨X, j, none⟩ = false := by unfold BoxJ at h; simp [World.frozen?, h]
structure CopyAt (w V : World) (n life next sure : Int) (ja : Option Addr) (jn jc : Nat) (la : Option Addr) (ln lc : Nat) (k gj jcap gl lcap : Nat) (jobs : List Jb) (log : List Ch) (q ql : Parts) : Prop where
  bel : Below w.heap.size w V
  p : BoxC w.heap.size n life next sure ja jn jc la ln lc V
  r : BoxC (w.heap.size + 1) 0 0 0 0 none 0 0 none 0 0 V
  o : BoxC (w.heap.size + 1 + 1) n life next sure (some ⟨gj, 0, none⟩) k jcap (some ⟨gl, 0, none⟩) ln lcap V
  jobs : OwnG 130 jobR V (.slice (some ⟨gj, 0, none⟩) k jcap) jobs q
  log : OwnG 86 chR V (.slice (some ⟨gl, 0, none⟩) ln lcap) log ql
  new : ∀ b ∈ gl :: gj :: blocksOf q, w.heap.size + 3 ≤ b
  ne : gl ∉ gj :: blocksOf q
section
variable {w V V' : World} {n life next sure : Int} {ja : Option Addr} {jn jc : Nat} {la : Option Addr} {ln lc k gj jcap gl lcap : Nat} {jobs : List Jb} {log : List Ch} {q ql : Parts}
theorem CopyAt.below (h : CopyAt w V n life next sure ja jn jc la ln lc k gj jcap gl lcap jobs log q ql) (hb : Below V.heap.size V V') : CopyAt w V' n life next sure ja jn jc la ln lc k gj jcap gl lcap jobs log q ql :=
  ⟨h.bel.trans (hb.mono h.bel.size), h.p.below hb, h.r.below hb, h.o.below hb, h.jobs.keep fun b hk => hb.block b (h.jobs.at_ b hk), h.log.keep fun b hk => hb.block b (h.log.at_ b hk), h.new, h.ne⟩
theorem CopyAt.other (h : CopyAt w V n life next sure ja jn jc la ln lc k gj jcap gl lcap jobs log q ql) {g : Nat} (hg : V.grownBy V' (some g)) (h1 : w.heap.size + 3 ≤ g) (h2 : g ≠ gl) (h3 : g ∉ gj :: blocksOf q) (h4 : g ∉ blocksOf ql) : CopyAt w V' n life next sure ja jn jc la ln lc k gj jcap gl lcap jobs log q ql := by
  refine ⟨h.bel.grown hg h.bel.size (fun k e => by cases e; omega), h.p.grown hg (by simp; omega), h.r.grown hg (by simp; omega), h.o.grown hg (by simp; omega), h.jobs.keep fun b hk => hg.block b (h.jobs.at_ b hk) ?_, h.log.keep fun b hk => hg.block b (h.log.at_ b hk) ?_, h.new, h.ne⟩
  · intro e; cases e
    exact h3 (by simpa [Value.ownBlock] using hk)
  · intro e; cases e
    rcases List.mem_append.1 hk with hk | hk
    · exact h2 (by simpa [Value.ownBlock] using hk)
    · exact h4 hk
end
end Go.Proofs.Ytggihjmcafoppaa.cos
