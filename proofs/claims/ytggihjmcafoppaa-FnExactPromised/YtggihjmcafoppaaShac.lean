/- How jobs, choices and one who decides lie in memory. No function of the program is named here. The specification's keys and pairs: what is right, what is got. The specification's lists of pairs. The specification's putting of keys. A region that draws its order, whose operations only read, but for its last, which waits for all the others: one walk of the text's order serves every order. No function of the program is named here. The specification's right pairs, and pairs put into others. The specification's orders: what is right, what is met. The specification's orders: all of them are right. hash walks The specification's orders: what is met, what is done, at which shard. The specification's orders: what is done, and those of a shard. The specification's shards of orders. -/
import Derived.Test.YtggihjmcafoppaaShaa
import Derived.Test.YtggihjmcafoppaaShab
import Derived.Deep.RegionHeld3
import Derived.Deep.QuietTactic
import Derived.BigQuiet
import Derived.WalkKit
import Derived.WalkSpells
import Derived.WalkLawsBesides
import Derived.Test.YtggihjmcafoppaaRows
namespace Go.Proofs.Ytggihjmcafoppaa.cos
open Go Go.RowKit Go.Proofs.Ytggihjmcafoppaa.base Go.Proofs.Ytggihjmcafoppaa.pairs Go.Proofs.Ytggihjmcafoppaa.ords Go.Proofs.Ytggihjmcafoppaa.lay Go.Proofs.Ytggihjmcafoppaa.wds
set_option linter.unusedVariables false
set_option linter.unusedSimpArgs false

/-! ### types without slices -/
structure Flat {α : Type} (R : Rd α) (enc : α → List Value) (ok : α → Prop) : Prop where
  own : ∀ {w vs x F}, R.own w vs x F ↔ vs = enc x ∧ ok x ∧ F = []
  see : ∀ {w vs x}, R.see w vs x ↔ vs = enc x ∧ ok x
theorem flat_int : Flat int (fun x => [.int .i64 x]) (fun x => (Lit.int .i64 x).wf = true) :=
  ⟨fun {_ _ _ _} => ⟨fun h => ⟨h.1.1, h.1.2, h.2⟩, fun h => ⟨⟨h.1, h.2.1⟩, h.2.2⟩⟩, fun {_ _ _} => Iff.rfl⟩
theorem flat_bool : Flat bool (fun x => [.bool x]) (fun _ => True) :=
  ⟨fun {_ _ _ _} => ⟨fun h => ⟨h.1, trivial, h.2⟩, fun h => ⟨h.1, h.2.2⟩⟩, fun {_ _ _} => ⟨fun h => ⟨h, trivial⟩, fun h => h.1⟩⟩
theorem flat_str : Flat str (fun x => [.string x]) (fun x => x.size ≤ maxLen) :=
  ⟨fun {_ _ _ _} => ⟨fun h => ⟨h.1.1, h.1.2, h.2⟩, fun h => ⟨⟨h.1, h.2.1⟩, h.2.2⟩⟩, fun {_ _ _} => Iff.rfl⟩
theorem flat_both {α β : Type} {R : Rd α} {S : Rd β} {e1 : α → List Value} {e2 : β → List Value} {o1 : α → Prop} {o2 : β → Prop} (h1 : Flat R e1 o1) (h2 : Flat S e2 o2) : Flat (both R S) (fun x => e1 x.1 ++ e2 x.2) (fun x => o1 x.1 ∧ o2 x.2) := by
  constructor
  · intro w vs x F
    constructor
    · rintro ⟨us, ts, F1, F2, rfl, rfl, h3, h4, _⟩
      obtain ⟨rfl, k1, rfl⟩ := h1.own.1 h3
      obtain ⟨rfl, k2, rfl⟩ := h2.own.1 h4
      exact ⟨rfl, ⟨k1, k2⟩, rfl⟩
    · rintro ⟨rfl, ⟨k1, k2⟩, rfl⟩
      exact ⟨_, _, [], [], rfl, rfl, h1.own.2 ⟨rfl, k1, rfl⟩, h2.own.2 ⟨rfl, k2, rfl⟩, List.nodup_nil⟩
  · intro w vs x
    constructor
    · rintro ⟨us, ts, rfl, h3, h4⟩
      obtain ⟨rfl, k1⟩ := h1.see.1 h3
      obtain ⟨rfl, k2⟩ := h2.see.1 h4
      exact ⟨rfl, k1, k2⟩
    · rintro ⟨rfl, k1, k2⟩
      exact ⟨_, _, rfl, h1.see.2 ⟨rfl, k1⟩, h2.see.2 ⟨rfl, k2⟩⟩
section
variable {α : Type} {R : Rd α} {enc : α → List Value} {ok : α → Prop} {ty : TypeId} {w : World} {v : Value} {l : List α} {q : Parts} {F : List Nat}
theorem Flat.parts (hR : Flat R enc ok) (h : OwnG ty R w v l q) : q = l.map (fun x => (enc x, [])) ∧ (∀ x ∈ l, ok x) ∧ blocksOf q = [] ∧ cellsOf q = l.flatMap enc := by
  have hl := h.len
  have e : q = l.map (fun x => (enc x, [])) := by
    refine List.ext_getElem (by simp [hl]) fun i h1 h2 => ?_
    have h3 := hR.own.1 (h.each i (by omega))
    rw [List.getElem_map]
    exact Prod.ext h3.1 h3.2.2
  refine ⟨e, fun x hx => ?_, ?_, ?_⟩
  · obtain ⟨i, hi, rfl⟩ := List.getElem_of_mem hx
    exact (hR.own.1 (h.each i hi)).2.1
  · rw [e]; unfold blocksOf; rw [List.flatMap_map]; simp
  · rw [e]; unfold cellsOf; rw [List.flatMap_map]
theorem Flat.row (hR : Flat R enc ok) (h : OwnG ty R w v l q) : w.ownsRow 0 ty R.size v l.length (l.flatMap enc) := by
  rw [← (hR.parts h).2.2.2]; exact h.row
theorem Flat.made (hR : Flat R enc ok) (hr : w.ownsRow 0 ty R.size v l.length (l.flatMap enc)) (hok : ∀ x ∈ l, ok x) : OwnG ty R w v l (l.map (fun x => (enc x, []))) := by
  have e1 : cellsOf (l.map (fun x => (enc x, ([] : List Nat)))) = l.flatMap enc := by unfold cellsOf; rw [List.flatMap_map]
  have e2 : blocksOf (l.map (fun x => (enc x, ([] : List Nat)))) = [] := by unfold blocksOf; rw [List.flatMap_map]; simp
  refine ⟨by simp, by rw [e1]; exact hr, fun i hi => ?_, by rw [e2]; cases v.ownBlock <;> simp⟩
  simp only [List.getElem_map]
  exact hR.own.2 ⟨rfl, hok _ (List.getElem_mem _), rfl⟩
theorem Flat.slice (hR : Flat R enc ok) : (lay.slice ty R).own w [v] l F ↔ w.ownsRow 0 ty R.size v l.length (l.flatMap enc) ∧ (∀ x ∈ l, ok x) ∧ F = v.ownBlock.toList := by
  constructor
  · rintro ⟨v', q, e, rfl, h⟩
    cases e
    exact ⟨hR.row h, (hR.parts h).2.1, by rw [(hR.parts h).2.2.1, List.append_nil]⟩
  · rintro ⟨h1, h2, rfl⟩
    have h3 := hR.made h1 h2
    exact ⟨v, _, rfl, by rw [(hR.parts h3).2.2.1, List.append_nil], h3⟩
end
/-! ### pairs, orders, whole numbers -/
def opR : Rd Od := both int (both str str)
theorem flat_op : Flat opR (fun o => [.int .i64 o.1, .string o.2.1, .string o.2.2]) smallO := flat_both flat_int (flat_both flat_str flat_str)
def opsR : Rd (List Od) := slice 121 opR
def intsR : Rd (List Int) := slice 3 int
section
variable {w w' : World} {a : Option Addr} {n cap : Nat} {F : List Nat} {v : Value}
theorem ops_own {l : List Od} : opsR.own w [v] l F ↔ OwnV w 0 v l ∧ F = v.ownBlock.toList := by
  unfold opsR
  rw [flat_op.slice]
  constructor
  · rintro ⟨h1, h2, h3⟩
    exact ⟨⟨h2, h1⟩, h3⟩
  · rintro ⟨⟨h1, h2⟩, h4⟩
    exact ⟨h2, h1, h4⟩
theorem ops_see {l : List Od} : opsR.see w [.slice a n cap] l ↔ SlO w a n l ∧ n ≤ cap := by
  constructor
  · rintro ⟨a', n', c', e, hc, h1, h2, h3, h4⟩
    cases e
    refine ⟨⟨h1, h2, fun p hp => ?_, fun h0 => ?_⟩, hc⟩
    · obtain ⟨vs, hv⟩ := h3 p hp
      exact (flat_op.see.1 hv).2
    · obtain ⟨b, off, e, hi⟩ := h4 h0
      refine ⟨b, off, e, fun i hl => ?_⟩
      obtain ⟨vs, hs, hcl⟩ := hi i hl
      obtain ⟨rfl, _⟩ := flat_op.see.1 hs
      exact ⟨hcl 0 _ rfl, hcl 1 _ rfl, hcl 2 _ rfl⟩
  · rintro ⟨⟨h1, h2, h3, h4⟩, hc⟩
    refine ⟨a, n, cap, rfl, hc, h1, h2, fun p hp => ⟨_, flat_op.see.2 ⟨rfl, h3 p hp⟩⟩, fun h0 => ?_⟩
    obtain ⟨b, off, e, hi⟩ := h4 h0
    refine ⟨b, off, e, fun i hl => ⟨_, flat_op.see.2 ⟨rfl, h3 _ (List.getElem_mem hl)⟩, fun j u hu => ?_⟩⟩
    obtain ⟨c0, c1, c2⟩ := hi i hl
    match j, hu with
    | 0, hu => cases hu; exact c0
    | 1, hu => cases hu; exact c1
    | 2, hu => cases hu; exact c2
def OwnZV (w : World) (v : Value) (l : List Int) : Prop := (∀ z ∈ l, (Lit.int .i64 z).wf = true) ∧ w.ownsRow 0 3 1 v l.length (intVals l)
theorem flatMap_ints (l : List Int) : (l.flatMap fun x => [Value.int .i64 x]) = intVals l := by
  induction l with
  | nil => rfl
  | cons x l ih => simp only [List.flatMap_cons, ih]; rfl
theorem ints_own {l : List Int} : intsR.own w [v] l F ↔ OwnZV w v l ∧ F = v.ownBlock.toList := by
  unfold intsR
  rw [flat_int.slice, flatMap_ints]
  constructor
  · rintro ⟨h1, h2, h3⟩
    exact ⟨⟨h2, h1⟩, h3⟩
  · rintro ⟨⟨h1, h2⟩, h4⟩
    exact ⟨h2, h1, h4⟩
theorem ints_see {l : List Int} : intsR.see w [.slice a n cap] l ↔ (SlZ w a n l ∧ ∀ z ∈ l, (Lit.int .i64 z).wf = true) ∧ n ≤ cap := by
  constructor
  · rintro ⟨a', n', c', e, hc, h1, h2, h3, h4⟩
    cases e
    refine ⟨⟨⟨h1, h2, fun h0 => ?_⟩, fun p hp => ?_⟩, hc⟩
    · obtain ⟨b, off, e, hi⟩ := h4 h0
      refine ⟨b, off, e, fun i hl => ?_⟩
      obtain ⟨vs, hs, hcl⟩ := hi i hl
      obtain ⟨rfl, _⟩ := flat_int.see.1 hs
      have := hcl 0 _ rfl
      simpa [int] using this
    · obtain ⟨vs, hv⟩ := h3 p hp
      exact (flat_int.see.1 hv).2
  · rintro ⟨⟨⟨h1, h2, h4⟩, h3⟩, hc⟩
    refine ⟨a, n, cap, rfl, hc, h1, h2, fun p hp => ⟨_, flat_int.see.2 ⟨rfl, h3 p hp⟩⟩, fun h0 => ?_⟩
    obtain ⟨b, off, e, hi⟩ := h4 h0
    refine ⟨b, off, e, fun i hl => ⟨_, flat_int.see.2 ⟨rfl, h3 _ (List.getElem_mem hl)⟩, fun j u hu => ?_⟩⟩
    have c0 := hi i hl
    match j, hu with
    | 0, hu => cases hu; simpa [int] using c0
end

/-! ### jobs and choices -/
def jobR : Rd Jb := both int (both opsR (both int intsR))
def jobsR : Rd (List Jb) := slice 130 jobR
def chR : Rd Ch := both int bool
def logR : Rd (List Ch) := slice 86 chR
theorem flat_ch : Flat chR (fun c => [.int .i64 c.1, .bool c.2]) (fun c => (Lit.int .i64 c.1).wf = true ∧ True) := flat_both flat_int flat_bool
section
variable {w w' : World} {a : Option Addr} {n cap : Nat} {F : List Nat} {v : Value}
theorem job_see {vs : List Value} {j : Jb} : jobR.see w vs j ↔ ∃ oa ol oc ya yl yc, vs = [.int .i64 j.1, .slice oa ol oc, .int .i64 j.2.2.1, .slice ya yl yc] ∧ (Lit.int .i64 j.1).wf = true ∧ (Lit.int .i64 j.2.2.1).wf = true ∧ (SlO w oa ol j.2.1 ∧ ol ≤ oc) ∧ (SlZ w ya yl j.2.2.2 ∧ ∀ z ∈ j.2.2.2, (Lit.int .i64 z).wf = true) ∧ yl ≤ yc := by
  constructor
  · rintro ⟨us, ts, rfl, h1, us2, ts2, rfl, h2, us3, ts3, rfl, h3, h4⟩
    obtain ⟨rfl, k1⟩ := flat_int.see.1 h1
    obtain ⟨rfl, k3⟩ := flat_int.see.1 h3
    obtain ⟨oa, ol, oc, rfl, _⟩ := id h2
    obtain ⟨ya, yl, yc, rfl, _⟩ := id h4
    have h5 := ops_see.1 h2
    have h6 := ints_see.1 h4
    exact ⟨oa, ol, oc, ya, yl, yc, rfl, k1, k3, h5, h6.1, h6.2⟩
  · rintro ⟨oa, ol, oc, ya, yl, yc, rfl, k1, k3, h5, h6, h7⟩
    exact ⟨[_], [_, _, _], rfl, flat_int.see.2 ⟨rfl, k1⟩, [_], [_, _], rfl, ops_see.2 h5, [_], [_], rfl, flat_int.see.2 ⟨rfl, k3⟩, ints_see.2 ⟨h6, h7⟩⟩
theorem job_own {vs : List Value} {j : Jb} : jobR.own w vs j F ↔ ∃ x y, vs = [.int .i64 j.1, x, .int .i64 j.2.2.1, y] ∧ (Lit.int .i64 j.1).wf = true ∧ (Lit.int .i64 j.2.2.1).wf = true ∧ OwnV w 0 x j.2.1 ∧ OwnZV w y j.2.2.2 ∧ F = x.ownBlock.toList ++ y.ownBlock.toList ∧ F.Nodup := by
  constructor
  · rintro ⟨us, ts, F1, F2, rfl, rfl, h1, ⟨us2, ts2, F3, F4, rfl, rfl, h2, ⟨us3, ts3, F5, F6, rfl, rfl, h3, h4, n3⟩, n2⟩, n1⟩
    obtain ⟨rfl, k1, rfl⟩ := flat_int.own.1 h1
    obtain ⟨rfl, k3, rfl⟩ := flat_int.own.1 h3
    obtain ⟨a1, c1, q1, rfl, _⟩ := own_open h2
    obtain ⟨a2, c2, q2, rfl, _⟩ := own_open h4
    obtain ⟨h5, rfl⟩ := ops_own.1 h2
    obtain ⟨h6, rfl⟩ := ints_own.1 h4
    exact ⟨_, _, rfl, k1, k3, h5, h6, rfl, n1⟩
  · rintro ⟨x, y, rfl, k1, k3, h5, h6, rfl, hn⟩
    have hn2 := (nodup_parts hn).2.1
    exact ⟨[_], [x, _, y], [], _, rfl, rfl, flat_int.own.2 ⟨rfl, k1, rfl⟩, ⟨[x], [_, y], _, _, rfl, rfl, ops_own.2 ⟨h5, rfl⟩, ⟨[_], [y], [], _, rfl, rfl, flat_int.own.2 ⟨rfl, k3, rfl⟩, ints_own.2 ⟨h6, rfl⟩, hn2⟩, hn⟩, hn⟩
theorem job_at {b off len : Nat} {l : List Jb} (h : SlG jobR w (some ⟨b, off, none⟩) len l) (i : Nat) (hi : i < l.length) :
    w.cell? ⟨b, off + i * 4, none⟩ = some (.int .i64 l[i].1) ∧ w.cell? ⟨b, off + i * 4 + 2, none⟩ = some (.int .i64 l[i].2.2.1) ∧
      (∃ oa ol oc, w.cell? ⟨b, off + i * 4 + 1, none⟩ = some (.slice oa ol oc) ∧ SlO w oa ol l[i].2.1 ∧ ol ≤ oc) ∧ (∃ ya yl yc, w.cell? ⟨b, off + i * 4 + 3, none⟩ = some (.slice ya yl yc) ∧ SlZ w ya yl l[i].2.2.2 ∧ yl ≤ yc) := by
  obtain ⟨b', off', e, hc⟩ := h.2.2.2 (by have := h.1; omega)
  simp only [Option.some.injEq, Addr.mk.injEq, and_true] at e
  obtain ⟨rfl, rfl⟩ := e
  obtain ⟨vs, hs, hcl⟩ := hc i hi
  obtain ⟨oa, ol, oc, ya, yl, yc, rfl, k1, k3, h5, h6, h7⟩ := job_see.1 hs
  exact ⟨hcl 0 _ rfl, hcl 2 _ rfl, ⟨oa, ol, oc, hcl 1 _ rfl, h5.1, h5.2⟩, ya, yl, yc, hcl 3 _ rfl, h6.1, h7⟩
theorem ch_at {b off len : Nat} {l : List Ch} (h : SlG chR w (some ⟨b, off, none⟩) len l) (i : Nat) (hi : i < l.length) : w.cell? ⟨b, off + i * 2, none⟩ = some (.int .i64 l[i].1) ∧ w.cell? ⟨b, off + i * 2 + 1, none⟩ = some (.bool l[i].2) := by
  obtain ⟨b', off', e, hc⟩ := h.2.2.2 (by have := h.1; omega)
  simp only [Option.some.injEq, Addr.mk.injEq, and_true] at e
  obtain ⟨rfl, rfl⟩ := e
  obtain ⟨vs, hs, hcl⟩ := hc i hi
  obtain ⟨rfl, _⟩ := flat_ch.see.1 hs
  exact ⟨hcl 0 _ rfl, hcl 1 _ rfl⟩
theorem slg_some {α : Type} {R : Rd α} {len : Nat} {l : List α} (h : SlG R w a len l) (h0 : 0 < len) : ∃ b off, a = some ⟨b, off, none⟩ := by
  obtain ⟨b, off, e, _⟩ := h.2.2.2 h0
  exact ⟨b, off, e⟩
end

/-! ### one who decides -/
def coordR : Rd Co := both int (both int (both int (both jobsR (both logR int))))
def coVals (n life next sure : Int) (ja : Option Addr) (jn jc : Nat) (la : Option Addr) (ln lc : Nat) : List Value := [.int .i64 n, .int .i64 life, .int .i64 next, .slice ja jn jc, .slice la ln lc, .int .i64 sure]
structure SeeCo (w : World) (ja : Option Addr) (jn jc : Nat) (la : Option Addr) (ln lc : Nat) (c : Co) : Prop where
  n : (Lit.int .i64 c.1).wf = true
  life : (Lit.int .i64 c.2.1).wf = true
  next : (Lit.int .i64 c.2.2.1).wf = true
  sure : (Lit.int .i64 c.2.2.2.2.2).wf = true
  jobs : SlG jobR w ja jn c.2.2.2.1
  log : SlG chR w la ln c.2.2.2.2.1
  jc : jn ≤ jc
  lc : ln ≤ lc
section
variable {w w' : World} {ja : Option Addr} {jn jc : Nat} {la : Option Addr} {ln lc : Nat} {c : Co} {vs : List Value} {F : List Nat}
theorem SeeCo.below (h : SeeCo w ja jn jc la ln lc c) (hb : Below w.heap.size w w') : SeeCo w' ja jn jc la ln lc c := ⟨h.n, h.life, h.next, h.sure, h.jobs.below hb, h.log.below hb, h.jc, h.lc⟩
theorem coord_see : coordR.see w vs c ↔ ∃ ja jn jc la ln lc, vs = coVals c.1 c.2.1 c.2.2.1 c.2.2.2.2.2 ja jn jc la ln lc ∧ SeeCo w ja jn jc la ln lc c := by
  constructor
  · rintro ⟨u1, t1, rfl, h1, u2, t2, rfl, h2, u3, t3, rfl, h3, u4, t4, rfl, h4, u5, t5, rfl, h5, h6⟩
    obtain ⟨rfl, k1⟩ := flat_int.see.1 h1
    obtain ⟨rfl, k2⟩ := flat_int.see.1 h2
    obtain ⟨rfl, k3⟩ := flat_int.see.1 h3
    obtain ⟨rfl, k6⟩ := flat_int.see.1 h6
    obtain ⟨ja, jn, jc, rfl, j1, j2⟩ := h4
    obtain ⟨la, ln, lc, rfl, l1, l2⟩ := h5
    exact ⟨ja, jn, jc, la, ln, lc, rfl, k1, k2, k3, k6, j2, l2, j1, l1⟩
  · rintro ⟨ja, jn, jc, la, ln, lc, rfl, h⟩
    exact ⟨[_], [_, _, _, _, _], rfl, flat_int.see.2 ⟨rfl, h.n⟩, [_], [_, _, _, _], rfl, flat_int.see.2 ⟨rfl, h.life⟩, [_], [_, _, _], rfl, flat_int.see.2 ⟨rfl, h.next⟩, [_], [_, _], rfl, ⟨_, _, _, rfl, h.jc, h.jobs⟩, [_], [_], rfl, ⟨_, _, _, rfl, h.lc, h.log⟩, flat_int.see.2 ⟨rfl, h.sure⟩⟩
end
end Go.Proofs.Ytggihjmcafoppaa.cos

namespace Go.Proofs.Ytggihjmcafoppaa.pairs
open Go Go.RowKit Go.Proofs.Ytggihjmcafoppaa.base
set_option linter.unusedVariables false
set_option linter.unusedSimpArgs false

theorem str_ne {a b : ByteArray} (h : a ≠ b) : (a.toList == b.toList) = false := by
  rw [beq_eq_false_iff_ne]; intro e; rw [ByteArray.toList_eq, ByteArray.toList_eq] at e; exact h (bytes_ext e)



end Go.Proofs.Ytggihjmcafoppaa.pairs

namespace Go.Proofs.Ytggihjmcafoppaa.pairs
open Go Go.RowKit Go.Proofs.Ytggihjmcafoppaa.base
set_option linter.unusedVariables false
set_option linter.unusedSimpArgs false

theorem take_snocP (l : List Pr) (k : Nat) (h : k < l.length) : l.take (k + 1) = l.take k ++ [l[k]] := List.take_succ_eq_append_getElem h
end Go.Proofs.Ytggihjmcafoppaa.pairs

namespace Go.Proofs.Ytggihjmcafoppaa.pairs
open Go Go.RowKit Go.Proofs.Ytggihjmcafoppaa.base
set_option linter.unusedVariables false
set_option linter.unusedSimpArgs false

end Go.Proofs.Ytggihjmcafoppaa.pairs

namespace Go.Proofs.Ytggihjmcafoppaa.last
open Go Go.RowKit
section
variable {P : Program} {ops : Array Oper} {md : Region.Mode} {C : World → Prop}

/-! ### calls that make memory: the class of the worlds that go on from w -/
def On (B : Nat) (w : World) : Type := { w' : World // Below B w w' }
def On.w {B : Nat} {w : World} (x : On B w) : World := x.1
theorem On.inh (B : Nat) (w : World) : Nonempty (On B w) := ⟨⟨w, Below.refl _ _⟩⟩
theorem wp_region_on {id : Nat} {Q : Exit → Act → World → Prop} {a : Act} {w : World} {l : List Oper} (B : Nat) (hm : P.follows .mixedOrders = true) (hB : Region.lexB .any l.toArray = true)
    (h : wpQuiet P l.toArray (fun w' => ∃ x : On B w, w' = x.w) (fun a' => ∀ w', (∃ x : On B w, w' = x.w) → Q .normal a' w') l a) : (Code.region id l.toArray true).wp P Q a w :=
  wp_region_quiet (C := fun w' => ∃ x : On B w, w' = x.w) hm hB ⟨⟨w.drew, (Below.refl _ _).drew⟩, rfl⟩ (by simpa using h)
theorem Calls.on {f : FuncId} {args : Array Value} {B : Nat} {w : World} {v : Value} (x : On B w) (hBw : B ≤ w.heap.size) (h : Calls P f args x.w fun e w' => e = .returned v ∧ Below x.w.heap.size x.w w') :
    Calls P f args x.w fun e w'' => e = .returned v ∧ ∃ y : On B w, w'' = y.w :=
  h.mono fun _ w'' ⟨he, hb⟩ => ⟨he, ⟨w'', x.2.trans (hb.mono (Nat.le_trans hBw x.2.size))⟩, rfl⟩
theorem On.cell {B : Nat} {w : World} {b o : Nat} {v : Value} (h : w.cell? ⟨b, o, none⟩ = some v) (hb : b < B) : ∀ x : On B w, x.w.cell? ⟨b, o, none⟩ = some v :=
  fun x => (x.2.cell (p := ⟨b, o, none⟩) hb).trans h

end
end Go.Proofs.Ytggihjmcafoppaa.last

namespace Go.Proofs.Ytggihjmcafoppaa.pairs
open Go Go.RowKit Go.Proofs.Ytggihjmcafoppaa.base
set_option linter.unusedVariables false
set_option linter.unusedSimpArgs false

end Go.Proofs.Ytggihjmcafoppaa.pairs

namespace Go.Proofs.Ytggihjmcafoppaa.ords
open Go Go.RowKit Go.Proofs.Ytggihjmcafoppaa.base Go.Proofs.Ytggihjmcafoppaa.pairs
set_option linter.unusedVariables false
set_option linter.unusedSimpArgs false

end Go.Proofs.Ytggihjmcafoppaa.ords

namespace Go.Proofs.Ytggihjmcafoppaa.ords
open Go Go.RowKit Go.Proofs.Ytggihjmcafoppaa.base Go.Proofs.Ytggihjmcafoppaa.pairs
set_option linter.unusedVariables false
set_option linter.unusedSimpArgs false

end Go.Proofs.Ytggihjmcafoppaa.ords

namespace Go.Proofs.Ytggihjmcafoppaa.hash
open Go.RowKit Go.Proofs.Ytggihjmcafoppaa.base
set_option linter.unusedVariables false
set_option linter.unusedSimpArgs false

set_option maxHeartbeats 400000 in
theorem spec_hash (s : ByteArray) (w : World) (hs : s.size ≤ maxLen) :
    Calls Try.prog 107 #[.string s] w fun e w' => e = .returned (.int .i64 (hashOf s.data.toList)) ∧ w' = w := by
  unfold maxLen at hs
  go_enter Try.func107, Try.ntmps107
  go_wp2
  go_loop [3, 4] (fun h i => ∃ k : Nat, k ≤ s.size ∧ i = .int .i64 k ∧ h = .int .i64 (hashOf (s.data.toList.take k))) (fun _ i => s.size - (intOf i).toNat)
  case atStart => exact ⟨0, Nat.zero_le _, rfl, rfl⟩
  case round =>
    obtain ⟨k, hk, rfl, rfl⟩ := hrel
    have hd := hashOf_lt (s.data.toList.take k)
    by_cases hlt : k < s.size
    · have HS : Hid (hashOf (s.data.toList.take (k + 1)) = hstep (hashOf (s.data.toList.take k)) s[k].toNat) := by rw [take_snoc s k hlt]; exact hashOf_snoc _ _
      go_wp2
      have hb : s[k].toNat < 256 := s[k].toNat_lt
      go_round
      case rel =>
        refine ⟨k + 1, by omega, by go_num, ?_⟩
        rw [HS.out, IntWalk.wrap64_in (s[k].toNat : Int) (by omega)]
        exact val_int (i64_step' _ _ hd hb)
      case measure => simp [intOf]; omega
    · go_wp2
      go_ret
      exact ⟨ret_int (by rw [List.take_of_length_le (by simp; omega)]), rfl⟩

set_option maxHeartbeats 400000 in
theorem impl_hash (s : ByteArray) (w : World) (hs : s.size ≤ maxLen) :
    Calls Try.prog 127 #[.string s] w fun e w' => e = .returned (.int .i64 (hashOf s.data.toList)) ∧ Below w.heap.size w w' := by
  unfold maxLen at hs
  have hconv := Lib.run_convert_string_bytes (P := Try.prog) w 9 159 5 s Try.underlying9 Try.underlying159 Try.underlying5
  go_enter Try.func127, Try.ntmps127
  go_wp2
  go_loop [3, 9] (fun h i => ∃ k : Nat, k ≤ s.size ∧ i = .int .i64 k ∧ h = .int .u32 (hashOf (s.data.toList.take k))) (fun _ i => s.size - (intOf i).toNat)
  case atStart => exact ⟨0, Nat.zero_le _, rfl, rfl⟩
  case round =>
    obtain ⟨k, hk, rfl, rfl⟩ := hrel
    have hd := hashOf_lt (s.data.toList.take k)
    by_cases hlt : k < s.size
    · have HS : Hid (hashOf (s.data.toList.take (k + 1)) = hstep (hashOf (s.data.toList.take k)) s[k].toNat) := by rw [take_snoc s k hlt]; exact hashOf_snoc _ _
      have hcell : (Lib.bytesWorld w 5 s).cell? ⟨w.heap.size, k, none⟩ = some (.int .u8 s[k].toNat) := by
        rw [Lib.bytesWorld_cell w 5 s k hlt]; simp [List.getD, hlt]; rfl
      go_wp2
      have hb : s[k].toNat < 256 := s[k].toNat_lt
      go_round
      case rel =>
        refine ⟨k + 1, by omega, by go_num, ?_⟩
        rw [HS.out]
        refine val_int ?_
        rw [← u32_step _ _ hd hb, IntKind.wrap_u32, Int.emod_eq_of_lt (a := (s[k].toNat : Int)) (by omega) (by omega)]
      case measure => simp [intOf]; omega
    · go_wp2
      go_ret
      exact ⟨ret_int (by rw [List.take_of_length_le (by simp; omega)]), below_bytesWorld _ _ _⟩
end Go.Proofs.Ytggihjmcafoppaa.hash

namespace Go.Proofs.Ytggihjmcafoppaa.ords
open Go Go.RowKit Go.Proofs.Ytggihjmcafoppaa.base Go.Proofs.Ytggihjmcafoppaa.pairs
set_option linter.unusedVariables false
set_option linter.unusedSimpArgs false

set_option maxHeartbeats 400000 in
theorem spec_shardOf (key : ByteArray) (n : Int) (w : World) (hs : key.size ≤ maxLen) (hn : (Lit.int .i64 n).wf = true) :
    Calls Try.prog 83 #[.string key, .int .i64 n] w fun e w' => e = .returned (.int .i64 (shardOf key n)) ∧ w' = w := by
  have hH := hashOf_lt key.data.toList
  have HC := Hid.mk' (hash.spec_hash key w hs)
  unfold shardOf
  generalize hashOf key.data.toList = H at *
  by_cases h1 : n < 1
  · rw [if_pos h1]
    go_enter Try.func83, Try.ntmps83
    go_wp2_with fail
    go_ret
    exact ⟨rfl, rfl⟩
  · rw [if_neg h1]
    have h2 : Int.tmod (H : Int) n = (H : Int) % n := Int.tmod_eq_emod_of_nonneg (by omega)
    have h3 : 0 ≤ (H : Int) % n := Int.emod_nonneg _ (by omega)
    have h4 : (H : Int) % n ≤ 4294967296 := by
      have h5 := Int.emod_add_ediv_mul (H : Int) n
      have h6 : 0 ≤ (H : Int) / n * n := Int.mul_nonneg (Int.ediv_nonneg (by omega) (by omega)) (by omega)
      omega
    generalize (H : Int) % n = R at *
    go_enter Try.func83, Try.ntmps83
    go_wp2_with fail
    refine HC.out.mono ?_
    rintro e w1 ⟨rfl, rfl⟩
    go_wp2_with fail
    go_ret
    exact ⟨rfl, rfl⟩

end Go.Proofs.Ytggihjmcafoppaa.ords

namespace Go.Proofs.Ytggihjmcafoppaa.ords
open Go Go.RowKit Go.Proofs.Ytggihjmcafoppaa.base Go.Proofs.Ytggihjmcafoppaa.pairs
set_option linter.unusedVariables false
set_option linter.unusedSimpArgs false

theorem take_snocO' (l : List Od) (k : Nat) (h : k < l.length) : l.take (k + 1) = l.take k ++ [l[k]] := List.take_succ_eq_append_getElem h
theorem filter_snocO (f : Od → Bool) (l : List Od) (k : Nat) (h : k < l.length) : (l.take (k + 1)).filter f = (l.take k).filter f ++ if f l[k] then [l[k]] else [] := by
  rw [take_snocO' l k h, List.filter_append]
  cases hf : f l[k] <;> simp [List.filter_cons, hf]
theorem cells_three (w : World) (v1 v2 v3 : Value) (t : TypeId) : ∀ j u, [v1, v2, v3][j]? = some u → (w.alloc (.cells #[v1, v2, v3] t)).cell? ((⟨w.heap.size, 0, none⟩ : Addr).add j) = some u := by
  intro j u hj
  have hl : j < 3 := by have := (List.getElem?_eq_some_iff.1 hj).1; simpa using this
  rw [Addr.add_lit]
  match j, hl with
  | 0, _ => simp at hj; subst hj; simp [go_sem]
  | 1, _ => simp at hj; subst hj; simp [go_sem]
  | 2, _ => simp at hj; subst hj; simp [go_sem]
theorem one_ord_cells (w : World) (p : Od) (t : TypeId) : ∀ j u, (ordVals [p])[j]? = some u → (w.alloc (.cells #[.int .i64 p.1, .string p.2.1, .string p.2.2] t)).cell? ((⟨w.heap.size, 0, none⟩ : Addr).add j) = some u :=
  cells_three w (.int .i64 p.1) (.string p.2.1) (.string p.2.2) t
theorem ownO_app {w' : World} {base n : Nat} {v' : Value} {l : List Od} {p : Od} (hl : l.length = n) (hs : ∀ q ∈ l, smallO q) (hp : smallO p) (h0 : ¬ v' = .slice none 0 0)
    (h : w'.ownsRow base 121 3 v' (n + 1) (ordVals l ++ ordVals [p])) : ∃ g' cap', v' = .slice (some ⟨g', 0, none⟩) (n + 1) cap' ∧ OwnO w' base g' (n + 1) cap' (l ++ [p]) := by
  rw [← ordVals_append] at h
  refine ownO_val (by simp; omega) ?_ h0 h
  intro q hq
  rcases List.mem_append.1 hq with h1 | h1
  · exact hs q h1
  · simp at h1; subst h1; exact hp

end Go.Proofs.Ytggihjmcafoppaa.ords

namespace Go.Proofs.Ytggihjmcafoppaa.ords
open Go Go.RowKit Go.Proofs.Ytggihjmcafoppaa.base Go.Proofs.Ytggihjmcafoppaa.pairs
set_option linter.unusedVariables false
set_option linter.unusedSimpArgs false

set_option maxRecDepth 100000 in
set_option maxHeartbeats 1000000 in
theorem spec_l7Has (a : Option Addr) (len cap : Nat) (zs : List Int) (n : Int) (w : World) (h : SlZ w a len zs) :
    Calls Try.prog 124 #[.slice a len cap, .int .i64 n] w fun e w' => e = .returned (.bool (decide (n ∈ zs))) ∧ w' = w := by
  obtain ⟨hl, hm, hc⟩ := h
  subst hl
  unfold maxLen at hm
  generalize hR : decide (n ∈ zs) = R
  have HR := Hid.mk' hR
  clear hR
  go_enter Try.func124, Try.ntmps124
  go_wp2
  go_loop [5] (fun i => ∃ k : Nat, k ≤ zs.length ∧ i = .int .i64 (k : Int) ∧ decide (n ∈ zs.drop k) = R) (fun i => zs.length - (intOf i).toNat)
  case atStart => exact ⟨0, Nat.zero_le _, rfl, HR.out⟩
  case round =>
    obtain ⟨k, hk, rfl, hr⟩ := hrel
    by_cases hlt : k < zs.length
    · obtain ⟨b, off, ha, hcl⟩ := hc (by omega)
      subst ha
      have c1 := hcl k hlt
      have hki : (k : Int) < (zs.length : Int) := by omega
      rw [List.drop_eq_getElem_cons hlt] at hr
      generalize zs[k] = z at *
      by_cases he : z = n
      · have HF : Hid (R = true) := by show _ = _; rw [← hr, he]; simp
        subst he
        have hq : (z == z) = true := beq_self_eq_true _
        clear hr hcl hc
        go_wp2
        go_ret
        exact ⟨ret_bool HF.out.symm, rfl⟩
      · have HF : Hid (decide (n ∈ zs.drop (k + 1)) = R) := by
          show _ = _
          rw [← hr]
          have : ¬ n = z := fun e => he e.symm
          simp [this]
        have hq : (z == n) = false := beq_eq_false_iff_ne.2 he
        clear hr hcl hc he
        go_wp2
        go_round
        case rel => exact ⟨k + 1, by omega, by go_num, HF.out⟩
        case measure => simp [intOf]; omega
    · have HF : Hid (R = false) := by show _ = _; rw [← hr, List.drop_eq_nil_of_le (by omega)]; simp
      clear hr
      go_wp2
      go_ret
      exact ⟨ret_bool HF.out.symm, rfl⟩

set_option maxRecDepth 100000 in
set_option maxHeartbeats 2000000 in
theorem spec_l7Put (base g m cp : Nat) (zs : List Int) (n : Int) (w : World) (h : OwnZ w base g m cp zs) (hbs : base ≤ w.heap.size) (ha : Asc zs) (hsz : m ≤ 1099511627776) :
    Calls Try.prog 109 #[.slice (some ⟨g, 0, none⟩) m cp, .int .i64 n] w fun e w' =>
      ∃ g' n' cap', e = .returned (.slice (some ⟨g', 0, none⟩) n' cap') ∧ OwnZ w' base g' n' cap' (putI zs n) ∧ Below w.heap.size w w' := by
  obtain ⟨i0, hif, hz0, hz1, hz2⟩ := info_parts infoZ
  have hl := h.1
  subst hl
  have HH := Hid.mk' (spec_l7Has (some ⟨g, 0, none⟩) zs.length cp zs n w h.sl)
  by_cases hn : n ∈ zs
  · rw [decide_eq_true hn] at HH
    have HP : Hid (putI zs n = zs) := by show _ = _; unfold putI; rw [if_pos hn]
    clear hn
    go_enter Try.func109, Try.ntmps109
    go_wp2_with (at_builtin; fail)
    refine HH.out.mono ?_
    rintro e w1 ⟨rfl, hw1⟩
    subst hw1
    go_wp2_with (at_builtin; fail)
    go_ret
    exact ⟨g, _, cp, rfl, by rw [HP.out]; exact h, Below.refl _ _⟩
  · rw [decide_eq_false hn] at HH
    have HN := Hid.mk' hn
    clear hn
    have hba : Below w.heap.size w (w.alloc (.cells #[] 3)) := (Below.refl _ _).alloc (Nat.le_refl _) _
    have HC := Hid.mk' (cells_ints (h.sl.below hba).cells)
    have hn0 : (intVals zs).length = zs.length * 1 := by rw [intVals_length, Nat.mul_one]
    have hm1 : 0 + zs.length ≤ maxLen := by unfold maxLen; omega
    have hm2 : (0 + zs.length) * 8 ≤ 140737488355328 := by omega
    have hown0 := (ownZ_made w w.heap.size (Nat.le_refl _)).2
    go_enter Try.func109, Try.ntmps109
    go_wp2_with (at_builtin; fail)
    refine HH.out.mono ?_
    rintro e w1 ⟨rfl, hw1⟩
    subst hw1
    go_wp2_with (at_builtin; refine wpList_append_own _ rfl _ _ 123 rfl w1.heap.size 3 i0 (.int .i64 0) 1 8 Try.underlying123 hif hz0 hz1 hz2 rfl (by decide) _ _ _ rfl hown0 ⟨g, 0, none⟩ zs.length cp (intVals zs) rfl hn0 HC.out (intVals_oneCell _) hm1 hm2 (le_alloc _ _ (Nat.le_refl _)) ?_)
    intro v1 w2 hown hgrow hnn
    obtain ⟨g1, cap1, hv, hO1⟩ := ownZ_val (zs := zs) rfl (by simpa using hnn) (by simpa [intVals] using hown)
    subst hv
    have hB1 : Below w1.heap.size w1 w2 := hba.grown hgrow (le_alloc _ _ (Nat.le_refl _)) (fun k e => by simp [Value.ownBlock] at e; omega)
    have hbw2 : w1.heap.size ≤ w2.heap.size := hB1.size
    have hc3 : zs.length + 1 ≤ maxLen := by unfold maxLen; omega
    have hc4 : (zs.length + 1) * 8 ≤ 140737488355328 := by omega
    clear hown hgrow hnn hown0 HC hn0 hm1 hm2 hba HH
    go_wp2_with (at_builtin; refine wpList_append_own _ rfl _ _ 123 rfl w1.heap.size 3 i0 (.int .i64 0) 1 8 Try.underlying123 hif hz0 hz1 hz2 rfl (by decide) _ _ _ rfl (hO1.2.alloc _) ⟨w2.heap.size, 0, none⟩ 1 1 (intVals [n]) rfl rfl (one_int_cells _ _ _) (intVals_oneCell _) hc3 hc4 (le_alloc _ _ hbw2) ?_)
    intro v3 w3 hown hgrow hnn
    obtain ⟨g3, cap3, hv, hO3⟩ := ownZ_app (zs := zs) rfl hnn hown
    subst hv
    have hB3 : Below w1.heap.size w1 w3 := (hB1.alloc hbw2 _).grown hgrow (le_alloc _ _ hbw2) (fun k e => by simp [Value.ownBlock] at e; have := hO1.lt; omega)
    have e0 : zs ++ [n] = gap zs zs.length n := by unfold gap; simp
    rw [e0] at hO3
    clear hown hgrow hnn hO1 hB1 e0
    go_wp2_with (at_builtin; fail)
    go_loopw [6] (fun kv wr => ∃ (k : Nat) (x : Int), k ≤ zs.length ∧ kv = .int .i64 (k : Int) ∧ (∀ y ∈ zs.drop k, n < y) ∧ OwnZ wr w1.heap.size g3 (zs.length + 1) cap3 (gap zs k x) ∧ Below w1.heap.size w1 wr) (fun kv _ => (intOf kv).toNat)
    case atStart => exact ⟨zs.length, n, Nat.le_refl _, by go_num, by simp, hO3, hB3⟩
    case round =>
      clear hO3 hB3
      obtain ⟨k, x, hk, rfl, hd, hO, hB⟩ := hrel
      have hgl := gap_length zs k x hk
      by_cases hk0 : k = 0
      · subst hk0
        have HP : Hid (putI zs n = gap zs 0 n) := putI_at zs n 0 ha HN.out hk hd (.inl rfl)
        have hfz := hO.frozen 0
        have hat := hO.at 0 (by omega)
        have R := ownZ_set hO 0 n
        rw [gap_set zs 0 x n hk, ← HP.out] at R
        have HR := Hid.mk' R
        have hlt3 := hO.lt
        generalize (gap zs 0 x)[0] = y0 at *
        clear R hO hd
        go_wp2_with (at_builtin; fail)
        go_ret
        exact ⟨g3, _, cap3, rfl, HR.out.1.mono hbs, hB.trans (below_grown HR.out.2 hlt3.1 hB.size)⟩
      · obtain ⟨j, rfl⟩ : ∃ j, k = j + 1 := ⟨k - 1, by omega⟩
        have hjz : j < zs.length := by omega
        have hgp := gap_prev zs (j + 1) x (by omega) hk
        simp only [Nat.add_sub_cancel] at hgp
        have hat : wr.cell? ⟨g3, j, none⟩ = some (.int .i64 zs[j]) := by
          have := hO.at j (by omega)
          rw [this]
          have e := List.getElem?_eq_getElem (l := gap zs (j + 1) x) (i := j) (by omega)
          rw [e] at hgp
          rw [Option.some.inj hgp]
        have hat2 := hO.at (j + 1) (by omega)
        have hfz := hO.frozen (j + 1)
        have hj1 : ((j + 1 : Nat) : Int) - 1 = (j : Int) := by omega
        have hjl : ((j : Nat) : Int) < ((zs.length + 1 : Nat) : Int) := by omega
        have hjl2 : ((j + 1 : Nat) : Int) < ((zs.length + 1 : Nat) : Int) := by omega
        have hpos : (0 : Int) < ((j + 1 : Nat) : Int) := by omega
        by_cases hgt : n < zs[j]
        · have R := ownZ_set hO (j + 1) zs[j]
          have hgd := gap_down zs (j + 1) (by omega) hk
          simp only [Nat.add_sub_cancel] at hgd
          rw [gap_set zs (j + 1) x zs[j] hk, hgd] at R
          have HD : Hid (∀ y ∈ zs.drop j, n < y) := by
            intro y hy
            rw [List.drop_eq_getElem_cons hjz] at hy
            rcases List.mem_cons.1 hy with rfl | hy
            · exact hgt
            · exact hd y hy
          have HR := Hid.mk' R
          have hlt3 := hO.lt
          generalize (gap zs (j + 1) x)[j + 1] = y0 at *
          generalize zs[j] = zj at *
          clear R hO hd hgp hgd
          go_wp2_with (at_builtin; fail)
          go_roundw
          case rel => exact ⟨j, zj, by omega, by go_num, HD.out, HR.out.1, hB.trans (below_grown HR.out.2 hlt3.1 hB.size)⟩
          case measure => simp [intOf]
        · have HP : Hid (putI zs n = gap zs (j + 1) n) := putI_at zs n (j + 1) ha HN.out hk hd (.inr ⟨hjz, hgt⟩)
          have R := ownZ_set hO (j + 1) n
          rw [gap_set zs (j + 1) x n hk, ← HP.out] at R
          have HR := Hid.mk' R
          have hlt3 := hO.lt
          generalize (gap zs (j + 1) x)[j + 1] = y0 at *
          generalize zs[j] = zj at *
          clear R hO hd hgp
          go_wp2_with (at_builtin; fail)
          go_ret
          exact ⟨g3, _, cap3, rfl, HR.out.1.mono hbs, hB.trans (below_grown HR.out.2 hlt3.1 hB.size)⟩

theorem putI_length (zs : List Int) (n : Int) : (putI zs n).length ≤ zs.length + 1 := by
  unfold putI
  split
  · omega
  · have h1 : ∀ l : List Int, (l.filter fun x => decide (x < n)).length + (l.filter fun x => decide (n < x)).length ≤ l.length := by
      intro l
      induction l with
      | nil => simp
      | cons x l ih =>
        simp only [List.filter_cons]
        by_cases a : x < n
        · have b : ¬ n < x := by omega
          simp [a, b]; omega
        · by_cases b : n < x
          · simp [a, b]; omega
          · simp [a, b]; omega
    have := h1 zs
    simp only [List.length_append, List.length_cons]
    omega
set_option maxRecDepth 100000 in
set_option maxHeartbeats 2000000 in
theorem spec_shardsOf (a : Option Addr) (len cap : Nat) (l : List Od) (n : Int) (w : World) (h : SlO w a len l) (hsz : len ≤ 1099511627776) (hn : (Lit.int .i64 n).wf = true) :
    Calls Try.prog 86 #[.slice a len cap, .int .i64 n] w fun e w' =>
      ∃ g' n' cap', e = .returned (.slice (some ⟨g', 0, none⟩) n' cap') ∧ OwnZ w' w.heap.size g' n' cap' (shardsOf n l) ∧ Below w.heap.size w w' := by
  have hl := h.1
  have hsm := h.2.2.1
  subst hl
  go_enter Try.func86, Try.ntmps86
  go_wp2_with (at_builtin; fail)
  go_loopw [5, 6] (fun v i wr => ∃ (k g n' cp : Nat), k ≤ l.length ∧ n' ≤ k ∧ i = .int .i64 (k : Int) ∧ v = .slice (some ⟨g, 0, none⟩) n' cp ∧ OwnZ wr w.heap.size g n' cp (shardsOf n (l.take k)) ∧ Below w.heap.size w wr) (fun _ i _ => l.length - (intOf i).toNat)
  case atStart => exact ⟨0, w.heap.size, 0, 0, Nat.zero_le _, Nat.le_refl _, rfl, rfl, ownZ_made w _ (Nat.le_refl _), (Below.refl _ _).alloc (Nat.le_refl _) _⟩
  case round =>
    obtain ⟨k, g, m, cp, hk, hnk, rfl, rfl, hO, hB⟩ := hrel
    have hbw : w.heap.size ≤ wr.heap.size := hB.size
    by_cases hlt : k < l.length
    · obtain ⟨b, off, ha, _⟩ := h.2.2.2 (by omega)
      subst ha
      obtain ⟨c0, c1, c2⟩ := (h.below hB).cells k hlt
      have hpk := hsm _ (List.getElem_mem hlt)
      have hki : (k : Int) < (l.length : Int) := by omega
      have HT := Hid.mk' (shards_take n l k hlt)
      have HSH := Hid.mk' (spec_shardOf l[k].2.1 n wr hpk.2.1 hn)
      have hol := hO.1
      have hpl := putI_length (shardsOf n (l.take k)) (shardOf l[k].2.1 n)
      have HP := Hid.mk' (spec_l7Put w.heap.size g m cp (shardsOf n (l.take k)) (shardOf l[k].2.1 n) wr hO hbw (shards_asc _ _) (by omega))
      generalize l[k] = p at *
      generalize shardOf p.2.1 n = sh at *
      generalize shardsOf n (l.take k) = u at *
      go_wp2_with (at_builtin; fail)
      refine HSH.out.mono ?_
      rintro e w1 ⟨rfl, hw1⟩
      subst hw1
      go_wp2_with (at_builtin; fail)
      refine HP.out.mono ?_
      rintro e w2 ⟨g2, n2, cp2, rfl, hO2, hB2⟩
      have hB3 : Below w.heap.size w w2 := hB.trans (hB2.mono hB.size)
      have hn2 : n2 ≤ k + 1 := by have := hO2.1; omega
      rw [← HT.out] at hO2
      have HO2 := Hid.mk' hO2
      clear hO2 hO hB hB2 HP HSH HT
      go_wp2_with (at_builtin; fail)
      go_roundw
      case rel => exact ⟨k + 1, g2, n2, cp2, by omega, hn2, by go_num, rfl, HO2.out, hB3⟩
      case measure => simp [intOf]; omega
    · have HE : Hid (l.take k = l) := List.take_of_length_le (by omega)
      go_wp2_with (at_builtin; fail)
      go_ret
      rw [HE.out] at hO
      exact ⟨g, m, cp, rfl, hO, hB⟩
end Go.Proofs.Ytggihjmcafoppaa.ords
