/- The program's orders: what is right. The program's records: what is right. The program's pairs between two ends. The program's orders: what is met, at which shard, what is done. The program's replay: what is held by key, and whether a record fits. The program's replay: one record more is taken. The program's replay: a record of the call's own, and what is held. What the program keeps from record to record is what the specification keeps: plain mathematics. The program's ReplayRecs. A region that draws its order: what is held from one operation to the next may fall with the last one, which waits for all the others. No function of the program is named here. A call inside a region that draws its order, as a law of one step. No function of the program is named here. The specification's replay: its state on the heap. Shards: plain mathematics. No function of the program is named here. How pairs, orders, records and shards lie in memory. No function of the program is named here. How orders and worlds lie in memory. No function of the program is named here. The specification's replay: one record more. The specification's replay: one record more, that is not held. The specification's replay: one record more, that is held. The specification's replay: a record of a transaction that is not held. Rows of records: one taken out. The specification's replay: a transaction that is held is let go. The specification's replay: a transaction that is held is done. The specification's replay: one record more, whatever it is; and all of them. The specification's ReplayRecs. The specification's shard: what is alike, and whether it is right. A struct in a block, whole or in the midst of it (LayB0), and how records and shards lie. -/
import Derived.Test.YtmibabclefgljaaShab
import Derived.Test.YtmibabclefgljaaShae
import Derived.BigQuiet
import Derived.Laws.CopyOwn
import Derived.Laws.CopyRow
import Derived.Deep.RegionHeld
import Derived.Deep.RegionLaw
import Derived.WalkKit
import Derived.WalkSpells
import Derived.WalkLawsBesides
import Derived.Test.YtmibabclefgljaaShaa
import Derived.Test.YtmibabclefgljaaShac
import Derived.Test.YtmibabclefgljaaShad
namespace Go.Proofs.Ytmibabclefgljaa.ords
open Go Go.RowKit Go.Proofs.Ytmibabclefgljaa.base Go.Proofs.Ytmibabclefgljaa.pairs
set_option linter.unusedVariables false
set_option linter.unusedSimpArgs false

/-! ### orders that rise -/
end Go.Proofs.Ytmibabclefgljaa.ords

namespace Go.Proofs.Ytmibabclefgljaa.recs
open Go Go.RowKit Go.Proofs.Ytmibabclefgljaa.base Go.Proofs.Ytmibabclefgljaa.pairs Go.Proofs.Ytmibabclefgljaa.ords
set_option linter.unusedVariables false
set_option linter.unusedSimpArgs false


end Go.Proofs.Ytmibabclefgljaa.recs

namespace Go.Proofs.Ytmibabclefgljaa.pairs
open Go Go.RowKit Go.Proofs.Ytmibabclefgljaa.base
set_option linter.unusedVariables false
set_option linter.unusedSimpArgs false

end Go.Proofs.Ytmibabclefgljaa.pairs

namespace Go.Proofs.Ytmibabclefgljaa.ords
open Go Go.RowKit Go.Proofs.Ytmibabclefgljaa.base Go.Proofs.Ytmibabclefgljaa.pairs
set_option linter.unusedVariables false
set_option linter.unusedSimpArgs false

end Go.Proofs.Ytmibabclefgljaa.ords

namespace Go.Proofs.Ytmibabclefgljaa.recs
open Go Go.RowKit Go.Proofs.Ytmibabclefgljaa.base Go.Proofs.Ytmibabclefgljaa.pairs Go.Proofs.Ytmibabclefgljaa.ords
open Go.WideMaps (keyOf_string_mk)
set_option linter.unusedVariables false
set_option linter.unusedSimpArgs false

section
variable {X B1 B2 : Nat} {pv : Value} {w w' : World}
end
end Go.Proofs.Ytmibabclefgljaa.recs

namespace Go.Proofs.Ytmibabclefgljaa.recs
open Go Go.RowKit Go.Proofs.Ytmibabclefgljaa.base Go.Proofs.Ytmibabclefgljaa.pairs Go.Proofs.Ytmibabclefgljaa.ords
open Go.WideMaps (keyOf_string_mk)
set_option linter.unusedVariables false
set_option linter.unusedSimpArgs false

section
variable {w0 w w' : World} {X B1 B2 n1 n2 g np cp : Nat} {f : Int → Rc} {hf : ByteArray → Nat} {m : List Pr}
end

end Go.Proofs.Ytmibabclefgljaa.recs

namespace Go.Proofs.Ytmibabclefgljaa.recs
open Go Go.RowKit Go.Proofs.Ytmibabclefgljaa.base Go.Proofs.Ytmibabclefgljaa.pairs Go.Proofs.Ytmibabclefgljaa.ords
set_option linter.unusedVariables false
set_option linter.unusedSimpArgs false

end Go.Proofs.Ytmibabclefgljaa.recs

namespace Go.Proofs.Ytmibabclefgljaa.recs
open Go Go.RowKit Go.Proofs.Ytmibabclefgljaa.base Go.Proofs.Ytmibabclefgljaa.pairs Go.Proofs.Ytmibabclefgljaa.ords
set_option linter.unusedVariables false
set_option linter.unusedSimpArgs false

section
variable {pre : List Rc} {s : St} {f : Int → Rc} {hf : ByteArray → Nat}
end
end Go.Proofs.Ytmibabclefgljaa.recs

namespace Go.Proofs.Ytmibabclefgljaa.recs
open Go Go.RowKit Go.Proofs.Ytmibabclefgljaa.base Go.Proofs.Ytmibabclefgljaa.pairs Go.Proofs.Ytmibabclefgljaa.ords
set_option linter.unusedVariables false
set_option linter.unusedSimpArgs false

end Go.Proofs.Ytmibabclefgljaa.recs

namespace Go.Proofs.Ytmibabclefgljaa.last
open Go Go.RowKit
section
variable {P : Program} {ops : Array Oper} {md : Region.Mode} {Q : Exit → Act → World → Prop} {S : World → Prop} {z : Nat}

end
end Go.Proofs.Ytmibabclefgljaa.last

namespace Go.Proofs.Ytmibabclefgljaa.stepc
open Go Go.RowKit
end Go.Proofs.Ytmibabclefgljaa.stepc

namespace Go.Proofs.Ytmibabclefgljaa.recs
open Go Go.RowKit Go.Proofs.Ytmibabclefgljaa.base Go.Proofs.Ytmibabclefgljaa.pairs Go.Proofs.Ytmibabclefgljaa.ords
set_option linter.unusedVariables false
set_option linter.unusedSimpArgs false

section
variable {X : Nat} {x y z : Value} {w w' : World}
end
section
variable {w w' : World} {base : Nat} {v : Value} {zs : List Int}
end
def OwnPV (w : World) (a : Option Addr) (n cap : Nat) (l : List Pr) : Prop := l.length = n ∧ (∀ p ∈ l, small p) ∧ w.ownsRow 0 127 2 (.slice a n cap) n (pairVals l)
section
variable {w w' : World} {a : Option Addr} {g n cap base : Nat} {l : List Pr}
theorem ownPV_of (h : OwnP w base g n cap l) : OwnPV w (some ⟨g, 0, none⟩) n cap l := ⟨h.1, h.2.1, (h.mono (base' := 0) (Nat.zero_le _)).2.2⟩
theorem OwnPV.shape (h : OwnPV w a n cap l) : (a = none ∧ n = 0 ∧ cap = 0 ∧ l = []) ∨ ∃ g, a = some ⟨g, 0, none⟩ ∧ OwnP w 0 g n cap l := by
  obtain ⟨h1, h2, h3⟩ := h
  rcases h3.2 with ⟨e, h0⟩ | ⟨g, c, cur, e, _⟩
  · cases e
    exact .inl ⟨rfl, rfl, rfl, List.eq_nil_of_length_eq_zero h1⟩
  · cases e
    exact .inr ⟨g, rfl, show OwnP w 0 g n cap l from ⟨h1, h2, h3⟩⟩
theorem OwnPV.sl (h : OwnPV w a n cap l) : SlP w a n l := by
  rcases h.shape with ⟨rfl, rfl, rfl, rfl⟩ | ⟨g, rfl, h⟩
  · exact slp_nil _ _
  · exact OwnP.sl h
theorem OwnPV.spot (h : OwnPV w a n cap l) : ∀ ad, a = some ad → ad.spot = none := by
  rcases h.shape with ⟨rfl, _⟩ | ⟨g, rfl, _⟩
  · intro ad e; cases e
  · intro ad e; cases e; rfl
theorem OwnPV.lt (h : OwnPV w a n cap l) (k : Nat) (hk : (Value.slice a n cap).ownBlock = some k) : k < w.heap.size := (h.2.2.lt k hk).2
theorem OwnPV.of_block (h : OwnPV w a n cap l) (hk : ∀ k, (Value.slice a n cap).ownBlock = some k → w'.heap[k]? = w.heap[k]?) : OwnPV w' a n cap l := ⟨h.1, h.2.1, rowR_of_block h.2.2 hk⟩
theorem OwnPV.below (h : OwnPV w a n cap l) (hb : Below w.heap.size w w') : OwnPV w' a n cap l := h.of_block fun k hk => hb.block k (h.lt k hk)
end
section
variable {N : Prop} {w0 w w' w7 : World} {F0 : List Nat} {X nm cm ch : Nat} {am ah : Option Addr} {vs : Value} {s : St} {hs : List Value}
end
end Go.Proofs.Ytmibabclefgljaa.recs

namespace Go.Proofs.Ytmibabclefgljaa.recs
open Go Go.RowKit Go.Proofs.Ytmibabclefgljaa.base Go.Proofs.Ytmibabclefgljaa.pairs Go.Proofs.Ytmibabclefgljaa.ords
set_option linter.unusedVariables false

abbrev Shd := Int × List Rc × Int × List Pr × List Rc
/-! ### how it is with a transaction -/
def lastOut (tx : Int) (l : List Rc) : Int := l.foldl (fun o r => if r.2.1 = tx ∧ r.1 = 3 then 4 else if r.2.1 = tx ∧ r.1 = 2 then 3 else o) 2
def outc (s : Shd) (tx : Int) : Int := if (placeTx tx s.2.2.2.2).isSome = true then 1 else lastOut tx s.2.1
/-! ### what is written -/
def forced (m : List Pr) (held : List Rc) (r : Rc) : List Pr × List Rc :=
  if r.1 = 1 then (m, held ++ [r]) else match placeTx r.2.1 held with
    | none => (m, held)
    | some k => (nextM (m, held, []) r k, held.take k ++ held.drop (k + 1))
def written (s : Shd) (r : Rc) : Shd := (s.1, s.2.1 ++ [r], s.2.2.1, (forced s.2.2.2.1 s.2.2.2.2 r).1, (forced s.2.2.2.1 s.2.2.2.2 r).2)
/-! ### what a shard does -/
end Go.Proofs.Ytmibabclefgljaa.recs

namespace Go.Proofs.Ytmibabclefgljaa.lay
open Go Go.RowKit Go.Proofs.Ytmibabclefgljaa.base Go.Proofs.Ytmibabclefgljaa.pairs Go.Proofs.Ytmibabclefgljaa.ords Go.Proofs.Ytmibabclefgljaa.recs
set_option linter.unusedVariables false
set_option linter.unusedSimpArgs false

/-! ### types without slices -/
structure Flat {α : Type} (R : Rd α) (enc : α → List Value) (ok : α → Prop) : Prop where
  own : ∀ {w vs x F}, R.own w vs x F ↔ vs = enc x ∧ ok x ∧ F = []
  see : ∀ {w vs x}, R.see w vs x ↔ vs = enc x ∧ ok x
theorem flat_int : Flat int (fun x => [.int .i64 x]) (fun x => (Lit.int .i64 x).wf = true) :=
  ⟨fun {_ _ _ _} => ⟨fun h => ⟨h.1.1, h.1.2, h.2⟩, fun h => ⟨⟨h.1, h.2.1⟩, h.2.2⟩⟩, fun {_ _ _} => Iff.rfl⟩
theorem flat_bool : Flat bool (fun x => [.bool x]) (fun _ => True) :=
  ⟨fun {_ _ _ _} => ⟨fun h => ⟨h.1, trivial, h.2⟩, fun h => ⟨h.1, h.2.2⟩⟩, fun {_ _ _} => ⟨fun h => ⟨h, trivial⟩, fun h => h.1⟩⟩
theorem flat_str : Flat str (fun x => [.string x]) (fun x => x.size ≤ maxLen) :=
  ⟨fun {_ _ _ _} => ⟨fun h => ⟨h.1.1, h.1.2, h.2⟩, fun h => ⟨⟨h.1, h.2.1⟩, h.2.2⟩⟩, fun {_ _ _} => Iff.rfl⟩
theorem flat_both {α β : Type} {R : Rd α} {S : Rd β} {e1 : α → List Value} {e2 : β → List Value} {o1 : α → Prop} {o2 : β → Prop} (h1 : Flat R e1 o1) (h2 : Flat S e2 o2) : Flat (both R S) (fun x => e1 x.1 ++ e2 x.2) (fun x => o1 x.1 ∧ o2 x.2) := by
  constructor
  · intro w vs x F
    constructor
    · rintro ⟨us, ts, F1, F2, rfl, rfl, h3, h4, _⟩
      obtain ⟨rfl, k1, rfl⟩ := h1.own.1 h3
      obtain ⟨rfl, k2, rfl⟩ := h2.own.1 h4
      exact ⟨rfl, ⟨k1, k2⟩, rfl⟩
    · rintro ⟨rfl, ⟨k1, k2⟩, rfl⟩
      exact ⟨_, _, [], [], rfl, rfl, h1.own.2 ⟨rfl, k1, rfl⟩, h2.own.2 ⟨rfl, k2, rfl⟩, List.nodup_nil⟩
  · intro w vs x
    constructor
    · rintro ⟨us, ts, rfl, h3, h4⟩
      obtain ⟨rfl, k1⟩ := h1.see.1 h3
      obtain ⟨rfl, k2⟩ := h2.see.1 h4
      exact ⟨rfl, k1, k2⟩
    · rintro ⟨rfl, k1, k2⟩
      exact ⟨_, _, rfl, h1.see.2 ⟨rfl, k1⟩, h2.see.2 ⟨rfl, k2⟩⟩
section
variable {α : Type} {R : Rd α} {enc : α → List Value} {ok : α → Prop} {ty : TypeId} {w : World} {v : Value} {l : List α} {q : Parts} {F : List Nat}
theorem Flat.parts (hR : Flat R enc ok) (h : OwnG ty R w v l q) : q = l.map (fun x => (enc x, [])) ∧ (∀ x ∈ l, ok x) ∧ blocksOf q = [] ∧ cellsOf q = l.flatMap enc := by
  have hl := h.len
  have e : q = l.map (fun x => (enc x, [])) := by
    refine List.ext_getElem (by simp [hl]) fun i h1 h2 => ?_
    have h3 := hR.own.1 (h.each i (by omega))
    rw [List.getElem_map]
    exact Prod.ext h3.1 h3.2.2
  refine ⟨e, fun x hx => ?_, ?_, ?_⟩
  · obtain ⟨i, hi, rfl⟩ := List.getElem_of_mem hx
    exact (hR.own.1 (h.each i hi)).2.1
  · rw [e]; unfold blocksOf; rw [List.flatMap_map]; simp
  · rw [e]; unfold cellsOf; rw [List.flatMap_map]
theorem Flat.row (hR : Flat R enc ok) (h : OwnG ty R w v l q) : w.ownsRow 0 ty R.size v l.length (l.flatMap enc) := by
  rw [← (hR.parts h).2.2.2]; exact h.row
theorem Flat.made (hR : Flat R enc ok) (hr : w.ownsRow 0 ty R.size v l.length (l.flatMap enc)) (hok : ∀ x ∈ l, ok x) : OwnG ty R w v l (l.map (fun x => (enc x, []))) := by
  have e1 : cellsOf (l.map (fun x => (enc x, ([] : List Nat)))) = l.flatMap enc := by unfold cellsOf; rw [List.flatMap_map]
  have e2 : blocksOf (l.map (fun x => (enc x, ([] : List Nat)))) = [] := by unfold blocksOf; rw [List.flatMap_map]; simp
  refine ⟨by simp, by rw [e1]; exact hr, fun i hi => ?_, by rw [e2]; cases v.ownBlock <;> simp⟩
  simp only [List.getElem_map]
  exact hR.own.2 ⟨rfl, hok _ (List.getElem_mem _), rfl⟩
theorem Flat.slice (hR : Flat R enc ok) : (lay.slice ty R).own w [v] l F ↔ w.ownsRow 0 ty R.size v l.length (l.flatMap enc) ∧ (∀ x ∈ l, ok x) ∧ F = v.ownBlock.toList := by
  constructor
  · rintro ⟨v', q, e, rfl, h⟩
    cases e
    exact ⟨hR.row h, (hR.parts h).2.1, by rw [(hR.parts h).2.2.1, List.append_nil]⟩
  · rintro ⟨h1, h2, rfl⟩
    have h3 := hR.made h1 h2
    exact ⟨v, _, rfl, by rw [(hR.parts h3).2.2.1, List.append_nil], h3⟩
end
/-! ### pairs, orders, whole numbers -/
def pairR : Rd Pr := both str str
def opR : Rd Od := both int (both str str)
theorem flat_pair : Flat pairR (fun p => [.string p.1, .string p.2]) small := flat_both flat_str flat_str
theorem flat_op : Flat opR (fun o => [.int .i64 o.1, .string o.2.1, .string o.2.2]) smallO := flat_both flat_int (flat_both flat_str flat_str)
def pairsR : Rd (List Pr) := slice 127 pairR
def opsR : Rd (List Od) := slice 129 opR
def intsR : Rd (List Int) := slice 3 int
section
variable {w w' : World} {a : Option Addr} {n cap : Nat} {F : List Nat} {v : Value}
theorem pairs_own {l : List Pr} : pairsR.own w [.slice a n cap] l F ↔ OwnPV w a n cap l ∧ F = (Value.slice a n cap).ownBlock.toList := by
  unfold pairsR
  rw [flat_pair.slice]
  constructor
  · rintro ⟨h1, h2, h3⟩
    have e : l.length = n := by
      rcases h1.2 with ⟨e, h0⟩ | ⟨g, c, cur, e, _⟩
      · cases e; exact h0
      · cases e; rfl
    exact ⟨⟨e, h2, by rw [← e] at h1 ⊢; exact h1⟩, h3⟩
  · rintro ⟨⟨h1, h2, h3⟩, h4⟩
    exact ⟨by rw [h1]; exact h3, h2, h4⟩
theorem ops_own {l : List Od} : opsR.own w [v] l F ↔ OwnV w 0 v l ∧ F = v.ownBlock.toList := by
  unfold opsR
  rw [flat_op.slice]
  constructor
  · rintro ⟨h1, h2, h3⟩
    exact ⟨⟨h2, h1⟩, h3⟩
  · rintro ⟨⟨h1, h2⟩, h4⟩
    exact ⟨h2, h1, h4⟩
theorem pairs_see {l : List Pr} : pairsR.see w [.slice a n cap] l ↔ SlP w a n l ∧ n ≤ cap := by
  constructor
  · rintro ⟨a', n', c', e, hc, h1, h2, h3, h4⟩
    cases e
    refine ⟨⟨h1, h2, fun p hp => ?_, fun h0 => ?_⟩, hc⟩
    · obtain ⟨vs, hv⟩ := h3 p hp
      exact (flat_pair.see.1 hv).2
    · obtain ⟨b, off, e, hi⟩ := h4 h0
      refine ⟨b, off, e, fun i hl => ?_⟩
      obtain ⟨vs, hs, hcl⟩ := hi i hl
      obtain ⟨rfl, _⟩ := flat_pair.see.1 hs
      exact ⟨hcl 0 _ rfl, hcl 1 _ rfl⟩
  · rintro ⟨⟨h1, h2, h3, h4⟩, hc⟩
    refine ⟨a, n, cap, rfl, hc, h1, h2, fun p hp => ⟨_, flat_pair.see.2 ⟨rfl, h3 p hp⟩⟩, fun h0 => ?_⟩
    obtain ⟨b, off, e, hi⟩ := h4 h0
    refine ⟨b, off, e, fun i hl => ⟨_, flat_pair.see.2 ⟨rfl, h3 _ (List.getElem_mem hl)⟩, fun j u hu => ?_⟩⟩
    obtain ⟨c0, c1⟩ := hi i hl
    match j, hu with
    | 0, hu => cases hu; exact c0
    | 1, hu => cases hu; exact c1
theorem ops_see {l : List Od} : opsR.see w [.slice a n cap] l ↔ SlO w a n l ∧ n ≤ cap := by
  constructor
  · rintro ⟨a', n', c', e, hc, h1, h2, h3, h4⟩
    cases e
    refine ⟨⟨h1, h2, fun p hp => ?_, fun h0 => ?_⟩, hc⟩
    · obtain ⟨vs, hv⟩ := h3 p hp
      exact (flat_op.see.1 hv).2
    · obtain ⟨b, off, e, hi⟩ := h4 h0
      refine ⟨b, off, e, fun i hl => ?_⟩
      obtain ⟨vs, hs, hcl⟩ := hi i hl
      obtain ⟨rfl, _⟩ := flat_op.see.1 hs
      exact ⟨hcl 0 _ rfl, hcl 1 _ rfl, hcl 2 _ rfl⟩
  · rintro ⟨⟨h1, h2, h3, h4⟩, hc⟩
    refine ⟨a, n, cap, rfl, hc, h1, h2, fun p hp => ⟨_, flat_op.see.2 ⟨rfl, h3 p hp⟩⟩, fun h0 => ?_⟩
    obtain ⟨b, off, e, hi⟩ := h4 h0
    refine ⟨b, off, e, fun i hl => ⟨_, flat_op.see.2 ⟨rfl, h3 _ (List.getElem_mem hl)⟩, fun j u hu => ?_⟩⟩
    obtain ⟨c0, c1, c2⟩ := hi i hl
    match j, hu with
    | 0, hu => cases hu; exact c0
    | 1, hu => cases hu; exact c1
    | 2, hu => cases hu; exact c2
end
/-! ### records -/
def recR : Rd Rc := both int (both int opsR)
def recsR : Rd (List Rc) := slice 125 recR
def blkR (v : Value) (hs : List Value) : List Nat := v.ownBlock.toList ++ hs.flatMap fun y => y.ownBlock.toList
section
variable {w w' : World} {a : Option Addr} {n cap : Nat} {F : List Nat} {v : Value}
theorem mem_blkR {hs : List Value} {k : Nat} : k ∈ blkR v hs ↔ BlkR v hs k := by
  unfold blkR BlkR
  rw [List.mem_append, List.mem_flatMap]
  constructor
  · rintro (h | ⟨y, hy, h⟩)
    · exact .inl (by simpa using h)
    · exact .inr ⟨y, hy, by simpa using h⟩
  · rintro (h | ⟨y, hy, h⟩)
    · exact .inl (by simp [h])
    · exact .inr ⟨y, hy, by simp [h]⟩
theorem rec_own {vs : List Value} {r : Rc} : recR.own w vs r F ↔ ∃ y, vs = [.int .i64 r.1, .int .i64 r.2.1, y] ∧ (Lit.int .i64 r.1).wf = true ∧ (Lit.int .i64 r.2.1).wf = true ∧ OwnV w 0 y r.2.2 ∧ F = y.ownBlock.toList := by
  constructor
  · rintro ⟨us, ts, F1, F2, rfl, rfl, h1, ⟨us2, ts2, F3, F4, rfl, rfl, h2, h3, _⟩, _⟩
    obtain ⟨rfl, k1, rfl⟩ := flat_int.own.1 h1
    obtain ⟨rfl, k2, rfl⟩ := flat_int.own.1 h2
    obtain ⟨a, c, q, rfl, _⟩ := own_open h3
    obtain ⟨h4, rfl⟩ := ops_own.1 h3
    exact ⟨_, rfl, k1, k2, h4, rfl⟩
  · rintro ⟨y, rfl, k1, k2, h4, rfl⟩
    have hn : (y.ownBlock.toList).Nodup := by cases y.ownBlock <;> simp
    exact ⟨[_], [_, y], [], _, rfl, rfl, flat_int.own.2 ⟨rfl, k1, rfl⟩, ⟨[_], [y], [], _, rfl, rfl, flat_int.own.2 ⟨rfl, k2, rfl⟩, ops_own.2 ⟨h4, rfl⟩, hn⟩, hn⟩
theorem rec_see {vs : List Value} {r : Rc} : recR.see w vs r ↔ ∃ pa pl pc, vs = [.int .i64 r.1, .int .i64 r.2.1, .slice pa pl pc] ∧ (Lit.int .i64 r.1).wf = true ∧ (Lit.int .i64 r.2.1).wf = true ∧ SlO w pa pl r.2.2 ∧ pl ≤ pc := by
  constructor
  · rintro ⟨us, ts, rfl, h1, us2, ts2, rfl, h2, h3⟩
    obtain ⟨rfl, k1⟩ := flat_int.see.1 h1
    obtain ⟨rfl, k2⟩ := flat_int.see.1 h2
    obtain ⟨pa, pl, pc, rfl, _⟩ := id h3
    have := ops_see.1 h3
    exact ⟨pa, pl, pc, rfl, k1, k2, this.1, this.2⟩
  · rintro ⟨pa, pl, pc, rfl, k1, k2, h1, h2⟩
    exact ⟨[_], [_, _], rfl, flat_int.see.2 ⟨rfl, k1⟩, [_], [_], rfl, flat_int.see.2 ⟨rfl, k2⟩, ops_see.2 ⟨h1, h2⟩⟩
theorem recs_see {l : List Rc} : recsR.see w [.slice a n cap] l ↔ SlR w a n l ∧ n ≤ cap := by
  constructor
  · rintro ⟨a', n', c', e, hc, h1, h2, h3, h4⟩
    cases e
    refine ⟨⟨h1, h2, fun p hp => ?_, fun h0 => ?_⟩, hc⟩
    · obtain ⟨vs, hv⟩ := h3 p hp
      obtain ⟨pa, pl, pc, _, k1, k2, k3, _⟩ := rec_see.1 hv
      exact ⟨k1, k2, k3.2.2.1⟩
    · obtain ⟨b, off, e, hi⟩ := h4 h0
      refine ⟨b, off, e, fun i hl => ?_⟩
      obtain ⟨vs, hs, hcl⟩ := hi i hl
      obtain ⟨pa, pl, pc, rfl, k1, k2, k3, k4⟩ := rec_see.1 hs
      exact ⟨hcl 0 _ rfl, hcl 1 _ rfl, pa, pl, pc, hcl 2 _ rfl, k3, k4⟩
  · rintro ⟨⟨h1, h2, h3, h4⟩, hc⟩
    have hat : 0 < n → ∃ b off, a = some ⟨b, off, none⟩ ∧ ∀ i (h : i < l.length), ∃ vs, recR.see w vs l[i] ∧ CellsAt w b (off + i * recR.size) vs := fun h0 => by
      obtain ⟨b, off, e, hi⟩ := h4 h0
      refine ⟨b, off, e, fun i hl => ?_⟩
      obtain ⟨c0, c1, pa, pl, pc, c2, k3, k4⟩ := hi i hl
      have hsm := h3 _ (List.getElem_mem hl)
      refine ⟨_, rec_see.2 ⟨pa, pl, pc, rfl, hsm.1, hsm.2.1, k3, k4⟩, fun j u hu => ?_⟩
      match j, hu with
      | 0, hu => cases hu; exact c0
      | 1, hu => cases hu; exact c1
      | 2, hu => cases hu; exact c2
    refine ⟨a, n, cap, rfl, hc, h1, h2, fun p hp => ?_, hat⟩
    obtain ⟨i, hi, rfl⟩ := List.getElem_of_mem hp
    obtain ⟨b, off, _, hx⟩ := hat (by omega)
    obtain ⟨vs, hv, _⟩ := hx i hi
    exact ⟨vs, hv⟩
def recPart (z : Rc × Value) : List Value × List Nat := ([.int .i64 z.1.1, .int .i64 z.1.2.1, z.2], z.2.ownBlock.toList)
theorem parts_cells (l : List Rc) (hs : List Value) : cellsOf ((l.zip hs).map recPart) = recVals l hs := by
  unfold cellsOf recVals recPart; rw [List.flatMap_map]
theorem parts_blocks (l : List Rc) (hs : List Value) (h : hs.length = l.length) : blocksOf ((l.zip hs).map recPart) = hs.flatMap fun y => y.ownBlock.toList := by
  unfold blocksOf recPart
  rw [List.flatMap_map]
  conv => rhs; rw [← List.map_snd_zip (l₁ := l) (l₂ := hs) (by omega)]
  rw [List.flatMap_map]
theorem recs_own {l : List Rc} : recsR.own w [v] l F ↔ ∃ hs, OwnR w 0 v l hs ∧ F = blkR v hs := by
  constructor
  · rintro ⟨v', q, e, rfl, h⟩
    cases e
    have hl := h.len
    obtain ⟨hs, hhl, hq⟩ : ∃ hs : List Value, hs.length = l.length ∧ ∀ i (h1 : i < l.length) (h2 : i < hs.length), (q[i]'(by omega)).1 = [.int .i64 l[i].1, .int .i64 l[i].2.1, hs[i]] := by
      refine ⟨q.map fun p => p.1.getD 2 (.slice none 0 0), by simp [hl], fun i h1 h2 => ?_⟩
      obtain ⟨y, e, _⟩ := rec_own.1 (h.each i h1)
      rw [List.getElem_map, e]; rfl
    have hq2 : ∀ i (h1 : i < l.length), smallR l[i] ∧ OwnV w 0 (hs[i]'(by omega)) l[i].2.2 ∧ (q[i]'(by omega)).2 = (hs[i]'(by omega)).ownBlock.toList := fun i h1 => by
      obtain ⟨y, e, k1, k2, k3, k4⟩ := rec_own.1 (h.each i h1)
      have e2 := hq i h1 (by omega)
      rw [e] at e2
      obtain rfl : y = hs[i]'(by omega) := by simpa using e2
      exact ⟨⟨k1, k2, k3.1⟩, k3, k4⟩
    have eq : q = (l.zip hs).map recPart := by
      refine List.ext_getElem (by simp [hl, hhl]) fun i h1 h2 => ?_
      rw [List.getElem_map, List.getElem_zip]
      exact Prod.ext (hq i (by omega) (by omega)) (hq2 i (by omega)).2.2
    have hnd := h.nodup
    rw [eq, parts_blocks l hs hhl] at hnd
    obtain ⟨n1, n2, n3⟩ := nodup_parts hnd
    refine ⟨hs, ⟨hhl, fun x hx => ?_, by rw [← parts_cells, ← eq]; exact h.row, fun i hi => (hq2 i hi).2.1, ?_, fun k hk y hy e => ?_⟩, ?_⟩
    · obtain ⟨i, hi, rfl⟩ := List.getElem_of_mem hx
      exact (hq2 i hi).1
    · have := (List.pairwise_flatMap.1 n2).2
      refine this.imp fun {a b} hab => ?_
      cases ha : a.ownBlock with
      | none => exact .inl rfl
      | some k =>
        right
        intro e
        exact hab k (by simp [ha]) k (by simp [← e]) rfl
    · exact n3 k (by simp [hk]) (List.mem_flatMap.2 ⟨y, hy, by simp [e]⟩)
    · unfold blkR; rw [eq, parts_blocks l hs hhl]
  · rintro ⟨hs, h, rfl⟩
    have hhl := h.len
    refine ⟨v, (l.zip hs).map recPart, rfl, by rw [parts_blocks l hs hhl]; rfl, ⟨by simp [hhl], by rw [parts_cells]; exact h.row, fun i hi => ?_, ?_⟩⟩
    · simp only [List.getElem_map, List.getElem_zip]
      have hsm := h.sm _ (List.getElem_mem hi)
      exact rec_own.2 ⟨_, rfl, hsm.1, hsm.2.1, h.ops i hi, rfl⟩
    · rw [parts_blocks l hs hhl]
      refine nodup_mk (by cases v.ownBlock <;> simp) ?_ (fun k hk hk2 => ?_)
      · refine List.pairwise_flatMap.2 ⟨fun a _ => by cases a.ownBlock <;> simp, h.apart.imp fun {a b} hab x hx y hy e => ?_⟩
        have ha : a.ownBlock = some x := by simpa using hx
        have hb : b.ownBlock = some y := by simpa using hy
        rcases hab with h1 | h1
        · rw [ha] at h1; cases h1
        · exact h1 (by rw [ha, hb, e])
      · obtain ⟨y, hy, e⟩ := List.mem_flatMap.1 hk2
        exact h.out k (by simpa using hk) y hy (by simpa using e)
end
/-! ### shards -/
def shardR : Rd Shd := both int (both recsR (both int (both pairsR recsR)))
def shVals (id sure : Int) (la : Option Addr) (ln lc : Nat) (ma : Option Addr) (mn mc : Nat) (ha : Option Addr) (hn hc : Nat) : List Value := [.int .i64 id, .slice la ln lc, .int .i64 sure, .slice ma mn mc, .slice ha hn hc]
structure SeeSh (w : World) (la : Option Addr) (ln lc : Nat) (ma : Option Addr) (mn mc : Nat) (ha : Option Addr) (hn hc : Nat) (s : Shd) : Prop where
  id : (Lit.int .i64 s.1).wf = true
  sure : (Lit.int .i64 s.2.2.1).wf = true
  log : SlR w la ln s.2.1
  map : SlP w ma mn s.2.2.2.1
  held : SlR w ha hn s.2.2.2.2
  lc : ln ≤ lc
  mc : mn ≤ mc
  hc : hn ≤ hc
section
variable {w w' : World} {la ma ha : Option Addr} {ln lc mn mc hn hc : Nat} {s : Shd} {vs : List Value} {F : List Nat}
theorem SeeSh.below (h : SeeSh w la ln lc ma mn mc ha hn hc s) (hb : Below w.heap.size w w') : SeeSh w' la ln lc ma mn mc ha hn hc s :=
  ⟨h.id, h.sure, h.log.below hb, h.map.below hb, h.held.below hb, h.lc, h.mc, h.hc⟩
theorem shard_see : shardR.see w vs s ↔ ∃ la ln lc ma mn mc ha hn hc, vs = shVals s.1 s.2.2.1 la ln lc ma mn mc ha hn hc ∧ SeeSh w la ln lc ma mn mc ha hn hc s := by
  constructor
  · rintro ⟨u1, t1, rfl, h1, u2, t2, rfl, h2, u3, t3, rfl, h3, u4, t4, rfl, h4, h5⟩
    obtain ⟨rfl, k1⟩ := flat_int.see.1 h1
    obtain ⟨rfl, k3⟩ := flat_int.see.1 h3
    obtain ⟨la, ln, lc, rfl, _⟩ := id h2
    obtain ⟨ma, mn, mc, rfl, _⟩ := id h4
    obtain ⟨ha, hn, hc, rfl, _⟩ := id h5
    have e2 := recs_see.1 h2
    have e4 := pairs_see.1 h4
    have e5 := recs_see.1 h5
    exact ⟨la, ln, lc, ma, mn, mc, ha, hn, hc, rfl, k1, k3, e2.1, e4.1, e5.1, e2.2, e4.2, e5.2⟩
  · rintro ⟨la, ln, lc, ma, mn, mc, ha, hn, hc, rfl, h⟩
    exact ⟨[_], [_, _, _, _], rfl, flat_int.see.2 ⟨rfl, h.id⟩, [_], [_, _, _], rfl, recs_see.2 ⟨h.log, h.lc⟩, [_], [_, _], rfl, flat_int.see.2 ⟨rfl, h.sure⟩, [_], [_], rfl, pairs_see.2 ⟨h.map, h.mc⟩, recs_see.2 ⟨h.held, h.hc⟩⟩
structure OwnSh (w : World) (la : Option Addr) (ln lc : Nat) (ma : Option Addr) (mn mc : Nat) (ha : Option Addr) (hn hc : Nat) (s : Shd) (F : List Nat) : Prop where
  id : (Lit.int .i64 s.1).wf = true
  sure : (Lit.int .i64 s.2.2.1).wf = true
  log : ∃ hl, OwnR w 0 (.slice la ln lc) s.2.1 hl ∧ ∃ hh, OwnR w 0 (.slice ha hn hc) s.2.2.2.2 hh ∧ F = blkR (.slice la ln lc) hl ++ ((Value.slice ma mn mc).ownBlock.toList ++ blkR (.slice ha hn hc) hh)
  map : OwnPV w ma mn mc s.2.2.2.1
  nodup : F.Nodup
theorem shard_own : shardR.own w vs s F ↔ ∃ la ln lc ma mn mc ha hn hc, vs = shVals s.1 s.2.2.1 la ln lc ma mn mc ha hn hc ∧ OwnSh w la ln lc ma mn mc ha hn hc s F := by
  constructor
  · rintro ⟨u1, t1, F1, G1, rfl, rfl, h1, ⟨u2, t2, F2, G2, rfl, rfl, h2, ⟨u3, t3, F3, G3, rfl, rfl, h3, ⟨u4, t4, F4, G4, rfl, rfl, h4, h5, _⟩, _⟩, _⟩, hnd⟩
    obtain ⟨rfl, k1, rfl⟩ := flat_int.own.1 h1
    obtain ⟨rfl, k3, rfl⟩ := flat_int.own.1 h3
    obtain ⟨la, lc, q2, rfl, _⟩ := own_open h2
    obtain ⟨ma, mc, q4, rfl, _⟩ := own_open h4
    obtain ⟨ha, hc, q5, rfl, _⟩ := own_open h5
    obtain ⟨hl, e2, rfl⟩ := recs_own.1 h2
    obtain ⟨e4, rfl⟩ := pairs_own.1 h4
    obtain ⟨hh, e5, rfl⟩ := recs_own.1 h5
    exact ⟨la, _, lc, ma, _, mc, ha, _, hc, rfl, k1, k3, ⟨hl, e2, hh, e5, rfl⟩, e4, hnd⟩
  · rintro ⟨la, ln, lc, ma, mn, mc, ha, hn, hc, rfl, h⟩
    obtain ⟨hl, e2, hh, e5, rfl⟩ := h.log
    have hnd := h.nodup
    have hnd2 := (nodup_parts hnd).2.1
    exact ⟨[_], [_, _, _, _], [], _, rfl, rfl, flat_int.own.2 ⟨rfl, h.id, rfl⟩, ⟨[_], [_, _, _], _, _, rfl, rfl, recs_own.2 ⟨hl, e2, rfl⟩, ⟨[_], [_, _], [], _, rfl, rfl, flat_int.own.2 ⟨rfl, h.sure, rfl⟩, ⟨[_], [_], _, _, rfl, rfl, pairs_own.2 ⟨h.map, rfl⟩, recs_own.2 ⟨hh, e5, rfl⟩, hnd2⟩, hnd2⟩, hnd⟩, hnd⟩
theorem OwnPV.room {l : List Pr} {a : Option Addr} {n cap : Nat} (h : OwnPV w a n cap l) : n ≤ cap ∧ cap ≤ maxLen := by
  rcases h.shape with ⟨rfl, rfl, rfl, _⟩ | ⟨g, rfl, h⟩
  · exact ⟨Nat.le_refl _, Nat.zero_le _⟩
  · exact OwnP.cases h
theorem OwnSh.see (h : OwnSh w la ln lc ma mn mc ha hn hc s F) : SeeSh w la ln lc ma mn mc ha hn hc s := by
  obtain ⟨hl, e2, hh, e5, rfl⟩ := h.log
  exact ⟨h.id, h.sure, e2.sl, h.map.sl, e5.sl, e2.room.1, (OwnPV.room h.map).1, e5.room.1⟩
theorem OwnSh.lt (h : OwnSh w la ln lc ma mn mc ha hn hc s F) : ∀ k ∈ F, k < w.heap.size :=
  shardR.ownLt (shard_own.2 ⟨_, _, _, _, _, _, _, _, _, rfl, h⟩)
theorem OwnSh.keep (h : OwnSh w la ln lc ma mn mc ha hn hc s F) (hk : ∀ k ∈ F, w'.heap[k]? = w.heap[k]?) : OwnSh w' la ln lc ma mn mc ha hn hc s F := by
  obtain ⟨hl, e2, hh, e5, rfl⟩ := h.log
  refine ⟨h.id, h.sure, ⟨hl, e2.of_blocks (fun k e => hk k (List.mem_append.2 (.inl (mem_blkR.2 e)))), hh, e5.of_blocks (fun k e => hk k (List.mem_append.2 (.inr (List.mem_append.2 (.inr (mem_blkR.2 e)))))), rfl⟩, h.map.of_block (fun k e => hk k (List.mem_append.2 (.inr (List.mem_append.2 (.inl (by simp [e])))))), h.nodup⟩
theorem OwnSh.below (h : OwnSh w la ln lc ma mn mc ha hn hc s F) (hb : Below w.heap.size w w') : OwnSh w' la ln lc ma mn mc ha hn hc s F := h.keep fun k hk => hb.block k (h.lt k hk)
theorem OwnSh.frame {G : List Nat} (h : OwnSh w la ln lc ma mn mc ha hn hc s F) (hf : Frame G w w') (hd : ∀ k ∈ F, k ∉ G) : OwnSh w' la ln lc ma mn mc ha hn hc s F := h.keep fun k hk => hf.block k (h.lt k hk) (hd k hk)
end
end Go.Proofs.Ytmibabclefgljaa.lay

namespace Go.Proofs.Ytmibabclefgljaa.wos
open Go Go.RowKit Go.Proofs.Ytmibabclefgljaa.base Go.Proofs.Ytmibabclefgljaa.pairs Go.Proofs.Ytmibabclefgljaa.ords Go.Proofs.Ytmibabclefgljaa.lay
set_option linter.unusedVariables false
set_option linter.unusedSimpArgs false

abbrev Orr := Int × List Od
abbrev Wo := cos.Co × List recs.Shd × List wds.Wd × List wds.Wd × List Orr
def ordR : Rd Orr := both int cos.opsR
def ordsR : Rd (List Orr) := slice 87 ordR
def shsR : Rd (List recs.Shd) := slice 52 shardR
def worldR : Rd Wo := both cos.coordR (both shsR (both cos.wordsR (both cos.wordsR ordsR)))
section
variable {w w' : World} {F : List Nat} {vs : List Value}
theorem ord_see {x : Orr} : ordR.see w vs x ↔ ∃ oa ol oc, vs = [.int .i64 x.1, .slice oa ol oc] ∧ (Lit.int .i64 x.1).wf = true ∧ SlO w oa ol x.2 ∧ ol ≤ oc := by
  constructor
  · rintro ⟨u1, t1, rfl, h1, h2⟩
    obtain ⟨rfl, k1⟩ := cos.flat_int.see.1 h1
    obtain ⟨oa, ol, oc, rfl, _⟩ := id h2
    have h6 := cos.ops_see.1 h2
    exact ⟨oa, ol, oc, rfl, k1, h6.1, h6.2⟩
  · rintro ⟨oa, ol, oc, rfl, k1, h4, h5⟩
    exact ⟨[_], [_], rfl, cos.flat_int.see.2 ⟨rfl, k1⟩, cos.ops_see.2 ⟨h4, h5⟩⟩
theorem ord_own {x : Orr} : ordR.own w vs x F ↔ ∃ v, vs = [.int .i64 x.1, v] ∧ (Lit.int .i64 x.1).wf = true ∧ cos.opsR.own w [v] x.2 F := by
  constructor
  · rintro ⟨u1, t1, F1, G1, rfl, rfl, h1, h2, _⟩
    obtain ⟨rfl, k1, rfl⟩ := cos.flat_int.own.1 h1
    obtain ⟨v, q, rfl, _⟩ := id h2
    exact ⟨v, rfl, k1, by simpa using h2⟩
  · rintro ⟨v, rfl, k1, h4⟩
    exact ⟨[_], [v], [], F, rfl, rfl, cos.flat_int.own.2 ⟨rfl, k1, rfl⟩, h4, cos.opsR.ownNodup h4⟩
theorem ord_at {b off len : Nat} {l : List Orr} (h : SlG ordR w (some ⟨b, off, none⟩) len l) (i : Nat) (hi : i < l.length) : w.cell? ⟨b, off + i * 2, none⟩ = some (.int .i64 l[i].1) ∧ ∃ oa ol oc, w.cell? ⟨b, off + i * 2 + 1, none⟩ = some (.slice oa ol oc) ∧ SlO w oa ol l[i].2 ∧ ol ≤ oc := by
  obtain ⟨b', off', e, hc⟩ := h.2.2.2 (by have := h.1; omega)
  simp only [Option.some.injEq, Addr.mk.injEq, and_true] at e
  obtain ⟨rfl, rfl⟩ := e
  obtain ⟨vs, hs, hcl⟩ := hc i hi
  obtain ⟨oa, ol, oc, rfl, k1, h5⟩ := ord_see.1 hs
  exact ⟨hcl 0 _ rfl, oa, ol, oc, hcl 1 _ rfl, h5⟩
theorem shard_at {b off len : Nat} {l : List recs.Shd} (h : SlG shardR w (some ⟨b, off, none⟩) len l) (i : Nat) (hi : i < l.length) : ∃ la ln lc ma mn mc ha hn hc, w.cell? ⟨b, off + i * 5, none⟩ = some (.int .i64 l[i].1) ∧ w.cell? ⟨b, off + i * 5 + 1, none⟩ = some (.slice la ln lc) ∧ w.cell? ⟨b, off + i * 5 + 2, none⟩ = some (.int .i64 l[i].2.2.1) ∧ w.cell? ⟨b, off + i * 5 + 3, none⟩ = some (.slice ma mn mc) ∧ w.cell? ⟨b, off + i * 5 + 4, none⟩ = some (.slice ha hn hc) ∧ SeeSh w la ln lc ma mn mc ha hn hc l[i] := by
  obtain ⟨b', off', e, hc⟩ := h.2.2.2 (by have := h.1; omega)
  simp only [Option.some.injEq, Addr.mk.injEq, and_true] at e
  obtain ⟨rfl, rfl⟩ := e
  obtain ⟨vs, hs, hcl⟩ := hc i hi
  obtain ⟨la, ln, lc, ma, mn, mc, ha, hn, hc, rfl, h5⟩ := shard_see.1 hs
  exact ⟨la, ln, lc, ma, mn, mc, ha, hn, hc, hcl 0 _ rfl, hcl 1 _ rfl, hcl 2 _ rfl, hcl 3 _ rfl, hcl 4 _ rfl, h5⟩
theorem word_at {b off len : Nat} {l : List wds.Wd} (h : SlG cos.wordR w (some ⟨b, off, none⟩) len l) (i : Nat) (hi : i < l.length) : ∃ oa ol oc, w.cell? ⟨b, off + i * 5, none⟩ = some (.int .i64 l[i].1) ∧ w.cell? ⟨b, off + i * 5 + 1, none⟩ = some (.int .i64 l[i].2.1) ∧ w.cell? ⟨b, off + i * 5 + 2, none⟩ = some (.int .i64 l[i].2.2.1) ∧ w.cell? ⟨b, off + i * 5 + 3, none⟩ = some (.slice oa ol oc) ∧ w.cell? ⟨b, off + i * 5 + 4, none⟩ = some (.bool l[i].2.2.2.2) ∧ SlO w oa ol l[i].2.2.2.1 ∧ ol ≤ oc ∧ (Lit.int .i64 l[i].1).wf = true ∧ (Lit.int .i64 l[i].2.1).wf = true ∧ (Lit.int .i64 l[i].2.2.1).wf = true := by
  obtain ⟨b', off', e, hc⟩ := h.2.2.2 (by have := h.1; omega)
  simp only [Option.some.injEq, Addr.mk.injEq, and_true] at e
  obtain ⟨rfl, rfl⟩ := e
  obtain ⟨vs, hs, hcl⟩ := hc i hi
  obtain ⟨oa, ol, oc, rfl, k1, k2, k3, h5⟩ := cos.word_see.1 hs
  exact ⟨oa, ol, oc, hcl 0 _ rfl, hcl 1 _ rfl, hcl 2 _ rfl, hcl 3 _ rfl, hcl 4 _ rfl, h5.1, h5.2, k1, k2, k3⟩
theorem cells5 {X : Nat} {T : TypeId} {w : World} {v0 v1 v2 v3 v4 : Value} (h : BoxIn X T [] [v0, v1, v2, v3, v4] [] w) : w.cell? ⟨X, 0, none⟩ = some v0 ∧ w.cell? ⟨X, 1, none⟩ = some v1 ∧ w.cell? ⟨X, 2, none⟩ = some v2 ∧ w.cell? ⟨X, 3, none⟩ = some v3 ∧ w.cell? ⟨X, 4, none⟩ = some v4 := by
  have a0 := h.cell 0 _ rfl
  have a1 := h.cell 1 _ rfl
  have a2 := h.cell 2 _ rfl
  have a3 := h.cell 3 _ rfl
  have a4 := h.cell 4 _ rfl
  simp only [List.length_nil, Nat.zero_add] at a0 a1 a2 a3 a4
  exact ⟨a0, a1, a2, a3, a4⟩
structure SeeWo (w : World) (ja : Option Addr) (jn jc : Nat) (la : Option Addr) (ln lc : Nat) (sa : Option Addr) (sn sc : Nat) (na : Option Addr) (nn nc : Nat) (oa : Option Addr) (on oc : Nat) (ba : Option Addr) (bn bc : Nat) (x : Wo) : Prop where
  co : cos.SeeCo w ja jn jc la ln lc x.1
  sh : SlG shardR w sa sn x.2.1
  net : SlG cos.wordR w na nn x.2.2.1
  outs : SlG cos.wordR w oa on x.2.2.2.1
  begun : SlG ordR w ba bn x.2.2.2.2
  shc : sn ≤ sc
  netc : nn ≤ nc
  outc : on ≤ oc
  begc : bn ≤ bc
theorem SeeWo.below {ja : Option Addr} {jn jc : Nat} {la : Option Addr} {ln lc : Nat} {sa : Option Addr} {sn sc : Nat} {na : Option Addr} {nn nc : Nat} {oa : Option Addr} {on oc : Nat} {ba : Option Addr} {bn bc : Nat} {x : Wo} (h : SeeWo w ja jn jc la ln lc sa sn sc na nn nc oa on oc ba bn bc x) (hb : Below w.heap.size w w') : SeeWo w' ja jn jc la ln lc sa sn sc na nn nc oa on oc ba bn bc x := ⟨h.co.below hb, h.sh.below hb, h.net.below hb, h.outs.below hb, h.begun.below hb, h.shc, h.netc, h.outc, h.begc⟩
theorem world_see {x : Wo} : worldR.see w vs x ↔ ∃ ja jn jc la ln lc sa sn sc na nn nc oa on oc ba bn bc, vs = [.int .i64 x.1.1, .int .i64 x.1.2.1, .int .i64 x.1.2.2.1, .slice ja jn jc, .slice la ln lc, .int .i64 x.1.2.2.2.2.2, .slice sa sn sc, .slice na nn nc, .slice oa on oc, .slice ba bn bc] ∧ SeeWo w ja jn jc la ln lc sa sn sc na nn nc oa on oc ba bn bc x := by
  constructor
  · rintro ⟨u1, t1, rfl, h1, u2, t2, rfl, h2, u3, t3, rfl, h3, u4, t4, rfl, h4, h5⟩
    obtain ⟨ja, jn, jc, la, ln, lc, rfl, k1⟩ := cos.coord_see.1 h1
    obtain ⟨sa, sn, sc, rfl, s1, s2⟩ := h2
    obtain ⟨na, nn, nc, rfl, n1, n2⟩ := h3
    obtain ⟨oa, on, oc, rfl, o1, o2⟩ := h4
    obtain ⟨ba, bn, bc, rfl, b1, b2⟩ := h5
    exact ⟨ja, jn, jc, la, ln, lc, sa, sn, sc, na, nn, nc, oa, on, oc, ba, bn, bc, rfl, k1, s2, n2, o2, b2, s1, n1, o1, b1⟩
  · rintro ⟨ja, jn, jc, la, ln, lc, sa, sn, sc, na, nn, nc, oa, on, oc, ba, bn, bc, rfl, h⟩
    exact ⟨cos.coVals x.1.1 x.1.2.1 x.1.2.2.1 x.1.2.2.2.2.2 ja jn jc la ln lc, [_, _, _, _], rfl, cos.coord_see.2 ⟨_, _, _, _, _, _, rfl, h.co⟩, [_], [_, _, _], rfl, ⟨_, _, _, rfl, h.shc, h.sh⟩, [_], [_, _], rfl, ⟨_, _, _, rfl, h.netc, h.net⟩, [_], [_], rfl, ⟨_, _, _, rfl, h.outc, h.outs⟩, ⟨_, _, _, rfl, h.begc, h.begun⟩⟩
theorem see_wo {x : Wo} {ja : Option Addr} {jn jc : Nat} {la : Option Addr} {ln lc : Nat} {sa : Option Addr} {sn sc : Nat} {na : Option Addr} {nn nc : Nat} {oa : Option Addr} {on oc : Nat} {ba : Option Addr} {bn bc : Nat} (h : worldR.see w [.int .i64 x.1.1, .int .i64 x.1.2.1, .int .i64 x.1.2.2.1, .slice ja jn jc, .slice la ln lc, .int .i64 x.1.2.2.2.2.2, .slice sa sn sc, .slice na nn nc, .slice oa on oc, .slice ba bn bc] x) : SeeWo w ja jn jc la ln lc sa sn sc na nn nc oa on oc ba bn bc x := by
  obtain ⟨ja', jn', jc', la', ln', lc', sa', sn', sc', na', nn', nc', oa', on', oc', ba', bn', bc', e, h⟩ := world_see.1 h
  simp only [List.cons.injEq, Value.slice.injEq, and_true, true_and] at e
  obtain ⟨⟨rfl, rfl, rfl⟩, ⟨rfl, rfl, rfl⟩, ⟨rfl, rfl, rfl⟩, ⟨rfl, rfl, rfl⟩, ⟨rfl, rfl, rfl⟩, ⟨rfl, rfl, rfl⟩⟩ := e
  exact h
theorem world_see10 {x : Wo} {u0 u1 u2 u3 u4 u5 u6 u7 u8 u9 : Value} (h : worldR.see w [u0, u1, u2, u3, u4, u5, u6, u7, u8, u9] x) : ∃ ja jn jc la ln lc sa sn sc na nn nc oa on oc ba bn bc, u0 = .int .i64 x.1.1 ∧ u1 = .int .i64 x.1.2.1 ∧ u2 = .int .i64 x.1.2.2.1 ∧ u3 = .slice ja jn jc ∧ u4 = .slice la ln lc ∧ u5 = .int .i64 x.1.2.2.2.2.2 ∧ u6 = .slice sa sn sc ∧ u7 = .slice na nn nc ∧ u8 = .slice oa on oc ∧ u9 = .slice ba bn bc ∧ SeeWo w ja jn jc la ln lc sa sn sc na nn nc oa on oc ba bn bc x := by
  obtain ⟨ja, jn, jc, la, ln, lc, sa, sn, sc, na, nn, nc, oa, on, oc, ba, bn, bc, e, h⟩ := world_see.1 h
  simp only [List.cons.injEq, and_true] at e
  obtain ⟨e0, e1, e2, e3, e4, e5, e6, e7, e8, e9⟩ := e
  exact ⟨ja, jn, jc, la, ln, lc, sa, sn, sc, na, nn, nc, oa, on, oc, ba, bn, bc, e0, e1, e2, e3, e4, e5, e6, e7, e8, e9, h⟩
theorem world_own {x : Wo} : worldR.own w vs x F ↔ ∃ us v1 v2 v3 v4 F0 F1 F2 F3 F4, vs = us ++ [v1, v2, v3, v4] ∧ F = F0 ++ (F1 ++ (F2 ++ (F3 ++ F4))) ∧ cos.coordR.own w us x.1 F0 ∧ shsR.own w [v1] x.2.1 F1 ∧ cos.wordsR.own w [v2] x.2.2.1 F2 ∧ cos.wordsR.own w [v3] x.2.2.2.1 F3 ∧ ordsR.own w [v4] x.2.2.2.2 F4 ∧ F.Nodup := by
  constructor
  · rintro ⟨u1, t1, F0, G0, rfl, rfl, h1, ⟨u2, t2, F1, G1, rfl, rfl, h2, ⟨u3, t3, F2, G2, rfl, rfl, h3, ⟨u4, t4, F3, F4, rfl, rfl, h4, h5, _⟩, _⟩, _⟩, hn⟩
    obtain ⟨v1, q1, rfl, _⟩ := id h2
    obtain ⟨v2, q2, rfl, _⟩ := id h3
    obtain ⟨v3, q3, rfl, _⟩ := id h4
    obtain ⟨v4, q4, rfl, _⟩ := id h5
    exact ⟨u1, v1, v2, v3, v4, F0, F1, F2, F3, F4, rfl, rfl, h1, h2, h3, h4, h5, hn⟩
  · rintro ⟨us, v1, v2, v3, v4, F0, F1, F2, F3, F4, rfl, rfl, h1, h2, h3, h4, h5, hn⟩
    have n1 := (nodup_parts hn).2.1
    have n2 := (nodup_parts n1).2.1
    have n3 := (nodup_parts n2).2.1
    exact ⟨us, [v1, v2, v3, v4], F0, _, rfl, rfl, h1, ⟨[v1], [v2, v3, v4], F1, _, rfl, rfl, h2, ⟨[v2], [v3, v4], F2, _, rfl, rfl, h3, ⟨[v3], [v4], F3, F4, rfl, rfl, h4, h5, n3⟩, n2⟩, n1⟩, hn⟩
theorem world_shape {x : Wo} (h : worldR.own w vs x F) : ∃ ja jn jc la ln lc sa sn sc na nn nc oa on oc ba bn bc, vs = [.int .i64 x.1.1, .int .i64 x.1.2.1, .int .i64 x.1.2.2.1, .slice ja jn jc, .slice la ln lc, .int .i64 x.1.2.2.2.2.2, .slice sa sn sc, .slice na nn nc, .slice oa on oc, .slice ba bn bc] := by
  obtain ⟨ja, jn, jc, la, ln, lc, sa, sn, sc, na, nn, nc, oa, on, oc, ba, bn, bc, e, _⟩ := world_see.1 (worldR.ownSee h)
  exact ⟨ja, jn, jc, la, ln, lc, sa, sn, sc, na, nn, nc, oa, on, oc, ba, bn, bc, e⟩
end
end Go.Proofs.Ytmibabclefgljaa.wos

namespace Go.Proofs.Ytmibabclefgljaa.recs
open Go Go.RowKit Go.Proofs.Ytmibabclefgljaa.base Go.Proofs.Ytmibabclefgljaa.pairs Go.Proofs.Ytmibabclefgljaa.ords
set_option linter.unusedVariables false
set_option linter.unusedSimpArgs false

end Go.Proofs.Ytmibabclefgljaa.recs

namespace Go.Proofs.Ytmibabclefgljaa.recs
open Go Go.RowKit Go.Proofs.Ytmibabclefgljaa.base Go.Proofs.Ytmibabclefgljaa.pairs Go.Proofs.Ytmibabclefgljaa.ords
set_option linter.unusedVariables false
set_option linter.unusedSimpArgs false

end Go.Proofs.Ytmibabclefgljaa.recs

namespace Go.Proofs.Ytmibabclefgljaa.stepc
open Go Go.RowKit
end Go.Proofs.Ytmibabclefgljaa.stepc
namespace Go.Proofs.Ytmibabclefgljaa.recs
open Go Go.RowKit Go.Proofs.Ytmibabclefgljaa.base Go.Proofs.Ytmibabclefgljaa.pairs Go.Proofs.Ytmibabclefgljaa.ords
set_option linter.unusedVariables false
set_option linter.unusedSimpArgs false
end Go.Proofs.Ytmibabclefgljaa.recs

namespace Go.Proofs.Ytmibabclefgljaa.recs
open Go Go.RowKit Go.Proofs.Ytmibabclefgljaa.base Go.Proofs.Ytmibabclefgljaa.pairs Go.Proofs.Ytmibabclefgljaa.ords
set_option linter.unusedVariables false
set_option linter.unusedSimpArgs false
end Go.Proofs.Ytmibabclefgljaa.recs

namespace Go.Proofs.Ytmibabclefgljaa.recs
open Go Go.RowKit Go.Proofs.Ytmibabclefgljaa.base Go.Proofs.Ytmibabclefgljaa.pairs Go.Proofs.Ytmibabclefgljaa.ords
set_option linter.unusedVariables false
set_option linter.unusedSimpArgs false

end Go.Proofs.Ytmibabclefgljaa.recs

namespace Go.Proofs.Ytmibabclefgljaa.recs
open Go Go.RowKit Go.Proofs.Ytmibabclefgljaa.base Go.Proofs.Ytmibabclefgljaa.pairs Go.Proofs.Ytmibabclefgljaa.ords
set_option linter.unusedVariables false
set_option linter.unusedSimpArgs false
end Go.Proofs.Ytmibabclefgljaa.recs

namespace Go.Proofs.Ytmibabclefgljaa.stepc
open Go Go.RowKit
end Go.Proofs.Ytmibabclefgljaa.stepc
namespace Go.Proofs.Ytmibabclefgljaa.recs
open Go Go.RowKit Go.Proofs.Ytmibabclefgljaa.base Go.Proofs.Ytmibabclefgljaa.pairs Go.Proofs.Ytmibabclefgljaa.ords
set_option linter.unusedVariables false
set_option linter.unusedSimpArgs false
end Go.Proofs.Ytmibabclefgljaa.recs

namespace Go.Proofs.Ytmibabclefgljaa.recs
open Go Go.RowKit Go.Proofs.Ytmibabclefgljaa.base Go.Proofs.Ytmibabclefgljaa.pairs Go.Proofs.Ytmibabclefgljaa.ords
set_option linter.unusedVariables false
set_option linter.unusedSimpArgs false

end Go.Proofs.Ytmibabclefgljaa.recs

namespace Go.Proofs.Ytmibabclefgljaa.recs
open Go Go.RowKit Go.Proofs.Ytmibabclefgljaa.base Go.Proofs.Ytmibabclefgljaa.pairs Go.Proofs.Ytmibabclefgljaa.ords
set_option linter.unusedVariables false
set_option linter.unusedSimpArgs false

end Go.Proofs.Ytmibabclefgljaa.recs

namespace Go.Proofs.Ytmibabclefgljaa.recs
open Go Go.RowKit Go.Proofs.Ytmibabclefgljaa.base Go.Proofs.Ytmibabclefgljaa.pairs Go.Proofs.Ytmibabclefgljaa.ords Go.Proofs.Ytmibabclefgljaa.helps Go.Proofs.Ytmibabclefgljaa.help
set_option linter.unusedVariables false
set_option linter.unusedSimpArgs false

end Go.Proofs.Ytmibabclefgljaa.recs

