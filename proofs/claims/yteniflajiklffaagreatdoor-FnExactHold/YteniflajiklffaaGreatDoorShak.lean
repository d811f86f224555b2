/- How pairs, orders, records and shards lie in memory. No function of the program is named here. A shard that came in. The program's named errors: what their variables hold, and errors.Is over them. The specification's replay: one record more. The specification's replay: one record more, that is not held. -/
import Derived.Test.YteniflajiklffaaGreatDoorShaf
import Derived.Test.YteniflajiklffaaGreatDoorShaj
import Derived.Test.YteniflajiklffaaGreatDoorShae
import Derived.Test.YteniflajiklffaaGreatDoorRows
import Derived.Test.YteniflajiklffaaGreatDoorShaa
import Derived.WalkKit
import Derived.LaidEql
import Derived.LaidLaws
import Derived.Stop.Asserts
import Derived.RowKitTokens
namespace Go.Proofs.YteniflajiklffaaGreatDoor.lay
open Go Go.RowKit Go.Proofs.YteniflajiklffaaGreatDoor.base Go.Proofs.YteniflajiklffaaGreatDoor.pairs Go.Proofs.YteniflajiklffaaGreatDoor.ords Go.Proofs.YteniflajiklffaaGreatDoor.recs
set_option linter.unusedVariables false
set_option linter.unusedSimpArgs false

/-! ### types without slices -/
structure Flat {α : Type} (R : Rd α) (enc : α → List Value) (ok : α → Prop) : Prop where
  own : ∀ {w vs x F}, R.own w vs x F ↔ vs = enc x ∧ ok x ∧ F = []
  see : ∀ {w vs x}, R.see w vs x ↔ vs = enc x ∧ ok x
theorem flat_int : Flat int (fun x => [.int .i64 x]) (fun x => (Lit.int .i64 x).wf = true) :=
  ⟨fun {_ _ _ _} => ⟨fun h => ⟨h.1.1, h.1.2, h.2⟩, fun h => ⟨⟨h.1, h.2.1⟩, h.2.2⟩⟩, fun {_ _ _} => Iff.rfl⟩
theorem flat_str : Flat str (fun x => [.string x]) (fun x => x.size ≤ maxLen) :=
  ⟨fun {_ _ _ _} => ⟨fun h => ⟨h.1.1, h.1.2, h.2⟩, fun h => ⟨⟨h.1, h.2.1⟩, h.2.2⟩⟩, fun {_ _ _} => Iff.rfl⟩
theorem flat_both {α β : Type} {R : Rd α} {S : Rd β} {e1 : α → List Value} {e2 : β → List Value} {o1 : α → Prop} {o2 : β → Prop} (h1 : Flat R e1 o1) (h2 : Flat S e2 o2) : Flat (both R S) (fun x => e1 x.1 ++ e2 x.2) (fun x => o1 x.1 ∧ o2 x.2) := by
  constructor
  · intro w vs x F
    constructor
    · rintro ⟨us, ts, F1, F2, rfl, rfl, h3, h4, _⟩
      obtain ⟨rfl, k1, rfl⟩ := h1.own.1 h3
      obtain ⟨rfl, k2, rfl⟩ := h2.own.1 h4
      exact ⟨rfl, ⟨k1, k2⟩, rfl⟩
    · rintro ⟨rfl, ⟨k1, k2⟩, rfl⟩
      exact ⟨_, _, [], [], rfl, rfl, h1.own.2 ⟨rfl, k1, rfl⟩, h2.own.2 ⟨rfl, k2, rfl⟩, List.nodup_nil⟩
  · intro w vs x
    constructor
    · rintro ⟨us, ts, rfl, h3, h4⟩
      obtain ⟨rfl, k1⟩ := h1.see.1 h3
      obtain ⟨rfl, k2⟩ := h2.see.1 h4
      exact ⟨rfl, k1, k2⟩
    · rintro ⟨rfl, k1, k2⟩
      exact ⟨_, _, rfl, h1.see.2 ⟨rfl, k1⟩, h2.see.2 ⟨rfl, k2⟩⟩
section
variable {α : Type} {R : Rd α} {enc : α → List Value} {ok : α → Prop} {ty : TypeId} {w : World} {v : Value} {l : List α} {q : Parts} {F : List Nat}
theorem Flat.parts (hR : Flat R enc ok) (h : OwnG ty R w v l q) : q = l.map (fun x => (enc x, [])) ∧ (∀ x ∈ l, ok x) ∧ blocksOf q = [] ∧ cellsOf q = l.flatMap enc := by
  have hl := h.len
  have e : q = l.map (fun x => (enc x, [])) := by
    refine List.ext_getElem (by simp [hl]) fun i h1 h2 => ?_
    have h3 := hR.own.1 (h.each i (by omega))
    rw [List.getElem_map]
    exact Prod.ext h3.1 h3.2.2
  refine ⟨e, fun x hx => ?_, ?_, ?_⟩
  · obtain ⟨i, hi, rfl⟩ := List.getElem_of_mem hx
    exact (hR.own.1 (h.each i hi)).2.1
  · rw [e]; unfold blocksOf; rw [List.flatMap_map]; simp
  · rw [e]; unfold cellsOf; rw [List.flatMap_map]
theorem Flat.row (hR : Flat R enc ok) (h : OwnG ty R w v l q) : w.ownsRow 0 ty R.size v l.length (l.flatMap enc) := by
  rw [← (hR.parts h).2.2.2]; exact h.row
theorem Flat.made (hR : Flat R enc ok) (hr : w.ownsRow 0 ty R.size v l.length (l.flatMap enc)) (hok : ∀ x ∈ l, ok x) : OwnG ty R w v l (l.map (fun x => (enc x, []))) := by
  have e1 : cellsOf (l.map (fun x => (enc x, ([] : List Nat)))) = l.flatMap enc := by unfold cellsOf; rw [List.flatMap_map]
  have e2 : blocksOf (l.map (fun x => (enc x, ([] : List Nat)))) = [] := by unfold blocksOf; rw [List.flatMap_map]; simp
  refine ⟨by simp, by rw [e1]; exact hr, fun i hi => ?_, by rw [e2]; cases v.ownBlock <;> simp⟩
  simp only [List.getElem_map]
  exact hR.own.2 ⟨rfl, hok _ (List.getElem_mem _), rfl⟩
theorem Flat.slice (hR : Flat R enc ok) : (lay.slice ty R).own w [v] l F ↔ w.ownsRow 0 ty R.size v l.length (l.flatMap enc) ∧ (∀ x ∈ l, ok x) ∧ F = v.ownBlock.toList := by
  constructor
  · rintro ⟨v', q, e, rfl, h⟩
    cases e
    exact ⟨hR.row h, (hR.parts h).2.1, by rw [(hR.parts h).2.2.1, List.append_nil]⟩
  · rintro ⟨h1, h2, rfl⟩
    have h3 := hR.made h1 h2
    exact ⟨v, _, rfl, by rw [(hR.parts h3).2.2.1, List.append_nil], h3⟩
end
/-! ### pairs, orders, whole numbers -/
def pairR : Rd Pr := both str str
def opR : Rd Od := both int (both str str)
theorem flat_pair : Flat pairR (fun p => [.string p.1, .string p.2]) small := flat_both flat_str flat_str
theorem flat_op : Flat opR (fun o => [.int .i64 o.1, .string o.2.1, .string o.2.2]) smallO := flat_both flat_int (flat_both flat_str flat_str)
def pairsR : Rd (List Pr) := slice 74 pairR
def opsR : Rd (List Od) := slice 85 opR
section
variable {w w' : World} {a : Option Addr} {n cap : Nat} {F : List Nat} {v : Value}
theorem pairs_own {l : List Pr} : pairsR.own w [.slice a n cap] l F ↔ OwnPV w a n cap l ∧ F = (Value.slice a n cap).ownBlock.toList := by
  unfold pairsR
  rw [flat_pair.slice]
  constructor
  · rintro ⟨h1, h2, h3⟩
    have e : l.length = n := by
      rcases h1.2 with ⟨e, h0⟩ | ⟨g, c, cur, e, _⟩
      · cases e; exact h0
      · cases e; rfl
    exact ⟨⟨e, h2, by rw [← e] at h1 ⊢; exact h1⟩, h3⟩
  · rintro ⟨⟨h1, h2, h3⟩, h4⟩
    exact ⟨by rw [h1]; exact h3, h2, h4⟩
theorem ops_own {l : List Od} : opsR.own w [v] l F ↔ OwnV w 0 v l ∧ F = v.ownBlock.toList := by
  unfold opsR
  rw [flat_op.slice]
  constructor
  · rintro ⟨h1, h2, h3⟩
    exact ⟨⟨h2, h1⟩, h3⟩
  · rintro ⟨⟨h1, h2⟩, h4⟩
    exact ⟨h2, h1, h4⟩
end
/-! ### records -/
def recR : Rd Rc := both int (both int opsR)
def recsR : Rd (List Rc) := slice 41 recR
def blkR (v : Value) (hs : List Value) : List Nat := v.ownBlock.toList ++ hs.flatMap fun y => y.ownBlock.toList
section
variable {w w' : World} {a : Option Addr} {n cap : Nat} {F : List Nat} {v : Value}
theorem mem_blkR {hs : List Value} {k : Nat} : k ∈ blkR v hs ↔ BlkR v hs k := by
  unfold blkR BlkR
  rw [List.mem_append, List.mem_flatMap]
  constructor
  · rintro (h | ⟨y, hy, h⟩)
    · exact .inl (by simpa using h)
    · exact .inr ⟨y, hy, by simpa using h⟩
  · rintro (h | ⟨y, hy, h⟩)
    · exact .inl (by simp [h])
    · exact .inr ⟨y, hy, by simp [h]⟩
theorem rec_own {vs : List Value} {r : Rc} : recR.own w vs r F ↔ ∃ y, vs = [.int .i64 r.1, .int .i64 r.2.1, y] ∧ (Lit.int .i64 r.1).wf = true ∧ (Lit.int .i64 r.2.1).wf = true ∧ OwnV w 0 y r.2.2 ∧ F = y.ownBlock.toList := by
  constructor
  · rintro ⟨us, ts, F1, F2, rfl, rfl, h1, ⟨us2, ts2, F3, F4, rfl, rfl, h2, h3, _⟩, _⟩
    obtain ⟨rfl, k1, rfl⟩ := flat_int.own.1 h1
    obtain ⟨rfl, k2, rfl⟩ := flat_int.own.1 h2
    obtain ⟨a, c, q, rfl, _⟩ := own_open h3
    obtain ⟨h4, rfl⟩ := ops_own.1 h3
    exact ⟨_, rfl, k1, k2, h4, rfl⟩
  · rintro ⟨y, rfl, k1, k2, h4, rfl⟩
    have hn : (y.ownBlock.toList).Nodup := by cases y.ownBlock <;> simp
    exact ⟨[_], [_, y], [], _, rfl, rfl, flat_int.own.2 ⟨rfl, k1, rfl⟩, ⟨[_], [y], [], _, rfl, rfl, flat_int.own.2 ⟨rfl, k2, rfl⟩, ops_own.2 ⟨h4, rfl⟩, hn⟩, hn⟩
def recPart (z : Rc × Value) : List Value × List Nat := ([.int .i64 z.1.1, .int .i64 z.1.2.1, z.2], z.2.ownBlock.toList)
theorem parts_cells (l : List Rc) (hs : List Value) : cellsOf ((l.zip hs).map recPart) = recVals l hs := by
  unfold cellsOf recVals recPart; rw [List.flatMap_map]
theorem parts_blocks (l : List Rc) (hs : List Value) (h : hs.length = l.length) : blocksOf ((l.zip hs).map recPart) = hs.flatMap fun y => y.ownBlock.toList := by
  unfold blocksOf recPart
  rw [List.flatMap_map]
  conv => rhs; rw [← List.map_snd_zip (l₁ := l) (l₂ := hs) (by omega)]
  rw [List.flatMap_map]
theorem recs_own {l : List Rc} : recsR.own w [v] l F ↔ ∃ hs, OwnR w 0 v l hs ∧ F = blkR v hs := by
  constructor
  · rintro ⟨v', q, e, rfl, h⟩
    cases e
    have hl := h.len
    obtain ⟨hs, hhl, hq⟩ : ∃ hs : List Value, hs.length = l.length ∧ ∀ i (h1 : i < l.length) (h2 : i < hs.length), (q[i]'(by omega)).1 = [.int .i64 l[i].1, .int .i64 l[i].2.1, hs[i]] := by
      refine ⟨q.map fun p => p.1.getD 2 (.slice none 0 0), by simp [hl], fun i h1 h2 => ?_⟩
      obtain ⟨y, e, _⟩ := rec_own.1 (h.each i h1)
      rw [List.getElem_map, e]; rfl
    have hq2 : ∀ i (h1 : i < l.length), smallR l[i] ∧ OwnV w 0 (hs[i]'(by omega)) l[i].2.2 ∧ (q[i]'(by omega)).2 = (hs[i]'(by omega)).ownBlock.toList := fun i h1 => by
      obtain ⟨y, e, k1, k2, k3, k4⟩ := rec_own.1 (h.each i h1)
      have e2 := hq i h1 (by omega)
      rw [e] at e2
      obtain rfl : y = hs[i]'(by omega) := by simpa using e2
      exact ⟨⟨k1, k2, k3.1⟩, k3, k4⟩
    have eq : q = (l.zip hs).map recPart := by
      refine List.ext_getElem (by simp [hl, hhl]) fun i h1 h2 => ?_
      rw [List.getElem_map, List.getElem_zip]
      exact Prod.ext (hq i (by omega) (by omega)) (hq2 i (by omega)).2.2
    have hnd := h.nodup
    rw [eq, parts_blocks l hs hhl] at hnd
    obtain ⟨n1, n2, n3⟩ := nodup_parts hnd
    refine ⟨hs, ⟨hhl, fun x hx => ?_, by rw [← parts_cells, ← eq]; exact h.row, fun i hi => (hq2 i hi).2.1, ?_, fun k hk y hy e => ?_⟩, ?_⟩
    · obtain ⟨i, hi, rfl⟩ := List.getElem_of_mem hx
      exact (hq2 i hi).1
    · have := (List.pairwise_flatMap.1 n2).2
      refine this.imp fun {a b} hab => ?_
      cases ha : a.ownBlock with
      | none => exact .inl rfl
      | some k =>
        right
        intro e
        exact hab k (by simp [ha]) k (by simp [← e]) rfl
    · exact n3 k (by simp [hk]) (List.mem_flatMap.2 ⟨y, hy, by simp [e]⟩)
    · unfold blkR; rw [eq, parts_blocks l hs hhl]
  · rintro ⟨hs, h, rfl⟩
    have hhl := h.len
    refine ⟨v, (l.zip hs).map recPart, rfl, by rw [parts_blocks l hs hhl]; rfl, ⟨by simp [hhl], by rw [parts_cells]; exact h.row, fun i hi => ?_, ?_⟩⟩
    · simp only [List.getElem_map, List.getElem_zip]
      have hsm := h.sm _ (List.getElem_mem hi)
      exact rec_own.2 ⟨_, rfl, hsm.1, hsm.2.1, h.ops i hi, rfl⟩
    · rw [parts_blocks l hs hhl]
      refine nodup_mk (by cases v.ownBlock <;> simp) ?_ (fun k hk hk2 => ?_)
      · refine List.pairwise_flatMap.2 ⟨fun a _ => by cases a.ownBlock <;> simp, h.apart.imp fun {a b} hab x hx y hy e => ?_⟩
        have ha : a.ownBlock = some x := by simpa using hx
        have hb : b.ownBlock = some y := by simpa using hy
        rcases hab with h1 | h1
        · rw [ha] at h1; cases h1
        · exact h1 (by rw [ha, hb, e])
      · obtain ⟨y, hy, e⟩ := List.mem_flatMap.1 hk2
        exact h.out k (by simpa using hk) y hy (by simpa using e)
end
/-! ### shards -/
def shardR : Rd Shd := both int (both recsR (both int (both pairsR recsR)))
def shVals (id sure : Int) (la : Option Addr) (ln lc : Nat) (ma : Option Addr) (mn mc : Nat) (ha : Option Addr) (hn hc : Nat) : List Value := [.int .i64 id, .slice la ln lc, .int .i64 sure, .slice ma mn mc, .slice ha hn hc]
structure SeeSh (w : World) (la : Option Addr) (ln lc : Nat) (ma : Option Addr) (mn mc : Nat) (ha : Option Addr) (hn hc : Nat) (s : Shd) : Prop where
  id : (Lit.int .i64 s.1).wf = true
  sure : (Lit.int .i64 s.2.2.1).wf = true
  log : SlR w la ln s.2.1
  map : SlP w ma mn s.2.2.2.1
  held : SlR w ha hn s.2.2.2.2
  lc : ln ≤ lc
  mc : mn ≤ mc
  hc : hn ≤ hc
section
variable {w w' : World} {la ma ha : Option Addr} {ln lc mn mc hn hc : Nat} {s : Shd} {vs : List Value} {F : List Nat}
theorem SeeSh.below (h : SeeSh w la ln lc ma mn mc ha hn hc s) (hb : Below w.heap.size w w') : SeeSh w' la ln lc ma mn mc ha hn hc s :=
  ⟨h.id, h.sure, h.log.below hb, h.map.below hb, h.held.below hb, h.lc, h.mc, h.hc⟩
structure OwnSh (w : World) (la : Option Addr) (ln lc : Nat) (ma : Option Addr) (mn mc : Nat) (ha : Option Addr) (hn hc : Nat) (s : Shd) (F : List Nat) : Prop where
  id : (Lit.int .i64 s.1).wf = true
  sure : (Lit.int .i64 s.2.2.1).wf = true
  log : ∃ hl, OwnR w 0 (.slice la ln lc) s.2.1 hl ∧ ∃ hh, OwnR w 0 (.slice ha hn hc) s.2.2.2.2 hh ∧ F = blkR (.slice la ln lc) hl ++ ((Value.slice ma mn mc).ownBlock.toList ++ blkR (.slice ha hn hc) hh)
  map : OwnPV w ma mn mc s.2.2.2.1
  nodup : F.Nodup
theorem shard_own : shardR.own w vs s F ↔ ∃ la ln lc ma mn mc ha hn hc, vs = shVals s.1 s.2.2.1 la ln lc ma mn mc ha hn hc ∧ OwnSh w la ln lc ma mn mc ha hn hc s F := by
  constructor
  · rintro ⟨u1, t1, F1, G1, rfl, rfl, h1, ⟨u2, t2, F2, G2, rfl, rfl, h2, ⟨u3, t3, F3, G3, rfl, rfl, h3, ⟨u4, t4, F4, G4, rfl, rfl, h4, h5, _⟩, _⟩, _⟩, hnd⟩
    obtain ⟨rfl, k1, rfl⟩ := flat_int.own.1 h1
    obtain ⟨rfl, k3, rfl⟩ := flat_int.own.1 h3
    obtain ⟨la, lc, q2, rfl, _⟩ := own_open h2
    obtain ⟨ma, mc, q4, rfl, _⟩ := own_open h4
    obtain ⟨ha, hc, q5, rfl, _⟩ := own_open h5
    obtain ⟨hl, e2, rfl⟩ := recs_own.1 h2
    obtain ⟨e4, rfl⟩ := pairs_own.1 h4
    obtain ⟨hh, e5, rfl⟩ := recs_own.1 h5
    exact ⟨la, _, lc, ma, _, mc, ha, _, hc, rfl, k1, k3, ⟨hl, e2, hh, e5, rfl⟩, e4, hnd⟩
  · rintro ⟨la, ln, lc, ma, mn, mc, ha, hn, hc, rfl, h⟩
    obtain ⟨hl, e2, hh, e5, rfl⟩ := h.log
    have hnd := h.nodup
    have hnd2 := (nodup_parts hnd).2.1
    exact ⟨[_], [_, _, _, _], [], _, rfl, rfl, flat_int.own.2 ⟨rfl, h.id, rfl⟩, ⟨[_], [_, _, _], _, _, rfl, rfl, recs_own.2 ⟨hl, e2, rfl⟩, ⟨[_], [_, _], [], _, rfl, rfl, flat_int.own.2 ⟨rfl, h.sure, rfl⟩, ⟨[_], [_], _, _, rfl, rfl, pairs_own.2 ⟨h.map, rfl⟩, recs_own.2 ⟨hh, e5, rfl⟩, hnd2⟩, hnd2⟩, hnd⟩, hnd⟩
theorem OwnPV.room {l : List Pr} {a : Option Addr} {n cap : Nat} (h : OwnPV w a n cap l) : n ≤ cap ∧ cap ≤ maxLen := by
  rcases h.shape with ⟨rfl, rfl, rfl, _⟩ | ⟨g, rfl, h⟩
  · exact ⟨Nat.le_refl _, Nat.zero_le _⟩
  · exact OwnP.cases h
theorem OwnSh.see (h : OwnSh w la ln lc ma mn mc ha hn hc s F) : SeeSh w la ln lc ma mn mc ha hn hc s := by
  obtain ⟨hl, e2, hh, e5, rfl⟩ := h.log
  exact ⟨h.id, h.sure, e2.sl, h.map.sl, e5.sl, e2.room.1, (OwnPV.room h.map).1, e5.room.1⟩
theorem OwnSh.lt (h : OwnSh w la ln lc ma mn mc ha hn hc s F) : ∀ k ∈ F, k < w.heap.size :=
  shardR.ownLt (shard_own.2 ⟨_, _, _, _, _, _, _, _, _, rfl, h⟩)
theorem OwnSh.keep (h : OwnSh w la ln lc ma mn mc ha hn hc s F) (hk : ∀ k ∈ F, w'.heap[k]? = w.heap[k]?) : OwnSh w' la ln lc ma mn mc ha hn hc s F := by
  obtain ⟨hl, e2, hh, e5, rfl⟩ := h.log
  refine ⟨h.id, h.sure, ⟨hl, e2.of_blocks (fun k e => hk k (List.mem_append.2 (.inl (mem_blkR.2 e)))), hh, e5.of_blocks (fun k e => hk k (List.mem_append.2 (.inr (List.mem_append.2 (.inr (mem_blkR.2 e)))))), rfl⟩, h.map.of_block (fun k e => hk k (List.mem_append.2 (.inr (List.mem_append.2 (.inl (by simp [e])))))), h.nodup⟩
theorem OwnSh.below (h : OwnSh w la ln lc ma mn mc ha hn hc s F) (hb : Below w.heap.size w w') : OwnSh w' la ln lc ma mn mc ha hn hc s F := h.keep fun k hk => hb.block k (h.lt k hk)
theorem OwnSh.frame {G : List Nat} (h : OwnSh w la ln lc ma mn mc ha hn hc s F) (hf : Frame G w w') (hd : ∀ k ∈ F, k ∉ G) : OwnSh w' la ln lc ma mn mc ha hn hc s F := h.keep fun k hk => hf.block k (h.lt k hk) (hd k hk)
end
end Go.Proofs.YteniflajiklffaaGreatDoor.lay

namespace Go.Proofs.YteniflajiklffaaGreatDoor.recs
open Go Go.RowKit Go.Proofs.YteniflajiklffaaGreatDoor.base Go.Proofs.YteniflajiklffaaGreatDoor.pairs Go.Proofs.YteniflajiklffaaGreatDoor.ords Go.Proofs.YteniflajiklffaaGreatDoor.lay
set_option linter.unusedVariables false
set_option linter.unusedSimpArgs false

theorem slice_cell {H : Type} {enc : TypeId × Value → H} {W : World} {fuel : Nat} {v : Value} {y : DataW H × List MemPlace} {t e : TypeId} (ht : Tryz.prog.underlying t = some (.slice e)) (h : DataW.trod enc Tryz.prog W 0 (fun _ => true) true fuel t [v] = some y) : ∃ a len cap, v = .slice a len cap ∧ len ≤ cap := by
  rcases Deep.open_slice ht h with ⟨hcs, _⟩ | ⟨ad, len', cap', m, n, D, Pl, hcs, hb, hl, hm, hmm, _, hx⟩
  · simp at hcs
    exact ⟨none, 0, 0, hcs, Nat.le_refl _⟩
  · simp at hcs
    exact ⟨_, _, _, hcs, hl⟩
set_option maxRecDepth 100000 in
theorem shard_arg {H : Type} {enc : TypeId × Value → H} {W : World} {v : Value} {r : Reach} {base fuel : Nat} {x : DataW H × List MemPlace} (e : TypeId) (f0 f1 f2 f3 f4 : Field) (he : Tryz.prog.underlying e = some (.struct #[f0, f1, f2, f3, f4]))
    (ce : Tryz.prog.cellsOf e = 5) (o0 : f0.offset = 0) (o1 : f1.offset = 1) (o2 : f2.offset = 2) (o3 : f3.offset = 3) (o4 : f4.offset = 4) (t0 : f0.type = 3) (t1 : f1.type = 43) (t2 : f2.type = 3) (t3 : f3.type = 44) (t4 : f4.type = 43)
    (c3 : Tryz.prog.cellsOf 3 = 1) (cR : Tryz.prog.cellsOf 43 = 1) (cP : Tryz.prog.cellsOf 44 = 1)
    (hR : ∀ {n : Nat} {a : Option Addr} {len cap : Nat} {y : DataW H × List MemPlace}, DataW.trod enc Tryz.prog W 0 (fun _ => true) true n 43 (Value.cells (.slice a len cap)).toList = some y → ∃ l, SlR W a len l)
    (hP : ∀ {n : Nat} {a : Option Addr} {len cap : Nat} {y : DataW H × List MemPlace}, DataW.trod enc Tryz.prog W 0 (fun _ => true) true n 44 (Value.cells (.slice a len cap)).toList = some y → ∃ l, SlP W a len l)
    (hok : Value.okWide Tryz.prog W r base e v) (h : DataW.trod enc Tryz.prog W 0 (fun _ => true) true fuel e v.cells.toList = some x) :
    ∃ (la : Option Addr) (ln lc : Nat) (ma : Option Addr) (mn mc : Nat) (ha : Option Addr) (hn hc : Nat) (s : Shd), v = .agg #[.int .i64 s.1, .slice la ln lc, .int .i64 s.2.2.1, .slice ma mn mc, .slice ha hn hc] ∧ SeeSh W la ln lc ma mn mc ha hn hc s := by
  obtain ⟨cs, rfl, hsz⟩ := WideShapes.okWide_struct he hok
  rw [ce] at hsz
  obtain ⟨xs, m, _, _, _, hxl, hel⟩ := DataW.trod_struct he h
  have k0 := hel 0 f0 rfl
  have k1 := hel 1 f1 rfl
  have k2 := hel 2 f2 rfl
  have k3 := hel 3 f3 rfl
  have k4 := hel 4 f4 rfl
  obtain ⟨l⟩ := cs
  match l, hsz, xs, hxl with
  | [v0, v1, v2, v3, v4], _, [y0, y1, y2, y3, y4], _ =>
    simp [o0, o1, o2, o3, o4, t0, t1, t2, t3, t4, c3, cR, cP, Value.cells] at k0 k1 k2 k3 k4
    obtain ⟨n, e0, _, w0⟩ := DataW.trod_int Tryz.underlying3 k0
    obtain ⟨su, e2, _, w2⟩ := DataW.trod_int Tryz.underlying3 k2
    simp at e0 e2
    subst e0 e2
    obtain ⟨la, ln, lc, rfl, q1⟩ := slice_cell Tryz.underlying43 k1
    obtain ⟨ma, mn, mc, rfl, q3⟩ := slice_cell Tryz.underlying44 k3
    obtain ⟨ha, hn, hc, rfl, q4⟩ := slice_cell Tryz.underlying43 k4
    obtain ⟨log, s1⟩ := hR (y := y1) k1
    obtain ⟨map, s3⟩ := hP (y := y3) k3
    obtain ⟨held, s4⟩ := hR (y := y4) k4
    exact ⟨la, ln, lc, ma, mn, mc, ha, hn, hc, (n, log, su, map, held), rfl, w0, w2, s1, s3, s4, q1, q3, q4⟩
end Go.Proofs.YteniflajiklffaaGreatDoor.recs

namespace Go.Proofs.YteniflajiklffaaGreatDoor.sent
open Go Go.RowKit Go.Extern.Stop Go.Stop Go.Extern Go.Proofs.YteniflajiklffaaGreatDoor.base
set_option linter.unusedVariables false
set_option linter.unusedSimpArgs false

/-! ### the variables -/
abbrev gs : List Nat := [2, 6, 0, 1, 3]
structure KS (G : List Nat) (A : Nat → Addr) (W : World) : Prop where
  sub : ∀ g ∈ gs, g ∈ G
  cell : ∀ g ∈ G, W.cell? ⟨g, 0, none⟩ = some (.iface 180 (.pointer (some (A g))))
  row : ∀ g ∈ G, ∃ c t, W.heap[(A g).block]? = some (.cells c t (0, 0))
  ne : ∀ g ∈ G, ∀ k ∈ G, g ≠ k → A g ≠ A k
theorem KS.below {G : List Nat} {A : Nat → Addr} {W W' : World} (h : KS G A W) (hb : Below W.heap.size W W') : KS G A W' :=
  ⟨h.sub, fun g hg => (hb.cell (p := ⟨g, 0, none⟩) (World.block_lt_of_cell? W _ (h.cell g hg))).trans (h.cell g hg), fun g hg => by
    obtain ⟨c, t, e⟩ := h.row g hg
    exact ⟨c, t, (hb.block _ (Array.getElem?_eq_some_iff.1 e).1).trans e⟩, h.ne⟩
theorem sens {P : Program} {W : World} {nm : String} {ti tp te ts : TypeId} {ms : Array (String × TypeId)} {f : Field}
    (hi : P.underlying ti = some (.interface ms)) (hrow : ∀ u, P.typeName? 3 u = some nm → u = tp)
    (hp : P.underlying tp = some (.pointer te)) (he : P.underlying te = some (.struct #[f])) (hft : f.type = ts) (hfo : f.offset = 0) (hs : P.underlying ts = some .string) (hc : P.cellsOf te = 1) (hcs : P.cellsOf ts = 1) :
    ∀ (L : List (String × Nat × List UInt8)) (ps : List MemPlace), DataW.LaidVars P W (L.map fun x => (x.1, .iface nm (.ptr (.agg [.lit (.string x.2.2)])))) ps → ps.Nodup →
      (∀ b off, MemPlace.cell b off ∈ ps → (∃ c t, W.heap[b]? = some (.cells c t (0, 0))) ∧ ∀ u v, W.cell? ⟨b, off, none⟩ = some (.iface u v) → Value.okWide P W .any 0 u v) →
      (∀ x ∈ L, P.globalNamed x.1 = some x.2.1 ∧ (P.globals[x.2.1]?).map (·.type) = some ti) → (L.map fun x => x.2.1).Nodup →
      ∃ A : Nat → Addr, (∀ x ∈ L, W.cell? ⟨x.2.1, 0, none⟩ = some (.iface tp (.pointer (some (A x.2.1)))) ∧ (∃ c t, W.heap[(A x.2.1).block]? = some (.cells c t (0, 0))) ∧ ∀ p ∈ MemPlace.row (A x.2.1) 1, p ∈ ps) ∧
        ∀ x ∈ L, ∀ y ∈ L, x.2.1 ≠ y.2.1 → A x.2.1 ≠ A y.2.1
  | [], ps, _, _, _, _, _ => ⟨fun _ => ⟨0, 0, Option.none⟩, fun x hx => absurd hx List.not_mem_nil, fun x hx => absurd hx List.not_mem_nil⟩
  | x :: L, ps, h, hnd, hrows, hgl, hg => by
    obtain ⟨g, t, cs, fuel, p, q, hg1, ht1, hv, hd, hr, rfl⟩ := h
    obtain ⟨hg0, ht0⟩ := hgl x List.mem_cons_self
    obtain rfl := Option.some.inj (hg0.symm.trans hg1)
    obtain rfl := Option.some.inj (ht0.symm.trans ht1)
    obtain ⟨l0⟩ := cs
    have ok0 : ∀ u v, l0 = [.iface u v] → Value.okWide P W .any 0 u v := fun u v e => by
      subst e
      exact (hrows x.2.1 0 (by simp [MemPlace.row])).2 u v (by simpa using World.var?_cell hg1 hv 0)
    obtain ⟨a, s, rfl, hc0, hs0, hz0, rfl⟩ := errorString_of_trod hi hrow hp he hft hfo hs hc hcs hd ok0
    have hna := List.nodup_append.1 hnd
    have hnb := List.nodup_append.1 hna.1
    have hg' := List.nodup_cons.1 (show (x.2.1 :: L.map fun x => x.2.1).Nodup from hg)
    obtain ⟨A, hA, hN⟩ := sens hi hrow hp he hft hfo hs hc hcs L q hr hna.2.1 (fun b off hb => hrows b off (List.mem_append.2 (.inr hb))) (fun y hy => hgl y (List.mem_cons_of_mem _ hy)) hg'.2
    have hrest : ∀ y ∈ L, y.2.1 ≠ x.2.1 := fun y hy e => hg'.1 (List.mem_map.2 ⟨y, hy, e⟩)
    have hmem : MemPlace.cell a.block a.off ∈ MemPlace.row a 1 := by simp [MemPlace.row]
    have hne : ∀ y ∈ L, a ≠ A y.2.1 := fun y hy e => by
      have h0 := hmem
      rw [e] at h0
      exact hna.2.2 _ (List.mem_append.2 (.inr hmem)) _ ((hA y hy).2.2 _ h0) (by rw [e])
    refine ⟨fun k => if k = x.2.1 then a else A k, fun y hy => ?_, fun y hy z hz hyz => ?_⟩
    · rcases List.mem_cons.1 hy with rfl | hy
      · simp only [if_pos]
        exact ⟨by simpa using World.var?_cell hg1 hv 0, (hrows a.block a.off (List.mem_append.2 (.inl (List.mem_append.2 (.inr hmem))))).1, fun p hp => List.mem_append.2 (.inl (List.mem_append.2 (.inr hp)))⟩
      · simp only [if_neg (hrest y hy)]
        obtain ⟨k1, k2, k3⟩ := hA y hy
        exact ⟨k1, k2, fun p hp => List.mem_append.2 (.inr (k3 p hp))⟩
    · show (if y.2.1 = x.2.1 then a else A y.2.1) ≠ (if z.2.1 = x.2.1 then a else A z.2.1)
      rcases List.mem_cons.1 hy with ey | hy
      · rcases List.mem_cons.1 hz with ez | hz
        · exact absurd (by rw [ey, ez]) hyz
        · rw [if_pos (by rw [ey]), if_neg (hrest z hz)]
          exact hne z hz
      · rcases List.mem_cons.1 hz with ez | hz
        · rw [if_neg (hrest y hy), if_pos (by rw [ez])]
          exact fun e => hne y hy e.symm
        · rw [if_neg (hrest y hy), if_neg (hrest z hz)]
          exact hN y hy z hz hyz
theorem vars_len {H : Type} {enc : TypeId × Value → H} {P : Program} {w : World} {spare : Nat → Bool} : ∀ (ns : List String) (ds : List (DataW H)) (ps : List MemPlace), DataW.TrodVars enc P w spare ns ds ps → ds.length = ns.length
  | [], [], _, _ => rfl
  | [], _ :: _, _, h => by simp [DataW.TrodVars] at h
  | _ :: _, [], _, h => by simp [DataW.TrodVars] at h
  | n :: ns, d :: ds, ps, h => by
    obtain ⟨g, t, cs, fuel, p, q, h1, h2, h3, h4, hs, e⟩ := h
    rw [List.length_cons, List.length_cons, vars_len ns ds q hs]
theorem star : ("*" ++ "errors.errorString" : String) = "*errors.errorString" := by decide
theorem tyN (u : TypeId) (h : Tryz.prog.typeName? 3 u = some "*errors.errorString") : u = 180 :=
  typeName_ptr_named (nm := "errors.errorString") (by rw [star]; kernel_rfl) (by kernel_rfl) (by decide) u (by rw [star]; exact h)
theorem ks_of_laid {W : World} (L : List (String × Nat × List UInt8)) (h : laidMet Tryz.prog (L.map fun x => (x.1, .iface "*errors.errorString" (.ptr (.agg [.lit (.string x.2.2)])))) W)
    (hgl : ∀ x ∈ L, Tryz.prog.globalNamed x.1 = some x.2.1 ∧ (Tryz.prog.globals[x.2.1]?).map (·.type) = some 65) (hnd : (L.map fun x => x.2.1).Nodup) (hsub : ∀ g ∈ gs, g ∈ L.map fun x => x.2.1) :
    ∃ A, KS (L.map fun x => x.2.1) A W := by
  obtain ⟨ps, hv, hn, hr⟩ := h
  obtain ⟨A, hA, hN⟩ := sens (P := Tryz.prog) (W := W) Tryz.underlying65 tyN Tryz.underlying180 Tryz.underlying206 rfl rfl Tryz.underlying9 (by kernel_rfl) (by kernel_rfl) L ps hv hn hr hgl hnd
  refine ⟨A, hsub, fun g hg => ?_, fun g hg => ?_, fun g hg k hk hne => ?_⟩
  · obtain ⟨x, hx, rfl⟩ := List.mem_map.1 hg
    exact (hA x hx).1
  · obtain ⟨x, hx, rfl⟩ := List.mem_map.1 hg
    exact (hA x hx).2.1
  · obtain ⟨x, hx, rfl⟩ := List.mem_map.1 hg
    obtain ⟨y, hy, rfl⟩ := List.mem_map.1 hk
    exact hN x hx y hy hne
/-! ### errors.Is -/
theorem isTypeOf (v : Value) (w : World) : (Extern.ReflectliteType.typeOf #[.iface 180 v]).run Tryz.prog w = .ok (.iface 159 (.agg #[.pointer (some ⟨7, 180, none⟩)])) w := by kernel_rfl
theorem isComparable (w : World) : ((Extern.ReflectliteType.method fun t => do Rtype.noPackHeld "Comparable" t; (fun a => Value.bool a.comparable) <$> typeInfo t) #[.agg #[.pointer (some ⟨7, 180, none⟩)]]).run Tryz.prog w = .ok (.bool true) w := by kernel_rfl
theorem isMethodComparable (v : Value) (w : World) : (Go.method 318 159 v "Comparable").run Tryz.prog w = .ok (163, v) w := by kernel_rfl
theorem isComp : (Tryz.prog.info? 180).map (·.comparable) = some true := by kernel_rfl
theorem isSize : (Tryz.prog.info? 206).map (·.size) = some 1 := by kernel_rfl
theorem noIsE (v : Value) (xT : TypeId) (w : World) : (Instr.typeAssert (.iface 180 v) xT 161 true).run Tryz.prog w = .ok (.tuple #[.nilIface, .bool false]) w := run_typeAssert_lacksB Tryz.underlying161 (by kernel_rfl) (by kernel_rfl) v xT w
theorem noUnwrapE (v : Value) (xT : TypeId) (w : World) : (Instr.typeAssert (.iface 180 v) xT 164 true).run Tryz.prog w = .ok (.tuple #[.nilIface, .bool false]) w := run_typeAssert_lacksB Tryz.underlying164 (by kernel_rfl) (by kernel_rfl) v xT w
theorem noUnwrapsE (v : Value) (xT : TypeId) (w : World) : (Instr.typeAssert (.iface 180 v) xT 166 true).run Tryz.prog w = .ok (.tuple #[.nilIface, .bool false]) w := run_typeAssert_lacksB Tryz.underlying166 (by kernel_rfl) (by kernel_rfl) v xT w
set_option maxRecDepth 100000 in
theorem is_same (a : Addr) (w : World) :
    Calls Tryz.prog 47 #[.iface 180 (.pointer (some a)), .iface 180 (.pointer (some a))] w fun e w' => e = .returned (.bool true) ∧ w' = w := by
  obtain ⟨i, hi, hcmp⟩ := Option.map_eq_some_iff.1 isComp
  obtain ⟨j, hj, hjs⟩ := Option.map_eq_some_iff.1 isSize
  have h8 := @run_callFunc_extern Tryz.prog 94 _ Extern.ReflectliteType.typeOf Tryz.func94 (by kernel_rfl) (by kernel_rfl) (by kernel_rfl) (by kernel_rfl)
  have h32 := @run_callFunc_extern Tryz.prog 163 _ (Extern.ReflectliteType.method fun t => do Rtype.noPackHeld "Comparable" t; pure (.bool (← typeInfo t).comparable)) Tryz.func163 (by kernel_rfl) (by kernel_rfl) (by kernel_rfl) (by kernel_rfl)
  have tT := isTypeOf
  have cT := isComparable
  have mR := isMethodComparable
  have heq := run_eql_iface_ptr_same (P := Tryz.prog) w a Tryz.underlying65 Tryz.underlying180 hi hcmp hj
  go_enter Tryz.func47, Tryz.ntmps47
  go_wp2
  refine wp_loop_rounds 1 ?_
  rw [rounds_succ]
  go_wp2
  go_ret
  exact ⟨rfl, rfl⟩
set_option maxRecDepth 100000 in
theorem is_other (a b : Addr) (ca cb : Array Value) (ta tb : TypeId) (w : World) (hne : a ≠ b) (ha : w.heap[a.block]? = some (.cells ca ta (0, 0))) (hb : w.heap[b.block]? = some (.cells cb tb (0, 0))) :
    Calls Tryz.prog 47 #[.iface 180 (.pointer (some a)), .iface 180 (.pointer (some b))] w fun e w' => e = .returned (.bool false) ∧ w' = w := by
  obtain ⟨i, hi, hcmp⟩ := Option.map_eq_some_iff.1 isComp
  obtain ⟨j, hj, hjs⟩ := Option.map_eq_some_iff.1 isSize
  have h8 := @run_callFunc_extern Tryz.prog 94 _ Extern.ReflectliteType.typeOf Tryz.func94 (by kernel_rfl) (by kernel_rfl) (by kernel_rfl) (by kernel_rfl)
  have h32 := @run_callFunc_extern Tryz.prog 163 _ (Extern.ReflectliteType.method fun t => do Rtype.noPackHeld "Comparable" t; pure (.bool (← typeInfo t).comparable)) Tryz.func163 (by kernel_rfl) (by kernel_rfl) (by kernel_rfl) (by kernel_rfl)
  have tT := isTypeOf
  have cT := isComparable
  have mR := isMethodComparable
  have nE := noIsE
  have uE := noUnwrapE
  have vE := noUnwrapsE
  have heq := run_eql_iface_ptr_other (P := Tryz.prog) w Tryz.underlying65 Tryz.underlying180 hi hcmp hj (by rw [hjs]; decide) hne ha hb
  go_enter Tryz.func47, Tryz.ntmps47
  go_wp2
  refine wp_loop_rounds 1 ?_
  rw [rounds_succ]
  go_wp2
  go_ret
  exact ⟨rfl, rfl⟩
theorem is_ {G : List Nat} {A : Nat → Addr} (g k : Nat) (hg : g ∈ G) (hk : k ∈ G) (w : World) (h : KS G A w) :
    Calls Tryz.prog 47 #[.iface 180 (.pointer (some (A g))), .iface 180 (.pointer (some (A k)))] w fun e w' => e = .returned (.bool (decide (g = k))) ∧ w' = w := by
  by_cases e : g = k
  · subst e
    rw [decide_eq_true rfl]
    exact is_same _ w
  · rw [decide_eq_false e]
    obtain ⟨c1, t1, r1⟩ := h.row g hg
    obtain ⟨c2, t2, r2⟩ := h.row k hk
    exact is_other _ _ _ _ _ _ w (h.ne g hg k hk e) r1 r2
/-! ### an error that wraps one of them -/
theorem noIsR (v : Value) (xT : TypeId) (w : World) : (Instr.typeAssert (.iface 107 v) xT 161 true).run Tryz.prog w = .ok (.tuple #[.nilIface, .bool false]) w := run_typeAssert_lacksB Tryz.underlying161 (by kernel_rfl) (by kernel_rfl) v xT w
theorem hasUnwrapR (v : Value) (xT : TypeId) (w : World) : (Instr.typeAssert (.iface 107 v) xT 164 true).run Tryz.prog w = .ok (.tuple #[.iface 107 v, .bool true]) w := run_typeAssert_hasB Tryz.underlying164 (by kernel_rfl) v xT w
theorem methodUnwrap (v : Value) (w : World) : (Go.method 318 107 v "Unwrap").run Tryz.prog w = .ok (158, v) w := by kernel_rfl
set_option maxRecDepth 100000 in
theorem is_ref_same (tx : Int) (b : Addr) (w : World) :
    Calls Tryz.prog 47 #[.iface 107 (.agg #[.int .i64 tx, .iface 180 (.pointer (some b))]), .iface 180 (.pointer (some b))] w fun e w' => e = .returned (.bool true) ∧ Below w.heap.size w w' := by
  obtain ⟨i, hi, hcmp⟩ := Option.map_eq_some_iff.1 isComp
  obtain ⟨j, hj, hjs⟩ := Option.map_eq_some_iff.1 isSize
  have h8 := @run_callFunc_extern Tryz.prog 94 _ Extern.ReflectliteType.typeOf Tryz.func94 (by kernel_rfl) (by kernel_rfl) (by kernel_rfl) (by kernel_rfl)
  have h32 := @run_callFunc_extern Tryz.prog 163 _ (Extern.ReflectliteType.method fun t => do Rtype.noPackHeld "Comparable" t; pure (.bool (← typeInfo t).comparable)) Tryz.func163 (by kernel_rfl) (by kernel_rfl) (by kernel_rfl) (by kernel_rfl)
  have tT := isTypeOf
  have cT := isComparable
  have mR := isMethodComparable
  have nW := noIsR
  have uW := hasUnwrapR
  have mU := methodUnwrap
  have heq := fun w => run_eql_iface_ptr_same (P := Tryz.prog) w b Tryz.underlying65 Tryz.underlying180 hi hcmp hj
  have hty := fun w => run_eql_iface_types (P := Tryz.prog) 107 180 (.agg #[.int .i64 tx, .iface 180 (.pointer (some b))]) (.pointer (some b)) Tryz.underlying65 (by decide) w
  go_enter Tryz.func47, Tryz.ntmps47
  go_wp2
  refine wp_loop_rounds 2 ?_
  rw [rounds_succ]
  go_wp2
  rw [rounds_succ]
  go_wp2
  go_ret
  exact ⟨rfl, (Below.refl _ _).alloc (Nat.le_refl _) _⟩
end Go.Proofs.YteniflajiklffaaGreatDoor.sent

namespace Go.Proofs.YteniflajiklffaaGreatDoor.recs
open Go Go.RowKit Go.Proofs.YteniflajiklffaaGreatDoor.base Go.Proofs.YteniflajiklffaaGreatDoor.pairs Go.Proofs.YteniflajiklffaaGreatDoor.ords
set_option linter.unusedVariables false
set_option linter.unusedSimpArgs false

def OnePost (N : Prop) (w0 : World) (F0 : List Nat) (X : Nat) (r : Option St) (e : Ending) (w' : World) : Prop :=
  match r with
  | none => e = .returned (.bool false) ∧ lay.Frame (X :: F0) w0 w'
  | some t => e = .returned (.bool true) ∧ ∃ am nm cm ah ch vs hs, Kept N w0 F0 w' X am nm cm ah ch vs t hs

def OverPost (N : Prop) (w0 : World) (F0 : List Nat) (X : Nat) (t : St) (e : Ending) (w' : World) : Prop := e = .returned (.bool false) ∧ ∃ am nm cm ah ch vs hs, Kept N w0 F0 w' X am nm cm ah ch vs t hs
theorem OverPost.none {N : Prop} {w0 w' : World} {F0 : List Nat} {X : Nat} {t : St} {e : Ending} (h : OverPost N w0 F0 X t e w') : OnePost N w0 F0 X none e w' := by
  obtain ⟨h1, _, _, _, _, _, _, _, hK⟩ := h
  exact ⟨h1, hK.fr⟩
set_option maxRecDepth 100000 in
set_option maxHeartbeats 4000000 in
theorem one_bad (N : Prop) (w0 : World) (F0 : List Nat) (w : World) (X : Nat) (am : Option Addr) (nm cm : Nat) (ah : Option Addr) (ch : Nat) (vs : Value) (s : St) (hs : List Value) (kind tx : Int) (a : Option Addr) (len cap : Nat) (ops : List Od)
    (hK : Kept N w0 F0 w X am nm cm ah ch vs s hs) (hSo : SlO w a len ops) (hks : ∀ p ∈ ops, p.2.1.size ≤ 1099511627776) (hok : recOk (kind, tx, ops) = false) :
    Calls Tryz.prog 113 #[.pointer (some ⟨X, 0, none⟩), .agg #[.int .i64 kind, .int .i64 tx, .slice a len cap]] w (OnePost N w0 F0 X none) := by
  obtain ⟨V, hV⟩ : ∃ V, V = w.alloc (.cells #[.int .i64 kind, .int .i64 tx, .slice a len cap] 41) := ⟨_, rfl⟩
  have hbV : Below w.heap.size w V := by rw [hV]; exact (Below.refl _ _).alloc (Nat.le_refl _) _
  have hbx : BoxR w.heap.size kind tx (.slice a len cap) V := by rw [hV]; exact boxR_new _ _ _ _
  have hKV := hK.below hbV
  have hXl := hKV.box.lt
  have hRl := hbx.lt
  have y1 := last.On.cell (B := V.heap.size) hKV.box.cells.2.1 hXl
  have y2 := last.On.cell (B := V.heap.size) hbx.cells.2.1 hRl
  have hAt : ∀ x9 : last.On V.heap.size V, Calls Tryz.prog 116 #[.slice ah s.2.1.length ch, .int .i64 tx] x9.w fun e w' => e = .returned (.int .i64 (atRet (placeTx tx s.2.1))) ∧ ∃ y9 : last.On V.heap.size V, w' = y9.w := fun x9 => last.Calls.on x9 (Nat.le_refl _) ((spec_l8At _ _ ch s.2.1 tx x9.w (hKV.held.below x9.2).sl).mono (fun e w' h => ⟨h.1, h.2 ▸ Below.refl _ _⟩))
  have hinh := last.On.inh V.heap.size V
  have HV := Hid.mk' hV.symm
  clear hV
  go_enter Tryz.func113, Tryz.ntmps113
  go_wp2_with fail
  rw [HV.out]
  refine last.wp_region_on V.heap.size (by kernel_rfl) (by kernel_rfl) ?_
  repeat (go_big_quiet_step ((go_at_call 116; with_reducible exact hAt _)))
  refine wpQuiet_nil ?_
  intro w1 hw1
  obtain ⟨x1, hw1⟩ := hw1
  have hb1 : Below V.heap.size V w1 := by rw [hw1]; exact x1.2
  clear hw1 x1
  have hbx1 := hbx.below hb1
  have hK1 := hKV.below hb1
  have HOK := Hid.mk' (spec_recOk kind tx a len cap ops w1 ((hSo.below hbV).below hb1) hks)
  obtain ⟨d0, d1, d2⟩ := hbx1.cells
  clear y1 y2 hAt hinh
  go_wp2_with fail
  refine HOK.out.mono ?_
  rintro e w2 ⟨rfl, hb2⟩
  rw [hok]
  have hK2 := hK1.below hb2
  go_wp2_with fail
  go_ret
  exact ⟨rfl, hK2.fr⟩
end Go.Proofs.YteniflajiklffaaGreatDoor.recs

namespace Go.Proofs.YteniflajiklffaaGreatDoor.recs
open Go Go.RowKit Go.Proofs.YteniflajiklffaaGreatDoor.base Go.Proofs.YteniflajiklffaaGreatDoor.pairs Go.Proofs.YteniflajiklffaaGreatDoor.ords
set_option linter.unusedVariables false
set_option linter.unusedSimpArgs false

set_option maxRecDepth 100000 in
set_option maxHeartbeats 4000000 in
theorem one_has (N : Prop) (w0 : World) (F0 : List Nat) (w : World) (X : Nat) (am : Option Addr) (nm cm : Nat) (ah : Option Addr) (ch : Nat) (vs : Value) (s : St) (hs : List Value) (tx : Int) (a : Option Addr) (len cap : Nat) (ops : List Od)
    (hK : Kept N w0 F0 w X am nm cm ah ch vs s hs) (hSo : SlO w a len ops) (hks : ∀ p ∈ ops, p.2.1.size ≤ 1099511627776) (hok : recOk (1, tx, ops) = true) (h1 : decide (tx ∈ s.2.2) = true) :
    Calls Tryz.prog 113 #[.pointer (some ⟨X, 0, none⟩), .agg #[.int .i64 1, .int .i64 tx, .slice a len cap]] w (OnePost N w0 F0 X none) := by
  obtain ⟨sa, sc, hvs, hSz⟩ := hK.seen.sl
  subst hvs
  obtain ⟨V, hV⟩ : ∃ V, V = w.alloc (.cells #[.int .i64 1, .int .i64 tx, .slice a len cap] 41) := ⟨_, rfl⟩
  have hbV : Below w.heap.size w V := by rw [hV]; exact (Below.refl _ _).alloc (Nat.le_refl _) _
  have hbx : BoxR w.heap.size 1 tx (.slice a len cap) V := by rw [hV]; exact boxR_new _ _ _ _
  have hKV := hK.below hbV
  have hXl := hKV.box.lt
  have hRl := hbx.lt
  have y1 := last.On.cell (B := V.heap.size) hKV.box.cells.2.1 hXl
  have y2 := last.On.cell (B := V.heap.size) hbx.cells.2.1 hRl
  have hAt : ∀ x9 : last.On V.heap.size V, Calls Tryz.prog 116 #[.slice ah s.2.1.length ch, .int .i64 tx] x9.w fun e w' => e = .returned (.int .i64 (atRet (placeTx tx s.2.1))) ∧ ∃ y9 : last.On V.heap.size V, w' = y9.w := fun x9 => last.Calls.on x9 (Nat.le_refl _) ((spec_l8At _ _ ch s.2.1 tx x9.w (hKV.held.below x9.2).sl).mono (fun e w' h => ⟨h.1, h.2 ▸ Below.refl _ _⟩))
  have hinh := last.On.inh V.heap.size V
  have HV := Hid.mk' hV.symm
  clear hV
  generalize hP : atRet (placeTx tx s.2.1) = P at hAt
  go_enter Tryz.func113, Tryz.ntmps113
  go_wp2_with fail
  rw [HV.out]
  refine last.wp_region_on V.heap.size (by kernel_rfl) (by kernel_rfl) ?_
  repeat (go_big_quiet_step ((go_at_call 116; with_reducible exact hAt _)))
  refine wpQuiet_nil ?_
  intro w1 hw1
  obtain ⟨x1, hw1⟩ := hw1
  have hb1 : Below V.heap.size V w1 := by rw [hw1]; exact x1.2
  clear hw1 x1
  have hbx1 := hbx.below hb1
  have hK1 := hKV.below hb1
  have HOK := Hid.mk' (spec_recOk 1 tx a len cap ops w1 ((hSo.below hbV).below hb1) hks)
  obtain ⟨d0, d1, d2⟩ := hbx1.cells
  clear y1 y2 hAt hinh
  go_wp2_with fail
  refine HOK.out.mono ?_
  rintro e w2 ⟨rfl, hb2⟩
  rw [hok]
  have hK2 := hK1.below hb2
  have hbx2 := hbx1.below hb2
  have hSo2 := ((hSo.below hbV).below hb1).below hb2
  have hSz2 := ((hSz.below hbV).below hb1).below hb2
  clear d0 d1 d2 HOK HV hbx1 hbx hKV hXl hRl
  obtain ⟨d0, d1, d2⟩ := hbx2.cells
  have hX2 := hK2.box.lt
  have hR2 := hbx2.lt
  have o0 := last.On.cell (B := w2.heap.size) hK2.box.cells.1 hX2
  have o1 := last.On.cell (B := w2.heap.size) hK2.box.cells.2.1 hX2
  have o2 := last.On.cell (B := w2.heap.size) hK2.box.cells.2.2 hX2
  have o3 := last.On.cell (B := w2.heap.size) hbx2.cells.1 hR2
  have o4 := last.On.cell (B := w2.heap.size) hbx2.cells.2.1 hR2
  have o5 := last.On.cell (B := w2.heap.size) hbx2.cells.2.2 hR2
  have hinh2 := last.On.inh w2.heap.size w2
  have hHas : ∀ x9 : last.On w2.heap.size w2, Calls Tryz.prog 127 #[.slice sa s.2.2.length sc, .int .i64 tx] x9.w fun e w' => e = .returned (.bool (decide (tx ∈ s.2.2))) ∧ ∃ y9 : last.On w2.heap.size w2, w' = y9.w := fun x9 => last.Calls.on x9 (Nat.le_refl _) ((spec_l7Has sa s.2.2.length sc s.2.2 tx x9.w (hSz2.below x9.2)).mono (fun e w' h => ⟨h.1, h.2 ▸ Below.refl _ _⟩))
  have hLk : ∀ x9 : last.On w2.heap.size w2, Calls Tryz.prog 84 #[.slice ah s.2.1.length ch, .slice a len cap] x9.w fun e w' => e = .returned (.bool (locked s.2.1 ops)) ∧ ∃ y9 : last.On w2.heap.size w2, w' = y9.w := fun x9 => last.Calls.on x9 (Nat.le_refl _) (spec_locked _ _ ch s.2.1 a len cap ops x9.w (hK2.held.below x9.2).sl (hSo2.below x9.2))
  have hMt : ∀ x9 : last.On w2.heap.size w2, Calls Tryz.prog 85 #[.slice am nm cm, .slice a len cap] x9.w fun e w' => e = .returned (.bool (meets s.1 ops)) ∧ ∃ y9 : last.On w2.heap.size w2, w' = y9.w := fun x9 => last.Calls.on x9 (Nat.le_refl _) (spec_meets _ nm cm s.1 a len cap ops x9.w (hK2.m.below x9.2).sl (hSo2.below x9.2))
  rw [h1] at hHas
  go_wp2_with fail
  refine last.wp_region_on w2.heap.size (by kernel_rfl) (by kernel_rfl) ?_
  repeat (go_big_quiet_step (first | (go_at_call 127; with_reducible exact hHas _) | (go_at_call 84; with_reducible exact hLk _) | (go_at_call 85; with_reducible exact hMt _)))
  refine wpQuiet_nil ?_
  intro w5 hw5
  obtain ⟨x5, hw5⟩ := hw5
  have hb5 : Below w2.heap.size w2 w5 := by rw [hw5]; exact x5.2
  clear hw5 x5 hinh2 o0 o1 o2 o3 o4 o5 hHas hLk hMt d0 d1 d2
  have hK5 := hK2.below hb5
  go_wp2_with fail
  go_ret
  exact ⟨rfl, hK5.fr⟩
set_option maxRecDepth 100000 in
set_option maxHeartbeats 4000000 in
theorem one_locked (N : Prop) (w0 : World) (F0 : List Nat) (w : World) (X : Nat) (am : Option Addr) (nm cm : Nat) (ah : Option Addr) (ch : Nat) (vs : Value) (s : St) (hs : List Value) (tx : Int) (a : Option Addr) (len cap : Nat) (ops : List Od)
    (hK : Kept N w0 F0 w X am nm cm ah ch vs s hs) (hSo : SlO w a len ops) (hks : ∀ p ∈ ops, p.2.1.size ≤ 1099511627776) (hok : recOk (1, tx, ops) = true) (h1 : decide (tx ∈ s.2.2) = false) (h2 : locked s.2.1 ops = true) :
    Calls Tryz.prog 113 #[.pointer (some ⟨X, 0, none⟩), .agg #[.int .i64 1, .int .i64 tx, .slice a len cap]] w (OnePost N w0 F0 X none) := by
  obtain ⟨sa, sc, hvs, hSz⟩ := hK.seen.sl
  subst hvs
  obtain ⟨V, hV⟩ : ∃ V, V = w.alloc (.cells #[.int .i64 1, .int .i64 tx, .slice a len cap] 41) := ⟨_, rfl⟩
  have hbV : Below w.heap.size w V := by rw [hV]; exact (Below.refl _ _).alloc (Nat.le_refl _) _
  have hbx : BoxR w.heap.size 1 tx (.slice a len cap) V := by rw [hV]; exact boxR_new _ _ _ _
  have hKV := hK.below hbV
  have hXl := hKV.box.lt
  have hRl := hbx.lt
  have y1 := last.On.cell (B := V.heap.size) hKV.box.cells.2.1 hXl
  have y2 := last.On.cell (B := V.heap.size) hbx.cells.2.1 hRl
  have hAt : ∀ x9 : last.On V.heap.size V, Calls Tryz.prog 116 #[.slice ah s.2.1.length ch, .int .i64 tx] x9.w fun e w' => e = .returned (.int .i64 (atRet (placeTx tx s.2.1))) ∧ ∃ y9 : last.On V.heap.size V, w' = y9.w := fun x9 => last.Calls.on x9 (Nat.le_refl _) ((spec_l8At _ _ ch s.2.1 tx x9.w (hKV.held.below x9.2).sl).mono (fun e w' h => ⟨h.1, h.2 ▸ Below.refl _ _⟩))
  have hinh := last.On.inh V.heap.size V
  have HV := Hid.mk' hV.symm
  clear hV
  generalize hP : atRet (placeTx tx s.2.1) = P at hAt
  go_enter Tryz.func113, Tryz.ntmps113
  go_wp2_with fail
  rw [HV.out]
  refine last.wp_region_on V.heap.size (by kernel_rfl) (by kernel_rfl) ?_
  repeat (go_big_quiet_step ((go_at_call 116; with_reducible exact hAt _)))
  refine wpQuiet_nil ?_
  intro w1 hw1
  obtain ⟨x1, hw1⟩ := hw1
  have hb1 : Below V.heap.size V w1 := by rw [hw1]; exact x1.2
  clear hw1 x1
  have hbx1 := hbx.below hb1
  have hK1 := hKV.below hb1
  have HOK := Hid.mk' (spec_recOk 1 tx a len cap ops w1 ((hSo.below hbV).below hb1) hks)
  obtain ⟨d0, d1, d2⟩ := hbx1.cells
  clear y1 y2 hAt hinh
  go_wp2_with fail
  refine HOK.out.mono ?_
  rintro e w2 ⟨rfl, hb2⟩
  rw [hok]
  have hK2 := hK1.below hb2
  have hbx2 := hbx1.below hb2
  have hSo2 := ((hSo.below hbV).below hb1).below hb2
  have hSz2 := ((hSz.below hbV).below hb1).below hb2
  clear d0 d1 d2 HOK HV hbx1 hbx hKV hXl hRl
  obtain ⟨d0, d1, d2⟩ := hbx2.cells
  have hX2 := hK2.box.lt
  have hR2 := hbx2.lt
  have o0 := last.On.cell (B := w2.heap.size) hK2.box.cells.1 hX2
  have o1 := last.On.cell (B := w2.heap.size) hK2.box.cells.2.1 hX2
  have o2 := last.On.cell (B := w2.heap.size) hK2.box.cells.2.2 hX2
  have o3 := last.On.cell (B := w2.heap.size) hbx2.cells.1 hR2
  have o4 := last.On.cell (B := w2.heap.size) hbx2.cells.2.1 hR2
  have o5 := last.On.cell (B := w2.heap.size) hbx2.cells.2.2 hR2
  have hinh2 := last.On.inh w2.heap.size w2
  have hHas : ∀ x9 : last.On w2.heap.size w2, Calls Tryz.prog 127 #[.slice sa s.2.2.length sc, .int .i64 tx] x9.w fun e w' => e = .returned (.bool (decide (tx ∈ s.2.2))) ∧ ∃ y9 : last.On w2.heap.size w2, w' = y9.w := fun x9 => last.Calls.on x9 (Nat.le_refl _) ((spec_l7Has sa s.2.2.length sc s.2.2 tx x9.w (hSz2.below x9.2)).mono (fun e w' h => ⟨h.1, h.2 ▸ Below.refl _ _⟩))
  have hLk : ∀ x9 : last.On w2.heap.size w2, Calls Tryz.prog 84 #[.slice ah s.2.1.length ch, .slice a len cap] x9.w fun e w' => e = .returned (.bool (locked s.2.1 ops)) ∧ ∃ y9 : last.On w2.heap.size w2, w' = y9.w := fun x9 => last.Calls.on x9 (Nat.le_refl _) (spec_locked _ _ ch s.2.1 a len cap ops x9.w (hK2.held.below x9.2).sl (hSo2.below x9.2))
  have hMt : ∀ x9 : last.On w2.heap.size w2, Calls Tryz.prog 85 #[.slice am nm cm, .slice a len cap] x9.w fun e w' => e = .returned (.bool (meets s.1 ops)) ∧ ∃ y9 : last.On w2.heap.size w2, w' = y9.w := fun x9 => last.Calls.on x9 (Nat.le_refl _) (spec_meets _ nm cm s.1 a len cap ops x9.w (hK2.m.below x9.2).sl (hSo2.below x9.2))
  rw [h1] at hHas
  rw [h2] at hLk
  go_wp2_with fail
  refine last.wp_region_on w2.heap.size (by kernel_rfl) (by kernel_rfl) ?_
  repeat (go_big_quiet_step (first | (go_at_call 127; with_reducible exact hHas _) | (go_at_call 84; with_reducible exact hLk _) | (go_at_call 85; with_reducible exact hMt _)))
  refine wpQuiet_nil ?_
  intro w5 hw5
  obtain ⟨x5, hw5⟩ := hw5
  have hb5 : Below w2.heap.size w2 w5 := by rw [hw5]; exact x5.2
  clear hw5 x5 hinh2 o0 o1 o2 o3 o4 o5 hHas hLk hMt d0 d1 d2
  have hK5 := hK2.below hb5
  go_wp2_with fail
  go_ret
  exact ⟨rfl, hK5.fr⟩
set_option maxRecDepth 100000 in
set_option maxHeartbeats 4000000 in
theorem one_unmet (N : Prop) (w0 : World) (F0 : List Nat) (w : World) (X : Nat) (am : Option Addr) (nm cm : Nat) (ah : Option Addr) (ch : Nat) (vs : Value) (s : St) (hs : List Value) (tx : Int) (a : Option Addr) (len cap : Nat) (ops : List Od)
    (hK : Kept N w0 F0 w X am nm cm ah ch vs s hs) (hSo : SlO w a len ops) (hks : ∀ p ∈ ops, p.2.1.size ≤ 1099511627776) (hok : recOk (1, tx, ops) = true) (h1 : decide (tx ∈ s.2.2) = false) (h2 : locked s.2.1 ops = false) (h3 : meets s.1 ops = false) :
    Calls Tryz.prog 113 #[.pointer (some ⟨X, 0, none⟩), .agg #[.int .i64 1, .int .i64 tx, .slice a len cap]] w (OnePost N w0 F0 X none) := by
  obtain ⟨sa, sc, hvs, hSz⟩ := hK.seen.sl
  subst hvs
  obtain ⟨V, hV⟩ : ∃ V, V = w.alloc (.cells #[.int .i64 1, .int .i64 tx, .slice a len cap] 41) := ⟨_, rfl⟩
  have hbV : Below w.heap.size w V := by rw [hV]; exact (Below.refl _ _).alloc (Nat.le_refl _) _
  have hbx : BoxR w.heap.size 1 tx (.slice a len cap) V := by rw [hV]; exact boxR_new _ _ _ _
  have hKV := hK.below hbV
  have hXl := hKV.box.lt
  have hRl := hbx.lt
  have y1 := last.On.cell (B := V.heap.size) hKV.box.cells.2.1 hXl
  have y2 := last.On.cell (B := V.heap.size) hbx.cells.2.1 hRl
  have hAt : ∀ x9 : last.On V.heap.size V, Calls Tryz.prog 116 #[.slice ah s.2.1.length ch, .int .i64 tx] x9.w fun e w' => e = .returned (.int .i64 (atRet (placeTx tx s.2.1))) ∧ ∃ y9 : last.On V.heap.size V, w' = y9.w := fun x9 => last.Calls.on x9 (Nat.le_refl _) ((spec_l8At _ _ ch s.2.1 tx x9.w (hKV.held.below x9.2).sl).mono (fun e w' h => ⟨h.1, h.2 ▸ Below.refl _ _⟩))
  have hinh := last.On.inh V.heap.size V
  have HV := Hid.mk' hV.symm
  clear hV
  generalize hP : atRet (placeTx tx s.2.1) = P at hAt
  go_enter Tryz.func113, Tryz.ntmps113
  go_wp2_with fail
  rw [HV.out]
  refine last.wp_region_on V.heap.size (by kernel_rfl) (by kernel_rfl) ?_
  repeat (go_big_quiet_step ((go_at_call 116; with_reducible exact hAt _)))
  refine wpQuiet_nil ?_
  intro w1 hw1
  obtain ⟨x1, hw1⟩ := hw1
  have hb1 : Below V.heap.size V w1 := by rw [hw1]; exact x1.2
  clear hw1 x1
  have hbx1 := hbx.below hb1
  have hK1 := hKV.below hb1
  have HOK := Hid.mk' (spec_recOk 1 tx a len cap ops w1 ((hSo.below hbV).below hb1) hks)
  obtain ⟨d0, d1, d2⟩ := hbx1.cells
  clear y1 y2 hAt hinh
  go_wp2_with fail
  refine HOK.out.mono ?_
  rintro e w2 ⟨rfl, hb2⟩
  rw [hok]
  have hK2 := hK1.below hb2
  have hbx2 := hbx1.below hb2
  have hSo2 := ((hSo.below hbV).below hb1).below hb2
  have hSz2 := ((hSz.below hbV).below hb1).below hb2
  clear d0 d1 d2 HOK HV hbx1 hbx hKV hXl hRl
  obtain ⟨d0, d1, d2⟩ := hbx2.cells
  have hX2 := hK2.box.lt
  have hR2 := hbx2.lt
  have o0 := last.On.cell (B := w2.heap.size) hK2.box.cells.1 hX2
  have o1 := last.On.cell (B := w2.heap.size) hK2.box.cells.2.1 hX2
  have o2 := last.On.cell (B := w2.heap.size) hK2.box.cells.2.2 hX2
  have o3 := last.On.cell (B := w2.heap.size) hbx2.cells.1 hR2
  have o4 := last.On.cell (B := w2.heap.size) hbx2.cells.2.1 hR2
  have o5 := last.On.cell (B := w2.heap.size) hbx2.cells.2.2 hR2
  have hinh2 := last.On.inh w2.heap.size w2
  have hHas : ∀ x9 : last.On w2.heap.size w2, Calls Tryz.prog 127 #[.slice sa s.2.2.length sc, .int .i64 tx] x9.w fun e w' => e = .returned (.bool (decide (tx ∈ s.2.2))) ∧ ∃ y9 : last.On w2.heap.size w2, w' = y9.w := fun x9 => last.Calls.on x9 (Nat.le_refl _) ((spec_l7Has sa s.2.2.length sc s.2.2 tx x9.w (hSz2.below x9.2)).mono (fun e w' h => ⟨h.1, h.2 ▸ Below.refl _ _⟩))
  have hLk : ∀ x9 : last.On w2.heap.size w2, Calls Tryz.prog 84 #[.slice ah s.2.1.length ch, .slice a len cap] x9.w fun e w' => e = .returned (.bool (locked s.2.1 ops)) ∧ ∃ y9 : last.On w2.heap.size w2, w' = y9.w := fun x9 => last.Calls.on x9 (Nat.le_refl _) (spec_locked _ _ ch s.2.1 a len cap ops x9.w (hK2.held.below x9.2).sl (hSo2.below x9.2))
  have hMt : ∀ x9 : last.On w2.heap.size w2, Calls Tryz.prog 85 #[.slice am nm cm, .slice a len cap] x9.w fun e w' => e = .returned (.bool (meets s.1 ops)) ∧ ∃ y9 : last.On w2.heap.size w2, w' = y9.w := fun x9 => last.Calls.on x9 (Nat.le_refl _) (spec_meets _ nm cm s.1 a len cap ops x9.w (hK2.m.below x9.2).sl (hSo2.below x9.2))
  rw [h1] at hHas
  rw [h2] at hLk
  rw [h3] at hMt
  go_wp2_with fail
  refine last.wp_region_on w2.heap.size (by kernel_rfl) (by kernel_rfl) ?_
  repeat (go_big_quiet_step (first | (go_at_call 127; with_reducible exact hHas _) | (go_at_call 84; with_reducible exact hLk _) | (go_at_call 85; with_reducible exact hMt _)))
  refine wpQuiet_nil ?_
  intro w5 hw5
  obtain ⟨x5, hw5⟩ := hw5
  have hb5 : Below w2.heap.size w2 w5 := by rw [hw5]; exact x5.2
  clear hw5 x5 hinh2 o0 o1 o2 o3 o4 o5 hHas hLk hMt d0 d1 d2
  have hK5 := hK2.below hb5
  go_wp2_with fail
  go_ret
  exact ⟨rfl, hK5.fr⟩
end Go.Proofs.YteniflajiklffaaGreatDoor.recs
