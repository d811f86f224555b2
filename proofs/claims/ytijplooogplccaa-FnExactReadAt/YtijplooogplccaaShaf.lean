/- The program's places of keys, and what is got. The program's putting of keys. The program's deleting of keys: a map counts the keys, and the key is deleted from it. A map of records by their transactions, that the call itself made: its elements are records whose orders lie elsewhere. The program's orders: what is right. The program's records: what is right. The program's pairs between two ends. The program's orders: what is met, at which shard, what is done. The program's replay: what is held by key, and whether a record fits. The program's replay: one record more is taken. The program's replay: a record of the call's own, and what is held. What the program keeps from record to record is what the specification keeps: plain mathematics. The program's ReplayRecs. A region that draws its order: what is held from one operation to the next may fall with the last one, which waits for all the others. No function of the program is named here. A call inside a region that draws its order, as a law of one step. No function of the program is named here. The specification's replay: its state on the heap. Shards: plain mathematics. No function of the program is named here. How pairs, orders, records and shards lie in memory. No function of the program is named here. -/
import Derived.Test.YtijplooogplccaaShae
import Derived.Maps.OwnSet
import Derived.Maps.OwnOps
import Derived.Maps.Views
import Derived.Test.YtijplooogplccaaShab
import Derived.BigQuiet
import Derived.Laws.CopyOwn
import Derived.Laws.CopyRow
import Derived.Deep.RegionHeld
import Derived.Deep.RegionLaw
import Derived.WalkKit
import Derived.WalkSpells
import Derived.WalkLawsBesides
import Derived.Test.YtijplooogplccaaShaa
namespace Go.Proofs.Ytijplooogplccaa.pairs
open Go Go.RowKit Go.Proofs.Ytijplooogplccaa.base
set_option linter.unusedVariables false
set_option linter.unusedSimpArgs false

theorem i_meth (x y : ByteArray) (w : World) : (method 288 126 (.agg #[.string x, .string y]) "loop.example/g00244/impl.key").run Try.prog w = .ok (128, .agg #[.string x, .string y]) w := by kernel_rfl
theorem nth_take_none {key : ByteArray} {l : List Pr} {k : Nat} (hn : getKey key (l.take k) = none) (hk : k ≤ l.length) (j : Nat) (hj : j < k) : (l[j]'(by omega)).1 ≠ key := by
  have := getKey_none hn j (by simp; omega)
  rwa [List.getElem_take] at this
theorem bel2 {w wr : World} (hB : Below w.heap.size w wr) (x y : Obj) : Below w.heap.size w ((wr.alloc x).alloc y) := (hB.alloc hB.size _).alloc (le_alloc _ _ hB.size) _

set_option maxRecDepth 100000 in
set_option maxHeartbeats 2000000 in
theorem place_found (b off len cap : Nat) (l : List Pr) (key : ByteArray) (w : World) (h : SlP w (some ⟨b, off, none⟩) len l) (n : Nat) (hn : n < l.length) (he : l[n].1 = key) (hno : getKey key (l.take n) = none) :
    Calls Try.prog 98 #[.slice (some ⟨b, off, none⟩) len cap, .string key] w fun e w' => e = .returned (.tuple #[.int .i64 (n : Int), .bool true]) ∧ Below w.heap.size w w' := by
  have hl := h.1
  have hm := h.2.1
  subst hl
  unfold maxLen at hm
  have hmt := i_meth
  have HE := Hid.mk' he
  clear he
  go_enter Try.func98, Try.ntmps98
  go_wp2_with fail
  go_loopw [12] (fun i wr => ∃ k : Nat, k ≤ n ∧ i = .int .i64 (k : Int) ∧ Below w.heap.size w wr) (fun i _ => l.length - (intOf i).toNat)
  case atStart => exact ⟨0, Nat.zero_le _, rfl, Below.refl _ _⟩
  case round =>
    obtain ⟨k, hk, rfl, hB⟩ := hrel
    have hlt : k < l.length := by omega
    obtain ⟨c1, c2⟩ := (h.below hB).cells k hlt
    have hki : (k : Int) < (l.length : Int) := by omega
    by_cases hkn : k = n
    · subst hkn
      have he := HE.out
      rw [he] at c1
      generalize l[k].2 = y at *
      clear hno HE he
      go_wp2_with fail
      refine (i_key (key, y) _).mono ?_
      rintro e w2 ⟨rfl, rfl⟩
      go_wp2_with fail
      go_ret2
      exact ⟨rfl, bel2 hB _ _⟩
    · have hq : (l[k].1.toList == key.toList) = false := str_ne (nth_take_none hno (by omega) k (by omega))
      have hkn2 : k + 1 ≤ n := by omega
      clear hno HE hkn
      generalize l[k] = p at *
      go_wp2_with fail
      refine (i_key p _).mono ?_
      rintro e w2 ⟨rfl, rfl⟩
      go_wp2_with fail
      go_roundw
      case rel => exact ⟨k + 1, hkn2, by go_num, bel2 hB _ _⟩
      case measure => simp [intOf]; omega

set_option maxRecDepth 100000 in
set_option maxHeartbeats 2000000 in
theorem place_none (b off len cap : Nat) (l : List Pr) (key : ByteArray) (w : World) (h : SlP w (some ⟨b, off, none⟩) len l) (hno : getKey key l = none) :
    Calls Try.prog 98 #[.slice (some ⟨b, off, none⟩) len cap, .string key] w fun e w' => e = .returned (.tuple #[.int .i64 (below key l : Int), .bool false]) ∧ Below w.heap.size w w' := by
  have hl := h.1
  have hm := h.2.1
  subst hl
  unfold maxLen at hm
  have hmt := i_meth
  obtain ⟨r, hr⟩ : ∃ r, below key l = r := ⟨_, rfl⟩
  have hne := getKey_none hno
  clear hno
  rw [hr]
  have HR := Hid.mk' hr
  clear hr
  go_enter Try.func98, Try.ntmps98
  go_wp2_with fail
  go_loopw [12] (fun i wr => ∃ k : Nat, k ≤ l.length ∧ i = .int .i64 (k : Int) ∧ Below w.heap.size w wr) (fun i _ => l.length - (intOf i).toNat)
  case atStart => exact ⟨0, Nat.zero_le _, rfl, Below.refl _ _⟩
  case round =>
    obtain ⟨k, hk, rfl, hB⟩ := hrel
    by_cases hlt : k < l.length
    · obtain ⟨c1, c2⟩ := (h.below hB).cells k hlt
      have hki : (k : Int) < (l.length : Int) := by omega
      have hq := str_ne (hne k hlt)
      clear hne
      generalize l[k] = p at *
      go_wp2_with fail
      refine (i_key p _).mono ?_
      rintro e w2 ⟨rfl, rfl⟩
      go_wp2_with fail
      go_roundw
      case rel => exact ⟨k + 1, by omega, by go_num, bel2 hB _ _⟩
      case measure => simp [intOf]; omega
    · have hB0 := hB
      clear hB
      go_wp2_with fail
      go_loopw [26] (fun i wr => ∃ k : Nat, k ≤ l.length ∧ i = .int .i64 (k : Int) ∧ k + below key (l.drop k) = r ∧ Below w.heap.size w wr) (fun i _ => l.length - (intOf i).toNat)
      case atStart => exact ⟨0, Nat.zero_le _, rfl, by rw [List.drop_zero, HR.out]; omega, hB0⟩
      case round =>
        clear hB0 hlt hk
        obtain ⟨k, hk, rfl, hr, hB⟩ := hrel
        by_cases hlt : k < l.length
        · obtain ⟨c1, c2⟩ := (h.below hB).cells k hlt
          have hki : (k : Int) < (l.length : Int) := by omega
          have hst := below_drop key l k hlt
          cases hL : ltB key l[k].1
          · have HF : Hid (k + 1 + below key (l.drop (k + 1)) = r) := by
              show _ = _
              rw [hL] at hst; simp at hst; omega
            have hl2 : Op.bytesLess l[k].1.toList key.toList = true := by rw [less_flip (hne k hlt), show Op.bytesLess key.toList l[k].1.toList = false from hL]; rfl
            clear hst hr hL hne
            generalize l[k] = p at *
            go_wp2_with fail
            refine (i_key p _).mono ?_
            rintro e w2 ⟨rfl, rfl⟩
            go_wp2_with fail
            go_roundw
            case rel => exact ⟨k + 1, by omega, by go_num, HF.out, bel2 hB _ _⟩
            case measure => simp [intOf]; omega
          · have HF : Hid (k = r) := by
              show _ = _
              rw [hL] at hst; simp at hst; omega
            have hl2 : Op.bytesLess l[k].1.toList key.toList = false := by rw [less_flip (hne k hlt), show Op.bytesLess key.toList l[k].1.toList = true from hL]; rfl
            have hq := str_ne (hne k hlt)
            clear hst hr hL hne
            generalize l[k] = p at *
            go_wp2_with fail
            refine (i_key p _).mono ?_
            rintro e w2 ⟨rfl, rfl⟩
            go_wp2_with fail
            obtain rfl := HF.out
            go_ret2
            exact ⟨rfl, bel2 hB _ _⟩
        · have HF : Hid (l.length = r) := by
            show _ = _
            rw [List.drop_eq_nil_of_le (by omega)] at hr; simp [below] at hr; omega
          clear hr hne
          go_wp2_with fail
          obtain rfl := HF.out
          go_ret2
          exact ⟨rfl, hB⟩

theorem getKey_place {key : ByteArray} {l : List Pr} {v : ByteArray} (h : getKey key l = some v) : ∃ n, ∃ hn : n < l.length, l[n].1 = key ∧ l[n].2 = v ∧ getKey key (l.take n) = none := by
  induction l with
  | nil => cases h
  | cons p l ih =>
    rw [getKey] at h
    by_cases hp : p.1 = key
    · rw [if_pos hp] at h
      exact ⟨0, by simp, hp, by simpa using h, rfl⟩
    · rw [if_neg hp] at h
      obtain ⟨n, hn, h1, h2, h3⟩ := ih h
      refine ⟨n + 1, by simp; omega, by simpa using h1, by simpa using h2, ?_⟩
      rw [List.take_succ_cons, getKey, if_neg hp]
      exact h3

set_option maxRecDepth 100000 in
set_option maxHeartbeats 1000000 in
theorem impl_getKey (b off len cap : Nat) (l : List Pr) (key : ByteArray) (w : World) (h : SlP w (some ⟨b, off, none⟩) len l) :
    Calls Try.prog 80 #[.slice (some ⟨b, off, none⟩) len cap, .string key] w fun e w' => e = .returned (getRet (getKey key l)) ∧ Below w.heap.size w w' := by
  cases hg : getKey key l with
  | none =>
    have HP := Hid.mk' (place_none b off len cap l key w h hg)
    clear hg
    go_enter Try.func80, Try.ntmps80
    go_wp2_with fail
    refine HP.out.mono ?_
    rintro e w2 ⟨rfl, hb⟩
    go_wp2_with fail
    go_ret2
    exact ⟨rfl, hb⟩
  | some v =>
    obtain ⟨n, hn, h1, h2, h3⟩ := getKey_place hg
    have HP := Hid.mk' (place_found b off len cap l key w h n hn h1 h3)
    have hl := h.1
    have hm := h.2.1
    unfold maxLen at hm
    subst hl h2
    clear hg h1 h3
    have hni : (n : Int) < (l.length : Int) := by omega
    go_enter Try.func80, Try.ntmps80
    go_wp2_with fail
    refine HP.out.mono ?_
    rintro e w2 ⟨rfl, hb⟩
    have c2 := ((h.below hb).cells n hn).2
    go_wp2_with fail
    go_ret2
    exact ⟨rfl, hb⟩

end Go.Proofs.Ytijplooogplccaa.pairs

namespace Go.Proofs.Ytijplooogplccaa.pairs
open Go Go.RowKit Go.Proofs.Ytijplooogplccaa.base
set_option linter.unusedVariables false
set_option linter.unusedSimpArgs false

end Go.Proofs.Ytijplooogplccaa.pairs

namespace Go.Proofs.Ytijplooogplccaa.pairs
open Go Go.RowKit Go.Proofs.Ytijplooogplccaa.base
open Go.Maps (Keyed)
open Go.WideMaps (keyOf_string_mk)
set_option linter.unusedVariables false
set_option linter.unusedSimpArgs false

/-! ### how often a key is there -/
end Go.Proofs.Ytijplooogplccaa.pairs

namespace Go.Proofs.Ytijplooogplccaa.recs
open Go Go.RowKit Go.Proofs.Ytijplooogplccaa.base Go.Proofs.Ytijplooogplccaa.pairs Go.Proofs.Ytijplooogplccaa.ords
open Go.ChangeMaps Go.MapKept
open Go.Maps (keyOf_int_mk)
set_option linter.unusedVariables false
set_option linter.unusedSimpArgs false

end Go.Proofs.Ytijplooogplccaa.recs

namespace Go.Proofs.Ytijplooogplccaa.ords
open Go Go.RowKit Go.Proofs.Ytijplooogplccaa.base Go.Proofs.Ytijplooogplccaa.pairs
set_option linter.unusedVariables false
set_option linter.unusedSimpArgs false

/-! ### orders that rise -/
end Go.Proofs.Ytijplooogplccaa.ords

namespace Go.Proofs.Ytijplooogplccaa.recs
open Go Go.RowKit Go.Proofs.Ytijplooogplccaa.base Go.Proofs.Ytijplooogplccaa.pairs Go.Proofs.Ytijplooogplccaa.ords
set_option linter.unusedVariables false
set_option linter.unusedSimpArgs false


end Go.Proofs.Ytijplooogplccaa.recs

namespace Go.Proofs.Ytijplooogplccaa.pairs
open Go Go.RowKit Go.Proofs.Ytijplooogplccaa.base
set_option linter.unusedVariables false
set_option linter.unusedSimpArgs false

end Go.Proofs.Ytijplooogplccaa.pairs

namespace Go.Proofs.Ytijplooogplccaa.ords
open Go Go.RowKit Go.Proofs.Ytijplooogplccaa.base Go.Proofs.Ytijplooogplccaa.pairs
set_option linter.unusedVariables false
set_option linter.unusedSimpArgs false

set_option maxHeartbeats 400000 in
theorem impl_shardOf (key : ByteArray) (n : Int) (w : World) (hs : key.size ≤ 1099511627776) (hn : (Lit.int .i64 n).wf = true) :
    Calls Try.prog 48 #[.string key, .int .i64 n] w fun e w' => e = .returned (.int .i64 (shardOf key n)) ∧ Below w.heap.size w w' := by
  have hH := hashOf_lt key.data.toList
  have HC := Hid.mk' (hash.impl_hash key w (by unfold maxLen; omega))
  unfold shardOf
  generalize hashOf key.data.toList = H at *
  by_cases h1 : n < 1
  · rw [if_pos h1]
    go_enter Try.func48, Try.ntmps48
    go_wp2_with fail
    go_ret
    exact ⟨rfl, Below.refl _ _⟩
  · rw [if_neg h1]
    have h2 : Int.tmod (H : Int) n = (H : Int) % n := Int.tmod_eq_emod_of_nonneg (by omega)
    have h3 : 0 ≤ (H : Int) % n := Int.emod_nonneg _ (by omega)
    have h4 : (H : Int) % n ≤ 4294967296 := by
      have h5 := Int.emod_add_ediv_mul (H : Int) n
      have h6 : 0 ≤ (H : Int) / n * n := Int.mul_nonneg (Int.ediv_nonneg (by omega) (by omega)) (by omega)
      omega
    generalize (H : Int) % n = R at *
    go_enter Try.func48, Try.ntmps48
    go_wp2_with fail
    refine HC.out.mono ?_
    rintro e w1 ⟨rfl, hb1⟩
    go_wp2_with fail
    go_ret
    exact ⟨rfl, hb1⟩


end Go.Proofs.Ytijplooogplccaa.ords

namespace Go.Proofs.Ytijplooogplccaa.recs
open Go Go.RowKit Go.Proofs.Ytijplooogplccaa.base Go.Proofs.Ytijplooogplccaa.pairs Go.Proofs.Ytijplooogplccaa.ords
open Go.WideMaps (keyOf_string_mk)
set_option linter.unusedVariables false
set_option linter.unusedSimpArgs false

section
variable {X B1 B2 : Nat} {pv : Value} {w w' : World}
end
end Go.Proofs.Ytijplooogplccaa.recs

namespace Go.Proofs.Ytijplooogplccaa.recs
open Go Go.RowKit Go.Proofs.Ytijplooogplccaa.base Go.Proofs.Ytijplooogplccaa.pairs Go.Proofs.Ytijplooogplccaa.ords
open Go.WideMaps (keyOf_string_mk)
set_option linter.unusedVariables false
set_option linter.unusedSimpArgs false

section
variable {w0 w w' : World} {X B1 B2 n1 n2 g np cp : Nat} {f : Int → Rc} {hf : ByteArray → Nat} {m : List Pr}
end

end Go.Proofs.Ytijplooogplccaa.recs

namespace Go.Proofs.Ytijplooogplccaa.recs
open Go Go.RowKit Go.Proofs.Ytijplooogplccaa.base Go.Proofs.Ytijplooogplccaa.pairs Go.Proofs.Ytijplooogplccaa.ords
set_option linter.unusedVariables false
set_option linter.unusedSimpArgs false

end Go.Proofs.Ytijplooogplccaa.recs

namespace Go.Proofs.Ytijplooogplccaa.recs
open Go Go.RowKit Go.Proofs.Ytijplooogplccaa.base Go.Proofs.Ytijplooogplccaa.pairs Go.Proofs.Ytijplooogplccaa.ords
set_option linter.unusedVariables false
set_option linter.unusedSimpArgs false

section
variable {pre : List Rc} {s : St} {f : Int → Rc} {hf : ByteArray → Nat}
end
end Go.Proofs.Ytijplooogplccaa.recs

namespace Go.Proofs.Ytijplooogplccaa.recs
open Go Go.RowKit Go.Proofs.Ytijplooogplccaa.base Go.Proofs.Ytijplooogplccaa.pairs Go.Proofs.Ytijplooogplccaa.ords
set_option linter.unusedVariables false
set_option linter.unusedSimpArgs false

end Go.Proofs.Ytijplooogplccaa.recs

namespace Go.Proofs.Ytijplooogplccaa.last
open Go Go.RowKit
section
variable {P : Program} {ops : Array Oper} {md : Region.Mode} {Q : Exit → Act → World → Prop} {S : World → Prop} {z : Nat}

end
end Go.Proofs.Ytijplooogplccaa.last

namespace Go.Proofs.Ytijplooogplccaa.stepc
open Go Go.RowKit
end Go.Proofs.Ytijplooogplccaa.stepc

namespace Go.Proofs.Ytijplooogplccaa.recs
open Go Go.RowKit Go.Proofs.Ytijplooogplccaa.base Go.Proofs.Ytijplooogplccaa.pairs Go.Proofs.Ytijplooogplccaa.ords
set_option linter.unusedVariables false
set_option linter.unusedSimpArgs false

section
variable {X : Nat} {x y z : Value} {w w' : World}
end
section
variable {w w' : World} {base : Nat} {v : Value} {zs : List Int}
end
def OwnPV (w : World) (a : Option Addr) (n cap : Nat) (l : List Pr) : Prop := l.length = n ∧ (∀ p ∈ l, small p) ∧ w.ownsRow 0 126 2 (.slice a n cap) n (pairVals l)
section
variable {w w' : World} {a : Option Addr} {g n cap base : Nat} {l : List Pr}
theorem ownPV_of (h : OwnP w base g n cap l) : OwnPV w (some ⟨g, 0, none⟩) n cap l := ⟨h.1, h.2.1, (h.mono (base' := 0) (Nat.zero_le _)).2.2⟩
theorem OwnPV.shape (h : OwnPV w a n cap l) : (a = none ∧ n = 0 ∧ cap = 0 ∧ l = []) ∨ ∃ g, a = some ⟨g, 0, none⟩ ∧ OwnP w 0 g n cap l := by
  obtain ⟨h1, h2, h3⟩ := h
  rcases h3.2 with ⟨e, h0⟩ | ⟨g, c, cur, e, _⟩
  · cases e
    exact .inl ⟨rfl, rfl, rfl, List.eq_nil_of_length_eq_zero h1⟩
  · cases e
    exact .inr ⟨g, rfl, show OwnP w 0 g n cap l from ⟨h1, h2, h3⟩⟩
theorem OwnPV.sl (h : OwnPV w a n cap l) : SlP w a n l := by
  rcases h.shape with ⟨rfl, rfl, rfl, rfl⟩ | ⟨g, rfl, h⟩
  · exact slp_nil _ _
  · exact OwnP.sl h
theorem OwnPV.spot (h : OwnPV w a n cap l) : ∀ ad, a = some ad → ad.spot = none := by
  rcases h.shape with ⟨rfl, _⟩ | ⟨g, rfl, _⟩
  · intro ad e; cases e
  · intro ad e; cases e; rfl
theorem OwnPV.lt (h : OwnPV w a n cap l) (k : Nat) (hk : (Value.slice a n cap).ownBlock = some k) : k < w.heap.size := (h.2.2.lt k hk).2
theorem OwnPV.of_block (h : OwnPV w a n cap l) (hk : ∀ k, (Value.slice a n cap).ownBlock = some k → w'.heap[k]? = w.heap[k]?) : OwnPV w' a n cap l := ⟨h.1, h.2.1, rowR_of_block h.2.2 hk⟩
theorem OwnPV.below (h : OwnPV w a n cap l) (hb : Below w.heap.size w w') : OwnPV w' a n cap l := h.of_block fun k hk => hb.block k (h.lt k hk)
end
section
variable {N : Prop} {w0 w w' w7 : World} {F0 : List Nat} {X nm cm ch : Nat} {am ah : Option Addr} {vs : Value} {s : St} {hs : List Value}
end
end Go.Proofs.Ytijplooogplccaa.recs

namespace Go.Proofs.Ytijplooogplccaa.recs
open Go Go.RowKit Go.Proofs.Ytijplooogplccaa.base Go.Proofs.Ytijplooogplccaa.pairs Go.Proofs.Ytijplooogplccaa.ords
set_option linter.unusedVariables false

abbrev Shd := Int × List Rc × Int × List Pr × List Rc
/-! ### how it is with a transaction -/
def lastOut (tx : Int) (l : List Rc) : Int := l.foldl (fun o r => if r.2.1 = tx ∧ r.1 = 3 then 4 else if r.2.1 = tx ∧ r.1 = 2 then 3 else o) 2
def outc (s : Shd) (tx : Int) : Int := if (placeTx tx s.2.2.2.2).isSome = true then 1 else lastOut tx s.2.1
/-! ### what is written -/
def forced (m : List Pr) (held : List Rc) (r : Rc) : List Pr × List Rc :=
  if r.1 = 1 then (m, held ++ [r]) else match placeTx r.2.1 held with
    | none => (m, held)
    | some k => (nextM (m, held, []) r k, held.take k ++ held.drop (k + 1))
def written (s : Shd) (r : Rc) : Shd := (s.1, s.2.1 ++ [r], s.2.2.1, (forced s.2.2.2.1 s.2.2.2.2 r).1, (forced s.2.2.2.1 s.2.2.2.2 r).2)
/-! ### what a shard does -/
end Go.Proofs.Ytijplooogplccaa.recs

namespace Go.Proofs.Ytijplooogplccaa.lay
open Go Go.RowKit Go.Proofs.Ytijplooogplccaa.base Go.Proofs.Ytijplooogplccaa.pairs Go.Proofs.Ytijplooogplccaa.ords Go.Proofs.Ytijplooogplccaa.recs
set_option linter.unusedVariables false
set_option linter.unusedSimpArgs false

/-! ### types without slices -/
structure Flat {α : Type} (R : Rd α) (enc : α → List Value) (ok : α → Prop) : Prop where
  own : ∀ {w vs x F}, R.own w vs x F ↔ vs = enc x ∧ ok x ∧ F = []
  see : ∀ {w vs x}, R.see w vs x ↔ vs = enc x ∧ ok x
theorem flat_int : Flat int (fun x => [.int .i64 x]) (fun x => (Lit.int .i64 x).wf = true) :=
  ⟨fun {_ _ _ _} => ⟨fun h => ⟨h.1.1, h.1.2, h.2⟩, fun h => ⟨⟨h.1, h.2.1⟩, h.2.2⟩⟩, fun {_ _ _} => Iff.rfl⟩
theorem flat_bool : Flat bool (fun x => [.bool x]) (fun _ => True) :=
  ⟨fun {_ _ _ _} => ⟨fun h => ⟨h.1, trivial, h.2⟩, fun h => ⟨h.1, h.2.2⟩⟩, fun {_ _ _} => ⟨fun h => ⟨h, trivial⟩, fun h => h.1⟩⟩
theorem flat_str : Flat str (fun x => [.string x]) (fun x => x.size ≤ maxLen) :=
  ⟨fun {_ _ _ _} => ⟨fun h => ⟨h.1.1, h.1.2, h.2⟩, fun h => ⟨⟨h.1, h.2.1⟩, h.2.2⟩⟩, fun {_ _ _} => Iff.rfl⟩
theorem flat_both {α β : Type} {R : Rd α} {S : Rd β} {e1 : α → List Value} {e2 : β → List Value} {o1 : α → Prop} {o2 : β → Prop} (h1 : Flat R e1 o1) (h2 : Flat S e2 o2) : Flat (both R S) (fun x => e1 x.1 ++ e2 x.2) (fun x => o1 x.1 ∧ o2 x.2) := by
  constructor
  · intro w vs x F
    constructor
    · rintro ⟨us, ts, F1, F2, rfl, rfl, h3, h4, _⟩
      obtain ⟨rfl, k1, rfl⟩ := h1.own.1 h3
      obtain ⟨rfl, k2, rfl⟩ := h2.own.1 h4
      exact ⟨rfl, ⟨k1, k2⟩, rfl⟩
    · rintro ⟨rfl, ⟨k1, k2⟩, rfl⟩
      exact ⟨_, _, [], [], rfl, rfl, h1.own.2 ⟨rfl, k1, rfl⟩, h2.own.2 ⟨rfl, k2, rfl⟩, List.nodup_nil⟩
  · intro w vs x
    constructor
    · rintro ⟨us, ts, rfl, h3, h4⟩
      obtain ⟨rfl, k1⟩ := h1.see.1 h3
      obtain ⟨rfl, k2⟩ := h2.see.1 h4
      exact ⟨rfl, k1, k2⟩
    · rintro ⟨rfl, k1, k2⟩
      exact ⟨_, _, rfl, h1.see.2 ⟨rfl, k1⟩, h2.see.2 ⟨rfl, k2⟩⟩
section
variable {α : Type} {R : Rd α} {enc : α → List Value} {ok : α → Prop} {ty : TypeId} {w : World} {v : Value} {l : List α} {q : Parts} {F : List Nat}
theorem Flat.parts (hR : Flat R enc ok) (h : OwnG ty R w v l q) : q = l.map (fun x => (enc x, [])) ∧ (∀ x ∈ l, ok x) ∧ blocksOf q = [] ∧ cellsOf q = l.flatMap enc := by
  have hl := h.len
  have e : q = l.map (fun x => (enc x, [])) := by
    refine List.ext_getElem (by simp [hl]) fun i h1 h2 => ?_
    have h3 := hR.own.1 (h.each i (by omega))
    rw [List.getElem_map]
    exact Prod.ext h3.1 h3.2.2
  refine ⟨e, fun x hx => ?_, ?_, ?_⟩
  · obtain ⟨i, hi, rfl⟩ := List.getElem_of_mem hx
    exact (hR.own.1 (h.each i hi)).2.1
  · rw [e]; unfold blocksOf; rw [List.flatMap_map]; simp
  · rw [e]; unfold cellsOf; rw [List.flatMap_map]
theorem Flat.row (hR : Flat R enc ok) (h : OwnG ty R w v l q) : w.ownsRow 0 ty R.size v l.length (l.flatMap enc) := by
  rw [← (hR.parts h).2.2.2]; exact h.row
theorem Flat.made (hR : Flat R enc ok) (hr : w.ownsRow 0 ty R.size v l.length (l.flatMap enc)) (hok : ∀ x ∈ l, ok x) : OwnG ty R w v l (l.map (fun x => (enc x, []))) := by
  have e1 : cellsOf (l.map (fun x => (enc x, ([] : List Nat)))) = l.flatMap enc := by unfold cellsOf; rw [List.flatMap_map]
  have e2 : blocksOf (l.map (fun x => (enc x, ([] : List Nat)))) = [] := by unfold blocksOf; rw [List.flatMap_map]; simp
  refine ⟨by simp, by rw [e1]; exact hr, fun i hi => ?_, by rw [e2]; cases v.ownBlock <;> simp⟩
  simp only [List.getElem_map]
  exact hR.own.2 ⟨rfl, hok _ (List.getElem_mem _), rfl⟩
theorem Flat.slice (hR : Flat R enc ok) : (lay.slice ty R).own w [v] l F ↔ w.ownsRow 0 ty R.size v l.length (l.flatMap enc) ∧ (∀ x ∈ l, ok x) ∧ F = v.ownBlock.toList := by
  constructor
  · rintro ⟨v', q, e, rfl, h⟩
    cases e
    exact ⟨hR.row h, (hR.parts h).2.1, by rw [(hR.parts h).2.2.1, List.append_nil]⟩
  · rintro ⟨h1, h2, rfl⟩
    have h3 := hR.made h1 h2
    exact ⟨v, _, rfl, by rw [(hR.parts h3).2.2.1, List.append_nil], h3⟩
end
/-! ### pairs, orders, whole numbers -/
def pairR : Rd Pr := both str str
def opR : Rd Od := both int (both str str)
theorem flat_pair : Flat pairR (fun p => [.string p.1, .string p.2]) small := flat_both flat_str flat_str
theorem flat_op : Flat opR (fun o => [.int .i64 o.1, .string o.2.1, .string o.2.2]) smallO := flat_both flat_int (flat_both flat_str flat_str)
def pairsR : Rd (List Pr) := slice 126 pairR
def opsR : Rd (List Od) := slice 138 opR
def intsR : Rd (List Int) := slice 3 int
section
variable {w w' : World} {a : Option Addr} {n cap : Nat} {F : List Nat} {v : Value}
theorem pairs_own {l : List Pr} : pairsR.own w [.slice a n cap] l F ↔ OwnPV w a n cap l ∧ F = (Value.slice a n cap).ownBlock.toList := by
  unfold pairsR
  rw [flat_pair.slice]
  constructor
  · rintro ⟨h1, h2, h3⟩
    have e : l.length = n := by
      rcases h1.2 with ⟨e, h0⟩ | ⟨g, c, cur, e, _⟩
      · cases e; exact h0
      · cases e; rfl
    exact ⟨⟨e, h2, by rw [← e] at h1 ⊢; exact h1⟩, h3⟩
  · rintro ⟨⟨h1, h2, h3⟩, h4⟩
    exact ⟨by rw [h1]; exact h3, h2, h4⟩
theorem ops_own {l : List Od} : opsR.own w [v] l F ↔ OwnV w 0 v l ∧ F = v.ownBlock.toList := by
  unfold opsR
  rw [flat_op.slice]
  constructor
  · rintro ⟨h1, h2, h3⟩
    exact ⟨⟨h2, h1⟩, h3⟩
  · rintro ⟨⟨h1, h2⟩, h4⟩
    exact ⟨h2, h1, h4⟩
theorem pairs_see {l : List Pr} : pairsR.see w [.slice a n cap] l ↔ SlP w a n l ∧ n ≤ cap := by
  constructor
  · rintro ⟨a', n', c', e, hc, h1, h2, h3, h4⟩
    cases e
    refine ⟨⟨h1, h2, fun p hp => ?_, fun h0 => ?_⟩, hc⟩
    · obtain ⟨vs, hv⟩ := h3 p hp
      exact (flat_pair.see.1 hv).2
    · obtain ⟨b, off, e, hi⟩ := h4 h0
      refine ⟨b, off, e, fun i hl => ?_⟩
      obtain ⟨vs, hs, hcl⟩ := hi i hl
      obtain ⟨rfl, _⟩ := flat_pair.see.1 hs
      exact ⟨hcl 0 _ rfl, hcl 1 _ rfl⟩
  · rintro ⟨⟨h1, h2, h3, h4⟩, hc⟩
    refine ⟨a, n, cap, rfl, hc, h1, h2, fun p hp => ⟨_, flat_pair.see.2 ⟨rfl, h3 p hp⟩⟩, fun h0 => ?_⟩
    obtain ⟨b, off, e, hi⟩ := h4 h0
    refine ⟨b, off, e, fun i hl => ⟨_, flat_pair.see.2 ⟨rfl, h3 _ (List.getElem_mem hl)⟩, fun j u hu => ?_⟩⟩
    obtain ⟨c0, c1⟩ := hi i hl
    match j, hu with
    | 0, hu => cases hu; exact c0
    | 1, hu => cases hu; exact c1
theorem ops_see {l : List Od} : opsR.see w [.slice a n cap] l ↔ SlO w a n l ∧ n ≤ cap := by
  constructor
  · rintro ⟨a', n', c', e, hc, h1, h2, h3, h4⟩
    cases e
    refine ⟨⟨h1, h2, fun p hp => ?_, fun h0 => ?_⟩, hc⟩
    · obtain ⟨vs, hv⟩ := h3 p hp
      exact (flat_op.see.1 hv).2
    · obtain ⟨b, off, e, hi⟩ := h4 h0
      refine ⟨b, off, e, fun i hl => ?_⟩
      obtain ⟨vs, hs, hcl⟩ := hi i hl
      obtain ⟨rfl, _⟩ := flat_op.see.1 hs
      exact ⟨hcl 0 _ rfl, hcl 1 _ rfl, hcl 2 _ rfl⟩
  · rintro ⟨⟨h1, h2, h3, h4⟩, hc⟩
    refine ⟨a, n, cap, rfl, hc, h1, h2, fun p hp => ⟨_, flat_op.see.2 ⟨rfl, h3 p hp⟩⟩, fun h0 => ?_⟩
    obtain ⟨b, off, e, hi⟩ := h4 h0
    refine ⟨b, off, e, fun i hl => ⟨_, flat_op.see.2 ⟨rfl, h3 _ (List.getElem_mem hl)⟩, fun j u hu => ?_⟩⟩
    obtain ⟨c0, c1, c2⟩ := hi i hl
    match j, hu with
    | 0, hu => cases hu; exact c0
    | 1, hu => cases hu; exact c1
    | 2, hu => cases hu; exact c2
end
/-! ### records -/
def recR : Rd Rc := both int (both int opsR)
def recsR : Rd (List Rc) := slice 72 recR
def blkR (v : Value) (hs : List Value) : List Nat := v.ownBlock.toList ++ hs.flatMap fun y => y.ownBlock.toList
section
variable {w w' : World} {a : Option Addr} {n cap : Nat} {F : List Nat} {v : Value}
theorem mem_blkR {hs : List Value} {k : Nat} : k ∈ blkR v hs ↔ BlkR v hs k := by
  unfold blkR BlkR
  rw [List.mem_append, List.mem_flatMap]
  constructor
  · rintro (h | ⟨y, hy, h⟩)
    · exact .inl (by simpa using h)
    · exact .inr ⟨y, hy, by simpa using h⟩
  · rintro (h | ⟨y, hy, h⟩)
    · exact .inl (by simp [h])
    · exact .inr ⟨y, hy, by simp [h]⟩
theorem rec_own {vs : List Value} {r : Rc} : recR.own w vs r F ↔ ∃ y, vs = [.int .i64 r.1, .int .i64 r.2.1, y] ∧ (Lit.int .i64 r.1).wf = true ∧ (Lit.int .i64 r.2.1).wf = true ∧ OwnV w 0 y r.2.2 ∧ F = y.ownBlock.toList := by
  constructor
  · rintro ⟨us, ts, F1, F2, rfl, rfl, h1, ⟨us2, ts2, F3, F4, rfl, rfl, h2, h3, _⟩, _⟩
    obtain ⟨rfl, k1, rfl⟩ := flat_int.own.1 h1
    obtain ⟨rfl, k2, rfl⟩ := flat_int.own.1 h2
    obtain ⟨a, c, q, rfl, _⟩ := own_open h3
    obtain ⟨h4, rfl⟩ := ops_own.1 h3
    exact ⟨_, rfl, k1, k2, h4, rfl⟩
  · rintro ⟨y, rfl, k1, k2, h4, rfl⟩
    have hn : (y.ownBlock.toList).Nodup := by cases y.ownBlock <;> simp
    exact ⟨[_], [_, y], [], _, rfl, rfl, flat_int.own.2 ⟨rfl, k1, rfl⟩, ⟨[_], [y], [], _, rfl, rfl, flat_int.own.2 ⟨rfl, k2, rfl⟩, ops_own.2 ⟨h4, rfl⟩, hn⟩, hn⟩
theorem rec_see {vs : List Value} {r : Rc} : recR.see w vs r ↔ ∃ pa pl pc, vs = [.int .i64 r.1, .int .i64 r.2.1, .slice pa pl pc] ∧ (Lit.int .i64 r.1).wf = true ∧ (Lit.int .i64 r.2.1).wf = true ∧ SlO w pa pl r.2.2 ∧ pl ≤ pc := by
  constructor
  · rintro ⟨us, ts, rfl, h1, us2, ts2, rfl, h2, h3⟩
    obtain ⟨rfl, k1⟩ := flat_int.see.1 h1
    obtain ⟨rfl, k2⟩ := flat_int.see.1 h2
    obtain ⟨pa, pl, pc, rfl, _⟩ := id h3
    have := ops_see.1 h3
    exact ⟨pa, pl, pc, rfl, k1, k2, this.1, this.2⟩
  · rintro ⟨pa, pl, pc, rfl, k1, k2, h1, h2⟩
    exact ⟨[_], [_, _], rfl, flat_int.see.2 ⟨rfl, k1⟩, [_], [_], rfl, flat_int.see.2 ⟨rfl, k2⟩, ops_see.2 ⟨h1, h2⟩⟩
theorem recs_see {l : List Rc} : recsR.see w [.slice a n cap] l ↔ SlR w a n l ∧ n ≤ cap := by
  constructor
  · rintro ⟨a', n', c', e, hc, h1, h2, h3, h4⟩
    cases e
    refine ⟨⟨h1, h2, fun p hp => ?_, fun h0 => ?_⟩, hc⟩
    · obtain ⟨vs, hv⟩ := h3 p hp
      obtain ⟨pa, pl, pc, _, k1, k2, k3, _⟩ := rec_see.1 hv
      exact ⟨k1, k2, k3.2.2.1⟩
    · obtain ⟨b, off, e, hi⟩ := h4 h0
      refine ⟨b, off, e, fun i hl => ?_⟩
      obtain ⟨vs, hs, hcl⟩ := hi i hl
      obtain ⟨pa, pl, pc, rfl, k1, k2, k3, k4⟩ := rec_see.1 hs
      exact ⟨hcl 0 _ rfl, hcl 1 _ rfl, pa, pl, pc, hcl 2 _ rfl, k3, k4⟩
  · rintro ⟨⟨h1, h2, h3, h4⟩, hc⟩
    have hat : 0 < n → ∃ b off, a = some ⟨b, off, none⟩ ∧ ∀ i (h : i < l.length), ∃ vs, recR.see w vs l[i] ∧ CellsAt w b (off + i * recR.size) vs := fun h0 => by
      obtain ⟨b, off, e, hi⟩ := h4 h0
      refine ⟨b, off, e, fun i hl => ?_⟩
      obtain ⟨c0, c1, pa, pl, pc, c2, k3, k4⟩ := hi i hl
      have hsm := h3 _ (List.getElem_mem hl)
      refine ⟨_, rec_see.2 ⟨pa, pl, pc, rfl, hsm.1, hsm.2.1, k3, k4⟩, fun j u hu => ?_⟩
      match j, hu with
      | 0, hu => cases hu; exact c0
      | 1, hu => cases hu; exact c1
      | 2, hu => cases hu; exact c2
    refine ⟨a, n, cap, rfl, hc, h1, h2, fun p hp => ?_, hat⟩
    obtain ⟨i, hi, rfl⟩ := List.getElem_of_mem hp
    obtain ⟨b, off, _, hx⟩ := hat (by omega)
    obtain ⟨vs, hv, _⟩ := hx i hi
    exact ⟨vs, hv⟩
def recPart (z : Rc × Value) : List Value × List Nat := ([.int .i64 z.1.1, .int .i64 z.1.2.1, z.2], z.2.ownBlock.toList)
theorem parts_cells (l : List Rc) (hs : List Value) : cellsOf ((l.zip hs).map recPart) = recVals l hs := by
  unfold cellsOf recVals recPart; rw [List.flatMap_map]
theorem parts_blocks (l : List Rc) (hs : List Value) (h : hs.length = l.length) : blocksOf ((l.zip hs).map recPart) = hs.flatMap fun y => y.ownBlock.toList := by
  unfold blocksOf recPart
  rw [List.flatMap_map]
  conv => rhs; rw [← List.map_snd_zip (l₁ := l) (l₂ := hs) (by omega)]
  rw [List.flatMap_map]
theorem recs_own {l : List Rc} : recsR.own w [v] l F ↔ ∃ hs, OwnR w 0 v l hs ∧ F = blkR v hs := by
  constructor
  · rintro ⟨v', q, e, rfl, h⟩
    cases e
    have hl := h.len
    obtain ⟨hs, hhl, hq⟩ : ∃ hs : List Value, hs.length = l.length ∧ ∀ i (h1 : i < l.length) (h2 : i < hs.length), (q[i]'(by omega)).1 = [.int .i64 l[i].1, .int .i64 l[i].2.1, hs[i]] := by
      refine ⟨q.map fun p => p.1.getD 2 (.slice none 0 0), by simp [hl], fun i h1 h2 => ?_⟩
      obtain ⟨y, e, _⟩ := rec_own.1 (h.each i h1)
      rw [List.getElem_map, e]; rfl
    have hq2 : ∀ i (h1 : i < l.length), smallR l[i] ∧ OwnV w 0 (hs[i]'(by omega)) l[i].2.2 ∧ (q[i]'(by omega)).2 = (hs[i]'(by omega)).ownBlock.toList := fun i h1 => by
      obtain ⟨y, e, k1, k2, k3, k4⟩ := rec_own.1 (h.each i h1)
      have e2 := hq i h1 (by omega)
      rw [e] at e2
      obtain rfl : y = hs[i]'(by omega) := by simpa using e2
      exact ⟨⟨k1, k2, k3.1⟩, k3, k4⟩
    have eq : q = (l.zip hs).map recPart := by
      refine List.ext_getElem (by simp [hl, hhl]) fun i h1 h2 => ?_
      rw [List.getElem_map, List.getElem_zip]
      exact Prod.ext (hq i (by omega) (by omega)) (hq2 i (by omega)).2.2
    have hnd := h.nodup
    rw [eq, parts_blocks l hs hhl] at hnd
    obtain ⟨n1, n2, n3⟩ := nodup_parts hnd
    refine ⟨hs, ⟨hhl, fun x hx => ?_, by rw [← parts_cells, ← eq]; exact h.row, fun i hi => (hq2 i hi).2.1, ?_, fun k hk y hy e => ?_⟩, ?_⟩
    · obtain ⟨i, hi, rfl⟩ := List.getElem_of_mem hx
      exact (hq2 i hi).1
    · have := (List.pairwise_flatMap.1 n2).2
      refine this.imp fun {a b} hab => ?_
      cases ha : a.ownBlock with
      | none => exact .inl rfl
      | some k =>
        right
        intro e
        exact hab k (by simp [ha]) k (by simp [← e]) rfl
    · exact n3 k (by simp [hk]) (List.mem_flatMap.2 ⟨y, hy, by simp [e]⟩)
    · unfold blkR; rw [eq, parts_blocks l hs hhl]
  · rintro ⟨hs, h, rfl⟩
    have hhl := h.len
    refine ⟨v, (l.zip hs).map recPart, rfl, by rw [parts_blocks l hs hhl]; rfl, ⟨by simp [hhl], by rw [parts_cells]; exact h.row, fun i hi => ?_, ?_⟩⟩
    · simp only [List.getElem_map, List.getElem_zip]
      have hsm := h.sm _ (List.getElem_mem hi)
      exact rec_own.2 ⟨_, rfl, hsm.1, hsm.2.1, h.ops i hi, rfl⟩
    · rw [parts_blocks l hs hhl]
      refine nodup_mk (by cases v.ownBlock <;> simp) ?_ (fun k hk hk2 => ?_)
      · refine List.pairwise_flatMap.2 ⟨fun a _ => by cases a.ownBlock <;> simp, h.apart.imp fun {a b} hab x hx y hy e => ?_⟩
        have ha : a.ownBlock = some x := by simpa using hx
        have hb : b.ownBlock = some y := by simpa using hy
        rcases hab with h1 | h1
        · rw [ha] at h1; cases h1
        · exact h1 (by rw [ha, hb, e])
      · obtain ⟨y, hy, e⟩ := List.mem_flatMap.1 hk2
        exact h.out k (by simpa using hk) y hy (by simpa using e)
end
/-! ### shards -/
def shardR : Rd Shd := both int (both recsR (both int (both pairsR recsR)))
def shVals (id sure : Int) (la : Option Addr) (ln lc : Nat) (ma : Option Addr) (mn mc : Nat) (ha : Option Addr) (hn hc : Nat) : List Value := [.int .i64 id, .slice la ln lc, .int .i64 sure, .slice ma mn mc, .slice ha hn hc]
structure SeeSh (w : World) (la : Option Addr) (ln lc : Nat) (ma : Option Addr) (mn mc : Nat) (ha : Option Addr) (hn hc : Nat) (s : Shd) : Prop where
  id : (Lit.int .i64 s.1).wf = true
  sure : (Lit.int .i64 s.2.2.1).wf = true
  log : SlR w la ln s.2.1
  map : SlP w ma mn s.2.2.2.1
  held : SlR w ha hn s.2.2.2.2
  lc : ln ≤ lc
  mc : mn ≤ mc
  hc : hn ≤ hc
section
variable {w w' : World} {la ma ha : Option Addr} {ln lc mn mc hn hc : Nat} {s : Shd} {vs : List Value} {F : List Nat}
theorem SeeSh.below (h : SeeSh w la ln lc ma mn mc ha hn hc s) (hb : Below w.heap.size w w') : SeeSh w' la ln lc ma mn mc ha hn hc s :=
  ⟨h.id, h.sure, h.log.below hb, h.map.below hb, h.held.below hb, h.lc, h.mc, h.hc⟩
theorem shard_see : shardR.see w vs s ↔ ∃ la ln lc ma mn mc ha hn hc, vs = shVals s.1 s.2.2.1 la ln lc ma mn mc ha hn hc ∧ SeeSh w la ln lc ma mn mc ha hn hc s := by
  constructor
  · rintro ⟨u1, t1, rfl, h1, u2, t2, rfl, h2, u3, t3, rfl, h3, u4, t4, rfl, h4, h5⟩
    obtain ⟨rfl, k1⟩ := flat_int.see.1 h1
    obtain ⟨rfl, k3⟩ := flat_int.see.1 h3
    obtain ⟨la, ln, lc, rfl, _⟩ := id h2
    obtain ⟨ma, mn, mc, rfl, _⟩ := id h4
    obtain ⟨ha, hn, hc, rfl, _⟩ := id h5
    have e2 := recs_see.1 h2
    have e4 := pairs_see.1 h4
    have e5 := recs_see.1 h5
    exact ⟨la, ln, lc, ma, mn, mc, ha, hn, hc, rfl, k1, k3, e2.1, e4.1, e5.1, e2.2, e4.2, e5.2⟩
  · rintro ⟨la, ln, lc, ma, mn, mc, ha, hn, hc, rfl, h⟩
    exact ⟨[_], [_, _, _, _], rfl, flat_int.see.2 ⟨rfl, h.id⟩, [_], [_, _, _], rfl, recs_see.2 ⟨h.log, h.lc⟩, [_], [_, _], rfl, flat_int.see.2 ⟨rfl, h.sure⟩, [_], [_], rfl, pairs_see.2 ⟨h.map, h.mc⟩, recs_see.2 ⟨h.held, h.hc⟩⟩
structure OwnSh (w : World) (la : Option Addr) (ln lc : Nat) (ma : Option Addr) (mn mc : Nat) (ha : Option Addr) (hn hc : Nat) (s : Shd) (F : List Nat) : Prop where
  id : (Lit.int .i64 s.1).wf = true
  sure : (Lit.int .i64 s.2.2.1).wf = true
  log : ∃ hl, OwnR w 0 (.slice la ln lc) s.2.1 hl ∧ ∃ hh, OwnR w 0 (.slice ha hn hc) s.2.2.2.2 hh ∧ F = blkR (.slice la ln lc) hl ++ ((Value.slice ma mn mc).ownBlock.toList ++ blkR (.slice ha hn hc) hh)
  map : OwnPV w ma mn mc s.2.2.2.1
  nodup : F.Nodup
theorem shard_own : shardR.own w vs s F ↔ ∃ la ln lc ma mn mc ha hn hc, vs = shVals s.1 s.2.2.1 la ln lc ma mn mc ha hn hc ∧ OwnSh w la ln lc ma mn mc ha hn hc s F := by
  constructor
  · rintro ⟨u1, t1, F1, G1, rfl, rfl, h1, ⟨u2, t2, F2, G2, rfl, rfl, h2, ⟨u3, t3, F3, G3, rfl, rfl, h3, ⟨u4, t4, F4, G4, rfl, rfl, h4, h5, _⟩, _⟩, _⟩, hnd⟩
    obtain ⟨rfl, k1, rfl⟩ := flat_int.own.1 h1
    obtain ⟨rfl, k3, rfl⟩ := flat_int.own.1 h3
    obtain ⟨la, lc, q2, rfl, _⟩ := own_open h2
    obtain ⟨ma, mc, q4, rfl, _⟩ := own_open h4
    obtain ⟨ha, hc, q5, rfl, _⟩ := own_open h5
    obtain ⟨hl, e2, rfl⟩ := recs_own.1 h2
    obtain ⟨e4, rfl⟩ := pairs_own.1 h4
    obtain ⟨hh, e5, rfl⟩ := recs_own.1 h5
    exact ⟨la, _, lc, ma, _, mc, ha, _, hc, rfl, k1, k3, ⟨hl, e2, hh, e5, rfl⟩, e4, hnd⟩
  · rintro ⟨la, ln, lc, ma, mn, mc, ha, hn, hc, rfl, h⟩
    obtain ⟨hl, e2, hh, e5, rfl⟩ := h.log
    have hnd := h.nodup
    have hnd2 := (nodup_parts hnd).2.1
    exact ⟨[_], [_, _, _, _], [], _, rfl, rfl, flat_int.own.2 ⟨rfl, h.id, rfl⟩, ⟨[_], [_, _, _], _, _, rfl, rfl, recs_own.2 ⟨hl, e2, rfl⟩, ⟨[_], [_, _], [], _, rfl, rfl, flat_int.own.2 ⟨rfl, h.sure, rfl⟩, ⟨[_], [_], _, _, rfl, rfl, pairs_own.2 ⟨h.map, rfl⟩, recs_own.2 ⟨hh, e5, rfl⟩, hnd2⟩, hnd2⟩, hnd⟩, hnd⟩
theorem OwnPV.room {l : List Pr} {a : Option Addr} {n cap : Nat} (h : OwnPV w a n cap l) : n ≤ cap ∧ cap ≤ maxLen := by
  rcases h.shape with ⟨rfl, rfl, rfl, _⟩ | ⟨g, rfl, h⟩
  · exact ⟨Nat.le_refl _, Nat.zero_le _⟩
  · exact OwnP.cases h
theorem OwnSh.see (h : OwnSh w la ln lc ma mn mc ha hn hc s F) : SeeSh w la ln lc ma mn mc ha hn hc s := by
  obtain ⟨hl, e2, hh, e5, rfl⟩ := h.log
  exact ⟨h.id, h.sure, e2.sl, h.map.sl, e5.sl, e2.room.1, (OwnPV.room h.map).1, e5.room.1⟩
theorem OwnSh.lt (h : OwnSh w la ln lc ma mn mc ha hn hc s F) : ∀ k ∈ F, k < w.heap.size :=
  shardR.ownLt (shard_own.2 ⟨_, _, _, _, _, _, _, _, _, rfl, h⟩)
theorem OwnSh.keep (h : OwnSh w la ln lc ma mn mc ha hn hc s F) (hk : ∀ k ∈ F, w'.heap[k]? = w.heap[k]?) : OwnSh w' la ln lc ma mn mc ha hn hc s F := by
  obtain ⟨hl, e2, hh, e5, rfl⟩ := h.log
  refine ⟨h.id, h.sure, ⟨hl, e2.of_blocks (fun k e => hk k (List.mem_append.2 (.inl (mem_blkR.2 e)))), hh, e5.of_blocks (fun k e => hk k (List.mem_append.2 (.inr (List.mem_append.2 (.inr (mem_blkR.2 e)))))), rfl⟩, h.map.of_block (fun k e => hk k (List.mem_append.2 (.inr (List.mem_append.2 (.inl (by simp [e])))))), h.nodup⟩
theorem OwnSh.below (h : OwnSh w la ln lc ma mn mc ha hn hc s F) (hb : Below w.heap.size w w') : OwnSh w' la ln lc ma mn mc ha hn hc s F := h.keep fun k hk => hb.block k (h.lt k hk)
theorem OwnSh.frame {G : List Nat} (h : OwnSh w la ln lc ma mn mc ha hn hc s F) (hf : Frame G w w') (hd : ∀ k ∈ F, k ∉ G) : OwnSh w' la ln lc ma mn mc ha hn hc s F := h.keep fun k hk => hf.block k (h.lt k hk) (hd k hk)
end
end Go.Proofs.Ytijplooogplccaa.lay
