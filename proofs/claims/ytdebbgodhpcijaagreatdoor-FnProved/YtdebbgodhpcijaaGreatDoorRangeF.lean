/- The program's items of a proof, which come out of an iterator. -/
import Derived.Test.YtdebbgodhpcijaaGreatDoorRangeE
import Derived.Test.YtdebbgodhpcijaaGreatDoorHands
import Derived.Test.YtdebbgodhpcijaaGreatDoorItemQ
import Derived.Test.YtdebbgodhpcijaaGreatDoorTreeR
import Derived.Shelf.RegionOpen
import Derived.RangeFuncBound
import Derived.WalkKit
import Derived.OwnWalkIn
import Derived.TacticsInMore
import Derived.LoopNIn
import Derived.LoopIn
namespace Go.Proofs.YtdebbgodhpcijaaGreatDoor.range
open Go Go.RowKit Go.Shelf Go.Proofs.YtdebbgodhpcijaaGreatDoor.base Go.Proofs.YtdebbgodhpcijaaGreatDoor.pairs Go.Proofs.YtdebbgodhpcijaaGreatDoor.tree
set_option linter.unusedVariables false
set_option linter.unusedSimpArgs false
attribute [local go_sem] Oper.semAt_some

/-- an item and where its path lies -/
abbrev Ih := It × Hd
def encI (x : Ih) : Value := .agg #[.string x.1.1.1, .string x.1.1.2, .slice (some ⟨x.2.1, 0, none⟩) x.2.2.1 x.2.2.2]
/-- what a round keeps: all that lay ahead of the loop but one block, the proof's own -/
structure KeepF (n₀ B fb : Nat) (w w' : World) : Prop where
  bel : Below n₀ w w'
  block : ∀ k, k < B → k ≠ fb → w'.heap[k]? = w.heap[k]?
theorem KeepF.refl (n₀ B fb : Nat) (w : World) : KeepF n₀ B fb w w := ⟨Below.refl _ _, fun _ _ _ => rfl⟩
theorem KeepF.trans {n₀ B fb : Nat} (a b c : World) (h : KeepF n₀ B fb a b) (k : KeepF n₀ B fb b c) : KeepF n₀ B fb a c := ⟨h.bel.trans k.bel, fun i hi hn => (k.block i hi hn).trans (h.block i hi hn)⟩
theorem KeepF.of_below {n₀ B fb : Nat} {w w' : World} (h : Below w.heap.size w w') (hB : B ≤ w.heap.size) (h0 : n₀ ≤ w.heap.size) : KeepF n₀ B fb w w' := ⟨h.mono h0, fun k hk _ => h.block k (by omega)⟩
/-- an item whose path lies in a row of its own, apart from those that came ahead -/
def GoodI (B : Nat) (pre : List Ih) (x : Ih) (w : World) : Prop :=
  pre.length < 60 ∧ small x.1.1 ∧ OwnS w B x.2.1 x.2.2.1 x.2.2.2 x.1.2 ∧ ∀ y ∈ pre, y.2.1 ≠ x.2.1

set_option maxHeartbeats 1000000 in
theorem impl_itemsOf (a : Option Addr) (len cap : Nat) (i j : Int) (w : World) :
    Calls Tryz.prog 31 #[.slice a len cap, .int .i64 i, .int .i64 j] w fun e w' =>
      e = .returned (.func (.func 61) #[] #[.pointer (some ⟨w.heap.size + 1, 0, none⟩), .pointer (some ⟨w.heap.size + 2, 0, none⟩), .pointer (some ⟨w.heap.size, 0, none⟩)]) ∧
        w' = ((w.alloc (.cells #[.slice a len cap] 24)).alloc (.cells #[.int .i64 i] 3)).alloc (.cells #[.int .i64 j] 3) := by
  have hmf := makeFunc_run
  go_enter Tryz.func31, Tryz.ntmps31
  go_wp2_with fail
  go_ret
  exact ⟨rfl, rfl⟩

set_option maxRecDepth 100000 in
set_option maxHeartbeats 2000000 in
theorem items_hands (n fb b off cap p1 p2 p3 a z : Nat) (l : List Pr) (w0 w : World) (hn : 1 ≤ n) (h : SlP w0 (some ⟨b, off, none⟩) l.length l) (hcap : l.length ≤ cap) (hlim : ∀ p ∈ l, lim p) (hK : sha.KW w0) (h60 : l.length ≤ 60) (haz : z ≤ l.length)
    (hw0 : Below w0.heap.size w0 w) (hp1 : p1 < w.heap.size ∧ p1 ≠ fb) (hp2 : p2 < w.heap.size ∧ p2 ≠ fb) (hp3 : p3 < w.heap.size ∧ p3 ≠ fb)
    (c1 : w.cell? ⟨p1, 0, none⟩ = some (.int .i64 (a : Int))) (c2 : w.cell? ⟨p2, 0, none⟩ = some (.int .i64 (z : Int))) (c3 : w.cell? ⟨p3, 0, none⟩ = some (.slice (some ⟨b, off, none⟩) l.length cap)) :
    hands.Hands n Tryz.prog 61 #[.pointer (some ⟨p1, 0, none⟩), .pointer (some ⟨p2, 0, none⟩), .pointer (some ⟨p3, 0, none⟩)] (fun x : Ih => #[encI x]) (GoodI w.heap.size) (KeepF w0.heap.size w.heap.size fb) (fun xs => xs.map (·.1) = itemsTo l a z) w := by
  intro lp J W hbW hJ hY hJ0
  refine callsIn_of_wp Tryz.func61 rfl trivial ?_ rfl
  simp only [Tryz.ntmps61, List.size_toArray, List.length_cons, List.length_nil, Nat.reduceAdd, Nat.reduceSub, Array.replicate_succ, Array.replicate_zero, List.push_toArray, List.append_toArray, List.nil_append, List.cons_append]
  have d1 := (hbW.cell (p := ⟨p1, 0, none⟩) (by show p1 < _; omega)).trans c1
  have hsW := hbW.size
  have hs0 := hw0.size
  have hm : Tryz.prog.follows .mixedOrders = true := by kernel_rfl
  gi_wp2
  gi_loopw [5] (fun i wr => ∃ (k : Nat) (ys : List Ih), a ≤ k ∧ (k ≤ z ∨ k = a) ∧ i = .int .i64 (k : Int) ∧ ys.map (·.1) = itemsTo l a k ∧ (∀ y ∈ ys, y.2.1 < wr.heap.size) ∧ J ys wr ∧ KeepF w0.heap.size w.heap.size fb W wr) (fun i _ => z - (intOf i).toNat)
  case atStart => exact ⟨a, [], Nat.le_refl _, .inr rfl, rfl, by rw [itemsTo_nil l a a (Nat.le_refl _)]; rfl, (fun y hy => absurd hy List.not_mem_nil), hJ0, KeepF.refl _ _ _ _⟩
  case round =>
    obtain ⟨k, ys, hak, hkz, rfl, hys, hlt, hJk, hKk⟩ := hrel
    have cellK : ∀ (wx : World) (p : Nat) v, KeepF w0.heap.size w.heap.size fb W wx → p < w.heap.size ∧ p ≠ fb → w.cell? ⟨p, 0, none⟩ = some v → wx.cell? ⟨p, 0, none⟩ = some v := fun wx p v hx hp hc => by
      have h1 : W.cell? ⟨p, 0, none⟩ = some v := (hbW.cell (p := ⟨p, 0, none⟩) (by show p < _; omega)).trans hc
      exact (World.cell?_of_block (hx.block p hp.1 hp.2)).trans h1
    have e2 := cellK wr p2 _ hKk hp2 c2
    by_cases hkz' : k < z
    · have hkl : k < l.length := by omega
      have e3 := cellK wr p3 _ hKk hp3 c3
      have hb0 : Below w0.heap.size w0 wr := (hw0.trans (hbW.mono hs0)).trans hKk.bel
      have hsr := hKk.bel.size
      obtain ⟨q1, q2⟩ := (h.below hb0).cells k hkl
      have hkz2 : (k : Int) < (z : Int) := by omega
      have hki : (k : Int) < (l.length : Int) := by omega
      have hlen : ys.length = k - a := by
        have := congrArg List.length hys
        rw [List.length_map, itemsTo_length] at this; exact this
      have HP : Hid (Calls Tryz.prog 62 #[.slice (some ⟨b, off, none⟩) l.length cap, .int .i64 (k : Int)] wr.drew fun e w' =>
          ∃ g' n' cap', e = .returned (.slice (some ⟨g', 0, none⟩) n' cap') ∧ w'.cell? ⟨p3, 0, none⟩ = some (.slice (some ⟨b, off, none⟩) l.length cap) ∧ w'.cell? ⟨b, off + k * 2, none⟩ = some (.string l[k].1) ∧ w'.cell? ⟨b, off + k * 2 + 1, none⟩ = some (.string l[k].2) ∧
            YieldAt Fence.wide (n - 1) Tryz.prog lp #[.agg #[.string l[k].1, .string l[k].2, .slice (some ⟨g', 0, none⟩) n' cap']] w' fun e W' => e = .returned (.bool true) ∧ (∃ ys' : List Ih, ys'.map (·.1) = itemsTo l a (k + 1) ∧ (∀ y ∈ ys', y.2.1 < W'.heap.size) ∧ J ys' W') ∧ KeepF w0.heap.size w.heap.size fb W W') := by
        refine (impl_pathOf b off l.length cap l (k : Int) wr.drew (h.below hb0.drew) hcap hlim (by simp [Lit.wf, IntKind.min, IntKind.max, IntKind.signed, IntKind.bits]; omega) (hK.below hb0.drew)).mono ?_
        rintro e w' ⟨g', n', c', rfl, hO, hb1⟩
        have hb1' : Below wr.heap.size wr w' := (Below.refl _ _).drew.trans hb1
        have hKx : KeepF w0.heap.size w.heap.size fb wr w' := KeepF.of_below hb1' (by omega) (by have := hb0.size; omega)
        have hKW' := KeepF.trans _ _ _ hKk hKx
        have hbx := hb0.trans (hb1'.mono hb0.size)
        obtain ⟨r1, r2⟩ := (h.below hbx).cells k hkl
        have hPI : pathI l (k : Int) = path l k := by unfold pathI; rw [if_pos (by omega), Int.toNat_natCast]
        rw [hPI] at hO
        have hg' : wr.heap.size ≤ g' := hO.lt.1
        have hJx : J ys w' := hJ ys wr w' none hJk ⟨hb1'.os, hb1'.tape, hb1'.output, hb1'.size, fun i hi _ => hb1'.block i hi⟩ (fun r e => by cases e)
        have hsm := h.2.2.1 l[k] (List.getElem_mem hkl)
        have hit : itemAt l k = (l[k], path l k) := by unfold itemAt; rw [List.getElem?_eq_getElem hkl]; rfl
        have hy := hY ys ((l[k], path l k), (g', n', c')) w' hJx ⟨by omega, hsm, hO.mono (by show _ ≤ wr.heap.size; omega), fun y hy => by have := hlt y hy; show y.2.1 ≠ g'; omega⟩
        refine ⟨g', n', c', rfl, cellK w' p3 _ hKW' hp3 c3, r1, r2, hy.mono ?_⟩
        rintro e W' ⟨rfl, hJ', hK'⟩
        refine ⟨rfl, ⟨_, ?_, fun y hy => ?_, hJ'⟩, KeepF.trans _ _ _ hKW' hK'⟩
        · rw [List.map_append, hys, itemsTo_snoc l a k hak, hit]; rfl
        · have h1 := hK'.bel.size
          have h2 := hb1'.size
          rcases List.mem_append.1 hy with h3 | h3
          · have := hlt y h3; omega
          · rw [List.mem_singleton.1 h3]; have := hO.lt.2; show g' < _; omega
      clear hY hJk hKk hb0 hys hlt hlen cellK hJ hJ0 h hlim hK d1 hw0 hbW
      generalize l[k] = x at *
      gi_wp2
      gi_region_with_o (first | (refine ⟨trivial, ?_⟩; gi_at_call 62; refine (callsIn_wide.2 HP.out).mono ?_; rintro e w1 ⟨g', n', cp', rfl, r3, r1, r2, fn, tmps, assign, body, hy, hR⟩) | (refine hR.mono ?_; rintro e W3 ⟨rfl, ⟨ys', hy1, hy2, hJ3⟩, hk3⟩))
      all_goals
        gi_wp2
        go_roundw
        case rel => exact ⟨k + 1, ys', by omega, by omega, by go_num, hy1, hy2, hJ3, hk3⟩
        case measure => simp [intOf]; omega
    · have hzk : z ≤ k := by omega
      have hz : itemsTo l a k = itemsTo l a z := by
        rcases Nat.lt_or_ge z a with h1 | h1
        · rw [itemsTo_nil l a k (by omega), itemsTo_nil l a z (by omega)]
        · rw [show k = z by omega]
      have hkz2 : ¬ (k : Int) < (z : Int) := by omega
      gi_wp2
      go_end0
      exact ⟨⟨_, rfl⟩, ys, by rw [hys, hz], hJk⟩
end Go.Proofs.YtdebbgodhpcijaaGreatDoor.range
