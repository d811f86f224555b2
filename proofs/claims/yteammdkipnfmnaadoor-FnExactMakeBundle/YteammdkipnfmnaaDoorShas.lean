/- A range over a function whose values are right only in the world in which they are handed on (a law of my own beside the library's; no function of the program is named here). The program's items of a proof, which come out of an iterator. The program's proving of all between. -/
import Derived.RangeFuncNested
import Derived.Shelf.Abstract
import Derived.Test.YteammdkipnfmnaaDoorShal
import Derived.Test.YteammdkipnfmnaaDoorShag
import Derived.Test.YteammdkipnfmnaaDoorShao
import Derived.Shelf.RegionOpen
import Derived.RangeFuncBound
import Derived.WalkKit
import Derived.OwnWalkIn
import Derived.TacticsInMore
import Derived.LoopNIn
import Derived.LoopIn
import Derived.Test.YteammdkipnfmnaaDoorShaj
namespace Go.Proofs.YteammdkipnfmnaaDoor.hands
open Go Go.RowKit
set_option linter.unusedVariables false
set_option linter.unusedSimpArgs false

def Hands {α : Type} (n : Nat) (P : Program) (g : Nat) (lb : Array Value) (encs : α → Array Value) (G : List α → α → World → Prop) (Kp : World → World → Prop) (S : List α → Prop) (w : World) : Prop :=
  ∀ (l : Nat) (J : List α → World → Prop) (W : World), Below w.heap.size w W → AbidesFrom W.heap.size J →
    (∀ pre x W1, J pre W1 → G pre x W1 → YieldAt Fence.wide (n - 1) P l (encs x) W1 fun e W' => e = .returned (.bool true) ∧ J (pre ++ [x]) W' ∧ Kp W1 W') →
    J [] W → CallsIn Fence.wide n P g (#[.func (.yield l) #[] #[]] ++ lb) W fun e W' => (∃ v, e = .returned v) ∧ ∃ xs, S xs ∧ J xs W'

def goesOn (B : Nat) (Kp : World → World → Prop) (I : World → Prop) (W : World) (e : Exit) (_ : Act) (W' : World) : Prop := e = .normal ∧ KeepsFrom B W W' ∧ Kp W W' ∧ I W'

theorem wpIn_hands {α : Type} {n : Nat} {P : Program} {g : Operand} {ps : Array Tmp} {assign body : Code} {Q : Exit → Act → World → Prop} {a : Act} {w : World} {gf : Nat} {lb : Array Value}
    (hg : a.eval g = .func (.func gf) #[] lb) (eg : ∀ args w, (callFunc gf args).run P w = .ok (.enter gf args) w)
    {encs : α → Array Value} {G : List α → α → World → Prop} {Kp : World → World → Prop} {S : List α → Prop} (hseq : Hands (n - 1) P gf lb encs G Kp S w)
    (hKt : ∀ A B C : World, Kp A B → Kp B C → Kp A C) (hKb : ∀ (W : World) (l : Nat) (o o' : Obj), w.heap.size ≤ l → W.heap[l]? = some o → o.isCells = false → Kp W (W.putObj l o'))
    (hps : ∀ x, (encs x).size = ps.size) (I : List α → World → Prop) (hI : OwnFrom w.heap.size I) (h0 : I [] w)
    (Ax : List α → α → Act → World → Prop) (hAx : ∀ pre x a', OwnFrom w.heap.size (fun (_ : Unit) W => Ax pre x a' W))
    (hassign : ∀ (l : Nat) (pre : List α) (x : α) (W : World) (K : Act → World → Prop), I pre W → G pre x W → (∀ a' W', KeepsFrom w.heap.size W W' → Kp W W' → I pre W' → Ax pre x a' W' → K a' W') →
      assign.wpIn (Fence.wide.inRound l) (n - 1 - 1) P (Exit.then K (fun _ _ _ => False)) { tmps := (ps.zip (encs x)).foldl (fun t (p, v) => t.setIfInBounds p v) a.tmps, defers := [] } W)
    (hbody : ∀ (l : Nat) (pre : List α) (x : α) (a' : Act) (W : World), I pre W → Ax pre x a' W → body.wpIn (Fence.wide.inRound l) (n - 1 - 1) P (goesOn w.heap.size Kp (I (pre ++ [x])) W) a' W)
    (hdone : ∀ (D : Nat) (xs : List α) (W : World), w.heap.size ≤ D → S xs → I xs W → W.heap[D]? = some (.deferred (some [])) → Q .normal { a with defers := { target := .collected D, args := #[] } :: a.defers } W) :
    (Code.rangeFunc g ps assign body).wpIn Fence.wide n P Q a w := by
  refine wpIn_rangeFunc fun fn hfn => ?_
  obtain ⟨B, hB⟩ : ∃ B, B = w.heap.size := ⟨_, rfl⟩
  let rc : LoopState → Loop := fun st => { state := st, pending := none, fn := fn, tmps := a.tmps, params := ps, assign := assign, body := body, defers := B }
  let J : List α → World → Prop := fun pre W => I pre W ∧ W.heap[B + 1]? = some (.loop (rc .ready)) ∧ W.heap[B]? = some (.deferred (some []))
  obtain ⟨V, hV⟩ : ∃ V, V = w.alloc (.deferred (some [])) := ⟨_, rfl⟩
  obtain ⟨W1, hW1⟩ : ∃ W1, W1 = V.alloc (.loop (rc .ready)) := ⟨_, rfl⟩
  have hVs : V.heap.size = B + 1 := by rw [hV, World.size_alloc, hB]
  have hW1s : W1.heap.size = B + 2 := by rw [hW1, World.size_alloc, hVs]
  have hbV : Below B w V := by rw [hV]; exact (Below.refl _ w).alloc (by omega) _
  have hbW : Below B w W1 := by rw [hW1]; exact hbV.alloc (by omega) _
  have j0 : J [] W1 := by
    refine ⟨by rw [hW1, hV]; exact hI.alloc _ (hI.alloc _ h0), ?_, ?_⟩
    · rw [hW1, ← hVs]; exact World.alloc_heap_new V _
    · rw [hW1, Below.heap_alloc V _ B (by omega), hV, hB]; exact World.alloc_heap_new w _
  -- what the law itself does between two rounds the loop's own facts abide
  have jAbide : AbidesFrom W1.heap.size J := by
    rintro s A C row ⟨h1, h2, h3⟩ hgr hr
    have hr' : ∀ r, row = some r → ∃ o : Obj, A.heap[r]? = some o ∧ o.isWalk = true := fun r e => (hr r e).2
    refine ⟨hI s A C row h1 hgr (fun r e => ?_), (grownBy_keeps hgr hr' h2 rfl).trans h2, (grownBy_keeps hgr hr' h3 rfl).trans h3⟩
    obtain ⟨hle, o, ho, hw⟩ := hr r e
    exact ⟨by omega, o, ho, Obj.not_cells_of_walk hw⟩
  -- one round
  have round : ∀ pre x W, J pre W → G pre x W → YieldAt Fence.wide (n - 1 - 1) P (B + 1) (encs x) W fun e W' => e = .returned (.bool true) ∧ J (pre ++ [x]) W' ∧ Kp W W' := by
    rintro pre x W ⟨hi, hl, hk⟩ hG
    refine ⟨fn, _, assign, body, run_yield hl (hps x), roundIn_of_wpIn hfn (hassign (B + 1) pre x W _ hi hG fun a' Wa hkf hkp hia hax => ?_)⟩
    have hla := hkf.same _ _ (by omega) hl rfl
    have hka := hkf.same _ _ (by omega) hk rfl
    have hlt : B + 1 < Wa.heap.size := (Array.getElem?_eq_some_iff.1 hla).1
    obtain ⟨Wb, hWb⟩ : ∃ Wb, Wb = Wa.putObj (B + 1) (.loop (rc .busy)) := ⟨_, rfl⟩
    have hkb : Kp Wa Wb := by rw [hWb]; exact hKb _ _ _ _ (by omega) hla rfl
    have hlb : Wb.heap[B + 1]? = some (.loop (rc .busy)) := by rw [hWb]; exact World.putObj_heap_same hlt
    have hdb : Wb.heap[B]? = some (.deferred (some [])) := by rw [hWb, World.putObj_heap_other (by omega)]; exact hka
    have hib : I pre Wb := by rw [hWb]; exact hI.putObj _ hia (by omega) hla rfl
    have hxb : Ax pre x a' Wb := by rw [hWb]; exact (hAx pre x a').putObj (s := ()) _ hax (by omega) hla rfl
    refine ⟨Wb, by rw [hWb]; exact run_beginRound hla rfl, wpIn_mono (hbody (B + 1) pre x a' Wb hib hxb) ?_⟩
    rintro e a3 W3 ⟨rfl, hkf3, hkp3, hi3⟩
    have hl3 := hkf3.same _ _ (by omega) hlb rfl
    have hd3 := hkf3.same _ _ (by omega) hdb rfl
    refine ⟨_, _, run_endRound none hl3, rfl, ⟨hI.putObj _ hi3 (by omega) hl3 rfl, World.putObj_heap_same (Array.getElem?_eq_some_iff.1 hl3).1, ?_⟩, ?_⟩
    · rw [World.putObj_heap_other (by omega)]; exact hd3
    · exact hKt _ _ _ hkp (hKt _ _ _ hkb (hKt _ _ _ hkp3 (hKb _ _ _ _ (by omega) hl3 rfl)))
  refine ⟨B + 1, [{ target := .collected B, args := #[] }], W1, { target := .fn (.func gf) lb, args := #[.func (.yield (B + 1)) #[] #[]] }, W1, gf, #[.func (.yield (B + 1)) #[] #[]] ++ lb, W1, ?_, ?_, fun _ _ => trivial, ?_, (fun h => by cases h), ?_⟩
  · rw [hW1, hV, hB]
    show (Instr.enterLoop fn a.tmps ps assign body none).run P w = _
    rw [run_enterLoop_outer]
    simp only [rc, hB]
  · simp only [resolve, hg]
    simp [go_sem]
  · simp [invoke, go_sem, eg]
  · refine (hseq (B + 1) J W1 (by rw [← hB]; exact hbW) jAbide round j0).mono ?_
    rintro e W2 ⟨⟨v, rfl⟩, xs, hS, hi, hl, hd⟩
    refine ⟨none, _, run_endLoop hl (by simp [rc]), ?_⟩
    exact hdone B xs _ (by omega) hS (hI.putObj _ hi (by omega) hl rfl) (by rw [World.putObj_heap_other (by omega)]; exact hd)
end Go.Proofs.YteammdkipnfmnaaDoor.hands

namespace Go.Proofs.YteammdkipnfmnaaDoor.range
open Go Go.RowKit Go.Shelf Go.Proofs.YteammdkipnfmnaaDoor.base Go.Proofs.YteammdkipnfmnaaDoor.pairs Go.Proofs.YteammdkipnfmnaaDoor.tree
set_option linter.unusedVariables false
set_option linter.unusedSimpArgs false
attribute [local go_sem] Oper.semAt_some

abbrev Ih := It × Hd
def encI (x : Ih) : Value := .agg #[.string x.1.1.1, .string x.1.1.2, .slice (some ⟨x.2.1, 0, none⟩) x.2.2.1 x.2.2.2]
structure KeepF (n₀ B fb : Nat) (w w' : World) : Prop where
  bel : Below n₀ w w'
  block : ∀ k, k < B → k ≠ fb → w'.heap[k]? = w.heap[k]?
theorem KeepF.refl (n₀ B fb : Nat) (w : World) : KeepF n₀ B fb w w := ⟨Below.refl _ _, fun _ _ _ => rfl⟩
theorem KeepF.trans {n₀ B fb : Nat} (a b c : World) (h : KeepF n₀ B fb a b) (k : KeepF n₀ B fb b c) : KeepF n₀ B fb a c := ⟨h.bel.trans k.bel, fun i hi hn => (k.block i hi hn).trans (h.block i hi hn)⟩
theorem KeepF.of_below {n₀ B fb : Nat} {w w' : World} (h : Below w.heap.size w w') (hB : B ≤ w.heap.size) (h0 : n₀ ≤ w.heap.size) : KeepF n₀ B fb w w' := ⟨h.mono h0, fun k hk _ => h.block k (by omega)⟩
def GoodI (B : Nat) (pre : List Ih) (x : Ih) (w : World) : Prop :=
  pre.length < 60 ∧ small x.1.1 ∧ OwnS w B x.2.1 x.2.2.1 x.2.2.2 x.1.2 ∧ ∀ y ∈ pre, y.2.1 ≠ x.2.1

set_option maxHeartbeats 1000000 in
theorem impl_itemsOf (a : Option Addr) (len cap : Nat) (i j : Int) (w : World) :
    Calls Tryd.prog 38 #[.slice a len cap, .int .i64 i, .int .i64 j] w fun e w' =>
      e = .returned (.func (.func 52) #[] #[.pointer (some ⟨w.heap.size + 1, 0, none⟩), .pointer (some ⟨w.heap.size + 2, 0, none⟩), .pointer (some ⟨w.heap.size, 0, none⟩)]) ∧
        w' = ((w.alloc (.cells #[.slice a len cap] 52)).alloc (.cells #[.int .i64 i] 3)).alloc (.cells #[.int .i64 j] 3) := by
  have hmf := makeFunc_run
  go_enter Tryd.func38, Tryd.ntmps38
  go_wp2_with fail
  go_ret
  exact ⟨rfl, rfl⟩

set_option maxRecDepth 100000 in
set_option maxHeartbeats 2000000 in
theorem items_hands (n fb b off cap p1 p2 p3 a z : Nat) (l : List Pr) (w0 w : World) (hn : 1 ≤ n) (h : SlP w0 (some ⟨b, off, none⟩) l.length l) (hcap : l.length ≤ cap) (hlim : ∀ p ∈ l, lim p) (hK : sha.KW w0) (h60 : l.length ≤ 60) (haz : z ≤ l.length)
    (hw0 : Below w0.heap.size w0 w) (hp1 : p1 < w.heap.size ∧ p1 ≠ fb) (hp2 : p2 < w.heap.size ∧ p2 ≠ fb) (hp3 : p3 < w.heap.size ∧ p3 ≠ fb)
    (c1 : w.cell? ⟨p1, 0, none⟩ = some (.int .i64 (a : Int))) (c2 : w.cell? ⟨p2, 0, none⟩ = some (.int .i64 (z : Int))) (c3 : w.cell? ⟨p3, 0, none⟩ = some (.slice (some ⟨b, off, none⟩) l.length cap)) :
    hands.Hands n Tryd.prog 52 #[.pointer (some ⟨p1, 0, none⟩), .pointer (some ⟨p2, 0, none⟩), .pointer (some ⟨p3, 0, none⟩)] (fun x : Ih => #[encI x]) (GoodI w.heap.size) (KeepF w0.heap.size w.heap.size fb) (fun xs => xs.map (·.1) = itemsTo l a z) w := by
  intro lp J W hbW hJ hY hJ0
  refine callsIn_of_wp Tryd.func52 rfl trivial ?_ rfl
  simp only [Tryd.ntmps52, List.size_toArray, List.length_cons, List.length_nil, Nat.reduceAdd, Nat.reduceSub, Array.replicate_succ, Array.replicate_zero, List.push_toArray, List.append_toArray, List.nil_append, List.cons_append]
  have d1 := (hbW.cell (p := ⟨p1, 0, none⟩) (by show p1 < _; omega)).trans c1
  have hsW := hbW.size
  have hs0 := hw0.size
  have hm : Tryd.prog.follows .mixedOrders = true := by kernel_rfl
  gi_wp2
  gi_loopw [5] (fun i wr => ∃ (k : Nat) (ys : List Ih), a ≤ k ∧ (k ≤ z ∨ k = a) ∧ i = .int .i64 (k : Int) ∧ ys.map (·.1) = itemsTo l a k ∧ (∀ y ∈ ys, y.2.1 < wr.heap.size) ∧ J ys wr ∧ KeepF w0.heap.size w.heap.size fb W wr) (fun i _ => z - (intOf i).toNat)
  case atStart => exact ⟨a, [], Nat.le_refl _, .inr rfl, rfl, by rw [itemsTo_nil l a a (Nat.le_refl _)]; rfl, (fun y hy => absurd hy List.not_mem_nil), hJ0, KeepF.refl _ _ _ _⟩
  case round =>
    obtain ⟨k, ys, hak, hkz, rfl, hys, hlt, hJk, hKk⟩ := hrel
    have cellK : ∀ (wx : World) (p : Nat) v, KeepF w0.heap.size w.heap.size fb W wx → p < w.heap.size ∧ p ≠ fb → w.cell? ⟨p, 0, none⟩ = some v → wx.cell? ⟨p, 0, none⟩ = some v := fun wx p v hx hp hc => by
      have h1 : W.cell? ⟨p, 0, none⟩ = some v := (hbW.cell (p := ⟨p, 0, none⟩) (by show p < _; omega)).trans hc
      exact (World.cell?_of_block (hx.block p hp.1 hp.2)).trans h1
    have e2 := cellK wr p2 _ hKk hp2 c2
    by_cases hkz' : k < z
    · have hkl : k < l.length := by omega
      have e3 := cellK wr p3 _ hKk hp3 c3
      have hb0 : Below w0.heap.size w0 wr := (hw0.trans (hbW.mono hs0)).trans hKk.bel
      have hsr := hKk.bel.size
      obtain ⟨q1, q2⟩ := (h.below hb0).cells k hkl
      have hkz2 : (k : Int) < (z : Int) := by omega
      have hki : (k : Int) < (l.length : Int) := by omega
      have hlen : ys.length = k - a := by
        have := congrArg List.length hys
        rw [List.length_map, itemsTo_length] at this; exact this
      have HP : Hid (Calls Tryd.prog 53 #[.slice (some ⟨b, off, none⟩) l.length cap, .int .i64 (k : Int)] wr.drew fun e w' =>
          ∃ g' n' cap', e = .returned (.slice (some ⟨g', 0, none⟩) n' cap') ∧ w'.cell? ⟨p3, 0, none⟩ = some (.slice (some ⟨b, off, none⟩) l.length cap) ∧ w'.cell? ⟨b, off + k * 2, none⟩ = some (.string l[k].1) ∧ w'.cell? ⟨b, off + k * 2 + 1, none⟩ = some (.string l[k].2) ∧
            YieldAt Fence.wide (n - 1) Tryd.prog lp #[.agg #[.string l[k].1, .string l[k].2, .slice (some ⟨g', 0, none⟩) n' cap']] w' fun e W' => e = .returned (.bool true) ∧ (∃ ys' : List Ih, ys'.map (·.1) = itemsTo l a (k + 1) ∧ (∀ y ∈ ys', y.2.1 < W'.heap.size) ∧ J ys' W') ∧ KeepF w0.heap.size w.heap.size fb W W') := by
        refine (impl_pathOf b off l.length cap l (k : Int) wr.drew (h.below hb0.drew) hcap hlim (by simp [Lit.wf, IntKind.min, IntKind.max, IntKind.signed, IntKind.bits]; omega) (hK.below hb0.drew)).mono ?_
        rintro e w' ⟨g', n', c', rfl, hO, hb1⟩
        have hb1' : Below wr.heap.size wr w' := (Below.refl _ _).drew.trans hb1
        have hKx : KeepF w0.heap.size w.heap.size fb wr w' := KeepF.of_below hb1' (by omega) (by have := hb0.size; omega)
        have hKW' := KeepF.trans _ _ _ hKk hKx
        have hbx := hb0.trans (hb1'.mono hb0.size)
        obtain ⟨r1, r2⟩ := (h.below hbx).cells k hkl
        have hPI : pathI l (k : Int) = path l k := by unfold pathI; rw [if_pos (by omega), Int.toNat_natCast]
        rw [hPI] at hO
        have hg' : wr.heap.size ≤ g' := hO.lt.1
        have hJx : J ys w' := hJ ys wr w' none hJk ⟨hb1'.os, hb1'.tape, hb1'.output, hb1'.size, fun i hi _ => hb1'.block i hi⟩ (fun r e => by cases e)
        have hsm := h.2.2.1 l[k] (List.getElem_mem hkl)
        have hit : itemAt l k = (l[k], path l k) := by unfold itemAt; rw [List.getElem?_eq_getElem hkl]; rfl
        have hy := hY ys ((l[k], path l k), (g', n', c')) w' hJx ⟨by omega, hsm, hO.mono (by show _ ≤ wr.heap.size; omega), fun y hy => by have := hlt y hy; show y.2.1 ≠ g'; omega⟩
        refine ⟨g', n', c', rfl, cellK w' p3 _ hKW' hp3 c3, r1, r2, hy.mono ?_⟩
        rintro e W' ⟨rfl, hJ', hK'⟩
        refine ⟨rfl, ⟨_, ?_, fun y hy => ?_, hJ'⟩, KeepF.trans _ _ _ hKW' hK'⟩
        · rw [List.map_append, hys, itemsTo_snoc l a k hak, hit]; rfl
        · have h1 := hK'.bel.size
          have h2 := hb1'.size
          rcases List.mem_append.1 hy with h3 | h3
          · have := hlt y h3; omega
          · rw [List.mem_singleton.1 h3]; have := hO.lt.2; show g' < _; omega
      clear hY hJk hKk hb0 hys hlt hlen cellK hJ hJ0 h hlim hK d1 hw0 hbW
      generalize l[k] = x at *
      gi_wp2
      gi_region_with_o (first | (refine ⟨trivial, ?_⟩; gi_at_call 53; refine (callsIn_wide.2 HP.out).mono ?_; rintro e w1 ⟨g', n', cp', rfl, r3, r1, r2, fn, tmps, assign, body, hy, hR⟩) | (refine hR.mono ?_; rintro e W3 ⟨rfl, ⟨ys', hy1, hy2, hJ3⟩, hk3⟩))
      all_goals
        gi_wp2
        go_roundw
        case rel => exact ⟨k + 1, ys', by omega, by omega, by go_num, hy1, hy2, hJ3, hk3⟩
        case measure => simp [intOf]; omega
    · have hzk : z ≤ k := by omega
      have hz : itemsTo l a k = itemsTo l a z := by
        rcases Nat.lt_or_ge z a with h1 | h1
        · rw [itemsTo_nil l a k (by omega), itemsTo_nil l a z (by omega)]
        · rw [show k = z by omega]
      have hkz2 : ¬ (k : Int) < (z : Int) := by omega
      gi_wp2
      go_end0
      exact ⟨⟨_, rfl⟩, ys, by rw [hys, hz], hJk⟩
end Go.Proofs.YteammdkipnfmnaaDoor.range

namespace Go.Proofs.YteammdkipnfmnaaDoor.range
open Go Go.RowKit Go.Shelf Go.Proofs.YteammdkipnfmnaaDoor.base Go.Proofs.YteammdkipnfmnaaDoor.pairs Go.Proofs.YteammdkipnfmnaaDoor.tree
set_option linter.unusedVariables false
set_option linter.unusedSimpArgs false
attribute [local go_sem] Oper.semAt_some

theorem V3.thawed {w : World} {g : Nat} {t : TypeId} {x y z : Value} (h : V3 w g t x y z) (o : Nat) : w.frozen? ⟨g, o, none⟩ = false := by simp [World.frozen?, show w.heap[g]? = _ from h]
theorem V3.put2 {w : World} {g : Nat} {t : TypeId} {x y z : Value} (h : V3 w g t x y z) (u : Value) : V3 (w.setCell ⟨g, 2, none⟩ u) g t x y u := by
  obtain ⟨hlt, hk⟩ := Array.getElem?_eq_some_iff.1 h
  show (w.heap.modify g _)[g]? = _
  rw [Array.getElem?_eq_getElem (by rw [Array.size_modify]; exact hlt), Array.getElem_modify_self, hk]
  rfl
theorem V3.put0 {w : World} {g : Nat} {t : TypeId} {x y z : Value} (h : V3 w g t x y z) (u : Value) : V3 (w.setCell ⟨g, 0, none⟩ u) g t u y z := by
  obtain ⟨hlt, hk⟩ := Array.getElem?_eq_some_iff.1 h
  show (w.heap.modify g _)[g]? = _
  rw [Array.getElem?_eq_getElem (by rw [Array.size_modify]; exact hlt), Array.getElem_modify_self, hk]
  rfl
theorem V3.put1 {w : World} {g : Nat} {t : TypeId} {x y z : Value} (h : V3 w g t x y z) (u : Value) : V3 (w.setCell ⟨g, 1, none⟩ u) g t x u z := by
  obtain ⟨hlt, hk⟩ := Array.getElem?_eq_some_iff.1 h
  show (w.heap.modify g _)[g]? = _
  rw [Array.getElem?_eq_getElem (by rw [Array.size_modify]; exact hlt), Array.getElem_modify_self, hk]
  rfl
theorem V3.beside {w : World} {g b o : Nat} {t : TypeId} {x y z : Value} (h : V3 w g t x y z) (u : Value) (hne : g ≠ b) : V3 (w.setCell ⟨b, o, none⟩ u) g t x y z := (Below.heap_setCell w ⟨b, o, none⟩ u g hne).trans h
theorem V3.of_block {w w' : World} {g : Nat} {t : TypeId} {x y z : Value} (h : V3 w g t x y z) (hk : w'.heap[g]? = w.heap[g]?) : V3 w' g t x y z := hk.trans h

/-! ### blocks of cells lie as they lay, whatever else is turned -/
theorem keep_cells {w w' : World} {row : Option Nat} {B k : Nat} {cs : Array Value} {t : TypeId} {f : Nat × Nat} (hk : w.heap[k]? = some (.cells cs t f)) (hg : w.grownBy w' row) (hr : ∀ r, row = some r → B ≤ r ∧ ∃ o : Obj, w.heap[r]? = some o ∧ o.isCells = false) : w'.heap[k]? = w.heap[k]? := by
  refine hg.block k (Array.getElem?_eq_some_iff.1 hk).1 (fun e => ?_)
  obtain ⟨_, o, ho, hc⟩ := hr k e.symm
  rw [hk] at ho; cases ho; cases hc
theorem row_cells {w : World} {base : Nat} {e : TypeId} {size : Nat} {v : Value} {n k : Nat} {xs : List Value} (h : w.ownsRow base e size v n xs) (hk : v.ownBlock = some k) : ∃ cs t f, w.heap[k]? = some (.cells cs t f) := by
  rcases h.2 with ⟨rfl, _⟩ | ⟨g, cap, cur, rfl, _, hg, _⟩
  · cases hk
  · cases hk; exact ⟨_, _, _, hg⟩
theorem OwnI.cellsAt {w : World} {base k : Nat} {v : Value} {l : List It} {hs : List Hd} (h : OwnI w base v l hs) (hk : Blk v hs k) : ∃ cs t f, w.heap[k]? = some (.cells cs t f) := by
  rcases hk with e | ⟨y, hy, rfl⟩
  · exact row_cells h.row e
  · obtain ⟨i, hi, rfl⟩ := List.getElem_of_mem hy
    exact row_cells (h.paths i (by have := h.len; omega)).2.2 rfl
theorem OwnI.turned {w w' : World} {base B : Nat} {v : Value} {l : List It} {hs : List Hd} {row : Option Nat} (h : OwnI w base v l hs) (hg : w.grownBy w' row) (hr : ∀ r, row = some r → B ≤ r ∧ ∃ o : Obj, w.heap[r]? = some o ∧ o.isCells = false) : OwnI w' base v l hs :=
  h.of_blocks (fun k hk => by obtain ⟨cs, t, f, hc⟩ := h.cellsAt hk; exact keep_cells hc hg hr)
theorem OwnI.push {w w7 : World} {base g5 n5 c5 : Nat} {v v7 : Value} {l : List It} {hs : List Hd} {p : Pr} {P : List ByteArray} (h : OwnI w base v l hs) (hP : OwnS w base g5 n5 c5 P) (hfr : ∀ y ∈ hs, y.1 ≠ g5) (hp : small p)
    (o : Obj) (hown : w7.ownsRow base 69 3 v7 (l.length + 1) (itVals l hs ++ [.string p.1, .string p.2, .slice (some ⟨g5, 0, none⟩) n5 c5])) (hgrow : (w.alloc o).grownBy w7 v.ownBlock) :
    OwnI w7 base v7 (l ++ [(p, P)]) (hs ++ [(g5, n5, c5)]) := by
  have hlen := h.len
  have keep : ∀ {g n c : Nat} {ss : List ByteArray}, OwnS w base g n c ss → some g ≠ v.ownBlock → OwnS w7 base g n c ss := fun hS hne => (ownS_of_block (w' := w.alloc o) hS (Below.heap_alloc w o _ hS.lt.2)).grown hgrow hne
  have hps : ∀ i (hi : i < (l ++ [(p, P)]).length), OwnS w7 base ((hs ++ [(g5, n5, c5)])[i]'(by simp at hi ⊢; omega)).1 ((hs ++ [(g5, n5, c5)])[i]'(by simp at hi ⊢; omega)).2.1 ((hs ++ [(g5, n5, c5)])[i]'(by simp at hi ⊢; omega)).2.2 (l ++ [(p, P)])[i].2 := by
    intro i hi
    by_cases e : i < l.length
    · rw [List.getElem_append_left e]
      simp only [List.getElem_append_left (show i < hs.length by omega)]
      refine keep (h.paths i e) (fun e2 => ?_)
      exact h.out _ e2.symm _ (List.getElem_mem _) rfl
    · have : i = l.length := by simp at hi; omega
      subst this
      rw [List.getElem_append_right (Nat.le_refl _)]
      simp only [List.getElem_append_right (show hs.length ≤ l.length by omega)]
      simp only [hlen, Nat.sub_self, List.getElem_cons_zero]
      exact keep hP (fun e2 => row_ne h.row hP.2.2 e2.symm rfl (by decide))
  refine ⟨by simp [hlen], fun x hx => ?_, ?_, hps, ?_, fun k hk y hy e => ?_⟩
  · rcases List.mem_append.1 hx with h1 | h1
    · exact h.sm x h1
    · rw [List.mem_singleton.1 h1]; exact ⟨hp, hP.2.1⟩
  · rw [itVals_snoc l hs hlen, List.length_append]; exact hown
  · rw [List.pairwise_append]
    refine ⟨h.apart, List.pairwise_singleton _ _, fun a ha y hy => ?_⟩
    rw [List.mem_singleton.1 hy]
    exact hfr a ha
  · obtain ⟨i, hi, rfl⟩ := List.getElem_of_mem hy
    have hS := hps i (by simp at hi ⊢; omega)
    exact row_ne hown hS.2.2 hk (by rw [← e]; rfl) (by decide)

/-! ### what a loop that gathers items keeps -/
def GatherI (w0 : World) (B fb : Nat) (N A : Int) (pre : List Ih) (W : World) : Prop :=
  V3 W w0.heap.size 50 (.int .i64 0) (.int .i64 0) (.slice none 0 0) ∧ Below w0.heap.size w0 W ∧ B ≤ W.heap.size ∧ ∃ v, V3 W fb 50 (.int .i64 N) (.int .i64 A) v ∧ OwnI W B v (pre.map (·.1)) (pre.map (·.2))
theorem gatherI_own {w0 : World} {B fb : Nat} {N A : Int} (hB : w0.heap.size ≤ B) : OwnFrom B (GatherI w0 B fb N A) := by
  rintro pre X Y row ⟨h1, h2, h3, v, h4, h5⟩ hg hr
  exact ⟨h1.of_block (keep_cells h1 hg hr), h2.grown hg h2.size (fun k e => Nat.le_trans hB (hr k e).1), Nat.le_trans h3 hg.size, v, h4.of_block (keep_cells h4 hg hr), h5.turned hg hr⟩
theorem gatherI_alloc {w0 W : World} {B fb : Nat} {N A : Int} {pre : List Ih} (hB : w0.heap.size ≤ B) (h : GatherI w0 B fb N A pre W) (o : Obj) : GatherI w0 B fb N A pre (W.alloc o) := (gatherI_own hB).alloc o h
def BoxI (B : Nat) (tm : Nat → Ih → Array Value) (pre : List Ih) (x : Ih) (a : Act) (W : World) : Prop :=
  ∃ Bx, V3 W Bx 69 (.string x.1.1.1) (.string x.1.1.2) (.slice (some ⟨x.2.1, 0, none⟩) x.2.2.1 x.2.2.2) ∧ a = { tmps := tm Bx x, defers := [] } ∧ GoodI B pre x W
theorem boxI_own {B : Nat} {tm : Nat → Ih → Array Value} (pre : List Ih) (x : Ih) (a : Act) : OwnFrom B (fun (_ : Unit) W => BoxI B tm pre x a W) := by
  rintro _ X Y row ⟨Bx, h1, h2, h3, h4, h5, h6⟩ hg hr
  refine ⟨Bx, h1.of_block (keep_cells h1 hg hr), h2, h3, h4, ?_, h6⟩
  obtain ⟨cs, t, f, hc⟩ := row_cells h5.2.2 rfl
  exact ownS_of_block h5 (keep_cells hc hg hr)

set_option maxRecDepth 100000 in
set_option maxHeartbeats 1000000 in
theorem impl_proveNo (b off cap : Nat) (l : List Pr) (lo hi : ByteArray) (w : World) (h : SlP w (some ⟨b, off, none⟩) l.length l) (hks : ∀ p ∈ l, p.1.size ≤ 1099511627776) (hok : pairsOk l = false) :
    Calls Tryd.prog 22 #[.slice (some ⟨b, off, none⟩) l.length cap, .string lo, .string hi] w (PPost w (prove l lo hi)) := by
  obtain ⟨W, hW⟩ : ∃ W, W = w.alloc (.cells #[.int .i64 0, .int .i64 0, .slice none 0 0] 50) := ⟨_, rfl⟩
  have hB : Below w.heap.size w W := by rw [hW]; exact (Below.refl _ _).alloc (Nat.le_refl _) _
  have hV : V3 W w.heap.size 50 (.int .i64 0) (.int .i64 0) (.slice none 0 0) := by rw [hW]; exact heap_alloc_new w _
  have hp := impl_pairsOk b off l.length cap l W (h.below hB) hks
  rw [hok] at hp
  have HP := Hid.mk' hp
  have HW := Hid.mk' hW
  have hz : prove l lo hi = zeroPrf := by unfold prove; rw [if_neg (by rw [hok]; simp)]
  rw [hz]
  clear hp hW h hks hok hz
  go_enter Tryd.func22, Tryd.ntmps22
  go_wp2_with fail
  rw [← HW.out]
  refine HP.out.mono ?_
  rintro e w1 ⟨rfl, hb1⟩
  have hB1 := hB.trans (hb1.mono hB.size)
  have V1 := hV.below hb1
  have a0 := V1.c0
  have a1 := V1.c1
  have a2 := V1.c2
  have z0 := V1.thawed 0
  have z1 := V1.thawed 1
  have z2 := V1.thawed 2
  clear HW HP
  have hBz := ((hB1.setCell (p := ⟨w.heap.size, 0, none⟩) (Nat.le_refl _) (.int .i64 0)).setCell (p := ⟨w.heap.size, 1, none⟩) (Nat.le_refl _) (.int .i64 0)).setCell (p := ⟨w.heap.size, 2, none⟩) (Nat.le_refl _) (.slice none 0 0)
  go_wp2_with fail
  refine bodyPost_ret (v := .agg #[.int .i64 0, .int .i64 0, .slice none 0 0]) ?h1 rfl ⟨none, 0, 0, [], rfl, ownI_nil _ _, hBz⟩
  simp [results, Tryd.results22, go_sem, a0, a1, a2]

set_option maxRecDepth 100000 in
set_option maxHeartbeats 2000000 in
theorem impl_proveYes (b off cap : Nat) (l : List Pr) (lo hi : ByteArray) (w : World) (h : SlP w (some ⟨b, off, none⟩) l.length l) (hcap : l.length ≤ cap) (hks : ∀ p ∈ l, lim p) (hK : sha.KW w) (hok : pairsOk l = true) :
    Calls Tryd.prog 22 #[.slice (some ⟨b, off, none⟩) l.length cap, .string lo, .string hi] w (PPost w (prove l lo hi)) := by
  obtain ⟨⟨_, hri⟩, h60⟩ := (pairsOk_iff l).1 hok
  obtain ⟨W, hW⟩ : ∃ W, W = w.alloc (.cells #[.int .i64 0, .int .i64 0, .slice none 0 0] 50) := ⟨_, rfl⟩
  have hB : Below w.heap.size w W := by rw [hW]; exact (Below.refl _ _).alloc (Nat.le_refl _) _
  have hV : V3 W w.heap.size 50 (.int .i64 0) (.int .i64 0) (.slice none 0 0) := by rw [hW]; exact heap_alloc_new w _
  have hp := impl_pairsOk b off l.length cap l W (h.below hB) (fun p hp => by have := (hks p hp).1; omega)
  rw [hok] at hp
  have HP := Hid.mk' hp
  have HS : Hid (∀ wx, Below w.heap.size w wx → Calls Tryd.prog 37 #[.slice (some ⟨b, off, none⟩) l.length cap, .string lo, .string hi] wx fun e w' =>
      e = .returned (.tuple #[.int .i64 (fromN lo l : Int), .int .i64 (toN lo hi l : Int)]) ∧ Below wx.heap.size wx w') := fun wx hx => impl_stretchOf b off cap l lo hi wx (h.below hx) hcap hri h60
  have HW := Hid.mk' hW
  have hft : fromN lo l ≤ 60 ∧ toN lo hi l ≤ l.length := ⟨by have := lowN_le lo l; unfold fromN; omega, toN_le lo hi l⟩
  have HZ : Hid (prove l lo hi = ⟨(l.length : Int), (fromN lo l : Int), itemsTo l (fromN lo l) (toN lo hi l)⟩) := by
    show _ = _
    unfold prove
    rw [if_pos hok]
    congr 1
    split
    · rfl
    · rename_i hn
      have h1 : l.length = 0 := by
        have := segN_le lo hi l
        unfold fromN toN at hn
        split at hn <;> omega
      have : fromN lo l = 0 := by have := lowN_le lo l; unfold fromN; omega
      rw [this]; rfl
  obtain ⟨A, hA⟩ : ∃ A, fromN lo l = A := ⟨_, rfl⟩
  obtain ⟨Z, hZ⟩ : ∃ Z, toN lo hi l = Z := ⟨_, rfl⟩
  simp only [hA, hZ] at HS HZ hft
  rw [HZ.out]
  clear hp hW hok hA hZ HZ
  refine (callsIn_wide (n := 6)).1 (callsIn_of_wp_marks Tryd.func22 rfl trivial ?_ rfl)
  simp only [Tryd.ntmps22, List.size_toArray, List.length_cons, List.length_nil, Nat.reduceAdd, Nat.reduceSub, Array.replicate_succ, Array.replicate_zero, List.push_toArray, List.append_toArray, List.nil_append, List.cons_append]
  refine wpIn_wide.2 ?_
  go_wp2_with fail
  rw [← HW.out]
  refine HP.out.mono ?_
  rintro e w1 ⟨rfl, hb1⟩
  have hB1 := hB.trans (hb1.mono hB.size)
  have V1 := hV.below hb1
  go_wp2_with fail
  refine (HS.out _ hB1).mono ?_
  rintro e w2 ⟨rfl, hb2⟩
  have hB2 := hB1.trans (hb2.mono hB1.size)
  have V2 := V1.below hb2
  go_wp2_with (at_builtin; fail)
  refine (impl_itemsOf _ _ _ _ _ _).mono ?_
  rintro e w3 ⟨rfl, hw3⟩
  obtain ⟨V, hV'⟩ : ∃ V, V = w2.alloc (.cells #[.int .i64 (l.length : Int), .int .i64 (A : Int), .slice none 0 0] 50) := ⟨_, rfl⟩
  rw [← hV'] at hw3 ⊢
  have hVs : V.heap.size = w2.heap.size + 1 := by rw [hV', World.size_alloc]
  have hw3s : w3.heap.size = w2.heap.size + 4 := by rw [hw3]; simp only [World.size_alloc]; omega
  have hb3 : Below V.heap.size V w3 := by rw [hw3]; exact (((Below.refl _ V).alloc (Nat.le_refl _) _).alloc (by simp) _).alloc (by simp; omega) _
  have hbV : Below w2.heap.size w2 V := by rw [hV']; exact (Below.refl _ _).alloc (Nat.le_refl _) _
  have hb23 : Below w2.heap.size w2 w3 := hbV.trans (hb3.mono (by omega))
  have hB3 : Below w.heap.size w w3 := hB2.trans (hb23.mono hB2.size)
  have V3r := V2.below hb23
  have V3f : V3 w3 w2.heap.size 50 (.int .i64 (l.length : Int)) (.int .i64 (A : Int)) (.slice none 0 0) := by
    have h1 : V3 V w2.heap.size 50 (.int .i64 (l.length : Int)) (.int .i64 (A : Int)) (.slice none 0 0) := by rw [hV']; exact heap_alloc_new w2 _
    exact h1.below hb3
  have e3 : w3.cell? ⟨V.heap.size, 0, none⟩ = some (.slice (some ⟨b, off, none⟩) l.length cap) := by rw [hw3]; simp [go_sem]
  have e1 : w3.cell? ⟨V.heap.size + 1, 0, none⟩ = some (.int .i64 (A : Int)) := by rw [hw3]; simp [go_sem]
  have e2 : w3.cell? ⟨V.heap.size + 2, 0, none⟩ = some (.int .i64 (Z : Int)) := by rw [hw3]; simp [go_sem]
  have hs2 := hB2.size
  have hH := items_hands 5 w2.heap.size b off cap (V.heap.size + 1) (V.heap.size + 2) V.heap.size A Z l w w3 (by omega) h hcap hks hK h60 hft.2 hB3 (by omega) (by omega) (by omega) e1 e2 e3
  clear HS HP HW hb1 hb2 hB1 V1 hV hB hb3 hbV hb23 hw3 e1 e2 e3
  rw [hVs] at hH ⊢
  clear hV' hVs V
  have hfb : w2.heap.size < w3.heap.size := by omega
  have hlt2 : w.heap.size < w2.heap.size := V2.lt
  clear hw3s
  go_wp2_with fail
  refine wpIn_wide.1 (hands.wpIn_hands (n := 6) rfl (enters_of Tryd.func52 (by kernel_rfl) rfl) hH KeepF.trans ?kb (fun _ => rfl) (GatherI w w3.heap.size w2.heap.size (l.length : Int) (A : Int)) (gatherI_own (by omega)) ?start (BoxI w3.heap.size (fun Bx x => #[.slice (some ⟨b, off, none⟩) l.length cap, .string lo, .string hi, undef, undef, undef, .pointer (some ⟨w.heap.size, 0, none⟩), .int .i64 (A : Int), .int .i64 (Z : Int), .pointer (some ⟨w2.heap.size, 0, none⟩), .pointer (some ⟨Bx, 0, none⟩), .slice (some ⟨b, off, none⟩) l.length cap, .bool true, .bool false, undef, .tuple #[.int .i64 (A : Int), .int .i64 (Z : Int)], .slice (some ⟨b, off, none⟩) l.length cap, .string lo, .string hi, .tuple #[.int .i64 (A : Int), .int .i64 (Z : Int)], .int .i64 (A : Int), .int .i64 (Z : Int), .slice (some ⟨b, off, none⟩) l.length cap, .int .i64 (l.length : Int), .int .i64 (A : Int), .agg #[.int .i64 (l.length : Int), .int .i64 (A : Int), .slice none 0 0], .slice (some ⟨b, off, none⟩) l.length cap, .int .i64 (A : Int), .int .i64 (Z : Int), .func (.func 52) #[] #[.pointer (some ⟨w2.heap.size + 1 + 1, 0, none⟩), .pointer (some ⟨w2.heap.size + 1 + 2, 0, none⟩), .pointer (some ⟨w2.heap.size + 1, 0, none⟩)], .agg #[.string x.1.1.1, .string x.1.1.2, .slice (some ⟨x.2.1, 0, none⟩) x.2.2.1 x.2.2.2], undef, undef, undef, undef, undef, undef, undef])) boxI_own ?assign ?body ?done)
  case kb =>
    intro W lp o o' hle ho hc
    exact ⟨(Below.refl _ W).grown (grownBy_putObj' W lp o') (by have := (Array.getElem?_eq_some_iff.1 ho).1; omega) (fun k e => by cases e; omega), fun k hk _ => World.putObj_heap_other (by omega)⟩
  case start => exact ⟨V3r, hB3, Nat.le_refl _, _, V3f, ownI_nil _ _⟩
  case assign =>
    rintro lp pre ⟨⟨⟨ky, vl⟩, P⟩, g5, n5, c5⟩ W K hi hG hK
    dsimp only [encI]
    obtain ⟨hi1, hi2, hi3, hi4⟩ := hi
    have hbA : ∀ o, Below W.heap.size W (W.alloc o) := fun o => (Below.refl _ W).alloc (Nat.le_refl _) o
    have HK := Hid.mk' hK
    clear hK
    gi_wp2
    refine HK.out _ _ ((KeepsOthers.alloc W _).from _) (KeepF.of_below (hbA _) hi3 hi2.size) (gatherI_alloc (by omega) ⟨hi1, hi2, hi3, hi4⟩ _) ⟨W.heap.size, heap_alloc_new W _, rfl, hG.1, hG.2.1, hG.2.2.1.below (hbA _), hG.2.2.2⟩
  case body =>
    rintro lp pre ⟨⟨⟨ky, vl⟩, P⟩, g5, n5, c5⟩ a' W ⟨hi1, hi2, hi3, v, hF, hO⟩ ⟨Bx, hX, rfl, hlen, hsm, hP, hfr⟩
    dsimp only at hX hsm hP hfr ⊢
    have f0 := hF.c2
    have f1 := hF.thawed 2
    have x0 := hX.c0
    have x1 := hX.c1
    have x2 := hX.c2
    have hc3 : (pre.map (·.1)).length + 1 ≤ maxLen := by unfold maxLen; rw [List.length_map]; omega
    have hc4 : ((pre.map (·.1)).length + 1) * 56 ≤ 140737488355328 := by rw [List.length_map]; omega
    obtain ⟨i0, hif, hz0, hz1, hz2⟩ := info_parts infoI
    gi_wp2_with (gi_at_builtin; refine wpListIn_append_own _ rfl (.tmp 32) (.tmp 34) 48 rfl w3.heap.size 69 i0 (.agg #[.string ⟨#[]⟩, .string ⟨#[]⟩, .slice none 0 0]) 3 56 Tryd.underlying48 hif hz0 hz1 hz2 rfl (by decide) _ _ _ rfl (hO.row.alloc _) ⟨W.heap.size, 0, none⟩ 1 1 [.string ky, .string vl, .slice (some ⟨g5, 0, none⟩) n5 c5] rfl rfl (cells_three _ _ _ _ _) (three_oneCell _ _ _ _ _) hc3 hc4 (le_alloc _ _ hi3) ?_)
    intro v7 w7 hown hgrow hnn
    have hown' : w7.ownsRow w3.heap.size 69 3 v7 ((pre.map (·.1)).length + 1) (itVals (pre.map (·.1)) (pre.map (·.2)) ++ [.string ky, .string vl, .slice (some ⟨g5, 0, none⟩) n5 c5]) := by rw [List.length_map]; exact hown
    have hO7 := hO.push (P := P) (p := (ky, vl)) hP (fun y hy => by obtain ⟨z, hz, rfl⟩ := List.mem_map.1 hy; exact hfr z hz) hsm _ hown' hgrow
    obtain ⟨g7, cap7, hv7⟩ := row_shape hown' hnn
    subst hv7
    have hba : ∀ o, Below W.heap.size W (W.alloc o) := fun o => (Below.refl _ W).alloc (Nat.le_refl _) o
    have hrow : ∀ k, v.ownBlock = some k → w3.heap.size ≤ k := fun k e => (hO.row.lt k e).1
    have keep : ∀ k, k < W.heap.size → v.ownBlock ≠ some k → w7.heap[k]? = W.heap[k]? := fun k hk hn => (hgrow.block k (by simp; omega) (fun e => hn e.symm)).trans (Below.heap_alloc W _ k hk)
    have F7 : V3 w7 w2.heap.size 50 (.int .i64 (l.length : Int)) (.int .i64 (A : Int)) v := hF.of_block (keep _ hF.lt (fun e => by have := hrow _ e; omega))
    have R7 : V3 w7 w.heap.size 50 (.int .i64 0) (.int .i64 0) (.slice none 0 0) := hi1.of_block (keep _ hi1.lt (fun e => by have := hrow _ e; omega))
    have hW7 : Below w.heap.size W w7 := ((hba _).mono hi2.size).grown hgrow (by have := hi2.size; simp; omega) (fun k e => by have := hrow k e; omega)
    have hKO : KeepsOthers W w7 := (KeepsOthers.alloc W _).trans (KeepsOthers.of_grownBy hgrow fun j o ej hj => by
      obtain ⟨cs, t, f, hc⟩ := row_cells (hO.row.alloc _) ej
      rw [hc] at hj; cases hj; rfl)
    have f7 := F7.c2
    have z7 := F7.thawed 2
    have hs7 := hW7.size
    rw [List.length_map] at hO7
    clear hown hown' hgrow hnn f0 f1 x0 x1 x2
    have HO7 := Hid.mk' hO7
    have HF7 := Hid.mk' F7
    have HR7 := Hid.mk' R7
    have HKO := Hid.mk' hKO
    have HKP := Hid.mk' keep
    clear hO7 F7 R7 hKO keep hF hi1 hO hX hP
    gi_wp2
    refine ⟨rfl, (HKO.out.trans (KeepsOthers.setCell _ _ _)).from _, ⟨hW7.setCell (p := ⟨w2.heap.size, 2, none⟩) hs2 _, fun k hk hn => ?_⟩, ?_⟩
    · rw [Below.heap_setCell _ ⟨w2.heap.size, 2, none⟩ _ k hn]
      exact HKP.out k (by omega) (fun e => by have := hrow k e; omega)
    · refine ⟨HR7.out.beside _ (by omega), (hi2.trans hW7).setCell (p := ⟨w2.heap.size, 2, none⟩) hs2 _, ?_, _, HF7.out.put2 _, ?_⟩
      · exact Nat.le_trans (by omega : w3.heap.size ≤ w7.heap.size) (KeepsOthers.setCell _ _ _).size
      · rw [List.map_append, List.map_append]
        exact HO7.out.of_blocks (fun k hk => Below.heap_setCell _ ⟨w2.heap.size, 2, none⟩ _ k (by have := (HO7.out.lt k hk).1; show k ≠ w2.heap.size; omega))
  case done =>
    rintro D xs W hD hS ⟨hi1, hi2, hi3, v, hF, hO⟩ hKD
    have a0 := hi1.c0
    have a1 := hi1.c1
    have a2 := hi1.c2
    have z0 := hi1.thawed 0
    have z1 := hi1.thawed 1
    have z2 := hi1.thawed 2
    have d0 := hF.c0
    have d1 := hF.c1
    have d2 := hF.c2
    obtain ⟨sa, sm, sc, hv⟩ : ∃ sa sm sc, v = .slice sa sm sc := by
      rcases hO.shape with ⟨rfl, _, _⟩ | ⟨g, cg, rfl, _, _⟩
      · exact ⟨_, _, _, rfl⟩
      · exact ⟨_, _, _, rfl⟩
    subst hv
    have HO := Hid.mk' hO
    have HKD := Hid.mk' hKD
    clear hO hKD hH hF
    obtain ⟨W9, hW9⟩ : ∃ W9, W9 = ((W.setCell ⟨w.heap.size, 0, none⟩ (.int .i64 (l.length : Int))).setCell ⟨w.heap.size, 1, none⟩ (.int .i64 (A : Int))).setCell ⟨w.heap.size, 2, none⟩ (.slice sa sm sc) := ⟨_, rfl⟩
    have hR9 : V3 W9 w.heap.size 50 (.int .i64 (l.length : Int)) (.int .i64 (A : Int)) (.slice sa sm sc) := by rw [hW9]; exact ((hi1.put0 _).put1 _).put2 _
    have hB9 : Below w.heap.size w W9 := by rw [hW9]; exact ((hi2.setCell (p := ⟨w.heap.size, 0, none⟩) (Nat.le_refl _) _).setCell (p := ⟨w.heap.size, 1, none⟩) (Nat.le_refl _) _).setCell (p := ⟨w.heap.size, 2, none⟩) (Nat.le_refl _) _
    have hK9 : KeepsOthers W W9 := by rw [hW9]; exact ((KeepsOthers.setCell _ _ _).trans (KeepsOthers.setCell _ _ _)).trans (KeepsOthers.setCell _ _ _)
    have hO9 : OwnI W9 w3.heap.size (.slice sa sm sc) (xs.map (·.1)) (xs.map (·.2)) := HO.out.of_blocks (fun k hk => by
      have hk1 := (HO.out.lt k hk).1
      have hkn : k ≠ w.heap.size := by omega
      rw [hW9, Below.heap_setCell _ ⟨w.heap.size, 2, none⟩ _ k hkn, Below.heap_setCell _ ⟨w.heap.size, 1, none⟩ _ k hkn, Below.heap_setCell _ ⟨w.heap.size, 0, none⟩ _ k hkn])
    have hD9 := hK9.same D _ HKD.out rfl
    have hDlt := (Array.getElem?_eq_some_iff.1 hD9).1
    have HE : Hid (bodyPostM Fence.wide 6 Tryd.prog Tryd.f22 (PPost w ⟨(l.length : Int), (A : Int), itemsTo l A Z⟩) .ret
        { tmps := #[.slice (some ⟨b, off, none⟩) l.length cap, .string lo, .string hi, undef, undef, undef, .pointer (some ⟨w.heap.size, 0, none⟩), .int .i64 (A : Int), .int .i64 (Z : Int), .pointer (some ⟨w2.heap.size, 0, none⟩), undef, .slice (some ⟨b, off, none⟩) l.length cap, .bool true, .bool false, undef, .tuple #[.int .i64 (A : Int), .int .i64 (Z : Int)], .slice (some ⟨b, off, none⟩) l.length cap, .string lo, .string hi, .tuple #[.int .i64 (A : Int), .int .i64 (Z : Int)], .int .i64 (A : Int), .int .i64 (Z : Int), .slice (some ⟨b, off, none⟩) l.length cap, .int .i64 (l.length : Int), .int .i64 (A : Int), .agg #[.int .i64 (l.length : Int), .int .i64 (A : Int), .slice none 0 0], .slice (some ⟨b, off, none⟩) l.length cap, .int .i64 (A : Int), .int .i64 (Z : Int), .func (.func 52) #[] #[.pointer (some ⟨w2.heap.size + 1 + 1, 0, none⟩), .pointer (some ⟨w2.heap.size + 1 + 2, 0, none⟩), .pointer (some ⟨w2.heap.size + 1, 0, none⟩)], undef, undef, undef, undef, undef, undef, undef, .agg #[.int .i64 (l.length : Int), .int .i64 (A : Int), .slice sa sm sc]], defers := [{ target := .collected D, args := #[] }] } W9) := by
      refine ⟨by simp, .inl ⟨D, _, rfl, run_takeDeferred hD9, ?_⟩⟩
      have hR10 : V3 (W9.putObj D (.deferred none)) w.heap.size 50 (.int .i64 (l.length : Int)) (.int .i64 (A : Int)) (.slice sa sm sc) := hR9.of_block (World.putObj_heap_other (by omega))
      refine ⟨_, results_cell_row (p := 6) (ty := 50) rfl _ _ w.heap.size _ _ _ _ rfl hR10 Tryd.underlying50 rfl (by kernel_rfl), sa, sm, sc, xs.map (·.2), rfl, ?_, ?_⟩
      · rw [← hS]
        refine (hO9.mono (by omega)).turned (B := 0) (grownBy_putObj' W9 D (.deferred none)) (fun r e => ?_)
        cases e; exact ⟨Nat.zero_le _, _, hD9, rfl⟩
      · exact hB9.grown (grownBy_putObj' W9 D (.deferred none)) hB9.size (fun k e => by cases e; omega)
    have HW9 := Hid.mk' hW9
    clear hW9 hR9 hB9 hK9 hO9 hD9 hDlt HO HKD
    go_wp2_with fail
    rw [← HW9.out]
    exact HE.out

set_option maxHeartbeats 1000000 in
theorem impl_proveBetween (b off len cap : Nat) (l : List Pr) (lo hi : ByteArray) (w : World) (h : SlP w (some ⟨b, off, none⟩) len l) (hcap : len ≤ cap) (hks : ∀ p ∈ l, lim p) (hlo : lo.size ≤ 1048576) (hhi : hi.size ≤ 1048576) (hK : sha.KW w) :
    Calls Tryd.prog 22 #[.slice (some ⟨b, off, none⟩) len cap, .string lo, .string hi] w fun e w' =>
      ∃ a m c hs, e = .returned (.agg #[.int .i64 (prove l lo hi).n, .int .i64 (prove l lo hi).fr, .slice a m c]) ∧ OwnI w' w.heap.size (.slice a m c) (prove l lo hi).items hs ∧ Below w.heap.size w w' := by
  have hl := h.1
  subst hl
  cases hok : pairsOk l with
  | true => exact impl_proveYes b off cap l lo hi w h hcap hks hK hok
  | false => exact impl_proveNo b off cap l lo hi w h (fun p hp => by have := (hks p hp).1; omega) hok
end Go.Proofs.YteammdkipnfmnaaDoor.range
