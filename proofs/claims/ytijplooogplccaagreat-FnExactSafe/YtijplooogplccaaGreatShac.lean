/- CoLay PairS PairT PairU -/
import Derived.Test.YtijplooogplccaaGreatShaa
import Derived.Test.YtijplooogplccaaGreatShab
import Derived.Deep.RegionHeld3
set_option linter.unusedVariables false
set_option linter.unusedSimpArgs false
namespace Go.Proofs.YtijplooogplccaaGreat
namespace cos
open Go Go.RowKit base pairs ords lay wds
/-! ### types without slices -/
structure Flat {α : Type} (R : Rd α) (enc : α → List Value) (ok : α → Prop) : Prop where
 own : ∀ {w vs x F}, R.own w vs x F ↔ vs = enc x ∧ ok x ∧ F = []
 see : ∀ {w vs x}, R.see w vs x ↔ vs = enc x ∧ ok x
theorem flat_int : Flat int (fun x => [.int .i64 x]) (fun x => (Lit.int .i64 x).wf = true) :=
 ⟨fun {_ _ _ _} => ⟨fun h => ⟨h.1.1, h.1.2, h.2⟩, fun h => ⟨⟨h.1, h.2.1⟩, h.2.2⟩⟩, fun {_ _ _} => Iff.rfl⟩
theorem flat_bool : Flat bool (fun x => [.bool x]) (fun _ => True) :=
 ⟨fun {_ _ _ _} => ⟨fun h => ⟨h.1, trivial, h.2⟩, fun h => ⟨h.1, h.2.2⟩⟩, fun {_ _ _} => ⟨fun h => ⟨h, trivial⟩, fun h => h.1⟩⟩
theorem flat_str : Flat str (fun x => [.string x]) (fun x => x.size ≤ maxLen) :=
 ⟨fun {_ _ _ _} => ⟨fun h => ⟨h.1.1, h.1.2, h.2⟩, fun h => ⟨⟨h.1, h.2.1⟩, h.2.2⟩⟩, fun {_ _ _} => Iff.rfl⟩
theorem flat_both {α β : Type} {R : Rd α} {S : Rd β} {e1 : α → List Value} {e2 : β → List Value} {o1 : α → Prop} {o2 : β → Prop} (h1 : Flat R e1 o1) (h2 : Flat S e2 o2) : Flat (both R S) (fun x => e1 x.1 ++ e2 x.2) (fun x => o1 x.1 ∧ o2 x.2) := by
 constructor
 · intro w vs x F
   constructor
   · rintro ⟨us, ts, F1, F2, rfl, rfl, h3, h4, _⟩
     obtain ⟨rfl, k1, rfl⟩ := h1.own.1 h3
     obtain ⟨rfl, k2, rfl⟩ := h2.own.1 h4
     exact ⟨rfl, ⟨k1, k2⟩, rfl⟩
   · rintro ⟨rfl, ⟨k1, k2⟩, rfl⟩
     exact ⟨_, _, [], [], rfl, rfl, h1.own.2 ⟨rfl, k1, rfl⟩, h2.own.2 ⟨rfl, k2, rfl⟩, List.nodup_nil⟩
 · intro w vs x
   constructor
   · rintro ⟨us, ts, rfl, h3, h4⟩
     obtain ⟨rfl, k1⟩ := h1.see.1 h3
     obtain ⟨rfl, k2⟩ := h2.see.1 h4
     exact ⟨rfl, k1, k2⟩
   · rintro ⟨rfl, k1, k2⟩
     exact ⟨_, _, rfl, h1.see.2 ⟨rfl, k1⟩, h2.see.2 ⟨rfl, k2⟩⟩
section
variable {α : Type} {R : Rd α} {enc : α → List Value} {ok : α → Prop} {ty : TypeId} {w : World} {v : Value} {l : List α} {q : Parts} {F : List Nat}
theorem Flat.parts (hR : Flat R enc ok) (h : OwnG ty R w v l q) : q = l.map (fun x => (enc x, [])) ∧ (∀ x ∈ l, ok x) ∧ blocksOf q = [] ∧ cellsOf q = l.flatMap enc := by
 have hl := h.len
 have e : q = l.map (fun x => (enc x, [])) := by
  refine List.ext_getElem (by simp [hl]) fun i h1 h2 => ?_
  have h3 := hR.own.1 (h.each i (by omega))
  rw [List.getElem_map]
  exact Prod.ext h3.1 h3.2.2
 refine ⟨e, fun x hx => ?_, ?_, ?_⟩
 · obtain ⟨i, hi, rfl⟩ := List.getElem_of_mem hx
   exact (hR.own.1 (h.each i hi)).2.1
 · rw [e]; unfold blocksOf; rw [List.flatMap_map]; simp
 · rw [e]; unfold cellsOf; rw [List.flatMap_map]
theorem Flat.row (hR : Flat R enc ok) (h : OwnG ty R w v l q) : w.ownsRow 0 ty R.size v l.length (l.flatMap enc) := by
 rw [← (hR.parts h).2.2.2]; exact h.row
theorem Flat.made (hR : Flat R enc ok) (hr : w.ownsRow 0 ty R.size v l.length (l.flatMap enc)) (hok : ∀ x ∈ l, ok x) : OwnG ty R w v l (l.map (fun x => (enc x, []))) := by
 have e1 : cellsOf (l.map (fun x => (enc x, ([] : List Nat)))) = l.flatMap enc := by unfold cellsOf; rw [List.flatMap_map]
 have e2 : blocksOf (l.map (fun x => (enc x, ([] : List Nat)))) = [] := by unfold blocksOf; rw [List.flatMap_map]; simp
 refine ⟨by simp, by rw [e1]; exact hr, fun i hi => ?_, by rw [e2]; cases v.ownBlock <;> simp⟩
 simp only [List.getElem_map]
 exact hR.own.2 ⟨rfl, hok _ (List.getElem_mem _), rfl⟩
theorem Flat.slice (hR : Flat R enc ok) : (lay.slice ty R).own w [v] l F ↔ w.ownsRow 0 ty R.size v l.length (l.flatMap enc) ∧ (∀ x ∈ l, ok x) ∧ F = v.ownBlock.toList := by
 constructor
 · rintro ⟨v', q, e, rfl, h⟩
   cases e
   exact ⟨hR.row h, (hR.parts h).2.1, by rw [(hR.parts h).2.2.1, List.append_nil]⟩
 · rintro ⟨h1, h2, rfl⟩
   have h3 := hR.made h1 h2
   exact ⟨v, _, rfl, by rw [(hR.parts h3).2.2.1, List.append_nil], h3⟩
end
/-! ### pairs, orders, whole numbers -/
def opR : Rd Od := both int (both str str)
theorem flat_op : Flat opR (fun o => [.int .i64 o.1, .string o.2.1, .string o.2.2]) smallO := flat_both flat_int (flat_both flat_str flat_str)
def opsR : Rd (List Od) := slice 126 opR
def intsR : Rd (List Int) := slice 3 int
section
variable {w w' : World} {a : Option Addr} {n cap : Nat} {F : List Nat} {v : Value}
theorem ops_own {l : List Od} : opsR.own w [v] l F ↔ OwnV w 0 v l ∧ F = v.ownBlock.toList := by
 unfold opsR
 rw [flat_op.slice]
 constructor
 · rintro ⟨h1, h2, h3⟩
   exact ⟨⟨h2, h1⟩, h3⟩
 · rintro ⟨⟨h1, h2⟩, h4⟩
   exact ⟨h2, h1, h4⟩
theorem ops_see {l : List Od} : opsR.see w [.slice a n cap] l ↔ SlO w a n l ∧ n ≤ cap := by
 constructor
 · rintro ⟨a', n', c', e, hc, h1, h2, h3, h4⟩
   cases e
   refine ⟨⟨h1, h2, fun p hp => ?_, fun h0 => ?_⟩, hc⟩
   · obtain ⟨vs, hv⟩ := h3 p hp
     exact (flat_op.see.1 hv).2
   · obtain ⟨b, off, e, hi⟩ := h4 h0
     refine ⟨b, off, e, fun i hl => ?_⟩
     obtain ⟨vs, hs, hcl⟩ := hi i hl
     obtain ⟨rfl, _⟩ := flat_op.see.1 hs
     exact ⟨hcl 0 _ rfl, hcl 1 _ rfl, hcl 2 _ rfl⟩
 · rintro ⟨⟨h1, h2, h3, h4⟩, hc⟩
   refine ⟨a, n, cap, rfl, hc, h1, h2, fun p hp => ⟨_, flat_op.see.2 ⟨rfl, h3 p hp⟩⟩, fun h0 => ?_⟩
   obtain ⟨b, off, e, hi⟩ := h4 h0
   refine ⟨b, off, e, fun i hl => ⟨_, flat_op.see.2 ⟨rfl, h3 _ (List.getElem_mem hl)⟩, fun j u hu => ?_⟩⟩
   obtain ⟨c0, c1, c2⟩ := hi i hl
   match j, hu with
   | 0, hu => cases hu; exact c0
   | 1, hu => cases hu; exact c1
   | 2, hu => cases hu; exact c2
def OwnZV (w : World) (v : Value) (l : List Int) : Prop := (∀ z ∈ l, (Lit.int .i64 z).wf = true) ∧ w.ownsRow 0 3 1 v l.length (intVals l)
theorem flatMap_ints (l : List Int) : (l.flatMap fun x => [Value.int .i64 x]) = intVals l := by
 induction l with
 | nil => rfl
 | cons x l ih => simp only [List.flatMap_cons, ih]; rfl
theorem ints_own {l : List Int} : intsR.own w [v] l F ↔ OwnZV w v l ∧ F = v.ownBlock.toList := by
 unfold intsR
 rw [flat_int.slice, flatMap_ints]
 constructor
 · rintro ⟨h1, h2, h3⟩
   exact ⟨⟨h2, h1⟩, h3⟩
 · rintro ⟨⟨h1, h2⟩, h4⟩
   exact ⟨h2, h1, h4⟩
theorem ints_see {l : List Int} : intsR.see w [.slice a n cap] l ↔ (SlZ w a n l ∧ ∀ z ∈ l, (Lit.int .i64 z).wf = true) ∧ n ≤ cap := by
 constructor
 · rintro ⟨a', n', c', e, hc, h1, h2, h3, h4⟩
   cases e
   refine ⟨⟨⟨h1, h2, fun h0 => ?_⟩, fun p hp => ?_⟩, hc⟩
   · obtain ⟨b, off, e, hi⟩ := h4 h0
     refine ⟨b, off, e, fun i hl => ?_⟩
     obtain ⟨vs, hs, hcl⟩ := hi i hl
     obtain ⟨rfl, _⟩ := flat_int.see.1 hs
     have := hcl 0 _ rfl
     simpa [int] using this
   · obtain ⟨vs, hv⟩ := h3 p hp
     exact (flat_int.see.1 hv).2
 · rintro ⟨⟨⟨h1, h2, h4⟩, h3⟩, hc⟩
   refine ⟨a, n, cap, rfl, hc, h1, h2, fun p hp => ⟨_, flat_int.see.2 ⟨rfl, h3 p hp⟩⟩, fun h0 => ?_⟩
   obtain ⟨b, off, e, hi⟩ := h4 h0
   refine ⟨b, off, e, fun i hl => ⟨_, flat_int.see.2 ⟨rfl, h3 _ (List.getElem_mem hl)⟩, fun j u hu => ?_⟩⟩
   have c0 := hi i hl
   match j, hu with
   | 0, hu => cases hu; simpa [int] using c0
end
/-! ### jobs and choices -/
def jobR : Rd Jb := both int (both opsR (both int intsR))
def jobsR : Rd (List Jb) := slice 107 jobR
def chR : Rd Ch := both int bool
def logR : Rd (List Ch) := slice 94 chR
theorem flat_ch : Flat chR (fun c => [.int .i64 c.1, .bool c.2]) (fun c => (Lit.int .i64 c.1).wf = true ∧ True) := flat_both flat_int flat_bool
section
variable {w w' : World} {a : Option Addr} {n cap : Nat} {F : List Nat} {v : Value}
theorem job_see {vs : List Value} {j : Jb} : jobR.see w vs j ↔ ∃ oa ol oc ya yl yc, vs = [.int .i64 j.1, .slice oa ol oc, .int .i64 j.2.2.1, .slice ya yl yc] ∧ (Lit.int .i64 j.1).wf = true ∧ (Lit.int .i64 j.2.2.1).wf = true ∧ (SlO w oa ol j.2.1 ∧ ol ≤ oc) ∧ (SlZ w ya yl j.2.2.2 ∧ ∀ z ∈ j.2.2.2, (Lit.int .i64 z).wf = true) ∧ yl ≤ yc := by
 constructor
 · rintro ⟨us, ts, rfl, h1, us2, ts2, rfl, h2, us3, ts3, rfl, h3, h4⟩
   obtain ⟨rfl, k1⟩ := flat_int.see.1 h1
   obtain ⟨rfl, k3⟩ := flat_int.see.1 h3
   obtain ⟨oa, ol, oc, rfl, _⟩ := id h2
   obtain ⟨ya, yl, yc, rfl, _⟩ := id h4
   have h5 := ops_see.1 h2
   have h6 := ints_see.1 h4
   exact ⟨oa, ol, oc, ya, yl, yc, rfl, k1, k3, h5, h6.1, h6.2⟩
 · rintro ⟨oa, ol, oc, ya, yl, yc, rfl, k1, k3, h5, h6, h7⟩
   exact ⟨[_], [_, _, _], rfl, flat_int.see.2 ⟨rfl, k1⟩, [_], [_, _], rfl, ops_see.2 h5, [_], [_], rfl, flat_int.see.2 ⟨rfl, k3⟩, ints_see.2 ⟨h6, h7⟩⟩
theorem job_own {vs : List Value} {j : Jb} : jobR.own w vs j F ↔ ∃ x y, vs = [.int .i64 j.1, x, .int .i64 j.2.2.1, y] ∧ (Lit.int .i64 j.1).wf = true ∧ (Lit.int .i64 j.2.2.1).wf = true ∧ OwnV w 0 x j.2.1 ∧ OwnZV w y j.2.2.2 ∧ F = x.ownBlock.toList ++ y.ownBlock.toList ∧ F.Nodup := by
 constructor
 · rintro ⟨us, ts, F1, F2, rfl, rfl, h1, ⟨us2, ts2, F3, F4, rfl, rfl, h2, ⟨us3, ts3, F5, F6, rfl, rfl, h3, h4, n3⟩, n2⟩, n1⟩
   obtain ⟨rfl, k1, rfl⟩ := flat_int.own.1 h1
   obtain ⟨rfl, k3, rfl⟩ := flat_int.own.1 h3
   obtain ⟨a1, c1, q1, rfl, _⟩ := own_open h2
   obtain ⟨a2, c2, q2, rfl, _⟩ := own_open h4
   obtain ⟨h5, rfl⟩ := ops_own.1 h2
   obtain ⟨h6, rfl⟩ := ints_own.1 h4
   exact ⟨_, _, rfl, k1, k3, h5, h6, rfl, n1⟩
 · rintro ⟨x, y, rfl, k1, k3, h5, h6, rfl, hn⟩
   have hn2 := (nodup_parts hn).2.1
   exact ⟨[_], [x, _, y], [], _, rfl, rfl, flat_int.own.2 ⟨rfl, k1, rfl⟩, ⟨[x], [_, y], _, _, rfl, rfl, ops_own.2 ⟨h5, rfl⟩, ⟨[_], [y], [], _, rfl, rfl, flat_int.own.2 ⟨rfl, k3, rfl⟩, ints_own.2 ⟨h6, rfl⟩, hn2⟩, hn⟩, hn⟩
theorem job_at {b off len : Nat} {l : List Jb} (h : SlG jobR w (some ⟨b, off, none⟩) len l) (i : Nat) (hi : i < l.length) :
 w.cell? ⟨b, off + i * 4, none⟩ = some (.int .i64 l[i].1) ∧ w.cell? ⟨b, off + i * 4 + 2, none⟩ = some (.int .i64 l[i].2.2.1) ∧
  (∃ oa ol oc, w.cell? ⟨b, off + i * 4 + 1, none⟩ = some (.slice oa ol oc) ∧ SlO w oa ol l[i].2.1 ∧ ol ≤ oc) ∧ (∃ ya yl yc, w.cell? ⟨b, off + i * 4 + 3, none⟩ = some (.slice ya yl yc) ∧ SlZ w ya yl l[i].2.2.2 ∧ yl ≤ yc) := by
 obtain ⟨b', off', e, hc⟩ := h.2.2.2 (by have := h.1; omega)
 simp only [Option.some.injEq, Addr.mk.injEq, and_true] at e
 obtain ⟨rfl, rfl⟩ := e
 obtain ⟨vs, hs, hcl⟩ := hc i hi
 obtain ⟨oa, ol, oc, ya, yl, yc, rfl, k1, k3, h5, h6, h7⟩ := job_see.1 hs
 exact ⟨hcl 0 _ rfl, hcl 2 _ rfl, ⟨oa, ol, oc, hcl 1 _ rfl, h5.1, h5.2⟩, ya, yl, yc, hcl 3 _ rfl, h6.1, h7⟩
theorem ch_at {b off len : Nat} {l : List Ch} (h : SlG chR w (some ⟨b, off, none⟩) len l) (i : Nat) (hi : i < l.length) : w.cell? ⟨b, off + i * 2, none⟩ = some (.int .i64 l[i].1) ∧ w.cell? ⟨b, off + i * 2 + 1, none⟩ = some (.bool l[i].2) := by
 obtain ⟨b', off', e, hc⟩ := h.2.2.2 (by have := h.1; omega)
 simp only [Option.some.injEq, Addr.mk.injEq, and_true] at e
 obtain ⟨rfl, rfl⟩ := e
 obtain ⟨vs, hs, hcl⟩ := hc i hi
 obtain ⟨rfl, _⟩ := flat_ch.see.1 hs
 exact ⟨hcl 0 _ rfl, hcl 1 _ rfl⟩
theorem slg_some {α : Type} {R : Rd α} {len : Nat} {l : List α} (h : SlG R w a len l) (h0 : 0 < len) : ∃ b off, a = some ⟨b, off, none⟩ := by
 obtain ⟨b, off, e, _⟩ := h.2.2.2 h0
 exact ⟨b, off, e⟩
end
/-! ### one who decides -/
def coordR : Rd Co := both int (both int (both int (both jobsR (both logR int))))
def coVals (n life next sure : Int) (ja : Option Addr) (jn jc : Nat) (la : Option Addr) (ln lc : Nat) : List Value := [.int .i64 n, .int .i64 life, .int .i64 next, .slice ja jn jc, .slice la ln lc, .int .i64 sure]
structure SeeCo (w : World) (ja : Option Addr) (jn jc : Nat) (la : Option Addr) (ln lc : Nat) (c : Co) : Prop where
 n : (Lit.int .i64 c.1).wf = true
 life : (Lit.int .i64 c.2.1).wf = true
 next : (Lit.int .i64 c.2.2.1).wf = true
 sure : (Lit.int .i64 c.2.2.2.2.2).wf = true
 jobs : SlG jobR w ja jn c.2.2.2.1
 log : SlG chR w la ln c.2.2.2.2.1
 jc : jn ≤ jc
 lc : ln ≤ lc
section
variable {w w' : World} {ja : Option Addr} {jn jc : Nat} {la : Option Addr} {ln lc : Nat} {c : Co} {vs : List Value} {F : List Nat}
theorem SeeCo.below (h : SeeCo w ja jn jc la ln lc c) (hb : Below w.heap.size w w') : SeeCo w' ja jn jc la ln lc c := ⟨h.n, h.life, h.next, h.sure, h.jobs.below hb, h.log.below hb, h.jc, h.lc⟩
theorem coord_see : coordR.see w vs c ↔ ∃ ja jn jc la ln lc, vs = coVals c.1 c.2.1 c.2.2.1 c.2.2.2.2.2 ja jn jc la ln lc ∧ SeeCo w ja jn jc la ln lc c := by
 constructor
 · rintro ⟨u1, t1, rfl, h1, u2, t2, rfl, h2, u3, t3, rfl, h3, u4, t4, rfl, h4, u5, t5, rfl, h5, h6⟩
   obtain ⟨rfl, k1⟩ := flat_int.see.1 h1
   obtain ⟨rfl, k2⟩ := flat_int.see.1 h2
   obtain ⟨rfl, k3⟩ := flat_int.see.1 h3
   obtain ⟨rfl, k6⟩ := flat_int.see.1 h6
   obtain ⟨ja, jn, jc, rfl, j1, j2⟩ := h4
   obtain ⟨la, ln, lc, rfl, l1, l2⟩ := h5
   exact ⟨ja, jn, jc, la, ln, lc, rfl, k1, k2, k3, k6, j2, l2, j1, l1⟩
 · rintro ⟨ja, jn, jc, la, ln, lc, rfl, h⟩
   exact ⟨[_], [_, _, _, _, _], rfl, flat_int.see.2 ⟨rfl, h.n⟩, [_], [_, _, _, _], rfl, flat_int.see.2 ⟨rfl, h.life⟩, [_], [_, _, _], rfl, flat_int.see.2 ⟨rfl, h.next⟩, [_], [_, _], rfl, ⟨_, _, _, rfl, h.jc, h.jobs⟩, [_], [_], rfl, ⟨_, _, _, rfl, h.lc, h.log⟩, flat_int.see.2 ⟨rfl, h.sure⟩⟩
end
end cos
namespace pairs
open Go Go.RowKit base
theorem bcell {W w1 : World} (hb : Below W.heap.size W w1) : (∀ b o, b < W.heap.size → w1.cell? ⟨b, o, none⟩ = W.cell? ⟨b, o, none⟩) :=
 fun b o h => hb.cell (p := ⟨b, o, none⟩) h
set_option maxHeartbeats 400000 in
theorem s_in (x a b : Int) (w : World) (hx : -1000 ≤ x ∧ x ≤ 1099511627776) (ha : 0 ≤ a ∧ a ≤ 1000) (hb : 0 ≤ b ∧ b ≤ 1000) :
    Calls Tryz.prog 43 #[.int .i64 x, .int .i64 a, .int .i64 b] w fun e w' => e = .returned (.bool (decide (a ≤ x ∧ x ≤ b))) ∧ w' = w := by
  by_cases h1 : a ≤ x
  · by_cases h2 : x ≤ b
    · go_enter Tryz.func43, Tryz.ntmps43
      go_wp2
      go_ret
      exact ⟨ret_bool (by simp [h1, h2]), rfl⟩
    · go_enter Tryz.func43, Tryz.ntmps43
      go_wp2
      go_ret
      exact ⟨ret_bool (by simp [h1, h2]), rfl⟩
  · go_enter Tryz.func43, Tryz.ntmps43
    go_wp2
    go_ret
    exact ⟨ret_bool (by have h3 : ¬ a ≤ x := by omega
                        simp [h3]), rfl⟩
theorem keyAll_drop (s : ByteArray) (k : Nat) (h : k < s.size) : keyAll (s.data.toList.drop k) = (keyCh s[k].toNat && keyAll (s.data.toList.drop (k + 1))) := by
 rw [List.drop_eq_getElem_cons (by simpa using h)]; rfl
set_option maxRecDepth 100000 in
set_option maxHeartbeats 1000000 in
theorem spec_keyOk (s : ByteArray) (w : World) (hs : s.size ≤ 1099511627776) :
 Calls Tryz.prog 122 #[.string s] w fun e w' => e = .returned (.bool (keyOk s)) ∧ w' = w := by
 generalize hR : keyAll s.data.toList = R
 have HR := Hid.mk' hR
 clear hR
 go_enter Tryz.func122, Tryz.ntmps122
 go_wp2
 go_loop [3] (fun i => ∃ k : Nat, k ≤ s.size ∧ i = .int .i64 (k : Int) ∧ keyAll (s.data.toList.drop k) = R) (fun i => s.size - (intOf i).toNat)
 case atStart => exact ⟨0, Nat.zero_le _, rfl, HR.out⟩
 case round =>
  obtain ⟨k, hk, rfl, hr⟩ := hrel
  by_cases hlt : k < s.size
  · have hst := keyAll_drop s k hlt
    rw [hr] at hst
    have hc := s[k].toNat_lt
    generalize hC : s[k].toNat = c at *
    have HST := Hid.mk' hst
    have HC := Hid.mk' hC
    clear hst hr
    have hki : (k : Int) < (s.size : Int) := by omega
    by_cases h1 : 97 ≤ c ∧ c ≤ 122
    · have HF : Hid (keyAll (s.data.toList.drop (k + 1)) = R) := by
       show _ = _
       have := HST.out; rw [show keyCh c = true by simp [keyCh, h1]] at this; simpa using this.symm
      have hl := s_in (c : Int) 97 122 w (by omega) (by omega) (by omega)
      rw [decide_eq_true (by omega)] at hl
      have HL := Hid.mk' hl
      clear hl HST
      go_wp2_with fail
      refine HL.out.mono ?_
      rintro e w1 ⟨rfl, rfl⟩
      go_wp2_with fail
      go_round
      case rel => exact ⟨k + 1, by omega, by go_num, HF.out⟩
      case measure => simp [intOf]; omega
    · have hl := s_in (c : Int) 97 122 w (by omega) (by omega) (by omega)
      rw [decide_eq_false (by omega)] at hl
      have HL := Hid.mk' hl
      clear hl
      by_cases h2 : 48 ≤ c ∧ c ≤ 57
      · have HF : Hid (keyAll (s.data.toList.drop (k + 1)) = R) := by
         show _ = _
         have := HST.out; rw [show keyCh c = true by simp [keyCh, h2]] at this; simpa using this.symm
        have hl := s_in (c : Int) 48 57 w (by omega) (by omega) (by omega)
        rw [decide_eq_true (by omega)] at hl
        have HL2 := Hid.mk' hl
        clear hl HST
        go_wp2_with fail
        refine HL.out.mono ?_
        rintro e w1 ⟨rfl, rfl⟩
        go_wp2_with fail
        refine HL2.out.mono ?_
        rintro e w1 ⟨rfl, rfl⟩
        go_wp2_with fail
        go_round
        case rel => exact ⟨k + 1, by omega, by go_num, HF.out⟩
        case measure => simp [intOf]; omega
      · have HF : Hid (R = false) := by
         show _ = _
         have := HST.out; rw [show keyCh c = false by simp only [keyCh, h1, h2]; rfl] at this; simpa using this
        have hl := s_in (c : Int) 48 57 w (by omega) (by omega) (by omega)
        rw [decide_eq_false (by omega)] at hl
        have HL2 := Hid.mk' hl
        clear hl HST
        go_wp2_with fail
        refine HL.out.mono ?_
        rintro e w1 ⟨rfl, rfl⟩
        go_wp2_with fail
        refine HL2.out.mono ?_
        rintro e w1 ⟨rfl, rfl⟩
        go_wp2_with fail
        go_ret
        exact ⟨ret_bool (by unfold keyOk; rw [HR.out, HF.out]; rfl), rfl⟩
  · have HF : Hid (R = true) := by show _ = _; rw [← hr, List.drop_eq_nil_of_le (by simp; omega)]; rfl
    have hl := s_in (s.size : Int) 1 12 w (by omega) (by omega) (by omega)
    rw [show decide ((1 : Int) ≤ (s.size : Int) ∧ (s.size : Int) ≤ 12) = decide (1 ≤ s.size ∧ s.size ≤ 12) by rw [decide_eq_decide]; omega] at hl
    have HL := Hid.mk' hl
    clear hl hr
    go_wp2_with fail
    refine HL.out.mono ?_
    rintro e w1 ⟨rfl, rfl⟩
    go_wp2_with fail
    go_ret
    exact ⟨ret_bool (by unfold keyOk; rw [HR.out, HF.out]; simp), rfl⟩
def getRet : Option ByteArray → Value
 | none => .tuple #[.string ⟨#[]⟩, .bool false]
 | some v => .tuple #[.string v, .bool true]
theorem str_ne {a b : ByteArray} (h : a ≠ b) : (a.toList == b.toList) = false := by
 rw [beq_eq_false_iff_ne]; intro e; rw [ByteArray.toList_eq, ByteArray.toList_eq] at e; exact h (bytes_ext e)
set_option maxRecDepth 100000 in
set_option maxHeartbeats 1000000 in
theorem spec_getKey (a : Option Addr) (len cap : Nat) (l : List Pr) (key : ByteArray) (w : World) (h : SlP w a len l) :
 Calls Tryz.prog 150 #[.slice a len cap, .string key] w fun e w' => e = .returned (getRet (getKey key l)) ∧ w' = w := by
 obtain ⟨hl, hm, hsm, hc⟩ := h
 subst hl
 unfold maxLen at hm
 generalize hR : getKey key l = R
 have HR := Hid.mk' hR
 clear hR
 go_enter Tryz.func150, Tryz.ntmps150
 go_wp2
 go_loop [6] (fun i => ∃ k : Nat, k ≤ l.length ∧ i = .int .i64 (k : Int) ∧ getKey key (l.drop k) = R) (fun i => l.length - (intOf i).toNat)
 case atStart => exact ⟨0, Nat.zero_le _, rfl, HR.out⟩
 case round =>
  obtain ⟨k, hk, rfl, hr⟩ := hrel
  by_cases hlt : k < l.length
  · obtain ⟨b, off, ha, hcl⟩ := hc (by omega)
    subst ha
    have hst := getKey_drop key l k hlt
    rw [hr] at hst
    obtain ⟨c1, c2⟩ := hcl k hlt
    have hki : (k : Int) < (l.length : Int) := by omega
    by_cases he : l[k].1 = key
    · have HF : Hid (R = some l[k].2) := by rw [if_pos he] at hst; exact hst
      rw [he] at c1
      generalize l[k].2 = v at *
      clear hst hr hcl hc hsm he
      go_wp2
      go_ret2
      exact ⟨by rw [HF.out]; rfl, rfl⟩
    · have HF : Hid (getKey key (l.drop (k + 1)) = R) := by rw [if_neg he] at hst; exact hst.symm
      have hq := str_ne he
      generalize l[k].1 = kk at *
      clear hst hr hcl hc hsm he
      go_wp2
      go_round
      case rel => exact ⟨k + 1, by omega, by go_num, HF.out⟩
      case measure => simp [intOf]; omega
  · have HF : Hid (R = none) := by show _ = _; rw [← hr, List.drop_eq_nil_of_le (by omega)]; rfl
    clear hr
    go_wp2
    go_ret2
    exact ⟨by rw [HF.out]; rfl, rfl⟩
end pairs
namespace pairs
open Go Go.RowKit base
theorem take_snocP (l : List Pr) (k : Nat) (h : k < l.length) : l.take (k + 1) = l.take k ++ [l[k]] := List.take_succ_eq_append_getElem h
theorem filter_snoc (f : Pr → Bool) (l : List Pr) (k : Nat) (h : k < l.length) : (l.take (k + 1)).filter f = (l.take k).filter f ++ if f l[k] then [l[k]] else [] := by
 rw [take_snocP l k h, List.filter_append]
 cases hf : f l[k] <;> simp [List.filter_cons, hf]
theorem take_small {l : List Pr} (h : ∀ p ∈ l, small p) (k : Nat) : ∀ p ∈ l.take k, small p := fun p hp => h p (List.mem_of_mem_take hp)
theorem one_pair_cells (w : World) (p : Pr) (t : TypeId) : ∀ j u, (pairVals [p])[j]? = some u → (w.alloc (.cells #[.string p.1, .string p.2] t)).cell? ((⟨w.heap.size, 0, none⟩ : Addr).add j) = some u :=
 cells_two w (.string p.1) (.string p.2) t
theorem ownP_app {w' : World} {base n : Nat} {v' : Value} {l : List Pr} {p : Pr} (hl : l.length = n) (hs : ∀ q ∈ l, small q) (hp : small p) (h0 : ¬ v' = .slice none 0 0)
 (h : w'.ownsRow base 151 2 v' (n + 1) (pairVals l ++ pairVals [p])) : ∃ g' cap', v' = .slice (some ⟨g', 0, none⟩) (n + 1) cap' ∧ OwnP w' base g' (n + 1) cap' (l ++ [p]) := by
 rw [← pairVals_append] at h
 refine ownP_val (by simp; omega) ?_ h0 h
 intro q hq
 rcases List.mem_append.1 hq with h1 | h1
 · exact hs q h1
 · simp at h1; subst h1; exact hp
set_option maxRecDepth 100000 in
set_option maxHeartbeats 2000000 in
theorem spec_delKey (b off len cap : Nat) (l : List Pr) (key : ByteArray) (w : World) (h : SlP w (some ⟨b, off, none⟩) len l) (hsz : len ≤ 1099511627776) :
 Calls Tryz.prog 153 #[.slice (some ⟨b, off, none⟩) len cap, .string key] w fun e w' =>
  ∃ g' n' cap', e = .returned (.slice (some ⟨g', 0, none⟩) n' cap') ∧ OwnP w' w.heap.size g' n' cap' (delKey key l) ∧ Below w.heap.size w w' := by
 obtain ⟨i0, hi, hz0, hz1, hz2⟩ := info_parts infoP
 have hl := h.1
 have hsm := h.2.2.1
 subst hl
 go_enter Tryz.func153, Tryz.ntmps153
 go_wp2_with (at_builtin; fail)
 go_loopw [5, 6] (fun v i wr => ∃ (k g n cp : Nat), k ≤ l.length ∧ n ≤ k ∧ i = .int .i64 (k : Int) ∧ v = .slice (some ⟨g, 0, none⟩) n cp ∧ OwnP wr w.heap.size g n cp (delKey key (l.take k)) ∧ Below w.heap.size w wr) (fun _ i _ => l.length - (intOf i).toNat)
 case atStart => exact ⟨0, w.heap.size, 0, 0, Nat.zero_le _, Nat.le_refl _, rfl, rfl, ownP_made w _ (Nat.le_refl _), (Below.refl _ _).alloc (Nat.le_refl _) _⟩
 case round =>
  obtain ⟨k, g, n, cp, hk, hnk, rfl, rfl, hO, hB⟩ := hrel
  have hbw : w.heap.size ≤ wr.heap.size := hB.size
  by_cases hlt : k < l.length
  · obtain ⟨c1, c2⟩ := (h.below hB).cells k hlt
    have hst := filter_snoc (fun p => decide (p.1 ≠ key)) l k hlt
    have hpk := hsm _ (List.getElem_mem hlt)
    have hki : (k : Int) < (l.length : Int) := by omega
    by_cases he : l[k].1 = key
    · have HF : Hid (delKey key (l.take (k + 1)) = delKey key (l.take k)) := by
       show List.filter _ _ = List.filter _ _
       rw [hst]; simp [he]
      rw [he] at c1
      clear hst
      go_wp2_with (at_builtin; fail)
      go_roundw
      case rel => exact ⟨k + 1, g, n, cp, by omega, by omega, by go_num, rfl, by rw [HF.out]; exact hO, hB⟩
      case measure => simp [intOf]; omega
    · have HF : Hid (delKey key (l.take (k + 1)) = delKey key (l.take k) ++ [l[k]]) := by
       show List.filter _ _ = List.filter _ _ ++ _
       rw [hst]; simp [he]
      have hq := str_ne he
      have hc3 : n + 1 ≤ maxLen := by unfold maxLen; omega
      have hc4 : (n + 1) * 32 ≤ 140737488355328 := by omega
      generalize l[k] = p at *
      clear hst he
      go_wp2_with (at_builtin; refine wpList_append_own _ rfl (.tmp 21) (.tmp 26) 53 rfl w.heap.size 151 i0 (.agg #[.string ⟨#[]⟩, .string ⟨#[]⟩]) 2 32 Tryz.underlying53 hi hz0 hz1 hz2 rfl (by decide) _ _ _ rfl (hO.2.2.alloc _) ⟨wr.heap.size, 0, none⟩ 1 1 (pairVals [p]) rfl rfl (one_pair_cells _ _ _) (pairVals_oneCell _) hc3 hc4 (le_alloc _ _ hbw) ?_)
      intro v2 w2 hown hgrow hnn
      obtain ⟨g2, cp2, hv, hO2⟩ := ownP_app hO.1 hO.2.1 hpk hnn hown
      subst hv
      have hB2 : Below w.heap.size w w2 := (hB.alloc hbw _).grown hgrow (le_alloc _ _ hbw) (fun k e => by simp [Value.ownBlock] at e; have := hO.lt; omega)
      rw [← HF.out] at hO2
      have HO2 := Hid.mk' hO2
      clear hown hgrow hnn hO2 hO hB
      go_wp2_with (at_builtin; fail)
      go_roundw
      case rel => exact ⟨k + 1, g2, n + 1, cp2, by omega, by omega, by go_num, rfl, HO2.out, hB2⟩
      case measure => simp [intOf]; omega
  · have HE : Hid (l.take k = l) := List.take_of_length_le (by omega)
    go_wp2_with (at_builtin; fail)
    go_ret
    rw [HE.out] at hO
    exact ⟨g, n, cp, rfl, hO, hB⟩
end pairs
namespace pairs
open Go Go.RowKit base
theorem getKey_none {key : ByteArray} {l : List Pr} (h : getKey key l = none) (k : Nat) (hk : k < l.length) : l[k].1 ≠ key := by
 intro e
 have h2 := getKey_append key (l.take k) (l.drop k)
 rw [List.take_append_drop, h, getKey_drop key l k hk, if_pos e] at h2
 cases h3 : getKey key (l.take k) <;> rw [h3] at h2 <;> cases h2
theorem put_found {key val : ByteArray} {l : List Pr} (k : Nat) (hk : k < l.length) (he : l[k].1 = key) (hn : getKey key (l.take k) = none) : putKey key val l = l.set k (l[k].1, val) := by
 have h2 := getKey_append key (l.take k) (l.drop k)
 rw [List.take_append_drop, hn, getKey_drop key l k hk, if_pos he] at h2
 unfold putKey
 rw [h2, if_pos (by rfl), setFirst_at key val l k hk he hn, he]
theorem put_new {key val : ByteArray} {l : List Pr} (hn : getKey key l = none) : putKey key val l = l.take (below key l) ++ (key, val) :: l.drop (below key l) := by
 unfold putKey; rw [hn]; rfl
theorem take_none (key : ByteArray) (l : List Pr) (k : Nat) (hk : k < l.length) (hn : getKey key (l.take k) = none) (he : l[k].1 ≠ key) : getKey key (l.take (k + 1)) = none := by
 rw [take_snocP l k hk]; exact getKey_snoc_none key _ _ hn he
theorem less_flip {a b : ByteArray} (h : a ≠ b) : Op.bytesLess a.toList b.toList = !Op.bytesLess b.toList a.toList := by
 cases h1 : Op.bytesLess b.toList a.toList
 · cases h2 : Op.bytesLess a.toList b.toList
   · exact absurd (ltB_total (a := a) (b := b) h2 h1) h
   · rfl
 · exact ltB_asymm (a := b) (b := a) h1
theorem cellsP_drop {w : World} {b off : Nat} {l : List Pr} (h : CellsP w b off l) (k : Nat) : CellsP w b (off + k * 2) (l.drop k) := by
 intro i hi
 have hki : k + i < l.length := by simp at hi; omega
 have := h (k + i) hki
 rw [List.getElem_drop, show off + k * 2 + i * 2 = off + (k + i) * 2 by omega]
 exact this
theorem cellsP_take {w : World} {b off : Nat} {l : List Pr} (h : CellsP w b off l) (k : Nat) : CellsP w b off (l.take k) := by
 intro i hi
 rw [List.getElem_take]
 exact h i (by simp at hi; omega)
set_option maxRecDepth 100000 in
set_option maxHeartbeats 2000000 in
theorem spec_putKey (b off len cap : Nat) (l : List Pr) (key val : ByteArray) (w : World) (h : SlP w (some ⟨b, off, none⟩) len l) (hcap : len ≤ cap) (hsz : len ≤ 1099511627776) (hks : key.size ≤ maxLen) (hvs : val.size ≤ maxLen) :
 Calls Tryz.prog 152 #[.slice (some ⟨b, off, none⟩) len cap, .string key, .string val] w fun e w' =>
  ∃ g' n' cap', e = .returned (.slice (some ⟨g', 0, none⟩) n' cap') ∧ OwnP w' w.heap.size g' n' cap' (putKey key val l) ∧ Below w.heap.size w w' := by
 obtain ⟨i0, hif, hz0, hz1, hz2⟩ := info_parts infoP
 have hl := h.1
 have hsm := h.2.2.1
 subst hl
 have hba : Below w.heap.size w (w.alloc (.cells #[] 151)) := (Below.refl _ _).alloc (Nat.le_refl _) _
 have HC := Hid.mk' (cells_pairs (h.below hba).cells)
 have hn0 := pairVals_length l
 have hm1 : 0 + l.length ≤ maxLen := by unfold maxLen; omega
 have hm2 : (0 + l.length) * 32 ≤ 140737488355328 := by omega
 have hown0 := (ownP_made w w.heap.size (Nat.le_refl _)).2.2
 go_enter Tryz.func152, Tryz.ntmps152
 go_wp2_with (at_builtin; refine wpList_append_own _ rfl (.tmp 10) (.tmp 11) 53 rfl w.heap.size 151 i0 (.agg #[.string ⟨#[]⟩, .string ⟨#[]⟩]) 2 32 Tryz.underlying53 hif hz0 hz1 hz2 rfl (by decide) _ _ _ rfl hown0 ⟨b, off, none⟩ l.length cap (pairVals l) rfl hn0 HC.out (pairVals_oneCell _) hm1 hm2 (le_alloc _ _ (Nat.le_refl _)) ?_)
 intro v1 w1 hown hgrow hnn
 have hnn' : ¬ v1 = .slice none 0 0 := by simpa using hnn
 obtain ⟨g1, cap1, hv, hO1⟩ := ownP_val rfl hsm hnn' (by simpa [pairVals] using hown)
 subst hv
 have hB1 : Below w.heap.size w w1 := hba.grown hgrow (le_alloc _ _ (Nat.le_refl _)) (fun k e => by simp [Value.ownBlock] at e; omega)
 clear hown hgrow hnn hnn' hown0 HC hn0 hm1 hm2 hba
 go_wp2_with (at_builtin; fail)
 go_loop [8] (fun i => ∃ k : Nat, k ≤ l.length ∧ i = .int .i64 (k : Int) ∧ getKey key (l.take k) = none) (fun i => l.length - (intOf i).toNat)
 case atStart => exact ⟨0, Nat.zero_le _, rfl, rfl⟩
 case round =>
  obtain ⟨k, hk, rfl, hno⟩ := hrel
  by_cases hlt : k < l.length
  · have c1 := hO1.key k hlt
    have c2 := hO1.val k hlt
    have hki : (k : Int) < (l.length : Int) := by omega
    by_cases he : l[k].1 = key
    · have HF : Hid (putKey key val l = l.set k (l[k].1, val)) := put_found k hlt he hno
      have hfz := hO1.frozen (k * 2 + 1)
      have hR := hO1.setVal k hlt val hvs
      rw [← HF.out] at hR
      have HR := Hid.mk' hR
      rw [he] at c1
      clear hno hR
      go_wp2_with (at_builtin; fail)
      go_ret
      exact ⟨_, _, _, rfl, HR.out.1, hB1.trans (below_grown HR.out.2 hO1.lt.1 hB1.size)⟩
    · have HF : Hid (getKey key (l.take (k + 1)) = none) := take_none key l k hlt hno he
      have hq := str_ne he
      clear hno he
      go_wp2_with (at_builtin; fail)
      go_round
      case rel => exact ⟨k + 1, by omega, by go_num, HF.out⟩
      case measure => simp [intOf]; omega
  · have hnone : getKey key l = none := by rw [List.take_of_length_le (by omega)] at hno; exact hno
    have HP := Hid.mk' (put_new (val := val) hnone)
    have hne := getKey_none hnone
    have hSl := h.below hB1
    obtain ⟨B, hBe⟩ : ∃ B, below key l = B := ⟨_, rfl⟩
    have hBl : B ≤ l.length := by rw [← hBe]; exact below_le key l
    rw [hBe] at HP
    have HB := Hid.mk' hBe
    clear hno hnone hBe
    go_wp2_with (at_builtin; fail)
    go_loop [9] (fun i => ∃ k : Nat, k ≤ l.length ∧ i = .int .i64 (k : Int) ∧ below key (l.drop k) + k = B) (fun i => l.length - (intOf i).toNat)
    case atStart => exact ⟨0, Nat.zero_le _, rfl, HB.out⟩
    case round =>
     obtain ⟨k, hk2, rfl, hr⟩ := hrel
     by_cases hlt2 : k < l.length ∧ Op.bytesLess key.toList (l[k]!).1.toList = false
     · obtain ⟨hlt2, hb⟩ := hlt2
       rw [getElem!_pos l k hlt2] at hb
       have c1 := (hSl.cells k hlt2).1
       have hst := below_drop key l k hlt2
       rw [if_neg (by show ¬ Op.bytesLess _ _ = true; rw [hb]; simp)] at hst
       have HF : Hid (below key (l.drop (k + 1)) + (k + 1) = B) := by show _ = _; omega
       have hq := str_ne (hne k hlt2)
       have hlf := less_flip (hne k hlt2)
       rw [hb] at hlf
       have hki : (k : Int) < (l.length : Int) := by omega
       generalize l[k].1 = kk at *
       clear hr hst hb hne
       go_wp2_with (at_builtin; fail)
       go_round
       case rel => exact ⟨k + 1, by omega, by go_num, HF.out⟩
       case measure => simp [intOf]; omega
     · have HE : Hid (k = B) := by
        show k = B
        by_cases h3 : k < l.length
        · have hst := below_drop key l k h3
          have : Op.bytesLess key.toList l[k].1.toList = true := by
           cases h4 : Op.bytesLess key.toList l[k].1.toList
           · exact absurd ⟨h3, by rw [getElem!_pos l k h3]; exact h4⟩ hlt2
           · rfl
          rw [if_pos (show ltB key l[k].1 = true from this)] at hst
          omega
        · rw [List.drop_eq_nil_of_le (by omega)] at hr
          have : below key [] = 0 := rfl
          omega
       have hcond : k < l.length → ∃ kk, w1.cell? ⟨b, off + k * 2, none⟩ = some (.string kk) ∧ Op.bytesLess kk.toList key.toList = false ∧ (kk.toList == key.toList) = false := by
        intro h3
        refine ⟨l[k].1, (hSl.cells k h3).1, ?_, str_ne (hne k h3)⟩
        rw [less_flip (hne k h3)]
        cases h4 : Op.bytesLess key.toList l[k].1.toList
        · exact absurd ⟨h3, by rw [getElem!_pos l k h3]; exact h4⟩ hlt2
        · rfl
       clear hr hlt2 hne
       by_cases h3 : k < l.length
       · obtain ⟨kk, c1, q1, q2⟩ := hcond h3
         have hki : (k : Int) < (l.length : Int) := by omega
         clear hcond
         have hba2 : Below w1.heap.size w1 (w1.alloc (.cells #[] 151)) := (Below.refl _ _).alloc (Nat.le_refl _) _
         have HC2 := Hid.mk' (cells_pairs (cellsP_take (hSl.below hba2).cells k))
         have hn2 : (pairVals (l.take k)).length = k * 2 := by rw [pairVals_length, List.length_take_of_le hk2]
         have hm3 : 0 + k ≤ maxLen := by unfold maxLen; omega
         have hm4 : (0 + k) * 32 ≤ 140737488355328 := by omega
         have hm5 : k + 1 ≤ maxLen := by unfold maxLen; omega
         have hm6 : (k + 1) * 32 ≤ 140737488355328 := by omega
         have hown2 := (ownP_made w1 w.heap.size hB1.size).2.2
         have hbw1 : w.heap.size ≤ w1.heap.size := hB1.size
         have hkc : (k : Int) ≤ (cap : Int) := by omega
         have hkl : (k : Int) ≤ (l.length : Int) := by omega
         go_wp2_with (at_builtin; refine wpList_append_own _ rfl (.tmp 47) (.tmp 50) 53 rfl w.heap.size 151 i0 (.agg #[.string ⟨#[]⟩, .string ⟨#[]⟩]) 2 32 Tryz.underlying53 hif hz0 hz1 hz2 rfl (by decide) _ _ _ rfl hown2 ⟨b, off, none⟩ k cap (pairVals (l.take k)) rfl hn2 HC2.out (pairVals_oneCell _) hm3 hm4 (le_alloc _ _ hbw1) ?_)
         intro v2 w2 hown hgrow hnn
         have hnn' : ¬ v2 = .slice none 0 0 := by simpa using hnn
         obtain ⟨g2, cap2, hv, hO2⟩ := ownP_val (l := l.take k) (n := k) (List.length_take_of_le hk2) (take_small hsm k) hnn' (by simpa [pairVals] using hown)
         subst hv
         have hBx : Below w.heap.size w1 (w1.alloc (.cells #[] 151)) := (Below.refl _ _).alloc hbw1 _
         have hB2 : Below w.heap.size w1 w2 := hBx.grown hgrow (le_alloc _ _ hbw1) (fun k e => by simp [Value.ownBlock] at e; omega)
         have hB2' : Below w.heap.size w w2 := hB1.trans hB2
         have hbw2 : w.heap.size ≤ w2.heap.size := hB2'.size
         clear hown hgrow hnn hnn' hown2 HC2 hn2 hm3 hm4 hba2 hBx hB2
         go_wp2_with (at_builtin; refine wpList_append_own _ rfl (.tmp 51) (.tmp 55) 53 rfl w.heap.size 151 i0 (.agg #[.string ⟨#[]⟩, .string ⟨#[]⟩]) 2 32 Tryz.underlying53 hif hz0 hz1 hz2 rfl (by decide) _ _ _ rfl (hO2.2.2.alloc _) ⟨w2.heap.size, 0, none⟩ 1 1 (pairVals [(key, val)]) rfl rfl (one_pair_cells _ (key, val) _) (pairVals_oneCell _) hm5 hm6 (le_alloc _ _ hbw2) ?_)
         intro v3 w3 hown hgrow hnn
         obtain ⟨g3, cap3, hv, hO3⟩ := ownP_app hO2.1 hO2.2.1 ⟨hks, hvs⟩ hnn hown
         subst hv
         have hB3 : Below w.heap.size w w3 := (hB2'.alloc hbw2 _).grown hgrow (le_alloc _ _ hbw2) (fun k e => by simp [Value.ownBlock] at e; have := hO2.lt; omega)
         have hbw3 : w.heap.size ≤ w3.heap.size := hB3.size
         have hSl3 := h.below hB3
         have hm7 : k + 1 + (l.length - k) ≤ maxLen := by unfold maxLen; omega
         have hm8 : (k + 1 + (l.length - k)) * 32 ≤ 140737488355328 := by omega
         have hn4 : (pairVals (l.drop k)).length = (l.length - k) * 2 := by rw [pairVals_length, List.length_drop]
         clear hown hgrow hnn hO2 hB2' hm5 hm6
         have hck : ¬ cap = k := by omega
         have HC4 := Hid.mk' (cells_pairs (cellsP_drop hSl3.cells k))
         go_wp2_with (at_builtin; refine wpList_append_own _ rfl (.tmp 57) (.tmp 60) 53 rfl w.heap.size 151 i0 (.agg #[.string ⟨#[]⟩, .string ⟨#[]⟩]) 2 32 Tryz.underlying53 hif hz0 hz1 hz2 rfl (by decide) _ _ _ rfl hO3.2.2 ⟨b, off + k * 2, none⟩ (l.length - k) (cap - k) (pairVals (l.drop k)) rfl hn4 HC4.out (pairVals_oneCell _) hm7 hm8 hbw3 ?_)
         intro v4 w4 hown hgrow hnn
         have hnn' : ¬ v4 = .slice none 0 0 := by simpa using hnn
         rw [← pairVals_append] at hown
         obtain ⟨g4, cap4, hv, hO4⟩ := ownP_val (n := k + 1 + (l.length - k)) (by simp; omega) (fun q hq => by
          rcases List.mem_append.1 hq with h1 | h1
          · exact hO3.2.1 q h1
          · exact hsm q (List.mem_of_mem_drop h1)) hnn' hown
         subst hv
         have hB4 : Below w.heap.size w w4 := hB3.grown hgrow hbw3 (fun k e => by simp [Value.ownBlock] at e; have := hO3.lt; omega)
         have HO4 := Hid.mk' hO4
         clear hown hgrow hnn hnn' hO4
         go_wp2_with (at_builtin; fail)
         go_ret
         refine ⟨g4, _, cap4, rfl, ?_, hB4⟩
         rw [HP.out, ← HE.out]
         have := HO4.out
         rw [List.append_assoc] at this
         exact this
       · clear hcond
         have hkl' : l.length = k := by omega
         have HDR : Hid (l.drop k = []) := List.drop_eq_nil_of_le (by omega)
         have hba2 : Below w1.heap.size w1 (w1.alloc (.cells #[] 151)) := (Below.refl _ _).alloc (Nat.le_refl _) _
         have HC2 := Hid.mk' (cells_pairs (cellsP_take (hSl.below hba2).cells k))
         have hn2 : (pairVals (l.take k)).length = k * 2 := by rw [pairVals_length, List.length_take_of_le hk2]
         have hm3 : 0 + k ≤ maxLen := by unfold maxLen; omega
         have hm4 : (0 + k) * 32 ≤ 140737488355328 := by omega
         have hm5 : k + 1 ≤ maxLen := by unfold maxLen; omega
         have hm6 : (k + 1) * 32 ≤ 140737488355328 := by omega
         have hown2 := (ownP_made w1 w.heap.size hB1.size).2.2
         have hbw1 : w.heap.size ≤ w1.heap.size := hB1.size
         have hkc : (k : Int) ≤ (cap : Int) := by omega
         have hkl : (k : Int) ≤ (l.length : Int) := by omega
         clear hkl'
         go_wp2_with (at_builtin; refine wpList_append_own _ rfl (.tmp 47) (.tmp 50) 53 rfl w.heap.size 151 i0 (.agg #[.string ⟨#[]⟩, .string ⟨#[]⟩]) 2 32 Tryz.underlying53 hif hz0 hz1 hz2 rfl (by decide) _ _ _ rfl hown2 ⟨b, off, none⟩ k cap (pairVals (l.take k)) rfl hn2 HC2.out (pairVals_oneCell _) hm3 hm4 (le_alloc _ _ hbw1) ?_)
         intro v2 w2 hown hgrow hnn
         have hnn' : ¬ v2 = .slice none 0 0 := by simpa using hnn
         obtain ⟨g2, cap2, hv, hO2⟩ := ownP_val (l := l.take k) (n := k) (List.length_take_of_le hk2) (take_small hsm k) hnn' (by simpa [pairVals] using hown)
         subst hv
         have hBx : Below w.heap.size w1 (w1.alloc (.cells #[] 151)) := (Below.refl _ _).alloc hbw1 _
         have hB2 : Below w.heap.size w1 w2 := hBx.grown hgrow (le_alloc _ _ hbw1) (fun k e => by simp [Value.ownBlock] at e; omega)
         have hB2' : Below w.heap.size w w2 := hB1.trans hB2
         have hbw2 : w.heap.size ≤ w2.heap.size := hB2'.size
         clear hown hgrow hnn hnn' hown2 HC2 hn2 hm3 hm4 hba2 hBx hB2
         go_wp2_with (at_builtin; refine wpList_append_own _ rfl (.tmp 51) (.tmp 55) 53 rfl w.heap.size 151 i0 (.agg #[.string ⟨#[]⟩, .string ⟨#[]⟩]) 2 32 Tryz.underlying53 hif hz0 hz1 hz2 rfl (by decide) _ _ _ rfl (hO2.2.2.alloc _) ⟨w2.heap.size, 0, none⟩ 1 1 (pairVals [(key, val)]) rfl rfl (one_pair_cells _ (key, val) _) (pairVals_oneCell _) hm5 hm6 (le_alloc _ _ hbw2) ?_)
         intro v3 w3 hown hgrow hnn
         obtain ⟨g3, cap3, hv, hO3⟩ := ownP_app hO2.1 hO2.2.1 ⟨hks, hvs⟩ hnn hown
         subst hv
         have hB3 : Below w.heap.size w w3 := (hB2'.alloc hbw2 _).grown hgrow (le_alloc _ _ hbw2) (fun k e => by simp [Value.ownBlock] at e; have := hO2.lt; omega)
         have hbw3 : w.heap.size ≤ w3.heap.size := hB3.size
         have hSl3 := h.below hB3
         have hm7 : k + 1 + (l.length - k) ≤ maxLen := by unfold maxLen; omega
         have hm8 : (k + 1 + (l.length - k)) * 32 ≤ 140737488355328 := by omega
         have hn4 : (pairVals (l.drop k)).length = (l.length - k) * 2 := by rw [pairVals_length, List.length_drop]
         clear hown hgrow hnn hO2 hB2' hm5 hm6
         by_cases hck : cap = k
         · have HC4 : Hid (∀ j v, (pairVals (l.drop k))[j]? = some v → w3.cell? ((⟨b, off, none⟩ : Addr).add j) = some v) := by
            show ∀ j v, _ → _
            intro j v hj
            rw [HDR.out] at hj
            simp [pairVals] at hj
           go_wp2_with (at_builtin; refine wpList_append_own _ rfl (.tmp 57) (.tmp 60) 53 rfl w.heap.size 151 i0 (.agg #[.string ⟨#[]⟩, .string ⟨#[]⟩]) 2 32 Tryz.underlying53 hif hz0 hz1 hz2 rfl (by decide) _ _ _ rfl hO3.2.2 ⟨b, off, none⟩ (l.length - k) _ (pairVals (l.drop k)) rfl hn4 HC4.out (pairVals_oneCell _) hm7 hm8 hbw3 ?_)
           intro v4 w4 hown hgrow hnn
           have hnn' : ¬ v4 = .slice none 0 0 := by simpa using hnn
           rw [← pairVals_append] at hown
           obtain ⟨g4, cap4, hv, hO4⟩ := ownP_val (n := k + 1 + (l.length - k)) (by simp; omega) (fun q hq => by
            rcases List.mem_append.1 hq with h1 | h1
            · exact hO3.2.1 q h1
            · exact hsm q (List.mem_of_mem_drop h1)) hnn' hown
           subst hv
           have hB4 : Below w.heap.size w w4 := hB3.grown hgrow hbw3 (fun k e => by simp [Value.ownBlock] at e; have := hO3.lt; omega)
           have HO4 := Hid.mk' hO4
           clear hown hgrow hnn hnn' hO4
           go_wp2_with (at_builtin; fail)
           go_ret
           refine ⟨g4, _, cap4, rfl, ?_, hB4⟩
           rw [HP.out, ← HE.out]
           have := HO4.out
           rw [List.append_assoc] at this
           exact this
         · have HC4 : Hid (∀ j v, (pairVals (l.drop k))[j]? = some v → w3.cell? ((⟨b, off + k * 2, none⟩ : Addr).add j) = some v) := by
            show ∀ j v, _ → _
            intro j v hj
            rw [HDR.out] at hj
            simp [pairVals] at hj
           go_wp2_with (at_builtin; refine wpList_append_own _ rfl (.tmp 57) (.tmp 60) 53 rfl w.heap.size 151 i0 (.agg #[.string ⟨#[]⟩, .string ⟨#[]⟩]) 2 32 Tryz.underlying53 hif hz0 hz1 hz2 rfl (by decide) _ _ _ rfl hO3.2.2 ⟨b, off + k * 2, none⟩ (l.length - k) _ (pairVals (l.drop k)) rfl hn4 HC4.out (pairVals_oneCell _) hm7 hm8 hbw3 ?_)
           intro v4 w4 hown hgrow hnn
           have hnn' : ¬ v4 = .slice none 0 0 := by simpa using hnn
           rw [← pairVals_append] at hown
           obtain ⟨g4, cap4, hv, hO4⟩ := ownP_val (n := k + 1 + (l.length - k)) (by simp; omega) (fun q hq => by
            rcases List.mem_append.1 hq with h1 | h1
            · exact hO3.2.1 q h1
            · exact hsm q (List.mem_of_mem_drop h1)) hnn' hown
           subst hv
           have hB4 : Below w.heap.size w w4 := hB3.grown hgrow hbw3 (fun k e => by simp [Value.ownBlock] at e; have := hO3.lt; omega)
           have HO4 := Hid.mk' hO4
           clear hown hgrow hnn hnn' hO4
           go_wp2_with (at_builtin; fail)
           go_ret
           refine ⟨g4, _, cap4, rfl, ?_, hB4⟩
           rw [HP.out, ← HE.out]
           have := HO4.out
           rw [List.append_assoc] at this
           exact this
end pairs
end Go.Proofs.YtijplooogplccaaGreat
