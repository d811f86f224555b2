/- The program's placed items of a proof, which come out of an iterator. -/
import Derived.Test.YtdebbgodhpcijaaGreatDoorRangeG
namespace Go.Proofs.YtdebbgodhpcijaaGreatDoor.range
open Go Go.RowKit Go.Shelf Go.Proofs.YtdebbgodhpcijaaGreatDoor.base Go.Proofs.YtdebbgodhpcijaaGreatDoor.pairs Go.Proofs.YtdebbgodhpcijaaGreatDoor.tree
set_option linter.unusedVariables false
set_option linter.unusedSimpArgs false
attribute [local go_sem] Oper.semAt_some

/-- where the paths of items lie -/
def Lies (w : World) (b off : Nat) (l : List It) (hp : Nat → Nat × Nat × Nat) : Prop :=
  ∀ i (hi : i < l.length), w.cell? ⟨b, off + i * 3, none⟩ = some (.string l[i].1.1) ∧ w.cell? ⟨b, off + i * 3 + 1, none⟩ = some (.string l[i].1.2) ∧ w.cell? ⟨b, off + i * 3 + 2, none⟩ = some (.slice (some ⟨(hp i).1, (hp i).2.1, none⟩) l[i].2.length (hp i).2.2) ∧
    SlS w (some ⟨(hp i).1, (hp i).2.1, none⟩) l[i].2.length l[i].2 ∧ l[i].2.length ≤ (hp i).2.2
theorem SlJ.lies {w : World} {b off len : Nat} {l : List It} (h : SlJ w (some ⟨b, off, none⟩) len l) : ∃ hp, Lies w b off l hp := by
  have key : ∀ i, ∃ y : Nat × Nat × Nat, ∀ hi : i < l.length, w.cell? ⟨b, off + i * 3, none⟩ = some (.string l[i].1.1) ∧ w.cell? ⟨b, off + i * 3 + 1, none⟩ = some (.string l[i].1.2) ∧ w.cell? ⟨b, off + i * 3 + 2, none⟩ = some (.slice (some ⟨y.1, y.2.1, none⟩) l[i].2.length y.2.2) ∧ SlS w (some ⟨y.1, y.2.1, none⟩) l[i].2.length l[i].2 ∧ l[i].2.length ≤ y.2.2 := by
    intro i
    by_cases hi : i < l.length
    · obtain ⟨c1, c2, pb, po, pc, c3, hS, hle⟩ := h.at i hi
      exact ⟨(pb, po, pc), fun _ => ⟨c1, c2, c3, hS, hle⟩⟩
    · exact ⟨(0, 0, 0), fun h => absurd h hi⟩
  obtain ⟨hp, hh⟩ := Classical.axiomOfChoice key
  exact ⟨hp, hh⟩
theorem Lies.below {w w' : World} {b off : Nat} {l : List It} {hp : Nat → Nat × Nat × Nat} (h : Lies w b off l hp) (hb : Below w.heap.size w w') : Lies w' b off l hp := by
  intro i hi
  obtain ⟨c1, c2, c3, c4, c5⟩ := h i hi
  have keep : ∀ o v, w.cell? ⟨b, o, none⟩ = some v → w'.cell? ⟨b, o, none⟩ = some v := fun o v hv => (hb.cell (p := ⟨b, o, none⟩) (World.block_lt_of_cell? w _ hv)).trans hv
  exact ⟨keep _ _ c1, keep _ _ c2, keep _ _ c3, c4.below hb, c5⟩

def encP (fr : Int) (l : List It) (hp : Nat → Nat × Nat × Nat) (k : Fin l.length) : Array Value :=
  #[.int .i64 (wrap64 (fr + (k.1 : Int))), .agg #[.string l[k.1].1.1, .string l[k.1].1.2, .slice (some ⟨(hp k.1).1, (hp k.1).2.1, none⟩) l[k.1].2.length (hp k.1).2.2]]
/-- what a round keeps: all that lay ahead of the call, and the proof's own block -/
def KeepP (n₀ pb : Nat) (w w' : World) : Prop := Below n₀ w w' ∧ w'.heap[pb]? = w.heap[pb]?
theorem KeepP.refl (n₀ pb : Nat) (w : World) : KeepP n₀ pb w w := ⟨Below.refl _ _, rfl⟩
theorem KeepP.trans {n₀ pb : Nat} {a b c : World} (h : KeepP n₀ pb a b) (k : KeepP n₀ pb b c) : KeepP n₀ pb a c := ⟨h.1.trans k.1, k.2.trans h.2⟩

set_option maxHeartbeats 1000000 in
theorem impl_placed (n fr : Int) (a : Option Addr) (len cap : Nat) (w : World) :
    Calls Tryz.prog 58 #[.agg #[.int .i64 n, .int .i64 fr, .slice a len cap]] w fun e w' =>
      e = .returned (.func (.func 82) #[] #[.pointer (some ⟨w.heap.size, 0, none⟩)]) ∧ w' = w.alloc (.cells #[.int .i64 n, .int .i64 fr, .slice a len cap] 27) := by
  have hmf := makeFunc_run
  go_enter Tryz.func58, Tryz.ntmps58
  go_wp2_with fail
  go_ret
  exact ⟨rfl, rfl⟩

set_option maxRecDepth 100000 in
set_option maxHeartbeats 2000000 in
theorem placed_stops (m pb : Nat) (n fr : Int) (a : Option Addr) (b off cap : Nat) (l : List It) (hp : Nat → Nat × Nat × Nat) (w0 w : World) (hm : 1 ≤ m) (ha : 0 < l.length → a = some ⟨b, off, none⟩) (hl : Lies w0 b off l hp) (hll : l.length ≤ 1099511627776) (hw0 : Below w0.heap.size w0 w)
    (hV : V3 w pb 27 (.int .i64 n) (.int .i64 fr) (.slice a l.length cap)) :
    SeqStopsK Fence.wide m Tryz.prog 82 #[.pointer (some ⟨pb, 0, none⟩)] (encP fr l hp) (KeepP w0.heap.size pb) (fun xs => xs.map (·.1) = List.range l.length) (fun _ => True) l.length w := by
  intro lp J Jx W hbW hJ hJx hY hJ0
  refine callsIn_of_wp Tryz.func82 rfl trivial ?_ rfl
  simp only [Tryz.ntmps82, List.size_toArray, List.length_cons, List.length_nil, Nat.reduceAdd, Nat.reduceSub, Array.replicate_succ, Array.replicate_zero, List.push_toArray, List.append_toArray, List.nil_append, List.cons_append]
  have hVW := hV.below hbW
  have d1 := hVW.c2
  have hsW := hbW.size
  have hs0 := hw0.size
  gi_wp2
  gi_loopw [8] (fun i wr => ∃ (k : Nat) (ys : List (Fin l.length)), k ≤ l.length ∧ i = .int .i64 (k : Int) ∧ ys.map (·.1) = List.range k ∧ J ys wr ∧ KeepP w0.heap.size pb W wr) (fun i _ => l.length - (intOf i).toNat)
  case atStart => exact ⟨0, [], Nat.zero_le _, rfl, rfl, hJ0, KeepP.refl _ _ _⟩
  case round =>
    obtain ⟨k, ys, hk, rfl, hys, hJk, hKk⟩ := hrel
    by_cases hkl : k < l.length
    · have ha' := ha (by omega)
      subst ha'
      have hb0 : Below w0.heap.size w0 wr := (hw0.trans (hbW.mono hs0)).trans hKk.1
      have hsr := hKk.1.size
      obtain ⟨q1, q2, q3, _, _⟩ := (hl.below hb0) k hkl
      have hVr : V3 wr pb 27 (.int .i64 n) (.int .i64 fr) (.slice (some ⟨b, off, none⟩) l.length cap) := hVW.of_block hKk.2
      have v1 := hVr.c1
      have hki : (k : Int) < (l.length : Int) := by omega
      have hlen : ys.length = k := by
        have := congrArg List.length hys
        rw [List.length_map, List.length_range] at this; exact this
      obtain ⟨Wb, hWb⟩ : ∃ Wb, Wb = wr.alloc (.cells #[.string l[k].1.1, .string l[k].1.2, .slice (some ⟨(hp k).1, (hp k).2.1, none⟩) l[k].2.length (hp k).2.2] 61) := ⟨_, rfl⟩
      have hJb : J ys Wb := by rw [hWb]; exact hJ ys wr _ none hJk (World.grownBy_alloc wr _ none) (fun r e => by cases e)
      have hKb : KeepP w0.heap.size pb W Wb := by
        rw [hWb]
        exact ⟨hKk.1.alloc (by omega) _, (Below.heap_alloc wr _ pb hVr.lt).trans hKk.2⟩
      obtain ⟨fn, tmps, assign, body, hy, hR⟩ := hY ys ⟨k, hkl⟩ Wb hJb (by omega)
      dsimp only [encP] at hy
      have hpb := hVr.lt
      subst hWb
      have HKb := Hid.mk' hKb
      clear hY hJk hKk hb0 hJ hJx hJ0 d1 hw0 hbW hl hJb hVr hKb
      gi_wp2
      refine hR.mono ?_
      rintro e W3 (⟨rfl, hJ3, hk3⟩ | ⟨rfl, hJx3⟩)
      · gi_wp2
        go_roundw
        case rel => exact ⟨k + 1, _, by omega, by go_num, by rw [List.map_append, hys, List.range_succ]; rfl, hJ3, HKb.out.trans hk3⟩
        case measure => simp [intOf]; omega
      · gi_wp2
        refine bodyPost_ret (results_none rfl _ _ _) rfl ?_
        exact ⟨⟨_, rfl⟩, .inr ⟨_, trivial, hJx3⟩⟩
    · obtain rfl : k = l.length := by omega
      gi_wp2
      go_end0
      exact ⟨⟨_, rfl⟩, .inl ⟨ys, hys, hJk⟩⟩
end Go.Proofs.YtdebbgodhpcijaaGreatDoor.range
