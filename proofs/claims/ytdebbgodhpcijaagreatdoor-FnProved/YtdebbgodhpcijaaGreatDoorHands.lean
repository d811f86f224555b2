/- A range over a function whose values are right only in the world in which they are handed on (a law of my own beside the library's; no function of the program is named here). -/
import Derived.RangeFuncNested
import Derived.Shelf.Abstract
namespace Go.Proofs.YtdebbgodhpcijaaGreatDoor.hands
open Go Go.RowKit
set_option linter.unusedVariables false
set_option linter.unusedSimpArgs false

/-- what a closure that is ranged over owes to a loop that never leaves: it hands on values that are right where it hands them on, and all of them -/
def Hands {α : Type} (n : Nat) (P : Program) (g : Nat) (lb : Array Value) (encs : α → Array Value) (G : List α → α → World → Prop) (Kp : World → World → Prop) (S : List α → Prop) (w : World) : Prop :=
  ∀ (l : Nat) (J : List α → World → Prop) (W : World), Below w.heap.size w W → AbidesFrom W.heap.size J →
    (∀ pre x W1, J pre W1 → G pre x W1 → YieldAt Fence.wide (n - 1) P l (encs x) W1 fun e W' => e = .returned (.bool true) ∧ J (pre ++ [x]) W' ∧ Kp W1 W') →
    J [] W → CallsIn Fence.wide n P g (#[.func (.yield l) #[] #[]] ++ lb) W fun e W' => (∃ v, e = .returned v) ∧ ∃ xs, S xs ∧ J xs W'

/-- how a round's body is left -/
def goesOn (B : Nat) (Kp : World → World → Prop) (I : World → Prop) (W : World) (e : Exit) (_ : Act) (W' : World) : Prop := e = .normal ∧ KeepsFrom B W W' ∧ Kp W W' ∧ I W'

theorem wpIn_hands {α : Type} {n : Nat} {P : Program} {g : Operand} {ps : Array Tmp} {assign body : Code} {Q : Exit → Act → World → Prop} {a : Act} {w : World} {gf : Nat} {lb : Array Value}
    (hg : a.eval g = .func (.func gf) #[] lb) (eg : ∀ args w, (callFunc gf args).run P w = .ok (.enter gf args) w)
    {encs : α → Array Value} {G : List α → α → World → Prop} {Kp : World → World → Prop} {S : List α → Prop} (hseq : Hands (n - 1) P gf lb encs G Kp S w)
    (hKt : ∀ A B C : World, Kp A B → Kp B C → Kp A C) (hKb : ∀ (W : World) (l : Nat) (o o' : Obj), w.heap.size ≤ l → W.heap[l]? = some o → o.isCells = false → Kp W (W.putObj l o'))
    (hps : ∀ x, (encs x).size = ps.size) (I : List α → World → Prop) (hI : OwnFrom w.heap.size I) (h0 : I [] w)
    (Ax : List α → α → Act → World → Prop) (hAx : ∀ pre x a', OwnFrom w.heap.size (fun (_ : Unit) W => Ax pre x a' W))
    (hassign : ∀ (l : Nat) (pre : List α) (x : α) (W : World) (K : Act → World → Prop), I pre W → G pre x W → (∀ a' W', KeepsFrom w.heap.size W W' → Kp W W' → I pre W' → Ax pre x a' W' → K a' W') →
      assign.wpIn (Fence.wide.inRound l) (n - 1 - 1) P (Exit.then K (fun _ _ _ => False)) { tmps := (ps.zip (encs x)).foldl (fun t (p, v) => t.setIfInBounds p v) a.tmps, defers := [] } W)
    (hbody : ∀ (l : Nat) (pre : List α) (x : α) (a' : Act) (W : World), I pre W → Ax pre x a' W → body.wpIn (Fence.wide.inRound l) (n - 1 - 1) P (goesOn w.heap.size Kp (I (pre ++ [x])) W) a' W)
    (hdone : ∀ (D : Nat) (xs : List α) (W : World), w.heap.size ≤ D → S xs → I xs W → W.heap[D]? = some (.deferred (some [])) → Q .normal { a with defers := { target := .collected D, args := #[] } :: a.defers } W) :
    (Code.rangeFunc g ps assign body).wpIn Fence.wide n P Q a w := by
  refine wpIn_rangeFunc fun fn hfn => ?_
  obtain ⟨B, hB⟩ : ∃ B, B = w.heap.size := ⟨_, rfl⟩
  let rc : LoopState → Loop := fun st => { state := st, pending := none, fn := fn, tmps := a.tmps, params := ps, assign := assign, body := body, defers := B }
  let J : List α → World → Prop := fun pre W => I pre W ∧ W.heap[B + 1]? = some (.loop (rc .ready)) ∧ W.heap[B]? = some (.deferred (some []))
  obtain ⟨V, hV⟩ : ∃ V, V = w.alloc (.deferred (some [])) := ⟨_, rfl⟩
  obtain ⟨W1, hW1⟩ : ∃ W1, W1 = V.alloc (.loop (rc .ready)) := ⟨_, rfl⟩
  have hVs : V.heap.size = B + 1 := by rw [hV, World.size_alloc, hB]
  have hW1s : W1.heap.size = B + 2 := by rw [hW1, World.size_alloc, hVs]
  have hbV : Below B w V := by rw [hV]; exact (Below.refl _ w).alloc (by omega) _
  have hbW : Below B w W1 := by rw [hW1]; exact hbV.alloc (by omega) _
  have j0 : J [] W1 := by
    refine ⟨by rw [hW1, hV]; exact hI.alloc _ (hI.alloc _ h0), ?_, ?_⟩
    · rw [hW1, ← hVs]; exact World.alloc_heap_new V _
    · rw [hW1, Below.heap_alloc V _ B (by omega), hV, hB]; exact World.alloc_heap_new w _
  -- what the law itself does between two rounds the loop's own facts abide
  have jAbide : AbidesFrom W1.heap.size J := by
    rintro s A C row ⟨h1, h2, h3⟩ hgr hr
    have hr' : ∀ r, row = some r → ∃ o : Obj, A.heap[r]? = some o ∧ o.isWalk = true := fun r e => (hr r e).2
    refine ⟨hI s A C row h1 hgr (fun r e => ?_), (grownBy_keeps hgr hr' h2 rfl).trans h2, (grownBy_keeps hgr hr' h3 rfl).trans h3⟩
    obtain ⟨hle, o, ho, hw⟩ := hr r e
    exact ⟨by omega, o, ho, Obj.not_cells_of_walk hw⟩
  -- one round
  have round : ∀ pre x W, J pre W → G pre x W → YieldAt Fence.wide (n - 1 - 1) P (B + 1) (encs x) W fun e W' => e = .returned (.bool true) ∧ J (pre ++ [x]) W' ∧ Kp W W' := by
    rintro pre x W ⟨hi, hl, hk⟩ hG
    refine ⟨fn, _, assign, body, run_yield hl (hps x), roundIn_of_wpIn hfn (hassign (B + 1) pre x W _ hi hG fun a' Wa hkf hkp hia hax => ?_)⟩
    have hla := hkf.same _ _ (by omega) hl rfl
    have hka := hkf.same _ _ (by omega) hk rfl
    have hlt : B + 1 < Wa.heap.size := (Array.getElem?_eq_some_iff.1 hla).1
    obtain ⟨Wb, hWb⟩ : ∃ Wb, Wb = Wa.putObj (B + 1) (.loop (rc .busy)) := ⟨_, rfl⟩
    have hkb : Kp Wa Wb := by rw [hWb]; exact hKb _ _ _ _ (by omega) hla rfl
    have hlb : Wb.heap[B + 1]? = some (.loop (rc .busy)) := by rw [hWb]; exact World.putObj_heap_same hlt
    have hdb : Wb.heap[B]? = some (.deferred (some [])) := by rw [hWb, World.putObj_heap_other (by omega)]; exact hka
    have hib : I pre Wb := by rw [hWb]; exact hI.putObj _ hia (by omega) hla rfl
    have hxb : Ax pre x a' Wb := by rw [hWb]; exact (hAx pre x a').putObj (s := ()) _ hax (by omega) hla rfl
    refine ⟨Wb, by rw [hWb]; exact run_beginRound hla rfl, wpIn_mono (hbody (B + 1) pre x a' Wb hib hxb) ?_⟩
    rintro e a3 W3 ⟨rfl, hkf3, hkp3, hi3⟩
    have hl3 := hkf3.same _ _ (by omega) hlb rfl
    have hd3 := hkf3.same _ _ (by omega) hdb rfl
    refine ⟨_, _, run_endRound none hl3, rfl, ⟨hI.putObj _ hi3 (by omega) hl3 rfl, World.putObj_heap_same (Array.getElem?_eq_some_iff.1 hl3).1, ?_⟩, ?_⟩
    · rw [World.putObj_heap_other (by omega)]; exact hd3
    · exact hKt _ _ _ hkp (hKt _ _ _ hkb (hKt _ _ _ hkp3 (hKb _ _ _ _ (by omega) hl3 rfl)))
  refine ⟨B + 1, [{ target := .collected B, args := #[] }], W1, { target := .fn (.func gf) lb, args := #[.func (.yield (B + 1)) #[] #[]] }, W1, gf, #[.func (.yield (B + 1)) #[] #[]] ++ lb, W1, ?_, ?_, fun _ _ => trivial, ?_, (fun h => by cases h), ?_⟩
  · rw [hW1, hV, hB]
    show (Instr.enterLoop fn a.tmps ps assign body none).run P w = _
    rw [run_enterLoop_outer]
    simp only [rc, hB]
  · simp only [resolve, hg]
    simp [go_sem]
  · simp [invoke, go_sem, eg]
  · refine (hseq (B + 1) J W1 (by rw [← hB]; exact hbW) jAbide round j0).mono ?_
    rintro e W2 ⟨⟨v, rfl⟩, xs, hS, hi, hl, hd⟩
    refine ⟨none, _, run_endLoop hl (by simp [rc]), ?_⟩
    exact hdone B xs _ (by omega) hS (hI.putObj _ hi (by omega) hl rfl) (by rw [World.putObj_heap_other (by omega)]; exact hd)
end Go.Proofs.YtdebbgodhpcijaaGreatDoor.hands
