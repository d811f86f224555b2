/- The program's words of a block. -/
import Derived.Test.YtmdhkoiimffmlaaDoorShaI
import Derived.Test.YtmdhkoiimffmlaaDoorFits
namespace Go.Proofs.YtmdhkoiimffmlaaDoor.sha
open Go.RowKit Go.Proofs.YtmdhkoiimffmlaaDoor.base Go.Proofs.YtmdhkoiimffmlaaDoor.padmath
set_option linter.unusedVariables false
set_option linter.unusedSimpArgs false

/-! ### arrays of words -/
def uVals (l : List Nat) : List Value := l.map fun (z : Nat) => .int .u32 (z : Int)
theorem uVals_length (l : List Nat) : (uVals l).length = l.length := by simp [uVals]
theorem uVals_set (l : List Nat) (k z : Nat) : (uVals l).set k (.int .u32 (z : Int)) = uVals (l.set k z) := by simp [uVals]
/-- block g is an array of the words l -/
def Arr (w : World) (g : Nat) (t : TypeId) (l : List Nat) : Prop := w.heap[g]? = some (.cells (uVals l).toArray t (0, 0))
section
variable {w w' : World} {g : Nat} {t : TypeId} {l : List Nat} {row : Option Nat}
theorem Arr.at (h : Arr w g t l) (i : Nat) (hi : i < l.length) : w.cell? ⟨g, i, none⟩ = some (.int .u32 ((l.getD i 0 : Nat) : Int)) := by
  rw [cell_of_row w g i _ t _ h]
  simp [uVals, List.getD, hi]
theorem Arr.lt (h : Arr w g t l) : g < w.heap.size := (Array.getElem?_eq_some_iff.1 h).1
theorem Arr.frozen (h : Arr w g t l) (i : Nat) : w.frozen? ⟨g, i, none⟩ = false := by
  unfold Arr at h
  simp only [World.frozen?, h]
  simp
theorem Arr.set (h : Arr w g t l) (k z : Nat) : Arr (w.setCell ⟨g, k, none⟩ (.int .u32 (z : Int))) g t (l.set k z) ∧ w.grownBy (w.setCell ⟨g, k, none⟩ (.int .u32 (z : Int))) (some g) := by
  have := set_cur h k (.int .u32 (z : Int))
  refine ⟨?_, this.2⟩
  unfold Arr
  rw [this.1, ← uVals_set]
  simp
theorem Arr.grown (h : Arr w g t l) (hg : w.grownBy w' row) (hne : some g ≠ row) : Arr w' g t l := (hg.block g h.lt hne).trans h
theorem Arr.below (h : Arr w g t l) (hb : Below w.heap.size w w') : Arr w' g t l := (hb.block g h.lt).trans h
end

theorem arr_new {w : World} {t : TypeId} (cs : Array Value) (l : List Nat) (g : Nat) (hg : g = w.heap.size) (hc : cs = (uVals l).toArray) : Arr (w.alloc (.cells cs t)) g t l := by
  subst hg; subst hc; exact heap_alloc_new w _
theorem Arr.sixteen {w : World} {g : Nat} {t : TypeId} {x0 x1 x2 x3 x4 x5 x6 x7 x8 x9 x10 x11 x12 x13 x14 x15 : Nat} (h : Arr w g t [x0, x1, x2, x3, x4, x5, x6, x7, x8, x9, x10, x11, x12, x13, x14, x15]) :
    w.cell? ⟨g, 0, none⟩ = some (.int .u32 (x0 : Int)) ∧ w.cell? ⟨g, 1, none⟩ = some (.int .u32 (x1 : Int)) ∧ w.cell? ⟨g, 2, none⟩ = some (.int .u32 (x2 : Int)) ∧ w.cell? ⟨g, 3, none⟩ = some (.int .u32 (x3 : Int)) ∧ w.cell? ⟨g, 4, none⟩ = some (.int .u32 (x4 : Int)) ∧ w.cell? ⟨g, 5, none⟩ = some (.int .u32 (x5 : Int)) ∧ w.cell? ⟨g, 6, none⟩ = some (.int .u32 (x6 : Int)) ∧ w.cell? ⟨g, 7, none⟩ = some (.int .u32 (x7 : Int)) ∧ w.cell? ⟨g, 8, none⟩ = some (.int .u32 (x8 : Int)) ∧ w.cell? ⟨g, 9, none⟩ = some (.int .u32 (x9 : Int)) ∧ w.cell? ⟨g, 10, none⟩ = some (.int .u32 (x10 : Int)) ∧ w.cell? ⟨g, 11, none⟩ = some (.int .u32 (x11 : Int)) ∧ w.cell? ⟨g, 12, none⟩ = some (.int .u32 (x12 : Int)) ∧ w.cell? ⟨g, 13, none⟩ = some (.int .u32 (x13 : Int)) ∧ w.cell? ⟨g, 14, none⟩ = some (.int .u32 (x14 : Int)) ∧ w.cell? ⟨g, 15, none⟩ = some (.int .u32 (x15 : Int)) :=
  ⟨h.at 0 (by simp), h.at 1 (by simp), h.at 2 (by simp), h.at 3 (by simp), h.at 4 (by simp), h.at 5 (by simp), h.at 6 (by simp), h.at 7 (by simp), h.at 8 (by simp), h.at 9 (by simp), h.at 10 (by simp), h.at 11 (by simp), h.at 12 (by simp), h.at 13 (by simp), h.at 14 (by simp), h.at 15 (by simp)⟩
theorem Arr.eight {w : World} {g : Nat} {t : TypeId} {x0 x1 x2 x3 x4 x5 x6 x7 : Nat} (h : Arr w g t [x0, x1, x2, x3, x4, x5, x6, x7]) :
    w.cell? ⟨g, 0, none⟩ = some (.int .u32 (x0 : Int)) ∧ w.cell? ⟨g, 1, none⟩ = some (.int .u32 (x1 : Int)) ∧ w.cell? ⟨g, 2, none⟩ = some (.int .u32 (x2 : Int)) ∧ w.cell? ⟨g, 3, none⟩ = some (.int .u32 (x3 : Int)) ∧ w.cell? ⟨g, 4, none⟩ = some (.int .u32 (x4 : Int)) ∧ w.cell? ⟨g, 5, none⟩ = some (.int .u32 (x5 : Int)) ∧ w.cell? ⟨g, 6, none⟩ = some (.int .u32 (x6 : Int)) ∧ w.cell? ⟨g, 7, none⟩ = some (.int .u32 (x7 : Int)) :=
  ⟨h.at 0 (by simp), h.at 1 (by simp), h.at 2 (by simp), h.at 3 (by simp), h.at 4 (by simp), h.at 5 (by simp), h.at 6 (by simp), h.at 7 (by simp)⟩

/-! ### the words of a block's bytes -/
def part (bs : List UInt8) (j : Nat) : Nat → Nat
  | 0 => 0
  | r + 1 => part bs j r * 256 + (bs.getD (4 * j + r) 0).toNat
theorem part_lt (bs : List UInt8) (j r : Nat) : part bs j r < 256 ^ r := by
  induction r with
  | zero => simp [part]
  | succ r ih =>
    have := (bs.getD (4 * j + r) 0).toNat_lt
    rw [part, Nat.pow_succ]; omega
theorem part_four (bs : List UInt8) (j : Nat) : part bs j 4 = be32 bs j := by
  simp only [part, be32, Nat.add_zero]; omega
def wordsAt (bs : List UInt8) (i : Nat) : List Nat := (List.range 16).map fun j => part bs j (min 4 (i - 4 * j))
theorem wordsAt_length (bs : List UInt8) (i : Nat) : (wordsAt bs i).length = 16 := by simp [wordsAt]
theorem wordsAt_get (bs : List UInt8) (i j : Nat) (h : j < 16) : (wordsAt bs i).getD j 0 = part bs j (min 4 (i - 4 * j)) := by
  simp [wordsAt, List.getD, h]
theorem wordsAt_zero (bs : List UInt8) : wordsAt bs 0 = [0, 0, 0, 0, 0, 0, 0, 0, 0, 0, 0, 0, 0, 0, 0, 0] := by
  have e : wordsAt bs 0 = (List.range 16).map fun _ => 0 := by
    unfold wordsAt; apply List.map_congr_left; intro j _; simp [part]
  rw [e]; rfl
theorem wordsAt_all (bs : List UInt8) : wordsAt bs 64 = (List.range 16).map (be32 bs) := by
  unfold wordsAt
  apply List.map_congr_left
  intro j hj
  have := List.mem_range.1 hj
  rw [show min 4 (64 - 4 * j) = 4 by omega, part_four]
theorem wordsAt_set (bs : List UInt8) (i : Nat) (h : i < 64) :
    (wordsAt bs i).set (i / 4) ((wordsAt bs i).getD (i / 4) 0 * 256 + (bs.getD i 0).toNat) = wordsAt bs (i + 1) := by
  apply List.ext_getElem
  · simp [wordsAt]
  · intro j h1 h2
    have hj : j < 16 := by simpa [wordsAt] using h2
    rw [List.getElem_set]
    by_cases e : i / 4 = j
    · rw [if_pos e, e, wordsAt_get bs i j hj]
      simp only [wordsAt, List.getElem_map, List.getElem_range]
      rw [show min 4 (i - 4 * j) = i % 4 by omega, show min 4 (i + 1 - 4 * j) = i % 4 + 1 by omega, part, show 4 * j + i % 4 = i by omega]
    · rw [if_neg e]
      simp only [wordsAt, List.getElem_map, List.getElem_range]
      have : min 4 (i - 4 * j) = min 4 (i + 1 - 4 * j) := by omega
      rw [this]
theorem wordsAt_lt (bs : List UInt8) (i : Nat) (h : i < 64) : (wordsAt bs i).getD (i / 4) 0 < 16777216 := by
  rw [wordsAt_get bs i _ (by omega), show min 4 (i - 4 * (i / 4)) = i % 4 by omega]
  have h1 := part_lt bs (i / 4) (i % 4)
  have h2 : 256 ^ (i % 4) ≤ 256 ^ 3 := Nat.pow_le_pow_right (by omega) (by omega)
  omega
theorem shl_val (x c : Nat) (hx : x < 16777216) (hc : c < 256) : bits .or .u32 ((x : Int) * 256) (c : Int) = ((x * 256 + c : Nat) : Int) := by
  rw [show (x : Int) * 256 = ((x * 256 : Nat) : Int) by omega, u32_or_nat _ _ (by omega) (by omega), nat_join 8 _ _ (by omega) (by omega)]

set_option maxRecDepth 100000 in
set_option maxHeartbeats 2000000 in
theorem impl_words (b off cap : Nat) (bs : List UInt8) (w : World) (h : Sl w (some ⟨b, off, none⟩) 64 bs) :
    Calls Tryd.prog 69 #[.slice (some ⟨b, off, none⟩) 64 cap] w fun e w' => e = .returned (.agg #[.int .u32 (be32 bs 0 : Int), .int .u32 (be32 bs 1 : Int), .int .u32 (be32 bs 2 : Int), .int .u32 (be32 bs 3 : Int), .int .u32 (be32 bs 4 : Int), .int .u32 (be32 bs 5 : Int), .int .u32 (be32 bs 6 : Int), .int .u32 (be32 bs 7 : Int), .int .u32 (be32 bs 8 : Int), .int .u32 (be32 bs 9 : Int), .int .u32 (be32 bs 10 : Int), .int .u32 (be32 bs 11 : Int), .int .u32 (be32 bs 12 : Int), .int .u32 (be32 bs 13 : Int), .int .u32 (be32 bs 14 : Int), .int .u32 (be32 bs 15 : Int)]) ∧ Below w.heap.size w w' := by
  have hbl := h.lt (by omega)
  go_enter Tryd.func69, Tryd.ntmps69
  go_wp2_with fail
  go_loopw [9] (fun iv wr => ∃ i : Nat, i ≤ 64 ∧ iv = .int .i64 (i : Int) ∧ Arr wr (w.heap.size + 1) 88 (wordsAt bs i) ∧ Arr wr w.heap.size 88 (wordsAt bs 0) ∧ Below w.heap.size w wr) (fun iv _ => 64 - (intOf iv).toNat)
  case atStart =>
    refine ⟨0, Nat.zero_le _, rfl, ?_, ?_, ((Below.refl _ _).alloc (Nat.le_refl _) _).alloc (by simp) _⟩
    · rw [wordsAt_zero]; exact arr_new _ _ _ (by simp) rfl
    · rw [wordsAt_zero]; exact (arr_new _ _ _ rfl rfl).below ((Below.refl _ _).alloc (Nat.le_refl _) _)
  case round =>
    obtain ⟨i, hi, rfl, hA, hR, hB⟩ := hrel
    by_cases hlt : i < 64
    · have hS := h.below hB
      have c0 := hS.at i (by have := hS.1; omega)
      have hg0 : bs[i]'(by have := hS.1; omega) = bs.getD i 0 := by rw [List.getD_eq_getElem?_getD, List.getElem?_eq_getElem (by have := hS.1; omega)]; rfl
      rw [hg0] at c0
      obtain ⟨q, hq, hqi⟩ : ∃ q : Nat, i / 4 = q ∧ (i : Int) / 4 = (q : Int) := ⟨_, rfl, by omega⟩
      have hq16 : (q : Int) < 16 := by omega
      have c1 := hA.at q (by rw [wordsAt_length]; omega)
      have c2 := hA.frozen q
      have hx := wordsAt_lt bs i hlt
      have hst := wordsAt_set bs i hlt
      have hc := (bs.getD i 0).toNat_lt
      have hsh := shl_val ((wordsAt bs i).getD (i / 4) 0) (bs.getD i 0).toNat hx hc
      have hA2 := hA.set q ((wordsAt bs i).getD (i / 4) 0 * 256 + (bs.getD i 0).toNat)
      rw [← hq, hst, hq] at hA2
      rw [hq] at hx hsh
      generalize (wordsAt bs i).getD q 0 = x at *
      generalize (bs.getD i 0).toNat = c at *
      have HA2 := Hid.mk' hA2
      have HSH := Hid.mk' hsh
      clear hS hst hA2 hsh hg0 hq
      go_wp2_with fail
      go_roundw
      case rel =>
        refine ⟨i + 1, by omega, by go_num, ?_, ?_, ?_⟩
        · rw [HSH.out]; exact HA2.out.1
        · rw [HSH.out]; exact hR.grown HA2.out.2 (by simp)
        · rw [HSH.out]; exact hB.trans (below_grown HA2.out.2 (by omega) hB.size)
      case measure => simp [intOf]; omega
    · have HE : Hid (i = 64) := by show _ = _; omega
      have hA' : Arr wr (w.heap.size + 1) 88 [be32 bs 0, be32 bs 1, be32 bs 2, be32 bs 3, be32 bs 4, be32 bs 5, be32 bs 6, be32 bs 7, be32 bs 8, be32 bs 9, be32 bs 10, be32 bs 11, be32 bs 12, be32 bs 13, be32 bs 14, be32 bs 15] := by
        have := hA
        rw [HE.out, wordsAt_all] at this
        exact this
      rw [wordsAt_zero] at hR
      obtain ⟨a0, a1, a2, a3, a4, a5, a6, a7, a8, a9, a10, a11, a12, a13, a14, a15⟩ := hA'.sixteen
      obtain ⟨r0, r1, r2, r3, r4, r5, r6, r7, r8, r9, r10, r11, r12, r13, r14, r15⟩ := hR.sixteen
      have hfz := hR.frozen
      clear hA hA' hR
      go_wp2_with fail
      have hBz := ((((((((((((((((hB.setCell (p := ⟨w.heap.size, 0, none⟩) (Nat.le_refl _) (.int .u32 (be32 bs 0 : Int))).setCell (p := ⟨w.heap.size, 1, none⟩) (Nat.le_refl _) (.int .u32 (be32 bs 1 : Int))).setCell (p := ⟨w.heap.size, 2, none⟩) (Nat.le_refl _) (.int .u32 (be32 bs 2 : Int))).setCell (p := ⟨w.heap.size, 3, none⟩) (Nat.le_refl _) (.int .u32 (be32 bs 3 : Int))).setCell (p := ⟨w.heap.size, 4, none⟩) (Nat.le_refl _) (.int .u32 (be32 bs 4 : Int))).setCell (p := ⟨w.heap.size, 5, none⟩) (Nat.le_refl _) (.int .u32 (be32 bs 5 : Int))).setCell (p := ⟨w.heap.size, 6, none⟩) (Nat.le_refl _) (.int .u32 (be32 bs 6 : Int))).setCell (p := ⟨w.heap.size, 7, none⟩) (Nat.le_refl _) (.int .u32 (be32 bs 7 : Int))).setCell (p := ⟨w.heap.size, 8, none⟩) (Nat.le_refl _) (.int .u32 (be32 bs 8 : Int))).setCell (p := ⟨w.heap.size, 9, none⟩) (Nat.le_refl _) (.int .u32 (be32 bs 9 : Int))).setCell (p := ⟨w.heap.size, 10, none⟩) (Nat.le_refl _) (.int .u32 (be32 bs 10 : Int))).setCell (p := ⟨w.heap.size, 11, none⟩) (Nat.le_refl _) (.int .u32 (be32 bs 11 : Int))).setCell (p := ⟨w.heap.size, 12, none⟩) (Nat.le_refl _) (.int .u32 (be32 bs 12 : Int))).setCell (p := ⟨w.heap.size, 13, none⟩) (Nat.le_refl _) (.int .u32 (be32 bs 13 : Int))).setCell (p := ⟨w.heap.size, 14, none⟩) (Nat.le_refl _) (.int .u32 (be32 bs 14 : Int))).setCell (p := ⟨w.heap.size, 15, none⟩) (Nat.le_refl _) (.int .u32 (be32 bs 15 : Int)))
      refine bodyPost_ret (v := .agg #[.int .u32 (be32 bs 0 : Int), .int .u32 (be32 bs 1 : Int), .int .u32 (be32 bs 2 : Int), .int .u32 (be32 bs 3 : Int), .int .u32 (be32 bs 4 : Int), .int .u32 (be32 bs 5 : Int), .int .u32 (be32 bs 6 : Int), .int .u32 (be32 bs 7 : Int), .int .u32 (be32 bs 8 : Int), .int .u32 (be32 bs 9 : Int), .int .u32 (be32 bs 10 : Int), .int .u32 (be32 bs 11 : Int), .int .u32 (be32 bs 12 : Int), .int .u32 (be32 bs 13 : Int), .int .u32 (be32 bs 14 : Int), .int .u32 (be32 bs 15 : Int)]) ?h1 rfl ⟨rfl, hBz⟩
      simp [results, Tryd.results69, go_sem, r0, r1, r2, r3, r4, r5, r6, r7, r8, r9, r10, r11, r12, r13, r14, r15]

end Go.Proofs.YtmdhkoiimffmlaaDoor.sha
