/- The program's words of a block. Plain mathematics of the program's way to turn a block: sixteen words that are turned in place. The program's bytes of a sum. The program's turning of a block. -/
import Derived.Test.YteammdkipnfmnaaDoorShal
import Derived.Test.YteammdkipnfmnaaDoorShad
import Derived.Test.YteammdkipnfmnaaDoorShac
namespace Go.Proofs.YteammdkipnfmnaaDoor.sha
open Go.RowKit Go.Proofs.YteammdkipnfmnaaDoor.base Go.Proofs.YteammdkipnfmnaaDoor.padmath
set_option linter.unusedVariables false
set_option linter.unusedSimpArgs false

/-! ### arrays of words -/
def uVals (l : List Nat) : List Value := l.map fun (z : Nat) => .int .u32 (z : Int)
theorem uVals_set (l : List Nat) (k z : Nat) : (uVals l).set k (.int .u32 (z : Int)) = uVals (l.set k z) := by simp [uVals]
def Arr (w : World) (g : Nat) (t : TypeId) (l : List Nat) : Prop := w.heap[g]? = some (.cells (uVals l).toArray t (0, 0))
section
variable {w w' : World} {g : Nat} {t : TypeId} {l : List Nat} {row : Option Nat}
theorem Arr.at (h : Arr w g t l) (i : Nat) (hi : i < l.length) : w.cell? ⟨g, i, none⟩ = some (.int .u32 ((l.getD i 0 : Nat) : Int)) := by
  rw [cell_of_row w g i _ t _ h]
  simp [uVals, List.getD, hi]
theorem Arr.lt (h : Arr w g t l) : g < w.heap.size := (Array.getElem?_eq_some_iff.1 h).1
theorem Arr.frozen (h : Arr w g t l) (i : Nat) : w.frozen? ⟨g, i, none⟩ = false := by
  unfold Arr at h
  simp only [World.frozen?, h]
  simp
theorem Arr.set (h : Arr w g t l) (k z : Nat) : Arr (w.setCell ⟨g, k, none⟩ (.int .u32 (z : Int))) g t (l.set k z) ∧ w.grownBy (w.setCell ⟨g, k, none⟩ (.int .u32 (z : Int))) (some g) := by
  have := set_cur h k (.int .u32 (z : Int))
  refine ⟨?_, this.2⟩
  unfold Arr
  rw [this.1, ← uVals_set]
  simp
theorem Arr.grown (h : Arr w g t l) (hg : w.grownBy w' row) (hne : some g ≠ row) : Arr w' g t l := (hg.block g h.lt hne).trans h
theorem Arr.below (h : Arr w g t l) (hb : Below w.heap.size w w') : Arr w' g t l := (hb.block g h.lt).trans h
end

theorem arr_new {w : World} {t : TypeId} (cs : Array Value) (l : List Nat) (g : Nat) (hg : g = w.heap.size) (hc : cs = (uVals l).toArray) : Arr (w.alloc (.cells cs t)) g t l := by
  subst hg; subst hc; exact heap_alloc_new w _
theorem Arr.sixteen {w : World} {g : Nat} {t : TypeId} {x0 x1 x2 x3 x4 x5 x6 x7 x8 x9 x10 x11 x12 x13 x14 x15 : Nat} (h : Arr w g t [x0, x1, x2, x3, x4, x5, x6, x7, x8, x9, x10, x11, x12, x13, x14, x15]) :
    w.cell? ⟨g, 0, none⟩ = some (.int .u32 (x0 : Int)) ∧ w.cell? ⟨g, 1, none⟩ = some (.int .u32 (x1 : Int)) ∧ w.cell? ⟨g, 2, none⟩ = some (.int .u32 (x2 : Int)) ∧ w.cell? ⟨g, 3, none⟩ = some (.int .u32 (x3 : Int)) ∧ w.cell? ⟨g, 4, none⟩ = some (.int .u32 (x4 : Int)) ∧ w.cell? ⟨g, 5, none⟩ = some (.int .u32 (x5 : Int)) ∧ w.cell? ⟨g, 6, none⟩ = some (.int .u32 (x6 : Int)) ∧ w.cell? ⟨g, 7, none⟩ = some (.int .u32 (x7 : Int)) ∧ w.cell? ⟨g, 8, none⟩ = some (.int .u32 (x8 : Int)) ∧ w.cell? ⟨g, 9, none⟩ = some (.int .u32 (x9 : Int)) ∧ w.cell? ⟨g, 10, none⟩ = some (.int .u32 (x10 : Int)) ∧ w.cell? ⟨g, 11, none⟩ = some (.int .u32 (x11 : Int)) ∧ w.cell? ⟨g, 12, none⟩ = some (.int .u32 (x12 : Int)) ∧ w.cell? ⟨g, 13, none⟩ = some (.int .u32 (x13 : Int)) ∧ w.cell? ⟨g, 14, none⟩ = some (.int .u32 (x14 : Int)) ∧ w.cell? ⟨g, 15, none⟩ = some (.int .u32 (x15 : Int)) :=
  ⟨h.at 0 (by simp), h.at 1 (by simp), h.at 2 (by simp), h.at 3 (by simp), h.at 4 (by simp), h.at 5 (by simp), h.at 6 (by simp), h.at 7 (by simp), h.at 8 (by simp), h.at 9 (by simp), h.at 10 (by simp), h.at 11 (by simp), h.at 12 (by simp), h.at 13 (by simp), h.at 14 (by simp), h.at 15 (by simp)⟩
theorem Arr.eight {w : World} {g : Nat} {t : TypeId} {x0 x1 x2 x3 x4 x5 x6 x7 : Nat} (h : Arr w g t [x0, x1, x2, x3, x4, x5, x6, x7]) :
    w.cell? ⟨g, 0, none⟩ = some (.int .u32 (x0 : Int)) ∧ w.cell? ⟨g, 1, none⟩ = some (.int .u32 (x1 : Int)) ∧ w.cell? ⟨g, 2, none⟩ = some (.int .u32 (x2 : Int)) ∧ w.cell? ⟨g, 3, none⟩ = some (.int .u32 (x3 : Int)) ∧ w.cell? ⟨g, 4, none⟩ = some (.int .u32 (x4 : Int)) ∧ w.cell? ⟨g, 5, none⟩ = some (.int .u32 (x5 : Int)) ∧ w.cell? ⟨g, 6, none⟩ = some (.int .u32 (x6 : Int)) ∧ w.cell? ⟨g, 7, none⟩ = some (.int .u32 (x7 : Int)) :=
  ⟨h.at 0 (by simp), h.at 1 (by simp), h.at 2 (by simp), h.at 3 (by simp), h.at 4 (by simp), h.at 5 (by simp), h.at 6 (by simp), h.at 7 (by simp)⟩

/-! ### the words of a block's bytes -/
def part (bs : List UInt8) (j : Nat) : Nat → Nat
  | 0 => 0
  | r + 1 => part bs j r * 256 + (bs.getD (4 * j + r) 0).toNat
theorem part_lt (bs : List UInt8) (j r : Nat) : part bs j r < 256 ^ r := by
  induction r with
  | zero => simp [part]
  | succ r ih =>
    have := (bs.getD (4 * j + r) 0).toNat_lt
    rw [part, Nat.pow_succ]; omega
theorem part_four (bs : List UInt8) (j : Nat) : part bs j 4 = be32 bs j := by
  simp only [part, be32, Nat.add_zero]; omega
def wordsAt (bs : List UInt8) (i : Nat) : List Nat := (List.range 16).map fun j => part bs j (min 4 (i - 4 * j))
theorem wordsAt_length (bs : List UInt8) (i : Nat) : (wordsAt bs i).length = 16 := by simp [wordsAt]
theorem wordsAt_get (bs : List UInt8) (i j : Nat) (h : j < 16) : (wordsAt bs i).getD j 0 = part bs j (min 4 (i - 4 * j)) := by
  simp [wordsAt, List.getD, h]
theorem wordsAt_zero (bs : List UInt8) : wordsAt bs 0 = [0, 0, 0, 0, 0, 0, 0, 0, 0, 0, 0, 0, 0, 0, 0, 0] := by
  have e : wordsAt bs 0 = (List.range 16).map fun _ => 0 := by
    unfold wordsAt; apply List.map_congr_left; intro j _; simp [part]
  rw [e]; rfl
theorem wordsAt_all (bs : List UInt8) : wordsAt bs 64 = (List.range 16).map (be32 bs) := by
  unfold wordsAt
  apply List.map_congr_left
  intro j hj
  have := List.mem_range.1 hj
  rw [show min 4 (64 - 4 * j) = 4 by omega, part_four]
theorem wordsAt_set (bs : List UInt8) (i : Nat) (h : i < 64) :
    (wordsAt bs i).set (i / 4) ((wordsAt bs i).getD (i / 4) 0 * 256 + (bs.getD i 0).toNat) = wordsAt bs (i + 1) := by
  apply List.ext_getElem
  · simp [wordsAt]
  · intro j h1 h2
    have hj : j < 16 := by simpa [wordsAt] using h2
    rw [List.getElem_set]
    by_cases e : i / 4 = j
    · rw [if_pos e, e, wordsAt_get bs i j hj]
      simp only [wordsAt, List.getElem_map, List.getElem_range]
      rw [show min 4 (i - 4 * j) = i % 4 by omega, show min 4 (i + 1 - 4 * j) = i % 4 + 1 by omega, part, show 4 * j + i % 4 = i by omega]
    · rw [if_neg e]
      simp only [wordsAt, List.getElem_map, List.getElem_range]
      have : min 4 (i - 4 * j) = min 4 (i + 1 - 4 * j) := by omega
      rw [this]
theorem wordsAt_lt (bs : List UInt8) (i : Nat) (h : i < 64) : (wordsAt bs i).getD (i / 4) 0 < 16777216 := by
  rw [wordsAt_get bs i _ (by omega), show min 4 (i - 4 * (i / 4)) = i % 4 by omega]
  have h1 := part_lt bs (i / 4) (i % 4)
  have h2 : 256 ^ (i % 4) ≤ 256 ^ 3 := Nat.pow_le_pow_right (by omega) (by omega)
  omega
theorem shl_val (x c : Nat) (hx : x < 16777216) (hc : c < 256) : bits .or .u32 ((x : Int) * 256) (c : Int) = ((x * 256 + c : Nat) : Int) := by
  rw [show (x : Int) * 256 = ((x * 256 : Nat) : Int) by omega, u32_or_nat _ _ (by omega) (by omega), nat_join 8 _ _ (by omega) (by omega)]

set_option maxRecDepth 100000 in
set_option maxHeartbeats 2000000 in
theorem impl_words (b off cap : Nat) (bs : List UInt8) (w : World) (h : Sl w (some ⟨b, off, none⟩) 64 bs) :
    Calls Tryd.prog 85 #[.slice (some ⟨b, off, none⟩) 64 cap] w fun e w' => e = .returned (.agg #[.int .u32 (be32 bs 0 : Int), .int .u32 (be32 bs 1 : Int), .int .u32 (be32 bs 2 : Int), .int .u32 (be32 bs 3 : Int), .int .u32 (be32 bs 4 : Int), .int .u32 (be32 bs 5 : Int), .int .u32 (be32 bs 6 : Int), .int .u32 (be32 bs 7 : Int), .int .u32 (be32 bs 8 : Int), .int .u32 (be32 bs 9 : Int), .int .u32 (be32 bs 10 : Int), .int .u32 (be32 bs 11 : Int), .int .u32 (be32 bs 12 : Int), .int .u32 (be32 bs 13 : Int), .int .u32 (be32 bs 14 : Int), .int .u32 (be32 bs 15 : Int)]) ∧ Below w.heap.size w w' := by
  have hbl := h.lt (by omega)
  go_enter Tryd.func85, Tryd.ntmps85
  go_wp2_with fail
  go_loopw [9] (fun iv wr => ∃ i : Nat, i ≤ 64 ∧ iv = .int .i64 (i : Int) ∧ Arr wr (w.heap.size + 1) 119 (wordsAt bs i) ∧ Arr wr w.heap.size 119 (wordsAt bs 0) ∧ Below w.heap.size w wr) (fun iv _ => 64 - (intOf iv).toNat)
  case atStart =>
    refine ⟨0, Nat.zero_le _, rfl, ?_, ?_, ((Below.refl _ _).alloc (Nat.le_refl _) _).alloc (by simp) _⟩
    · rw [wordsAt_zero]; exact arr_new _ _ _ (by simp) rfl
    · rw [wordsAt_zero]; exact (arr_new _ _ _ rfl rfl).below ((Below.refl _ _).alloc (Nat.le_refl _) _)
  case round =>
    obtain ⟨i, hi, rfl, hA, hR, hB⟩ := hrel
    by_cases hlt : i < 64
    · have hS := h.below hB
      have c0 := hS.at i (by have := hS.1; omega)
      have hg0 : bs[i]'(by have := hS.1; omega) = bs.getD i 0 := by rw [List.getD_eq_getElem?_getD, List.getElem?_eq_getElem (by have := hS.1; omega)]; rfl
      rw [hg0] at c0
      obtain ⟨q, hq, hqi⟩ : ∃ q : Nat, i / 4 = q ∧ (i : Int) / 4 = (q : Int) := ⟨_, rfl, by omega⟩
      have hq16 : (q : Int) < 16 := by omega
      have c1 := hA.at q (by rw [wordsAt_length]; omega)
      have c2 := hA.frozen q
      have hx := wordsAt_lt bs i hlt
      have hst := wordsAt_set bs i hlt
      have hc := (bs.getD i 0).toNat_lt
      have hsh := shl_val ((wordsAt bs i).getD (i / 4) 0) (bs.getD i 0).toNat hx hc
      have hA2 := hA.set q ((wordsAt bs i).getD (i / 4) 0 * 256 + (bs.getD i 0).toNat)
      rw [← hq, hst, hq] at hA2
      rw [hq] at hx hsh
      generalize (wordsAt bs i).getD q 0 = x at *
      generalize (bs.getD i 0).toNat = c at *
      have HA2 := Hid.mk' hA2
      have HSH := Hid.mk' hsh
      clear hS hst hA2 hsh hg0 hq
      go_wp2_with fail
      go_roundw
      case rel =>
        refine ⟨i + 1, by omega, by go_num, ?_, ?_, ?_⟩
        · rw [HSH.out]; exact HA2.out.1
        · rw [HSH.out]; exact hR.grown HA2.out.2 (by simp)
        · rw [HSH.out]; exact hB.trans (below_grown HA2.out.2 (by omega) hB.size)
      case measure => simp [intOf]; omega
    · have HE : Hid (i = 64) := by show _ = _; omega
      have hA' : Arr wr (w.heap.size + 1) 119 [be32 bs 0, be32 bs 1, be32 bs 2, be32 bs 3, be32 bs 4, be32 bs 5, be32 bs 6, be32 bs 7, be32 bs 8, be32 bs 9, be32 bs 10, be32 bs 11, be32 bs 12, be32 bs 13, be32 bs 14, be32 bs 15] := by
        have := hA
        rw [HE.out, wordsAt_all] at this
        exact this
      rw [wordsAt_zero] at hR
      obtain ⟨a0, a1, a2, a3, a4, a5, a6, a7, a8, a9, a10, a11, a12, a13, a14, a15⟩ := hA'.sixteen
      obtain ⟨r0, r1, r2, r3, r4, r5, r6, r7, r8, r9, r10, r11, r12, r13, r14, r15⟩ := hR.sixteen
      have hfz := hR.frozen
      clear hA hA' hR
      go_wp2_with fail
      have hBz := ((((((((((((((((hB.setCell (p := ⟨w.heap.size, 0, none⟩) (Nat.le_refl _) (.int .u32 (be32 bs 0 : Int))).setCell (p := ⟨w.heap.size, 1, none⟩) (Nat.le_refl _) (.int .u32 (be32 bs 1 : Int))).setCell (p := ⟨w.heap.size, 2, none⟩) (Nat.le_refl _) (.int .u32 (be32 bs 2 : Int))).setCell (p := ⟨w.heap.size, 3, none⟩) (Nat.le_refl _) (.int .u32 (be32 bs 3 : Int))).setCell (p := ⟨w.heap.size, 4, none⟩) (Nat.le_refl _) (.int .u32 (be32 bs 4 : Int))).setCell (p := ⟨w.heap.size, 5, none⟩) (Nat.le_refl _) (.int .u32 (be32 bs 5 : Int))).setCell (p := ⟨w.heap.size, 6, none⟩) (Nat.le_refl _) (.int .u32 (be32 bs 6 : Int))).setCell (p := ⟨w.heap.size, 7, none⟩) (Nat.le_refl _) (.int .u32 (be32 bs 7 : Int))).setCell (p := ⟨w.heap.size, 8, none⟩) (Nat.le_refl _) (.int .u32 (be32 bs 8 : Int))).setCell (p := ⟨w.heap.size, 9, none⟩) (Nat.le_refl _) (.int .u32 (be32 bs 9 : Int))).setCell (p := ⟨w.heap.size, 10, none⟩) (Nat.le_refl _) (.int .u32 (be32 bs 10 : Int))).setCell (p := ⟨w.heap.size, 11, none⟩) (Nat.le_refl _) (.int .u32 (be32 bs 11 : Int))).setCell (p := ⟨w.heap.size, 12, none⟩) (Nat.le_refl _) (.int .u32 (be32 bs 12 : Int))).setCell (p := ⟨w.heap.size, 13, none⟩) (Nat.le_refl _) (.int .u32 (be32 bs 13 : Int))).setCell (p := ⟨w.heap.size, 14, none⟩) (Nat.le_refl _) (.int .u32 (be32 bs 14 : Int))).setCell (p := ⟨w.heap.size, 15, none⟩) (Nat.le_refl _) (.int .u32 (be32 bs 15 : Int)))
      refine bodyPost_ret (v := .agg #[.int .u32 (be32 bs 0 : Int), .int .u32 (be32 bs 1 : Int), .int .u32 (be32 bs 2 : Int), .int .u32 (be32 bs 3 : Int), .int .u32 (be32 bs 4 : Int), .int .u32 (be32 bs 5 : Int), .int .u32 (be32 bs 6 : Int), .int .u32 (be32 bs 7 : Int), .int .u32 (be32 bs 8 : Int), .int .u32 (be32 bs 9 : Int), .int .u32 (be32 bs 10 : Int), .int .u32 (be32 bs 11 : Int), .int .u32 (be32 bs 12 : Int), .int .u32 (be32 bs 13 : Int), .int .u32 (be32 bs 14 : Int), .int .u32 (be32 bs 15 : Int)]) ?h1 rfl ⟨rfl, hBz⟩
      simp [results, Tryd.results85, go_sem, r0, r1, r2, r3, r4, r5, r6, r7, r8, r9, r10, r11, r12, r13, r14, r15]

end Go.Proofs.YteammdkipnfmnaaDoor.sha

namespace Go.Proofs.YteammdkipnfmnaaDoor.sha
open Go.RowKit Go.Proofs.YteammdkipnfmnaaDoor.base Go.Proofs.YteammdkipnfmnaaDoor.padmath
set_option linter.unusedVariables false
set_option linter.unusedSimpArgs false

def cycI (r j : Nat) : Nat := max r 16 - 1 - (max r 16 - 1 - j) % 16
def cyc (bs : List UInt8) (r : Nat) : List Nat := (List.range 16).map fun j => (ws bs 64).getD (cycI r j) 0
theorem cyc_length (bs : List UInt8) (r : Nat) : (cyc bs r).length = 16 := by simp [cyc]
theorem cyc_get (bs : List UInt8) (r j : Nat) (h : j < 16) : (cyc bs r).getD j 0 = (ws bs 64).getD (cycI r j) 0 := by simp [cyc, List.getD, h]
theorem cycI_low (r j : Nat) (h : r ≤ 16) (hj : j < 16) : cycI r j = j := by
  unfold cycI; rw [show max r 16 = 16 by omega]; omega
theorem cycI_high (r j : Nat) (h : 16 ≤ r) : cycI r j = r - 1 - (r - 1 - j) % 16 := by
  unfold cycI; rw [show max r 16 = r by omega]
theorem cyc_low (bs : List UInt8) (r : Nat) (h : r < 16) : cyc bs (r + 1) = cyc bs r := by
  unfold cyc
  apply List.map_congr_left
  intro j hj
  have := List.mem_range.1 hj
  rw [cycI_low _ _ (by omega) this, cycI_low _ _ (by omega) this]
theorem ws_pre (bs : List UInt8) (j k n : Nat) (hj : j < k) (hk : k ≤ n) : (ws bs n).getD j 0 = (ws bs k).getD j 0 := by
  induction n with
  | zero => omega
  | succ n ih =>
    by_cases e : k = n + 1
    · rw [e]
    · rw [← ih (by omega), ws, List.getD_eq_getElem?_getD, List.getElem?_append_left (by rw [ws_length]; omega), ← List.getD_eq_getElem?_getD]
theorem ws_at (bs : List UInt8) (k : Nat) (h : k < 64) : (ws bs 64).getD k 0 = nextWord bs (ws bs k) k := by
  rw [ws_pre bs k (k + 1) 64 (by omega) (by omega), ws, List.getD_eq_getElem?_getD, List.getElem?_append_right (by rw [ws_length]; omega), ws_length, Nat.sub_self]
  rfl
theorem ws_low (bs : List UInt8) (k : Nat) (h : k < 16) : (ws bs 64).getD k 0 = be32 bs k := by
  rw [ws_at bs k (by omega), nextWord, if_pos h]
theorem ws_high (bs : List UInt8) (k : Nat) (h : 16 ≤ k) (h2 : k < 64) : (ws bs 64).getD k 0 =
    ((ws bs 64).getD (k - 16) 0 + ssig0 ((ws bs 64).getD (k - 15) 0) + (ws bs 64).getD (k - 7) 0 + ssig1 ((ws bs 64).getD (k - 2) 0)) % 4294967296 := by
  rw [ws_at bs k h2, nextWord, if_neg (by omega), ws_pre bs (k - 16) k 64 (by omega) (by omega), ws_pre bs (k - 15) k 64 (by omega) (by omega), ws_pre bs (k - 7) k 64 (by omega) (by omega), ws_pre bs (k - 2) k 64 (by omega) (by omega)]
theorem cyc_zero (bs : List UInt8) : cyc bs 0 = (List.range 16).map (be32 bs) := by
  unfold cyc
  apply List.map_congr_left
  intro j hj
  have := List.mem_range.1 hj
  rw [cycI_low _ _ (by omega) this, ws_low _ _ this]
theorem cyc_at (bs : List UInt8) (r : Nat) (h : r < 16) : (cyc bs r).getD (r % 16) 0 = (ws bs 64).getD r 0 := by
  rw [cyc_get _ _ _ (by omega), cycI_low _ _ (by omega) (by omega), Nat.mod_eq_of_lt h]
theorem cyc_set (bs : List UInt8) (r : Nat) (h : 16 ≤ r) : (cyc bs r).set (r % 16) ((ws bs 64).getD r 0) = cyc bs (r + 1) := by
  apply List.ext_getElem
  · simp [cyc]
  · intro j h1 h2
    have hj : j < 16 := by simpa [cyc] using h2
    rw [List.getElem_set]
    simp only [cyc, List.getElem_map, List.getElem_range]
    by_cases e : r % 16 = j
    · rw [if_pos e, cycI_high _ _ (by omega), show r + 1 - 1 - (r + 1 - 1 - j) % 16 = r by omega]
    · rw [if_neg e, cycI_high _ _ h, cycI_high _ _ (by omega), show r - 1 - (r - 1 - j) % 16 = r + 1 - 1 - (r + 1 - 1 - j) % 16 by omega]
theorem cyc_16 (bs : List UInt8) (r : Nat) (h : 16 ≤ r) : (cyc bs r).getD (r % 16) 0 = (ws bs 64).getD (r - 16) 0 := by
  rw [cyc_get _ _ _ (by omega), cycI_high _ _ h, show r - 1 - (r - 1 - r % 16) % 16 = r - 16 by omega]
theorem cyc_7 (bs : List UInt8) (r : Nat) (h : 16 ≤ r) : (cyc bs r).getD ((r + 9) % 16) 0 = (ws bs 64).getD (r - 7) 0 := by
  rw [cyc_get _ _ _ (by omega), cycI_high _ _ h, show r - 1 - (r - 1 - (r + 9) % 16) % 16 = r - 7 by omega]
theorem cyc_15 (bs : List UInt8) (r : Nat) (h : 16 ≤ r) : (cyc bs r).getD ((r + 1) % 16) 0 = (ws bs 64).getD (r - 15) 0 := by
  rw [cyc_get _ _ _ (by omega), cycI_high _ _ h, show r - 1 - (r - 1 - (r + 1) % 16) % 16 = r - 15 by omega]
theorem cyc_2 (bs : List UInt8) (r : Nat) (h : 16 ≤ r) : (cyc bs r).getD ((r + 14) % 16) 0 = (ws bs 64).getD (r - 2) 0 := by
  rw [cyc_get _ _ _ (by omega), cycI_high _ _ h, show r - 1 - (r - 1 - (r + 14) % 16) % 16 = r - 2 by omega]

def KW (w : World) : Prop := ∀ i, i < 64 → w.cell? ⟨0, i, none⟩ = some (.int .u32 ((K64.getD i 0 : Nat) : Int))
theorem KW.below {w w' : World} (h : KW w) (hb : Below w.heap.size w w') : KW w' := fun i hi =>
  (hb.cell (p := ⟨0, i, none⟩) (World.block_lt_of_cell? w _ (h i hi))).trans (h i hi)
end Go.Proofs.YteammdkipnfmnaaDoor.sha

namespace Go.Proofs.YteammdkipnfmnaaDoor.sha
open Go.RowKit Go.Proofs.YteammdkipnfmnaaDoor.base Go.Proofs.YteammdkipnfmnaaDoor.padmath
set_option linter.unusedVariables false
set_option linter.unusedSimpArgs false

theorem aggIndex (x0 x1 x2 x3 x4 x5 x6 x7 : Nat) (k : Nat) (hk : k < 8) (w : World) :
    (Instr.index 117 (.agg #[.int .u32 (x0 : Int), .int .u32 (x1 : Int), .int .u32 (x2 : Int), .int .u32 (x3 : Int), .int .u32 (x4 : Int), .int .u32 (x5 : Int), .int .u32 (x6 : Int), .int .u32 (x7 : Int)]) (.int .i64 (k : Int))).run Tryd.prog w = .ok (.int .u32 ([x0, x1, x2, x3, x4, x5, x6, x7].getD k 0 : Nat)) w := by
  have hcs : k = 0 ∨ k = 1 ∨ k = 2 ∨ k = 3 ∨ k = 4 ∨ k = 5 ∨ k = 6 ∨ k = 7 := by omega
  rcases hcs with rfl | rfl | rfl | rfl | rfl | rfl | rfl | rfl
  all_goals (show _ = _; kernel_rfl)

theorem four_val8 (x : Nat) (h : x < 4294967296) : [Value.int .u8 ((x : Int) / 16777216), Value.int .u8 ((x : Int) / 65536 % 256), Value.int .u8 ((x : Int) / 256 % 256), Value.int .u8 ((x : Int) % 256)] = byteVals (word4 x) := by
  have e : ∀ n : Nat, ((UInt8.ofNat n).toNat : Int) = (n : Int) % 256 := byte_of
  simp only [byteVals, word4, List.map_cons, List.map_nil, e]
  rw [show ((x / 16777216 : Nat) : Int) % 256 = (x : Int) / 16777216 by omega, show ((x / 65536 : Nat) : Int) % 256 = (x : Int) / 65536 % 256 by omega, show ((x / 256 : Nat) : Int) % 256 = (x : Int) / 256 % 256 by omega]

set_option maxRecDepth 100000 in
set_option maxHeartbeats 2000000 in
theorem impl_bytes (x0 x1 x2 x3 x4 x5 x6 x7 : Nat) (w : World) (hx : ∀ x ∈ [x0, x1, x2, x3, x4, x5, x6, x7], x < 4294967296) :
    Calls Tryd.prog 86 #[.agg #[.int .u32 (x0 : Int), .int .u32 (x1 : Int), .int .u32 (x2 : Int), .int .u32 (x3 : Int), .int .u32 (x4 : Int), .int .u32 (x5 : Int), .int .u32 (x6 : Int), .int .u32 (x7 : Int)]] w fun e w' =>
      e = .returned (.string ⟨(([x0, x1, x2, x3, x4, x5, x6, x7].map word4).flatten).toArray⟩) ∧ Below w.heap.size w w' := by
  obtain ⟨i0, hi, hz0, hz1, hz2⟩ := info_parts info8
  have HIX := fun k hk wx => aggIndex x0 x1 x2 x3 x4 x5 x6 x7 k hk wx
  obtain ⟨H, hH⟩ : ∃ H, H = [x0, x1, x2, x3, x4, x5, x6, x7] := ⟨_, rfl⟩
  rw [← hH] at hx HIX ⊢
  have HH := Hid.mk' hH
  have HL : Hid (H.length = 8) := by show _ = _; rw [hH]; rfl
  clear hH
  have hba : Below w.heap.size w (w.alloc (.cells #[.int .u32 (x0 : Int), .int .u32 (x1 : Int), .int .u32 (x2 : Int), .int .u32 (x3 : Int), .int .u32 (x4 : Int), .int .u32 (x5 : Int), .int .u32 (x6 : Int), .int .u32 (x7 : Int)] 117)) := (Below.refl _ _).alloc (Nat.le_refl _) _
  have hA0 : Arr (w.alloc (.cells #[.int .u32 (x0 : Int), .int .u32 (x1 : Int), .int .u32 (x2 : Int), .int .u32 (x3 : Int), .int .u32 (x4 : Int), .int .u32 (x5 : Int), .int .u32 (x6 : Int), .int .u32 (x7 : Int)] 117)) w.heap.size 117 [x0, x1, x2, x3, x4, x5, x6, x7] := arr_new _ _ _ rfl rfl
  go_enter Tryd.func86, Tryd.ntmps86
  go_wp2_with (at_make; refine wpList_make_own _ rfl _ _ 92 rfl w.heap.size 5 i0 (.int .u8 0) 1 Tryd.underlying92 hi hz0 hz1 _ _ _ 32 rfl rfl rfl ?b2 ?b3 ?b4 ?_)
  case b2 => rw [hz2]; omega
  case b3 => unfold maxLen; omega
  case b4 => simp
  intro w1 hown hgrow
  have hA1 := hA0.grown hgrow (by simp)
  obtain ⟨c0, c1, c2, c3, c4, c5, c6, c7⟩ := hA1.eight
  have hB1 : Below w.heap.size w w1 := hba.grown hgrow (by simp) (fun k e => by cases e)
  have hO1 : Own w1 w.heap.size (w.heap.size + 1) 0 32 [] := ⟨rfl, hown⟩
  clear hown hgrow hA0 hA1 hba
  go_wp2_with (at_builtin; fail)
  go_loopw [3, 8] (fun v iv wr => ∃ (k g cp : Nat), k ≤ 8 ∧ iv = .int .i64 (k : Int) ∧ v = .slice (some ⟨g, 0, none⟩) (4 * k) cp ∧ Own wr w.heap.size g (4 * k) cp ((H.take k).map word4).flatten ∧ Below w.heap.size w wr) (fun _ iv _ => 8 - (intOf iv).toNat)
  case atStart => exact ⟨0, w.heap.size + 1, 32, Nat.zero_le _, rfl, rfl, hO1, hB1⟩
  case round =>
    clear c0 c1 c2 c3 c4 c5 c6 c7 hO1 hB1
    obtain ⟨k, g, cp, hk, rfl, rfl, hO, hB⟩ := hrel
    have hbw : w.heap.size ≤ wr.heap.size := hB.size
    by_cases hlt : k < 8
    · have hix := fun wx => HIX k hlt wx
      have hxk := getD_lt hx k
      have HF : Hid (((H.take k).map word4).flatten ++ word4 (H.getD k 0) = ((H.take (k + 1)).map word4).flatten) := take_word H k (by rw [HL.out]; exact hlt)
      have hc3 : 4 * k + 4 ≤ maxLen := by unfold maxLen; omega
      have hc4 : (4 * k + 4) * 1 ≤ 140737488355328 := by omega
      generalize H.getD k 0 = x at *
      clear HIX
      go_wp2_with (at_builtin; refine wpList_append_own _ rfl (.tmp 11) (.tmp 23) 92 rfl w.heap.size 5 i0 (.int .u8 0) 1 1 Tryd.underlying92 hi hz0 hz1 hz2 rfl (by decide) _ _ _ rfl (hO.2.alloc _) ⟨wr.heap.size, 0, none⟩ 4 4 [_, _, _, _] rfl rfl (cells_four _ _ _ _ _ _) (four_oneCell _ _ _ _ _) hc3 hc4 (le_alloc _ _ hbw) ?_)
      intro v2 w2 hown hgrow hnn
      rw [← List.map_take] at hown
      obtain ⟨g3, cp3, hv, hO3⟩ := own_app (m := 4) (ns := word4 x) hO.1 rfl (four_val8 x hxk) hnn hown
      subst hv
      rw [HF.out] at hO3
      have hB3 : Below w.heap.size w w2 := (hB.alloc hbw _).grown hgrow (le_alloc _ _ hbw) (fun k e => by simp [Value.ownBlock] at e; have := hO.lt; omega)
      have HO3 := Hid.mk' hO3
      clear hown hgrow hnn hO3 hO hB hix
      go_wp2_with (at_builtin; fail)
      go_roundw
      case rel => exact ⟨k + 1, g3, cp3, by omega, by go_num, rfl, HO3.out, hB3⟩
      case measure => simp [intOf]; omega
    · have HE : Hid (k = 8) := by show _ = _; omega
      have hcv := conv_own hO
      go_wp2_with (at_builtin; fail)
      go_ret
      refine ⟨ret_str ?_, hB⟩
      have hle : H.length ≤ k := by rw [HL.out, HE.out]; exact Nat.le_refl _
      rw [List.take_of_length_le (by simpa using hle)]

end Go.Proofs.YteammdkipnfmnaaDoor.sha

namespace Go.Proofs.YteammdkipnfmnaaDoor.sha
open Go.RowKit Go.Proofs.YteammdkipnfmnaaDoor.base Go.Proofs.YteammdkipnfmnaaDoor.padmath
set_option linter.unusedVariables false
set_option linter.unusedSimpArgs false

theorem Arr.drewN {w : World} {g : Nat} {t : TypeId} {l : List Nat} (h : Arr w g t l) (n : Nat) : Arr (w.drewN n) g t l := h
theorem addAll_comm (a b : List Nat) : addAll a b = addAll b a := by
  unfold addAll; apply List.map_congr_left; intro i _; rw [Nat.add_comm]
theorem chU (e f g : Nat) (he : e < 4294967296) (hf : f < 4294967296) (hg : g < 4294967296) :
    bits .xor .u32 (bits .and .u32 (e : Int) (f : Int)) (bits .and .u32 (bits .xor .u32 IntKind.u32.max (e : Int)) (g : Int)) = (ch e f g : Int) := by
  rw [show IntKind.u32.max = ((4294967295 : Nat) : Int) from rfl, u32_xor_nat 4294967295 e (by omega) he, u32_and_nat e f he hf,
    u32_and_nat _ g (xor32 (a := 4294967295) (b := e) (by omega) he) hg, u32_xor_nat _ _ (and32 he) (and32' hg)]
  rfl
theorem majU (a b c : Nat) (ha : a < 4294967296) (hb : b < 4294967296) (hc : c < 4294967296) :
    bits .xor .u32 (bits .xor .u32 (bits .and .u32 (a : Int) (b : Int)) (bits .and .u32 (a : Int) (c : Int))) (bits .and .u32 (b : Int) (c : Int)) = (maj a b c : Int) := by
  rw [u32_and_nat a b ha hb, u32_and_nat a c ha hc, u32_and_nat b c hb hc, u32_xor3 _ _ _ (and32 ha) (and32 ha) (and32 hb)]
  rfl

set_option maxRecDepth 100000 in
set_option maxHeartbeats 4000000 in
theorem impl_block (s0 s1 s2 s3 s4 s5 s6 s7 : Nat) (bs : List UInt8) (w : World) (hs : ∀ x ∈ [s0, s1, s2, s3, s4, s5, s6, s7], x < 4294967296) (hK : KW w) :
    Calls Tryd.prog 84 #[.agg #[.int .u32 (s0 : Int), .int .u32 (s1 : Int), .int .u32 (s2 : Int), .int .u32 (s3 : Int), .int .u32 (s4 : Int), .int .u32 (s5 : Int), .int .u32 (s6 : Int), .int .u32 (s7 : Int)], .agg #[.int .u32 (be32 bs 0 : Int), .int .u32 (be32 bs 1 : Int), .int .u32 (be32 bs 2 : Int), .int .u32 (be32 bs 3 : Int), .int .u32 (be32 bs 4 : Int), .int .u32 (be32 bs 5 : Int), .int .u32 (be32 bs 6 : Int), .int .u32 (be32 bs 7 : Int), .int .u32 (be32 bs 8 : Int), .int .u32 (be32 bs 9 : Int), .int .u32 (be32 bs 10 : Int), .int .u32 (be32 bs 11 : Int), .int .u32 (be32 bs 12 : Int), .int .u32 (be32 bs 13 : Int), .int .u32 (be32 bs 14 : Int), .int .u32 (be32 bs 15 : Int)]] w fun e w' =>
      ∃ y0 y1 y2 y3 y4 y5 y6 y7 : Nat, e = .returned (.agg #[.int .u32 (y0 : Int), .int .u32 (y1 : Int), .int .u32 (y2 : Int), .int .u32 (y3 : Int), .int .u32 (y4 : Int), .int .u32 (y5 : Int), .int .u32 (y6 : Int), .int .u32 (y7 : Int)]) ∧ [y0, y1, y2, y3, y4, y5, y6, y7] = block K64 [s0, s1, s2, s3, s4, s5, s6, s7] bs ∧ Below w.heap.size w w' := by
  have hA0 : Arr (w.alloc (.cells #[.int .u32 (s0 : Int), .int .u32 (s1 : Int), .int .u32 (s2 : Int), .int .u32 (s3 : Int), .int .u32 (s4 : Int), .int .u32 (s5 : Int), .int .u32 (s6 : Int), .int .u32 (s7 : Int)] 117)) w.heap.size 117 [s0, s1, s2, s3, s4, s5, s6, s7] := arr_new _ _ _ rfl rfl
  have hA1 : Arr ((w.alloc (.cells #[.int .u32 (s0 : Int), .int .u32 (s1 : Int), .int .u32 (s2 : Int), .int .u32 (s3 : Int), .int .u32 (s4 : Int), .int .u32 (s5 : Int), .int .u32 (s6 : Int), .int .u32 (s7 : Int)] 117)).alloc (.cells #[.int .u32 (be32 bs 0 : Int), .int .u32 (be32 bs 1 : Int), .int .u32 (be32 bs 2 : Int), .int .u32 (be32 bs 3 : Int), .int .u32 (be32 bs 4 : Int), .int .u32 (be32 bs 5 : Int), .int .u32 (be32 bs 6 : Int), .int .u32 (be32 bs 7 : Int), .int .u32 (be32 bs 8 : Int), .int .u32 (be32 bs 9 : Int), .int .u32 (be32 bs 10 : Int), .int .u32 (be32 bs 11 : Int), .int .u32 (be32 bs 12 : Int), .int .u32 (be32 bs 13 : Int), .int .u32 (be32 bs 14 : Int), .int .u32 (be32 bs 15 : Int)] 119)) (w.heap.size + 1) 119 ((List.range 16).map (be32 bs)) := arr_new _ _ _ (by simp) rfl
  have HA1 := Hid.mk' (hA1.below ((Below.refl _ _).alloc (Nat.le_refl _) (.cells #[.int .u32 0, .int .u32 0, .int .u32 0, .int .u32 0, .int .u32 0, .int .u32 0, .int .u32 0, .int .u32 0] 117)))
  have HA2 := Hid.mk' ((hA0.below ((Below.refl _ _).alloc (Nat.le_refl _) (.cells #[.int .u32 (be32 bs 0 : Int), .int .u32 (be32 bs 1 : Int), .int .u32 (be32 bs 2 : Int), .int .u32 (be32 bs 3 : Int), .int .u32 (be32 bs 4 : Int), .int .u32 (be32 bs 5 : Int), .int .u32 (be32 bs 6 : Int), .int .u32 (be32 bs 7 : Int), .int .u32 (be32 bs 8 : Int), .int .u32 (be32 bs 9 : Int), .int .u32 (be32 bs 10 : Int), .int .u32 (be32 bs 11 : Int), .int .u32 (be32 bs 12 : Int), .int .u32 (be32 bs 13 : Int), .int .u32 (be32 bs 14 : Int), .int .u32 (be32 bs 15 : Int)] 119))).below ((Below.refl _ _).alloc (Nat.le_refl _) (.cells #[.int .u32 0, .int .u32 0, .int .u32 0, .int .u32 0, .int .u32 0, .int .u32 0, .int .u32 0, .int .u32 0] 117)))
  have HA3 : Hid (Arr (((w.alloc (.cells #[.int .u32 (s0 : Int), .int .u32 (s1 : Int), .int .u32 (s2 : Int), .int .u32 (s3 : Int), .int .u32 (s4 : Int), .int .u32 (s5 : Int), .int .u32 (s6 : Int), .int .u32 (s7 : Int)] 117)).alloc (.cells #[.int .u32 (be32 bs 0 : Int), .int .u32 (be32 bs 1 : Int), .int .u32 (be32 bs 2 : Int), .int .u32 (be32 bs 3 : Int), .int .u32 (be32 bs 4 : Int), .int .u32 (be32 bs 5 : Int), .int .u32 (be32 bs 6 : Int), .int .u32 (be32 bs 7 : Int), .int .u32 (be32 bs 8 : Int), .int .u32 (be32 bs 9 : Int), .int .u32 (be32 bs 10 : Int), .int .u32 (be32 bs 11 : Int), .int .u32 (be32 bs 12 : Int), .int .u32 (be32 bs 13 : Int), .int .u32 (be32 bs 14 : Int), .int .u32 (be32 bs 15 : Int)] 119)).alloc (.cells #[.int .u32 0, .int .u32 0, .int .u32 0, .int .u32 0, .int .u32 0, .int .u32 0, .int .u32 0, .int .u32 0] 117)) (w.heap.size + 1 + 1) 117 [0, 0, 0, 0, 0, 0, 0, 0]) := arr_new _ _ _ (by simp) rfl
  clear hA0 hA1
  go_enter Tryd.func84, Tryd.ntmps84
  go_wp2_with fail
  go_quiet (fail)
  go_wp2_with fail
  go_quiet (fail)
  go_wp2_with fail
  go_loopw [5, 6, 7, 8, 9, 10, 11, 12, 35] (fun a0 a1 a2 a3 a4 a5 a6 a7 iv wr => ∃ (r x0 x1 x2 x3 x4 x5 x6 x7 : Nat), r ≤ 64 ∧ iv = .int .i64 (r : Int) ∧ a0 = .int .u32 (x0 : Int) ∧ a1 = .int .u32 (x1 : Int) ∧ a2 = .int .u32 (x2 : Int) ∧ a3 = .int .u32 (x3 : Int) ∧ a4 = .int .u32 (x4 : Int) ∧ a5 = .int .u32 (x5 : Int) ∧ a6 = .int .u32 (x6 : Int) ∧ a7 = .int .u32 (x7 : Int) ∧ [x0, x1, x2, x3, x4, x5, x6, x7] = rounds K64 (ws bs 64) [s0, s1, s2, s3, s4, s5, s6, s7] r ∧ Arr wr (w.heap.size + 1) 119 (cyc bs r) ∧ Arr wr w.heap.size 117 [s0, s1, s2, s3, s4, s5, s6, s7] ∧ Arr wr (w.heap.size + 1 + 1) 117 [0, 0, 0, 0, 0, 0, 0, 0] ∧ Below w.heap.size w wr) (fun _ _ _ _ _ _ _ _ iv _ => 64 - (intOf iv).toNat)
  case atStart =>
    refine ⟨0, s0, s1, s2, s3, s4, s5, s6, s7, Nat.zero_le _, rfl, rfl, rfl, rfl, rfl, rfl, rfl, rfl, rfl, rfl, ?_, ?_, ?_, ?_⟩
    · rw [cyc_zero]
      exact (HA1.out.drewN _).drewN _
    · exact (HA2.out.drewN _).drewN _
    · exact (HA3.out.drewN _).drewN _
    · exact below_drewN (below_drewN ((((Below.refl _ _).alloc (Nat.le_refl _) _).alloc (by simp) _).alloc (by simp; omega) _) _) _
  case round =>
    clear HA1 HA2 HA3
    obtain ⟨r, x0, x1, x2, x3, x4, x5, x6, x7, hr, rfl, rfl, rfl, rfl, rfl, rfl, rfl, rfl, rfl, hX, hW, hS, hZ, hB⟩ := hrel
    have hall : ∀ x ∈ [x0, x1, x2, x3, x4, x5, x6, x7], x < 4294967296 := by rw [hX]; exact rounds_lt _ _ _ _ hs
    have u0 := hall x0 (by simp)
    have u1 := hall x1 (by simp)
    have u2 := hall x2 (by simp)
    have u3 := hall x3 (by simp)
    have u4 := hall x4 (by simp)
    have u5 := hall x5 (by simp)
    have u6 := hall x6 (by simp)
    have u7 := hall x7 (by simp)
    clear hall
    by_cases hlt : r < 64
    · have HN : Hid (rounds K64 (ws bs 64) [s0, s1, s2, s3, s4, s5, s6, s7] (r + 1) = rnd [x0, x1, x2, x3, x4, x5, x6, x7] (K64.getD r 0 + (ws bs 64).getD r 0)) := by
        show _ = _; rw [rounds, hX]
      clear hX
      have bk : K64.getD r 0 < 4294967296 := getD_lt (by decide) r
      have bw := getD_lt (ws_lt bs 64) r
      have ck := hK.below hB r hlt
      obtain ⟨q, hq, hqi⟩ : ∃ q : Nat, r % 16 = q ∧ (r : Int) % 16 = (q : Int) := ⟨_, rfl, by omega⟩
      have hq16 : (q : Int) < 16 := by omega
      have hr64 : (r : Int) < 64 := by omega
      by_cases h16 : r < 16
      · have cw := hW.at q (by rw [cyc_length]; omega)
        rw [← hq, cyc_at bs r h16, hq] at cw
        have HL : Hid (cyc bs (r + 1) = cyc bs r) := cyc_low bs r h16
        generalize K64.getD r 0 = xk at *
        generalize (ws bs 64).getD r 0 = xw at *
        go_wp2_with fail
        go_quiet ((go_at_call 94; exact Calls.quiet_of_same (impl_bsig1 x4 _ u4)))
        go_wp2_with fail
        refine (impl_bsig0 x0 _ u0).mono ?_
        rintro e w4 ⟨rfl, hw4⟩
        subst hw4
        go_wp2_with fail
        go_roundw
        case rel =>
          rw [chU x4 x5 x6 u4 u5 u6, majU x0 x1 x2 u0 u1 u2]
          have l1 := bsig1_lt x4 u4
          have l0 := bsig0_lt x0 u0
          have lc := ch_lt x4 x5 x6 u4 u6
          have lm := maj_lt x0 x1 x2 u0 u1
          refine ⟨r + 1, (x7 + bsig1 x4 + ch x4 x5 x6 + (xk + xw) + (bsig0 x0 + maj x0 x1 x2)) % 4294967296, x0, x1, x2, (x3 + (x7 + bsig1 x4 + ch x4 x5 x6 + (xk + xw))) % 4294967296, x4, x5, x6, by omega, by go_num, val_int (by omega), rfl, rfl, rfl, val_int (by omega), rfl, rfl, rfl, ?_, ?_, ?_, ?_, ?_⟩
          · rw [HN.out]; rfl
          · rw [HL.out]; exact hW
          · exact hS
          · exact hZ
          · exact below_drewN hB _
        case measure => simp [intOf]; omega
      · have hk1 := cyc_16 bs r (by omega)
        have hk2 := cyc_7 bs r (by omega)
        have hk3 := cyc_15 bs r (by omega)
        have hk4 := cyc_2 bs r (by omega)
        have hst := cyc_set bs r (by omega)
        have hnw := ws_high bs r (by omega) hlt
        have b16 := getD_lt (ws_lt bs 64) (r - 16)
        have b15 := getD_lt (ws_lt bs 64) (r - 15)
        have b7 := getD_lt (ws_lt bs 64) (r - 7)
        have b2 := getD_lt (ws_lt bs 64) (r - 2)
        obtain ⟨q9, hq9, hq9i⟩ : ∃ q : Nat, (r + 9) % 16 = q ∧ ((r : Int) + 9).tmod 16 = (q : Int) := ⟨_, rfl, by rw [Int.tmod_eq_emod_of_nonneg (by omega)]; omega⟩
        obtain ⟨q1, hq1, hq1i⟩ : ∃ q : Nat, (r + 1) % 16 = q ∧ ((r : Int) + 1).tmod 16 = (q : Int) := ⟨_, rfl, by rw [Int.tmod_eq_emod_of_nonneg (by omega)]; omega⟩
        obtain ⟨q14, hq14, hq14i⟩ : ∃ q : Nat, (r + 14) % 16 = q ∧ ((r : Int) + 14).tmod 16 = (q : Int) := ⟨_, rfl, by rw [Int.tmod_eq_emod_of_nonneg (by omega)]; omega⟩
        have p9 : (q9 : Int) < 16 := by omega
        have p1 : (q1 : Int) < 16 := by omega
        have p14 : (q14 : Int) < 16 := by omega
        have e9 : IntKind.i64.wrap ((r : Int) + 9) = (r : Int) + 9 := by rw [IntKind.wrap_i64]; omega
        have e1 : IntKind.i64.wrap ((r : Int) + 1) = (r : Int) + 1 := by rw [IntKind.wrap_i64]; omega
        have e14 : IntKind.i64.wrap ((r : Int) + 14) = (r : Int) + 14 := by rw [IntKind.wrap_i64]; omega
        have d9 : ¬ q9 = q := by omega
        have d1 : ¬ q1 = q := by omega
        have d14 : ¬ q14 = q := by omega
        have d9' : ¬ q = q9 := by omega
        have d1' : ¬ q = q1 := by omega
        have d14' : ¬ q = q14 := by omega
        have c16 := hW.at q (by rw [cyc_length]; omega)
        have c7 := hW.at q9 (by rw [cyc_length]; omega)
        have c15 := hW.at q1 (by rw [cyc_length]; omega)
        have c2 := hW.at q14 (by rw [cyc_length]; omega)
        have cf := hW.frozen q
        rw [hq] at hk1 hst
        rw [hq9] at hk2
        rw [hq1] at hk3
        rw [hq14] at hk4
        rw [hk1] at c16
        rw [hk2] at c7
        rw [hk3] at c15
        rw [hk4] at c2
        have hWn := hW.set q ((ws bs 64).getD r 0)
        rw [hst] at hWn
        have HWN := Hid.mk' hWn
        have HNW := Hid.mk' hnw
        clear hk1 hk2 hk3 hk4 hst hnw hWn hq9 hq1 hq14 hq
        generalize K64.getD r 0 = xk at *
        generalize (ws bs 64).getD r 0 = xw at *
        generalize (ws bs 64).getD (r - 16) 0 = y16 at *
        generalize (ws bs 64).getD (r - 15) 0 = y15 at *
        generalize (ws bs 64).getD (r - 7) 0 = y7 at *
        generalize (ws bs 64).getD (r - 2) 0 = y2 at *
        go_wp2_with fail
        refine last.wp_region_last_lit 24 _ rfl (by kernel_rfl) (by kernel_rfl) (by kernel_rfl) ?_
        show wpQuiet _ _ _ _ [_, _, _, _, _, _, _, _, _, _, _, _, _, _, _, _, _, _, _, _, _, _, _, _] _
        repeat (go_big_quiet_step ((first | (go_at_call 92; exact Calls.quiet_of_same (impl_sig0 y15 _ b15)) | (go_at_call 93; exact Calls.quiet_of_same (impl_sig1 y2 _ b2)))))
        refine wpQuiet_nil ?_
        intro w5 hw5
        obtain ⟨nq, hw5⟩ := hw5
        subst hw5
        have hv : ((y16 : Int) + ((y7 : Int) + (ssig0 y15 : Int) + (ssig1 y2 : Int))) % 4294967296 = (xw : Int) := by rw [HNW.out]; omega
        have hW5 : Arr ((wr.drewN nq).setCell ⟨w.heap.size + 1, q, none⟩ (.int .u32 (xw : Int))) (w.heap.size + 1) 119 (cyc bs (r + 1)) := HWN.out.1
        have hg5 : wr.grownBy ((wr.drewN nq).setCell ⟨w.heap.size + 1, q, none⟩ (.int .u32 (xw : Int))) (some (w.heap.size + 1)) := ⟨HWN.out.2.os, HWN.out.2.tape, HWN.out.2.output, HWN.out.2.size, HWN.out.2.block⟩
        have hS5 := hS.grown hg5 (by simp)
        have hZ5 := hZ.grown hg5 (by simp)
        have hB5 := hB.trans (below_grown hg5 (by omega) hB.size)
        have hw0 : 0 < w.heap.size := World.block_lt_of_cell? w _ (hK 0 (by decide))
        have hbz : ¬ (0 : Nat) = w.heap.size + 1 := by omega
        have ck5 := hg5.cell ck (fun e => hbz (Option.some.inj e))
        have cw5 : ((wr.drewN nq).setCell ⟨w.heap.size + 1, q, none⟩ (.int .u32 (xw : Int))).cell? ⟨w.heap.size + 1, q, none⟩ = some (.int .u32 (xw : Int)) := World.cell?_setCell_same _ _ _ c16
        have HV := Hid.mk' hv
        clear hv
        go_wp2_with fail
        rw [HV.out]
        generalize (wr.drewN nq).setCell ⟨w.heap.size + 1, q, none⟩ (.int .u32 (xw : Int)) = w5 at *
        clear HV HWN HNW hg5 ck c16 c7 c15 c2 cf hW hS hZ hB e9 e1 e14 hq9i hq1i hq14i p9 p1 p14
        go_quiet ((go_at_call 94; exact Calls.quiet_of_same (impl_bsig1 x4 _ u4)))
        go_wp2_with fail
        refine (impl_bsig0 x0 _ u0).mono ?_
        rintro e w4 ⟨rfl, hw4⟩
        subst hw4
        go_wp2_with fail
        go_roundw
        case rel =>
          rw [chU x4 x5 x6 u4 u5 u6, majU x0 x1 x2 u0 u1 u2]
          have l1 := bsig1_lt x4 u4
          have l0 := bsig0_lt x0 u0
          have lc := ch_lt x4 x5 x6 u4 u6
          have lm := maj_lt x0 x1 x2 u0 u1
          refine ⟨r + 1, (x7 + bsig1 x4 + ch x4 x5 x6 + (xk + xw) + (bsig0 x0 + maj x0 x1 x2)) % 4294967296, x0, x1, x2, (x3 + (x7 + bsig1 x4 + ch x4 x5 x6 + (xk + xw))) % 4294967296, x4, x5, x6, by omega, by go_num, val_int (by omega), rfl, rfl, rfl, val_int (by omega), rfl, rfl, rfl, ?_, ?_, ?_, ?_, ?_⟩
          · rw [HN.out]; rfl
          · exact hW5
          · exact hS5
          · exact hZ5
          · exact below_drewN hB5 _
        case measure => simp [intOf]; omega
    · have HE : Hid (r = 64) := by show _ = _; omega
      have HX : Hid ([x0, x1, x2, x3, x4, x5, x6, x7] = rounds K64 (ws bs 64) [s0, s1, s2, s3, s4, s5, s6, s7] 64) := by show _ = _; rw [hX, HE.out]
      have hix := fun k hk wx => aggIndex x0 x1 x2 x3 x4 x5 x6 x7 k hk wx
      have hall : ∀ x ∈ [x0, x1, x2, x3, x4, x5, x6, x7], x < 4294967296 := by rw [hX]; exact rounds_lt _ _ _ _ hs
      clear hW hX hK
      rename World => wp
      go_wp2_with fail
      go_loopw [123] (fun iv wr => ∃ k : Nat, k ≤ 8 ∧ iv = .int .i64 (k : Int) ∧ Arr wr w.heap.size 117 (addTo [s0, s1, s2, s3, s4, s5, s6, s7] [x0, x1, x2, x3, x4, x5, x6, x7] k) ∧ Arr wr (w.heap.size + 1 + 1) 117 [0, 0, 0, 0, 0, 0, 0, 0] ∧ Below w.heap.size w wr) (fun iv _ => 8 - (intOf iv).toNat)
      case atStart => exact ⟨0, Nat.zero_le _, rfl, by rw [addTo_zero _ _ rfl]; exact hS, hZ, hB⟩
      case round =>
        clear hS hZ hB
        obtain ⟨k, hk, rfl, hS, hZ, hB⟩ := hrel
        by_cases hlt8 : k < 8
        · have hx := fun wx => hix k hlt8 wx
          have c0 := hS.at k (by rw [addTo_length]; exact hlt8)
          rw [addTo_getD _ _ _ hlt8] at c0
          have cf := hS.frozen k
          have hst := hS.set k (([s0, s1, s2, s3, s4, s5, s6, s7].getD k 0 + [x0, x1, x2, x3, x4, x5, x6, x7].getD k 0) % 4294967296)
          rw [addTo_succ _ _ _ hlt8] at hst
          have ha := getD_lt hs k
          have hb := getD_lt hall k
          generalize [s0, s1, s2, s3, s4, s5, s6, s7].getD k 0 = xa at *
          generalize [x0, x1, x2, x3, x4, x5, x6, x7].getD k 0 = xb at *
          have Hst := Hid.mk' hst
          have HE2 : Hid (((xa : Int) + (xb : Int)) % 4294967296 = (((xa + xb) % 4294967296 : Nat) : Int)) := by show _ = _; omega
          clear hst hix
          go_wp2_with fail
          go_roundw
          case rel =>
            rw [HE2.out]
            exact ⟨k + 1, by omega, by go_num, Hst.out.1, hZ.grown Hst.out.2 (fun e => by simp only [Option.some.injEq] at e; omega), hB.trans (below_grown Hst.out.2 (Nat.le_refl _) hB.size)⟩
          case measure => simp [intOf]; omega
        · have HE2 : Hid (k = 8) := by show _ = _; omega
          obtain ⟨y0, y1, y2, y3, y4, y5, y6, y7, hY⟩ : ∃ y0 y1 y2 y3 y4 y5 y6 y7 : Nat, addTo [s0, s1, s2, s3, s4, s5, s6, s7] [x0, x1, x2, x3, x4, x5, x6, x7] 8 = [y0, y1, y2, y3, y4, y5, y6, y7] := ⟨_, _, _, _, _, _, _, _, rfl⟩
          have hS' : Arr wr w.heap.size 117 [y0, y1, y2, y3, y4, y5, y6, y7] := by rw [← hY, ← HE2.out]; exact hS
          have HB : Hid ([y0, y1, y2, y3, y4, y5, y6, y7] = block K64 [s0, s1, s2, s3, s4, s5, s6, s7] bs) := by
            show _ = _
            rw [← hY, addTo_eight, HX.out, block, addAll_comm]
          obtain ⟨a0, a1, a2, a3, a4, a5, a6, a7⟩ := hS'.eight
          obtain ⟨r0, r1, r2, r3, r4, r5, r6, r7⟩ := hZ.eight
          have hfz := hZ.frozen
          have hBz := ((((((((hB.setCell (p := ⟨w.heap.size + 1 + 1, 0, none⟩) (by show w.heap.size ≤ w.heap.size + 1 + 1; omega) (.int .u32 (y0 : Int))).setCell (p := ⟨w.heap.size + 1 + 1, 1, none⟩) (by show w.heap.size ≤ w.heap.size + 1 + 1; omega) (.int .u32 (y1 : Int))).setCell (p := ⟨w.heap.size + 1 + 1, 2, none⟩) (by show w.heap.size ≤ w.heap.size + 1 + 1; omega) (.int .u32 (y2 : Int))).setCell (p := ⟨w.heap.size + 1 + 1, 3, none⟩) (by show w.heap.size ≤ w.heap.size + 1 + 1; omega) (.int .u32 (y3 : Int))).setCell (p := ⟨w.heap.size + 1 + 1, 4, none⟩) (by show w.heap.size ≤ w.heap.size + 1 + 1; omega) (.int .u32 (y4 : Int))).setCell (p := ⟨w.heap.size + 1 + 1, 5, none⟩) (by show w.heap.size ≤ w.heap.size + 1 + 1; omega) (.int .u32 (y5 : Int))).setCell (p := ⟨w.heap.size + 1 + 1, 6, none⟩) (by show w.heap.size ≤ w.heap.size + 1 + 1; omega) (.int .u32 (y6 : Int))).setCell (p := ⟨w.heap.size + 1 + 1, 7, none⟩) (by show w.heap.size ≤ w.heap.size + 1 + 1; omega) (.int .u32 (y7 : Int)))
          clear hS hS' hZ hY hix HX
          go_wp2_with fail
          refine bodyPost_ret (v := .agg #[.int .u32 (y0 : Int), .int .u32 (y1 : Int), .int .u32 (y2 : Int), .int .u32 (y3 : Int), .int .u32 (y4 : Int), .int .u32 (y5 : Int), .int .u32 (y6 : Int), .int .u32 (y7 : Int)]) ?h1 rfl ⟨y0, y1, y2, y3, y4, y5, y6, y7, rfl, HB.out, hBz⟩
          simp [results, Tryd.results84, go_sem, r0, r1, r2, r3, r4, r5, r6, r7]

end Go.Proofs.YteammdkipnfmnaaDoor.sha
