/- A string turned into bytes, with one byte more: a row that may be written. -/
import Derived.Test.YtdiiabfkckbajaaRows
import Derived.Test.YtdiiabfkckbajaaBase
import Derived.Test.YtdiiabfkckbajaaHelp
import Derived.Test.YtdiiabfkckbajaaPutNum
import Derived.ArgAppend
namespace Go.Proofs.Ytdiiabfkckbajaa.conv
open Go.RowKit Go.Proofs.Ytdiiabfkckbajaa.base Go.Proofs.Ytdiiabfkckbajaa.help Go.Proofs.Ytdiiabfkckbajaa.putnum
set_option linter.unusedVariables false
set_option linter.unusedSimpArgs false

/-- block g holds the bytes bs from its head on; they may be written -/
def Wr (w : World) (g n : Nat) (bs : List UInt8) : Prop :=
  bs.length = n ∧ n ≤ maxLen ∧ g < w.heap.size ∧ ∀ i (h : i < bs.length), w.cell? ⟨g, i, none⟩ = some (.int .u8 bs[i].toNat) ∧ w.frozen? ⟨g, i, none⟩ = false
theorem Wr.sl {w : World} {g n : Nat} {bs : List UInt8} (h : Wr w g n bs) : Sl w (some ⟨g, 0, none⟩) n bs :=
  ⟨h.1, h.2.1, fun _ => ⟨g, 0, rfl, fun i hi => by rw [Nat.zero_add]; exact (h.2.2.2 i hi).1⟩⟩
theorem Wr.below {w w' : World} {g n : Nat} {bs : List UInt8} (h : Wr w g n bs) (hb : Below w.heap.size w w') : Wr w' g n bs :=
  ⟨h.1, h.2.1, Nat.lt_of_lt_of_le h.2.2.1 hb.size, fun i hi => ⟨(hb.cell (p := ⟨g, i, none⟩) h.2.2.1).trans (h.2.2.2 i hi).1, (hb.frozen (p := ⟨g, i, none⟩) h.2.2.1).trans (h.2.2.2 i hi).2⟩⟩
theorem Own.wr {w : World} {base g n cap : Nat} {bs : List UInt8} (h : Own w base g n cap bs) : Wr w g n bs :=
  ⟨h.1, by have := h.max; omega, h.lt.2, fun i hi => ⟨h.at i hi, h.frozen i⟩⟩

theorem bytes_frozen (w : World) (s : ByteArray) (j : Nat) (hj : j < (Lib.bytesCells w 5 s).size) : (Lib.bytesWorld w 5 s).frozen? ⟨w.heap.size, j, none⟩ = false := by
  simp only [World.frozen?, Lib.bytesWorld_at_new]
  simp; omega
theorem bytesCells_size (w : World) (s : ByteArray) : (Lib.bytesCells w 5 s).size = grownCap w s.size 0 5 := by
  have := grownCap_ge w s.size 0 5
  simp [Lib.bytesCells]; omega
theorem bytes_some (w : World) (s : ByteArray) (j : Nat) (hj : j < (Lib.bytesCells w 5 s).size) : ((Lib.bytesWorld w 5 s).cell? ⟨w.heap.size, j, none⟩).isSome = true := by
  rw [cell_of_row _ _ _ _ _ _ (Lib.bytesWorld_at_new w 5 s)]
  simp [hj]
theorem byteVals_get (bs : List UInt8) (j : Nat) (u : Value) (h : (byteVals bs)[j]? = some u) : ∃ hj : j < bs.length, u = .int .u8 bs[j].toNat := by
  have hjl : j < bs.length := by have := (List.getElem?_eq_some_iff.1 h).1; rwa [byteVals_length] at this
  refine ⟨hjl, ?_⟩
  have : (byteVals bs)[j]? = some (.int .u8 bs[j].toNat) := by simp [byteVals, hjl]
  rw [this] at h
  exact (Option.some.inj h).symm

theorem wpList_append_conv {ops : Array Oper} {rest : List Oper} {o : Oper} {a : Act} {Q : Exit → Act → World → Prop} (w : World) (s : ByteArray) (x : Int) (u : UInt8) (hxu : x = (u.toNat : Int))
    (hg : o.guard = none) (sl xo : Operand) (hop : o.op = Op.call { callee := Callee.builtin Builtin.append, args := #[sl, xo], argTypes := #[22, 22] })
    (hs : a.eval sl = .slice (some ⟨w.heap.size, 0, none⟩) s.size (grownCap w s.size 0 5)) (hxo : a.eval xo = .slice (some ⟨(Lib.bytesWorld w 5 s).heap.size, 0, none⟩) 1 1) (hsz : s.size ≤ 1099511627776)
    (hK : ∀ g' cap' w', w.heap.size ≤ g' → Wr w' g' (s.size + 1) (s.data.toList ++ [u]) → Below w.heap.size w w' → wpList Try.prog ops Q rest (a.put o.dst (.slice (some ⟨g', 0, none⟩) (s.size + 1) cap')) w') :
    wpList Try.prog ops Q (o :: rest) a ((Lib.bytesWorld w 5 s).alloc (.cells #[.int .u8 x] 5)) := by
  obtain ⟨i0, hi, hz0, hz1, hz2⟩ := info_parts info8
  have hsize : s.data.toList.length = s.size := by simp
  have hbw := below_bytesWorld w 5 s
  have hbs := Lib.bytesWorld_size w 5 s
  have hba : Below (Lib.bytesWorld w 5 s).heap.size (Lib.bytesWorld w 5 s) ((Lib.bytesWorld w 5 s).alloc (.cells #[.int .u8 x] 5)) := (Below.refl _ _).alloc (Nat.le_refl _) _
  have hB2 : Below w.heap.size w ((Lib.bytesWorld w 5 s).alloc (.cells #[.int .u8 x] 5)) := hbw.trans (hba.mono (by omega))
  have hcell : ∀ j (hj : j < s.data.toList.length), ((Lib.bytesWorld w 5 s).alloc (.cells #[.int .u8 x] 5)).cell? ⟨w.heap.size, j, none⟩ = some (.int .u8 (s.data.toList[j]).toNat) := by
    intro j hj
    rw [hba.cell (p := ⟨w.heap.size, j, none⟩) (by show w.heap.size < _; omega), Lib.bytesWorld_cell w 5 s j (by omega)]
    rw [List.getD_eq_getElem?_getD, List.getElem?_eq_getElem hj]; rfl
  have hcsz := bytesCells_size w s
  have hfr : ∀ j, j < grownCap w s.size 0 5 → ((Lib.bytesWorld w 5 s).alloc (.cells #[.int .u8 x] 5)).frozen? ⟨w.heap.size, j, none⟩ = false := by
    intro j hj
    rw [hba.frozen (p := ⟨w.heap.size, j, none⟩) (by show w.heap.size < _; omega)]
    exact bytes_frozen w s j (by omega)
  have hge := grownCap_ge w s.size 0 5
  refine wpList_append_arg _ hg sl xo 22 hop 5 i0 (.int .u8 0) 1 1 Try.underlying22 hi hz0 hz1 hz2 rfl (by decide) w.heap.size 0 s.size _ (byteVals s.data.toList) hs (by rw [byteVals_length]; omega) ?_ ⟨(Lib.bytesWorld w 5 s).heap.size, 0, none⟩ 1 1 [.int .u8 x] hxo rfl (cell_one_new _ _ _) (one_oneCell _ _) ?_ (by unfold maxLen; omega) (by omega) ?_ ?_
  · intro j v hj
    obtain ⟨hjl, rfl⟩ := byteVals_get _ _ _ hj
    rw [Nat.zero_add]
    exact hcell j hjl
  · intro hroom j hj
    simp at hj
    subst hj
    simp only [Nat.zero_add, Nat.mul_one, Nat.add_zero]
    refine ⟨?_, hfr _ (by omega)⟩
    rw [hba.cell (p := ⟨w.heap.size, s.size, none⟩) (by show w.heap.size < _; omega)]
    exact bytes_some w s _ (by omega)
  · intro hroom
    simp only [Nat.zero_add, Nat.mul_one, World.setCells]
    refine hK w.heap.size _ _ (Nat.le_refl _) ⟨by simp, by unfold maxLen; omega, ?_, ?_⟩ (hB2.setCell (Nat.le_refl _) _)
    · have := hB2.size; simp; omega
    · intro i hi
      have hsome : (((Lib.bytesWorld w 5 s).alloc (.cells #[.int .u8 x] 5)).cell? ⟨w.heap.size, s.size, none⟩).isSome = true := by
        rw [hba.cell (p := ⟨w.heap.size, s.size, none⟩) (by show w.heap.size < _; omega)]
        exact bytes_some w s _ (by omega)
      have hil : i < s.size + 1 := by simp at hi; omega
      constructor
      · by_cases he : i = s.size
        · have hc := World.cell?_setCells_in w.heap.size [.int .u8 x] s.size ((Lib.bytesWorld w 5 s).alloc (.cells #[.int .u8 x] 5)) (by
            intro j hj; simp at hj; subst hj; simpa using hsome) 0 (by simp)
          simp only [World.setCells, Nat.add_zero, List.getElem_cons_zero] at hc
          subst he
          rw [hc, hxu]
          simp [List.getElem_append]
        · have hc := World.cell?_setCells_out w.heap.size [.int .u8 x] s.size ((Lib.bytesWorld w 5 s).alloc (.cells #[.int .u8 x] 5)) ⟨w.heap.size, i, none⟩ (by
            intro _ _; left; show i < s.size; omega)
          simp only [World.setCells] at hc
          rw [hc, hcell i (by omega)]
          simp [List.getElem_append, show i < s.size by omega]
      · have hc := World.frozen?_setCells w.heap.size [.int .u8 x] s.size ((Lib.bytesWorld w 5 s).alloc (.cells #[.int .u8 x] 5)) ⟨w.heap.size, i, none⟩
        simp only [World.setCells] at hc
        rw [hc]
        exact hfr i (by omega)
  · intro hgrow v' w' hown hgr
    have hown' : w'.ownsRow ((Lib.bytesWorld w 5 s).alloc (.cells #[.int .u8 x] 5)).heap.size 5 1 v' (s.size + 1) (byteVals (s.data.toList ++ [u])) := by
      rw [byteVals_append, ← one_val hxu]; exact hown
    rcases hown'.2 with ⟨_, h0⟩ | ⟨g', cap', cur, rfl, hge', _⟩
    · omega
    · have hO : Own w' ((Lib.bytesWorld w 5 s).alloc (.cells #[.int .u8 x] 5)).heap.size g' (s.size + 1) cap' (s.data.toList ++ [u]) := ⟨by simp, hown'⟩
      exact hK g' cap' w' (Nat.le_trans hB2.size hge') (Own.wr hO) (hB2.grown hgr hB2.size (fun k e => by cases e))

end Go.Proofs.Ytdiiabfkckbajaa.conv
