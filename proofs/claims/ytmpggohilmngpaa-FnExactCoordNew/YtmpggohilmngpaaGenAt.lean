/- Cells of elements of rows; a struct written whole. No function of the program is named here. -/
import Derived.Test.YtmpggohilmngpaaGenRow
namespace Go.Proofs.Ytmpggohilmngpaa.lay
open Go Go.RowKit Go.Proofs.Ytmpggohilmngpaa.base
set_option linter.unusedVariables false
set_option linter.unusedSimpArgs false

theorem BoxIn.all {X : Nat} {T : TypeId} (us : List Value) : ∀ {vs done : List Value} {w : World}, vs.length = us.length → BoxIn X T done vs [] w → BoxIn X T done us [] (putAll w X done.length us) ∧ w.grownBy (putAll w X done.length us) (some X) := by
  induction us with
  | nil =>
    intro vs done w hl h
    have : vs = [] := List.eq_nil_of_length_eq_zero hl
    subst this
    exact ⟨h, World.grownBy.refl _ _⟩
  | cons u us ih =>
    intro vs done w hl h
    match vs, hl with
    | v :: vs, hl =>
      have s := h.set 0 (by simp) u
      rw [Nat.add_zero] at s
      have h2 : BoxIn X T (done ++ [u]) vs [] (w.setCell ⟨X, done.length, none⟩ u) := by
        have := s.1
        unfold BoxIn at this ⊢
        simpa using this
      have t := ih (by simpa using hl) h2
      rw [List.length_append, List.length_singleton] at t
      refine ⟨?_, grownBy_trans s.2 t.2⟩
      have := t.1
      unfold BoxIn at this ⊢
      simpa [putAll] using this
theorem BoxIn.whole {X : Nat} {T : TypeId} {vs : List Value} {w : World} (h : BoxIn X T [] vs [] w) (us : List Value) (hl : vs.length = us.length) : BoxIn X T [] us [] (putAll w X 0 us) ∧ w.grownBy (putAll w X 0 us) (some X) := BoxIn.all us hl h
theorem OwnG.frozen {α : Type} {ty : TypeId} {R : Rd α} {w : World} {g n cap : Nat} {l : List α} {q : Parts} (h : OwnG ty R w (.slice (some ⟨g, 0, none⟩) n cap) l q) (j : Nat) : w.frozen? ⟨g, j, none⟩ = false := by
  have hn : n = l.length := by
    rcases h.shape with ⟨e, _⟩ | ⟨g', c', e, _⟩
    · cases e
    · cases e; rfl
  subst hn
  exact h.row.frozenAt j
theorem OwnG.nlen {α : Type} {ty : TypeId} {R : Rd α} {w : World} {g n cap : Nat} {l : List α} {q : Parts} (h : OwnG ty R w (.slice (some ⟨g, 0, none⟩) n cap) l q) : n = l.length := by
  rcases h.shape with ⟨e, _⟩ | ⟨g', c', e, _⟩
  · cases e
  · cases e; rfl
theorem OwnG.lts {α : Type} {ty : TypeId} {R : Rd α} {w : World} {g n cap : Nat} {l : List α} {q : Parts} (h : OwnG ty R w (.slice (some ⟨g, 0, none⟩) n cap) l q) : ∀ b ∈ g :: blocksOf q, b < w.heap.size := fun b hb => h.at_ b (by simpa [Value.ownBlock] using hb)
theorem OwnG.below {α : Type} {ty : TypeId} {R : Rd α} {w w' : World} {v : Value} {l : List α} {q : Parts} (h : OwnG ty R w v l q) (hb : Below w.heap.size w w') : OwnG ty R w' v l q := h.keep fun b hb2 => hb.block b (h.at_ b hb2)
theorem slg_at1 {α : Type} {R : Rd α} {w : World} {b off len : Nat} {l : List α} (hR : R.size = 1) (h : SlG R w (some ⟨b, off, none⟩) len l) (i : Nat) (hi : i < l.length) : ∃ u0, R.see w [u0] l[i] ∧ w.cell? ⟨b, off + i, none⟩ = some u0 := by
  obtain ⟨b', off', e, hc⟩ := h.2.2.2 (by have := h.1; omega)
  simp only [Option.some.injEq, Addr.mk.injEq, and_true] at e
  obtain ⟨rfl, rfl⟩ := e
  obtain ⟨vs, hs, hcl⟩ := hc i hi
  have hl := R.seeLen hs
  rw [hR] at hl hcl
  match vs, hl with
  | [u0], _ => exact ⟨u0, hs, by have := hcl 0 _ rfl; simpa using this⟩
theorem slg_at2 {α : Type} {R : Rd α} {w : World} {b off len : Nat} {l : List α} (hR : R.size = 2) (h : SlG R w (some ⟨b, off, none⟩) len l) (i : Nat) (hi : i < l.length) : ∃ u0 u1, R.see w [u0, u1] l[i] ∧ w.cell? ⟨b, off + i * 2, none⟩ = some u0 ∧ w.cell? ⟨b, off + i * 2 + 1, none⟩ = some u1 := by
  obtain ⟨b', off', e, hc⟩ := h.2.2.2 (by have := h.1; omega)
  simp only [Option.some.injEq, Addr.mk.injEq, and_true] at e
  obtain ⟨rfl, rfl⟩ := e
  obtain ⟨vs, hs, hcl⟩ := hc i hi
  have hl := R.seeLen hs
  rw [hR] at hl hcl
  match vs, hl with
  | [u0, u1], _ => exact ⟨u0, u1, hs, hcl 0 _ rfl, hcl 1 _ rfl⟩
theorem slg_at3 {α : Type} {R : Rd α} {w : World} {b off len : Nat} {l : List α} (hR : R.size = 3) (h : SlG R w (some ⟨b, off, none⟩) len l) (i : Nat) (hi : i < l.length) : ∃ u0 u1 u2, R.see w [u0, u1, u2] l[i] ∧ w.cell? ⟨b, off + i * 3, none⟩ = some u0 ∧ w.cell? ⟨b, off + i * 3 + 1, none⟩ = some u1 ∧ w.cell? ⟨b, off + i * 3 + 2, none⟩ = some u2 := by
  obtain ⟨b', off', e, hc⟩ := h.2.2.2 (by have := h.1; omega)
  simp only [Option.some.injEq, Addr.mk.injEq, and_true] at e
  obtain ⟨rfl, rfl⟩ := e
  obtain ⟨vs, hs, hcl⟩ := hc i hi
  have hl := R.seeLen hs
  rw [hR] at hl hcl
  match vs, hl with
  | [u0, u1, u2], _ => exact ⟨u0, u1, u2, hs, hcl 0 _ rfl, hcl 1 _ rfl, hcl 2 _ rfl⟩
theorem slg_at4 {α : Type} {R : Rd α} {w : World} {b off len : Nat} {l : List α} (hR : R.size = 4) (h : SlG R w (some ⟨b, off, none⟩) len l) (i : Nat) (hi : i < l.length) : ∃ u0 u1 u2 u3, R.see w [u0, u1, u2, u3] l[i] ∧ w.cell? ⟨b, off + i * 4, none⟩ = some u0 ∧ w.cell? ⟨b, off + i * 4 + 1, none⟩ = some u1 ∧ w.cell? ⟨b, off + i * 4 + 2, none⟩ = some u2 ∧ w.cell? ⟨b, off + i * 4 + 3, none⟩ = some u3 := by
  obtain ⟨b', off', e, hc⟩ := h.2.2.2 (by have := h.1; omega)
  simp only [Option.some.injEq, Addr.mk.injEq, and_true] at e
  obtain ⟨rfl, rfl⟩ := e
  obtain ⟨vs, hs, hcl⟩ := hc i hi
  have hl := R.seeLen hs
  rw [hR] at hl hcl
  match vs, hl with
  | [u0, u1, u2, u3], _ => exact ⟨u0, u1, u2, u3, hs, hcl 0 _ rfl, hcl 1 _ rfl, hcl 2 _ rfl, hcl 3 _ rfl⟩
theorem slg_at5 {α : Type} {R : Rd α} {w : World} {b off len : Nat} {l : List α} (hR : R.size = 5) (h : SlG R w (some ⟨b, off, none⟩) len l) (i : Nat) (hi : i < l.length) : ∃ u0 u1 u2 u3 u4, R.see w [u0, u1, u2, u3, u4] l[i] ∧ w.cell? ⟨b, off + i * 5, none⟩ = some u0 ∧ w.cell? ⟨b, off + i * 5 + 1, none⟩ = some u1 ∧ w.cell? ⟨b, off + i * 5 + 2, none⟩ = some u2 ∧ w.cell? ⟨b, off + i * 5 + 3, none⟩ = some u3 ∧ w.cell? ⟨b, off + i * 5 + 4, none⟩ = some u4 := by
  obtain ⟨b', off', e, hc⟩ := h.2.2.2 (by have := h.1; omega)
  simp only [Option.some.injEq, Addr.mk.injEq, and_true] at e
  obtain ⟨rfl, rfl⟩ := e
  obtain ⟨vs, hs, hcl⟩ := hc i hi
  have hl := R.seeLen hs
  rw [hR] at hl hcl
  match vs, hl with
  | [u0, u1, u2, u3, u4], _ => exact ⟨u0, u1, u2, u3, u4, hs, hcl 0 _ rfl, hcl 1 _ rfl, hcl 2 _ rfl, hcl 3 _ rfl, hcl 4 _ rfl⟩
theorem slg_at6 {α : Type} {R : Rd α} {w : World} {b off len : Nat} {l : List α} (hR : R.size = 6) (h : SlG R w (some ⟨b, off, none⟩) len l) (i : Nat) (hi : i < l.length) : ∃ u0 u1 u2 u3 u4 u5, R.see w [u0, u1, u2, u3, u4, u5] l[i] ∧ w.cell? ⟨b, off + i * 6, none⟩ = some u0 ∧ w.cell? ⟨b, off + i * 6 + 1, none⟩ = some u1 ∧ w.cell? ⟨b, off + i * 6 + 2, none⟩ = some u2 ∧ w.cell? ⟨b, off + i * 6 + 3, none⟩ = some u3 ∧ w.cell? ⟨b, off + i * 6 + 4, none⟩ = some u4 ∧ w.cell? ⟨b, off + i * 6 + 5, none⟩ = some u5 := by
  obtain ⟨b', off', e, hc⟩ := h.2.2.2 (by have := h.1; omega)
  simp only [Option.some.injEq, Addr.mk.injEq, and_true] at e
  obtain ⟨rfl, rfl⟩ := e
  obtain ⟨vs, hs, hcl⟩ := hc i hi
  have hl := R.seeLen hs
  rw [hR] at hl hcl
  match vs, hl with
  | [u0, u1, u2, u3, u4, u5], _ => exact ⟨u0, u1, u2, u3, u4, u5, hs, hcl 0 _ rfl, hcl 1 _ rfl, hcl 2 _ rfl, hcl 3 _ rfl, hcl 4 _ rfl, hcl 5 _ rfl⟩
theorem slg_at10 {α : Type} {R : Rd α} {w : World} {b off len : Nat} {l : List α} (hR : R.size = 10) (h : SlG R w (some ⟨b, off, none⟩) len l) (i : Nat) (hi : i < l.length) : ∃ u0 u1 u2 u3 u4 u5 u6 u7 u8 u9, R.see w [u0, u1, u2, u3, u4, u5, u6, u7, u8, u9] l[i] ∧ w.cell? ⟨b, off + i * 10, none⟩ = some u0 ∧ w.cell? ⟨b, off + i * 10 + 1, none⟩ = some u1 ∧ w.cell? ⟨b, off + i * 10 + 2, none⟩ = some u2 ∧ w.cell? ⟨b, off + i * 10 + 3, none⟩ = some u3 ∧ w.cell? ⟨b, off + i * 10 + 4, none⟩ = some u4 ∧ w.cell? ⟨b, off + i * 10 + 5, none⟩ = some u5 ∧ w.cell? ⟨b, off + i * 10 + 6, none⟩ = some u6 ∧ w.cell? ⟨b, off + i * 10 + 7, none⟩ = some u7 ∧ w.cell? ⟨b, off + i * 10 + 8, none⟩ = some u8 ∧ w.cell? ⟨b, off + i * 10 + 9, none⟩ = some u9 := by
  obtain ⟨b', off', e, hc⟩ := h.2.2.2 (by have := h.1; omega)
  simp only [Option.some.injEq, Addr.mk.injEq, and_true] at e
  obtain ⟨rfl, rfl⟩ := e
  obtain ⟨vs, hs, hcl⟩ := hc i hi
  have hl := R.seeLen hs
  rw [hR] at hl hcl
  match vs, hl with
  | [u0, u1, u2, u3, u4, u5, u6, u7, u8, u9], _ => exact ⟨u0, u1, u2, u3, u4, u5, u6, u7, u8, u9, hs, hcl 0 _ rfl, hcl 1 _ rfl, hcl 2 _ rfl, hcl 3 _ rfl, hcl 4 _ rfl, hcl 5 _ rfl, hcl 6 _ rfl, hcl 7 _ rfl, hcl 8 _ rfl, hcl 9 _ rfl⟩
end Go.Proofs.Ytmpggohilmngpaa.lay
