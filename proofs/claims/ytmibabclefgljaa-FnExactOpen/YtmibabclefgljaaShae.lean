/- Rows of structs that own memory: made, an element written, an element turned. No function of the program is named here. Cells of elements of rows; a struct written whole. No function of the program is named here. One who decides, as a call owns it. Plain mathematics of words: what is right, their bytes, and that these come back. How words lie in memory, and rows of them. No function of the program is named here. Plain mathematics of padding. Plain mathematics of SHA-256, on natural numbers below 2 to the power of 32. Plain mathematics of records: their bytes, that these come back, what they make. Rows of records (two numbers and a slice of orders: three cells a record): small facts on worlds; no function of the program is named here. The specification's records: what is right. The specification's replay: where a transaction is held, and whether a key is. The specification's replay: whether a key of orders is one of what is held. append within the room that a make laid: small facts on worlds; no function of the program is named here. The program's keys and pairs: what is right. The program's places of keys, and what is got. The program's putting of keys. The program's deleting of keys: a map counts the keys, and the key is deleted from it. A map of records by their transactions, that the call itself made: its elements are records whose orders lie elsewhere. -/
import Derived.Test.YtmibabclefgljaaShad
import Derived.Test.YtmibabclefgljaaShab
import Derived.Test.YtmibabclefgljaaShaa
import Derived.BigQuiet
import Derived.OwnWalk
import Derived.Maps.OwnSet
import Derived.Maps.OwnOps
import Derived.Maps.Views
namespace Go.Proofs.Ytmibabclefgljaa.lay
open Go Go.RowKit Go.Proofs.Ytmibabclefgljaa.base
set_option linter.unusedVariables false
set_option linter.unusedSimpArgs false

def putAll (w : World) (g : Nat) : Nat → List Value → World
  | _, [] => w
  | o, u :: us => putAll (w.setCell ⟨g, o, none⟩ u) g (o + 1) us
def setAll (xs : List Value) : Nat → List Value → List Value
  | _, [] => xs
  | o, u :: us => setAll (xs.set o u) (o + 1) us
theorem setAll_length (us : List Value) : ∀ (xs : List Value) (o : Nat), (setAll xs o us).length = xs.length := by
  induction us with
  | nil => intro xs o; rfl
  | cons u us ih => intro xs o; rw [setAll, ih, List.length_set]
theorem setAll_get (us : List Value) : ∀ (xs : List Value) (o j : Nat) (h : o + us.length ≤ xs.length), (setAll xs o us)[j]? = if o ≤ j ∧ j < o + us.length then us[j - o]? else xs[j]? := by
  induction us with
  | nil => intro xs o j h; rw [setAll, if_neg (by simp)]
  | cons u us ih =>
    intro xs o j h
    simp only [List.length_cons] at h ⊢
    rw [setAll, ih _ _ _ (by rw [List.length_set]; omega)]
    by_cases e : j = o
    · subst e
      rw [if_neg (by omega), if_pos (by omega), List.getElem?_set_self (by omega), Nat.sub_self]; rfl
    · rw [List.getElem?_set_ne (by omega)]
      by_cases h1 : o + 1 ≤ j ∧ j < o + 1 + us.length
      · rw [if_pos h1, if_pos (by omega), show j - o = (j - (o + 1)) + 1 by omega, List.getElem?_cons_succ]
      · rw [if_neg h1, if_neg (by omega)]
theorem cellsOf_set {q : Parts} {n : Nat} (h : ∀ p ∈ q, p.1.length = n) (i : Nat) (hi : i < q.length) (us : List Value) (hu : us.length = n) (F : List Nat) : setAll (cellsOf q) (i * n) us = cellsOf (q.set i (us, F)) := by
  have hq : ∀ p ∈ q.set i (us, F), p.1.length = n := fun p hp => by
    rcases List.mem_or_eq_of_mem_set hp with h1 | h1
    · exact h p h1
    · subst h1; exact hu
  have hl1 := cellsOf_length h
  have hl2 := cellsOf_length hq
  rw [List.length_set] at hl2
  have hin : i * n + n ≤ q.length * n := by
    have := Nat.mul_le_mul_right n (show i + 1 ≤ q.length from hi)
    rw [Nat.add_mul] at this; omega
  refine List.ext_getElem? fun j => ?_
  by_cases hj : j < q.length * n
  · have hn0 : 0 < n := by
      rcases Nat.eq_zero_or_pos n with e | e
      · subst e; omega
      · exact e
    have hd := Nat.div_add_mod j n
    have hm := Nat.mod_lt j hn0
    have hjd : j / n < q.length := by
      rcases Nat.lt_or_ge (j / n) q.length with h1 | h1
      · exact h1
      · have := Nat.mul_le_mul_left n h1
        rw [Nat.mul_comm n q.length] at this; omega
    have e : j = j / n * n + j % n := by rw [Nat.mul_comm]; omega
    rw [setAll_get us _ _ _ (by omega)]
    conv => rhs; rw [e, cellsOf_get hq (j / n) (by simpa using hjd) (j % n) hm]
    by_cases hi2 : j / n = i
    · have e3 : j = i * n + j % n := by rw [← hi2]; exact e
      rw [if_pos (by omega), show j - i * n = j % n by omega]
      subst hi2
      rw [List.getElem_set_self]
    · have hne : ¬ (i * n ≤ j ∧ j < i * n + us.length) := by
        rintro ⟨h1, h2⟩
        rw [hu] at h2
        apply hi2
        rcases Nat.lt_trichotomy (j / n) i with h3 | h3 | h3
        · have := Nat.mul_le_mul_right n (show j / n + 1 ≤ i from h3)
          rw [Nat.add_mul] at this; omega
        · exact h3
        · have := Nat.mul_le_mul_right n (show i + 1 ≤ j / n from h3)
          rw [Nat.add_mul] at this; omega
      rw [if_neg hne, List.getElem_set_ne (fun e => hi2 e.symm)]
      conv => lhs; rw [e, cellsOf_get h (j / n) hjd (j % n) hm]
  · rw [List.getElem?_eq_none (by rw [setAll_length]; omega), List.getElem?_eq_none (by omega)]
section
variable {α : Type} {ty : TypeId} {R : Rd α} {w w' : World} {l : List α} {q : Parts} {g n cap : Nat}
theorem row_putAll {base size : Nat} (us : List Value) : ∀ {w : World} {xs : List Value} (o : Nat), w.ownsRow base ty size (.slice (some ⟨g, 0, none⟩) n cap) n xs → (putAll w g o us).ownsRow base ty size (.slice (some ⟨g, 0, none⟩) n cap) n (setAll xs o us) ∧ w.grownBy (putAll w g o us) (some g) := by
  induction us with
  | nil => intro w xs o h; exact ⟨h, World.grownBy.refl _ _⟩
  | cons u us ih =>
    intro w xs o h
    have s := h.stored o u
    have t := ih (o + 1) s.1
    exact ⟨t.1, grownBy_trans s.2 t.2⟩
theorem OwnG.turn {v : Value} (h : OwnG ty R w v l q) (i : Nat) (hi : i < l.length) (us : List Value) (x : α) (F : List Nat) (hr : w'.ownsRow 0 ty R.size v l.length (cellsOf (q.set i (us, F)))) (hx : R.own w' us x F)
    (hk : ∀ j (hj : j < l.length), j ≠ i → ∀ b ∈ (q[j]'(by have := h.len; omega)).2, w'.heap[b]? = w.heap[b]?) (hF : ∀ b ∈ F, b ∈ (q[i]'(by have := h.len; omega)).2 ∨ b ∉ v.ownBlock.toList ++ blocksOf q) : OwnG ty R w' v (l.set i x) (q.set i (us, F)) := by
  have hl := h.len
  have hnd := h.nodup
  refine ⟨by simp [hl], by simpa using hr, fun j hj => ?_, ?_⟩
  · have hjl : j < l.length := by simpa using hj
    by_cases e : i = j
    · subst e
      simp only [List.getElem_set_self]
      exact hx
    · simp only [List.getElem_set_ne e]
      exact R.ownAt (h.each j hjl) (hk j hjl fun e2 => e e2.symm)
  · have hxn := R.ownNodup hx
    have hqi : i < q.length := by omega
    have e1 : blocksOf q = blocksOf (q.take i) ++ (q[i].2 ++ blocksOf (q.drop (i + 1))) := by
      conv => lhs; rw [← List.take_append_drop i q, List.drop_eq_getElem_cons hqi]
      rw [blocksOf_append]; rfl
    have e2 : blocksOf (q.set i (us, F)) = blocksOf (q.take i) ++ (F ++ blocksOf (q.drop (i + 1))) := by
      rw [List.set_eq_take_append_cons_drop, if_pos hqi, blocksOf_append]; rfl
    have hF2 : ∀ b ∈ F, b ∉ v.ownBlock.toList ∧ b ∉ blocksOf (q.take i) ∧ b ∉ blocksOf (q.drop (i + 1)) := fun b hb => by
      rw [e1] at hnd
      rcases hF b hb with h1 | h1
      · obtain ⟨n1, n2, n3⟩ := nodup_parts hnd
        obtain ⟨m1, m2, m3⟩ := nodup_parts n2
        obtain ⟨k1, k2, k3⟩ := nodup_parts m2
        exact ⟨fun e => n3 b e (List.mem_append.2 (.inr (List.mem_append.2 (.inl h1)))), fun e => m3 b e (List.mem_append.2 (.inl h1)), k3 b h1⟩
      · rw [e1] at h1
        simp only [List.mem_append, not_or] at h1
        exact ⟨h1.1, h1.2.1, h1.2.2.2⟩
    rw [e1] at hnd
    obtain ⟨n1, n2, n3⟩ := nodup_parts hnd
    obtain ⟨m1, m2, m3⟩ := nodup_parts n2
    obtain ⟨k1, k2, k3⟩ := nodup_parts m2
    rw [e2]
    refine nodup_mk n1 (nodup_mk m1 (nodup_mk hxn k2 fun b hb => (hF2 b hb).2.2) fun b hb hb2 => ?_) fun b hb hb2 => ?_
    · rcases List.mem_append.1 hb2 with h1 | h1
      · exact (hF2 b h1).2.1 hb
      · exact m3 b hb (List.mem_append.2 (.inr h1))
    · rcases List.mem_append.1 hb2 with h1 | h1
      · exact n3 b hb (List.mem_append.2 (.inl h1))
      · rcases List.mem_append.1 h1 with h1 | h1
        · exact (hF2 b h1).1 hb
        · exact n3 b hb (List.mem_append.2 (.inr (List.mem_append.2 (.inr h1))))
theorem OwnG.put (h : OwnG ty R w (.slice (some ⟨g, 0, none⟩) n cap) l q) (i : Nat) (hi : i < l.length) (us : List Value) (x : α) (F : List Nat) (hx : R.own w us x F) (hF : ∀ b ∈ F, b ∉ g :: blocksOf q) :
    OwnG ty R (putAll w g (i * R.size) us) (.slice (some ⟨g, 0, none⟩) n cap) (l.set i x) (q.set i (us, F)) ∧ w.grownBy (putAll w g (i * R.size) us) (some g) := by
  have hn : n = l.length := by
    rcases h.shape with ⟨e, _⟩ | ⟨g', c', e, _⟩
    · cases e
    · cases e; rfl
  subst hn
  have hl := h.len
  have hr := row_putAll us (i * R.size) h.row
  rw [cellsOf_set h.parts i (by omega) us (R.ownLen hx) F] at hr
  have hgn : ∀ b ∈ blocksOf q, b ≠ g := fun b hb e => by
    have := (nodup_parts h.nodup).2.2 g (by simp [Value.ownBlock])
    exact this (e ▸ hb)
  refine ⟨h.turn i hi us x F hr.1 (R.ownAt hx fun k hk => hr.2.block k (R.ownLt hx k hk) fun e => hF k hk (by simp [Option.some.inj e])) (fun j hj hne b hb => ?_) (fun b hb => .inr (by simpa [Value.ownBlock] using hF b hb)), hr.2⟩
  have hbq : b ∈ blocksOf q := List.mem_flatMap.2 ⟨_, List.getElem_mem _, hb⟩
  exact hr.2.block b (R.ownLt (h.each j hj) b hb) fun e => hgn b hbq (Option.some.inj e)
theorem ownG_zeros {z : Value} {x : α} {k : Nat} (hr : w.ownsRow k ty R.size (.slice (some ⟨g, 0, none⟩) n n) n (madeCells z.cells (n * R.size)).toList) (hz : R.own w z.cells.toList x []) : OwnG ty R w (.slice (some ⟨g, 0, none⟩) n n) (List.replicate n x) (List.replicate n (z.cells.toList, [])) := by
  have hzl : z.cells.toList.length = R.size := R.ownLen hz
  have e1 : blocksOf (List.replicate n (z.cells.toList, ([] : List Nat))) = [] := by unfold blocksOf; simp
  have hp : ∀ p ∈ List.replicate n (z.cells.toList, ([] : List Nat)), p.1.length = R.size := fun p hp => by rw [(List.mem_replicate.1 hp).2]; exact hzl
  have e2 : cellsOf (List.replicate n (z.cells.toList, ([] : List Nat))) = (madeCells z.cells (n * R.size)).toList := by
    refine List.ext_getElem? fun j => ?_
    by_cases hj : j < n * R.size
    · have hn0 : 0 < R.size := by
        rcases Nat.eq_zero_or_pos R.size with e | e
        · rw [e] at hj; omega
        · exact e
      have hd := Nat.div_add_mod j R.size
      have hm := Nat.mod_lt j hn0
      have hjd : j / R.size < n := Nat.div_lt_of_lt_mul (by rw [Nat.mul_comm]; exact hj)
      have e : j = j / R.size * R.size + j % R.size := by rw [Nat.mul_comm]; omega
      conv => lhs; rw [e, cellsOf_get hp (j / R.size) (by simpa using hjd) (j % R.size) hm]
      have hzs : z.cells.size = R.size := by rw [← hzl]; simp
      have hm2 : j % R.size < z.cells.size := by omega
      simp [madeCells, hj, hzs, List.getElem_replicate]
      rw [Array.getElem?_eq_getElem hm2, getElem!_pos z.cells _ hm2]
    · rw [List.getElem?_eq_none (by rw [cellsOf_length hp, List.length_replicate]; omega), List.getElem?_eq_none (by simp [madeCells]; omega)]
  refine ⟨by simp, ?_, fun i hi => ?_, by rw [e1]; simp [Value.ownBlock]⟩
  · rw [List.length_replicate, e2]
    obtain ⟨h1, h2⟩ := hr
    refine ⟨h1, ?_⟩
    rcases h2 with h2 | ⟨g', c', cur, h2, h3, h4⟩
    · exact .inl h2
    · exact .inr ⟨g', c', cur, h2, Nat.zero_le _, h4⟩
  · simp only [List.getElem_replicate]
    exact hz
end
def copyG {α : Type} (z : α) (l : List α) (k : Nat) : List α := l.take k ++ List.replicate (l.length - k) z
section
variable {α : Type} {z : α} {l : List α}
theorem copyG_length (k : Nat) (h : k ≤ l.length) : (copyG z l k).length = l.length := by simp [copyG]; omega
theorem copyG_zero : copyG z l 0 = List.replicate l.length z := by simp [copyG]
theorem copyG_set (k : Nat) (h : k < l.length) : (copyG z l k).set k l[k] = copyG z l (k + 1) := by
  unfold copyG
  rw [List.take_succ_eq_append_getElem h]
  have e1 : (l.take k).length = k := by simp; omega
  have e2 : l.length - k = (l.length - (k + 1)) + 1 := by omega
  rw [List.set_append_right _ _ (by omega), e1, Nat.sub_self, e2, List.replicate_succ, List.set_cons_zero, List.append_assoc]
  rfl
theorem copyG_all : copyG z l l.length = l := by simp [copyG]
end
end Go.Proofs.Ytmibabclefgljaa.lay

namespace Go.Proofs.Ytmibabclefgljaa.lay
open Go Go.RowKit Go.Proofs.Ytmibabclefgljaa.base
set_option linter.unusedVariables false
set_option linter.unusedSimpArgs false

theorem BoxIn.all {X : Nat} {T : TypeId} (us : List Value) : ∀ {vs done : List Value} {w : World}, vs.length = us.length → BoxIn X T done vs [] w → BoxIn X T done us [] (putAll w X done.length us) ∧ w.grownBy (putAll w X done.length us) (some X) := by
  induction us with
  | nil =>
    intro vs done w hl h
    have : vs = [] := List.eq_nil_of_length_eq_zero hl
    subst this
    exact ⟨h, World.grownBy.refl _ _⟩
  | cons u us ih =>
    intro vs done w hl h
    match vs, hl with
    | v :: vs, hl =>
      have s := h.set 0 (by simp) u
      rw [Nat.add_zero] at s
      have h2 : BoxIn X T (done ++ [u]) vs [] (w.setCell ⟨X, done.length, none⟩ u) := by
        have := s.1
        unfold BoxIn at this ⊢
        simpa using this
      have t := ih (by simpa using hl) h2
      rw [List.length_append, List.length_singleton] at t
      refine ⟨?_, grownBy_trans s.2 t.2⟩
      have := t.1
      unfold BoxIn at this ⊢
      simpa [putAll] using this
theorem BoxIn.whole {X : Nat} {T : TypeId} {vs : List Value} {w : World} (h : BoxIn X T [] vs [] w) (us : List Value) (hl : vs.length = us.length) : BoxIn X T [] us [] (putAll w X 0 us) ∧ w.grownBy (putAll w X 0 us) (some X) := BoxIn.all us hl h
theorem OwnG.frozen {α : Type} {ty : TypeId} {R : Rd α} {w : World} {g n cap : Nat} {l : List α} {q : Parts} (h : OwnG ty R w (.slice (some ⟨g, 0, none⟩) n cap) l q) (j : Nat) : w.frozen? ⟨g, j, none⟩ = false := by
  have hn : n = l.length := by
    rcases h.shape with ⟨e, _⟩ | ⟨g', c', e, _⟩
    · cases e
    · cases e; rfl
  subst hn
  exact h.row.frozenAt j
theorem OwnG.nlen {α : Type} {ty : TypeId} {R : Rd α} {w : World} {g n cap : Nat} {l : List α} {q : Parts} (h : OwnG ty R w (.slice (some ⟨g, 0, none⟩) n cap) l q) : n = l.length := by
  rcases h.shape with ⟨e, _⟩ | ⟨g', c', e, _⟩
  · cases e
  · cases e; rfl
theorem OwnG.lts {α : Type} {ty : TypeId} {R : Rd α} {w : World} {g n cap : Nat} {l : List α} {q : Parts} (h : OwnG ty R w (.slice (some ⟨g, 0, none⟩) n cap) l q) : ∀ b ∈ g :: blocksOf q, b < w.heap.size := fun b hb => h.at_ b (by simpa [Value.ownBlock] using hb)
theorem OwnG.below {α : Type} {ty : TypeId} {R : Rd α} {w w' : World} {v : Value} {l : List α} {q : Parts} (h : OwnG ty R w v l q) (hb : Below w.heap.size w w') : OwnG ty R w' v l q := h.keep fun b hb2 => hb.block b (h.at_ b hb2)
theorem slg_at2 {α : Type} {R : Rd α} {w : World} {b off len : Nat} {l : List α} (hR : R.size = 2) (h : SlG R w (some ⟨b, off, none⟩) len l) (i : Nat) (hi : i < l.length) : ∃ u0 u1, R.see w [u0, u1] l[i] ∧ w.cell? ⟨b, off + i * 2, none⟩ = some u0 ∧ w.cell? ⟨b, off + i * 2 + 1, none⟩ = some u1 := by
  obtain ⟨b', off', e, hc⟩ := h.2.2.2 (by have := h.1; omega)
  simp only [Option.some.injEq, Addr.mk.injEq, and_true] at e
  obtain ⟨rfl, rfl⟩ := e
  obtain ⟨vs, hs, hcl⟩ := hc i hi
  have hl := R.seeLen hs
  rw [hR] at hl hcl
  match vs, hl with
  | [u0, u1], _ => exact ⟨u0, u1, hs, hcl 0 _ rfl, hcl 1 _ rfl⟩
theorem slg_at4 {α : Type} {R : Rd α} {w : World} {b off len : Nat} {l : List α} (hR : R.size = 4) (h : SlG R w (some ⟨b, off, none⟩) len l) (i : Nat) (hi : i < l.length) : ∃ u0 u1 u2 u3, R.see w [u0, u1, u2, u3] l[i] ∧ w.cell? ⟨b, off + i * 4, none⟩ = some u0 ∧ w.cell? ⟨b, off + i * 4 + 1, none⟩ = some u1 ∧ w.cell? ⟨b, off + i * 4 + 2, none⟩ = some u2 ∧ w.cell? ⟨b, off + i * 4 + 3, none⟩ = some u3 := by
  obtain ⟨b', off', e, hc⟩ := h.2.2.2 (by have := h.1; omega)
  simp only [Option.some.injEq, Addr.mk.injEq, and_true] at e
  obtain ⟨rfl, rfl⟩ := e
  obtain ⟨vs, hs, hcl⟩ := hc i hi
  have hl := R.seeLen hs
  rw [hR] at hl hcl
  match vs, hl with
  | [u0, u1, u2, u3], _ => exact ⟨u0, u1, u2, u3, hs, hcl 0 _ rfl, hcl 1 _ rfl, hcl 2 _ rfl, hcl 3 _ rfl⟩
theorem slg_at5 {α : Type} {R : Rd α} {w : World} {b off len : Nat} {l : List α} (hR : R.size = 5) (h : SlG R w (some ⟨b, off, none⟩) len l) (i : Nat) (hi : i < l.length) : ∃ u0 u1 u2 u3 u4, R.see w [u0, u1, u2, u3, u4] l[i] ∧ w.cell? ⟨b, off + i * 5, none⟩ = some u0 ∧ w.cell? ⟨b, off + i * 5 + 1, none⟩ = some u1 ∧ w.cell? ⟨b, off + i * 5 + 2, none⟩ = some u2 ∧ w.cell? ⟨b, off + i * 5 + 3, none⟩ = some u3 ∧ w.cell? ⟨b, off + i * 5 + 4, none⟩ = some u4 := by
  obtain ⟨b', off', e, hc⟩ := h.2.2.2 (by have := h.1; omega)
  simp only [Option.some.injEq, Addr.mk.injEq, and_true] at e
  obtain ⟨rfl, rfl⟩ := e
  obtain ⟨vs, hs, hcl⟩ := hc i hi
  have hl := R.seeLen hs
  rw [hR] at hl hcl
  match vs, hl with
  | [u0, u1, u2, u3, u4], _ => exact ⟨u0, u1, u2, u3, u4, hs, hcl 0 _ rfl, hcl 1 _ rfl, hcl 2 _ rfl, hcl 3 _ rfl, hcl 4 _ rfl⟩
end Go.Proofs.Ytmibabclefgljaa.lay

namespace Go.Proofs.Ytmibabclefgljaa.cos
open Go Go.RowKit Go.Proofs.Ytmibabclefgljaa.base Go.Proofs.Ytmibabclefgljaa.pairs Go.Proofs.Ytmibabclefgljaa.ords Go.Proofs.Ytmibabclefgljaa.lay Go.Proofs.Ytmibabclefgljaa.wds
set_option linter.unusedVariables false
set_option linter.unusedSimpArgs false

section
variable {w w' : World} {vs : List Value} {c : Co} {F : List Nat} {e : Ending}
structure WfCo (c : Co) : Prop where
  n : (Lit.int .i64 c.1).wf = true
  life : (Lit.int .i64 c.2.1).wf = true
  next : (Lit.int .i64 c.2.2.1).wf = true
  sure : (Lit.int .i64 c.2.2.2.2.2).wf = true
theorem coord_own : coordR.own w vs c F ↔ ∃ x y F1 F2, vs = [.int .i64 c.1, .int .i64 c.2.1, .int .i64 c.2.2.1, x, y, .int .i64 c.2.2.2.2.2] ∧ WfCo c ∧ jobsR.own w [x] c.2.2.2.1 F1 ∧ logR.own w [y] c.2.2.2.2.1 F2 ∧ F = F1 ++ F2 ∧ F.Nodup := by
  constructor
  · rintro ⟨us, ts, G1, G2, rfl, rfl, h1, ⟨us2, ts2, G3, G4, rfl, rfl, h2, ⟨us3, ts3, G5, G6, rfl, rfl, h3, ⟨us4, ts4, G7, G8, rfl, rfl, h4, ⟨us5, ts5, G9, G10, rfl, rfl, h5, h6, n5⟩, n4⟩, n3⟩, n2⟩, n1⟩
    obtain ⟨rfl, k1, rfl⟩ := flat_int.own.1 h1
    obtain ⟨rfl, k2, rfl⟩ := flat_int.own.1 h2
    obtain ⟨rfl, k3, rfl⟩ := flat_int.own.1 h3
    obtain ⟨rfl, k6, rfl⟩ := flat_int.own.1 h6
    obtain ⟨v4, q4, rfl, _⟩ := id h4
    obtain ⟨v5, q5, rfl, _⟩ := id h5
    exact ⟨v4, v5, G7, G9, rfl, ⟨k1, k2, k3, k6⟩, h4, h5, by simp, n1⟩
  · rintro ⟨x, y, F1, F2, rfl, ⟨k1, k2, k3, k6⟩, h4, h5, rfl, hn⟩
    exact ⟨[_], [_, _, x, y, _], [], F1 ++ F2, rfl, rfl, flat_int.own.2 ⟨rfl, k1, rfl⟩, ⟨[_], [_, x, y, _], [], F1 ++ F2, rfl, rfl, flat_int.own.2 ⟨rfl, k2, rfl⟩, ⟨[_], [x, y, _], [], F1 ++ F2, rfl, rfl, flat_int.own.2 ⟨rfl, k3, rfl⟩, ⟨[x], [y, _], F1, F2, rfl, rfl, h4, ⟨[y], [_], F2, [], rfl, (List.append_nil _).symm, h5, flat_int.own.2 ⟨rfl, k6, rfl⟩, (nodup_parts hn).2.1⟩, hn⟩, hn⟩, hn⟩, hn⟩
theorem SeeCo.wf {ja la : Option Addr} {jn jc ln lc : Nat} (h : SeeCo w ja jn jc la ln lc c) : WfCo c := ⟨h.n, h.life, h.next, h.sure⟩
structure BoundCo (c : Co) : Prop where
  fits : FitsCo c
  yes : ∀ j ∈ c.2.2.2.1, j.2.2.2.length ≤ 1099511627776
  jobs : c.2.2.2.1.length ≤ 1048576
  log : c.2.2.2.2.1.length ≤ 1048576
  sum : sumJ c.2.2.2.1 ≤ 1048576
theorem sumO_at {l : List Od} {p : Od} (h : p ∈ l) : p.2.1.size ≤ sumO l := by
  obtain ⟨i, hi, rfl⟩ := List.getElem_of_mem h
  have h1 := sumO_take l i hi
  have h2 := sumO_le l (i + 1)
  unfold osz at h1
  omega
theorem bound_co {c : Co} (h : csz c ≤ 1048576) : BoundCo c := by
  unfold csz at h
  refine ⟨⟨by omega, by omega, fun j hj => ?_⟩, fun j hj => ?_, by omega, by omega, by omega⟩
  · have h1 := sumJ_mem hj
    unfold jsz at h1
    refine ⟨by omega, fun p hp => ?_⟩
    have h2 := sumO_at hp
    omega
  · have h1 := sumJ_mem hj
    unfold jsz at h1
    omega
end
end Go.Proofs.Ytmibabclefgljaa.cos

namespace Go.Proofs.Ytmibabclefgljaa.wds
open Go Go.RowKit Go.Proofs.Ytmibabclefgljaa.base Go.Proofs.Ytmibabclefgljaa.pairs Go.Proofs.Ytmibabclefgljaa.ords Go.Proofs.Ytmibabclefgljaa.putnum Go.Proofs.Ytmibabclefgljaa.puttext Go.Proofs.Ytmibabclefgljaa.getnum Go.Proofs.Ytmibabclefgljaa.gettext Go.Proofs.Ytmibabclefgljaa.gettexts Go.Proofs.Ytmibabclefgljaa.nummath
set_option linter.unusedVariables false
set_option linter.unusedSimpArgs false

abbrev Wd := Int × Int × Int × List Od × Bool
end Go.Proofs.Ytmibabclefgljaa.wds

namespace Go.Proofs.Ytmibabclefgljaa.cos
open Go Go.RowKit Go.Proofs.Ytmibabclefgljaa.base Go.Proofs.Ytmibabclefgljaa.pairs Go.Proofs.Ytmibabclefgljaa.ords Go.Proofs.Ytmibabclefgljaa.lay Go.Proofs.Ytmibabclefgljaa.wds
set_option linter.unusedVariables false
set_option linter.unusedSimpArgs false

def wordR : Rd Wd := both int (both int (both int (both opsR bool)))
def wordsR : Rd (List Wd) := slice 84 wordR
section
variable {w : World} {vs : List Value} {x : Wd} {F : List Nat}
theorem word_see : wordR.see w vs x ↔ ∃ oa ol oc, vs = [.int .i64 x.1, .int .i64 x.2.1, .int .i64 x.2.2.1, .slice oa ol oc, .bool x.2.2.2.2] ∧ (Lit.int .i64 x.1).wf = true ∧ (Lit.int .i64 x.2.1).wf = true ∧ (Lit.int .i64 x.2.2.1).wf = true ∧ SlO w oa ol x.2.2.2.1 ∧ ol ≤ oc := by
  constructor
  · rintro ⟨u1, t1, rfl, h1, u2, t2, rfl, h2, u3, t3, rfl, h3, u4, t4, rfl, h4, h5⟩
    obtain ⟨rfl, k1⟩ := flat_int.see.1 h1
    obtain ⟨rfl, k2⟩ := flat_int.see.1 h2
    obtain ⟨rfl, k3⟩ := flat_int.see.1 h3
    obtain ⟨rfl, _⟩ := flat_bool.see.1 h5
    obtain ⟨oa, ol, oc, rfl, _⟩ := id h4
    have h6 := ops_see.1 h4
    exact ⟨oa, ol, oc, rfl, k1, k2, k3, h6.1, h6.2⟩
  · rintro ⟨oa, ol, oc, rfl, k1, k2, k3, h4, h5⟩
    exact ⟨[_], [_, _, _, _], rfl, flat_int.see.2 ⟨rfl, k1⟩, [_], [_, _, _], rfl, flat_int.see.2 ⟨rfl, k2⟩, [_], [_, _], rfl, flat_int.see.2 ⟨rfl, k3⟩, [_], [_], rfl, ops_see.2 ⟨h4, h5⟩, flat_bool.see.2 ⟨rfl, trivial⟩⟩
theorem word_own : wordR.own w vs x F ↔ ∃ v, vs = [.int .i64 x.1, .int .i64 x.2.1, .int .i64 x.2.2.1, v, .bool x.2.2.2.2] ∧ (Lit.int .i64 x.1).wf = true ∧ (Lit.int .i64 x.2.1).wf = true ∧ (Lit.int .i64 x.2.2.1).wf = true ∧ opsR.own w [v] x.2.2.2.1 F := by
  constructor
  · rintro ⟨u1, t1, F1, G1, rfl, rfl, h1, ⟨u2, t2, F2, G2, rfl, rfl, h2, ⟨u3, t3, F3, G3, rfl, rfl, h3, ⟨u4, t4, F4, G4, rfl, rfl, h4, h5, _⟩, _⟩, _⟩, _⟩
    obtain ⟨rfl, k1, rfl⟩ := flat_int.own.1 h1
    obtain ⟨rfl, k2, rfl⟩ := flat_int.own.1 h2
    obtain ⟨rfl, k3, rfl⟩ := flat_int.own.1 h3
    obtain ⟨rfl, _, rfl⟩ := flat_bool.own.1 h5
    obtain ⟨v, q, rfl, _⟩ := id h4
    exact ⟨v, rfl, k1, k2, k3, by simpa using h4⟩
  · rintro ⟨v, rfl, k1, k2, k3, h4⟩
    have hn := opsR.ownNodup h4
    exact ⟨[_], [_, _, v, _], [], F, rfl, rfl, flat_int.own.2 ⟨rfl, k1, rfl⟩, ⟨[_], [_, v, _], [], F, rfl, rfl, flat_int.own.2 ⟨rfl, k2, rfl⟩, ⟨[_], [v, _], [], F, rfl, rfl, flat_int.own.2 ⟨rfl, k3, rfl⟩, ⟨[v], [_], F, [], rfl, (List.append_nil _).symm, h4, flat_bool.own.2 ⟨rfl, trivial, rfl⟩, hn⟩, hn⟩, hn⟩, hn⟩
end
end Go.Proofs.Ytmibabclefgljaa.cos

namespace Go.Proofs.Ytmibabclefgljaa.padmath
open Go.RowKit Go.Proofs.Ytmibabclefgljaa.base

end Go.Proofs.Ytmibabclefgljaa.padmath

namespace Go.Proofs.Ytmibabclefgljaa.sha
open Go.RowKit Go.Proofs.Ytmibabclefgljaa.base Go.Proofs.Ytmibabclefgljaa.padmath
set_option linter.unusedVariables false

def rotr (n x : Nat) : Nat := (x / 2 ^ n) ||| (x * 2 ^ (32 - n) % 4294967296)
def ssig0 (x : Nat) : Nat := rotr 7 x ^^^ rotr 18 x ^^^ x / 8
def ssig1 (x : Nat) : Nat := rotr 17 x ^^^ rotr 19 x ^^^ x / 1024
def bsig0 (x : Nat) : Nat := rotr 2 x ^^^ rotr 13 x ^^^ rotr 22 x
def bsig1 (x : Nat) : Nat := rotr 6 x ^^^ rotr 11 x ^^^ rotr 25 x
def ch (e f g : Nat) : Nat := (e &&& f) ^^^ ((4294967295 ^^^ e) &&& g)
def maj (a b c : Nat) : Nat := (a &&& b) ^^^ (a &&& c) ^^^ (b &&& c)
def be32 (bs : List UInt8) (i : Nat) : Nat := (bs.getD (4 * i) 0).toNat * 16777216 + (bs.getD (4 * i + 1) 0).toNat * 65536 + (bs.getD (4 * i + 2) 0).toNat * 256 + (bs.getD (4 * i + 3) 0).toNat
def nextWord (bs : List UInt8) (w : List Nat) (k : Nat) : Nat :=
  if k < 16 then be32 bs k else (w.getD (k - 16) 0 + ssig0 (w.getD (k - 15) 0) + w.getD (k - 7) 0 + ssig1 (w.getD (k - 2) 0)) % 4294967296
def ws (bs : List UInt8) : Nat → List Nat
  | 0 => []
  | k + 1 => ws bs k ++ [nextWord bs (ws bs k) k]
def rnd (s : List Nat) (kw : Nat) : List Nat :=
  let t1 := s.getD 7 0 + bsig1 (s.getD 4 0) + ch (s.getD 4 0) (s.getD 5 0) (s.getD 6 0) + kw
  let t2 := bsig0 (s.getD 0 0) + maj (s.getD 0 0) (s.getD 1 0) (s.getD 2 0)
  [(t1 + t2) % 4294967296, s.getD 0 0, s.getD 1 0, s.getD 2 0, (s.getD 3 0 + t1) % 4294967296, s.getD 4 0, s.getD 5 0, s.getD 6 0]
def rounds (ks w s : List Nat) : Nat → List Nat
  | 0 => s
  | i + 1 => rnd (rounds ks w s i) (ks.getD i 0 + w.getD i 0)
def addAll (a b : List Nat) : List Nat := (List.range 8).map fun i => (a.getD i 0 + b.getD i 0) % 4294967296
def block (ks h : List Nat) (bs : List UInt8) : List Nat := addAll (rounds ks (ws bs 64) h 64) h
end Go.Proofs.Ytmibabclefgljaa.sha

namespace Go.Proofs.Ytmibabclefgljaa.recs
open Go Go.RowKit Go.Proofs.Ytmibabclefgljaa.base Go.Proofs.Ytmibabclefgljaa.pairs Go.Proofs.Ytmibabclefgljaa.ords Go.Proofs.Ytmibabclefgljaa.putnum Go.Proofs.Ytmibabclefgljaa.puttext Go.Proofs.Ytmibabclefgljaa.getnum Go.Proofs.Ytmibabclefgljaa.gettext Go.Proofs.Ytmibabclefgljaa.gettexts Go.Proofs.Ytmibabclefgljaa.nummath
set_option linter.unusedVariables false

abbrev Rc := Int × Int × List Od
def recOk (r : Rc) : Bool := decide (1 ≤ r.2.1 ∧ r.2.1 ≤ 1000000) && (if r.1 = 1 then opsOk r.2.2 else decide (r.1 = 2 ∨ r.1 = 3) && r.2.2.isEmpty)
/-! ### bytes and back -/
/-! ### records one behind the other -/
/-! ### what records make -/
abbrev St := List Pr × List Rc × List Int
def locked (held : List Rc) (ops : List Od) : Bool := held.any fun h => h.2.2.any fun o => ops.any fun p => decide (o.2.1 = p.2.1)
def placeTx (tx : Int) : List Rc → Option Nat
  | [] => none
  | r :: l => if r.2.1 = tx then some 0 else (placeTx tx l).map (· + 1)
def opsAt (held : List Rc) (k : Nat) : List Od := match held[k]? with | none => [] | some r => r.2.2
def nextM (s : St) (r : Rc) (k : Nat) : List Pr := if r.1 = 2 then applyAll s.1 (opsAt s.2.1 k) else s.1
def one (s : St) (r : Rc) : Option St :=
  if recOk r = true then
    if r.1 = 1 then
      if decide (r.2.1 ∈ s.2.2) = true ∨ locked s.2.1 r.2.2 = true ∨ meets s.1 r.2.2 = false then none else some (s.1, s.2.1 ++ [r], s.2.2 ++ [r.2.1])
    else match placeTx r.2.1 s.2.1 with
      | none => if r.1 = 3 ∧ r.2.1 ∉ s.2.2 then some (s.1, s.2.1, s.2.2 ++ [r.2.1]) else none
      | some k => if (nextM s r k).length ≤ 60 then some (nextM s r k, s.2.1.take k ++ s.2.1.drop (k + 1), s.2.2) else none
  else none
end Go.Proofs.Ytmibabclefgljaa.recs

namespace Go.Proofs.Ytmibabclefgljaa.recs
open Go Go.RowKit Go.Proofs.Ytmibabclefgljaa.base Go.Proofs.Ytmibabclefgljaa.pairs Go.Proofs.Ytmibabclefgljaa.ords
set_option linter.unusedVariables false
set_option linter.unusedSimpArgs false

def smallR (x : Rc) : Prop := (Lit.int .i64 x.1).wf = true ∧ (Lit.int .i64 x.2.1).wf = true ∧ ∀ o ∈ x.2.2, smallO o

/-! ### a slice of orders of the call's own, or nil -/
def OwnV (w : World) (base : Nat) (v : Value) (l : List Od) : Prop := (∀ p ∈ l, smallO p) ∧ w.ownsRow base 129 3 v l.length (ordVals l)
section
variable {w w' : World} {base base' : Nat} {v : Value} {l : List Od} {row : Option Nat}
theorem ownV_nil (w : World) (base : Nat) : OwnV w base (.slice none 0 0) [] := ⟨fun _ h => absurd h List.not_mem_nil, World.ownsRow_nil _ _ _ _⟩
theorem ownV_of {g n cap : Nat} (h : OwnO w base g n cap l) : OwnV w base (.slice (some ⟨g, 0, none⟩) n cap) l := ⟨h.2.1, by rw [h.1]; exact h.2.2⟩
theorem OwnV.shape (h : OwnV w base v l) : (v = .slice none 0 0 ∧ l = []) ∨ ∃ g cap, v = .slice (some ⟨g, 0, none⟩) l.length cap ∧ OwnO w base g l.length cap l := by
  rcases h.2.2 with ⟨rfl, h0⟩ | ⟨g, cap, cur, rfl, _⟩
  · exact .inl ⟨rfl, List.eq_nil_of_length_eq_zero h0⟩
  · exact .inr ⟨g, cap, rfl, rfl, h.1, h.2⟩
theorem OwnV.lt (h : OwnV w base v l) (k : Nat) (hk : v.ownBlock = some k) : base ≤ k ∧ k < w.heap.size := h.2.lt k hk
theorem OwnV.of_block (h : OwnV w base v l) (hk : ∀ k, v.ownBlock = some k → w'.heap[k]? = w.heap[k]?) : OwnV w' base v l := by
  refine ⟨h.1, h.2.1, ?_⟩
  rcases h.2.2 with h' | ⟨g, cap, cur, rfl, h0, hg, r⟩
  · exact .inl h'
  · exact .inr ⟨g, cap, cur, rfl, h0, (hk g rfl).trans hg, r⟩
theorem OwnV.below (h : OwnV w base v l) (hb : Below w.heap.size w w') : OwnV w' base v l := h.of_block fun k hk => hb.block k (h.lt k hk).2
theorem OwnV.grown (h : OwnV w base v l) (hg : w.grownBy w' row) (hne : v.ownBlock = none ∨ v.ownBlock ≠ row) : OwnV w' base v l :=
  h.of_block fun k hk => hg.block k (h.lt k hk).2 (fun e => by
    rcases hne with h1 | h1
    · rw [hk] at h1; cases h1
    · exact h1 (hk.trans e))
theorem OwnV.mono (h : OwnV w base v l) (hb : base' ≤ base) : OwnV w base' v l := by
  refine ⟨h.1, h.2.1, ?_⟩
  rcases h.2.2 with h' | ⟨g, cap, cur, rfl, h0, r⟩
  · exact .inl h'
  · exact .inr ⟨g, cap, cur, rfl, by omega, r⟩
theorem OwnV.sl (h : OwnV w base v l) : ∃ a cap, v = .slice a l.length cap ∧ SlO w a l.length l ∧ l.length ≤ cap := by
  rcases h.shape with ⟨rfl, rfl⟩ | ⟨g, cap, rfl, hO⟩
  · exact ⟨none, 0, rfl, slo_nil _ _, Nat.le_refl _⟩
  · exact ⟨_, cap, rfl, hO.sl, hO.cases.1⟩
theorem OwnV.one (h : OwnV w base v l) : v.oneCell' = true := by
  rcases h.shape with ⟨rfl, _⟩ | ⟨g, cap, rfl, _⟩ <;> rfl
end

/-! ### records that are read -/
def RcAt (w : World) (b o : Nat) (x : Rc) : Prop :=
  w.cell? ⟨b, o, none⟩ = some (.int .i64 x.1) ∧ w.cell? ⟨b, o + 1, none⟩ = some (.int .i64 x.2.1) ∧ ∃ pa pl pc, w.cell? ⟨b, o + 2, none⟩ = some (.slice pa pl pc) ∧ SlO w pa pl x.2.2 ∧ pl ≤ pc
theorem RcAt.below {w w' : World} {b o : Nat} {x : Rc} (h : RcAt w b o x) (hb : Below w.heap.size w w') : RcAt w' b o x := by
  have keep : ∀ o v, w.cell? ⟨b, o, none⟩ = some v → w'.cell? ⟨b, o, none⟩ = some v := fun o v hv => (hb.cell (p := ⟨b, o, none⟩) (World.block_lt_of_cell? w _ hv)).trans hv
  obtain ⟨h1, h2, pa, pl, pc, h3, h4, h5⟩ := h
  exact ⟨keep _ _ h1, keep _ _ h2, pa, pl, pc, keep _ _ h3, h4.below hb, h5⟩
def SlR (w : World) (a : Option Addr) (len : Nat) (l : List Rc) : Prop :=
  l.length = len ∧ len ≤ maxLen ∧ (∀ x ∈ l, smallR x) ∧ (0 < len → ∃ b off, a = some ⟨b, off, none⟩ ∧ ∀ i (h : i < l.length), RcAt w b (off + i * 3) l[i])
theorem slr_nil (w : World) (a : Option Addr) : SlR w a 0 [] := ⟨rfl, Nat.zero_le _, (fun _ h => absurd h List.not_mem_nil), fun h => absurd h (by omega)⟩
theorem SlR.below {w w' : World} {a : Option Addr} {len : Nat} {l : List Rc} (h : SlR w a len l) (hb : Below w.heap.size w w') : SlR w' a len l := by
  obtain ⟨h1, h2, h3, h4⟩ := h
  refine ⟨h1, h2, h3, fun h0 => ?_⟩
  obtain ⟨b, off, e, hc⟩ := h4 h0
  exact ⟨b, off, e, fun i hi => (hc i hi).below hb⟩
theorem SlR.at {w : World} {b off len : Nat} {l : List Rc} (h : SlR w (some ⟨b, off, none⟩) len l) (i : Nat) (hi : i < l.length) : RcAt w b (off + i * 3) l[i] := by
  obtain ⟨b', off', e, hc⟩ := h.2.2.2 (by have := h.1; omega)
  simp only [Option.some.injEq, Addr.mk.injEq, and_true] at e
  obtain ⟨rfl, rfl⟩ := e
  exact hc i hi
/-! ### rows of records that a call made: the orders of each lie in a row of their own -/
def recVals (l : List Rc) (hs : List Value) : List Value := (l.zip hs).flatMap fun q => [.int .i64 q.1.1, .int .i64 q.1.2.1, q.2]
theorem recVals_cons (x : Rc) (l : List Rc) (y : Value) (hs : List Value) : recVals (x :: l) (y :: hs) = .int .i64 x.1 :: .int .i64 x.2.1 :: y :: recVals l hs := rfl
theorem recVals_length (l : List Rc) (hs : List Value) (h : hs.length = l.length) : (recVals l hs).length = l.length * 3 := by
  induction l generalizing hs with
  | nil => rfl
  | cons x l ih =>
    cases hs with
    | nil => simp at h
    | cons y hs => simp at h; have := ih hs h; rw [recVals_cons]; simp [this]; omega
theorem recVals_get (l : List Rc) (hs : List Value) (h : hs.length = l.length) (i : Nat) (hi : i < l.length) :
    (recVals l hs)[i * 3]? = some (.int .i64 l[i].1) ∧ (recVals l hs)[i * 3 + 1]? = some (.int .i64 l[i].2.1) ∧ (recVals l hs)[i * 3 + 2]? = some (hs[i]'(by omega)) := by
  induction l generalizing hs i with
  | nil => simp at hi
  | cons x l ih =>
    cases hs with
    | nil => simp at h
    | cons y hs =>
      rw [recVals_cons]
      cases i with
      | zero => exact ⟨rfl, rfl, rfl⟩
      | succ i =>
        have := ih hs (by simpa using h) i (by simpa using hi)
        rw [show (i + 1) * 3 = i * 3 + 1 + 1 + 1 by omega]
        simpa using this
structure OwnR (w : World) (base : Nat) (v : Value) (l : List Rc) (hs : List Value) : Prop where
  len : hs.length = l.length
  sm : ∀ x ∈ l, smallR x
  row : w.ownsRow base 125 3 v l.length (recVals l hs)
  ops : ∀ i (h : i < l.length), OwnV w base (hs[i]'(by omega)) l[i].2.2
  apart : hs.Pairwise fun a b => a.ownBlock = none ∨ a.ownBlock ≠ b.ownBlock
  out : ∀ k, v.ownBlock = some k → ∀ y ∈ hs, y.ownBlock ≠ some k
section
variable {w w' : World} {base base' g n cap : Nat} {v : Value} {l : List Rc} {hs : List Value}
def BlkR (v : Value) (hs : List Value) (k : Nat) : Prop := v.ownBlock = some k ∨ ∃ y ∈ hs, y.ownBlock = some k
theorem rowR_of_block {e : TypeId} {size n : Nat} {xs : List Value} (h : w.ownsRow base e size v n xs) (hk : ∀ k, v.ownBlock = some k → w'.heap[k]? = w.heap[k]?) : w'.ownsRow base e size v n xs := by
  refine ⟨h.1, ?_⟩
  rcases h.2 with h' | ⟨g, cap, cur, rfl, h0, hg, r⟩
  · exact .inl h'
  · exact .inr ⟨g, cap, cur, rfl, h0, (hk g rfl).trans hg, r⟩
theorem OwnR.of_blocks (h : OwnR w base v l hs) (hk : ∀ k, BlkR v hs k → w'.heap[k]? = w.heap[k]?) : OwnR w' base v l hs :=
  ⟨h.len, h.sm, rowR_of_block h.row (fun k e => hk k (.inl e)), fun i hi => (h.ops i hi).of_block (fun k e => hk k (.inr ⟨hs[i]'(by have := h.len; omega), List.getElem_mem _, e⟩)), h.apart, h.out⟩
theorem OwnR.lt (h : OwnR w base v l hs) (k : Nat) (hk : BlkR v hs k) : base ≤ k ∧ k < w.heap.size := by
  rcases hk with e | ⟨y, hy, e⟩
  · exact h.row.lt k e
  · obtain ⟨i, hi, rfl⟩ := List.getElem_of_mem hy
    exact (h.ops i (by have := h.len; omega)).lt k e
theorem OwnR.below (h : OwnR w base v l hs) (hb : Below w.heap.size w w') : OwnR w' base v l hs := h.of_blocks fun k hk => hb.block k (h.lt k hk).2
theorem OwnR.grown (h : OwnR w base v l hs) {k : Nat} (hg : w.grownBy w' (some k)) (hne : ¬ BlkR v hs k) : OwnR w' base v l hs :=
  h.of_blocks (fun j hj => hg.block j (h.lt j hj).2 (fun e => by cases e; exact hne hj))
theorem OwnR.mono (h : OwnR w base v l hs) (hb : base' ≤ base) : OwnR w base' v l hs := by
  refine ⟨h.len, h.sm, ⟨h.row.1, ?_⟩, fun i hi => (h.ops i hi).mono hb, h.apart, h.out⟩
  rcases h.row.2 with h' | ⟨g, cap, cur, rfl, h0, r⟩
  · exact .inl h'
  · exact .inr ⟨g, cap, cur, rfl, by omega, r⟩
theorem OwnR.shape (h : OwnR w base v l hs) : (v = .slice none 0 0 ∧ l = [] ∧ hs = []) ∨ ∃ g cap, v = .slice (some ⟨g, 0, none⟩) l.length cap ∧ l.length ≤ cap ∧ cap ≤ maxLen := by
  rcases h.row.2 with ⟨rfl, h0⟩ | ⟨g, cap, cur, rfl, _, _, h1, h2, _⟩
  · have : l = [] := List.eq_nil_of_length_eq_zero h0
    subst this
    exact .inl ⟨rfl, rfl, List.eq_nil_of_length_eq_zero (by simpa using h.len)⟩
  · exact .inr ⟨g, cap, rfl, h1, h2⟩
theorem OwnR.nlen {a : Option Addr} (h : OwnR w base (.slice a n cap) l hs) : n = l.length := by
  rcases h.shape with ⟨e, rfl, _⟩ | ⟨g', c', e, _⟩
  · cases e; rfl
  · cases e; rfl
theorem OwnR.room {a : Option Addr} (h : OwnR w base (.slice a n cap) l hs) : n ≤ cap ∧ cap ≤ maxLen := by
  rcases h.shape with ⟨e, rfl, _⟩ | ⟨g', c', e, h1, h2⟩
  · cases e; exact ⟨Nat.le_refl _, Nat.zero_le _⟩
  · cases e; exact ⟨h1, h2⟩
theorem OwnR.at (h : OwnR w base (.slice (some ⟨g, 0, none⟩) n cap) l hs) (i : Nat) (hi : i < l.length) :
    w.cell? ⟨g, i * 3, none⟩ = some (.int .i64 l[i].1) ∧ w.cell? ⟨g, i * 3 + 1, none⟩ = some (.int .i64 l[i].2.1) ∧ w.cell? ⟨g, i * 3 + 2, none⟩ = some (hs[i]'(by have := h.len; omega)) := by
  obtain rfl := h.nlen
  obtain ⟨h1, h2, h3⟩ := recVals_get l hs h.len i hi
  have key : ∀ j u, (recVals l hs)[j]? = some u → w.cell? ⟨g, j, none⟩ = some u := fun j u hu => by
    have := h.row.cells (g := g) rfl j u hu
    rw [Addr.add_lit, Nat.zero_add] at this
    exact this
  exact ⟨key _ _ h1, key _ _ h2, key _ _ h3⟩
theorem OwnR.frozen (h : OwnR w base (.slice (some ⟨g, 0, none⟩) n cap) l hs) (j : Nat) : w.frozen? ⟨g, j, none⟩ = false := by
  obtain rfl := h.nlen
  exact h.row.frozenAt j
theorem OwnR.sl {a : Option Addr} (h : OwnR w base (.slice a n cap) l hs) : SlR w a n l := by
  rcases h.shape with ⟨e, rfl, _⟩ | ⟨g, c, e, h1, h2⟩
  · cases e; exact slr_nil _ _
  · cases e
    refine ⟨rfl, by omega, h.sm, fun _ => ⟨g, 0, rfl, fun i hi => ?_⟩⟩
    obtain ⟨c1, c2, c3⟩ := h.at i hi
    rw [Nat.zero_add]
    obtain ⟨a, cp, e, hS, hc⟩ := (h.ops i hi).sl
    rw [e] at c3
    exact ⟨c1, c2, _, _, _, c3, hS, hc⟩
theorem OwnR.one (h : OwnR w base v l hs) : ∀ y ∈ hs, y.oneCell' = true := by
  intro y hy
  obtain ⟨i, hi, rfl⟩ := List.getElem_of_mem hy
  exact (h.ops i (by have := h.len; omega)).one

/-! ### all blocks but those of a slice of records are as they were -/
/-! ### stores -/
theorem recVals_set0 (l : List Rc) (hs : List Value) (h : hs.length = l.length) (i : Nat) (hi : i < l.length) (z : Int) : (recVals l hs).set (i * 3) (.int .i64 z) = recVals (l.set i (z, l[i].2)) hs := by
  induction l generalizing hs i with
  | nil => simp at hi
  | cons x l ih =>
    cases hs with
    | nil => simp at h
    | cons y hs =>
      cases i with
      | zero => rfl
      | succ i =>
        rw [recVals_cons, show (i + 1) * 3 = i * 3 + 1 + 1 + 1 by omega]
        simp only [List.set_cons_succ, List.getElem_cons_succ, recVals_cons]
        rw [ih hs (by simpa using h) i (by simpa using hi)]
theorem mem_set_smallR {i : Nat} {x : Rc} (h : ∀ y ∈ l, smallR y) (hx : smallR x) : ∀ y ∈ l.set i x, smallR y := by
  intro y hy
  rcases List.mem_or_eq_of_mem_set hy with h1 | h1
  · exact h y h1
  · subst h1; exact hx
theorem ops_set (h : OwnR w base v l hs) (i : Nat) (hi : i < l.length) (a b : Int) : ∀ j (hj : j < (l.set i (a, b, l[i].2.2)).length), OwnV w base (hs[j]'(by have := h.len; simp at hj; omega)) (l.set i (a, b, l[i].2.2))[j].2.2 := by
  intro j hj
  have hjl : j < l.length := by simpa using hj
  have := h.ops j hjl
  by_cases e : i = j
  · subst e; rw [List.getElem_set_self]; exact this
  · rw [List.getElem_set_ne e]; exact this
theorem OwnR.setKind (h : OwnR w base (.slice (some ⟨g, 0, none⟩) n cap) l hs) (i : Nat) (hi : i < l.length) (z : Int) (hz : (Lit.int .i64 z).wf = true) :
    OwnR (w.setCell ⟨g, i * 3, none⟩ (.int .i64 z)) base (.slice (some ⟨g, 0, none⟩) n cap) (l.set i (z, l[i].2)) hs ∧ w.grownBy (w.setCell ⟨g, i * 3, none⟩ (.int .i64 z)) (some g) := by
  obtain rfl := h.nlen
  have hs1 := h.row.stored (i * 3) (.int .i64 z)
  rw [recVals_set0 l hs h.len i hi z] at hs1
  have hsm := h.sm l[i] (List.getElem_mem hi)
  refine ⟨⟨by simpa using h.len, mem_set_smallR h.sm ⟨hz, hsm.2⟩, by simpa using hs1.1, fun j hj => ?_, h.apart, h.out⟩, hs1.2⟩
  refine (ops_set h i hi z l[i].2.1 j hj).grown hs1.2 (.inr (fun e => ?_))
  exact h.out g rfl _ (List.getElem_mem _) e
theorem recRow_ne {e1 e2 : TypeId} {s1 s2 n1 n2 : Nat} {v1 v2 : Value} {x1 x2 : List Value} {k b1 b2 : Nat} (h1 : w.ownsRow b1 e1 s1 v1 n1 x1) (h2 : w.ownsRow b2 e2 s2 v2 n2 x2) (hk1 : v1.ownBlock = some k) (hk2 : v2.ownBlock = some k) (hne : e1 ≠ e2) : False := by
  rcases h1.2 with ⟨rfl, _⟩ | ⟨g, c, cur, rfl, _, hg, _⟩
  · cases hk1
  rcases h2.2 with ⟨rfl, _⟩ | ⟨g2, c2, cur2, rfl, _, hg2, _⟩
  · cases hk2
  cases hk1
  simp only [Value.ownBlock, Option.some.injEq] at hk2
  rw [hk2, hg] at hg2
  injection hg2 with hg2
  injection hg2 with _ he
  exact hne he
end
end Go.Proofs.Ytmibabclefgljaa.recs

namespace Go.Proofs.Ytmibabclefgljaa.recs
open Go Go.RowKit Go.Proofs.Ytmibabclefgljaa.base Go.Proofs.Ytmibabclefgljaa.pairs Go.Proofs.Ytmibabclefgljaa.ords
set_option linter.unusedVariables false
set_option linter.unusedSimpArgs false


section
variable {X : Nat} {kind tx : Int} {v : Value} {w w' : World}
end

end Go.Proofs.Ytmibabclefgljaa.recs

namespace Go.Proofs.Ytmibabclefgljaa.recs
open Go Go.RowKit Go.Proofs.Ytmibabclefgljaa.base Go.Proofs.Ytmibabclefgljaa.pairs Go.Proofs.Ytmibabclefgljaa.ords
set_option linter.unusedVariables false
set_option linter.unusedSimpArgs false

end Go.Proofs.Ytmibabclefgljaa.recs

namespace Go.Proofs.Ytmibabclefgljaa.recs
open Go Go.RowKit Go.Proofs.Ytmibabclefgljaa.base Go.Proofs.Ytmibabclefgljaa.pairs Go.Proofs.Ytmibabclefgljaa.ords
set_option linter.unusedVariables false
set_option linter.unusedSimpArgs false

end Go.Proofs.Ytmibabclefgljaa.recs

namespace Go.Proofs.Ytmibabclefgljaa.base
open Go.RowKit
set_option linter.unusedVariables false
set_option linter.unusedSimpArgs false

end Go.Proofs.Ytmibabclefgljaa.base

namespace Go.Proofs.Ytmibabclefgljaa.pairs
open Go Go.RowKit Go.Proofs.Ytmibabclefgljaa.base
set_option linter.unusedVariables false
set_option linter.unusedSimpArgs false

end Go.Proofs.Ytmibabclefgljaa.pairs

namespace Go.Proofs.Ytmibabclefgljaa.pairs
open Go Go.RowKit Go.Proofs.Ytmibabclefgljaa.base
set_option linter.unusedVariables false
set_option linter.unusedSimpArgs false

end Go.Proofs.Ytmibabclefgljaa.pairs

namespace Go.Proofs.Ytmibabclefgljaa.pairs
open Go Go.RowKit Go.Proofs.Ytmibabclefgljaa.base
set_option linter.unusedVariables false
set_option linter.unusedSimpArgs false

end Go.Proofs.Ytmibabclefgljaa.pairs

namespace Go.Proofs.Ytmibabclefgljaa.pairs
open Go Go.RowKit Go.Proofs.Ytmibabclefgljaa.base
open Go.Maps (Keyed)
open Go.WideMaps (keyOf_string_mk)
set_option linter.unusedVariables false
set_option linter.unusedSimpArgs false

/-! ### how often a key is there -/
end Go.Proofs.Ytmibabclefgljaa.pairs

namespace Go.Proofs.Ytmibabclefgljaa.recs
open Go Go.RowKit Go.Proofs.Ytmibabclefgljaa.base Go.Proofs.Ytmibabclefgljaa.pairs Go.Proofs.Ytmibabclefgljaa.ords
open Go.ChangeMaps Go.MapKept
open Go.Maps (keyOf_int_mk)
set_option linter.unusedVariables false
set_option linter.unusedSimpArgs false

end Go.Proofs.Ytmibabclefgljaa.recs
