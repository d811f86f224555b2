/- Rows of structs that own memory: made, an element written, an element turned. No function of the program is named here. Cells of elements of rows; a struct written whole. No function of the program is named here. One who decides, as a call owns it. -/
import Derived.Test.YtdeaiefhegjalaaBund12as
import Derived.Test.YtdeaiefhegjalaaBund12ao
namespace Go.Proofs.Ytdeaiefhegjalaa.lay
open Go Go.RowKit Go.Proofs.Ytdeaiefhegjalaa.base
set_option linter.unusedVariables false
set_option linter.unusedSimpArgs false

/-- cells written one behind the other -/
def putAll (w : World) (g : Nat) : Nat → List Value → World
  | _, [] => w
  | o, u :: us => putAll (w.setCell ⟨g, o, none⟩ u) g (o + 1) us
def setAll (xs : List Value) : Nat → List Value → List Value
  | _, [] => xs
  | o, u :: us => setAll (xs.set o u) (o + 1) us
theorem setAll_length (us : List Value) : ∀ (xs : List Value) (o : Nat), (setAll xs o us).length = xs.length := by
  induction us with
  | nil => intro xs o; rfl
  | cons u us ih => intro xs o; rw [setAll, ih, List.length_set]
theorem setAll_get (us : List Value) : ∀ (xs : List Value) (o j : Nat) (h : o + us.length ≤ xs.length), (setAll xs o us)[j]? = if o ≤ j ∧ j < o + us.length then us[j - o]? else xs[j]? := by
  induction us with
  | nil => intro xs o j h; rw [setAll, if_neg (by simp)]
  | cons u us ih =>
    intro xs o j h
    simp only [List.length_cons] at h ⊢
    rw [setAll, ih _ _ _ (by rw [List.length_set]; omega)]
    by_cases e : j = o
    · subst e
      rw [if_neg (by omega), if_pos (by omega), List.getElem?_set_self (by omega), Nat.sub_self]; rfl
    · rw [List.getElem?_set_ne (by omega)]
      by_cases h1 : o + 1 ≤ j ∧ j < o + 1 + us.length
      · rw [if_pos h1, if_pos (by omega), show j - o = (j - (o + 1)) + 1 by omega, List.getElem?_cons_succ]
      · rw [if_neg h1, if_neg (by omega)]
theorem cellsOf_set {q : Parts} {n : Nat} (h : ∀ p ∈ q, p.1.length = n) (i : Nat) (hi : i < q.length) (us : List Value) (hu : us.length = n) (F : List Nat) : setAll (cellsOf q) (i * n) us = cellsOf (q.set i (us, F)) := by
  have hq : ∀ p ∈ q.set i (us, F), p.1.length = n := fun p hp => by
    rcases List.mem_or_eq_of_mem_set hp with h1 | h1
    · exact h p h1
    · subst h1; exact hu
  have hl1 := cellsOf_length h
  have hl2 := cellsOf_length hq
  rw [List.length_set] at hl2
  have hin : i * n + n ≤ q.length * n := by
    have := Nat.mul_le_mul_right n (show i + 1 ≤ q.length from hi)
    rw [Nat.add_mul] at this; omega
  refine List.ext_getElem? fun j => ?_
  by_cases hj : j < q.length * n
  · have hn0 : 0 < n := by
      rcases Nat.eq_zero_or_pos n with e | e
      · subst e; omega
      · exact e
    have hd := Nat.div_add_mod j n
    have hm := Nat.mod_lt j hn0
    have hjd : j / n < q.length := by
      rcases Nat.lt_or_ge (j / n) q.length with h1 | h1
      · exact h1
      · have := Nat.mul_le_mul_left n h1
        rw [Nat.mul_comm n q.length] at this; omega
    have e : j = j / n * n + j % n := by rw [Nat.mul_comm]; omega
    rw [setAll_get us _ _ _ (by omega)]
    conv => rhs; rw [e, cellsOf_get hq (j / n) (by simpa using hjd) (j % n) hm]
    by_cases hi2 : j / n = i
    · have e3 : j = i * n + j % n := by rw [← hi2]; exact e
      rw [if_pos (by omega), show j - i * n = j % n by omega]
      subst hi2
      rw [List.getElem_set_self]
    · have hne : ¬ (i * n ≤ j ∧ j < i * n + us.length) := by
        rintro ⟨h1, h2⟩
        rw [hu] at h2
        apply hi2
        rcases Nat.lt_trichotomy (j / n) i with h3 | h3 | h3
        · have := Nat.mul_le_mul_right n (show j / n + 1 ≤ i from h3)
          rw [Nat.add_mul] at this; omega
        · exact h3
        · have := Nat.mul_le_mul_right n (show i + 1 ≤ j / n from h3)
          rw [Nat.add_mul] at this; omega
      rw [if_neg hne, List.getElem_set_ne (fun e => hi2 e.symm)]
      conv => lhs; rw [e, cellsOf_get h (j / n) hjd (j % n) hm]
  · rw [List.getElem?_eq_none (by rw [setAll_length]; omega), List.getElem?_eq_none (by omega)]
section
variable {α : Type} {ty : TypeId} {R : Rd α} {w w' : World} {l : List α} {q : Parts} {g n cap : Nat}
theorem row_putAll {base size : Nat} (us : List Value) : ∀ {w : World} {xs : List Value} (o : Nat), w.ownsRow base ty size (.slice (some ⟨g, 0, none⟩) n cap) n xs → (putAll w g o us).ownsRow base ty size (.slice (some ⟨g, 0, none⟩) n cap) n (setAll xs o us) ∧ w.grownBy (putAll w g o us) (some g) := by
  induction us with
  | nil => intro w xs o h; exact ⟨h, World.grownBy.refl _ _⟩
  | cons u us ih =>
    intro w xs o h
    have s := h.stored o u
    have t := ih (o + 1) s.1
    exact ⟨t.1, grownBy_trans s.2 t.2⟩
/-- one element is another now, wherever its memory lies -/
theorem OwnG.turn {v : Value} (h : OwnG ty R w v l q) (i : Nat) (hi : i < l.length) (us : List Value) (x : α) (F : List Nat) (hr : w'.ownsRow 0 ty R.size v l.length (cellsOf (q.set i (us, F)))) (hx : R.own w' us x F)
    (hk : ∀ j (hj : j < l.length), j ≠ i → ∀ b ∈ (q[j]'(by have := h.len; omega)).2, w'.heap[b]? = w.heap[b]?) (hF : ∀ b ∈ F, b ∈ (q[i]'(by have := h.len; omega)).2 ∨ b ∉ v.ownBlock.toList ++ blocksOf q) : OwnG ty R w' v (l.set i x) (q.set i (us, F)) := by
  have hl := h.len
  have hnd := h.nodup
  refine ⟨by simp [hl], by simpa using hr, fun j hj => ?_, ?_⟩
  · have hjl : j < l.length := by simpa using hj
    by_cases e : i = j
    · subst e
      simp only [List.getElem_set_self]
      exact hx
    · simp only [List.getElem_set_ne e]
      exact R.ownAt (h.each j hjl) (hk j hjl fun e2 => e e2.symm)
  · have hxn := R.ownNodup hx
    have hqi : i < q.length := by omega
    have e1 : blocksOf q = blocksOf (q.take i) ++ (q[i].2 ++ blocksOf (q.drop (i + 1))) := by
      conv => lhs; rw [← List.take_append_drop i q, List.drop_eq_getElem_cons hqi]
      rw [blocksOf_append]; rfl
    have e2 : blocksOf (q.set i (us, F)) = blocksOf (q.take i) ++ (F ++ blocksOf (q.drop (i + 1))) := by
      rw [List.set_eq_take_append_cons_drop, if_pos hqi, blocksOf_append]; rfl
    have hF2 : ∀ b ∈ F, b ∉ v.ownBlock.toList ∧ b ∉ blocksOf (q.take i) ∧ b ∉ blocksOf (q.drop (i + 1)) := fun b hb => by
      rw [e1] at hnd
      rcases hF b hb with h1 | h1
      · obtain ⟨n1, n2, n3⟩ := nodup_parts hnd
        obtain ⟨m1, m2, m3⟩ := nodup_parts n2
        obtain ⟨k1, k2, k3⟩ := nodup_parts m2
        exact ⟨fun e => n3 b e (List.mem_append.2 (.inr (List.mem_append.2 (.inl h1)))), fun e => m3 b e (List.mem_append.2 (.inl h1)), k3 b h1⟩
      · rw [e1] at h1
        simp only [List.mem_append, not_or] at h1
        exact ⟨h1.1, h1.2.1, h1.2.2.2⟩
    rw [e1] at hnd
    obtain ⟨n1, n2, n3⟩ := nodup_parts hnd
    obtain ⟨m1, m2, m3⟩ := nodup_parts n2
    obtain ⟨k1, k2, k3⟩ := nodup_parts m2
    rw [e2]
    refine nodup_mk n1 (nodup_mk m1 (nodup_mk hxn k2 fun b hb => (hF2 b hb).2.2) fun b hb hb2 => ?_) fun b hb hb2 => ?_
    · rcases List.mem_append.1 hb2 with h1 | h1
      · exact (hF2 b h1).2.1 hb
      · exact m3 b hb (List.mem_append.2 (.inr h1))
    · rcases List.mem_append.1 hb2 with h1 | h1
      · exact n3 b hb (List.mem_append.2 (.inl h1))
      · rcases List.mem_append.1 h1 with h1 | h1
        · exact (hF2 b h1).1 hb
        · exact n3 b hb (List.mem_append.2 (.inr (List.mem_append.2 (.inr h1))))
/-- one element is written into its place -/
theorem OwnG.put (h : OwnG ty R w (.slice (some ⟨g, 0, none⟩) n cap) l q) (i : Nat) (hi : i < l.length) (us : List Value) (x : α) (F : List Nat) (hx : R.own w us x F) (hF : ∀ b ∈ F, b ∉ g :: blocksOf q) :
    OwnG ty R (putAll w g (i * R.size) us) (.slice (some ⟨g, 0, none⟩) n cap) (l.set i x) (q.set i (us, F)) ∧ w.grownBy (putAll w g (i * R.size) us) (some g) := by
  have hn : n = l.length := by
    rcases h.shape with ⟨e, _⟩ | ⟨g', c', e, _⟩
    · cases e
    · cases e; rfl
  subst hn
  have hl := h.len
  have hr := row_putAll us (i * R.size) h.row
  rw [cellsOf_set h.parts i (by omega) us (R.ownLen hx) F] at hr
  have hgn : ∀ b ∈ blocksOf q, b ≠ g := fun b hb e => by
    have := (nodup_parts h.nodup).2.2 g (by simp [Value.ownBlock])
    exact this (e ▸ hb)
  refine ⟨h.turn i hi us x F hr.1 (R.ownAt hx fun k hk => hr.2.block k (R.ownLt hx k hk) fun e => hF k hk (by simp [Option.some.inj e])) (fun j hj hne b hb => ?_) (fun b hb => .inr (by simpa [Value.ownBlock] using hF b hb)), hr.2⟩
  have hbq : b ∈ blocksOf q := List.mem_flatMap.2 ⟨_, List.getElem_mem _, hb⟩
  exact hr.2.block b (R.ownLt (h.each j hj) b hb) fun e => hgn b hbq (Option.some.inj e)
/-- one cell of an element is written -/
theorem OwnG.cell1 (h : OwnG ty R w (.slice (some ⟨g, 0, none⟩) n cap) l q) (i : Nat) (hi : i < l.length) (j : Nat) (hj : j < R.size) (u : Value) (x : α) (hx : ∀ vs F, R.own w vs l[i] F → R.own w (vs.set j u) x F) :
    ∃ q', OwnG ty R (w.setCell ⟨g, i * R.size + j, none⟩ u) (.slice (some ⟨g, 0, none⟩) n cap) (l.set i x) q' ∧ blocksOf q' = blocksOf q ∧ w.grownBy (w.setCell ⟨g, i * R.size + j, none⟩ u) (some g) := by
  have hn : n = l.length := by
    rcases h.shape with ⟨e, _⟩ | ⟨g', c', e, _⟩
    · cases e
    · cases e; rfl
  subst hn
  have hl := h.len
  have hqi : i < q.length := by omega
  have hr := h.row.stored (i * R.size + j) u
  have hp := h.parts
  have hpl := hp _ (List.getElem_mem hqi)
  have e0 : (cellsOf q).set (i * R.size + j) u = cellsOf (q.set i (q[i].1.set j u, q[i].2)) := by
    rw [← cellsOf_set hp i hqi (q[i].1.set j u) (by rw [List.length_set]; exact hpl) q[i].2]
    have hin : i * R.size + R.size ≤ (cellsOf q).length := by
      rw [cellsOf_length hp]
      have := Nat.mul_le_mul_right R.size (show i + 1 ≤ q.length from hqi)
      rw [Nat.add_mul] at this; omega
    refine List.ext_getElem? fun z => ?_
    rw [setAll_get _ _ _ _ (by rw [List.length_set, hpl]; exact hin), List.length_set, hpl]
    by_cases hz : i * R.size ≤ z ∧ z < i * R.size + R.size
    · rw [if_pos hz]
      obtain ⟨d, rfl⟩ : ∃ d, z = i * R.size + d := ⟨z - i * R.size, by omega⟩
      rw [Nat.add_sub_cancel_left]
      by_cases hd : d = j
      · subst hd
        rw [List.getElem?_set_self (by omega), List.getElem?_set_self (by omega)]
      · rw [List.getElem?_set_ne (by omega), List.getElem?_set_ne (by omega), cellsOf_get hp i hqi d (by omega)]
    · rw [if_neg hz, List.getElem?_set_ne (by omega)]
  rw [e0] at hr
  have hgn : ∀ b ∈ blocksOf q, b ≠ g := fun b hb e => by
    have := (nodup_parts h.nodup).2.2 g (by simp [Value.ownBlock])
    exact this (e ▸ hb)
  have hbq : ∀ k (hk : k < q.length), ∀ b ∈ q[k].2, b ∈ blocksOf q := fun k hk b hb => List.mem_flatMap.2 ⟨_, List.getElem_mem _, hb⟩
  have hown := hx _ _ (h.each i hi)
  refine ⟨q.set i (q[i].1.set j u, q[i].2), h.turn i hi _ x _ hr.1 (R.ownAt hown fun k hk => hr.2.block k (R.ownLt hown k hk) fun e => hgn k (hbq i hqi k hk) (Option.some.inj e)) (fun k hk hne b hb => hr.2.block b (R.ownLt (h.each k hk) b hb) fun e => hgn b (hbq k (by omega) b hb) (Option.some.inj e)) (fun b hb => .inl hb), ?_, hr.2⟩
  rw [List.set_eq_take_append_cons_drop, if_pos hqi, blocksOf_append]
  conv => rhs; rw [← List.take_append_drop i q, List.drop_eq_getElem_cons hqi]
  rw [blocksOf_append]; rfl
/-- what an element owns is turned -/
theorem OwnG.inner (h : OwnG ty R w (.slice (some ⟨g, 0, none⟩) n cap) l q) (i : Nat) (hi : i < l.length) (x : α) {G : List Nat} (hf : Frame G w w') (hG : ∀ k ∈ G, k ∈ (q[i]'(by have := h.len; omega)).2) (hx : R.own w' (q[i]'(by have := h.len; omega)).1 x (q[i]'(by have := h.len; omega)).2) :
    OwnG ty R w' (.slice (some ⟨g, 0, none⟩) n cap) (l.set i x) q := by
  have hn : n = l.length := by
    rcases h.shape with ⟨e, _⟩ | ⟨g', c', e, _⟩
    · cases e
    · cases e; rfl
  subst hn
  have hl := h.len
  have hqi : i < q.length := by omega
  have hbq : ∀ k (hk : k < q.length), ∀ b ∈ q[k].2, b ∈ blocksOf q := fun k hk b hb => List.mem_flatMap.2 ⟨_, List.getElem_mem _, hb⟩
  have hgG : g ∉ G := fun e => by
    have := (nodup_parts h.nodup).2.2 g (by simp [Value.ownBlock])
    exact this (hbq i hqi g (hG g e))
  have hgl := (h.row.lt g rfl).2
  have eset : q.set i (q[i].1, q[i].2) = q := List.set_getElem_self hqi
  have hr : w'.ownsRow 0 ty R.size (.slice (some ⟨g, 0, none⟩) l.length cap) l.length (cellsOf q) := by
    rcases h.row with ⟨h1, ⟨h2, _⟩ | ⟨g', cap', cur, h2, h3, h4, h5⟩⟩
    · cases h2
    · cases h2
      exact ⟨h1, .inr ⟨g, cap, cur, rfl, h3, (hf.block g hgl hgG).trans h4, h5⟩⟩
  have hap : ∀ j (hj : j < l.length), j ≠ i → ∀ b ∈ (q[j]'(by omega)).2, b ∉ (q[i]'hqi).2 := fun j hj hne b hb hb2 => by
    have hnd := (nodup_parts h.nodup).2.1
    rcases Nat.lt_or_ge j i with hlt | hge
    · have e1 : blocksOf q = blocksOf (q.take i) ++ blocksOf (q.drop i) := by rw [← blocksOf_append, List.take_append_drop]
      rw [e1] at hnd
      refine (nodup_parts hnd).2.2 b (List.mem_flatMap.2 ⟨q[j], ?_, hb⟩) (List.mem_flatMap.2 ⟨q[i], ?_, hb2⟩)
      · rw [List.mem_take_iff_getElem]; exact ⟨j, by omega, rfl⟩
      · rw [List.mem_drop_iff_getElem]; exact ⟨0, by omega, by simp⟩
    · have hlt : i < j := by omega
      have e1 : blocksOf q = blocksOf (q.take j) ++ blocksOf (q.drop j) := by rw [← blocksOf_append, List.take_append_drop]
      rw [e1] at hnd
      refine (nodup_parts hnd).2.2 b (List.mem_flatMap.2 ⟨q[i], ?_, hb2⟩) (List.mem_flatMap.2 ⟨q[j], ?_, hb⟩)
      · rw [List.mem_take_iff_getElem]; exact ⟨i, by omega, rfl⟩
      · rw [List.mem_drop_iff_getElem]; exact ⟨0, by omega, by simp⟩
  have := h.turn (w' := w') i hi q[i].1 x q[i].2 (by rw [eset]; exact hr) hx (fun j hj hne b hb => hf.block b (R.ownLt (h.each j hj) b hb) fun e => hap j hj hne b hb (hG b e)) (fun b hb => .inl hb)
  rwa [eset] at this
/-- a row of zero elements -/
theorem ownG_zeros {z : Value} {x : α} {k : Nat} (hr : w.ownsRow k ty R.size (.slice (some ⟨g, 0, none⟩) n n) n (madeCells z.cells (n * R.size)).toList) (hz : R.own w z.cells.toList x []) : OwnG ty R w (.slice (some ⟨g, 0, none⟩) n n) (List.replicate n x) (List.replicate n (z.cells.toList, [])) := by
  have hzl : z.cells.toList.length = R.size := R.ownLen hz
  have e1 : blocksOf (List.replicate n (z.cells.toList, ([] : List Nat))) = [] := by unfold blocksOf; simp
  have hp : ∀ p ∈ List.replicate n (z.cells.toList, ([] : List Nat)), p.1.length = R.size := fun p hp => by rw [(List.mem_replicate.1 hp).2]; exact hzl
  have e2 : cellsOf (List.replicate n (z.cells.toList, ([] : List Nat))) = (madeCells z.cells (n * R.size)).toList := by
    refine List.ext_getElem? fun j => ?_
    by_cases hj : j < n * R.size
    · have hn0 : 0 < R.size := by
        rcases Nat.eq_zero_or_pos R.size with e | e
        · rw [e] at hj; omega
        · exact e
      have hd := Nat.div_add_mod j R.size
      have hm := Nat.mod_lt j hn0
      have hjd : j / R.size < n := Nat.div_lt_of_lt_mul (by rw [Nat.mul_comm]; exact hj)
      have e : j = j / R.size * R.size + j % R.size := by rw [Nat.mul_comm]; omega
      conv => lhs; rw [e, cellsOf_get hp (j / R.size) (by simpa using hjd) (j % R.size) hm]
      have hzs : z.cells.size = R.size := by rw [← hzl]; simp
      have hm2 : j % R.size < z.cells.size := by omega
      simp [madeCells, hj, hzs, List.getElem_replicate]
      rw [Array.getElem?_eq_getElem hm2, getElem!_pos z.cells _ hm2]
    · rw [List.getElem?_eq_none (by rw [cellsOf_length hp, List.length_replicate]; omega), List.getElem?_eq_none (by simp [madeCells]; omega)]
  refine ⟨by simp, ?_, fun i hi => ?_, by rw [e1]; simp [Value.ownBlock]⟩
  · rw [List.length_replicate, e2]
    obtain ⟨h1, h2⟩ := hr
    refine ⟨h1, ?_⟩
    rcases h2 with h2 | ⟨g', c', cur, h2, h3, h4⟩
    · exact .inl h2
    · exact .inr ⟨g', c', cur, h2, Nat.zero_le _, h4⟩
  · simp only [List.getElem_replicate]
    exact hz
end
/-- the elements that are there, zero ones behind them -/
def copyG {α : Type} (z : α) (l : List α) (k : Nat) : List α := l.take k ++ List.replicate (l.length - k) z
section
variable {α : Type} {z : α} {l : List α}
theorem copyG_length (k : Nat) (h : k ≤ l.length) : (copyG z l k).length = l.length := by simp [copyG]; omega
theorem copyG_zero : copyG z l 0 = List.replicate l.length z := by simp [copyG]
theorem copyG_set (k : Nat) (h : k < l.length) : (copyG z l k).set k l[k] = copyG z l (k + 1) := by
  unfold copyG
  rw [List.take_succ_eq_append_getElem h]
  have e1 : (l.take k).length = k := by simp; omega
  have e2 : l.length - k = (l.length - (k + 1)) + 1 := by omega
  rw [List.set_append_right _ _ (by omega), e1, Nat.sub_self, e2, List.replicate_succ, List.set_cons_zero, List.append_assoc]
  rfl
theorem copyG_all : copyG z l l.length = l := by simp [copyG]
/-- the elements turned by f up to k, those behind as they were -/
def mapTo (f : Nat → α → α) (l : List α) (k : Nat) : List α := (l.take k).mapIdx f ++ l.drop k
theorem mapTo_zero (f : Nat → α → α) : mapTo f l 0 = l := by simp [mapTo]
theorem mapTo_length (f : Nat → α → α) (k : Nat) : (mapTo f l k).length = l.length := by simp [mapTo]; omega
theorem mapTo_all (f : Nat → α → α) : mapTo f l l.length = l.mapIdx f := by simp [mapTo]
theorem mapTo_at (f : Nat → α → α) (k : Nat) (h : k < l.length) : (mapTo f l k)[k]'(by rw [mapTo_length]; exact h) = l[k] := by
  have e1 : ((l.take k).mapIdx f).length = k := by simp; omega
  have h2 : (mapTo f l k)[k]? = some l[k] := by
    unfold mapTo
    rw [List.getElem?_append_right (by omega), e1, Nat.sub_self, List.getElem?_drop, Nat.add_zero, List.getElem?_eq_getElem h]
  exact (List.getElem?_eq_some_iff.1 h2).2
theorem mapTo_set (f : Nat → α → α) (k : Nat) (h : k < l.length) : (mapTo f l k).set k (f k l[k]) = mapTo f l (k + 1) := by
  unfold mapTo
  have e1 : ((l.take k).mapIdx f).length = k := by simp; omega
  rw [List.take_succ_eq_append_getElem h, List.mapIdx_append, List.set_append_right _ _ (by omega), e1, Nat.sub_self, List.drop_eq_getElem_cons h, List.set_cons_zero, List.append_assoc]
  congr 1
  rw [List.length_take_of_le (by omega)]
  simp
end
end Go.Proofs.Ytdeaiefhegjalaa.lay

namespace Go.Proofs.Ytdeaiefhegjalaa.lay
open Go Go.RowKit Go.Proofs.Ytdeaiefhegjalaa.base
set_option linter.unusedVariables false
set_option linter.unusedSimpArgs false

theorem BoxIn.all {X : Nat} {T : TypeId} (us : List Value) : ∀ {vs done : List Value} {w : World}, vs.length = us.length → BoxIn X T done vs [] w → BoxIn X T done us [] (putAll w X done.length us) ∧ w.grownBy (putAll w X done.length us) (some X) := by
  induction us with
  | nil =>
    intro vs done w hl h
    have : vs = [] := List.eq_nil_of_length_eq_zero hl
    subst this
    exact ⟨h, World.grownBy.refl _ _⟩
  | cons u us ih =>
    intro vs done w hl h
    match vs, hl with
    | v :: vs, hl =>
      have s := h.set 0 (by simp) u
      rw [Nat.add_zero] at s
      have h2 : BoxIn X T (done ++ [u]) vs [] (w.setCell ⟨X, done.length, none⟩ u) := by
        have := s.1
        unfold BoxIn at this ⊢
        simpa using this
      have t := ih (by simpa using hl) h2
      rw [List.length_append, List.length_singleton] at t
      refine ⟨?_, grownBy_trans s.2 t.2⟩
      have := t.1
      unfold BoxIn at this ⊢
      simpa [putAll] using this
theorem BoxIn.whole {X : Nat} {T : TypeId} {vs : List Value} {w : World} (h : BoxIn X T [] vs [] w) (us : List Value) (hl : vs.length = us.length) : BoxIn X T [] us [] (putAll w X 0 us) ∧ w.grownBy (putAll w X 0 us) (some X) := BoxIn.all us hl h
theorem OwnG.frozen {α : Type} {ty : TypeId} {R : Rd α} {w : World} {g n cap : Nat} {l : List α} {q : Parts} (h : OwnG ty R w (.slice (some ⟨g, 0, none⟩) n cap) l q) (j : Nat) : w.frozen? ⟨g, j, none⟩ = false := by
  have hn : n = l.length := by
    rcases h.shape with ⟨e, _⟩ | ⟨g', c', e, _⟩
    · cases e
    · cases e; rfl
  subst hn
  exact h.row.frozenAt j
theorem OwnG.nlen {α : Type} {ty : TypeId} {R : Rd α} {w : World} {g n cap : Nat} {l : List α} {q : Parts} (h : OwnG ty R w (.slice (some ⟨g, 0, none⟩) n cap) l q) : n = l.length := by
  rcases h.shape with ⟨e, _⟩ | ⟨g', c', e, _⟩
  · cases e
  · cases e; rfl
theorem OwnG.lts {α : Type} {ty : TypeId} {R : Rd α} {w : World} {g n cap : Nat} {l : List α} {q : Parts} (h : OwnG ty R w (.slice (some ⟨g, 0, none⟩) n cap) l q) : ∀ b ∈ g :: blocksOf q, b < w.heap.size := fun b hb => h.at_ b (by simpa [Value.ownBlock] using hb)
theorem OwnG.below {α : Type} {ty : TypeId} {R : Rd α} {w w' : World} {v : Value} {l : List α} {q : Parts} (h : OwnG ty R w v l q) (hb : Below w.heap.size w w') : OwnG ty R w' v l q := h.keep fun b hb2 => hb.block b (h.at_ b hb2)
theorem slg_at1 {α : Type} {R : Rd α} {w : World} {b off len : Nat} {l : List α} (hR : R.size = 1) (h : SlG R w (some ⟨b, off, none⟩) len l) (i : Nat) (hi : i < l.length) : ∃ u0, R.see w [u0] l[i] ∧ w.cell? ⟨b, off + i, none⟩ = some u0 := by
  obtain ⟨b', off', e, hc⟩ := h.2.2.2 (by have := h.1; omega)
  simp only [Option.some.injEq, Addr.mk.injEq, and_true] at e
  obtain ⟨rfl, rfl⟩ := e
  obtain ⟨vs, hs, hcl⟩ := hc i hi
  have hl := R.seeLen hs
  rw [hR] at hl hcl
  match vs, hl with
  | [u0], _ => exact ⟨u0, hs, by have := hcl 0 _ rfl; simpa using this⟩
theorem slg_at2 {α : Type} {R : Rd α} {w : World} {b off len : Nat} {l : List α} (hR : R.size = 2) (h : SlG R w (some ⟨b, off, none⟩) len l) (i : Nat) (hi : i < l.length) : ∃ u0 u1, R.see w [u0, u1] l[i] ∧ w.cell? ⟨b, off + i * 2, none⟩ = some u0 ∧ w.cell? ⟨b, off + i * 2 + 1, none⟩ = some u1 := by
  obtain ⟨b', off', e, hc⟩ := h.2.2.2 (by have := h.1; omega)
  simp only [Option.some.injEq, Addr.mk.injEq, and_true] at e
  obtain ⟨rfl, rfl⟩ := e
  obtain ⟨vs, hs, hcl⟩ := hc i hi
  have hl := R.seeLen hs
  rw [hR] at hl hcl
  match vs, hl with
  | [u0, u1], _ => exact ⟨u0, u1, hs, hcl 0 _ rfl, hcl 1 _ rfl⟩
theorem slg_at3 {α : Type} {R : Rd α} {w : World} {b off len : Nat} {l : List α} (hR : R.size = 3) (h : SlG R w (some ⟨b, off, none⟩) len l) (i : Nat) (hi : i < l.length) : ∃ u0 u1 u2, R.see w [u0, u1, u2] l[i] ∧ w.cell? ⟨b, off + i * 3, none⟩ = some u0 ∧ w.cell? ⟨b, off + i * 3 + 1, none⟩ = some u1 ∧ w.cell? ⟨b, off + i * 3 + 2, none⟩ = some u2 := by
  obtain ⟨b', off', e, hc⟩ := h.2.2.2 (by have := h.1; omega)
  simp only [Option.some.injEq, Addr.mk.injEq, and_true] at e
  obtain ⟨rfl, rfl⟩ := e
  obtain ⟨vs, hs, hcl⟩ := hc i hi
  have hl := R.seeLen hs
  rw [hR] at hl hcl
  match vs, hl with
  | [u0, u1, u2], _ => exact ⟨u0, u1, u2, hs, hcl 0 _ rfl, hcl 1 _ rfl, hcl 2 _ rfl⟩
theorem slg_at4 {α : Type} {R : Rd α} {w : World} {b off len : Nat} {l : List α} (hR : R.size = 4) (h : SlG R w (some ⟨b, off, none⟩) len l) (i : Nat) (hi : i < l.length) : ∃ u0 u1 u2 u3, R.see w [u0, u1, u2, u3] l[i] ∧ w.cell? ⟨b, off + i * 4, none⟩ = some u0 ∧ w.cell? ⟨b, off + i * 4 + 1, none⟩ = some u1 ∧ w.cell? ⟨b, off + i * 4 + 2, none⟩ = some u2 ∧ w.cell? ⟨b, off + i * 4 + 3, none⟩ = some u3 := by
  obtain ⟨b', off', e, hc⟩ := h.2.2.2 (by have := h.1; omega)
  simp only [Option.some.injEq, Addr.mk.injEq, and_true] at e
  obtain ⟨rfl, rfl⟩ := e
  obtain ⟨vs, hs, hcl⟩ := hc i hi
  have hl := R.seeLen hs
  rw [hR] at hl hcl
  match vs, hl with
  | [u0, u1, u2, u3], _ => exact ⟨u0, u1, u2, u3, hs, hcl 0 _ rfl, hcl 1 _ rfl, hcl 2 _ rfl, hcl 3 _ rfl⟩
theorem slg_at5 {α : Type} {R : Rd α} {w : World} {b off len : Nat} {l : List α} (hR : R.size = 5) (h : SlG R w (some ⟨b, off, none⟩) len l) (i : Nat) (hi : i < l.length) : ∃ u0 u1 u2 u3 u4, R.see w [u0, u1, u2, u3, u4] l[i] ∧ w.cell? ⟨b, off + i * 5, none⟩ = some u0 ∧ w.cell? ⟨b, off + i * 5 + 1, none⟩ = some u1 ∧ w.cell? ⟨b, off + i * 5 + 2, none⟩ = some u2 ∧ w.cell? ⟨b, off + i * 5 + 3, none⟩ = some u3 ∧ w.cell? ⟨b, off + i * 5 + 4, none⟩ = some u4 := by
  obtain ⟨b', off', e, hc⟩ := h.2.2.2 (by have := h.1; omega)
  simp only [Option.some.injEq, Addr.mk.injEq, and_true] at e
  obtain ⟨rfl, rfl⟩ := e
  obtain ⟨vs, hs, hcl⟩ := hc i hi
  have hl := R.seeLen hs
  rw [hR] at hl hcl
  match vs, hl with
  | [u0, u1, u2, u3, u4], _ => exact ⟨u0, u1, u2, u3, u4, hs, hcl 0 _ rfl, hcl 1 _ rfl, hcl 2 _ rfl, hcl 3 _ rfl, hcl 4 _ rfl⟩
theorem slg_at6 {α : Type} {R : Rd α} {w : World} {b off len : Nat} {l : List α} (hR : R.size = 6) (h : SlG R w (some ⟨b, off, none⟩) len l) (i : Nat) (hi : i < l.length) : ∃ u0 u1 u2 u3 u4 u5, R.see w [u0, u1, u2, u3, u4, u5] l[i] ∧ w.cell? ⟨b, off + i * 6, none⟩ = some u0 ∧ w.cell? ⟨b, off + i * 6 + 1, none⟩ = some u1 ∧ w.cell? ⟨b, off + i * 6 + 2, none⟩ = some u2 ∧ w.cell? ⟨b, off + i * 6 + 3, none⟩ = some u3 ∧ w.cell? ⟨b, off + i * 6 + 4, none⟩ = some u4 ∧ w.cell? ⟨b, off + i * 6 + 5, none⟩ = some u5 := by
  obtain ⟨b', off', e, hc⟩ := h.2.2.2 (by have := h.1; omega)
  simp only [Option.some.injEq, Addr.mk.injEq, and_true] at e
  obtain ⟨rfl, rfl⟩ := e
  obtain ⟨vs, hs, hcl⟩ := hc i hi
  have hl := R.seeLen hs
  rw [hR] at hl hcl
  match vs, hl with
  | [u0, u1, u2, u3, u4, u5], _ => exact ⟨u0, u1, u2, u3, u4, u5, hs, hcl 0 _ rfl, hcl 1 _ rfl, hcl 2 _ rfl, hcl 3 _ rfl, hcl 4 _ rfl, hcl 5 _ rfl⟩
theorem slg_at10 {α : Type} {R : Rd α} {w : World} {b off len : Nat} {l : List α} (hR : R.size = 10) (h : SlG R w (some ⟨b, off, none⟩) len l) (i : Nat) (hi : i < l.length) : ∃ u0 u1 u2 u3 u4 u5 u6 u7 u8 u9, R.see w [u0, u1, u2, u3, u4, u5, u6, u7, u8, u9] l[i] ∧ w.cell? ⟨b, off + i * 10, none⟩ = some u0 ∧ w.cell? ⟨b, off + i * 10 + 1, none⟩ = some u1 ∧ w.cell? ⟨b, off + i * 10 + 2, none⟩ = some u2 ∧ w.cell? ⟨b, off + i * 10 + 3, none⟩ = some u3 ∧ w.cell? ⟨b, off + i * 10 + 4, none⟩ = some u4 ∧ w.cell? ⟨b, off + i * 10 + 5, none⟩ = some u5 ∧ w.cell? ⟨b, off + i * 10 + 6, none⟩ = some u6 ∧ w.cell? ⟨b, off + i * 10 + 7, none⟩ = some u7 ∧ w.cell? ⟨b, off + i * 10 + 8, none⟩ = some u8 ∧ w.cell? ⟨b, off + i * 10 + 9, none⟩ = some u9 := by
  obtain ⟨b', off', e, hc⟩ := h.2.2.2 (by have := h.1; omega)
  simp only [Option.some.injEq, Addr.mk.injEq, and_true] at e
  obtain ⟨rfl, rfl⟩ := e
  obtain ⟨vs, hs, hcl⟩ := hc i hi
  have hl := R.seeLen hs
  rw [hR] at hl hcl
  match vs, hl with
  | [u0, u1, u2, u3, u4, u5, u6, u7, u8, u9], _ => exact ⟨u0, u1, u2, u3, u4, u5, u6, u7, u8, u9, hs, hcl 0 _ rfl, hcl 1 _ rfl, hcl 2 _ rfl, hcl 3 _ rfl, hcl 4 _ rfl, hcl 5 _ rfl, hcl 6 _ rfl, hcl 7 _ rfl, hcl 8 _ rfl, hcl 9 _ rfl⟩
end Go.Proofs.Ytdeaiefhegjalaa.lay

namespace Go.Proofs.Ytdeaiefhegjalaa.cos
open Go Go.RowKit Go.Proofs.Ytdeaiefhegjalaa.base Go.Proofs.Ytdeaiefhegjalaa.pairs Go.Proofs.Ytdeaiefhegjalaa.ords Go.Proofs.Ytdeaiefhegjalaa.lay Go.Proofs.Ytdeaiefhegjalaa.wds
set_option linter.unusedVariables false
set_option linter.unusedSimpArgs false

section
variable {w w' : World} {vs : List Value} {c : Co} {F : List Nat} {e : Ending}
/-- the numbers of one who decides are numbers -/
structure WfCo (c : Co) : Prop where
  n : (Lit.int .i64 c.1).wf = true
  life : (Lit.int .i64 c.2.1).wf = true
  next : (Lit.int .i64 c.2.2.1).wf = true
  sure : (Lit.int .i64 c.2.2.2.2.2).wf = true
theorem coord_own : coordR.own w vs c F ↔ ∃ x y F1 F2, vs = [.int .i64 c.1, .int .i64 c.2.1, .int .i64 c.2.2.1, x, y, .int .i64 c.2.2.2.2.2] ∧ WfCo c ∧ jobsR.own w [x] c.2.2.2.1 F1 ∧ logR.own w [y] c.2.2.2.2.1 F2 ∧ F = F1 ++ F2 ∧ F.Nodup := by
  constructor
  · rintro ⟨us, ts, G1, G2, rfl, rfl, h1, ⟨us2, ts2, G3, G4, rfl, rfl, h2, ⟨us3, ts3, G5, G6, rfl, rfl, h3, ⟨us4, ts4, G7, G8, rfl, rfl, h4, ⟨us5, ts5, G9, G10, rfl, rfl, h5, h6, n5⟩, n4⟩, n3⟩, n2⟩, n1⟩
    obtain ⟨rfl, k1, rfl⟩ := flat_int.own.1 h1
    obtain ⟨rfl, k2, rfl⟩ := flat_int.own.1 h2
    obtain ⟨rfl, k3, rfl⟩ := flat_int.own.1 h3
    obtain ⟨rfl, k6, rfl⟩ := flat_int.own.1 h6
    obtain ⟨v4, q4, rfl, _⟩ := id h4
    obtain ⟨v5, q5, rfl, _⟩ := id h5
    exact ⟨v4, v5, G7, G9, rfl, ⟨k1, k2, k3, k6⟩, h4, h5, by simp, n1⟩
  · rintro ⟨x, y, F1, F2, rfl, ⟨k1, k2, k3, k6⟩, h4, h5, rfl, hn⟩
    exact ⟨[_], [_, _, x, y, _], [], F1 ++ F2, rfl, rfl, flat_int.own.2 ⟨rfl, k1, rfl⟩, ⟨[_], [_, x, y, _], [], F1 ++ F2, rfl, rfl, flat_int.own.2 ⟨rfl, k2, rfl⟩, ⟨[_], [x, y, _], [], F1 ++ F2, rfl, rfl, flat_int.own.2 ⟨rfl, k3, rfl⟩, ⟨[x], [y, _], F1, F2, rfl, rfl, h4, ⟨[y], [_], F2, [], rfl, (List.append_nil _).symm, h5, flat_int.own.2 ⟨rfl, k6, rfl⟩, (nodup_parts hn).2.1⟩, hn⟩, hn⟩, hn⟩, hn⟩
theorem SeeCo.wf {ja la : Option Addr} {jn jc ln lc : Nat} (h : SeeCo w ja jn jc la ln lc c) : WfCo c := ⟨h.n, h.life, h.next, h.sure⟩
theorem logs_own {v : Value} {l : List Ch} : logR.own w [v] l F ↔ (∃ q, OwnG 33 chR w v l q) ∧ F = v.ownBlock.toList := by
  constructor
  · rintro ⟨v', q, e, rfl, h⟩
    cases e
    exact ⟨⟨q, h⟩, by rw [(flat_ch.parts h).2.2.1, List.append_nil]⟩
  · rintro ⟨⟨q, h⟩, rfl⟩
    exact ⟨v, q, rfl, by rw [(flat_ch.parts h).2.2.1, List.append_nil], h⟩
/-- jobs and choices of the call's own make one who decides -/
theorem coord_mk {x : Value} {gl lcap ln : Nat} {q ql : Parts} {B : Nat} (hw : WfCo c) (hJ : OwnG 37 jobR w x c.2.2.2.1 q) (hL : OwnG 33 chR w (.slice (some ⟨gl, 0, none⟩) ln lcap) c.2.2.2.2.1 ql) (hne : gl ∉ x.ownBlock.toList ++ blocksOf q) :
    coordR.own w [.int .i64 c.1, .int .i64 c.2.1, .int .i64 c.2.2.1, x, .slice (some ⟨gl, 0, none⟩) ln lcap, .int .i64 c.2.2.2.2.2] c (x.ownBlock.toList ++ blocksOf q ++ [gl]) := by
  refine coord_own.2 ⟨x, _, x.ownBlock.toList ++ blocksOf q, [gl], rfl, hw, ⟨x, q, rfl, rfl, hJ⟩, logs_own.2 ⟨⟨ql, hL⟩, rfl⟩, rfl, nodup_mk hJ.nodup (by simp) fun k hk hk2 => ?_⟩
  rw [List.mem_singleton] at hk2
  subst hk2
  exact hne hk
theorem copy_ret {jn ln : Nat} (hw : WfCo c) (h : CopyPost w jn ln c e w') : RetR coordR w c e w' := by
  obtain ⟨gj, jcap, gl, lcap, q, ql, rfl, hJ, hL, hnew, hne, hb⟩ := h
  refine ⟨_, _, rfl, coord_mk (B := 0) hw hJ hL (by simpa [Value.ownBlock] using hne), fun k hk => hnew k ?_, hb⟩
  rcases List.mem_append.1 hk with h1 | h1
  · exact List.mem_cons_of_mem _ (by simpa [Value.ownBlock] using h1)
  · rw [List.mem_singleton] at h1; subst h1; exact List.mem_cons_self
/-- one who decides, no greater than the laws take -/
structure BoundCo (c : Co) : Prop where
  fits : FitsCo c
  yes : ∀ j ∈ c.2.2.2.1, j.2.2.2.length ≤ 1099511627776
  jobs : c.2.2.2.1.length ≤ 1048576
  log : c.2.2.2.2.1.length ≤ 1048576
  sum : sumJ c.2.2.2.1 ≤ 1048576
theorem sumO_at {l : List Od} {p : Od} (h : p ∈ l) : p.2.1.size ≤ sumO l := by
  obtain ⟨i, hi, rfl⟩ := List.getElem_of_mem h
  have h1 := sumO_take l i hi
  have h2 := sumO_le l (i + 1)
  unfold osz at h1
  omega
theorem bound_co {c : Co} (h : csz c ≤ 1048576) : BoundCo c := by
  unfold csz at h
  refine ⟨⟨by omega, by omega, fun j hj => ?_⟩, fun j hj => ?_, by omega, by omega, by omega⟩
  · have h1 := sumJ_mem hj
    unfold jsz at h1
    refine ⟨by omega, fun p hp => ?_⟩
    have h2 := sumO_at hp
    omega
  · have h1 := sumJ_mem hj
    unfold jsz at h1
    omega
theorem coord_see6 {u0 u1 u2 u3 u4 u5 : Value} (h : coordR.see w [u0, u1, u2, u3, u4, u5] c) : ∃ ja jn jc la ln lc, u0 = .int .i64 c.1 ∧ u1 = .int .i64 c.2.1 ∧ u2 = .int .i64 c.2.2.1 ∧ u3 = .slice ja jn jc ∧ u4 = .slice la ln lc ∧ u5 = .int .i64 c.2.2.2.2.2 ∧ SeeCo w ja jn jc la ln lc c := by
  obtain ⟨ja, jn, jc, la, ln, lc, e, h⟩ := coord_see.1 h
  unfold coVals at e
  simp only [List.cons.injEq, and_true] at e
  exact ⟨ja, jn, jc, la, ln, lc, e.1, e.2.1, e.2.2.1, e.2.2.2.1, e.2.2.2.2.1, e.2.2.2.2.2, h⟩
end
end Go.Proofs.Ytdeaiefhegjalaa.cos
