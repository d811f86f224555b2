/- Rows of structs that own memory: made, an element written, an element turned. No function of the program is named here. -/
import Derived.Test.YtmpggohilmngpaaGen
namespace Go.Proofs.Ytmpggohilmngpaa.lay
open Go Go.RowKit Go.Proofs.Ytmpggohilmngpaa.base
set_option linter.unusedVariables false
set_option linter.unusedSimpArgs false

/-- cells written one behind the other -/
def putAll (w : World) (g : Nat) : Nat → List Value → World
  | _, [] => w
  | o, u :: us => putAll (w.setCell ⟨g, o, none⟩ u) g (o + 1) us
def setAll (xs : List Value) : Nat → List Value → List Value
  | _, [] => xs
  | o, u :: us => setAll (xs.set o u) (o + 1) us
theorem setAll_length (us : List Value) : ∀ (xs : List Value) (o : Nat), (setAll xs o us).length = xs.length := by
  induction us with
  | nil => intro xs o; rfl
  | cons u us ih => intro xs o; rw [setAll, ih, List.length_set]
theorem setAll_get (us : List Value) : ∀ (xs : List Value) (o j : Nat) (h : o + us.length ≤ xs.length), (setAll xs o us)[j]? = if o ≤ j ∧ j < o + us.length then us[j - o]? else xs[j]? := by
  induction us with
  | nil => intro xs o j h; rw [setAll, if_neg (by simp)]
  | cons u us ih =>
    intro xs o j h
    simp only [List.length_cons] at h ⊢
    rw [setAll, ih _ _ _ (by rw [List.length_set]; omega)]
    by_cases e : j = o
    · subst e
      rw [if_neg (by omega), if_pos (by omega), List.getElem?_set_self (by omega), Nat.sub_self]; rfl
    · rw [List.getElem?_set_ne (by omega)]
      by_cases h1 : o + 1 ≤ j ∧ j < o + 1 + us.length
      · rw [if_pos h1, if_pos (by omega), show j - o = (j - (o + 1)) + 1 by omega, List.getElem?_cons_succ]
      · rw [if_neg h1, if_neg (by omega)]
theorem cellsOf_set {q : Parts} {n : Nat} (h : ∀ p ∈ q, p.1.length = n) (i : Nat) (hi : i < q.length) (us : List Value) (hu : us.length = n) (F : List Nat) : setAll (cellsOf q) (i * n) us = cellsOf (q.set i (us, F)) := by
  have hq : ∀ p ∈ q.set i (us, F), p.1.length = n := fun p hp => by
    rcases List.mem_or_eq_of_mem_set hp with h1 | h1
    · exact h p h1
    · subst h1; exact hu
  have hl1 := cellsOf_length h
  have hl2 := cellsOf_length hq
  rw [List.length_set] at hl2
  have hin : i * n + n ≤ q.length * n := by
    have := Nat.mul_le_mul_right n (show i + 1 ≤ q.length from hi)
    rw [Nat.add_mul] at this; omega
  refine List.ext_getElem? fun j => ?_
  by_cases hj : j < q.length * n
  · have hn0 : 0 < n := by
      rcases Nat.eq_zero_or_pos n with e | e
      · subst e; omega
      · exact e
    have hd := Nat.div_add_mod j n
    have hm := Nat.mod_lt j hn0
    have hjd : j / n < q.length := by
      rcases Nat.lt_or_ge (j / n) q.length with h1 | h1
      · exact h1
      · have := Nat.mul_le_mul_left n h1
        rw [Nat.mul_comm n q.length] at this; omega
    have e : j = j / n * n + j % n := by rw [Nat.mul_comm]; omega
    rw [setAll_get us _ _ _ (by omega)]
    conv => rhs; rw [e, cellsOf_get hq (j / n) (by simpa using hjd) (j % n) hm]
    by_cases hi2 : j / n = i
    · have e3 : j = i * n + j % n := by rw [← hi2]; exact e
      rw [if_pos (by omega), show j - i * n = j % n by omega]
      subst hi2
      rw [List.getElem_set_self]
    · have hne : ¬ (i * n ≤ j ∧ j < i * n + us.length) := by
        rintro ⟨h1, h2⟩
        rw [hu] at h2
        apply hi2
        rcases Nat.lt_trichotomy (j / n) i with h3 | h3 | h3
        · have := Nat.mul_le_mul_right n (show j / n + 1 ≤ i from h3)
          rw [Nat.add_mul] at this; omega
        · exact h3
        · have := Nat.mul_le_mul_right n (show i + 1 ≤ j / n from h3)
          rw [Nat.add_mul] at this; omega
      rw [if_neg hne, List.getElem_set_ne (fun e => hi2 e.symm)]
      conv => lhs; rw [e, cellsOf_get h (j / n) hjd (j % n) hm]
  · rw [List.getElem?_eq_none (by rw [setAll_length]; omega), List.getElem?_eq_none (by omega)]
section
variable {α : Type} {ty : TypeId} {R : Rd α} {w w' : World} {l : List α} {q : Parts} {g n cap : Nat}
theorem row_putAll {base size : Nat} (us : List Value) : ∀ {w : World} {xs : List Value} (o : Nat), w.ownsRow base ty size (.slice (some ⟨g, 0, none⟩) n cap) n xs → (putAll w g o us).ownsRow base ty size (.slice (some ⟨g, 0, none⟩) n cap) n (setAll xs o us) ∧ w.grownBy (putAll w g o us) (some g) := by
  induction us with
  | nil => intro w xs o h; exact ⟨h, World.grownBy.refl _ _⟩
  | cons u us ih =>
    intro w xs o h
    have s := h.stored o u
    have t := ih (o + 1) s.1
    exact ⟨t.1, grownBy_trans s.2 t.2⟩
/-- one element is another now, wherever its memory lies -/
theorem OwnG.turn {v : Value} (h : OwnG ty R w v l q) (i : Nat) (hi : i < l.length) (us : List Value) (x : α) (F : List Nat) (hr : w'.ownsRow 0 ty R.size v l.length (cellsOf (q.set i (us, F)))) (hx : R.own w' us x F)
    (hk : ∀ j (hj : j < l.length), j ≠ i → ∀ b ∈ (q[j]'(by have := h.len; omega)).2, w'.heap[b]? = w.heap[b]?) (hF : ∀ b ∈ F, b ∈ (q[i]'(by have := h.len; omega)).2 ∨ b ∉ v.ownBlock.toList ++ blocksOf q) : OwnG ty R w' v (l.set i x) (q.set i (us, F)) := by
  have hl := h.len
  have hnd := h.nodup
  refine ⟨by simp [hl], by simpa using hr, fun j hj => ?_, ?_⟩
  · have hjl : j < l.length := by simpa using hj
    by_cases e : i = j
    · subst e
      simp only [List.getElem_set_self]
      exact hx
    · simp only [List.getElem_set_ne e]
      exact R.ownAt (h.each j hjl) (hk j hjl fun e2 => e e2.symm)
  · have hxn := R.ownNodup hx
    have hqi : i < q.length := by omega
    have e1 : blocksOf q = blocksOf (q.take i) ++ (q[i].2 ++ blocksOf (q.drop (i + 1))) := by
      conv => lhs; rw [← List.take_append_drop i q, List.drop_eq_getElem_cons hqi]
      rw [blocksOf_append]; rfl
    have e2 : blocksOf (q.set i (us, F)) = blocksOf (q.take i) ++ (F ++ blocksOf (q.drop (i + 1))) := by
      rw [List.set_eq_take_append_cons_drop, if_pos hqi, blocksOf_append]; rfl
    have hF2 : ∀ b ∈ F, b ∉ v.ownBlock.toList ∧ b ∉ blocksOf (q.take i) ∧ b ∉ blocksOf (q.drop (i + 1)) := fun b hb => by
      rw [e1] at hnd
      rcases hF b hb with h1 | h1
      · obtain ⟨n1, n2, n3⟩ := nodup_parts hnd
        obtain ⟨m1, m2, m3⟩ := nodup_parts n2
        obtain ⟨k1, k2, k3⟩ := nodup_parts m2
        exact ⟨fun e => n3 b e (List.mem_append.2 (.inr (List.mem_append.2 (.inl h1)))), fun e => m3 b e (List.mem_append.2 (.inl h1)), k3 b h1⟩
      · rw [e1] at h1
        simp only [List.mem_append, not_or] at h1
        exact ⟨h1.1, h1.2.1, h1.2.2.2⟩
    rw [e1] at hnd
    obtain ⟨n1, n2, n3⟩ := nodup_parts hnd
    obtain ⟨m1, m2, m3⟩ := nodup_parts n2
    obtain ⟨k1, k2, k3⟩ := nodup_parts m2
    rw [e2]
    refine nodup_mk n1 (nodup_mk m1 (nodup_mk hxn k2 fun b hb => (hF2 b hb).2.2) fun b hb hb2 => ?_) fun b hb hb2 => ?_
    · rcases List.mem_append.1 hb2 with h1 | h1
      · exact (hF2 b h1).2.1 hb
      · exact m3 b hb (List.mem_append.2 (.inr h1))
    · rcases List.mem_append.1 hb2 with h1 | h1
      · exact n3 b hb (List.mem_append.2 (.inl h1))
      · rcases List.mem_append.1 h1 with h1 | h1
        · exact (hF2 b h1).1 hb
        · exact n3 b hb (List.mem_append.2 (.inr (List.mem_append.2 (.inr h1))))
/-- one element is written into its place -/
theorem OwnG.put (h : OwnG ty R w (.slice (some ⟨g, 0, none⟩) n cap) l q) (i : Nat) (hi : i < l.length) (us : List Value) (x : α) (F : List Nat) (hx : R.own w us x F) (hF : ∀ b ∈ F, b ∉ g :: blocksOf q) :
    OwnG ty R (putAll w g (i * R.size) us) (.slice (some ⟨g, 0, none⟩) n cap) (l.set i x) (q.set i (us, F)) ∧ w.grownBy (putAll w g (i * R.size) us) (some g) := by
  have hn : n = l.length := by
    rcases h.shape with ⟨e, _⟩ | ⟨g', c', e, _⟩
    · cases e
    · cases e; rfl
  subst hn
  have hl := h.len
  have hr := row_putAll us (i * R.size) h.row
  rw [cellsOf_set h.parts i (by omega) us (R.ownLen hx) F] at hr
  have hgn : ∀ b ∈ blocksOf q, b ≠ g := fun b hb e => by
    have := (nodup_parts h.nodup).2.2 g (by simp [Value.ownBlock])
    exact this (e ▸ hb)
  refine ⟨h.turn i hi us x F hr.1 (R.ownAt hx fun k hk => hr.2.block k (R.ownLt hx k hk) fun e => hF k hk (by simp [Option.some.inj e])) (fun j hj hne b hb => ?_) (fun b hb => .inr (by simpa [Value.ownBlock] using hF b hb)), hr.2⟩
  have hbq : b ∈ blocksOf q := List.mem_flatMap.2 ⟨_, List.getElem_mem _, hb⟩
  exact hr.2.block b (R.ownLt (h.each j hj) b hb) fun e => hgn b hbq (Option.some.inj e)
/-- one cell of an element is written -/
theorem OwnG.cell1 (h : OwnG ty R w (.slice (some ⟨g, 0, none⟩) n cap) l q) (i : Nat) (hi : i < l.length) (j : Nat) (hj : j < R.size) (u : Value) (x : α) (hx : ∀ vs F, R.own w vs l[i] F → R.own w (vs.set j u) x F) :
    ∃ q', OwnG ty R (w.setCell ⟨g, i * R.size + j, none⟩ u) (.slice (some ⟨g, 0, none⟩) n cap) (l.set i x) q' ∧ blocksOf q' = blocksOf q ∧ w.grownBy (w.setCell ⟨g, i * R.size + j, none⟩ u) (some g) := by
  have hn : n = l.length := by
    rcases h.shape with ⟨e, _⟩ | ⟨g', c', e, _⟩
    · cases e
    · cases e; rfl
  subst hn
  have hl := h.len
  have hqi : i < q.length := by omega
  have hr := h.row.stored (i * R.size + j) u
  have hp := h.parts
  have hpl := hp _ (List.getElem_mem hqi)
  have e0 : (cellsOf q).set (i * R.size + j) u = cellsOf (q.set i (q[i].1.set j u, q[i].2)) := by
    rw [← cellsOf_set hp i hqi (q[i].1.set j u) (by rw [List.length_set]; exact hpl) q[i].2]
    have hin : i * R.size + R.size ≤ (cellsOf q).length := by
      rw [cellsOf_length hp]
      have := Nat.mul_le_mul_right R.size (show i + 1 ≤ q.length from hqi)
      rw [Nat.add_mul] at this; omega
    refine List.ext_getElem? fun z => ?_
    rw [setAll_get _ _ _ _ (by rw [List.length_set, hpl]; exact hin), List.length_set, hpl]
    by_cases hz : i * R.size ≤ z ∧ z < i * R.size + R.size
    · rw [if_pos hz]
      obtain ⟨d, rfl⟩ : ∃ d, z = i * R.size + d := ⟨z - i * R.size, by omega⟩
      rw [Nat.add_sub_cancel_left]
      by_cases hd : d = j
      · subst hd
        rw [List.getElem?_set_self (by omega), List.getElem?_set_self (by omega)]
      · rw [List.getElem?_set_ne (by omega), List.getElem?_set_ne (by omega), cellsOf_get hp i hqi d (by omega)]
    · rw [if_neg hz, List.getElem?_set_ne (by omega)]
  rw [e0] at hr
  have hgn : ∀ b ∈ blocksOf q, b ≠ g := fun b hb e => by
    have := (nodup_parts h.nodup).2.2 g (by simp [Value.ownBlock])
    exact this (e ▸ hb)
  have hbq : ∀ k (hk : k < q.length), ∀ b ∈ q[k].2, b ∈ blocksOf q := fun k hk b hb => List.mem_flatMap.2 ⟨_, List.getElem_mem _, hb⟩
  have hown := hx _ _ (h.each i hi)
  refine ⟨q.set i (q[i].1.set j u, q[i].2), h.turn i hi _ x _ hr.1 (R.ownAt hown fun k hk => hr.2.block k (R.ownLt hown k hk) fun e => hgn k (hbq i hqi k hk) (Option.some.inj e)) (fun k hk hne b hb => hr.2.block b (R.ownLt (h.each k hk) b hb) fun e => hgn b (hbq k (by omega) b hb) (Option.some.inj e)) (fun b hb => .inl hb), ?_, hr.2⟩
  rw [List.set_eq_take_append_cons_drop, if_pos hqi, blocksOf_append]
  conv => rhs; rw [← List.take_append_drop i q, List.drop_eq_getElem_cons hqi]
  rw [blocksOf_append]; rfl
/-- what an element owns is turned -/
theorem OwnG.inner (h : OwnG ty R w (.slice (some ⟨g, 0, none⟩) n cap) l q) (i : Nat) (hi : i < l.length) (x : α) {G : List Nat} (hf : Frame G w w') (hG : ∀ k ∈ G, k ∈ (q[i]'(by have := h.len; omega)).2) (hx : R.own w' (q[i]'(by have := h.len; omega)).1 x (q[i]'(by have := h.len; omega)).2) :
    OwnG ty R w' (.slice (some ⟨g, 0, none⟩) n cap) (l.set i x) q := by
  have hn : n = l.length := by
    rcases h.shape with ⟨e, _⟩ | ⟨g', c', e, _⟩
    · cases e
    · cases e; rfl
  subst hn
  have hl := h.len
  have hqi : i < q.length := by omega
  have hbq : ∀ k (hk : k < q.length), ∀ b ∈ q[k].2, b ∈ blocksOf q := fun k hk b hb => List.mem_flatMap.2 ⟨_, List.getElem_mem _, hb⟩
  have hgG : g ∉ G := fun e => by
    have := (nodup_parts h.nodup).2.2 g (by simp [Value.ownBlock])
    exact this (hbq i hqi g (hG g e))
  have hgl := (h.row.lt g rfl).2
  have eset : q.set i (q[i].1, q[i].2) = q := List.set_getElem_self hqi
  have hr : w'.ownsRow 0 ty R.size (.slice (some ⟨g, 0, none⟩) l.length cap) l.length (cellsOf q) := by
    rcases h.row with ⟨h1, ⟨h2, _⟩ | ⟨g', cap', cur, h2, h3, h4, h5⟩⟩
    · cases h2
    · cases h2
      exact ⟨h1, .inr ⟨g, cap, cur, rfl, h3, (hf.block g hgl hgG).trans h4, h5⟩⟩
  have hap : ∀ j (hj : j < l.length), j ≠ i → ∀ b ∈ (q[j]'(by omega)).2, b ∉ (q[i]'hqi).2 := fun j hj hne b hb hb2 => by
    have hnd := (nodup_parts h.nodup).2.1
    rcases Nat.lt_or_ge j i with hlt | hge
    · have e1 : blocksOf q = blocksOf (q.take i) ++ blocksOf (q.drop i) := by rw [← blocksOf_append, List.take_append_drop]
      rw [e1] at hnd
      refine (nodup_parts hnd).2.2 b (List.mem_flatMap.2 ⟨q[j], ?_, hb⟩) (List.mem_flatMap.2 ⟨q[i], ?_, hb2⟩)
      · rw [List.mem_take_iff_getElem]; exact ⟨j, by omega, rfl⟩
      · rw [List.mem_drop_iff_getElem]; exact ⟨0, by omega, by simp⟩
    · have hlt : i < j := by omega
      have e1 : blocksOf q = blocksOf (q.take j) ++ blocksOf (q.drop j) := by rw [← blocksOf_append, List.take_append_drop]
      rw [e1] at hnd
      refine (nodup_parts hnd).2.2 b (List.mem_flatMap.2 ⟨q[i], ?_, hb2⟩) (List.mem_flatMap.2 ⟨q[j], ?_, hb⟩)
      · rw [List.mem_take_iff_getElem]; exact ⟨i, by omega, rfl⟩
      · rw [List.mem_drop_iff_getElem]; exact ⟨0, by omega, by simp⟩
  have := h.turn (w' := w') i hi q[i].1 x q[i].2 (by rw [eset]; exact hr) hx (fun j hj hne b hb => hf.block b (R.ownLt (h.each j hj) b hb) fun e => hap j hj hne b hb (hG b e)) (fun b hb => .inl hb)
  rwa [eset] at this
/-- a row of zero elements -/
theorem ownG_zeros {z : Value} {x : α} {k : Nat} (hr : w.ownsRow k ty R.size (.slice (some ⟨g, 0, none⟩) n n) n (madeCells z.cells (n * R.size)).toList) (hz : R.own w z.cells.toList x []) : OwnG ty R w (.slice (some ⟨g, 0, none⟩) n n) (List.replicate n x) (List.replicate n (z.cells.toList, [])) := by
  have hzl : z.cells.toList.length = R.size := R.ownLen hz
  have e1 : blocksOf (List.replicate n (z.cells.toList, ([] : List Nat))) = [] := by unfold blocksOf; simp
  have hp : ∀ p ∈ List.replicate n (z.cells.toList, ([] : List Nat)), p.1.length = R.size := fun p hp => by rw [(List.mem_replicate.1 hp).2]; exact hzl
  have e2 : cellsOf (List.replicate n (z.cells.toList, ([] : List Nat))) = (madeCells z.cells (n * R.size)).toList := by
    refine List.ext_getElem? fun j => ?_
    by_cases hj : j < n * R.size
    · have hn0 : 0 < R.size := by
        rcases Nat.eq_zero_or_pos R.size with e | e
        · rw [e] at hj; omega
        · exact e
      have hd := Nat.div_add_mod j R.size
      have hm := Nat.mod_lt j hn0
      have hjd : j / R.size < n := Nat.div_lt_of_lt_mul (by rw [Nat.mul_comm]; exact hj)
      have e : j = j / R.size * R.size + j % R.size := by rw [Nat.mul_comm]; omega
      conv => lhs; rw [e, cellsOf_get hp (j / R.size) (by simpa using hjd) (j % R.size) hm]
      have hzs : z.cells.size = R.size := by rw [← hzl]; simp
      have hm2 : j % R.size < z.cells.size := by omega
      simp [madeCells, hj, hzs, List.getElem_replicate]
      rw [Array.getElem?_eq_getElem hm2, getElem!_pos z.cells _ hm2]
    · rw [List.getElem?_eq_none (by rw [cellsOf_length hp, List.length_replicate]; omega), List.getElem?_eq_none (by simp [madeCells]; omega)]
  refine ⟨by simp, ?_, fun i hi => ?_, by rw [e1]; simp [Value.ownBlock]⟩
  · rw [List.length_replicate, e2]
    obtain ⟨h1, h2⟩ := hr
    refine ⟨h1, ?_⟩
    rcases h2 with h2 | ⟨g', c', cur, h2, h3, h4⟩
    · exact .inl h2
    · exact .inr ⟨g', c', cur, h2, Nat.zero_le _, h4⟩
  · simp only [List.getElem_replicate]
    exact hz
end
/-- the elements that are there, zero ones behind them -/
def copyG {α : Type} (z : α) (l : List α) (k : Nat) : List α := l.take k ++ List.replicate (l.length - k) z
section
variable {α : Type} {z : α} {l : List α}
theorem copyG_length (k : Nat) (h : k ≤ l.length) : (copyG z l k).length = l.length := by simp [copyG]; omega
theorem copyG_zero : copyG z l 0 = List.replicate l.length z := by simp [copyG]
theorem copyG_set (k : Nat) (h : k < l.length) : (copyG z l k).set k l[k] = copyG z l (k + 1) := by
  unfold copyG
  rw [List.take_succ_eq_append_getElem h]
  have e1 : (l.take k).length = k := by simp; omega
  have e2 : l.length - k = (l.length - (k + 1)) + 1 := by omega
  rw [List.set_append_right _ _ (by omega), e1, Nat.sub_self, e2, List.replicate_succ, List.set_cons_zero, List.append_assoc]
  rfl
theorem copyG_all : copyG z l l.length = l := by simp [copyG]
/-- the elements turned by f up to k, those behind as they were -/
def mapTo (f : Nat → α → α) (l : List α) (k : Nat) : List α := (l.take k).mapIdx f ++ l.drop k
theorem mapTo_zero (f : Nat → α → α) : mapTo f l 0 = l := by simp [mapTo]
theorem mapTo_length (f : Nat → α → α) (k : Nat) : (mapTo f l k).length = l.length := by simp [mapTo]; omega
theorem mapTo_all (f : Nat → α → α) : mapTo f l l.length = l.mapIdx f := by simp [mapTo]
theorem mapTo_at (f : Nat → α → α) (k : Nat) (h : k < l.length) : (mapTo f l k)[k]'(by rw [mapTo_length]; exact h) = l[k] := by
  have e1 : ((l.take k).mapIdx f).length = k := by simp; omega
  have h2 : (mapTo f l k)[k]? = some l[k] := by
    unfold mapTo
    rw [List.getElem?_append_right (by omega), e1, Nat.sub_self, List.getElem?_drop, Nat.add_zero, List.getElem?_eq_getElem h]
  exact (List.getElem?_eq_some_iff.1 h2).2
theorem mapTo_set (f : Nat → α → α) (k : Nat) (h : k < l.length) : (mapTo f l k).set k (f k l[k]) = mapTo f l (k + 1) := by
  unfold mapTo
  have e1 : ((l.take k).mapIdx f).length = k := by simp; omega
  rw [List.take_succ_eq_append_getElem h, List.mapIdx_append, List.set_append_right _ _ (by omega), e1, Nat.sub_self, List.drop_eq_getElem_cons h, List.set_cons_zero, List.append_assoc]
  congr 1
  rw [List.length_take_of_le (by omega)]
  simp
end
end Go.Proofs.Ytmpggohilmngpaa.lay
