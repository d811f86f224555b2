/- Rows of structs that own memory: made, an element written, an element turned. No function of the program is named here. Cells of elements of rows; a struct written whole. No function of the program is named here. How seals lie in memory. No function of the program is named here. Plain mathematics of the laws on pairs. Plain mathematics of proofs of all between. Rows of items (a pair and a slice of texts: three cells an item): small facts on worlds; no function of the program is named here. -/
import Derived.Test.YteammdkipnfmnaaDoorShae
import Derived.Test.YteammdkipnfmnaaDoorShab
import Derived.Deep.Slices
import Derived.ChangeSame
import Derived.SliceStrings
namespace Go.Proofs.YteammdkipnfmnaaDoor.lay
open Go Go.RowKit Go.Proofs.YteammdkipnfmnaaDoor.base
set_option linter.unusedVariables false
set_option linter.unusedSimpArgs false

def putAll (w : World) (g : Nat) : Nat → List Value → World
  | _, [] => w
  | o, u :: us => putAll (w.setCell ⟨g, o, none⟩ u) g (o + 1) us
def setAll (xs : List Value) : Nat → List Value → List Value
  | _, [] => xs
  | o, u :: us => setAll (xs.set o u) (o + 1) us
theorem setAll_length (us : List Value) : ∀ (xs : List Value) (o : Nat), (setAll xs o us).length = xs.length := by
  induction us with
  | nil => intro xs o; rfl
  | cons u us ih => intro xs o; rw [setAll, ih, List.length_set]
theorem setAll_get (us : List Value) : ∀ (xs : List Value) (o j : Nat) (h : o + us.length ≤ xs.length), (setAll xs o us)[j]? = if o ≤ j ∧ j < o + us.length then us[j - o]? else xs[j]? := by
  induction us with
  | nil => intro xs o j h; rw [setAll, if_neg (by simp)]
  | cons u us ih =>
    intro xs o j h
    simp only [List.length_cons] at h ⊢
    rw [setAll, ih _ _ _ (by rw [List.length_set]; omega)]
    by_cases e : j = o
    · subst e
      rw [if_neg (by omega), if_pos (by omega), List.getElem?_set_self (by omega), Nat.sub_self]; rfl
    · rw [List.getElem?_set_ne (by omega)]
      by_cases h1 : o + 1 ≤ j ∧ j < o + 1 + us.length
      · rw [if_pos h1, if_pos (by omega), show j - o = (j - (o + 1)) + 1 by omega, List.getElem?_cons_succ]
      · rw [if_neg h1, if_neg (by omega)]
theorem cellsOf_set {q : Parts} {n : Nat} (h : ∀ p ∈ q, p.1.length = n) (i : Nat) (hi : i < q.length) (us : List Value) (hu : us.length = n) (F : List Nat) : setAll (cellsOf q) (i * n) us = cellsOf (q.set i (us, F)) := by
  have hq : ∀ p ∈ q.set i (us, F), p.1.length = n := fun p hp => by
    rcases List.mem_or_eq_of_mem_set hp with h1 | h1
    · exact h p h1
    · subst h1; exact hu
  have hl1 := cellsOf_length h
  have hl2 := cellsOf_length hq
  rw [List.length_set] at hl2
  have hin : i * n + n ≤ q.length * n := by
    have := Nat.mul_le_mul_right n (show i + 1 ≤ q.length from hi)
    rw [Nat.add_mul] at this; omega
  refine List.ext_getElem? fun j => ?_
  by_cases hj : j < q.length * n
  · have hn0 : 0 < n := by
      rcases Nat.eq_zero_or_pos n with e | e
      · subst e; omega
      · exact e
    have hd := Nat.div_add_mod j n
    have hm := Nat.mod_lt j hn0
    have hjd : j / n < q.length := by
      rcases Nat.lt_or_ge (j / n) q.length with h1 | h1
      · exact h1
      · have := Nat.mul_le_mul_left n h1
        rw [Nat.mul_comm n q.length] at this; omega
    have e : j = j / n * n + j % n := by rw [Nat.mul_comm]; omega
    rw [setAll_get us _ _ _ (by omega)]
    conv => rhs; rw [e, cellsOf_get hq (j / n) (by simpa using hjd) (j % n) hm]
    by_cases hi2 : j / n = i
    · have e3 : j = i * n + j % n := by rw [← hi2]; exact e
      rw [if_pos (by omega), show j - i * n = j % n by omega]
      subst hi2
      rw [List.getElem_set_self]
    · have hne : ¬ (i * n ≤ j ∧ j < i * n + us.length) := by
        rintro ⟨h1, h2⟩
        rw [hu] at h2
        apply hi2
        rcases Nat.lt_trichotomy (j / n) i with h3 | h3 | h3
        · have := Nat.mul_le_mul_right n (show j / n + 1 ≤ i from h3)
          rw [Nat.add_mul] at this; omega
        · exact h3
        · have := Nat.mul_le_mul_right n (show i + 1 ≤ j / n from h3)
          rw [Nat.add_mul] at this; omega
      rw [if_neg hne, List.getElem_set_ne (fun e => hi2 e.symm)]
      conv => lhs; rw [e, cellsOf_get h (j / n) hjd (j % n) hm]
  · rw [List.getElem?_eq_none (by rw [setAll_length]; omega), List.getElem?_eq_none (by omega)]
section
variable {α : Type} {ty : TypeId} {R : Rd α} {w w' : World} {l : List α} {q : Parts} {g n cap : Nat}
theorem row_putAll {base size : Nat} (us : List Value) : ∀ {w : World} {xs : List Value} (o : Nat), w.ownsRow base ty size (.slice (some ⟨g, 0, none⟩) n cap) n xs → (putAll w g o us).ownsRow base ty size (.slice (some ⟨g, 0, none⟩) n cap) n (setAll xs o us) ∧ w.grownBy (putAll w g o us) (some g) := by
  induction us with
  | nil => intro w xs o h; exact ⟨h, World.grownBy.refl _ _⟩
  | cons u us ih =>
    intro w xs o h
    have s := h.stored o u
    have t := ih (o + 1) s.1
    exact ⟨t.1, grownBy_trans s.2 t.2⟩
theorem OwnG.turn {v : Value} (h : OwnG ty R w v l q) (i : Nat) (hi : i < l.length) (us : List Value) (x : α) (F : List Nat) (hr : w'.ownsRow 0 ty R.size v l.length (cellsOf (q.set i (us, F)))) (hx : R.own w' us x F)
    (hk : ∀ j (hj : j < l.length), j ≠ i → ∀ b ∈ (q[j]'(by have := h.len; omega)).2, w'.heap[b]? = w.heap[b]?) (hF : ∀ b ∈ F, b ∈ (q[i]'(by have := h.len; omega)).2 ∨ b ∉ v.ownBlock.toList ++ blocksOf q) : OwnG ty R w' v (l.set i x) (q.set i (us, F)) := by
  have hl := h.len
  have hnd := h.nodup
  refine ⟨by simp [hl], by simpa using hr, fun j hj => ?_, ?_⟩
  · have hjl : j < l.length := by simpa using hj
    by_cases e : i = j
    · subst e
      simp only [List.getElem_set_self]
      exact hx
    · simp only [List.getElem_set_ne e]
      exact R.ownAt (h.each j hjl) (hk j hjl fun e2 => e e2.symm)
  · have hxn := R.ownNodup hx
    have hqi : i < q.length := by omega
    have e1 : blocksOf q = blocksOf (q.take i) ++ (q[i].2 ++ blocksOf (q.drop (i + 1))) := by
      conv => lhs; rw [← List.take_append_drop i q, List.drop_eq_getElem_cons hqi]
      rw [blocksOf_append]; rfl
    have e2 : blocksOf (q.set i (us, F)) = blocksOf (q.take i) ++ (F ++ blocksOf (q.drop (i + 1))) := by
      rw [List.set_eq_take_append_cons_drop, if_pos hqi, blocksOf_append]; rfl
    have hF2 : ∀ b ∈ F, b ∉ v.ownBlock.toList ∧ b ∉ blocksOf (q.take i) ∧ b ∉ blocksOf (q.drop (i + 1)) := fun b hb => by
      rw [e1] at hnd
      rcases hF b hb with h1 | h1
      · obtain ⟨n1, n2, n3⟩ := nodup_parts hnd
        obtain ⟨m1, m2, m3⟩ := nodup_parts n2
        obtain ⟨k1, k2, k3⟩ := nodup_parts m2
        exact ⟨fun e => n3 b e (List.mem_append.2 (.inr (List.mem_append.2 (.inl h1)))), fun e => m3 b e (List.mem_append.2 (.inl h1)), k3 b h1⟩
      · rw [e1] at h1
        simp only [List.mem_append, not_or] at h1
        exact ⟨h1.1, h1.2.1, h1.2.2.2⟩
    rw [e1] at hnd
    obtain ⟨n1, n2, n3⟩ := nodup_parts hnd
    obtain ⟨m1, m2, m3⟩ := nodup_parts n2
    obtain ⟨k1, k2, k3⟩ := nodup_parts m2
    rw [e2]
    refine nodup_mk n1 (nodup_mk m1 (nodup_mk hxn k2 fun b hb => (hF2 b hb).2.2) fun b hb hb2 => ?_) fun b hb hb2 => ?_
    · rcases List.mem_append.1 hb2 with h1 | h1
      · exact (hF2 b h1).2.1 hb
      · exact m3 b hb (List.mem_append.2 (.inr h1))
    · rcases List.mem_append.1 hb2 with h1 | h1
      · exact n3 b hb (List.mem_append.2 (.inl h1))
      · rcases List.mem_append.1 h1 with h1 | h1
        · exact (hF2 b h1).1 hb
        · exact n3 b hb (List.mem_append.2 (.inr (List.mem_append.2 (.inr h1))))
theorem OwnG.put (h : OwnG ty R w (.slice (some ⟨g, 0, none⟩) n cap) l q) (i : Nat) (hi : i < l.length) (us : List Value) (x : α) (F : List Nat) (hx : R.own w us x F) (hF : ∀ b ∈ F, b ∉ g :: blocksOf q) :
    OwnG ty R (putAll w g (i * R.size) us) (.slice (some ⟨g, 0, none⟩) n cap) (l.set i x) (q.set i (us, F)) ∧ w.grownBy (putAll w g (i * R.size) us) (some g) := by
  have hn : n = l.length := by
    rcases h.shape with ⟨e, _⟩ | ⟨g', c', e, _⟩
    · cases e
    · cases e; rfl
  subst hn
  have hl := h.len
  have hr := row_putAll us (i * R.size) h.row
  rw [cellsOf_set h.parts i (by omega) us (R.ownLen hx) F] at hr
  have hgn : ∀ b ∈ blocksOf q, b ≠ g := fun b hb e => by
    have := (nodup_parts h.nodup).2.2 g (by simp [Value.ownBlock])
    exact this (e ▸ hb)
  refine ⟨h.turn i hi us x F hr.1 (R.ownAt hx fun k hk => hr.2.block k (R.ownLt hx k hk) fun e => hF k hk (by simp [Option.some.inj e])) (fun j hj hne b hb => ?_) (fun b hb => .inr (by simpa [Value.ownBlock] using hF b hb)), hr.2⟩
  have hbq : b ∈ blocksOf q := List.mem_flatMap.2 ⟨_, List.getElem_mem _, hb⟩
  exact hr.2.block b (R.ownLt (h.each j hj) b hb) fun e => hgn b hbq (Option.some.inj e)
theorem OwnG.cell1 (h : OwnG ty R w (.slice (some ⟨g, 0, none⟩) n cap) l q) (i : Nat) (hi : i < l.length) (j : Nat) (hj : j < R.size) (u : Value) (x : α) (hx : ∀ vs F, R.own w vs l[i] F → R.own w (vs.set j u) x F) :
    ∃ q', OwnG ty R (w.setCell ⟨g, i * R.size + j, none⟩ u) (.slice (some ⟨g, 0, none⟩) n cap) (l.set i x) q' ∧ blocksOf q' = blocksOf q ∧ w.grownBy (w.setCell ⟨g, i * R.size + j, none⟩ u) (some g) := by
  have hn : n = l.length := by
    rcases h.shape with ⟨e, _⟩ | ⟨g', c', e, _⟩
    · cases e
    · cases e; rfl
  subst hn
  have hl := h.len
  have hqi : i < q.length := by omega
  have hr := h.row.stored (i * R.size + j) u
  have hp := h.parts
  have hpl := hp _ (List.getElem_mem hqi)
  have e0 : (cellsOf q).set (i * R.size + j) u = cellsOf (q.set i (q[i].1.set j u, q[i].2)) := by
    rw [← cellsOf_set hp i hqi (q[i].1.set j u) (by rw [List.length_set]; exact hpl) q[i].2]
    have hin : i * R.size + R.size ≤ (cellsOf q).length := by
      rw [cellsOf_length hp]
      have := Nat.mul_le_mul_right R.size (show i + 1 ≤ q.length from hqi)
      rw [Nat.add_mul] at this; omega
    refine List.ext_getElem? fun z => ?_
    rw [setAll_get _ _ _ _ (by rw [List.length_set, hpl]; exact hin), List.length_set, hpl]
    by_cases hz : i * R.size ≤ z ∧ z < i * R.size + R.size
    · rw [if_pos hz]
      obtain ⟨d, rfl⟩ : ∃ d, z = i * R.size + d := ⟨z - i * R.size, by omega⟩
      rw [Nat.add_sub_cancel_left]
      by_cases hd : d = j
      · subst hd
        rw [List.getElem?_set_self (by omega), List.getElem?_set_self (by omega)]
      · rw [List.getElem?_set_ne (by omega), List.getElem?_set_ne (by omega), cellsOf_get hp i hqi d (by omega)]
    · rw [if_neg hz, List.getElem?_set_ne (by omega)]
  rw [e0] at hr
  have hgn : ∀ b ∈ blocksOf q, b ≠ g := fun b hb e => by
    have := (nodup_parts h.nodup).2.2 g (by simp [Value.ownBlock])
    exact this (e ▸ hb)
  have hbq : ∀ k (hk : k < q.length), ∀ b ∈ q[k].2, b ∈ blocksOf q := fun k hk b hb => List.mem_flatMap.2 ⟨_, List.getElem_mem _, hb⟩
  have hown := hx _ _ (h.each i hi)
  refine ⟨q.set i (q[i].1.set j u, q[i].2), h.turn i hi _ x _ hr.1 (R.ownAt hown fun k hk => hr.2.block k (R.ownLt hown k hk) fun e => hgn k (hbq i hqi k hk) (Option.some.inj e)) (fun k hk hne b hb => hr.2.block b (R.ownLt (h.each k hk) b hb) fun e => hgn b (hbq k (by omega) b hb) (Option.some.inj e)) (fun b hb => .inl hb), ?_, hr.2⟩
  rw [List.set_eq_take_append_cons_drop, if_pos hqi, blocksOf_append]
  conv => rhs; rw [← List.take_append_drop i q, List.drop_eq_getElem_cons hqi]
  rw [blocksOf_append]; rfl
theorem OwnG.inner (h : OwnG ty R w (.slice (some ⟨g, 0, none⟩) n cap) l q) (i : Nat) (hi : i < l.length) (x : α) {G : List Nat} (hf : Frame G w w') (hG : ∀ k ∈ G, k ∈ (q[i]'(by have := h.len; omega)).2) (hx : R.own w' (q[i]'(by have := h.len; omega)).1 x (q[i]'(by have := h.len; omega)).2) :
    OwnG ty R w' (.slice (some ⟨g, 0, none⟩) n cap) (l.set i x) q := by
  have hn : n = l.length := by
    rcases h.shape with ⟨e, _⟩ | ⟨g', c', e, _⟩
    · cases e
    · cases e; rfl
  subst hn
  have hl := h.len
  have hqi : i < q.length := by omega
  have hbq : ∀ k (hk : k < q.length), ∀ b ∈ q[k].2, b ∈ blocksOf q := fun k hk b hb => List.mem_flatMap.2 ⟨_, List.getElem_mem _, hb⟩
  have hgG : g ∉ G := fun e => by
    have := (nodup_parts h.nodup).2.2 g (by simp [Value.ownBlock])
    exact this (hbq i hqi g (hG g e))
  have hgl := (h.row.lt g rfl).2
  have eset : q.set i (q[i].1, q[i].2) = q := List.set_getElem_self hqi
  have hr : w'.ownsRow 0 ty R.size (.slice (some ⟨g, 0, none⟩) l.length cap) l.length (cellsOf q) := by
    rcases h.row with ⟨h1, ⟨h2, _⟩ | ⟨g', cap', cur, h2, h3, h4, h5⟩⟩
    · cases h2
    · cases h2
      exact ⟨h1, .inr ⟨g, cap, cur, rfl, h3, (hf.block g hgl hgG).trans h4, h5⟩⟩
  have hap : ∀ j (hj : j < l.length), j ≠ i → ∀ b ∈ (q[j]'(by omega)).2, b ∉ (q[i]'hqi).2 := fun j hj hne b hb hb2 => by
    have hnd := (nodup_parts h.nodup).2.1
    rcases Nat.lt_or_ge j i with hlt | hge
    · have e1 : blocksOf q = blocksOf (q.take i) ++ blocksOf (q.drop i) := by rw [← blocksOf_append, List.take_append_drop]
      rw [e1] at hnd
      refine (nodup_parts hnd).2.2 b (List.mem_flatMap.2 ⟨q[j], ?_, hb⟩) (List.mem_flatMap.2 ⟨q[i], ?_, hb2⟩)
      · rw [List.mem_take_iff_getElem]; exact ⟨j, by omega, rfl⟩
      · rw [List.mem_drop_iff_getElem]; exact ⟨0, by omega, by simp⟩
    · have hlt : i < j := by omega
      have e1 : blocksOf q = blocksOf (q.take j) ++ blocksOf (q.drop j) := by rw [← blocksOf_append, List.take_append_drop]
      rw [e1] at hnd
      refine (nodup_parts hnd).2.2 b (List.mem_flatMap.2 ⟨q[i], ?_, hb2⟩) (List.mem_flatMap.2 ⟨q[j], ?_, hb⟩)
      · rw [List.mem_take_iff_getElem]; exact ⟨i, by omega, rfl⟩
      · rw [List.mem_drop_iff_getElem]; exact ⟨0, by omega, by simp⟩
  have := h.turn (w' := w') i hi q[i].1 x q[i].2 (by rw [eset]; exact hr) hx (fun j hj hne b hb => hf.block b (R.ownLt (h.each j hj) b hb) fun e => hap j hj hne b hb (hG b e)) (fun b hb => .inl hb)
  rwa [eset] at this
theorem ownG_zeros {z : Value} {x : α} {k : Nat} (hr : w.ownsRow k ty R.size (.slice (some ⟨g, 0, none⟩) n n) n (madeCells z.cells (n * R.size)).toList) (hz : R.own w z.cells.toList x []) : OwnG ty R w (.slice (some ⟨g, 0, none⟩) n n) (List.replicate n x) (List.replicate n (z.cells.toList, [])) := by
  have hzl : z.cells.toList.length = R.size := R.ownLen hz
  have e1 : blocksOf (List.replicate n (z.cells.toList, ([] : List Nat))) = [] := by unfold blocksOf; simp
  have hp : ∀ p ∈ List.replicate n (z.cells.toList, ([] : List Nat)), p.1.length = R.size := fun p hp => by rw [(List.mem_replicate.1 hp).2]; exact hzl
  have e2 : cellsOf (List.replicate n (z.cells.toList, ([] : List Nat))) = (madeCells z.cells (n * R.size)).toList := by
    refine List.ext_getElem? fun j => ?_
    by_cases hj : j < n * R.size
    · have hn0 : 0 < R.size := by
        rcases Nat.eq_zero_or_pos R.size with e | e
        · rw [e] at hj; omega
        · exact e
      have hd := Nat.div_add_mod j R.size
      have hm := Nat.mod_lt j hn0
      have hjd : j / R.size < n := Nat.div_lt_of_lt_mul (by rw [Nat.mul_comm]; exact hj)
      have e : j = j / R.size * R.size + j % R.size := by rw [Nat.mul_comm]; omega
      conv => lhs; rw [e, cellsOf_get hp (j / R.size) (by simpa using hjd) (j % R.size) hm]
      have hzs : z.cells.size = R.size := by rw [← hzl]; simp
      have hm2 : j % R.size < z.cells.size := by omega
      simp [madeCells, hj, hzs, List.getElem_replicate]
      rw [Array.getElem?_eq_getElem hm2, getElem!_pos z.cells _ hm2]
    · rw [List.getElem?_eq_none (by rw [cellsOf_length hp, List.length_replicate]; omega), List.getElem?_eq_none (by simp [madeCells]; omega)]
  refine ⟨by simp, ?_, fun i hi => ?_, by rw [e1]; simp [Value.ownBlock]⟩
  · rw [List.length_replicate, e2]
    obtain ⟨h1, h2⟩ := hr
    refine ⟨h1, ?_⟩
    rcases h2 with h2 | ⟨g', c', cur, h2, h3, h4⟩
    · exact .inl h2
    · exact .inr ⟨g', c', cur, h2, Nat.zero_le _, h4⟩
  · simp only [List.getElem_replicate]
    exact hz
end
def copyG {α : Type} (z : α) (l : List α) (k : Nat) : List α := l.take k ++ List.replicate (l.length - k) z
section
variable {α : Type} {z : α} {l : List α}
theorem copyG_length (k : Nat) (h : k ≤ l.length) : (copyG z l k).length = l.length := by simp [copyG]; omega
theorem copyG_zero : copyG z l 0 = List.replicate l.length z := by simp [copyG]
theorem copyG_set (k : Nat) (h : k < l.length) : (copyG z l k).set k l[k] = copyG z l (k + 1) := by
  unfold copyG
  rw [List.take_succ_eq_append_getElem h]
  have e1 : (l.take k).length = k := by simp; omega
  have e2 : l.length - k = (l.length - (k + 1)) + 1 := by omega
  rw [List.set_append_right _ _ (by omega), e1, Nat.sub_self, e2, List.replicate_succ, List.set_cons_zero, List.append_assoc]
  rfl
theorem copyG_all : copyG z l l.length = l := by simp [copyG]
def mapTo (f : Nat → α → α) (l : List α) (k : Nat) : List α := (l.take k).mapIdx f ++ l.drop k
theorem mapTo_zero (f : Nat → α → α) : mapTo f l 0 = l := by simp [mapTo]
theorem mapTo_length (f : Nat → α → α) (k : Nat) : (mapTo f l k).length = l.length := by simp [mapTo]; omega
theorem mapTo_all (f : Nat → α → α) : mapTo f l l.length = l.mapIdx f := by simp [mapTo]
theorem mapTo_at (f : Nat → α → α) (k : Nat) (h : k < l.length) : (mapTo f l k)[k]'(by rw [mapTo_length]; exact h) = l[k] := by
  have e1 : ((l.take k).mapIdx f).length = k := by simp; omega
  have h2 : (mapTo f l k)[k]? = some l[k] := by
    unfold mapTo
    rw [List.getElem?_append_right (by omega), e1, Nat.sub_self, List.getElem?_drop, Nat.add_zero, List.getElem?_eq_getElem h]
  exact (List.getElem?_eq_some_iff.1 h2).2
theorem mapTo_set (f : Nat → α → α) (k : Nat) (h : k < l.length) : (mapTo f l k).set k (f k l[k]) = mapTo f l (k + 1) := by
  unfold mapTo
  have e1 : ((l.take k).mapIdx f).length = k := by simp; omega
  rw [List.take_succ_eq_append_getElem h, List.mapIdx_append, List.set_append_right _ _ (by omega), e1, Nat.sub_self, List.drop_eq_getElem_cons h, List.set_cons_zero, List.append_assoc]
  congr 1
  rw [List.length_take_of_le (by omega)]
  simp
end
end Go.Proofs.YteammdkipnfmnaaDoor.lay

namespace Go.Proofs.YteammdkipnfmnaaDoor.lay
open Go Go.RowKit Go.Proofs.YteammdkipnfmnaaDoor.base
set_option linter.unusedVariables false
set_option linter.unusedSimpArgs false

theorem BoxIn.all {X : Nat} {T : TypeId} (us : List Value) : ∀ {vs done : List Value} {w : World}, vs.length = us.length → BoxIn X T done vs [] w → BoxIn X T done us [] (putAll w X done.length us) ∧ w.grownBy (putAll w X done.length us) (some X) := by
  induction us with
  | nil =>
    intro vs done w hl h
    have : vs = [] := List.eq_nil_of_length_eq_zero hl
    subst this
    exact ⟨h, World.grownBy.refl _ _⟩
  | cons u us ih =>
    intro vs done w hl h
    match vs, hl with
    | v :: vs, hl =>
      have s := h.set 0 (by simp) u
      rw [Nat.add_zero] at s
      have h2 : BoxIn X T (done ++ [u]) vs [] (w.setCell ⟨X, done.length, none⟩ u) := by
        have := s.1
        unfold BoxIn at this ⊢
        simpa using this
      have t := ih (by simpa using hl) h2
      rw [List.length_append, List.length_singleton] at t
      refine ⟨?_, grownBy_trans s.2 t.2⟩
      have := t.1
      unfold BoxIn at this ⊢
      simpa [putAll] using this
theorem BoxIn.whole {X : Nat} {T : TypeId} {vs : List Value} {w : World} (h : BoxIn X T [] vs [] w) (us : List Value) (hl : vs.length = us.length) : BoxIn X T [] us [] (putAll w X 0 us) ∧ w.grownBy (putAll w X 0 us) (some X) := BoxIn.all us hl h
theorem OwnG.frozen {α : Type} {ty : TypeId} {R : Rd α} {w : World} {g n cap : Nat} {l : List α} {q : Parts} (h : OwnG ty R w (.slice (some ⟨g, 0, none⟩) n cap) l q) (j : Nat) : w.frozen? ⟨g, j, none⟩ = false := by
  have hn : n = l.length := by
    rcases h.shape with ⟨e, _⟩ | ⟨g', c', e, _⟩
    · cases e
    · cases e; rfl
  subst hn
  exact h.row.frozenAt j
theorem OwnG.nlen {α : Type} {ty : TypeId} {R : Rd α} {w : World} {g n cap : Nat} {l : List α} {q : Parts} (h : OwnG ty R w (.slice (some ⟨g, 0, none⟩) n cap) l q) : n = l.length := by
  rcases h.shape with ⟨e, _⟩ | ⟨g', c', e, _⟩
  · cases e
  · cases e; rfl
theorem OwnG.lts {α : Type} {ty : TypeId} {R : Rd α} {w : World} {g n cap : Nat} {l : List α} {q : Parts} (h : OwnG ty R w (.slice (some ⟨g, 0, none⟩) n cap) l q) : ∀ b ∈ g :: blocksOf q, b < w.heap.size := fun b hb => h.at_ b (by simpa [Value.ownBlock] using hb)
theorem OwnG.below {α : Type} {ty : TypeId} {R : Rd α} {w w' : World} {v : Value} {l : List α} {q : Parts} (h : OwnG ty R w v l q) (hb : Below w.heap.size w w') : OwnG ty R w' v l q := h.keep fun b hb2 => hb.block b (h.at_ b hb2)
theorem slg_at1 {α : Type} {R : Rd α} {w : World} {b off len : Nat} {l : List α} (hR : R.size = 1) (h : SlG R w (some ⟨b, off, none⟩) len l) (i : Nat) (hi : i < l.length) : ∃ u0, R.see w [u0] l[i] ∧ w.cell? ⟨b, off + i, none⟩ = some u0 := by
  obtain ⟨b', off', e, hc⟩ := h.2.2.2 (by have := h.1; omega)
  simp only [Option.some.injEq, Addr.mk.injEq, and_true] at e
  obtain ⟨rfl, rfl⟩ := e
  obtain ⟨vs, hs, hcl⟩ := hc i hi
  have hl := R.seeLen hs
  rw [hR] at hl hcl
  match vs, hl with
  | [u0], _ => exact ⟨u0, hs, by have := hcl 0 _ rfl; simpa using this⟩
end Go.Proofs.YteammdkipnfmnaaDoor.lay

namespace Go.Proofs.YteammdkipnfmnaaDoor.seals
open Go Go.RowKit Go.Proofs.YteammdkipnfmnaaDoor.base Go.Proofs.YteammdkipnfmnaaDoor.pairs Go.Proofs.YteammdkipnfmnaaDoor.lay
set_option linter.unusedVariables false
set_option linter.unusedSimpArgs false

def textsR : Rd (List ByteArray) := slice 9 str
def sealR : Rd Seal := both int (both str (both str textsR))
section
variable {w w' : World} {F : List Nat} {vs : List Value} {a : Option Addr} {n cap : Nat} {v : Value}
theorem flatMap_strs (l : List ByteArray) : (l.flatMap fun x => [Value.string x]) = strVals l := by
  induction l with
  | nil => rfl
  | cons x l ih => simp only [List.flatMap_cons, ih]; rfl
theorem texts_own {l : List ByteArray} : textsR.own w [v] l F ↔ w.ownsRow 0 9 1 v l.length (strVals l) ∧ (∀ x ∈ l, x.size ≤ maxLen) ∧ F = v.ownBlock.toList := by
  unfold textsR
  rw [cos.flat_str.slice, flatMap_strs]
  exact Iff.rfl
theorem texts_see {l : List ByteArray} : textsR.see w [.slice a n cap] l ↔ SlS w a n l ∧ n ≤ cap := by
  constructor
  · rintro ⟨a', n', c', e, hc, h1, h2, h3, h4⟩
    cases e
    refine ⟨⟨h1, h2, fun p hp => ?_, fun h0 => ?_⟩, hc⟩
    · obtain ⟨vs, hv⟩ := h3 p hp
      exact (cos.flat_str.see.1 hv).2
    · obtain ⟨b, off, e, hi⟩ := h4 h0
      refine ⟨b, off, e, fun i hl => ?_⟩
      obtain ⟨vs, hs, hcl⟩ := hi i hl
      obtain ⟨rfl, _⟩ := cos.flat_str.see.1 hs
      have := hcl 0 _ rfl
      simpa [str] using this
  · rintro ⟨⟨h1, h2, h3, h4⟩, hc⟩
    refine ⟨a, n, cap, rfl, hc, h1, h2, fun p hp => ⟨_, cos.flat_str.see.2 ⟨rfl, h3 p hp⟩⟩, fun h0 => ?_⟩
    obtain ⟨b, off, e, hi⟩ := h4 h0
    refine ⟨b, off, e, fun i hl => ⟨_, cos.flat_str.see.2 ⟨rfl, h3 _ (List.getElem_mem hl)⟩, fun j u hu => ?_⟩⟩
    have c0 := hi i hl
    match j, hu with
    | 0, hu => cases hu; simpa [str] using c0
theorem seal_see {x : Seal} : sealR.see w vs x ↔ ∃ ra rn rc, vs = [.int .i64 x.1, .string x.2.1, .string x.2.2.1, .slice ra rn rc] ∧ (Lit.int .i64 x.1).wf = true ∧ x.2.1.size ≤ maxLen ∧ x.2.2.1.size ≤ maxLen ∧ SlS w ra rn x.2.2.2 ∧ rn ≤ rc := by
  constructor
  · rintro ⟨u1, t1, rfl, h1, u2, t2, rfl, h2, u3, t3, rfl, h3, h4⟩
    obtain ⟨rfl, k1⟩ := cos.flat_int.see.1 h1
    obtain ⟨rfl, k2⟩ := cos.flat_str.see.1 h2
    obtain ⟨rfl, k3⟩ := cos.flat_str.see.1 h3
    obtain ⟨ra, rn, rc, rfl, _⟩ := id h4
    have h6 := texts_see.1 h4
    exact ⟨ra, rn, rc, rfl, k1, k2, k3, h6.1, h6.2⟩
  · rintro ⟨ra, rn, rc, rfl, k1, k2, k3, h4, h5⟩
    exact ⟨[_], [_, _, _], rfl, cos.flat_int.see.2 ⟨rfl, k1⟩, [_], [_, _], rfl, cos.flat_str.see.2 ⟨rfl, k2⟩, [_], [_], rfl, cos.flat_str.see.2 ⟨rfl, k3⟩, texts_see.2 ⟨h4, h5⟩⟩
theorem seal_own {x : Seal} : sealR.own w vs x F ↔ ∃ v, vs = [.int .i64 x.1, .string x.2.1, .string x.2.2.1, v] ∧ (Lit.int .i64 x.1).wf = true ∧ x.2.1.size ≤ maxLen ∧ x.2.2.1.size ≤ maxLen ∧ textsR.own w [v] x.2.2.2 F := by
  constructor
  · rintro ⟨u1, t1, F1, G1, rfl, rfl, h1, ⟨u2, t2, F2, G2, rfl, rfl, h2, ⟨u3, t3, F3, G3, rfl, rfl, h3, h4, _⟩, _⟩, _⟩
    obtain ⟨rfl, k1, rfl⟩ := cos.flat_int.own.1 h1
    obtain ⟨rfl, k2, rfl⟩ := cos.flat_str.own.1 h2
    obtain ⟨rfl, k3, rfl⟩ := cos.flat_str.own.1 h3
    obtain ⟨v, q, rfl, _⟩ := id h4
    exact ⟨v, rfl, k1, k2, k3, by simpa using h4⟩
  · rintro ⟨v, rfl, k1, k2, k3, h4⟩
    have hn := textsR.ownNodup h4
    exact ⟨[_], [_, _, v], [], F, rfl, rfl, cos.flat_int.own.2 ⟨rfl, k1, rfl⟩, ⟨[_], [_, v], [], F, rfl, rfl, cos.flat_str.own.2 ⟨rfl, k2, rfl⟩, ⟨[_], [v], [], F, rfl, rfl, cos.flat_str.own.2 ⟨rfl, k3, rfl⟩, h4, hn⟩, hn⟩, hn⟩
theorem seal_vals {p : Seal} (h : sealR.own w vs p F) : ∃ ra rn rc, vs = [.int .i64 p.1, .string p.2.1, .string p.2.2.1, .slice ra rn rc] := by
  obtain ⟨ra, rn, rc, e, _⟩ := seal_see.1 (sealR.ownSee h)
  exact ⟨ra, rn, rc, e⟩
end
end Go.Proofs.YteammdkipnfmnaaDoor.seals

namespace Go.Proofs.YteammdkipnfmnaaDoor.pairs
open Go
set_option linter.unusedVariables false
set_option linter.unusedSimpArgs false

/-! ### rising lists -/
def Rise (l : List Pr) : Prop := l.Pairwise fun p q => ltB p.1 q.1 = true
theorem okFrom_iff (o : Option ByteArray) (l : List Pr) : okFrom o l = true ↔ (∀ p ∈ l, pairOk p = true) ∧ Rise l ∧ ∀ k, o = some k → ∀ p ∈ l, ltB k p.1 = true := by
  induction l generalizing o with
  | nil => cases o <;> simp [okFrom, Rise]
  | cons q l ih =>
    have hq := ih (some q.1)
    constructor
    · intro h
      have h' : pairOk q = true ∧ (∀ k, o = some k → ltB k q.1 = true) ∧ okFrom (some q.1) l = true := by
        cases o with
        | none => simp only [okFrom, Bool.and_eq_true] at h; exact ⟨h.1, (fun k e => by cases e), h.2⟩
        | some k => simp only [okFrom, Bool.and_eq_true] at h; exact ⟨h.1.1, (fun k' e => by cases e; exact h.1.2), h.2⟩
      obtain ⟨h1, h2, h3⟩ := h'
      obtain ⟨a1, a2, a3⟩ := hq.1 h3
      refine ⟨?_, ?_, ?_⟩
      · intro p hp
        rcases List.mem_cons.1 hp with e | e
        · subst e; exact h1
        · exact a1 p e
      · exact List.Pairwise.cons (fun p hp => a3 _ rfl p hp) a2
      · intro k hk p hp
        rcases List.mem_cons.1 hp with e | e
        · subst e; exact h2 k hk
        · exact ltB_trans (h2 k hk) (a3 _ rfl p e)
    · rintro ⟨h1, h2, h3⟩
      have hr := List.pairwise_cons.1 h2
      have h4 : okFrom (some q.1) l = true := hq.2 ⟨fun p hp => h1 p (List.mem_cons_of_mem _ hp), hr.2, fun k e p hp => by cases e; exact hr.1 p hp⟩
      cases o with
      | none => simp only [okFrom, Bool.and_eq_true]; exact ⟨h1 q List.mem_cons_self, h4⟩
      | some k => simp only [okFrom, Bool.and_eq_true]; exact ⟨⟨h1 q List.mem_cons_self, h3 k rfl q List.mem_cons_self⟩, h4⟩
theorem pairsOk_iff (l : List Pr) : pairsOk l = true ↔ ((∀ p ∈ l, pairOk p = true) ∧ Rise l) ∧ l.length ≤ 60 := by
  unfold pairsOk
  rw [Bool.and_eq_true, okFrom_iff, decide_eq_true_iff]
  constructor
  · rintro ⟨⟨a, b, _⟩, c⟩; exact ⟨⟨a, b⟩, c⟩
  · rintro ⟨⟨a, b⟩, c⟩; exact ⟨⟨a, b, fun k e => by cases e⟩, c⟩

/-! ### what is got -/
/-! ### pairs that stay right -/
/-! ### between -/
/-! ### union -/
end Go.Proofs.YteammdkipnfmnaaDoor.pairs

namespace Go.Proofs.YteammdkipnfmnaaDoor.range
open Go Go.Proofs.YteammdkipnfmnaaDoor.base Go.Proofs.YteammdkipnfmnaaDoor.pairs Go.Proofs.YteammdkipnfmnaaDoor.tree
set_option linter.unusedVariables false
set_option linter.unusedSimpArgs false

abbrev It := Pr × List ByteArray
structure Prf where
  n : Int
  fr : Int
  items : List It

/-! ### proving -/
def lowN (lo : ByteArray) (l : List Pr) : Nat := (l.takeWhile fun p => ltB p.1 lo).length
def segN (lo hi : ByteArray) (l : List Pr) : Nat := ((l.drop (lowN lo l)).takeWhile fun p => inB lo hi p.1).length
def fromN (lo : ByteArray) (l : List Pr) : Nat := lowN lo l - 1
def toN (lo hi : ByteArray) (l : List Pr) : Nat := if lowN lo l + segN lo hi l < l.length then lowN lo l + segN lo hi l + 1 else lowN lo l + segN lo hi l
def itemAt (l : List Pr) (i : Nat) : It := ((l[i]?).getD (⟨#[]⟩, ⟨#[]⟩), path l i)
def itemsTo (l : List Pr) (a b : Nat) : List It := (List.range' a (b - a)).map (itemAt l)
def zeroPrf : Prf := ⟨0, 0, []⟩
def prove (l : List Pr) (lo hi : ByteArray) : Prf :=
  if pairsOk l = true then ⟨(l.length : Int), if fromN lo l < toN lo hi l then (fromN lo l : Int) else 0, itemsTo l (fromN lo l) (toN lo hi l)⟩ else zeroPrf

theorem takeWhile_le (f : Pr → Bool) (l : List Pr) : (l.takeWhile f).length ≤ l.length := (List.takeWhile_sublist f).length_le
theorem lowN_le (lo : ByteArray) (l : List Pr) : lowN lo l ≤ l.length := takeWhile_le _ l
theorem segN_le (lo hi : ByteArray) (l : List Pr) : lowN lo l + segN lo hi l ≤ l.length := by
  have h1 := takeWhile_le (fun p => inB lo hi p.1) (l.drop (lowN lo l))
  have h2 := lowN_le lo l
  unfold segN; rw [List.length_drop] at h1; omega
theorem toN_le (lo hi : ByteArray) (l : List Pr) : toN lo hi l ≤ l.length := by
  have := segN_le lo hi l
  unfold toN; split <;> omega
theorem itemsTo_length (l : List Pr) (a b : Nat) : (itemsTo l a b).length = b - a := by simp [itemsTo]
theorem itemsTo_snoc (l : List Pr) (a b : Nat) (h : a ≤ b) : itemsTo l a (b + 1) = itemsTo l a b ++ [itemAt l b] := by
  unfold itemsTo
  rw [show b + 1 - a = (b - a) + 1 by omega, List.range'_concat, List.map_append]
  simp [show a + (b - a) = b by omega]
theorem itemsTo_nil (l : List Pr) (a b : Nat) (h : b ≤ a) : itemsTo l a b = [] := by
  unfold itemsTo; rw [show b - a = 0 by omega]; rfl
theorem takeWhile_at (f : Pr → Bool) (l : List Pr) (k : Nat) (h : k < l.length) (hk : k ≤ (l.takeWhile f).length) : (k < (l.takeWhile f).length ↔ f l[k] = true) := by
  induction l generalizing k with
  | nil => simp at h
  | cons p l ih =>
    by_cases hp : f p = true
    · rw [List.takeWhile_cons_of_pos hp] at hk ⊢
      cases k with
      | zero => simp [hp]
      | succ k => simp at hk h ⊢; exact ih k h hk
    · rw [List.takeWhile_cons_of_neg hp] at hk ⊢
      simp at hk
      subst hk
      simp [hp]

/-! ### what is between is the row from there on -/
theorem filter_eq_takeWhile {f : Pr → Bool} {l : List Pr} (h : l.Pairwise fun p q => f q = true → f p = true) : l.filter f = l.takeWhile f := by
  induction l with
  | nil => rfl
  | cons p l ih =>
    obtain ⟨h1, h2⟩ := List.pairwise_cons.1 h
    by_cases hp : f p = true
    · rw [List.filter_cons_of_pos hp, List.takeWhile_cons_of_pos hp, ih h2]
    · rw [List.filter_cons_of_neg hp, List.takeWhile_cons_of_neg hp, List.filter_eq_nil_iff]
      intro q hq hf
      exact hp (h1 q hq hf)
theorem inB_low {lo hi : ByteArray} {p : Pr} (h : ltB p.1 lo = true) : inB lo hi p.1 = false := by unfold inB; rw [h]; rfl
theorem takeWhile_mem {f : Pr → Bool} {l : List Pr} : ∀ p ∈ l.takeWhile f, f p = true := by
  induction l with
  | nil => intro p hp; exact absurd hp List.not_mem_nil
  | cons q l ih =>
    intro p hp
    by_cases hq : f q = true
    · rw [List.takeWhile_cons_of_pos hq] at hp
      rcases List.mem_cons.1 hp with e | e
      · subst e; exact hq
      · exact ih p e
    · rw [List.takeWhile_cons_of_neg hq] at hp
      exact absurd hp List.not_mem_nil
theorem between_seg (lo hi : ByteArray) (l : List Pr) (hr : Rise l) : between lo hi l = (l.drop (lowN lo l)).takeWhile fun p => inB lo hi p.1 := by
  have hsplit : l = l.takeWhile (fun p => ltB p.1 lo) ++ l.dropWhile (fun p => ltB p.1 lo) := (List.takeWhile_append_dropWhile).symm
  have hdrop : l.drop (lowN lo l) = l.dropWhile (fun p => ltB p.1 lo) := by
    unfold lowN
    conv => lhs; arg 2; rw [hsplit]
    rw [List.drop_left]
  rw [hdrop]
  unfold between
  conv => lhs; rw [hsplit]
  rw [List.filter_append, List.filter_eq_nil_iff.2 (fun p hp => by rw [inB_low (takeWhile_mem p hp)]; simp), List.nil_append]
  apply filter_eq_takeWhile
  have hr2 : Rise (l.dropWhile fun p => ltB p.1 lo) := List.Pairwise.sublist (List.dropWhile_sublist _) hr
  have hlo : ∀ p ∈ l.dropWhile (fun p => ltB p.1 lo), ltB p.1 lo = false := by
    cases hd : l.dropWhile (fun p => ltB p.1 lo) with
    | nil => intro p hp; exact absurd hp List.not_mem_nil
    | cons q t =>
      have hq : ltB q.1 lo = false := by
        have := List.head?_dropWhile_not (fun p : Pr => ltB p.1 lo) l
        rw [hd] at this
        simpa using this
      rw [hd] at hr2
      intro p hp
      rcases List.mem_cons.1 hp with e | e
      · subst e; exact hq
      · have hqp := (List.pairwise_cons.1 hr2).1 p e
        rw [Bool.eq_false_iff]
        intro hpl
        have := ltB_trans hqp hpl
        rw [hq] at this; cases this
  refine List.Pairwise.imp_of_mem ?_ hr2
  intro p q hp hq hpq hin
  unfold inB at hin ⊢
  rw [hlo p hp]
  rw [hlo q hq] at hin
  simp only [Bool.not_false, Bool.true_and, Bool.or_eq_true] at hin ⊢
  rcases hin with h1 | h1
  · exact .inl h1
  · exact .inr (ltB_trans hpq h1)
theorem between_count (lo hi : ByteArray) (l : List Pr) (hr : Rise l) : (between lo hi l).length = segN lo hi l := by rw [between_seg lo hi l hr]; rfl
/-! ### checking -/
end Go.Proofs.YteammdkipnfmnaaDoor.range

namespace Go.Proofs.YteammdkipnfmnaaDoor.range
open Go Go.RowKit Go.Proofs.YteammdkipnfmnaaDoor.base Go.Proofs.YteammdkipnfmnaaDoor.pairs Go.Proofs.YteammdkipnfmnaaDoor.tree
set_option linter.unusedVariables false
set_option linter.unusedSimpArgs false

def smallI (x : It) : Prop := small x.1 ∧ ∀ s ∈ x.2, s.size ≤ maxLen
def ItAt (w : World) (b o : Nat) (x : It) : Prop :=
  w.cell? ⟨b, o, none⟩ = some (.string x.1.1) ∧ w.cell? ⟨b, o + 1, none⟩ = some (.string x.1.2) ∧ ∃ pa pl pc, w.cell? ⟨b, o + 2, none⟩ = some (.slice pa pl pc) ∧ SlS w pa pl x.2 ∧ pl ≤ pc
theorem ItAt.below {w w' : World} {b o : Nat} {x : It} (h : ItAt w b o x) (hb : Below w.heap.size w w') : ItAt w' b o x := by
  have keep : ∀ o v, w.cell? ⟨b, o, none⟩ = some v → w'.cell? ⟨b, o, none⟩ = some v := fun o v hv => (hb.cell (p := ⟨b, o, none⟩) (World.block_lt_of_cell? w _ hv)).trans hv
  obtain ⟨h1, h2, pa, pl, pc, h3, h4, h5⟩ := h
  exact ⟨keep _ _ h1, keep _ _ h2, pa, pl, pc, keep _ _ h3, h4.below hb, h5⟩
def SlI (w : World) (a : Option Addr) (len : Nat) (l : List It) : Prop :=
  l.length = len ∧ len ≤ maxLen ∧ (∀ x ∈ l, smallI x) ∧ (0 < len → ∃ b off, a = some ⟨b, off, none⟩ ∧ ∀ i (h : i < l.length), ItAt w b (off + i * 3) l[i])
theorem sli_nil (w : World) (a : Option Addr) : SlI w a 0 [] := ⟨rfl, Nat.zero_le _, (fun _ h => absurd h List.not_mem_nil), fun h => absurd h (by omega)⟩
theorem SlI.below {w w' : World} {a : Option Addr} {len : Nat} {l : List It} (h : SlI w a len l) (hb : Below w.heap.size w w') : SlI w' a len l := by
  obtain ⟨h1, h2, h3, h4⟩ := h
  refine ⟨h1, h2, h3, fun h0 => ?_⟩
  obtain ⟨b, off, e, hc⟩ := h4 h0
  exact ⟨b, off, e, fun i hi => (hc i hi).below hb⟩
theorem SlI.at {w : World} {b off len : Nat} {l : List It} (h : SlI w (some ⟨b, off, none⟩) len l) (i : Nat) (hi : i < l.length) : ItAt w b (off + i * 3) l[i] := by
  obtain ⟨b', off', e, hc⟩ := h.2.2.2 (by have := h.1; omega)
  simp only [Option.some.injEq, Addr.mk.injEq, and_true] at e
  obtain ⟨rfl, rfl⟩ := e
  exact hc i hi

/-! ### rows of items that a call made: each path lies in a row of its own -/
abbrev Hd := Nat × Nat × Nat
def itVals (l : List It) (hs : List Hd) : List Value := (l.zip hs).flatMap fun q => [.string q.1.1.1, .string q.1.1.2, .slice (some ⟨q.2.1, 0, none⟩) q.2.2.1 q.2.2.2]
theorem itVals_get (l : List It) (hs : List Hd) (h : hs.length = l.length) (i : Nat) (hi : i < l.length) :
    (itVals l hs)[i * 3]? = some (.string l[i].1.1) ∧ (itVals l hs)[i * 3 + 1]? = some (.string l[i].1.2) ∧ (itVals l hs)[i * 3 + 2]? = some (.slice (some ⟨(hs[i]'(by omega)).1, 0, none⟩) (hs[i]'(by omega)).2.1 (hs[i]'(by omega)).2.2) := by
  induction l generalizing hs i with
  | nil => simp at hi
  | cons x l ih =>
    cases hs with
    | nil => simp at h
    | cons y hs =>
      have e : itVals (x :: l) (y :: hs) = .string x.1.1 :: .string x.1.2 :: .slice (some ⟨y.1, 0, none⟩) y.2.1 y.2.2 :: itVals l hs := rfl
      rw [e]
      cases i with
      | zero => exact ⟨rfl, rfl, rfl⟩
      | succ i =>
        have := ih hs (by simpa using h) i (by simpa using hi)
        rw [show (i + 1) * 3 = i * 3 + 1 + 1 + 1 by omega]
        simpa using this
theorem itVals_snoc (l : List It) (hs : List Hd) (h : hs.length = l.length) (x : It) (y : Hd) : itVals (l ++ [x]) (hs ++ [y]) = itVals l hs ++ [.string x.1.1, .string x.1.2, .slice (some ⟨y.1, 0, none⟩) y.2.1 y.2.2] := by
  unfold itVals
  rw [List.zip_append h.symm, List.flatMap_append]; rfl
structure OwnI (w : World) (base : Nat) (v : Value) (l : List It) (hs : List Hd) : Prop where
  len : hs.length = l.length
  sm : ∀ x ∈ l, smallI x
  row : w.ownsRow base 69 3 v l.length (itVals l hs)
  paths : ∀ i (h : i < l.length), OwnS w base (hs[i]'(by omega)).1 (hs[i]'(by omega)).2.1 (hs[i]'(by omega)).2.2 l[i].2
  apart : hs.Pairwise fun a b => a.1 ≠ b.1
  out : ∀ k, v.ownBlock = some k → ∀ y ∈ hs, y.1 ≠ k
theorem OwnI.below {w w' : World} {base : Nat} {v : Value} {l : List It} {hs : List Hd} (h : OwnI w base v l hs) (hb : Below w.heap.size w w') : OwnI w' base v l hs :=
  ⟨h.len, h.sm, h.row.kept (row := none) ⟨hb.os, hb.tape, hb.output, hb.size, fun k hk _ => hb.block k hk⟩ (by
    by_cases e : v.ownBlock = none
    · exact .inl e
    · exact .inr e), fun i hi => (h.paths i hi).below hb, h.apart, h.out⟩
theorem ownI_nil (w : World) (base : Nat) : OwnI w base (.slice none 0 0) [] [] :=
  ⟨rfl, (fun _ h => absurd h List.not_mem_nil), ⟨rfl, .inl ⟨rfl, rfl⟩⟩, fun i hi => absurd hi (by simp), List.Pairwise.nil, fun k hk => by cases hk⟩

/-! ### arguments -/
end Go.Proofs.YteammdkipnfmnaaDoor.range
