/- The laws' helpers for items and proofs that are handed in: copied, and their size. The laws' copies of items: a row that is filled item by item. Writing a list of texts: the program's and the specification's PutTexts answer as one and the same function. The laws' copies of proofs, and the size of items and proofs that are handed in. An argument that is a proof, opened. -/
import Derived.Test.YtbnnfgfjcicjiaaDoorRangeT
import Derived.Test.YtbnnfgfjcicjiaaDoorHelpR
import Derived.Test.YtbnnfgfjcicjiaaDoorKitB
import Derived.Test.YtbnnfgfjcicjiaaDoorItemQ
namespace Go.Proofs.YtbnnfgfjcicjiaaDoor.range
open Go Go.RowKit Go.Proofs.YtbnnfgfjcicjiaaDoor.base Go.Proofs.YtbnnfgfjcicjiaaDoor.pairs Go.Proofs.YtbnnfgfjcicjiaaDoor.tree Go.Proofs.YtbnnfgfjcicjiaaDoor.helps
set_option linter.unusedVariables false
set_option linter.unusedSimpArgs false

theorem infoIt : (Tryd.prog.info? 37).map (fun i => (i.zero, i.size, i.bytes)) = some (some (.agg #[.string ⟨#[]⟩, .string ⟨#[]⟩, .slice none 0 0]), 3, 56) := by kernel_rfl
theorem v3_new (w : World) (t : TypeId) (x y z : Value) : V3 (w.alloc (.cells #[x, y, z] t)) w.heap.size t x y z := heap_alloc_new w _
theorem v3_alloc {w : World} {g : Nat} {t : TypeId} {x y z : Value} (h : V3 w g t x y z) (o : Obj) : V3 (w.alloc o) g t x y z := h.below ((Below.refl _ _).alloc (Nat.le_refl _) _)
theorem v3_new1 (w : World) (o : Obj) (t : TypeId) (x y z : Value) : V3 ((w.alloc o).alloc (.cells #[x, y, z] t)) (w.heap.size + 1) t x y z := by
  have := v3_new (w.alloc o) t x y z
  have e : (w.alloc o).heap.size = w.heap.size + 1 := by simp
  rw [e] at this; exact this
theorem v3_new2 (w : World) (o o2 : Obj) (t : TypeId) (x y z : Value) : V3 (((w.alloc o).alloc o2).alloc (.cells #[x, y, z] t)) (w.heap.size + 2) t x y z := by
  have := v3_new1 (w.alloc o) o2 t x y z
  have e : (w.alloc o).heap.size = w.heap.size + 1 := by simp
  rw [e] at this; exact this
section
variable {w : World} {g g2 : Nat} {t : TypeId} {x y z : Value}
theorem V3.set0 (h : V3 w g t x y z) (v : Value) : V3 (w.setCell ⟨g, 0, none⟩ v) g t v y z := (set_cur h 0 v).1
theorem V3.set1 (h : V3 w g t x y z) (v : Value) : V3 (w.setCell ⟨g, 1, none⟩ v) g t x v z := (set_cur h 1 v).1
theorem V3.set2 (h : V3 w g t x y z) (v : Value) : V3 (w.setCell ⟨g, 2, none⟩ v) g t x y v := (set_cur h 2 v).1
theorem V3.other (h : V3 w g t x y z) (j : Nat) (v : Value) (hne : g ≠ g2) : V3 (w.setCell ⟨g2, j, none⟩ v) g t x y z := (heap_setCell_other w ⟨g2, j, none⟩ g v hne).trans h
theorem V3.fz (h : V3 w g t x y z) (j : Nat) : w.frozen? ⟨g, j, none⟩ = false := by unfold V3 at h; simp [World.frozen?, h]
end
theorem ownS_other {w : World} {base g g2 n cap j : Nat} {ss : List ByteArray} {v : Value} (h : OwnS w base g n cap ss) (hne : g ≠ g2) : OwnS (w.setCell ⟨g2, j, none⟩ v) base g n cap ss :=
  ownS_of_block h (heap_setCell_other w ⟨g2, j, none⟩ g v hne)

set_option maxRecDepth 100000 in
set_option maxHeartbeats 2000000 in
theorem toItem (x : It) (pa : Option Addr) (pl pc : Nat) (w : World) (h : SlS w pa pl x.2) (hsz : pl ≤ 1099511627776) :
    Calls Tryd.prog 75 #[.agg #[.string x.1.1, .string x.1.2, .slice pa pl pc]] w fun e w' =>
      ∃ g, e = .returned (.agg #[.string x.1.1, .string x.1.2, .slice (some ⟨g, 0, none⟩) pl pl]) ∧ OwnS w' w.heap.size g pl pl x.2 ∧ Below w.heap.size w w' := by
  obtain ⟨W, hW⟩ : ∃ W, ((w.alloc (.cells #[.string x.1.1, .string x.1.2, .slice pa pl pc] 98)).alloc (.cells #[.string ⟨#[]⟩, .string ⟨#[]⟩, .slice none 0 0] 37)).alloc (.cells #[.string ⟨#[]⟩, .string ⟨#[]⟩, .slice none 0 0] 37) = W := ⟨_, rfl⟩
  have hB : Below w.heap.size w W := by rw [← hW]; exact (((Below.refl _ _).alloc (Nat.le_refl _) _).alloc (by simp) _).alloc (by simp; omega) _
  have v0 : V3 W w.heap.size 98 (.string x.1.1) (.string x.1.2) (.slice pa pl pc) := by
    rw [← hW]; exact v3_alloc (v3_alloc (v3_new w _ _ _ _) _) _
  have v1 : V3 W (w.heap.size + 1) 37 (.string ⟨#[]⟩) (.string ⟨#[]⟩) (.slice none 0 0) := by
    rw [← hW]; exact v3_alloc (v3_new1 w _ _ _ _ _) _
  have v2 : V3 W (w.heap.size + 2) 37 (.string ⟨#[]⟩) (.string ⟨#[]⟩) (.slice none 0 0) := by
    rw [← hW]; exact v3_new2 w _ _ _ _ _ _
  have HW := Hid.mk' hW
  have HP := Hid.mk' (toPair x.1.1 x.1.2 W)
  clear hW
  go_enter Tryd.func75, Tryd.ntmps75
  go_wp2_with fail
  rw [HW.out]
  refine HP.out.mono ?_
  rintro e w1 ⟨rfl, hb1⟩
  have u0 := v0.below hb1
  have u1 := v1.below hb1
  have u2 := v2.below hb1
  have hB1 := hB.trans (hb1.mono hB.size)
  have m0 := u2.c0
  have m1 := u2.c1
  have f0 := u2.fz 0
  have f1 := u2.fz 1
  have t0 := (u0.other 0 (.string x.1.1) (show w.heap.size ≠ w.heap.size + 2 by omega)).other 1 (.string x.1.2) (show w.heap.size ≠ w.heap.size + 2 by omega)
  have t1 := (u1.other 0 (.string x.1.1) (show w.heap.size + 1 ≠ w.heap.size + 2 by omega)).other 1 (.string x.1.2) (show w.heap.size + 1 ≠ w.heap.size + 2 by omega)
  have t2 := (u2.set0 (.string x.1.1)).set1 (.string x.1.2)
  have hB2 := (hB1.setCell (p := ⟨w.heap.size + 2, 0, none⟩) (by show w.heap.size ≤ w.heap.size + 2; omega) (.string x.1.1)).setCell (p := ⟨w.heap.size + 2, 1, none⟩) (by show w.heap.size ≤ w.heap.size + 2; omega) (.string x.1.2)
  have s2 := t0.c2
  have HTS := Hid.mk' (toStringS pa pl pc x.2 _ (h.below hB2) hsz)
  have H0 := Hid.mk' t0
  have H1 := Hid.mk' t1
  have H2 := Hid.mk' t2
  clear v0 v1 v2 u0 u1 u2 t0 t1 t2 hb1 hB HW HP hB1
  go_wp2_with fail
  refine HTS.out.mono ?_
  rintro e w2 ⟨g, rfl, hO, hb2⟩
  have r1 := H1.out.below hb2
  have r2 := H2.out.below hb2
  have hB3 := hB2.trans (hb2.mono hB2.size)
  have n2 := r2.c2
  have g2 := r2.fz 2
  have y2 := r2.set2 (.slice (some ⟨g, 0, none⟩) pl pl)
  have y1 := r1.other 2 (.slice (some ⟨g, 0, none⟩) pl pl) (show w.heap.size + 1 ≠ w.heap.size + 2 by omega)
  have a0 := y2.c0
  have a1 := y2.c1
  have a2 := y2.c2
  have b0 := y1.c0
  have b1 := y1.c1
  have b2 := y1.c2
  have k0 := y1.fz 0
  have k1 := y1.fz 1
  have k2 := y1.fz 2
  have hgl : w.heap.size + 2 < g := by
    have h1 := hO.lt.1
    have h2 := H2.out.lt
    omega
  have hOz := ownS_other (g2 := w.heap.size + 1) (j := 2) (v := .slice (some ⟨g, 0, none⟩) pl pl) (ownS_other (g2 := w.heap.size + 1) (j := 1) (v := .string x.1.2) (ownS_other (g2 := w.heap.size + 1) (j := 0) (v := .string x.1.1) (ownS_other (g2 := w.heap.size + 2) (j := 2) (v := .slice (some ⟨g, 0, none⟩) pl pl) (hO.mono (base' := w.heap.size) hB2.size) (by omega)) (by omega)) (by omega)) (by omega)
  have hBz := (((hB3.setCell (p := ⟨w.heap.size + 2, 2, none⟩) (by show w.heap.size ≤ w.heap.size + 2; omega) (.slice (some ⟨g, 0, none⟩) pl pl)).setCell (p := ⟨w.heap.size + 1, 0, none⟩) (by show w.heap.size ≤ w.heap.size + 1; omega) (.string x.1.1)).setCell (p := ⟨w.heap.size + 1, 1, none⟩) (by show w.heap.size ≤ w.heap.size + 1; omega) (.string x.1.2)).setCell (p := ⟨w.heap.size + 1, 2, none⟩) (by show w.heap.size ≤ w.heap.size + 1; omega) (.slice (some ⟨g, 0, none⟩) pl pl)
  have HOZ := Hid.mk' hOz
  have HBZ := Hid.mk' hBz
  have z1 := ((y1.set0 (.string x.1.1)).set1 (.string x.1.2)).set2 (.slice (some ⟨g, 0, none⟩) pl pl)
  have e0 := z1.c0
  have e1 := z1.c1
  have e2 := z1.c2
  clear r1 r2 y1 y2 z1 H0 H1 H2 HTS hOz hBz hO hb2 hB3 hB2 m0 m1 f0 f1 s2
  go_wp2_with fail
  refine bodyPost_ret (v := .agg #[.string x.1.1, .string x.1.2, .slice (some ⟨g, 0, none⟩) pl pl]) ?h1 rfl ⟨g, rfl, HOZ.out, HBZ.out⟩
  simp [results, Tryd.results75, go_sem, e0, e1, e2, a0, a1, a2, b0, b1, b2]
end Go.Proofs.YtbnnfgfjcicjiaaDoor.range

namespace Go.Proofs.YtbnnfgfjcicjiaaDoor.range
open Go Go.RowKit Go.Proofs.YtbnnfgfjcicjiaaDoor.base Go.Proofs.YtbnnfgfjcicjiaaDoor.pairs Go.Proofs.YtbnnfgfjcicjiaaDoor.tree Go.Proofs.YtbnnfgfjcicjiaaDoor.helps
set_option linter.unusedVariables false
set_option linter.unusedSimpArgs false

theorem take_set3 (v : List Value) (i : Nat) (a b c : Value) (h : i + 3 ≤ v.length) : (((v.set i a).set (i + 1) b).set (i + 2) c).take (i + 3) = v.take i ++ [a, b, c] := by
  apply List.ext_getElem?
  intro j
  rw [List.getElem?_take, List.getElem?_append]
  have hl : (v.take i).length = i := by simp; omega
  rw [hl]
  by_cases h1 : j < i
  · rw [if_pos (by omega), if_pos h1, List.getElem?_take, if_pos h1, List.getElem?_set_ne (by omega), List.getElem?_set_ne (by omega), List.getElem?_set_ne (by omega)]
  rw [if_neg h1]
  by_cases h2 : j = i
  · subst h2
    rw [if_pos (by omega), List.getElem?_set_ne (by omega), List.getElem?_set_ne (by omega), List.getElem?_set_self (by omega)]; simp
  by_cases h3 : j = i + 1
  · subst h3
    rw [if_pos (by omega), List.getElem?_set_ne (by omega), List.getElem?_set_self (by simp; omega), show i + 1 - i = 1 by omega]; rfl
  by_cases h4 : j = i + 2
  · subst h4
    rw [if_pos (by omega), List.getElem?_set_self (by simp; omega), show i + 2 - i = 2 by omega]; rfl
  · rw [if_neg (by omega), List.getElem?_eq_none]; simp; omega

/-- the first items of a row of n that is being filled -/
structure PartI (w : World) (base g n : Nat) (vals : List Value) (L : List It) (hs : List Hd) : Prop where
  len : hs.length = L.length
  sm : ∀ x ∈ L, smallI x
  row : w.ownsRow base 37 3 (.slice (some ⟨g, 0, none⟩) n n) n vals
  tk : vals.take (L.length * 3) = itVals L hs
  paths : ∀ i (h : i < L.length), OwnS w base (hs[i]'(by omega)).1 (hs[i]'(by omega)).2.1 (hs[i]'(by omega)).2.2 L[i].2
  apart : hs.Pairwise fun a b => a.1 ≠ b.1
section
variable {w w2 : World} {base g n : Nat} {vals : List Value} {L : List It} {hs : List Hd}
theorem PartI.own (h : PartI w base g n vals L hs) (hn : L.length = n) : OwnI w base (.slice (some ⟨g, 0, none⟩) n n) L hs := by
  subst hn
  have hv : vals = itVals L hs := by rw [← h.tk, List.take_of_length_le (by rw [h.row.1]; omega)]
  refine ⟨h.len, h.sm, by rw [← hv]; exact h.row, h.paths, h.apart, fun k hk y hy e => ?_⟩
  obtain ⟨i, hi, rfl⟩ := List.getElem_of_mem hy
  have hS := h.paths i (by have := h.len; omega)
  exact row_ne h.row hS.2.2 hk (by rw [← e]; rfl) (by decide)
theorem PartI.step {p : Pr} {P : List ByteArray} {g5 n5 c5 : Nat} (h : PartI w base g n vals L hs) (hb : Below w.heap.size w w2) (hP : OwnS w2 base g5 n5 c5 P) (hg5 : w.heap.size ≤ g5) (hp : small p) (hL : L.length < n) :
    ∃ vals', PartI (((w2.setCell ⟨g, L.length * 3, none⟩ (.string p.1)).setCell ⟨g, L.length * 3 + 1, none⟩ (.string p.2)).setCell ⟨g, L.length * 3 + 2, none⟩ (.slice (some ⟨g5, 0, none⟩) n5 c5)) base g n vals' (L ++ [(p, P)]) (hs ++ [(g5, n5, c5)]) ∧
      w2.grownBy (((w2.setCell ⟨g, L.length * 3, none⟩ (.string p.1)).setCell ⟨g, L.length * 3 + 1, none⟩ (.string p.2)).setCell ⟨g, L.length * 3 + 2, none⟩ (.slice (some ⟨g5, 0, none⟩) n5 c5)) (some g) := by
  have hlen := h.len
  have hr2 : w2.ownsRow base 37 3 (.slice (some ⟨g, 0, none⟩) n n) n vals := row_of_block h.row (fun k e => by cases e; exact hb.block g (h.row.lt g rfl).2)
  have s1 := hr2.stored (L.length * 3) (.string p.1)
  have s2 := s1.1.stored (L.length * 3 + 1) (.string p.2)
  have s3 := s2.1.stored (L.length * 3 + 2) (.slice (some ⟨g5, 0, none⟩) n5 c5)
  have hgr := grownBy_trans (grownBy_trans s1.2 s2.2) s3.2
  have hgl := (h.row.lt g rfl).2
  have hps0 : ∀ i (hi : i < L.length), OwnS w2 base (hs[i]'(by omega)).1 (hs[i]'(by omega)).2.1 (hs[i]'(by omega)).2.2 L[i].2 := fun i hi => (h.paths i hi).below hb
  have hne : ∀ {g' m c : Nat} {ss : List ByteArray}, OwnS w2 base g' m c ss → some g' ≠ some g := fun hS e => by
    cases e
    exact row_ne hr2 hS.2.2 rfl rfl (by decide)
  refine ⟨_, ⟨by simp [hlen], fun x hx => ?_, s3.1, ?_, fun i hi => ?_, ?_⟩, hgr⟩
  · rcases List.mem_append.1 hx with h1 | h1
    · exact h.sm x h1
    · rw [List.mem_singleton.1 h1]; exact ⟨hp, hP.2.1⟩
  · rw [itVals_snoc L hs hlen, ← h.tk, List.length_append, List.length_singleton, show (L.length + 1) * 3 = L.length * 3 + 3 by omega]
    exact take_set3 vals (L.length * 3) _ _ _ (by rw [h.row.1]; omega)
  · by_cases e : i < L.length
    · rw [List.getElem_append_left e]
      simp only [List.getElem_append_left (show i < hs.length by omega)]
      exact (hps0 i e).grown hgr (hne (hps0 i e))
    · have : i = L.length := by simp at hi; omega
      subst this
      rw [List.getElem_append_right (Nat.le_refl _)]
      simp only [List.getElem_append_right (show hs.length ≤ L.length by omega)]
      simp only [hlen, Nat.sub_self, List.getElem_cons_zero]
      exact hP.grown hgr (hne hP)
  · rw [List.pairwise_append]
    refine ⟨h.apart, List.pairwise_singleton _ _, fun a ha y hy => ?_⟩
    rw [List.mem_singleton.1 hy]
    obtain ⟨i, hi, rfl⟩ := List.getElem_of_mem ha
    have := (h.paths i (by omega)).lt.2
    show (hs[i]).1 ≠ g5
    omega
end

set_option maxRecDepth 100000 in
set_option maxHeartbeats 2000000 in
theorem toItemS (a : Option Addr) (len cap : Nat) (l : List It) (w : World) (h : SlI w a len l) (hsz : len ≤ 1099511627776) (hps : ∀ x ∈ l, x.2.length ≤ 1099511627776) :
    Calls Tryd.prog 49 #[.slice a len cap] w fun e w' => ∃ g hs, e = .returned (.slice (some ⟨g, 0, none⟩) len len) ∧ OwnI w' w.heap.size (.slice (some ⟨g, 0, none⟩) len len) l hs ∧ Below w.heap.size w w' := by
  obtain ⟨hl, hm, hsm, hc⟩ := id h
  subst hl
  obtain ⟨i0, hif, hz0, hz1, hz2⟩ := info_parts infoIt
  go_enter Tryd.func49, Tryd.ntmps49
  go_wp2_with (at_make; refine wpList_make_full _ rfl _ _ 27 rfl w.heap.size 37 i0 (.agg #[.string ⟨#[]⟩, .string ⟨#[]⟩, .slice none 0 0]) 3 Tryd.underlying27 hif hz0 hz1 _ _ _ _ l.length rfl rfl rfl rfl ?b2 ?b3 ?b4 ?_)
  case b2 => rw [hz2]; omega
  case b3 => exact hm
  case b4 => exact Nat.le_refl _
  intro w1 hown hgrow
  have hbel : Below w.heap.size w w1 := (Below.refl _ _).grown hgrow (Nat.le_refl _) (fun k e => by cases e)
  have hP0 : PartI w1 w.heap.size w.heap.size l.length _ [] [] := ⟨rfl, (fun _ h => absurd h List.not_mem_nil), hown, rfl, fun i hi => absurd hi (by simp), List.Pairwise.nil⟩
  clear hgrow hif hz0 hz1 hz2
  go_wp2_with fail
  go_loopw [4] (fun i wr => ∃ (k : Nat) (vals : List Value) (hs : List Hd), k ≤ l.length ∧ i = .int .i64 k ∧ PartI wr w.heap.size w.heap.size l.length vals (l.take k) hs ∧ Below w.heap.size w wr) (fun i _ => l.length - (intOf i).toNat)
  case atStart => exact ⟨0, _, [], Nat.zero_le _, rfl, hP0, hbel⟩
  case round =>
    clear hP0 hbel hown
    obtain ⟨k, vals, hs, hk, rfl, hP, hB⟩ := hrel
    by_cases hlt : k < l.length
    · obtain ⟨b, off, ha⟩ : ∃ b off, a = some ⟨b, off, none⟩ := by
        obtain ⟨b, off, ha, _⟩ := hc (by omega)
        exact ⟨b, off, ha⟩
      subst ha
      obtain ⟨c1, c2, pa, pl, pc, c3, hS, _⟩ := (h.at k hlt).below hB
      have hpk := hsm l[k] (List.getElem_mem hlt)
      have hpn := hps l[k] (List.getElem_mem hlt)
      have hpl := hS.1
      have hki : (k : Int) < (l.length : Int) := by omega
      have htl : (l.take k).length = k := by simp; omega
      have htk : l.take (k + 1) = l.take k ++ [l[k]] := List.take_succ_eq_append_getElem hlt
      have HTI := Hid.mk' (toItem l[k] pa pl pc wr hS (by omega))
      have HTK := Hid.mk' htk
      have HP := Hid.mk' hP
      obtain ⟨x, hx⟩ : ∃ x, l[k] = x := ⟨_, rfl⟩
      simp only [hx] at HTI c1 c2 hpk HTK
      clear hc hsm hps h hS hpl hpn htk hP hx
      go_wp2_with fail
      refine HTI.out.mono ?_
      rintro e w2 ⟨g5, rfl, hO5, hB2⟩
      have hB3 := hB.trans (hB2.mono hB.size)
      obtain ⟨vals', hP2, hG2⟩ := HP.out.step hB2 (hO5.mono (base' := w.heap.size) hB.size) hO5.lt.1 hpk.1 (by omega)
      rw [← HTK.out, htl] at hP2
      rw [htl] at hG2
      have hr2 : w2.ownsRow w.heap.size 37 3 (.slice (some ⟨w.heap.size, 0, none⟩) l.length l.length) l.length vals := row_of_block HP.out.row (fun j e => by cases e; exact hB2.block _ (HP.out.row.lt _ rfl).2)
      have hvl := hr2.1
      have d0 := hr2.cellAt (k * 3) (by omega)
      have d1 := hr2.cellAt (k * 3 + 1) (by omega)
      have d2 := hr2.cellAt (k * 3 + 2) (by omega)
      rw [List.getElem?_eq_getElem (by omega)] at d0 d1 d2
      have f0 := hr2.frozenAt (k * 3)
      have f1 := hr2.frozenAt (k * 3 + 1)
      have f2 := hr2.frozenAt (k * 3 + 2)
      generalize vals[k * 3] = z0 at *
      generalize vals[k * 3 + 1] = z1 at *
      generalize vals[k * 3 + 2] = z2 at *
      have HP2 := Hid.mk' hP2
      have HB4 := Hid.mk' (hB3.trans (below_grown hG2 (Nat.le_refl _) hB3.size))
      clear hP2 hG2 hr2 hO5 hB2 hB3 HP HTI c1 c2 c3
      go_wp2_with fail
      go_roundw
      case rel => exact ⟨k + 1, vals', _, by omega, by go_num, HP2.out, HB4.out⟩
      case measure => simp [intOf]; omega
    · have hkl : k = l.length := by omega
      subst hkl
      rw [List.take_length] at hP
      have HO := Hid.mk' (hP.own rfl)
      clear hP
      go_wp2_with fail
      go_ret
      exact ⟨_, hs, rfl, HO.out, hB⟩
end Go.Proofs.YtbnnfgfjcicjiaaDoor.range

namespace Go.Proofs.YtbnnfgfjcicjiaaDoor.puttexts
open Go.RowKit Go.Proofs.YtbnnfgfjcicjiaaDoor.base Go.Proofs.YtbnnfgfjcicjiaaDoor.help Go.Proofs.YtbnnfgfjcicjiaaDoor.helps Go.Proofs.YtbnnfgfjcicjiaaDoor.putnum Go.Proofs.YtbnnfgfjcicjiaaDoor.puttext
set_option linter.unusedVariables false
set_option linter.unusedSimpArgs false

def listBytes (ss : List ByteArray) : List UInt8 := numBytes (ss.length : Int) ++ textsBytes ss
/-- how many letters -/
def sum (ss : List ByteArray) : Nat := (ss.map ByteArray.size).sum
theorem sum_snoc (ss : List ByteArray) (s : ByteArray) : sum (ss ++ [s]) = sum ss + s.size := by simp [sum]
theorem sum_take (ss : List ByteArray) (k : Nat) (h : k < ss.length) : sum (ss.take (k + 1)) = sum (ss.take k) + ss[k].size := by
  rw [List.take_succ_eq_append_getElem h, sum_snoc]
theorem sum_le (ss : List ByteArray) (k : Nat) : sum (ss.take k) ≤ sum ss := by
  have e : sum ss = sum (ss.take k) + sum (ss.drop k) := by
    unfold sum; rw [← List.sum_append, ← List.map_append, List.take_append_drop]
  omega
theorem size_le_sum (ss : List ByteArray) : ∀ s ∈ ss, s.size ≤ sum ss := by
  induction ss with
  | nil => intro s h; exact absurd h List.not_mem_nil
  | cons x l ih =>
    intro s h
    simp only [sum, List.map_cons, List.sum_cons] at *
    rcases List.mem_cons.1 h with h | h
    · subst h; omega
    · have := ih s h; omega
theorem textsBytes_sum (ss : List ByteArray) : (textsBytes ss).length ≤ sum ss + 5 * ss.length := by
  induction ss with
  | nil => simp [textsBytes]
  | cons x l ih =>
    have := textBytes_length x
    simp only [textsBytes, sum, List.map_cons, List.flatten_cons, List.sum_cons, List.length_append, List.length_cons] at *
    omega

def szR (L t : Nat) : Int := if t ≤ L then (L : Int) - (t : Int) else -1
theorem szR_neg {L t : Nat} (h : L < t) : szR L t = -1 := by unfold szR; rw [if_neg (by omega)]
theorem szR_pos {L t : Nat} (h : t ≤ L) : szR L t = (L : Int) - (t : Int) := by unfold szR; rw [if_pos h]

set_option maxRecDepth 100000 in
set_option maxHeartbeats 1000000 in
theorem szStringS (a : Option Addr) (len cap : Nat) (ss : List ByteArray) (L : Nat) (w : World) (h : SlS w a len ss) (hL : L ≤ 1099511627776) :
    Calls Tryd.prog 95 #[.slice a len cap, .int .i64 (L : Int)] w fun e w' => e = .returned (.int .i64 (szR L (ss.length + sum ss))) ∧ w' = w := by
  obtain ⟨hl, hm, hsm, hc⟩ := h
  subst hl
  unfold maxLen at hm hsm
  by_cases hneg : L < ss.length
  · rw [szR_neg (by omega)]
    have h1 : (L : Int) - (ss.length : Int) < 0 := by omega
    go_enter Tryd.func95, Tryd.ntmps95
    go_wp2
    go_ret
    exact ⟨rfl, rfl⟩
  · have h1 : ¬ (L : Int) - (ss.length : Int) < 0 := by omega
    go_enter Tryd.func95, Tryd.ntmps95
    go_wp2
    go_loop [1, 5] (fun lv i => ∃ k m : Nat, k ≤ ss.length ∧ i = .int .i64 (k : Int) ∧ lv = .int .i64 (m : Int) ∧ m + (ss.length + sum (ss.take k)) = L) (fun _ i => ss.length - (intOf i).toNat)
    case atStart => exact ⟨0, L - ss.length, Nat.zero_le _, rfl, by go_num, by simp [sum]; omega⟩
    case round =>
      obtain ⟨k, m, hk, rfl, rfl, hmL⟩ := hrel
      by_cases hlt : k < ss.length
      · obtain ⟨b, off, ha, hcl⟩ := hc (by omega)
        subst ha
        have hst := sum_take ss k hlt
        have hle := sum_le ss (k + 1)
        have hsz := hsm _ (List.getElem_mem hlt)
        generalize hsk : ss[k] = s at *
        have c1 : w.cell? ⟨b, off + k, none⟩ = some (.string s) := by rw [hcl k hlt, hsk]
        have hi1 : (k : Int) < (ss.length : Int) := by omega
        have hmB : m ≤ 1099511627776 := by omega
        have HML := Hid.mk' hmL
        have HST := Hid.mk' hst
        have HLE := Hid.mk' hle
        clear hcl hc hsm hsk hmL hst hle
        by_cases hover : m < s.size
        · have h2 : (m : Int) - (s.size : Int) < 0 := by omega
          go_wp2
          go_ret
          have e1 := HML.out
          have e2 := HST.out
          have e3 := HLE.out
          rw [szR_neg (by omega)]
          exact ⟨rfl, rfl⟩
        · have h2 : ¬ (m : Int) - (s.size : Int) < 0 := by omega
          go_wp2
          go_round
          case rel => exact ⟨k + 1, m - s.size, by omega, by go_num, by go_num, by have e1 := HML.out; have e2 := HST.out; omega⟩
          case measure => simp [intOf]; omega
      · have e : k = ss.length := by omega
        have HML := Hid.mk' hmL
        clear hmL
        go_wp2
        go_ret
        have e1 := HML.out
        rw [e, List.take_length] at e1
        rw [szR_pos (by omega)]
        exact ⟨ret_int (by omega), rfl⟩



end Go.Proofs.YtbnnfgfjcicjiaaDoor.puttexts

namespace Go.Proofs.YtbnnfgfjcicjiaaDoor.range
open Go Go.RowKit Go.Proofs.YtbnnfgfjcicjiaaDoor.base Go.Proofs.YtbnnfgfjcicjiaaDoor.pairs Go.Proofs.YtbnnfgfjcicjiaaDoor.tree Go.Proofs.YtbnnfgfjcicjiaaDoor.helps
set_option linter.unusedVariables false
set_option linter.unusedSimpArgs false

theorem ownI_other {w : World} {base g2 j : Nat} {v u : Value} {l : List It} {hs : List Hd} (h : OwnI w base v l hs) (hne : ∀ k, Blk v hs k → k ≠ g2) : OwnI (w.setCell ⟨g2, j, none⟩ u) base v l hs :=
  h.of_blocks (fun k hk => heap_setCell_other w ⟨g2, j, none⟩ k u (hne k hk))

set_option maxRecDepth 100000 in
set_option maxHeartbeats 2000000 in
theorem toProof (n fr : Int) (a : Option Addr) (len cap : Nat) (l : List It) (w : World) (h : SlI w a len l) (hsz : len ≤ 1099511627776) (hps : ∀ x ∈ l, x.2.length ≤ 1099511627776) :
    Calls Tryd.prog 23 #[.agg #[.int .i64 n, .int .i64 fr, .slice a len cap]] w fun e w' =>
      ∃ g hs, e = .returned (.agg #[.int .i64 n, .int .i64 fr, .slice (some ⟨g, 0, none⟩) len len]) ∧ OwnI w' w.heap.size (.slice (some ⟨g, 0, none⟩) len len) l hs ∧ Below w.heap.size w w' := by
  obtain ⟨W, hW⟩ : ∃ W, ((w.alloc (.cells #[.int .i64 n, .int .i64 fr, .slice a len cap] 50)).alloc (.cells #[.int .i64 0, .int .i64 0, .slice none 0 0] 29)).alloc (.cells #[.int .i64 n, .int .i64 fr, .slice none 0 0] 29) = W := ⟨_, rfl⟩
  have hB : Below w.heap.size w W := by rw [← hW]; exact (((Below.refl _ _).alloc (Nat.le_refl _) _).alloc (by simp) _).alloc (by simp; omega) _
  have v1 : V3 W (w.heap.size + 1) 29 (.int .i64 0) (.int .i64 0) (.slice none 0 0) := by
    rw [← hW]; exact v3_alloc (v3_new1 w _ _ _ _ _) _
  have v2 : V3 W (w.heap.size + 2) 29 (.int .i64 n) (.int .i64 fr) (.slice none 0 0) := by
    rw [← hW]; exact v3_new2 w _ _ _ _ _ _
  have HW := Hid.mk' hW
  have HP := Hid.mk' (toItemS a len cap l W (h.below hB) hsz hps)
  clear hW h
  go_enter Tryd.func23, Tryd.ntmps23
  go_wp2_with fail
  rw [HW.out]
  refine HP.out.mono ?_
  rintro e w2 ⟨g, hs, rfl, hO, hb2⟩
  have r1 := v1.below hb2
  have r2 := v2.below hb2
  have hB3 := hB.trans (hb2.mono hB.size)
  have n2 := r2.c2
  have g2 := r2.fz 2
  have y2 := r2.set2 (.slice (some ⟨g, 0, none⟩) len len)
  have y1 := r1.other 2 (.slice (some ⟨g, 0, none⟩) len len) (show w.heap.size + 1 ≠ w.heap.size + 2 by omega)
  have a0 := y2.c0
  have a1 := y2.c1
  have a2 := y2.c2
  have b0 := y1.c0
  have b1 := y1.c1
  have b2 := y1.c2
  have k0 := y1.fz 0
  have k1 := y1.fz 1
  have k2 := y1.fz 2
  have hgl : ∀ k, Blk (.slice (some ⟨g, 0, none⟩) len len) hs k → w.heap.size + 2 < k := fun k hk => by
    have h1 := (hO.lt k hk).1
    have h2 := v2.lt
    omega
  have hOz := ownI_other (g2 := w.heap.size + 1) (j := 2) (u := .slice (some ⟨g, 0, none⟩) len len) (ownI_other (g2 := w.heap.size + 1) (j := 1) (u := .int .i64 fr) (ownI_other (g2 := w.heap.size + 1) (j := 0) (u := .int .i64 n) (ownI_other (g2 := w.heap.size + 2) (j := 2) (u := .slice (some ⟨g, 0, none⟩) len len) (hO.mono (base' := w.heap.size) hB.size) (fun k hk => by have := hgl k hk; omega)) (fun k hk => by have := hgl k hk; omega)) (fun k hk => by have := hgl k hk; omega)) (fun k hk => by have := hgl k hk; omega)
  have hBz := (((hB3.setCell (p := ⟨w.heap.size + 2, 2, none⟩) (by show w.heap.size ≤ w.heap.size + 2; omega) (.slice (some ⟨g, 0, none⟩) len len)).setCell (p := ⟨w.heap.size + 1, 0, none⟩) (by show w.heap.size ≤ w.heap.size + 1; omega) (.int .i64 n)).setCell (p := ⟨w.heap.size + 1, 1, none⟩) (by show w.heap.size ≤ w.heap.size + 1; omega) (.int .i64 fr)).setCell (p := ⟨w.heap.size + 1, 2, none⟩) (by show w.heap.size ≤ w.heap.size + 1; omega) (.slice (some ⟨g, 0, none⟩) len len)
  have HOZ := Hid.mk' hOz
  have HBZ := Hid.mk' hBz
  have z1 := ((y1.set0 (.int .i64 n)).set1 (.int .i64 fr)).set2 (.slice (some ⟨g, 0, none⟩) len len)
  have e0 := z1.c0
  have e1 := z1.c1
  have e2 := z1.c2
  clear r1 r2 y1 y2 z1 HP HW hOz hBz hO hb2 hB3 hB v1 v2 hgl
  go_wp2_with fail
  refine bodyPost_ret (v := .agg #[.int .i64 n, .int .i64 fr, .slice (some ⟨g, 0, none⟩) len len]) ?h1 rfl ⟨g, hs, rfl, HOZ.out, HBZ.out⟩
  simp [results, Tryd.results23, go_sem, e0, e1, e2, a0, a1, a2, b0, b1, b2]

def isz (x : It) : Nat := psz x.1 + (x.2.length + puttexts.sum x.2)
def sumI (l : List It) : Nat := (l.map isz).sum
theorem sumI_take (l : List It) (k : Nat) (h : k < l.length) : sumI (l.take (k + 1)) = sumI (l.take k) + isz l[k] := by
  unfold sumI; rw [List.take_succ_eq_append_getElem h, List.map_append, List.sum_append]; simp
theorem sumI_le (l : List It) (k : Nat) : sumI (l.take k) ≤ sumI l := by
  have e : sumI l = sumI (l.take k) + sumI (l.drop k) := by
    unfold sumI; rw [← List.sum_append, ← List.map_append, List.take_append_drop]
  omega
theorem isz_le (l : List It) : ∀ x ∈ l, isz x ≤ sumI l := by
  induction l with
  | nil => intro s h; exact absurd h List.not_mem_nil
  | cons x l ih =>
    intro s h
    simp only [sumI, List.map_cons, List.sum_cons] at *
    rcases List.mem_cons.1 h with h | h
    · subst h; omega
    · have := ih s h; omega
theorem szR_same (L t : Nat) : puttexts.szR L t = szR L t := rfl

set_option maxHeartbeats 1000000 in
theorem szItem (x : It) (pa : Option Addr) (pl pc L : Nat) (w : World) (hx : small x.1) (h : SlS w pa pl x.2) (hL : L ≤ 1099511627776) :
    Calls Tryd.prog 71 #[.agg #[.string x.1.1, .string x.1.2, .slice pa pl pc], .int .i64 (L : Int)] w fun e w' => e = .returned (.int .i64 (szR L (isz x))) ∧ Below w.heap.size w w' := by
  obtain ⟨W, hW⟩ : ∃ W, w.alloc (.cells #[.string x.1.1, .string x.1.2, .slice pa pl pc] 98) = W := ⟨_, rfl⟩
  have hB : Below w.heap.size w W := by rw [← hW]; exact (Below.refl _ _).alloc (Nat.le_refl _) _
  have v0 : V3 W w.heap.size 98 (.string x.1.1) (.string x.1.2) (.slice pa pl pc) := by rw [← hW]; exact v3_new w _ _ _ _
  have HW := Hid.mk' hW
  have hP := szPair x.1 L W hx hL
  clear hW
  by_cases h1 : L < psz x.1
  · rw [szR_neg h1] at hP
    have HP := Hid.mk' hP
    have HZ : Hid (szR L (isz x) = -1) := szR_neg (by unfold isz; omega)
    clear hP
    go_enter Tryd.func71, Tryd.ntmps71
    go_wp2_with fail
    rw [HW.out]
    refine HP.out.mono ?_
    rintro e w1 ⟨rfl, hb1⟩
    have hB1 := hB.trans (hb1.mono hB.size)
    go_wp2_with fail
    go_ret
    exact ⟨ret_int HZ.out.symm, hB1⟩
  · rw [szR_pos (by omega)] at hP
    obtain ⟨m, hm⟩ : ∃ m, L - psz x.1 = m := ⟨_, rfl⟩
    rw [show (L : Int) - (psz x.1 : Int) = (m : Int) by omega] at hP
    have HP := Hid.mk' hP
    have hS := fun wx hx => puttexts.szStringS pa pl pc x.2 m wx (h.below (w' := wx) hx) (by omega)
    clear hP
    by_cases h2 : m < x.2.length + puttexts.sum x.2
    · rw [puttexts.szR_neg h2] at hS
      have HS := Hid.mk' hS
      have HZ : Hid (szR L (isz x) = -1) := szR_neg (by unfold isz; omega)
      clear hS h hm
      go_enter Tryd.func71, Tryd.ntmps71
      go_wp2_with fail
      rw [HW.out]
      refine HP.out.mono ?_
      rintro e w1 ⟨rfl, hb1⟩
      have hB1 := hB.trans (hb1.mono hB.size)
      have c2 := (v0.below hb1).c2
      go_wp2_with fail
      refine (HS.out _ hB1).mono ?_
      rintro e w2 ⟨rfl, hw2⟩
      subst hw2
      go_wp2_with fail
      go_ret
      exact ⟨ret_int HZ.out.symm, hB1⟩
    · rw [puttexts.szR_pos (by omega)] at hS
      obtain ⟨m2, hm2⟩ : ∃ m2, m - (x.2.length + puttexts.sum x.2) = m2 := ⟨_, rfl⟩
      rw [show (m : Int) - ((x.2.length + puttexts.sum x.2 : Nat) : Int) = (m2 : Int) by omega] at hS
      have HS := Hid.mk' hS
      have HZ : Hid (szR L (isz x) = (m2 : Int)) := by show _ = _; rw [szR_pos (by unfold isz; omega)]; unfold isz; omega
      clear hS h hm hm2
      go_enter Tryd.func71, Tryd.ntmps71
      go_wp2_with fail
      rw [HW.out]
      refine HP.out.mono ?_
      rintro e w1 ⟨rfl, hb1⟩
      have hB1 := hB.trans (hb1.mono hB.size)
      have c2 := (v0.below hb1).c2
      go_wp2_with fail
      refine (HS.out _ hB1).mono ?_
      rintro e w2 ⟨rfl, hw2⟩
      subst hw2
      go_wp2_with fail
      go_ret
      exact ⟨ret_int HZ.out.symm, hB1⟩

set_option maxRecDepth 100000 in
set_option maxHeartbeats 2000000 in
theorem szItemS (a : Option Addr) (len cap : Nat) (l : List It) (L : Nat) (w : World) (h : SlI w a len l) (hL : L ≤ 1099511627776) :
    Calls Tryd.prog 45 #[.slice a len cap, .int .i64 (L : Int)] w fun e w' => e = .returned (.int .i64 (szR L (l.length + sumI l))) ∧ Below w.heap.size w w' := by
  obtain ⟨hl, hm, hsm, hc⟩ := id h
  subst hl
  unfold maxLen at hm
  by_cases hneg : L < l.length
  · rw [szR_neg (by omega)]
    have h1 : (L : Int) - (l.length : Int) < 0 := by omega
    go_enter Tryd.func45, Tryd.ntmps45
    go_wp2_with fail
    go_ret
    exact ⟨rfl, Below.refl _ _⟩
  · have h1 : ¬ (L : Int) - (l.length : Int) < 0 := by omega
    go_enter Tryd.func45, Tryd.ntmps45
    go_wp2_with fail
    go_loopw [1, 5] (fun lv i wr => ∃ k m : Nat, k ≤ l.length ∧ i = .int .i64 (k : Int) ∧ lv = .int .i64 (m : Int) ∧ m + (l.length + sumI (l.take k)) = L ∧ Below w.heap.size w wr) (fun _ i _ => l.length - (intOf i).toNat)
    case atStart => exact ⟨0, L - l.length, Nat.zero_le _, rfl, by go_num, by simp [sumI]; omega, Below.refl _ _⟩
    case round =>
      obtain ⟨k, m, hk, rfl, rfl, hmL, hB⟩ := hrel
      by_cases hlt : k < l.length
      · obtain ⟨b, off, ha⟩ : ∃ b off, a = some ⟨b, off, none⟩ := by
          obtain ⟨b, off, ha, _⟩ := hc (by omega)
          exact ⟨b, off, ha⟩
        subst ha
        have hst := sumI_take l k hlt
        have hle := sumI_le l (k + 1)
        obtain ⟨c1, c2, pa, pl, pc, c3, hS, _⟩ := (h.at k hlt).below hB
        have hpk := hsm _ (List.getElem_mem hlt)
        have hi1 : (k : Int) < (l.length : Int) := by omega
        have hmB : m ≤ 1099511627776 := by omega
        have HML := Hid.mk' hmL
        have HST := Hid.mk' hst
        have HLE := Hid.mk' hle
        have hcall := szItem l[k] pa pl pc m wr hpk.1 hS hmB
        obtain ⟨x, hx⟩ : ∃ x, l[k] = x := ⟨_, rfl⟩
        simp only [hx] at hcall c1 c2 HST
        clear hc hsm hmL hst hle h hS hpk hx
        by_cases hover : m < isz x
        · rw [szR_neg hover] at hcall
          have HC := Hid.mk' hcall
          clear hcall
          go_wp2_with fail
          refine HC.out.mono ?_
          rintro e w2 ⟨rfl, hB2⟩
          go_wp2_with fail
          go_ret
          have e1 := HML.out
          have e2 := HST.out
          have e3 := HLE.out
          rw [szR_neg (by omega)]
          exact ⟨rfl, hB.trans (hB2.mono hB.size)⟩
        · rw [szR_pos (by omega), show (m : Int) - (isz x : Int) = ((m - isz x : Nat) : Int) by omega] at hcall
          have HC := Hid.mk' hcall
          obtain ⟨m2, hm2⟩ : ∃ m2, m - isz x = m2 := ⟨_, rfl⟩
          rw [hm2] at HC
          have HM2 := Hid.mk' hm2
          have hm2b : m2 ≤ 1099511627776 := by omega
          clear hcall hm2
          go_wp2_with fail
          refine HC.out.mono ?_
          rintro e w2 ⟨rfl, hB2⟩
          go_wp2_with fail
          go_roundw
          case rel => exact ⟨k + 1, m2, by omega, by go_num, rfl, by have e1 := HML.out; have e2 := HST.out; have e3 := HM2.out; omega, hB.trans (hB2.mono hB.size)⟩
          case measure => simp [intOf]; omega
      · have e : k = l.length := by omega
        have HML := Hid.mk' hmL
        clear hmL
        go_wp2_with fail
        go_ret
        have e1 := HML.out
        rw [e, List.take_length] at e1
        rw [szR_pos (by omega)]
        exact ⟨ret_int (by omega), hB⟩

set_option maxHeartbeats 1000000 in
theorem szProof (n fr : Int) (a : Option Addr) (len cap : Nat) (l : List It) (L : Nat) (w : World) (h : SlI w a len l) (hL : L ≤ 1099511627776) :
    Calls Tryd.prog 21 #[.agg #[.int .i64 n, .int .i64 fr, .slice a len cap], .int .i64 (L : Int)] w fun e w' => e = .returned (.int .i64 (szR L (l.length + sumI l))) ∧ Below w.heap.size w w' := by
  have hba : Below w.heap.size w (w.alloc (.cells #[.int .i64 n, .int .i64 fr, .slice a len cap] 50)) := (Below.refl _ _).alloc (Nat.le_refl _) _
  have hS := szItemS a len cap l L _ (h.below hba) hL
  by_cases h1 : L < l.length + sumI l
  · rw [szR_neg h1] at hS
    rw [szR_neg h1]
    have HS := Hid.mk' hS
    clear hS
    go_enter Tryd.func21, Tryd.ntmps21
    go_wp2_with fail
    refine HS.out.mono ?_
    rintro e w1 ⟨rfl, hb1⟩
    have hB1 := hba.trans (hb1.mono hba.size)
    go_wp2_with fail
    go_ret
    exact ⟨rfl, hB1⟩
  · obtain ⟨m, hm⟩ : ∃ m, L - (l.length + sumI l) = m := ⟨_, rfl⟩
    have he : szR L (l.length + sumI l) = (m : Int) := by rw [szR_pos (by omega)]; omega
    rw [he] at hS
    rw [he]
    have HS := Hid.mk' hS
    clear hS he hm
    go_enter Tryd.func21, Tryd.ntmps21
    go_wp2_with fail
    refine HS.out.mono ?_
    rintro e w1 ⟨rfl, hb1⟩
    have hB1 := hba.trans (hb1.mono hba.size)
    go_wp2_with fail
    go_ret
    exact ⟨rfl, hB1⟩
end Go.Proofs.YtbnnfgfjcicjiaaDoor.range

namespace Go.Proofs.YtbnnfgfjcicjiaaDoor.range
open Go Go.RowKit Go.Proofs.YtbnnfgfjcicjiaaDoor.base Go.Proofs.YtbnnfgfjcicjiaaDoor.pairs Go.Proofs.YtbnnfgfjcicjiaaDoor.tree
set_option linter.unusedVariables false
set_option linter.unusedSimpArgs false

set_option maxRecDepth 100000 in
theorem proof_arg {H : Type} {enc : TypeId × Value → H} {W : World} {v : Value} {r : Reach} {base fuel : Nat} {x : DataW H × List MemPlace} (e : TypeId) (f0 f1 f2 : Field) (he : Tryd.prog.underlying e = some (.struct #[f0, f1, f2]))
    (ce : Tryd.prog.cellsOf e = 3) (o0 : f0.offset = 0) (o1 : f1.offset = 1) (o2 : f2.offset = 2) (t0 : f0.type = 3) (t1 : f1.type = 3) (t2 : f2.type = 48) (c3 : Tryd.prog.cellsOf 3 = 1) (cs1 : Tryd.prog.cellsOf 48 = 1)
    (g0 g1 q0 q1 : Field) (hI : Tryd.prog.underlying 98 = some (.struct #[g0, g1])) (cI : Tryd.prog.cellsOf 98 = 3) (i0 : g0.offset = 0) (i1 : g1.offset = 2) (tp : g0.type = 70) (tq : g1.type = 35)
    (hp : Tryd.prog.underlying 70 = some (.struct #[q0, q1])) (cp : Tryd.prog.cellsOf 70 = 2) (j0 : q0.offset = 0) (j1 : q1.offset = 1) (u0 : q0.type = 9) (u1 : q1.type = 9) (c9 : Tryd.prog.cellsOf 9 = 1) (cq : Tryd.prog.cellsOf 35 = 1)
    (hok : Value.okWide Tryd.prog W r base e v) (h : DataW.trod enc Tryd.prog W 0 (fun _ => true) true fuel e v.cells.toList = some x) :
    ∃ (n fr : Int) (a : Option Addr) (len cap : Nat) (l : List It), v = .agg #[.int .i64 n, .int .i64 fr, .slice a len cap] ∧ (Lit.int .i64 n).wf = true ∧ (Lit.int .i64 fr).wf = true ∧ SlI W a len l := by
  obtain ⟨cs, rfl, hsz⟩ := WideShapes.okWide_struct he hok
  rw [ce] at hsz
  obtain ⟨xs, m, _, _, _, hxl, hel⟩ := DataW.trod_struct he h
  have k0 := hel 0 f0 rfl
  have k1 := hel 1 f1 rfl
  have k2 := hel 2 f2 rfl
  obtain ⟨l⟩ := cs
  match l, hsz, xs, hxl with
  | [v0, v1, v2], _, [y0, y1, y2], _ =>
    simp [o0, o1, o2, t0, t1, t2, c3, cs1, Value.cells] at k0 k1 k2
    obtain ⟨n, e0, _, w0⟩ := DataW.trod_int Tryd.underlying3 k0
    obtain ⟨fr, e1, _, w1⟩ := DataW.trod_int Tryd.underlying3 k1
    simp at e0 e1
    subst e0 e1
    obtain ⟨a, len, cap, hv2⟩ : ∃ a len cap, v2 = .slice a len cap := by
      rcases Deep.open_slice Tryd.underlying48 k2 with ⟨hcs, _⟩ | ⟨ad, len, cap, _, _, _, _, hcs, _⟩
      · simp at hcs; exact ⟨_, _, _, hcs⟩
      · simp at hcs; exact ⟨_, _, _, hcs⟩
    subst hv2
    obtain ⟨l, hl⟩ := sli_arg (cap := cap) 48 98 70 g0 g1 q0 q1 Tryd.underlying48 hI cI i0 i1 tp hp cp j0 j1 u0 u1 c9 tq cq k2
    exact ⟨n, fr, a, len, cap, l, rfl, w0, w1, hl⟩
end Go.Proofs.YtbnnfgfjcicjiaaDoor.range
