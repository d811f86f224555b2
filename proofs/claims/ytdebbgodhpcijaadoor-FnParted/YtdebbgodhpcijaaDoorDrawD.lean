/- Draws of pairs, a pair, a place, a number and a path. -/
import Derived.Test.YtdebbgodhpcijaaDoorDrawG
import Derived.Test.YtdebbgodhpcijaaDoorDrawC
import Derived.Test.YtdebbgodhpcijaaDoorTreeQ
namespace Go.Proofs.YtdebbgodhpcijaaDoor.pairs
open Go Go.RowKit Go.Proofs.YtdebbgodhpcijaaDoor.base Go.Proofs.YtdebbgodhpcijaaDoor.draw Go.Proofs.YtdebbgodhpcijaaDoor.tree
set_option linter.unusedVariables false
set_option linter.unusedSimpArgs false

/-- the variable of a pair -/
def PBox (w : World) (g : Nat) (p : Pr) : Prop := w.heap[g]? = some (.cells #[.string p.1, .string p.2] 28 (0, 0))
section
variable {w w' : World} {g : Nat} {p : Pr} {row : Option Nat}
theorem PBox.lt (h : PBox w g p) : g < w.heap.size := (Array.getElem?_eq_some_iff.1 h).1
theorem PBox.c0 (h : PBox w g p) : w.cell? ⟨g, 0, none⟩ = some (.string p.1) := cell_cur h 0 _ rfl
theorem PBox.c1 (h : PBox w g p) : w.cell? ⟨g, 1, none⟩ = some (.string p.2) := cell_cur h 1 _ rfl
theorem PBox.fz (h : PBox w g p) (j : Nat) : w.frozen? ⟨g, j, none⟩ = false := by unfold PBox at h; simp [World.frozen?, h]
theorem PBox.below (h : PBox w g p) (hb : Below w.heap.size w w') : PBox w' g p := (hb.block g h.lt).trans h
theorem PBox.grown (h : PBox w g p) (hg : w.grownBy w' row) (hne : some g ≠ row) : PBox w' g p := (hg.block g h.lt hne).trans h
theorem PBox.set0 (h : PBox w g p) (x : ByteArray) : PBox (w.setCell ⟨g, 0, none⟩ (.string x)) g (x, p.2) ∧ w.grownBy (w.setCell ⟨g, 0, none⟩ (.string x)) (some g) := by
  have := set_cur h 0 (.string x)
  exact ⟨this.1, this.2⟩
theorem PBox.set1 (h : PBox w g p) (x : ByteArray) : PBox (w.setCell ⟨g, 1, none⟩ (.string x)) g (p.1, x) ∧ w.grownBy (w.setCell ⟨g, 1, none⟩ (.string x)) (some g) := by
  have := set_cur h 1 (.string x)
  exact ⟨this.1, this.2⟩
end
theorem pbox_new (w : World) (p : Pr) : PBox (w.alloc (.cells #[.string p.1, .string p.2] 28)) w.heap.size p := heap_alloc_new w _
theorem strs_block {w : World} {base g n cap : Nat} {ss : List ByteArray} (h : OwnS w base g n cap ss) : ∃ cur, w.heap[g]? = some (.cells cur 9 (0, 0)) := by
  rcases h.2.2.2 with ⟨h', _⟩ | ⟨g', cap', cur, h', _, hg, _⟩
  · simp at h'
  · simp only [Value.slice.injEq, Option.some.injEq, Addr.mk.injEq, and_true, true_and] at h'
    obtain ⟨rfl, rfl⟩ := h'
    exact ⟨cur, hg⟩
theorem pairs_block {w : World} {base g n cap : Nat} {l : List Pr} (h : OwnP w base g n cap l) : ∃ cur, w.heap[g]? = some (.cells cur 28 (0, 0)) := by
  rcases h.2.2.2 with ⟨h', _⟩ | ⟨g', cap', cur, h', _, hg, _⟩
  · simp at h'
  · simp only [Value.slice.injEq, Option.some.injEq, Addr.mk.injEq, and_true, true_and] at h'
    obtain ⟨rfl, rfl⟩ := h'
    exact ⟨cur, hg⟩
theorem strs_box {w : World} {base g n cap r : Nat} {ss : List ByteArray} {p : Pr} (h : OwnS w base g n cap ss) (hb : PBox w r p) : r ≠ g := by
  intro e
  subst e
  obtain ⟨cur, hc⟩ := strs_block h
  unfold PBox at hb
  rw [hc] at hb
  simp at hb
theorem strs_row {w : World} {base base' g n cap g' n' cap' : Nat} {ss : List ByteArray} {l : List Pr} (h : OwnS w base g n cap ss) (hb : OwnP w base' g' n' cap' l) : g' ≠ g := by
  intro e
  subst e
  obtain ⟨cur, hc⟩ := strs_block h
  obtain ⟨cur2, hc2⟩ := pairs_block hb
  rw [hc] at hc2
  simp at hc2
theorem strs_cur {w0 w : World} {gc : Nat} {a : Option Addr} {len cap : Nat} {code : List UInt8} {base g n cp : Nat} {ss : List ByteArray} (h : OwnS w base g n cp ss) (hb : Cur w0 w gc a len cap code) : gc ≠ g := by
  intro e
  subst e
  obtain ⟨cur, hc⟩ := strs_block h
  obtain ⟨_, _, _, _, i, hh, _, _, hrow⟩ := hb
  rw [hc] at hrow
  simp at hrow
def GotPart (w : World) (e : Ending) (w' : World) : Prop :=
  ∃ (g n cp : Nat) (l : List Pr) (p : Pr) (i : Nat) (N : Int) (gp np cpp : Nat) (P : List ByteArray), n ≤ 10 ∧ (∀ q ∈ l, tiny q) ∧ p.1.size ≤ 13 ∧ p.2.size ≤ 22 ∧ i ≤ 9 ∧ -1 ≤ N ∧ N ≤ 61 ∧ np ≤ 61 ∧ (∀ s ∈ P, s.size ≤ 32) ∧
    e = .returned (.tuple #[.slice (some ⟨g, 0, none⟩) n cp, .agg #[.string p.1, .string p.2], .int .i64 (i : Int), .int .i64 N, .slice (some ⟨gp, 0, none⟩) np cpp]) ∧ OwnP w' w.heap.size g n cp l ∧ OwnS w' w.heap.size gp np cpp P ∧ Below w.heap.size w w'
/-- all that the draw holds -/
structure Part (w0 w : World) (gc : Nat) (a : Option Addr) (len cap : Nat) (code : List UInt8) (r v g n cp : Nat) (l : List Pr) (p : Pr) (gp np cpp : Nat) (P : List ByteArray) : Prop where
  cur : Cur w0 w gc a len cap code
  res : PBox w r (⟨#[]⟩, ⟨#[]⟩)
  var : PBox w v p
  row : OwnP w w0.heap.size g n cp l
  path : OwnS w w0.heap.size gp np cpp P
  rl : w0.heap.size ≤ r
  rg : r < gc
  gv : gc < v
  gg : gc < g
  cgp : gc ≠ gp
  rp : r ≠ gp
  vg : v ≠ g
  vp : v ≠ gp
  gpp : g ≠ gp
section
variable {w0 w w' : World} {gc : Nat} {a : Option Addr} {len cap : Nat} {code : List UInt8} {r v g n cp : Nat} {l : List Pr} {p : Pr} {gp np cpp : Nat} {P : List ByteArray}
theorem Part.drawn (h : Part w0 w gc a len cap code r v g n cp l p gp np cpp P) (hc : Cur w0 w' gc a len cap code) (hg : w.grownBy w' (some gc)) : Part w0 w' gc a len cap code r v g n cp l p gp np cpp P :=
  ⟨hc, h.res.grown hg (by have := h.rg; simp; omega), h.var.grown hg (by have := h.gv; simp; omega), h.row.grown hg (by have := h.gg; simp; omega), h.path.grown hg (by have := h.cgp; simp; omega), h.rl, h.rg, h.gv, h.gg, h.cgp, h.rp, h.vg, h.vp, h.gpp⟩
theorem Part.below (h : Part w0 w gc a len cap code r v g n cp l p gp np cpp P) (hb : Below w.heap.size w w') : Part w0 w' gc a len cap code r v g n cp l p gp np cpp P :=
  ⟨h.cur.below hb, h.res.below hb, h.var.below hb, h.row.below hb, h.path.below hb, h.rl, h.rg, h.gv, h.gg, h.cgp, h.rp, h.vg, h.vp, h.gpp⟩
theorem Part.setVar (h : Part w0 w gc a len cap code r v g n cp l p gp np cpp P) (x : ByteArray) : Part w0 (w.setCell ⟨v, 1, none⟩ (.string x)) gc a len cap code r v g n cp l (p.1, x) gp np cpp P := by
  have hs := h.var.set1 x
  have h1 := h.rl
  have h2 := h.rg
  have h3 := h.gv
  exact ⟨h.cur.grown hs.2 (by simp; omega) (fun k e => by cases e; omega), h.res.grown hs.2 (by simp; omega), hs.1, h.row.grown hs.2 (by simpa using h.vg.symm), h.path.grown hs.2 (by simpa using h.vp.symm), h.rl, h.rg, h.gv, h.gg, h.cgp, h.rp, h.vg, h.vp, h.gpp⟩
theorem Part.newRow (h : Part w0 w gc a len cap code r v g n cp l p gp np cpp P) {g' n' cp' : Nat} {l' : List Pr} (hO : OwnP w' w.heap.size g' n' cp' l') (hc : Cur w0 w' gc a len cap code) (hg : w.grownBy w' (some gc)) : Part w0 w' gc a len cap code r v g' n' cp' l' p gp np cpp P := by
  have h' := h.drawn hc hg
  have h1 := h.var.lt
  have h2 := h.path.lt.2
  have h3 := h.cur.lt
  have h4 := hO.lt.1
  exact ⟨hc, h'.res, h'.var, hO.mono h.cur.bel.size, h'.path, h.rl, h.rg, h.gv, by omega, h.cgp, h.rp, by omega, h.vp, by omega⟩
theorem Part.newPath (h : Part w0 w gc a len cap code r v g n cp l p gp np cpp P) {gp' np' cpp' : Nat} {P' : List ByteArray} (hO : OwnS w' w0.heap.size gp' np' cpp' P') (hg : w.grownBy w' (some gp)) : Part w0 w' gc a len cap code r v g n cp l p gp' np' cpp' P' := by
  have h0 := h.path.lt.1
  have h4 := h.cgp
  have h5 := h.rp
  have h6 := h.vp
  have h7 := h.gpp
  have hC := h.cur.grown hg (by simpa using h4) (fun k e => by cases e; exact h0)
  have hR := h.res.grown hg (by simpa using h5)
  have hV := h.var.grown hg (by simpa using h6)
  have hL := h.row.grown hg (by simpa using h7)
  exact ⟨hC, hR, hV, hL, hO, h.rl, h.rg, h.gv, h.gg, strs_cur hO hC, strs_box hO hR, h.vg, strs_box hO hV, strs_row hO hL⟩
/-- the pair goes into its result -/
theorem Part.done (h : Part w0 w gc a len cap code r v g n cp l p gp np cpp P) :
    OwnP ((w.setCell ⟨r, 0, none⟩ (.string p.1)).setCell ⟨r, 1, none⟩ (.string p.2)) w0.heap.size g n cp l ∧ OwnS ((w.setCell ⟨r, 0, none⟩ (.string p.1)).setCell ⟨r, 1, none⟩ (.string p.2)) w0.heap.size gp np cpp P ∧ Below w0.heap.size w0 ((w.setCell ⟨r, 0, none⟩ (.string p.1)).setCell ⟨r, 1, none⟩ (.string p.2)) := by
  have h1 := h.res.set0 p.1
  have h2 := h1.1.set1 p.2
  have hg := grownBy_trans h1.2 h2.2
  have h3 := h.rl
  have h4 := h.rg
  have h5 := h.gg
  have h6 := h.rp
  exact ⟨h.row.grown hg (by simp; omega), h.path.grown hg (by simp; omega), h.cur.bel.grown hg h.cur.bel.size (fun k e => by cases e; exact h3)⟩
end
set_option maxRecDepth 100000 in
set_option maxHeartbeats 4000000 in
theorem drawPartAt (a : Option Addr) (len cap : Nat) (code : List UInt8) (w : World) (h : Sl w a len code) (hln : len ≤ 1099511627776) :
    Calls Tryd.prog 17 #[.slice a len cap] w fun e w' => GotPart w e w' := by
  obtain ⟨i0, hif, hz0, hz1, hz2⟩ := info_parts infoP
  obtain ⟨j0, hjf, hy0, hy1, hy2⟩ := info_parts info9
  obtain ⟨wr, hwr⟩ : ∃ wr, w.alloc (.cells #[.string ⟨#[]⟩, .string ⟨#[]⟩] 28) = wr := ⟨_, rfl⟩
  have hBr : Below w.heap.size w wr := by rw [← hwr]; exact (Below.refl _ _).alloc (Nat.le_refl _) _
  have hsr : wr.heap.size = w.heap.size + 1 := by rw [← hwr]; simp
  have hRr : PBox wr w.heap.size (⟨#[]⟩, ⟨#[]⟩) := by rw [← hwr]; exact pbox_new w (⟨#[]⟩, ⟨#[]⟩)
  go_enter Tryd.func17, Tryd.ntmps17
  go_wp2_with (at_builtin; fail)
  (try rw [hwr])
  clear hwr
  refine (new_ w wr a len cap code h hBr hln).mono ?_
  rintro e w1 ⟨rfl, hC1, hB1⟩
  rw [hsr] at hC1 ⊢
  have hR1 := hRr.below hB1
  have hlt1 := hC1.lt
  clear hRr hB1 hBr hsr
  go_wp2_with (at_builtin; fail)
  refine (d_pairsG w _ _ a len cap code hC1).mono ?_
  rintro e w2 ⟨g, n, cp, l, hn, ht, rfl, hO2, hC2, hG2⟩
  have hgg := hO2.lt.1
  have hR2 := hR1.grown hG2 (by simp)
  go_wp2_with (at_builtin; fail)
  refine (d_val w _ _ a len cap code hC2).mono ?_
  rintro e w3 ⟨z, hz, rfl, hC3, hG3⟩
  have hO3 := hO2.grown hG3 (by simp; omega)
  have hR3 := hR2.grown hG3 (by simp)
  have hc3 : n + 1 ≤ maxLen := by unfold maxLen; omega
  have hc4 : (n + 1) * 32 ≤ 140737488355328 := by omega
  have hzz : small ((⟨#[122, 122]⟩ : ByteArray), z) := ⟨by show (⟨#[122, 122]⟩ : ByteArray).size ≤ maxLen; decide, Nat.le_trans hz (by decide)⟩
  have hgl := hO3.lt
  have hs13 : w1.heap.size ≤ w3.heap.size := Nat.le_trans hG2.size hG3.size
  clear hO2 hC2 hG2 hG3 hC1 hR1 hR2
  go_wp2_with (at_builtin; refine wpList_append_own _ rfl (.tmp 16) (.tmp 20) 24 rfl w1.heap.size 28 i0 (.agg #[.string ⟨#[]⟩, .string ⟨#[]⟩]) 2 32 Tryd.underlying24 hif hz0 hz1 hz2 rfl (by decide) _ _ _ rfl (hO3.2.2.alloc _) ⟨w3.heap.size, 0, none⟩ 1 1 (pairVals [((⟨#[122, 122]⟩ : ByteArray), z)]) rfl rfl (one_pair_cells _ _ _) (pairVals_oneCell _) hc3 hc4 (le_alloc _ _ hs13) ?_)
  intro v4 w4 hown hgrow hnn
  obtain ⟨g4, cp4, hv, hO4⟩ := ownP_app hO3.1 hO3.2.1 hzz hnn hown
  subst hv
  have hgr : (w3.alloc (.cells #[.string ⟨#[122, 122]⟩, .string z] 28)).grownBy w4 (some g) := hgrow
  have hBa : Below w3.heap.size w3 (w3.alloc (.cells #[.string ⟨#[122, 122]⟩, .string z] 28)) := (Below.refl _ _).alloc (Nat.le_refl _) _
  have hC4 := (hC3.below hBa).grown hgr (by simp; omega) (fun k e => by cases e; have := hC3.bel.size; have := hC3.ge; omega)
  have hR4 := (hR3.below hBa).grown hgr (by simp; omega)
  have hl4 := hO4.1
  have htiny : ∀ p ∈ l ++ [((⟨#[122, 122]⟩ : ByteArray), z)], tiny p := fun p hp => by
    rcases List.mem_append.1 hp with h1 | h1
    · exact good1_tiny ht.1 p h1
    · rw [List.mem_singleton.1 h1]; exact ⟨by show (⟨#[122, 122]⟩ : ByteArray).size ≤ 13; decide, by show z.size ≤ 21; omega⟩
  generalize l ++ [((⟨#[122, 122]⟩ : ByteArray), z)] = L at *
  have HO4 := Hid.mk' hO4
  have HT := Hid.mk' htiny
  have hgg4 := hO4.lt.1
  clear hown hgrow hnn hO3 hC3 hgr hO4 hR3 hBa hzz ht htiny
  go_wp2_with (at_builtin; fail)
  refine (below_ w _ _ a len cap code _ hC4 (by omega) (by omega)).mono ?_
  rintro e w5 ⟨i, hi, rfl, hC5, hG5⟩
  have hO5 := HO4.out.grown hG5 (by simp; omega)
  have hR5 := hR4.grown hG5 (by simp)
  have hil : i < L.length := by omega
  have q1 := hO5.key i hil
  have q2 := hO5.val i hil
  have hti := HT.out _ (List.getElem_mem hil)
  have hi1 : (i : Int) < ((n + 1 : Nat) : Int) := by omega
  obtain ⟨w6, hw6⟩ : ∃ w6, w5.alloc (.cells #[.string L[i].1, .string L[i].2] 28) = w6 := ⟨_, rfl⟩
  have hV6 : PBox w6 w5.heap.size L[i] := by rw [← hw6]; exact pbox_new w5 L[i]
  have hB6 : Below w5.heap.size w5 w6 := by rw [← hw6]; exact (Below.refl _ _).alloc (Nat.le_refl _) _
  have hs6 : w6.heap.size = w5.heap.size + 1 := by rw [← hw6]; simp
  have HO6 := Hid.mk' (hO5.below hB6)
  have hC6 := hC5.below hB6
  have hR6 := hR5.below hB6
  have hgl5 := hO5.lt
  have hlt5 := hC5.lt
  have hL60 : L.length ≤ 60 := by omega
  have hlim : ∀ p ∈ L, lim p := fun p hp => ⟨Nat.le_trans (HT.out p hp).1 (by omega), Nat.le_trans (HT.out p hp).2 (by omega)⟩
  have hcp6 := HO6.out.cases.1
  have HPT : Hid (Calls Tryd.prog 50 #[.slice (some ⟨g4, 0, none⟩) (n + 1) cp4, .int .i64 (i : Int)] w6 fun e w' =>
      ∃ g' n' cap', e = .returned (.slice (some ⟨g', 0, none⟩) n' cap') ∧ OwnS w' w6.heap.size g' n' cap' (path L i) ∧ Below w6.heap.size w6 w') := by
    have := spec_l4Path L.length L rfl hL60 hlim i g4 0 cp4 w6 hil (by have := HO6.out.sl; rw [← hl4] at this; exact this) (by omega)
    rw [hl4] at this; exact this
  have hpsm := path_small L i
  have hpl := path_length L i
  have hpd := depth_le i L.length
  clear HO4 hG5 hC4 hR4 hO5 hR5 hC5
  generalize L[i] = p at *
  go_wp2_with (at_builtin; fail)
  (try rw [hw6])
  clear hw6 q1 q2
  refine HPT.out.mono ?_
  rintro e w7 ⟨gp, np, cpp, rfl, hP7, hb7⟩
  have hnp := hP7.1
  have hbw : w.heap.size ≤ w6.heap.size := hC6.bel.size
  have hgp := hP7.lt.1
  have HD : Hid (Part w w7 (w.heap.size + 1) a len cap code w.heap.size w5.heap.size g4 (n + 1) cp4 L p gp np cpp (path L i)) :=
    ⟨hC6.below hb7, hR6.below hb7, hV6.below hb7, (HO6.out.below hb7).mono (by omega), hP7.mono hbw, Nat.le_refl _, by omega, by omega, by omega, by omega, by omega, by omega, by omega, by omega⟩
  have hc7 := HD.out.cur
  have hPsz : ∀ s ∈ path L i, s.size ≤ 32 := fun s hs => by rw [hpsm s hs]; exact Nat.le_refl _
  have hnp60 : np ≤ 60 := by omega
  generalize path L i = P at *
  clear HPT hP7 hb7 hC6 hR6 hV6 HO6 hpsm hpl hpd hB6
  go_wp2_with (at_builtin; fail)
  refine (below_ w _ _ a len cap code _ hc7 (by omega) (by omega)).mono ?_
  rintro e w8 ⟨x, hx, rfl, hC8, hG8⟩
  have hD8 := HD.out.drawn hC8 hG8
  clear HD hc7 hG8
  by_cases x0 : x = 0
  · subst x0
    have hps2 : p.2.size ≤ 21 := hti.2
    have u0 := hD8.var.c1
    have u1 := hD8.var.fz 1
    obtain ⟨z0, hz0'⟩ : ∃ z0, p.2 ++ (⟨#[120]⟩ : ByteArray) = z0 := ⟨_, rfl⟩
    have hzs : z0.size ≤ 22 := by rw [← hz0', ByteArray.size_append]; have := hti.2; show p.2.size + 1 ≤ 22; omega
    obtain ⟨w9, hw9⟩ : ∃ w9, w8.setCell ⟨w5.heap.size, 1, none⟩ (.string z0) = w9 := ⟨_, rfl⟩
    have hD9 := hD8.setVar z0
    rw [hw9] at hD9
    obtain ⟨y1, y2, y3⟩ := hD9.done
    have k0 := hD9.var.c0
    have k1 := hD9.var.c1
    have r0 := hD9.res.c0
    have r1 := hD9.res.c1
    have f0 := hD9.res.fz 0
    have f1 := hD9.res.fz 1
    have HF := Hid.mk' (And.intro y1 (And.intro y2 y3))
    clear hD9 y1 y2 y3
    clear hD8
    go_wp2_with (at_builtin; fail)
    go_region
    all_goals
      go_wp2_with (at_builtin; fail)
      refine bodyPost_ret (v := .tuple #[.slice (some ⟨g4, 0, none⟩) (n + 1) cp4, .agg #[.string p.1, .string z0], .int .i64 (i : Int), .int .i64 ((n : Int) + 1), .slice (some ⟨gp, 0, none⟩) np cpp]) ?_ rfl ⟨g4, (n + 1), cp4, L, (p.1, z0), i, ((n : Int) + 1), gp, np, cpp, P, by omega, HT.out, hti.1, hzs, by omega, by omega, by omega, by omega, hPsz, rfl, HF.out.1.below (Below.refl _ _).drew, HF.out.2.1.below (Below.refl _ _).drew, HF.out.2.2.drew⟩
      simp [results, Tryd.results17, go_sem, r0, r1]
  by_cases x1 : x = 1
  · subst x1
    have hb9 : Below w8.heap.size w8 (w8.alloc (.cells #[.int .i64 0, .int .i64 ((n : Int) + 1 + 1), .int .i64 61, .int .i64 (n : Int)] 3)) := (Below.refl _ _).alloc (Nat.le_refl _) _
    have hD9 := hD8.below hb9
    have hlt9 := hD8.cur.lt
    clear hD8
    go_wp2_with (at_builtin; fail)
    refine (int_ w _ _ a len cap code w8.heap.size 4 4 _ _ hD9.cur (heap_alloc_new w8 _) rfl (by omega) (by omega) (by omega) (fun z => -1 ≤ z ∧ z ≤ 61) ?_).mono ?_
    · intro i hi
      match i, hi with
      | 0, _ => exact ⟨_, rfl, by omega⟩
      | 1, _ => exact ⟨_, rfl, by omega⟩
      | 2, _ => exact ⟨_, rfl, by omega⟩
      | 3, _ => exact ⟨_, rfl, by omega⟩
    rintro e w9 ⟨N, hN, rfl, hC9, hG9⟩
    have hD10 := hD9.drawn hC9 hG9
    obtain ⟨y1, y2, y3⟩ := hD10.done
    have k0 := hD10.var.c0
    have k1 := hD10.var.c1
    have r0 := hD10.res.c0
    have r1 := hD10.res.c1
    have f0 := hD10.res.fz 0
    have f1 := hD10.res.fz 1
    have HF := Hid.mk' (And.intro y1 (And.intro y2 y3))
    clear hD10 y1 y2 y3
    clear hD9 hC9 hG9
    go_wp2_with (at_builtin; fail)
    go_region
    all_goals
      go_wp2_with (at_builtin; fail)
      refine bodyPost_ret (v := .tuple #[.slice (some ⟨g4, 0, none⟩) (n + 1) cp4, .agg #[.string p.1, .string p.2], .int .i64 (i : Int), .int .i64 N, .slice (some ⟨gp, 0, none⟩) np cpp]) ?_ rfl ⟨g4, (n + 1), cp4, L, (p.1, p.2), i, N, gp, np, cpp, P, by omega, HT.out, hti.1, (Nat.le_trans hti.2 (by omega)), by omega, by omega, by omega, by omega, hPsz, rfl, HF.out.1.below (Below.refl _ _).drew, HF.out.2.1.below (Below.refl _ _).drew, HF.out.2.2.drew⟩
      simp [results, Tryd.results17, go_sem, r0, r1]
  by_cases x2 : x = 2
  · subst x2
    go_wp2_with (at_builtin; fail)
    refine (d_any w _ _ a len cap code hD8.cur).mono ?_
    rintro e w9 ⟨g9, n9, cp9, l9, hn9, ht9, rfl, hO9, hC9, hG9⟩
    have hD9 := hD8.newRow hO9 hC9 hG9
    obtain ⟨y1, y2, y3⟩ := hD9.done
    have k0 := hD9.var.c0
    have k1 := hD9.var.c1
    have r0 := hD9.res.c0
    have r1 := hD9.res.c1
    have f0 := hD9.res.fz 0
    have f1 := hD9.res.fz 1
    have HF := Hid.mk' (And.intro y1 (And.intro y2 y3))
    clear hD9 y1 y2 y3
    clear hD8 hO9 hC9 hG9
    go_wp2_with (at_builtin; fail)
    go_region
    all_goals
      go_wp2_with (at_builtin; fail)
      refine bodyPost_ret (v := .tuple #[.slice (some ⟨g9, 0, none⟩) n9 cp9, .agg #[.string p.1, .string p.2], .int .i64 (i : Int), .int .i64 ((n : Int) + 1), .slice (some ⟨gp, 0, none⟩) np cpp]) ?_ rfl ⟨g9, n9, cp9, l9, (p.1, p.2), i, ((n : Int) + 1), gp, np, cpp, P, by omega, ht9, hti.1, (Nat.le_trans hti.2 (by omega)), by omega, by omega, by omega, by omega, hPsz, rfl, HF.out.1.below (Below.refl _ _).drew, HF.out.2.1.below (Below.refl _ _).drew, HF.out.2.2.drew⟩
      simp [results, Tryd.results17, go_sem, r0, r1]
  by_cases x3 : x = 3
  · subst x3
    by_cases hnp0 : 0 < np
    · have hBa : Below w8.heap.size w8 (w8.alloc (.cells #[.int .u8 7] 5)) := (Below.refl _ _).alloc (Nat.le_refl _) _
      have HDG := Hid.mk' (sha.spec_digest w8.heap.size 0 1 1 [7] _ (sl_one w8 7 7 rfl) (by omega))
      obtain ⟨d9, hd9, hz9⟩ : ∃ d9 : ByteArray, (⟨(sha.digest [7]).toArray⟩ : ByteArray) = d9 ∧ d9.size = 32 := ⟨_, rfl, by show (sha.digest [7]).toArray.size = 32; rw [List.size_toArray]; exact sha.digest_length _⟩
      rw [hd9] at HDG
      have hnpi : (0 : Int) < (np : Int) := by omega
      have HD8 := Hid.mk' (hD8.below hBa)
      clear hD8 hd9
      go_wp2_with (at_builtin; fail)
      refine HDG.out.mono ?_
      rintro e w9 ⟨rfl, hb9⟩
      have hD9 := HD8.out.below hb9
      have hPl : 0 < P.length := by have := hD9.path.1; omega
      have s0 := hD9.path.at 0 hPl
      have s1 := hD9.path.2.2.frozenAt 0
      have R := ownS_set hD9.path 0 d9 (by rw [hz9]; decide)
      obtain ⟨w10, hw10⟩ : ∃ w10, w9.setCell ⟨gp, 0, none⟩ (.string d9) = w10 := ⟨_, rfl⟩
      rw [hw10] at R
      have hD10 := hD9.newPath R.1 R.2
      have hPs9 : ∀ s ∈ P.set 0 d9, s.size ≤ 32 := fun s hs => by
        rcases List.mem_or_eq_of_mem_set hs with h1 | h1
        · exact hPsz s h1
        · subst h1; omega
      obtain ⟨y1, y2, y3⟩ := hD10.done
      have k0 := hD10.var.c0
      have k1 := hD10.var.c1
      have r0 := hD10.res.c0
      have r1 := hD10.res.c1
      have f0 := hD10.res.fz 0
      have f1 := hD10.res.fz 1
      have HF := Hid.mk' (And.intro y1 (And.intro y2 y3))
      clear hD10 y1 y2 y3
      clear hD9 R HDG HD8 hb9 hBa
      go_wp2_with (at_builtin; fail)
      go_region
      all_goals
        go_wp2_with (at_builtin; fail)
        refine bodyPost_ret (v := .tuple #[.slice (some ⟨g4, 0, none⟩) (n + 1) cp4, .agg #[.string p.1, .string p.2], .int .i64 (i : Int), .int .i64 ((n : Int) + 1), .slice (some ⟨gp, 0, none⟩) np cpp]) ?_ rfl ⟨g4, (n + 1), cp4, L, (p.1, p.2), i, ((n : Int) + 1), gp, np, cpp, (P.set 0 d9), by omega, HT.out, hti.1, (Nat.le_trans hti.2 (by omega)), by omega, by omega, by omega, by omega, hPs9, rfl, HF.out.1.below (Below.refl _ _).drew, HF.out.2.1.below (Below.refl _ _).drew, HF.out.2.2.drew⟩
        simp [results, Tryd.results17, go_sem, r0, r1]
    · have hnpi : ¬ (0 : Int) < (np : Int) := by omega
      obtain ⟨y1, y2, y3⟩ := hD8.done
      have k0 := hD8.var.c0
      have k1 := hD8.var.c1
      have r0 := hD8.res.c0
      have r1 := hD8.res.c1
      have f0 := hD8.res.fz 0
      have f1 := hD8.res.fz 1
      have HF := Hid.mk' (And.intro y1 (And.intro y2 y3))
      clear hD8 y1 y2 y3
      go_wp2_with (at_builtin; fail)
      go_region
      all_goals
        go_wp2_with (at_builtin; fail)
        refine bodyPost_ret (v := .tuple #[.slice (some ⟨g4, 0, none⟩) (n + 1) cp4, .agg #[.string p.1, .string p.2], .int .i64 (i : Int), .int .i64 ((n : Int) + 1), .slice (some ⟨gp, 0, none⟩) np cpp]) ?_ rfl ⟨g4, (n + 1), cp4, L, (p.1, p.2), i, ((n : Int) + 1), gp, np, cpp, P, by omega, HT.out, hti.1, (Nat.le_trans hti.2 (by omega)), by omega, by omega, by omega, by omega, hPsz, rfl, HF.out.1.below (Below.refl _ _).drew, HF.out.2.1.below (Below.refl _ _).drew, HF.out.2.2.drew⟩
        simp [results, Tryd.results17, go_sem, r0, r1]
  by_cases x4 : x = 4
  · subst x4
    have hO8 := hD8.path
    have hs8 : w.heap.size ≤ w8.heap.size := hD8.cur.bel.size
    have hc5 : np + 1 ≤ maxLen := by unfold maxLen; omega
    have hc6 : (np + 1) * 16 ≤ 140737488355328 := by omega
    have HD8 := Hid.mk' (hD8.below (w' := w8.alloc (.cells #[.string ⟨#[120]⟩] 9)) ((Below.refl _ _).alloc (Nat.le_refl _) _))
    clear hD8
    go_wp2_with (at_builtin; refine wpList_append_own _ rfl (.tmp 67) (.tmp 68) 32 rfl w.heap.size 9 j0 (.string ⟨#[]⟩) 1 16 Tryd.underlying32 hjf hy0 hy1 hy2 rfl (by decide) _ _ _ rfl (hO8.2.2.alloc _) ⟨w8.heap.size, 0, none⟩ 1 1 [.string ⟨#[120]⟩] rfl rfl (cell_one_new _ _ _) (str_oneCell _) hc5 hc6 (le_alloc _ _ hs8) ?_)
    intro v9 w9 hown hgrow hnn
    have hgr9 : (w8.alloc (.cells #[.string ⟨#[120]⟩] 9)).grownBy w9 (some gp) := hgrow
    have hnn' : ¬ v9 = .slice none 0 0 := by simpa using hnn
    have hsmx : ∀ s ∈ P ++ [(⟨#[120]⟩ : ByteArray)], s.size ≤ maxLen := fun s hs => by
      rcases List.mem_append.1 hs with h1 | h1
      · exact hO8.2.1 s h1
      · rw [List.mem_singleton.1 h1]; decide
    obtain ⟨g9, cap9, hv, hO9⟩ := ownS_val (ss := P ++ [(⟨#[120]⟩ : ByteArray)]) (n := np + 1) (by have := hO8.1; simp; omega) hsmx hnn' (by simpa [strVals] using hown)
    subst hv
    have hD9 := HD8.out.newPath hO9 hgr9
    have hPs9 : ∀ s ∈ P ++ [(⟨#[120]⟩ : ByteArray)], s.size ≤ 32 := fun s hs => by
      rcases List.mem_append.1 hs with h1 | h1
      · exact hPsz s h1
      · rw [List.mem_singleton.1 h1]; decide
    obtain ⟨y1, y2, y3⟩ := hD9.done
    have k0 := hD9.var.c0
    have k1 := hD9.var.c1
    have r0 := hD9.res.c0
    have r1 := hD9.res.c1
    have f0 := hD9.res.fz 0
    have f1 := hD9.res.fz 1
    have HF := Hid.mk' (And.intro y1 (And.intro y2 y3))
    clear hD9 y1 y2 y3
    clear hown hgrow hgr9 hnn hnn' hO8 hO9 HD8 hsmx
    go_wp2_with (at_builtin; fail)
    go_region
    all_goals
      go_wp2_with (at_builtin; fail)
      refine bodyPost_ret (v := .tuple #[.slice (some ⟨g4, 0, none⟩) (n + 1) cp4, .agg #[.string p.1, .string p.2], .int .i64 (i : Int), .int .i64 ((n : Int) + 1), .slice (some ⟨g9, 0, none⟩) (np + 1) cap9]) ?_ rfl ⟨g4, (n + 1), cp4, L, (p.1, p.2), i, ((n : Int) + 1), g9, (np + 1), cap9, (P ++ [(⟨#[120]⟩ : ByteArray)]), by omega, HT.out, hti.1, (Nat.le_trans hti.2 (by omega)), by omega, by omega, by omega, by omega, hPs9, rfl, HF.out.1.below (Below.refl _ _).drew, HF.out.2.1.below (Below.refl _ _).drew, HF.out.2.2.drew⟩
      simp [results, Tryd.results17, go_sem, r0, r1]
  · have e0 : ((x : Int) == 0) = false := by rw [beq_eq_false_iff_ne]; omega
    have e1 : ((x : Int) == 1) = false := by rw [beq_eq_false_iff_ne]; omega
    have e2 : ((x : Int) == 2) = false := by rw [beq_eq_false_iff_ne]; omega
    have e3 : ((x : Int) == 3) = false := by rw [beq_eq_false_iff_ne]; omega
    have e4 : ((x : Int) == 4) = false := by rw [beq_eq_false_iff_ne]; omega
    obtain ⟨y1, y2, y3⟩ := hD8.done
    have k0 := hD8.var.c0
    have k1 := hD8.var.c1
    have r0 := hD8.res.c0
    have r1 := hD8.res.c1
    have f0 := hD8.res.fz 0
    have f1 := hD8.res.fz 1
    have HF := Hid.mk' (And.intro y1 (And.intro y2 y3))
    clear hD8 y1 y2 y3
    go_wp2_with (at_builtin; fail)
    go_region
    all_goals
      go_wp2_with (at_builtin; fail)
      refine bodyPost_ret (v := .tuple #[.slice (some ⟨g4, 0, none⟩) (n + 1) cp4, .agg #[.string p.1, .string p.2], .int .i64 (i : Int), .int .i64 ((n : Int) + 1), .slice (some ⟨gp, 0, none⟩) np cpp]) ?_ rfl ⟨g4, (n + 1), cp4, L, (p.1, p.2), i, ((n : Int) + 1), gp, np, cpp, P, by omega, HT.out, hti.1, (Nat.le_trans hti.2 (by omega)), by omega, by omega, by omega, by omega, hPsz, rfl, HF.out.1.below (Below.refl _ _).drew, HF.out.2.1.below (Below.refl _ _).drew, HF.out.2.2.drew⟩
      simp [results, Tryd.results17, go_sem, r0, r1]
end Go.Proofs.YtdebbgodhpcijaaDoor.pairs
