/- Draws of pairs that are right, two ends and a proof, bent or not. -/
import Derived.Test.YtdebbgodhpcijaaGreatDoorLieB
import Derived.Test.YtdebbgodhpcijaaGreatDoorDrawG
namespace Go.Proofs.YtdebbgodhpcijaaGreatDoor.range
open Go Go.RowKit Go.Proofs.YtdebbgodhpcijaaGreatDoor.base Go.Proofs.YtdebbgodhpcijaaGreatDoor.pairs Go.Proofs.YtdebbgodhpcijaaGreatDoor.tree Go.Proofs.YtdebbgodhpcijaaGreatDoor.draw
set_option linter.unusedVariables false
set_option linter.unusedSimpArgs false

def GotLie (w : World) (e : Ending) (w' : World) : Prop :=
  ∃ (g n cp : Nat) (l : List Pr) (lo hi : ByteArray) (N FR : Int) (sa : Option Addr) (sm sc : Nat) (L : List It), n ≤ 8 ∧ pairsOk l = true ∧ lo.size ≤ 13 ∧ hi.size ≤ 13 ∧ Bounds N FR ∧ sm ≤ 100 ∧ (∀ x ∈ L, tinyI x) ∧
    e = .returned (.tuple #[.slice (some ⟨g, 0, none⟩) n cp, .string lo, .string hi, .agg #[.int .i64 N, .int .i64 FR, .slice sa sm sc]]) ∧ OwnP w' w.heap.size g n cp l ∧ SlJ w' sa sm L ∧ Below w.heap.size w w'
theorem prove_small (l : List Pr) (lo hi : ByteArray) (hl : l.length ≤ 8) (ht : ∀ p ∈ l, tiny p) : (0 ≤ (prove l lo hi).n ∧ (prove l lo hi).n ≤ 60) ∧ (0 ≤ (prove l lo hi).fr ∧ (prove l lo hi).fr ≤ 60) ∧ (prove l lo hi).items.length ≤ 8 ∧ ∀ x ∈ (prove l lo hi).items, tinyJ x := by
  unfold prove
  split
  · have hto := toN_le lo hi l
    refine ⟨by simp only []; omega, ?_, ?_, ?_⟩
    · simp only []
      split <;> omega
    · simp only [itemsTo_length]; omega
    · intro x hx
      simp only [itemsTo, List.mem_map, List.mem_range'_1] at hx
      obtain ⟨i, ⟨h1, h2⟩, rfl⟩ := hx
      have hil : i < l.length := by omega
      unfold itemAt
      rw [List.getElem?_eq_getElem hil]
      have htp := ht _ (List.getElem_mem hil)
      have hpl := path_length l i
      have hpd := depth_le i l.length
      exact ⟨htp, by show (path l i).length ≤ 60; omega, fun s hs => Nat.le_of_eq (path_small l i s hs)⟩
  · unfold zeroPrf
    refine ⟨by simp, by simp, by simp, ?_⟩
    intro x hx
    simp at hx
set_option maxRecDepth 100000 in
set_option maxHeartbeats 4000000 in
theorem drawLie (a : Option Addr) (len cap : Nat) (code : List UInt8) (w : World) (h : Sl w a len code) (hln : len ≤ 1099511627776) :
    Calls Tryz.prog 5 #[.slice a len cap] w fun e w' => GotLie w e w' := by
  obtain ⟨wr, hwr⟩ : ∃ wr, w.alloc (.cells #[.int .i64 0, .int .i64 0, .slice none 0 0] 27) = wr := ⟨_, rfl⟩
  have hBr : Below w.heap.size w wr := by rw [← hwr]; exact (Below.refl _ _).alloc (Nat.le_refl _) _
  have hsr : wr.heap.size = w.heap.size + 1 := by rw [← hwr]; simp
  have hRr : V3 wr w.heap.size 27 (.int .i64 0) (.int .i64 0) (.slice none 0 0) := by rw [← hwr]; exact heap_alloc_new w _
  go_enter Tryz.func5, Tryz.ntmps5
  go_wp2_with (at_builtin; fail)
  (try rw [hwr])
  clear hwr
  refine (new_ w wr a len cap code h hBr hln).mono ?_
  rintro e w1 ⟨rfl, hC1, hB1⟩
  rw [hsr] at hC1 ⊢
  have hR1 := hRr.below hB1
  have hlt1 := hC1.lt
  clear hRr hB1 hBr hsr
  go_wp2_with (at_builtin; fail)
  refine (d_pairsG w _ _ a len cap code hC1).mono ?_
  rintro e w2 ⟨g, n, cp, l, hn, hgd, rfl, hO2, hC2, hG2⟩
  have hgg := hO2.lt.1
  have hR2 := v3_grown hR1 hG2 (by simp)
  clear hC1 hR1
  go_wp2_with (at_builtin; fail)
  refine (d_ends w _ _ a len cap code hC2).mono ?_
  rintro e w3 ⟨lo, hi, hlo, hhi, rfl, hC3, hG3⟩
  have hO3 := (hO2.grown hG3 (by simp; omega)).mono (base' := w.heap.size) (by have := hC2.bel.size; omega)
  have hR3 := v3_grown hR2 hG3 (by simp)
  have hl := hO3.1
  have htiny := good1_tiny hgd.1
  have hlim : ∀ p ∈ l, lim p := fun p hp => ⟨Nat.le_trans (htiny p hp).1 (by omega), Nat.le_trans (htiny p hp).2 (by omega)⟩
  have hsml := prove_small l lo hi (by omega) htiny
  have HPB := Hid.mk' (spec_proveBetween g 0 n cp l lo hi w3 hO3.sl hO3.cases.1 hlim)
  generalize prove l lo hi = F at *
  obtain ⟨fn, ffr, its⟩ := F
  simp only [] at hsml
  have hgl3 := hO3.lt.2
  clear hO2 hC2 hG2 hG3 hR2 hlim
  go_wp2_with (at_builtin; fail)
  refine HPB.out.mono ?_
  rintro e w4 ⟨sa, sm, sc, hs, rfl, hI4, hb4⟩
  change OwnI w4 _ (.slice sa sm sc) its hs at hI4
  have hO4 := hO3.below hb4
  have hR4 := hR3.below hb4
  have hC4 := hC3.below hb4
  have hsm : sm ≤ 8 := by
    rcases hI4.shape with ⟨e, _, _⟩ | ⟨gg, cg, e, _, _⟩
    · cases e; omega
    · cases e; exact hsml.2.2.1
  have hJ4 := hI4.slJ (by have := hsml.2.2.1; omega) (fun x hx => (hsml.2.2.2 x hx).tiny.lim)
  obtain ⟨w5, hw5⟩ : ∃ w5, w4.alloc (.cells #[.int .i64 fn, .int .i64 ffr, .slice sa sm sc] 27) = w5 := ⟨_, rfl⟩
  have hb5 : Below w4.heap.size w4 w5 := by rw [← hw5]; exact (Below.refl _ _).alloc (Nat.le_refl _) _
  have hV5 : V3 w5 w4.heap.size 27 (.int .i64 fn) (.int .i64 ffr) (.slice sa sm sc) := by rw [← hw5]; exact heap_alloc_new w4 _
  have hO5 := hO4.below hb5
  have hR5 := hR4.below hb5
  have hC5 := hC4.below hb5
  have hJ5 := hJ4.below hb5
  have hlt4 := hC4.lt
  have hgl4 := hO4.lt.2
  have HW5 := Hid.mk' hw5
  have htJ := hsml.2.2.2
  have htI : ∀ x ∈ its, tinyI x := fun x hx => (htJ x hx).tiny
  have hb1' := hsml.1
  have hb2' := hsml.2.1
  clear hI4 hb4 hO3 hR3 hC3 hO4 hR4 hC4 hJ4 HPB hw5 hsml hb5
  go_wp2_with (at_builtin; fail)
  rw [HW5.out]
  clear HW5
  refine (d_once w _ _ a len cap code _ hC5 (by omega) (by omega)).mono ?_
  rintro e w6 ⟨b6, rfl, hC6, hG6⟩
  have hV6 := v3_grown hV5 hG6 (by simp; omega)
  have hR6 := v3_grown hR5 hG6 (by simp)
  have hO6 := hO5.grown hG6 (by simp; omega)
  have hJ6 := slJ_keep hJ5 (cur_noStr hC5) hG6
  clear hG6 hC5 hV5 hR5 hO5 hJ5
  cases b6 with
  | true =>
    have y0 := hV6.c0
    have y1 := hV6.c1
    have y2 := hV6.c2
    have HBD := Hid.mk' (d_bend w w6 (w.heap.size + 1) a len cap code hC6 fn ffr sa sm sc its hJ6 (by omega) hb1' hb2' htJ)
    go_wp2_with (at_builtin; fail)
    refine HBD.out.mono ?_
    rintro e w7 ⟨N, FR, sa7, sm7, sc7, L7, rfl, hbnd, hm7, ht7, hJ7, hC7, hG7⟩
    have hV7 := v3_grown hV6 hG7 (by simp; omega)
    have hR7 := v3_grown hR6 hG7 (by simp)
    have hO7 := hO6.grown hG7 (by simp; omega)
    have t0 := hV7.c0
    have t1 := hV7.c1
    have t2 := hV7.c2
    have f0 := v3_fz hV7 0
    have f1 := v3_fz hV7 1
    have f2 := v3_fz hV7 2
    have hA := v3_all hV7 (.int .i64 N) (.int .i64 FR) (.slice sa7 sm7 sc7)
    obtain ⟨w8, hw8⟩ : ∃ w8, ((w7.setCell ⟨w4.heap.size, 0, none⟩ (.int .i64 N)).setCell ⟨w4.heap.size, 1, none⟩ (.int .i64 FR)).setCell ⟨w4.heap.size, 2, none⟩ (.slice sa7 sm7 sc7) = w8 := ⟨_, rfl⟩
    rw [hw8] at hA
    have hV8 := hA.1
    have hR8 := v3_grown hR7 hA.2 (by simp; omega)
    have hO8 := hO7.grown hA.2 (by simp; omega)
    have hJ8 := slJ_keep hJ7 hV7.noStr hA.2
    have hC8 := hC7.grown hA.2 (by simp; omega) (fun k e => by cases e; omega)
    have HW8 := Hid.mk' hw8
    clear hw8 hA hJ6 hV6 hR6 hO6 hC6 hG7 hJ7 hV7 hR7 hO7 hC7 HBD y0 y1 y2
    go_wp2_with (at_builtin; fail)
    rw [HW8.out]
    clear HW8 t0 t1 t2 f0 f1 f2
    refine (d_once w _ _ a len cap code _ hC8 (by omega) (by omega)).mono ?_
    rintro e w9 ⟨b9, rfl, hC9, hG9⟩
    have hV9 := v3_grown hV8 hG9 (by simp; omega)
    have hR9 := v3_grown hR8 hG9 (by simp)
    have hO9 := hO8.grown hG9 (by simp; omega)
    have hJ9 := slJ_keep hJ8 (cur_noStr hC8) hG9
    clear hG9 hC8 hV8 hR8 hO8 hJ8
    cases b9 with
    | true =>
      go_wp2_with (at_builtin; fail)
      refine (d_ends w _ _ a len cap code hC9).mono ?_
      rintro e w10 ⟨lo2, hi2, hlo2, hhi2, rfl, hC10, hG10⟩
      have hV10 := v3_grown hV9 hG10 (by simp; omega)
      have hR10 := v3_grown hR9 hG10 (by simp)
      have hO10 := hO9.grown hG10 (by simp; omega)
      have hJ10 := slJ_keep hJ9 (cur_noStr hC9) hG10
      clear hG10 hC9 hV9 hR9 hO9 hJ9
      have z0 := hV10.c0
      have z1 := hV10.c1
      have z2 := hV10.c2
      have r0 := hR10.c0
      have r1 := hR10.c1
      have r2 := hR10.c2
      have q0 := v3_fz hR10 0
      have q1 := v3_fz hR10 1
      have q2 := v3_fz hR10 2
      have hfin := (v3_all hR10 (.int .i64 N) (.int .i64 FR) (.slice sa7 sm7 sc7)).2
      have HF : Hid (OwnP _ w.heap.size g n cp l ∧ SlJ _ sa7 sm7 L7 ∧ Below w.heap.size w _) := ⟨hO10.grown hfin (by simp; omega), slJ_keep hJ10 hR10.noStr hfin, hC10.bel.grown hfin hC10.bel.size (fun k e => by cases e; exact Nat.le_refl _)⟩
      clear hfin hC10 hV10 hR10 hO10 hJ10
      go_wp2_with (at_builtin; fail)
      go_region
      all_goals
        go_wp2_with (at_builtin; fail)
        refine bodyPost_ret (v := .tuple #[.slice (some ⟨g, 0, none⟩) n cp, .string lo2, .string hi2, .agg #[.int .i64 N, .int .i64 FR, .slice sa7 sm7 sc7]]) ?_ rfl ⟨g, n, cp, l, lo2, hi2, N, FR, sa7, sm7, sc7, L7, hn, hgd.1, hlo2, hhi2, hbnd, hm7, ht7, rfl, HF.out.1.below (Below.refl _ _).drew, HF.out.2.1.below (Below.refl _ _).drew, HF.out.2.2.drew⟩
        simp [results, Tryz.results5, go_sem, r0, r1, r2]
    | false =>
      have z0 := hV9.c0
      have z1 := hV9.c1
      have z2 := hV9.c2
      have r0 := hR9.c0
      have r1 := hR9.c1
      have r2 := hR9.c2
      have q0 := v3_fz hR9 0
      have q1 := v3_fz hR9 1
      have q2 := v3_fz hR9 2
      have hfin := (v3_all hR9 (.int .i64 N) (.int .i64 FR) (.slice sa7 sm7 sc7)).2
      have HF : Hid (OwnP _ w.heap.size g n cp l ∧ SlJ _ sa7 sm7 L7 ∧ Below w.heap.size w _) := ⟨hO9.grown hfin (by simp; omega), slJ_keep hJ9 hR9.noStr hfin, hC9.bel.grown hfin hC9.bel.size (fun k e => by cases e; exact Nat.le_refl _)⟩
      clear hfin hC9 hV9 hR9 hO9 hJ9
      go_wp2_with (at_builtin; fail)
      go_region
      all_goals
        go_wp2_with (at_builtin; fail)
        refine bodyPost_ret (v := .tuple #[.slice (some ⟨g, 0, none⟩) n cp, .string lo, .string hi, .agg #[.int .i64 N, .int .i64 FR, .slice sa7 sm7 sc7]]) ?_ rfl ⟨g, n, cp, l, lo, hi, N, FR, sa7, sm7, sc7, L7, hn, hgd.1, hlo, hhi, hbnd, hm7, ht7, rfl, HF.out.1.below (Below.refl _ _).drew, HF.out.2.1.below (Below.refl _ _).drew, HF.out.2.2.drew⟩
        simp [results, Tryz.results5, go_sem, r0, r1, r2]
  | false =>
    go_wp2_with (at_builtin; fail)
    refine (d_once w _ _ a len cap code _ hC6 (by omega) (by omega)).mono ?_
    rintro e w9 ⟨b9, rfl, hC9, hG9⟩
    have hV9 := v3_grown hV6 hG9 (by simp; omega)
    have hR9 := v3_grown hR6 hG9 (by simp)
    have hO9 := hO6.grown hG9 (by simp; omega)
    have hJ9 := slJ_keep hJ6 (cur_noStr hC6) hG9
    clear hG9 hC6 hV6 hR6 hO6 hJ6
    cases b9 with
    | true =>
      go_wp2_with (at_builtin; fail)
      refine (d_ends w _ _ a len cap code hC9).mono ?_
      rintro e w10 ⟨lo2, hi2, hlo2, hhi2, rfl, hC10, hG10⟩
      have hV10 := v3_grown hV9 hG10 (by simp; omega)
      have hR10 := v3_grown hR9 hG10 (by simp)
      have hO10 := hO9.grown hG10 (by simp; omega)
      have hJ10 := slJ_keep hJ9 (cur_noStr hC9) hG10
      clear hG10 hC9 hV9 hR9 hO9 hJ9
      have z0 := hV10.c0
      have z1 := hV10.c1
      have z2 := hV10.c2
      have r0 := hR10.c0
      have r1 := hR10.c1
      have r2 := hR10.c2
      have q0 := v3_fz hR10 0
      have q1 := v3_fz hR10 1
      have q2 := v3_fz hR10 2
      have hfin := (v3_all hR10 (.int .i64 fn) (.int .i64 ffr) (.slice sa sm sc)).2
      have HF : Hid (OwnP _ w.heap.size g n cp l ∧ SlJ _ sa sm its ∧ Below w.heap.size w _) := ⟨hO10.grown hfin (by simp; omega), slJ_keep hJ10 hR10.noStr hfin, hC10.bel.grown hfin hC10.bel.size (fun k e => by cases e; exact Nat.le_refl _)⟩
      clear hfin hC10 hV10 hR10 hO10 hJ10
      go_wp2_with (at_builtin; fail)
      go_region
      all_goals
        go_wp2_with (at_builtin; fail)
        refine bodyPost_ret (v := .tuple #[.slice (some ⟨g, 0, none⟩) n cp, .string lo2, .string hi2, .agg #[.int .i64 fn, .int .i64 ffr, .slice sa sm sc]]) ?_ rfl ⟨g, n, cp, l, lo2, hi2, fn, ffr, sa, sm, sc, its, hn, hgd.1, hlo2, hhi2, ⟨by omega, by omega⟩, (by omega), htI, rfl, HF.out.1.below (Below.refl _ _).drew, HF.out.2.1.below (Below.refl _ _).drew, HF.out.2.2.drew⟩
        simp [results, Tryz.results5, go_sem, r0, r1, r2]
    | false =>
      have z0 := hV9.c0
      have z1 := hV9.c1
      have z2 := hV9.c2
      have r0 := hR9.c0
      have r1 := hR9.c1
      have r2 := hR9.c2
      have q0 := v3_fz hR9 0
      have q1 := v3_fz hR9 1
      have q2 := v3_fz hR9 2
      have hfin := (v3_all hR9 (.int .i64 fn) (.int .i64 ffr) (.slice sa sm sc)).2
      have HF : Hid (OwnP _ w.heap.size g n cp l ∧ SlJ _ sa sm its ∧ Below w.heap.size w _) := ⟨hO9.grown hfin (by simp; omega), slJ_keep hJ9 hR9.noStr hfin, hC9.bel.grown hfin hC9.bel.size (fun k e => by cases e; exact Nat.le_refl _)⟩
      clear hfin hC9 hV9 hR9 hO9 hJ9
      go_wp2_with (at_builtin; fail)
      go_region
      all_goals
        go_wp2_with (at_builtin; fail)
        refine bodyPost_ret (v := .tuple #[.slice (some ⟨g, 0, none⟩) n cp, .string lo, .string hi, .agg #[.int .i64 fn, .int .i64 ffr, .slice sa sm sc]]) ?_ rfl ⟨g, n, cp, l, lo, hi, fn, ffr, sa, sm, sc, its, hn, hgd.1, hlo, hhi, ⟨by omega, by omega⟩, (by omega), htI, rfl, HF.out.1.below (Below.refl _ _).drew, HF.out.2.1.below (Below.refl _ _).drew, HF.out.2.2.drew⟩
        simp [results, Tryz.results5, go_sem, r0, r1, r2]
end Go.Proofs.YtdebbgodhpcijaaGreatDoor.range
