/- Draws of words. -/
import Derived.Test.YtjodbijcgcjndaaBund10au
import Derived.Test.YtjodbijcgcjndaaBund10bc
namespace Go.Proofs.Ytjodbijcgcjndaa.wds
open Go Go.RowKit Go.Proofs.Ytjodbijcgcjndaa.base Go.Proofs.Ytjodbijcgcjndaa.pairs Go.Proofs.Ytjodbijcgcjndaa.draw Go.Proofs.Ytjodbijcgcjndaa.ords
set_option linter.unusedVariables false
set_option linter.unusedSimpArgs false

def tinyW (k s t : Int) (l : List Od) : Prop := (0 ≤ k ∧ k ≤ 5) ∧ (-1 ≤ s ∧ s ≤ 8) ∧ (0 ≤ t ∧ t ≤ 1000001) ∧ l.length ≤ 8 ∧ ∀ p ∈ l, tinyO p
theorem tinyW_ok {k s t : Int} {l : List Od} {y : Bool} (h : wordOk (k, s, t, l, y) = true) : tinyW k s t l := by
  obtain ⟨h1, h2, h3⟩ := ok_ranges h
  rw [wordOk_iff] at h
  refine ⟨by omega, by omega, by omega, ?_, ?_⟩
  · rcases h.2 with ⟨_, h4, _⟩ | ⟨_, h4⟩ | ⟨_, h4, _⟩
    · exact ((opsOk_iff _).1 h4).2.2
    · rw [h4]; simp
    · rw [h4]; simp
  · intro p hp
    rcases h.2 with ⟨_, h4, _⟩ | ⟨_, h4⟩ | ⟨_, h4, _⟩
    · exact tinyO_ok (((opsOk_iff _).1 h4).1.1 p hp)
    · rw [h4] at hp; exact absurd hp List.not_mem_nil
    · rw [h4] at hp; exact absurd hp List.not_mem_nil
def GotW (w0 w : World) (gc : Nat) (a : Option Addr) (len cap : Nat) (code : List UInt8) (e : Ending) (w' : World) : Prop :=
  ∃ (k s t : Int) (l : List Od) (y : Bool) (v : Value), wordOk (k, s, t, l, y) = true ∧ e = .returned (.agg #[.int .i64 k, .int .i64 s, .int .i64 t, v, .bool y]) ∧ OwnV w' w.heap.size v l ∧ Cur w0 w' gc a len cap code ∧ w.grownBy w' (some gc)
def GotAnyW (w0 w : World) (gc : Nat) (a : Option Addr) (len cap : Nat) (code : List UInt8) (e : Ending) (w' : World) : Prop :=
  ∃ (k s t : Int) (l : List Od) (y : Bool) (v : Value), tinyW k s t l ∧ e = .returned (.agg #[.int .i64 k, .int .i64 s, .int .i64 t, v, .bool y]) ∧ OwnV w' w.heap.size v l ∧ Cur w0 w' gc a len cap code ∧ w.grownBy w' (some gc)
theorem okW (k s t : Int) (l : List Od) (y : Bool) (h : ((0 ≤ s ∧ s ≤ 7) ∧ (1 ≤ t ∧ t ≤ 1000000)) ∧ ((k = 1 ∧ opsOk l = true ∧ y = false) ∨ ((k = 2 ∨ k = 3) ∧ l = []) ∨ (k = 4 ∧ l = [] ∧ y = false))) : wordOk (k, s, t, l, y) = true := (wordOk_iff k s t l y).2 h
set_option maxRecDepth 100000 in
set_option maxHeartbeats 2000000 in
theorem d_word (w0 w : World) (gc : Nat) (a : Option Addr) (len cap : Nat) (code : List UInt8) (h : Cur w0 w gc a len cap code) :
    Calls Try.prog 32 #[.pointer (some ⟨gc, 0, none⟩)] w fun e w' => GotW w0 w gc a len cap code e w' := by
  have hcl := h.lt
  have hge := h.ge
  obtain ⟨wa, hwa⟩ : ∃ wa, w.alloc (.cells #[.int .i64 0, .int .i64 0, .int .i64 0, .slice none 0 0, .bool false] 26) = wa := ⟨_, rfl⟩
  have hba : Below w.heap.size w wa := by rw [← hwa]; exact (Below.refl _ _).alloc (Nat.le_refl _) _
  have hRa : V5 wa w.heap.size 26 (.int .i64 0) (.int .i64 0) (.int .i64 0) (.slice none 0 0) (.bool false) := by rw [← hwa]; exact heap_alloc_new w _
  have HWA := Hid.mk' hwa
  clear hwa
  go_enter Try.func32, Try.ntmps32
  go_wp2_with fail
  rw [HWA.out]
  clear HWA
  refine (below_ w0 _ gc a len cap code _ (h.below hba) (by omega) (by omega)).mono ?_
  rintro e w1 ⟨x, hx, rfl, hc1, hg1⟩
  go_wp2_with fail
  refine (below_ w0 _ gc a len cap code _ hc1 (by omega) (by omega)).mono ?_
  rintro e w2 ⟨x2, hx2, rfl, hc2, hg2⟩
  go_wp2_with fail
  refine (below_ w0 _ gc a len cap code _ hc2 (by omega) (by omega)).mono ?_
  rintro e w3 ⟨x3, hx3, rfl, hc3, hg3⟩
  have hR3 := v5_grown (v5_grown (v5_grown hRa hg1 (by simp; omega)) hg2 (by simp; omega)) hg3 (by simp; omega)
  have hG3 : w.grownBy w3 (some gc) := grownBy_trans (grown_below (World.grownBy.refl _ _) hba) (grownBy_trans hg1 (grownBy_trans hg2 hg3))
  have hs3 : w.heap.size < w3.heap.size := hR3.lt
  have hcl3 := hc3.lt
  clear hRa hc1 hc2 hg1 hg2 hg3 hba
  have hcases : x = 0 ∨ x = 1 ∨ x = 2 ∨ x = 3 := by omega
  rcases hcases with rfl | rfl | rfl | rfl
  · obtain ⟨w4, hw4⟩ : ∃ w4, w3.alloc (.cells #[.int .i64 1, .int .i64 (x2 : Int), .int .i64 (1000 + (x3 : Int)), .slice none 0 0, .bool false] 26) = w4 := ⟨_, rfl⟩
    have hb4 : Below w3.heap.size w3 w4 := by rw [← hw4]; exact (Below.refl _ _).alloc (Nat.le_refl _) _
    have hV4 : V5 w4 w3.heap.size 26 (.int .i64 1) (.int .i64 (x2 : Int)) (.int .i64 (1000 + (x3 : Int))) (.slice none 0 0) (.bool false) := by rw [← hw4]; exact heap_alloc_new w3 _
    have hs4 : w4.heap.size = w3.heap.size + 1 := by rw [← hw4]; simp
    have hR4 := hR3.below hb4
    have hc4 := hc3.below hb4
    have hG4 := grown_below hG3 hb4
    have HW4 := Hid.mk' hw4
    clear hw4 hb4
    have HOP := Hid.mk' (d_ops w0 w4 gc a len cap code hc4)
    rw [← HW4.out] at HOP
    clear hR3 hc3 hG3 hc4
    go_wp2_with fail
    refine HOP.out.mono ?_
    rw [HW4.out]
    rintro e w5 ⟨g, n, cp, l, hn, hok, rfl, hO5, hc5, hg5⟩
    have hV5 := v5_grown hV4 hg5 (by simp; omega)
    have hR5 := v5_grown hR4 hg5 (by simp; omega)
    have hG5 := grownBy_trans hG4 hg5
    have hgl := hO5.lt
    have HOK := Hid.mk' (okW 1 (x2 : Int) (1000 + (x3 : Int)) l false ⟨⟨by omega, by omega⟩, .inl ⟨by omega, hok, rfl⟩⟩)
    clear HOP HW4 hV4 hR4 hG4 hg5 hok
    have t0 := hV5.c0
    have t1 := hV5.c1
    have t2 := hV5.c2
    have t3 := hV5.c3
    have t4 := hV5.c4
    have tf := v5_fz hV5 3
    have hset := v5_set3 hV5 (.slice (some ⟨g, 0, none⟩) n cp)
    have hR6 := v5_grown hR5 hset.2 (by simp; omega)
    have hc6 := hc5.grown hset.2 (by simp; omega) (fun k e => by cases e; omega)
    have hG6 := grown_own hG5 hset.2 (by omega)
    have hO6 := hO5.grown hset.2 (by simp; omega)
    have r0 := hR5.c0
    have r1 := hR5.c1
    have r2 := hR5.c2
    have r3 := hR5.c3
    have r4 := hR5.c4
    have q0 := v5_fz hR5 0
    have q1 := v5_fz hR5 1
    have q2 := v5_fz hR5 2
    have q3 := v5_fz hR5 3
    have q4 := v5_fz hR5 4
    have hfin := (v5_all hR6 (.int .i64 1) (.int .i64 (x2 : Int)) (.int .i64 (1000 + (x3 : Int))) (.slice (some ⟨g, 0, none⟩) n cp) (.bool false))
    have HCz := Hid.mk' (hc6.grown hfin.2 (by simp; omega) (fun k e => by cases e; omega))
    have HGz := Hid.mk' (grown_own hG6 hfin.2 (Nat.le_refl _))
    have HOz := Hid.mk' (ownV_of ((hO6.grown hfin.2 (by simp; omega)).mono (base' := w.heap.size) (by omega)))
    have HVz := Hid.mk' hfin.1
    have hnn : w.heap.size ≠ w3.heap.size := by omega
    clear hfin hc6 hG6 hR6 hset hV5 hR5 hc5 hG5 hO5 hO6
    go_wp2_with fail
    refine bodyPost_ret (v := .agg #[.int .i64 1, .int .i64 (x2 : Int), .int .i64 (1000 + (x3 : Int)), .slice (some ⟨g, 0, none⟩) n cp, .bool false]) ?_ rfl ⟨1, (x2 : Int), (1000 + (x3 : Int)), l, false, _, HOK.out, rfl, HOz.out, HCz.out, HGz.out⟩
    simp [results, Try.results32, go_sem, HVz.out.c0, HVz.out.c1, HVz.out.c2, HVz.out.c3, HVz.out.c4]
  · obtain ⟨w4, hw4⟩ : ∃ w4, w3.alloc (.cells #[.int .i64 2, .int .i64 (x2 : Int), .int .i64 (1000 + (x3 : Int)), .slice none 0 0, .bool false] 26) = w4 := ⟨_, rfl⟩
    have hb4 : Below w3.heap.size w3 w4 := by rw [← hw4]; exact (Below.refl _ _).alloc (Nat.le_refl _) _
    have hV4 : V5 w4 w3.heap.size 26 (.int .i64 2) (.int .i64 (x2 : Int)) (.int .i64 (1000 + (x3 : Int))) (.slice none 0 0) (.bool false) := by rw [← hw4]; exact heap_alloc_new w3 _
    have hs4 : w4.heap.size = w3.heap.size + 1 := by rw [← hw4]; simp
    have hR4 := hR3.below hb4
    have hc4 := hc3.below hb4
    have hG4 := grown_below hG3 hb4
    have HW4 := Hid.mk' hw4
    clear hw4 hb4
    have HOP := Hid.mk' (d_once w0 w4 gc a len cap code 2 hc4 (by omega) (by omega))
    rw [← HW4.out] at HOP
    clear hR3 hc3 hG3 hc4
    go_wp2_with fail
    refine HOP.out.mono ?_
    rw [HW4.out]
    rintro e w5 ⟨b, rfl, hc5, hg5⟩
    have hV5 := v5_grown hV4 hg5 (by simp; omega)
    have hR5 := v5_grown hR4 hg5 (by simp; omega)
    have hG5 := grownBy_trans hG4 hg5
    have HOK := Hid.mk' (okW 2 (x2 : Int) (1000 + (x3 : Int)) [] b ⟨⟨by omega, by omega⟩, .inr (.inl ⟨by omega, rfl⟩)⟩)
    clear HOP HW4 hV4 hR4 hG4 hg5
    have t0 := hV5.c0
    have t1 := hV5.c1
    have t2 := hV5.c2
    have t3 := hV5.c3
    have t4 := hV5.c4
    have tf := v5_fz hV5 4
    have hset := v5_set4 hV5 (.bool b)
    have hR6 := v5_grown hR5 hset.2 (by simp; omega)
    have hc6 := hc5.grown hset.2 (by simp; omega) (fun k e => by cases e; omega)
    have hG6 := grown_own hG5 hset.2 (by omega)
    have r0 := hR5.c0
    have r1 := hR5.c1
    have r2 := hR5.c2
    have r3 := hR5.c3
    have r4 := hR5.c4
    have q0 := v5_fz hR5 0
    have q1 := v5_fz hR5 1
    have q2 := v5_fz hR5 2
    have q3 := v5_fz hR5 3
    have q4 := v5_fz hR5 4
    have hfin := (v5_all hR6 (.int .i64 2) (.int .i64 (x2 : Int)) (.int .i64 (1000 + (x3 : Int))) (.slice none 0 0) (.bool b))
    have HCz := Hid.mk' (hc6.grown hfin.2 (by simp; omega) (fun k e => by cases e; omega))
    have HGz := Hid.mk' (grown_own hG6 hfin.2 (Nat.le_refl _))
    have HVz := Hid.mk' hfin.1
    have hnn : w.heap.size ≠ w3.heap.size := by omega
    clear hfin hc6 hG6 hR6 hset hV5 hR5 hc5 hG5
    go_wp2_with fail
    refine bodyPost_ret (v := .agg #[.int .i64 2, .int .i64 (x2 : Int), .int .i64 (1000 + (x3 : Int)), .slice none 0 0, .bool b]) ?_ rfl ⟨2, (x2 : Int), (1000 + (x3 : Int)), [], b, _, HOK.out, rfl, ownV_nil _ _, HCz.out, HGz.out⟩
    simp [results, Try.results32, go_sem, HVz.out.c0, HVz.out.c1, HVz.out.c2, HVz.out.c3, HVz.out.c4]
  · obtain ⟨w4, hw4⟩ : ∃ w4, w3.alloc (.cells #[.int .i64 3, .int .i64 (x2 : Int), .int .i64 (1000 + (x3 : Int)), .slice none 0 0, .bool false] 26) = w4 := ⟨_, rfl⟩
    have hb4 : Below w3.heap.size w3 w4 := by rw [← hw4]; exact (Below.refl _ _).alloc (Nat.le_refl _) _
    have hV4 : V5 w4 w3.heap.size 26 (.int .i64 3) (.int .i64 (x2 : Int)) (.int .i64 (1000 + (x3 : Int))) (.slice none 0 0) (.bool false) := by rw [← hw4]; exact heap_alloc_new w3 _
    have hs4 : w4.heap.size = w3.heap.size + 1 := by rw [← hw4]; simp
    have hR4 := hR3.below hb4
    have hc4 := hc3.below hb4
    have hG4 := grown_below hG3 hb4
    have HW4 := Hid.mk' hw4
    clear hw4 hb4
    have HOP := Hid.mk' (d_once w0 w4 gc a len cap code 2 hc4 (by omega) (by omega))
    rw [← HW4.out] at HOP
    clear hR3 hc3 hG3 hc4
    go_wp2_with fail
    refine HOP.out.mono ?_
    rw [HW4.out]
    rintro e w5 ⟨b, rfl, hc5, hg5⟩
    have hV5 := v5_grown hV4 hg5 (by simp; omega)
    have hR5 := v5_grown hR4 hg5 (by simp; omega)
    have hG5 := grownBy_trans hG4 hg5
    have HOK := Hid.mk' (okW 3 (x2 : Int) (1000 + (x3 : Int)) [] b ⟨⟨by omega, by omega⟩, .inr (.inl ⟨by omega, rfl⟩)⟩)
    clear HOP HW4 hV4 hR4 hG4 hg5
    have t0 := hV5.c0
    have t1 := hV5.c1
    have t2 := hV5.c2
    have t3 := hV5.c3
    have t4 := hV5.c4
    have tf := v5_fz hV5 4
    have hset := v5_set4 hV5 (.bool b)
    have hR6 := v5_grown hR5 hset.2 (by simp; omega)
    have hc6 := hc5.grown hset.2 (by simp; omega) (fun k e => by cases e; omega)
    have hG6 := grown_own hG5 hset.2 (by omega)
    have r0 := hR5.c0
    have r1 := hR5.c1
    have r2 := hR5.c2
    have r3 := hR5.c3
    have r4 := hR5.c4
    have q0 := v5_fz hR5 0
    have q1 := v5_fz hR5 1
    have q2 := v5_fz hR5 2
    have q3 := v5_fz hR5 3
    have q4 := v5_fz hR5 4
    have hfin := (v5_all hR6 (.int .i64 3) (.int .i64 (x2 : Int)) (.int .i64 (1000 + (x3 : Int))) (.slice none 0 0) (.bool b))
    have HCz := Hid.mk' (hc6.grown hfin.2 (by simp; omega) (fun k e => by cases e; omega))
    have HGz := Hid.mk' (grown_own hG6 hfin.2 (Nat.le_refl _))
    have HVz := Hid.mk' hfin.1
    have hnn : w.heap.size ≠ w3.heap.size := by omega
    clear hfin hc6 hG6 hR6 hset hV5 hR5 hc5 hG5
    go_wp2_with fail
    refine bodyPost_ret (v := .agg #[.int .i64 3, .int .i64 (x2 : Int), .int .i64 (1000 + (x3 : Int)), .slice none 0 0, .bool b]) ?_ rfl ⟨3, (x2 : Int), (1000 + (x3 : Int)), [], b, _, HOK.out, rfl, ownV_nil _ _, HCz.out, HGz.out⟩
    simp [results, Try.results32, go_sem, HVz.out.c0, HVz.out.c1, HVz.out.c2, HVz.out.c3, HVz.out.c4]
  · obtain ⟨w4, hw4⟩ : ∃ w4, w3.alloc (.cells #[.int .i64 4, .int .i64 (x2 : Int), .int .i64 (1000 + (x3 : Int)), .slice none 0 0, .bool false] 26) = w4 := ⟨_, rfl⟩
    have hb4 : Below w3.heap.size w3 w4 := by rw [← hw4]; exact (Below.refl _ _).alloc (Nat.le_refl _) _
    have hV4 : V5 w4 w3.heap.size 26 (.int .i64 4) (.int .i64 (x2 : Int)) (.int .i64 (1000 + (x3 : Int))) (.slice none 0 0) (.bool false) := by rw [← hw4]; exact heap_alloc_new w3 _
    have hs4 : w4.heap.size = w3.heap.size + 1 := by rw [← hw4]; simp
    have hR4 := hR3.below hb4
    have hc4 := hc3.below hb4
    have hG4 := grown_below hG3 hb4
    have HW4 := Hid.mk' hw4
    clear hw4 hb4
    have HOK := Hid.mk' (okW 4 (x2 : Int) (1000 + (x3 : Int)) [] false ⟨⟨by omega, by omega⟩, .inr (.inr ⟨by omega, rfl, rfl⟩)⟩)
    have r0 := hR3.c0
    have r1 := hR3.c1
    have r2 := hR3.c2
    have r3 := hR3.c3
    have r4 := hR3.c4
    have q0 := v5_fz hR3 0
    have q1 := v5_fz hR3 1
    have q2 := v5_fz hR3 2
    have q3 := v5_fz hR3 3
    have q4 := v5_fz hR3 4
    have hfin := (v5_all hR3 (.int .i64 4) (.int .i64 (x2 : Int)) (.int .i64 (1000 + (x3 : Int))) (.slice none 0 0) (.bool false))
    have hcz := hc3.grown hfin.2 (by simp; omega) (fun k e => by cases e; omega)
    have hgz := grown_own hG3 hfin.2 (Nat.le_refl _)
    have hbz : ∀ W : World, Below W.heap.size W (W.alloc (.cells #[.int .i64 4, .int .i64 (x2 : Int), .int .i64 (1000 + (x3 : Int)), .slice none 0 0, .bool false] 26)) := fun W => (Below.refl _ _).alloc (Nat.le_refl _) _
    have HVz := Hid.mk' (hfin.1.below (hbz _))
    have HCz := Hid.mk' (hcz.below (hbz _))
    have HGz := Hid.mk' (grown_below hgz (hbz _))
    have hnn : w.heap.size ≠ w3.heap.size := by omega
    clear hfin hcz hgz hbz hc3 hG3 hR3 hc4 hG4 hV4 hR4 HW4 hs4
    go_wp2_with fail
    refine bodyPost_ret (v := .agg #[.int .i64 4, .int .i64 (x2 : Int), .int .i64 (1000 + (x3 : Int)), .slice none 0 0, .bool false]) ?_ rfl ⟨4, (x2 : Int), (1000 + (x3 : Int)), [], false, _, HOK.out, rfl, ownV_nil _ _, HCz.out, HGz.out⟩
    simp [results, Try.results32, go_sem, HVz.out.c0, HVz.out.c1, HVz.out.c2, HVz.out.c3, HVz.out.c4]
theorem v5_set0 {w : World} {g : Nat} {T : TypeId} {a b c d e : Value} (h : V5 w g T a b c d e) (u : Value) : V5 (w.setCell ⟨g, 0, none⟩ u) g T u b c d e ∧ w.grownBy (w.setCell ⟨g, 0, none⟩ u) (some g) := ⟨(set_cur h 0 u).1, (set_cur h 0 u).2⟩
theorem v5_set1 {w : World} {g : Nat} {T : TypeId} {a b c d e : Value} (h : V5 w g T a b c d e) (u : Value) : V5 (w.setCell ⟨g, 1, none⟩ u) g T a u c d e ∧ w.grownBy (w.setCell ⟨g, 1, none⟩ u) (some g) := ⟨(set_cur h 1 u).1, (set_cur h 1 u).2⟩
theorem v5_set2 {w : World} {g : Nat} {T : TypeId} {a b c d e : Value} (h : V5 w g T a b c d e) (u : Value) : V5 (w.setCell ⟨g, 2, none⟩ u) g T a b u d e ∧ w.grownBy (w.setCell ⟨g, 2, none⟩ u) (some g) := ⟨(set_cur h 2 u).1, (set_cur h 2 u).2⟩
set_option maxRecDepth 100000 in
set_option maxHeartbeats 2000000 in
theorem d_anyW (w0 w : World) (gc : Nat) (a : Option Addr) (len cap : Nat) (code : List UInt8) (h : Cur w0 w gc a len cap code) :
    Calls Try.prog 28 #[.pointer (some ⟨gc, 0, none⟩)] w fun e w' => GotAnyW w0 w gc a len cap code e w' := by
  have hcl := h.lt
  have hge := h.ge
  obtain ⟨wa, hwa⟩ : ∃ wa, w.alloc (.cells #[.int .i64 0, .int .i64 0, .int .i64 0, .slice none 0 0, .bool false] 26) = wa := ⟨_, rfl⟩
  have hba : Below w.heap.size w wa := by rw [← hwa]; exact (Below.refl _ _).alloc (Nat.le_refl _) _
  have hsa : wa.heap.size = w.heap.size + 1 := by rw [← hwa]; simp
  have hRa : V5 wa w.heap.size 26 (.int .i64 0) (.int .i64 0) (.int .i64 0) (.slice none 0 0) (.bool false) := by rw [← hwa]; exact heap_alloc_new w _
  have HWA := Hid.mk' hwa
  clear hwa
  go_enter Try.func28, Try.ntmps28
  go_wp2_with fail
  rw [HWA.out]
  clear HWA
  refine (d_word w0 _ gc a len cap code (h.below hba)).mono ?_
  rintro e w1 ⟨k, s, t, l, y, v, hok, rfl, hv1, hc1, hg1⟩
  have ht0 := tinyW_ok hok
  have hka : 0 ≤ k ∧ k ≤ 5 := ht0.1
  have hsa2 : -1 ≤ s ∧ s ≤ 8 := ht0.2.1
  have hta : 0 ≤ t ∧ t ≤ 1000001 := ht0.2.2.1
  have hla : l.length ≤ 8 := ht0.2.2.2.1
  have HTO : Hid (∀ p ∈ l, tinyO p) := ht0.2.2.2.2
  have hv1 : OwnV w1 wa.heap.size v l := hv1
  obtain ⟨pa, pc, hv, _, _⟩ := hv1.sl
  obtain ⟨n, hn⟩ : ∃ n, l.length = n := ⟨_, rfl⟩
  rw [hn] at hv
  subst hv
  have hne : ∀ g, (Value.slice pa n pc).ownBlock = some g → w.heap.size < g ∧ g < w1.heap.size := fun g e => by have := hv1.lt g e; omega
  have hR1 := v5_grown hRa hg1 (by simp; omega)
  have hG1 : w.grownBy w1 (some gc) := grownBy_trans (grown_below (World.grownBy.refl _ _) hba) hg1
  have hs1 : w.heap.size < w1.heap.size := hR1.lt
  obtain ⟨wb, hwb⟩ : ∃ wb, w1.alloc (.cells #[.int .i64 k, .int .i64 s, .int .i64 t, .slice pa n pc, .bool y] 26) = wb := ⟨_, rfl⟩
  have hbb : Below w1.heap.size w1 wb := by rw [← hwb]; exact (Below.refl _ _).alloc (Nat.le_refl _) _
  have hVb : V5 wb w1.heap.size 26 (.int .i64 k) (.int .i64 s) (.int .i64 t) (.slice pa n pc) (.bool y) := by rw [← hwb]; exact heap_alloc_new w1 _
  have hcb := hc1.below hbb
  have HBL := Hid.mk' (below_ w0 wb gc a len cap code 10 hcb (by omega) (by omega))
  rw [← hwb] at HBL
  have HWB := Hid.mk' hwb
  have hRb := hR1.below hbb
  have hOb := hv1.below hbb
  have hGb := grown_below hG1 hbb
  clear hwb hR1 hG1 hv1 hc1 hg1 hba hRa hok ht0 hcb
  go_wp2_with fail
  refine HBL.out.mono ?_
  rw [HWB.out]
  rintro e w2 ⟨x, hx, rfl, hc2, hg2⟩
  have hV2 := v5_grown hVb hg2 (by simp; omega)
  have hR2 := v5_grown hRb hg2 (by simp; omega)
  have hO2 := hOb.grown hg2 (.inr fun e => by have := hne _ e; omega)
  have hG2 := grownBy_trans hGb hg2
  have hs2 : w1.heap.size < w2.heap.size := hV2.lt
  have hcl2 := hc2.lt
  clear HBL HWB hVb hRb hOb hGb hg2 hbb
  by_cases x0 : x = 0
  · subst x0
    go_wp2_with fail
    refine (below_ w0 _ gc a len cap code _ hc2 (by omega) (by omega)).mono ?_
    rintro e w3 ⟨z, hz, rfl, hc3, hg3⟩
    have hV3 := v5_grown hV2 hg3 (by simp; omega)
    have hR3 := v5_grown hR2 hg3 (by simp; omega)
    have hO3 := hO2.grown hg3 (.inr fun e => by have := hne _ e; omega)
    have hG3 := grownBy_trans hG2 hg3
    clear hV2 hR2 hO2 hG2 hc2 hg3
    have HT : Hid (tinyW (z : Int) s t l) := ⟨⟨by omega, by omega⟩, hsa2, hta, hla, HTO.out⟩
    have t0 := hV3.c0
    have t1 := hV3.c1
    have t2 := hV3.c2
    have t3 := hV3.c3
    have t4 := hV3.c4
    have tf := v5_fz hV3 0
    have hset := v5_set0 hV3 (.int .i64 (z : Int))
    have hR6 := v5_grown hR3 hset.2 (by simp; omega)
    have hc6 := hc3.grown hset.2 (by simp; omega) (fun k e => by cases e; omega)
    have hG6 := grown_own hG3 hset.2 (by omega)
    have hO6 := hO3.grown hset.2 (.inr fun e => by have := hne _ e; omega)
    have r0 := hR3.c0
    have r1 := hR3.c1
    have r2 := hR3.c2
    have r3 := hR3.c3
    have r4 := hR3.c4
    have q0 := v5_fz hR3 0
    have q1 := v5_fz hR3 1
    have q2 := v5_fz hR3 2
    have q3 := v5_fz hR3 3
    have q4 := v5_fz hR3 4
    have hfin := v5_all hR6 (.int .i64 (z : Int)) (.int .i64 s) (.int .i64 t) (.slice pa n pc) (.bool y)
    have HCz := Hid.mk' (hc6.grown hfin.2 (by simp; omega) (fun k e => by cases e; omega))
    have HGz := Hid.mk' (grown_own hG6 hfin.2 (Nat.le_refl _))
    have HOz := Hid.mk' ((hO6.grown hfin.2 (.inr fun e => by have := hne _ e; omega)).mono (base' := w.heap.size) (by omega))
    have HVz := Hid.mk' hfin.1
    have hnn : w.heap.size ≠ w1.heap.size := by omega
    clear hfin hc6 hG6 hR6 hO6 hV3 hR3 hc3 hG3 hO3 hne hset
    go_wp2_with fail
    refine bodyPost_ret (v := .agg #[.int .i64 (z : Int), .int .i64 s, .int .i64 t, .slice pa n pc, .bool y]) ?_ rfl ⟨(z : Int), s, t, l, y, _, HT.out, rfl, HOz.out, HCz.out, HGz.out⟩
    simp [results, Try.results28, go_sem, HVz.out.c0, HVz.out.c1, HVz.out.c2, HVz.out.c3, HVz.out.c4]
  by_cases x1 : x = 1
  · subst x1
    obtain ⟨w4, hw4⟩ : ∃ w4, w2.alloc (.cells #[.int .i64 (-1), .int .i64 7, .int .i64 8] 3) = w4 := ⟨_, rfl⟩
    have hb4 : Below w2.heap.size w2 w4 := by rw [← hw4]; exact (Below.refl _ _).alloc (Nat.le_refl _) _
    have hL4 : w4.heap[w2.heap.size]? = some (.cells #[.int .i64 (-1), .int .i64 7, .int .i64 8] 3) := by rw [← hw4]; exact heap_alloc_new w2 _
    have HIN := Hid.mk' (int_ w0 w4 gc a len cap code w2.heap.size 3 3 _ _ (hc2.below hb4) hL4 rfl (by omega) (by omega) (by omega) (fun z => decide (-1 ≤ z ∧ z ≤ 8) = true) (some_atI _ 3 (fun z => decide (-1 ≤ z ∧ z ≤ 8)) (by kernel_rfl)))
    rw [← hw4] at HIN
    have HW4 := Hid.mk' hw4
    clear hw4 hL4
    go_wp2_with fail
    refine HIN.out.mono ?_
    rw [HW4.out]
    rintro e w3 ⟨z, hz, rfl, hc3, hg3⟩
    have hz' := of_decide_eq_true hz
    have hV3 := v5_grown (hV2.below hb4) hg3 (by simp; omega)
    have hR3 := v5_grown (hR2.below hb4) hg3 (by simp; omega)
    have hO3 := (hO2.below hb4).grown hg3 (.inr fun e => by have := hne _ e; omega)
    have hG3 := grownBy_trans (grown_below hG2 hb4) hg3
    clear hV2 hR2 hO2 hG2 hc2 hg3 hb4 HIN HW4 hz
    have HT : Hid (tinyW k z t l) := ⟨hka, hz', hta, hla, HTO.out⟩
    have t0 := hV3.c0
    have t1 := hV3.c1
    have t2 := hV3.c2
    have t3 := hV3.c3
    have t4 := hV3.c4
    have tf := v5_fz hV3 1
    have hset := v5_set1 hV3 (.int .i64 z)
    have hR6 := v5_grown hR3 hset.2 (by simp; omega)
    have hc6 := hc3.grown hset.2 (by simp; omega) (fun k e => by cases e; omega)
    have hG6 := grown_own hG3 hset.2 (by omega)
    have hO6 := hO3.grown hset.2 (.inr fun e => by have := hne _ e; omega)
    have r0 := hR3.c0
    have r1 := hR3.c1
    have r2 := hR3.c2
    have r3 := hR3.c3
    have r4 := hR3.c4
    have q0 := v5_fz hR3 0
    have q1 := v5_fz hR3 1
    have q2 := v5_fz hR3 2
    have q3 := v5_fz hR3 3
    have q4 := v5_fz hR3 4
    have hfin := v5_all hR6 (.int .i64 k) (.int .i64 z) (.int .i64 t) (.slice pa n pc) (.bool y)
    have HCz := Hid.mk' (hc6.grown hfin.2 (by simp; omega) (fun k e => by cases e; omega))
    have HGz := Hid.mk' (grown_own hG6 hfin.2 (Nat.le_refl _))
    have HOz := Hid.mk' ((hO6.grown hfin.2 (.inr fun e => by have := hne _ e; omega)).mono (base' := w.heap.size) (by omega))
    have HVz := Hid.mk' hfin.1
    have hnn : w.heap.size ≠ w1.heap.size := by omega
    clear hfin hc6 hG6 hR6 hO6 hV3 hR3 hc3 hG3 hO3 hne hset
    go_wp2_with fail
    refine bodyPost_ret (v := .agg #[.int .i64 k, .int .i64 z, .int .i64 t, .slice pa n pc, .bool y]) ?_ rfl ⟨k, z, t, l, y, _, HT.out, rfl, HOz.out, HCz.out, HGz.out⟩
    simp [results, Try.results28, go_sem, HVz.out.c0, HVz.out.c1, HVz.out.c2, HVz.out.c3, HVz.out.c4]
  by_cases x2 : x = 2
  · subst x2
    obtain ⟨w4, hw4⟩ : ∃ w4, w2.alloc (.cells #[.int .i64 0, .int .i64 1000000, .int .i64 1000001] 3) = w4 := ⟨_, rfl⟩
    have hb4 : Below w2.heap.size w2 w4 := by rw [← hw4]; exact (Below.refl _ _).alloc (Nat.le_refl _) _
    have hL4 : w4.heap[w2.heap.size]? = some (.cells #[.int .i64 0, .int .i64 1000000, .int .i64 1000001] 3) := by rw [← hw4]; exact heap_alloc_new w2 _
    have HIN := Hid.mk' (int_ w0 w4 gc a len cap code w2.heap.size 3 3 _ _ (hc2.below hb4) hL4 rfl (by omega) (by omega) (by omega) (fun z => decide (0 ≤ z ∧ z ≤ 1000001) = true) (some_atI _ 3 (fun z => decide (0 ≤ z ∧ z ≤ 1000001)) (by kernel_rfl)))
    rw [← hw4] at HIN
    have HW4 := Hid.mk' hw4
    clear hw4 hL4
    go_wp2_with fail
    refine HIN.out.mono ?_
    rw [HW4.out]
    rintro e w3 ⟨z, hz, rfl, hc3, hg3⟩
    have hz' := of_decide_eq_true hz
    have hV3 := v5_grown (hV2.below hb4) hg3 (by simp; omega)
    have hR3 := v5_grown (hR2.below hb4) hg3 (by simp; omega)
    have hO3 := (hO2.below hb4).grown hg3 (.inr fun e => by have := hne _ e; omega)
    have hG3 := grownBy_trans (grown_below hG2 hb4) hg3
    clear hV2 hR2 hO2 hG2 hc2 hg3 hb4 HIN HW4 hz
    have HT : Hid (tinyW k s z l) := ⟨hka, hsa2, hz', hla, HTO.out⟩
    have t0 := hV3.c0
    have t1 := hV3.c1
    have t2 := hV3.c2
    have t3 := hV3.c3
    have t4 := hV3.c4
    have tf := v5_fz hV3 2
    have hset := v5_set2 hV3 (.int .i64 z)
    have hR6 := v5_grown hR3 hset.2 (by simp; omega)
    have hc6 := hc3.grown hset.2 (by simp; omega) (fun k e => by cases e; omega)
    have hG6 := grown_own hG3 hset.2 (by omega)
    have hO6 := hO3.grown hset.2 (.inr fun e => by have := hne _ e; omega)
    have r0 := hR3.c0
    have r1 := hR3.c1
    have r2 := hR3.c2
    have r3 := hR3.c3
    have r4 := hR3.c4
    have q0 := v5_fz hR3 0
    have q1 := v5_fz hR3 1
    have q2 := v5_fz hR3 2
    have q3 := v5_fz hR3 3
    have q4 := v5_fz hR3 4
    have hfin := v5_all hR6 (.int .i64 k) (.int .i64 s) (.int .i64 z) (.slice pa n pc) (.bool y)
    have HCz := Hid.mk' (hc6.grown hfin.2 (by simp; omega) (fun k e => by cases e; omega))
    have HGz := Hid.mk' (grown_own hG6 hfin.2 (Nat.le_refl _))
    have HOz := Hid.mk' ((hO6.grown hfin.2 (.inr fun e => by have := hne _ e; omega)).mono (base' := w.heap.size) (by omega))
    have HVz := Hid.mk' hfin.1
    have hnn : w.heap.size ≠ w1.heap.size := by omega
    clear hfin hc6 hG6 hR6 hO6 hV3 hR3 hc3 hG3 hO3 hne hset
    go_wp2_with fail
    refine bodyPost_ret (v := .agg #[.int .i64 k, .int .i64 s, .int .i64 z, .slice pa n pc, .bool y]) ?_ rfl ⟨k, s, z, l, y, _, HT.out, rfl, HOz.out, HCz.out, HGz.out⟩
    simp [results, Try.results28, go_sem, HVz.out.c0, HVz.out.c1, HVz.out.c2, HVz.out.c3, HVz.out.c4]
  by_cases x3 : x = 3
  · subst x3
    go_wp2_with fail
    refine (d_anyO w0 _ gc a len cap code hc2).mono ?_
    rintro e w3 ⟨g, m, cp, l3, hm, htl, rfl, hO3, hc3, hg3⟩
    have HTL := Hid.mk' htl
    have hgl := hO3.lt
    have hl3 := hO3.1
    have hV3 := v5_grown hV2 hg3 (by simp; omega)
    have hR3 := v5_grown hR2 hg3 (by simp; omega)
    have hG3 := grownBy_trans hG2 hg3
    clear hV2 hR2 hO2 hG2 hc2 hg3 htl
    have HT : Hid (tinyW k s t l3) := ⟨hka, hsa2, hta, by omega, HTL.out⟩
    have t0 := hV3.c0
    have t1 := hV3.c1
    have t2 := hV3.c2
    have t3 := hV3.c3
    have t4 := hV3.c4
    have tf := v5_fz hV3 3
    have hset := v5_set3 hV3 (.slice (some ⟨g, 0, none⟩) m cp)
    have hR6 := v5_grown hR3 hset.2 (by simp; omega)
    have hc6 := hc3.grown hset.2 (by simp; omega) (fun k e => by cases e; omega)
    have hG6 := grown_own hG3 hset.2 (by omega)
    have hO6 := hO3.grown hset.2 (by simp; omega)
    have r0 := hR3.c0
    have r1 := hR3.c1
    have r2 := hR3.c2
    have r3 := hR3.c3
    have r4 := hR3.c4
    have q0 := v5_fz hR3 0
    have q1 := v5_fz hR3 1
    have q2 := v5_fz hR3 2
    have q3 := v5_fz hR3 3
    have q4 := v5_fz hR3 4
    have hfin := v5_all hR6 (.int .i64 k) (.int .i64 s) (.int .i64 t) (.slice (some ⟨g, 0, none⟩) m cp) (.bool y)
    have HCz := Hid.mk' (hc6.grown hfin.2 (by simp; omega) (fun k e => by cases e; omega))
    have HGz := Hid.mk' (grown_own hG6 hfin.2 (Nat.le_refl _))
    have HOz := Hid.mk' (ownV_of ((hO6.grown hfin.2 (by simp; omega)).mono (base' := w.heap.size) (by omega)))
    have HVz := Hid.mk' hfin.1
    have hnn : w.heap.size ≠ w1.heap.size := by omega
    clear hfin hc6 hG6 hR6 hO6 hV3 hR3 hc3 hG3 hO3 hne hset
    go_wp2_with fail
    refine bodyPost_ret (v := .agg #[.int .i64 k, .int .i64 s, .int .i64 t, .slice (some ⟨g, 0, none⟩) m cp, .bool y]) ?_ rfl ⟨k, s, t, l3, y, _, HT.out, rfl, HOz.out, HCz.out, HGz.out⟩
    simp [results, Try.results28, go_sem, HVz.out.c0, HVz.out.c1, HVz.out.c2, HVz.out.c3, HVz.out.c4]
  by_cases x4 : x = 4
  · subst x4
    have HT : Hid (tinyW k s t l) := ⟨hka, hsa2, hta, hla, HTO.out⟩
    have t0 := hV2.c0
    have t1 := hV2.c1
    have t2 := hV2.c2
    have t3 := hV2.c3
    have t4 := hV2.c4
    have tf := v5_fz hV2 4
    have hset := v5_set4 hV2 (.bool (!y))
    have hR6 := v5_grown hR2 hset.2 (by simp; omega)
    have hc6 := hc2.grown hset.2 (by simp; omega) (fun k e => by cases e; omega)
    have hG6 := grown_own hG2 hset.2 (by omega)
    have hO6 := hO2.grown hset.2 (.inr fun e => by have := hne _ e; omega)
    have r0 := hR2.c0
    have r1 := hR2.c1
    have r2 := hR2.c2
    have r3 := hR2.c3
    have r4 := hR2.c4
    have q0 := v5_fz hR2 0
    have q1 := v5_fz hR2 1
    have q2 := v5_fz hR2 2
    have q3 := v5_fz hR2 3
    have q4 := v5_fz hR2 4
    have hfin := v5_all hR6 (.int .i64 k) (.int .i64 s) (.int .i64 t) (.slice pa n pc) (.bool (!y))
    have HCz := Hid.mk' (hc6.grown hfin.2 (by simp; omega) (fun k e => by cases e; omega))
    have HGz := Hid.mk' (grown_own hG6 hfin.2 (Nat.le_refl _))
    have HOz := Hid.mk' ((hO6.grown hfin.2 (.inr fun e => by have := hne _ e; omega)).mono (base' := w.heap.size) (by omega))
    have HVz := Hid.mk' hfin.1
    have hnn : w.heap.size ≠ w1.heap.size := by omega
    clear hfin hc6 hG6 hR6 hO6 hV2 hR2 hc2 hG2 hO2 hne hset
    go_wp2_with fail
    refine bodyPost_ret (v := .agg #[.int .i64 k, .int .i64 s, .int .i64 t, .slice pa n pc, .bool (!y)]) ?_ rfl ⟨k, s, t, l, (!y), _, HT.out, rfl, HOz.out, HCz.out, HGz.out⟩
    simp [results, Try.results28, go_sem, HVz.out.c0, HVz.out.c1, HVz.out.c2, HVz.out.c3, HVz.out.c4]
  have e0 : ((x : Int) == 0) = false := by simp; omega
  have e1 : ((x : Int) == 1) = false := by simp; omega
  have e2 : ((x : Int) == 2) = false := by simp; omega
  have e3 : ((x : Int) == 3) = false := by simp; omega
  have e4 : ((x : Int) == 4) = false := by simp; omega
  have HT : Hid (tinyW k s t l) := ⟨hka, hsa2, hta, hla, HTO.out⟩
  have t0 := hV2.c0
  have t1 := hV2.c1
  have t2 := hV2.c2
  have t3 := hV2.c3
  have t4 := hV2.c4
  have hR6 := hR2
  have hc6 := hc2
  have hG6 := hG2
  have hO6 := hO2
  have r0 := hR2.c0
  have r1 := hR2.c1
  have r2 := hR2.c2
  have r3 := hR2.c3
  have r4 := hR2.c4
  have q0 := v5_fz hR2 0
  have q1 := v5_fz hR2 1
  have q2 := v5_fz hR2 2
  have q3 := v5_fz hR2 3
  have q4 := v5_fz hR2 4
  have hfin := v5_all hR6 (.int .i64 k) (.int .i64 s) (.int .i64 t) (.slice pa n pc) (.bool y)
  have HCz := Hid.mk' (hc6.grown hfin.2 (by simp; omega) (fun k e => by cases e; omega))
  have HGz := Hid.mk' (grown_own hG6 hfin.2 (Nat.le_refl _))
  have HOz := Hid.mk' ((hO6.grown hfin.2 (.inr fun e => by have := hne _ e; omega)).mono (base' := w.heap.size) (by omega))
  have HVz := Hid.mk' hfin.1
  have hnn : w.heap.size ≠ w1.heap.size := by omega
  clear hfin hc6 hG6 hR6 hO6 hV2 hR2 hc2 hG2 hO2 hne
  go_wp2_with fail
  refine bodyPost_ret (v := .agg #[.int .i64 k, .int .i64 s, .int .i64 t, .slice pa n pc, .bool y]) ?_ rfl ⟨k, s, t, l, y, _, HT.out, rfl, HOz.out, HCz.out, HGz.out⟩
  simp [results, Try.results28, go_sem, HVz.out.c0, HVz.out.c1, HVz.out.c2, HVz.out.c3, HVz.out.c4]
def GotPW (w : World) (e : Ending) (w' : World) : Prop :=
  ∃ (k s t : Int) (l : List Od) (y : Bool) (v : Value), tinyW k s t l ∧ e = .returned (.agg #[.int .i64 k, .int .i64 s, .int .i64 t, v, .bool y]) ∧ OwnV w' w.heap.size v l ∧ Below w.heap.size w w'
end Go.Proofs.Ytjodbijcgcjndaa.wds
