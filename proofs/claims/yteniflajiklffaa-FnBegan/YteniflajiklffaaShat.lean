/- Draws of those who decide, with one thing changed. -/
import Derived.Test.YteniflajiklffaaShas
namespace Go.Proofs.Yteniflajiklffaa.cos
open Go Go.RowKit Go.Proofs.Yteniflajiklffaa.base Go.Proofs.Yteniflajiklffaa.pairs Go.Proofs.Yteniflajiklffaa.ords Go.Proofs.Yteniflajiklffaa.lay Go.Proofs.Yteniflajiklffaa.wds Go.Proofs.Yteniflajiklffaa.draw
set_option linter.unusedVariables false
set_option linter.unusedSimpArgs false

structure ACo (w0 w wr : World) (gc : Nat) (a : Option Addr) (len cap : Nat) (code : List UInt8) (RB X : Nat) (ja : Option Addr) (jn jc : Nat) (la : Option Addr) (ln lc : Nat) (c : Co) (F : List Nat) : Prop where
  cur : Cur w0 wr gc a len cap code
  ins : InCo wr X TCo [] [] ja jn jc la ln lc c F
  dr : WfCo c
  new : ∀ k ∈ X :: F, w.heap.size ≤ k
  old : gc < w.heap.size
  base : w0.heap.size ≤ w.heap.size
  fr : w.grownBy wr (some gc)
  rb : BoxIn RB TCo [] [.int .i64 0, .int .i64 0, .int .i64 0, .slice none 0 0, .slice none 0 0, .int .i64 0] [] wr
  rX : RB ≠ X
  rF : RB ∉ F
  rn : w.heap.size ≤ RB
section
variable {w0 w wr w' : World} {gc : Nat} {a : Option Addr} {len cap : Nat} {code : List UInt8} {RB X : Nat} {ja la : Option Addr} {jn jc ln lc : Nat} {c c' : Co} {F : List Nat}
theorem ACo.gX (h : ACo w0 w wr gc a len cap code RB X ja jn jc la ln lc c F) : gc ≠ X ∧ gc ∉ F ∧ gc ≠ RB := by
  have h1 := h.old
  have h2 := h.new
  have h3 := h.rn
  refine ⟨fun e => ?_, fun e => ?_, fun e => ?_⟩
  · have := h2 X List.mem_cons_self; omega
  · have := h2 gc (List.mem_cons_of_mem _ e); omega
  · omega
theorem ACo.step (h : ACo w0 w wr gc a len cap code RB X ja jn jc la ln lc c F) (hc' : Cur w0 w' gc a len cap code) (hg : wr.grownBy w' (some gc)) : ACo w0 w w' gc a len cap code RB X ja jn jc la ln lc c F := by
  obtain ⟨g1, g2, g3⟩ := h.gX
  exact ⟨hc', h.ins.keepg hg g1 g2, h.dr, h.new, h.old, h.base, grownBy_trans h.fr hg, h.rb.grown hg (fun e => g3 (Option.some.inj e).symm), h.rX, h.rF, h.rn⟩
theorem ACo.more (h : ACo w0 w wr gc a len cap code RB X ja jn jc la ln lc c F) (hb : Below wr.heap.size wr w') : ACo w0 w w' gc a len cap code RB X ja jn jc la ln lc c F :=
  ⟨h.cur.below hb, h.ins.below hb, h.dr, h.new, h.old, h.base, grown_below h.fr hb, h.rb.below hb, h.rX, h.rF, h.rn⟩
theorem ACo.outside {J : Nat} (h : ACo w0 w wr gc a len cap code RB X ja jn jc la ln lc c F) (hg : wr.grownBy w' (some J)) (hJ : w.heap.size ≤ J) (h1 : J ≠ X) (h2 : J ∉ F) (h3 : J ≠ RB) : ACo w0 w w' gc a len cap code RB X ja jn jc la ln lc c F := by
  have hgc : gc ≠ J := fun e => by have := h.old; omega
  refine ⟨h.cur.grown hg (fun e => hgc (Option.some.inj e)) (fun k e => by cases e; exact Nat.le_trans h.base hJ), h.ins.keepg hg h1 h2, h.dr, h.new, h.old, h.base, ?_, h.rb.grown hg (fun e => h3 (Option.some.inj e).symm), h.rX, h.rF, h.rn⟩
  exact ⟨hg.os.trans h.fr.os, hg.tape.trans h.fr.tape, hg.output.trans h.fr.output, Nat.le_trans h.fr.size hg.size, fun k hk hne => (hg.block k (Nat.lt_of_lt_of_le hk h.fr.size) (fun e => by have := Option.some.inj e; omega)).trans (h.fr.block k hk hne)⟩
theorem ACo.wrote (h : ACo w0 w wr gc a len cap code RB X ja jn jc la ln lc c F) (hw : CoPost wr X TCo [] [] F c' w') (hd : WfCo c') : ∃ ja jn jc la ln lc F', ACo w0 w w' gc a len cap code RB X ja jn jc la ln lc c' F' := by
  obtain ⟨g1, g2, g3⟩ := h.gX
  obtain ⟨ja', jn', jc', la', ln', lc', F', h1, h2, h3⟩ := hw
  have hsz := h.fr.size
  have hnew : ∀ k ∈ F', w.heap.size ≤ k := fun k hk => by
    rcases h3 k hk with e | e
    · exact h.new k (List.mem_cons_of_mem _ e)
    · omega
  refine ⟨ja', jn', jc', la', ln', lc', F', cur_frameC h.cur h2 (fun e => ?_) (fun k hk => Nat.le_trans h.base (h.new k hk)), h1, hd, fun k hk => ?_, h.old, h.base, ?_, h.rb.frame h2 (fun e => ?_), h.rX, fun e => ?_, h.rn⟩
  · rcases List.mem_cons.1 e with e | e
    · exact g1 e
    · exact g2 e
  · rcases List.mem_cons.1 hk with e | e
    · rw [e]; exact h.new X List.mem_cons_self
    · exact hnew k e
  · exact ⟨h2.os.trans h.fr.os, h2.tape.trans h.fr.tape, h2.output.trans h.fr.output, Nat.le_trans h.fr.size h2.size, fun k hk hne => (h2.block k (Nat.lt_of_lt_of_le hk h.fr.size) (fun e => by have := h.new k e; omega)).trans (h.fr.block k hk hne)⟩
  · rcases List.mem_cons.1 e with e | e
    · exact h.rX e
    · exact h.rF e
  · rcases h3 RB e with e | e
    · exact h.rF e
    · have := h.rb.lt; omega
end
section
variable {w : World} {X : Nat} {ja la : Option Addr} {jn jc ln lc : Nat} {c : Co} {F : List Nat}
theorem box_same {T : TypeId} {v0 v1 v2 v5 : Value} {ja' la' : Option Addr} {jn' jc' ln' lc' : Nat} (h : BoxIn X T [] [v0, v1, v2, .slice ja' jn' jc', .slice la' ln' lc', v5] [] w) (h2 : BoxIn X T [] [v0, v1, v2, .slice ja jn jc, .slice la ln lc, v5] [] w) : ja' = ja ∧ jn' = jn ∧ jc' = jc ∧ la' = la ∧ ln' = ln ∧ lc' = lc := by
  have a3 := (cells6 h).2.2.2.1
  have b3 := (cells6 h2).2.2.2.1
  have a4 := (cells6 h).2.2.2.2.1
  have b4 := (cells6 h2).2.2.2.2.1
  rw [b3] at a3
  rw [b4] at a4
  have e3 := Option.some.inj a3
  have e4 := Option.some.inj a4
  simp only [Value.slice.injEq] at e3 e4
  exact ⟨e3.1.symm, e3.2.1.symm, e3.2.2.symm, e4.1.symm, e4.2.1.symm, e4.2.2.symm⟩
theorem InCo.put0 (h : InCo w X TCo [] [] ja jn jc la ln lc c F) (z : Int) (hz : (Lit.int .i64 z).wf = true) : InCo (w.setCell ⟨X, 0, none⟩ (.int .i64 z)) X TCo [] [] ja jn jc la ln lc (z, c.2.1, c.2.2.1, c.2.2.2.1, c.2.2.2.2.1, c.2.2.2.2.2) F ∧ w.grownBy (w.setCell ⟨X, 0, none⟩ (.int .i64 z)) (some X) := by
  have s := h.box.set 0 (by simp) (.int .i64 z)
  simp only [List.length_nil, Nat.zero_add] at s
  have hO := coordR.ownGrown h.own s.2 (fun j hj e => h.out (by rw [← Option.some.inj e]; exact hj))
  obtain ⟨vx, vy, F1, F2, e, hw, hj, hl, hFe, hnd⟩ := coord_own.1 hO
  simp only [List.cons.injEq, and_true, true_and] at e
  obtain ⟨rfl, rfl⟩ := e
  exact ⟨⟨s.1, coord_own.2 ⟨_, _, F1, F2, rfl, ⟨hz, hw.life, hw.next, hw.sure⟩, hj, hl, hFe, hnd⟩, h.out⟩, s.2⟩
theorem InCo.put1 (h : InCo w X TCo [] [] ja jn jc la ln lc c F) (z : Int) (hz : (Lit.int .i64 z).wf = true) : InCo (w.setCell ⟨X, 1, none⟩ (.int .i64 z)) X TCo [] [] ja jn jc la ln lc (c.1, z, c.2.2.1, c.2.2.2.1, c.2.2.2.2.1, c.2.2.2.2.2) F ∧ w.grownBy (w.setCell ⟨X, 1, none⟩ (.int .i64 z)) (some X) := by
  have s := h.box.set 1 (by simp) (.int .i64 z)
  simp only [List.length_nil, Nat.zero_add] at s
  have hO := coordR.ownGrown h.own s.2 (fun j hj e => h.out (by rw [← Option.some.inj e]; exact hj))
  obtain ⟨vx, vy, F1, F2, e, hw, hj, hl, hFe, hnd⟩ := coord_own.1 hO
  simp only [List.cons.injEq, and_true, true_and] at e
  obtain ⟨rfl, rfl⟩ := e
  exact ⟨⟨s.1, coord_own.2 ⟨_, _, F1, F2, rfl, ⟨hw.n, hz, hw.next, hw.sure⟩, hj, hl, hFe, hnd⟩, h.out⟩, s.2⟩
theorem InCo.put2 (h : InCo w X TCo [] [] ja jn jc la ln lc c F) (z : Int) (hz : (Lit.int .i64 z).wf = true) : InCo (w.setCell ⟨X, 2, none⟩ (.int .i64 z)) X TCo [] [] ja jn jc la ln lc (c.1, c.2.1, z, c.2.2.2.1, c.2.2.2.2.1, c.2.2.2.2.2) F ∧ w.grownBy (w.setCell ⟨X, 2, none⟩ (.int .i64 z)) (some X) := by
  have s := h.box.set 2 (by simp) (.int .i64 z)
  simp only [List.length_nil, Nat.zero_add] at s
  have hO := coordR.ownGrown h.own s.2 (fun j hj e => h.out (by rw [← Option.some.inj e]; exact hj))
  obtain ⟨vx, vy, F1, F2, e, hw, hj, hl, hFe, hnd⟩ := coord_own.1 hO
  simp only [List.cons.injEq, and_true, true_and] at e
  obtain ⟨rfl, rfl⟩ := e
  exact ⟨⟨s.1, coord_own.2 ⟨_, _, F1, F2, rfl, ⟨hw.n, hw.life, hz, hw.sure⟩, hj, hl, hFe, hnd⟩, h.out⟩, s.2⟩
theorem InCo.put5 (h : InCo w X TCo [] [] ja jn jc la ln lc c F) (z : Int) (hz : (Lit.int .i64 z).wf = true) : InCo (w.setCell ⟨X, 5, none⟩ (.int .i64 z)) X TCo [] [] ja jn jc la ln lc (c.1, c.2.1, c.2.2.1, c.2.2.2.1, c.2.2.2.2.1, z) F ∧ w.grownBy (w.setCell ⟨X, 5, none⟩ (.int .i64 z)) (some X) := by
  have s := h.box.set 5 (by simp) (.int .i64 z)
  simp only [List.length_nil, Nat.zero_add] at s
  have hO := coordR.ownGrown h.own s.2 (fun j hj e => h.out (by rw [← Option.some.inj e]; exact hj))
  obtain ⟨vx, vy, F1, F2, e, hw, hj, hl, hFe, hnd⟩ := coord_own.1 hO
  simp only [List.cons.injEq, and_true, true_and] at e
  obtain ⟨rfl, rfl⟩ := e
  exact ⟨⟨s.1, coord_own.2 ⟨_, _, F1, F2, rfl, ⟨hw.n, hw.life, hw.next, hz⟩, hj, hl, hFe, hnd⟩, h.out⟩, s.2⟩
end
def GotAnyC (w0 w : World) (gc : Nat) (a : Option Addr) (len cap : Nat) (code : List UInt8) (e : Ending) (w' : World) : Prop :=
  ∃ (ja : Option Addr) (jn jc : Nat) (la : Option Addr) (ln lc : Nat) (c : Co) (F : List Nat), csz c ≤ 400000 ∧ e = .returned (.agg #[.int .i64 c.1, .int .i64 c.2.1, .int .i64 c.2.2.1, .slice ja jn jc, .slice la ln lc, .int .i64 c.2.2.2.2.2]) ∧ coordR.own w' [.int .i64 c.1, .int .i64 c.2.1, .int .i64 c.2.2.1, .slice ja jn jc, .slice la ln lc, .int .i64 c.2.2.2.2.2] c F ∧ (∀ k ∈ F, w.heap.size ≤ k) ∧ Cur w0 w' gc a len cap code ∧ w.grownBy w' (some gc)
set_option maxRecDepth 100000 in
set_option maxHeartbeats 12000000 in
theorem d_anyC (w0 w : World) (gc : Nat) (a : Option Addr) (len cap : Nat) (code : List UInt8) (most : Nat) (h : Cur w0 w gc a len cap code) (hm : 0 < most) (hm2 : most ≤ 800) :
    Calls Try.prog 25 #[.pointer (some ⟨gc, 0, none⟩), .int .i64 (most : Int)] w fun e w' => GotAnyC w0 w gc a len cap code e w' := by
  have hcl := h.lt
  have hge := h.bel.size
  obtain ⟨wa, hwa⟩ : ∃ wa, w.alloc (.cells #[.int .i64 0, .int .i64 0, .int .i64 0, .slice none 0 0, .slice none 0 0, .int .i64 0] 27) = wa := ⟨_, rfl⟩
  have hba : Below w.heap.size w wa := by rw [← hwa]; exact below_make
  have hsa : wa.heap.size = w.heap.size + 1 := by rw [← hwa]; simp
  have hRa : BoxIn w.heap.size TCo [] [.int .i64 0, .int .i64 0, .int .i64 0, .slice none 0 0, .slice none 0 0, .int .i64 0] [] wa := by rw [← hwa]; exact boxIn_new w _ _
  have HWA := Hid.mk' hwa
  have HDS := Hid.mk' (d_coord w0 wa gc a len cap code most (h.below hba) hm hm2)
  clear hwa
  go_enter Try.func25, Try.ntmps25
  go_wp2_with fail
  rw [HWA.out]
  refine HDS.out.mono ?_
  rintro e w1 ⟨ja, jn, jc, la, ln, lc, c, F, hRt, _, rfl, hOS, hFn, hc1, hg1⟩
  clear HDS HWA
  obtain ⟨v1, hv1⟩ : ∃ v1, w1.alloc (.cells #[.int .i64 c.1, .int .i64 c.2.1, .int .i64 c.2.2.1, .slice ja jn jc, .slice la ln lc, .int .i64 c.2.2.2.2.2] 27) = v1 := ⟨_, rfl⟩
  have hb1 : Below w1.heap.size w1 v1 := by rw [← hv1]; exact below_make
  have hX1 := inR_new (T := TCo) hOS
  rw [hv1] at hX1
  have hs1 := hg1.size
  have hwf : WfCo c := by obtain ⟨_, _, _, _, _, hw, _⟩ := coord_own.1 hOS; exact hw
  have hcz0 := hRt.size
  have hln : ln ≤ 1000 := by have h1 := (see_co (coordR.ownSee hOS)).log.1; have := hRt.few; omega
  have HLN : Hid (ln = c.2.2.2.2.1.length) := (see_co (coordR.ownSee hOS)).log.1.symm
  have hA1 : ACo w0 w v1 gc a len cap code w.heap.size w1.heap.size ja jn jc la ln lc c F :=
    ⟨hc1.below hb1, ⟨hX1.box, hX1.own, hX1.out⟩, hwf, fun k hk => by
      rcases List.mem_cons.1 hk with e | e
      · omega
      · have := hFn k e; omega, hcl, hge, grown_below (grownBy_trans (grown_below (World.grownBy.refl _ _) hba) hg1) hb1, (hRa.grown hg1 (fun e => by have := Option.some.inj e; omega)).below hb1, by omega, fun e => by have := hFn _ e; omega, Nat.le_refl _⟩
  have HBL := Hid.mk' (below_ w0 v1 gc a len cap code 12 hA1.cur (by omega) (by omega))
  rw [← hv1] at HBL
  have HV1 := Hid.mk' hv1
  clear hv1 hX1 hOS hRa hc1 hg1 hb1 hba hRt hsa
  go_wp2_with fail
  refine HBL.out.mono ?_
  rw [HV1.out]
  rintro e w2 ⟨x, hx, rfl, hc2, hg2⟩
  have hA2 := hA1.step hc2 hg2
  clear HBL HV1 hA1 hc2 hg2
  by_cases x0 : x = 0
  · subst x0
    obtain ⟨w4, hw4⟩ : ∃ w4, w2.alloc (.cells #[.int .i64 0, .int .i64 1, .int .i64 9] 3) = w4 := ⟨_, rfl⟩
    have hb4 : Below w2.heap.size w2 w4 := by rw [← hw4]; exact below_make
    have hL4 : w4.heap[w2.heap.size]? = some (.cells #[.int .i64 0, .int .i64 1, .int .i64 9] 3 (0, 0)) := by rw [← hw4]; exact heap_alloc_new w2 _
    have hA4 := hA2.more hb4
    have HIN := Hid.mk' (int_ w0 w4 gc a len cap code w2.heap.size 3 3 _ _ hA4.cur hL4 rfl (by omega) (by omega) (by have := hA2.old; have := hA2.fr.size; omega) (fun z => decide (0 ≤ z ∧ z ≤ 9) = true) (some_atI _ 3 (fun z => decide (0 ≤ z ∧ z ≤ 9)) (by kernel_rfl)))
    rw [← hw4] at HIN
    have HW4 := Hid.mk' hw4
    clear hw4 hL4 hA2 hb4
    go_wp2_with fail
    refine HIN.out.mono ?_
    rw [HW4.out]
    rintro e w5 ⟨z, hz0, rfl, hc5, hg5⟩
    have hz : 0 ≤ z ∧ z ≤ 9 := of_decide_eq_true hz0
    have hA5 := hA4.step hc5 hg5
    have hzw : (Lit.int .i64 z).wf = true := WalkArith.wf_i64 (by omega)
    have hP := hA5.ins.put0 z hzw
    obtain ⟨vja, vjn, vjc, vla, vln, vlc, F', hA6⟩ : ∃ ja jn jc la ln lc F, ACo w0 w (w5.setCell ⟨w1.heap.size, 0, none⟩ (.int .i64 z)) gc a len cap code w.heap.size w1.heap.size ja jn jc la ln lc (z, c.2.1, c.2.2.1, c.2.2.2.1, c.2.2.2.2.1, c.2.2.2.2.2) F := hA5.wrote ⟨ja, jn, jc, la, ln, lc, F, hP.1, (lay.Frame.refl _ _).grown hP.2 (fun k e => .inl (by rw [← Option.some.inj e]; exact List.mem_cons_self)), fun k hk => .inl hk⟩ ⟨hzw, hwf.life, hwf.next, hwf.sure⟩
    have t := hA5.ins.box.cell 0 _ rfl
    have t1 := hA5.ins.box.fz 0
    simp only [List.length_nil, Nat.zero_add] at t
    have hsame : vja = ja ∧ vjn = jn ∧ vjc = jc ∧ vla = la ∧ vln = ln ∧ vlc = lc := box_same hA6.ins.box hP.1.box
    obtain ⟨rfl, rfl, rfl, rfl, rfl, rfl⟩ := hsame
    clear HIN HW4 hP hA4 hc5 hg5 hA5 hz0
    obtain ⟨q0, q1, q2, q3, q4, q5⟩ := cells6 hA6.ins.box
    obtain ⟨z0, z1, z2, z3, z4, z5⟩ := cells6 hA6.rb
    have f0 := hA6.rb.fz 0
    have f1 := hA6.rb.fz 1
    have f2 := hA6.rb.fz 2
    have f3 := hA6.rb.fz 3
    have f4 := hA6.rb.fz 4
    have f5 := hA6.rb.fz 5
    have hS := hA6.rb.whole [.int .i64 z, .int .i64 c.2.1, .int .i64 c.2.2.1, .slice vja vjn vjc, .slice vla vln vlc, .int .i64 c.2.2.2.2.2] rfl
    obtain ⟨y0, y1, y2, y3, y4, y5⟩ := cells6 hS.1
    obtain ⟨g1, g2, g3⟩ := hA6.gX
    have hOz := coordR.ownGrown hA6.ins.own hS.2 (fun j hj e => hA6.rF (by rw [← Option.some.inj e]; exact hj))
    have hcz := hA6.cur.grown hS.2 (fun e => g3 (Option.some.inj e)) (fun k e => by cases e; exact hge)
    have hGz : w.grownBy (putAll (w5.setCell ⟨w1.heap.size, 0, none⟩ (.int .i64 z)) w.heap.size 0 [.int .i64 z, .int .i64 c.2.1, .int .i64 c.2.2.1, .slice vja vjn vjc, .slice vla vln vlc, .int .i64 c.2.2.2.2.2]) (some gc) := ⟨hS.2.os.trans hA6.fr.os, hS.2.tape.trans hA6.fr.tape, hS.2.output.trans hA6.fr.output, Nat.le_trans hA6.fr.size hS.2.size, fun k hk hne => (hS.2.block k (Nat.lt_of_lt_of_le hk hA6.fr.size) (fun e => by have := Option.some.inj e; omega)).trans (hA6.fr.block k hk hne)⟩
    have HP : Hid (GotAnyC w0 w gc a len cap code (.returned (.agg #[.int .i64 z, .int .i64 c.2.1, .int .i64 c.2.2.1, .slice vja vjn vjc, .slice vla vln vlc, .int .i64 c.2.2.2.2.2])) (putAll (w5.setCell ⟨w1.heap.size, 0, none⟩ (.int .i64 z)) w.heap.size 0 [.int .i64 z, .int .i64 c.2.1, .int .i64 c.2.2.1, .slice vja vjn vjc, .slice vla vln vlc, .int .i64 c.2.2.2.2.2])) := ⟨_, _, _, _, _, _, (z, c.2.1, c.2.2.1, c.2.2.2.1, c.2.2.2.2.1, c.2.2.2.2.2), _, by have := hcz0; unfold csz at *; simp only [] at *; omega, rfl, hOz, fun k hk => hA6.new k (List.mem_cons_of_mem _ hk), hcz, hGz⟩
    simp only [putAll, Nat.zero_add, Nat.reduceAdd] at HP y0 y1 y2 y3 y4 y5
    have HY := Hid.mk' (And.intro y0 (And.intro y1 (And.intro y2 (And.intro y3 (And.intro y4 y5)))))
    have hXR : w.heap.size ≠ w1.heap.size := hA6.rX
    have hXR2 : w1.heap.size ≠ w.heap.size := fun e => hXR e.symm
    clear hOz hcz hGz hS y0 y1 y2 y3 y4 y5 
    go_wp2_with fail
    obtain ⟨y0, y1, y2, y3, y4, y5⟩ := HY.out
    refine bodyPost_ret (v := .agg #[.int .i64 z, .int .i64 c.2.1, .int .i64 c.2.2.1, .slice vja vjn vjc, .slice vla vln vlc, .int .i64 c.2.2.2.2.2]) ?_ rfl HP.out
    simp [results, Try.results25, go_sem, y0, y1, y2, y3, y4, y5]
  by_cases x1 : x = 1
  · subst x1
    obtain ⟨w4, hw4⟩ : ∃ w4, w2.alloc (.cells #[.int .i64 0, .int .i64 999, .int .i64 1000, .int .i64 (-1)] 3) = w4 := ⟨_, rfl⟩
    have hb4 : Below w2.heap.size w2 w4 := by rw [← hw4]; exact below_make
    have hL4 : w4.heap[w2.heap.size]? = some (.cells #[.int .i64 0, .int .i64 999, .int .i64 1000, .int .i64 (-1)] 3 (0, 0)) := by rw [← hw4]; exact heap_alloc_new w2 _
    have hA4 := hA2.more hb4
    have HIN := Hid.mk' (int_ w0 w4 gc a len cap code w2.heap.size 4 4 _ _ hA4.cur hL4 rfl (by omega) (by omega) (by have := hA2.old; have := hA2.fr.size; omega) (fun z => decide (-1 ≤ z ∧ z ≤ 1000) = true) (some_atI _ 4 (fun z => decide (-1 ≤ z ∧ z ≤ 1000)) (by kernel_rfl)))
    rw [← hw4] at HIN
    have HW4 := Hid.mk' hw4
    clear hw4 hL4 hA2 hb4
    go_wp2_with fail
    refine HIN.out.mono ?_
    rw [HW4.out]
    rintro e w5 ⟨z, hz0, rfl, hc5, hg5⟩
    have hz : -1 ≤ z ∧ z ≤ 1000 := of_decide_eq_true hz0
    have hA5 := hA4.step hc5 hg5
    have hzw : (Lit.int .i64 z).wf = true := WalkArith.wf_i64 (by omega)
    have hP := hA5.ins.put2 z hzw
    obtain ⟨vja, vjn, vjc, vla, vln, vlc, F', hA6⟩ : ∃ ja jn jc la ln lc F, ACo w0 w (w5.setCell ⟨w1.heap.size, 2, none⟩ (.int .i64 z)) gc a len cap code w.heap.size w1.heap.size ja jn jc la ln lc (c.1, c.2.1, z, c.2.2.2.1, c.2.2.2.2.1, c.2.2.2.2.2) F := hA5.wrote ⟨ja, jn, jc, la, ln, lc, F, hP.1, (lay.Frame.refl _ _).grown hP.2 (fun k e => .inl (by rw [← Option.some.inj e]; exact List.mem_cons_self)), fun k hk => .inl hk⟩ ⟨hwf.n, hwf.life, hzw, hwf.sure⟩
    have t := hA5.ins.box.cell 2 _ rfl
    have t1 := hA5.ins.box.fz 2
    simp only [List.length_nil, Nat.zero_add] at t
    have hsame : vja = ja ∧ vjn = jn ∧ vjc = jc ∧ vla = la ∧ vln = ln ∧ vlc = lc := box_same hA6.ins.box hP.1.box
    obtain ⟨rfl, rfl, rfl, rfl, rfl, rfl⟩ := hsame
    clear HIN HW4 hP hA4 hc5 hg5 hA5 hz0
    obtain ⟨q0, q1, q2, q3, q4, q5⟩ := cells6 hA6.ins.box
    obtain ⟨z0, z1, z2, z3, z4, z5⟩ := cells6 hA6.rb
    have f0 := hA6.rb.fz 0
    have f1 := hA6.rb.fz 1
    have f2 := hA6.rb.fz 2
    have f3 := hA6.rb.fz 3
    have f4 := hA6.rb.fz 4
    have f5 := hA6.rb.fz 5
    have hS := hA6.rb.whole [.int .i64 c.1, .int .i64 c.2.1, .int .i64 z, .slice vja vjn vjc, .slice vla vln vlc, .int .i64 c.2.2.2.2.2] rfl
    obtain ⟨y0, y1, y2, y3, y4, y5⟩ := cells6 hS.1
    obtain ⟨g1, g2, g3⟩ := hA6.gX
    have hOz := coordR.ownGrown hA6.ins.own hS.2 (fun j hj e => hA6.rF (by rw [← Option.some.inj e]; exact hj))
    have hcz := hA6.cur.grown hS.2 (fun e => g3 (Option.some.inj e)) (fun k e => by cases e; exact hge)
    have hGz : w.grownBy (putAll (w5.setCell ⟨w1.heap.size, 2, none⟩ (.int .i64 z)) w.heap.size 0 [.int .i64 c.1, .int .i64 c.2.1, .int .i64 z, .slice vja vjn vjc, .slice vla vln vlc, .int .i64 c.2.2.2.2.2]) (some gc) := ⟨hS.2.os.trans hA6.fr.os, hS.2.tape.trans hA6.fr.tape, hS.2.output.trans hA6.fr.output, Nat.le_trans hA6.fr.size hS.2.size, fun k hk hne => (hS.2.block k (Nat.lt_of_lt_of_le hk hA6.fr.size) (fun e => by have := Option.some.inj e; omega)).trans (hA6.fr.block k hk hne)⟩
    have HP : Hid (GotAnyC w0 w gc a len cap code (.returned (.agg #[.int .i64 c.1, .int .i64 c.2.1, .int .i64 z, .slice vja vjn vjc, .slice vla vln vlc, .int .i64 c.2.2.2.2.2])) (putAll (w5.setCell ⟨w1.heap.size, 2, none⟩ (.int .i64 z)) w.heap.size 0 [.int .i64 c.1, .int .i64 c.2.1, .int .i64 z, .slice vja vjn vjc, .slice vla vln vlc, .int .i64 c.2.2.2.2.2])) := ⟨_, _, _, _, _, _, (c.1, c.2.1, z, c.2.2.2.1, c.2.2.2.2.1, c.2.2.2.2.2), _, by have := hcz0; unfold csz at *; simp only [] at *; omega, rfl, hOz, fun k hk => hA6.new k (List.mem_cons_of_mem _ hk), hcz, hGz⟩
    simp only [putAll, Nat.zero_add, Nat.reduceAdd] at HP y0 y1 y2 y3 y4 y5
    have HY := Hid.mk' (And.intro y0 (And.intro y1 (And.intro y2 (And.intro y3 (And.intro y4 y5)))))
    have hXR : w.heap.size ≠ w1.heap.size := hA6.rX
    have hXR2 : w1.heap.size ≠ w.heap.size := fun e => hXR e.symm
    clear hOz hcz hGz hS y0 y1 y2 y3 y4 y5 
    go_wp2_with fail
    obtain ⟨y0, y1, y2, y3, y4, y5⟩ := HY.out
    refine bodyPost_ret (v := .agg #[.int .i64 c.1, .int .i64 c.2.1, .int .i64 z, .slice vja vjn vjc, .slice vla vln vlc, .int .i64 c.2.2.2.2.2]) ?_ rfl HP.out
    simp [results, Try.results25, go_sem, y0, y1, y2, y3, y4, y5]
  by_cases x2 : x = 2
  · subst x2
    obtain ⟨w4, hw4⟩ : ∃ w4, w2.alloc (.cells #[.int .i64 0, .int .i64 1, .int .i64 900, .int .i64 901] 3) = w4 := ⟨_, rfl⟩
    have hb4 : Below w2.heap.size w2 w4 := by rw [← hw4]; exact below_make
    have hL4 : w4.heap[w2.heap.size]? = some (.cells #[.int .i64 0, .int .i64 1, .int .i64 900, .int .i64 901] 3 (0, 0)) := by rw [← hw4]; exact heap_alloc_new w2 _
    have hA4 := hA2.more hb4
    have HIN := Hid.mk' (int_ w0 w4 gc a len cap code w2.heap.size 4 4 _ _ hA4.cur hL4 rfl (by omega) (by omega) (by have := hA2.old; have := hA2.fr.size; omega) (fun z => decide (0 ≤ z ∧ z ≤ 901) = true) (some_atI _ 4 (fun z => decide (0 ≤ z ∧ z ≤ 901)) (by kernel_rfl)))
    rw [← hw4] at HIN
    have HW4 := Hid.mk' hw4
    clear hw4 hL4 hA2 hb4
    go_wp2_with fail
    refine HIN.out.mono ?_
    rw [HW4.out]
    rintro e w5 ⟨z, hz0, rfl, hc5, hg5⟩
    have hz : 0 ≤ z ∧ z ≤ 901 := of_decide_eq_true hz0
    have hA5 := hA4.step hc5 hg5
    have hzw : (Lit.int .i64 z).wf = true := WalkArith.wf_i64 (by omega)
    have hP := hA5.ins.put1 z hzw
    obtain ⟨vja, vjn, vjc, vla, vln, vlc, F', hA6⟩ : ∃ ja jn jc la ln lc F, ACo w0 w (w5.setCell ⟨w1.heap.size, 1, none⟩ (.int .i64 z)) gc a len cap code w.heap.size w1.heap.size ja jn jc la ln lc (c.1, z, c.2.2.1, c.2.2.2.1, c.2.2.2.2.1, c.2.2.2.2.2) F := hA5.wrote ⟨ja, jn, jc, la, ln, lc, F, hP.1, (lay.Frame.refl _ _).grown hP.2 (fun k e => .inl (by rw [← Option.some.inj e]; exact List.mem_cons_self)), fun k hk => .inl hk⟩ ⟨hwf.n, hzw, hwf.next, hwf.sure⟩
    have t := hA5.ins.box.cell 1 _ rfl
    have t1 := hA5.ins.box.fz 1
    simp only [List.length_nil, Nat.zero_add] at t
    have hsame : vja = ja ∧ vjn = jn ∧ vjc = jc ∧ vla = la ∧ vln = ln ∧ vlc = lc := box_same hA6.ins.box hP.1.box
    obtain ⟨rfl, rfl, rfl, rfl, rfl, rfl⟩ := hsame
    clear HIN HW4 hP hA4 hc5 hg5 hA5 hz0
    obtain ⟨q0, q1, q2, q3, q4, q5⟩ := cells6 hA6.ins.box
    obtain ⟨z0, z1, z2, z3, z4, z5⟩ := cells6 hA6.rb
    have f0 := hA6.rb.fz 0
    have f1 := hA6.rb.fz 1
    have f2 := hA6.rb.fz 2
    have f3 := hA6.rb.fz 3
    have f4 := hA6.rb.fz 4
    have f5 := hA6.rb.fz 5
    have hS := hA6.rb.whole [.int .i64 c.1, .int .i64 z, .int .i64 c.2.2.1, .slice vja vjn vjc, .slice vla vln vlc, .int .i64 c.2.2.2.2.2] rfl
    obtain ⟨y0, y1, y2, y3, y4, y5⟩ := cells6 hS.1
    obtain ⟨g1, g2, g3⟩ := hA6.gX
    have hOz := coordR.ownGrown hA6.ins.own hS.2 (fun j hj e => hA6.rF (by rw [← Option.some.inj e]; exact hj))
    have hcz := hA6.cur.grown hS.2 (fun e => g3 (Option.some.inj e)) (fun k e => by cases e; exact hge)
    have hGz : w.grownBy (putAll (w5.setCell ⟨w1.heap.size, 1, none⟩ (.int .i64 z)) w.heap.size 0 [.int .i64 c.1, .int .i64 z, .int .i64 c.2.2.1, .slice vja vjn vjc, .slice vla vln vlc, .int .i64 c.2.2.2.2.2]) (some gc) := ⟨hS.2.os.trans hA6.fr.os, hS.2.tape.trans hA6.fr.tape, hS.2.output.trans hA6.fr.output, Nat.le_trans hA6.fr.size hS.2.size, fun k hk hne => (hS.2.block k (Nat.lt_of_lt_of_le hk hA6.fr.size) (fun e => by have := Option.some.inj e; omega)).trans (hA6.fr.block k hk hne)⟩
    have HP : Hid (GotAnyC w0 w gc a len cap code (.returned (.agg #[.int .i64 c.1, .int .i64 z, .int .i64 c.2.2.1, .slice vja vjn vjc, .slice vla vln vlc, .int .i64 c.2.2.2.2.2])) (putAll (w5.setCell ⟨w1.heap.size, 1, none⟩ (.int .i64 z)) w.heap.size 0 [.int .i64 c.1, .int .i64 z, .int .i64 c.2.2.1, .slice vja vjn vjc, .slice vla vln vlc, .int .i64 c.2.2.2.2.2])) := ⟨_, _, _, _, _, _, (c.1, z, c.2.2.1, c.2.2.2.1, c.2.2.2.2.1, c.2.2.2.2.2), _, by have := hcz0; unfold csz at *; simp only [] at *; omega, rfl, hOz, fun k hk => hA6.new k (List.mem_cons_of_mem _ hk), hcz, hGz⟩
    simp only [putAll, Nat.zero_add, Nat.reduceAdd] at HP y0 y1 y2 y3 y4 y5
    have HY := Hid.mk' (And.intro y0 (And.intro y1 (And.intro y2 (And.intro y3 (And.intro y4 y5)))))
    have hXR : w.heap.size ≠ w1.heap.size := hA6.rX
    have hXR2 : w1.heap.size ≠ w.heap.size := fun e => hXR e.symm
    clear hOz hcz hGz hS y0 y1 y2 y3 y4 y5 
    go_wp2_with fail
    obtain ⟨y0, y1, y2, y3, y4, y5⟩ := HY.out
    refine bodyPost_ret (v := .agg #[.int .i64 c.1, .int .i64 z, .int .i64 c.2.2.1, .slice vja vjn vjc, .slice vla vln vlc, .int .i64 c.2.2.2.2.2]) ?_ rfl HP.out
    simp [results, Try.results25, go_sem, y0, y1, y2, y3, y4, y5]
  by_cases x3 : x = 3
  · subst x3
    have k4 := hA2.ins.box.cell 4 _ rfl
    simp only [List.length_nil, Nat.zero_add] at k4
    have hwr : IntKind.i64.wrap ((ln : Int) + 1) = (ln : Int) + 1 := wraps_i64 _ (by omega) (by omega)
    obtain ⟨w4, hw4⟩ : ∃ w4, w2.alloc (.cells #[.int .i64 (-1), .int .i64 ((ln : Int) + 1)] 3) = w4 := ⟨_, rfl⟩
    have hb4 : Below w2.heap.size w2 w4 := by rw [← hw4]; exact below_make
    have hL4 : w4.heap[w2.heap.size]? = some (.cells #[.int .i64 (-1), .int .i64 ((ln : Int) + 1)] 3 (0, 0)) := by rw [← hw4]; exact heap_alloc_new w2 _
    have hA4 := hA2.more hb4
    have HIN := Hid.mk' (int_ w0 w4 gc a len cap code w2.heap.size 2 2 _ _ hA4.cur hL4 rfl (by omega) (by omega) (by have := hA2.old; have := hA2.fr.size; omega) (fun z => -1 ≤ z ∧ z ≤ 1001) (fun i hi => by
        match i, hi with
        | 0, _ => exact ⟨-1, rfl, by omega, by omega⟩
        | 1, _ => exact ⟨(ln : Int) + 1, rfl, by omega, by omega⟩))
    rw [← hw4] at HIN
    have HW4 := Hid.mk' hw4
    clear hw4 hL4 hA2 hb4
    go_wp2_with fail
    refine HIN.out.mono ?_
    rw [HW4.out]
    rintro e w5 ⟨z, hz0, rfl, hc5, hg5⟩
    have hz : -1 ≤ z ∧ z ≤ 1001 := hz0
    have hA5 := hA4.step hc5 hg5
    have hzw : (Lit.int .i64 z).wf = true := WalkArith.wf_i64 (by omega)
    have hP := hA5.ins.put5 z hzw
    obtain ⟨vja, vjn, vjc, vla, vln, vlc, F', hA6⟩ : ∃ ja jn jc la ln lc F, ACo w0 w (w5.setCell ⟨w1.heap.size, 5, none⟩ (.int .i64 z)) gc a len cap code w.heap.size w1.heap.size ja jn jc la ln lc (c.1, c.2.1, c.2.2.1, c.2.2.2.1, c.2.2.2.2.1, z) F := hA5.wrote ⟨ja, jn, jc, la, ln, lc, F, hP.1, (lay.Frame.refl _ _).grown hP.2 (fun k e => .inl (by rw [← Option.some.inj e]; exact List.mem_cons_self)), fun k hk => .inl hk⟩ ⟨hwf.n, hwf.life, hwf.next, hzw⟩
    have t := hA5.ins.box.cell 5 _ rfl
    have t1 := hA5.ins.box.fz 5
    simp only [List.length_nil, Nat.zero_add] at t
    have hsame : vja = ja ∧ vjn = jn ∧ vjc = jc ∧ vla = la ∧ vln = ln ∧ vlc = lc := box_same hA6.ins.box hP.1.box
    obtain ⟨rfl, rfl, rfl, rfl, rfl, rfl⟩ := hsame
    clear HIN HW4 hP hA4 hc5 hg5 hA5 hz0
    obtain ⟨q0, q1, q2, q3, q4, q5⟩ := cells6 hA6.ins.box
    obtain ⟨z0, z1, z2, z3, z4, z5⟩ := cells6 hA6.rb
    have f0 := hA6.rb.fz 0
    have f1 := hA6.rb.fz 1
    have f2 := hA6.rb.fz 2
    have f3 := hA6.rb.fz 3
    have f4 := hA6.rb.fz 4
    have f5 := hA6.rb.fz 5
    have hS := hA6.rb.whole [.int .i64 c.1, .int .i64 c.2.1, .int .i64 c.2.2.1, .slice vja vjn vjc, .slice vla vln vlc, .int .i64 z] rfl
    obtain ⟨y0, y1, y2, y3, y4, y5⟩ := cells6 hS.1
    obtain ⟨g1, g2, g3⟩ := hA6.gX
    have hOz := coordR.ownGrown hA6.ins.own hS.2 (fun j hj e => hA6.rF (by rw [← Option.some.inj e]; exact hj))
    have hcz := hA6.cur.grown hS.2 (fun e => g3 (Option.some.inj e)) (fun k e => by cases e; exact hge)
    have hGz : w.grownBy (putAll (w5.setCell ⟨w1.heap.size, 5, none⟩ (.int .i64 z)) w.heap.size 0 [.int .i64 c.1, .int .i64 c.2.1, .int .i64 c.2.2.1, .slice vja vjn vjc, .slice vla vln vlc, .int .i64 z]) (some gc) := ⟨hS.2.os.trans hA6.fr.os, hS.2.tape.trans hA6.fr.tape, hS.2.output.trans hA6.fr.output, Nat.le_trans hA6.fr.size hS.2.size, fun k hk hne => (hS.2.block k (Nat.lt_of_lt_of_le hk hA6.fr.size) (fun e => by have := Option.some.inj e; omega)).trans (hA6.fr.block k hk hne)⟩
    have HP : Hid (GotAnyC w0 w gc a len cap code (.returned (.agg #[.int .i64 c.1, .int .i64 c.2.1, .int .i64 c.2.2.1, .slice vja vjn vjc, .slice vla vln vlc, .int .i64 z])) (putAll (w5.setCell ⟨w1.heap.size, 5, none⟩ (.int .i64 z)) w.heap.size 0 [.int .i64 c.1, .int .i64 c.2.1, .int .i64 c.2.2.1, .slice vja vjn vjc, .slice vla vln vlc, .int .i64 z])) := ⟨_, _, _, _, _, _, (c.1, c.2.1, c.2.2.1, c.2.2.2.1, c.2.2.2.2.1, z), _, by have := hcz0; unfold csz at *; simp only [] at *; omega, rfl, hOz, fun k hk => hA6.new k (List.mem_cons_of_mem _ hk), hcz, hGz⟩
    simp only [putAll, Nat.zero_add, Nat.reduceAdd] at HP y0 y1 y2 y3 y4 y5
    have HY := Hid.mk' (And.intro y0 (And.intro y1 (And.intro y2 (And.intro y3 (And.intro y4 y5)))))
    have hXR : w.heap.size ≠ w1.heap.size := hA6.rX
    have hXR2 : w1.heap.size ≠ w.heap.size := fun e => hXR e.symm
    clear hOz hcz hGz hS y0 y1 y2 y3 y4 y5 
    go_wp2_with fail
    obtain ⟨y0, y1, y2, y3, y4, y5⟩ := HY.out
    refine bodyPost_ret (v := .agg #[.int .i64 c.1, .int .i64 c.2.1, .int .i64 c.2.2.1, .slice vja vjn vjc, .slice vla vln vlc, .int .i64 z]) ?_ rfl HP.out
    simp [results, Try.results25, go_sem, y0, y1, y2, y3, y4, y5]
  by_cases x4 : x = 4
  · subst x4
    obtain ⟨vx, vy, F1, F2, e, _, hj, hl, hFe, hnd⟩ := coord_own.1 hA2.ins.own
    simp only [List.cons.injEq, and_true, true_and] at e
    obtain ⟨rfl, rfl⟩ := e
    obtain ⟨⟨ql, hL⟩, rfl⟩ := logs_own.1 hl
    obtain ⟨g1, g2, g3⟩ := hA2.gX
    have hd2 : Below w2.heap.size w2 w2.drew := (Below.refl _ _).drew
    have hAd := hA2.more hd2
    have HJ := Hid.mk' hj
    have HL := Hid.mk' hL
    have hds := hd2.size
    have hXl2 := hA2.ins.box.lt
    have hold := hA2.old
    have hfs := hA2.fr.size
    have hFl2 := coordR.ownLt hA2.ins.own
    have hXF := hA2.ins.out
    clear hj hl hL
    go_wp2_with fail
    refine last.wp_region_later (S := fun w' => BoxIn w1.heap.size TCo [] [.int .i64 c.1, .int .i64 c.2.1, .int .i64 c.2.2.1, .slice ja jn jc, .slice la ln lc, .int .i64 c.2.2.2.2.2] [] w') 9 (by kernel_rfl) hAd.ins.box (fun hHeld0 => ?_)
    generalize hDD : w2.drew = D at *
    clear hDD
    refine last.wpAnyL_take (i := 0) (v := (.pointer (some ⟨w1.heap.size, 4, none⟩))) rfl rfl (by kernel_rfl) (by kernel_rfl) (by kernel_rfl) (by kernel_rfl) (fun _ _ _ h => h) (Or.inl ⟨by rfl, ?_⟩) (by assumption) ?_
    · intro wq hSq; go_simp
    try simp only [Act.put, List.setIfInBounds_toArray, List.set_cons_zero, List.set_cons_succ]
    refine last.wpAnyL_take (i := 1) (v := (.slice la ln lc)) rfl rfl (by kernel_rfl) (by kernel_rfl) (by kernel_rfl) (by kernel_rfl) (fun _ _ _ h => h) (Or.inl ⟨by rfl, ?_⟩) (by assumption) ?_
    · intro wq hSq; have q := hSq.cell 4 _ rfl; simp only [List.length_nil, Nat.zero_add] at q; go_simp
    try simp only [Act.put, List.setIfInBounds_toArray, List.set_cons_zero, List.set_cons_succ]
    refine last.wpAnyL_take (i := 2) (v := (.pointer (some ⟨gc, 0, none⟩))) rfl rfl (by kernel_rfl) (by kernel_rfl) (by kernel_rfl) (by kernel_rfl) (fun _ _ _ h => h) (Or.inl ⟨by rfl, ?_⟩) (by assumption) ?_
    · intro wq hSq; go_simp
    try simp only [Act.put, List.setIfInBounds_toArray, List.set_cons_zero, List.set_cons_succ]
    refine last.wpAnyL_one (i := 3) (o := { dst := some 44, op := Op.buildSlice 34 4 #[(0, Operand.const (Value.int IntKind.i64 999)), (1, Operand.const (Value.int IntKind.i64 1000)), (2, Operand.const (Value.int IntKind.i64 1001)), (3, Operand.const (Value.int IntKind.i64 5000))], type := 34, pos := "l11_coord.go:257", after := #[], guard := none }) (by kernel_rfl) rfl (fun K hK => ?_)
    go_simp
    obtain ⟨w4, hw4⟩ : ∃ w4, D.alloc (.cells #[.int .i64 999, .int .i64 1000, .int .i64 1001, .int .i64 5000] 3) = w4 := ⟨_, rfl⟩
    have hb4 : Below D.heap.size D w4 := by rw [← hw4]; exact below_make
    have hL4 : w4.heap[D.heap.size]? = some (.cells #[.int .i64 999, .int .i64 1000, .int .i64 1001, .int .i64 5000] 3 (0, 0)) := by rw [← hw4]; exact heap_alloc_new D _
    have hA4 := hAd.more hb4
    have HIN := Hid.mk' (int_ w0 w4 gc a len cap code D.heap.size 4 4 _ _ hA4.cur hL4 rfl (by omega) (by omega) (by omega) (fun z => decide (999 ≤ z ∧ z ≤ 5000) = true) (some_atI _ 4 (fun z => decide (999 ≤ z ∧ z ≤ 5000)) (by kernel_rfl)))
    rw [hw4]
    clear hw4
    refine hK.out _ _ ?_ (fun hHeld => ?_)
    · exact hA4.ins.box
    clear hK K hHeld0
    have hHeld0 := hHeld
    clear hHeld
    try simp only [Act.put, List.setIfInBounds_toArray, List.set_cons_zero, List.set_cons_succ]
    refine last.wpAnyL_one (i := 4) (o := { dst := some 45, op := Op.call { callee := Callee.value (Operand.func 54), args := #[Operand.tmp 43, Operand.tmp 44], argTypes := #[57, 34] }, type := 3, pos := "l11_coord.go:257", after := #[{ on := 2, ground := Ground.data }, { on := 3, ground := Ground.data }], guard := none }) (by kernel_rfl) rfl (fun K hK => ?_)
    refine stepg.call2 rfl 54 (.tmp 43) (.tmp 44) _ rfl (fun _ _ => rfl) (.pointer (some ⟨gc, 0, none⟩)) (.slice (some ⟨D.heap.size, 0, none⟩) 4 4) (by kernel_rfl) (by kernel_rfl) _ HIN.out ?_
    rintro e w5 ⟨z, hz0, rfl, hc5, hg5⟩
    refine ⟨_, rfl, ?_⟩
    have hz : 999 ≤ z ∧ z ≤ 5000 := of_decide_eq_true hz0
    have hA5 := hA4.step hc5 hg5
    have hL5 : OwnG 42 chR w5 (.slice la ln lc) c.2.2.2.2.1 ql := by
      have h1 := (HL.out.below hd2).below hb4
      refine h1.keep fun b hb => hg5.block b (h1.at_ b hb) (fun e => g2 ?_)
      rw [(flat_ch.parts HL.out).2.2.1, List.append_nil] at hb
      rw [← Option.some.inj e, hFe]
      exact List.mem_append.2 (.inr hb)
    have hXlb : w1.heap.size ∉ (Value.slice la ln lc).ownBlock.toList := fun e => hXF (by rw [hFe]; exact List.mem_append.2 (.inr e))
    have hzw : (Lit.int .i64 z).wf = true := WalkArith.wf_i64 (by omega)
    obtain ⟨gl, lcap, w7, hrun, hX6, hX7, hl7, hF7, hgl, hglX⟩ := add_choice hA5.ins.box hL5 hXlb z false hzw (by have := HLN.out; omega)
    simp only [List.length_nil, Nat.zero_add] at hX7 hl7 hF7
    refine hK.out _ _ ?_ (fun hHeld => ?_)
    · exact hA5.ins.box
    clear hK K hHeld0
    have hHeld0 := hHeld
    clear hHeld
    try simp only [Act.put, List.setIfInBounds_toArray, List.set_cons_zero, List.set_cons_succ]
    refine last.wpAnyL_take (i := 5) (v := (.agg #[.int .i64 z, .bool false])) rfl rfl (by kernel_rfl) (by kernel_rfl) (by kernel_rfl) (by kernel_rfl) (fun _ _ _ h => h) (Or.inl ⟨by rfl, ?_⟩) (by assumption) ?_
    · intro wq hSq; go_simp
    try simp only [Act.put, List.setIfInBounds_toArray, List.set_cons_zero, List.set_cons_succ]
    refine last.wpAnyL_one (i := 6) (o := { dst := some 47, op := Op.buildSlice 25 1 #[(0, Operand.tmp 46)], type := 25, pos := "l11_coord.go:257", after := #[{ on := 5, ground := Ground.data }], guard := none }) (by kernel_rfl) rfl (fun K hK => ?_)
    go_simp
    have hb6 : Below w5.heap.size w5 (w5.alloc (.cells #[.int .i64 z, .bool false] 42)) := below_make
    refine hK.out _ _ ?_ (fun hHeld => ?_)
    · exact hA5.ins.box.below hb6
    clear hK K hHeld0
    have hHeld0 := hHeld
    clear hHeld
    try simp only [Act.put, List.setIfInBounds_toArray, List.set_cons_zero, List.set_cons_succ]
    refine last.wpAnyL_one (i := 7) (o := { dst := some 48, op := Op.call { callee := Callee.builtin Builtin.append, args := #[Operand.tmp 42, Operand.tmp 47], argTypes := #[25, 25] }, type := 25, pos := "l11_coord.go:257", after := #[{ on := 1, ground := Ground.data }, { on := 6, ground := Ground.data }, { on := 4, ground := Ground.chain }], guard := none }) (by kernel_rfl) rfl (fun K hK => ?_)
    refine step_append_run rfl (.tmp 42) (.tmp 47) 25 rfl (by kernel_rfl) (by kernel_rfl) hrun ?_
    refine hK.out _ _ ?_ (fun hHeld => ?_)
    · exact hX6
    clear hK K hHeld0
    have hHeld0 := hHeld
    clear hHeld
    try simp only [Act.put, List.setIfInBounds_toArray, List.set_cons_zero, List.set_cons_succ]
    refine last.wpAnyL_take (i := 8) (v := (.pointer (some ⟨w1.heap.size, 4, none⟩))) rfl rfl (by kernel_rfl) (by kernel_rfl) (by kernel_rfl) (by kernel_rfl) (fun _ _ _ h => h) (Or.inl ⟨by rfl, ?_⟩) (by assumption) ?_
    · intro wq hSq; go_simp
    try simp only [Act.put, List.setIfInBounds_toArray, List.set_cons_zero, List.set_cons_succ]
    have t4 := hX6.cell 4 _ rfl
    have t5 := hX6.fz 4
    simp only [List.length_nil, Nat.zero_add] at t4
    obtain ⟨U, hU⟩ : ∃ U, w7.setCell ⟨w1.heap.size, 4, none⟩ (.slice (some ⟨gl, 0, none⟩) (ln + 1) lcap) = U := ⟨_, rfl⟩
    rw [hU] at hX7 hl7 hF7
    have HU := Hid.mk' hU
    clear hU
    have hJ5 : jobsR.own w5 [.slice ja jn jc] c.2.2.2.1 F1 := by
      have h1 := jobsR.ownBelow (jobsR.ownBelow HJ.out hd2) hb4
      exact jobsR.ownGrown h1 hg5 (fun b hb e => g2 (by rw [← Option.some.inj e, hFe]; exact List.mem_append.2 (.inl hb)))
    have hdj : ∀ b ∈ F1, b ∉ w1.heap.size :: (Value.slice la ln lc).ownBlock.toList := fun b hb e => by
      rcases List.mem_cons.1 e with e | e
      · exact hXF (by rw [hFe, ← e]; exact List.mem_append.2 (.inl hb))
      · rw [hFe] at hnd
        exact (nodup_parts hnd).2.2 b hb e
    have hJ7 := jobsR.ownFrame hJ5 hF7 hdj
    have hFr : lay.Frame (w1.heap.size :: F) w5 U := hF7.mono (fun b hb => by
      rcases List.mem_cons.1 hb with e | e
      · rw [e]; exact List.mem_cons_self
      · exact List.mem_cons_of_mem _ (by rw [hFe]; exact List.mem_append.2 (.inr e)))
    have hg5s := hg5.size
    have hb4s := hb4.size
    have hCP : CoPost w5 w1.heap.size TCo [] [] F (c.1, c.2.1, c.2.2.1, c.2.2.2.1, c.2.2.2.2.1 ++ [(z, false)], c.2.2.2.2.2) U := co_post (c := (c.1, c.2.1, c.2.2.1, c.2.2.2.1, c.2.2.2.2.1 ++ [(z, false)], c.2.2.2.2.2)) (F1 := F1) (F2 := (Value.slice la ln lc).ownBlock.toList) hX7 hJ7 hl7 hFr ⟨hwf.n, hwf.life, hwf.next, hwf.sure⟩ (fun b hb => .inl hb) (fun b hb => by rw [List.mem_singleton] at hb; subst hb; exact hgl) (fun b hb hb2 => by
      rw [List.mem_singleton] at hb2
      subst hb2
      rcases hgl with e | e
      · exact hdj b hb (List.mem_cons_of_mem _ e)
      · have := hFl2 b (by rw [hFe]; exact List.mem_append.2 (.inl hb)); omega) (fun e => hXF (by rw [hFe]; exact List.mem_append.2 (.inl e))) (fun e => by rw [List.mem_singleton] at e; exact hglX e.symm) hFe
    obtain ⟨vja, vjn, vjc, vla, vln, vlc, F', hA6⟩ := hA5.wrote hCP ⟨hwf.n, hwf.life, hwf.next, hwf.sure⟩
    have hsame := box_same hA6.ins.box hX7
    obtain ⟨rfl, rfl, rfl, rfl, rfl, rfl⟩ := hsame
    refine last.wpAnyL_last (o := { dst := none, op := Op.store 25 (Operand.tmp 49) (Operand.tmp 48), type := 0, pos := "l11_coord.go:257", after := #[{ on := 8, ground := Ground.data }, { on := 7, ground := Ground.data }, { on := 7, ground := Ground.chain }, { on := 0, ground := Ground.phase }, { on := 1, ground := Ground.phase }, { on := 2, ground := Ground.phase }, { on := 3, ground := Ground.phase }, { on := 4, ground := Ground.phase }, { on := 5, ground := Ground.phase }, { on := 6, ground := Ground.phase }, { on := 7, ground := Ground.phase }], guard := none }) (by kernel_rfl) rfl (by kernel_rfl) (fun K hK => ?_)
    go_simp
    refine hK.out _ _ ?_
    clear hK K
    rw [HU.out]
    clear HU t4 t5 hrun hX6 hX7 hl7 hF7 hJ5 hJ7 hFr hCP hA5 hA4 hAd hA2 hHeld0 hL5 hb6 HIN hc5 hg5 hFe hL4 hgl hdj
    obtain ⟨q0, q1, q2, q3, q4, q5⟩ := cells6 hA6.ins.box
    obtain ⟨z0, z1, z2, z3, z4, z5⟩ := cells6 hA6.rb
    have f0 := hA6.rb.fz 0
    have f1 := hA6.rb.fz 1
    have f2 := hA6.rb.fz 2
    have f3 := hA6.rb.fz 3
    have f4 := hA6.rb.fz 4
    have f5 := hA6.rb.fz 5
    have hS := hA6.rb.whole [.int .i64 c.1, .int .i64 c.2.1, .int .i64 c.2.2.1, .slice vja vjn vjc, .slice (some ⟨gl, 0, none⟩) (ln + 1) vlc, .int .i64 c.2.2.2.2.2] rfl
    obtain ⟨y0, y1, y2, y3, y4, y5⟩ := cells6 hS.1
    obtain ⟨g1, g2, g3⟩ := hA6.gX
    have hOz := coordR.ownGrown hA6.ins.own hS.2 (fun j hj e => hA6.rF (by rw [← Option.some.inj e]; exact hj))
    have hcz := hA6.cur.grown hS.2 (fun e => g3 (Option.some.inj e)) (fun k e => by cases e; exact hge)
    have hGz : w.grownBy (putAll (U) w.heap.size 0 [.int .i64 c.1, .int .i64 c.2.1, .int .i64 c.2.2.1, .slice vja vjn vjc, .slice (some ⟨gl, 0, none⟩) (ln + 1) vlc, .int .i64 c.2.2.2.2.2]) (some gc) := ⟨hS.2.os.trans hA6.fr.os, hS.2.tape.trans hA6.fr.tape, hS.2.output.trans hA6.fr.output, Nat.le_trans hA6.fr.size hS.2.size, fun k hk hne => (hS.2.block k (Nat.lt_of_lt_of_le hk hA6.fr.size) (fun e => by have := Option.some.inj e; omega)).trans (hA6.fr.block k hk hne)⟩
    have HP : Hid (GotAnyC w0 w gc a len cap code (.returned (.agg #[.int .i64 c.1, .int .i64 c.2.1, .int .i64 c.2.2.1, .slice vja vjn vjc, .slice (some ⟨gl, 0, none⟩) (ln + 1) vlc, .int .i64 c.2.2.2.2.2])) (putAll (U) w.heap.size 0 [.int .i64 c.1, .int .i64 c.2.1, .int .i64 c.2.2.1, .slice vja vjn vjc, .slice (some ⟨gl, 0, none⟩) (ln + 1) vlc, .int .i64 c.2.2.2.2.2])) := ⟨_, _, _, _, _, _, (c.1, c.2.1, c.2.2.1, c.2.2.2.1, c.2.2.2.2.1 ++ [(z, false)], c.2.2.2.2.2), _, by have := hcz0; unfold csz at *; simp only [List.length_append, List.length_cons, List.length_nil] at *; omega, rfl, hOz, fun k hk => hA6.new k (List.mem_cons_of_mem _ hk), hcz, hGz⟩
    simp only [putAll, Nat.zero_add, Nat.reduceAdd] at HP y0 y1 y2 y3 y4 y5
    have HY := Hid.mk' (And.intro y0 (And.intro y1 (And.intro y2 (And.intro y3 (And.intro y4 y5)))))
    have hXR : w.heap.size ≠ w1.heap.size := hA6.rX
    have hXR2 : w1.heap.size ≠ w.heap.size := fun e => hXR e.symm
    clear hOz hcz hGz hS y0 y1 y2 y3 y4 y5 
    go_wp2_with fail
    obtain ⟨y0, y1, y2, y3, y4, y5⟩ := HY.out
    refine bodyPost_ret (v := .agg #[.int .i64 c.1, .int .i64 c.2.1, .int .i64 c.2.2.1, .slice vja vjn vjc, .slice (some ⟨gl, 0, none⟩) (ln + 1) vlc, .int .i64 c.2.2.2.2.2]) ?_ rfl HP.out
    simp [results, Try.results25, go_sem, y0, y1, y2, y3, y4, y5]
  by_cases x5 : x = 5
  · subst x5
    have k3 := hA2.ins.box.cell 3 _ rfl
    simp only [List.length_nil, Nat.zero_add] at k3
    by_cases hnz : 0 < jn
    rotate_left
    · have hnzi : ¬ (0 : Int) < (jn : Int) := by omega
      obtain ⟨q0, q1, q2, q3, q4, q5⟩ := cells6 hA2.ins.box
      obtain ⟨z0, z1, z2, z3, z4, z5⟩ := cells6 hA2.rb
      have f0 := hA2.rb.fz 0
      have f1 := hA2.rb.fz 1
      have f2 := hA2.rb.fz 2
      have f3 := hA2.rb.fz 3
      have f4 := hA2.rb.fz 4
      have f5 := hA2.rb.fz 5
      have hS := hA2.rb.whole [.int .i64 c.1, .int .i64 c.2.1, .int .i64 c.2.2.1, .slice ja jn jc, .slice la ln lc, .int .i64 c.2.2.2.2.2] rfl
      obtain ⟨y0, y1, y2, y3, y4, y5⟩ := cells6 hS.1
      obtain ⟨g1, g2, g3⟩ := hA2.gX
      have hOz := coordR.ownGrown hA2.ins.own hS.2 (fun j hj e => hA2.rF (by rw [← Option.some.inj e]; exact hj))
      have hcz := hA2.cur.grown hS.2 (fun e => g3 (Option.some.inj e)) (fun k e => by cases e; exact hge)
      have hGz : w.grownBy (putAll (w2) w.heap.size 0 [.int .i64 c.1, .int .i64 c.2.1, .int .i64 c.2.2.1, .slice ja jn jc, .slice la ln lc, .int .i64 c.2.2.2.2.2]) (some gc) := ⟨hS.2.os.trans hA2.fr.os, hS.2.tape.trans hA2.fr.tape, hS.2.output.trans hA2.fr.output, Nat.le_trans hA2.fr.size hS.2.size, fun k hk hne => (hS.2.block k (Nat.lt_of_lt_of_le hk hA2.fr.size) (fun e => by have := Option.some.inj e; omega)).trans (hA2.fr.block k hk hne)⟩
      have HP : Hid (GotAnyC w0 w gc a len cap code (.returned (.agg #[.int .i64 c.1, .int .i64 c.2.1, .int .i64 c.2.2.1, .slice ja jn jc, .slice la ln lc, .int .i64 c.2.2.2.2.2])) (putAll (w2) w.heap.size 0 [.int .i64 c.1, .int .i64 c.2.1, .int .i64 c.2.2.1, .slice ja jn jc, .slice la ln lc, .int .i64 c.2.2.2.2.2])) := ⟨_, _, _, _, _, _, c, _, by omega, rfl, hOz, fun k hk => hA2.new k (List.mem_cons_of_mem _ hk), hcz, hGz⟩
      simp only [putAll, Nat.zero_add, Nat.reduceAdd] at HP y0 y1 y2 y3 y4 y5
      have HY := Hid.mk' (And.intro y0 (And.intro y1 (And.intro y2 (And.intro y3 (And.intro y4 y5)))))
      have hXR : w.heap.size ≠ w1.heap.size := hA2.rX
      have hXR2 : w1.heap.size ≠ w.heap.size := fun e => hXR e.symm
      clear hOz hcz hGz hS y0 y1 y2 y3 y4 y5 hA2
      go_wp2_with fail
      obtain ⟨y0, y1, y2, y3, y4, y5⟩ := HY.out
      refine bodyPost_ret (v := .agg #[.int .i64 c.1, .int .i64 c.2.1, .int .i64 c.2.2.1, .slice ja jn jc, .slice la ln lc, .int .i64 c.2.2.2.2.2]) ?_ rfl HP.out
      simp [results, Try.results25, go_sem, y0, y1, y2, y3, y4, y5]
    have hnzi : (0 : Int) < (jn : Int) := by omega
    obtain ⟨vx, vy, F1, F2, e, _, hj, hl, hFe, hnd⟩ := coord_own.1 hA2.ins.own
    simp only [List.cons.injEq, and_true, true_and] at e
    obtain ⟨rfl, rfl⟩ := e
    obtain ⟨vj, qj, e, hF1, hJ⟩ := hj
    simp only [List.cons.injEq, and_true] at e
    subst e
    obtain ⟨gj, rfl⟩ : ∃ gj, ja = some ⟨gj, 0, none⟩ := by
      rcases hJ.shape with ⟨e, _⟩ | ⟨g, cp, e, _⟩
      · cases e; omega
      · cases e; exact ⟨g, rfl⟩
    have hqF : ∀ b ∈ (Value.slice (some ⟨gj, 0, none⟩) jn jc).ownBlock.toList ++ blocksOf qj, b ∈ F1 := fun b hb => by rw [hF1]; exact hb
    have hj0 : 0 < c.2.2.2.1.length := by have := hJ.nlen; omega
    obtain ⟨g1, g2, g3⟩ := hA2.gX
    have hd2 : Below w2.heap.size w2 w2.drew := (Below.refl _ _).drew
    have hAd := hA2.more hd2
    have hJd := hJ.below hd2
    have hld := logR.ownBelow hl hd2
    have hXF := hA2.ins.out
    clear hJ hl
    go_wp2_with fail
    refine last.wp_region_later (S := fun w' => BoxIn w1.heap.size TCo [] [.int .i64 c.1, .int .i64 c.2.1, .int .i64 c.2.2.1, .slice (some ⟨gj, 0, none⟩) jn jc, .slice la ln lc, .int .i64 c.2.2.2.2.2] [] w') 6 (by kernel_rfl) hAd.ins.box (fun hHeld0 => ?_)
    generalize hDD : w2.drew = D at *
    clear hDD
    refine last.wpAnyL_take (i := 0) (v := (.pointer (some ⟨w1.heap.size, 3, none⟩))) rfl rfl (by kernel_rfl) (by kernel_rfl) (by kernel_rfl) (by kernel_rfl) (fun _ _ _ h => h) (Or.inl ⟨by rfl, ?_⟩) (by assumption) ?_
    · intro wq hSq; go_simp
    try simp only [Act.put, List.setIfInBounds_toArray, List.set_cons_zero, List.set_cons_succ]
    refine last.wpAnyL_take (i := 1) (v := (.slice (some ⟨gj, 0, none⟩) jn jc)) rfl rfl (by kernel_rfl) (by kernel_rfl) (by kernel_rfl) (by kernel_rfl) (fun _ _ _ h => h) (Or.inl ⟨by rfl, ?_⟩) (by assumption) ?_
    · intro wq hSq; have q := hSq.cell 3 _ rfl; simp only [List.length_nil, Nat.zero_add] at q; go_simp
    try simp only [Act.put, List.setIfInBounds_toArray, List.set_cons_zero, List.set_cons_succ]
    refine last.wpAnyL_take (i := 2) (v := (.pointer (some ⟨gc, 0, none⟩))) rfl rfl (by kernel_rfl) (by kernel_rfl) (by kernel_rfl) (by kernel_rfl) (fun _ _ _ h => h) (Or.inl ⟨by rfl, ?_⟩) (by assumption) ?_
    · intro wq hSq; go_simp
    try simp only [Act.put, List.setIfInBounds_toArray, List.set_cons_zero, List.set_cons_succ]
    refine last.wpAnyL_one (i := 3) (o := { dst := some 59, op := Op.call { callee := Callee.value (Operand.func 53), args := #[Operand.tmp 58, Operand.const (Value.int IntKind.i64 5)], argTypes := #[57, 3] }, type := 3, pos := "l11_coord.go:260", after := #[{ on := 2, ground := Ground.data }], guard := none }) (by kernel_rfl) rfl (fun K hK => ?_)
    refine stepg.call2 rfl 53 (.tmp 58) (.const (.int .i64 5)) _ rfl (fun _ _ => rfl) (.pointer (some ⟨gc, 0, none⟩)) (.int .i64 5) (by kernel_rfl) rfl _ (below_ w0 _ gc a len cap code 5 hAd.cur (by omega) (by omega)) ?_
    rintro e w5 ⟨z, hz, rfl, hc5, hg5⟩
    refine ⟨_, rfl, ?_⟩
    have hA5 := hAd.step hc5 hg5
    have hJ5 := hJd.keep fun b hb => hg5.block b (hJd.at_ b hb) (fun e => g2 (by rw [← Option.some.inj e, hFe]; exact List.mem_append.2 (.inl (hqF b hb))))
    have hl5 := logR.ownGrown hld hg5 (fun b hb e => g2 (by rw [← Option.some.inj e, hFe]; exact List.mem_append.2 (.inr hb)))
    have hzw : (Lit.int .i64 (z : Int)).wf = true := WalkArith.wf_i64 (by omega)
    refine hK.out _ _ ?_ (fun hHeld => ?_)
    · exact hA5.ins.box
    clear hK K hHeld0
    have hHeld0 := hHeld
    clear hHeld
    try simp only [Act.put, List.setIfInBounds_toArray, List.set_cons_zero, List.set_cons_succ]
    refine last.wpAnyL_one (i := 4) (o := { dst := some 60, op := Op.indexAddr 24 (Operand.tmp 57) (Operand.const (Value.int IntKind.i64 0)), type := 0, pos := "l11_coord.go:260", after := #[{ on := 1, ground := Ground.data }, { on := 0, ground := Ground.phase }, { on := 1, ground := Ground.phase }, { on := 2, ground := Ground.phase }, { on := 3, ground := Ground.phase }], guard := none }) (by kernel_rfl) rfl (fun K hK => ?_)
    go_simp
    refine hK.out _ _ ?_ (fun hHeld => ?_)
    · exact hA5.ins.box
    clear hK K hHeld0
    have hHeld0 := hHeld
    clear hHeld
    try simp only [Act.put, List.setIfInBounds_toArray, List.set_cons_zero, List.set_cons_succ]
    refine last.wpAnyL_take (i := 5) (v := (.pointer (some ⟨gj, 2, none⟩))) rfl rfl (by kernel_rfl) (by kernel_rfl) (by kernel_rfl) (by kernel_rfl) (fun _ _ _ h => h) (Or.inl ⟨by rfl, ?_⟩) (by assumption) ?_
    · intro wq hSq; go_simp
    try simp only [Act.put, List.setIfInBounds_toArray, List.set_cons_zero, List.set_cons_succ]
    obtain ⟨us, FK, hu, hcl, hFK, hbk⟩ := hJ5.openF 0 hj0
    obtain ⟨oa, ol, oc, ya, yl, yc, rfl⟩ := job_vals hu
    have t2 := hcl 2 _ rfl
    have t3 := hJ5.frozen 2
    obtain ⟨q6, hJ6, hq6, hg6, -⟩ := hbk 2 (.int .i64 (z : Int)) (c.2.2.2.1[0].1, c.2.2.2.1[0].2.1, (z : Int), c.2.2.2.1[0].2.2.2) FK (by decide) (by
      obtain ⟨v1, v2, e, k1, k3, h1, h2, h3, h4⟩ := job_own.1 hu
      exact job_own.2 ⟨_, _, by rw [e]; rfl, k1, hzw, h1, h2, h3, h4⟩) (fun b hb => .inl hb)
    rw [show 0 * jobR.size + 2 = 2 from rfl] at hJ6 hg6 t2
    obtain ⟨U, hU⟩ : ∃ U, w5.setCell ⟨gj, 2, none⟩ (.int .i64 (z : Int)) = U := ⟨_, rfl⟩
    rw [hU] at hJ6 hg6
    have HU := Hid.mk' hU
    clear hU
    have hgj1 : gj ∈ F1 := hqF gj (by simp [Value.ownBlock])
    have hXj : gj ≠ w1.heap.size := fun e => hXF (by rw [hFe, ← e]; exact List.mem_append.2 (.inl hgj1))
    have hX6 := hA5.ins.box.grown hg6 (fun e => hXj (Option.some.inj e).symm)
    have hl6 := logR.ownGrown hl5 hg6 (fun b hb e => by
      rw [hFe] at hnd
      exact (nodup_parts hnd).2.2 gj hgj1 (Option.some.inj e ▸ hb))
    have hFr : lay.Frame (w1.heap.size :: F) w5 U := (lay.Frame.refl _ _).grown hg6 (fun k e => by cases e; exact .inl (List.mem_cons_of_mem _ (by rw [hFe]; exact List.mem_append.2 (.inl hgj1))))
    have hqb : ∀ b ∈ (Value.slice (some ⟨gj, 0, none⟩) jn jc).ownBlock.toList ++ blocksOf q6, b ∈ F1 := fun b hb => by
      rcases List.mem_append.1 hb with e | e
      · exact hqF b (List.mem_append.2 (.inl e))
      · rcases hq6 b e with e2 | e2
        · exact hqF b (List.mem_append.2 (.inr e2))
        · exact hqF b (List.mem_append.2 (.inr (hFK b e2)))
    have hCP : CoPost w5 w1.heap.size TCo [] [] F (c.1, c.2.1, c.2.2.1, c.2.2.2.1.set 0 (c.2.2.2.1[0].1, c.2.2.2.1[0].2.1, (z : Int), c.2.2.2.1[0].2.2.2), c.2.2.2.2.1, c.2.2.2.2.2) U := co_post (c := (c.1, c.2.1, c.2.2.1, c.2.2.2.1.set 0 (c.2.2.2.1[0].1, c.2.2.2.1[0].2.1, (z : Int), c.2.2.2.1[0].2.2.2), c.2.2.2.2.1, c.2.2.2.2.2)) (F1 := F1) (F2 := F2) hX6 ⟨_, _, rfl, rfl, hJ6⟩ hl6 hFr ⟨hwf.n, hwf.life, hwf.next, hwf.sure⟩ (fun b hb => .inl (hqb b hb)) (fun b hb => .inl hb) (fun b hb hb2 => by
      rw [hFe] at hnd
      exact (nodup_parts hnd).2.2 b (hqb b hb) hb2) (fun e => hXF (by rw [hFe]; exact List.mem_append.2 (.inl (hqb _ e)))) (fun e => hXF (by rw [hFe]; exact List.mem_append.2 (.inr e))) hFe
    obtain ⟨vja, vjn, vjc, vla, vln, vlc, F', hA6⟩ := hA5.wrote hCP ⟨hwf.n, hwf.life, hwf.next, hwf.sure⟩
    have hsame := box_same hA6.ins.box hX6
    obtain ⟨rfl, rfl, rfl, rfl, rfl, rfl⟩ := hsame
    have hszJ : sumJ (c.2.2.2.1.set 0 (c.2.2.2.1[0].1, c.2.2.2.1[0].2.1, (z : Int), c.2.2.2.1[0].2.2.2)) = sumJ c.2.2.2.1 := by
      unfold sumJ
      congr 1
      rw [List.map_set]
      refine List.ext_getElem (by simp) fun i h1 h2 => ?_
      rw [List.getElem_set]
      split
      · rename_i e; subst e; simp [jsz]
      · rfl
    have hszC : csz (c.1, c.2.1, c.2.2.1, c.2.2.2.1.set 0 (c.2.2.2.1[0].1, c.2.2.2.1[0].2.1, (z : Int), c.2.2.2.1[0].2.2.2), c.2.2.2.2.1, c.2.2.2.2.2) ≤ 400000 := by
      have := hcz0
      unfold csz at *
      simp only [List.length_set] at *
      rw [hszJ]
      omega
    refine last.wpAnyL_last (o := { dst := none, op := Op.store 3 (Operand.tmp 61) (Operand.tmp 59), type := 0, pos := "l11_coord.go:260", after := #[{ on := 5, ground := Ground.data }, { on := 3, ground := Ground.data }, { on := 3, ground := Ground.chain }, { on := 0, ground := Ground.phase }, { on := 1, ground := Ground.phase }, { on := 2, ground := Ground.phase }, { on := 3, ground := Ground.phase }], guard := none }) (by kernel_rfl) rfl (by kernel_rfl) (fun K hK => ?_)
    go_simp
    refine hK.out _ _ ?_
    clear hK K
    rw [HU.out]
    clear HU t2 t3 hu hcl hFK hbk hJ6 hg6 hX6 hl6 hFr hCP hA5 hAd hA2 hHeld0 hJ5 hl5 hJd hld hc5 hg5 hszJ hqb hq6
    obtain ⟨q0, q1, q2, q3, q4, q5⟩ := cells6 hA6.ins.box
    obtain ⟨z0, z1, z2, z3, z4, z5⟩ := cells6 hA6.rb
    have f0 := hA6.rb.fz 0
    have f1 := hA6.rb.fz 1
    have f2 := hA6.rb.fz 2
    have f3 := hA6.rb.fz 3
    have f4 := hA6.rb.fz 4
    have f5 := hA6.rb.fz 5
    have hS := hA6.rb.whole [.int .i64 c.1, .int .i64 c.2.1, .int .i64 c.2.2.1, .slice (some ⟨gj, 0, none⟩) vjn vjc, .slice vla vln vlc, .int .i64 c.2.2.2.2.2] rfl
    obtain ⟨y0, y1, y2, y3, y4, y5⟩ := cells6 hS.1
    obtain ⟨g1, g2, g3⟩ := hA6.gX
    have hOz := coordR.ownGrown hA6.ins.own hS.2 (fun j hj e => hA6.rF (by rw [← Option.some.inj e]; exact hj))
    have hcz := hA6.cur.grown hS.2 (fun e => g3 (Option.some.inj e)) (fun k e => by cases e; exact hge)
    have hGz : w.grownBy (putAll (U) w.heap.size 0 [.int .i64 c.1, .int .i64 c.2.1, .int .i64 c.2.2.1, .slice (some ⟨gj, 0, none⟩) vjn vjc, .slice vla vln vlc, .int .i64 c.2.2.2.2.2]) (some gc) := ⟨hS.2.os.trans hA6.fr.os, hS.2.tape.trans hA6.fr.tape, hS.2.output.trans hA6.fr.output, Nat.le_trans hA6.fr.size hS.2.size, fun k hk hne => (hS.2.block k (Nat.lt_of_lt_of_le hk hA6.fr.size) (fun e => by have := Option.some.inj e; omega)).trans (hA6.fr.block k hk hne)⟩
    have HP : Hid (GotAnyC w0 w gc a len cap code (.returned (.agg #[.int .i64 c.1, .int .i64 c.2.1, .int .i64 c.2.2.1, .slice (some ⟨gj, 0, none⟩) vjn vjc, .slice vla vln vlc, .int .i64 c.2.2.2.2.2])) (putAll (U) w.heap.size 0 [.int .i64 c.1, .int .i64 c.2.1, .int .i64 c.2.2.1, .slice (some ⟨gj, 0, none⟩) vjn vjc, .slice vla vln vlc, .int .i64 c.2.2.2.2.2])) := ⟨_, _, _, _, _, _, (c.1, c.2.1, c.2.2.1, c.2.2.2.1.set 0 (c.2.2.2.1[0].1, c.2.2.2.1[0].2.1, (z : Int), c.2.2.2.1[0].2.2.2), c.2.2.2.2.1, c.2.2.2.2.2), _, hszC, rfl, hOz, fun k hk => hA6.new k (List.mem_cons_of_mem _ hk), hcz, hGz⟩
    simp only [putAll, Nat.zero_add, Nat.reduceAdd] at HP y0 y1 y2 y3 y4 y5
    have HY := Hid.mk' (And.intro y0 (And.intro y1 (And.intro y2 (And.intro y3 (And.intro y4 y5)))))
    have hXR : w.heap.size ≠ w1.heap.size := hA6.rX
    have hXR2 : w1.heap.size ≠ w.heap.size := fun e => hXR e.symm
    clear hOz hcz hGz hS y0 y1 y2 y3 y4 y5 
    go_wp2_with fail
    obtain ⟨y0, y1, y2, y3, y4, y5⟩ := HY.out
    refine bodyPost_ret (v := .agg #[.int .i64 c.1, .int .i64 c.2.1, .int .i64 c.2.2.1, .slice (some ⟨gj, 0, none⟩) vjn vjc, .slice vla vln vlc, .int .i64 c.2.2.2.2.2]) ?_ rfl HP.out
    simp [results, Try.results25, go_sem, y0, y1, y2, y3, y4, y5]
  have e0 : ((x : Int) == 0) = false := beq_eq_false_iff_ne.2 (by omega)
  have e1 : ((x : Int) == 1) = false := beq_eq_false_iff_ne.2 (by omega)
  have e2 : ((x : Int) == 2) = false := beq_eq_false_iff_ne.2 (by omega)
  have e3 : ((x : Int) == 3) = false := beq_eq_false_iff_ne.2 (by omega)
  have e4 : ((x : Int) == 4) = false := beq_eq_false_iff_ne.2 (by omega)
  have e5 : ((x : Int) == 5) = false := beq_eq_false_iff_ne.2 (by omega)
  generalize (x : Int) = xi at *
  obtain ⟨q0, q1, q2, q3, q4, q5⟩ := cells6 hA2.ins.box
  obtain ⟨z0, z1, z2, z3, z4, z5⟩ := cells6 hA2.rb
  have f0 := hA2.rb.fz 0
  have f1 := hA2.rb.fz 1
  have f2 := hA2.rb.fz 2
  have f3 := hA2.rb.fz 3
  have f4 := hA2.rb.fz 4
  have f5 := hA2.rb.fz 5
  have hS := hA2.rb.whole [.int .i64 c.1, .int .i64 c.2.1, .int .i64 c.2.2.1, .slice ja jn jc, .slice la ln lc, .int .i64 c.2.2.2.2.2] rfl
  obtain ⟨y0, y1, y2, y3, y4, y5⟩ := cells6 hS.1
  obtain ⟨g1, g2, g3⟩ := hA2.gX
  have hOz := coordR.ownGrown hA2.ins.own hS.2 (fun j hj e => hA2.rF (by rw [← Option.some.inj e]; exact hj))
  have hcz := hA2.cur.grown hS.2 (fun e => g3 (Option.some.inj e)) (fun k e => by cases e; exact hge)
  have hGz : w.grownBy (putAll (w2) w.heap.size 0 [.int .i64 c.1, .int .i64 c.2.1, .int .i64 c.2.2.1, .slice ja jn jc, .slice la ln lc, .int .i64 c.2.2.2.2.2]) (some gc) := ⟨hS.2.os.trans hA2.fr.os, hS.2.tape.trans hA2.fr.tape, hS.2.output.trans hA2.fr.output, Nat.le_trans hA2.fr.size hS.2.size, fun k hk hne => (hS.2.block k (Nat.lt_of_lt_of_le hk hA2.fr.size) (fun e => by have := Option.some.inj e; omega)).trans (hA2.fr.block k hk hne)⟩
  have HP : Hid (GotAnyC w0 w gc a len cap code (.returned (.agg #[.int .i64 c.1, .int .i64 c.2.1, .int .i64 c.2.2.1, .slice ja jn jc, .slice la ln lc, .int .i64 c.2.2.2.2.2])) (putAll (w2) w.heap.size 0 [.int .i64 c.1, .int .i64 c.2.1, .int .i64 c.2.2.1, .slice ja jn jc, .slice la ln lc, .int .i64 c.2.2.2.2.2])) := ⟨_, _, _, _, _, _, c, _, by omega, rfl, hOz, fun k hk => hA2.new k (List.mem_cons_of_mem _ hk), hcz, hGz⟩
  simp only [putAll, Nat.zero_add, Nat.reduceAdd] at HP y0 y1 y2 y3 y4 y5
  have HY := Hid.mk' (And.intro y0 (And.intro y1 (And.intro y2 (And.intro y3 (And.intro y4 y5)))))
  have hXR : w.heap.size ≠ w1.heap.size := hA2.rX
  have hXR2 : w1.heap.size ≠ w.heap.size := fun e => hXR e.symm
  clear hOz hcz hGz hS y0 y1 y2 y3 y4 y5 hA2
  go_wp2_with fail
  obtain ⟨y0, y1, y2, y3, y4, y5⟩ := HY.out
  refine bodyPost_ret (v := .agg #[.int .i64 c.1, .int .i64 c.2.1, .int .i64 c.2.2.1, .slice ja jn jc, .slice la ln lc, .int .i64 c.2.2.2.2.2]) ?_ rfl HP.out
  simp [results, Try.results25, go_sem, y0, y1, y2, y3, y4, y5]
end Go.Proofs.Yteniflajiklffaa.cos
