/- Draws of those who decide. -/
import Derived.Test.YteniflajiklffaaShap
import Derived.Test.YteniflajiklffaaShar
namespace Go.Proofs.Yteniflajiklffaa.cos
open Go Go.RowKit Go.Proofs.Yteniflajiklffaa.base Go.Proofs.Yteniflajiklffaa.pairs Go.Proofs.Yteniflajiklffaa.ords Go.Proofs.Yteniflajiklffaa.lay Go.Proofs.Yteniflajiklffaa.wds Go.Proofs.Yteniflajiklffaa.draw
set_option linter.unusedVariables false
set_option linter.unusedSimpArgs false

theorem sizeC (a : Option Addr) (len cap : Nat) (most : Nat) (w : World) (hm : 3 ≤ most) (hm2 : most ≤ 1000000) (hl : len ≤ 1099511627776) :
    Calls Try.prog 26 #[.slice a len cap, .int .i64 (most : Int)] w fun e w' => ∃ n : Nat, 3 ≤ n ∧ n ≤ most ∧ e = .returned (.int .i64 (n : Int)) ∧ w' = w := by
  by_cases h : (most : Int) < 3 + (len : Int) / 12
  · go_enter Try.func26, Try.ntmps26
    go_wp2
    go_ret
    exact ⟨most, hm, Nat.le_refl _, rfl, rfl⟩
  · go_enter Try.func26, Try.ntmps26
    go_wp2
    go_ret
    exact ⟨3 + len / 12, by omega, by omega, ret_int (by omega), rfl⟩
abbrev TCo : TypeId := 27
theorem cur_frameC {w0 w w' : World} {gc : Nat} {a : Option Addr} {len cap : Nat} {code : List UInt8} {G : List Nat} (h : Cur w0 w gc a len cap code) (hf : lay.Frame G w w') (hn : gc ∉ G) (hG : ∀ k ∈ G, w0.heap.size ≤ k) : Cur w0 w' gc a len cap code := by
  have hlt := h.lt
  obtain ⟨hS, hB, hgc, hln, i, hh, hi0, hi1, hrow⟩ := h
  exact ⟨hS, hB.trans (hf.bel hB.size hG), hgc, hln, i, hh, hi0, hi1, (hf.block gc hlt hn).trans hrow⟩
structure CSt (w0 w wr : World) (gc : Nat) (a : Option Addr) (len cap : Nat) (code : List UInt8) (RB X : Nat) (ja : Option Addr) (jn jc : Nat) (la : Option Addr) (ln lc : Nat) (c : Co) (F : List Nat) : Prop where
  cur : Cur w0 wr gc a len cap code
  ins : InCo wr X TCo [] [] ja jn jc la ln lc c F
  dr : RightCo c
  new : ∀ k ∈ X :: F, w.heap.size ≤ k
  old : gc < w.heap.size
  base : w0.heap.size ≤ w.heap.size
  fr : w.grownBy wr (some gc)
  rb : BoxIn RB TCo [] [.int .i64 0, .int .i64 0, .int .i64 0, .slice none 0 0, .slice none 0 0, .int .i64 0] [] wr
  rX : RB ≠ X
  rF : RB ∉ F
  rn : w.heap.size ≤ RB
section
variable {w0 w wr w' : World} {gc : Nat} {a : Option Addr} {len cap : Nat} {code : List UInt8} {RB X : Nat} {ja la : Option Addr} {jn jc ln lc : Nat} {c c' : Co} {F : List Nat}
theorem CSt.gX (h : CSt w0 w wr gc a len cap code RB X ja jn jc la ln lc c F) : gc ≠ X ∧ gc ∉ F ∧ gc ≠ RB := by
  have h1 := h.old
  have h2 := h.new
  have h3 := h.rn
  refine ⟨fun e => ?_, fun e => ?_, fun e => ?_⟩
  · have := h2 X List.mem_cons_self; omega
  · have := h2 gc (List.mem_cons_of_mem _ e); omega
  · omega
theorem InCo.keepg {k : Nat} {w w' : World} (h : InCo w X TCo [] [] ja jn jc la ln lc c F) (hg : w.grownBy w' (some k)) (h1 : k ≠ X) (h2 : k ∉ F) : InCo w' X TCo [] [] ja jn jc la ln lc c F :=
  ⟨h.box.grown hg (fun e => h1 (Option.some.inj e).symm), coordR.ownGrown h.own hg (fun j hj e => h2 (by rw [← Option.some.inj e]; exact hj)), h.out⟩
theorem CSt.step (h : CSt w0 w wr gc a len cap code RB X ja jn jc la ln lc c F) (hc' : Cur w0 w' gc a len cap code) (hg : wr.grownBy w' (some gc)) : CSt w0 w w' gc a len cap code RB X ja jn jc la ln lc c F := by
  obtain ⟨g1, g2, g3⟩ := h.gX
  exact ⟨hc', h.ins.keepg hg g1 g2, h.dr, h.new, h.old, h.base, grownBy_trans h.fr hg, h.rb.grown hg (fun e => g3 (Option.some.inj e).symm), h.rX, h.rF, h.rn⟩
theorem CSt.more (h : CSt w0 w wr gc a len cap code RB X ja jn jc la ln lc c F) (hb : Below wr.heap.size wr w') : CSt w0 w w' gc a len cap code RB X ja jn jc la ln lc c F :=
  ⟨h.cur.below hb, h.ins.below hb, h.dr, h.new, h.old, h.base, grown_below h.fr hb, h.rb.below hb, h.rX, h.rF, h.rn⟩
theorem CSt.outside {J : Nat} (h : CSt w0 w wr gc a len cap code RB X ja jn jc la ln lc c F) (hg : wr.grownBy w' (some J)) (hJ : w.heap.size ≤ J) (h1 : J ≠ X) (h2 : J ∉ F) (h3 : J ≠ RB) : CSt w0 w w' gc a len cap code RB X ja jn jc la ln lc c F := by
  have hgc : gc ≠ J := fun e => by have := h.old; omega
  refine ⟨h.cur.grown hg (fun e => hgc (Option.some.inj e)) (fun k e => by cases e; exact Nat.le_trans h.base hJ), h.ins.keepg hg h1 h2, h.dr, h.new, h.old, h.base, ?_, h.rb.grown hg (fun e => h3 (Option.some.inj e).symm), h.rX, h.rF, h.rn⟩
  exact ⟨hg.os.trans h.fr.os, hg.tape.trans h.fr.tape, hg.output.trans h.fr.output, Nat.le_trans h.fr.size hg.size, fun k hk hne => (hg.block k (Nat.lt_of_lt_of_le hk h.fr.size) (fun e => by have := Option.some.inj e; omega)).trans (h.fr.block k hk hne)⟩
theorem CSt.wrote (h : CSt w0 w wr gc a len cap code RB X ja jn jc la ln lc c F) (hw : CoPost wr X TCo [] [] F c' w') (hd : RightCo c') : ∃ ja jn jc la ln lc F', CSt w0 w w' gc a len cap code RB X ja jn jc la ln lc c' F' := by
  obtain ⟨g1, g2, g3⟩ := h.gX
  obtain ⟨ja', jn', jc', la', ln', lc', F', h1, h2, h3⟩ := hw
  have hsz := h.fr.size
  have hnew : ∀ k ∈ F', w.heap.size ≤ k := fun k hk => by
    rcases h3 k hk with e | e
    · exact h.new k (List.mem_cons_of_mem _ e)
    · omega
  refine ⟨ja', jn', jc', la', ln', lc', F', cur_frameC h.cur h2 (fun e => ?_) (fun k hk => Nat.le_trans h.base (h.new k hk)), h1, hd, fun k hk => ?_, h.old, h.base, ?_, h.rb.frame h2 (fun e => ?_), h.rX, fun e => ?_, h.rn⟩
  · rcases List.mem_cons.1 e with e | e
    · exact g1 e
    · exact g2 e
  · rcases List.mem_cons.1 hk with e | e
    · rw [e]; exact h.new X List.mem_cons_self
    · exact hnew k e
  · exact ⟨h2.os.trans h.fr.os, h2.tape.trans h.fr.tape, h2.output.trans h.fr.output, Nat.le_trans h.fr.size h2.size, fun k hk hne => (h2.block k (Nat.lt_of_lt_of_le hk h.fr.size) (fun e => by have := h.new k e; omega)).trans (h.fr.block k hk hne)⟩
  · rcases List.mem_cons.1 e with e | e
    · exact h.rX e
    · exact h.rF e
  · rcases h3 RB e with e | e
    · exact h.rF e
    · have := h.rb.lt; omega
theorem CSt.lens (h : CSt w0 w wr gc a len cap code RB X ja jn jc la ln lc c F) : jn ≤ 999 ∧ ln ≤ 1000 ∧ jn = c.2.2.2.1.length ∧ ln = c.2.2.2.2.1.length := by
  have hs := see_co (coordR.ownSee h.ins.own)
  have h1 := hs.jobs.1
  have h2 := hs.log.1
  have := h.dr.jobsLen
  have := h.dr.few
  omega
theorem CSt.sure (h : CSt w0 w wr gc a len cap code RB X ja jn jc la ln lc c F) : CSt w0 w (wr.setCell ⟨X, 5, none⟩ (.int .i64 (ln : Int))) gc a len cap code RB X ja jn jc la ln lc (c.1, c.2.1, c.2.2.1, c.2.2.2.1, c.2.2.2.2.1, (c.2.2.2.2.1.length : Int)) F := by
  obtain ⟨g1, g2, g3⟩ := h.gX
  obtain ⟨_, k0, _, k1⟩ := h.lens
  have s := h.ins.box.set 5 (by simp) (.int .i64 (ln : Int))
  simp only [List.length_nil, Nat.zero_add] at s
  have hX := h.new X List.mem_cons_self
  have hwf : (Lit.int .i64 (c.2.2.2.2.1.length : Int)).wf = true := WalkArith.wf_i64 (by omega)
  have hO := coordR.ownGrown h.ins.own s.2 (fun j hj e => h.ins.out (by rw [← Option.some.inj e]; exact hj))
  obtain ⟨vx, vy, F1, F2, e, hw, hj, hl, hFe, hnd⟩ := coord_own.1 hO
  simp only [List.cons.injEq, and_true, true_and] at e
  obtain ⟨rfl, rfl⟩ := e
  refine ⟨h.cur.grown s.2 (fun e => g1 (Option.some.inj e)) (fun k e => by cases e; exact Nat.le_trans h.base hX), ⟨by rw [← k1]; exact s.1, coord_own.2 ⟨_, _, F1, F2, rfl, ⟨hw.n, hw.life, hw.next, hwf⟩, hj, hl, hFe, hnd⟩, h.ins.out⟩, right_sure h.dr, h.new, h.old, h.base, ?_, h.rb.grown s.2 (fun e => h.rX (Option.some.inj e)), h.rX, h.rF, h.rn⟩
  exact ⟨s.2.os.trans h.fr.os, s.2.tape.trans h.fr.tape, s.2.output.trans h.fr.output, Nat.le_trans h.fr.size s.2.size, fun k hk hne => (s.2.block k (Nat.lt_of_lt_of_le hk h.fr.size) (fun e => by have := Option.some.inj e; omega)).trans (h.fr.block k hk hne)⟩
theorem job_cells {w : World} {gj jn jc : Nat} {l : List Jb} {q : Parts} (h : OwnG 65 jobR w (.slice (some ⟨gj, 0, none⟩) jn jc) l q) (i : Nat) (hi : i < l.length) {v0 v1 v2 v3 : Value} (hv : (q[i]'(by have := h.len; omega)).1 = [v0, v1, v2, v3]) : w.cell? ⟨gj, i * 4, none⟩ = some v0 ∧ w.cell? ⟨gj, i * 4 + 1, none⟩ = some v1 ∧ w.cell? ⟨gj, i * 4 + 2, none⟩ = some v2 ∧ w.cell? ⟨gj, i * 4 + 3, none⟩ = some v3 := by
  have hc := h.cells i hi
  rw [hv] at hc
  exact ⟨hc 0 _ rfl, hc 1 _ rfl, hc 2 _ rfl, hc 3 _ rfl⟩
theorem ownO_outC {w w' : World} {base g n c : Nat} {l : List Od} {G : List Nat} (ho : OwnO w base g n c l) (hf : lay.Frame G w w') (hn : g ∉ G) : SlO w' (some ⟨g, 0, none⟩) n l := by
  have h9 := ho.mono (base' := 0) (Nat.zero_le _)
  refine OwnO.sl (base := 0) ⟨h9.1, h9.2.1, row_of_block h9.2.2 (fun k e => ?_)⟩
  have e3 : g = k := by simpa [Value.ownBlock] using e
  subst e3
  exact hf.block g ho.lt.2 hn
end
def GotCo (w0 w : World) (gc : Nat) (a : Option Addr) (len cap : Nat) (code : List UInt8) (most : Nat) (e : Ending) (w' : World) : Prop :=
  ∃ (ja : Option Addr) (jn jc : Nat) (la : Option Addr) (ln lc : Nat) (c : Co) (F : List Nat), RightCo c ∧ c.2.1 ≤ 1 + (most : Int) ∧ e = .returned (.agg #[.int .i64 c.1, .int .i64 c.2.1, .int .i64 c.2.2.1, .slice ja jn jc, .slice la ln lc, .int .i64 c.2.2.2.2.2]) ∧ coordR.own w' [.int .i64 c.1, .int .i64 c.2.1, .int .i64 c.2.2.1, .slice ja jn jc, .slice la ln lc, .int .i64 c.2.2.2.2.2] c F ∧ (∀ k ∈ F, w.heap.size ≤ k) ∧ Cur w0 w' gc a len cap code ∧ w.grownBy w' (some gc)
set_option maxRecDepth 100000 in
set_option maxHeartbeats 20000000 in
theorem d_coord (w0 w : World) (gc : Nat) (a : Option Addr) (len cap : Nat) (code : List UInt8) (most : Nat) (h : Cur w0 w gc a len cap code) (hm : 0 < most) (hm2 : most ≤ 800) :
    Calls Try.prog 52 #[.pointer (some ⟨gc, 0, none⟩), .int .i64 (most : Int)] w fun e w' => GotCo w0 w gc a len cap code most e w' := by
  have hcl := h.lt
  have hge := h.bel.size
  obtain ⟨wa, hwa⟩ : ∃ wa, (w.alloc (.cells #[.int .i64 0, .int .i64 0, .int .i64 0, .slice none 0 0, .slice none 0 0, .int .i64 0] 27)).alloc (.cells #[.int .i64 3, .int .i64 2, .int .i64 1] 3) = wa := ⟨_, rfl⟩
  have hba : Below w.heap.size w wa := by rw [← hwa]; exact ((Below.refl _ _).alloc (Nat.le_refl _) _).alloc (by simp) _
  have hsa : wa.heap.size = w.heap.size + 1 + 1 := by rw [← hwa]; simp
  have hRa : BoxIn w.heap.size TCo [] [.int .i64 0, .int .i64 0, .int .i64 0, .slice none 0 0, .slice none 0 0, .int .i64 0] [] wa := by rw [← hwa]; exact (boxIn_new w _ _).below below_make
  have hLa : wa.heap[w.heap.size + 1]? = some (.cells #[.int .i64 3, .int .i64 2, .int .i64 1] 3 (0, 0)) := by
    rw [← hwa]
    have := heap_alloc_new (w.alloc (.cells #[.int .i64 0, .int .i64 0, .int .i64 0, .slice none 0 0, .slice none 0 0, .int .i64 0] 27)) (.cells #[.int .i64 3, .int .i64 2, .int .i64 1] 3)
    rwa [show (w.alloc (.cells #[.int .i64 0, .int .i64 0, .int .i64 0, .slice none 0 0, .slice none 0 0, .int .i64 0] 27)).heap.size = w.heap.size + 1 by simp] at this
  have HWA := Hid.mk' hwa
  have HIN := Hid.mk' (int_ w0 wa gc a len cap code (w.heap.size + 1) 3 3 _ _ (h.below hba) hLa rfl (by omega) (by omega) (by omega) (fun z => decide (1 ≤ z ∧ z ≤ 3) = true) (some_atI _ 3 (fun z => decide (1 ≤ z ∧ z ≤ 3)) (by kernel_rfl)))
  clear hwa
  go_enter Try.func52, Try.ntmps52
  go_wp2_with fail
  rw [HWA.out]
  refine HIN.out.mono ?_
  rintro e w1 ⟨n, hn0, rfl, hc1, hg1⟩
  have hn : 1 ≤ n ∧ n ≤ 3 := of_decide_eq_true hn0
  have hR1 := hRa.grown hg1 (fun e => by have := Option.some.inj e; omega)
  have hG1 : w.grownBy w1 (some gc) := grownBy_trans (grown_below (World.grownBy.refl _ _) hba) hg1
  clear HWA HIN hn0
  have HSN := Hid.mk' (spec_coordNew n w1)
  have hnw : newR n = (n, 1, 0, [], [], 0) := if_pos ⟨hn.1, by omega⟩
  rw [hnw] at HSN
  clear hnw
  simp only [] at HSN
  go_wp2_with fail
  refine HSN.out.mono ?_
  rintro e w2 ⟨rfl, hb2⟩
  clear HSN
  obtain ⟨wb, hwb⟩ : ∃ wb, w2.alloc (.cells #[.int .i64 n, .int .i64 1, .int .i64 0, .slice none 0 0, .slice none 0 0, .int .i64 0] 27) = wb := ⟨_, rfl⟩
  have hbb : Below w2.heap.size w2 wb := by rw [← hwb]; exact below_make
  have hXb : BoxIn w2.heap.size TCo [] [.int .i64 n, .int .i64 1, .int .i64 0, .slice none 0 0, .slice none 0 0, .int .i64 0] [] wb := by rw [← hwb]; exact boxIn_new w2 _ _
  have hR2 := (hR1.below hb2).below hbb
  have hc2 := (hc1.below hb2).below hbb
  have hG2 := grown_below (grown_below hG1 hb2) hbb
  have hs2 := hG2.size
  have hRl := hR1.lt
  have hs12 := hb2.size
  have hs01 := hg1.size
  have hnwf : (Lit.int .i64 n).wf = true := WalkArith.wf_i64 (by omega)
  have hD0 : CSt w0 w wb gc a len cap code w.heap.size w2.heap.size none 0 0 none 0 0 (n, 1, 0, [], [], 0) [] :=
    ⟨hc2, ⟨hXb, coord_own.2 ⟨_, _, [], [], rfl, ⟨hnwf, (by decide : (Lit.int .i64 1).wf = true), (by decide : (Lit.int .i64 0).wf = true), (by decide : (Lit.int .i64 0).wf = true)⟩, lay.own_nil _ _ _, lay.own_nil _ _ _, rfl, List.nodup_nil⟩, List.not_mem_nil⟩, right_new ⟨hn.1, by omega⟩, fun k hk => by rw [List.mem_singleton.1 hk]; omega, hcl, hge, hG2, hR2, by omega, List.not_mem_nil, Nat.le_refl _⟩
  have HWB := Hid.mk' hwb
  generalize hXX : w2.heap.size = X at *
  have HBL := Hid.mk' (below_ w0 wb gc a len cap code (most : Int) hc2 (by omega) (by omega))
  clear hwb hc2 hG2 hR2 hXb hbb hb2 hc1 hg1 hG1 hR1 hRa hba hsa hRl hs12 hs2 hLa hs01
  go_wp2_with fail
  rw [HWB.out]
  refine HBL.out.mono ?_
  rintro e w3 ⟨y, hy, rfl, hc3, hg3⟩
  have hD3 := hD0.step hc3 hg3
  clear hD0 hc3 hg3 HBL HWB
  go_wp2_with fail
  go_loopw [6] (fun i wr => ∃ (k : Nat) (ja : Option Addr) (jn jc : Nat) (la : Option Addr) (ln lc : Nat) (c : Co) (F : List Nat), k ≤ most ∧ c.2.1 + (k : Int) ≤ 1 + (most : Int) ∧ i = .int .i64 (k : Int) ∧ CSt w0 w wr gc a len cap code w.heap.size X ja jn jc la ln lc c F) (fun i _ => (intOf i).toNat)
  case atStart => exact ⟨y, _, _, _, _, _, _, _, _, by omega, by simp only []; omega, rfl, hD3⟩
  case round =>
    clear hD3
    obtain ⟨k, ja, jn, jc, la, ln, lc, c, F, hk, hlk, rfl, hD⟩ := hrel
    by_cases hlt : 0 < k
    · have hki : (0 : Int) < (k : Int) := by omega
      go_wp2_with fail
      refine (below_ w0 _ gc a len cap code 8 hD.cur (by omega) (by omega)).mono ?_
      rintro e w5 ⟨z, hz, rfl, hc5, hg5⟩
      have hD5 := hD.step hc5 hg5
      clear hD hc5 hg5
      have hz8 : z = 0 ∨ z = 1 ∨ z = 2 ∨ z = 3 ∨ z = 4 ∨ z = 5 ∨ z = 6 ∨ z = 7 := by omega
      clear hz
      obtain ⟨hl3, hh3, hll, hhl⟩ := hD5.lens
      have HLL := Hid.mk' hll
      have HHL := Hid.mk' hhl
      have HLK := Hid.mk' hlk
      clear hll hhl hlk
      rcases hz8 with rfl | rfl | rfl | rfl | rfl | rfl | rfl | rfl
      · go_wp2_with fail
        refine (d_ops w0 _ gc a len cap code hD5.cur).mono ?_
        rintro e w6 ⟨g, n', cp, l, hn4, hlo, rfl, hO6, hc6, hg6⟩
        have hD6 := hD5.step hc6 hg6
        have hgn : g ∉ X :: F := fun e => by
          have h1 := hO6.lt.1
          have h2 := hD5.ins.box.lt
          rcases List.mem_cons.1 e with e | e
          · omega
          · have := coordR.ownLt hD5.ins.own g e; omega
        have htiny : ∀ p ∈ l, p.2.1.size ≤ 1099511627776 := fun p hp => by
          have := (tinyO_ok (((opsOk_iff _).1 hlo).1.1 p hp)).2.2.1
          omega
        have HHO := Hid.mk' (spec_l11Begin X TCo [] [] ja jn jc la ln lc c F (some ⟨g, 0, none⟩) n' cp l w6 hD6.ins (fun w' hf => ownO_outC hO6 hf hgn) htiny hD6.dr.life hD6.dr.next (by have := hD6.dr.jobsLen; omega) (by have := hD6.dr.few; omega))
        clear hD5 hO6 hc6 hg6
        go_wp2_with fail
        refine HHO.out.mono ?_
        rintro e w7 ⟨gw, mw, capw, qw, bja, bjn, bjc, bla, bln, blc, F', rfl, hWw, hqw, hI7, hf7, hfr7⟩
        obtain ⟨ja2, jn2, jc2, la2, ln2, lc2, F2, hD9⟩ := hD6.wrote ⟨bja, bjn, bjc, bla, bln, blc, F', hI7, hf7, hfr7⟩ (right_begin hD6.dr)
        clear HHO hWw hqw hI7 hf7 hfr7 hD6
        go_wp2_with fail
        go_roundw
        case rel => exact ⟨k - 1, _, _, _, _, _, _, _, _, by omega, by have h1 := HLK.out; have h2 := begin_life (c := c) (ops := l); omega, by go_num, hD9⟩
        case measure => simp [intOf]; omega
      · go_wp2_with fail
        refine (d_ops w0 _ gc a len cap code hD5.cur).mono ?_
        rintro e w6 ⟨g, n', cp, l, hn4, hlo, rfl, hO6, hc6, hg6⟩
        have hD6 := hD5.step hc6 hg6
        have hgn : g ∉ X :: F := fun e => by
          have h1 := hO6.lt.1
          have h2 := hD5.ins.box.lt
          rcases List.mem_cons.1 e with e | e
          · omega
          · have := coordR.ownLt hD5.ins.own g e; omega
        have htiny : ∀ p ∈ l, p.2.1.size ≤ 1099511627776 := fun p hp => by
          have := (tinyO_ok (((opsOk_iff _).1 hlo).1.1 p hp)).2.2.1
          omega
        have HHO := Hid.mk' (spec_l11Begin X TCo [] [] ja jn jc la ln lc c F (some ⟨g, 0, none⟩) n' cp l w6 hD6.ins (fun w' hf => ownO_outC hO6 hf hgn) htiny hD6.dr.life hD6.dr.next (by have := hD6.dr.jobsLen; omega) (by have := hD6.dr.few; omega))
        clear hD5 hO6 hc6 hg6
        go_wp2_with fail
        refine HHO.out.mono ?_
        rintro e w7 ⟨gw, mw, capw, qw, bja, bjn, bjc, bla, bln, blc, F', rfl, hWw, hqw, hI7, hf7, hfr7⟩
        obtain ⟨ja2, jn2, jc2, la2, ln2, lc2, F2, hD9⟩ := hD6.wrote ⟨bja, bjn, bjc, bla, bln, blc, F', hI7, hf7, hfr7⟩ (right_begin hD6.dr)
        clear HHO hWw hqw hI7 hf7 hfr7 hD6
        go_wp2_with fail
        go_roundw
        case rel => exact ⟨k - 1, _, _, _, _, _, _, _, _, by omega, by have h1 := HLK.out; have h2 := begin_life (c := c) (ops := l); omega, by go_num, hD9⟩
        case measure => simp [intOf]; omega
      · go_wp2_with fail
        refine (d_ops w0 _ gc a len cap code hD5.cur).mono ?_
        rintro e w6 ⟨g, n', cp, l, hn4, hlo, rfl, hO6, hc6, hg6⟩
        have hD6 := hD5.step hc6 hg6
        have hgn : g ∉ X :: F := fun e => by
          have h1 := hO6.lt.1
          have h2 := hD5.ins.box.lt
          rcases List.mem_cons.1 e with e | e
          · omega
          · have := coordR.ownLt hD5.ins.own g e; omega
        have htiny : ∀ p ∈ l, p.2.1.size ≤ 1099511627776 := fun p hp => by
          have := (tinyO_ok (((opsOk_iff _).1 hlo).1.1 p hp)).2.2.1
          omega
        have HHO := Hid.mk' (spec_l11Begin X TCo [] [] ja jn jc la ln lc c F (some ⟨g, 0, none⟩) n' cp l w6 hD6.ins (fun w' hf => ownO_outC hO6 hf hgn) htiny hD6.dr.life hD6.dr.next (by have := hD6.dr.jobsLen; omega) (by have := hD6.dr.few; omega))
        clear hD5 hO6 hc6 hg6
        go_wp2_with fail
        refine HHO.out.mono ?_
        rintro e w7 ⟨gw, mw, capw, qw, bja, bjn, bjc, bla, bln, blc, F', rfl, hWw, hqw, hI7, hf7, hfr7⟩
        obtain ⟨ja2, jn2, jc2, la2, ln2, lc2, F2, hD9⟩ := hD6.wrote ⟨bja, bjn, bjc, bla, bln, blc, F', hI7, hf7, hfr7⟩ (right_begin hD6.dr)
        clear HHO hWw hqw hI7 hf7 hfr7 hD6
        go_wp2_with fail
        go_roundw
        case rel => exact ⟨k - 1, _, _, _, _, _, _, _, _, by omega, by have h1 := HLK.out; have h2 := begin_life (c := c) (ops := l); omega, by go_num, hD9⟩
        case measure => simp [intOf]; omega
      · have k3 := hD5.ins.box.cell 3 _ rfl
        simp only [List.length_nil, Nat.zero_add] at k3
        by_cases hnz : 0 < jn
        rotate_left
        · have hnzi : ¬ (0 : Int) < (jn : Int) := by omega
          have hD9 := hD5
          go_wp2_with fail
          go_roundw
          case rel => exact ⟨k - 1, _, _, _, _, _, _, _, _, by omega, by have h1 := HLK.out; have h2 := Int.le_refl (0 : Int); omega, by go_num, hD9⟩
          case measure => simp [intOf]; omega
        have hnzi : (0 : Int) < (jn : Int) := by omega
        obtain ⟨vx, vy, F1, F2, e, hwf, hj, hl, hFe, hnd⟩ := coord_own.1 hD5.ins.own
        simp only [List.cons.injEq, and_true, true_and] at e
        obtain ⟨rfl, rfl⟩ := e
        obtain ⟨vj, qj, e, hF1, hJ⟩ := hj
        simp only [List.cons.injEq, and_true] at e
        subst e
        obtain ⟨gj, rfl⟩ : ∃ gj, ja = some ⟨gj, 0, none⟩ := by
          rcases hJ.shape with ⟨e, _⟩ | ⟨g, cp, e, _⟩
          · cases e; omega
          · cases e; exact ⟨g, rfl⟩
        have hqF : ∀ b ∈ (Value.slice (some ⟨gj, 0, none⟩) jn jc).ownBlock.toList ++ blocksOf qj, b ∈ F := fun b hb => by rw [hFe, hF1]; exact List.mem_append.2 (.inl hb)
        obtain ⟨g1, g2, g3⟩ := hD5.gX
        have hd5 : Below w5.heap.size w5 w5.drew := (Below.refl _ _).drew
        have hDd := hD5.more hd5
        have hJd := hJ.below hd5
        have HJ := Hid.mk' hJ
        have hRn := hD5.rn
        have hXn := hD5.new X List.mem_cons_self
        have hfs := hD5.fr.size
        have hFl5 := coordR.ownLt hD5.ins.own
        have hXl5 := hD5.ins.box.lt
        have hRl5 := hD5.rb.lt
        clear hl hF1 hJ
        go_wp2_with fail
        refine last.wp_region_later (S := fun w' => BoxIn X TCo [] [.int .i64 c.1, .int .i64 c.2.1, .int .i64 c.2.2.1, .slice (some ⟨gj, 0, none⟩) jn jc, .slice la ln lc, .int .i64 c.2.2.2.2.2] [] w' ∧ OwnG 65 jobR w' (.slice (some ⟨gj, 0, none⟩) jn jc) c.2.2.2.1 qj) 10 (by kernel_rfl) ⟨hDd.ins.box, hJd⟩ (fun hHeld0 => ?_)
        generalize hDD : w5.drew = D at *
        clear hDD
        refine last.wpAnyL_take (i := 0) (v := (.pointer (some ⟨X, 3, none⟩))) rfl rfl (by kernel_rfl) (by kernel_rfl) (by kernel_rfl) (by kernel_rfl) (fun _ _ _ h => h) (Or.inl ⟨by rfl, ?_⟩) (by assumption) ?_
        · intro wq hSq; go_simp
        try simp only [Act.put, List.setIfInBounds_toArray, List.set_cons_zero, List.set_cons_succ]
        refine last.wpAnyL_take (i := 1) (v := (.slice (some ⟨gj, 0, none⟩) jn jc)) rfl rfl (by kernel_rfl) (by kernel_rfl) (by kernel_rfl) (by kernel_rfl) (fun _ _ _ h => h) (Or.inl ⟨by rfl, ?_⟩) (by assumption) ?_
        · intro wq hSq; have q := hSq.1.cell 3 _ rfl; simp only [List.length_nil, Nat.zero_add] at q; go_simp
        try simp only [Act.put, List.setIfInBounds_toArray, List.set_cons_zero, List.set_cons_succ]
        refine last.wpAnyL_take (i := 2) (v := (.pointer (some ⟨gc, 0, none⟩))) rfl rfl (by kernel_rfl) (by kernel_rfl) (by kernel_rfl) (by kernel_rfl) (fun _ _ _ h => h) (Or.inl ⟨by rfl, ?_⟩) (by assumption) ?_
        · intro wq hSq; go_simp
        try simp only [Act.put, List.setIfInBounds_toArray, List.set_cons_zero, List.set_cons_succ]
        refine last.wpAnyL_take (i := 3) (v := (.pointer (some ⟨X, 3, none⟩))) rfl rfl (by kernel_rfl) (by kernel_rfl) (by kernel_rfl) (by kernel_rfl) (fun _ _ _ h => h) (Or.inl ⟨by rfl, ?_⟩) (by assumption) ?_
        · intro wq hSq; go_simp
        try simp only [Act.put, List.setIfInBounds_toArray, List.set_cons_zero, List.set_cons_succ]
        refine last.wpAnyL_take (i := 4) (v := (.slice (some ⟨gj, 0, none⟩) jn jc)) rfl rfl (by kernel_rfl) (by kernel_rfl) (by kernel_rfl) (by kernel_rfl) (fun _ _ _ h => h) (Or.inl ⟨by rfl, ?_⟩) (by assumption) ?_
        · intro wq hSq; have q := hSq.1.cell 3 _ rfl; simp only [List.length_nil, Nat.zero_add] at q; go_simp
        try simp only [Act.put, List.setIfInBounds_toArray, List.set_cons_zero, List.set_cons_succ]
        refine last.wpAnyL_take (i := 5) (v := (.int .i64 (jn : Int))) rfl rfl (by kernel_rfl) (by kernel_rfl) (by kernel_rfl) (by kernel_rfl) (fun _ _ _ h => h) (Or.inl ⟨by rfl, ?_⟩) (by assumption) ?_
        · intro wq hSq; go_simp
        try simp only [Act.put, List.setIfInBounds_toArray, List.set_cons_zero, List.set_cons_succ]
        refine last.wpAnyL_two (i := 6) (j := 9) (o := { dst := some 48, op := Op.call { callee := Callee.value (Operand.func 53), args := #[Operand.tmp 44, Operand.tmp 47], argTypes := #[57, 3] }, type := 3, pos := "l11_coord.go:230", after := #[{ on := 2, ground := Ground.data }, { on := 5, ground := Ground.data }], guard := none }) (o' := { dst := some 7, op := Op.alloc 65, type := 0, pos := "l11_coord.go:230", after := #[], guard := none }) (by kernel_rfl) rfl rfl (fun K hK => ?wayA0) (fun K hK => ?wayB0)
        case' wayA0 =>
          refine stepg.call2 rfl 53 (.tmp 44) (.tmp 47) _ rfl (fun _ _ => rfl) (.pointer (some ⟨gc, 0, none⟩)) (.int .i64 (jn : Int)) (by kernel_rfl) (by kernel_rfl) _ (below_ w0 _ gc a len cap code (jn : Int) hDd.cur (by omega) (by omega)) ?_
          rintro e wB ⟨j, hj0, rfl, hc6, hg6⟩
          refine ⟨_, rfl, ?_⟩
          have hD_wB := hDd.step hc6 hg6
          have hJ_wB := hJd.keep fun b hb => hg6.block b (hJd.at_ b hb) (fun e => g2 (by rw [← Option.some.inj e]; exact hqF b hb))
          have hs_wB := hg6.size
          have hjl : j < c.2.2.2.1.length := by have := HLL.out; omega
          have hjn : (j : Int) < (jn : Int) := hj0
          refine hK.out _ _ ?_ (fun hHeld => ?_)
          · exact ⟨hD_wB.ins.box, hJ_wB⟩
          clear hK K hHeld0
          have hHeld0 := hHeld
          clear hHeld
          try simp only [Act.put, List.setIfInBounds_toArray, List.set_cons_zero, List.set_cons_succ]
          obtain ⟨oa, ol, oc, ya, yl, yc, hvs⟩ := job_vals (HJ.out.each j hjl)
          refine last.wpAnyL_take (i := 7) (v := (.pointer (some ⟨gj, j * 4, none⟩))) rfl rfl (by kernel_rfl) (by kernel_rfl) (by kernel_rfl) (by kernel_rfl) (fun _ _ _ h => h) (Or.inl ⟨by rfl, ?_⟩) (by assumption) ?_
          · intro wq hSq; go_simp
          try simp only [Act.put, List.setIfInBounds_toArray, List.set_cons_zero, List.set_cons_succ]
          refine last.wpAnyL_take (i := 8) (v := (.agg #[.int .i64 c.2.2.2.1[j].1, .slice oa ol oc, .int .i64 c.2.2.2.1[j].2.2.1, .slice ya yl yc])) rfl rfl (by kernel_rfl) (by kernel_rfl) (by kernel_rfl) (by kernel_rfl) (fun _ _ _ h => h) (Or.inl ⟨by rfl, ?_⟩) (by assumption) ?_
          · intro wq hSq; obtain ⟨q0, q1, q2, q3⟩ := job_cells hSq.2 j hjl hvs; go_simp
          try simp only [Act.put, List.setIfInBounds_toArray, List.set_cons_zero, List.set_cons_succ]
          refine last.wpAnyL_one (i := 9) (o := { dst := some 7, op := Op.alloc 65, type := 0, pos := "l11_coord.go:230", after := #[], guard := none }) (by kernel_rfl) rfl (fun K hK => ?_)
          go_simp
          obtain ⟨wZ, hw_wZ⟩ : ∃ V, wB.alloc (.cells #[.int .i64 0, .slice none 0 0, .int .i64 0, .slice none 0 0] 65) = V := ⟨_, rfl⟩
          have hba : Below wB.heap.size wB wZ := by rw [← hw_wZ]; exact below_make
          have hJb : BoxIn wB.heap.size 65 [] [.int .i64 0, .slice none 0 0, .int .i64 0, .slice none 0 0] [] wZ := by rw [← hw_wZ]; exact boxIn_new _ _ _
          have hD_wZ := hD_wB.more hba
          have hJ_wZ := hJ_wB.below hba
          have hs_wZ := hba.size
          have hJbl := hJb.lt
          rw [hw_wZ]
          refine hK.out _ _ ?_ (fun hHeld => ?_)
          · exact ⟨hD_wZ.ins.box, hJ_wZ⟩
          clear hK K hHeld0
          have hHeld0 := hHeld
          clear hHeld
          try simp only [Act.put, List.setIfInBounds_toArray, List.set_cons_zero, List.set_cons_succ]
          clear hw_wZ
          have hJg : D.heap.size ≤ wB.heap.size := hs_wB
          generalize hJJ : wB.heap.size = J at *
          clear hba hD_wB hJ_wB hs_wB hs_wZ hJbl hc6 hg6
        case' wayB0 =>
          go_simp
          obtain ⟨wB, hw_wB⟩ : ∃ V, D.alloc (.cells #[.int .i64 0, .slice none 0 0, .int .i64 0, .slice none 0 0] 65) = V := ⟨_, rfl⟩
          have hba : Below D.heap.size D wB := by rw [← hw_wB]; exact below_make
          have hJb : BoxIn D.heap.size 65 [] [.int .i64 0, .slice none 0 0, .int .i64 0, .slice none 0 0] [] wB := by rw [← hw_wB]; exact boxIn_new _ _ _
          have hD_wB := hDd.more hba
          have hJ_wB := hJd.below hba
          have hs_wB := hba.size
          have hJbl := hJb.lt
          rw [hw_wB]
          refine hK.out _ _ ?_ (fun hHeld => ?_)
          · exact ⟨hD_wB.ins.box, hJ_wB⟩
          clear hK K hHeld0
          have hHeld0 := hHeld
          clear hHeld
          try simp only [Act.put, List.setIfInBounds_toArray, List.set_cons_zero, List.set_cons_succ]
          clear hw_wB
          refine last.wpAnyL_one (i := 6) (o := { dst := some 48, op := Op.call { callee := Callee.value (Operand.func 53), args := #[Operand.tmp 44, Operand.tmp 47], argTypes := #[57, 3] }, type := 3, pos := "l11_coord.go:230", after := #[{ on := 2, ground := Ground.data }, { on := 5, ground := Ground.data }], guard := none }) (by kernel_rfl) rfl (fun K hK => ?_)
          refine stepg.call2 rfl 53 (.tmp 44) (.tmp 47) _ rfl (fun _ _ => rfl) (.pointer (some ⟨gc, 0, none⟩)) (.int .i64 (jn : Int)) (by kernel_rfl) (by kernel_rfl) _ (below_ w0 _ gc a len cap code (jn : Int) hD_wB.cur (by omega) (by omega)) ?_
          rintro e wZ ⟨j, hj0, rfl, hc6, hg6⟩
          refine ⟨_, rfl, ?_⟩
          have hD_wZ := hD_wB.step hc6 hg6
          have hJ_wZ := hJ_wB.keep fun b hb => hg6.block b (hJ_wB.at_ b hb) (fun e => g2 (by rw [← Option.some.inj e]; exact hqF b hb))
          have hs_wZ := hg6.size
          have hjl : j < c.2.2.2.1.length := by have := HLL.out; omega
          have hjn : (j : Int) < (jn : Int) := hj0
          refine hK.out _ _ ?_ (fun hHeld => ?_)
          · exact ⟨hD_wZ.ins.box, hJ_wZ⟩
          clear hK K hHeld0
          have hHeld0 := hHeld
          clear hHeld
          try simp only [Act.put, List.setIfInBounds_toArray, List.set_cons_zero, List.set_cons_succ]
          obtain ⟨oa, ol, oc, ya, yl, yc, hvs⟩ := job_vals (HJ.out.each j hjl)
          refine last.wpAnyL_take (i := 7) (v := (.pointer (some ⟨gj, j * 4, none⟩))) rfl rfl (by kernel_rfl) (by kernel_rfl) (by kernel_rfl) (by kernel_rfl) (fun _ _ _ h => h) (Or.inl ⟨by rfl, ?_⟩) (by assumption) ?_
          · intro wq hSq; go_simp
          try simp only [Act.put, List.setIfInBounds_toArray, List.set_cons_zero, List.set_cons_succ]
          refine last.wpAnyL_take (i := 8) (v := (.agg #[.int .i64 c.2.2.2.1[j].1, .slice oa ol oc, .int .i64 c.2.2.2.1[j].2.2.1, .slice ya yl yc])) rfl rfl (by kernel_rfl) (by kernel_rfl) (by kernel_rfl) (by kernel_rfl) (fun _ _ _ h => h) (Or.inl ⟨by rfl, ?_⟩) (by assumption) ?_
          · intro wq hSq; obtain ⟨q0, q1, q2, q3⟩ := job_cells hSq.2 j hjl hvs; go_simp
          try simp only [Act.put, List.setIfInBounds_toArray, List.set_cons_zero, List.set_cons_succ]
          replace hJb := hJb.grown hg6 (fun e => by have := Option.some.inj e; have := hD5.old; have := hd5.size; omega)
          have hJg : D.heap.size ≤ D.heap.size := Nat.le_refl _
          generalize hJJ : D.heap.size = J at hJb hJg
          clear hba hD_wB hJ_wB hs_wB hs_wZ hJbl hc6 hg6
        all_goals
          have hds5 := hd5.size
          have hJw : w5.heap.size ≤ J := by omega
          have hJF : J ∉ F := fun e => by have := hFl5 J e; omega
          have hJl := hJb.lt
          obtain ⟨z0, z1, z2, z3⟩ := cells4 hJb
          have f0 := hJb.fz 0
          have f1 := hJb.fz 1
          have f2 := hJb.fz 2
          have f3 := hJb.fz 3
          have hS := hJb.whole [.int .i64 c.2.2.2.1[j].1, .slice oa ol oc, .int .i64 c.2.2.2.1[j].2.2.1, .slice ya yl yc] rfl
          obtain ⟨U, hU⟩ : ∃ U, putAll wZ J 0 [.int .i64 c.2.2.2.1[j].1, .slice oa ol oc, .int .i64 c.2.2.2.1[j].2.2.1, .slice ya yl yc] = U := ⟨_, rfl⟩
          rw [hU] at hS
          simp only [putAll, Nat.zero_add, Nat.reduceAdd] at hU
          have HU := Hid.mk' hU
          have hDU := hD_wZ.outside hS.2 (by omega) (by omega) hJF (by omega)
          have hJU := hJ_wZ.keep fun b hb => hS.2.block b (hJ_wZ.at_ b hb) (fun e => hJF (by rw [← Option.some.inj e]; exact hqF b hb))
          have hBU := hS.1
          clear hU
          refine last.wpAnyL_last (o := { dst := none, op := Op.store 65 (Operand.tmp 7) (Operand.tmp 50), type := 0, pos := "l11_coord.go:230", after := #[{ on := 9, ground := Ground.data }, { on := 8, ground := Ground.data }, { on := 6, ground := Ground.chain }, { on := 0, ground := Ground.phase }, { on := 1, ground := Ground.phase }, { on := 2, ground := Ground.phase }, { on := 3, ground := Ground.phase }, { on := 4, ground := Ground.phase }, { on := 5, ground := Ground.phase }, { on := 6, ground := Ground.phase }, { on := 7, ground := Ground.phase }, { on := 8, ground := Ground.phase }, { on := 9, ground := Ground.phase }], guard := none }) (by kernel_rfl) rfl (by kernel_rfl) (fun K hK => ?_)
          go_simp
          refine hK.out _ _ ?_
          clear hK K
          rw [HU.out]
          clear z0 z1 z2 z3 f0 f1 f2 f3 hS HU hJb hD_wZ hJ_wZ hHeld0
          have hjf := hDU.dr.jobs _ (List.getElem_mem hjl)
          have hown := hJU.each j hjl
          rw [hvs] at hown
          obtain ⟨vo, vyy, e, k1, k3', hoo, hyy, -, -⟩ := job_own.1 hown
          simp only [List.cons.injEq, and_true, true_and] at e
          obtain ⟨rfl, rfl⟩ := e
          have hSo : SlO U oa ol c.2.2.2.1[j].2.1 := (ops_see.1 (opsR.ownSee (ops_own.2 ⟨hoo, rfl⟩))).1
          have hol8 := (opsOk_len hjf.ops)
          have hol := hSo.1
          have HSH := Hid.mk' (spec_shardsOf oa ol oc c.2.2.2.1[j].2.1 c.1 U hSo (by omega) hwf.n)
          have HSR : Hid (∀ x ∈ shardsOf c.1 c.2.2.2.1[j].2.1, 0 ≤ x ∧ x ≤ 7) := fun x hx => by
            obtain ⟨o, _, rfl⟩ := (shards_mem c.1 c.2.2.2.1[j].2.1 x).1 hx
            have h3 := shardOf_range o.2.1 c.1
            have h4 := hDU.dr.n
            have := h3.2 (by omega)
            omega
          have HSN : Hid (0 < (shardsOf c.1 c.2.2.2.1[j].2.1).length) := by
            obtain ⟨o, ho⟩ : ∃ o, o ∈ c.2.2.2.1[j].2.1 := ⟨(c.2.2.2.1[j].2.1)[0]'(by omega), List.getElem_mem _⟩
            exact List.length_pos_of_mem ((shards_mem c.1 c.2.2.2.1[j].2.1 (shardOf o.2.1 c.1)).2 ⟨o, ho, rfl⟩)
          have HS8 : Hid ((shardsOf c.1 c.2.2.2.1[j].2.1).length ≤ 8) := shards_len c.1 c.2.2.2.1[j].2.1 hol8.2
          generalize shardsOf c.1 c.2.2.2.1[j].2.1 = sh at *
          obtain ⟨b0, b1, b2, b3⟩ := cells4 hBU
          have x0 := hDU.ins.box.cell 0 _ rfl
          simp only [List.length_nil, Nat.zero_add] at x0
          have HJW := Hid.mk' (And.intro hJw hJF)
          clear hown hoo hyy hSo hol hol8 hjf k3 k3' HJ hvs hJU hJd hDd hd5 hds5 hqF hFl5 hJw hJF hj0
          have htjw := k1
          have HDU := Hid.mk' hDU
          generalize c.2.2.2.1[j].1 = txj at *
          generalize c.2.2.2.1[j].2.2.1 = stj at *
          go_wp2_with fail
          refine HSH.out.mono ?_
          rintro e w7 ⟨gs, ns, cs, rfl, hZ, hb7⟩
          have hD7 := HDU.out.more hb7
          have hB7 := hBU.below hb7
          have hzl := hZ.1
          have hns : 0 < ns ∧ ns ≤ 8 := by have := HSN.out; have := HS8.out; omega
          have hd7 : Below w7.heap.size w7 w7.drew := (Below.refl _ _).drew
          have hD7d := hD7.more hd7
          have hZd := (hZ.mono (base' := 0) (Nat.zero_le _)).below hd7
          have hB7d := hB7.below hd7
          have hZl := hZ.lt
          have hU7 := hb7.size
          have hg7 : gs ≠ gc := fun e => by have := HDU.out.old; have := HDU.out.fr.size; omega
          have hJ7 : J ≠ gc := fun e => by have := HDU.out.old; have := HJW.out.1; omega
          clear HSH b0 b1 b2 b3 x0 hDU
          go_wp2_with fail
          refine last.wp_region_later (S := fun w' => BoxIn J 65 [] [.int .i64 txj, .slice oa ol oc, .int .i64 stj, .slice ya yl yc] [] w' ∧ OwnZ w' 0 gs ns cs sh) 12 (by kernel_rfl) ⟨hB7d, hZd⟩ (fun hHeld0 => ?_)
          generalize hDD : w7.drew = D7 at *
          clear hDD
          refine last.wpAnyL_via [5, 6] (i := 0) (v := (.slice (some ⟨gs, 0, none⟩) ns cs)) rfl (by kernel_rfl) (by kernel_rfl) (by kernel_rfl) (by kernel_rfl) (fun _ _ _ h => h) (Or.inl ⟨by rfl, ?_⟩) (by assumption) ?_
          · intro wq hSq; go_simp
          try simp only [Act.put, List.setIfInBounds_toArray, List.set_cons_zero, List.set_cons_succ]
          refine last.wpAnyL_via [4, 5, 6] (i := 1) (v := (.pointer (some ⟨gc, 0, none⟩))) rfl (by kernel_rfl) (by kernel_rfl) (by kernel_rfl) (by kernel_rfl) (fun _ _ _ h => h) (Or.inl ⟨by rfl, ?_⟩) (by assumption) ?_
          · intro wq hSq; go_simp
          try simp only [Act.put, List.setIfInBounds_toArray, List.set_cons_zero, List.set_cons_succ]
          refine last.wpAnyL_via [3, 4, 5, 6] (i := 2) (v := (.slice (some ⟨gs, 0, none⟩) ns cs)) rfl (by kernel_rfl) (by kernel_rfl) (by kernel_rfl) (by kernel_rfl) (fun _ _ _ h => h) (Or.inl ⟨by rfl, ?_⟩) (by assumption) ?_
          · intro wq hSq; go_simp
          try simp only [Act.put, List.setIfInBounds_toArray, List.set_cons_zero, List.set_cons_succ]
          refine last.wpAnyL_via [4, 5, 6] (i := 3) (v := (.int .i64 (ns : Int))) rfl (by kernel_rfl) (by kernel_rfl) (by kernel_rfl) (by kernel_rfl) (fun _ _ _ h => h) (Or.inl ⟨by rfl, ?_⟩) (by assumption) ?_
          · intro wq hSq; go_simp
          try simp only [Act.put, List.setIfInBounds_toArray, List.set_cons_zero, List.set_cons_succ]
          refine last.wpAnyL_via [8] (i := 7) (v := (.pointer (some ⟨J, 0, none⟩))) rfl (by kernel_rfl) (by kernel_rfl) (by kernel_rfl) (by kernel_rfl) (fun _ _ _ h => h) (Or.inl ⟨by rfl, ?_⟩) (by assumption) ?_
          · intro wq hSq; go_simp
          try simp only [Act.put, List.setIfInBounds_toArray, List.set_cons_zero, List.set_cons_succ]
          refine last.wpAnyL_take (i := 8) (v := (.int .i64 txj)) rfl rfl (by kernel_rfl) (by kernel_rfl) (by kernel_rfl) (by kernel_rfl) (fun _ _ _ h => h) (Or.inl ⟨by rfl, ?_⟩) (by assumption) ?_
          · intro wq hSq; obtain ⟨q0, q1, q2, q3⟩ := cells4 hSq.1; go_simp
          try simp only [Act.put, List.setIfInBounds_toArray, List.set_cons_zero, List.set_cons_succ]
          refine last.wpAnyL_via [10] (i := 9) (v := (.pointer (some ⟨gc, 0, none⟩))) rfl (by kernel_rfl) (by kernel_rfl) (by kernel_rfl) (by kernel_rfl) (fun _ _ _ h => h) (Or.inl ⟨by rfl, ?_⟩) (by assumption) ?_
          · intro wq hSq; go_simp
          try simp only [Act.put, List.setIfInBounds_toArray, List.set_cons_zero, List.set_cons_succ]
          refine last.wpAnyL_one (i := 4) (o := { dst := some 60, op := Op.call { callee := Callee.value (Operand.func 53), args := #[Operand.tmp 57, Operand.tmp 59], argTypes := #[57, 3] }, type := 3, pos := "l11_coord.go:232", after := #[{ on := 1, ground := Ground.data }, { on := 3, ground := Ground.data }], guard := none }) (by kernel_rfl) rfl (fun K hK => ?_)
          refine stepg.call2 rfl 53 (.tmp 57) (.tmp 59) _ rfl (fun _ _ => rfl) (.pointer (some ⟨gc, 0, none⟩)) (.int .i64 (ns : Int)) (by kernel_rfl) (by kernel_rfl) _ (below_ w0 _ gc a len cap code (ns : Int) hD7d.cur (by omega) (by omega)) ?_
          rintro e w8 ⟨i, hi0, rfl, hc8, hg8⟩
          refine ⟨_, rfl, ?_⟩
          have hD8 := hD7d.step hc8 hg8
          have hB8 := hB7d.grown hg8 (fun e => hJ7 (Option.some.inj e))
          have hZ8 := hZd.kept (hg8.block gs hZd.lt.2 (fun e => hg7 (Option.some.inj e)))
          have hil : i < sh.length := by omega
          have hin : (i : Int) < (ns : Int) := hi0
          have hsr := HSR.out _ (List.getElem_mem hil)
          refine hK.out _ _ ?_ (fun hHeld => ?_)
          · exact ⟨hB8, hZ8⟩
          clear hK K hHeld0
          have hHeld0 := hHeld
          clear hHeld
          try simp only [Act.put, List.setIfInBounds_toArray, List.set_cons_zero, List.set_cons_succ]
          refine last.wpAnyL_via [6] (i := 5) (v := (.pointer (some ⟨gs, i, none⟩))) rfl (by kernel_rfl) (by kernel_rfl) (by kernel_rfl) (by kernel_rfl) (fun _ _ _ h => h) (Or.inl ⟨by rfl, ?_⟩) (by assumption) ?_
          · intro wq hSq; go_simp
          try simp only [Act.put, List.setIfInBounds_toArray, List.set_cons_zero, List.set_cons_succ]
          refine last.wpAnyL_take (i := 6) (v := (.int .i64 sh[i])) rfl rfl (by kernel_rfl) (by kernel_rfl) (by kernel_rfl) (by kernel_rfl) (fun _ _ _ h => h) (Or.inl ⟨by rfl, ?_⟩) (by assumption) ?_
          · intro wq hSq; have q := hSq.2.at i hil; go_simp
          try simp only [Act.put, List.setIfInBounds_toArray, List.set_cons_zero, List.set_cons_succ]
          refine last.wpAnyL_one (i := 10) (o := { dst := some 66, op := Op.call { callee := Callee.value (Operand.func 94), args := #[Operand.tmp 65, Operand.const (Value.int IntKind.i64 5)], argTypes := #[57, 3] }, type := 4, pos := "l11_coord.go:232", after := #[{ on := 9, ground := Ground.data }, { on := 4, ground := Ground.chain }], guard := none }) (by kernel_rfl) rfl (fun K hK => ?_)
          refine stepg.call2 rfl 94 (.tmp 65) (.const (.int .i64 5)) _ rfl (fun _ _ => rfl) (.pointer (some ⟨gc, 0, none⟩)) (.int .i64 5) (by kernel_rfl) rfl _ (d_once w0 _ gc a len cap code 5 hD8.cur (by omega) (by omega)) ?_
          rintro e w9 ⟨b9, rfl, hc9, hg9⟩
          refine ⟨_, rfl, ?_⟩
          have hD9' := hD8.step hc9 hg9
          have hB9 := hB8.grown hg9 (fun e => hJ7 (Option.some.inj e))
          have hZ9 := hZ8.kept (hg9.block gs hZ8.lt.2 (fun e => hg7 (Option.some.inj e)))
          refine hK.out _ _ ?_ (fun hHeld => ?_)
          · exact ⟨hB9, hZ9⟩
          clear hK K hHeld0
          have hHeld0 := hHeld
          clear hHeld
          try simp only [Act.put, List.setIfInBounds_toArray, List.set_cons_zero, List.set_cons_succ]
          refine last.wpAnyL_take (i := 11) (v := (.bool !b9)) rfl rfl (by kernel_rfl) (by kernel_rfl) (by kernel_rfl) (by kernel_rfl) (fun _ _ _ h => h) (Or.inl ⟨by rfl, ?_⟩) (by assumption) ?_
          · intro wq hSq; go_simp
          try simp only [Act.put, List.setIfInBounds_toArray, List.set_cons_zero, List.set_cons_succ]
          have HVO := Hid.mk' (spec_l11Vote X TCo [] [] (some ⟨gj, 0, none⟩) jn jc la ln lc c F sh[i] txj (!b9) w9 hD9'.ins hD9'.dr (WalkArith.wf_i64 (by omega)) htjw (by have := hD9'.dr.jobsLen; omega))
          generalize sh[i] = si at *
          refine last.wpAnyL_last (o := { dst := some 68, op := Op.call { callee := Callee.value (Operand.func 93), args := #[Operand.tmp 5, Operand.tmp 62, Operand.tmp 64, Operand.tmp 67], argTypes := #[72, 3, 3, 4] }, type := 0, pos := "l11_coord.go:232", after := #[{ on := 6, ground := Ground.data }, { on := 8, ground := Ground.data }, { on := 11, ground := Ground.data }, { on := 10, ground := Ground.chain }], guard := none }) (by kernel_rfl) rfl (by kernel_rfl) (fun K hK => ?_)
          refine stepg.call4 rfl 93 (.tmp 5) (.tmp 62) (.tmp 64) (.tmp 67) _ rfl (fun _ _ => rfl) (.pointer (some ⟨X, 0, none⟩)) (.int .i64 si) (.int .i64 txj) (.bool !b9) (by kernel_rfl) (by kernel_rfl) (by kernel_rfl) (by kernel_rfl) _ HVO.out ?_
          rintro e w10 ⟨rfl, hwp⟩
          refine ⟨_, rfl, ?_⟩
          obtain ⟨ja2, jn2, jc2, la2, ln2, lc2, Fz, hD9⟩ := hD9'.wrote hwp (vote_right hD9'.dr)
          clear HVO hwp hD9' hHeld0 hB9 hZ9 hD8 hB8 hZ8 hD7d hZd hB7d hD7 hB7 hZ
          refine hK.out _ _ ?_
          clear hK K
          go_wp2_with fail
          go_roundw
          case rel => exact ⟨k - 1, _, _, _, _, _, _, _, _, by omega, by have h1 := HLK.out; have h2 := vote_life (c := c) (shard := si) (tx := txj) (yes := !b9); omega, by go_num, hD9⟩
          case measure => simp [intOf]; omega
      · have k3 := hD5.ins.box.cell 3 _ rfl
        simp only [List.length_nil, Nat.zero_add] at k3
        by_cases hnz : 0 < jn
        rotate_left
        · have hnzi : ¬ (0 : Int) < (jn : Int) := by omega
          have hD9 := hD5
          go_wp2_with fail
          go_roundw
          case rel => exact ⟨k - 1, _, _, _, _, _, _, _, _, by omega, by have h1 := HLK.out; have h2 := Int.le_refl (0 : Int); omega, by go_num, hD9⟩
          case measure => simp [intOf]; omega
        have hnzi : (0 : Int) < (jn : Int) := by omega
        obtain ⟨vx, vy, F1, F2, e, hwf, hj, hl, hFe, hnd⟩ := coord_own.1 hD5.ins.own
        simp only [List.cons.injEq, and_true, true_and] at e
        obtain ⟨rfl, rfl⟩ := e
        obtain ⟨vj, qj, e, hF1, hJ⟩ := hj
        simp only [List.cons.injEq, and_true] at e
        subst e
        obtain ⟨gj, rfl⟩ : ∃ gj, ja = some ⟨gj, 0, none⟩ := by
          rcases hJ.shape with ⟨e, _⟩ | ⟨g, cp, e, _⟩
          · cases e; omega
          · cases e; exact ⟨g, rfl⟩
        have hqF : ∀ b ∈ (Value.slice (some ⟨gj, 0, none⟩) jn jc).ownBlock.toList ++ blocksOf qj, b ∈ F := fun b hb => by rw [hFe, hF1]; exact List.mem_append.2 (.inl hb)
        obtain ⟨g1, g2, g3⟩ := hD5.gX
        have hd5 : Below w5.heap.size w5 w5.drew := (Below.refl _ _).drew
        have hDd := hD5.more hd5
        have hJd := hJ.below hd5
        have HJ := Hid.mk' hJ
        have hRn := hD5.rn
        have hXn := hD5.new X List.mem_cons_self
        have hfs := hD5.fr.size
        have hFl5 := coordR.ownLt hD5.ins.own
        have hXl5 := hD5.ins.box.lt
        have hRl5 := hD5.rb.lt
        clear hl hF1 hJ
        go_wp2_with fail
        refine last.wp_region_later (S := fun w' => BoxIn X TCo [] [.int .i64 c.1, .int .i64 c.2.1, .int .i64 c.2.2.1, .slice (some ⟨gj, 0, none⟩) jn jc, .slice la ln lc, .int .i64 c.2.2.2.2.2] [] w' ∧ OwnG 65 jobR w' (.slice (some ⟨gj, 0, none⟩) jn jc) c.2.2.2.1 qj) 10 (by kernel_rfl) ⟨hDd.ins.box, hJd⟩ (fun hHeld0 => ?_)
        generalize hDD : w5.drew = D at *
        clear hDD
        refine last.wpAnyL_take (i := 0) (v := (.pointer (some ⟨X, 3, none⟩))) rfl rfl (by kernel_rfl) (by kernel_rfl) (by kernel_rfl) (by kernel_rfl) (fun _ _ _ h => h) (Or.inl ⟨by rfl, ?_⟩) (by assumption) ?_
        · intro wq hSq; go_simp
        try simp only [Act.put, List.setIfInBounds_toArray, List.set_cons_zero, List.set_cons_succ]
        refine last.wpAnyL_take (i := 1) (v := (.slice (some ⟨gj, 0, none⟩) jn jc)) rfl rfl (by kernel_rfl) (by kernel_rfl) (by kernel_rfl) (by kernel_rfl) (fun _ _ _ h => h) (Or.inl ⟨by rfl, ?_⟩) (by assumption) ?_
        · intro wq hSq; have q := hSq.1.cell 3 _ rfl; simp only [List.length_nil, Nat.zero_add] at q; go_simp
        try simp only [Act.put, List.setIfInBounds_toArray, List.set_cons_zero, List.set_cons_succ]
        refine last.wpAnyL_take (i := 2) (v := (.pointer (some ⟨gc, 0, none⟩))) rfl rfl (by kernel_rfl) (by kernel_rfl) (by kernel_rfl) (by kernel_rfl) (fun _ _ _ h => h) (Or.inl ⟨by rfl, ?_⟩) (by assumption) ?_
        · intro wq hSq; go_simp
        try simp only [Act.put, List.setIfInBounds_toArray, List.set_cons_zero, List.set_cons_succ]
        refine last.wpAnyL_take (i := 3) (v := (.pointer (some ⟨X, 3, none⟩))) rfl rfl (by kernel_rfl) (by kernel_rfl) (by kernel_rfl) (by kernel_rfl) (fun _ _ _ h => h) (Or.inl ⟨by rfl, ?_⟩) (by assumption) ?_
        · intro wq hSq; go_simp
        try simp only [Act.put, List.setIfInBounds_toArray, List.set_cons_zero, List.set_cons_succ]
        refine last.wpAnyL_take (i := 4) (v := (.slice (some ⟨gj, 0, none⟩) jn jc)) rfl rfl (by kernel_rfl) (by kernel_rfl) (by kernel_rfl) (by kernel_rfl) (fun _ _ _ h => h) (Or.inl ⟨by rfl, ?_⟩) (by assumption) ?_
        · intro wq hSq; have q := hSq.1.cell 3 _ rfl; simp only [List.length_nil, Nat.zero_add] at q; go_simp
        try simp only [Act.put, List.setIfInBounds_toArray, List.set_cons_zero, List.set_cons_succ]
        refine last.wpAnyL_take (i := 5) (v := (.int .i64 (jn : Int))) rfl rfl (by kernel_rfl) (by kernel_rfl) (by kernel_rfl) (by kernel_rfl) (fun _ _ _ h => h) (Or.inl ⟨by rfl, ?_⟩) (by assumption) ?_
        · intro wq hSq; go_simp
        try simp only [Act.put, List.setIfInBounds_toArray, List.set_cons_zero, List.set_cons_succ]
        refine last.wpAnyL_two (i := 6) (j := 9) (o := { dst := some 48, op := Op.call { callee := Callee.value (Operand.func 53), args := #[Operand.tmp 44, Operand.tmp 47], argTypes := #[57, 3] }, type := 3, pos := "l11_coord.go:230", after := #[{ on := 2, ground := Ground.data }, { on := 5, ground := Ground.data }], guard := none }) (o' := { dst := some 7, op := Op.alloc 65, type := 0, pos := "l11_coord.go:230", after := #[], guard := none }) (by kernel_rfl) rfl rfl (fun K hK => ?wayA1) (fun K hK => ?wayB1)
        case' wayA1 =>
          refine stepg.call2 rfl 53 (.tmp 44) (.tmp 47) _ rfl (fun _ _ => rfl) (.pointer (some ⟨gc, 0, none⟩)) (.int .i64 (jn : Int)) (by kernel_rfl) (by kernel_rfl) _ (below_ w0 _ gc a len cap code (jn : Int) hDd.cur (by omega) (by omega)) ?_
          rintro e wB ⟨j, hj0, rfl, hc6, hg6⟩
          refine ⟨_, rfl, ?_⟩
          have hD_wB := hDd.step hc6 hg6
          have hJ_wB := hJd.keep fun b hb => hg6.block b (hJd.at_ b hb) (fun e => g2 (by rw [← Option.some.inj e]; exact hqF b hb))
          have hs_wB := hg6.size
          have hjl : j < c.2.2.2.1.length := by have := HLL.out; omega
          have hjn : (j : Int) < (jn : Int) := hj0
          refine hK.out _ _ ?_ (fun hHeld => ?_)
          · exact ⟨hD_wB.ins.box, hJ_wB⟩
          clear hK K hHeld0
          have hHeld0 := hHeld
          clear hHeld
          try simp only [Act.put, List.setIfInBounds_toArray, List.set_cons_zero, List.set_cons_succ]
          obtain ⟨oa, ol, oc, ya, yl, yc, hvs⟩ := job_vals (HJ.out.each j hjl)
          refine last.wpAnyL_take (i := 7) (v := (.pointer (some ⟨gj, j * 4, none⟩))) rfl rfl (by kernel_rfl) (by kernel_rfl) (by kernel_rfl) (by kernel_rfl) (fun _ _ _ h => h) (Or.inl ⟨by rfl, ?_⟩) (by assumption) ?_
          · intro wq hSq; go_simp
          try simp only [Act.put, List.setIfInBounds_toArray, List.set_cons_zero, List.set_cons_succ]
          refine last.wpAnyL_take (i := 8) (v := (.agg #[.int .i64 c.2.2.2.1[j].1, .slice oa ol oc, .int .i64 c.2.2.2.1[j].2.2.1, .slice ya yl yc])) rfl rfl (by kernel_rfl) (by kernel_rfl) (by kernel_rfl) (by kernel_rfl) (fun _ _ _ h => h) (Or.inl ⟨by rfl, ?_⟩) (by assumption) ?_
          · intro wq hSq; obtain ⟨q0, q1, q2, q3⟩ := job_cells hSq.2 j hjl hvs; go_simp
          try simp only [Act.put, List.setIfInBounds_toArray, List.set_cons_zero, List.set_cons_succ]
          refine last.wpAnyL_one (i := 9) (o := { dst := some 7, op := Op.alloc 65, type := 0, pos := "l11_coord.go:230", after := #[], guard := none }) (by kernel_rfl) rfl (fun K hK => ?_)
          go_simp
          obtain ⟨wZ, hw_wZ⟩ : ∃ V, wB.alloc (.cells #[.int .i64 0, .slice none 0 0, .int .i64 0, .slice none 0 0] 65) = V := ⟨_, rfl⟩
          have hba : Below wB.heap.size wB wZ := by rw [← hw_wZ]; exact below_make
          have hJb : BoxIn wB.heap.size 65 [] [.int .i64 0, .slice none 0 0, .int .i64 0, .slice none 0 0] [] wZ := by rw [← hw_wZ]; exact boxIn_new _ _ _
          have hD_wZ := hD_wB.more hba
          have hJ_wZ := hJ_wB.below hba
          have hs_wZ := hba.size
          have hJbl := hJb.lt
          rw [hw_wZ]
          refine hK.out _ _ ?_ (fun hHeld => ?_)
          · exact ⟨hD_wZ.ins.box, hJ_wZ⟩
          clear hK K hHeld0
          have hHeld0 := hHeld
          clear hHeld
          try simp only [Act.put, List.setIfInBounds_toArray, List.set_cons_zero, List.set_cons_succ]
          clear hw_wZ
          have hJg : D.heap.size ≤ wB.heap.size := hs_wB
          generalize hJJ : wB.heap.size = J at *
          clear hba hD_wB hJ_wB hs_wB hs_wZ hJbl hc6 hg6
        case' wayB1 =>
          go_simp
          obtain ⟨wB, hw_wB⟩ : ∃ V, D.alloc (.cells #[.int .i64 0, .slice none 0 0, .int .i64 0, .slice none 0 0] 65) = V := ⟨_, rfl⟩
          have hba : Below D.heap.size D wB := by rw [← hw_wB]; exact below_make
          have hJb : BoxIn D.heap.size 65 [] [.int .i64 0, .slice none 0 0, .int .i64 0, .slice none 0 0] [] wB := by rw [← hw_wB]; exact boxIn_new _ _ _
          have hD_wB := hDd.more hba
          have hJ_wB := hJd.below hba
          have hs_wB := hba.size
          have hJbl := hJb.lt
          rw [hw_wB]
          refine hK.out _ _ ?_ (fun hHeld => ?_)
          · exact ⟨hD_wB.ins.box, hJ_wB⟩
          clear hK K hHeld0
          have hHeld0 := hHeld
          clear hHeld
          try simp only [Act.put, List.setIfInBounds_toArray, List.set_cons_zero, List.set_cons_succ]
          clear hw_wB
          refine last.wpAnyL_one (i := 6) (o := { dst := some 48, op := Op.call { callee := Callee.value (Operand.func 53), args := #[Operand.tmp 44, Operand.tmp 47], argTypes := #[57, 3] }, type := 3, pos := "l11_coord.go:230", after := #[{ on := 2, ground := Ground.data }, { on := 5, ground := Ground.data }], guard := none }) (by kernel_rfl) rfl (fun K hK => ?_)
          refine stepg.call2 rfl 53 (.tmp 44) (.tmp 47) _ rfl (fun _ _ => rfl) (.pointer (some ⟨gc, 0, none⟩)) (.int .i64 (jn : Int)) (by kernel_rfl) (by kernel_rfl) _ (below_ w0 _ gc a len cap code (jn : Int) hD_wB.cur (by omega) (by omega)) ?_
          rintro e wZ ⟨j, hj0, rfl, hc6, hg6⟩
          refine ⟨_, rfl, ?_⟩
          have hD_wZ := hD_wB.step hc6 hg6
          have hJ_wZ := hJ_wB.keep fun b hb => hg6.block b (hJ_wB.at_ b hb) (fun e => g2 (by rw [← Option.some.inj e]; exact hqF b hb))
          have hs_wZ := hg6.size
          have hjl : j < c.2.2.2.1.length := by have := HLL.out; omega
          have hjn : (j : Int) < (jn : Int) := hj0
          refine hK.out _ _ ?_ (fun hHeld => ?_)
          · exact ⟨hD_wZ.ins.box, hJ_wZ⟩
          clear hK K hHeld0
          have hHeld0 := hHeld
          clear hHeld
          try simp only [Act.put, List.setIfInBounds_toArray, List.set_cons_zero, List.set_cons_succ]
          obtain ⟨oa, ol, oc, ya, yl, yc, hvs⟩ := job_vals (HJ.out.each j hjl)
          refine last.wpAnyL_take (i := 7) (v := (.pointer (some ⟨gj, j * 4, none⟩))) rfl rfl (by kernel_rfl) (by kernel_rfl) (by kernel_rfl) (by kernel_rfl) (fun _ _ _ h => h) (Or.inl ⟨by rfl, ?_⟩) (by assumption) ?_
          · intro wq hSq; go_simp
          try simp only [Act.put, List.setIfInBounds_toArray, List.set_cons_zero, List.set_cons_succ]
          refine last.wpAnyL_take (i := 8) (v := (.agg #[.int .i64 c.2.2.2.1[j].1, .slice oa ol oc, .int .i64 c.2.2.2.1[j].2.2.1, .slice ya yl yc])) rfl rfl (by kernel_rfl) (by kernel_rfl) (by kernel_rfl) (by kernel_rfl) (fun _ _ _ h => h) (Or.inl ⟨by rfl, ?_⟩) (by assumption) ?_
          · intro wq hSq; obtain ⟨q0, q1, q2, q3⟩ := job_cells hSq.2 j hjl hvs; go_simp
          try simp only [Act.put, List.setIfInBounds_toArray, List.set_cons_zero, List.set_cons_succ]
          replace hJb := hJb.grown hg6 (fun e => by have := Option.some.inj e; have := hD5.old; have := hd5.size; omega)
          have hJg : D.heap.size ≤ D.heap.size := Nat.le_refl _
          generalize hJJ : D.heap.size = J at hJb hJg
          clear hba hD_wB hJ_wB hs_wB hs_wZ hJbl hc6 hg6
        all_goals
          have hds5 := hd5.size
          have hJw : w5.heap.size ≤ J := by omega
          have hJF : J ∉ F := fun e => by have := hFl5 J e; omega
          have hJl := hJb.lt
          obtain ⟨z0, z1, z2, z3⟩ := cells4 hJb
          have f0 := hJb.fz 0
          have f1 := hJb.fz 1
          have f2 := hJb.fz 2
          have f3 := hJb.fz 3
          have hS := hJb.whole [.int .i64 c.2.2.2.1[j].1, .slice oa ol oc, .int .i64 c.2.2.2.1[j].2.2.1, .slice ya yl yc] rfl
          obtain ⟨U, hU⟩ : ∃ U, putAll wZ J 0 [.int .i64 c.2.2.2.1[j].1, .slice oa ol oc, .int .i64 c.2.2.2.1[j].2.2.1, .slice ya yl yc] = U := ⟨_, rfl⟩
          rw [hU] at hS
          simp only [putAll, Nat.zero_add, Nat.reduceAdd] at hU
          have HU := Hid.mk' hU
          have hDU := hD_wZ.outside hS.2 (by omega) (by omega) hJF (by omega)
          have hJU := hJ_wZ.keep fun b hb => hS.2.block b (hJ_wZ.at_ b hb) (fun e => hJF (by rw [← Option.some.inj e]; exact hqF b hb))
          have hBU := hS.1
          clear hU
          refine last.wpAnyL_last (o := { dst := none, op := Op.store 65 (Operand.tmp 7) (Operand.tmp 50), type := 0, pos := "l11_coord.go:230", after := #[{ on := 9, ground := Ground.data }, { on := 8, ground := Ground.data }, { on := 6, ground := Ground.chain }, { on := 0, ground := Ground.phase }, { on := 1, ground := Ground.phase }, { on := 2, ground := Ground.phase }, { on := 3, ground := Ground.phase }, { on := 4, ground := Ground.phase }, { on := 5, ground := Ground.phase }, { on := 6, ground := Ground.phase }, { on := 7, ground := Ground.phase }, { on := 8, ground := Ground.phase }, { on := 9, ground := Ground.phase }], guard := none }) (by kernel_rfl) rfl (by kernel_rfl) (fun K hK => ?_)
          go_simp
          refine hK.out _ _ ?_
          clear hK K
          rw [HU.out]
          clear z0 z1 z2 z3 f0 f1 f2 f3 hS HU hJb hD_wZ hJ_wZ hHeld0
          have hjf := hDU.dr.jobs _ (List.getElem_mem hjl)
          have hown := hJU.each j hjl
          rw [hvs] at hown
          obtain ⟨vo, vyy, e, k1, k3', hoo, hyy, -, -⟩ := job_own.1 hown
          simp only [List.cons.injEq, and_true, true_and] at e
          obtain ⟨rfl, rfl⟩ := e
          have hSo : SlO U oa ol c.2.2.2.1[j].2.1 := (ops_see.1 (opsR.ownSee (ops_own.2 ⟨hoo, rfl⟩))).1
          have hol8 := (opsOk_len hjf.ops)
          have hol := hSo.1
          have HSH := Hid.mk' (spec_shardsOf oa ol oc c.2.2.2.1[j].2.1 c.1 U hSo (by omega) hwf.n)
          have HSR : Hid (∀ x ∈ shardsOf c.1 c.2.2.2.1[j].2.1, 0 ≤ x ∧ x ≤ 7) := fun x hx => by
            obtain ⟨o, _, rfl⟩ := (shards_mem c.1 c.2.2.2.1[j].2.1 x).1 hx
            have h3 := shardOf_range o.2.1 c.1
            have h4 := hDU.dr.n
            have := h3.2 (by omega)
            omega
          have HSN : Hid (0 < (shardsOf c.1 c.2.2.2.1[j].2.1).length) := by
            obtain ⟨o, ho⟩ : ∃ o, o ∈ c.2.2.2.1[j].2.1 := ⟨(c.2.2.2.1[j].2.1)[0]'(by omega), List.getElem_mem _⟩
            exact List.length_pos_of_mem ((shards_mem c.1 c.2.2.2.1[j].2.1 (shardOf o.2.1 c.1)).2 ⟨o, ho, rfl⟩)
          have HS8 : Hid ((shardsOf c.1 c.2.2.2.1[j].2.1).length ≤ 8) := shards_len c.1 c.2.2.2.1[j].2.1 hol8.2
          generalize shardsOf c.1 c.2.2.2.1[j].2.1 = sh at *
          obtain ⟨b0, b1, b2, b3⟩ := cells4 hBU
          have x0 := hDU.ins.box.cell 0 _ rfl
          simp only [List.length_nil, Nat.zero_add] at x0
          have HJW := Hid.mk' (And.intro hJw hJF)
          clear hown hoo hyy hSo hol hol8 hjf k3 k3' HJ hvs hJU hJd hDd hd5 hds5 hqF hFl5 hJw hJF hj0
          have htjw := k1
          have HDU := Hid.mk' hDU
          generalize c.2.2.2.1[j].1 = txj at *
          generalize c.2.2.2.1[j].2.2.1 = stj at *
          go_wp2_with fail
          refine HSH.out.mono ?_
          rintro e w7 ⟨gs, ns, cs, rfl, hZ, hb7⟩
          have hD7 := HDU.out.more hb7
          have hB7 := hBU.below hb7
          have hzl := hZ.1
          have hns : 0 < ns ∧ ns ≤ 8 := by have := HSN.out; have := HS8.out; omega
          have hd7 : Below w7.heap.size w7 w7.drew := (Below.refl _ _).drew
          have hD7d := hD7.more hd7
          have hZd := (hZ.mono (base' := 0) (Nat.zero_le _)).below hd7
          have hB7d := hB7.below hd7
          have hZl := hZ.lt
          have hU7 := hb7.size
          have hg7 : gs ≠ gc := fun e => by have := HDU.out.old; have := HDU.out.fr.size; omega
          have hJ7 : J ≠ gc := fun e => by have := HDU.out.old; have := HJW.out.1; omega
          clear HSH b0 b1 b2 b3 x0 hDU
          go_wp2_with fail
          refine last.wp_region_later (S := fun w' => BoxIn J 65 [] [.int .i64 txj, .slice oa ol oc, .int .i64 stj, .slice ya yl yc] [] w' ∧ OwnZ w' 0 gs ns cs sh) 12 (by kernel_rfl) ⟨hB7d, hZd⟩ (fun hHeld0 => ?_)
          generalize hDD : w7.drew = D7 at *
          clear hDD
          refine last.wpAnyL_via [5, 6] (i := 0) (v := (.slice (some ⟨gs, 0, none⟩) ns cs)) rfl (by kernel_rfl) (by kernel_rfl) (by kernel_rfl) (by kernel_rfl) (fun _ _ _ h => h) (Or.inl ⟨by rfl, ?_⟩) (by assumption) ?_
          · intro wq hSq; go_simp
          try simp only [Act.put, List.setIfInBounds_toArray, List.set_cons_zero, List.set_cons_succ]
          refine last.wpAnyL_via [4, 5, 6] (i := 1) (v := (.pointer (some ⟨gc, 0, none⟩))) rfl (by kernel_rfl) (by kernel_rfl) (by kernel_rfl) (by kernel_rfl) (fun _ _ _ h => h) (Or.inl ⟨by rfl, ?_⟩) (by assumption) ?_
          · intro wq hSq; go_simp
          try simp only [Act.put, List.setIfInBounds_toArray, List.set_cons_zero, List.set_cons_succ]
          refine last.wpAnyL_via [3, 4, 5, 6] (i := 2) (v := (.slice (some ⟨gs, 0, none⟩) ns cs)) rfl (by kernel_rfl) (by kernel_rfl) (by kernel_rfl) (by kernel_rfl) (fun _ _ _ h => h) (Or.inl ⟨by rfl, ?_⟩) (by assumption) ?_
          · intro wq hSq; go_simp
          try simp only [Act.put, List.setIfInBounds_toArray, List.set_cons_zero, List.set_cons_succ]
          refine last.wpAnyL_via [4, 5, 6] (i := 3) (v := (.int .i64 (ns : Int))) rfl (by kernel_rfl) (by kernel_rfl) (by kernel_rfl) (by kernel_rfl) (fun _ _ _ h => h) (Or.inl ⟨by rfl, ?_⟩) (by assumption) ?_
          · intro wq hSq; go_simp
          try simp only [Act.put, List.setIfInBounds_toArray, List.set_cons_zero, List.set_cons_succ]
          refine last.wpAnyL_via [8] (i := 7) (v := (.pointer (some ⟨J, 0, none⟩))) rfl (by kernel_rfl) (by kernel_rfl) (by kernel_rfl) (by kernel_rfl) (fun _ _ _ h => h) (Or.inl ⟨by rfl, ?_⟩) (by assumption) ?_
          · intro wq hSq; go_simp
          try simp only [Act.put, List.setIfInBounds_toArray, List.set_cons_zero, List.set_cons_succ]
          refine last.wpAnyL_take (i := 8) (v := (.int .i64 txj)) rfl rfl (by kernel_rfl) (by kernel_rfl) (by kernel_rfl) (by kernel_rfl) (fun _ _ _ h => h) (Or.inl ⟨by rfl, ?_⟩) (by assumption) ?_
          · intro wq hSq; obtain ⟨q0, q1, q2, q3⟩ := cells4 hSq.1; go_simp
          try simp only [Act.put, List.setIfInBounds_toArray, List.set_cons_zero, List.set_cons_succ]
          refine last.wpAnyL_via [10] (i := 9) (v := (.pointer (some ⟨gc, 0, none⟩))) rfl (by kernel_rfl) (by kernel_rfl) (by kernel_rfl) (by kernel_rfl) (fun _ _ _ h => h) (Or.inl ⟨by rfl, ?_⟩) (by assumption) ?_
          · intro wq hSq; go_simp
          try simp only [Act.put, List.setIfInBounds_toArray, List.set_cons_zero, List.set_cons_succ]
          refine last.wpAnyL_one (i := 4) (o := { dst := some 60, op := Op.call { callee := Callee.value (Operand.func 53), args := #[Operand.tmp 57, Operand.tmp 59], argTypes := #[57, 3] }, type := 3, pos := "l11_coord.go:232", after := #[{ on := 1, ground := Ground.data }, { on := 3, ground := Ground.data }], guard := none }) (by kernel_rfl) rfl (fun K hK => ?_)
          refine stepg.call2 rfl 53 (.tmp 57) (.tmp 59) _ rfl (fun _ _ => rfl) (.pointer (some ⟨gc, 0, none⟩)) (.int .i64 (ns : Int)) (by kernel_rfl) (by kernel_rfl) _ (below_ w0 _ gc a len cap code (ns : Int) hD7d.cur (by omega) (by omega)) ?_
          rintro e w8 ⟨i, hi0, rfl, hc8, hg8⟩
          refine ⟨_, rfl, ?_⟩
          have hD8 := hD7d.step hc8 hg8
          have hB8 := hB7d.grown hg8 (fun e => hJ7 (Option.some.inj e))
          have hZ8 := hZd.kept (hg8.block gs hZd.lt.2 (fun e => hg7 (Option.some.inj e)))
          have hil : i < sh.length := by omega
          have hin : (i : Int) < (ns : Int) := hi0
          have hsr := HSR.out _ (List.getElem_mem hil)
          refine hK.out _ _ ?_ (fun hHeld => ?_)
          · exact ⟨hB8, hZ8⟩
          clear hK K hHeld0
          have hHeld0 := hHeld
          clear hHeld
          try simp only [Act.put, List.setIfInBounds_toArray, List.set_cons_zero, List.set_cons_succ]
          refine last.wpAnyL_via [6] (i := 5) (v := (.pointer (some ⟨gs, i, none⟩))) rfl (by kernel_rfl) (by kernel_rfl) (by kernel_rfl) (by kernel_rfl) (fun _ _ _ h => h) (Or.inl ⟨by rfl, ?_⟩) (by assumption) ?_
          · intro wq hSq; go_simp
          try simp only [Act.put, List.setIfInBounds_toArray, List.set_cons_zero, List.set_cons_succ]
          refine last.wpAnyL_take (i := 6) (v := (.int .i64 sh[i])) rfl rfl (by kernel_rfl) (by kernel_rfl) (by kernel_rfl) (by kernel_rfl) (fun _ _ _ h => h) (Or.inl ⟨by rfl, ?_⟩) (by assumption) ?_
          · intro wq hSq; have q := hSq.2.at i hil; go_simp
          try simp only [Act.put, List.setIfInBounds_toArray, List.set_cons_zero, List.set_cons_succ]
          refine last.wpAnyL_one (i := 10) (o := { dst := some 66, op := Op.call { callee := Callee.value (Operand.func 94), args := #[Operand.tmp 65, Operand.const (Value.int IntKind.i64 5)], argTypes := #[57, 3] }, type := 4, pos := "l11_coord.go:232", after := #[{ on := 9, ground := Ground.data }, { on := 4, ground := Ground.chain }], guard := none }) (by kernel_rfl) rfl (fun K hK => ?_)
          refine stepg.call2 rfl 94 (.tmp 65) (.const (.int .i64 5)) _ rfl (fun _ _ => rfl) (.pointer (some ⟨gc, 0, none⟩)) (.int .i64 5) (by kernel_rfl) rfl _ (d_once w0 _ gc a len cap code 5 hD8.cur (by omega) (by omega)) ?_
          rintro e w9 ⟨b9, rfl, hc9, hg9⟩
          refine ⟨_, rfl, ?_⟩
          have hD9' := hD8.step hc9 hg9
          have hB9 := hB8.grown hg9 (fun e => hJ7 (Option.some.inj e))
          have hZ9 := hZ8.kept (hg9.block gs hZ8.lt.2 (fun e => hg7 (Option.some.inj e)))
          refine hK.out _ _ ?_ (fun hHeld => ?_)
          · exact ⟨hB9, hZ9⟩
          clear hK K hHeld0
          have hHeld0 := hHeld
          clear hHeld
          try simp only [Act.put, List.setIfInBounds_toArray, List.set_cons_zero, List.set_cons_succ]
          refine last.wpAnyL_take (i := 11) (v := (.bool !b9)) rfl rfl (by kernel_rfl) (by kernel_rfl) (by kernel_rfl) (by kernel_rfl) (fun _ _ _ h => h) (Or.inl ⟨by rfl, ?_⟩) (by assumption) ?_
          · intro wq hSq; go_simp
          try simp only [Act.put, List.setIfInBounds_toArray, List.set_cons_zero, List.set_cons_succ]
          have HVO := Hid.mk' (spec_l11Vote X TCo [] [] (some ⟨gj, 0, none⟩) jn jc la ln lc c F sh[i] txj (!b9) w9 hD9'.ins hD9'.dr (WalkArith.wf_i64 (by omega)) htjw (by have := hD9'.dr.jobsLen; omega))
          generalize sh[i] = si at *
          refine last.wpAnyL_last (o := { dst := some 68, op := Op.call { callee := Callee.value (Operand.func 93), args := #[Operand.tmp 5, Operand.tmp 62, Operand.tmp 64, Operand.tmp 67], argTypes := #[72, 3, 3, 4] }, type := 0, pos := "l11_coord.go:232", after := #[{ on := 6, ground := Ground.data }, { on := 8, ground := Ground.data }, { on := 11, ground := Ground.data }, { on := 10, ground := Ground.chain }], guard := none }) (by kernel_rfl) rfl (by kernel_rfl) (fun K hK => ?_)
          refine stepg.call4 rfl 93 (.tmp 5) (.tmp 62) (.tmp 64) (.tmp 67) _ rfl (fun _ _ => rfl) (.pointer (some ⟨X, 0, none⟩)) (.int .i64 si) (.int .i64 txj) (.bool !b9) (by kernel_rfl) (by kernel_rfl) (by kernel_rfl) (by kernel_rfl) _ HVO.out ?_
          rintro e w10 ⟨rfl, hwp⟩
          refine ⟨_, rfl, ?_⟩
          obtain ⟨ja2, jn2, jc2, la2, ln2, lc2, Fz, hD9⟩ := hD9'.wrote hwp (vote_right hD9'.dr)
          clear HVO hwp hD9' hHeld0 hB9 hZ9 hD8 hB8 hZ8 hD7d hZd hB7d hD7 hB7 hZ
          refine hK.out _ _ ?_
          clear hK K
          go_wp2_with fail
          go_roundw
          case rel => exact ⟨k - 1, _, _, _, _, _, _, _, _, by omega, by have h1 := HLK.out; have h2 := vote_life (c := c) (shard := si) (tx := txj) (yes := !b9); omega, by go_num, hD9⟩
          case measure => simp [intOf]; omega
      · have k3 := hD5.ins.box.cell 3 _ rfl
        simp only [List.length_nil, Nat.zero_add] at k3
        by_cases hnz : 0 < jn
        rotate_left
        · have hnzi : ¬ (0 : Int) < (jn : Int) := by omega
          have hD9 := hD5
          go_wp2_with fail
          go_roundw
          case rel => exact ⟨k - 1, _, _, _, _, _, _, _, _, by omega, by have h1 := HLK.out; have h2 := Int.le_refl (0 : Int); omega, by go_num, hD9⟩
          case measure => simp [intOf]; omega
        have hnzi : (0 : Int) < (jn : Int) := by omega
        obtain ⟨vx, vy, F1, F2, e, hwf, hj, hl, hFe, hnd⟩ := coord_own.1 hD5.ins.own
        simp only [List.cons.injEq, and_true, true_and] at e
        obtain ⟨rfl, rfl⟩ := e
        obtain ⟨vj, qj, e, hF1, hJ⟩ := hj
        simp only [List.cons.injEq, and_true] at e
        subst e
        obtain ⟨gj, rfl⟩ : ∃ gj, ja = some ⟨gj, 0, none⟩ := by
          rcases hJ.shape with ⟨e, _⟩ | ⟨g, cp, e, _⟩
          · cases e; omega
          · cases e; exact ⟨g, rfl⟩
        have hqF : ∀ b ∈ (Value.slice (some ⟨gj, 0, none⟩) jn jc).ownBlock.toList ++ blocksOf qj, b ∈ F := fun b hb => by rw [hFe, hF1]; exact List.mem_append.2 (.inl hb)
        obtain ⟨g1, g2, g3⟩ := hD5.gX
        have hd5 : Below w5.heap.size w5 w5.drew := (Below.refl _ _).drew
        have hDd := hD5.more hd5
        have hJd := hJ.below hd5
        have HJ := Hid.mk' hJ
        have hRn := hD5.rn
        have hXn := hD5.new X List.mem_cons_self
        have hfs := hD5.fr.size
        have hFl5 := coordR.ownLt hD5.ins.own
        have hXl5 := hD5.ins.box.lt
        have hRl5 := hD5.rb.lt
        clear hl hF1 hJ
        go_wp2_with fail
        refine last.wp_region_later (S := fun w' => BoxIn X TCo [] [.int .i64 c.1, .int .i64 c.2.1, .int .i64 c.2.2.1, .slice (some ⟨gj, 0, none⟩) jn jc, .slice la ln lc, .int .i64 c.2.2.2.2.2] [] w' ∧ OwnG 65 jobR w' (.slice (some ⟨gj, 0, none⟩) jn jc) c.2.2.2.1 qj) 10 (by kernel_rfl) ⟨hDd.ins.box, hJd⟩ (fun hHeld0 => ?_)
        generalize hDD : w5.drew = D at *
        clear hDD
        refine last.wpAnyL_take (i := 0) (v := (.pointer (some ⟨X, 3, none⟩))) rfl rfl (by kernel_rfl) (by kernel_rfl) (by kernel_rfl) (by kernel_rfl) (fun _ _ _ h => h) (Or.inl ⟨by rfl, ?_⟩) (by assumption) ?_
        · intro wq hSq; go_simp
        try simp only [Act.put, List.setIfInBounds_toArray, List.set_cons_zero, List.set_cons_succ]
        refine last.wpAnyL_take (i := 1) (v := (.slice (some ⟨gj, 0, none⟩) jn jc)) rfl rfl (by kernel_rfl) (by kernel_rfl) (by kernel_rfl) (by kernel_rfl) (fun _ _ _ h => h) (Or.inl ⟨by rfl, ?_⟩) (by assumption) ?_
        · intro wq hSq; have q := hSq.1.cell 3 _ rfl; simp only [List.length_nil, Nat.zero_add] at q; go_simp
        try simp only [Act.put, List.setIfInBounds_toArray, List.set_cons_zero, List.set_cons_succ]
        refine last.wpAnyL_take (i := 2) (v := (.pointer (some ⟨gc, 0, none⟩))) rfl rfl (by kernel_rfl) (by kernel_rfl) (by kernel_rfl) (by kernel_rfl) (fun _ _ _ h => h) (Or.inl ⟨by rfl, ?_⟩) (by assumption) ?_
        · intro wq hSq; go_simp
        try simp only [Act.put, List.setIfInBounds_toArray, List.set_cons_zero, List.set_cons_succ]
        refine last.wpAnyL_take (i := 3) (v := (.pointer (some ⟨X, 3, none⟩))) rfl rfl (by kernel_rfl) (by kernel_rfl) (by kernel_rfl) (by kernel_rfl) (fun _ _ _ h => h) (Or.inl ⟨by rfl, ?_⟩) (by assumption) ?_
        · intro wq hSq; go_simp
        try simp only [Act.put, List.setIfInBounds_toArray, List.set_cons_zero, List.set_cons_succ]
        refine last.wpAnyL_take (i := 4) (v := (.slice (some ⟨gj, 0, none⟩) jn jc)) rfl rfl (by kernel_rfl) (by kernel_rfl) (by kernel_rfl) (by kernel_rfl) (fun _ _ _ h => h) (Or.inl ⟨by rfl, ?_⟩) (by assumption) ?_
        · intro wq hSq; have q := hSq.1.cell 3 _ rfl; simp only [List.length_nil, Nat.zero_add] at q; go_simp
        try simp only [Act.put, List.setIfInBounds_toArray, List.set_cons_zero, List.set_cons_succ]
        refine last.wpAnyL_take (i := 5) (v := (.int .i64 (jn : Int))) rfl rfl (by kernel_rfl) (by kernel_rfl) (by kernel_rfl) (by kernel_rfl) (fun _ _ _ h => h) (Or.inl ⟨by rfl, ?_⟩) (by assumption) ?_
        · intro wq hSq; go_simp
        try simp only [Act.put, List.setIfInBounds_toArray, List.set_cons_zero, List.set_cons_succ]
        refine last.wpAnyL_two (i := 6) (j := 9) (o := { dst := some 48, op := Op.call { callee := Callee.value (Operand.func 53), args := #[Operand.tmp 44, Operand.tmp 47], argTypes := #[57, 3] }, type := 3, pos := "l11_coord.go:230", after := #[{ on := 2, ground := Ground.data }, { on := 5, ground := Ground.data }], guard := none }) (o' := { dst := some 7, op := Op.alloc 65, type := 0, pos := "l11_coord.go:230", after := #[], guard := none }) (by kernel_rfl) rfl rfl (fun K hK => ?wayA2) (fun K hK => ?wayB2)
        case' wayA2 =>
          refine stepg.call2 rfl 53 (.tmp 44) (.tmp 47) _ rfl (fun _ _ => rfl) (.pointer (some ⟨gc, 0, none⟩)) (.int .i64 (jn : Int)) (by kernel_rfl) (by kernel_rfl) _ (below_ w0 _ gc a len cap code (jn : Int) hDd.cur (by omega) (by omega)) ?_
          rintro e wB ⟨j, hj0, rfl, hc6, hg6⟩
          refine ⟨_, rfl, ?_⟩
          have hD_wB := hDd.step hc6 hg6
          have hJ_wB := hJd.keep fun b hb => hg6.block b (hJd.at_ b hb) (fun e => g2 (by rw [← Option.some.inj e]; exact hqF b hb))
          have hs_wB := hg6.size
          have hjl : j < c.2.2.2.1.length := by have := HLL.out; omega
          have hjn : (j : Int) < (jn : Int) := hj0
          refine hK.out _ _ ?_ (fun hHeld => ?_)
          · exact ⟨hD_wB.ins.box, hJ_wB⟩
          clear hK K hHeld0
          have hHeld0 := hHeld
          clear hHeld
          try simp only [Act.put, List.setIfInBounds_toArray, List.set_cons_zero, List.set_cons_succ]
          obtain ⟨oa, ol, oc, ya, yl, yc, hvs⟩ := job_vals (HJ.out.each j hjl)
          refine last.wpAnyL_take (i := 7) (v := (.pointer (some ⟨gj, j * 4, none⟩))) rfl rfl (by kernel_rfl) (by kernel_rfl) (by kernel_rfl) (by kernel_rfl) (fun _ _ _ h => h) (Or.inl ⟨by rfl, ?_⟩) (by assumption) ?_
          · intro wq hSq; go_simp
          try simp only [Act.put, List.setIfInBounds_toArray, List.set_cons_zero, List.set_cons_succ]
          refine last.wpAnyL_take (i := 8) (v := (.agg #[.int .i64 c.2.2.2.1[j].1, .slice oa ol oc, .int .i64 c.2.2.2.1[j].2.2.1, .slice ya yl yc])) rfl rfl (by kernel_rfl) (by kernel_rfl) (by kernel_rfl) (by kernel_rfl) (fun _ _ _ h => h) (Or.inl ⟨by rfl, ?_⟩) (by assumption) ?_
          · intro wq hSq; obtain ⟨q0, q1, q2, q3⟩ := job_cells hSq.2 j hjl hvs; go_simp
          try simp only [Act.put, List.setIfInBounds_toArray, List.set_cons_zero, List.set_cons_succ]
          refine last.wpAnyL_one (i := 9) (o := { dst := some 7, op := Op.alloc 65, type := 0, pos := "l11_coord.go:230", after := #[], guard := none }) (by kernel_rfl) rfl (fun K hK => ?_)
          go_simp
          obtain ⟨wZ, hw_wZ⟩ : ∃ V, wB.alloc (.cells #[.int .i64 0, .slice none 0 0, .int .i64 0, .slice none 0 0] 65) = V := ⟨_, rfl⟩
          have hba : Below wB.heap.size wB wZ := by rw [← hw_wZ]; exact below_make
          have hJb : BoxIn wB.heap.size 65 [] [.int .i64 0, .slice none 0 0, .int .i64 0, .slice none 0 0] [] wZ := by rw [← hw_wZ]; exact boxIn_new _ _ _
          have hD_wZ := hD_wB.more hba
          have hJ_wZ := hJ_wB.below hba
          have hs_wZ := hba.size
          have hJbl := hJb.lt
          rw [hw_wZ]
          refine hK.out _ _ ?_ (fun hHeld => ?_)
          · exact ⟨hD_wZ.ins.box, hJ_wZ⟩
          clear hK K hHeld0
          have hHeld0 := hHeld
          clear hHeld
          try simp only [Act.put, List.setIfInBounds_toArray, List.set_cons_zero, List.set_cons_succ]
          clear hw_wZ
          have hJg : D.heap.size ≤ wB.heap.size := hs_wB
          generalize hJJ : wB.heap.size = J at *
          clear hba hD_wB hJ_wB hs_wB hs_wZ hJbl hc6 hg6
        case' wayB2 =>
          go_simp
          obtain ⟨wB, hw_wB⟩ : ∃ V, D.alloc (.cells #[.int .i64 0, .slice none 0 0, .int .i64 0, .slice none 0 0] 65) = V := ⟨_, rfl⟩
          have hba : Below D.heap.size D wB := by rw [← hw_wB]; exact below_make
          have hJb : BoxIn D.heap.size 65 [] [.int .i64 0, .slice none 0 0, .int .i64 0, .slice none 0 0] [] wB := by rw [← hw_wB]; exact boxIn_new _ _ _
          have hD_wB := hDd.more hba
          have hJ_wB := hJd.below hba
          have hs_wB := hba.size
          have hJbl := hJb.lt
          rw [hw_wB]
          refine hK.out _ _ ?_ (fun hHeld => ?_)
          · exact ⟨hD_wB.ins.box, hJ_wB⟩
          clear hK K hHeld0
          have hHeld0 := hHeld
          clear hHeld
          try simp only [Act.put, List.setIfInBounds_toArray, List.set_cons_zero, List.set_cons_succ]
          clear hw_wB
          refine last.wpAnyL_one (i := 6) (o := { dst := some 48, op := Op.call { callee := Callee.value (Operand.func 53), args := #[Operand.tmp 44, Operand.tmp 47], argTypes := #[57, 3] }, type := 3, pos := "l11_coord.go:230", after := #[{ on := 2, ground := Ground.data }, { on := 5, ground := Ground.data }], guard := none }) (by kernel_rfl) rfl (fun K hK => ?_)
          refine stepg.call2 rfl 53 (.tmp 44) (.tmp 47) _ rfl (fun _ _ => rfl) (.pointer (some ⟨gc, 0, none⟩)) (.int .i64 (jn : Int)) (by kernel_rfl) (by kernel_rfl) _ (below_ w0 _ gc a len cap code (jn : Int) hD_wB.cur (by omega) (by omega)) ?_
          rintro e wZ ⟨j, hj0, rfl, hc6, hg6⟩
          refine ⟨_, rfl, ?_⟩
          have hD_wZ := hD_wB.step hc6 hg6
          have hJ_wZ := hJ_wB.keep fun b hb => hg6.block b (hJ_wB.at_ b hb) (fun e => g2 (by rw [← Option.some.inj e]; exact hqF b hb))
          have hs_wZ := hg6.size
          have hjl : j < c.2.2.2.1.length := by have := HLL.out; omega
          have hjn : (j : Int) < (jn : Int) := hj0
          refine hK.out _ _ ?_ (fun hHeld => ?_)
          · exact ⟨hD_wZ.ins.box, hJ_wZ⟩
          clear hK K hHeld0
          have hHeld0 := hHeld
          clear hHeld
          try simp only [Act.put, List.setIfInBounds_toArray, List.set_cons_zero, List.set_cons_succ]
          obtain ⟨oa, ol, oc, ya, yl, yc, hvs⟩ := job_vals (HJ.out.each j hjl)
          refine last.wpAnyL_take (i := 7) (v := (.pointer (some ⟨gj, j * 4, none⟩))) rfl rfl (by kernel_rfl) (by kernel_rfl) (by kernel_rfl) (by kernel_rfl) (fun _ _ _ h => h) (Or.inl ⟨by rfl, ?_⟩) (by assumption) ?_
          · intro wq hSq; go_simp
          try simp only [Act.put, List.setIfInBounds_toArray, List.set_cons_zero, List.set_cons_succ]
          refine last.wpAnyL_take (i := 8) (v := (.agg #[.int .i64 c.2.2.2.1[j].1, .slice oa ol oc, .int .i64 c.2.2.2.1[j].2.2.1, .slice ya yl yc])) rfl rfl (by kernel_rfl) (by kernel_rfl) (by kernel_rfl) (by kernel_rfl) (fun _ _ _ h => h) (Or.inl ⟨by rfl, ?_⟩) (by assumption) ?_
          · intro wq hSq; obtain ⟨q0, q1, q2, q3⟩ := job_cells hSq.2 j hjl hvs; go_simp
          try simp only [Act.put, List.setIfInBounds_toArray, List.set_cons_zero, List.set_cons_succ]
          replace hJb := hJb.grown hg6 (fun e => by have := Option.some.inj e; have := hD5.old; have := hd5.size; omega)
          have hJg : D.heap.size ≤ D.heap.size := Nat.le_refl _
          generalize hJJ : D.heap.size = J at hJb hJg
          clear hba hD_wB hJ_wB hs_wB hs_wZ hJbl hc6 hg6
        all_goals
          have hds5 := hd5.size
          have hJw : w5.heap.size ≤ J := by omega
          have hJF : J ∉ F := fun e => by have := hFl5 J e; omega
          have hJl := hJb.lt
          obtain ⟨z0, z1, z2, z3⟩ := cells4 hJb
          have f0 := hJb.fz 0
          have f1 := hJb.fz 1
          have f2 := hJb.fz 2
          have f3 := hJb.fz 3
          have hS := hJb.whole [.int .i64 c.2.2.2.1[j].1, .slice oa ol oc, .int .i64 c.2.2.2.1[j].2.2.1, .slice ya yl yc] rfl
          obtain ⟨U, hU⟩ : ∃ U, putAll wZ J 0 [.int .i64 c.2.2.2.1[j].1, .slice oa ol oc, .int .i64 c.2.2.2.1[j].2.2.1, .slice ya yl yc] = U := ⟨_, rfl⟩
          rw [hU] at hS
          simp only [putAll, Nat.zero_add, Nat.reduceAdd] at hU
          have HU := Hid.mk' hU
          have hDU := hD_wZ.outside hS.2 (by omega) (by omega) hJF (by omega)
          have hJU := hJ_wZ.keep fun b hb => hS.2.block b (hJ_wZ.at_ b hb) (fun e => hJF (by rw [← Option.some.inj e]; exact hqF b hb))
          have hBU := hS.1
          clear hU
          refine last.wpAnyL_last (o := { dst := none, op := Op.store 65 (Operand.tmp 7) (Operand.tmp 50), type := 0, pos := "l11_coord.go:230", after := #[{ on := 9, ground := Ground.data }, { on := 8, ground := Ground.data }, { on := 6, ground := Ground.chain }, { on := 0, ground := Ground.phase }, { on := 1, ground := Ground.phase }, { on := 2, ground := Ground.phase }, { on := 3, ground := Ground.phase }, { on := 4, ground := Ground.phase }, { on := 5, ground := Ground.phase }, { on := 6, ground := Ground.phase }, { on := 7, ground := Ground.phase }, { on := 8, ground := Ground.phase }, { on := 9, ground := Ground.phase }], guard := none }) (by kernel_rfl) rfl (by kernel_rfl) (fun K hK => ?_)
          go_simp
          refine hK.out _ _ ?_
          clear hK K
          rw [HU.out]
          clear z0 z1 z2 z3 f0 f1 f2 f3 hS HU hJb hD_wZ hJ_wZ hHeld0
          have hjf := hDU.dr.jobs _ (List.getElem_mem hjl)
          have hown := hJU.each j hjl
          rw [hvs] at hown
          obtain ⟨vo, vyy, e, k1, k3', hoo, hyy, -, -⟩ := job_own.1 hown
          simp only [List.cons.injEq, and_true, true_and] at e
          obtain ⟨rfl, rfl⟩ := e
          have hSo : SlO U oa ol c.2.2.2.1[j].2.1 := (ops_see.1 (opsR.ownSee (ops_own.2 ⟨hoo, rfl⟩))).1
          have hol8 := (opsOk_len hjf.ops)
          have hol := hSo.1
          have HSH := Hid.mk' (spec_shardsOf oa ol oc c.2.2.2.1[j].2.1 c.1 U hSo (by omega) hwf.n)
          have HSR : Hid (∀ x ∈ shardsOf c.1 c.2.2.2.1[j].2.1, 0 ≤ x ∧ x ≤ 7) := fun x hx => by
            obtain ⟨o, _, rfl⟩ := (shards_mem c.1 c.2.2.2.1[j].2.1 x).1 hx
            have h3 := shardOf_range o.2.1 c.1
            have h4 := hDU.dr.n
            have := h3.2 (by omega)
            omega
          have HSN : Hid (0 < (shardsOf c.1 c.2.2.2.1[j].2.1).length) := by
            obtain ⟨o, ho⟩ : ∃ o, o ∈ c.2.2.2.1[j].2.1 := ⟨(c.2.2.2.1[j].2.1)[0]'(by omega), List.getElem_mem _⟩
            exact List.length_pos_of_mem ((shards_mem c.1 c.2.2.2.1[j].2.1 (shardOf o.2.1 c.1)).2 ⟨o, ho, rfl⟩)
          have HS8 : Hid ((shardsOf c.1 c.2.2.2.1[j].2.1).length ≤ 8) := shards_len c.1 c.2.2.2.1[j].2.1 hol8.2
          generalize shardsOf c.1 c.2.2.2.1[j].2.1 = sh at *
          obtain ⟨b0, b1, b2, b3⟩ := cells4 hBU
          have x0 := hDU.ins.box.cell 0 _ rfl
          simp only [List.length_nil, Nat.zero_add] at x0
          have HJW := Hid.mk' (And.intro hJw hJF)
          clear hown hoo hyy hSo hol hol8 hjf k3 k3' HJ hvs hJU hJd hDd hd5 hds5 hqF hFl5 hJw hJF hj0
          have htjw := k1
          have HDU := Hid.mk' hDU
          generalize c.2.2.2.1[j].1 = txj at *
          generalize c.2.2.2.1[j].2.2.1 = stj at *
          go_wp2_with fail
          refine HSH.out.mono ?_
          rintro e w7 ⟨gs, ns, cs, rfl, hZ, hb7⟩
          have hD7 := HDU.out.more hb7
          have hB7 := hBU.below hb7
          have hzl := hZ.1
          have hns : 0 < ns ∧ ns ≤ 8 := by have := HSN.out; have := HS8.out; omega
          have hd7 : Below w7.heap.size w7 w7.drew := (Below.refl _ _).drew
          have hD7d := hD7.more hd7
          have hZd := (hZ.mono (base' := 0) (Nat.zero_le _)).below hd7
          have hB7d := hB7.below hd7
          have hZl := hZ.lt
          have hU7 := hb7.size
          have hg7 : gs ≠ gc := fun e => by have := HDU.out.old; have := HDU.out.fr.size; omega
          have hJ7 : J ≠ gc := fun e => by have := HDU.out.old; have := HJW.out.1; omega
          clear HSH b0 b1 b2 b3 x0 hDU
          go_wp2_with fail
          refine last.wp_region_later (S := fun w' => BoxIn J 65 [] [.int .i64 txj, .slice oa ol oc, .int .i64 stj, .slice ya yl yc] [] w' ∧ OwnZ w' 0 gs ns cs sh) 12 (by kernel_rfl) ⟨hB7d, hZd⟩ (fun hHeld0 => ?_)
          generalize hDD : w7.drew = D7 at *
          clear hDD
          refine last.wpAnyL_via [5, 6] (i := 0) (v := (.slice (some ⟨gs, 0, none⟩) ns cs)) rfl (by kernel_rfl) (by kernel_rfl) (by kernel_rfl) (by kernel_rfl) (fun _ _ _ h => h) (Or.inl ⟨by rfl, ?_⟩) (by assumption) ?_
          · intro wq hSq; go_simp
          try simp only [Act.put, List.setIfInBounds_toArray, List.set_cons_zero, List.set_cons_succ]
          refine last.wpAnyL_via [4, 5, 6] (i := 1) (v := (.pointer (some ⟨gc, 0, none⟩))) rfl (by kernel_rfl) (by kernel_rfl) (by kernel_rfl) (by kernel_rfl) (fun _ _ _ h => h) (Or.inl ⟨by rfl, ?_⟩) (by assumption) ?_
          · intro wq hSq; go_simp
          try simp only [Act.put, List.setIfInBounds_toArray, List.set_cons_zero, List.set_cons_succ]
          refine last.wpAnyL_via [3, 4, 5, 6] (i := 2) (v := (.slice (some ⟨gs, 0, none⟩) ns cs)) rfl (by kernel_rfl) (by kernel_rfl) (by kernel_rfl) (by kernel_rfl) (fun _ _ _ h => h) (Or.inl ⟨by rfl, ?_⟩) (by assumption) ?_
          · intro wq hSq; go_simp
          try simp only [Act.put, List.setIfInBounds_toArray, List.set_cons_zero, List.set_cons_succ]
          refine last.wpAnyL_via [4, 5, 6] (i := 3) (v := (.int .i64 (ns : Int))) rfl (by kernel_rfl) (by kernel_rfl) (by kernel_rfl) (by kernel_rfl) (fun _ _ _ h => h) (Or.inl ⟨by rfl, ?_⟩) (by assumption) ?_
          · intro wq hSq; go_simp
          try simp only [Act.put, List.setIfInBounds_toArray, List.set_cons_zero, List.set_cons_succ]
          refine last.wpAnyL_via [8] (i := 7) (v := (.pointer (some ⟨J, 0, none⟩))) rfl (by kernel_rfl) (by kernel_rfl) (by kernel_rfl) (by kernel_rfl) (fun _ _ _ h => h) (Or.inl ⟨by rfl, ?_⟩) (by assumption) ?_
          · intro wq hSq; go_simp
          try simp only [Act.put, List.setIfInBounds_toArray, List.set_cons_zero, List.set_cons_succ]
          refine last.wpAnyL_take (i := 8) (v := (.int .i64 txj)) rfl rfl (by kernel_rfl) (by kernel_rfl) (by kernel_rfl) (by kernel_rfl) (fun _ _ _ h => h) (Or.inl ⟨by rfl, ?_⟩) (by assumption) ?_
          · intro wq hSq; obtain ⟨q0, q1, q2, q3⟩ := cells4 hSq.1; go_simp
          try simp only [Act.put, List.setIfInBounds_toArray, List.set_cons_zero, List.set_cons_succ]
          refine last.wpAnyL_via [10] (i := 9) (v := (.pointer (some ⟨gc, 0, none⟩))) rfl (by kernel_rfl) (by kernel_rfl) (by kernel_rfl) (by kernel_rfl) (fun _ _ _ h => h) (Or.inl ⟨by rfl, ?_⟩) (by assumption) ?_
          · intro wq hSq; go_simp
          try simp only [Act.put, List.setIfInBounds_toArray, List.set_cons_zero, List.set_cons_succ]
          refine last.wpAnyL_one (i := 4) (o := { dst := some 60, op := Op.call { callee := Callee.value (Operand.func 53), args := #[Operand.tmp 57, Operand.tmp 59], argTypes := #[57, 3] }, type := 3, pos := "l11_coord.go:232", after := #[{ on := 1, ground := Ground.data }, { on := 3, ground := Ground.data }], guard := none }) (by kernel_rfl) rfl (fun K hK => ?_)
          refine stepg.call2 rfl 53 (.tmp 57) (.tmp 59) _ rfl (fun _ _ => rfl) (.pointer (some ⟨gc, 0, none⟩)) (.int .i64 (ns : Int)) (by kernel_rfl) (by kernel_rfl) _ (below_ w0 _ gc a len cap code (ns : Int) hD7d.cur (by omega) (by omega)) ?_
          rintro e w8 ⟨i, hi0, rfl, hc8, hg8⟩
          refine ⟨_, rfl, ?_⟩
          have hD8 := hD7d.step hc8 hg8
          have hB8 := hB7d.grown hg8 (fun e => hJ7 (Option.some.inj e))
          have hZ8 := hZd.kept (hg8.block gs hZd.lt.2 (fun e => hg7 (Option.some.inj e)))
          have hil : i < sh.length := by omega
          have hin : (i : Int) < (ns : Int) := hi0
          have hsr := HSR.out _ (List.getElem_mem hil)
          refine hK.out _ _ ?_ (fun hHeld => ?_)
          · exact ⟨hB8, hZ8⟩
          clear hK K hHeld0
          have hHeld0 := hHeld
          clear hHeld
          try simp only [Act.put, List.setIfInBounds_toArray, List.set_cons_zero, List.set_cons_succ]
          refine last.wpAnyL_via [6] (i := 5) (v := (.pointer (some ⟨gs, i, none⟩))) rfl (by kernel_rfl) (by kernel_rfl) (by kernel_rfl) (by kernel_rfl) (fun _ _ _ h => h) (Or.inl ⟨by rfl, ?_⟩) (by assumption) ?_
          · intro wq hSq; go_simp
          try simp only [Act.put, List.setIfInBounds_toArray, List.set_cons_zero, List.set_cons_succ]
          refine last.wpAnyL_take (i := 6) (v := (.int .i64 sh[i])) rfl rfl (by kernel_rfl) (by kernel_rfl) (by kernel_rfl) (by kernel_rfl) (fun _ _ _ h => h) (Or.inl ⟨by rfl, ?_⟩) (by assumption) ?_
          · intro wq hSq; have q := hSq.2.at i hil; go_simp
          try simp only [Act.put, List.setIfInBounds_toArray, List.set_cons_zero, List.set_cons_succ]
          refine last.wpAnyL_one (i := 10) (o := { dst := some 66, op := Op.call { callee := Callee.value (Operand.func 94), args := #[Operand.tmp 65, Operand.const (Value.int IntKind.i64 5)], argTypes := #[57, 3] }, type := 4, pos := "l11_coord.go:232", after := #[{ on := 9, ground := Ground.data }, { on := 4, ground := Ground.chain }], guard := none }) (by kernel_rfl) rfl (fun K hK => ?_)
          refine stepg.call2 rfl 94 (.tmp 65) (.const (.int .i64 5)) _ rfl (fun _ _ => rfl) (.pointer (some ⟨gc, 0, none⟩)) (.int .i64 5) (by kernel_rfl) rfl _ (d_once w0 _ gc a len cap code 5 hD8.cur (by omega) (by omega)) ?_
          rintro e w9 ⟨b9, rfl, hc9, hg9⟩
          refine ⟨_, rfl, ?_⟩
          have hD9' := hD8.step hc9 hg9
          have hB9 := hB8.grown hg9 (fun e => hJ7 (Option.some.inj e))
          have hZ9 := hZ8.kept (hg9.block gs hZ8.lt.2 (fun e => hg7 (Option.some.inj e)))
          refine hK.out _ _ ?_ (fun hHeld => ?_)
          · exact ⟨hB9, hZ9⟩
          clear hK K hHeld0
          have hHeld0 := hHeld
          clear hHeld
          try simp only [Act.put, List.setIfInBounds_toArray, List.set_cons_zero, List.set_cons_succ]
          refine last.wpAnyL_take (i := 11) (v := (.bool !b9)) rfl rfl (by kernel_rfl) (by kernel_rfl) (by kernel_rfl) (by kernel_rfl) (fun _ _ _ h => h) (Or.inl ⟨by rfl, ?_⟩) (by assumption) ?_
          · intro wq hSq; go_simp
          try simp only [Act.put, List.setIfInBounds_toArray, List.set_cons_zero, List.set_cons_succ]
          have HVO := Hid.mk' (spec_l11Vote X TCo [] [] (some ⟨gj, 0, none⟩) jn jc la ln lc c F sh[i] txj (!b9) w9 hD9'.ins hD9'.dr (WalkArith.wf_i64 (by omega)) htjw (by have := hD9'.dr.jobsLen; omega))
          generalize sh[i] = si at *
          refine last.wpAnyL_last (o := { dst := some 68, op := Op.call { callee := Callee.value (Operand.func 93), args := #[Operand.tmp 5, Operand.tmp 62, Operand.tmp 64, Operand.tmp 67], argTypes := #[72, 3, 3, 4] }, type := 0, pos := "l11_coord.go:232", after := #[{ on := 6, ground := Ground.data }, { on := 8, ground := Ground.data }, { on := 11, ground := Ground.data }, { on := 10, ground := Ground.chain }], guard := none }) (by kernel_rfl) rfl (by kernel_rfl) (fun K hK => ?_)
          refine stepg.call4 rfl 93 (.tmp 5) (.tmp 62) (.tmp 64) (.tmp 67) _ rfl (fun _ _ => rfl) (.pointer (some ⟨X, 0, none⟩)) (.int .i64 si) (.int .i64 txj) (.bool !b9) (by kernel_rfl) (by kernel_rfl) (by kernel_rfl) (by kernel_rfl) _ HVO.out ?_
          rintro e w10 ⟨rfl, hwp⟩
          refine ⟨_, rfl, ?_⟩
          obtain ⟨ja2, jn2, jc2, la2, ln2, lc2, Fz, hD9⟩ := hD9'.wrote hwp (vote_right hD9'.dr)
          clear HVO hwp hD9' hHeld0 hB9 hZ9 hD8 hB8 hZ8 hD7d hZd hB7d hD7 hB7 hZ
          refine hK.out _ _ ?_
          clear hK K
          go_wp2_with fail
          go_roundw
          case rel => exact ⟨k - 1, _, _, _, _, _, _, _, _, by omega, by have h1 := HLK.out; have h2 := vote_life (c := c) (shard := si) (tx := txj) (yes := !b9); omega, by go_num, hD9⟩
          case measure => simp [intOf]; omega
      · have k4 := hD5.ins.box.cell 4 _ rfl
        have k5 := hD5.ins.box.cell 5 _ rfl
        have f5 := hD5.ins.box.fz 5
        simp only [List.length_nil, Nat.zero_add] at k4 k5
        have hD9 := hD5.sure
        go_wp2_with fail
        go_roundw
        case rel => exact ⟨k - 1, _, _, _, _, _, _, _, _, by omega, by have h1 := HLK.out; have h2 := Int.le_refl (0 : Int); show c.2.1 + ((k - 1 : Nat) : Int) ≤ 1 + (most : Int); omega, by go_num, hD9⟩
        case measure => simp [intOf]; omega
      · go_wp2_with fail
        refine (d_once w0 _ gc a len cap code 3 hD5.cur (by omega) (by omega)).mono ?_
        rintro e w6 ⟨b6, rfl, hc6, hg6⟩
        have hD6 := hD5.step hc6 hg6
        clear hD5 hc6 hg6
        cases b6
        · have hD9 := hD6
          go_wp2_with fail
          go_roundw
          case rel => exact ⟨k - 1, _, _, _, _, _, _, _, _, by omega, by have h1 := HLK.out; have h2 := Int.le_refl (0 : Int); omega, by go_num, hD9⟩
          case measure => simp [intOf]; omega
        · go_wp2_with fail
          refine (below_ w0 _ gc a len cap code 3 hD6.cur (by omega) (by omega)).mono ?_
          rintro e w7 ⟨kp, hkp, rfl, hc7, hg7⟩
          have hD7 := hD6.step hc7 hg7
          have HCR := Hid.mk' (spec_l11Crash X TCo [] [] ja jn jc la ln lc c F (kp : Int) w7 hD7.ins hD7.dr.life hD7.dr.sure (by have := hD7.dr.few; omega) (WalkArith.wf_i64 (by omega)))
          clear hD6 hc7 hg7
          go_wp2_with fail
          refine HCR.out.mono ?_
          rintro e w8 ⟨rfl, hwp⟩
          obtain ⟨ja2, jn2, jc2, la2, ln2, lc2, F2, hD9⟩ := hD7.wrote hwp (right_crash hD7.dr _)
          clear HCR hwp hD7
          go_wp2_with fail
          go_roundw
          case rel => exact ⟨k - 1, _, _, _, _, _, _, _, _, by omega, by have h1 := HLK.out; have h2 := crash_life (c := c) (keep := (kp : Int)); omega, by go_num, hD9⟩
          case measure => simp [intOf]; omega
    · have hk0 : k = 0 := by omega
      subst hk0
      have b := hD.ins.box
      obtain ⟨q0, q1, q2, q3, q4, q5⟩ := cells6 b
      have hR13 := hD.rb
      obtain ⟨z0, z1, z2, z3, z4, z5⟩ := cells6 hR13
      have f0 := hR13.fz 0
      have f1 := hR13.fz 1
      have f2 := hR13.fz 2
      have f3 := hR13.fz 3
      have f4 := hR13.fz 4
      have f5 := hR13.fz 5
      have hS := hR13.whole [.int .i64 c.1, .int .i64 c.2.1, .int .i64 c.2.2.1, .slice ja jn jc, .slice la ln lc, .int .i64 c.2.2.2.2.2] rfl
      obtain ⟨y0, y1, y2, y3, y4, y5⟩ := cells6 hS.1
      simp only [putAll, Nat.zero_add, Nat.reduceAdd] at y0 y1 y2 y3 y4 y5
      obtain ⟨g1, g2, g3⟩ := hD.gX
      have hOz := coordR.ownGrown hD.ins.own hS.2 (fun j hj e => hD.rF (by rw [← Option.some.inj e]; exact hj))
      have hcz := hD.cur.grown hS.2 (fun e => g3 (Option.some.inj e)) (fun k e => by cases e; exact hge)
      have hGz : w.grownBy _ (some gc) := ⟨hS.2.os.trans hD.fr.os, hS.2.tape.trans hD.fr.tape, hS.2.output.trans hD.fr.output, Nat.le_trans hD.fr.size hS.2.size, fun k hk hne => (hS.2.block k (Nat.lt_of_lt_of_le hk hD.fr.size) (fun e => by have := Option.some.inj e; omega)).trans (hD.fr.block k hk hne)⟩
      have HP : Hid (GotCo w0 w gc a len cap code most (.returned (.agg #[.int .i64 c.1, .int .i64 c.2.1, .int .i64 c.2.2.1, .slice ja jn jc, .slice la ln lc, .int .i64 c.2.2.2.2.2])) (putAll wr w.heap.size 0 [.int .i64 c.1, .int .i64 c.2.1, .int .i64 c.2.2.1, .slice ja jn jc, .slice la ln lc, .int .i64 c.2.2.2.2.2])) := ⟨ja, jn, jc, la, ln, lc, c, F, hD.dr, by omega, rfl, hOz, fun k hk => hD.new k (List.mem_cons_of_mem _ hk), hcz, hGz⟩
      simp only [putAll, Nat.zero_add, Nat.reduceAdd] at HP
      clear hOz hcz hGz hS hD b
      go_wp2_with fail
      refine bodyPost_ret (v := .agg #[.int .i64 c.1, .int .i64 c.2.1, .int .i64 c.2.2.1, .slice ja jn jc, .slice la ln lc, .int .i64 c.2.2.2.2.2]) ?_ rfl HP.out
      simp [results, Try.results52, go_sem, y0, y1, y2, y3, y4, y5]
end Go.Proofs.Yteniflajiklffaa.cos
