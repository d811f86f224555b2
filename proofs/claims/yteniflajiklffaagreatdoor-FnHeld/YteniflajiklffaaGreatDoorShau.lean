/- Draws of shards. The laws' own functions on shards: sizes, copies, marks. The laws' own functions on shards: copies and marks. -/
import Derived.Test.YteniflajiklffaaGreatDoorShar
import Derived.Test.YteniflajiklffaaGreatDoorShas
import Derived.Test.YteniflajiklffaaGreatDoorShat
import Derived.Test.YteniflajiklffaaGreatDoorShap
import Derived.Test.YteniflajiklffaaGreatDoorShao
namespace Go.Proofs.YteniflajiklffaaGreatDoor.recs
open Go Go.RowKit Go.Proofs.YteniflajiklffaaGreatDoor.base Go.Proofs.YteniflajiklffaaGreatDoor.pairs Go.Proofs.YteniflajiklffaaGreatDoor.ords Go.Proofs.YteniflajiklffaaGreatDoor.helps Go.Proofs.YteniflajiklffaaGreatDoor.help Go.Proofs.YteniflajiklffaaGreatDoor.lay Go.Proofs.YteniflajiklffaaGreatDoor.draw
set_option linter.unusedVariables false
set_option linter.unusedSimpArgs false

theorem Right.few {s : Shd} (h : Right s) : Few s.2.1 := fun r hr => by
  rcases ((recOk_iff r).1 (h.recOk r hr)).2 with ⟨_, h2⟩ | ⟨_, h2⟩
  · refine ⟨by have := ((opsOk_iff _).1 h2).2.2; omega, fun p hp => ?_⟩
    have := (tinyO_ok (((opsOk_iff _).1 h2).1.1 p hp)).2.2.1
    omega
  · rw [h2]; exact ⟨by simp, fun p hp => absurd hp List.not_mem_nil⟩
theorem Right.fewH {s : Shd} (h : Right s) : Few s.2.2.2.2 := fun r hr => h.few r (h.held_tx r hr).1
theorem size_ (a : Option Addr) (len cap : Nat) (most : Nat) (w : World) (hm : 3 ≤ most) (hm2 : most ≤ 1000000) (hl : len ≤ 1099511627776) :
    Calls Tryz.prog 29 #[.slice a len cap, .int .i64 (most : Int)] w fun e w' => ∃ n : Nat, 3 ≤ n ∧ n ≤ most ∧ e = .returned (.int .i64 (n : Int)) ∧ w' = w := by
  by_cases h : (most : Int) < 3 + (len : Int) / 12
  · go_enter Tryz.func29, Tryz.ntmps29
    go_wp2
    go_ret
    exact ⟨most, hm, Nat.le_refl _, rfl, rfl⟩
  · go_enter Tryz.func29, Tryz.ntmps29
    go_wp2
    go_ret
    exact ⟨3 + len / 12, by omega, by omega, ret_int (by omega), rfl⟩
abbrev zeroSh : List Value := shVals 0 0 none 0 0 none 0 0 none 0 0
abbrev TSh : TypeId := 27
structure DSt (w0 w wr : World) (gc : Nat) (a : Option Addr) (len cap : Nat) (code : List UInt8) (RB X : Nat) (la : Option Addr) (ln lc : Nat) (ma : Option Addr) (mn mc : Nat) (ha : Option Addr) (hn hc : Nat) (s : Shd) (F : List Nat) : Prop where
  cur : Cur w0 wr gc a len cap code
  ins : InSh wr X TSh [] [] la ln lc ma mn mc ha hn hc s F
  dr : Drawn s
  new : ∀ k ∈ X :: F, w.heap.size ≤ k
  old : gc < w.heap.size
  base : w0.heap.size ≤ w.heap.size
  fr : w.grownBy wr (some gc)
  rb : BoxIn RB TSh [] zeroSh [] wr
  rX : RB ≠ X
  rF : RB ∉ F
  rn : w.heap.size ≤ RB
theorem cur_frame {w0 w w' : World} {gc : Nat} {a : Option Addr} {len cap : Nat} {code : List UInt8} {G : List Nat} (h : Cur w0 w gc a len cap code) (hf : lay.Frame G w w') (hn : gc ∉ G) (hG : ∀ k ∈ G, w0.heap.size ≤ k) : Cur w0 w' gc a len cap code := by
  have hlt := h.lt
  obtain ⟨hS, hB, hgc, hln, i, hh, hi0, hi1, hrow⟩ := h
  exact ⟨hS, hB.trans (hf.bel hB.size hG), hgc, hln, i, hh, hi0, hi1, (hf.block gc hlt hn).trans hrow⟩
section
variable {w0 w wr w' : World} {gc : Nat} {a : Option Addr} {len cap : Nat} {code : List UInt8} {RB X : Nat} {la ma ha : Option Addr} {ln lc mn mc hn hc : Nat} {s s' : Shd} {F : List Nat}
theorem DSt.gX (h : DSt w0 w wr gc a len cap code RB X la ln lc ma mn mc ha hn hc s F) : gc ≠ X ∧ gc ∉ F ∧ gc ≠ RB := by
  have h1 := h.old
  have h2 := h.new
  have h3 := h.rn
  refine ⟨fun e => ?_, fun e => ?_, fun e => ?_⟩
  · have := h2 X List.mem_cons_self; omega
  · have := h2 gc (List.mem_cons_of_mem _ e); omega
  · omega
theorem InSh.keepg {k : Nat} {w w' : World} (h : InSh w X TSh [] [] la ln lc ma mn mc ha hn hc s F) (hg : w.grownBy w' (some k)) (h1 : k ≠ X) (h2 : k ∉ F) : InSh w' X TSh [] [] la ln lc ma mn mc ha hn hc s F :=
  ⟨h.box.grown hg (fun e => h1 (Option.some.inj e).symm), h.own.keep (fun j hj => hg.block j (h.own.lt j hj) (fun e => h2 (by rw [← Option.some.inj e]; exact hj))), h.out⟩
theorem DSt.step (h : DSt w0 w wr gc a len cap code RB X la ln lc ma mn mc ha hn hc s F) (hc' : Cur w0 w' gc a len cap code) (hg : wr.grownBy w' (some gc)) : DSt w0 w w' gc a len cap code RB X la ln lc ma mn mc ha hn hc s F := by
  obtain ⟨g1, g2, g3⟩ := h.gX
  exact ⟨hc', h.ins.keepg hg g1 g2, h.dr, h.new, h.old, h.base, grownBy_trans h.fr hg, h.rb.grown hg (fun e => g3 (Option.some.inj e).symm), h.rX, h.rF, h.rn⟩
theorem DSt.wrote (h : DSt w0 w wr gc a len cap code RB X la ln lc ma mn mc ha hn hc s F) (hw : WrotePost wr X TSh [] [] F s' w') (hd : Drawn s') : ∃ la ln lc ma mn mc ha hn hc F', DSt w0 w w' gc a len cap code RB X la ln lc ma mn mc ha hn hc s' F' := by
  obtain ⟨g1, g2, g3⟩ := h.gX
  obtain ⟨la', ln', lc', ma', mn', mc', ha', hn', hc', F', h1, h2, h3⟩ := hw
  have hsz := h.fr.size
  have hnew : ∀ k ∈ F', w.heap.size ≤ k := fun k hk => by
    rcases h3 k hk with e | e
    · exact h.new k (List.mem_cons_of_mem _ e)
    · omega
  refine ⟨la', ln', lc', ma', mn', mc', ha', hn', hc', F', cur_frame h.cur h2 (fun e => ?_) (fun k hk => Nat.le_trans h.base (h.new k hk)), h1, hd, fun k hk => ?_, h.old, h.base, ?_, h.rb.frame h2 (fun e => ?_), h.rX, fun e => ?_, h.rn⟩
  · rcases List.mem_cons.1 e with e | e
    · exact g1 e
    · exact g2 e
  · rcases List.mem_cons.1 hk with e | e
    · rw [e]; exact h.new X List.mem_cons_self
    · exact hnew k e
  · exact ⟨h2.os.trans h.fr.os, h2.tape.trans h.fr.tape, h2.output.trans h.fr.output, Nat.le_trans h.fr.size h2.size, fun k hk hne => (h2.block k (Nat.lt_of_lt_of_le hk h.fr.size) (fun e => by have := h.new k e; omega)).trans (h.fr.block k hk hne)⟩
  · rcases List.mem_cons.1 e with e | e
    · exact h.rX e
    · exact h.rF e
  · rcases h3 RB e with e | e
    · exact h.rF e
    · have := h.rb.lt; omega
theorem DSt.lens (h : DSt w0 w wr gc a len cap code RB X la ln lc ma mn mc ha hn hc s F) : ln ≤ 300 ∧ hn ≤ 300 ∧ ln = s.2.1.length ∧ hn = s.2.2.2.2.length := by
  obtain ⟨l1, l2, l3⟩ := h.ins.lens
  have := h.dr.right.room
  omega
theorem DSt.sure (h : DSt w0 w wr gc a len cap code RB X la ln lc ma mn mc ha hn hc s F) : DSt w0 w (wr.setCell ⟨X, 2, none⟩ (.int .i64 (ln : Int))) gc a len cap code RB X la ln lc ma mn mc ha hn hc (s.1, s.2.1, (s.2.1.length : Int), s.2.2.2.1, s.2.2.2.2) F := by
  obtain ⟨g1, g2, g3⟩ := h.gX
  obtain ⟨k1, _, k2, _⟩ := h.lens
  have c := h.ins.box.set 2 (by simp [shVals]) (.int .i64 (ln : Int))
  simp only [List.length_nil, Nat.zero_add] at c
  have hX := h.new X List.mem_cons_self
  have hwf : (Lit.int .i64 (s.2.1.length : Int)).wf = true := by
    simp [Lit.wf, IntKind.min, IntKind.max, IntKind.signed, IntKind.bits]; omega
  have hO := h.ins.own.keep (w' := wr.setCell ⟨X, 2, none⟩ (.int .i64 (ln : Int))) (fun j hj => c.2.block j (h.ins.own.lt j hj) (fun e => h.ins.out (by rw [← Option.some.inj e]; exact hj)))
  refine ⟨h.cur.grown c.2 (fun e => g1 (Option.some.inj e)) (fun k e => by cases e; exact Nat.le_trans h.base hX), ⟨by rw [← k2]; exact c.1, ⟨hO.id, hwf, hO.log, hO.map, hO.nodup⟩, h.ins.out⟩, h.dr.sure, h.new, h.old, h.base, ?_, h.rb.grown c.2 (fun e => h.rX (Option.some.inj e)), h.rX, h.rF, h.rn⟩
  exact ⟨c.2.os.trans h.fr.os, c.2.tape.trans h.fr.tape, c.2.output.trans h.fr.output, Nat.le_trans h.fr.size c.2.size, fun k hk hne => (c.2.block k (Nat.lt_of_lt_of_le hk h.fr.size) (fun e => by have := Option.some.inj e; omega)).trans (h.fr.block k hk hne)⟩
end
def GotSh (w0 w : World) (gc : Nat) (a : Option Addr) (len cap : Nat) (code : List UInt8) (e : Ending) (w' : World) : Prop :=
  ∃ (la : Option Addr) (ln lc : Nat) (ma : Option Addr) (mn mc : Nat) (ha : Option Addr) (hn hc : Nat) (s : Shd) (F : List Nat), Drawn s ∧ e = .returned (aggSh s.1 s.2.2.1 la ln lc ma mn mc ha hn hc) ∧ OwnSh w' la ln lc ma mn mc ha hn hc s F ∧ (∀ k ∈ F, w.heap.size ≤ k) ∧ Cur w0 w' gc a len cap code ∧ w.grownBy w' (some gc)
theorem ownO_out {w w' : World} {base g n c : Nat} {l : List Od} {G : List Nat} (ho : OwnO w base g n c l) (hf : lay.Frame G w w') (hn : g ∉ G) : SlO w' (some ⟨g, 0, none⟩) n l := by
  have h9 := ho.mono (base' := 0) (Nat.zero_le _)
  refine OwnO.sl (base := 0) ⟨h9.1, h9.2.1, rowR_of_block h9.2.2 (fun k e => ?_)⟩
  have e3 : g = k := by simpa [Value.ownBlock] using e
  subst e3
  exact hf.block g ho.lt.2 hn
theorem below_two {w : World} {o : Obj} : Below w.heap.size w (w.alloc o) := (Below.refl _ _).alloc (Nat.le_refl _) _
set_option maxRecDepth 100000 in
set_option maxHeartbeats 4000000 in
theorem d_shard (w0 w : World) (gc : Nat) (a : Option Addr) (len cap : Nat) (code : List UInt8) (most : Nat) (h : Cur w0 w gc a len cap code) (hm : 0 < most) (hm2 : most ≤ 1000) :
    Calls Tryz.prog 66 #[.pointer (some ⟨gc, 0, none⟩), .int .i64 (most : Int)] w fun e w' => GotSh w0 w gc a len cap code e w' := by
  have hcl := h.lt
  have hge := h.bel.size
  obtain ⟨wa, hwa⟩ : ∃ wa, w.alloc (boxSh 0 0 none 0 0 none 0 0 none 0 0) = wa := ⟨_, rfl⟩
  have hba : Below w.heap.size w wa := by rw [← hwa]; exact below_two
  have hsa : wa.heap.size = w.heap.size + 1 := by rw [← hwa]; simp
  have hRa : BoxIn w.heap.size TSh [] zeroSh [] wa := by rw [← hwa]; exact boxIn_new w _ _
  have HWA := Hid.mk' hwa
  clear hwa
  go_enter Tryz.func66, Tryz.ntmps66
  go_wp2_with fail
  rw [HWA.out]
  refine (below_ w0 _ gc a len cap code 4 (h.below hba) (by omega) (by omega)).mono ?_
  rintro e w1 ⟨x, hx, rfl, hc1, hg1⟩
  have hR1 := hRa.grown hg1 (fun e => by have := Option.some.inj e; omega)
  have hG1 : w.grownBy w1 (some gc) := grownBy_trans (grown_below (World.grownBy.refl _ _) hba) hg1
  clear HWA
  have hxid : 0 ≤ (x : Int) ∧ (x : Int) ≤ 7 := by omega
  have hnw : (newShd (x : Int)).1 = (x : Int) := by unfold newShd; rw [if_pos hxid]
  have HSN := Hid.mk' (spec_shardNew (x : Int) w1)
  rw [hnw] at HSN
  clear hnw
  go_wp2_with fail
  refine HSN.out.mono ?_
  rintro e w2 ⟨rfl, hb2⟩
  clear HSN
  unfold nilShd
  obtain ⟨wb, hwb⟩ : ∃ wb, w2.alloc (boxSh (x : Int) 0 none 0 0 none 0 0 none 0 0) = wb := ⟨_, rfl⟩
  have hbb : Below w2.heap.size w2 wb := by rw [← hwb]; exact below_two
  have hXb : BoxIn w2.heap.size TSh [] (shVals (x : Int) 0 none 0 0 none 0 0 none 0 0) [] wb := by rw [← hwb]; exact boxIn_new w2 _ _
  have hR2 := (hR1.below hb2).below hbb
  have hc2 := (hc1.below hb2).below hbb
  have hG2 := grown_below (grown_below hG1 hb2) hbb
  have hs2 := hG2.size
  have hRl := hR1.lt
  have hs12 := hb2.size
  have hxw : (Lit.int .i64 (x : Int)).wf = true := by
    simp [Lit.wf, IntKind.min, IntKind.max, IntKind.signed, IntKind.bits]; omega
  have hD0 : DSt w0 w wb gc a len cap code w.heap.size w2.heap.size none 0 0 none 0 0 none 0 0 ((x : Int), [], 0, [], []) [] :=
    ⟨hc2, ⟨hXb, ownSh_new wb _ hxw, List.not_mem_nil⟩, drawn_new hxid, fun k hk => by rw [List.mem_singleton.1 hk]; omega, hcl, hge, hG2, hR2, by omega, List.not_mem_nil, Nat.le_refl _⟩
  have HWB := Hid.mk' hwb
  generalize hXX : w2.heap.size = X at *
  have HBL := Hid.mk' (below_ w0 wb gc a len cap code (most : Int) hc2 (by omega) (by omega))
  clear hwb hc2 hG2 hR2 hXb hbb hb2 hc1 hg1 hG1 hR1 hRa hba hsa hRl hs12 hs2
  go_wp2_with fail
  rw [HWB.out]
  refine HBL.out.mono ?_
  rintro e w3 ⟨y, hy, rfl, hc3, hg3⟩
  have hD3 := hD0.step hc3 hg3
  clear hD0 hc3 hg3 HBL HWB
  go_wp2_with fail
  go_loopw [6] (fun i wr => ∃ (k : Nat) (la : Option Addr) (ln lc : Nat) (ma : Option Addr) (mn mc : Nat) (ha : Option Addr) (hn hc : Nat) (s : Shd) (F : List Nat), k ≤ most ∧ i = .int .i64 (k : Int) ∧ DSt w0 w wr gc a len cap code w.heap.size X la ln lc ma mn mc ha hn hc s F) (fun i _ => (intOf i).toNat)
  case atStart => exact ⟨y, _, _, _, _, _, _, _, _, _, _, _, by omega, rfl, hD3⟩
  case round =>
    clear hD3
    obtain ⟨k, la, ln, lc, ma, mn, mc, ha, hn, hc, s, F, hk, rfl, hD⟩ := hrel
    by_cases hlt : 0 < k
    · have hki : (0 : Int) < (k : Int) := by omega
      go_wp2_with fail
      refine (below_ w0 _ gc a len cap code 6 hD.cur (by omega) (by omega)).mono ?_
      rintro e w4 ⟨tx, htx, rfl, hc4, hg4⟩
      have hD4 := hD.step hc4 hg4
      clear hD hc4 hg4
      go_wp2_with fail
      refine (below_ w0 _ gc a len cap code 8 hD4.cur (by omega) (by omega)).mono ?_
      rintro e w5 ⟨z, hz, rfl, hc5, hg5⟩
      have hD5 := hD4.step hc5 hg5
      clear hD4 hc5 hg5
      have hz8 : z = 0 ∨ z = 1 ∨ z = 2 ∨ z = 3 ∨ z = 4 ∨ z = 5 ∨ z = 6 ∨ z = 7 := by omega
      have htx6 : 1 ≤ (1 : Int) + (tx : Int) ∧ (1 : Int) + (tx : Int) ≤ 6 := by omega
      have htxw : (Lit.int .i64 ((1 : Int) + (tx : Int))).wf = true := by
        simp [Lit.wf, IntKind.min, IntKind.max, IntKind.signed, IntKind.bits]; omega
      clear hz
      obtain ⟨hl3, hh3, hll, hhl⟩ := hD5.lens
      have HLL := Hid.mk' hll
      have HHL := Hid.mk' hhl
      clear hll hhl
      rcases hz8 with rfl | rfl | rfl | rfl | rfl | rfl | rfl | rfl
      · go_wp2_with fail
        refine (d_ops w0 _ gc a len cap code hD5.cur).mono ?_
        rintro e w6 ⟨g, n, cp, l, hn4, hlo, rfl, hO6, hc6, hg6⟩
        have hD6 := hD5.step hc6 hg6
        have hgn : g ∉ X :: F := fun e => by
          have h1 := hO6.lt.1
          have h2 := hD5.ins.box.lt
          rcases List.mem_cons.1 e with e | e
          · omega
          · have := hD5.ins.own.lt g e; omega
        have htiny : ∀ p ∈ l, p.2.1.size ≤ 1099511627776 := fun p hp => by
          have := (tinyO_ok (((opsOk_iff _).1 hlo).1.1 p hp)).2.2.1
          omega
        have HHO := Hid.mk' (spec_l9Hold X TSh [] [] la ln lc ma mn mc ha hn hc s F (1 + (tx : Int)) (some ⟨g, 0, none⟩) n cp l w6 hD6.ins (fun w' hf => ownO_out hO6 hf hgn) htiny htxw (by omega) hD6.dr.right)
        clear hD5 hO6 hc6 hg6
        go_wp2_with fail
        refine HHO.out.mono ?_
        rintro e w7 ⟨rfl, hwp⟩
        obtain ⟨la2, ln2, lc2, ma2, mn2, mc2, ha2, hn2, hc2, F2, hD9⟩ := hD6.wrote hwp (hD6.dr.hold l htx6)
        clear HHO hwp hD6
        go_wp2_with fail
        go_roundw
        case rel => exact ⟨k - 1, _, _, _, _, _, _, _, _, _, _, _, by omega, by go_num, hD9⟩
        case measure => simp [intOf]; omega
      · go_wp2_with fail
        refine (d_ops w0 _ gc a len cap code hD5.cur).mono ?_
        rintro e w6 ⟨g, n, cp, l, hn4, hlo, rfl, hO6, hc6, hg6⟩
        have hD6 := hD5.step hc6 hg6
        have hgn : g ∉ X :: F := fun e => by
          have h1 := hO6.lt.1
          have h2 := hD5.ins.box.lt
          rcases List.mem_cons.1 e with e | e
          · omega
          · have := hD5.ins.own.lt g e; omega
        have htiny : ∀ p ∈ l, p.2.1.size ≤ 1099511627776 := fun p hp => by
          have := (tinyO_ok (((opsOk_iff _).1 hlo).1.1 p hp)).2.2.1
          omega
        have HHO := Hid.mk' (spec_l9Hold X TSh [] [] la ln lc ma mn mc ha hn hc s F (1 + (tx : Int)) (some ⟨g, 0, none⟩) n cp l w6 hD6.ins (fun w' hf => ownO_out hO6 hf hgn) htiny htxw (by omega) hD6.dr.right)
        clear hD5 hO6 hc6 hg6
        go_wp2_with fail
        refine HHO.out.mono ?_
        rintro e w7 ⟨rfl, hwp⟩
        obtain ⟨la2, ln2, lc2, ma2, mn2, mc2, ha2, hn2, hc2, F2, hD9⟩ := hD6.wrote hwp (hD6.dr.hold l htx6)
        clear HHO hwp hD6
        go_wp2_with fail
        go_roundw
        case rel => exact ⟨k - 1, _, _, _, _, _, _, _, _, _, _, _, by omega, by go_num, hD9⟩
        case measure => simp [intOf]; omega
      · go_wp2_with fail
        refine (d_ops w0 _ gc a len cap code hD5.cur).mono ?_
        rintro e w6 ⟨g, n, cp, l, hn4, hlo, rfl, hO6, hc6, hg6⟩
        have hD6 := hD5.step hc6 hg6
        have hgn : g ∉ X :: F := fun e => by
          have h1 := hO6.lt.1
          have h2 := hD5.ins.box.lt
          rcases List.mem_cons.1 e with e | e
          · omega
          · have := hD5.ins.own.lt g e; omega
        have htiny : ∀ p ∈ l, p.2.1.size ≤ 1099511627776 := fun p hp => by
          have := (tinyO_ok (((opsOk_iff _).1 hlo).1.1 p hp)).2.2.1
          omega
        have HHO := Hid.mk' (spec_l9Hold X TSh [] [] la ln lc ma mn mc ha hn hc s F (1 + (tx : Int)) (some ⟨g, 0, none⟩) n cp l w6 hD6.ins (fun w' hf => ownO_out hO6 hf hgn) htiny htxw (by omega) hD6.dr.right)
        clear hD5 hO6 hc6 hg6
        go_wp2_with fail
        refine HHO.out.mono ?_
        rintro e w7 ⟨rfl, hwp⟩
        obtain ⟨la2, ln2, lc2, ma2, mn2, mc2, ha2, hn2, hc2, F2, hD9⟩ := hD6.wrote hwp (hD6.dr.hold l htx6)
        clear HHO hwp hD6
        go_wp2_with fail
        go_roundw
        case rel => exact ⟨k - 1, _, _, _, _, _, _, _, _, _, _, _, by omega, by go_num, hD9⟩
        case measure => simp [intOf]; omega
      · go_wp2_with fail
        refine (d_ops w0 _ gc a len cap code hD5.cur).mono ?_
        rintro e w6 ⟨g, n, cp, l, hn4, hlo, rfl, hO6, hc6, hg6⟩
        have hD6 := hD5.step hc6 hg6
        have hgn : g ∉ X :: F := fun e => by
          have h1 := hO6.lt.1
          have h2 := hD5.ins.box.lt
          rcases List.mem_cons.1 e with e | e
          · omega
          · have := hD5.ins.own.lt g e; omega
        have htiny : ∀ p ∈ l, p.2.1.size ≤ 1099511627776 := fun p hp => by
          have := (tinyO_ok (((opsOk_iff _).1 hlo).1.1 p hp)).2.2.1
          omega
        have HHO := Hid.mk' (spec_l9Hold X TSh [] [] la ln lc ma mn mc ha hn hc s F (1 + (tx : Int)) (some ⟨g, 0, none⟩) n cp l w6 hD6.ins (fun w' hf => ownO_out hO6 hf hgn) htiny htxw (by omega) hD6.dr.right)
        clear hD5 hO6 hc6 hg6
        go_wp2_with fail
        refine HHO.out.mono ?_
        rintro e w7 ⟨rfl, hwp⟩
        obtain ⟨la2, ln2, lc2, ma2, mn2, mc2, ha2, hn2, hc2, F2, hD9⟩ := hD6.wrote hwp (hD6.dr.hold l htx6)
        clear HHO hwp hD6
        go_wp2_with fail
        go_roundw
        case rel => exact ⟨k - 1, _, _, _, _, _, _, _, _, _, _, _, by omega, by go_num, hD9⟩
        case measure => simp [intOf]; omega
      · have k4 := hD5.ins.box.cell 4 _ rfl
        simp only [List.length_nil, Nat.zero_add] at k4
        by_cases hnz : 0 < hn
        · have hnzi : (0 : Int) < (hn : Int) := by omega
          obtain ⟨hl, hOL, hh, hOH, hFe⟩ := hD5.ins.own.log
          obtain ⟨gh, rfl⟩ : ∃ gh, ha = some ⟨gh, 0, none⟩ := by
            rcases hOH.shape with ⟨e, _⟩ | ⟨g, c, e, _⟩
            · cases e; omega
            · cases e; exact ⟨g, rfl⟩
          have hd5 : Below w5.heap.size w5 w5.drew := (Below.refl _ _).drew
          have HBL := Hid.mk' (below_ w0 w5.drew gc a len cap code (hn : Int) (hD5.cur.below hd5) (by omega) (by omega))
          go_wp2_with fail
          refine last.wp_region_later (S := fun w' => BoxIn X TSh [] (shVals s.1 s.2.2.1 la ln lc ma mn mc (some ⟨gh, 0, none⟩) hn hc) [] w' ∧ OwnR w' 0 (.slice (some ⟨gh, 0, none⟩) hn hc) s.2.2.2.2 hh) 10 (by kernel_rfl) ⟨hD5.ins.box.below hd5, hOH.below hd5⟩ (fun hHeld0 => ?_)
          refine last.wpAnyL_take (i := 0) (v := (.pointer (some ⟨X, 4, none⟩))) rfl rfl (by kernel_rfl) (by kernel_rfl) (by kernel_rfl) (by kernel_rfl) (fun _ _ _ h => h) (Or.inl ⟨by rfl, ?_⟩) (by assumption) ?_
          · intro wq hSq; go_simp
          try simp only [Act.put, List.setIfInBounds_toArray, List.set_cons_zero, List.set_cons_succ]
          refine last.wpAnyL_take (i := 1) (v := (.slice (some ⟨gh, 0, none⟩) hn hc)) rfl rfl (by kernel_rfl) (by kernel_rfl) (by kernel_rfl) (by kernel_rfl) (fun _ _ _ h => h) (Or.inl ⟨by rfl, ?_⟩) (by assumption) ?_
          · intro wq hSq; have q := hSq.1.cell 4 _ rfl; simp only [List.length_nil, Nat.zero_add] at q; go_simp
          try simp only [Act.put, List.setIfInBounds_toArray, List.set_cons_zero, List.set_cons_succ]
          refine last.wpAnyL_take (i := 2) (v := (.pointer (some ⟨gc, 0, none⟩))) rfl rfl (by kernel_rfl) (by kernel_rfl) (by kernel_rfl) (by kernel_rfl) (fun _ _ _ h => h) (Or.inl ⟨by rfl, ?_⟩) (by assumption) ?_
          · intro wq hSq; go_simp
          try simp only [Act.put, List.setIfInBounds_toArray, List.set_cons_zero, List.set_cons_succ]
          refine last.wpAnyL_take (i := 3) (v := (.pointer (some ⟨X, 4, none⟩))) rfl rfl (by kernel_rfl) (by kernel_rfl) (by kernel_rfl) (by kernel_rfl) (fun _ _ _ h => h) (Or.inl ⟨by rfl, ?_⟩) (by assumption) ?_
          · intro wq hSq; go_simp
          try simp only [Act.put, List.setIfInBounds_toArray, List.set_cons_zero, List.set_cons_succ]
          refine last.wpAnyL_take (i := 4) (v := (.slice (some ⟨gh, 0, none⟩) hn hc)) rfl rfl (by kernel_rfl) (by kernel_rfl) (by kernel_rfl) (by kernel_rfl) (fun _ _ _ h => h) (Or.inl ⟨by rfl, ?_⟩) (by assumption) ?_
          · intro wq hSq; have q := hSq.1.cell 4 _ rfl; simp only [List.length_nil, Nat.zero_add] at q; go_simp
          try simp only [Act.put, List.setIfInBounds_toArray, List.set_cons_zero, List.set_cons_succ]
          refine last.wpAnyL_take (i := 5) (v := (.int .i64 (hn : Int))) rfl rfl (by kernel_rfl) (by kernel_rfl) (by kernel_rfl) (by kernel_rfl) (fun _ _ _ h => h) (Or.inl ⟨by rfl, ?_⟩) (by assumption) ?_
          · intro wq hSq; go_simp
          try simp only [Act.put, List.setIfInBounds_toArray, List.set_cons_zero, List.set_cons_succ]
          refine last.wpAnyL_one (i := 6) (o := { dst := some 48, op := Op.call { callee := Callee.value (Operand.func 45), args := #[Operand.tmp 44, Operand.tmp 47], argTypes := #[57, 3] }, type := 3, pos := "l09_shard.go:197", after := #[{ on := 2, ground := Ground.data }, { on := 5, ground := Ground.data }], guard := none }) (by kernel_rfl) rfl (fun K hK => ?_)
          refine stepc.step_call2 rfl 45 (.tmp 44) (.tmp 47) _ rfl (fun _ _ => rfl) (.pointer (some ⟨gc, 0, none⟩)) (.int .i64 (hn : Int)) (by kernel_rfl) (by kernel_rfl) _ HBL.out ?_
          rintro e w6 ⟨j, hj, rfl, hc6, hg6'⟩
          refine ⟨_, rfl, ?_⟩
          have hg6 : w5.grownBy w6 (some gc) := grownBy_trans (grown_below (World.grownBy.refl _ _) hd5) hg6'
          have hD6 := hD5.step hc6 hg6
          obtain ⟨g1, g2, g3⟩ := hD5.gX
          have hOH6 := hOH.grown hg6 (fun e => g2 (by rw [hFe]; exact List.mem_append.2 (.inr (List.mem_append.2 (.inr (mem_blkR.2 e))))))
          have hjl : j < s.2.2.2.2.length := by have := HHL.out; omega
          have hjn : (j : Int) < (hn : Int) := hj
          have hmem := (hD6.dr.right.held_tx _ (List.getElem_mem hjl)).1
          have htj := hD6.dr.txs _ hmem
          refine hK.out _ _ ?_ (fun hHeld => ?_)
          · exact ⟨hD6.ins.box, hOH6⟩
          clear hK K hHeld0
          have hHeld0 := hHeld
          clear hHeld
          try simp only [Act.put, List.setIfInBounds_toArray, List.set_cons_zero, List.set_cons_succ]
          refine last.wpAnyL_take (i := 7) (v := (.pointer (some ⟨gh, j * 3, none⟩))) rfl rfl (by kernel_rfl) (by kernel_rfl) (by kernel_rfl) (by kernel_rfl) (fun _ _ _ h => h) (Or.inl ⟨by rfl, ?_⟩) (by assumption) ?_
          · intro wq hSq; go_simp
          try simp only [Act.put, List.setIfInBounds_toArray, List.set_cons_zero, List.set_cons_succ]
          refine last.wpAnyL_take (i := 8) (v := (.pointer (some ⟨gh, j * 3 + 1, none⟩))) rfl rfl (by kernel_rfl) (by kernel_rfl) (by kernel_rfl) (by kernel_rfl) (fun _ _ _ h => h) (Or.inl ⟨by rfl, ?_⟩) (by assumption) ?_
          · intro wq hSq; go_simp
          try simp only [Act.put, List.setIfInBounds_toArray, List.set_cons_zero, List.set_cons_succ]
          refine last.wpAnyL_take (i := 9) (v := (.int .i64 s.2.2.2.2[j].2.1)) rfl rfl (by kernel_rfl) (by kernel_rfl) (by kernel_rfl) (by kernel_rfl) (fun _ _ _ h => h) (Or.inl ⟨by rfl, ?_⟩) (by assumption) ?_
          · intro wq hSq; have q := (hSq.2.at j hjl).2.1; go_simp
          try simp only [Act.put, List.setIfInBounds_toArray, List.set_cons_zero, List.set_cons_succ]
          refine last.wpAnyL_last (o := { dst := some 7, op := Op.assign (Operand.tmp 51), type := 3, pos := "l09_shard.go:197", after := #[{ on := 9, ground := Ground.data }, { on := 6, ground := Ground.chain }, { on := 0, ground := Ground.phase }, { on := 1, ground := Ground.phase }, { on := 2, ground := Ground.phase }, { on := 3, ground := Ground.phase }, { on := 4, ground := Ground.phase }, { on := 5, ground := Ground.phase }, { on := 6, ground := Ground.phase }, { on := 7, ground := Ground.phase }, { on := 8, ground := Ground.phase }, { on := 9, ground := Ground.phase }], guard := none }) (by kernel_rfl) rfl (by kernel_rfl) (fun K hK => ?_)
          go_simp
          refine hK.out _ _ ?_
          clear hK K
          have htjw : (Lit.int .i64 s.2.2.2.2[j].2.1).wf = true := (hOH6.sm _ (List.getElem_mem hjl)).2.1
          clear hHeld0 hOH6 hOH hOL HBL hg6' hg6 hc6 k4 hd5
          generalize s.2.2.2.2[j].2.1 = txj at *
          go_wp2_with fail
          refine (d_once w0 _ gc a len cap code 4 hD6.cur (by omega) (by omega)).mono ?_
          rintro e w8 ⟨b8, rfl, hc8, hg8⟩
          have hD8 := hD6.step hc8 hg8
          have HDE := Hid.mk' (fun yes => spec_l9Decide X TSh [] [] la ln lc ma mn mc (some ⟨gh, 0, none⟩) hn hc s F txj yes w8 hD8.ins htjw hD8.dr.right)
          clear hc8 hg8 hD5 hD6
          go_wp2_with fail
          refine (HDE.out _).mono ?_
          rintro e w9 ⟨rfl, hwp⟩
          obtain ⟨la2, ln2, lc2, ma2, mn2, mc2, ha2, hn2, hc2, F2, hD9⟩ := hD8.wrote hwp (hD8.dr.decide _ htj)
          clear HDE hwp hD8
          go_wp2_with fail
          go_roundw
          case rel => exact ⟨k - 1, _, _, _, _, _, _, _, _, _, _, _, by omega, by go_num, hD9⟩
          case measure => simp [intOf]; omega
        · have hnzi : ¬ (0 : Int) < (hn : Int) := by omega
          go_wp2_with fail
          refine (d_once w0 _ gc a len cap code 4 hD5.cur (by omega) (by omega)).mono ?_
          rintro e w8 ⟨b8, rfl, hc8, hg8⟩
          have hD8 := hD5.step hc8 hg8
          have HDE := Hid.mk' (fun yes => spec_l9Decide X TSh [] [] la ln lc ma mn mc ha hn hc s F (1 + (tx : Int)) yes w8 hD8.ins htxw hD8.dr.right)
          clear hc8 hg8 hD5
          go_wp2_with fail
          refine (HDE.out _).mono ?_
          rintro e w9 ⟨rfl, hwp⟩
          obtain ⟨la2, ln2, lc2, ma2, mn2, mc2, ha2, hn2, hc2, F2, hD9⟩ := hD8.wrote hwp (hD8.dr.decide _ htx6)
          clear HDE hwp hD8
          go_wp2_with fail
          go_roundw
          case rel => exact ⟨k - 1, _, _, _, _, _, _, _, _, _, _, _, by omega, by go_num, hD9⟩
          case measure => simp [intOf]; omega
      · have k4 := hD5.ins.box.cell 4 _ rfl
        simp only [List.length_nil, Nat.zero_add] at k4
        by_cases hnz : 0 < hn
        · have hnzi : (0 : Int) < (hn : Int) := by omega
          obtain ⟨hl, hOL, hh, hOH, hFe⟩ := hD5.ins.own.log
          obtain ⟨gh, rfl⟩ : ∃ gh, ha = some ⟨gh, 0, none⟩ := by
            rcases hOH.shape with ⟨e, _⟩ | ⟨g, c, e, _⟩
            · cases e; omega
            · cases e; exact ⟨g, rfl⟩
          have hd5 : Below w5.heap.size w5 w5.drew := (Below.refl _ _).drew
          have HBL := Hid.mk' (below_ w0 w5.drew gc a len cap code (hn : Int) (hD5.cur.below hd5) (by omega) (by omega))
          go_wp2_with fail
          refine last.wp_region_later (S := fun w' => BoxIn X TSh [] (shVals s.1 s.2.2.1 la ln lc ma mn mc (some ⟨gh, 0, none⟩) hn hc) [] w' ∧ OwnR w' 0 (.slice (some ⟨gh, 0, none⟩) hn hc) s.2.2.2.2 hh) 10 (by kernel_rfl) ⟨hD5.ins.box.below hd5, hOH.below hd5⟩ (fun hHeld0 => ?_)
          refine last.wpAnyL_take (i := 0) (v := (.pointer (some ⟨X, 4, none⟩))) rfl rfl (by kernel_rfl) (by kernel_rfl) (by kernel_rfl) (by kernel_rfl) (fun _ _ _ h => h) (Or.inl ⟨by rfl, ?_⟩) (by assumption) ?_
          · intro wq hSq; go_simp
          try simp only [Act.put, List.setIfInBounds_toArray, List.set_cons_zero, List.set_cons_succ]
          refine last.wpAnyL_take (i := 1) (v := (.slice (some ⟨gh, 0, none⟩) hn hc)) rfl rfl (by kernel_rfl) (by kernel_rfl) (by kernel_rfl) (by kernel_rfl) (fun _ _ _ h => h) (Or.inl ⟨by rfl, ?_⟩) (by assumption) ?_
          · intro wq hSq; have q := hSq.1.cell 4 _ rfl; simp only [List.length_nil, Nat.zero_add] at q; go_simp
          try simp only [Act.put, List.setIfInBounds_toArray, List.set_cons_zero, List.set_cons_succ]
          refine last.wpAnyL_take (i := 2) (v := (.pointer (some ⟨gc, 0, none⟩))) rfl rfl (by kernel_rfl) (by kernel_rfl) (by kernel_rfl) (by kernel_rfl) (fun _ _ _ h => h) (Or.inl ⟨by rfl, ?_⟩) (by assumption) ?_
          · intro wq hSq; go_simp
          try simp only [Act.put, List.setIfInBounds_toArray, List.set_cons_zero, List.set_cons_succ]
          refine last.wpAnyL_take (i := 3) (v := (.pointer (some ⟨X, 4, none⟩))) rfl rfl (by kernel_rfl) (by kernel_rfl) (by kernel_rfl) (by kernel_rfl) (fun _ _ _ h => h) (Or.inl ⟨by rfl, ?_⟩) (by assumption) ?_
          · intro wq hSq; go_simp
          try simp only [Act.put, List.setIfInBounds_toArray, List.set_cons_zero, List.set_cons_succ]
          refine last.wpAnyL_take (i := 4) (v := (.slice (some ⟨gh, 0, none⟩) hn hc)) rfl rfl (by kernel_rfl) (by kernel_rfl) (by kernel_rfl) (by kernel_rfl) (fun _ _ _ h => h) (Or.inl ⟨by rfl, ?_⟩) (by assumption) ?_
          · intro wq hSq; have q := hSq.1.cell 4 _ rfl; simp only [List.length_nil, Nat.zero_add] at q; go_simp
          try simp only [Act.put, List.setIfInBounds_toArray, List.set_cons_zero, List.set_cons_succ]
          refine last.wpAnyL_take (i := 5) (v := (.int .i64 (hn : Int))) rfl rfl (by kernel_rfl) (by kernel_rfl) (by kernel_rfl) (by kernel_rfl) (fun _ _ _ h => h) (Or.inl ⟨by rfl, ?_⟩) (by assumption) ?_
          · intro wq hSq; go_simp
          try simp only [Act.put, List.setIfInBounds_toArray, List.set_cons_zero, List.set_cons_succ]
          refine last.wpAnyL_one (i := 6) (o := { dst := some 48, op := Op.call { callee := Callee.value (Operand.func 45), args := #[Operand.tmp 44, Operand.tmp 47], argTypes := #[57, 3] }, type := 3, pos := "l09_shard.go:197", after := #[{ on := 2, ground := Ground.data }, { on := 5, ground := Ground.data }], guard := none }) (by kernel_rfl) rfl (fun K hK => ?_)
          refine stepc.step_call2 rfl 45 (.tmp 44) (.tmp 47) _ rfl (fun _ _ => rfl) (.pointer (some ⟨gc, 0, none⟩)) (.int .i64 (hn : Int)) (by kernel_rfl) (by kernel_rfl) _ HBL.out ?_
          rintro e w6 ⟨j, hj, rfl, hc6, hg6'⟩
          refine ⟨_, rfl, ?_⟩
          have hg6 : w5.grownBy w6 (some gc) := grownBy_trans (grown_below (World.grownBy.refl _ _) hd5) hg6'
          have hD6 := hD5.step hc6 hg6
          obtain ⟨g1, g2, g3⟩ := hD5.gX
          have hOH6 := hOH.grown hg6 (fun e => g2 (by rw [hFe]; exact List.mem_append.2 (.inr (List.mem_append.2 (.inr (mem_blkR.2 e))))))
          have hjl : j < s.2.2.2.2.length := by have := HHL.out; omega
          have hjn : (j : Int) < (hn : Int) := hj
          have hmem := (hD6.dr.right.held_tx _ (List.getElem_mem hjl)).1
          have htj := hD6.dr.txs _ hmem
          refine hK.out _ _ ?_ (fun hHeld => ?_)
          · exact ⟨hD6.ins.box, hOH6⟩
          clear hK K hHeld0
          have hHeld0 := hHeld
          clear hHeld
          try simp only [Act.put, List.setIfInBounds_toArray, List.set_cons_zero, List.set_cons_succ]
          refine last.wpAnyL_take (i := 7) (v := (.pointer (some ⟨gh, j * 3, none⟩))) rfl rfl (by kernel_rfl) (by kernel_rfl) (by kernel_rfl) (by kernel_rfl) (fun _ _ _ h => h) (Or.inl ⟨by rfl, ?_⟩) (by assumption) ?_
          · intro wq hSq; go_simp
          try simp only [Act.put, List.setIfInBounds_toArray, List.set_cons_zero, List.set_cons_succ]
          refine last.wpAnyL_take (i := 8) (v := (.pointer (some ⟨gh, j * 3 + 1, none⟩))) rfl rfl (by kernel_rfl) (by kernel_rfl) (by kernel_rfl) (by kernel_rfl) (fun _ _ _ h => h) (Or.inl ⟨by rfl, ?_⟩) (by assumption) ?_
          · intro wq hSq; go_simp
          try simp only [Act.put, List.setIfInBounds_toArray, List.set_cons_zero, List.set_cons_succ]
          refine last.wpAnyL_take (i := 9) (v := (.int .i64 s.2.2.2.2[j].2.1)) rfl rfl (by kernel_rfl) (by kernel_rfl) (by kernel_rfl) (by kernel_rfl) (fun _ _ _ h => h) (Or.inl ⟨by rfl, ?_⟩) (by assumption) ?_
          · intro wq hSq; have q := (hSq.2.at j hjl).2.1; go_simp
          try simp only [Act.put, List.setIfInBounds_toArray, List.set_cons_zero, List.set_cons_succ]
          refine last.wpAnyL_last (o := { dst := some 7, op := Op.assign (Operand.tmp 51), type := 3, pos := "l09_shard.go:197", after := #[{ on := 9, ground := Ground.data }, { on := 6, ground := Ground.chain }, { on := 0, ground := Ground.phase }, { on := 1, ground := Ground.phase }, { on := 2, ground := Ground.phase }, { on := 3, ground := Ground.phase }, { on := 4, ground := Ground.phase }, { on := 5, ground := Ground.phase }, { on := 6, ground := Ground.phase }, { on := 7, ground := Ground.phase }, { on := 8, ground := Ground.phase }, { on := 9, ground := Ground.phase }], guard := none }) (by kernel_rfl) rfl (by kernel_rfl) (fun K hK => ?_)
          go_simp
          refine hK.out _ _ ?_
          clear hK K
          have htjw : (Lit.int .i64 s.2.2.2.2[j].2.1).wf = true := (hOH6.sm _ (List.getElem_mem hjl)).2.1
          clear hHeld0 hOH6 hOH hOL HBL hg6' hg6 hc6 k4 hd5
          generalize s.2.2.2.2[j].2.1 = txj at *
          go_wp2_with fail
          refine (d_once w0 _ gc a len cap code 4 hD6.cur (by omega) (by omega)).mono ?_
          rintro e w8 ⟨b8, rfl, hc8, hg8⟩
          have hD8 := hD6.step hc8 hg8
          have HDE := Hid.mk' (fun yes => spec_l9Decide X TSh [] [] la ln lc ma mn mc (some ⟨gh, 0, none⟩) hn hc s F txj yes w8 hD8.ins htjw hD8.dr.right)
          clear hc8 hg8 hD5 hD6
          go_wp2_with fail
          refine (HDE.out _).mono ?_
          rintro e w9 ⟨rfl, hwp⟩
          obtain ⟨la2, ln2, lc2, ma2, mn2, mc2, ha2, hn2, hc2, F2, hD9⟩ := hD8.wrote hwp (hD8.dr.decide _ htj)
          clear HDE hwp hD8
          go_wp2_with fail
          go_roundw
          case rel => exact ⟨k - 1, _, _, _, _, _, _, _, _, _, _, _, by omega, by go_num, hD9⟩
          case measure => simp [intOf]; omega
        · have hnzi : ¬ (0 : Int) < (hn : Int) := by omega
          go_wp2_with fail
          refine (d_once w0 _ gc a len cap code 4 hD5.cur (by omega) (by omega)).mono ?_
          rintro e w8 ⟨b8, rfl, hc8, hg8⟩
          have hD8 := hD5.step hc8 hg8
          have HDE := Hid.mk' (fun yes => spec_l9Decide X TSh [] [] la ln lc ma mn mc ha hn hc s F (1 + (tx : Int)) yes w8 hD8.ins htxw hD8.dr.right)
          clear hc8 hg8 hD5
          go_wp2_with fail
          refine (HDE.out _).mono ?_
          rintro e w9 ⟨rfl, hwp⟩
          obtain ⟨la2, ln2, lc2, ma2, mn2, mc2, ha2, hn2, hc2, F2, hD9⟩ := hD8.wrote hwp (hD8.dr.decide _ htx6)
          clear HDE hwp hD8
          go_wp2_with fail
          go_roundw
          case rel => exact ⟨k - 1, _, _, _, _, _, _, _, _, _, _, _, by omega, by go_num, hD9⟩
          case measure => simp [intOf]; omega
      · have k1 := hD5.ins.box.cell 1 _ rfl
        have k2 := hD5.ins.box.cell 2 _ rfl
        have f2 := hD5.ins.box.fz 2
        simp only [List.length_nil, Nat.zero_add] at k1 k2
        have hD9 := hD5.sure
        go_wp2_with fail
        go_roundw
        case rel => exact ⟨k - 1, _, _, _, _, _, _, _, _, _, _, _, by omega, by go_num, hD9⟩
        case measure => simp [intOf]; omega
      · go_wp2_with fail
        refine (below_ w0 _ gc a len cap code 3 hD5.cur (by omega) (by omega)).mono ?_
        rintro e w6 ⟨kp, hkp, rfl, hc6, hg6⟩
        have hD6 := hD5.step hc6 hg6
        have HCR := Hid.mk' (spec_l9Crash X TSh [] [] la ln lc ma mn mc ha hn hc s F (kp : Int) w6 hD6.ins hD6.dr.right hD6.dr.right.few)
        clear hD5 hc6 hg6
        go_wp2_with fail
        refine HCR.out.mono ?_
        rintro e w7 ⟨rfl, hwp⟩
        obtain ⟨la2, ln2, lc2, ma2, mn2, mc2, ha2, hn2, hc2, F2, hD9⟩ := hD6.wrote hwp (hD6.dr.crash _)
        clear HCR hwp hD6
        go_wp2_with fail
        go_roundw
        case rel => exact ⟨k - 1, _, _, _, _, _, _, _, _, _, _, _, by omega, by go_num, hD9⟩
        case measure => simp [intOf]; omega
    · have hk0 : k = 0 := by omega
      subst hk0
      have b := hD.ins.box
      have q0 := b.cell 0 _ rfl
      have q1 := b.cell 1 _ rfl
      have q2 := b.cell 2 _ rfl
      have q3 := b.cell 3 _ rfl
      have q4 := b.cell 4 _ rfl
      have hR13 := hD.rb
      have z0 := hR13.cell 0 _ rfl
      have z1 := hR13.cell 1 _ rfl
      have z2 := hR13.cell 2 _ rfl
      have z3 := hR13.cell 3 _ rfl
      have z4 := hR13.cell 4 _ rfl
      simp only [List.length_nil, Nat.zero_add] at q0 q1 q2 q3 q4 z0 z1 z2 z3 z4
      have f0 := hR13.fz 0
      have f1 := hR13.fz 1
      have f2 := hR13.fz 2
      have f3 := hR13.fz 3
      have f4 := hR13.fz 4
      have hS5 := hR13.set5 (.int .i64 s.1) (.slice la ln lc) (.int .i64 s.2.2.1) (.slice ma mn mc) (.slice ha hn hc)
      simp only [List.length_nil, Nat.zero_add] at hS5
      obtain ⟨g1, g2, g3⟩ := hD.gX
      have hOz := hD.ins.own.keep (fun j hj => hS5.2.block j (hD.ins.own.lt j hj) (fun e => hD.rF (by rw [← Option.some.inj e]; exact hj)))
      have hcz := hD.cur.grown hS5.2 (fun e => g3 (Option.some.inj e)) (fun k e => by cases e; exact hge)
      have hGz : w.grownBy _ (some gc) := ⟨hS5.2.os.trans hD.fr.os, hS5.2.tape.trans hD.fr.tape, hS5.2.output.trans hD.fr.output, Nat.le_trans hD.fr.size hS5.2.size, fun k hk hne => (hS5.2.block k (Nat.lt_of_lt_of_le hk hD.fr.size) (fun e => by have := Option.some.inj e; omega)).trans (hD.fr.block k hk hne)⟩
      have hzc0 := hS5.1.cell 0 _ rfl
      have hzc1 := hS5.1.cell 1 _ rfl
      have hzc2 := hS5.1.cell 2 _ rfl
      have hzc3 := hS5.1.cell 3 _ rfl
      have hzc4 := hS5.1.cell 4 _ rfl
      simp only [List.length_nil, Nat.zero_add] at hzc0 hzc1 hzc2 hzc3 hzc4
      have HP : Hid (GotSh w0 w gc a len cap code (.returned (aggSh s.1 s.2.2.1 la ln lc ma mn mc ha hn hc)) _) := ⟨la, ln, lc, ma, mn, mc, ha, hn, hc, s, F, hD.dr, rfl, hOz, fun k hk => hD.new k (List.mem_cons_of_mem _ hk), hcz, hGz⟩
      clear hOz hcz hGz hS5 hD b
      go_wp2_with fail
      refine bodyPost_ret (v := aggSh s.1 s.2.2.1 la ln lc ma mn mc ha hn hc) ?_ rfl HP.out
      simp [results, Tryz.results66, go_sem, hzc0, hzc1, hzc2, hzc3, hzc4]
end Go.Proofs.YteniflajiklffaaGreatDoor.recs

namespace Go.Proofs.YteniflajiklffaaGreatDoor.recs
open Go Go.RowKit Go.Proofs.YteniflajiklffaaGreatDoor.base Go.Proofs.YteniflajiklffaaGreatDoor.pairs Go.Proofs.YteniflajiklffaaGreatDoor.ords Go.Proofs.YteniflajiklffaaGreatDoor.helps Go.Proofs.YteniflajiklffaaGreatDoor.help Go.Proofs.YteniflajiklffaaGreatDoor.lay
set_option linter.unusedVariables false
set_option linter.unusedSimpArgs false

def cntS (s : Shd) : Nat := cntR s.2.1 + 2 * s.2.2.2.1.length + cntR s.2.2.2.2
section
variable {w w' : World} {la ma ha : Option Addr} {ln lc mn mc hn hc : Nat} {s : Shd} {F : List Nat}
theorem SeeSh.lens (h : SeeSh w la ln lc ma mn mc ha hn hc s) : s.2.1.length = ln ∧ s.2.2.2.1.length = mn ∧ s.2.2.2.2.length = hn := ⟨h.log.1, h.map.1, h.held.1⟩
end
end Go.Proofs.YteniflajiklffaaGreatDoor.recs

namespace Go.Proofs.YteniflajiklffaaGreatDoor.recs
open Go Go.RowKit Go.Proofs.YteniflajiklffaaGreatDoor.base Go.Proofs.YteniflajiklffaaGreatDoor.pairs Go.Proofs.YteniflajiklffaaGreatDoor.ords Go.Proofs.YteniflajiklffaaGreatDoor.helps Go.Proofs.YteniflajiklffaaGreatDoor.help Go.Proofs.YteniflajiklffaaGreatDoor.lay
set_option linter.unusedVariables false
set_option linter.unusedSimpArgs false

end Go.Proofs.YteniflajiklffaaGreatDoor.recs
