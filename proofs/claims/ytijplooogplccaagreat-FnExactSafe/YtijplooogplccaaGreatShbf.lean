/- ImB OrdW OrdN AddG WdP OrdY WdV WdG WdI WoOi -/
import Derived.Test.YtijplooogplccaaGreatShbc
import Derived.Test.YtijplooogplccaaGreatShav
import Derived.Test.YtijplooogplccaaGreatShae
import Derived.Test.YtijplooogplccaaGreatShal
import Derived.Test.YtijplooogplccaaGreatShaa
import Derived.Deep.AppendLies
import Derived.Test.YtijplooogplccaaGreatShbd
import Derived.Test.YtijplooogplccaaGreatShab
import Derived.Handy
import Derived.BigQuiet
import Derived.Test.YtijplooogplccaaGreatShbe
set_option linter.unusedVariables false
set_option linter.unusedSimpArgs false
namespace Go.Proofs.YtijplooogplccaaGreat
namespace recs
open Go Go.RowKit base pairs ords helps help lay
def MadePost (w : World) (id sure : Int) (la : Option Addr) (ln lc : Nat) (t : Option St) (e : Ending) (w' : World) : Prop :=
 ∃ (g np cp g2 c2 : Nat) (hs : List Value), e = .returned (.tuple #[aggSh id sure la ln lc (some ⟨g, 0, none⟩) np cp (some ⟨g2, 0, none⟩) (resH t).length c2, .bool t.isSome]) ∧
  OwnP w' w.heap.size g np cp (resM t) ∧ OwnR w' w.heap.size (.slice (some ⟨g2, 0, none⟩) (resH t).length c2) (resH t) hs ∧ ¬ BlkR (.slice (some ⟨g2, 0, none⟩) (resH t).length c2) hs g ∧ Below w.heap.size w w'
set_option maxRecDepth 100000 in
set_option maxHeartbeats 1000000 in
theorem i_shardOf (id sure : Int) (la : Option Addr) (ln lc : Nat) (log : List Rc) (w : World) (h : SlR w la ln log) (hpl : PlainR w la ln) (hf : Few log) (hl : ln ≤ 1099511627776 / 16) :
 Calls Tryz.prog 95 #[.int .i64 id, .slice la ln lc, .int .i64 sure] w fun e w' => MadePost w id sure la ln lc (replay log) e w' := by
 obtain ⟨W, hW⟩ : ∃ W, w.alloc (boxSh 0 0 none 0 0 none 0 0 none 0 0) = W := ⟨_, rfl⟩
 have hB : Below w.heap.size w W := by rw [← hW]; exact (Below.refl _ _).alloc (Nat.le_refl _) _
 have hbx : BoxIn w.heap.size 55 [] (shVals 0 0 none 0 0 none 0 0 none 0 0) [] W := by rw [← hW]; exact boxIn_new w _ _
 have hplW : PlainR W la ln := fun b off e i hi pa pl pc hc => by
  rcases Nat.eq_zero_or_pos ln with e0 | e0
  · omega
  · obtain ⟨b', off', e2, hcl⟩ := h.2.2.2 e0
    rw [e] at e2
    simp only [Option.some.injEq, Addr.mk.injEq, and_true] at e2
    obtain ⟨rfl, rfl⟩ := e2
    have hlt : b < w.heap.size := World.block_lt_of_cell? w _ (hcl i (by have := h.1; omega)).1
    exact hpl b off e i hi pa pl pc ((hB.cell (p := ⟨b, off + i * 3 + 2, none⟩) hlt).symm.trans hc)
 have HRP := Hid.mk' (impl_replay la ln lc log W (h.below hB) hplW hl hf)
 have HW := Hid.mk' hW
 have hXl := hbx.lt
 clear hW
 generalize replay log = t at *
 go_enter Tryz.func95, Tryz.ntmps95
 go_wp2_with fail
 rw [HW.out]
 refine HRP.out.mono ?_
 rintro e w2 ⟨g, np, cp, g2, c2, hs, rfl, hO, hOR, hnb, hb2⟩
 have hR := hbx.below hb2
 have hg := hO.lt
 have z0 := hR.cell 0 _ rfl
 have z1 := hR.cell 1 _ rfl
 have z2 := hR.cell 2 _ rfl
 have z3 := hR.cell 3 _ rfl
 have z4 := hR.cell 4 _ rfl
 simp only [List.length_nil, Nat.zero_add] at z0 z1 z2 z3 z4
 have f0 := hR.fz 0
 have f1 := hR.fz 1
 have f2 := hR.fz 2
 have f3 := hR.fz 3
 have f4 := hR.fz 4
 have hS5 := hR.set5 (.int .i64 id) (.slice la ln lc) (.int .i64 sure) (.slice (some ⟨g, 0, none⟩) np cp) (.slice (some ⟨g2, 0, none⟩) (resH t).length c2)
 simp only [List.length_nil, Nat.zero_add] at hS5
 have hB2 := hB.trans (hb2.mono hB.size)
 have hBz := hB2.grown hS5.2 hB2.size (fun j e => by cases e; exact Nat.le_refl _)
 have hOz := (hO.mono (base' := w.heap.size) hB.size).grown hS5.2 (fun e => by have := Option.some.inj e; omega)
 have hORz := (hOR.mono (base' := w.heap.size) hB.size).grown hS5.2 (fun e => by have := (hOR.lt _ e).1; omega)
 have hzc0 := hS5.1.cell 0 _ rfl
 have hzc1 := hS5.1.cell 1 _ rfl
 have hzc2 := hS5.1.cell 2 _ rfl
 have hzc3 := hS5.1.cell 3 _ rfl
 have hzc4 := hS5.1.cell 4 _ rfl
 simp only [List.length_nil, Nat.zero_add] at hzc0 hzc1 hzc2 hzc3 hzc4
 have HP : Hid (MadePost w id sure la ln lc t (.returned (.tuple #[aggSh id sure la ln lc (some ⟨g, 0, none⟩) np cp (some ⟨g2, 0, none⟩) (resH t).length c2, .bool t.isSome])) _) := ⟨g, np, cp, g2, c2, hs, rfl, hOz, hORz, hnb, hBz⟩
 clear hOz hORz hBz hS5 hO hOR HRP HW
 go_wp2_with fail
 refine bodyPost_ret (v := .tuple #[aggSh id sure la ln lc (some ⟨g, 0, none⟩) np cp (some ⟨g2, 0, none⟩) (resH t).length c2, .bool t.isSome]) ?_ rfl HP.out
 simp [results, Tryz.results95, go_sem, hzc0, hzc1, hzc2, hzc3, hzc4]
theorem plain_below {w w' : World} {a : Option Addr} {n : Nat} {l : List Rc} (h : SlR w a n l) (hp : PlainR w a n) (hB : Below w.heap.size w w') : PlainR w' a n := fun b off e i hi pa pl pc hc => by
 rcases Nat.eq_zero_or_pos n with e0 | e0
 · omega
 · obtain ⟨b', off', e2, hcl⟩ := h.2.2.2 e0
   rw [e] at e2
   simp only [Option.some.injEq, Addr.mk.injEq, and_true] at e2
   obtain ⟨rfl, rfl⟩ := e2
   have hlt : b < w.heap.size := World.block_lt_of_cell? w _ (hcl i (by have := h.1; omega)).1
   exact hp b off e i hi pa pl pc ((hB.cell (p := ⟨b, off + i * 3 + 2, none⟩) hlt).symm.trans hc)
theorem shardOk_few {s : Shd} (h : 300 < s.2.1.length + s.2.2.2.2.length) : shardOk s = false := by
 cases hk : shardOk s with
 | false => rfl
 | true => have := ((shardOk_iff s).1 hk).room; omega
theorem shardOk_all {s : Shd} (h1 : 0 ≤ s.1 ∧ s.1 ≤ 7) (h2 : s.2.1.length + s.2.2.2.2.length ≤ 300) (h3 : 0 ≤ s.2.2.1 ∧ s.2.2.1 ≤ (s.2.1.length : Int)) :
 shardOk s = ((replay s.2.1).isSome && decide (s.2.2.2.1 = resM (replay s.2.1)) && decide (s.2.2.2.2 = resH (replay s.2.1))) := by
 rw [shardOk_yes h1 (by omega) h3, Bool.eq_iff_iff]
 simp only [Bool.and_eq_true, decide_eq_true_iff]
 constructor
 · rintro ⟨⟨⟨a, b⟩, c⟩, d⟩
   exact ⟨⟨a, b.symm⟩, c.symm⟩
 · rintro ⟨⟨a, b⟩, c⟩
   exact ⟨⟨⟨a, b.symm⟩, c.symm⟩, by rw [← c]; exact h2⟩
set_option maxRecDepth 100000 in
set_option maxHeartbeats 2000000 in
theorem impl_shardOk (la : Option Addr) (ln lc : Nat) (ma : Option Addr) (mn mc : Nat) (ha : Option Addr) (hn hc : Nat) (s : Shd) (w : World) (h : SeeSh w la ln lc ma mn mc ha hn hc s) (hpl : PlainR w la ln) (hf : Few s.2.1) (hl1 : ln ≤ 1099511627776) (hl3 : hn ≤ 1099511627776) :
 Calls Tryz.prog 59 #[aggSh s.1 s.2.2.1 la ln lc ma mn mc ha hn hc] w fun e w' => e = .returned (.bool (shardOk s)) ∧ Below w.heap.size w w' := by
 have hll := h.log.1
 have hhl := h.held.1
 obtain ⟨W, hW⟩ : ∃ W, w.alloc (boxSh s.1 s.2.2.1 la ln lc ma mn mc ha hn hc) = W := ⟨_, rfl⟩
 have hB : Below w.heap.size w W := by rw [← hW]; exact (Below.refl _ _).alloc (Nat.le_refl _) _
 have hbx : BoxIn w.heap.size 55 [] (shVals s.1 s.2.2.1 la ln lc ma mn mc ha hn hc) [] W := by rw [← hW]; exact boxIn_new w _ _
 have HI1 := Hid.mk' (fun wx => i_idOk s.1 wx)
 have HW := Hid.mk' hW
 have c0 := hbx.cell 0 _ rfl
 have c1 := hbx.cell 1 _ rfl
 have c2 := hbx.cell 2 _ rfl
 have c4 := hbx.cell 4 _ rfl
 simp only [List.length_nil, Nat.zero_add] at c0 c1 c2 c4
 rw [← hW] at c0 c1 c2 c4
 have hXl := hbx.lt
 generalize hR : shardOk s = R
 by_cases h1 : 0 ≤ s.1 ∧ s.1 ≤ 7
 · rw [decide_eq_true h1] at HI1
   by_cases h2 : s.2.2.1 < 0
   · have HR2 : Hid (R = false) := by show _ = _; rw [← hR]; exact shardOk_no3 (by omega)
     clear hR hW h h1 hll hhl
     go_enter Tryz.func59, Tryz.ntmps59
     go_wp2_with fail
     refine (HI1.out _).mono ?_
     rintro e w1 ⟨rfl, rfl⟩
     go_wp2_with fail
     go_ret
     rw [HR2.out, HW.out]
     exact ⟨rfl, hB⟩
   · by_cases h3 : (ln : Int) < s.2.2.1
     · have HR2 : Hid (R = false) := by show _ = _; rw [← hR]; exact shardOk_no3 (by omega)
       clear hR hW h h1 hll hhl
       go_enter Tryz.func59, Tryz.ntmps59
       go_wp2_with fail
       refine (HI1.out _).mono ?_
       rintro e w1 ⟨rfl, rfl⟩
       go_wp2_with fail
       go_ret
       rw [HR2.out, HW.out]
       exact ⟨rfl, hB⟩
     · by_cases h4 : 300 < ln + hn
       · have HR2 : Hid (R = false) := by show _ = _; rw [← hR]; exact shardOk_few (by omega)
         have h4i : (300 : Int) < (ln : Int) + (hn : Int) := by omega
         clear hR hW h h1 hll hhl h4
         go_enter Tryz.func59, Tryz.ntmps59
         go_wp2_with fail
         refine (HI1.out _).mono ?_
         rintro e w1 ⟨rfl, rfl⟩
         go_wp2_with fail
         go_ret
         rw [HR2.out, HW.out]
         exact ⟨rfl, hB⟩
       · have h4i : ¬ (300 : Int) < (ln : Int) + (hn : Int) := by omega
         have HRR := Hid.mk' (shardOk_all (s := s) h1 (by omega) (by omega))
         have HMK := Hid.mk' (i_shardOf s.1 s.2.2.1 la ln lc s.2.1 W (h.log.below hB) (plain_below h.log hpl hB) hf (by omega))
         have hS := h
         generalize hT : replay s.2.1 = t at *
         have HR : Hid (R = (t.isSome && decide (s.2.2.2.1 = resM t) && decide (s.2.2.2.2 = resH t))) := by show _ = _; rw [← hR]; exact HRR.out
         clear hR HRR hW h h1 hll hhl h4 hT
         go_enter Tryz.func59, Tryz.ntmps59
         go_wp2_with fail
         refine (HI1.out _).mono ?_
         rintro e w1 ⟨rfl, rfl⟩
         go_wp2_with fail
         rw [HW.out]
         refine HMK.out.mono ?_
         rintro e w2 ⟨g, np, cp, g2, c2', hs, rfl, hO, hOR, _, hb2⟩
         obtain ⟨W3, hW3⟩ : ∃ W3, w2.alloc (boxSh s.1 s.2.2.1 la ln lc (some ⟨g, 0, none⟩) np cp (some ⟨g2, 0, none⟩) (resH t).length c2') = W3 := ⟨_, rfl⟩
         have hb3 : Below w2.heap.size w2 W3 := by rw [← hW3]; exact (Below.refl _ _).alloc (Nat.le_refl _) _
         have hbx3 := (hbx.below hb2).below hb3
         have hby3 : BoxIn w2.heap.size 55 [] (shVals s.1 s.2.2.1 la ln lc (some ⟨g, 0, none⟩) np cp (some ⟨g2, 0, none⟩) (resH t).length c2') [] W3 := by rw [← hW3]; exact boxIn_new w2 _ _
         have hB2 := hB.trans (hb2.mono hB.size)
         have hB3 := hB2.trans (hb3.mono hB2.size)
         have d3 := hbx3.cell 3 _ rfl
         have d4 := hbx3.cell 4 _ rfl
         have e3 := hby3.cell 3 _ rfl
         have e4 := hby3.cell 4 _ rfl
         simp only [List.length_nil, Nat.zero_add] at d3 d4 e3 e4
         rw [← hW3] at d3 d4 e3 e4
         have HW3 := Hid.mk' hW3
         have HSP := Hid.mk' (eq_pairs ma (some ⟨g, 0, none⟩) mn mc np cp s.2.2.2.1 (resM t) W3 (hS.map.below hB3) (hO.below hb3).sl)
         have HSR := Hid.mk' (fun wx (hx : Below W3.heap.size W3 wx) => eq_recs ha (some ⟨g2, 0, none⟩) hn hc _ c2' s.2.2.2.2 (resH t) wx ((hS.held.below hB3).below hx) ((hOR.below hb3).sl.below hx))
         clear HMK HI1 HW c0 c1 c2 c4 hO hOR hW3
         cases hts : t.isSome with
         | false =>
          have HR2 : Hid (R = false) := by show _ = _; rw [HR.out, hts]; rfl
          clear HR HSP HSR
          go_wp2_with fail
          go_ret
          rw [HR2.out, HW3.out]
          exact ⟨rfl, hB3⟩
         | true =>
          have hbd : ∀ n, Below W3.heap.size W3 (W3.drewN n) := fun n => below_drewN (Below.refl _ _) n
          by_cases q1 : s.2.2.2.1 = resM t
          · rw [decide_eq_true q1] at HSP
            have HR2 : Hid (R = decide (s.2.2.2.2 = resH t)) := by show _ = _; rw [HR.out, hts, decide_eq_true q1]; rfl
            clear HR q1
            go_wp2_with fail
            rw [HW3.out]
            refine HSP.out.mono ?_
            rintro e w4 ⟨rfl, n4, rfl⟩
            have k4 := (hbx3.below (hbd n4)).cell 4 _ rfl
            have m4 := (hby3.below (hbd n4)).cell 4 _ rfl
            simp only [List.length_nil, Nat.zero_add] at k4 m4
            go_wp2_with fail
            refine (HSR.out _ (hbd n4)).mono ?_
            rintro e w5 ⟨rfl, hb5⟩
            have hB5 := hB3.trans ((hbd n4).mono hB3.size) |>.trans (hb5.mono (Nat.le_trans hB3.size (hbd n4).size))
            clear HSP HSR d3 d4 e3 e4 k4 m4
            go_wp2_with fail
            go_ret
            rw [HR2.out]
            exact ⟨rfl, hB5⟩
          · rw [decide_eq_false q1] at HSP
            have HR2 : Hid (R = false) := by show _ = _; rw [HR.out, decide_eq_false q1]; simp
            clear HR q1
            go_wp2_with fail
            rw [HW3.out]
            refine HSP.out.mono ?_
            rintro e w4 ⟨rfl, n4, rfl⟩
            have hB5 := hB3.trans ((hbd n4).mono hB3.size)
            clear HSP HSR d3 d4 e3 e4
            go_wp2_with fail
            go_ret
            rw [HR2.out]
            exact ⟨rfl, hB5⟩
 · rw [decide_eq_false h1] at HI1
   have HR2 : Hid (R = false) := by show _ = _; rw [← hR]; exact shardOk_no1 h1
   clear hR hW h h1 hll hhl
   go_enter Tryz.func59, Tryz.ntmps59
   go_wp2_with fail
   refine (HI1.out _).mono ?_
   rintro e w1 ⟨rfl, rfl⟩
   go_wp2_with fail
   go_ret
   rw [HR2.out, HW.out]
   exact ⟨rfl, hB⟩
end recs
namespace ords
open Go Go.RowKit base pairs putnum puttext getnum gettext
end ords
namespace ords
open Go Go.RowKit base pairs putnum puttext getnum gettext
end ords
namespace putnum
open Go Go.RowKit base
end putnum
namespace wds
open Go Go.RowKit base pairs ords putnum puttext getnum gettext
abbrev HW (X : Nat) (k s t : Int) (v : Value) (y : Bool) (w : World) : Prop := BoxW X k s t v y w ∧ w.cell? ⟨X, 0, none⟩ = some (.int .i64 k) ∧ w.cell? ⟨X, 1, none⟩ = some (.int .i64 s) ∧ w.cell? ⟨X, 2, none⟩ = some (.int .i64 t) ∧ w.cell? ⟨X, 3, none⟩ = some v ∧ w.cell? ⟨X, 4, none⟩ = some (.bool y)
theorem BoxW.hw {X : Nat} {k s t : Int} {v : Value} {y : Bool} {w : World} (h : BoxW X k s t v y w) : BoxW X k s t v y w ∧ w.cell? ⟨X, 0, none⟩ = some (.int .i64 k) ∧ w.cell? ⟨X, 1, none⟩ = some (.int .i64 s) ∧ w.cell? ⟨X, 2, none⟩ = some (.int .i64 t) ∧ w.cell? ⟨X, 3, none⟩ = some v ∧ w.cell? ⟨X, 4, none⟩ = some (.bool y) := ⟨h, h.cells⟩
theorem keepW {X : Nat} {k s t : Int} {v : Value} {y : Bool} {w w' : World} (hb : Below w.heap.size w w') (h : BoxW X k s t v y w ∧ w.cell? ⟨X, 0, none⟩ = some (.int .i64 k) ∧ w.cell? ⟨X, 1, none⟩ = some (.int .i64 s) ∧ w.cell? ⟨X, 2, none⟩ = some (.int .i64 t) ∧ w.cell? ⟨X, 3, none⟩ = some v ∧ w.cell? ⟨X, 4, none⟩ = some (.bool y)) :
 BoxW X k s t v y w' ∧ w'.cell? ⟨X, 0, none⟩ = some (.int .i64 k) ∧ w'.cell? ⟨X, 1, none⟩ = some (.int .i64 s) ∧ w'.cell? ⟨X, 2, none⟩ = some (.int .i64 t) ∧ w'.cell? ⟨X, 3, none⟩ = some v ∧ w'.cell? ⟨X, 4, none⟩ = some (.bool y) := (h.1.below hb).hw
end wds
namespace ords
open Go Go.RowKit base pairs putnum puttext getnum gettext gettexts
end ords
namespace wds
open Go Go.RowKit base pairs ords putnum puttext getnum gettext gettexts
theorem BoxW.fz {X : Nat} {k s t : Int} {v : Value} {y : Bool} {w : World} (h : BoxW X k s t v y w) (j : Nat) : w.frozen? ⟨X, j, none⟩ = false := by unfold BoxW at h; simp [World.frozen?, h]
end wds
namespace wds
open Go Go.RowKit base pairs ords putnum puttext getnum gettext gettexts
end wds
namespace wds
open Go Go.RowKit base pairs ords putnum puttext getnum gettext gettexts
def saidV (k s t : Int) (a : Option Addr) (len cap : Nat) (y : Bool) : Value := if k = 1 then .iface 205 (.agg #[.int .i64 s, .int .i64 t, .slice a len cap]) else if k = 2 then .iface 207 (.agg #[.int .i64 s, .int .i64 t, .bool y]) else if k = 3 then .iface 208 (.agg #[.int .i64 s, .int .i64 t, .bool y]) else if k = 4 then .iface 210 (.agg #[.int .i64 s, .int .i64 t]) else .nilIface
def fits (k : Int) (l : List Od) (y : Bool) : Bool := if k = 1 then !y else if k = 2 ∨ k = 3 then l.isEmpty else if k = 4 then l.isEmpty && !y else false
theorem two_below (w : World) (o o2 : Obj) : Below w.heap.size w ((w.alloc o).alloc o2) := ((Below.refl _ _).alloc (Nat.le_refl _) _).alloc (by simp) _
theorem fits_ok (k : Int) (l : List Od) (y : Bool) : kindOk k l y = (fits k l y && (if k = 1 then opsOk l else true)) := by
 unfold kindOk fits
 by_cases h1 : k = 1
 · rw [if_pos h1, if_pos h1, if_pos h1, Bool.and_comm]
 · rw [if_neg h1, if_neg h1, if_neg h1, Bool.and_true]
theorem i_about (s t : Int) (w : World) :
 Calls Tryz.prog 218 #[.agg #[.int .i64 s, .int .i64 t]] w fun e w' => e = .returned (.agg #[.int .i64 s, .int .i64 t]) ∧ Below w.heap.size w w' := by
 go_enter Tryz.func218, Tryz.ntmps218
 go_wp2_with fail
 go_returns
 exact ⟨rfl, two_below _ _ _⟩
theorem i_shardIdOk (s : Int) (w : World) : Calls Tryz.prog 94 #[.int .i64 s] w fun e w' => e = .returned (.bool (decide (0 ≤ s ∧ s ≤ 7))) ∧ w' = w := by
 by_cases h1 : 0 ≤ s
 · by_cases h2 : s ≤ 7
   · have H3 : Hid (decide (0 ≤ s ∧ s ≤ 7) = true) := decide_eq_true ⟨h1, h2⟩
     go_enter Tryz.func94, Tryz.ntmps94
     go_wp2_with fail
     go_ret
     exact ⟨ret_bool (by simp; omega), rfl⟩
   · have H3 : Hid (decide (0 ≤ s ∧ s ≤ 7) = false) := decide_eq_false (fun h => h2 h.2)
     go_enter Tryz.func94, Tryz.ntmps94
     go_wp2_with fail
     go_ret
     exact ⟨ret_bool (by simp; omega), rfl⟩
 · have H3 : Hid (decide (0 ≤ s ∧ s ≤ 7) = false) := decide_eq_false (fun h => h1 h.1)
   go_enter Tryz.func94, Tryz.ntmps94
   go_wp2_with fail
   go_ret
   exact ⟨ret_bool (by simp; omega), rfl⟩
set_option maxRecDepth 100000 in
set_option maxHeartbeats 4000000 in
theorem i_saidOf (k s t : Int) (a : Option Addr) (len cap : Nat) (l : List Od) (y : Bool) (w : World) (h : SlO w a len l) :
 Calls Tryz.prog 99 #[wdV k s t (.slice a len cap) y] w fun e w' => e = .returned (.tuple #[saidV k s t a len cap y, .bool (fits k l y)]) ∧ Below w.heap.size w w' := by
 have hm := h.2.1
 have hl := h.1
 unfold maxLen at hm
 have hie : l.isEmpty = ((len : Int) == 0) := by
  rw [← hl]
  cases l with
  | nil => rfl
  | cons x l => simp [Int.natCast_add]; omega
 have HB := Hid.mk' (two_below w (.cells #[.int .i64 k, .int .i64 s, .int .i64 t, .slice a len cap, .bool y] 100) (.cells #[.int .i64 s, .int .i64 t] 203))
 have hgo : ∀ n, Below w.heap.size w ((((w.alloc (.cells #[.int .i64 k, .int .i64 s, .int .i64 t, .slice a len cap, .bool y] 100)).alloc (.cells #[.int .i64 s, .int .i64 t] 203)).drew).drewN n) := fun n => below_drewN (two_below _ _ _).drew n
 have HGO := Hid.mk' hgo
 clear h hgo
 by_cases h1 : k = 1
 · subst h1
   have HF : Hid (fits 1 l y = !y) := rfl
   have HV : Hid (saidV 1 s t a len cap y = .iface 205 (.agg #[.int .i64 s, .int .i64 t, .slice a len cap])) := rfl
   go_enter Tryz.func99, Tryz.ntmps99
   go_wp2_with fail
   go_region
   go_wp2_with fail
   go_region
   go_wp2_with fail
   go_returns
   exact ⟨by rw [HF.out, HV.out]; rfl, HB.out.drew.drew⟩
 · have hk1 : (k == 1) = false := beq_eq_false_iff_ne.2 h1
   by_cases h2 : k = 2
   · subst h2
     have HF : Hid (fits 2 l y = ((len : Int) == 0)) := hie
     have HV : Hid (saidV 2 s t a len cap y = .iface 207 (.agg #[.int .i64 s, .int .i64 t, .bool y])) := rfl
     clear hie
     go_enter Tryz.func99, Tryz.ntmps99
     go_wp2_with fail
     go_region
     go_wp2_with fail
     go_returns
     exact ⟨by rw [HF.out, HV.out]; rfl, HB.out.drew⟩
   · have hk2 : (k == 2) = false := beq_eq_false_iff_ne.2 h2
     by_cases h3 : k = 3
     · subst h3
       have HF : Hid (fits 3 l y = ((len : Int) == 0)) := hie
       have HV : Hid (saidV 3 s t a len cap y = .iface 208 (.agg #[.int .i64 s, .int .i64 t, .bool y])) := rfl
       clear hie
       go_enter Tryz.func99, Tryz.ntmps99
       go_wp2_with fail
       go_region
       go_wp2_with fail
       go_returns
       exact ⟨by rw [HF.out, HV.out]; rfl, HB.out.drew⟩
     · have hk3 : (k == 3) = false := beq_eq_false_iff_ne.2 h3
       by_cases h4 : k = 4
       · subst h4
         have HV : Hid (saidV 4 s t a len cap y = .iface 210 (.agg #[.int .i64 s, .int .i64 t])) := rfl
         by_cases h0 : len = 0
         · have hd : ((len : Int) == 0) = true := by simp; omega
           have HF : Hid (fits 4 l y = !y) := by show (l.isEmpty && !y) = !y; rw [hie, hd, Bool.true_and]
           subst h0
           clear hie hd
           go_enter Tryz.func99, Tryz.ntmps99
           go_wp2_with fail
           go_region
           go_wp2_with fail
           go_quiet (fail)
           go_wp2_with fail
           go_returns
           exact ⟨by rw [HF.out, HV.out]; rfl, HGO.out _⟩
         · have hd : ((len : Int) == 0) = false := by simp; omega
           have HF : Hid (fits 4 l y = false) := by show (l.isEmpty && !y) = false; rw [hie, hd, Bool.false_and]
           clear hie
           go_enter Tryz.func99, Tryz.ntmps99
           go_wp2_with fail
           go_region
           go_wp2_with fail
           go_quiet (fail)
           go_wp2_with fail
           go_returns
           exact ⟨by rw [HF.out, HV.out]; rfl, HGO.out _⟩
       · have hk4 : (k == 4) = false := beq_eq_false_iff_ne.2 h4
         have HF : Hid (fits k l y = false) := by show _ = _; unfold fits; rw [if_neg h1, if_neg (by omega), if_neg h4]
         have HV : Hid (saidV k s t a len cap y = .nilIface) := by show _ = _; unfold saidV; rw [if_neg h1, if_neg h2, if_neg h3, if_neg h4]
         clear hie h1 h2 h3 h4
         go_enter Tryz.func99, Tryz.ntmps99
         go_wp2_with fail
         go_region
         go_wp2_with fail
         go_returns
         exact ⟨by rw [HF.out, HV.out]; rfl, HB.out.drew⟩
theorem ta_1_1 (v : Value) (w : World) : (Instr.typeAssert (.iface 205 v) 164 205 true).run Tryz.prog w = .ok (.tuple #[v, .bool true]) w := by kernel_rfl
theorem ta_2_1 (v : Value) (w : World) : (Instr.typeAssert (.iface 207 v) 164 205 true).run Tryz.prog w = .ok (.tuple #[.agg #[.int .i64 0, .int .i64 0, .slice none 0 0], .bool false]) w := by kernel_rfl
theorem ta_3_1 (v : Value) (w : World) : (Instr.typeAssert (.iface 208 v) 164 205 true).run Tryz.prog w = .ok (.tuple #[.agg #[.int .i64 0, .int .i64 0, .slice none 0 0], .bool false]) w := by kernel_rfl
theorem ta_4_1 (v : Value) (w : World) : (Instr.typeAssert (.iface 210 v) 164 205 true).run Tryz.prog w = .ok (.tuple #[.agg #[.int .i64 0, .int .i64 0, .slice none 0 0], .bool false]) w := by kernel_rfl
theorem place_yes {s t : Int} (h : 0 ≤ s ∧ s ≤ 7) : placeOk s t = (decide (1 ≤ t) && decide (t ≤ 1000000)) := by unfold placeOk; rw [decide_eq_true h, Bool.true_and]; exact Bool.decide_and _ _
theorem place_no {s t : Int} (h : ¬ (0 ≤ s ∧ s ≤ 7)) : placeOk s t = false := by unfold placeOk; rw [decide_eq_false h]; rfl
set_option maxRecDepth 100000 in
set_option maxHeartbeats 4000000 in
theorem i_saidOk1 (s t : Int) (a : Option Addr) (len cap : Nat) (l : List Od) (w : World) (h : SlO w a len l) (hks : ∀ p ∈ l, p.2.1.size ≤ 1099511627776) :
 Calls Tryz.prog 100 #[.iface 205 (.agg #[.int .i64 s, .int .i64 t, .slice a len cap])] w fun e w' => e = .returned (.bool (placeOk s t && opsOk l)) ∧ Below w.heap.size w w' := by
 have HO : Hid (∀ wx, Below w.heap.size w wx → Calls Tryz.prog 63 #[.slice a len cap] wx fun e w' => e = .returned (.bool (opsOk l)) ∧ Below wx.heap.size wx w') := fun wx hx => impl_opsOkA a len cap l wx (h.below hx) hks
 have HA := Hid.mk' (i_about s t)
 have hta := ta_1_1
 generalize opsOk l = K at *
 have hba : Below w.heap.size w (w.alloc (.cells #[.int .i64 s, .int .i64 t, .slice a len cap] 205)) := (Below.refl _ _).alloc (Nat.le_refl _) _
 cases K
 · go_enter Tryz.func100, Tryz.ntmps100
   go_wp2_with fail
   refine (HO.out _ hba).mono ?_
   rintro e w1 ⟨rfl, hb1⟩
   go_wp2_with fail
   go_ret
   exact ⟨ret_bool (by simp), hba.trans (hb1.mono hba.size)⟩
 · rw [Bool.and_true]
   go_enter Tryz.func100, Tryz.ntmps100
   go_wp2_with fail
   refine (HO.out _ hba).mono ?_
   rintro e w1 ⟨rfl, hb1⟩
   have hB1 := hba.trans (hb1.mono hba.size)
   clear hta HO hb1
   go_wp2_with fail
   refine (HA.out _).mono ?_
   rintro e w2 ⟨rfl, hb2⟩
   have hB2 := hB1.trans (hb2.mono hB1.size)
   have hB3 : Below w.heap.size w (w2.alloc (.cells #[.int .i64 s, .int .i64 t] 203)) := hB2.alloc hB2.size _
   have HI := Hid.mk' (i_shardIdOk s (w2.alloc (.cells #[.int .i64 s, .int .i64 t] 203)))
   clear HA hb2
   by_cases hs : 0 ≤ s ∧ s ≤ 7
   · have HP := Hid.mk' (place_yes (t := t) hs)
     rw [decide_eq_true hs] at HI
     clear hs
     by_cases ht1 : 1 ≤ t
     · by_cases ht2 : t ≤ 1000000
       all_goals
        go_wp2_with fail
        refine HI.out.mono ?_
        rintro e w3 ⟨rfl, hw3⟩
        replace hw3 := hw3.symm
        subst hw3
        go_wp2_with fail
        go_ret
        exact ⟨ret_bool (by rw [HP.out]; all_goals (simp <;> omega)), hB3⟩
     · go_wp2_with fail
       refine HI.out.mono ?_
       rintro e w3 ⟨rfl, hw3⟩
       replace hw3 := hw3.symm
       subst hw3
       go_wp2_with fail
       go_ret
       exact ⟨ret_bool (by rw [HP.out]; all_goals (simp <;> omega)), hB3⟩
   · have HP := Hid.mk' (place_no (t := t) hs)
     rw [decide_eq_false hs] at HI
     clear hs
     go_wp2_with fail
     refine HI.out.mono ?_
     rintro e w3 ⟨rfl, hw3⟩
     replace hw3 := hw3.symm
     subst hw3
     go_wp2_with fail
     go_ret
     exact ⟨ret_bool (by rw [HP.out]; all_goals rfl), hB3⟩
set_option maxRecDepth 100000 in
set_option maxHeartbeats 4000000 in
theorem i_saidOk2 (s t : Int) (y : Bool) (w : World) :
 Calls Tryz.prog 100 #[.iface 207 (.agg #[.int .i64 s, .int .i64 t, .bool y])] w fun e w' => e = .returned (.bool (placeOk s t)) ∧ Below w.heap.size w w' := by
 have HA := Hid.mk' (i_about s t)
 have hta := ta_2_1
 have hB1 : Below w.heap.size w (w.alloc (.cells #[.int .i64 0, .int .i64 0, .slice none 0 0] 205)) := (Below.refl _ _).alloc (Nat.le_refl _) _
 go_enter Tryz.func100, Tryz.ntmps100
 go_wp2_with fail
 refine (HA.out _).mono ?_
 rintro e w2 ⟨rfl, hb2⟩
 have hB2 := hB1.trans (hb2.mono hB1.size)
 have hB3 : Below w.heap.size w (w2.alloc (.cells #[.int .i64 s, .int .i64 t] 203)) := hB2.alloc hB2.size _
 have HI := Hid.mk' (i_shardIdOk s (w2.alloc (.cells #[.int .i64 s, .int .i64 t] 203)))
 clear HA hb2
 by_cases hs : 0 ≤ s ∧ s ≤ 7
 · have HP := Hid.mk' (place_yes (t := t) hs)
   rw [decide_eq_true hs] at HI
   clear hs
   by_cases ht1 : 1 ≤ t
   · by_cases ht2 : t ≤ 1000000
     all_goals
      go_wp2_with fail
      refine HI.out.mono ?_
      rintro e w3 ⟨rfl, hw3⟩
      replace hw3 := hw3.symm
      subst hw3
      go_wp2_with fail
      go_ret
      exact ⟨ret_bool (by rw [HP.out]; all_goals (simp <;> omega)), hB3⟩
   · go_wp2_with fail
     refine HI.out.mono ?_
     rintro e w3 ⟨rfl, hw3⟩
     replace hw3 := hw3.symm
     subst hw3
     go_wp2_with fail
     go_ret
     exact ⟨ret_bool (by rw [HP.out]; all_goals (simp <;> omega)), hB3⟩
 · have HP := Hid.mk' (place_no (t := t) hs)
   rw [decide_eq_false hs] at HI
   clear hs
   go_wp2_with fail
   refine HI.out.mono ?_
   rintro e w3 ⟨rfl, hw3⟩
   replace hw3 := hw3.symm
   subst hw3
   go_wp2_with fail
   go_ret
   exact ⟨ret_bool (by rw [HP.out]; all_goals rfl), hB3⟩
set_option maxRecDepth 100000 in
set_option maxHeartbeats 4000000 in
theorem i_saidOk3 (s t : Int) (y : Bool) (w : World) :
 Calls Tryz.prog 100 #[.iface 208 (.agg #[.int .i64 s, .int .i64 t, .bool y])] w fun e w' => e = .returned (.bool (placeOk s t)) ∧ Below w.heap.size w w' := by
 have HA := Hid.mk' (i_about s t)
 have hta := ta_3_1
 have hB1 : Below w.heap.size w (w.alloc (.cells #[.int .i64 0, .int .i64 0, .slice none 0 0] 205)) := (Below.refl _ _).alloc (Nat.le_refl _) _
 go_enter Tryz.func100, Tryz.ntmps100
 go_wp2_with fail
 refine (HA.out _).mono ?_
 rintro e w2 ⟨rfl, hb2⟩
 have hB2 := hB1.trans (hb2.mono hB1.size)
 have hB3 : Below w.heap.size w (w2.alloc (.cells #[.int .i64 s, .int .i64 t] 203)) := hB2.alloc hB2.size _
 have HI := Hid.mk' (i_shardIdOk s (w2.alloc (.cells #[.int .i64 s, .int .i64 t] 203)))
 clear HA hb2
 by_cases hs : 0 ≤ s ∧ s ≤ 7
 · have HP := Hid.mk' (place_yes (t := t) hs)
   rw [decide_eq_true hs] at HI
   clear hs
   by_cases ht1 : 1 ≤ t
   · by_cases ht2 : t ≤ 1000000
     all_goals
      go_wp2_with fail
      refine HI.out.mono ?_
      rintro e w3 ⟨rfl, hw3⟩
      replace hw3 := hw3.symm
      subst hw3
      go_wp2_with fail
      go_ret
      exact ⟨ret_bool (by rw [HP.out]; all_goals (simp <;> omega)), hB3⟩
   · go_wp2_with fail
     refine HI.out.mono ?_
     rintro e w3 ⟨rfl, hw3⟩
     replace hw3 := hw3.symm
     subst hw3
     go_wp2_with fail
     go_ret
     exact ⟨ret_bool (by rw [HP.out]; all_goals (simp <;> omega)), hB3⟩
 · have HP := Hid.mk' (place_no (t := t) hs)
   rw [decide_eq_false hs] at HI
   clear hs
   go_wp2_with fail
   refine HI.out.mono ?_
   rintro e w3 ⟨rfl, hw3⟩
   replace hw3 := hw3.symm
   subst hw3
   go_wp2_with fail
   go_ret
   exact ⟨ret_bool (by rw [HP.out]; all_goals rfl), hB3⟩
set_option maxRecDepth 100000 in
set_option maxHeartbeats 4000000 in
theorem i_saidOk4 (s t : Int) (y : Bool) (w : World) :
 Calls Tryz.prog 100 #[.iface 210 (.agg #[.int .i64 s, .int .i64 t])] w fun e w' => e = .returned (.bool (placeOk s t)) ∧ Below w.heap.size w w' := by
 have HA := Hid.mk' (i_about s t)
 have hta := ta_4_1
 have hB1 : Below w.heap.size w (w.alloc (.cells #[.int .i64 0, .int .i64 0, .slice none 0 0] 205)) := (Below.refl _ _).alloc (Nat.le_refl _) _
 go_enter Tryz.func100, Tryz.ntmps100
 go_wp2_with fail
 refine (HA.out _).mono ?_
 rintro e w2 ⟨rfl, hb2⟩
 have hB2 := hB1.trans (hb2.mono hB1.size)
 have hB3 : Below w.heap.size w (w2.alloc (.cells #[.int .i64 s, .int .i64 t] 203)) := hB2.alloc hB2.size _
 have HI := Hid.mk' (i_shardIdOk s (w2.alloc (.cells #[.int .i64 s, .int .i64 t] 203)))
 clear HA hb2
 by_cases hs : 0 ≤ s ∧ s ≤ 7
 · have HP := Hid.mk' (place_yes (t := t) hs)
   rw [decide_eq_true hs] at HI
   clear hs
   by_cases ht1 : 1 ≤ t
   · by_cases ht2 : t ≤ 1000000
     all_goals
      go_wp2_with fail
      refine HI.out.mono ?_
      rintro e w3 ⟨rfl, hw3⟩
      replace hw3 := hw3.symm
      subst hw3
      go_wp2_with fail
      go_ret
      exact ⟨ret_bool (by rw [HP.out]; all_goals (simp <;> omega)), hB3⟩
   · go_wp2_with fail
     refine HI.out.mono ?_
     rintro e w3 ⟨rfl, hw3⟩
     replace hw3 := hw3.symm
     subst hw3
     go_wp2_with fail
     go_ret
     exact ⟨ret_bool (by rw [HP.out]; all_goals (simp <;> omega)), hB3⟩
 · have HP := Hid.mk' (place_no (t := t) hs)
   rw [decide_eq_false hs] at HI
   clear hs
   go_wp2_with fail
   refine HI.out.mono ?_
   rintro e w3 ⟨rfl, hw3⟩
   replace hw3 := hw3.symm
   subst hw3
   go_wp2_with fail
   go_ret
   exact ⟨ret_bool (by rw [HP.out]; all_goals rfl), hB3⟩
theorem i_saidOkA (k s t : Int) (a : Option Addr) (len cap : Nat) (l : List Od) (y : Bool) (w : World) (hf : fits k l y = true) (h : SlO w a len l) (hks : ∀ p ∈ l, p.2.1.size ≤ 1099511627776) :
 Calls Tryz.prog 100 #[saidV k s t a len cap y] w fun e w' => e = .returned (.bool (wordOk (k, s, t, l, y))) ∧ Below w.heap.size w w' := by
 have hw : wordOk (k, s, t, l, y) = (placeOk s t && if k = 1 then opsOk l else true) := by show (placeOk s t && kindOk k l y) = _; rw [fits_ok, hf, Bool.true_and]
 rw [hw]
 have hk : k = 1 ∨ k = 2 ∨ k = 3 ∨ k = 4 := by
  unfold fits at hf
  by_cases h1 : k = 1
  · exact .inl h1
  · by_cases h2 : k = 2 ∨ k = 3
    · rcases h2 with h2 | h2
      · exact .inr (.inl h2)
      · exact .inr (.inr (.inl h2))
    · by_cases h4 : k = 4
      · exact .inr (.inr (.inr h4))
      · rw [if_neg h1, if_neg h2, if_neg h4] at hf; cases hf
 rcases hk with rfl | rfl | rfl | rfl
 · exact i_saidOk1 s t a len cap l w h hks
 · refine (i_saidOk2 s t y w).mono ?_
   rintro e w' ⟨rfl, hb⟩
   exact ⟨by simp, hb⟩
 · refine (i_saidOk3 s t y w).mono ?_
   rintro e w' ⟨rfl, hb⟩
   exact ⟨by simp, hb⟩
 · refine (i_saidOk4 s t y w).mono ?_
   rintro e w' ⟨rfl, hb⟩
   exact ⟨by simp, hb⟩
theorem fits_no {k s t : Int} {l : List Od} {y : Bool} (hf : fits k l y = false) : wordOk (k, s, t, l, y) = false := by show (placeOk s t && kindOk k l y) = _; rw [fits_ok, hf, Bool.false_and, Bool.and_false]
set_option maxRecDepth 100000 in
set_option maxHeartbeats 4000000 in
theorem impl_wordOk (k s t : Int) (a : Option Addr) (len cap : Nat) (l : List Od) (y : Bool) (w : World) (h : SlO w a len l) (hks : ∀ p ∈ l, p.2.1.size ≤ 1099511627776) :
 Calls Tryz.prog 60 #[wdV k s t (.slice a len cap) y] w fun e w' => e = .returned (.bool (wordOk (k, s, t, l, y))) ∧ Below w.heap.size w w' := by
 obtain ⟨W, hW⟩ : ∃ W, W = w.alloc (.cells #[.int .i64 k, .int .i64 s, .int .i64 t, .slice a len cap, .bool y] 100) := ⟨_, rfl⟩
 have hba : Below w.heap.size w W := by rw [hW]; exact (Below.refl _ _).alloc (Nat.le_refl _) _
 have HS := Hid.mk' (i_saidOf k s t a len cap l y W (h.below hba))
 have HW := Hid.mk' hW.symm
 clear hW
 cases hf : fits k l y
 · have HF := Hid.mk' (fits_no (s := s) (t := t) hf)
   rw [hf] at HS
   clear hf
   generalize saidV k s t a len cap y = V at *
   go_enter Tryz.func60, Tryz.ntmps60
   go_wp2_with fail
   rw [HW.out]
   refine HS.out.mono ?_
   rintro e w1 ⟨rfl, hb1⟩
   go_wp2_with fail
   go_ret
   exact ⟨ret_bool HF.out.symm, hba.trans (hb1.mono hba.size)⟩
 · have HO : Hid (∀ wx, Below w.heap.size w wx → Calls Tryz.prog 100 #[saidV k s t a len cap y] wx fun e w' => e = .returned (.bool (wordOk (k, s, t, l, y))) ∧ Below wx.heap.size wx w') := fun wx hx => i_saidOkA k s t a len cap l y wx hf (h.below hx) hks
   rw [hf] at HS
   clear hf
   generalize saidV k s t a len cap y = V at *
   generalize wordOk (k, s, t, l, y) = R at *
   go_enter Tryz.func60, Tryz.ntmps60
   go_wp2_with fail
   rw [HW.out]
   refine HS.out.mono ?_
   rintro e w1 ⟨rfl, hb1⟩
   have hB1 := hba.trans (hb1.mono hba.size)
   go_wp2_with fail
   refine (HO.out _ hB1).mono ?_
   rintro e w2 ⟨rfl, hb2⟩
   go_wp2_with fail
   go_ret
   exact ⟨rfl, hB1.trans (hb2.mono hB1.size)⟩
end wds
namespace wos
open Go Go.RowKit base pairs ords lay
def PlainS (w : World) (a : Option Addr) (n : Nat) : Prop := ∀ b off, a = some ⟨b, off, none⟩ → ∀ i, i < n → ∀ la ln lc, w.cell? ⟨b, off + i * 5 + 1, none⟩ = some (.slice la ln lc) → recs.PlainR w la ln
set_option maxRecDepth 100000 in
set_option maxHeartbeats 4000000 in
theorem i_shardsOk (a : Option Addr) (n cap : Nat) (l : List recs.Shd) (m : Int) (w : World) (h : SlG shardR w a n l) (hp : PlainS w a n) (hf : ∀ s ∈ l, recs.Few s.2.1 ∧ s.2.1.length ≤ 1048576 ∧ s.2.2.2.2.length ≤ 1048576) :
 Calls Tryz.prog 25 #[.slice a n cap, .int .i64 m] w fun e w' => e = .returned (.bool (decide ((n : Int) = m) && shsO l)) ∧ Below w.heap.size w w' := by
 have hm := h.2.1
 unfold maxLen at hm
 have HLL := Hid.mk' h.1
 have HR : Hid ((decide ((n : Int) = m) && shsO l) = (decide ((n : Int) = m) && (List.range n).all (shA l))) := by show _ = _; unfold shsO; rw [h.1]
 have HFW := Hid.mk' hf
 generalize (decide ((n : Int) = m) && shsO l) = R at *
 clear hf
 by_cases eN : (n : Int) = m
 · have dN : ((n : Int) != m) = false := by simp [eN]
   have HR5 : Hid (R = (List.range n).all (shA l)) := by show _ = _; rw [HR.out]; simp [eN]
   clear HR eN
   go_enter Tryz.func25, Tryz.ntmps25
   go_wp2_with fail
   go_loopw [13] (fun i wr => ∃ k : Nat, k ≤ n ∧ i = .int .i64 (k : Int) ∧ Below w.heap.size w wr ∧ ∀ j, j < k → shA l j = true) (fun i _ => n - (intOf i).toNat)
   case atStart => exact ⟨0, Nat.zero_le _, rfl, Below.refl _ _, fun j hj => absurd hj (Nat.not_lt_zero _)⟩
   case round =>
    obtain ⟨k, hk, rfl, hb, hno⟩ := hrel
    have HNO := Hid.mk' hno
    clear hno
    by_cases hlt : k < n
    · have hki : (k : Int) < (n : Int) := by omega
      have hkl : k < l.length := by have := HLL.out; omega
      obtain ⟨b, off, hsa⟩ := cos.slg_some h (by omega)
      subst hsa
      obtain ⟨rla, rln, rlc, rma, rmn, rmc, rha, rhn, rhc, q0, q1, q2, q3, q4, hsee0⟩ := shard_at h k hkl
      have hpr := hp b off rfl k hlt rla rln rlc q1
      have s0 := (hb.cell (p := ⟨b, off + k * 5, none⟩) (World.block_lt_of_cell? _ _ q0)).trans q0
      have s1 := (hb.cell (p := ⟨b, off + k * 5 + 1, none⟩) (World.block_lt_of_cell? _ _ q1)).trans q1
      have s2 := (hb.cell (p := ⟨b, off + k * 5 + 2, none⟩) (World.block_lt_of_cell? _ _ q2)).trans q2
      have s3 := (hb.cell (p := ⟨b, off + k * 5 + 3, none⟩) (World.block_lt_of_cell? _ _ q3)).trans q3
      have s4 := (hb.cell (p := ⟨b, off + k * 5 + 4, none⟩) (World.block_lt_of_cell? _ _ q4)).trans q4
      have HV : Hid (shA l k = (decide (l[k].1 = (k : Int)) && recs.shardOk l[k])) := shA_at hkl
      have HP : Hid ((shA l k = false → R = false) ∧ (shA l k = true → ∀ j, j < k + 1 → shA l j = true)) := ⟨fun e => by rw [HR5.out, range_miss hlt e], upto_next HNO.out⟩
      have hfs := HFW.out _ (List.getElem_mem hkl)
      generalize shA l k = hv at *
      generalize l[k] = s at *
      obtain ⟨u1, hu1⟩ : ∃ u1, wr.alloc (.cells #[.int .i64 s.1, .slice rla rln rlc, .int .i64 s.2.2.1, .slice rma rmn rmc, .slice rha rhn rhc] 55) = u1 := ⟨_, rfl⟩
      have hbu : Below wr.heap.size wr u1 := by rw [← hu1]; exact below_make
      have hX := boxIn_new wr [.int .i64 s.1, .slice rla rln rlc, .int .i64 s.2.2.1, .slice rma rmn rmc, .slice rha rhn rhc] 55
      rw [hu1] at hX
      have hbw := hb.trans (hbu.mono hb.size)
      have HSO := Hid.mk' (recs.impl_shardOk rla rln rlc rma rmn rmc rha rhn rhc s u1 (hsee0.below hbw) (recs.plain_below hsee0.log hpr hbw) hfs.1 (by have := hsee0.log.1; omega) (by have := hsee0.held.1; omega))
      obtain ⟨x0, x1, x2, x3, x4⟩ := cells5 hX
      rw [← hu1] at x0 x1 x2 x3 x4
      have HU := Hid.mk' hu1
      generalize recs.shardOk s = r at *
      clear hsee0 hpr hu1 q0 q1 q2 q3 q4 hfs
      by_cases e : s.1 = (k : Int)
      · have d1 : (s.1 != (k : Int)) = false := by simp [e]
        cases r
        · have HF := Hid.mk' (HP.out.1 (by rw [HV.out]; simp))
          clear HP HV e
          go_wp2_with fail
          rw [HU.out]
          refine HSO.out.mono ?_
          rintro e w9 ⟨rfl, hb9⟩
          clear x0 x1 x2 x3 x4 s0 s1 s2 s3 s4 HSO HU
          go_wp2_with fail
          go_ret
          exact ⟨by rw [HF.out]; rfl, hbw.trans (hb9.mono hbw.size)⟩
        · have HF := Hid.mk' (HP.out.2 (by rw [HV.out]; simp [e]))
          clear HP HV e
          go_wp2_with fail
          rw [HU.out]
          refine HSO.out.mono ?_
          rintro e w9 ⟨rfl, hb9⟩
          clear x0 x1 x2 x3 x4 s0 s1 s2 s3 s4 HSO HU
          go_wp2_with fail
          go_roundw
          case rel => exact ⟨k + 1, by omega, by go_num, hbw.trans (hb9.mono hbw.size), HF.out⟩
          case measure => simp [intOf]; omega
      · have d1 : (s.1 != (k : Int)) = true := by simp [e]
        have HF := Hid.mk' (HP.out.1 (by rw [HV.out]; simp [e]))
        clear HP HV e HSO
        go_wp2_with fail
        go_ret
        rw [HU.out]
        exact ⟨by rw [HF.out]; rfl, hbw⟩
    · have hki : ¬ (k : Int) < (n : Int) := by omega
      have HF : Hid (R = true) := by show _ = _; rw [HR5.out, range_every (fun j hj => HNO.out j (by omega))]
      go_wp2_with fail
      go_ret
      exact ⟨by rw [HF.out]; rfl, hb⟩
 · have dN : ((n : Int) != m) = true := by simp [eN]
   have HF : Hid (R = false) := by show _ = _; rw [HR.out]; simp [eN]
   clear HR eN
   go_enter Tryz.func25, Tryz.ntmps25
   go_wp2_with fail
   go_ret
   exact ⟨by rw [HF.out]; rfl, Below.refl _ _⟩
set_option maxRecDepth 100000 in
set_option maxHeartbeats 4000000 in
theorem i_wordsOk (a : Option Addr) (n cap : Nat) (l : List wds.Wd) (m : Int) (w : World) (h : SlG cos.wordR w a n l) (hks : ∀ y ∈ l, ∀ p ∈ y.2.2.2.1, p.2.1.size ≤ 1099511627776) :
 Calls Tryz.prog 26 #[.slice a n cap, .int .i64 m] w fun e w' => e = .returned (.bool (wordsO m l)) ∧ Below w.heap.size w w' := by
 have hm := h.2.1
 unfold maxLen at hm
 have HLL := Hid.mk' h.1
 have HR : Hid (wordsO m l = (decide (n ≤ 400) && (List.range n).all (holdsAt (wordA m) l))) := by show _ = _; unfold wordsO; rw [all_at, h.1]
 have HKS := Hid.mk' hks
 generalize wordsO m l = R at *
 clear hks
 by_cases eN : n ≤ 400
 · have HR5 : Hid (R = (List.range n).all (holdsAt (wordA m) l)) := by show _ = _; rw [HR.out]; simp [eN]
   have eNi : ¬ (400 : Int) < (n : Int) := by omega
   clear HR eN
   go_enter Tryz.func26, Tryz.ntmps26
   go_wp2_with fail
   go_loopw [12] (fun i wr => ∃ k : Nat, k ≤ n ∧ i = .int .i64 (k : Int) ∧ Below w.heap.size w wr ∧ ∀ j, j < k → holdsAt (wordA m) l j = true) (fun i _ => n - (intOf i).toNat)
   case atStart => exact ⟨0, Nat.zero_le _, rfl, Below.refl _ _, fun j hj => absurd hj (Nat.not_lt_zero _)⟩
   case round =>
    obtain ⟨k, hk, rfl, hb, hno⟩ := hrel
    have HNO := Hid.mk' hno
    clear hno
    by_cases hlt : k < n
    · have hki : (k : Int) < (n : Int) := by omega
      have hkl : k < l.length := by have := HLL.out; omega
      obtain ⟨b, off, hsa⟩ := cos.slg_some h (by omega)
      subst hsa
      obtain ⟨oa', ol', oc', c0, c1, c2, c3, c4, hSo, _, _⟩ := word_at (h.below hb) k hkl
      have HV : Hid (holdsAt (wordA m) l k = (wds.wordOk l[k] && decide (l[k].2.1 < m))) := by show _ = _; rw [holdsAt_at hkl]; rfl
      have HP : Hid ((holdsAt (wordA m) l k = false → R = false) ∧ (holdsAt (wordA m) l k = true → ∀ j, j < k + 1 → holdsAt (wordA m) l j = true)) := ⟨fun e => by rw [HR5.out, range_miss hlt e], upto_next HNO.out⟩
      have HK := Hid.mk' (HKS.out _ (List.getElem_mem hkl))
      generalize holdsAt (wordA m) l k = hv at *
      generalize l[k] = y at *
      obtain ⟨mk, ms, mt, mo, my⟩ := y
      simp only [] at c0 c1 c2 c3 c4 hSo HV HK
      obtain ⟨u1, hu1⟩ : ∃ u1, wr.alloc (.cells #[.int .i64 mk, .int .i64 ms, .int .i64 mt, .slice oa' ol' oc', .bool my] 100) = u1 := ⟨_, rfl⟩
      have hbu : Below wr.heap.size wr u1 := by rw [← hu1]; exact below_make
      have hX := boxIn_new wr [.int .i64 mk, .int .i64 ms, .int .i64 mt, .slice oa' ol' oc', .bool my] 100
      rw [hu1] at hX
      have hbw := hb.trans (hbu.mono hb.size)
      have HSO := Hid.mk' (wds.impl_wordOk mk ms mt oa' ol' oc' mo my u1 (hSo.below hbu) HK.out)
      obtain ⟨x0, x1, x2, x3, x4⟩ := cells5 hX
      rw [← hu1] at x0 x1 x2 x3 x4
      have HU := Hid.mk' hu1
      generalize wds.wordOk (mk, ms, mt, mo, my) = r at *
      clear hu1 hSo HK
      by_cases e : ms < m
      · have d1 : ¬ m ≤ ms := by omega
        cases r
        · have HF := Hid.mk' (HP.out.1 (by rw [HV.out]; rfl))
          clear HP HV e
          go_wp2_with fail
          rw [HU.out]
          refine HSO.out.mono ?_
          rintro e w9 ⟨rfl, hb9⟩
          clear x0 x1 x2 x3 x4 c0 c1 c2 c3 c4 HSO HU
          go_wp2_with fail
          go_ret
          exact ⟨by rw [HF.out]; rfl, hbw.trans (hb9.mono hbw.size)⟩
        · have HF := Hid.mk' (HP.out.2 (by rw [HV.out]; simp [e]))
          clear HP HV e
          go_wp2_with fail
          rw [HU.out]
          refine HSO.out.mono ?_
          rintro e w9 ⟨rfl, hb9⟩
          clear x0 x1 x2 x3 x4 c0 c1 c2 c3 c4 HSO HU
          go_wp2_with fail
          go_roundw
          case rel => exact ⟨k + 1, by omega, by go_num, hbw.trans (hb9.mono hbw.size), HF.out⟩
          case measure => simp [intOf]; omega
      · have d1 : m ≤ ms := by omega
        have HF := Hid.mk' (HP.out.1 (by rw [HV.out]; simp [e]))
        clear HP HV e HSO
        go_wp2_with fail
        go_ret
        rw [HU.out]
        exact ⟨by rw [HF.out]; rfl, hbw⟩
    · have hki : ¬ (k : Int) < (n : Int) := by omega
      have HF : Hid (R = true) := by show _ = _; rw [HR5.out, range_every (fun j hj => HNO.out j (by omega))]
      go_wp2_with fail
      go_ret
      exact ⟨by rw [HF.out]; rfl, hb⟩
 · have HF : Hid (R = false) := by show _ = _; rw [HR.out]; simp [eN]
   have eNi : (400 : Int) < (n : Int) := by omega
   clear HR eN
   go_enter Tryz.func26, Tryz.ntmps26
   go_wp2_with fail
   go_ret
   exact ⟨by rw [HF.out]; rfl, Below.refl _ _⟩
end wos
end Go.Proofs.YtijplooogplccaaGreat
