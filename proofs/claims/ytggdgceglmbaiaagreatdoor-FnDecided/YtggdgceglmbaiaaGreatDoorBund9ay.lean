/- The program's shard: whether it is right. What the exact laws of shards share. A slice of records that came in. A shard that came in. The program's shard: copies of records. -/
import Derived.Test.YtggdgceglmbaiaaGreatDoorBund9aw
import Derived.Test.YtggdgceglmbaiaaGreatDoorBund9av
import Derived.Test.YtggdgceglmbaiaaGreatDoorBund9ax
import Derived.Deep.RegionHeld3
import Derived.Test.YtggdgceglmbaiaaGreatDoorBund9au
import Derived.Test.YtggdgceglmbaiaaGreatDoorBund9an
import Derived.Test.YtggdgceglmbaiaaGreatDoorBund9at
namespace Go.Proofs.YtggdgceglmbaiaaGreatDoor.recs
open Go Go.RowKit Go.Proofs.YtggdgceglmbaiaaGreatDoor.base Go.Proofs.YtggdgceglmbaiaaGreatDoor.pairs Go.Proofs.YtggdgceglmbaiaaGreatDoor.ords Go.Proofs.YtggdgceglmbaiaaGreatDoor.helps Go.Proofs.YtggdgceglmbaiaaGreatDoor.help Go.Proofs.YtggdgceglmbaiaaGreatDoor.lay
set_option linter.unusedVariables false
set_option linter.unusedSimpArgs false

/-- what the records of a shard make -/
def MadePost (w : World) (id sure : Int) (la : Option Addr) (ln lc : Nat) (t : Option St) (e : Ending) (w' : World) : Prop :=
  ∃ (g np cp g2 c2 : Nat) (hs : List Value), e = .returned (.tuple #[aggSh id sure la ln lc (some ⟨g, 0, none⟩) np cp (some ⟨g2, 0, none⟩) (resH t).length c2, .bool t.isSome]) ∧
    OwnP w' w.heap.size g np cp (resM t) ∧ OwnR w' w.heap.size (.slice (some ⟨g2, 0, none⟩) (resH t).length c2) (resH t) hs ∧ ¬ BlkR (.slice (some ⟨g2, 0, none⟩) (resH t).length c2) hs g ∧ Below w.heap.size w w'
set_option maxRecDepth 100000 in
set_option maxHeartbeats 1000000 in
theorem i_shardOf (id sure : Int) (la : Option Addr) (ln lc : Nat) (log : List Rc) (w : World) (h : SlR w la ln log) (hpl : PlainR w la ln) (hf : Few log) (hl : ln ≤ 1099511627776 / 16) :
    Calls Tryz.prog 28 #[.int .i64 id, .slice la ln lc, .int .i64 sure] w fun e w' => MadePost w id sure la ln lc (replay log) e w' := by
  obtain ⟨W, hW⟩ : ∃ W, w.alloc (boxSh 0 0 none 0 0 none 0 0 none 0 0) = W := ⟨_, rfl⟩
  have hB : Below w.heap.size w W := by rw [← hW]; exact (Below.refl _ _).alloc (Nat.le_refl _) _
  have hbx : BoxIn w.heap.size 27 [] (shVals 0 0 none 0 0 none 0 0 none 0 0) [] W := by rw [← hW]; exact boxIn_new w _ _
  have hplW : PlainR W la ln := fun b off e i hi pa pl pc hc => by
    rcases Nat.eq_zero_or_pos ln with e0 | e0
    · omega
    · obtain ⟨b', off', e2, hcl⟩ := h.2.2.2 e0
      rw [e] at e2
      simp only [Option.some.injEq, Addr.mk.injEq, and_true] at e2
      obtain ⟨rfl, rfl⟩ := e2
      have hlt : b < w.heap.size := World.block_lt_of_cell? w _ (hcl i (by have := h.1; omega)).1
      exact hpl b off e i hi pa pl pc ((hB.cell (p := ⟨b, off + i * 3 + 2, none⟩) hlt).symm.trans hc)
  have HRP := Hid.mk' (impl_replay la ln lc log W (h.below hB) hplW hl hf)
  have HW := Hid.mk' hW
  have hXl := hbx.lt
  clear hW
  generalize replay log = t at *
  go_enter Tryz.func28, Tryz.ntmps28
  go_wp2_with fail
  rw [HW.out]
  refine HRP.out.mono ?_
  rintro e w2 ⟨g, np, cp, g2, c2, hs, rfl, hO, hOR, hnb, hb2⟩
  have hR := hbx.below hb2
  have hg := hO.lt
  have z0 := hR.cell 0 _ rfl
  have z1 := hR.cell 1 _ rfl
  have z2 := hR.cell 2 _ rfl
  have z3 := hR.cell 3 _ rfl
  have z4 := hR.cell 4 _ rfl
  simp only [List.length_nil, Nat.zero_add] at z0 z1 z2 z3 z4
  have f0 := hR.fz 0
  have f1 := hR.fz 1
  have f2 := hR.fz 2
  have f3 := hR.fz 3
  have f4 := hR.fz 4
  have hS5 := hR.set5 (.int .i64 id) (.slice la ln lc) (.int .i64 sure) (.slice (some ⟨g, 0, none⟩) np cp) (.slice (some ⟨g2, 0, none⟩) (resH t).length c2)
  simp only [List.length_nil, Nat.zero_add] at hS5
  have hB2 := hB.trans (hb2.mono hB.size)
  have hBz := hB2.grown hS5.2 hB2.size (fun j e => by cases e; exact Nat.le_refl _)
  have hOz := (hO.mono (base' := w.heap.size) hB.size).grown hS5.2 (fun e => by have := Option.some.inj e; omega)
  have hORz := (hOR.mono (base' := w.heap.size) hB.size).grown hS5.2 (fun e => by have := (hOR.lt _ e).1; omega)
  have hzc0 := hS5.1.cell 0 _ rfl
  have hzc1 := hS5.1.cell 1 _ rfl
  have hzc2 := hS5.1.cell 2 _ rfl
  have hzc3 := hS5.1.cell 3 _ rfl
  have hzc4 := hS5.1.cell 4 _ rfl
  simp only [List.length_nil, Nat.zero_add] at hzc0 hzc1 hzc2 hzc3 hzc4
  have HP : Hid (MadePost w id sure la ln lc t (.returned (.tuple #[aggSh id sure la ln lc (some ⟨g, 0, none⟩) np cp (some ⟨g2, 0, none⟩) (resH t).length c2, .bool t.isSome])) _) := ⟨g, np, cp, g2, c2, hs, rfl, hOz, hORz, hnb, hBz⟩
  clear hOz hORz hBz hS5 hO hOR HRP HW
  go_wp2_with fail
  refine bodyPost_ret (v := .tuple #[aggSh id sure la ln lc (some ⟨g, 0, none⟩) np cp (some ⟨g2, 0, none⟩) (resH t).length c2, .bool t.isSome]) ?_ rfl HP.out
  simp [results, Tryz.results28, go_sem, hzc0, hzc1, hzc2, hzc3, hzc4]
theorem plain_below {w w' : World} {a : Option Addr} {n : Nat} {l : List Rc} (h : SlR w a n l) (hp : PlainR w a n) (hB : Below w.heap.size w w') : PlainR w' a n := fun b off e i hi pa pl pc hc => by
  rcases Nat.eq_zero_or_pos n with e0 | e0
  · omega
  · obtain ⟨b', off', e2, hcl⟩ := h.2.2.2 e0
    rw [e] at e2
    simp only [Option.some.injEq, Addr.mk.injEq, and_true] at e2
    obtain ⟨rfl, rfl⟩ := e2
    have hlt : b < w.heap.size := World.block_lt_of_cell? w _ (hcl i (by have := h.1; omega)).1
    exact hp b off e i hi pa pl pc ((hB.cell (p := ⟨b, off + i * 3 + 2, none⟩) hlt).symm.trans hc)
theorem shardOk_few {s : Shd} (h : 300 < s.2.1.length + s.2.2.2.2.length) : shardOk s = false := by
  cases hk : shardOk s with
  | false => rfl
  | true => have := ((shardOk_iff s).1 hk).room; omega
theorem shardOk_all {s : Shd} (h1 : 0 ≤ s.1 ∧ s.1 ≤ 7) (h2 : s.2.1.length + s.2.2.2.2.length ≤ 300) (h3 : 0 ≤ s.2.2.1 ∧ s.2.2.1 ≤ (s.2.1.length : Int)) :
    shardOk s = ((replay s.2.1).isSome && decide (s.2.2.2.1 = resM (replay s.2.1)) && decide (s.2.2.2.2 = resH (replay s.2.1))) := by
  rw [shardOk_yes h1 (by omega) h3, Bool.eq_iff_iff]
  simp only [Bool.and_eq_true, decide_eq_true_iff]
  constructor
  · rintro ⟨⟨⟨a, b⟩, c⟩, d⟩
    exact ⟨⟨a, b.symm⟩, c.symm⟩
  · rintro ⟨⟨a, b⟩, c⟩
    exact ⟨⟨⟨a, b.symm⟩, c.symm⟩, by rw [← c]; exact h2⟩
set_option maxRecDepth 100000 in
set_option maxHeartbeats 2000000 in
theorem impl_shardOk (la : Option Addr) (ln lc : Nat) (ma : Option Addr) (mn mc : Nat) (ha : Option Addr) (hn hc : Nat) (s : Shd) (w : World) (h : SeeSh w la ln lc ma mn mc ha hn hc s) (hpl : PlainR w la ln) (hf : Few s.2.1) (hl1 : ln ≤ 1099511627776) (hl3 : hn ≤ 1099511627776) :
    Calls Tryz.prog 9 #[aggSh s.1 s.2.2.1 la ln lc ma mn mc ha hn hc] w fun e w' => e = .returned (.bool (shardOk s)) ∧ Below w.heap.size w w' := by
  have hll := h.log.1
  have hhl := h.held.1
  obtain ⟨W, hW⟩ : ∃ W, w.alloc (boxSh s.1 s.2.2.1 la ln lc ma mn mc ha hn hc) = W := ⟨_, rfl⟩
  have hB : Below w.heap.size w W := by rw [← hW]; exact (Below.refl _ _).alloc (Nat.le_refl _) _
  have hbx : BoxIn w.heap.size 27 [] (shVals s.1 s.2.2.1 la ln lc ma mn mc ha hn hc) [] W := by rw [← hW]; exact boxIn_new w _ _
  have HI1 := Hid.mk' (fun wx => i_idOk s.1 wx)
  have HW := Hid.mk' hW
  have c0 := hbx.cell 0 _ rfl
  have c1 := hbx.cell 1 _ rfl
  have c2 := hbx.cell 2 _ rfl
  have c4 := hbx.cell 4 _ rfl
  simp only [List.length_nil, Nat.zero_add] at c0 c1 c2 c4
  rw [← hW] at c0 c1 c2 c4
  have hXl := hbx.lt
  generalize hR : shardOk s = R
  by_cases h1 : 0 ≤ s.1 ∧ s.1 ≤ 7
  · rw [decide_eq_true h1] at HI1
    by_cases h2 : s.2.2.1 < 0
    · have HR2 : Hid (R = false) := by show _ = _; rw [← hR]; exact shardOk_no3 (by omega)
      clear hR hW h h1 hll hhl
      go_enter Tryz.func9, Tryz.ntmps9
      go_wp2_with fail
      refine (HI1.out _).mono ?_
      rintro e w1 ⟨rfl, rfl⟩
      go_wp2_with fail
      go_ret
      rw [HR2.out, HW.out]
      exact ⟨rfl, hB⟩
    · by_cases h3 : (ln : Int) < s.2.2.1
      · have HR2 : Hid (R = false) := by show _ = _; rw [← hR]; exact shardOk_no3 (by omega)
        clear hR hW h h1 hll hhl
        go_enter Tryz.func9, Tryz.ntmps9
        go_wp2_with fail
        refine (HI1.out _).mono ?_
        rintro e w1 ⟨rfl, rfl⟩
        go_wp2_with fail
        go_ret
        rw [HR2.out, HW.out]
        exact ⟨rfl, hB⟩
      · by_cases h4 : 300 < ln + hn
        · have HR2 : Hid (R = false) := by show _ = _; rw [← hR]; exact shardOk_few (by omega)
          have h4i : (300 : Int) < (ln : Int) + (hn : Int) := by omega
          clear hR hW h h1 hll hhl h4
          go_enter Tryz.func9, Tryz.ntmps9
          go_wp2_with fail
          refine (HI1.out _).mono ?_
          rintro e w1 ⟨rfl, rfl⟩
          go_wp2_with fail
          go_ret
          rw [HR2.out, HW.out]
          exact ⟨rfl, hB⟩
        · have h4i : ¬ (300 : Int) < (ln : Int) + (hn : Int) := by omega
          have HRR := Hid.mk' (shardOk_all (s := s) h1 (by omega) (by omega))
          have HMK := Hid.mk' (i_shardOf s.1 s.2.2.1 la ln lc s.2.1 W (h.log.below hB) (plain_below h.log hpl hB) hf (by omega))
          have hS := h
          generalize hT : replay s.2.1 = t at *
          have HR : Hid (R = (t.isSome && decide (s.2.2.2.1 = resM t) && decide (s.2.2.2.2 = resH t))) := by show _ = _; rw [← hR]; exact HRR.out
          clear hR HRR hW h h1 hll hhl h4 hT
          go_enter Tryz.func9, Tryz.ntmps9
          go_wp2_with fail
          refine (HI1.out _).mono ?_
          rintro e w1 ⟨rfl, rfl⟩
          go_wp2_with fail
          rw [HW.out]
          refine HMK.out.mono ?_
          rintro e w2 ⟨g, np, cp, g2, c2', hs, rfl, hO, hOR, _, hb2⟩
          obtain ⟨W3, hW3⟩ : ∃ W3, w2.alloc (boxSh s.1 s.2.2.1 la ln lc (some ⟨g, 0, none⟩) np cp (some ⟨g2, 0, none⟩) (resH t).length c2') = W3 := ⟨_, rfl⟩
          have hb3 : Below w2.heap.size w2 W3 := by rw [← hW3]; exact (Below.refl _ _).alloc (Nat.le_refl _) _
          have hbx3 := (hbx.below hb2).below hb3
          have hby3 : BoxIn w2.heap.size 27 [] (shVals s.1 s.2.2.1 la ln lc (some ⟨g, 0, none⟩) np cp (some ⟨g2, 0, none⟩) (resH t).length c2') [] W3 := by rw [← hW3]; exact boxIn_new w2 _ _
          have hB2 := hB.trans (hb2.mono hB.size)
          have hB3 := hB2.trans (hb3.mono hB2.size)
          have d3 := hbx3.cell 3 _ rfl
          have d4 := hbx3.cell 4 _ rfl
          have e3 := hby3.cell 3 _ rfl
          have e4 := hby3.cell 4 _ rfl
          simp only [List.length_nil, Nat.zero_add] at d3 d4 e3 e4
          rw [← hW3] at d3 d4 e3 e4
          have HW3 := Hid.mk' hW3
          have HSP := Hid.mk' (eq_pairs ma (some ⟨g, 0, none⟩) mn mc np cp s.2.2.2.1 (resM t) W3 (hS.map.below hB3) (hO.below hb3).sl)
          have HSR := Hid.mk' (fun wx (hx : Below W3.heap.size W3 wx) => eq_recs ha (some ⟨g2, 0, none⟩) hn hc _ c2' s.2.2.2.2 (resH t) wx ((hS.held.below hB3).below hx) ((hOR.below hb3).sl.below hx))
          clear HMK HI1 HW c0 c1 c2 c4 hO hOR hW3
          cases hts : t.isSome with
          | false =>
            have HR2 : Hid (R = false) := by show _ = _; rw [HR.out, hts]; rfl
            clear HR HSP HSR
            go_wp2_with fail
            go_ret
            rw [HR2.out, HW3.out]
            exact ⟨rfl, hB3⟩
          | true =>
            have hbd : ∀ n, Below W3.heap.size W3 (W3.drewN n) := fun n => below_drewN (Below.refl _ _) n
            by_cases q1 : s.2.2.2.1 = resM t
            · rw [decide_eq_true q1] at HSP
              have HR2 : Hid (R = decide (s.2.2.2.2 = resH t)) := by show _ = _; rw [HR.out, hts, decide_eq_true q1]; rfl
              clear HR q1
              go_wp2_with fail
              rw [HW3.out]
              refine HSP.out.mono ?_
              rintro e w4 ⟨rfl, n4, rfl⟩
              have k4 := (hbx3.below (hbd n4)).cell 4 _ rfl
              have m4 := (hby3.below (hbd n4)).cell 4 _ rfl
              simp only [List.length_nil, Nat.zero_add] at k4 m4
              go_wp2_with fail
              refine (HSR.out _ (hbd n4)).mono ?_
              rintro e w5 ⟨rfl, hb5⟩
              have hB5 := hB3.trans ((hbd n4).mono hB3.size) |>.trans (hb5.mono (Nat.le_trans hB3.size (hbd n4).size))
              clear HSP HSR d3 d4 e3 e4 k4 m4
              go_wp2_with fail
              go_ret
              rw [HR2.out]
              exact ⟨rfl, hB5⟩
            · rw [decide_eq_false q1] at HSP
              have HR2 : Hid (R = false) := by show _ = _; rw [HR.out, decide_eq_false q1]; simp
              clear HR q1
              go_wp2_with fail
              rw [HW3.out]
              refine HSP.out.mono ?_
              rintro e w4 ⟨rfl, n4, rfl⟩
              have hB5 := hB3.trans ((hbd n4).mono hB3.size)
              clear HSP HSR d3 d4 e3 e4
              go_wp2_with fail
              go_ret
              rw [HR2.out]
              exact ⟨rfl, hB5⟩
  · rw [decide_eq_false h1] at HI1
    have HR2 : Hid (R = false) := by show _ = _; rw [← hR]; exact shardOk_no1 h1
    clear hR hW h h1 hll hhl
    go_enter Tryz.func9, Tryz.ntmps9
    go_wp2_with fail
    refine (HI1.out _).mono ?_
    rintro e w1 ⟨rfl, rfl⟩
    go_wp2_with fail
    go_ret
    rw [HR2.out, HW.out]
    exact ⟨rfl, hB⟩
end Go.Proofs.YtggdgceglmbaiaaGreatDoor.recs

namespace Go.Proofs.YtggdgceglmbaiaaGreatDoor.recs
open Go Go.RowKit Go.Proofs.YtggdgceglmbaiaaGreatDoor.base Go.Proofs.YtggdgceglmbaiaaGreatDoor.pairs Go.Proofs.YtggdgceglmbaiaaGreatDoor.ords Go.Proofs.YtggdgceglmbaiaaGreatDoor.helps Go.Proofs.YtggdgceglmbaiaaGreatDoor.help Go.Proofs.YtggdgceglmbaiaaGreatDoor.lay
set_option linter.unusedVariables false
set_option linter.unusedSimpArgs false

theorem below_alloc {w : World} {o : Obj} : Below w.heap.size w (w.alloc o) := (Below.refl _ _).alloc (Nat.le_refl _) _
/-- a shard that is no greater than the laws take -/
structure Bound (s : Shd) : Prop where
  few : Few s.2.1
  fewH : Few s.2.2.2.2
  log : s.2.1.length ≤ 1048576
  map : s.2.2.2.1.length ≤ 1048576
  held : s.2.2.2.2.length ≤ 1048576
  cnt : cntS s ≤ 3145728
theorem bound_of {s : Shd} (h : szSh s ≤ 1048576) : Bound s := by
  have hc := cntS_le s
  unfold szSh at h
  exact ⟨few_of (N := 1048576) (by omega) (by omega), few_of (N := 1048576) (by omega) (by omega), by omega, by omega, by omega, by have h2 := cntS_le s; unfold szSh at h2; omega⟩
theorem OwnSh.plain {w : World} {ln lc mn mc hn hc gl : Nat} {ma ha : Option Addr} {s : Shd} {F : List Nat} (h : OwnSh w (some ⟨gl, 0, none⟩) ln lc ma mn mc ha hn hc s F) : PlainR w (some ⟨gl, 0, none⟩) ln := by
  obtain ⟨hl, q1, _⟩ := h.log
  exact q1.plain
theorem OwnSh.plainV {w : World} {la ma ha : Option Addr} {ln lc mn mc hn hc : Nat} {s : Shd} {F : List Nat} (h : OwnSh w la ln lc ma mn mc ha hn hc s F) : PlainR w la ln ∧ PlainR w ha hn := by
  obtain ⟨hl, q1, hh, q3, _⟩ := h.log
  refine ⟨?_, ?_⟩
  · rcases q1.shape with ⟨e, _⟩ | ⟨g, c, e, _⟩
    · cases e; intro b off e; cases e
    · cases e; exact q1.plain
  · rcases q3.shape with ⟨e, _⟩ | ⟨g, c, e, _⟩
    · cases e; intro b off e; cases e
    · cases e; exact q3.plain
theorem SeeSh.few {w : World} {la ma ha : Option Addr} {ln lc mn mc hn hc : Nat} {s : Shd} (h : SeeSh w la ln lc ma mn mc ha hn hc s) (b : Bound s) : ln ≤ 1048576 ∧ mn ≤ 1048576 ∧ hn ≤ 1048576 := by
  obtain ⟨l1, l2, l3⟩ := SeeSh.lens h
  have h1 := b.log
  have h2 := b.map
  have h3 := b.held
  omega
/-- a shard that is answered: new, and its own -/
def RetSh (w : World) (r : Shd) (e : Ending) (w' : World) : Prop :=
  ∃ (la : Option Addr) (ln lc : Nat) (ma : Option Addr) (mn mc : Nat) (ha : Option Addr) (hn hc : Nat) (F : List Nat), e = .returned (aggSh r.1 r.2.2.1 la ln lc ma mn mc ha hn hc) ∧ OwnSh w' la ln lc ma mn mc ha hn hc r F ∧ (∀ k ∈ F, w.heap.size ≤ k) ∧ Below w.heap.size w w'
/-- a shard that is kept in a block of its own -/
abbrev InBox (w : World) (X : Nat) (la : Option Addr) (ln lc : Nat) (ma : Option Addr) (mn mc : Nat) (ha : Option Addr) (hn hc : Nat) (s : Shd) (F : List Nat) : Prop := InSh w X 27 [] [] la ln lc ma mn mc ha hn hc s F
section
variable {w w' : World} {X : Nat} {la ma ha : Option Addr} {ln lc mn mc hn hc : Nat} {s s' : Shd} {F G : List Nat}
theorem inBox_new (h : OwnSh w la ln lc ma mn mc ha hn hc s F) : InBox (w.alloc (boxSh s.1 s.2.2.1 la ln lc ma mn mc ha hn hc)) w.heap.size la ln lc ma mn mc ha hn hc s F :=
  ⟨boxIn_new w _ _, h.below below_alloc, fun e => by have := h.lt _ e; omega⟩
theorem InSh.framed (h : InBox w X la ln lc ma mn mc ha hn hc s F) (hf : lay.Frame G w w') (hX : X ∉ G) (hF : ∀ k ∈ F, k ∉ G) : InBox w' X la ln lc ma mn mc ha hn hc s F :=
  ⟨h.box.frame hf hX, h.own.frame hf hF, h.out⟩
theorem InSh.cells (h : InBox w X la ln lc ma mn mc ha hn hc s F) : w.cell? ⟨X, 0, none⟩ = some (.int .i64 s.1) ∧ w.cell? ⟨X, 1, none⟩ = some (.slice la ln lc) ∧ w.cell? ⟨X, 2, none⟩ = some (.int .i64 s.2.2.1) ∧ w.cell? ⟨X, 3, none⟩ = some (.slice ma mn mc) ∧ w.cell? ⟨X, 4, none⟩ = some (.slice ha hn hc) := by
  have a0 := h.box.cell 0 _ rfl
  have a1 := h.box.cell 1 _ rfl
  have a2 := h.box.cell 2 _ rfl
  have a3 := h.box.cell 3 _ rfl
  have a4 := h.box.cell 4 _ rfl
  simp only [List.length_nil, Nat.zero_add] at a0 a1 a2 a3 a4
  exact ⟨a0, a1, a2, a3, a4⟩
end
theorem keep10 {w w' : World} {X A : Nat} {x0 x1 x2 x3 x4 a0 a1 a2 a3 a4 : Value} (hb : Below w.heap.size w w') (h : w.cell? ⟨X, 0, none⟩ = some x0 ∧ w.cell? ⟨X, 1, none⟩ = some x1 ∧ w.cell? ⟨X, 2, none⟩ = some x2 ∧ w.cell? ⟨X, 3, none⟩ = some x3 ∧ w.cell? ⟨X, 4, none⟩ = some x4 ∧ w.cell? ⟨A, 0, none⟩ = some a0 ∧ w.cell? ⟨A, 1, none⟩ = some a1 ∧ w.cell? ⟨A, 2, none⟩ = some a2 ∧ w.cell? ⟨A, 3, none⟩ = some a3 ∧ w.cell? ⟨A, 4, none⟩ = some a4) :
    w'.cell? ⟨X, 0, none⟩ = some x0 ∧ w'.cell? ⟨X, 1, none⟩ = some x1 ∧ w'.cell? ⟨X, 2, none⟩ = some x2 ∧ w'.cell? ⟨X, 3, none⟩ = some x3 ∧ w'.cell? ⟨X, 4, none⟩ = some x4 ∧ w'.cell? ⟨A, 0, none⟩ = some a0 ∧ w'.cell? ⟨A, 1, none⟩ = some a1 ∧ w'.cell? ⟨A, 2, none⟩ = some a2 ∧ w'.cell? ⟨A, 3, none⟩ = some a3 ∧ w'.cell? ⟨A, 4, none⟩ = some a4 := by
  have keep : ∀ b o v, w.cell? ⟨b, o, none⟩ = some v → w'.cell? ⟨b, o, none⟩ = some v := fun b o v hv => (hb.cell (p := ⟨b, o, none⟩) (World.block_lt_of_cell? w _ hv)).trans hv
  obtain ⟨h0, h1, h2, h3, h4, k0, k1, k2, k3, k4⟩ := h
  exact ⟨keep _ _ _ h0, keep _ _ _ h1, keep _ _ _ h2, keep _ _ _ h3, keep _ _ _ h4, keep _ _ _ k0, keep _ _ _ k1, keep _ _ _ k2, keep _ _ _ k3, keep _ _ _ k4⟩
end Go.Proofs.YtggdgceglmbaiaaGreatDoor.recs

namespace Go.Proofs.YtggdgceglmbaiaaGreatDoor.recs
open Go Go.RowKit Go.Proofs.YtggdgceglmbaiaaGreatDoor.base Go.Proofs.YtggdgceglmbaiaaGreatDoor.pairs Go.Proofs.YtggdgceglmbaiaaGreatDoor.ords
set_option linter.unusedVariables false
set_option linter.unusedSimpArgs false

end Go.Proofs.YtggdgceglmbaiaaGreatDoor.recs

namespace Go.Proofs.YtggdgceglmbaiaaGreatDoor.recs
open Go Go.RowKit Go.Proofs.YtggdgceglmbaiaaGreatDoor.base Go.Proofs.YtggdgceglmbaiaaGreatDoor.pairs Go.Proofs.YtggdgceglmbaiaaGreatDoor.ords Go.Proofs.YtggdgceglmbaiaaGreatDoor.lay
set_option linter.unusedVariables false
set_option linter.unusedSimpArgs false

end Go.Proofs.YtggdgceglmbaiaaGreatDoor.recs

namespace Go.Proofs.YtggdgceglmbaiaaGreatDoor.recs
open Go Go.RowKit Go.Proofs.YtggdgceglmbaiaaGreatDoor.base Go.Proofs.YtggdgceglmbaiaaGreatDoor.pairs Go.Proofs.YtggdgceglmbaiaaGreatDoor.ords Go.Proofs.YtggdgceglmbaiaaGreatDoor.helps Go.Proofs.YtggdgceglmbaiaaGreatDoor.help Go.Proofs.YtggdgceglmbaiaaGreatDoor.lay
set_option linter.unusedVariables false
set_option linter.unusedSimpArgs false

set_option maxRecDepth 100000 in
set_option maxHeartbeats 2000000 in
theorem i_ownRecs (a : Option Addr) (len cap : Nat) (l : List Rc) (w : World) (h : SlR w a len l) (hsz : len ≤ 1099511627776) (hops : ∀ r ∈ l, r.2.2.length ≤ 1099511627776) :
    Calls Tryz.prog 62 #[.slice a len cap] w fun e w' => ∃ g cp hs, e = .returned (.slice (some ⟨g, 0, none⟩) len cp) ∧ OwnR w' w.heap.size (.slice (some ⟨g, 0, none⟩) len cp) l hs ∧ Below w.heap.size w w' := by
  obtain ⟨i0, hi, hz0, hz1, hz2⟩ := info_parts infoRW
  obtain ⟨hl, hm, hsm, hc⟩ := id h
  subst hl
  have hm' := hm
  unfold maxLen at hm'
  go_enter Tryz.func62, Tryz.ntmps62
  go_wp2_with (at_make; refine wpList_make_own _ rfl _ _ 24 rfl w.heap.size 36 i0 (.agg #[.int .i64 0, .int .i64 0, .slice none 0 0]) 3 Tryz.underlying24 hi hz0 hz1 _ _ _ l.length rfl rfl rfl ?b2 ?b3 ?b4 ?_)
  case b2 => rw [hz2]; omega
  case b3 => exact hm
  case b4 => exact Nat.le_refl _
  intro w1 hown hgrow
  have hO0 : OwnR w1 w.heap.size (.slice (some ⟨w.heap.size, 0, none⟩) 0 l.length) (l.take 0) [] :=
    ⟨rfl, (fun _ h => absurd h (by simp)), hown, fun i hi => absurd hi (by simp), List.Pairwise.nil, fun k _ y hy => absurd hy List.not_mem_nil⟩
  have hB0 : Below w.heap.size w w1 := (Below.refl _ _).grown hgrow (Nat.le_refl _) (fun k e => by cases e)
  clear hown hgrow
  go_wp2_with (at_builtin; fail)
  go_loopw [3, 11] (fun v i wr => ∃ (k g cp : Nat) (hs : List Value), k ≤ l.length ∧ v = .slice (some ⟨g, 0, none⟩) k cp ∧ i = .int .i64 (k : Int) ∧ OwnR wr w.heap.size (.slice (some ⟨g, 0, none⟩) k cp) (l.take k) hs ∧ Below w.heap.size w wr) (fun _ i _ => l.length - (intOf i).toNat)
  case atStart => exact ⟨0, _, _, [], Nat.zero_le _, rfl, rfl, hO0, hB0⟩
  case round =>
    clear hO0 hB0
    obtain ⟨k, g, cp, hs, hk, rfl, rfl, hO, hB⟩ := hrel
    by_cases hlt : k < l.length
    · obtain ⟨b, off, ha, _⟩ := hc (by omega)
      subst ha
      obtain ⟨c0, c1, pa, pl, pc, c2, hSo, _⟩ := (h.at k hlt).below hB
      have hki : (k : Int) < (l.length : Int) := by omega
      have hsr := hsm _ (List.getElem_mem hlt)
      have hol := hops _ (List.getElem_mem hlt)
      have HTK : Hid (l.take (k + 1) = l.take k ++ [l[k]]) := List.take_succ_eq_append_getElem hlt
      have htl : (l.take k).length = k := by rw [List.length_take]; omega
      generalize l[k] = r at *
      generalize l.take k = T at *
      have hpe := hSo.1
      obtain ⟨W, hW⟩ : ∃ W, wr.alloc (.cells #[.int .i64 r.1, .int .i64 r.2.1, .slice pa pl pc] 36) = W := ⟨_, rfl⟩
      have hbW : Below wr.heap.size wr W := by rw [← hW]; exact (Below.refl _ _).alloc (Nat.le_refl _) _
      have HCR := Hid.mk' (i_ownRec r.1 r.2.1 pa pl pc r.2.2 W (hSo.below hbW) (by omega))
      have HW := Hid.mk' hW
      have HTL := Hid.mk' htl
      have HO := Hid.mk' (hO.below hbW)
      have hBW := hB.trans (hbW.mono hB.size)
      clear hO htl hW hbW
      go_wp2_with (at_builtin; fail)
      rw [HW.out]
      refine HCR.out.mono ?_
      rintro e w3 ⟨g3, rfl, hO3, hb3⟩
      have hV3 := (ownV_of hO3).mono (base' := w.heap.size) hBW.size
      have hOa := HO.out.below hb3
      have hB3 := hBW.trans (hb3.mono hBW.size)
      have hg3 := hO3.lt
      have hout : ∀ j, (Value.slice (some ⟨g3, 0, none⟩) pl pl).ownBlock = some j → ¬ BlkR (.slice (some ⟨g, 0, none⟩) k cp) hs j := fun j hj hb => by
        have e1 : g3 = j := by simpa [Value.ownBlock] using hj
        have := (HO.out.lt j hb).2
        omega
      have HOU := Hid.mk' hout
      have hbn : Below w3.heap.size w3 (w3.alloc (.cells #[.int .i64 r.1, .int .i64 r.2.1, .slice (some ⟨g3, 0, none⟩) pl pl] 36)) := (Below.refl _ _).alloc (Nat.le_refl _) _
      have hO4 := hOa.below hbn
      have hV4 := hV3.below hbn
      have hB4 := hB3.trans (hbn.mono hB3.size)
      have HOC := Hid.mk' (rec_cellsW w3 r.1 r.2.1 (.slice (some ⟨g3, 0, none⟩) pl pl) 36)
      have HON := Hid.mk' (rec_oneW r.1 r.2.1 hV3.one)
      have hc3 : T.length + 1 ≤ maxLen := by have := HTL.out; unfold maxLen; omega
      have hc4 : (T.length + 1) * 40 ≤ 140737488355328 := by have := HTL.out; omega
      clear HCR hO3 hb3 hV3 hOa hB3 hbn hout c0 c1 c2 HO
      go_wp2_with (at_builtin; refine wpList_append_own _ rfl (.tmp 15) (.tmp 18) 24 rfl w.heap.size 36 i0 (.agg #[.int .i64 0, .int .i64 0, .slice none 0 0]) 3 40 Tryz.underlying24 hi hz0 hz1 hz2 rfl (by decide) _ _ _ rfl hO4.row ⟨w3.heap.size, 0, none⟩ 1 1 _ rfl rfl HOC.out HON.out hc3 hc4 hB4.size ?_)
      intro v5 w5 hown5 hgrow5 hnn5
      have hnn' : ¬ v5 = .slice none 0 0 := by simpa using hnn5
      have hO5 := hO4.snoc hV4 hsr HOU.out hown5 hgrow5
      have hB5 : Below w.heap.size w w5 := hB4.grown hgrow5 hB4.size (fun j e => (hO4.row.lt j e).1)
      rw [← HTK.out] at hO5
      have htl2 : (l.take (k + 1)).length = k + 1 := by rw [List.length_take]; omega
      rcases hO5.shape with ⟨hv5, _⟩ | ⟨g5, cp5, hv5, _⟩
      · exact absurd hv5 hnn'
      · rw [htl2] at hv5
        subst hv5
        have HO5 := Hid.mk' hO5
        clear hown5 hgrow5 hnn5 hnn' hO5 hO4 hB4 hV4 HOC HON HOU htl2
        go_wp2_with (at_builtin; fail)
        go_roundw
        case rel => exact ⟨k + 1, g5, cp5, _, by omega, rfl, by go_num, HO5.out, hB5⟩
        case measure => simp [intOf]; omega
    · have hke : k = l.length := by omega
      subst hke
      rw [List.take_length] at hO
      have hlt2 : ¬ (l.length : Int) < (l.length : Int) := by omega
      go_wp2_with (at_builtin; fail)
      go_ret
      exact ⟨g, cp, rfl, ⟨hs, hO⟩, hB⟩
end Go.Proofs.YtggdgceglmbaiaaGreatDoor.recs
