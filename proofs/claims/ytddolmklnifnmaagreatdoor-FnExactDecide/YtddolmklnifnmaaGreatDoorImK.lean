/- The program's shard holds a transaction. -/
import Derived.Test.YtddolmklnifnmaaGreatDoorImH
import Derived.Test.YtddolmklnifnmaaGreatDoorBund9ay
import Derived.Test.YtddolmklnifnmaaGreatDoorBund9bg
namespace Go.Proofs.YtddolmklnifnmaaGreatDoor.recs
open Go Go.RowKit Go.Proofs.YtddolmklnifnmaaGreatDoor.base Go.Proofs.YtddolmklnifnmaaGreatDoor.pairs Go.Proofs.YtddolmklnifnmaaGreatDoor.ords Go.Proofs.YtddolmklnifnmaaGreatDoor.helps Go.Proofs.YtddolmklnifnmaaGreatDoor.help Go.Proofs.YtddolmklnifnmaaGreatDoor.lay Go.Proofs.YtddolmklnifnmaaGreatDoor.sent
set_option linter.unusedVariables false
set_option linter.unusedSimpArgs false

/-- what a shard does: refused for an error, or done -/
def DoPost (A : Nat → Addr) (t : Shd) (g : Option Nat) (w : World) (e : Ending) (w' : World) : Prop :=
  match g with
  | some k => e = .returned (.tuple #[.agg #[.int .i64 0, .slice none 0 0, .int .i64 0, .slice none 0 0, .slice none 0 0], .iface 180 (.pointer (some (A k)))]) ∧ Below w.heap.size w w'
  | none => ∃ (la : Option Addr) (ln lc : Nat) (ma : Option Addr) (mn mc : Nat) (ha : Option Addr) (hn hc : Nat) (F : List Nat), e = .returned (.tuple #[aggSh t.1 t.2.2.1 la ln lc ma mn mc ha hn hc, .nilIface]) ∧ OwnSh w' la ln lc ma mn mc ha hn hc t F ∧ (∀ k ∈ F, w.heap.size ≤ k) ∧ Below w.heap.size w w'
/-- why a right shard does not hold a right record -/
def holdErr (s : Shd) (tx : Int) (ops : List Od) : Option Nat :=
  if lastKind tx s.2.1 ≠ 0 then some (senOf (lastKind tx s.2.1)) else if 60 < s.2.2.2.1.length + sumOps s.2.2.2.2 + ops.length ∨ 300 - (s.2.1.length : Int) - (s.2.2.2.2.length : Int) < 2 then some 4 else match replay (s.2.1 ++ [(1, tx, ops)]) with | none => some 5 | some _ => none
theorem own_made {V : World} {B C : Nat} {sid su : Int} {gl n cl gm nm cm gh ch : Nat} {t : Option St} {L : List Rc} {hl hh : List Value} (hid : (Lit.int .i64 sid).wf = true) (hsu : (Lit.int .i64 su).wf = true) (hOl : OwnR V 0 (.slice (some ⟨gl, 0, none⟩) n cl) L hl) (hlB : ∀ k, BlkR (.slice (some ⟨gl, 0, none⟩) n cl) hl k → B ≤ k ∧ k < C)
    (hOm : OwnP V C gm nm cm (resM t)) (hOh : OwnR V C (.slice (some ⟨gh, 0, none⟩) (resH t).length ch) (resH t) hh) (hnb : ¬ BlkR (.slice (some ⟨gh, 0, none⟩) (resH t).length ch) hh gm) (hBC : B ≤ C) :
    ∃ F, OwnSh V (some ⟨gl, 0, none⟩) n cl (some ⟨gm, 0, none⟩) nm cm (some ⟨gh, 0, none⟩) (resH t).length ch (sid, L, su, resM t, resH t) F ∧ (∀ k ∈ F, B ≤ k) ∧ ∀ k ∈ F, BlkR (.slice (some ⟨gl, 0, none⟩) n cl) hl k ∨ C ≤ k := by
  have hOh0 := hOh.mono (base' := 0) (Nat.zero_le _)
  have hmlt := hOm.lt
  have n1 := recsR.ownNodup (recs_own.2 ⟨_, hOl, rfl⟩)
  have n2 := recsR.ownNodup (recs_own.2 ⟨_, hOh0, rfl⟩)
  have hw : ∀ k ∈ blkR (.slice (some ⟨gl, 0, none⟩) n cl) hl ++ ((Value.slice (some ⟨gm, 0, none⟩) nm cm).ownBlock.toList ++ blkR (.slice (some ⟨gh, 0, none⟩) (resH t).length ch) hh), BlkR (.slice (some ⟨gl, 0, none⟩) n cl) hl k ∨ C ≤ k := fun k hk => by
    rcases List.mem_append.1 hk with e | e
    · exact .inl (mem_blkR.1 e)
    · rcases List.mem_append.1 e with e | e
      · have e2 : k = gm := by simpa [Value.ownBlock] using e
        exact .inr (by rw [e2]; exact hmlt.1)
      · exact .inr (hOh.lt k (mem_blkR.1 e)).1
  refine ⟨_, ⟨hid, hsu, ⟨hl, hOl, hh, hOh0, rfl⟩, ownPV_of hOm, ?_⟩, fun k hk => ?_, hw⟩
  · refine nodup_mk n1 (nodup_mk (by simp [Value.ownBlock]) n2 (fun k hk hk2 => ?_)) (fun k hk hk2 => ?_)
    · have e2 : k = gm := by simpa [Value.ownBlock] using hk
      rw [e2] at hk2
      exact hnb (mem_blkR.1 hk2)
    · have h1 := (hlB k (mem_blkR.1 hk)).2
      rcases List.mem_append.1 hk2 with e | e
      · have e2 : k = gm := by simpa [Value.ownBlock] using e
        have := hmlt.1; omega
      · have := (hOh.lt k (mem_blkR.1 e)).1; omega
  · rcases hw k hk with e | e
    · exact (hlB k e).1
    · omega
set_option maxRecDepth 100000 in
set_option maxHeartbeats 4000000 in
theorem hold_stood (G : List Nat) (A : Nat → Addr) (la : Option Addr) (ln lc : Nat) (ma : Option Addr) (mn mc : Nat) (ha : Option Addr) (hn hc : Nat) (s : Shd) (tx : Int) (a : Option Addr) (len cap : Nat) (ops : List Od) (w : World) (h : SeeSh w la ln lc ma mn mc ha hn hc s) (hR : Right s) (ho : SlO w a len ops) (hok : recOk (1, tx, ops) = true) (hK : KS G A w) (hst : lastKind tx s.2.1 ≠ 0) :
    Calls Tryz.prog 33 #[aggSh s.1 s.2.2.1 la ln lc ma mn mc ha hn hc, .agg #[.int .i64 1, .int .i64 tx, .slice a len cap]] w fun e w' => e = .returned (.tuple #[.agg #[.int .i64 0, .slice none 0 0, .int .i64 0, .slice none 0 0, .slice none 0 0], .iface 180 (.pointer (some (A (senOf (lastKind tx s.2.1)))))]) ∧ Below w.heap.size w w' := by
  obtain ⟨W, hW⟩ : ∃ W, ((w.alloc (boxSh s.1 s.2.2.1 la ln lc ma mn mc ha hn hc)).alloc (.cells #[.int .i64 1, .int .i64 tx, .slice a len cap] 41)).alloc (boxSh 0 0 none 0 0 none 0 0 none 0 0) = W := ⟨_, rfl⟩
  have hb0 : Below w.heap.size w (w.alloc (boxSh s.1 s.2.2.1 la ln lc ma mn mc ha hn hc)) := below_alloc
  have hb1 : Below w.heap.size w ((w.alloc (boxSh s.1 s.2.2.1 la ln lc ma mn mc ha hn hc)).alloc (.cells #[.int .i64 1, .int .i64 tx, .slice a len cap] 41)) := hb0.alloc hb0.size _
  have hB : Below w.heap.size w W := by rw [← hW]; exact hb1.alloc hb1.size _
  have hX : BoxIn w.heap.size 27 [] (shVals s.1 s.2.2.1 la ln lc ma mn mc ha hn hc) [] W := by rw [← hW]; exact ((boxIn_new w _ _).below below_alloc).below below_alloc
  have hC : BoxR (w.heap.size + 1) 1 tx (.slice a len cap) W := by
    rw [← hW]
    have := (boxR_new (w.alloc (boxSh s.1 s.2.2.1 la ln lc ma mn mc ha hn hc)) 1 tx (.slice a len cap)).below (below_alloc (o := boxSh 0 0 none 0 0 none 0 0 none 0 0))
    rwa [show (w.alloc (boxSh s.1 s.2.2.1 la ln lc ma mn mc ha hn hc)).heap.size = w.heap.size + 1 by simp] at this
  have hRB : BoxIn (w.heap.size + 1 + 1) 27 [] (shVals 0 0 none 0 0 none 0 0 none 0 0) [] W := by
    rw [← hW]
    have := boxIn_new ((w.alloc (boxSh s.1 s.2.2.1 la ln lc ma mn mc ha hn hc)).alloc (.cells #[.int .i64 1, .int .i64 tx, .slice a len cap] 41)) (shVals 0 0 none 0 0 none 0 0 none 0 0) 27
    rwa [show ((w.alloc (boxSh s.1 s.2.2.1 la ln lc ma mn mc ha hn hc)).alloc (.cells #[.int .i64 1, .int .i64 tx, .slice a len cap] 41)).heap.size = w.heap.size + 1 + 1 by simp] at this
  have hsW : w.heap.size + 1 + 1 < W.heap.size := hRB.lt
  have HXC := Hid.mk' (fun wx (hx : Below W.heap.size W wx) => (show _ ∧ _ ∧ _ ∧ _ ∧ _ from by
    have a0 := (hX.below hx).cell 0 _ rfl
    have a1 := (hX.below hx).cell 1 _ rfl
    have a2 := (hX.below hx).cell 2 _ rfl
    have a3 := (hX.below hx).cell 3 _ rfl
    have a4 := (hX.below hx).cell 4 _ rfl
    simp only [List.length_nil, Nat.zero_add] at a0 a1 a2 a3 a4
    exact ⟨a0, a1, a2, a3, a4⟩))
  have HCC := Hid.mk' (fun wx (hx : Below W.heap.size W wx) => (hC.below hx).cells)
  have hKW := hK.below hB
  have hroom := hR.room
  obtain ⟨l1, l2, l3⟩ := SeeSh.lens h
  have hmn : s.2.2.2.1.length ≤ 60 := by
    obtain ⟨seen, hm⟩ := hR.made
    exact ((pairsOk_iff _).1 (replay_ok hm).1).2
  have HST := Hid.mk' (i_standing G A la ln lc ma mn mc ha hn hc s tx W (h.below hB) hKW)
  have HIS := Hid.mk' (fun wx (hx : Below W.heap.size W wx) => (is_ (senOf (lastKind tx s.2.1)) 3 (hK.sub _ (senOf_mem _)) (hK.sub _ (by decide)) wx (hKW.below hx)).mono (fun e w' (hp : e = .returned (.bool (decide (senOf (lastKind tx s.2.1) = 3))) ∧ w' = wx) => (⟨hp.1, hp.2.symm⟩ : e = .returned (.bool (decide (senOf (lastKind tx s.2.1) = 3))) ∧ wx = w')))
  have HGN := Hid.mk' (fun wx (hx : Below W.heap.size W wx) => (hKW.below hx).cell 3 (hK.sub _ (by decide)))
  have hkk : ∀ k, k = 0 ∨ k = 1 ∨ k = 2 ∨ k = 3 → k ≠ 0 → senOf k ≠ 3 := fun k hk h0 => by
    rcases hk with e | e | e | e
    · exact absurd e h0
    all_goals (subst e; decide)
  have hsn : senOf (lastKind tx s.2.1) ≠ 3 := by
    obtain ⟨seen, hm⟩ := hR.made
    exact hkk _ ((stood_replay hm).kinds tx) hst
  rw [decide_eq_false hsn] at HIS
  generalize senOf (lastKind tx s.2.1) = gg at *
  have HW := Hid.mk' hW
  obtain ⟨a0, a1, a2, a3, a4⟩ := HXC.out W (Below.refl _ _)
  obtain ⟨c0, c1, c2⟩ := HCC.out W (Below.refl _ _)
  rw [← hW] at a0 a1 a2 a3 a4 c0 c1 c2
  clear hW hb0 hb1 hkk hsn hst hroom l1 l2 l3 hmn
  go_enter Tryz.func33, Tryz.ntmps33
  go_wp2_with fail
  rw [HW.out]
  refine HST.out.mono ?_
  rintro e w1 ⟨rfl, hb2⟩
  clear a0 a1 a2 a3 a4 c0 c1 c2 HST HW
  have gN := HGN.out w1 hb2
  go_wp2_with fail
  refine (HIS.out w1 hb2).mono ?_
  rintro e w2 ⟨rfl, hw2⟩
  subst hw2
  clear gN
  have hR1 := hRB.below hb2
  have hB1 := hB.trans (hb2.mono hB.size)
  have z0 := hR1.cell 0 _ rfl
  have z1 := hR1.cell 1 _ rfl
  have z2 := hR1.cell 2 _ rfl
  have z3 := hR1.cell 3 _ rfl
  have z4 := hR1.cell 4 _ rfl
  have hS5 := hR1.set5 (.int .i64 0) (.slice none 0 0) (.int .i64 0) (.slice none 0 0) (.slice none 0 0)
  simp only [List.length_nil, Nat.zero_add] at z0 z1 z2 z3 z4 hS5
  have f0 := hR1.fz 0
  have f1 := hR1.fz 1
  have f2 := hR1.fz 2
  have f3 := hR1.fz 3
  have f4 := hR1.fz 4
  have hBz := hB1.grown hS5.2 hB1.size (fun j e => by cases e; omega)
  have hzc0 := hS5.1.cell 0 _ rfl
  have hzc1 := hS5.1.cell 1 _ rfl
  have hzc2 := hS5.1.cell 2 _ rfl
  have hzc3 := hS5.1.cell 3 _ rfl
  have hzc4 := hS5.1.cell 4 _ rfl
  simp only [List.length_nil, Nat.zero_add] at hzc0 hzc1 hzc2 hzc3 hzc4
  have HB := Hid.mk' hBz
  clear hBz hS5 hR1 HIS HGN HXC HCC
  go_wp2_with fail
  refine bodyPost_ret (v := .tuple #[.agg #[.int .i64 0, .slice none 0 0, .int .i64 0, .slice none 0 0, .slice none 0 0], .iface 180 (.pointer (some (A gg)))]) ?_ rfl ⟨rfl, HB.out⟩
  simp [results, Tryz.results33, go_sem, hzc0, hzc1, hzc2, hzc3, hzc4]
end Go.Proofs.YtddolmklnifnmaaGreatDoor.recs
