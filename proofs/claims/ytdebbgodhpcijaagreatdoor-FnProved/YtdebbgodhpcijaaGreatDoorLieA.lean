/- The specification's copy of a proof. -/
import Derived.Test.YtdebbgodhpcijaaGreatDoorRangeP
import Derived.Test.YtdebbgodhpcijaaGreatDoorRangeT
import Derived.Test.YtdebbgodhpcijaaGreatDoorLater
namespace Go.Proofs.YtdebbgodhpcijaaGreatDoor.range
open Go Go.RowKit Go.Proofs.YtdebbgodhpcijaaGreatDoor.base Go.Proofs.YtdebbgodhpcijaaGreatDoor.pairs Go.Proofs.YtdebbgodhpcijaaGreatDoor.tree
set_option linter.unusedVariables false
set_option linter.unusedSimpArgs false

/-- an item of a few bytes -/
def tinyI (x : It) : Prop := (x.1.1.size ≤ 13 ∧ x.1.2.size ≤ 21) ∧ x.2.length ≤ 61 ∧ ∀ s ∈ x.2, s.size ≤ 32
theorem tinyI.lim {x : It} (h : tinyI x) : limI x := ⟨⟨by have := h.1.1; omega, by have := h.1.2; omega⟩, fun s hs => by have := h.2.2 s hs; omega⟩
theorem tinyI.small {x : It} (h : tinyI x) : smallI x := ⟨⟨Nat.le_trans h.1.1 (by decide), Nat.le_trans h.1.2 (by decide)⟩, fun s hs => Nat.le_trans (h.2.2 s hs) (by decide)⟩

theorem sls_cells' {w : World} {b o : Nat} {p : List ByteArray} (h : SlS w (some ⟨b, o, none⟩) p.length p) : ∀ j u, (strVals p)[j]? = some u → w.cell? ((⟨b, o, none⟩ : Addr).add j) = some u := by
  intro j u hu
  have hj : j < p.length := by have := (List.getElem?_eq_some_iff.1 hu).1; rwa [strVals_length] at this
  obtain ⟨b', o', e, hc⟩ := h.2.2.2 (by omega)
  simp only [Option.some.injEq, Addr.mk.injEq, and_true] at e
  obtain ⟨rfl, rfl⟩ := e
  rw [Addr.add_lit, hc j hj, ← hu]
  simp [strVals, hj]
theorem v3_grown {w w' : World} {g : Nat} {t : TypeId} {x y z : Value} {row : Option Nat} (h : V3 w g t x y z) (hg : w.grownBy w' row) (hne : some g ≠ row) : V3 w' g t x y z := (hg.block g h.lt hne).trans h
theorem strVals_one (ss : List ByteArray) : ∀ u ∈ strVals ss, u.oneCell' = true := by
  intro u hu
  obtain ⟨s, _, rfl⟩ := List.mem_map.1 hu
  rfl
theorem v3_fz {w : World} {g : Nat} {t : TypeId} {x y z : Value} (h : V3 w g t x y z) (j : Nat) : w.frozen? ⟨g, j, none⟩ = false := by
  unfold V3 at h; simp [World.frozen?, h]
set_option maxRecDepth 100000 in
set_option maxHeartbeats 8000000 in
theorem spec_l5Copy (n fr : Int) (a : Option Addr) (m c : Nat) (its : List It) (w : World) (hJ : SlJ w a m its) (hm : m ≤ 1000) (ht : ∀ x ∈ its, tinyI x) :
    Calls Tryz.prog 47 #[.agg #[.int .i64 n, .int .i64 fr, .slice a m c]] w (PPost w ⟨n, fr, its⟩) := by
  obtain ⟨i0, hif, hz0, hz1, hz2⟩ := info_parts infoI
  obtain ⟨j0, hjf, hy0, hy1, hy2⟩ := info_parts info9
  have hlen := hJ.1
  subst hlen
  obtain ⟨w0, hw0⟩ : ∃ w0, (w.alloc (.cells #[.int .i64 n, .int .i64 fr, .slice a its.length c] 27)).alloc (.cells #[.int .i64 0, .int .i64 0, .slice none 0 0] 27) = w0 := ⟨_, rfl⟩
  have hb0 : Below w.heap.size w w0 := by rw [← hw0]; exact ((Below.refl _ _).alloc (Nat.le_refl _) _).alloc (by simp) _
  have hs0 : w0.heap.size = w.heap.size + 2 := by rw [← hw0]; simp
  have hV0 : V3 w0 w.heap.size 27 (.int .i64 n) (.int .i64 fr) (.slice a its.length c) := by
    rw [← hw0]; exact V3.below (heap_alloc_new w _) ((Below.refl _ _).alloc (Nat.le_refl _) _)
  have hR0 : V3 w0 (w.heap.size + 1) 27 (.int .i64 0) (.int .i64 0) (.slice none 0 0) := by
    rw [← hw0]
    have := heap_alloc_new (w.alloc (.cells #[.int .i64 n, .int .i64 fr, .slice a its.length c] 27)) (.cells #[.int .i64 0, .int .i64 0, .slice none 0 0] 27)
    rw [show (w.alloc (.cells #[.int .i64 n, .int .i64 fr, .slice a its.length c] 27)).heap.size = w.heap.size + 1 by simp] at this
    exact this
  have u0 := hV0.c0
  have u1 := hV0.c1
  obtain ⟨w1, hw1⟩ : ∃ w1, w0.alloc (.cells #[.int .i64 n, .int .i64 fr, .slice none 0 0] 27) = w1 := ⟨_, rfl⟩
  have hb1 : Below w0.heap.size w0 w1 := by rw [← hw1]; exact (Below.refl _ _).alloc (Nat.le_refl _) _
  have hs1 : w1.heap.size = w.heap.size + 3 := by rw [← hw1]; simp [hs0]
  have hF1 : FVar w1 (w.heap.size + 2) n fr (.slice none 0 0) := by rw [← hw1, ← hs0]; exact heap_alloc_new w0 _
  have hV1 := hV0.below hb1
  have hR1 := hR0.below hb1
  have hB1 := hb0.trans (hb1.mono hb0.size)
  have HJ := Hid.mk' hJ
  have HW1 := Hid.mk' hw1
  clear hJ hw1
  go_enter Tryz.func47, Tryz.ntmps47
  go_wp2_with (at_builtin; fail)
  rw [HW1.out]
  clear HW1 hw0 u0 u1 hV0 hR0 hb1 hb0 hs0
  go_loopw [4] (fun kv wr => ∃ (k : Nat) (v : Value) (hs : List Hd), kv = .int .i64 (k : Int) ∧ k ≤ its.length ∧ FVar wr (w.heap.size + 2) n fr v ∧ OwnI wr (w.heap.size + 3) v (its.take k) hs ∧ V3 wr w.heap.size 27 (.int .i64 n) (.int .i64 fr) (.slice a its.length c) ∧ V3 wr (w.heap.size + 1) 27 (.int .i64 0) (.int .i64 0) (.slice none 0 0) ∧ Below w.heap.size w wr ∧ w.heap.size + 3 ≤ wr.heap.size) (fun kv _ => its.length - (intOf kv).toNat)
  case atStart => exact ⟨0, .slice none 0 0, [], rfl, Nat.zero_le _, hF1, ownI_nil _ _, hV1, hR1, hB1, by omega⟩
  case round =>
    obtain ⟨k, v, hs, rfl, hk, hF, hO, hV, hR, hB, hsz⟩ := hrel
    clear hF1 hV1 hR1 hB1 hs1
    have e2 := hF.c2
    have e0 := hF.c0
    have e1 := hF.c1
    have a2 := hV.c2
    by_cases hlt : k < its.length
    · obtain ⟨ib, io, ha, hc⟩ := HJ.out.2.2.2 (by omega)
      subst ha
      obtain ⟨c1, c2, pb, po, pc, c3, hS, hpc⟩ := hc k hlt
      have htx := ht its[k] (List.getElem_mem hlt)
      have hki : (k : Int) < (its.length : Int) := by omega
      have HX : Hid (its.take (k + 1) = its.take k ++ [(its[k].1, its[k].2)]) := List.take_succ_eq_append_getElem hlt
      have htl : (its.take k).length = k := by rw [List.length_take]; omega
      obtain ⟨x, hx⟩ : ∃ x, its[k] = x := ⟨_, rfl⟩
      simp only [hx] at c1 c2 c3 hS hpc htx HX
      clear hx hc
      have hbl : ib < w.heap.size := World.block_lt_of_cell? w _ c1
      have HQ1 : Hid (∀ wx, Below w.heap.size w wx → wx.cell? ⟨ib, io + k * 3, none⟩ = some (.string x.1.1)) := fun wx hx => (hx.cell (p := ⟨ib, io + k * 3, none⟩) hbl).trans c1
      have HQ2 : Hid (∀ wx, Below w.heap.size w wx → wx.cell? ⟨ib, io + k * 3 + 1, none⟩ = some (.string x.1.2)) := fun wx hx => (hx.cell (p := ⟨ib, io + k * 3 + 1, none⟩) hbl).trans c2
      have HQ3 : Hid (∀ wx, Below w.heap.size w wx → wx.cell? ⟨ib, io + k * 3 + 2, none⟩ = some (.slice (some ⟨pb, po, none⟩) x.2.length pc)) := fun wx hx => (hx.cell (p := ⟨ib, io + k * 3 + 2, none⟩) hbl).trans c3
      have HS := Hid.mk' hS
      have HF := Hid.mk' hF
      have HV := Hid.mk' hV
      have HR := Hid.mk' hR
      have HO := Hid.mk' hO
      generalize its.take k = T at *
      have HTL := Hid.mk' htl
      have hT9 : T.length ≤ 1000 := by omega
      clear htl
      have hx1 := htx.1.1
      have hx2 := htx.1.2
      have hx3 := htx.2.1
      have hne : some (w.heap.size + 2) ≠ v.ownBlock := fun e => by have := (HO.out.row.lt _ e.symm).1; omega
      have hneV : some w.heap.size ≠ v.ownBlock := fun e => by have := (HO.out.row.lt _ e.symm).1; omega
      have hneR : some (w.heap.size + 1) ≠ v.ownBlock := fun e => by have := (HO.out.row.lt _ e.symm).1; omega
      have hS0 : FVar wr.drew (w.heap.size + 2) n fr v ∧ V3 wr.drew w.heap.size 27 (.int .i64 n) (.int .i64 fr) (.slice (some ⟨ib, io, none⟩) its.length c) ∧ Below w.heap.size w wr.drew := ⟨hF, hV, hB.drew⟩
      have hd : Below wr.heap.size wr wr.drew := (Below.refl _ _).drew
      have hc3' : 0 + x.2.length ≤ maxLen := by unfold maxLen; omega
      have hc4' : (0 + x.2.length) * 16 ≤ 140737488355328 := by omega
      have hc5 : T.length + 1 ≤ maxLen := by unfold maxLen; omega
      have hc6 : (T.length + 1) * 56 ≤ 140737488355328 := by omega
      clear hF hO hV hR hS c1 c2 c3 e0 e1
      go_wp2_with (at_builtin; fail)
      refine last.wp_region_later (S := fun w' => FVar w' (w.heap.size + 2) n fr v ∧ V3 w' w.heap.size 27 (.int .i64 n) (.int .i64 fr) (.slice (some ⟨ib, io, none⟩) its.length c) ∧ Below w.heap.size w w') 20 (by kernel_rfl) hS0 (fun hHeld => ?_)
      refine last.wpAnyL_take (i := 0) (v := (.pointer (some ⟨w.heap.size + 2, 2, none⟩))) rfl rfl (by kernel_rfl) (by kernel_rfl) (by kernel_rfl) (by kernel_rfl) (fun _ _ _ h => h) (Or.inl ⟨by rfl, ?_⟩) (by assumption) ?_
      · intro wq hSq; go_simp
      try simp only [Act.put, List.setIfInBounds_toArray, List.set_cons_zero, List.set_cons_succ]
      refine last.wpAnyL_take (i := 1) (v := v) rfl rfl (by kernel_rfl) (by kernel_rfl) (by kernel_rfl) (by kernel_rfl) (fun _ _ _ h => h) (Or.inl ⟨by rfl, ?_⟩) (by assumption) ?_
      · intro wq hSq; have q := hSq.1.c2; go_simp
      try simp only [Act.put, List.setIfInBounds_toArray, List.set_cons_zero, List.set_cons_succ]
      refine last.wpAnyL_take (i := 2) (v := (.pointer (some ⟨w.heap.size, 2, none⟩))) rfl rfl (by kernel_rfl) (by kernel_rfl) (by kernel_rfl) (by kernel_rfl) (fun _ _ _ h => h) (Or.inl ⟨by rfl, ?_⟩) (by assumption) ?_
      · intro wq hSq; go_simp
      try simp only [Act.put, List.setIfInBounds_toArray, List.set_cons_zero, List.set_cons_succ]
      refine last.wpAnyL_take (i := 3) (v := (.slice (some ⟨ib, io, none⟩) its.length c)) rfl rfl (by kernel_rfl) (by kernel_rfl) (by kernel_rfl) (by kernel_rfl) (fun _ _ _ h => h) (Or.inl ⟨by rfl, ?_⟩) (by assumption) ?_
      · intro wq hSq; have q := hSq.2.1.c2; go_simp
      try simp only [Act.put, List.setIfInBounds_toArray, List.set_cons_zero, List.set_cons_succ]
      refine last.wpAnyL_take (i := 4) (v := (.int .i64 (k : Int))) rfl rfl (by kernel_rfl) (by kernel_rfl) (by kernel_rfl) (by kernel_rfl) (fun _ _ _ h => h) (Or.inl ⟨by rfl, ?_⟩) (by assumption) ?_
      · intro wq hSq; go_simp
      try simp only [Act.put, List.setIfInBounds_toArray, List.set_cons_zero, List.set_cons_succ]
      refine last.wpAnyL_take (i := 5) (v := (.pointer (some ⟨ib, io + k * 3, none⟩))) rfl rfl (by kernel_rfl) (by kernel_rfl) (by kernel_rfl) (by kernel_rfl) (fun _ _ _ h => h) (Or.inl ⟨by rfl, ?_⟩) (by assumption) ?_
      · intro wq hSq; go_simp
      try simp only [Act.put, List.setIfInBounds_toArray, List.set_cons_zero, List.set_cons_succ]
      refine last.wpAnyL_take (i := 6) (v := (.pointer (some ⟨ib, io + k * 3, none⟩))) rfl rfl (by kernel_rfl) (by kernel_rfl) (by kernel_rfl) (by kernel_rfl) (fun _ _ _ h => h) (Or.inl ⟨by rfl, ?_⟩) (by assumption) ?_
      · intro wq hSq; go_simp
      try simp only [Act.put, List.setIfInBounds_toArray, List.set_cons_zero, List.set_cons_succ]
      refine last.wpAnyL_take (i := 7) (v := (.agg #[.string x.1.1, .string x.1.2])) rfl rfl (by kernel_rfl) (by kernel_rfl) (by kernel_rfl) (by kernel_rfl) (fun _ _ _ h => h) (Or.inl ⟨by rfl, ?_⟩) (by assumption) ?_
      · intro wq hSq; have q1 := HQ1.out wq hSq.2.2; have q2 := HQ2.out wq hSq.2.2; go_simp
      try simp only [Act.put, List.setIfInBounds_toArray, List.set_cons_zero, List.set_cons_succ]
      refine last.wpAnyL_take (i := 9) (v := (.pointer (some ⟨w.heap.size, 2, none⟩))) rfl rfl (by kernel_rfl) (by kernel_rfl) (by kernel_rfl) (by kernel_rfl) (fun _ _ _ h => h) (Or.inl ⟨by rfl, ?_⟩) (by assumption) ?_
      · intro wq hSq; go_simp
      try simp only [Act.put, List.setIfInBounds_toArray, List.set_cons_zero, List.set_cons_succ]
      refine last.wpAnyL_take (i := 10) (v := (.slice (some ⟨ib, io, none⟩) its.length c)) rfl rfl (by kernel_rfl) (by kernel_rfl) (by kernel_rfl) (by kernel_rfl) (fun _ _ _ h => h) (Or.inl ⟨by rfl, ?_⟩) (by assumption) ?_
      · intro wq hSq; have q := hSq.2.1.c2; go_simp
      try simp only [Act.put, List.setIfInBounds_toArray, List.set_cons_zero, List.set_cons_succ]
      refine last.wpAnyL_take (i := 11) (v := (.int .i64 (k : Int))) rfl rfl (by kernel_rfl) (by kernel_rfl) (by kernel_rfl) (by kernel_rfl) (fun _ _ _ h => h) (Or.inl ⟨by rfl, ?_⟩) (by assumption) ?_
      · intro wq hSq; go_simp
      try simp only [Act.put, List.setIfInBounds_toArray, List.set_cons_zero, List.set_cons_succ]
      refine last.wpAnyL_take (i := 12) (v := (.pointer (some ⟨ib, io + k * 3, none⟩))) rfl rfl (by kernel_rfl) (by kernel_rfl) (by kernel_rfl) (by kernel_rfl) (fun _ _ _ h => h) (Or.inl ⟨by rfl, ?_⟩) (by assumption) ?_
      · intro wq hSq; go_simp
      try simp only [Act.put, List.setIfInBounds_toArray, List.set_cons_zero, List.set_cons_succ]
      refine last.wpAnyL_take (i := 13) (v := (.pointer (some ⟨ib, io + k * 3 + 2, none⟩))) rfl rfl (by kernel_rfl) (by kernel_rfl) (by kernel_rfl) (by kernel_rfl) (fun _ _ _ h => h) (Or.inl ⟨by rfl, ?_⟩) (by assumption) ?_
      · intro wq hSq; go_simp
      try simp only [Act.put, List.setIfInBounds_toArray, List.set_cons_zero, List.set_cons_succ]
      refine last.wpAnyL_take (i := 14) (v := (.slice (some ⟨pb, po, none⟩) x.2.length pc)) rfl rfl (by kernel_rfl) (by kernel_rfl) (by kernel_rfl) (by kernel_rfl) (fun _ _ _ h => h) (Or.inl ⟨by rfl, ?_⟩) (by assumption) ?_
      · intro wq hSq; have q := HQ3.out wq hSq.2.2; go_simp
      try simp only [Act.put, List.setIfInBounds_toArray, List.set_cons_zero, List.set_cons_succ]
      refine last.wpAnyL_one (i := 8) (o := { dst := some 25, op := Op.buildSlice 59 0 #[], type := 59, pos := "l05_range.go:71", after := #[], guard := none }) (by kernel_rfl) rfl (fun K hK => ?_)
      go_simp
      have hbA : Below wr.heap.size wr (wr.drew.alloc (.cells #[] 9)) := hd.alloc hd.size _
      refine hK.out _ _ ?_ (fun hHeld => ?_)
      · exact ⟨HF.out.below hbA, HV.out.below hbA, hB.trans (hbA.mono hB.size)⟩
      clear hK K
      try simp only [Act.put, List.setIfInBounds_toArray, List.set_cons_zero, List.set_cons_succ]
      refine last.wpAnyL_one (i := 15) (o := { dst := some 32, op := Op.call { callee := Callee.builtin Builtin.append, args := #[Operand.tmp 25, Operand.tmp 31], argTypes := #[59, 59] }, type := 59, pos := "l05_range.go:71", after := #[{ on := 8, ground := Ground.data }, { on := 14, ground := Ground.data }], guard := none }) (by kernel_rfl) rfl (fun K hK => ?_)
      have hOm := ownS_made wr.drew wr.heap.size (Nat.le_refl _)
      have hSA := HS.out.below (hB.trans (hbA.mono hB.size))
      refine step_append_own rfl (.tmp 25) (.tmp 31) 59 rfl wr.heap.size 9 j0 (.string ⟨#[]⟩) 1 16 Tryz.underlying59 hjf hy0 hy1 hy2 rfl (by decide) _ _ _ rfl hOm.2.2 ⟨pb, po, none⟩ x.2.length pc (strVals x.2) rfl (by rw [strVals_length]; omega) (sls_cells' hSA) (strVals_one x.2) hc3' hc4' (le_alloc _ _ (Nat.le_refl _)) ?_
      intro v5 w5 hown hgrow hnn
      have hnn' : ¬ v5 = .slice none 0 0 := fun e => by first | exact hnn e | (have := (hnn.1 e).1; cases this)
      obtain ⟨g5, c5, hv5, hO5⟩ := ownS_val (ss := x.2) (n := x.2.length) rfl (fun s hs => Nat.le_trans (htx.2.2 s hs) (by decide)) hnn' (by have h9 := hown; rw [show strVals [] ++ strVals x.2 = strVals x.2 from rfl] at h9; simpa using h9)
      subst hv5
      have hgr5 : (wr.drew.alloc (.cells #[] 9)).grownBy w5 (some wr.heap.size) := hgrow
      have hb5 : Below wr.heap.size wr w5 := hbA.grown hgr5 hbA.size (fun k e => by cases e; exact Nat.le_refl _)
      have hW5 := hB.trans (hb5.mono hB.size)
      have hg5 : wr.heap.size ≤ g5 := hO5.lt.1
      refine hK.out _ _ ?_ (fun hHeld => ?_)
      · exact ⟨HF.out.below hb5, HV.out.below hb5, hW5⟩
      clear hK K
      try simp only [Act.put, List.setIfInBounds_toArray, List.set_cons_zero, List.set_cons_succ]
      refine last.wpAnyL_take (i := 16) (v := (.agg #[.string x.1.1, .string x.1.2, .slice (some ⟨g5, 0, none⟩) x.2.length c5])) rfl rfl (by kernel_rfl) (by kernel_rfl) (by kernel_rfl) (by kernel_rfl) (fun _ _ _ h => h) (Or.inl ⟨by rfl, ?_⟩) (by assumption) ?_
      · intro wq hSq; go_simp
      try simp only [Act.put, List.setIfInBounds_toArray, List.set_cons_zero, List.set_cons_succ]
      refine last.wpAnyL_one (i := 17) (o := { dst := some 34, op := Op.buildSlice 25 1 #[(0, Operand.tmp 33)], type := 25, pos := "l05_range.go:71", after := #[{ on := 16, ground := Ground.data }], guard := none }) (by kernel_rfl) rfl (fun K hK => ?_)
      go_simp
      have hb6 : Below wr.heap.size wr (w5.alloc (.cells #[.string x.1.1, .string x.1.2, .slice (some ⟨g5, 0, none⟩) x.2.length c5] 61)) := hb5.alloc hb5.size _
      have hW6 := hB.trans (hb6.mono hB.size)
      refine hK.out _ _ ?_ (fun hHeld => ?_)
      · exact ⟨HF.out.below hb6, HV.out.below hb6, hW6⟩
      clear hK K
      try simp only [Act.put, List.setIfInBounds_toArray, List.set_cons_zero, List.set_cons_succ]
      refine last.wpAnyL_one (i := 18) (o := { dst := some 35, op := Op.call { callee := Callee.builtin Builtin.append, args := #[Operand.tmp 18, Operand.tmp 34], argTypes := #[25, 25] }, type := 25, pos := "l05_range.go:71", after := #[{ on := 1, ground := Ground.data }, { on := 17, ground := Ground.data }, { on := 15, ground := Ground.chain }], guard := none }) (by kernel_rfl) rfl (fun K hK => ?_)
      refine step_append_own rfl (.tmp 18) (.tmp 34) 25 rfl (w.heap.size + 3) 61 i0 (.agg #[.string ⟨#[]⟩, .string ⟨#[]⟩, .slice none 0 0]) 3 56 Tryz.underlying25 hif hz0 hz1 hz2 rfl (by decide) _ _ _ rfl ((HO.out.below hb5).row.alloc _) ⟨w5.heap.size, 0, none⟩ 1 1 [.string x.1.1, .string x.1.2, .slice (some ⟨g5, 0, none⟩) x.2.length c5] rfl rfl (cells_three _ _ _ _ _) (three_oneCell _ _ _ _ _) hc5 hc6 (le_alloc _ _ (Nat.le_trans hsz hb5.size)) ?_
      intro v7 w7 hown7 hgrow7 hnn7
      obtain ⟨g7, c7, hv7⟩ := row_shape hown7 (fun e => by have := (hnn7.1 e).2; omega)
      subst hv7
      have hW7 : Below w.heap.size w w7 := hW6.grown hgrow7 hW6.size (fun j e => by have := (HO.out.row.lt j e).1; omega)
      have HF7 := Hid.mk' (fvar_grown (HF.out.below hb5) hgrow7 hne)
      have HV7 := Hid.mk' (v3_grown ((HV.out.below hb6)) hgrow7 hneV)
      have HR7 := Hid.mk' (v3_grown ((HR.out.below hb6)) hgrow7 hneR)
      refine hK.out _ _ ?_ (fun hHeld => ?_)
      · exact ⟨HF7.out, HV7.out, hW7⟩
      clear hK K
      try simp only [Act.put, List.setIfInBounds_toArray, List.set_cons_zero, List.set_cons_succ]
      refine last.wpAnyL_take (i := 19) (v := (.pointer (some ⟨w.heap.size + 2, 2, none⟩))) rfl rfl (by kernel_rfl) (by kernel_rfl) (by kernel_rfl) (by kernel_rfl) (fun _ _ _ h => h) (Or.inl ⟨by rfl, ?_⟩) (by assumption) ?_
      · intro wq hSq; go_simp
      try simp only [Act.put, List.setIfInBounds_toArray, List.set_cons_zero, List.set_cons_succ]
      have e7 := HF7.out.c2
      have f7 := HF7.out.fz 2
      refine last.wpAnyL_last (o := { dst := none, op := Op.store 25 (Operand.tmp 36) (Operand.tmp 35), type := 0, pos := "l05_range.go:71", after := #[{ on := 19, ground := Ground.data }, { on := 18, ground := Ground.data }, { on := 18, ground := Ground.chain }, { on := 0, ground := Ground.phase }, { on := 1, ground := Ground.phase }, { on := 2, ground := Ground.phase }, { on := 3, ground := Ground.phase }, { on := 4, ground := Ground.phase }, { on := 5, ground := Ground.phase }, { on := 6, ground := Ground.phase }, { on := 7, ground := Ground.phase }, { on := 8, ground := Ground.phase }, { on := 9, ground := Ground.phase }, { on := 10, ground := Ground.phase }, { on := 11, ground := Ground.phase }, { on := 12, ground := Ground.phase }, { on := 13, ground := Ground.phase }, { on := 14, ground := Ground.phase }, { on := 15, ground := Ground.phase }, { on := 16, ground := Ground.phase }, { on := 17, ground := Ground.phase }, { on := 18, ground := Ground.phase }], guard := none }) (by kernel_rfl) rfl (by kernel_rfl) (fun K hK => ?_)
      go_simp
      refine hK.out _ _ ?_
      clear hK K
      have hO7 := HO.out.snoc hb5 (hO5.mono hsz) hg5 htx.small.1 _ hown7 hgrow7
      rw [← HX.out] at hO7
      have hG7 := set_cur HF7.out 2 (.slice (some ⟨g7, 0, none⟩) (T.length + 1) c7)
      have HO8 := Hid.mk' (hO7.grown hG7.2 (fun hh => by have := (hO7.lt _ hh).1; omega))
      have HF8 : Hid (FVar _ (w.heap.size + 2) n fr (.slice (some ⟨g7, 0, none⟩) (T.length + 1) c7)) := hG7.1
      have HV8 := Hid.mk' (v3_grown HV7.out hG7.2 (by simp))
      have HR8 := Hid.mk' (v3_grown HR7.out hG7.2 (by simp))
      have hW8 := hW7.grown hG7.2 hW7.size (fun k e => by cases e; omega)
      have hs8 : w.heap.size + 3 ≤ (w7.setCell ⟨w.heap.size + 2, 2, none⟩ (.slice (some ⟨g7, 0, none⟩) (T.length + 1) c7)).heap.size := Nat.le_trans hsz (Nat.le_trans hb6.size (Nat.le_trans hgrow7.size hG7.2.size))
      clear hO7 hG7 hgrow7 hown7 hnn7 HF7 HV7 HR7 e7 f7 hO5 hb5 hb6 hgr5 hgrow hown hnn hnn' hHeld HF HV HR HO hOm hSA HS hbA
      go_wp2_with (at_builtin; fail)
      go_roundw
      case rel => exact ⟨k + 1, _, _, by go_num, by omega, HF8.out, HO8.out, HV8.out, HR8.out, hW8, hs8⟩
      case measure => simp [intOf]; omega
    · have hki : ¬ (k : Int) < (its.length : Int) := by omega
      have hke : k = its.length := by omega
      have r0 := hR.c0
      have r1 := hR.c1
      have r2 := hR.c2
      have a0 := hF.c0
      have a1 := hF.c1
      have f0 := v3_fz hR 0
      have f1 := v3_fz hR 1
      have f2 := v3_fz hR 2
      have hBz := ((hB.setCell (p := ⟨w.heap.size + 1, 0, none⟩) (Nat.le_succ _) (.int .i64 n)).setCell (p := ⟨w.heap.size + 1, 1, none⟩) (Nat.le_succ _) (.int .i64 fr)).setCell (p := ⟨w.heap.size + 1, 2, none⟩) (Nat.le_succ _) v
      have hOz : OwnI (((wr.setCell ⟨w.heap.size + 1, 0, none⟩ (.int .i64 n)).setCell ⟨w.heap.size + 1, 1, none⟩ (.int .i64 fr)).setCell ⟨w.heap.size + 1, 2, none⟩ v) (w.heap.size + 3) v (its.take k) hs := by
        refine hO.of_blocks (fun j hj => ?_)
        have hj2 := (hO.lt j hj).1
        have hjn : j ≠ w.heap.size + 1 := by omega
        rw [heap_setCell_other _ ⟨w.heap.size + 1, 2, none⟩ j _ hjn, heap_setCell_other _ ⟨w.heap.size + 1, 1, none⟩ j _ hjn, heap_setCell_other _ ⟨w.heap.size + 1, 0, none⟩ j _ hjn]
      rw [hke, List.take_length] at hOz
      have HOZ := Hid.mk' (hOz.mono (base' := w.heap.size) (by omega))
      obtain ⟨sa, sm, sc, hv⟩ : ∃ sa sm sc, v = .slice sa sm sc := by
        rcases hO.shape with ⟨rfl, _, _⟩ | ⟨g, cg, rfl, _, _⟩
        · exact ⟨_, _, _, rfl⟩
        · exact ⟨_, _, _, rfl⟩
      subst hv
      have HPO : Hid (PPost w ⟨n, fr, its⟩ (.returned (.agg #[.int .i64 n, .int .i64 fr, .slice sa sm sc])) (((wr.setCell ⟨w.heap.size + 1, 0, none⟩ (.int .i64 n)).setCell ⟨w.heap.size + 1, 1, none⟩ (.int .i64 fr)).setCell ⟨w.heap.size + 1, 2, none⟩ (.slice sa sm sc))) := ⟨sa, sm, sc, hs, rfl, HOZ.out, hBz⟩
      clear hO hF hOz hBz hB hV hR HOZ HJ hke e0 e1
      go_wp2_with (at_builtin; fail)
      refine bodyPost_ret (v := .agg #[.int .i64 n, .int .i64 fr, .slice sa sm sc]) ?h1 rfl HPO.out
      simp [results, Tryz.results47, go_sem, a0, a1, e2, r0, r1, r2]
end Go.Proofs.YtdebbgodhpcijaaGreatDoor.range
