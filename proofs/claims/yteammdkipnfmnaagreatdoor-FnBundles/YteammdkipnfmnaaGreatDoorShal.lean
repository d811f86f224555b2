/- A region that draws its order: what is held from one operation to the next may fall with the last one, which waits for all the others. No function of the program is named here. The specification's copy of a proof. Drawn bundles, bent or not: what is read of them, however a bundle's variable is written over. Slices of pairs as elements of rows. No function of the program is named here. Tables none of which is nil: how they lie. No function of the program is named here. -/
import Derived.Test.YteammdkipnfmnaaGreatDoorShac
import Derived.Deep.RegionHeld
import Derived.Test.YteammdkipnfmnaaGreatDoorShak
import Derived.Test.YteammdkipnfmnaaGreatDoorShaj
import Derived.Test.YteammdkipnfmnaaGreatDoorShaf
namespace Go.Proofs.YteammdkipnfmnaaGreatDoor.last
open Go Go.RowKit
section
variable {P : Program} {ops : Array Oper} {md : Region.Mode} {Q : Exit → Act → World → Prop} {S : World → Prop} {z : Nat}

def wpAnyL (P : Program) (md : Region.Mode) (ops : Array Oper) (Q : Exit → Act → World → Prop) (S : World → Prop) (z : Nat) : Nat → Array Bool → Act → World → Prop
  | 0, listed, a, w => Region.ready md ops listed = [] ∧ Q .normal a w
  | fuel + 1, listed, a, w =>
    (Region.ready md ops listed = [] → Q .normal a w) ∧
    ∀ i ∈ Region.ready md ops listed, wpOp P ops Q i (fun a' w' => (i ≠ z → S w') ∧ wpAnyL P md ops Q S z fuel (listed.setIfInBounds i true) a' w') a w
theorem wpAny_of_later : ∀ (fuel : Nat) (listed : Array Bool) (a : Act) (w : World), wpAnyL P md ops Q S z fuel listed a w → wpAny P md ops Q fuel listed a w
  | 0, _, _, _, h => h
  | fuel + 1, _, _, _, h => ⟨h.1, fun i hi => wpOp_mono (fun a' w' h' => wpAny_of_later fuel _ a' w' h'.2) (h.2 i hi)⟩
theorem wpAnyL_first {i : Nat} {oi : Oper} {v : Value} (hi : ops[i]? = some oi) (hsel : ∀ (j : Nat) (o : Oper) cs b, ops[j]? = some o → o.op ≠ .select cs b)
    (hQ : ∀ c a w, Q (.panic c) (a.put oi.dst v) w → Q (.panic c) a w) {oz : Oper} (hz : ops[z]? = some oz) (hzi : ∃ e ∈ oz.after, Region.binds md e = true ∧ e.on = i) :
    ∀ (fuel : Nat) (listed : Array Bool) (a : Act) (w : World),
      (∀ j oj, ops[j]? = some oj → j ≠ i → listed.getD j true = false → (∀ e ∈ oj.after, Region.binds md e = true → e.on ≠ i) → oi.apart ops oj = true) →
      i ∈ Region.ready md ops listed → YieldsIf P ops S oi v a → S w →
      wpAnyL P md ops Q S z fuel (listed.setIfInBounds i true) (a.put oi.dst v) w → wpAnyL P md ops Q S z (fuel + 1) listed a w := by
  have hnz : ∀ {listed : Array Bool} {j : Nat}, i ∈ Region.ready md ops listed → j ∈ Region.ready md ops listed → j ≠ z := fun hr hj e => by
    subst e
    obtain ⟨e, he, hb, heq⟩ := hzi
    exact both_ready hr hj hz e he hb heq
  intro fuel
  induction fuel with
  | zero =>
    intro listed a w _ hr hy hS H
    refine ⟨fun h => (by rw [h] at hr; cases hr), fun j hj => ?_⟩
    by_cases hji : j = i
    · subst hji; exact hy.wpOp hi hS ⟨fun _ => hS, H⟩
    · have := ready_mono hj hji
      rw [H.1] at this
      cases this
  | succ fuel ih =>
    intro listed a w hfree hr hy hS H
    refine ⟨fun h => (by rw [h] at hr; cases hr), fun j hj => ?_⟩
    by_cases hji : j = i
    · subst hji; exact hy.wpOp hi hS ⟨fun _ => hS, H⟩
    · have h1 := H.2 j (ready_mono hj hji)
      obtain ⟨hjun, oj, hoj, hall⟩ := mem_ready.1 hj
      have hnot : ∀ e ∈ oj.after, Region.binds md e = true → e.on ≠ i := both_ready hr hj hoj
      have h2 := wpOp_putIf hoj (hfree j oj hoj hji hjun hnot) (fun cs b => hsel i oi cs b hi) (fun cs b => hsel j oj cs b hoj) hQ hy h1
      have hfree' : ∀ k ok, ops[k]? = some ok → k ≠ i → (listed.setIfInBounds j true).getD k true = false →
          (∀ e ∈ ok.after, Region.binds md e = true → e.on ≠ i) → oi.apart ops ok = true := fun k ok hk hki hun hno => by
        refine hfree k ok hk hki ?_ hno
        by_cases hjk : j = k
        · subst hjk; exact hjun
        · rw [getD_set_ne true hjk] at hun; exact hun
      have hjz := hnz hr hj
      refine wpOp_mono (fun a' w' h3 => ⟨h3.2.1, ih (listed.setIfInBounds j true) a' w' hfree' (ready_mono hr (Ne.symm hji)) h3.1 (h3.2.1 hjz) ?_⟩) h2
      rw [Array.setIfInBounds_comm _ _ hji]
      exact h3.2.2
theorem wpAnyL_take {i : Nat} {oi oz : Oper} {v : Value} {fuel : Nat} {listed : Array Bool} {a : Act} {w : World} (hi : ops[i]? = some oi) (hz : ops[z]? = some oz)
    (hs : Region.noSelect ops = true) (hf : Region.free md ops listed i = true) (hr : (Region.ready md ops listed).contains i = true) (hw : waits md oz i = true)
    (hQ : ∀ c a w, Q (.panic c) (a.put oi.dst v) w → Q (.panic c) a w) (hy : YieldsIf P ops S oi v a) (hS : S w)
    (h : wpAnyL P md ops Q S z fuel (listed.setIfInBounds i true) (a.put oi.dst v) w) : wpAnyL P md ops Q S z (fuel + 1) listed a w := by
  have hwz : ∃ e ∈ oz.after, Region.binds md e = true ∧ e.on = i := by
    obtain ⟨e, he, hb⟩ := Array.any_eq_true'.1 hw
    simp only [Bool.and_eq_true, beq_iff_eq] at hb
    exact ⟨e, he, hb⟩
  exact wpAnyL_first hi (Region.noSelect_spec hs) hQ hz hwz fuel listed a w (Region.free_spec hi hf) (by simpa using hr) hy hS h
theorem wpAnyL_one {i : Nat} {o : Oper} {fuel : Nat} {listed : Array Bool} {a : Act} {w : World} (hr : Region.ready md ops listed = [i]) (ho : ops[i]? = some o)
    (h : ∀ K' : Act → World → Prop, Shut (∀ a w, S w → (S w → wpAnyL P md ops Q S z fuel (listed.setIfInBounds i true) a w) → K' a w) → if Region.wanted o (yielded ops a.tmps) = true then Oper.wp P o a w K' Q else K' (a.put o.dst undef) w) :
    wpAnyL P md ops Q S z (fuel + 1) listed a w :=
  by
  refine ⟨fun h0 => ?_, fun j hj => ?_⟩
  · rw [hr] at h0; cases h0
  · rw [hr] at hj
    obtain rfl := List.mem_singleton.1 hj
    exact wpOp_step ho (fun K' hK => h K' (fun a w hS hW => hK a w ⟨fun _ => hS, hW hS⟩))
theorem wpAnyL_two {i j : Nat} {o o' : Oper} {fuel : Nat} {listed : Array Bool} {a : Act} {w : World} (hr : Region.ready md ops listed = [i, j]) (ho : ops[i]? = some o) (ho' : ops[j]? = some o')
    (h : ∀ K' : Act → World → Prop, Shut (∀ a w, S w → (S w → wpAnyL P md ops Q S z fuel (listed.setIfInBounds i true) a w) → K' a w) → if Region.wanted o (yielded ops a.tmps) = true then Oper.wp P o a w K' Q else K' (a.put o.dst undef) w)
    (h' : ∀ K' : Act → World → Prop, Shut (∀ a w, S w → (S w → wpAnyL P md ops Q S z fuel (listed.setIfInBounds j true) a w) → K' a w) → if Region.wanted o' (yielded ops a.tmps) = true then Oper.wp P o' a w K' Q else K' (a.put o'.dst undef) w) :
    wpAnyL P md ops Q S z (fuel + 1) listed a w := by
  refine ⟨fun h0 => ?_, fun k hk => ?_⟩
  · rw [hr] at h0; cases h0
  · rw [hr] at hk
    rcases List.mem_cons.1 hk with rfl | hk
    · exact wpOp_step ho (fun K' hK => h K' (fun a w hS hW => hK a w ⟨fun _ => hS, hW hS⟩))
    · obtain rfl := List.mem_singleton.1 hk
      exact wpOp_step ho' (fun K' hK => h' K' (fun a w hS hW => hK a w ⟨fun _ => hS, hW hS⟩))
theorem wpAnyL_last {o : Oper} {fuel : Nat} {listed : Array Bool} {a : Act} {w : World} (hr : Region.ready md ops listed = [z]) (ho : ops[z]? = some o) (hd : Region.ready md ops (listed.setIfInBounds z true) = [])
    (h : ∀ K' : Act → World → Prop, Shut (∀ a w, Q .normal a w → K' a w) → if Region.wanted o (yielded ops a.tmps) = true then Oper.wp P o a w K' Q else K' (a.put o.dst undef) w) :
    wpAnyL P md ops Q S z (fuel + 1) listed a w :=
  by
  refine ⟨fun h0 => ?_, fun j hj => ?_⟩
  · rw [hr] at h0; cases h0
  · rw [hr] at hj
    obtain rfl := List.mem_singleton.1 hj
    refine wpOp_step ho (fun K' hK => h K' (fun a w hq => hK a w ⟨fun h => absurd rfl h, ?_⟩))
    cases fuel with
    | zero => exact ⟨hd, hq⟩
    | succ k => exact ⟨fun _ => hq, by rw [hd]; simp⟩
theorem wp_region_later {id : Nat} {a : Act} {w : World} (z : Nat) (hm : P.follows .mixedOrders = true) (hS : S w.drew)
    (h : S w.drew → wpAnyL P .any ops Q S z ops.size (Array.replicate ops.size false) a w.drew) : (Code.region id ops true).wp P Q a w :=
  wp_region_any hm (wpAny_of_later _ _ _ _ (h hS))
end
end Go.Proofs.YteammdkipnfmnaaGreatDoor.last

namespace Go.Proofs.YteammdkipnfmnaaGreatDoor.range
open Go Go.RowKit Go.Proofs.YteammdkipnfmnaaGreatDoor.base Go.Proofs.YteammdkipnfmnaaGreatDoor.pairs Go.Proofs.YteammdkipnfmnaaGreatDoor.tree
set_option linter.unusedVariables false
set_option linter.unusedSimpArgs false

def tinyI (x : It) : Prop := (x.1.1.size ≤ 13 ∧ x.1.2.size ≤ 21) ∧ x.2.length ≤ 61 ∧ ∀ s ∈ x.2, s.size ≤ 32
theorem tinyI.lim {x : It} (h : tinyI x) : limI x := ⟨⟨by have := h.1.1; omega, by have := h.1.2; omega⟩, fun s hs => by have := h.2.2 s hs; omega⟩
theorem tinyI.small {x : It} (h : tinyI x) : smallI x := ⟨⟨Nat.le_trans h.1.1 (by decide), Nat.le_trans h.1.2 (by decide)⟩, fun s hs => Nat.le_trans (h.2.2 s hs) (by decide)⟩

theorem sls_cells' {w : World} {b o : Nat} {p : List ByteArray} (h : SlS w (some ⟨b, o, none⟩) p.length p) : ∀ j u, (strVals p)[j]? = some u → w.cell? ((⟨b, o, none⟩ : Addr).add j) = some u := by
  intro j u hu
  have hj : j < p.length := by have := (List.getElem?_eq_some_iff.1 hu).1; rwa [strVals_length] at this
  obtain ⟨b', o', e, hc⟩ := h.2.2.2 (by omega)
  simp only [Option.some.injEq, Addr.mk.injEq, and_true] at e
  obtain ⟨rfl, rfl⟩ := e
  rw [Addr.add_lit, hc j hj, ← hu]
  simp [strVals, hj]
theorem v3_grown {w w' : World} {g : Nat} {t : TypeId} {x y z : Value} {row : Option Nat} (h : V3 w g t x y z) (hg : w.grownBy w' row) (hne : some g ≠ row) : V3 w' g t x y z := (hg.block g h.lt hne).trans h
theorem strVals_one (ss : List ByteArray) : ∀ u ∈ strVals ss, u.oneCell' = true := by
  intro u hu
  obtain ⟨s, _, rfl⟩ := List.mem_map.1 hu
  rfl
theorem v3_fz {w : World} {g : Nat} {t : TypeId} {x y z : Value} (h : V3 w g t x y z) (j : Nat) : w.frozen? ⟨g, j, none⟩ = false := by
  unfold V3 at h; simp [World.frozen?, h]
set_option maxRecDepth 100000 in
set_option maxHeartbeats 8000000 in
theorem spec_l5Copy (n fr : Int) (a : Option Addr) (m c : Nat) (its : List It) (w : World) (hJ : SlJ w a m its) (hm : m ≤ 1000) (ht : ∀ x ∈ its, tinyI x) :
    Calls Tryz.prog 55 #[.agg #[.int .i64 n, .int .i64 fr, .slice a m c]] w (PPost w ⟨n, fr, its⟩) := by
  obtain ⟨i0, hif, hz0, hz1, hz2⟩ := info_parts infoI
  obtain ⟨j0, hjf, hy0, hy1, hy2⟩ := info_parts info9
  have hlen := hJ.1
  subst hlen
  obtain ⟨w0, hw0⟩ : ∃ w0, (w.alloc (.cells #[.int .i64 n, .int .i64 fr, .slice a its.length c] 64)).alloc (.cells #[.int .i64 0, .int .i64 0, .slice none 0 0] 64) = w0 := ⟨_, rfl⟩
  have hb0 : Below w.heap.size w w0 := by rw [← hw0]; exact ((Below.refl _ _).alloc (Nat.le_refl _) _).alloc (by simp) _
  have hs0 : w0.heap.size = w.heap.size + 2 := by rw [← hw0]; simp
  have hV0 : V3 w0 w.heap.size 64 (.int .i64 n) (.int .i64 fr) (.slice a its.length c) := by
    rw [← hw0]; exact V3.below (heap_alloc_new w _) ((Below.refl _ _).alloc (Nat.le_refl _) _)
  have hR0 : V3 w0 (w.heap.size + 1) 64 (.int .i64 0) (.int .i64 0) (.slice none 0 0) := by
    rw [← hw0]
    have := heap_alloc_new (w.alloc (.cells #[.int .i64 n, .int .i64 fr, .slice a its.length c] 64)) (.cells #[.int .i64 0, .int .i64 0, .slice none 0 0] 64)
    rw [show (w.alloc (.cells #[.int .i64 n, .int .i64 fr, .slice a its.length c] 64)).heap.size = w.heap.size + 1 by simp] at this
    exact this
  have u0 := hV0.c0
  have u1 := hV0.c1
  obtain ⟨w1, hw1⟩ : ∃ w1, w0.alloc (.cells #[.int .i64 n, .int .i64 fr, .slice none 0 0] 64) = w1 := ⟨_, rfl⟩
  have hb1 : Below w0.heap.size w0 w1 := by rw [← hw1]; exact (Below.refl _ _).alloc (Nat.le_refl _) _
  have hs1 : w1.heap.size = w.heap.size + 3 := by rw [← hw1]; simp [hs0]
  have hF1 : FVar w1 (w.heap.size + 2) n fr (.slice none 0 0) := by rw [← hw1, ← hs0]; exact heap_alloc_new w0 _
  have hV1 := hV0.below hb1
  have hR1 := hR0.below hb1
  have hB1 := hb0.trans (hb1.mono hb0.size)
  have HJ := Hid.mk' hJ
  have HW1 := Hid.mk' hw1
  clear hJ hw1
  go_enter Tryz.func55, Tryz.ntmps55
  go_wp2_with (at_builtin; fail)
  rw [HW1.out]
  clear HW1 hw0 u0 u1 hV0 hR0 hb1 hb0 hs0
  go_loopw [4] (fun kv wr => ∃ (k : Nat) (v : Value) (hs : List Hd), kv = .int .i64 (k : Int) ∧ k ≤ its.length ∧ FVar wr (w.heap.size + 2) n fr v ∧ OwnI wr (w.heap.size + 3) v (its.take k) hs ∧ V3 wr w.heap.size 64 (.int .i64 n) (.int .i64 fr) (.slice a its.length c) ∧ V3 wr (w.heap.size + 1) 64 (.int .i64 0) (.int .i64 0) (.slice none 0 0) ∧ Below w.heap.size w wr ∧ w.heap.size + 3 ≤ wr.heap.size) (fun kv _ => its.length - (intOf kv).toNat)
  case atStart => exact ⟨0, .slice none 0 0, [], rfl, Nat.zero_le _, hF1, ownI_nil _ _, hV1, hR1, hB1, by omega⟩
  case round =>
    obtain ⟨k, v, hs, rfl, hk, hF, hO, hV, hR, hB, hsz⟩ := hrel
    clear hF1 hV1 hR1 hB1 hs1
    have e2 := hF.c2
    have e0 := hF.c0
    have e1 := hF.c1
    have a2 := hV.c2
    by_cases hlt : k < its.length
    · obtain ⟨ib, io, ha, hc⟩ := HJ.out.2.2.2 (by omega)
      subst ha
      obtain ⟨c1, c2, pb, po, pc, c3, hS, hpc⟩ := hc k hlt
      have htx := ht its[k] (List.getElem_mem hlt)
      have hki : (k : Int) < (its.length : Int) := by omega
      have HX : Hid (its.take (k + 1) = its.take k ++ [(its[k].1, its[k].2)]) := List.take_succ_eq_append_getElem hlt
      have htl : (its.take k).length = k := by rw [List.length_take]; omega
      obtain ⟨x, hx⟩ : ∃ x, its[k] = x := ⟨_, rfl⟩
      simp only [hx] at c1 c2 c3 hS hpc htx HX
      clear hx hc
      have hbl : ib < w.heap.size := World.block_lt_of_cell? w _ c1
      have HQ1 : Hid (∀ wx, Below w.heap.size w wx → wx.cell? ⟨ib, io + k * 3, none⟩ = some (.string x.1.1)) := fun wx hx => (hx.cell (p := ⟨ib, io + k * 3, none⟩) hbl).trans c1
      have HQ2 : Hid (∀ wx, Below w.heap.size w wx → wx.cell? ⟨ib, io + k * 3 + 1, none⟩ = some (.string x.1.2)) := fun wx hx => (hx.cell (p := ⟨ib, io + k * 3 + 1, none⟩) hbl).trans c2
      have HQ3 : Hid (∀ wx, Below w.heap.size w wx → wx.cell? ⟨ib, io + k * 3 + 2, none⟩ = some (.slice (some ⟨pb, po, none⟩) x.2.length pc)) := fun wx hx => (hx.cell (p := ⟨ib, io + k * 3 + 2, none⟩) hbl).trans c3
      have HS := Hid.mk' hS
      have HF := Hid.mk' hF
      have HV := Hid.mk' hV
      have HR := Hid.mk' hR
      have HO := Hid.mk' hO
      generalize its.take k = T at *
      have HTL := Hid.mk' htl
      have hT9 : T.length ≤ 1000 := by omega
      clear htl
      have hx1 := htx.1.1
      have hx2 := htx.1.2
      have hx3 := htx.2.1
      have hne : some (w.heap.size + 2) ≠ v.ownBlock := fun e => by have := (HO.out.row.lt _ e.symm).1; omega
      have hneV : some w.heap.size ≠ v.ownBlock := fun e => by have := (HO.out.row.lt _ e.symm).1; omega
      have hneR : some (w.heap.size + 1) ≠ v.ownBlock := fun e => by have := (HO.out.row.lt _ e.symm).1; omega
      have hS0 : FVar wr.drew (w.heap.size + 2) n fr v ∧ V3 wr.drew w.heap.size 64 (.int .i64 n) (.int .i64 fr) (.slice (some ⟨ib, io, none⟩) its.length c) ∧ Below w.heap.size w wr.drew := ⟨hF, hV, hB.drew⟩
      have hd : Below wr.heap.size wr wr.drew := (Below.refl _ _).drew
      have hc3' : 0 + x.2.length ≤ maxLen := by unfold maxLen; omega
      have hc4' : (0 + x.2.length) * 16 ≤ 140737488355328 := by omega
      have hc5 : T.length + 1 ≤ maxLen := by unfold maxLen; omega
      have hc6 : (T.length + 1) * 56 ≤ 140737488355328 := by omega
      clear hF hO hV hR hS c1 c2 c3 e0 e1
      go_wp2_with (at_builtin; fail)
      refine last.wp_region_later (S := fun w' => FVar w' (w.heap.size + 2) n fr v ∧ V3 w' w.heap.size 64 (.int .i64 n) (.int .i64 fr) (.slice (some ⟨ib, io, none⟩) its.length c) ∧ Below w.heap.size w w') 20 (by kernel_rfl) hS0 (fun hHeld => ?_)
      refine last.wpAnyL_take (i := 0) (v := (.pointer (some ⟨w.heap.size + 2, 2, none⟩))) rfl rfl (by kernel_rfl) (by kernel_rfl) (by kernel_rfl) (by kernel_rfl) (fun _ _ _ h => h) (Or.inl ⟨by rfl, ?_⟩) (by assumption) ?_
      · intro wq hSq; go_simp
      try simp only [Act.put, List.setIfInBounds_toArray, List.set_cons_zero, List.set_cons_succ]
      refine last.wpAnyL_take (i := 1) (v := v) rfl rfl (by kernel_rfl) (by kernel_rfl) (by kernel_rfl) (by kernel_rfl) (fun _ _ _ h => h) (Or.inl ⟨by rfl, ?_⟩) (by assumption) ?_
      · intro wq hSq; have q := hSq.1.c2; go_simp
      try simp only [Act.put, List.setIfInBounds_toArray, List.set_cons_zero, List.set_cons_succ]
      refine last.wpAnyL_take (i := 2) (v := (.pointer (some ⟨w.heap.size, 2, none⟩))) rfl rfl (by kernel_rfl) (by kernel_rfl) (by kernel_rfl) (by kernel_rfl) (fun _ _ _ h => h) (Or.inl ⟨by rfl, ?_⟩) (by assumption) ?_
      · intro wq hSq; go_simp
      try simp only [Act.put, List.setIfInBounds_toArray, List.set_cons_zero, List.set_cons_succ]
      refine last.wpAnyL_take (i := 3) (v := (.slice (some ⟨ib, io, none⟩) its.length c)) rfl rfl (by kernel_rfl) (by kernel_rfl) (by kernel_rfl) (by kernel_rfl) (fun _ _ _ h => h) (Or.inl ⟨by rfl, ?_⟩) (by assumption) ?_
      · intro wq hSq; have q := hSq.2.1.c2; go_simp
      try simp only [Act.put, List.setIfInBounds_toArray, List.set_cons_zero, List.set_cons_succ]
      refine last.wpAnyL_take (i := 4) (v := (.int .i64 (k : Int))) rfl rfl (by kernel_rfl) (by kernel_rfl) (by kernel_rfl) (by kernel_rfl) (fun _ _ _ h => h) (Or.inl ⟨by rfl, ?_⟩) (by assumption) ?_
      · intro wq hSq; go_simp
      try simp only [Act.put, List.setIfInBounds_toArray, List.set_cons_zero, List.set_cons_succ]
      refine last.wpAnyL_take (i := 5) (v := (.pointer (some ⟨ib, io + k * 3, none⟩))) rfl rfl (by kernel_rfl) (by kernel_rfl) (by kernel_rfl) (by kernel_rfl) (fun _ _ _ h => h) (Or.inl ⟨by rfl, ?_⟩) (by assumption) ?_
      · intro wq hSq; go_simp
      try simp only [Act.put, List.setIfInBounds_toArray, List.set_cons_zero, List.set_cons_succ]
      refine last.wpAnyL_take (i := 6) (v := (.pointer (some ⟨ib, io + k * 3, none⟩))) rfl rfl (by kernel_rfl) (by kernel_rfl) (by kernel_rfl) (by kernel_rfl) (fun _ _ _ h => h) (Or.inl ⟨by rfl, ?_⟩) (by assumption) ?_
      · intro wq hSq; go_simp
      try simp only [Act.put, List.setIfInBounds_toArray, List.set_cons_zero, List.set_cons_succ]
      refine last.wpAnyL_take (i := 7) (v := (.agg #[.string x.1.1, .string x.1.2])) rfl rfl (by kernel_rfl) (by kernel_rfl) (by kernel_rfl) (by kernel_rfl) (fun _ _ _ h => h) (Or.inl ⟨by rfl, ?_⟩) (by assumption) ?_
      · intro wq hSq; have q1 := HQ1.out wq hSq.2.2; have q2 := HQ2.out wq hSq.2.2; go_simp
      try simp only [Act.put, List.setIfInBounds_toArray, List.set_cons_zero, List.set_cons_succ]
      refine last.wpAnyL_take (i := 9) (v := (.pointer (some ⟨w.heap.size, 2, none⟩))) rfl rfl (by kernel_rfl) (by kernel_rfl) (by kernel_rfl) (by kernel_rfl) (fun _ _ _ h => h) (Or.inl ⟨by rfl, ?_⟩) (by assumption) ?_
      · intro wq hSq; go_simp
      try simp only [Act.put, List.setIfInBounds_toArray, List.set_cons_zero, List.set_cons_succ]
      refine last.wpAnyL_take (i := 10) (v := (.slice (some ⟨ib, io, none⟩) its.length c)) rfl rfl (by kernel_rfl) (by kernel_rfl) (by kernel_rfl) (by kernel_rfl) (fun _ _ _ h => h) (Or.inl ⟨by rfl, ?_⟩) (by assumption) ?_
      · intro wq hSq; have q := hSq.2.1.c2; go_simp
      try simp only [Act.put, List.setIfInBounds_toArray, List.set_cons_zero, List.set_cons_succ]
      refine last.wpAnyL_take (i := 11) (v := (.int .i64 (k : Int))) rfl rfl (by kernel_rfl) (by kernel_rfl) (by kernel_rfl) (by kernel_rfl) (fun _ _ _ h => h) (Or.inl ⟨by rfl, ?_⟩) (by assumption) ?_
      · intro wq hSq; go_simp
      try simp only [Act.put, List.setIfInBounds_toArray, List.set_cons_zero, List.set_cons_succ]
      refine last.wpAnyL_take (i := 12) (v := (.pointer (some ⟨ib, io + k * 3, none⟩))) rfl rfl (by kernel_rfl) (by kernel_rfl) (by kernel_rfl) (by kernel_rfl) (fun _ _ _ h => h) (Or.inl ⟨by rfl, ?_⟩) (by assumption) ?_
      · intro wq hSq; go_simp
      try simp only [Act.put, List.setIfInBounds_toArray, List.set_cons_zero, List.set_cons_succ]
      refine last.wpAnyL_take (i := 13) (v := (.pointer (some ⟨ib, io + k * 3 + 2, none⟩))) rfl rfl (by kernel_rfl) (by kernel_rfl) (by kernel_rfl) (by kernel_rfl) (fun _ _ _ h => h) (Or.inl ⟨by rfl, ?_⟩) (by assumption) ?_
      · intro wq hSq; go_simp
      try simp only [Act.put, List.setIfInBounds_toArray, List.set_cons_zero, List.set_cons_succ]
      refine last.wpAnyL_take (i := 14) (v := (.slice (some ⟨pb, po, none⟩) x.2.length pc)) rfl rfl (by kernel_rfl) (by kernel_rfl) (by kernel_rfl) (by kernel_rfl) (fun _ _ _ h => h) (Or.inl ⟨by rfl, ?_⟩) (by assumption) ?_
      · intro wq hSq; have q := HQ3.out wq hSq.2.2; go_simp
      try simp only [Act.put, List.setIfInBounds_toArray, List.set_cons_zero, List.set_cons_succ]
      refine last.wpAnyL_one (i := 8) (o := { dst := some 25, op := Op.buildSlice 24 0 #[], type := 24, pos := "l05_range.go:71", after := #[], guard := none }) (by kernel_rfl) rfl (fun K hK => ?_)
      go_simp
      have hbA : Below wr.heap.size wr (wr.drew.alloc (.cells #[] 9)) := hd.alloc hd.size _
      refine hK.out _ _ ?_ (fun hHeld => ?_)
      · exact ⟨HF.out.below hbA, HV.out.below hbA, hB.trans (hbA.mono hB.size)⟩
      clear hK K
      try simp only [Act.put, List.setIfInBounds_toArray, List.set_cons_zero, List.set_cons_succ]
      refine last.wpAnyL_one (i := 15) (o := { dst := some 32, op := Op.call { callee := Callee.builtin Builtin.append, args := #[Operand.tmp 25, Operand.tmp 31], argTypes := #[24, 24] }, type := 24, pos := "l05_range.go:71", after := #[{ on := 8, ground := Ground.data }, { on := 14, ground := Ground.data }], guard := none }) (by kernel_rfl) rfl (fun K hK => ?_)
      have hOm := ownS_made wr.drew wr.heap.size (Nat.le_refl _)
      have hSA := HS.out.below (hB.trans (hbA.mono hB.size))
      refine step_append_own rfl (.tmp 25) (.tmp 31) 24 rfl wr.heap.size 9 j0 (.string ⟨#[]⟩) 1 16 Tryz.underlying24 hjf hy0 hy1 hy2 rfl (by decide) _ _ _ rfl hOm.2.2 ⟨pb, po, none⟩ x.2.length pc (strVals x.2) rfl (by rw [strVals_length]; omega) (sls_cells' hSA) (strVals_one x.2) hc3' hc4' (le_alloc _ _ (Nat.le_refl _)) ?_
      intro v5 w5 hown hgrow hnn
      have hnn' : ¬ v5 = .slice none 0 0 := fun e => by first | exact hnn e | (have := (hnn.1 e).1; cases this)
      obtain ⟨g5, c5, hv5, hO5⟩ := ownS_val (ss := x.2) (n := x.2.length) rfl (fun s hs => Nat.le_trans (htx.2.2 s hs) (by decide)) hnn' (by have h9 := hown; rw [show strVals [] ++ strVals x.2 = strVals x.2 from rfl] at h9; simpa using h9)
      subst hv5
      have hgr5 : (wr.drew.alloc (.cells #[] 9)).grownBy w5 (some wr.heap.size) := hgrow
      have hb5 : Below wr.heap.size wr w5 := hbA.grown hgr5 hbA.size (fun k e => by cases e; exact Nat.le_refl _)
      have hW5 := hB.trans (hb5.mono hB.size)
      have hg5 : wr.heap.size ≤ g5 := hO5.lt.1
      refine hK.out _ _ ?_ (fun hHeld => ?_)
      · exact ⟨HF.out.below hb5, HV.out.below hb5, hW5⟩
      clear hK K
      try simp only [Act.put, List.setIfInBounds_toArray, List.set_cons_zero, List.set_cons_succ]
      refine last.wpAnyL_take (i := 16) (v := (.agg #[.string x.1.1, .string x.1.2, .slice (some ⟨g5, 0, none⟩) x.2.length c5])) rfl rfl (by kernel_rfl) (by kernel_rfl) (by kernel_rfl) (by kernel_rfl) (fun _ _ _ h => h) (Or.inl ⟨by rfl, ?_⟩) (by assumption) ?_
      · intro wq hSq; go_simp
      try simp only [Act.put, List.setIfInBounds_toArray, List.set_cons_zero, List.set_cons_succ]
      refine last.wpAnyL_one (i := 17) (o := { dst := some 34, op := Op.buildSlice 62 1 #[(0, Operand.tmp 33)], type := 62, pos := "l05_range.go:71", after := #[{ on := 16, ground := Ground.data }], guard := none }) (by kernel_rfl) rfl (fun K hK => ?_)
      go_simp
      have hb6 : Below wr.heap.size wr (w5.alloc (.cells #[.string x.1.1, .string x.1.2, .slice (some ⟨g5, 0, none⟩) x.2.length c5] 107)) := hb5.alloc hb5.size _
      have hW6 := hB.trans (hb6.mono hB.size)
      refine hK.out _ _ ?_ (fun hHeld => ?_)
      · exact ⟨HF.out.below hb6, HV.out.below hb6, hW6⟩
      clear hK K
      try simp only [Act.put, List.setIfInBounds_toArray, List.set_cons_zero, List.set_cons_succ]
      refine last.wpAnyL_one (i := 18) (o := { dst := some 35, op := Op.call { callee := Callee.builtin Builtin.append, args := #[Operand.tmp 18, Operand.tmp 34], argTypes := #[62, 62] }, type := 62, pos := "l05_range.go:71", after := #[{ on := 1, ground := Ground.data }, { on := 17, ground := Ground.data }, { on := 15, ground := Ground.chain }], guard := none }) (by kernel_rfl) rfl (fun K hK => ?_)
      refine step_append_own rfl (.tmp 18) (.tmp 34) 62 rfl (w.heap.size + 3) 107 i0 (.agg #[.string ⟨#[]⟩, .string ⟨#[]⟩, .slice none 0 0]) 3 56 Tryz.underlying62 hif hz0 hz1 hz2 rfl (by decide) _ _ _ rfl ((HO.out.below hb5).row.alloc _) ⟨w5.heap.size, 0, none⟩ 1 1 [.string x.1.1, .string x.1.2, .slice (some ⟨g5, 0, none⟩) x.2.length c5] rfl rfl (cells_three _ _ _ _ _) (three_oneCell _ _ _ _ _) hc5 hc6 (le_alloc _ _ (Nat.le_trans hsz hb5.size)) ?_
      intro v7 w7 hown7 hgrow7 hnn7
      obtain ⟨g7, c7, hv7⟩ := row_shape hown7 (fun e => by have := (hnn7.1 e).2; omega)
      subst hv7
      have hW7 : Below w.heap.size w w7 := hW6.grown hgrow7 hW6.size (fun j e => by have := (HO.out.row.lt j e).1; omega)
      have HF7 := Hid.mk' (fvar_grown (HF.out.below hb5) hgrow7 hne)
      have HV7 := Hid.mk' (v3_grown ((HV.out.below hb6)) hgrow7 hneV)
      have HR7 := Hid.mk' (v3_grown ((HR.out.below hb6)) hgrow7 hneR)
      refine hK.out _ _ ?_ (fun hHeld => ?_)
      · exact ⟨HF7.out, HV7.out, hW7⟩
      clear hK K
      try simp only [Act.put, List.setIfInBounds_toArray, List.set_cons_zero, List.set_cons_succ]
      refine last.wpAnyL_take (i := 19) (v := (.pointer (some ⟨w.heap.size + 2, 2, none⟩))) rfl rfl (by kernel_rfl) (by kernel_rfl) (by kernel_rfl) (by kernel_rfl) (fun _ _ _ h => h) (Or.inl ⟨by rfl, ?_⟩) (by assumption) ?_
      · intro wq hSq; go_simp
      try simp only [Act.put, List.setIfInBounds_toArray, List.set_cons_zero, List.set_cons_succ]
      have e7 := HF7.out.c2
      have f7 := HF7.out.fz 2
      refine last.wpAnyL_last (o := { dst := none, op := Op.store 62 (Operand.tmp 36) (Operand.tmp 35), type := 0, pos := "l05_range.go:71", after := #[{ on := 19, ground := Ground.data }, { on := 18, ground := Ground.data }, { on := 18, ground := Ground.chain }, { on := 0, ground := Ground.phase }, { on := 1, ground := Ground.phase }, { on := 2, ground := Ground.phase }, { on := 3, ground := Ground.phase }, { on := 4, ground := Ground.phase }, { on := 5, ground := Ground.phase }, { on := 6, ground := Ground.phase }, { on := 7, ground := Ground.phase }, { on := 8, ground := Ground.phase }, { on := 9, ground := Ground.phase }, { on := 10, ground := Ground.phase }, { on := 11, ground := Ground.phase }, { on := 12, ground := Ground.phase }, { on := 13, ground := Ground.phase }, { on := 14, ground := Ground.phase }, { on := 15, ground := Ground.phase }, { on := 16, ground := Ground.phase }, { on := 17, ground := Ground.phase }, { on := 18, ground := Ground.phase }], guard := none }) (by kernel_rfl) rfl (by kernel_rfl) (fun K hK => ?_)
      go_simp
      refine hK.out _ _ ?_
      clear hK K
      have hO7 := HO.out.snoc hb5 (hO5.mono hsz) hg5 htx.small.1 _ hown7 hgrow7
      rw [← HX.out] at hO7
      have hG7 := set_cur HF7.out 2 (.slice (some ⟨g7, 0, none⟩) (T.length + 1) c7)
      have HO8 := Hid.mk' (hO7.grown hG7.2 (fun hh => by have := (hO7.lt _ hh).1; omega))
      have HF8 : Hid (FVar _ (w.heap.size + 2) n fr (.slice (some ⟨g7, 0, none⟩) (T.length + 1) c7)) := hG7.1
      have HV8 := Hid.mk' (v3_grown HV7.out hG7.2 (by simp))
      have HR8 := Hid.mk' (v3_grown HR7.out hG7.2 (by simp))
      have hW8 := hW7.grown hG7.2 hW7.size (fun k e => by cases e; omega)
      have hs8 : w.heap.size + 3 ≤ (w7.setCell ⟨w.heap.size + 2, 2, none⟩ (.slice (some ⟨g7, 0, none⟩) (T.length + 1) c7)).heap.size := Nat.le_trans hsz (Nat.le_trans hb6.size (Nat.le_trans hgrow7.size hG7.2.size))
      clear hO7 hG7 hgrow7 hown7 hnn7 HF7 HV7 HR7 e7 f7 hO5 hb5 hb6 hgr5 hgrow hown hnn hnn' hHeld HF HV HR HO hOm hSA HS hbA
      go_wp2_with (at_builtin; fail)
      go_roundw
      case rel => exact ⟨k + 1, _, _, by go_num, by omega, HF8.out, HO8.out, HV8.out, HR8.out, hW8, hs8⟩
      case measure => simp [intOf]; omega
    · have hki : ¬ (k : Int) < (its.length : Int) := by omega
      have hke : k = its.length := by omega
      have r0 := hR.c0
      have r1 := hR.c1
      have r2 := hR.c2
      have a0 := hF.c0
      have a1 := hF.c1
      have f0 := v3_fz hR 0
      have f1 := v3_fz hR 1
      have f2 := v3_fz hR 2
      have hBz := ((hB.setCell (p := ⟨w.heap.size + 1, 0, none⟩) (Nat.le_succ _) (.int .i64 n)).setCell (p := ⟨w.heap.size + 1, 1, none⟩) (Nat.le_succ _) (.int .i64 fr)).setCell (p := ⟨w.heap.size + 1, 2, none⟩) (Nat.le_succ _) v
      have hOz : OwnI (((wr.setCell ⟨w.heap.size + 1, 0, none⟩ (.int .i64 n)).setCell ⟨w.heap.size + 1, 1, none⟩ (.int .i64 fr)).setCell ⟨w.heap.size + 1, 2, none⟩ v) (w.heap.size + 3) v (its.take k) hs := by
        refine hO.of_blocks (fun j hj => ?_)
        have hj2 := (hO.lt j hj).1
        have hjn : j ≠ w.heap.size + 1 := by omega
        rw [heap_setCell_other _ ⟨w.heap.size + 1, 2, none⟩ j _ hjn, heap_setCell_other _ ⟨w.heap.size + 1, 1, none⟩ j _ hjn, heap_setCell_other _ ⟨w.heap.size + 1, 0, none⟩ j _ hjn]
      rw [hke, List.take_length] at hOz
      have HOZ := Hid.mk' (hOz.mono (base' := w.heap.size) (by omega))
      obtain ⟨sa, sm, sc, hv⟩ : ∃ sa sm sc, v = .slice sa sm sc := by
        rcases hO.shape with ⟨rfl, _, _⟩ | ⟨g, cg, rfl, _, _⟩
        · exact ⟨_, _, _, rfl⟩
        · exact ⟨_, _, _, rfl⟩
      subst hv
      have HPO : Hid (PPost w ⟨n, fr, its⟩ (.returned (.agg #[.int .i64 n, .int .i64 fr, .slice sa sm sc])) (((wr.setCell ⟨w.heap.size + 1, 0, none⟩ (.int .i64 n)).setCell ⟨w.heap.size + 1, 1, none⟩ (.int .i64 fr)).setCell ⟨w.heap.size + 1, 2, none⟩ (.slice sa sm sc))) := ⟨sa, sm, sc, hs, rfl, HOZ.out, hBz⟩
      clear hO hF hOz hBz hB hV hR HOZ HJ hke e0 e1
      go_wp2_with (at_builtin; fail)
      refine bodyPost_ret (v := .agg #[.int .i64 n, .int .i64 fr, .slice sa sm sc]) ?h1 rfl HPO.out
      simp [results, Tryz.results55, go_sem, a0, a1, e2, r0, r1, r2]
end Go.Proofs.YteammdkipnfmnaaGreatDoor.range

namespace Go.Proofs.YteammdkipnfmnaaGreatDoor.bun
open Go Go.RowKit Go.Proofs.YteammdkipnfmnaaGreatDoor.base Go.Proofs.YteammdkipnfmnaaGreatDoor.pairs Go.Proofs.YteammdkipnfmnaaGreatDoor.tree Go.Proofs.YteammdkipnfmnaaGreatDoor.lay Go.Proofs.YteammdkipnfmnaaGreatDoor.range Go.Proofs.YteammdkipnfmnaaGreatDoor.seals
set_option linter.unusedVariables false
set_option linter.unusedSimpArgs false

def sm64 (s : ByteArray) : Prop := s.size ≤ 64
def itS (x : It) : Prop := sm64 x.1.1 ∧ sm64 x.1.2 ∧ x.2.length ≤ 64 ∧ ∀ s ∈ x.2, sm64 s
theorem itS.lim {x : It} (h : itS x) : limI x := by
  obtain ⟨h1, h2, _, h4⟩ := h
  exact ⟨⟨by unfold sm64 at h1; omega, by unfold sm64 at h2; omega⟩, fun s hs => by have := h4 s hs; unfold sm64 at this; omega⟩
theorem tinyI.itS {x : It} (h : tinyI x) : itS x := by
  obtain ⟨⟨h1, h2⟩, h3, h4⟩ := h
  exact ⟨by unfold sm64; omega, by unfold sm64; omega, by omega, fun s hs => by have := h4 s hs; unfold sm64; omega⟩
def RJ (w : World) (a : Option Addr) (n : Nat) : Prop := ∃ rs : List ByteArray, SlS w a n rs ∧ ∀ r ∈ rs, sm64 r
def IJ (w : World) (a : Option Addr) (n : Nat) : Prop := ∃ its : List It, SlJ w a n its ∧ ∀ x ∈ its, itS x
def FJ (w : World) (a : Option Addr) (n : Nat) : Prop :=
  0 < n → ∃ b off, a = some ⟨b, off, none⟩ ∧ ∀ i, i < n → ∃ (z1 z2 : Int) (ia : Option Addr) (m ic : Nat), w.cell? ⟨b, off + i * 3, none⟩ = some (.int .i64 z1) ∧ w.cell? ⟨b, off + i * 3 + 1, none⟩ = some (.int .i64 z2) ∧ w.cell? ⟨b, off + i * 3 + 2, none⟩ = some (.slice ia m ic) ∧ m ≤ 100 ∧ (Lit.int .i64 z1).wf = true ∧ (Lit.int .i64 z2).wf = true ∧ IJ w ia m
theorem list_of {α : Type} {P : Nat → α → Prop} : ∀ (n : Nat), (∀ i, i < n → ∃ x, P i x) → ∃ l : List α, l.length = n ∧ ∀ i (h : i < l.length), P i l[i] := by
  intro n
  induction n with
  | zero => intro _; exact ⟨[], rfl, fun i h => absurd h (by simp)⟩
  | succ n ih =>
    intro h
    obtain ⟨l, hl, hP⟩ := ih (fun i hi => h i (by omega))
    obtain ⟨x, hx⟩ := h n (by omega)
    refine ⟨l ++ [x], by simp [hl], fun i hi => ?_⟩
    by_cases e : i < l.length
    · rw [List.getElem_append_left e]; exact hP i e
    · have : i = l.length := by simp at hi; omega
      subst this
      rw [List.getElem_append_right (Nat.le_refl _)]
      simp only [Nat.sub_self, List.getElem_cons_zero]
      rw [hl]; exact hx
theorem fj_pj {w : World} {a : Option Addr} {n : Nat} (h : FJ w a n) (hn : n ≤ maxLen) : ∃ l : List Pf, PJ w a n l ∧ ∀ f ∈ l, f.2.2.length ≤ 100 := by
  by_cases h0 : 0 < n
  · obtain ⟨b, off, rfl, hi⟩ := h h0
    obtain ⟨l, hl, hP⟩ := list_of (P := fun i (f : Pf) => ∃ ia ic, w.cell? ⟨b, off + i * 3, none⟩ = some (.int .i64 f.1) ∧ w.cell? ⟨b, off + i * 3 + 1, none⟩ = some (.int .i64 f.2.1) ∧ w.cell? ⟨b, off + i * 3 + 2, none⟩ = some (.slice ia f.2.2.length ic) ∧ SlJ w ia f.2.2.length f.2.2 ∧ (Lit.int .i64 f.1).wf = true ∧ (Lit.int .i64 f.2.1).wf = true ∧ f.2.2.length ≤ 100) n (fun i hi2 => by
      obtain ⟨z1, z2, ia, m, ic, c0, c1, c2, hm, k1, k2, its, hJ, _⟩ := hi i hi2
      obtain rfl := hJ.1
      exact ⟨(z1, z2, its), ia, ic, c0, c1, c2, hJ, k1, k2, hm⟩)
    refine ⟨l, ⟨hl, hn, fun _ => ⟨b, off, rfl, fun i hi => ?_⟩⟩, fun f hf => ?_⟩
    · obtain ⟨ia, ic, c0, c1, c2, hJ, k1, k2, _⟩ := hP i hi
      exact ⟨ia, ic, c0, c1, c2, hJ, k1, k2⟩
    · obtain ⟨i, hi, rfl⟩ := List.getElem_of_mem hf
      obtain ⟨_, _, _, _, _, _, _, _, hm⟩ := hP i hi
      exact hm
  · have : n = 0 := by omega
    subst this
    exact ⟨[], ⟨rfl, hn, fun h => absurd h (by omega)⟩, fun f hf => absurd hf List.not_mem_nil⟩
theorem slj_of {w : World} {b off n : Nat} {its : List It} (hl : its.length = n) (hn : n ≤ 1099511627776) (hs : ∀ x ∈ its, itS x) (hc : ∀ i (h : i < its.length), ItJ w b (off + i * 3) its[i]) : SlJ w (some ⟨b, off, none⟩) n its :=
  ⟨hl, hn, fun x hx => (hs x hx).lim, fun _ => ⟨b, off, rfl, hc⟩⟩
abbrev BoxB (X : Nat) (no : Int) (pv : ByteArray) (v1 v2 : Value) (w : World) : Prop := BoxIn X 27 [] [.int .i64 no, .string pv, v1, v2] [] w
section
variable {w w' : World} {X : Nat} {no no' : Int} {pv pv' : ByteArray} {ra pa ra' pa' : Option Addr} {rn rc pn pc rn' rc' pn' pc' : Nat}
theorem box_cell {o : Nat} {u : Value} (h : BoxB X no pv (.slice ra rn rc) (.slice pa pn pc) w) (hu : w.cell? ⟨X, o, none⟩ = some u) : ([.int .i64 no, .string pv, .slice ra rn rc, .slice pa pn pc] : List Value)[o]? = some u := by
  have hh : w.heap[X]? = some (.cells #[.int .i64 no, .string pv, .slice ra rn rc, .slice pa pn pc] 27 (0, 0)) := h
  simp [World.cell?, hh] at hu
  simpa using hu
theorem box_str {o : Nat} {s : ByteArray} (h : BoxB X no pv (.slice ra rn rc) (.slice pa pn pc) w) (hu : w.cell? ⟨X, o, none⟩ = some (.string s)) : o = 1 := by
  have := box_cell h hu
  match o, this with
  | 0, e => cases e
  | 1, _ => rfl
  | 2, e => cases e
  | 3, e => cases e
  | n + 4, e => cases e
theorem box_int {o : Nat} {z : Int} (h : BoxB X no pv (.slice ra rn rc) (.slice pa pn pc) w) (hu : w.cell? ⟨X, o, none⟩ = some (.int .i64 z)) : o = 0 := by
  have := box_cell h hu
  match o, this with
  | 0, _ => rfl
  | 1, e => cases e
  | 2, e => cases e
  | 3, e => cases e
  | n + 4, e => cases e
theorem rj_box {a : Option Addr} {n : Nat} (h : RJ w a n) (hX : BoxB X no pv (.slice ra rn rc) (.slice pa pn pc) w) (hX' : BoxB X no' pv' (.slice ra' rn' rc') (.slice pa' pn' pc') w') (hs : sm64 pv') (hg : w.grownBy w' (some X)) : RJ w' a n := by
  obtain ⟨rs, ⟨h1, h2, h3, h4⟩, h5⟩ := h
  by_cases h0 : 0 < n
  · obtain ⟨b, off, rfl, hc⟩ := h4 h0
    obtain ⟨l, hl, hP⟩ := list_of (P := fun i (s : ByteArray) => w'.cell? ⟨b, off + i, none⟩ = some (.string s) ∧ sm64 s) n (fun i hi => by
      have c := hc i (by omega)
      by_cases e : b = X
      · subst e
        have h6 := box_str hX c
        rw [h6]
        refine ⟨pv', ?_, hs⟩
        have := hX'.cell 1 _ rfl
        simpa only [List.length_nil, Nat.zero_add] using this
      · exact ⟨rs[i], hg.cell c (fun e2 => e (by cases e2; rfl)), h5 _ (List.getElem_mem _)⟩)
    refine ⟨l, ⟨hl, h2, fun s hs => ?_, fun _ => ⟨b, off, rfl, fun i hi => (hP i hi).1⟩⟩, fun s hs => ?_⟩
    · obtain ⟨i, hi, rfl⟩ := List.getElem_of_mem hs
      have := (hP i hi).2
      unfold sm64 at this
      unfold maxLen; omega
    · obtain ⟨i, hi, rfl⟩ := List.getElem_of_mem hs
      exact (hP i hi).2
  · have : n = 0 := by omega
    subst this
    exact ⟨[], ⟨rfl, h2, fun s hs => absurd hs List.not_mem_nil, fun h => absurd h (by omega)⟩, fun s hs => absurd hs List.not_mem_nil⟩
theorem ij_box {a : Option Addr} {n : Nat} (h : IJ w a n) (hX : BoxB X no pv (.slice ra rn rc) (.slice pa pn pc) w) (hX' : BoxB X no' pv' (.slice ra' rn' rc') (.slice pa' pn' pc') w') (hs : sm64 pv') (hg : w.grownBy w' (some X)) : IJ w' a n := by
  obtain ⟨its, ⟨h1, h2, h3, h4⟩, h5⟩ := h
  by_cases h0 : 0 < n
  · obtain ⟨b, off, rfl, hc⟩ := h4 h0
    obtain ⟨l, hl, hP⟩ := list_of (P := fun i (x : It) => ItJ w' b (off + i * 3) x ∧ itS x) n (fun i hi => by
      obtain ⟨c1, c2, pb, po, pc3, c3, hS, hpc⟩ := hc i (by omega)
      have hne : b ≠ X := fun e => by
        subst e
        have e1 := box_str hX c1
        have e2 := box_str hX c2
        omega
      have hne' : (some b : Option Nat) ≠ some X := fun e => hne (by cases e; rfl)
      have h6 := h5 _ (List.getElem_mem (show i < its.length by omega))
      obtain ⟨rs, hr, hrs⟩ := rj_box ⟨_, hS, h6.2.2.2⟩ hX hX' hs hg
      have hlen : rs.length = its[i].2.length := by rw [hr.1, hS.1]
      rw [← hlen] at c3 hpc
      refine ⟨(its[i].1, rs), ⟨hg.cell c1 hne', hg.cell c2 hne', pb, po, pc3, hg.cell c3 hne', by rw [hlen]; exact hr, hpc⟩, h6.1, h6.2.1, by rw [hlen]; exact h6.2.2.1, hrs⟩)
    exact ⟨l, slj_of hl h2 (fun x hx => by
      obtain ⟨i, hi, rfl⟩ := List.getElem_of_mem hx
      exact (hP i hi).2) (fun i hi => (hP i hi).1), fun x hx => by
      obtain ⟨i, hi, rfl⟩ := List.getElem_of_mem hx
      exact (hP i hi).2⟩
  · have : n = 0 := by omega
    subst this
    exact ⟨[], ⟨rfl, h2, fun s hs => absurd hs List.not_mem_nil, fun h => absurd h (by omega)⟩, fun s hs => absurd hs List.not_mem_nil⟩
theorem fj_box {a : Option Addr} {n : Nat} (h : FJ w a n) (hX : BoxB X no pv (.slice ra rn rc) (.slice pa pn pc) w) (hX' : BoxB X no' pv' (.slice ra' rn' rc') (.slice pa' pn' pc') w') (hs : sm64 pv') (hg : w.grownBy w' (some X)) : FJ w' a n := by
  intro h0
  obtain ⟨b, off, rfl, hc⟩ := h h0
  refine ⟨b, off, rfl, fun i hi => ?_⟩
  obtain ⟨z1, z2, ia, m, ic, c0, c1, c2, hm, k1, k2, hI⟩ := hc i hi
  have hne : (some b : Option Nat) ≠ some X := fun e => by
    cases e
    have e1 := box_int hX c0
    have e2 := box_int hX c1
    omega
  exact ⟨z1, z2, ia, m, ic, hg.cell c0 hne, hg.cell c1 hne, hg.cell c2 hne, hm, k1, k2, ij_box hI hX hX' hs hg⟩
theorem RJ.below {a : Option Addr} {n : Nat} (h : RJ w a n) (hb : Below w.heap.size w w') : RJ w' a n := by
  obtain ⟨rs, h1, h2⟩ := h
  exact ⟨rs, h1.below hb, h2⟩
theorem IJ.below {a : Option Addr} {n : Nat} (h : IJ w a n) (hb : Below w.heap.size w w') : IJ w' a n := by
  obtain ⟨rs, h1, h2⟩ := h
  exact ⟨rs, h1.below hb, h2⟩
theorem FJ.below {a : Option Addr} {n : Nat} (h : FJ w a n) (hb : Below w.heap.size w w') : FJ w' a n := by
  intro h0
  obtain ⟨b, off, rfl, hc⟩ := h h0
  have keep : ∀ b o v, w.cell? ⟨b, o, none⟩ = some v → w'.cell? ⟨b, o, none⟩ = some v := fun b o v hv => (hb.cell (p := ⟨b, o, none⟩) (World.block_lt_of_cell? w _ hv)).trans hv
  refine ⟨b, off, rfl, fun i hi => ?_⟩
  obtain ⟨z1, z2, ia, m, ic, c0, c1, c2, hm, k1, k2, hI⟩ := hc i hi
  exact ⟨z1, z2, ia, m, ic, keep _ _ _ c0, keep _ _ _ c1, keep _ _ _ c2, hm, k1, k2, hI.below hb⟩
end
end Go.Proofs.YteammdkipnfmnaaGreatDoor.bun

namespace Go.Proofs.YteammdkipnfmnaaGreatDoor.tabs
open Go Go.RowKit Go.Proofs.YteammdkipnfmnaaGreatDoor.base Go.Proofs.YteammdkipnfmnaaGreatDoor.pairs Go.Proofs.YteammdkipnfmnaaGreatDoor.lay
set_option linter.unusedVariables false
set_option linter.unusedSimpArgs false

def prR : Rd Pr := both str str
theorem flat_pr : cos.Flat prR (fun p => [.string p.1, .string p.2]) (fun p => p.1.size ≤ maxLen ∧ p.2.size ≤ maxLen) := cos.flat_both cos.flat_str cos.flat_str
def tableR : Rd (List Pr) := slice 34 prR
section
variable {w w' : World} {F : List Nat} {vs : List Value} {a : Option Addr} {n cap : Nat} {v : Value}
theorem table_own {l : List Pr} : tableR.own w [v] l F ↔ w.ownsRow 0 34 2 v l.length (pairVals l) ∧ (∀ p ∈ l, small p) ∧ F = v.ownBlock.toList := by
  unfold tableR
  rw [flat_pr.slice]
  exact Iff.rfl
theorem table_ownP {g n c base : Nat} {l : List Pr} (h : OwnP w base g n c l) : tableR.own w [.slice (some ⟨g, 0, none⟩) n c] l [g] := by
  have h2 := h.mono (Nat.zero_le _)
  refine table_own.2 ⟨?_, h.2.1, rfl⟩
  rw [h.1]
  exact h2.2.2
theorem table_P {g n c : Nat} {l : List Pr} (h : tableR.own w [.slice (some ⟨g, 0, none⟩) n c] l F) : OwnP w 0 g n c l := by
  obtain ⟨v', q, e, _, hO⟩ := id h
  cases e
  obtain ⟨h1, h2, _⟩ := table_own.1 h
  have hn : n = l.length := hO.nlen
  subst hn
  exact ⟨rfl, h2, h1⟩
theorem table_see {l : List Pr} : tableR.see w [.slice a n cap] l ↔ SlP w a n l ∧ n ≤ cap := by
  constructor
  · rintro ⟨a', n', c', e, hc, h1, h2, h3, h4⟩
    cases e
    refine ⟨⟨h1, h2, fun p hp => ?_, fun h0 => ?_⟩, hc⟩
    · obtain ⟨vs, hv⟩ := h3 p hp
      exact (flat_pr.see.1 hv).2
    · obtain ⟨b, off, e, hi⟩ := h4 h0
      refine ⟨b, off, e, fun i hl => ?_⟩
      obtain ⟨vs, hs, hcl⟩ := hi i hl
      obtain ⟨rfl, _⟩ := flat_pr.see.1 hs
      exact ⟨hcl 0 _ rfl, hcl 1 _ rfl⟩
  · rintro ⟨⟨h1, h2, h3, h4⟩, hc⟩
    refine ⟨a, n, cap, rfl, hc, h1, h2, fun p hp => ⟨_, flat_pr.see.2 ⟨rfl, h3 p hp⟩⟩, fun h0 => ?_⟩
    obtain ⟨b, off, e, hi⟩ := h4 h0
    refine ⟨b, off, e, fun i hl => ⟨_, flat_pr.see.2 ⟨rfl, h3 _ (List.getElem_mem hl)⟩, fun j u hu => ?_⟩⟩
    obtain ⟨c0, c1⟩ := hi i hl
    match j, hu with
    | 0, hu => cases hu; exact c0
    | 1, hu => cases hu; exact c1
end
end Go.Proofs.YteammdkipnfmnaaGreatDoor.tabs

namespace Go.Proofs.YteammdkipnfmnaaGreatDoor.tabs
open Go Go.RowKit Go.Proofs.YteammdkipnfmnaaGreatDoor.base Go.Proofs.YteammdkipnfmnaaGreatDoor.pairs Go.Proofs.YteammdkipnfmnaaGreatDoor.lay
set_option linter.unusedVariables false
set_option linter.unusedSimpArgs false

def tableN : Rd (List Pr) where
  size := 1
  see := tableR.see
  own w vs l F := ∃ g n c, vs = [.slice (some ⟨g, 0, none⟩) n c] ∧ tableR.own w vs l F
  seeLen h := tableR.seeLen h
  seeCells h hc := tableR.seeCells h hc
  ownSee h := by obtain ⟨_, _, _, _, h⟩ := h; exact tableR.ownSee h
  ownAt h hk := by obtain ⟨g, n, c, e, h⟩ := h; exact ⟨g, n, c, e, tableR.ownAt h hk⟩
  ownLt h := by obtain ⟨_, _, _, _, h⟩ := h; exact tableR.ownLt h
  ownNodup h := by obtain ⟨_, _, _, _, h⟩ := h; exact tableR.ownNodup h
  ownOne h := by obtain ⟨_, _, _, _, h⟩ := h; exact tableR.ownOne h
def tablesN : Rd (List (List Pr)) := slice 90 tableN
section
variable {w w' : World} {v : Value} {l : List (List Pr)} {q : Parts} {F : List Nat}
theorem toN (h : OwnG 90 tableR w v l q) (hs : ∀ j, j < l.length → ∃ g n c G, q[j]? = some ([.slice (some ⟨g, 0, none⟩) n c], G)) : OwnG 90 tableN w v l q :=
  ⟨h.len, h.row, fun i hi => by
    obtain ⟨g, n, c, G, e⟩ := hs i hi
    have h1 := h.each i hi
    rw [List.getElem?_eq_getElem (by have := h.len; omega)] at e
    have e2 := Option.some.inj e
    exact ⟨g, n, c, by rw [e2], h1⟩, h.nodup⟩
end
end Go.Proofs.YteammdkipnfmnaaGreatDoor.tabs
