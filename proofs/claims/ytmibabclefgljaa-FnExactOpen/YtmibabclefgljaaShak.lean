/- The laws' own copies of worlds. -/
import Derived.Test.YtmibabclefgljaaShai
import Derived.Test.YtmibabclefgljaaShaj
namespace Go.Proofs.Ytmibabclefgljaa.wos
open Go Go.RowKit Go.Proofs.Ytmibabclefgljaa.base Go.Proofs.Ytmibabclefgljaa.pairs Go.Proofs.Ytmibabclefgljaa.ords Go.Proofs.Ytmibabclefgljaa.lay
set_option linter.unusedVariables false
set_option linter.unusedSimpArgs false

theorem word_zero (w : World) : cos.wordR.own w (.agg #[.int .i64 0, .int .i64 0, .int .i64 0, .slice none 0 0, .bool false] : Value).cells.toList (0, 0, 0, [], false) [] := cos.word_own.2 ⟨.slice none 0 0, rfl, by decide, by decide, by decide, cos.ops_own.2 ⟨⟨fun _ h => absurd h List.not_mem_nil, World.ownsRow_nil _ _ _ _⟩, rfl⟩⟩
theorem ord_zero (w : World) : ordR.own w (.agg #[.int .i64 0, .slice none 0 0] : Value).cells.toList (0, []) [] := ord_own.2 ⟨.slice none 0 0, rfl, by decide, cos.ops_own.2 ⟨⟨fun _ h => absurd h List.not_mem_nil, World.ownsRow_nil _ _ _ _⟩, rfl⟩⟩
theorem shard_zero (w : World) : shardR.own w (.agg #[.int .i64 0, .slice none 0 0, .int .i64 0, .slice none 0 0, .slice none 0 0] : Value).cells.toList (0, [], 0, [], []) [] := by
  have h : ∀ {α : Type} (R : Rd α) (ty : TypeId), (slice ty R).own w [.slice none 0 0] [] [] := fun R ty => ⟨.slice none 0 0, [], rfl, rfl, ⟨rfl, World.ownsRow_nil _ _ _ _, fun i hi => absurd hi (Nat.not_lt_zero _), List.nodup_nil⟩⟩
  exact ⟨[_], [_, _, _, _], [], [], rfl, rfl, ⟨⟨rfl, by decide⟩, rfl⟩, ⟨[_], [_, _, _], [], [], rfl, rfl, h _ _, ⟨[_], [_, _], [], [], rfl, rfl, ⟨⟨rfl, by decide⟩, rfl⟩, ⟨[_], [_], [], [], rfl, rfl, h _ _, h _ _, List.nodup_nil⟩, List.nodup_nil⟩, List.nodup_nil⟩, List.nodup_nil⟩
theorem word_vals {w : World} {vs : List Value} {p : wds.Wd} {F : List Nat} (h : cos.wordR.own w vs p F) : ∃ ra rn rc, vs = [.int .i64 p.1, .int .i64 p.2.1, .int .i64 p.2.2.1, .slice ra rn rc, .bool p.2.2.2.2] := by
  obtain ⟨oa, ol, oc, e, _⟩ := cos.word_see.1 (cos.wordR.ownSee h)
  exact ⟨oa, ol, oc, e⟩
theorem ord_vals {w : World} {vs : List Value} {p : Orr} {F : List Nat} (h : ordR.own w vs p F) : ∃ ra rn rc, vs = [.int .i64 p.1, .slice ra rn rc] := by
  obtain ⟨oa, ol, oc, e, _⟩ := ord_see.1 (ordR.ownSee h)
  exact ⟨oa, ol, oc, e⟩
theorem shard_vals {w : World} {vs : List Value} {p : recs.Shd} {F : List Nat} (h : shardR.own w vs p F) : ∃ la ln lc ma mn mc ha hn hc, vs = [.int .i64 p.1, .slice la ln lc, .int .i64 p.2.2.1, .slice ma mn mc, .slice ha hn hc] := by
  obtain ⟨la, ln, lc, ma, mn, mc, ha, hn, hc, e, _⟩ := shard_see.1 (shardR.ownSee h)
  exact ⟨la, ln, lc, ma, mn, mc, ha, hn, hc, e⟩
set_option maxRecDepth 100000 in
set_option maxHeartbeats 4000000 in
theorem toWord (k s t : Int) (y : Bool) (oa : Option Addr) (ol oc : Nat) (ops : List Od) (w : World) (k1 : (Lit.int .i64 k).wf = true) (k2 : (Lit.int .i64 s).wf = true) (k3 : (Lit.int .i64 t).wf = true) (hO0 : SlO w oa ol ops) (hs1_ : ol ≤ 1099511627776) :
    Calls Try.prog 30 #[.agg #[.int .i64 k, .int .i64 s, .int .i64 t, .slice oa ol oc, .bool y]] w (RetR cos.wordR w (k, s, t, ops, y)) := by
  have H1 := Hid.mk' (fun wx (hx : Below w.heap.size w wx) => cos.toOpS_V oa ol oc ops wx (hO0.below hx) hs1_)
  clear hO0
  obtain ⟨W1, hW1⟩ : ∃ W1, w.alloc (.cells #[.int .i64 k, .int .i64 s, .int .i64 t, .slice oa ol oc, .bool y] 76) = W1 := ⟨_, rfl⟩
  have hb1 : Below w.heap.size w W1 := by rw [← hW1]; exact below_make
  have hA1 : BoxIn w.heap.size 76 [] [.int .i64 k, .int .i64 s, .int .i64 t, .slice oa ol oc, .bool y] [] W1 := by rw [← hW1]; exact boxIn_new w _ _
  have hs1 : W1.heap.size = w.heap.size + 1 := by rw [← hW1]; simp
  obtain ⟨W2, hW2⟩ : ∃ W2, W1.alloc (.cells #[.int .i64 0, .int .i64 0, .int .i64 0, .slice none 0 0, .bool false] 84) = W2 := ⟨_, rfl⟩
  have hb2 : Below W1.heap.size W1 W2 := by rw [← hW2]; exact below_make
  have hR2 : BoxIn (w.heap.size + 1) 84 [] [.int .i64 0, .int .i64 0, .int .i64 0, .slice none 0 0, .bool false] [] W2 := by rw [← hW2, ← hs1]; exact boxIn_new W1 _ _
  have hs2 : W2.heap.size = w.heap.size + 1 + 1 := by rw [← hW2]; simp [hs1]
  obtain ⟨W, hW⟩ : ∃ W, W2.alloc (.cells #[.int .i64 k, .int .i64 s, .int .i64 t, .slice none 0 0, .bool false] 84) = W := ⟨_, rfl⟩
  have hb3 : Below W2.heap.size W2 W := by rw [← hW]; exact below_make
  have hO : BoxIn (w.heap.size + 1 + 1) 84 [] [.int .i64 k, .int .i64 s, .int .i64 t, .slice none 0 0, .bool false] [] W := by rw [← hW, ← hs2]; exact boxIn_new W2 _ _
  have hA := (hA1.below hb2).below hb3
  have hR := hR2.below hb3
  have hB := (hb1.trans (hb2.mono hb1.size)).trans (hb3.mono (Nat.le_trans hb1.size hb2.size))
  have HWW : Hid (((w.alloc (.cells #[.int .i64 k, .int .i64 s, .int .i64 t, .slice oa ol oc, .bool y] 76)).alloc (.cells #[.int .i64 0, .int .i64 0, .int .i64 0, .slice none 0 0, .bool false] 84)).alloc (.cells #[.int .i64 k, .int .i64 s, .int .i64 t, .slice none 0 0, .bool false] 84) = W) := by show _ = _; rw [hW1, hW2, hW]
  clear hb1 hb2 hb3 hA1 hR2 hs1 hs2 hW1 hW2 hW
  obtain ⟨c0, c1, c2, c3, c4⟩ := cells5 hA
  rw [← HWW.out] at c0 c1 c2 c3 c4
  have hbs0 := hO.lt
  go_enter Try.func30, Try.ntmps30
  go_wp2_with fail
  rw [HWW.out]
  refine (H1.out W hB).mono ?_
  rintro e w1 ⟨r0, F0, rfl, h0, hF0, hbn⟩
  obtain ⟨ra0, rn0, rc0, rfl⟩ := slice_shape h0
  replace hO := hO.below hbn
  replace hA := hA.below hbn
  replace hR := hR.below hbn
  replace hB := hB.trans (hbn.mono hB.size)
  have n0 := hO.set 3 (by simp) (.slice ra0 rn0 rc0)
  have u0 := hO.cell 3 _ rfl
  have v0 := hO.fz 3
  simp only [List.length_nil, Nat.zero_add] at n0 u0
  have n1 := n0.1.set 4 (by simp) (.bool y)
  have u1 := n0.1.cell 4 _ rfl
  have v1 := n0.1.fz 4
  simp only [List.length_nil, Nat.zero_add] at n1 u1
  have t0 := (hA.grown n0.2 (by simp; omega)).cell 4 _ rfl
  simp only [List.length_nil, Nat.zero_add] at t0
  have gg := (grownBy_trans n0.2 n1.2)
  replace hB := hB.grown gg hB.size (fun k e => by cases e; omega)
  replace hR := hR.grown gg (by simp)
  replace hA := hA.grown gg (by simp; omega)
  replace h0 := cos.opsR.ownGrown h0 gg (fun k hk e => by have := hF0 k hk; cases e; omega)
  replace hO : BoxIn (w.heap.size + 1 + 1) 84 [] [.int .i64 k, .int .i64 s, .int .i64 t, .slice ra0 rn0 rc0, .bool y] [] _ := n1.1
  clear c0 c1 c2 c3 c4
  obtain ⟨q0, q1, q2, q3, q4⟩ := cells5 hO
  obtain ⟨z0, z1, z2, z3, z4⟩ := cells5 hR
  have f0 := hR.fz 0
  have f1 := hR.fz 1
  have f2 := hR.fz 2
  have f3 := hR.fz 3
  have f4 := hR.fz 4
  have hS := hR.whole [.int .i64 k, .int .i64 s, .int .i64 t, .slice ra0 rn0 rc0, .bool y] rfl
  obtain ⟨y0, y1, y2, y3, y4⟩ := cells5 hS.1
  simp only [putAll, Nat.zero_add, Nat.reduceAdd] at y0 y1 y2 y3 y4
  have HBz := Hid.mk' (hB.grown hS.2 hB.size (fun j e => by cases e; omega))
  replace h0 := cos.opsR.ownGrown h0 hS.2 (fun k hk e => by have := hF0 k hk; cases e; omega)
  have HOW : Hid (cos.wordR.own (putAll ((w1.setCell ⟨w.heap.size + 1 + 1, 3, none⟩ (.slice ra0 rn0 rc0)).setCell ⟨w.heap.size + 1 + 1, 4, none⟩ (.bool y)) (w.heap.size + 1) 0 [.int .i64 k, .int .i64 s, .int .i64 t, .slice ra0 rn0 rc0, .bool y]) [.int .i64 k, .int .i64 s, .int .i64 t, .slice ra0 rn0 rc0, .bool y] (k, s, t, ops, y) (F0)) := cos.word_own.2 ⟨_, rfl, k1, k2, k3, h0⟩
  have HFN : Hid (∀ k ∈ F0, w.heap.size ≤ k) := fun k hk => by
    have := hF0 k hk; omega
  clear h0 hS 
  go_wp2_with fail
  refine bodyPost_ret (v := .agg #[.int .i64 k, .int .i64 s, .int .i64 t, .slice ra0 rn0 rc0, .bool y]) ?_ rfl ⟨_, _, rfl, HOW.out, HFN.out, HBz.out⟩
  simp [results, Try.results30, go_sem, y0, y1, y2, y3, y4]
theorem toWordR (u0 u1 u2 u3 u4 : Value) (x : wds.Wd) (w : World) (h : cos.wordR.see w [u0, u1, u2, u3, u4] x) (h1 : x.2.2.2.1.length ≤ 1099511627776) : Calls Try.prog 30 #[.agg #[u0, u1, u2, u3, u4]] w (RetR cos.wordR w x) := by
  obtain ⟨oa, ol, oc, e, k1, k2, k3, hO, _⟩ := cos.word_see.1 h
  simp only [List.cons.injEq, and_true] at e
  obtain ⟨rfl, rfl, rfl, rfl, rfl⟩ := e
  exact toWord x.1 x.2.1 x.2.2.1 x.2.2.2.2 oa ol oc x.2.2.2.1 w k1 k2 k3 hO (by have := hO.1; omega)
theorem info_toWordS : (Try.prog.info? 84).map (fun i => (i.zero, i.size, i.bytes)) = some (some (.agg #[.int .i64 0, .int .i64 0, .int .i64 0, .slice none 0 0, .bool false]), 5, 56) := by kernel_rfl
set_option maxRecDepth 100000 in
set_option maxHeartbeats 4000000 in
theorem toWordS (a : Option Addr) (len cap : Nat) (l : List wds.Wd) (w : World) (h : SlG cos.wordR w a len l) (hsz : len ≤ 1099511627776) (hfit : ∀ j ∈ l, j.2.2.2.1.length ≤ 1099511627776) :
    Calls Try.prog 15 #[.slice a len cap] w (RetV (lay.slice 84 cos.wordR) w l) := by
  have hl := h.1
  have hm := h.2.1
  subst hl
  have hm' := hm
  unfold maxLen at hm'
  obtain ⟨i0, hif, hz0, hz1, hz2⟩ := info_parts info_toWordS
  go_enter Try.func15, Try.ntmps15
  go_wp2_with (at_make; refine wpList_make_full _ rfl _ _ 38 rfl w.heap.size 84 i0 (.agg #[.int .i64 0, .int .i64 0, .int .i64 0, .slice none 0 0, .bool false]) 5 Try.underlying38 hif hz0 hz1 _ _ _ _ l.length rfl rfl rfl rfl ?b2 ?b3 ?b4 ?_)
  case b2 => rw [hz2]; omega
  case b3 => exact hm
  case b4 => exact Nat.le_refl _
  intro w1 hown hgrow
  have hOwn := ownG_zeros (R := cos.wordR) (z := .agg #[.int .i64 0, .int .i64 0, .int .i64 0, .slice none 0 0, .bool false]) (x := (0, 0, 0, [], false)) hown (word_zero _)
  have hbel : Below w.heap.size w w1 := (Below.refl _ _).grown hgrow (Nat.le_refl _) (fun k e => by cases e)
  have hOwn0 : OwnG 84 cos.wordR w1 (.slice (some ⟨w.heap.size, 0, none⟩) l.length l.length) (copyG (0, 0, 0, [], false) l 0) (List.replicate l.length ((.agg #[.int .i64 0, .int .i64 0, .int .i64 0, .slice none 0 0, .bool false] : Value).cells.toList, [])) := by rw [copyG_zero]; exact hOwn
  have hq0 : ∀ b ∈ w.heap.size :: blocksOf (List.replicate l.length ((.agg #[.int .i64 0, .int .i64 0, .int .i64 0, .slice none 0 0, .bool false] : Value).cells.toList, ([] : List Nat))), w.heap.size ≤ b := fun b hb => by
    have e1 : blocksOf (List.replicate l.length ((.agg #[.int .i64 0, .int .i64 0, .int .i64 0, .slice none 0 0, .bool false] : Value).cells.toList, ([] : List Nat))) = [] := by unfold blocksOf; simp
    rw [e1, List.mem_singleton] at hb; omega
  clear hown hgrow hif hz0 hz1 hz2 hOwn
  go_wp2_with fail
  go_loopw [4] (fun i wr => ∃ (k : Nat) (q : Parts), k ≤ l.length ∧ i = .int .i64 k ∧ OwnG 84 cos.wordR wr (.slice (some ⟨w.heap.size, 0, none⟩) l.length l.length) (copyG (0, 0, 0, [], false) l k) q ∧ (∀ b ∈ w.heap.size :: blocksOf q, w.heap.size ≤ b) ∧ Below w.heap.size w wr) (fun i _ => l.length - (intOf i).toNat)
  case atStart => exact ⟨0, _, Nat.zero_le _, rfl, hOwn0, hq0, hbel⟩
  case round =>
    clear hOwn0 hbel hq0
    obtain ⟨k, q, hk, rfl, hO, hq, hB⟩ := hrel
    by_cases hlt : k < l.length
    · obtain ⟨b, off, e⟩ : ∃ b off, a = some ⟨b, off, none⟩ := by
        obtain ⟨b, off, e, _⟩ := h.2.2.2 (by omega)
        exact ⟨b, off, e⟩
      subst e
      obtain ⟨u0, u1, u2, u3, u4, hsee, c0, c1, c2, c3, c4⟩ := slg_at5 rfl (h.below hB) k hlt
      have hki : (k : Int) < (l.length : Int) := by omega
      have HS := Hid.mk' (copyG_set (z := (0, 0, 0, [], false)) k hlt)
      have hfk := hfit _ (List.getElem_mem hlt)
      have HE := Hid.mk' (toWordR u0 u1 u2 u3 u4 l[k] wr hsee hfk)
      generalize l[k] = p at *
      clear hsee
      go_wp2_with fail
      refine HE.out.mono ?_
      rintro e w2 ⟨us, F, rfl, hOx, hF, hb2⟩
      obtain ⟨ra, rn, rc, rfl⟩ := word_vals hOx
      have hOR := hO.below hb2
      have hB2 := hB.trans (hb2.mono hB.size)
      have hkl : k < (copyG (0, 0, 0, [], false) l k).length := by rw [copyG_length k hk]; exact hlt
      have hlts := hO.lts
      have Rp := hOR.put k hkl [.int .i64 p.1, .int .i64 p.2.1, .int .i64 p.2.2.1, .slice ra rn rc, .bool p.2.2.2.2] p F hOx (fun j hj hjb => by have h1 := hF j hj; have h2 := hlts j hjb; omega)
      rw [HS.out] at Rp
      have HR := Hid.mk' Rp
      obtain ⟨y0, y1, y2, y3, y4, _, d0, d1, d2, d3, d4⟩ := slg_at5 rfl hOR.sl k hkl
      simp only [Nat.zero_add] at d0 d1 d2 d3 d4
      have f0 := hOR.frozen (k * 5)
      have f1 := hOR.frozen (k * 5 + 1)
      have f2 := hOR.frozen (k * 5 + 2)
      have f3 := hOR.frozen (k * 5 + 3)
      have f4 := hOR.frozen (k * 5 + 4)
      have hqn : Hid (∀ b ∈ w.heap.size :: blocksOf (q.set k ([.int .i64 p.1, .int .i64 p.2.1, .int .i64 p.2.2.1, .slice ra rn rc, .bool p.2.2.2.2], F)), w.heap.size ≤ b) := fun j hj => by
        rcases List.mem_cons.1 hj with e | e
        · omega
        · obtain ⟨pp, hpp, hjp⟩ := List.mem_flatMap.1 e
          rcases List.mem_or_eq_of_mem_set hpp with h1 | h1
          · exact hq j (List.mem_cons_of_mem _ (List.mem_flatMap.2 ⟨pp, h1, hjp⟩))
          · subst h1
            have h1 := hF j hjp
            have h2 := hB.size
            omega
      have hsz2 := hB2.size
      clear Rp hO hOR hOx hB hb2 c0 c1 c2 c3 c4 hlts
      go_wp2_with fail
      go_roundw
      case rel => exact ⟨k + 1, _, by omega, by go_num, HR.out.1, hqn.out, hB2.trans (below_grown HR.out.2 (Nat.le_refl _) hsz2)⟩
      case measure => simp [intOf]; omega
    · have e : k = l.length := by omega
      subst e
      rw [copyG_all] at hO
      go_wp2_with fail
      go_ret
      exact ⟨_, _, rfl, ⟨_, q, rfl, rfl, hO⟩, fun b hb => hq b (by simpa [Value.ownBlock] using hb), hB⟩
set_option maxRecDepth 100000 in
set_option maxHeartbeats 4000000 in
theorem toOrder (tx : Int) (oa : Option Addr) (ol oc : Nat) (ops : List Od) (w : World) (k1 : (Lit.int .i64 tx).wf = true) (hO0 : SlO w oa ol ops) (hs1_ : ol ≤ 1099511627776) :
    Calls Try.prog 31 #[.agg #[.int .i64 tx, .slice oa ol oc]] w (RetR ordR w (tx, ops)) := by
  have H1 := Hid.mk' (fun wx (hx : Below w.heap.size w wx) => cos.toOpS_V oa ol oc ops wx (hO0.below hx) hs1_)
  clear hO0
  obtain ⟨W1, hW1⟩ : ∃ W1, w.alloc (.cells #[.int .i64 tx, .slice oa ol oc] 79) = W1 := ⟨_, rfl⟩
  have hb1 : Below w.heap.size w W1 := by rw [← hW1]; exact below_make
  have hA1 : BoxIn w.heap.size 79 [] [.int .i64 tx, .slice oa ol oc] [] W1 := by rw [← hW1]; exact boxIn_new w _ _
  have hs1 : W1.heap.size = w.heap.size + 1 := by rw [← hW1]; simp
  obtain ⟨W2, hW2⟩ : ∃ W2, W1.alloc (.cells #[.int .i64 0, .slice none 0 0] 87) = W2 := ⟨_, rfl⟩
  have hb2 : Below W1.heap.size W1 W2 := by rw [← hW2]; exact below_make
  have hR2 : BoxIn (w.heap.size + 1) 87 [] [.int .i64 0, .slice none 0 0] [] W2 := by rw [← hW2, ← hs1]; exact boxIn_new W1 _ _
  have hs2 : W2.heap.size = w.heap.size + 1 + 1 := by rw [← hW2]; simp [hs1]
  obtain ⟨W, hW⟩ : ∃ W, W2.alloc (.cells #[.int .i64 tx, .slice none 0 0] 87) = W := ⟨_, rfl⟩
  have hb3 : Below W2.heap.size W2 W := by rw [← hW]; exact below_make
  have hO : BoxIn (w.heap.size + 1 + 1) 87 [] [.int .i64 tx, .slice none 0 0] [] W := by rw [← hW, ← hs2]; exact boxIn_new W2 _ _
  have hA := (hA1.below hb2).below hb3
  have hR := hR2.below hb3
  have hB := (hb1.trans (hb2.mono hb1.size)).trans (hb3.mono (Nat.le_trans hb1.size hb2.size))
  have HWW : Hid (((w.alloc (.cells #[.int .i64 tx, .slice oa ol oc] 79)).alloc (.cells #[.int .i64 0, .slice none 0 0] 87)).alloc (.cells #[.int .i64 tx, .slice none 0 0] 87) = W) := by show _ = _; rw [hW1, hW2, hW]
  clear hb1 hb2 hb3 hA1 hR2 hs1 hs2 hW1 hW2 hW
  obtain ⟨c0, c1⟩ := cells2 hA
  rw [← HWW.out] at c0 c1
  have hbs0 := hO.lt
  go_enter Try.func31, Try.ntmps31
  go_wp2_with fail
  rw [HWW.out]
  refine (H1.out W hB).mono ?_
  rintro e w1 ⟨r0, F0, rfl, h0, hF0, hbn⟩
  obtain ⟨ra0, rn0, rc0, rfl⟩ := slice_shape h0
  replace hO := hO.below hbn
  replace hA := hA.below hbn
  replace hR := hR.below hbn
  replace hB := hB.trans (hbn.mono hB.size)
  have n0 := hO.set 1 (by simp) (.slice ra0 rn0 rc0)
  have u0 := hO.cell 1 _ rfl
  have v0 := hO.fz 1
  simp only [List.length_nil, Nat.zero_add] at n0 u0
  have gg := n0.2
  replace hB := hB.grown gg hB.size (fun k e => by cases e; omega)
  replace hR := hR.grown gg (by simp)
  replace hA := hA.grown gg (by simp; omega)
  replace h0 := cos.opsR.ownGrown h0 gg (fun k hk e => by have := hF0 k hk; cases e; omega)
  replace hO : BoxIn (w.heap.size + 1 + 1) 87 [] [.int .i64 tx, .slice ra0 rn0 rc0] [] _ := n0.1
  clear c0 c1
  obtain ⟨q0, q1⟩ := cells2 hO
  obtain ⟨z0, z1⟩ := cells2 hR
  have f0 := hR.fz 0
  have f1 := hR.fz 1
  have hS := hR.whole [.int .i64 tx, .slice ra0 rn0 rc0] rfl
  obtain ⟨y0, y1⟩ := cells2 hS.1
  simp only [putAll, Nat.zero_add, Nat.reduceAdd] at y0 y1
  have HBz := Hid.mk' (hB.grown hS.2 hB.size (fun j e => by cases e; omega))
  replace h0 := cos.opsR.ownGrown h0 hS.2 (fun k hk e => by have := hF0 k hk; cases e; omega)
  have HOW : Hid (ordR.own (putAll (w1.setCell ⟨w.heap.size + 1 + 1, 1, none⟩ (.slice ra0 rn0 rc0)) (w.heap.size + 1) 0 [.int .i64 tx, .slice ra0 rn0 rc0]) [.int .i64 tx, .slice ra0 rn0 rc0] (tx, ops) (F0)) := ord_own.2 ⟨_, rfl, k1, h0⟩
  have HFN : Hid (∀ k ∈ F0, w.heap.size ≤ k) := fun k hk => by
    have := hF0 k hk; omega
  clear h0 hS 
  go_wp2_with fail
  refine bodyPost_ret (v := .agg #[.int .i64 tx, .slice ra0 rn0 rc0]) ?_ rfl ⟨_, _, rfl, HOW.out, HFN.out, HBz.out⟩
  simp [results, Try.results31, go_sem, y0, y1]
theorem toOrderR (u0 u1 : Value) (x : Orr) (w : World) (h : ordR.see w [u0, u1] x) (h1 : x.2.length ≤ 1099511627776) : Calls Try.prog 31 #[.agg #[u0, u1]] w (RetR ordR w x) := by
  obtain ⟨oa, ol, oc, e, k1, hO, _⟩ := ord_see.1 h
  simp only [List.cons.injEq, and_true] at e
  obtain ⟨rfl, rfl⟩ := e
  exact toOrder x.1 oa ol oc x.2 w k1 hO (by have := hO.1; omega)
theorem info_toOrderS : (Try.prog.info? 87).map (fun i => (i.zero, i.size, i.bytes)) = some (some (.agg #[.int .i64 0, .slice none 0 0]), 2, 32) := by kernel_rfl
set_option maxRecDepth 100000 in
set_option maxHeartbeats 4000000 in
theorem toOrderS (a : Option Addr) (len cap : Nat) (l : List Orr) (w : World) (h : SlG ordR w a len l) (hsz : len ≤ 1099511627776) (hfit : ∀ j ∈ l, j.2.length ≤ 1099511627776) :
    Calls Try.prog 16 #[.slice a len cap] w (RetV (lay.slice 87 ordR) w l) := by
  have hl := h.1
  have hm := h.2.1
  subst hl
  have hm' := hm
  unfold maxLen at hm'
  obtain ⟨i0, hif, hz0, hz1, hz2⟩ := info_parts info_toOrderS
  go_enter Try.func16, Try.ntmps16
  go_wp2_with (at_make; refine wpList_make_full _ rfl _ _ 39 rfl w.heap.size 87 i0 (.agg #[.int .i64 0, .slice none 0 0]) 2 Try.underlying39 hif hz0 hz1 _ _ _ _ l.length rfl rfl rfl rfl ?b2 ?b3 ?b4 ?_)
  case b2 => rw [hz2]; omega
  case b3 => exact hm
  case b4 => exact Nat.le_refl _
  intro w1 hown hgrow
  have hOwn := ownG_zeros (R := ordR) (z := .agg #[.int .i64 0, .slice none 0 0]) (x := (0, [])) hown (ord_zero _)
  have hbel : Below w.heap.size w w1 := (Below.refl _ _).grown hgrow (Nat.le_refl _) (fun k e => by cases e)
  have hOwn0 : OwnG 87 ordR w1 (.slice (some ⟨w.heap.size, 0, none⟩) l.length l.length) (copyG (0, []) l 0) (List.replicate l.length ((.agg #[.int .i64 0, .slice none 0 0] : Value).cells.toList, [])) := by rw [copyG_zero]; exact hOwn
  have hq0 : ∀ b ∈ w.heap.size :: blocksOf (List.replicate l.length ((.agg #[.int .i64 0, .slice none 0 0] : Value).cells.toList, ([] : List Nat))), w.heap.size ≤ b := fun b hb => by
    have e1 : blocksOf (List.replicate l.length ((.agg #[.int .i64 0, .slice none 0 0] : Value).cells.toList, ([] : List Nat))) = [] := by unfold blocksOf; simp
    rw [e1, List.mem_singleton] at hb; omega
  clear hown hgrow hif hz0 hz1 hz2 hOwn
  go_wp2_with fail
  go_loopw [4] (fun i wr => ∃ (k : Nat) (q : Parts), k ≤ l.length ∧ i = .int .i64 k ∧ OwnG 87 ordR wr (.slice (some ⟨w.heap.size, 0, none⟩) l.length l.length) (copyG (0, []) l k) q ∧ (∀ b ∈ w.heap.size :: blocksOf q, w.heap.size ≤ b) ∧ Below w.heap.size w wr) (fun i _ => l.length - (intOf i).toNat)
  case atStart => exact ⟨0, _, Nat.zero_le _, rfl, hOwn0, hq0, hbel⟩
  case round =>
    clear hOwn0 hbel hq0
    obtain ⟨k, q, hk, rfl, hO, hq, hB⟩ := hrel
    by_cases hlt : k < l.length
    · obtain ⟨b, off, e⟩ : ∃ b off, a = some ⟨b, off, none⟩ := by
        obtain ⟨b, off, e, _⟩ := h.2.2.2 (by omega)
        exact ⟨b, off, e⟩
      subst e
      obtain ⟨u0, u1, hsee, c0, c1⟩ := slg_at2 rfl (h.below hB) k hlt
      have hki : (k : Int) < (l.length : Int) := by omega
      have HS := Hid.mk' (copyG_set (z := (0, [])) k hlt)
      have hfk := hfit _ (List.getElem_mem hlt)
      have HE := Hid.mk' (toOrderR u0 u1 l[k] wr hsee hfk)
      generalize l[k] = p at *
      clear hsee
      go_wp2_with fail
      refine HE.out.mono ?_
      rintro e w2 ⟨us, F, rfl, hOx, hF, hb2⟩
      obtain ⟨ra, rn, rc, rfl⟩ := ord_vals hOx
      have hOR := hO.below hb2
      have hB2 := hB.trans (hb2.mono hB.size)
      have hkl : k < (copyG (0, []) l k).length := by rw [copyG_length k hk]; exact hlt
      have hlts := hO.lts
      have Rp := hOR.put k hkl [.int .i64 p.1, .slice ra rn rc] p F hOx (fun j hj hjb => by have h1 := hF j hj; have h2 := hlts j hjb; omega)
      rw [HS.out] at Rp
      have HR := Hid.mk' Rp
      obtain ⟨y0, y1, _, d0, d1⟩ := slg_at2 rfl hOR.sl k hkl
      simp only [Nat.zero_add] at d0 d1
      have f0 := hOR.frozen (k * 2)
      have f1 := hOR.frozen (k * 2 + 1)
      have hqn : Hid (∀ b ∈ w.heap.size :: blocksOf (q.set k ([.int .i64 p.1, .slice ra rn rc], F)), w.heap.size ≤ b) := fun j hj => by
        rcases List.mem_cons.1 hj with e | e
        · omega
        · obtain ⟨pp, hpp, hjp⟩ := List.mem_flatMap.1 e
          rcases List.mem_or_eq_of_mem_set hpp with h1 | h1
          · exact hq j (List.mem_cons_of_mem _ (List.mem_flatMap.2 ⟨pp, h1, hjp⟩))
          · subst h1
            have h1 := hF j hjp
            have h2 := hB.size
            omega
      have hsz2 := hB2.size
      clear Rp hO hOR hOx hB hb2 c0 c1 hlts
      go_wp2_with fail
      go_roundw
      case rel => exact ⟨k + 1, _, by omega, by go_num, HR.out.1, hqn.out, hB2.trans (below_grown HR.out.2 (Nat.le_refl _) hsz2)⟩
      case measure => simp [intOf]; omega
    · have e : k = l.length := by omega
      subst e
      rw [copyG_all] at hO
      go_wp2_with fail
      go_ret
      exact ⟨_, _, rfl, ⟨_, q, rfl, rfl, hO⟩, fun b hb => hq b (by simpa [Value.ownBlock] using hb), hB⟩
def FitS (s : recs.Shd) : Prop := recs.Few s.2.1 ∧ recs.Few s.2.2.2.2 ∧ s.2.1.length ≤ 1048576 ∧ s.2.2.2.1.length ≤ 1048576 ∧ s.2.2.2.2.length ≤ 1048576
theorem toShardR (u0 u1 u2 u3 u4 : Value) (x : recs.Shd) (w : World) (h : shardR.see w [u0, u1, u2, u3, u4] x) (hf : FitS x) : Calls Try.prog 29 #[.agg #[u0, u1, u2, u3, u4]] w (RetR shardR w x) := by
  obtain ⟨la, ln, lc, ma, mn, mc, ha, hn, hc, e, hS⟩ := shard_see.1 h
  obtain ⟨f1, f2, f3, f4, f5⟩ := hf
  have e1 := hS.log.1
  have e2 := hS.map.1
  have e3 := hS.held.1
  unfold shVals at e
  simp only [List.cons.injEq, and_true] at e
  obtain ⟨rfl, rfl, rfl, rfl, rfl⟩ := e
  refine (recs.toShard la ln lc ma mn mc ha hn hc x w hS f1 f2 (by omega) (by omega) (by omega)).mono ?_
  rintro e w' ⟨gl, gm, gh, F, rfl, hO, hF, hb⟩
  exact ⟨_, F, rfl, shard_own.2 ⟨_, _, _, _, _, _, _, _, _, rfl, hO⟩, hF, hb⟩
theorem info_toShardS : (Try.prog.info? 52).map (fun i => (i.zero, i.size, i.bytes)) = some (some (.agg #[.int .i64 0, .slice none 0 0, .int .i64 0, .slice none 0 0, .slice none 0 0]), 5, 88) := by kernel_rfl
set_option maxRecDepth 100000 in
set_option maxHeartbeats 4000000 in
theorem toShardS (a : Option Addr) (len cap : Nat) (l : List recs.Shd) (w : World) (h : SlG shardR w a len l) (hsz : len ≤ 1099511627776) (hfit : ∀ j ∈ l, FitS j) :
    Calls Try.prog 14 #[.slice a len cap] w (RetV (lay.slice 52 shardR) w l) := by
  have hl := h.1
  have hm := h.2.1
  subst hl
  have hm' := hm
  unfold maxLen at hm'
  obtain ⟨i0, hif, hz0, hz1, hz2⟩ := info_parts info_toShardS
  go_enter Try.func14, Try.ntmps14
  go_wp2_with (at_make; refine wpList_make_full _ rfl _ _ 37 rfl w.heap.size 52 i0 (.agg #[.int .i64 0, .slice none 0 0, .int .i64 0, .slice none 0 0, .slice none 0 0]) 5 Try.underlying37 hif hz0 hz1 _ _ _ _ l.length rfl rfl rfl rfl ?b2 ?b3 ?b4 ?_)
  case b2 => rw [hz2]; omega
  case b3 => exact hm
  case b4 => exact Nat.le_refl _
  intro w1 hown hgrow
  have hOwn := ownG_zeros (R := shardR) (z := .agg #[.int .i64 0, .slice none 0 0, .int .i64 0, .slice none 0 0, .slice none 0 0]) (x := (0, [], 0, [], [])) hown (shard_zero _)
  have hbel : Below w.heap.size w w1 := (Below.refl _ _).grown hgrow (Nat.le_refl _) (fun k e => by cases e)
  have hOwn0 : OwnG 52 shardR w1 (.slice (some ⟨w.heap.size, 0, none⟩) l.length l.length) (copyG (0, [], 0, [], []) l 0) (List.replicate l.length ((.agg #[.int .i64 0, .slice none 0 0, .int .i64 0, .slice none 0 0, .slice none 0 0] : Value).cells.toList, [])) := by rw [copyG_zero]; exact hOwn
  have hq0 : ∀ b ∈ w.heap.size :: blocksOf (List.replicate l.length ((.agg #[.int .i64 0, .slice none 0 0, .int .i64 0, .slice none 0 0, .slice none 0 0] : Value).cells.toList, ([] : List Nat))), w.heap.size ≤ b := fun b hb => by
    have e1 : blocksOf (List.replicate l.length ((.agg #[.int .i64 0, .slice none 0 0, .int .i64 0, .slice none 0 0, .slice none 0 0] : Value).cells.toList, ([] : List Nat))) = [] := by unfold blocksOf; simp
    rw [e1, List.mem_singleton] at hb; omega
  clear hown hgrow hif hz0 hz1 hz2 hOwn
  go_wp2_with fail
  go_loopw [4] (fun i wr => ∃ (k : Nat) (q : Parts), k ≤ l.length ∧ i = .int .i64 k ∧ OwnG 52 shardR wr (.slice (some ⟨w.heap.size, 0, none⟩) l.length l.length) (copyG (0, [], 0, [], []) l k) q ∧ (∀ b ∈ w.heap.size :: blocksOf q, w.heap.size ≤ b) ∧ Below w.heap.size w wr) (fun i _ => l.length - (intOf i).toNat)
  case atStart => exact ⟨0, _, Nat.zero_le _, rfl, hOwn0, hq0, hbel⟩
  case round =>
    clear hOwn0 hbel hq0
    obtain ⟨k, q, hk, rfl, hO, hq, hB⟩ := hrel
    by_cases hlt : k < l.length
    · obtain ⟨b, off, e⟩ : ∃ b off, a = some ⟨b, off, none⟩ := by
        obtain ⟨b, off, e, _⟩ := h.2.2.2 (by omega)
        exact ⟨b, off, e⟩
      subst e
      obtain ⟨u0, u1, u2, u3, u4, hsee, c0, c1, c2, c3, c4⟩ := slg_at5 rfl (h.below hB) k hlt
      have hki : (k : Int) < (l.length : Int) := by omega
      have HS := Hid.mk' (copyG_set (z := (0, [], 0, [], [])) k hlt)
      have hfk := hfit _ (List.getElem_mem hlt)
      have HE := Hid.mk' (toShardR u0 u1 u2 u3 u4 l[k] wr hsee hfk)
      generalize l[k] = p at *
      clear hsee
      go_wp2_with fail
      refine HE.out.mono ?_
      rintro e w2 ⟨us, F, rfl, hOx, hF, hb2⟩
      obtain ⟨xla, xln, xlc, xma, xmn, xmc, xha, xhn, xhc, rfl⟩ := shard_vals hOx
      have hOR := hO.below hb2
      have hB2 := hB.trans (hb2.mono hB.size)
      have hkl : k < (copyG (0, [], 0, [], []) l k).length := by rw [copyG_length k hk]; exact hlt
      have hlts := hO.lts
      have Rp := hOR.put k hkl [.int .i64 p.1, .slice xla xln xlc, .int .i64 p.2.2.1, .slice xma xmn xmc, .slice xha xhn xhc] p F hOx (fun j hj hjb => by have h1 := hF j hj; have h2 := hlts j hjb; omega)
      rw [HS.out] at Rp
      have HR := Hid.mk' Rp
      obtain ⟨y0, y1, y2, y3, y4, _, d0, d1, d2, d3, d4⟩ := slg_at5 rfl hOR.sl k hkl
      simp only [Nat.zero_add] at d0 d1 d2 d3 d4
      have f0 := hOR.frozen (k * 5)
      have f1 := hOR.frozen (k * 5 + 1)
      have f2 := hOR.frozen (k * 5 + 2)
      have f3 := hOR.frozen (k * 5 + 3)
      have f4 := hOR.frozen (k * 5 + 4)
      have hqn : Hid (∀ b ∈ w.heap.size :: blocksOf (q.set k ([.int .i64 p.1, .slice xla xln xlc, .int .i64 p.2.2.1, .slice xma xmn xmc, .slice xha xhn xhc], F)), w.heap.size ≤ b) := fun j hj => by
        rcases List.mem_cons.1 hj with e | e
        · omega
        · obtain ⟨pp, hpp, hjp⟩ := List.mem_flatMap.1 e
          rcases List.mem_or_eq_of_mem_set hpp with h1 | h1
          · exact hq j (List.mem_cons_of_mem _ (List.mem_flatMap.2 ⟨pp, h1, hjp⟩))
          · subst h1
            have h1 := hF j hjp
            have h2 := hB.size
            omega
      have hsz2 := hB2.size
      clear Rp hO hOR hOx hB hb2 c0 c1 c2 c3 c4 hlts
      go_wp2_with fail
      go_roundw
      case rel => exact ⟨k + 1, _, by omega, by go_num, HR.out.1, hqn.out, hB2.trans (below_grown HR.out.2 (Nat.le_refl _) hsz2)⟩
      case measure => simp [intOf]; omega
    · have e : k = l.length := by omega
      subst e
      rw [copyG_all] at hO
      go_wp2_with fail
      go_ret
      exact ⟨_, _, rfl, ⟨_, q, rfl, rfl, hO⟩, fun b hb => hq b (by simpa [Value.ownBlock] using hb), hB⟩
structure BoundWo (x : Wo) : Prop where
  co : cos.BoundCo x.1
  shs : x.2.1.length ≤ 1048576
  sh : ∀ s ∈ x.2.1, FitS s
  net : x.2.2.1.length ≤ 1048576
  nets : ∀ y ∈ x.2.2.1, y.2.2.2.1.length ≤ 1048576 ∧ ∀ p ∈ y.2.2.2.1, p.2.1.size ≤ 1048576
  outs : x.2.2.2.1.length ≤ 1048576
  outss : ∀ y ∈ x.2.2.2.1, y.2.2.2.1.length ≤ 1048576 ∧ ∀ p ∈ y.2.2.2.1, p.2.1.size ≤ 1048576
  begun : x.2.2.2.2.length ≤ 1048576
  beguns : ∀ y ∈ x.2.2.2.2, y.2.length ≤ 1048576 ∧ ∀ p ∈ y.2, p.2.1.size ≤ 1048576
theorem ops_small {l : List Od} {N : Nat} (h : l.length + sumO l ≤ N) : l.length ≤ N ∧ ∀ p ∈ l, p.2.1.size ≤ N := ⟨by omega, fun p hp => by have := cos.sumO_at hp; omega⟩
theorem bound_wo {x : Wo} (h : wsz x ≤ 1048576) : BoundWo x := by
  unfold wsz at h
  refine ⟨cos.bound_co (by omega), by omega, fun s hs => ?_, by omega, fun y hy => ?_, by omega, fun y hy => ?_, by omega, fun y hy => ?_⟩
  · have h1 := sumS_mem hs
    unfold shz recs.szSh at h1
    exact ⟨recs.few_of (N := 1048576) (by omega) (by omega), recs.few_of (N := 1048576) (by omega) (by omega), by omega, by omega, by omega⟩
  · have h1 := sumW_mem hy
    unfold wdz at h1
    exact ops_small (by omega)
  · have h1 := sumW_mem hy
    unfold wdz at h1
    exact ops_small (by omega)
  · have h1 := sumB_mem hy
    unfold orz at h1
    exact ops_small (by omega)
set_option maxRecDepth 100000 in
set_option maxHeartbeats 8000000 in
theorem toWorld (ja : Option Addr) (jn jc : Nat) (la : Option Addr) (ln lc : Nat) (sa : Option Addr) (sn sc : Nat) (na : Option Addr) (nn nc : Nat) (oa : Option Addr) (on oc : Nat) (ba : Option Addr) (bn bc : Nat) (x : Wo) (w : World) (h : SeeWo w ja jn jc la ln lc sa sn sc na nn nc oa on oc ba bn bc x) (hbd : BoundWo x) :
    Calls Try.prog 6 #[.agg #[.int .i64 x.1.1, .int .i64 x.1.2.1, .int .i64 x.1.2.2.1, .slice ja jn jc, .slice la ln lc, .int .i64 x.1.2.2.2.2.2, .slice sa sn sc, .slice na nn nc, .slice oa on oc, .slice ba bn bc]] w (RetR worldR w x) := by
  have e1 := h.sh.1
  have e2 := h.net.1
  have e3 := h.outs.1
  have e4 := h.begun.1
  have f1 := hbd.shs
  have f2 := hbd.net
  have f3 := hbd.outs
  have f4 := hbd.begun
  have H0 := Hid.mk' (fun wx (hx : Below w.heap.size w wx) => cos.toCoord ja jn jc la ln lc x.1 wx (h.co.below hx) hbd.co)
  have H1 := Hid.mk' (fun wx (hx : Below w.heap.size w wx) => toShardS sa sn sc x.2.1 wx (h.sh.below hx) (by omega) hbd.sh)
  have H2 := Hid.mk' (fun wx (hx : Below w.heap.size w wx) => toWordS na nn nc x.2.2.1 wx (h.net.below hx) (by omega) (fun j hj => by have := (hbd.nets j hj).1; omega))
  have H3 := Hid.mk' (fun wx (hx : Below w.heap.size w wx) => toWordS oa on oc x.2.2.2.1 wx (h.outs.below hx) (by omega) (fun j hj => by have := (hbd.outss j hj).1; omega))
  have H4 := Hid.mk' (fun wx (hx : Below w.heap.size w wx) => toOrderS ba bn bc x.2.2.2.2 wx (h.begun.below hx) (by omega) (fun j hj => by have := (hbd.beguns j hj).1; omega))
  clear h e1 e2 e3 e4 f1 f2 f3 f4 hbd
  obtain ⟨W1, hW1⟩ : ∃ W1, w.alloc (.cells #[.int .i64 x.1.1, .int .i64 x.1.2.1, .int .i64 x.1.2.2.1, .slice ja jn jc, .slice la ln lc, .int .i64 x.1.2.2.2.2.2, .slice sa sn sc, .slice na nn nc, .slice oa on oc, .slice ba bn bc] 30) = W1 := ⟨_, rfl⟩
  have hb1 : Below w.heap.size w W1 := by rw [← hW1]; exact below_make
  have hA1 : BoxIn w.heap.size 30 [] [.int .i64 x.1.1, .int .i64 x.1.2.1, .int .i64 x.1.2.2.1, .slice ja jn jc, .slice la ln lc, .int .i64 x.1.2.2.2.2.2, .slice sa sn sc, .slice na nn nc, .slice oa on oc, .slice ba bn bc] [] W1 := by rw [← hW1]; exact boxIn_new w _ _
  have hs1 : W1.heap.size = w.heap.size + 1 := by rw [← hW1]; simp
  obtain ⟨W2, hW2⟩ : ∃ W2, W1.alloc (.cells #[.int .i64 0, .int .i64 0, .int .i64 0, .slice none 0 0, .slice none 0 0, .int .i64 0, .slice none 0 0, .slice none 0 0, .slice none 0 0, .slice none 0 0] 41) = W2 := ⟨_, rfl⟩
  have hb2 : Below W1.heap.size W1 W2 := by rw [← hW2]; exact below_make
  have hR2 : BoxIn (w.heap.size + 1) 41 [] [.int .i64 0, .int .i64 0, .int .i64 0, .slice none 0 0, .slice none 0 0, .int .i64 0, .slice none 0 0, .slice none 0 0, .slice none 0 0, .slice none 0 0] [] W2 := by rw [← hW2, ← hs1]; exact boxIn_new W1 _ _
  have hs2 : W2.heap.size = w.heap.size + 1 + 1 := by rw [← hW2]; simp [hs1]
  obtain ⟨W, hW⟩ : ∃ W, W2.alloc (.cells #[.int .i64 0, .int .i64 0, .int .i64 0, .slice none 0 0, .slice none 0 0, .int .i64 0, .slice none 0 0, .slice none 0 0, .slice none 0 0, .slice none 0 0] 41) = W := ⟨_, rfl⟩
  have hb3 : Below W2.heap.size W2 W := by rw [← hW]; exact below_make
  have hO : BoxIn (w.heap.size + 1 + 1) 41 [] [.int .i64 0, .int .i64 0, .int .i64 0, .slice none 0 0, .slice none 0 0, .int .i64 0, .slice none 0 0, .slice none 0 0, .slice none 0 0, .slice none 0 0] [] W := by rw [← hW, ← hs2]; exact boxIn_new W2 _ _
  have hA := (hA1.below hb2).below hb3
  have hR := hR2.below hb3
  have hB := (hb1.trans (hb2.mono hb1.size)).trans (hb3.mono (Nat.le_trans hb1.size hb2.size))
  have HWW : Hid (((w.alloc (.cells #[.int .i64 x.1.1, .int .i64 x.1.2.1, .int .i64 x.1.2.2.1, .slice ja jn jc, .slice la ln lc, .int .i64 x.1.2.2.2.2.2, .slice sa sn sc, .slice na nn nc, .slice oa on oc, .slice ba bn bc] 30)).alloc (.cells #[.int .i64 0, .int .i64 0, .int .i64 0, .slice none 0 0, .slice none 0 0, .int .i64 0, .slice none 0 0, .slice none 0 0, .slice none 0 0, .slice none 0 0] 41)).alloc (.cells #[.int .i64 0, .int .i64 0, .int .i64 0, .slice none 0 0, .slice none 0 0, .int .i64 0, .slice none 0 0, .slice none 0 0, .slice none 0 0, .slice none 0 0] 41) = W) := by show _ = _; rw [hW1, hW2, hW]
  clear hb1 hb2 hb3 hA1 hR2 hs1 hs2 hW1 hW2 hW
  obtain ⟨c0, c1, c2, c3, c4, c5, c6, c7, c8, c9⟩ := cells10 hA
  rw [← HWW.out] at c0 c1 c2 c3 c4 c5 c6 c7 c8 c9
  have hbs0 := hO.lt
  go_enter Try.func6, Try.ntmps6
  go_wp2_with fail
  rw [HWW.out]
  refine (H0.out W hB).mono ?_
  rintro e w1 ⟨us0, F0, rfl, h0, hF0, hbn⟩
  obtain ⟨xja, xjn, xjc, xla, xln, xlc, rfl⟩ := cos.coord_shape h0
  replace hO := hO.below hbn
  replace hA := hA.below hbn
  replace hR := hR.below hbn
  replace hB := hB.trans (hbn.mono hB.size)
  have n0 := hO.set 0 (by simp) (.int .i64 x.1.1)
  have u0 := hO.cell 0 _ rfl
  have v0 := hO.fz 0
  simp only [List.length_nil, Nat.zero_add] at n0 u0
  have n1 := n0.1.set 1 (by simp) (.int .i64 x.1.2.1)
  have u1 := n0.1.cell 1 _ rfl
  have v1 := n0.1.fz 1
  simp only [List.length_nil, Nat.zero_add] at n1 u1
  have n2 := n1.1.set 2 (by simp) (.int .i64 x.1.2.2.1)
  have u2 := n1.1.cell 2 _ rfl
  have v2 := n1.1.fz 2
  simp only [List.length_nil, Nat.zero_add] at n2 u2
  have n3 := n2.1.set 3 (by simp) (.slice xja xjn xjc)
  have u3 := n2.1.cell 3 _ rfl
  have v3 := n2.1.fz 3
  simp only [List.length_nil, Nat.zero_add] at n3 u3
  have n4 := n3.1.set 4 (by simp) (.slice xla xln xlc)
  have u4 := n3.1.cell 4 _ rfl
  have v4 := n3.1.fz 4
  simp only [List.length_nil, Nat.zero_add] at n4 u4
  have n5 := n4.1.set 5 (by simp) (.int .i64 x.1.2.2.2.2.2)
  have u5 := n4.1.cell 5 _ rfl
  have v5 := n4.1.fz 5
  simp only [List.length_nil, Nat.zero_add] at n5 u5
  have t0 := (hA.grown (grownBy_trans (grownBy_trans (grownBy_trans (grownBy_trans (grownBy_trans n0.2 n1.2) n2.2) n3.2) n4.2) n5.2) (by simp; omega)).cell 6 _ rfl
  simp only [List.length_nil, Nat.zero_add] at t0
  have gg := (grownBy_trans (grownBy_trans (grownBy_trans (grownBy_trans (grownBy_trans n0.2 n1.2) n2.2) n3.2) n4.2) n5.2)
  replace hB := hB.grown gg hB.size (fun k e => by cases e; omega)
  replace hR := hR.grown gg (by simp)
  replace hA := hA.grown gg (by simp; omega)
  replace h0 := cos.coordR.ownGrown h0 gg (fun k hk e => by have := hF0 k hk; cases e; omega)
  replace hO : BoxIn (w.heap.size + 1 + 1) 41 [] [.int .i64 x.1.1, .int .i64 x.1.2.1, .int .i64 x.1.2.2.1, .slice xja xjn xjc, .slice xla xln xlc, .int .i64 x.1.2.2.2.2.2, .slice none 0 0, .slice none 0 0, .slice none 0 0, .slice none 0 0] [] _ := n5.1
  clear c0 c1 c2 c3 c4 c5 c6 c7 c8 c9
  go_wp2_with fail
  clear u0 v0 n0 u1 v1 n1 u2 v2 n2 u3 v3 n3 u4 v4 n4 u5 v5 n5 t0 gg hbn
  generalize hVV : ((((((w1.setCell ⟨w.heap.size + 1 + 1, 0, none⟩ (.int .i64 x.1.1)).setCell ⟨w.heap.size + 1 + 1, 1, none⟩ (.int .i64 x.1.2.1)).setCell ⟨w.heap.size + 1 + 1, 2, none⟩ (.int .i64 x.1.2.2.1)).setCell ⟨w.heap.size + 1 + 1, 3, none⟩ (.slice xja xjn xjc)).setCell ⟨w.heap.size + 1 + 1, 4, none⟩ (.slice xla xln xlc)).setCell ⟨w.heap.size + 1 + 1, 5, none⟩ (.int .i64 x.1.2.2.2.2.2)) = V1 at *
  clear hVV
  have hbs1 := hO.lt
  refine (H1.out V1 hB).mono ?_
  rintro e w2 ⟨r1, F1, rfl, h1, hF1, hbn⟩
  obtain ⟨ra1, rn1, rc1, rfl⟩ := slice_shape h1
  have hl0_1 := cos.coordR.ownLt h0
  replace h0 := cos.coordR.ownBelow h0 hbn
  replace hO := hO.below hbn
  replace hA := hA.below hbn
  replace hR := hR.below hbn
  replace hB := hB.trans (hbn.mono hB.size)
  have n0 := hO.set 6 (by simp) (.slice ra1 rn1 rc1)
  have u0 := hO.cell 6 _ rfl
  have v0 := hO.fz 6
  simp only [List.length_nil, Nat.zero_add] at n0 u0
  have t0 := (hA.grown n0.2 (by simp; omega)).cell 7 _ rfl
  simp only [List.length_nil, Nat.zero_add] at t0
  have gg := n0.2
  replace hB := hB.grown gg hB.size (fun k e => by cases e; omega)
  replace hR := hR.grown gg (by simp)
  replace hA := hA.grown gg (by simp; omega)
  replace h0 := cos.coordR.ownGrown h0 gg (fun k hk e => by have := hF0 k hk; cases e; omega)
  replace h1 := shsR.ownGrown h1 gg (fun k hk e => by have := hF1 k hk; cases e; omega)
  replace hO : BoxIn (w.heap.size + 1 + 1) 41 [] [.int .i64 x.1.1, .int .i64 x.1.2.1, .int .i64 x.1.2.2.1, .slice xja xjn xjc, .slice xla xln xlc, .int .i64 x.1.2.2.2.2.2, .slice ra1 rn1 rc1, .slice none 0 0, .slice none 0 0, .slice none 0 0] [] _ := n0.1
  go_wp2_with fail
  clear u0 v0 t0 n0 gg hbn
  generalize hVV : (w2.setCell ⟨w.heap.size + 1 + 1, 6, none⟩ (.slice ra1 rn1 rc1)) = V2 at *
  clear hVV
  have hbs2 := hO.lt
  refine (H2.out V2 hB).mono ?_
  rintro e w3 ⟨r2, F2, rfl, h2, hF2, hbn⟩
  obtain ⟨ra2, rn2, rc2, rfl⟩ := slice_shape h2
  have hl0_2 := cos.coordR.ownLt h0
  replace h0 := cos.coordR.ownBelow h0 hbn
  have hl1_2 := shsR.ownLt h1
  replace h1 := shsR.ownBelow h1 hbn
  replace hO := hO.below hbn
  replace hA := hA.below hbn
  replace hR := hR.below hbn
  replace hB := hB.trans (hbn.mono hB.size)
  have n0 := hO.set 7 (by simp) (.slice ra2 rn2 rc2)
  have u0 := hO.cell 7 _ rfl
  have v0 := hO.fz 7
  simp only [List.length_nil, Nat.zero_add] at n0 u0
  have t0 := (hA.grown n0.2 (by simp; omega)).cell 8 _ rfl
  simp only [List.length_nil, Nat.zero_add] at t0
  have gg := n0.2
  replace hB := hB.grown gg hB.size (fun k e => by cases e; omega)
  replace hR := hR.grown gg (by simp)
  replace hA := hA.grown gg (by simp; omega)
  replace h0 := cos.coordR.ownGrown h0 gg (fun k hk e => by have := hF0 k hk; cases e; omega)
  replace h1 := shsR.ownGrown h1 gg (fun k hk e => by have := hF1 k hk; cases e; omega)
  replace h2 := cos.wordsR.ownGrown h2 gg (fun k hk e => by have := hF2 k hk; cases e; omega)
  replace hO : BoxIn (w.heap.size + 1 + 1) 41 [] [.int .i64 x.1.1, .int .i64 x.1.2.1, .int .i64 x.1.2.2.1, .slice xja xjn xjc, .slice xla xln xlc, .int .i64 x.1.2.2.2.2.2, .slice ra1 rn1 rc1, .slice ra2 rn2 rc2, .slice none 0 0, .slice none 0 0] [] _ := n0.1
  go_wp2_with fail
  clear u0 v0 t0 n0 gg hbn
  generalize hVV : (w3.setCell ⟨w.heap.size + 1 + 1, 7, none⟩ (.slice ra2 rn2 rc2)) = V3 at *
  clear hVV
  have hbs3 := hO.lt
  refine (H3.out V3 hB).mono ?_
  rintro e w4 ⟨r3, F3, rfl, h3, hF3, hbn⟩
  obtain ⟨ra3, rn3, rc3, rfl⟩ := slice_shape h3
  have hl0_3 := cos.coordR.ownLt h0
  replace h0 := cos.coordR.ownBelow h0 hbn
  have hl1_3 := shsR.ownLt h1
  replace h1 := shsR.ownBelow h1 hbn
  have hl2_3 := cos.wordsR.ownLt h2
  replace h2 := cos.wordsR.ownBelow h2 hbn
  replace hO := hO.below hbn
  replace hA := hA.below hbn
  replace hR := hR.below hbn
  replace hB := hB.trans (hbn.mono hB.size)
  have n0 := hO.set 8 (by simp) (.slice ra3 rn3 rc3)
  have u0 := hO.cell 8 _ rfl
  have v0 := hO.fz 8
  simp only [List.length_nil, Nat.zero_add] at n0 u0
  have t0 := (hA.grown n0.2 (by simp; omega)).cell 9 _ rfl
  simp only [List.length_nil, Nat.zero_add] at t0
  have gg := n0.2
  replace hB := hB.grown gg hB.size (fun k e => by cases e; omega)
  replace hR := hR.grown gg (by simp)
  replace hA := hA.grown gg (by simp; omega)
  replace h0 := cos.coordR.ownGrown h0 gg (fun k hk e => by have := hF0 k hk; cases e; omega)
  replace h1 := shsR.ownGrown h1 gg (fun k hk e => by have := hF1 k hk; cases e; omega)
  replace h2 := cos.wordsR.ownGrown h2 gg (fun k hk e => by have := hF2 k hk; cases e; omega)
  replace h3 := cos.wordsR.ownGrown h3 gg (fun k hk e => by have := hF3 k hk; cases e; omega)
  replace hO : BoxIn (w.heap.size + 1 + 1) 41 [] [.int .i64 x.1.1, .int .i64 x.1.2.1, .int .i64 x.1.2.2.1, .slice xja xjn xjc, .slice xla xln xlc, .int .i64 x.1.2.2.2.2.2, .slice ra1 rn1 rc1, .slice ra2 rn2 rc2, .slice ra3 rn3 rc3, .slice none 0 0] [] _ := n0.1
  go_wp2_with fail
  clear u0 v0 t0 n0 gg hbn
  generalize hVV : (w4.setCell ⟨w.heap.size + 1 + 1, 8, none⟩ (.slice ra3 rn3 rc3)) = V4 at *
  clear hVV
  have hbs4 := hO.lt
  refine (H4.out V4 hB).mono ?_
  rintro e w5 ⟨r4, F4, rfl, h4, hF4, hbn⟩
  obtain ⟨ra4, rn4, rc4, rfl⟩ := slice_shape h4
  have hl0_4 := cos.coordR.ownLt h0
  replace h0 := cos.coordR.ownBelow h0 hbn
  have hl1_4 := shsR.ownLt h1
  replace h1 := shsR.ownBelow h1 hbn
  have hl2_4 := cos.wordsR.ownLt h2
  replace h2 := cos.wordsR.ownBelow h2 hbn
  have hl3_4 := cos.wordsR.ownLt h3
  replace h3 := cos.wordsR.ownBelow h3 hbn
  replace hO := hO.below hbn
  replace hA := hA.below hbn
  replace hR := hR.below hbn
  replace hB := hB.trans (hbn.mono hB.size)
  have n0 := hO.set 9 (by simp) (.slice ra4 rn4 rc4)
  have u0 := hO.cell 9 _ rfl
  have v0 := hO.fz 9
  simp only [List.length_nil, Nat.zero_add] at n0 u0
  have gg := n0.2
  replace hB := hB.grown gg hB.size (fun k e => by cases e; omega)
  replace hR := hR.grown gg (by simp)
  replace hA := hA.grown gg (by simp; omega)
  replace h0 := cos.coordR.ownGrown h0 gg (fun k hk e => by have := hF0 k hk; cases e; omega)
  replace h1 := shsR.ownGrown h1 gg (fun k hk e => by have := hF1 k hk; cases e; omega)
  replace h2 := cos.wordsR.ownGrown h2 gg (fun k hk e => by have := hF2 k hk; cases e; omega)
  replace h3 := cos.wordsR.ownGrown h3 gg (fun k hk e => by have := hF3 k hk; cases e; omega)
  replace h4 := ordsR.ownGrown h4 gg (fun k hk e => by have := hF4 k hk; cases e; omega)
  replace hO : BoxIn (w.heap.size + 1 + 1) 41 [] [.int .i64 x.1.1, .int .i64 x.1.2.1, .int .i64 x.1.2.2.1, .slice xja xjn xjc, .slice xla xln xlc, .int .i64 x.1.2.2.2.2.2, .slice ra1 rn1 rc1, .slice ra2 rn2 rc2, .slice ra3 rn3 rc3, .slice ra4 rn4 rc4] [] _ := n0.1
  obtain ⟨q0, q1, q2, q3, q4, q5, q6, q7, q8, q9⟩ := cells10 hO
  obtain ⟨z0, z1, z2, z3, z4, z5, z6, z7, z8, z9⟩ := cells10 hR
  have f0 := hR.fz 0
  have f1 := hR.fz 1
  have f2 := hR.fz 2
  have f3 := hR.fz 3
  have f4 := hR.fz 4
  have f5 := hR.fz 5
  have f6 := hR.fz 6
  have f7 := hR.fz 7
  have f8 := hR.fz 8
  have f9 := hR.fz 9
  have hS := hR.whole [.int .i64 x.1.1, .int .i64 x.1.2.1, .int .i64 x.1.2.2.1, .slice xja xjn xjc, .slice xla xln xlc, .int .i64 x.1.2.2.2.2.2, .slice ra1 rn1 rc1, .slice ra2 rn2 rc2, .slice ra3 rn3 rc3, .slice ra4 rn4 rc4] rfl
  obtain ⟨y0, y1, y2, y3, y4, y5, y6, y7, y8, y9⟩ := cells10 hS.1
  simp only [putAll, Nat.zero_add, Nat.reduceAdd] at y0 y1 y2 y3 y4 y5 y6 y7 y8 y9
  have HBz := Hid.mk' (hB.grown hS.2 hB.size (fun j e => by cases e; omega))
  replace h0 := cos.coordR.ownGrown h0 hS.2 (fun k hk e => by have := hF0 k hk; cases e; omega)
  replace h1 := shsR.ownGrown h1 hS.2 (fun k hk e => by have := hF1 k hk; cases e; omega)
  replace h2 := cos.wordsR.ownGrown h2 hS.2 (fun k hk e => by have := hF2 k hk; cases e; omega)
  replace h3 := cos.wordsR.ownGrown h3 hS.2 (fun k hk e => by have := hF3 k hk; cases e; omega)
  replace h4 := ordsR.ownGrown h4 hS.2 (fun k hk e => by have := hF4 k hk; cases e; omega)
  have nd3 : (F3 ++ F4).Nodup := nodup_new (cos.wordsR.ownNodup h3) (ordsR.ownNodup h4) hl3_4 hF4
  have nd2 : (F2 ++ (F3 ++ F4)).Nodup := nodup_mk (cos.wordsR.ownNodup h2) nd3 (fun k hk hk2 => by
    rcases List.mem_append.1 hk2 with e | e
    · have := hl2_3 k hk; have := hF3 k e; omega
    · have := hl2_4 k hk; have := hF4 k e; omega)
  have nd1 : (F1 ++ (F2 ++ (F3 ++ F4))).Nodup := nodup_mk (shsR.ownNodup h1) nd2 (fun k hk hk2 => by
    rcases List.mem_append.1 hk2 with e | e
    · have := hl1_2 k hk; have := hF2 k e; omega
    · rcases List.mem_append.1 e with e | e
      · have := hl1_3 k hk; have := hF3 k e; omega
      · have := hl1_4 k hk; have := hF4 k e; omega)
  have nd0 : (F0 ++ (F1 ++ (F2 ++ (F3 ++ F4)))).Nodup := nodup_mk (cos.coordR.ownNodup h0) nd1 (fun k hk hk2 => by
    rcases List.mem_append.1 hk2 with e | e
    · have := hl0_1 k hk; have := hF1 k e; omega
    · rcases List.mem_append.1 e with e | e
      · have := hl0_2 k hk; have := hF2 k e; omega
      · rcases List.mem_append.1 e with e | e
        · have := hl0_3 k hk; have := hF3 k e; omega
        · have := hl0_4 k hk; have := hF4 k e; omega)
  have HOW : Hid (worldR.own (putAll (w5.setCell ⟨w.heap.size + 1 + 1, 9, none⟩ (.slice ra4 rn4 rc4)) (w.heap.size + 1) 0 [.int .i64 x.1.1, .int .i64 x.1.2.1, .int .i64 x.1.2.2.1, .slice xja xjn xjc, .slice xla xln xlc, .int .i64 x.1.2.2.2.2.2, .slice ra1 rn1 rc1, .slice ra2 rn2 rc2, .slice ra3 rn3 rc3, .slice ra4 rn4 rc4]) [.int .i64 x.1.1, .int .i64 x.1.2.1, .int .i64 x.1.2.2.1, .slice xja xjn xjc, .slice xla xln xlc, .int .i64 x.1.2.2.2.2.2, .slice ra1 rn1 rc1, .slice ra2 rn2 rc2, .slice ra3 rn3 rc3, .slice ra4 rn4 rc4] x (F0 ++ (F1 ++ (F2 ++ (F3 ++ F4))))) := world_own.2 ⟨_, _, _, _, _, F0, F1, F2, F3, F4, rfl, rfl, h0, h1, h2, h3, h4, nd0⟩
  have HFN : Hid (∀ k ∈ F0 ++ (F1 ++ (F2 ++ (F3 ++ F4))), w.heap.size ≤ k) := fun k hk => by
    rcases List.mem_append.1 hk with e | e
    · have := hF0 k e; omega
    · rcases List.mem_append.1 e with e | e
      · have := hF1 k e; omega
      · rcases List.mem_append.1 e with e | e
        · have := hF2 k e; omega
        · rcases List.mem_append.1 e with e | e
          · have := hF3 k e; omega
          · have := hF4 k e; omega
  clear h0 h1 h2 h3 h4 hS
  go_wp2_with fail
  refine bodyPost_ret (v := .agg #[.int .i64 x.1.1, .int .i64 x.1.2.1, .int .i64 x.1.2.2.1, .slice xja xjn xjc, .slice xla xln xlc, .int .i64 x.1.2.2.2.2.2, .slice ra1 rn1 rc1, .slice ra2 rn2 rc2, .slice ra3 rn3 rc3, .slice ra4 rn4 rc4]) ?_ rfl ⟨_, _, rfl, HOW.out, HFN.out, HBz.out⟩
  simp [results, Try.results6, go_sem, y0, y1, y2, y3, y4, y5, y6, y7, y8, y9]
end Go.Proofs.Ytmibabclefgljaa.wos
