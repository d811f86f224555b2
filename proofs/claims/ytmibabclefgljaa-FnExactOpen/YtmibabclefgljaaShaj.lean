/- The laws' own copies of those who decide. What the exact laws of those who decide share. The laws' own functions on shards: copies and marks. -/
import Derived.Test.YtmibabclefgljaaShae
import Derived.Test.YtmibabclefgljaaShai
import Derived.Deep.RegionHeld3
import Derived.Test.YtmibabclefgljaaShah
namespace Go.Proofs.Ytmibabclefgljaa.cos
open Go Go.RowKit Go.Proofs.Ytmibabclefgljaa.base Go.Proofs.Ytmibabclefgljaa.pairs Go.Proofs.Ytmibabclefgljaa.ords Go.Proofs.Ytmibabclefgljaa.lay Go.Proofs.Ytmibabclefgljaa.wds
set_option linter.unusedVariables false
set_option linter.unusedSimpArgs false

theorem toOpS_V (a : Option Addr) (len cap : Nat) (l : List Od) (w : World) (h : SlO w a len l) (hsz : len ≤ 1099511627776) : Calls Try.prog 45 #[.slice a len cap] w (RetV opsR w l) := by
  refine (toOpS a len cap l w h hsz).mono ?_
  rintro e w' ⟨g, rfl, hO, hb⟩
  refine ⟨_, _, rfl, ops_own.2 ⟨(ownV_of hO).mono (Nat.zero_le _), rfl⟩, fun k hk => ?_, hb⟩
  have : k = g := by simpa [Value.ownBlock] using hk
  subst this
  exact hO.lt.1
theorem ownZV_of {w : World} {base g n cap : Nat} {zs : List Int} (hw : ∀ z ∈ zs, (Lit.int .i64 z).wf = true) (h : OwnZ w base g n cap zs) : OwnZV w (.slice (some ⟨g, 0, none⟩) n cap) zs := ⟨hw, by rw [h.1]; exact (h.mono (Nat.zero_le _)).2⟩
theorem intVals_zero (n : Nat) : intVals (List.replicate n 0) = (madeCells #[Value.int .i64 0] n).toList := by
  apply List.ext_getElem?
  intro j
  by_cases hj : j < n
  · simp [intVals, madeCells, hj, Value.cells, Nat.mod_one]
  · rw [List.getElem?_eq_none (by simp [intVals]; omega), List.getElem?_eq_none (by simp [madeCells]; omega)]
set_option maxRecDepth 100000 in
set_option maxHeartbeats 2000000 in
theorem toIntS_V (a : Option Addr) (len cap : Nat) (zs : List Int) (w : World) (h : SlZ w a len zs) (hw : ∀ z ∈ zs, (Lit.int .i64 z).wf = true) (hsz : len ≤ 1099511627776) : Calls Try.prog 55 #[.slice a len cap] w (RetV intsR w zs) := by
  obtain ⟨hl, hm, hc⟩ := id h
  subst hl
  have hm' := hm
  unfold maxLen at hm'
  obtain ⟨i0, hif, hz0, hz1, hz2⟩ := info_parts infoZ
  go_enter Try.func55, Try.ntmps55
  go_wp2_with (at_make; refine wpList_make_full _ rfl _ _ 54 rfl w.heap.size 3 i0 (.int .i64 0) 1 Try.underlying54 hif hz0 hz1 _ _ _ _ zs.length rfl rfl rfl rfl ?b2 ?b3 ?b4 ?_)
  case b2 => rw [hz2]; omega
  case b3 => exact hm
  case b4 => exact Nat.le_refl _
  intro w1 hown hgrow
  have hOwn : OwnZ w1 w.heap.size w.heap.size zs.length zs.length (copyG 0 zs 0) := by
    refine ⟨copyG_length 0 (Nat.zero_le _), ?_⟩
    rw [copyG_zero, intVals_zero]; exact hown
  have hbel : Below w.heap.size w w1 := (Below.refl _ _).grown hgrow (Nat.le_refl _) (fun k e => by cases e)
  clear hown hgrow hif hz0 hz1 hz2
  go_wp2_with fail
  go_loopw [4] (fun i wr => ∃ k : Nat, k ≤ zs.length ∧ i = .int .i64 k ∧ OwnZ wr w.heap.size w.heap.size zs.length zs.length (copyG 0 zs k) ∧ Below w.heap.size w wr) (fun i _ => zs.length - (intOf i).toNat)
  case atStart => exact ⟨0, Nat.zero_le _, rfl, hOwn, hbel⟩
  case round =>
    clear hOwn hbel
    obtain ⟨k, hk, rfl, hO, hB⟩ := hrel
    by_cases hlt : k < zs.length
    · obtain ⟨b, off, ha, hcl⟩ := hc (by omega)
      subst ha
      have c0 := (h.below hB).cells k hlt
      have hki : (k : Int) < (zs.length : Int) := by omega
      have HS := Hid.mk' (copyG_set (z := (0 : Int)) k hlt)
      have hkl : k < (copyG 0 zs k).length := by rw [copyG_length k hk]; exact hlt
      have d0 := hO.at k hkl
      have f0 := hO.frozen k
      have R := ownZ_set hO k zs[k]
      rw [HS.out] at R
      have HR := Hid.mk' R
      generalize zs[k] = p at *
      generalize (copyG 0 zs k)[k] = z0 at *
      have hsz2 := hB.size
      clear R hO hcl hc h
      go_wp2_with fail
      go_roundw
      case rel => exact ⟨k + 1, by omega, by go_num, HR.out.1, hB.trans (below_grown HR.out.2 (Nat.le_refl _) hsz2)⟩
      case measure => simp [intOf]; omega
    · have e : k = zs.length := by omega
      subst e
      rw [copyG_all] at hO
      go_wp2_with fail
      go_ret
      refine ⟨_, _, rfl, ints_own.2 ⟨ownZV_of hw hO, rfl⟩, fun k hk => ?_, hB⟩
      have : k = w.heap.size := by simpa [Value.ownBlock] using hk
      omega
theorem job_mk {w : World} {x y : Value} {tx st : Int} {ops : List Od} {yes : List Int} {F1 F2 : List Nat} (k1 : (Lit.int .i64 tx).wf = true) (k3 : (Lit.int .i64 st).wf = true) (hx : opsR.own w [x] ops F1) (hy : intsR.own w [y] yes F2) (hn : (F1 ++ F2).Nodup) : jobR.own w [.int .i64 tx, x, .int .i64 st, y] (tx, ops, st, yes) (F1 ++ F2) := by
  obtain ⟨h1, rfl⟩ := ops_own.1 hx
  obtain ⟨h2, rfl⟩ := ints_own.1 hy
  exact job_own.2 ⟨x, y, rfl, k1, k3, h1, h2, rfl, hn⟩
theorem job_vals {w : World} {vs : List Value} {x : Jb} {F : List Nat} (h : jobR.own w vs x F) : ∃ ra rn rc sa sn sc, vs = [.int .i64 x.1, .slice ra rn rc, .int .i64 x.2.2.1, .slice sa sn sc] := by
  obtain ⟨oa, ol, oc, ya, yl, yc, e, _⟩ := job_see.1 (jobR.ownSee h)
  exact ⟨_, _, _, _, _, _, e⟩
theorem job_zero (w : World) : jobR.own w [.int .i64 0, .slice none 0 0, .int .i64 0, .slice none 0 0] (0, [], 0, []) [] :=
  job_own.2 ⟨_, _, rfl, by decide, by decide, ownV_nil _ _, ⟨fun _ h => absurd h List.not_mem_nil, World.ownsRow_nil _ _ _ _⟩, rfl, List.nodup_nil⟩
theorem ch_zero (w : World) : chR.own w [.int .i64 0, .bool false] (0, false) [] := flat_ch.own.2 ⟨rfl, ⟨by decide, trivial⟩, rfl⟩
set_option maxRecDepth 100000 in
set_option maxHeartbeats 1000000 in
theorem toChoice (tx : Int) (y : Bool) (w : World) (k1 : (Lit.int .i64 tx).wf = true) : Calls Try.prog 42 #[.agg #[.int .i64 tx, .bool y]] w (RetR chR w (tx, y)) := by
  go_enter Try.func42, Try.ntmps42
  go_wp2_with fail
  refine bodyPost_ret (v := .agg #[.int .i64 tx, .bool y]) ?_ rfl ⟨_, [], rfl, flat_ch.own.2 ⟨rfl, ⟨k1, trivial⟩, rfl⟩, fun k hk => absurd hk List.not_mem_nil, (((Below.refl _ _).alloc (Nat.le_refl _) _).alloc (by simp) _).alloc (by simp; omega) _⟩
  simp [results, Try.results42, go_sem]
theorem toChoiceR (u0 u1 : Value) (x : Ch) (w : World) (h : chR.see w [u0, u1] x) : Calls Try.prog 42 #[.agg #[u0, u1]] w (RetR chR w x) := by
  obtain ⟨e, k1, _⟩ := flat_ch.see.1 h
  simp only [List.cons.injEq, and_true] at e
  obtain ⟨rfl, rfl⟩ := e
  exact toChoice x.1 x.2 w k1
theorem info_toChoiceS : (Try.prog.info? 102).map (fun i => (i.zero, i.size, i.bytes)) = some (some (.agg #[.int .i64 0, .bool false]), 2, 16) := by kernel_rfl
set_option maxRecDepth 100000 in
set_option maxHeartbeats 4000000 in
theorem toChoiceS (a : Option Addr) (len cap : Nat) (l : List Ch) (w : World) (h : SlG chR w a len l) (hsz : len ≤ 1099511627776) :
    Calls Try.prog 28 #[.slice a len cap] w (RetV (lay.slice 102 chR) w l) := by
  have hl := h.1
  have hm := h.2.1
  subst hl
  have hm' := hm
  unfold maxLen at hm'
  obtain ⟨i0, hif, hz0, hz1, hz2⟩ := info_parts info_toChoiceS
  go_enter Try.func28, Try.ntmps28
  go_wp2_with (at_make; refine wpList_make_full _ rfl _ _ 34 rfl w.heap.size 102 i0 (.agg #[.int .i64 0, .bool false]) 2 Try.underlying34 hif hz0 hz1 _ _ _ _ l.length rfl rfl rfl rfl ?b2 ?b3 ?b4 ?_)
  case b2 => rw [hz2]; omega
  case b3 => exact hm
  case b4 => exact Nat.le_refl _
  intro w1 hown hgrow
  have hOwn := ownG_zeros (R := chR) (z := .agg #[.int .i64 0, .bool false]) (x := (0, false)) hown (ch_zero _)
  have hbel : Below w.heap.size w w1 := (Below.refl _ _).grown hgrow (Nat.le_refl _) (fun k e => by cases e)
  have hOwn0 : OwnG 102 chR w1 (.slice (some ⟨w.heap.size, 0, none⟩) l.length l.length) (copyG (0, false) l 0) (List.replicate l.length ((.agg #[.int .i64 0, .bool false] : Value).cells.toList, [])) := by rw [copyG_zero]; exact hOwn
  have hq0 : ∀ b ∈ w.heap.size :: blocksOf (List.replicate l.length ((.agg #[.int .i64 0, .bool false] : Value).cells.toList, ([] : List Nat))), w.heap.size ≤ b := fun b hb => by
    have e1 : blocksOf (List.replicate l.length ((.agg #[.int .i64 0, .bool false] : Value).cells.toList, ([] : List Nat))) = [] := by unfold blocksOf; simp
    rw [e1, List.mem_singleton] at hb; omega
  clear hown hgrow hif hz0 hz1 hz2 hOwn
  go_wp2_with fail
  go_loopw [4] (fun i wr => ∃ (k : Nat) (q : Parts), k ≤ l.length ∧ i = .int .i64 k ∧ OwnG 102 chR wr (.slice (some ⟨w.heap.size, 0, none⟩) l.length l.length) (copyG (0, false) l k) q ∧ (∀ b ∈ w.heap.size :: blocksOf q, w.heap.size ≤ b) ∧ Below w.heap.size w wr) (fun i _ => l.length - (intOf i).toNat)
  case atStart => exact ⟨0, _, Nat.zero_le _, rfl, hOwn0, hq0, hbel⟩
  case round =>
    clear hOwn0 hbel hq0
    obtain ⟨k, q, hk, rfl, hO, hq, hB⟩ := hrel
    by_cases hlt : k < l.length
    · obtain ⟨b, off, e⟩ : ∃ b off, a = some ⟨b, off, none⟩ := by
        obtain ⟨b, off, e, _⟩ := h.2.2.2 (by omega)
        exact ⟨b, off, e⟩
      subst e
      obtain ⟨u0, u1, hsee, c0, c1⟩ := slg_at2 rfl (h.below hB) k hlt
      have hki : (k : Int) < (l.length : Int) := by omega
      have HS := Hid.mk' (copyG_set (z := (0, false)) k hlt)
      have HE := Hid.mk' (toChoiceR u0 u1 l[k] wr hsee)
      generalize l[k] = p at *
      clear hsee
      go_wp2_with fail
      refine HE.out.mono ?_
      rintro e w2 ⟨us, F, rfl, hOx, hF, hb2⟩
      obtain rfl := (flat_ch.own.1 hOx).1
      have hOR := hO.below hb2
      have hB2 := hB.trans (hb2.mono hB.size)
      have hkl : k < (copyG (0, false) l k).length := by rw [copyG_length k hk]; exact hlt
      have hlts := hO.lts
      have Rp := hOR.put k hkl [.int .i64 p.1, .bool p.2] p F hOx (fun j hj hjb => by have h1 := hF j hj; have h2 := hlts j hjb; omega)
      rw [HS.out] at Rp
      have HR := Hid.mk' Rp
      obtain ⟨y0, y1, _, d0, d1⟩ := slg_at2 rfl hOR.sl k hkl
      simp only [Nat.zero_add] at d0 d1
      have f0 := hOR.frozen (k * 2)
      have f1 := hOR.frozen (k * 2 + 1)
      have hqn : Hid (∀ b ∈ w.heap.size :: blocksOf (q.set k ([.int .i64 p.1, .bool p.2], F)), w.heap.size ≤ b) := fun j hj => by
        rcases List.mem_cons.1 hj with e | e
        · omega
        · obtain ⟨pp, hpp, hjp⟩ := List.mem_flatMap.1 e
          rcases List.mem_or_eq_of_mem_set hpp with h1 | h1
          · exact hq j (List.mem_cons_of_mem _ (List.mem_flatMap.2 ⟨pp, h1, hjp⟩))
          · subst h1
            have h1 := hF j hjp
            have h2 := hB.size
            omega
      have hsz2 := hB2.size
      clear Rp hO hOR hOx hB hb2 c0 c1 hlts
      go_wp2_with fail
      go_roundw
      case rel => exact ⟨k + 1, _, by omega, by go_num, HR.out.1, hqn.out, hB2.trans (below_grown HR.out.2 (Nat.le_refl _) hsz2)⟩
      case measure => simp [intOf]; omega
    · have e : k = l.length := by omega
      subst e
      rw [copyG_all] at hO
      go_wp2_with fail
      go_ret
      exact ⟨_, _, rfl, ⟨_, q, rfl, rfl, hO⟩, fun b hb => hq b (by simpa [Value.ownBlock] using hb), hB⟩
set_option maxRecDepth 100000 in
set_option maxHeartbeats 4000000 in
theorem toJob (tx st : Int) (oa : Option Addr) (ol oc : Nat) (ya : Option Addr) (yl yc : Nat) (ops : List Od) (yes : List Int) (w : World) (k1 : (Lit.int .i64 tx).wf = true) (k3 : (Lit.int .i64 st).wf = true) (hO0 : SlO w oa ol ops) (hY0 : SlZ w ya yl yes) (hyw : ∀ z ∈ yes, (Lit.int .i64 z).wf = true) (hs1_ : ol ≤ 1099511627776) (hs2_ : yl ≤ 1099511627776) :
    Calls Try.prog 41 #[.agg #[.int .i64 tx, .slice oa ol oc, .int .i64 st, .slice ya yl yc]] w (RetR jobR w (tx, ops, st, yes)) := by
  have H1 := Hid.mk' (fun wx (hx : Below w.heap.size w wx) => toOpS_V oa ol oc ops wx (hO0.below hx) hs1_)
  have H2 := Hid.mk' (fun wx (hx : Below w.heap.size w wx) => toIntS_V ya yl yc yes wx (hY0.below hx) hyw hs2_)
  clear hO0 hY0
  obtain ⟨W1, hW1⟩ : ∃ W1, w.alloc (.cells #[.int .i64 tx, .slice oa ol oc, .int .i64 st, .slice ya yl yc] 96) = W1 := ⟨_, rfl⟩
  have hb1 : Below w.heap.size w W1 := by rw [← hW1]; exact below_make
  have hA1 : BoxIn w.heap.size 96 [] [.int .i64 tx, .slice oa ol oc, .int .i64 st, .slice ya yl yc] [] W1 := by rw [← hW1]; exact boxIn_new w _ _
  have hs1 : W1.heap.size = w.heap.size + 1 := by rw [← hW1]; simp
  obtain ⟨W2, hW2⟩ : ∃ W2, W1.alloc (.cells #[.int .i64 0, .slice none 0 0, .int .i64 0, .slice none 0 0] 56) = W2 := ⟨_, rfl⟩
  have hb2 : Below W1.heap.size W1 W2 := by rw [← hW2]; exact below_make
  have hR2 : BoxIn (w.heap.size + 1) 56 [] [.int .i64 0, .slice none 0 0, .int .i64 0, .slice none 0 0] [] W2 := by rw [← hW2, ← hs1]; exact boxIn_new W1 _ _
  have hs2 : W2.heap.size = w.heap.size + 1 + 1 := by rw [← hW2]; simp [hs1]
  obtain ⟨W, hW⟩ : ∃ W, W2.alloc (.cells #[.int .i64 tx, .slice none 0 0, .int .i64 0, .slice none 0 0] 56) = W := ⟨_, rfl⟩
  have hb3 : Below W2.heap.size W2 W := by rw [← hW]; exact below_make
  have hO : BoxIn (w.heap.size + 1 + 1) 56 [] [.int .i64 tx, .slice none 0 0, .int .i64 0, .slice none 0 0] [] W := by rw [← hW, ← hs2]; exact boxIn_new W2 _ _
  have hA := (hA1.below hb2).below hb3
  have hR := hR2.below hb3
  have hB := (hb1.trans (hb2.mono hb1.size)).trans (hb3.mono (Nat.le_trans hb1.size hb2.size))
  have HWW : Hid (((w.alloc (.cells #[.int .i64 tx, .slice oa ol oc, .int .i64 st, .slice ya yl yc] 96)).alloc (.cells #[.int .i64 0, .slice none 0 0, .int .i64 0, .slice none 0 0] 56)).alloc (.cells #[.int .i64 tx, .slice none 0 0, .int .i64 0, .slice none 0 0] 56) = W) := by show _ = _; rw [hW1, hW2, hW]
  clear hb1 hb2 hb3 hA1 hR2 hs1 hs2 hW1 hW2 hW
  obtain ⟨c0, c1, c2, c3⟩ := cells4 hA
  rw [← HWW.out] at c0 c1 c2 c3
  have hbs0 := hO.lt
  go_enter Try.func41, Try.ntmps41
  go_wp2_with fail
  rw [HWW.out]
  refine (H1.out W hB).mono ?_
  rintro e w1 ⟨r0, F0, rfl, h0, hF0, hbn⟩
  obtain ⟨ra0, rn0, rc0, rfl⟩ := slice_shape h0
  replace hO := hO.below hbn
  replace hA := hA.below hbn
  replace hR := hR.below hbn
  replace hB := hB.trans (hbn.mono hB.size)
  have n0 := hO.set 1 (by simp) (.slice ra0 rn0 rc0)
  have u0 := hO.cell 1 _ rfl
  have v0 := hO.fz 1
  simp only [List.length_nil, Nat.zero_add] at n0 u0
  have n1 := n0.1.set 2 (by simp) (.int .i64 st)
  have u1 := n0.1.cell 2 _ rfl
  have v1 := n0.1.fz 2
  simp only [List.length_nil, Nat.zero_add] at n1 u1
  have t0 := (hA.grown n0.2 (by simp; omega)).cell 2 _ rfl
  simp only [List.length_nil, Nat.zero_add] at t0
  have t1 := (hA.grown (grownBy_trans n0.2 n1.2) (by simp; omega)).cell 3 _ rfl
  simp only [List.length_nil, Nat.zero_add] at t1
  have gg := (grownBy_trans n0.2 n1.2)
  replace hB := hB.grown gg hB.size (fun k e => by cases e; omega)
  replace hR := hR.grown gg (by simp)
  replace hA := hA.grown gg (by simp; omega)
  replace h0 := opsR.ownGrown h0 gg (fun k hk e => by have := hF0 k hk; cases e; omega)
  replace hO : BoxIn (w.heap.size + 1 + 1) 56 [] [.int .i64 tx, .slice ra0 rn0 rc0, .int .i64 st, .slice none 0 0] [] _ := n1.1
  clear c0 c1 c2 c3
  go_wp2_with fail
  clear u0 v0 u1 v1 t0 t1 n0 n1 gg hbn
  generalize hVV : ((w1.setCell ⟨w.heap.size + 1 + 1, 1, none⟩ (.slice ra0 rn0 rc0)).setCell ⟨w.heap.size + 1 + 1, 2, none⟩ (.int .i64 st)) = V1 at *
  clear hVV
  have hbs1 := hO.lt
  refine (H2.out V1 hB).mono ?_
  rintro e w2 ⟨r1, F1, rfl, h1, hF1, hbn⟩
  obtain ⟨ra1, rn1, rc1, rfl⟩ := slice_shape h1
  have hl0_1 := opsR.ownLt h0
  replace h0 := opsR.ownBelow h0 hbn
  replace hO := hO.below hbn
  replace hA := hA.below hbn
  replace hR := hR.below hbn
  replace hB := hB.trans (hbn.mono hB.size)
  have n0 := hO.set 3 (by simp) (.slice ra1 rn1 rc1)
  have u0 := hO.cell 3 _ rfl
  have v0 := hO.fz 3
  simp only [List.length_nil, Nat.zero_add] at n0 u0
  have gg := n0.2
  replace hB := hB.grown gg hB.size (fun k e => by cases e; omega)
  replace hR := hR.grown gg (by simp)
  replace hA := hA.grown gg (by simp; omega)
  replace h0 := opsR.ownGrown h0 gg (fun k hk e => by have := hF0 k hk; cases e; omega)
  replace h1 := intsR.ownGrown h1 gg (fun k hk e => by have := hF1 k hk; cases e; omega)
  replace hO : BoxIn (w.heap.size + 1 + 1) 56 [] [.int .i64 tx, .slice ra0 rn0 rc0, .int .i64 st, .slice ra1 rn1 rc1] [] _ := n0.1
  obtain ⟨q0, q1, q2, q3⟩ := cells4 hO
  obtain ⟨z0, z1, z2, z3⟩ := cells4 hR
  have f0 := hR.fz 0
  have f1 := hR.fz 1
  have f2 := hR.fz 2
  have f3 := hR.fz 3
  have hS := hR.whole [.int .i64 tx, .slice ra0 rn0 rc0, .int .i64 st, .slice ra1 rn1 rc1] rfl
  obtain ⟨y0, y1, y2, y3⟩ := cells4 hS.1
  simp only [putAll, Nat.zero_add, Nat.reduceAdd] at y0 y1 y2 y3
  have HBz := Hid.mk' (hB.grown hS.2 hB.size (fun j e => by cases e; omega))
  replace h0 := opsR.ownGrown h0 hS.2 (fun k hk e => by have := hF0 k hk; cases e; omega)
  replace h1 := intsR.ownGrown h1 hS.2 (fun k hk e => by have := hF1 k hk; cases e; omega)
  have nd : (F0 ++ F1).Nodup := nodup_new (opsR.ownNodup h0) (intsR.ownNodup h1) hl0_1 hF1
  have HOW : Hid (jobR.own (putAll (w2.setCell ⟨w.heap.size + 1 + 1, 3, none⟩ (.slice ra1 rn1 rc1)) (w.heap.size + 1) 0 [.int .i64 tx, .slice ra0 rn0 rc0, .int .i64 st, .slice ra1 rn1 rc1]) [.int .i64 tx, .slice ra0 rn0 rc0, .int .i64 st, .slice ra1 rn1 rc1] (tx, ops, st, yes) (F0 ++ F1)) := job_mk k1 k3 h0 h1 nd
  have HFN : Hid (∀ k ∈ F0 ++ F1, w.heap.size ≤ k) := fun k hk => by
    rcases List.mem_append.1 hk with e | e
    · have := hF0 k e; omega
    · have := hF1 k e; omega
  clear h0 h1 hS 
  go_wp2_with fail
  refine bodyPost_ret (v := .agg #[.int .i64 tx, .slice ra0 rn0 rc0, .int .i64 st, .slice ra1 rn1 rc1]) ?_ rfl ⟨_, _, rfl, HOW.out, HFN.out, HBz.out⟩
  simp [results, Try.results41, go_sem, y0, y1, y2, y3]
theorem toJobR (u0 u1 u2 u3 : Value) (x : Jb) (w : World) (h : jobR.see w [u0, u1, u2, u3] x) (h1 : x.2.1.length ≤ 1099511627776) (h2 : x.2.2.2.length ≤ 1099511627776) : Calls Try.prog 41 #[.agg #[u0, u1, u2, u3]] w (RetR jobR w x) := by
  obtain ⟨oa, ol, oc, ya, yl, yc, e, k1, k3, ⟨hO, _⟩, ⟨hY, hyw⟩, _⟩ := job_see.1 h
  simp only [List.cons.injEq, and_true] at e
  obtain ⟨rfl, rfl, rfl, rfl⟩ := e
  exact toJob x.1 x.2.2.1 oa ol oc ya yl yc x.2.1 x.2.2.2 w k1 k3 hO hY hyw (by have := hO.1; omega) (by have := hY.1; omega)
theorem info_toJobS : (Try.prog.info? 56).map (fun i => (i.zero, i.size, i.bytes)) = some (some (.agg #[.int .i64 0, .slice none 0 0, .int .i64 0, .slice none 0 0]), 4, 64) := by kernel_rfl
set_option maxRecDepth 100000 in
set_option maxHeartbeats 4000000 in
theorem toJobS (a : Option Addr) (len cap : Nat) (l : List Jb) (w : World) (h : SlG jobR w a len l) (hsz : len ≤ 1099511627776) (hfit : ∀ j ∈ l, j.2.1.length ≤ 1099511627776 ∧ j.2.2.2.length ≤ 1099511627776) :
    Calls Try.prog 27 #[.slice a len cap] w (RetV (lay.slice 56 jobR) w l) := by
  have hl := h.1
  have hm := h.2.1
  subst hl
  have hm' := hm
  unfold maxLen at hm'
  obtain ⟨i0, hif, hz0, hz1, hz2⟩ := info_parts info_toJobS
  go_enter Try.func27, Try.ntmps27
  go_wp2_with (at_make; refine wpList_make_full _ rfl _ _ 33 rfl w.heap.size 56 i0 (.agg #[.int .i64 0, .slice none 0 0, .int .i64 0, .slice none 0 0]) 4 Try.underlying33 hif hz0 hz1 _ _ _ _ l.length rfl rfl rfl rfl ?b2 ?b3 ?b4 ?_)
  case b2 => rw [hz2]; omega
  case b3 => exact hm
  case b4 => exact Nat.le_refl _
  intro w1 hown hgrow
  have hOwn := ownG_zeros (R := jobR) (z := .agg #[.int .i64 0, .slice none 0 0, .int .i64 0, .slice none 0 0]) (x := (0, [], 0, [])) hown (job_zero _)
  have hbel : Below w.heap.size w w1 := (Below.refl _ _).grown hgrow (Nat.le_refl _) (fun k e => by cases e)
  have hOwn0 : OwnG 56 jobR w1 (.slice (some ⟨w.heap.size, 0, none⟩) l.length l.length) (copyG (0, [], 0, []) l 0) (List.replicate l.length ((.agg #[.int .i64 0, .slice none 0 0, .int .i64 0, .slice none 0 0] : Value).cells.toList, [])) := by rw [copyG_zero]; exact hOwn
  have hq0 : ∀ b ∈ w.heap.size :: blocksOf (List.replicate l.length ((.agg #[.int .i64 0, .slice none 0 0, .int .i64 0, .slice none 0 0] : Value).cells.toList, ([] : List Nat))), w.heap.size ≤ b := fun b hb => by
    have e1 : blocksOf (List.replicate l.length ((.agg #[.int .i64 0, .slice none 0 0, .int .i64 0, .slice none 0 0] : Value).cells.toList, ([] : List Nat))) = [] := by unfold blocksOf; simp
    rw [e1, List.mem_singleton] at hb; omega
  clear hown hgrow hif hz0 hz1 hz2 hOwn
  go_wp2_with fail
  go_loopw [4] (fun i wr => ∃ (k : Nat) (q : Parts), k ≤ l.length ∧ i = .int .i64 k ∧ OwnG 56 jobR wr (.slice (some ⟨w.heap.size, 0, none⟩) l.length l.length) (copyG (0, [], 0, []) l k) q ∧ (∀ b ∈ w.heap.size :: blocksOf q, w.heap.size ≤ b) ∧ Below w.heap.size w wr) (fun i _ => l.length - (intOf i).toNat)
  case atStart => exact ⟨0, _, Nat.zero_le _, rfl, hOwn0, hq0, hbel⟩
  case round =>
    clear hOwn0 hbel hq0
    obtain ⟨k, q, hk, rfl, hO, hq, hB⟩ := hrel
    by_cases hlt : k < l.length
    · obtain ⟨b, off, e⟩ : ∃ b off, a = some ⟨b, off, none⟩ := by
        obtain ⟨b, off, e, _⟩ := h.2.2.2 (by omega)
        exact ⟨b, off, e⟩
      subst e
      obtain ⟨u0, u1, u2, u3, hsee, c0, c1, c2, c3⟩ := slg_at4 rfl (h.below hB) k hlt
      have hki : (k : Int) < (l.length : Int) := by omega
      have HS := Hid.mk' (copyG_set (z := (0, [], 0, [])) k hlt)
      have hfk := hfit _ (List.getElem_mem hlt)
      have HE := Hid.mk' (toJobR u0 u1 u2 u3 l[k] wr hsee hfk.1 hfk.2)
      generalize l[k] = p at *
      clear hsee
      go_wp2_with fail
      refine HE.out.mono ?_
      rintro e w2 ⟨us, F, rfl, hOx, hF, hb2⟩
      obtain ⟨ra, rn, rc, sa, sn, sc, rfl⟩ := job_vals hOx
      have hOR := hO.below hb2
      have hB2 := hB.trans (hb2.mono hB.size)
      have hkl : k < (copyG (0, [], 0, []) l k).length := by rw [copyG_length k hk]; exact hlt
      have hlts := hO.lts
      have Rp := hOR.put k hkl [.int .i64 p.1, .slice ra rn rc, .int .i64 p.2.2.1, .slice sa sn sc] p F hOx (fun j hj hjb => by have h1 := hF j hj; have h2 := hlts j hjb; omega)
      rw [HS.out] at Rp
      have HR := Hid.mk' Rp
      obtain ⟨y0, y1, y2, y3, _, d0, d1, d2, d3⟩ := slg_at4 rfl hOR.sl k hkl
      simp only [Nat.zero_add] at d0 d1 d2 d3
      have f0 := hOR.frozen (k * 4)
      have f1 := hOR.frozen (k * 4 + 1)
      have f2 := hOR.frozen (k * 4 + 2)
      have f3 := hOR.frozen (k * 4 + 3)
      have hqn : Hid (∀ b ∈ w.heap.size :: blocksOf (q.set k ([.int .i64 p.1, .slice ra rn rc, .int .i64 p.2.2.1, .slice sa sn sc], F)), w.heap.size ≤ b) := fun j hj => by
        rcases List.mem_cons.1 hj with e | e
        · omega
        · obtain ⟨pp, hpp, hjp⟩ := List.mem_flatMap.1 e
          rcases List.mem_or_eq_of_mem_set hpp with h1 | h1
          · exact hq j (List.mem_cons_of_mem _ (List.mem_flatMap.2 ⟨pp, h1, hjp⟩))
          · subst h1
            have h1 := hF j hjp
            have h2 := hB.size
            omega
      have hsz2 := hB2.size
      clear Rp hO hOR hOx hB hb2 c0 c1 c2 c3 hlts
      go_wp2_with fail
      go_roundw
      case rel => exact ⟨k + 1, _, by omega, by go_num, HR.out.1, hqn.out, hB2.trans (below_grown HR.out.2 (Nat.le_refl _) hsz2)⟩
      case measure => simp [intOf]; omega
    · have e : k = l.length := by omega
      subst e
      rw [copyG_all] at hO
      go_wp2_with fail
      go_ret
      exact ⟨_, _, rfl, ⟨_, q, rfl, rfl, hO⟩, fun b hb => hq b (by simpa [Value.ownBlock] using hb), hB⟩
set_option maxRecDepth 100000 in
set_option maxHeartbeats 4000000 in
theorem toCoord (ja : Option Addr) (jn jc : Nat) (la : Option Addr) (ln lc : Nat) (c : Co) (w : World) (h : SeeCo w ja jn jc la ln lc c) (hbd : BoundCo c) :
    Calls Try.prog 13 #[.agg #[.int .i64 c.1, .int .i64 c.2.1, .int .i64 c.2.2.1, .slice ja jn jc, .slice la ln lc, .int .i64 c.2.2.2.2.2]] w (RetR coordR w c) := by
  have hwf := h.wf
  have hjl := h.jobs.1
  have hll := h.log.1
  have hj8 := hbd.jobs
  have hl8 := hbd.log
  have H1 := Hid.mk' (fun wx (hx : Below w.heap.size w wx) => toJobS ja jn jc c.2.2.2.1 wx (h.jobs.below hx) (by omega) (fun j hj => ⟨(hbd.fits.2.2 j hj).1, hbd.yes j hj⟩))
  have H2 := Hid.mk' (fun wx (hx : Below w.heap.size w wx) => toChoiceS la ln lc c.2.2.2.2.1 wx (h.log.below hx) (by omega))
  clear h hjl hll hj8 hl8
  obtain ⟨W1, hW1⟩ : ∃ W1, w.alloc (.cells #[.int .i64 c.1, .int .i64 c.2.1, .int .i64 c.2.2.1, .slice ja jn jc, .slice la ln lc, .int .i64 c.2.2.2.2.2] 25) = W1 := ⟨_, rfl⟩
  have hb1 : Below w.heap.size w W1 := by rw [← hW1]; exact below_make
  have hA1 : BoxIn w.heap.size 25 [] [.int .i64 c.1, .int .i64 c.2.1, .int .i64 c.2.2.1, .slice ja jn jc, .slice la ln lc, .int .i64 c.2.2.2.2.2] [] W1 := by rw [← hW1]; exact boxIn_new w _ _
  have hs1 : W1.heap.size = w.heap.size + 1 := by rw [← hW1]; simp
  obtain ⟨W2, hW2⟩ : ∃ W2, W1.alloc (.cells #[.int .i64 0, .int .i64 0, .int .i64 0, .slice none 0 0, .slice none 0 0, .int .i64 0] 36) = W2 := ⟨_, rfl⟩
  have hb2 : Below W1.heap.size W1 W2 := by rw [← hW2]; exact below_make
  have hR2 : BoxIn (w.heap.size + 1) 36 [] [.int .i64 0, .int .i64 0, .int .i64 0, .slice none 0 0, .slice none 0 0, .int .i64 0] [] W2 := by rw [← hW2, ← hs1]; exact boxIn_new W1 _ _
  have hs2 : W2.heap.size = w.heap.size + 1 + 1 := by rw [← hW2]; simp [hs1]
  obtain ⟨W, hW⟩ : ∃ W, W2.alloc (.cells #[.int .i64 c.1, .int .i64 c.2.1, .int .i64 c.2.2.1, .slice none 0 0, .slice none 0 0, .int .i64 0] 36) = W := ⟨_, rfl⟩
  have hb3 : Below W2.heap.size W2 W := by rw [← hW]; exact below_make
  have hO : BoxIn (w.heap.size + 1 + 1) 36 [] [.int .i64 c.1, .int .i64 c.2.1, .int .i64 c.2.2.1, .slice none 0 0, .slice none 0 0, .int .i64 0] [] W := by rw [← hW, ← hs2]; exact boxIn_new W2 _ _
  have hA := (hA1.below hb2).below hb3
  have hR := hR2.below hb3
  have hB := (hb1.trans (hb2.mono hb1.size)).trans (hb3.mono (Nat.le_trans hb1.size hb2.size))
  have HWW : Hid (((w.alloc (.cells #[.int .i64 c.1, .int .i64 c.2.1, .int .i64 c.2.2.1, .slice ja jn jc, .slice la ln lc, .int .i64 c.2.2.2.2.2] 25)).alloc (.cells #[.int .i64 0, .int .i64 0, .int .i64 0, .slice none 0 0, .slice none 0 0, .int .i64 0] 36)).alloc (.cells #[.int .i64 c.1, .int .i64 c.2.1, .int .i64 c.2.2.1, .slice none 0 0, .slice none 0 0, .int .i64 0] 36) = W) := by show _ = _; rw [hW1, hW2, hW]
  clear hb1 hb2 hb3 hA1 hR2 hs1 hs2 hW1 hW2 hW
  obtain ⟨c0, c1, c2, c3, c4, c5⟩ := cells6 hA
  rw [← HWW.out] at c0 c1 c2 c3 c4 c5
  have hbs0 := hO.lt
  go_enter Try.func13, Try.ntmps13
  go_wp2_with fail
  rw [HWW.out]
  refine (H1.out W hB).mono ?_
  rintro e w1 ⟨r0, F0, rfl, h0, hF0, hbn⟩
  obtain ⟨ra0, rn0, rc0, rfl⟩ := slice_shape h0
  replace hO := hO.below hbn
  replace hA := hA.below hbn
  replace hR := hR.below hbn
  replace hB := hB.trans (hbn.mono hB.size)
  have n0 := hO.set 3 (by simp) (.slice ra0 rn0 rc0)
  have u0 := hO.cell 3 _ rfl
  have v0 := hO.fz 3
  simp only [List.length_nil, Nat.zero_add] at n0 u0
  have t0 := (hA.grown n0.2 (by simp; omega)).cell 4 _ rfl
  simp only [List.length_nil, Nat.zero_add] at t0
  have gg := n0.2
  replace hB := hB.grown gg hB.size (fun k e => by cases e; omega)
  replace hR := hR.grown gg (by simp)
  replace hA := hA.grown gg (by simp; omega)
  replace h0 := jobsR.ownGrown h0 gg (fun k hk e => by have := hF0 k hk; cases e; omega)
  replace hO : BoxIn (w.heap.size + 1 + 1) 36 [] [.int .i64 c.1, .int .i64 c.2.1, .int .i64 c.2.2.1, .slice ra0 rn0 rc0, .slice none 0 0, .int .i64 0] [] _ := n0.1
  clear c0 c1 c2 c3 c4 c5
  go_wp2_with fail
  clear u0 v0 t0 n0 gg hbn
  generalize hVV : (w1.setCell ⟨w.heap.size + 1 + 1, 3, none⟩ (.slice ra0 rn0 rc0)) = V1 at *
  clear hVV
  have hbs1 := hO.lt
  refine (H2.out V1 hB).mono ?_
  rintro e w2 ⟨r1, F1, rfl, h1, hF1, hbn⟩
  obtain ⟨ra1, rn1, rc1, rfl⟩ := slice_shape h1
  have hl0_1 := jobsR.ownLt h0
  replace h0 := jobsR.ownBelow h0 hbn
  replace hO := hO.below hbn
  replace hA := hA.below hbn
  replace hR := hR.below hbn
  replace hB := hB.trans (hbn.mono hB.size)
  have n0 := hO.set 4 (by simp) (.slice ra1 rn1 rc1)
  have u0 := hO.cell 4 _ rfl
  have v0 := hO.fz 4
  simp only [List.length_nil, Nat.zero_add] at n0 u0
  have n1 := n0.1.set 5 (by simp) (.int .i64 c.2.2.2.2.2)
  have u1 := n0.1.cell 5 _ rfl
  have v1 := n0.1.fz 5
  simp only [List.length_nil, Nat.zero_add] at n1 u1
  have t0 := (hA.grown n0.2 (by simp; omega)).cell 5 _ rfl
  simp only [List.length_nil, Nat.zero_add] at t0
  have gg := (grownBy_trans n0.2 n1.2)
  replace hB := hB.grown gg hB.size (fun k e => by cases e; omega)
  replace hR := hR.grown gg (by simp)
  replace hA := hA.grown gg (by simp; omega)
  replace h0 := jobsR.ownGrown h0 gg (fun k hk e => by have := hF0 k hk; cases e; omega)
  replace h1 := logR.ownGrown h1 gg (fun k hk e => by have := hF1 k hk; cases e; omega)
  replace hO : BoxIn (w.heap.size + 1 + 1) 36 [] [.int .i64 c.1, .int .i64 c.2.1, .int .i64 c.2.2.1, .slice ra0 rn0 rc0, .slice ra1 rn1 rc1, .int .i64 c.2.2.2.2.2] [] _ := n1.1
  obtain ⟨q0, q1, q2, q3, q4, q5⟩ := cells6 hO
  obtain ⟨z0, z1, z2, z3, z4, z5⟩ := cells6 hR
  have f0 := hR.fz 0
  have f1 := hR.fz 1
  have f2 := hR.fz 2
  have f3 := hR.fz 3
  have f4 := hR.fz 4
  have f5 := hR.fz 5
  have hS := hR.whole [.int .i64 c.1, .int .i64 c.2.1, .int .i64 c.2.2.1, .slice ra0 rn0 rc0, .slice ra1 rn1 rc1, .int .i64 c.2.2.2.2.2] rfl
  obtain ⟨y0, y1, y2, y3, y4, y5⟩ := cells6 hS.1
  simp only [putAll, Nat.zero_add, Nat.reduceAdd] at y0 y1 y2 y3 y4 y5
  have HBz := Hid.mk' (hB.grown hS.2 hB.size (fun j e => by cases e; omega))
  replace h0 := jobsR.ownGrown h0 hS.2 (fun k hk e => by have := hF0 k hk; cases e; omega)
  replace h1 := logR.ownGrown h1 hS.2 (fun k hk e => by have := hF1 k hk; cases e; omega)
  have nd : (F0 ++ F1).Nodup := nodup_new (jobsR.ownNodup h0) (logR.ownNodup h1) hl0_1 hF1
  have HOW : Hid (coordR.own (putAll ((w2.setCell ⟨w.heap.size + 1 + 1, 4, none⟩ (.slice ra1 rn1 rc1)).setCell ⟨w.heap.size + 1 + 1, 5, none⟩ (.int .i64 c.2.2.2.2.2)) (w.heap.size + 1) 0 [.int .i64 c.1, .int .i64 c.2.1, .int .i64 c.2.2.1, .slice ra0 rn0 rc0, .slice ra1 rn1 rc1, .int .i64 c.2.2.2.2.2]) [.int .i64 c.1, .int .i64 c.2.1, .int .i64 c.2.2.1, .slice ra0 rn0 rc0, .slice ra1 rn1 rc1, .int .i64 c.2.2.2.2.2] c (F0 ++ F1)) := coord_own.2 ⟨_, _, F0, F1, rfl, hwf, h0, h1, rfl, nd⟩
  have HFN : Hid (∀ k ∈ F0 ++ F1, w.heap.size ≤ k) := fun k hk => by
    rcases List.mem_append.1 hk with e | e
    · have := hF0 k e; omega
    · have := hF1 k e; omega
  clear h0 h1 hS 
  go_wp2_with fail
  refine bodyPost_ret (v := .agg #[.int .i64 c.1, .int .i64 c.2.1, .int .i64 c.2.2.1, .slice ra0 rn0 rc0, .slice ra1 rn1 rc1, .int .i64 c.2.2.2.2.2]) ?_ rfl ⟨_, _, rfl, HOW.out, HFN.out, HBz.out⟩
  simp [results, Try.results13, go_sem, y0, y1, y2, y3, y4, y5]
end Go.Proofs.Ytmibabclefgljaa.cos

namespace Go.Proofs.Ytmibabclefgljaa.cos
open Go Go.RowKit Go.Proofs.Ytmibabclefgljaa.base Go.Proofs.Ytmibabclefgljaa.pairs Go.Proofs.Ytmibabclefgljaa.ords Go.Proofs.Ytmibabclefgljaa.lay Go.Proofs.Ytmibabclefgljaa.wds
set_option linter.unusedVariables false
set_option linter.unusedSimpArgs false

section
variable {w w' : World} {vs : List Value} {c : Co} {F : List Nat}
theorem coord_shape (h : coordR.own w vs c F) : ∃ ja jn jc la ln lc, vs = [.int .i64 c.1, .int .i64 c.2.1, .int .i64 c.2.2.1, .slice ja jn jc, .slice la ln lc, .int .i64 c.2.2.2.2.2] := by
  obtain ⟨ja, jn, jc, la, ln, lc, e, _⟩ := coord_see.1 (coordR.ownSee h)
  exact ⟨ja, jn, jc, la, ln, lc, e⟩
end
end Go.Proofs.Ytmibabclefgljaa.cos

namespace Go.Proofs.Ytmibabclefgljaa.recs
open Go Go.RowKit Go.Proofs.Ytmibabclefgljaa.base Go.Proofs.Ytmibabclefgljaa.pairs Go.Proofs.Ytmibabclefgljaa.ords Go.Proofs.Ytmibabclefgljaa.helps Go.Proofs.Ytmibabclefgljaa.help Go.Proofs.Ytmibabclefgljaa.lay
set_option linter.unusedVariables false
set_option linter.unusedSimpArgs false

set_option maxRecDepth 100000 in
set_option maxHeartbeats 4000000 in
theorem toShard (la : Option Addr) (ln lc : Nat) (ma : Option Addr) (mn mc : Nat) (ha : Option Addr) (hn hc : Nat) (s : Shd) (w : World) (h : SeeSh w la ln lc ma mn mc ha hn hc s) (hf : Few s.2.1) (hf2 : Few s.2.2.2.2) (hl1 : ln ≤ 1099511627776) (hl2 : mn ≤ 1099511627776) (hl3 : hn ≤ 1099511627776) :
    Calls Try.prog 29 #[aggSh s.1 s.2.2.1 la ln lc ma mn mc ha hn hc] w fun e w' => ∃ gl gm gh F, e = .returned (aggSh s.1 s.2.2.1 (some ⟨gl, 0, none⟩) ln ln (some ⟨gm, 0, none⟩) mn mn (some ⟨gh, 0, none⟩) hn hn) ∧
      OwnSh w' (some ⟨gl, 0, none⟩) ln ln (some ⟨gm, 0, none⟩) mn mn (some ⟨gh, 0, none⟩) hn hn s F ∧ (∀ k ∈ F, w.heap.size ≤ k) ∧ Below w.heap.size w w' := by
  obtain ⟨W1, hW1⟩ : ∃ W1, w.alloc (.cells #[.int .i64 s.1, .slice la ln lc, .int .i64 s.2.2.1, .slice ma mn mc, .slice ha hn hc] 72) = W1 := ⟨_, rfl⟩
  have hb1 : Below w.heap.size w W1 := by rw [← hW1]; exact (Below.refl _ _).alloc (Nat.le_refl _) _
  have hA1 : BoxIn w.heap.size 72 [] (shVals s.1 s.2.2.1 la ln lc ma mn mc ha hn hc) [] W1 := by rw [← hW1]; exact boxIn_new w _ _
  have hs1 : W1.heap.size = w.heap.size + 1 := by rw [← hW1]; simp
  obtain ⟨W2, hW2⟩ : ∃ W2, W1.alloc (boxSh 0 0 none 0 0 none 0 0 none 0 0) = W2 := ⟨_, rfl⟩
  have hb2 : Below W1.heap.size W1 W2 := by rw [← hW2]; exact (Below.refl _ _).alloc (Nat.le_refl _) _
  have hR2 : BoxIn (w.heap.size + 1) 52 [] (shVals 0 0 none 0 0 none 0 0 none 0 0) [] W2 := by rw [← hW2, ← hs1]; exact boxIn_new W1 _ _
  have hs2 : W2.heap.size = w.heap.size + 1 + 1 := by rw [← hW2]; simp [hs1]
  obtain ⟨W, hW⟩ : ∃ W, W2.alloc (boxSh s.1 0 none 0 0 none 0 0 none 0 0) = W := ⟨_, rfl⟩
  have hb3 : Below W2.heap.size W2 W := by rw [← hW]; exact (Below.refl _ _).alloc (Nat.le_refl _) _
  have hO3 : BoxIn (w.heap.size + 1 + 1) 52 [] (shVals s.1 0 none 0 0 none 0 0 none 0 0) [] W := by rw [← hW, ← hs2]; exact boxIn_new W2 _ _
  have hA3 := (hA1.below hb2).below hb3
  have hR3 := hR2.below hb3
  have hB := (hb1.trans (hb2.mono hb1.size)).trans (hb3.mono (Nat.le_trans hb1.size hb2.size))
  have HWW : Hid (((w.alloc (.cells #[.int .i64 s.1, .slice la ln lc, .int .i64 s.2.2.1, .slice ma mn mc, .slice ha hn hc] 72)).alloc (boxSh 0 0 none 0 0 none 0 0 none 0 0)).alloc (boxSh s.1 0 none 0 0 none 0 0 none 0 0) = W) := by show _ = _; rw [hW1, hW2, hW]
  have H1 := Hid.mk' (toRecS la ln lc s.2.1 W (h.log.below hB) hl1 (fun r hr => (hf r hr).1))
  have H2 := Hid.mk' (fun wx (hx : Below w.heap.size w wx) => toPairS ma mn mc s.2.2.2.1 wx (h.map.below hx) hl2)
  have H3 := Hid.mk' (fun wx (hx : Below w.heap.size w wx) => toRecS ha hn hc s.2.2.2.2 wx (h.held.below hx) hl3 (fun r hr => (hf2 r hr).1))
  have hid := h.id
  have hsu := h.sure
  have c1 := hA3.cell 1 _ rfl
  simp only [List.length_nil, Nat.zero_add] at c1
  rw [← HWW.out] at c1
  have hOl := hO3.lt
  clear hW1 hW2 hW hb1 hb2 hb3 hA1 hR2 hs1 hs2 h hf hf2
  go_enter Try.func29, Try.ntmps29
  go_wp2_with fail
  rw [HWW.out]
  refine H1.out.mono ?_
  rintro e w1 ⟨gl, hl, rfl, hOl1, hb1⟩
  have hB1 := hB.trans (hb1.mono hB.size)
  have hO1 := hO3.below hb1
  have hA1 := hA3.below hb1
  have hR1 := hR3.below hb1
  have n1 := hO1.set 1 (by simp [shVals]) (.slice (some ⟨gl, 0, none⟩) ln ln)
  have n2 := n1.1.set 2 (by simp [shVals]) (.int .i64 s.2.2.1)
  simp only [List.length_nil, Nat.zero_add] at n1 n2
  have g12 := grownBy_trans n1.2 n2.2
  have u1 := hO1.cell 1 _ rfl
  have v1 := hO1.fz 1
  have u2 := n1.1.cell 2 _ rfl
  have v2 := n1.1.fz 2
  have t2 := (hA1.grown n1.2 (by simp; omega)).cell 2 _ rfl
  have t3 := (hA1.grown g12 (by simp; omega)).cell 3 _ rfl
  simp only [List.length_nil, Nat.zero_add] at u1 u2 t2 t3
  have hB2 := hB1.grown g12 hB1.size (fun k e => by cases e; omega)
  have hR2 := hR1.grown g12 (by simp)
  have hA2 := hA1.grown g12 (by simp; omega)
  have hOl2 := hOl1.grown g12 (fun e => by have := (hOl1.lt _ e).1; omega)
  have H2' := Hid.mk' (H2.out _ hB2)
  have hO2 : BoxIn (w.heap.size + 1 + 1) 52 [] (shVals s.1 s.2.2.1 (some ⟨gl, 0, none⟩) ln ln none 0 0 none 0 0) [] _ := n2.1
  clear c1 H1 H2
  go_wp2_with fail
  refine H2'.out.mono ?_
  generalize (w1.setCell ⟨w.heap.size + 1 + 1, 1, none⟩ (.slice (some ⟨gl, 0, none⟩) ln ln)).setCell ⟨w.heap.size + 1 + 1, 2, none⟩ (.int .i64 s.2.2.1) = w2 at *
  rintro e w3 ⟨gm, rfl, hOm3, hb3⟩
  clear u1 v1 u2 v2 t2 t3 H2' n1 n2 g12 hOl1 hO1 hA1 hR1 hB1
  have hB3 := hB2.trans (hb3.mono hB2.size)
  have hO3' := hO2.below hb3
  have hA3' := hA2.below hb3
  have hR3' := hR2.below hb3
  have hOl3 := hOl2.below hb3
  have n3 := hO3'.set 3 (by simp [shVals]) (.slice (some ⟨gm, 0, none⟩) mn mn)
  simp only [List.length_nil, Nat.zero_add] at n3
  have u3 := hO3'.cell 3 _ rfl
  have v3 := hO3'.fz 3
  have t4 := (hA3'.grown n3.2 (by simp; omega)).cell 4 _ rfl
  simp only [List.length_nil, Nat.zero_add] at u3 t4
  have hB4 := hB3.grown n3.2 hB3.size (fun k e => by cases e; omega)
  have hs2 := hB2.size
  have hWw2 : W.heap.size ≤ w2.heap.size := by have := hOl2.lt gl (.inl rfl); omega
  have hR4 := hR3'.grown n3.2 (by simp)
  have hOl4 := hOl3.grown n3.2 (fun e => by have := (hOl2.lt _ e).1; omega)
  have hOm4 := hOm3.grown n3.2 (fun e => by have := hOm3.lt.1; have := hO2.lt; have := Option.some.inj e; omega)
  have hO4 : BoxIn (w.heap.size + 1 + 1) 52 [] (shVals s.1 s.2.2.1 (some ⟨gl, 0, none⟩) ln ln (some ⟨gm, 0, none⟩) mn mn none 0 0) [] _ := n3.1
  have H3' := Hid.mk' (H3.out _ hB4)
  clear H3
  go_wp2_with fail
  refine H3'.out.mono ?_
  generalize w3.setCell ⟨w.heap.size + 1 + 1, 3, none⟩ (.slice (some ⟨gm, 0, none⟩) mn mn) = w4 at *
  rintro e w5 ⟨gh, hh, rfl, hOh5, hb5⟩
  clear u3 v3 t4 H3' n3 hO3' hA3' hR3' hOl3 hO2 hA2 hR2
  have hB5 := hB4.trans (hb5.mono hB4.size)
  have hO5 := hO4.below hb5
  have hR5 := hR4.below hb5
  have hOl5 := (hOl4.below hb5).mono (base' := w.heap.size) hB.size
  have hOm5 := (hOm4.below hb5).mono (base' := w.heap.size) hB2.size
  have n4 := hO5.set 4 (by simp [shVals]) (.slice (some ⟨gh, 0, none⟩) hn hn)
  simp only [List.length_nil, Nat.zero_add] at n4
  have u4 := hO5.cell 4 _ rfl
  have v4 := hO5.fz 4
  simp only [List.length_nil, Nat.zero_add] at u4
  have hB6 := hB5.grown n4.2 hB5.size (fun k e => by cases e; omega)
  have hR6 := hR5.grown n4.2 (by simp)
  have hlo : ∀ k, BlkR (.slice (some ⟨gl, 0, none⟩) ln ln) hl k → k < w4.heap.size := fun k hk => (hOl4.lt k hk).2
  have hhi : ∀ k, BlkR (.slice (some ⟨gh, 0, none⟩) hn hn) hh k → w4.heap.size ≤ k := fun k hk => (hOh5.lt k hk).1
  have hO4l := hO4.lt
  have hR4l := hR4.lt
  have hlW : ∀ k, BlkR (.slice (some ⟨gl, 0, none⟩) ln ln) hl k → W.heap.size ≤ k := fun k hk => (hOl4.lt k hk).1
  have hgmW : w2.heap.size ≤ gm := hOm4.lt.1
  have hW4 : W.heap.size ≤ w4.heap.size := Nat.le_trans (hOl4.lt gl (.inl rfl)).1 (Nat.le_of_lt (hOl4.lt gl (.inl rfl)).2)
  obtain ⟨F, hOS, hFW⟩ := ownSh_of (s := s) (B := W.heap.size) hid hsu (hOl4.below hb5) ((hOm4.below hb5).mono hWw2) (hOh5.mono hW4) hlo hhi
  have hFn : ∀ k ∈ F, w.heap.size ≤ k := fun k hk => Nat.le_trans hB.size (hFW k hk)
  have hXo : ∀ k ∈ F, k ≠ w.heap.size + 1 + 1 ∧ k ≠ w.heap.size + 1 := fun k hk => by have := hFW k hk; omega
  have hOS6 := hOS.keep (fun j hj => n4.2.block j (hOS.lt j hj) (fun e => (hXo j hj).1 (Option.some.inj e)))
  have hO6 : BoxIn (w.heap.size + 1 + 1) 52 [] (shVals s.1 s.2.2.1 (some ⟨gl, 0, none⟩) ln ln (some ⟨gm, 0, none⟩) mn mn (some ⟨gh, 0, none⟩) hn hn) [] _ := n4.1
  have q0 := hO6.cell 0 _ rfl
  have q1 := hO6.cell 1 _ rfl
  have q2 := hO6.cell 2 _ rfl
  have q3 := hO6.cell 3 _ rfl
  have q4 := hO6.cell 4 _ rfl
  have z0 := hR6.cell 0 _ rfl
  have z1 := hR6.cell 1 _ rfl
  have z2 := hR6.cell 2 _ rfl
  have z3 := hR6.cell 3 _ rfl
  have z4 := hR6.cell 4 _ rfl
  simp only [List.length_nil, Nat.zero_add] at q0 q1 q2 q3 q4 z0 z1 z2 z3 z4
  have f0 := hR6.fz 0
  have f1 := hR6.fz 1
  have f2 := hR6.fz 2
  have f3 := hR6.fz 3
  have f4 := hR6.fz 4
  have hS5 := hR6.set5 (.int .i64 s.1) (.slice (some ⟨gl, 0, none⟩) ln ln) (.int .i64 s.2.2.1) (.slice (some ⟨gm, 0, none⟩) mn mn) (.slice (some ⟨gh, 0, none⟩) hn hn)
  simp only [List.length_nil, Nat.zero_add] at hS5
  have hOSz := hOS6.keep (fun j hj => hS5.2.block j (hOS6.lt j hj) (fun e => (hXo j hj).2 (Option.some.inj e)))
  have hBz := hB6.grown hS5.2 hB6.size (fun j e => by cases e; omega)
  have hzc0 := hS5.1.cell 0 _ rfl
  have hzc1 := hS5.1.cell 1 _ rfl
  have hzc2 := hS5.1.cell 2 _ rfl
  have hzc3 := hS5.1.cell 3 _ rfl
  have hzc4 := hS5.1.cell 4 _ rfl
  simp only [List.length_nil, Nat.zero_add] at hzc0 hzc1 hzc2 hzc3 hzc4
  have HOSz := Hid.mk' hOSz
  have HBz := Hid.mk' hBz
  clear hOSz hBz hS5 hOS6 hOS hO5 hO6 hR5 hR6 n4
  go_wp2_with fail
  refine bodyPost_ret (v := aggSh s.1 s.2.2.1 (some ⟨gl, 0, none⟩) ln ln (some ⟨gm, 0, none⟩) mn mn (some ⟨gh, 0, none⟩) hn hn) ?_ rfl ⟨_, _, _, F, rfl, HOSz.out, hFn, HBz.out⟩
  simp [results, Try.results29, go_sem, hzc0, hzc1, hzc2, hzc3, hzc4]
end Go.Proofs.Ytmibabclefgljaa.recs
