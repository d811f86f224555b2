/- The tables of a world: both sides. -/
import Derived.Test.YteammdkipnfmnaaShag
namespace Go.Proofs.Yteammdkipnfmnaa.wos
open Go Go.RowKit Go.Proofs.Yteammdkipnfmnaa.base Go.Proofs.Yteammdkipnfmnaa.pairs Go.Proofs.Yteammdkipnfmnaa.ords Go.Proofs.Yteammdkipnfmnaa.lay Go.Proofs.Yteammdkipnfmnaa.tabs
set_option linter.unusedVariables false
set_option linter.unusedSimpArgs false

def mapOf (s : recs.Shd) : List Pr := s.2.2.2.1
def tabsO (x : Wo) : List (List Pr) := x.2.1.map mapOf
theorem cells10w {X : Nat} {T : TypeId} {w : World} {v0 v1 v2 v3 v4 v5 v6 v7 v8 v9 : Value} (h : BoxIn X T [] [v0, v1, v2, v3, v4, v5, v6, v7, v8, v9] [] w) : w.cell? ⟨X, 6, none⟩ = some v6 := by
  have := h.cell 6 _ rfl
  simpa only [List.length_nil, Nat.zero_add] using this
theorem slg_someT {α : Type} {R : Rd α} {w : World} {a : Option Addr} {len : Nat} {l : List α} (h : SlG R w a len l) (h0 : 0 < len) : ∃ b off, a = some ⟨b, off, none⟩ := by
  obtain ⟨b, off, e, _⟩ := h.2.2.2 h0
  exact ⟨b, off, e⟩
theorem infoPrT : (Try.prog.info? 109).map (fun i => (i.zero, i.size, i.bytes)) = some (some (.agg #[.string ⟨#[]⟩, .string ⟨#[]⟩]), 2, 32) := by kernel_rfl
theorem infoTbT : (Try.prog.info? 58).map (fun i => (i.zero, i.size, i.bytes)) = some (some (.agg #[.slice none 0 0]), 1, 24) := by kernel_rfl
theorem none_prT (w : World) (g c : Nat) (ty : TypeId) : (Builtin.append_ #[53, 53] ty #[.slice (some ⟨g, 0, none⟩) 0 0, .slice none 0 c]).run Try.prog w = .ok (.slice (some ⟨g, 0, none⟩) 0 0) w := by kernel_rfl
theorem copy_prs {w : World} {g n c : Nat} {a : Option Addr} {l : List Pr} (hg : w.ownsRow 0 109 2 (.slice (some ⟨g, 0, none⟩) 0 0) 0 []) (h : SlP w a n l) (hc : n ≤ c) (hb : n ≤ 1099511627776) (ty : TypeId) :
    ∃ g' cap' w', (Builtin.append_ #[53, 53] ty #[.slice (some ⟨g, 0, none⟩) 0 0, .slice a n c]).run Try.prog w = .ok (.slice (some ⟨g', 0, none⟩) n cap') w' ∧ tableR.own w' [.slice (some ⟨g', 0, none⟩) n cap'] l [g'] ∧ w.grownBy w' (some g) ∧ (g' = g ∨ w.heap.size ≤ g') := by
  obtain ⟨a', n', c', e, _, h'⟩ := table_see.2 ⟨h, hc⟩
  simp only [List.cons.injEq, Value.slice.injEq, and_true] at e
  obtain ⟨rfl, rfl, rfl⟩ := e
  obtain ⟨g', cap', w', h1, h2, h3, h4⟩ := cos.Flat.copyRun (P := Try.prog) flat_pr (fun x u hu => by simp at hu; rcases hu with rfl | rfl <;> rfl) (by decide) (z := .agg #[.string ⟨#[]⟩, .string ⟨#[]⟩]) Try.underlying53 infoPrT rfl none_prT g a n c hg h' (by omega) ty
  exact ⟨g', cap', w', h1, ⟨_, _, rfl, by rw [(flat_pr.parts h2).2.2.1]; rfl, h2⟩, h3, h4⟩
theorem ownG_rowT {α : Type} {R : Rd α} {ty : TypeId} {w : World} {g n : Nat} {k : Nat} (h : w.ownsRow k ty R.size (.slice (some ⟨g, 0, none⟩) 0 n) 0 []) : OwnG ty R w (.slice (some ⟨g, 0, none⟩) 0 n) [] [] := by
  refine ⟨rfl, ?_, fun i hi => absurd hi (by simp), by simp [blocksOf, Value.ownBlock]⟩
  obtain ⟨h1, h2⟩ := h
  refine ⟨h1, ?_⟩
  rcases h2 with h2 | ⟨g', c', cur, h2, h3, h4⟩
  · exact .inl h2
  · exact .inr ⟨g', c', cur, h2, Nat.zero_le _, h4⟩
theorem row_madeT (w : World) (ty : TypeId) (size : Nat) : (w.alloc (.cells #[] ty)).ownsRow 0 ty size (.slice (some ⟨w.heap.size, 0, none⟩) 0 0) 0 [] := World.ownsRow_made w #[] 0 (Nat.zero_le _) (Nat.zero_le _) (by simp)
set_option maxRecDepth 100000 in
set_option maxHeartbeats 4000000 in
theorem spec_tablesOf (ja : Option Addr) (jn jc : Nat) (la : Option Addr) (ln lc : Nat) (sa : Option Addr) (sn sc : Nat) (na : Option Addr) (nn nc : Nat) (oa : Option Addr) (on oc : Nat) (ba : Option Addr) (bn bc : Nat) (x : Wo) (w : World) (h : SeeWo w ja jn jc la ln lc sa sn sc na nn nc oa on oc ba bn bc x) (hn : sn ≤ 1048576) (hm : ∀ s ∈ x.2.1, (mapOf s).length ≤ 1099511627776) :
    Calls Try.prog 5 #[.agg #[.int .i64 x.1.1, .int .i64 x.1.2.1, .int .i64 x.1.2.2.1, .slice ja jn jc, .slice la ln lc, .int .i64 x.1.2.2.2.2.2, .slice sa sn sc, .slice na nn nc, .slice oa on oc, .slice ba bn bc]] w (RetV (lay.slice 58 tableR) w (tabsO x)) := by
  have hsl := h.sh.1
  have HSL := Hid.mk' hsl
  clear hsl
  obtain ⟨W, hW⟩ : ∃ W, w.alloc (.cells #[.int .i64 x.1.1, .int .i64 x.1.2.1, .int .i64 x.1.2.2.1, .slice ja jn jc, .slice la ln lc, .int .i64 x.1.2.2.2.2.2, .slice sa sn sc, .slice na nn nc, .slice oa on oc, .slice ba bn bc] 42) = W := ⟨_, rfl⟩
  have hB : Below w.heap.size w W := by rw [← hW]; exact below_make
  have hX : BoxIn w.heap.size 42 [] [.int .i64 x.1.1, .int .i64 x.1.2.1, .int .i64 x.1.2.2.1, .slice ja jn jc, .slice la ln lc, .int .i64 x.1.2.2.2.2.2, .slice sa sn sc, .slice na nn nc, .slice oa on oc, .slice ba bn bc] [] W := by rw [← hW]; exact boxIn_new w _ _
  have hXl := hX.lt
  have HSH := Hid.mk' (h.sh.below hB)
  have HM := Hid.mk' hm
  obtain ⟨W2, hW2⟩ : ∃ V, W.alloc (.cells #[] 58) = V := ⟨_, rfl⟩
  have hb2 : Below W.heap.size W W2 := by rw [← hW2]; exact below_make
  have hs1 : W.heap.size = w.heap.size + 1 := by rw [← hW]; simp
  have hO0 : OwnG 58 tableR W2 (.slice (some ⟨w.heap.size + 1, 0, none⟩) 0 0) [] [] := by rw [← hs1, ← hW2]; exact ownG_rowT (row_madeT W _ _)
  have hs1' : W.heap.size ≤ w.heap.size + 1 := Nat.le_of_eq hs1
  have HWW : Hid ((w.alloc (.cells #[.int .i64 x.1.1, .int .i64 x.1.2.1, .int .i64 x.1.2.2.1, .slice ja jn jc, .slice la ln lc, .int .i64 x.1.2.2.2.2.2, .slice sa sn sc, .slice na nn nc, .slice oa on oc, .slice ba bn bc] 42)).alloc (.cells #[] 58) = W2) := by show _ = _; rw [hW, hW2]
  clear hW hW2 h hm hs1
  go_enter Try.func5, Try.ntmps5
  go_wp2_with fail
  rw [HWW.out]
  go_loopw [4, 3] (fun i s wr => ∃ (k g cap : Nat) (q : Parts), k ≤ sn ∧ i = .int .i64 (k : Int) ∧ s = .slice (some ⟨g, 0, none⟩) k cap ∧ OwnG 58 tableR wr (.slice (some ⟨g, 0, none⟩) k cap) ((x.2.1.take k).map mapOf) q ∧ (∀ b ∈ g :: blocksOf q, W.heap.size ≤ b) ∧ Below W.heap.size W wr) (fun i _ _ => sn - (intOf i).toNat)
  case atStart => exact ⟨0, _, _, [], Nat.zero_le _, rfl, rfl, hO0, fun b hb => by simp [blocksOf] at hb; omega, hb2⟩
  case round =>
    obtain ⟨k, g, cap, q, hk, rfl, rfl, hO, hq, hBw⟩ := hrel
    have x6 := cells10w (hX.below hBw)
    by_cases hlt : k < sn
    · have hkl : k < x.2.1.length := by rw [HSL.out]; exact hlt
      have hki : (k : Int) < (sn : Int) := by omega
      obtain ⟨b, off, e⟩ := slg_someT HSH.out (by omega)
      subst e
      obtain ⟨la2, ln2, lc2, ma2, mn2, mc2, ha2, hn2, hc2, c0, c1, c2, c3, c4, hS⟩ := shard_at (HSH.out.below hBw) k hkl
      have HTK : Hid ((x.2.1.take (k + 1)).map mapOf = (x.2.1.take k).map mapOf ++ [mapOf x.2.1[k]]) := by show _ = _; rw [List.take_succ_eq_append_getElem hkl, List.map_append]; rfl
      have HTL : Hid (((x.2.1.take k).map mapOf).length = k) := by show _ = _; simp; omega
      have hmm : SlP wr ma2 mn2 (mapOf x.2.1[k]) := hS.map
      have hmc := hS.mc
      have hml := HM.out x.2.1[k] (List.getElem_mem hkl)
      have hmn : mn2 ≤ 1099511627776 := by have := hmm.1; omega
      clear hS hml
      generalize mapOf x.2.1[k] = mp at *
      have hBb := hBw
      have hmb := hmm
      have hOb := hO
      have hbl : wr.heap.size = wr.heap.size := rfl
      obtain ⟨V1, hV1⟩ : ∃ V, wr.alloc (.cells #[] 109) = V := ⟨_, rfl⟩
      have hbv1 : Below wr.heap.size wr V1 := by rw [← hV1]; exact below_make
      have hrow : V1.ownsRow 0 109 2 (.slice (some ⟨wr.heap.size, 0, none⟩) 0 0) 0 [] := by rw [← hV1]; exact row_madeT wr _ _
      rw [hbl] at hrow
      have hB1 := hBb.trans (hbv1.mono hBb.size)
      obtain ⟨g2, c5, w2, hrun1, hT2, hgr2, hat2⟩ := copy_prs (c := mc2) hrow (hmb.below hbv1) hmc hmn 53
      have hs0 := hBb.size
      have hs1 := hbv1.size
      have x6b := cells10w ((hX.below hBw).below hbv1)
      rw [← hV1] at x6b
      have c3b := (hbv1.cell (p := ⟨b, off + k * 5 + 3, none⟩) (World.block_lt_of_cell? _ _ c3)).trans c3
      rw [← hV1] at c3b
      have hB2 := hB1.grown hgr2 hB1.size (fun j e => by have := Option.some.inj e; omega)
      have hO1 := hOb.below hbv1
      have hlts := hOb.lts
      have hO2 : OwnG 58 tableR w2 (.slice (some ⟨g, 0, none⟩) k cap) ((x.2.1.take k).map mapOf) q := hO1.keep (fun j hj => hgr2.block j (hO1.at_ j hj) (fun e => by
        have h1 := hlts j (by simpa [Value.ownBlock] using hj)
        have := Option.some.inj e
        omega))
      have hg2 : wr.heap.size ≤ g2 := by rcases hat2 with e | e <;> omega
      obtain ⟨V3, hV3⟩ : ∃ V, w2.alloc (.cells #[.slice (some ⟨g2, 0, none⟩) mn2 c5] 58) = V := ⟨_, rfl⟩
      have hbv3 : Below w2.heap.size w2 V3 := by rw [← hV3]; exact below_make
      have hXV : BoxIn w2.heap.size 58 [] [.slice (some ⟨g2, 0, none⟩) mn2 c5] [] V3 := by rw [← hV3]; exact boxIn_new w2 _ _
      have hB3 := hB2.trans (hbv3.mono hB2.size)
      have hlt2 := hO2.lts
      obtain ⟨g', cap', w4, hrun2, hO4, hgr4, hat4⟩ := cos.OwnG.appRun (P := Try.prog) (z := .agg #[.slice none 0 0]) Try.underlying32 infoTbT rfl (by decide) (hO2.below hbv3) (tableR.ownBelow hT2 hbv3) (fun j hj hc => by
        have h1 : j = g2 := by simpa using hj
        have h2 := hlts j (by simpa [Value.ownBlock] using hc)
        omega) hXV (by rw [HTL.out]; unfold maxLen; omega) (by rw [HTL.out]; omega) 32
      rw [HTL.out] at hrun2 hO4
      rw [← HTK.out] at hO4
      have hs3 := hB3.size
      have hs2 := hB2.size
      have hB4 := hB3.grown hgr4 hB3.size (fun j e => by have e1 : g = j := by simpa [Value.ownBlock] using e
                                                         have := hq g (by simp); omega)
      have HQ4 : Hid (∀ j ∈ g' :: blocksOf (q ++ [([.slice (some ⟨g2, 0, none⟩) mn2 c5], [g2])]), W.heap.size ≤ j) := fun j hj => by
        rw [blocksOf_append] at hj
        rcases List.mem_cons.1 hj with e | e
        · rcases hat4 with e2 | e2
          · have e1 : g = g' := by simpa [Value.ownBlock] using e2
            have := hq g (by simp); omega
          · omega
        · rcases List.mem_append.1 e with e | e
          · exact hq j (List.mem_cons_of_mem _ e)
          · have e1 : j = g2 := by simpa [blocksOf] using e
            omega
      have HV1 := Hid.mk' hV1
      have HV3 := Hid.mk' hV3
      have HO4 := Hid.mk' hO4
      have HB4 := Hid.mk' hB4
      clear hV1 hV3 hO4 hB4 hO2 hO1 hOb hmb hBb hT2 hgr2 hgr4 hat2 hat4 hXV hrow hlts hlt2 hB3 hB2 hB1 hq hO hbl
      go_wp2_with (first | (at_builtin; rw [HV1.out]; refine cos.wpList_append_run rfl _ _ 53 rfl (by kernel_rfl) (by kernel_rfl) hrun1 ?_) | (at_builtin; rw [HV3.out]; refine cos.wpList_append_run rfl _ _ 32 rfl (by kernel_rfl) (by kernel_rfl) hrun2 ?_))
      go_wp2_with fail
      go_roundw
      case rel => exact ⟨k + 1, g', cap', _, by omega, by go_num, rfl, HO4.out, HQ4.out, HB4.out⟩
      case measure => simp [intOf]; omega
    · have hki : ¬ (k : Int) < (sn : Int) := by omega
      have HT : Hid ((x.2.1.take k).map mapOf = tabsO x) := by show _ = _; unfold tabsO; rw [List.take_of_length_le (by rw [HSL.out]; omega)]
      rw [HT.out] at hO
      have hb9 := hB.trans (hBw.mono hB.size)
      have hs9 := hB.size
      go_wp2_with fail
      go_ret
      exact ⟨_, _, rfl, own_mk hO, fun j hj => by have := hq j (by simpa [Value.ownBlock] using hj); omega, hb9⟩
set_option maxRecDepth 100000 in
set_option maxHeartbeats 4000000 in
theorem impl_tablesOf (ja : Option Addr) (jn jc : Nat) (la : Option Addr) (ln lc : Nat) (sa : Option Addr) (sn sc : Nat) (na : Option Addr) (nn nc : Nat) (oa : Option Addr) (on oc : Nat) (ba : Option Addr) (bn bc : Nat) (x : Wo) (w : World) (h : SeeWo w ja jn jc la ln lc sa sn sc na nn nc oa on oc ba bn bc x) (hn : sn ≤ 1048576) (hm : ∀ s ∈ x.2.1, (mapOf s).length ≤ 1099511627776) :
    Calls Try.prog 7 #[.agg #[.int .i64 x.1.1, .int .i64 x.1.2.1, .int .i64 x.1.2.2.1, .slice ja jn jc, .slice la ln lc, .int .i64 x.1.2.2.2.2.2, .slice sa sn sc, .slice na nn nc, .slice oa on oc, .slice ba bn bc]] w (RetV (lay.slice 58 tableR) w (tabsO x)) := by
  have hsl := h.sh.1
  have HSL := Hid.mk' hsl
  clear hsl
  obtain ⟨W, hW⟩ : ∃ W, w.alloc (.cells #[.int .i64 x.1.1, .int .i64 x.1.2.1, .int .i64 x.1.2.2.1, .slice ja jn jc, .slice la ln lc, .int .i64 x.1.2.2.2.2.2, .slice sa sn sc, .slice na nn nc, .slice oa on oc, .slice ba bn bc] 42) = W := ⟨_, rfl⟩
  have hB : Below w.heap.size w W := by rw [← hW]; exact below_make
  have hX : BoxIn w.heap.size 42 [] [.int .i64 x.1.1, .int .i64 x.1.2.1, .int .i64 x.1.2.2.1, .slice ja jn jc, .slice la ln lc, .int .i64 x.1.2.2.2.2.2, .slice sa sn sc, .slice na nn nc, .slice oa on oc, .slice ba bn bc] [] W := by rw [← hW]; exact boxIn_new w _ _
  have hXl := hX.lt
  have HSH := Hid.mk' (h.sh.below hB)
  have HM := Hid.mk' hm
  obtain ⟨i0, hif, hz0, hz1, hz2⟩ := info_parts infoTbT
  have x6 := cells10w hX
  rw [← hW] at x6
  have HW := Hid.mk' hW
  clear hW h hm
  go_enter Try.func7, Try.ntmps7
  go_wp2_with (at_make; rw [HW.out]; refine wpList_make_own _ rfl _ _ 32 rfl 0 58 i0 (.agg #[.slice none 0 0]) 1 Try.underlying32 hif hz0 hz1 _ _ _ sn rfl rfl rfl ?b2 ?b3 ?b4 ?_)
  case b2 => rw [hz2]; omega
  case b3 => unfold maxLen; omega
  case b4 => exact Nat.zero_le _
  intro w1 hown hgrow
  have hb1 : Below W.heap.size W w1 := (Below.refl _ _).grown hgrow (Nat.le_refl _) (fun k e => by cases e)
  have hOw0 := ownG_rowT (R := tableR) (ty := 58) hown
  clear hown hgrow x6 hif hz0 hz1 hz2
  have x6 := cells10w (hX.below hb1)
  go_wp2_with fail
  go_loopw [13, 3] (fun i s wr => ∃ (k g cap : Nat) (q : Parts), k ≤ sn ∧ i = .int .i64 (k : Int) ∧ s = .slice (some ⟨g, 0, none⟩) k cap ∧ OwnG 58 tableR wr (.slice (some ⟨g, 0, none⟩) k cap) ((x.2.1.take k).map mapOf) q ∧ (∀ b ∈ g :: blocksOf q, W.heap.size ≤ b) ∧ Below W.heap.size W wr) (fun i _ _ => sn - (intOf i).toNat)
  case atStart => exact ⟨0, _, _, [], Nat.zero_le _, rfl, rfl, hOw0, fun b hb => by simp [blocksOf] at hb; omega, hb1⟩
  case round =>
    obtain ⟨k, g, cap, q, hk, rfl, rfl, hO, hq, hBw⟩ := hrel
    clear x6 hOw0 hb1
    have x6 := cells10w (hX.below hBw)
    by_cases hlt : k < sn
    · have hkl : k < x.2.1.length := by rw [HSL.out]; exact hlt
      have hki : (k : Int) < (sn : Int) := by omega
      obtain ⟨b, off, e⟩ := slg_someT HSH.out (by omega)
      subst e
      obtain ⟨la2, ln2, lc2, ma2, mn2, mc2, ha2, hn2, hc2, c0, c1, c2, c3, c4, hS⟩ := shard_at (HSH.out.below hBw) k hkl
      have HTK : Hid ((x.2.1.take (k + 1)).map mapOf = (x.2.1.take k).map mapOf ++ [mapOf x.2.1[k]]) := by show _ = _; rw [List.take_succ_eq_append_getElem hkl, List.map_append]; rfl
      have HTL : Hid (((x.2.1.take k).map mapOf).length = k) := by show _ = _; simp; omega
      have hmm : SlP wr ma2 mn2 (mapOf x.2.1[k]) := hS.map
      have hmc := hS.mc
      have hml := HM.out x.2.1[k] (List.getElem_mem hkl)
      have hmn : mn2 ≤ 1099511627776 := by have := hmm.1; omega
      clear hS hml
      obtain ⟨U, hU⟩ : ∃ U, wr.alloc (.cells #[.int .i64 x.2.1[k].1, .slice la2 ln2 lc2, .int .i64 x.2.1[k].2.2.1, .slice ma2 mn2 mc2, .slice ha2 hn2 hc2] 56) = U := ⟨_, rfl⟩
      have hbu : Below wr.heap.size wr U := by rw [← hU]; exact below_make
      have hXU : BoxIn wr.heap.size 56 [] [.int .i64 x.2.1[k].1, .slice la2 ln2 lc2, .int .i64 x.2.1[k].2.2.1, .slice ma2 mn2 mc2, .slice ha2 hn2 hc2] [] U := by rw [← hU]; exact boxIn_new wr _ _
      have u3 := hXU.cell 3 _ rfl
      simp only [List.length_nil, Nat.zero_add] at u3
      generalize mapOf x.2.1[k] = mp at *
      have hBb := hBw.trans (hbu.mono hBw.size)
      have hmb := hmm.below hbu
      have hOb := hO.below hbu
      have HU := Hid.mk' hU
      have hbl : U.heap.size = wr.heap.size + 1 := by rw [← hU]; simp
      obtain ⟨V1, hV1⟩ : ∃ V, U.alloc (.cells #[] 109) = V := ⟨_, rfl⟩
      have hbv1 : Below U.heap.size U V1 := by rw [← hV1]; exact below_make
      have hrow : V1.ownsRow 0 109 2 (.slice (some ⟨U.heap.size, 0, none⟩) 0 0) 0 [] := by rw [← hV1]; exact row_madeT U _ _
      rw [hbl] at hrow
      have hB1 := hBb.trans (hbv1.mono hBb.size)
      obtain ⟨g2, c5, w2, hrun1, hT2, hgr2, hat2⟩ := copy_prs (c := mc2) hrow (hmb.below hbv1) hmc hmn 53
      have hs0 := hBb.size
      have hs1 := hbv1.size
      have u3b := (hbv1.cell (p := ⟨wr.heap.size, 3, none⟩) (World.block_lt_of_cell? _ _ u3)).trans u3
      rw [← hV1, ← hU] at u3b
      rw [← hU] at u3
      have hB2 := hB1.grown hgr2 hB1.size (fun j e => by have := Option.some.inj e; omega)
      have hO1 := hOb.below hbv1
      have hlts := hOb.lts
      have hO2 : OwnG 58 tableR w2 (.slice (some ⟨g, 0, none⟩) k cap) ((x.2.1.take k).map mapOf) q := hO1.keep (fun j hj => hgr2.block j (hO1.at_ j hj) (fun e => by
        have h1 := hlts j (by simpa [Value.ownBlock] using hj)
        have := Option.some.inj e
        omega))
      have hg2 : U.heap.size ≤ g2 := by rcases hat2 with e | e <;> omega
      obtain ⟨V3, hV3⟩ : ∃ V, w2.alloc (.cells #[.slice (some ⟨g2, 0, none⟩) mn2 c5] 58) = V := ⟨_, rfl⟩
      have hbv3 : Below w2.heap.size w2 V3 := by rw [← hV3]; exact below_make
      have hXV : BoxIn w2.heap.size 58 [] [.slice (some ⟨g2, 0, none⟩) mn2 c5] [] V3 := by rw [← hV3]; exact boxIn_new w2 _ _
      have hB3 := hB2.trans (hbv3.mono hB2.size)
      have hlt2 := hO2.lts
      obtain ⟨g', cap', w4, hrun2, hO4, hgr4, hat4⟩ := cos.OwnG.appRun (P := Try.prog) (z := .agg #[.slice none 0 0]) Try.underlying32 infoTbT rfl (by decide) (hO2.below hbv3) (tableR.ownBelow hT2 hbv3) (fun j hj hc => by
        have h1 : j = g2 := by simpa using hj
        have h2 := hlts j (by simpa [Value.ownBlock] using hc)
        omega) hXV (by rw [HTL.out]; unfold maxLen; omega) (by rw [HTL.out]; omega) 32
      rw [HTL.out] at hrun2 hO4
      rw [← HTK.out] at hO4
      have hs3 := hB3.size
      have hs2 := hB2.size
      have hB4 := hB3.grown hgr4 hB3.size (fun j e => by have e1 : g = j := by simpa [Value.ownBlock] using e
                                                         have := hq g (by simp); omega)
      have HQ4 : Hid (∀ j ∈ g' :: blocksOf (q ++ [([.slice (some ⟨g2, 0, none⟩) mn2 c5], [g2])]), W.heap.size ≤ j) := fun j hj => by
        rw [blocksOf_append] at hj
        rcases List.mem_cons.1 hj with e | e
        · rcases hat4 with e2 | e2
          · have e1 : g = g' := by simpa [Value.ownBlock] using e2
            have := hq g (by simp); omega
          · omega
        · rcases List.mem_append.1 e with e | e
          · exact hq j (List.mem_cons_of_mem _ e)
          · have e1 : j = g2 := by simpa [blocksOf] using e
            omega
      have HV1 := Hid.mk' hV1
      have HV3 := Hid.mk' hV3
      have HO4 := Hid.mk' hO4
      have HB4 := Hid.mk' hB4
      clear hU hXU hV1 hV3 hO4 hB4 hO2 hO1 hOb hmb hBb hT2 hgr2 hgr4 hat2 hat4 hXV hrow hlts hlt2 hB3 hB2 hB1 hq hO hbl
      go_wp2_with (first | (at_builtin; rw [HU.out]; rw [HV1.out]; refine cos.wpList_append_run rfl _ _ 53 rfl (by kernel_rfl) (by kernel_rfl) hrun1 ?_) | (at_builtin; rw [HV3.out]; refine cos.wpList_append_run rfl _ _ 32 rfl (by kernel_rfl) (by kernel_rfl) hrun2 ?_))
      go_wp2_with fail
      go_roundw
      case rel => exact ⟨k + 1, g', cap', _, by omega, by go_num, rfl, HO4.out, HQ4.out, HB4.out⟩
      case measure => simp [intOf]; omega
    · have hki : ¬ (k : Int) < (sn : Int) := by omega
      have HT : Hid ((x.2.1.take k).map mapOf = tabsO x) := by show _ = _; unfold tabsO; rw [List.take_of_length_le (by rw [HSL.out]; omega)]
      rw [HT.out] at hO
      have hb9 := hB.trans (hBw.mono hB.size)
      have hs9 := hB.size
      go_wp2_with fail
      go_ret
      exact ⟨_, _, rfl, own_mk hO, fun j hj => by have := hq j (by simpa [Value.ownBlock] using hj); omega, hb9⟩
end Go.Proofs.Yteammdkipnfmnaa.wos
