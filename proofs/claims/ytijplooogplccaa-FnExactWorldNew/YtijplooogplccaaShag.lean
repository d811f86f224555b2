/- New worlds: both sides. -/
import Derived.Test.YtijplooogplccaaShae
import Derived.Test.YtijplooogplccaaShaf
import Derived.Test.YtijplooogplccaaShab
import Derived.Test.YtijplooogplccaaShad
namespace Go.Proofs.Ytijplooogplccaa.wos
open Go Go.RowKit Go.Proofs.Ytijplooogplccaa.base Go.Proofs.Ytijplooogplccaa.pairs Go.Proofs.Ytijplooogplccaa.ords Go.Proofs.Ytijplooogplccaa.lay
set_option linter.unusedVariables false
set_option linter.unusedSimpArgs false

def usN (a b : Int) : List Value := [.int .i64 a, .slice none 0 0, .int .i64 b, .slice none 0 0, .slice none 0 0]
def partsN (k : Nat) : Parts := (List.range k).map fun (i : Nat) => (usN (i : Int) 0, [])
def shsN (k : Nat) : List recs.Shd := (List.range k).map fun (i : Nat) => ((i : Int), [], 0, [], [])
theorem shsN_len (k : Nat) : (shsN k).length = k := by simp [shsN]
theorem shsN_succ (k : Nat) : shsN (k + 1) = shsN k ++ [((k : Int), [], 0, [], [])] := by simp [shsN, List.range_succ]
theorem partsN_succ (k : Nat) : partsN (k + 1) = partsN k ++ [(usN (k : Int) 0, [])] := by simp [partsN, List.range_succ]
theorem blocksN (k : Nat) : blocksOf (partsN k) = [] := by
  unfold blocksOf partsN
  rw [List.flatMap_map]
  simp
theorem infoSh : (Try.prog.info? 56).map (fun i => (i.zero, i.size, i.bytes)) = some (some (.agg #[.int .i64 0, .slice none 0 0, .int .i64 0, .slice none 0 0, .slice none 0 0]), 5, 88) := by kernel_rfl
def cntN (n : Int) : Nat := if 1 ≤ n ∧ n ≤ 8 then n.toNat else 0
def RetNw (w : World) (n : Int) (e : Ending) (w' : World) : Prop := ∃ sa sc, e = .returned (.agg #[.int .i64 (cos.newR n).1, .int .i64 (cos.newR n).2.1, .int .i64 (cos.newR n).2.2.1, .slice none 0 0, .slice none 0 0, .int .i64 (cos.newR n).2.2.2.2.2, .slice sa (cntN n) sc, .slice none 0 0, .slice none 0 0, .slice none 0 0]) ∧ OwnG 56 shardR w' (.slice sa (cntN n) sc) (shsN (cntN n)) (partsN (cntN n)) ∧ (∀ b ∈ (Value.slice sa (cntN n) sc).ownBlock.toList, w.heap.size ≤ b) ∧ Below w.heap.size w w'
set_option maxRecDepth 100000 in
set_option maxHeartbeats 4000000 in
theorem spec_worldNew (n : Int) (w : World) (hn0 : (Lit.int .i64 n).wf = true) : Calls Try.prog 6 #[.int .i64 n] w (RetNw w n) := by
  obtain ⟨wA, hwA⟩ : ∃ wA, w.alloc (.cells #[.int .i64 0, .int .i64 0, .int .i64 0, .slice none 0 0, .slice none 0 0, .int .i64 0, .slice none 0 0, .slice none 0 0, .slice none 0 0, .slice none 0 0] 30) = wA := ⟨_, rfl⟩
  have hbA : Below w.heap.size w wA := by rw [← hwA]; exact below_make
  have hY : BoxIn w.heap.size 30 [] [.int .i64 0, .int .i64 0, .int .i64 0, .slice none 0 0, .slice none 0 0, .int .i64 0, .slice none 0 0, .slice none 0 0, .slice none 0 0, .slice none 0 0] [] wA := by rw [← hwA]; exact boxIn_new w _ _
  have HIN := Hid.mk' (recs.spec_in n 1 8 wA)
  have HA := Hid.mk' hwA
  by_cases hn : 1 ≤ n ∧ n ≤ 8
  · rw [decide_eq_true hn] at HIN
    obtain ⟨N, hN⟩ : ∃ N : Nat, n = (N : Int) := ⟨n.toNat, by omega⟩
    subst hN
    have hC : cntN (N : Int) = N := by unfold cntN; rw [if_pos hn]; omega
    have HR : Hid (cos.newR (N : Int) = ((N : Int), 1, 0, [], [], 0)) := if_pos hn
    have hN8 : N ≤ 8 := by omega
    have HCO := Hid.mk' (cos.spec_coordNew (N : Int) wA)
    rw [HR.out] at HCO
    simp only [] at HCO
    have HRT : Hid (∀ sa sc w', OwnG 56 shardR w' (.slice sa N sc) (shsN N) (partsN N) → (∀ b ∈ (Value.slice sa N sc).ownBlock.toList, w.heap.size ≤ b) → Below w.heap.size w w' → RetNw w (N : Int) (.returned (.agg #[.int .i64 (N : Int), .int .i64 1, .int .i64 0, .slice none 0 0, .slice none 0 0, .int .i64 0, .slice sa N sc, .slice none 0 0, .slice none 0 0, .slice none 0 0])) w') := fun sa sc w' h1 h2 h3 => by
      unfold RetNw
      rw [hC, HR.out]
      exact ⟨sa, sc, rfl, h1, h2, h3⟩
    have HSN : Hid (∀ (k : Nat) (wx : World), k < 8 → Calls Try.prog 19 #[.int .i64 (k : Int)] wx fun e w' => e = .returned (.agg #[.int .i64 (k : Int), .slice none 0 0, .int .i64 0, .slice none 0 0, .slice none 0 0]) ∧ Below wx.heap.size wx w') := fun k wx hk => by
      have h := recs.spec_shardNew (k : Int) wx
      have e : (recs.newShd (k : Int)).1 = (k : Int) := by unfold recs.newShd; rw [if_pos ⟨by omega, by omega⟩]
      rw [e] at h
      exact h
    clear hn hC HR hwA
    go_enter Try.func6, Try.ntmps6
    go_wp2_with fail
    rw [HA.out]
    refine HIN.out.mono ?_
    rintro e w1 ⟨rfl, hw1⟩
    replace hw1 := hw1.symm
    subst hw1
    go_wp2_with fail
    refine HCO.out.mono ?_
    rintro e w2 ⟨rfl, hb2⟩
    obtain ⟨V, hV⟩ : ∃ V, w2.alloc (.cells #[.int .i64 (N : Int), .int .i64 1, .int .i64 0, .slice none 0 0, .slice none 0 0, .int .i64 0, .slice none 0 0, .slice none 0 0, .slice none 0 0, .slice none 0 0] 30) = V := ⟨_, rfl⟩
    have hbV : Below w2.heap.size w2 V := by rw [← hV]; exact below_make
    have hX : BoxIn w2.heap.size 30 [] [.int .i64 (N : Int), .int .i64 1, .int .i64 0, .slice none 0 0, .slice none 0 0, .int .i64 0, .slice none 0 0, .slice none 0 0, .slice none 0 0, .slice none 0 0] [] V := by rw [← hV]; exact boxIn_new w2 _ _
    have hbw2 := hbA.trans (hb2.mono hbA.size)
    have hbWV := hbw2.trans (hbV.mono hbw2.size)
    have hYV := (hY.below hb2).below hbV
    have hXY : w.heap.size < w2.heap.size := Nat.lt_of_lt_of_le hY.lt hb2.size
    have HV := Hid.mk' hV
    clear hV HIN HCO HA hY
    go_wp2_with fail
    rw [HV.out]
    clear HV
    generalize w2.heap.size = X at *
    go_loopw [4] (fun i wr => ∃ (k : Nat) (sa : Option Addr) (sc : Nat), k ≤ N ∧ i = .int .i64 (k : Int) ∧ BoxIn X 30 [] [.int .i64 (N : Int), .int .i64 1, .int .i64 0, .slice none 0 0, .slice none 0 0, .int .i64 0, .slice sa k sc, .slice none 0 0, .slice none 0 0, .slice none 0 0] [] wr ∧ BoxIn w.heap.size 30 [] [.int .i64 0, .int .i64 0, .int .i64 0, .slice none 0 0, .slice none 0 0, .int .i64 0, .slice none 0 0, .slice none 0 0, .slice none 0 0, .slice none 0 0] [] wr ∧ OwnG 56 shardR wr (.slice sa k sc) (shsN k) (partsN k) ∧ (∀ b ∈ (Value.slice sa k sc).ownBlock.toList, X < b) ∧ Below w.heap.size w wr) (fun i _ => N - (intOf i).toNat)
    case atStart => exact ⟨0, none, 0, Nat.zero_le _, rfl, hX, hYV, ownG_nil _ _ _, fun b hb => absurd hb List.not_mem_nil, hbWV⟩
    case round =>
      clear hX hYV hbV hbWV hb2 hbw2
      obtain ⟨k, sa, sc, hk, rfl, hX, hY, hO, hob, hb⟩ := hrel
      have hXl := hX.lt
      have hYl := hY.lt
      by_cases hlt : k < N
      · have hki : (k : Int) < (N : Int) := by omega
        go_wp2_with fail
        have hd : Below wr.heap.size wr wr.drew := (Below.refl _ _).drew
        refine last.wp_region_later (S := fun w' => BoxIn X 30 [] [.int .i64 (N : Int), .int .i64 1, .int .i64 0, .slice none 0 0, .slice none 0 0, .int .i64 0, .slice sa k sc, .slice none 0 0, .slice none 0 0, .slice none 0 0] [] w') 7 (by kernel_rfl) (hX.below hd) (fun hHeld0 => ?_)
        replace hX := hX.below hd
        replace hY := hY.below hd
        replace hO := hO.below hd
        replace hb := hb.trans (hd.mono hb.size)
        have hds := hd.size
        clear hd
        generalize hD : wr.drew = D at *
        clear hD hds hXl hYl
        refine last.wpAnyL_take (i := 0) (v := (.pointer (some ⟨X, 6, none⟩))) rfl rfl (by kernel_rfl) (by kernel_rfl) (by kernel_rfl) (by kernel_rfl) (fun _ _ _ h => h) (Or.inl ⟨by rfl, ?_⟩) (by assumption) ?_
        · intro wq hSq; go_simp
        try simp only [Act.put, List.setIfInBounds_toArray, List.set_cons_zero, List.set_cons_succ]
        refine last.wpAnyL_take (i := 1) (v := (.slice sa k sc)) rfl rfl (by kernel_rfl) (by kernel_rfl) (by kernel_rfl) (by kernel_rfl) (fun _ _ _ h => h) (Or.inl ⟨by rfl, ?_⟩) (by assumption) ?_
        · intro wq hSq; have q := hSq.cell 6 _ rfl; simp only [List.length_nil, Nat.zero_add] at q; go_simp
        try simp only [Act.put, List.setIfInBounds_toArray, List.set_cons_zero, List.set_cons_succ]
        refine last.wpAnyL_take (i := 2) (v := (.int .i64 (k : Int))) rfl rfl (by kernel_rfl) (by kernel_rfl) (by kernel_rfl) (by kernel_rfl) (fun _ _ _ h => h) (Or.inl ⟨by rfl, ?_⟩) (by assumption) ?_
        · intro wq hSq; go_simp
        try simp only [Act.put, List.setIfInBounds_toArray, List.set_cons_zero, List.set_cons_succ]
        refine last.wpAnyL_one (i := 3) (o := { dst := some 20, op := Op.call { callee := Callee.value (Operand.func 19), args := #[Operand.tmp 19], argTypes := #[3] }, type := 56, pos := "l12_world.go:11", after := #[{ on := 2, ground := Ground.data }], guard := none }) (by kernel_rfl) rfl (fun K hK => ?_)
        refine stepg.call1 rfl 19 (.tmp 19) _ rfl (fun _ _ => rfl) (.int .i64 (k : Int)) (by kernel_rfl) _ (HSN.out k _ (by omega)) ?_
        rintro e wB ⟨rfl, hbc⟩
        refine ⟨_, rfl, ?_⟩
        refine hK.out _ _ ?_ (fun hHeld => ?_)
        · exact hX.below hbc
        clear hK K hHeld0
        have hHeld0 := hHeld
        clear hHeld
        try simp only [Act.put, List.setIfInBounds_toArray, List.set_cons_zero, List.set_cons_succ]
        replace hX := hX.below hbc
        replace hY := hY.below hbc
        replace hO := hO.below hbc
        replace hb := hb.trans (hbc.mono hb.size)
        clear hbc
        refine last.wpAnyL_one (i := 4) (o := { dst := some 21, op := Op.buildSlice 26 1 #[(0, Operand.tmp 20)], type := 26, pos := "l12_world.go:11", after := #[{ on := 3, ground := Ground.data }], guard := none }) (by kernel_rfl) rfl (fun K hK => ?_)
        go_simp
        obtain ⟨V2, hV2⟩ : ∃ V, wB.alloc (.cells #[.int .i64 (k : Int), .slice none 0 0, .int .i64 0, .slice none 0 0, .slice none 0 0] 56) = V := ⟨_, rfl⟩
        have hbv : Below wB.heap.size wB V2 := by rw [← hV2]; exact below_make
        have hNb : BoxIn wB.heap.size 56 [] [.int .i64 (k : Int), .slice none 0 0, .int .i64 0, .slice none 0 0, .slice none 0 0] [] V2 := by rw [← hV2]; exact boxIn_new _ _ _
        rw [hV2]
        refine hK.out _ _ ?_ (fun hHeld => ?_)
        · exact hX.below hbv
        clear hK K hHeld0
        have hHeld0 := hHeld
        clear hHeld
        try simp only [Act.put, List.setIfInBounds_toArray, List.set_cons_zero, List.set_cons_succ]
        replace hX := hX.below hbv
        replace hY := hY.below hbv
        replace hO := hO.below hbv
        replace hb := hb.trans (hbv.mono hb.size)
        clear hV2 hbv
        have hxs : shardR.own V2 [.int .i64 (k : Int), .slice none 0 0, .int .i64 0, .slice none 0 0, .slice none 0 0] ((k : Int), [], 0, [], []) [] := shard_own.2 ⟨none, 0, 0, none, 0, 0, none, 0, 0, rfl, recs.ownSh_new V2 (k : Int) (WalkArith.wf_i64 (by omega))⟩
        obtain ⟨g', cap', w4, hrun, hO4, hgr, hat⟩ := cos.OwnG.appRun (P := Try.prog) (z := .agg #[.int .i64 0, .slice none 0 0, .int .i64 0, .slice none 0 0, .slice none 0 0]) Try.underlying26 infoSh rfl (by decide) hO hxs (fun b hb => absurd hb List.not_mem_nil) hNb (by rw [shsN_len]; unfold maxLen; omega) (by rw [shsN_len]; omega) 26
        rw [shsN_len] at hrun hO4
        rw [show (([.int .i64 (k : Int), .slice none 0 0, .int .i64 0, .slice none 0 0, .slice none 0 0] : List Value), ([] : List Nat)) = (usN (k : Int) 0, []) from rfl, ← partsN_succ, ← shsN_succ] at hO4
        refine last.wpAnyL_one (i := 5) (o := { dst := some 22, op := Op.call { callee := Callee.builtin Builtin.append, args := #[Operand.tmp 18, Operand.tmp 21], argTypes := #[26, 26] }, type := 26, pos := "l12_world.go:11", after := #[{ on := 1, ground := Ground.data }, { on := 4, ground := Ground.data }, { on := 3, ground := Ground.chain }], guard := none }) (by kernel_rfl) rfl (fun K hK => ?_)
        refine cos.step_append_run rfl (.tmp 18) (.tmp 21) 26 rfl (by kernel_rfl) (by kernel_rfl) hrun ?_
        have hvb : ∀ b, (Value.slice sa k sc).ownBlock = some b → X < b := fun b e => hob b (by rw [e]; simp)
        have hX4 := hX.grown hgr (fun e => by have := hvb X e.symm; omega)
        have hY4 := hY.grown hgr (fun e => by have := hvb _ e.symm; omega)
        have hb4 : Below w.heap.size w w4 := hb.grown hgr hb.size (fun b e => by have := hvb b e; omega)
        have hg4 : X < g' := by
          rcases hat with e | e
          · exact hvb g' e
          · have := hX.lt; omega
        clear hrun hat hob hO hxs hNb
        refine hK.out _ _ ?_ (fun hHeld => ?_)
        · exact hX4
        clear hK K hHeld0
        have hHeld0 := hHeld
        clear hHeld
        try simp only [Act.put, List.setIfInBounds_toArray, List.set_cons_zero, List.set_cons_succ]
        refine last.wpAnyL_take (i := 6) (v := (.pointer (some ⟨X, 6, none⟩))) rfl rfl (by kernel_rfl) (by kernel_rfl) (by kernel_rfl) (by kernel_rfl) (fun _ _ _ h => h) (Or.inl ⟨by rfl, ?_⟩) (by assumption) ?_
        · intro wq hSq; go_simp
        try simp only [Act.put, List.setIfInBounds_toArray, List.set_cons_zero, List.set_cons_succ]
        have x6 := hX4.cell 6 _ rfl
        have f6 := hX4.fz 6
        simp only [List.length_nil, Nat.zero_add] at x6
        have hS3 := hX4.set 6 (by simp) (.slice (some ⟨g', 0, none⟩) (k + 1) cap')
        simp only [List.length_nil, Nat.zero_add, List.set_cons_succ, List.set_cons_zero] at hS3
        obtain ⟨U3, hU3⟩ : ∃ U3, w4.setCell ⟨X, 6, none⟩ (.slice (some ⟨g', 0, none⟩) (k + 1) cap') = U3 := ⟨_, rfl⟩
        rw [hU3] at hS3
        have HU3 := Hid.mk' hU3
        clear hU3
        refine last.wpAnyL_last (o := { dst := none, op := Op.store 26 (Operand.tmp 23) (Operand.tmp 22), type := 0, pos := "l12_world.go:11", after := #[{ on := 6, ground := Ground.data }, { on := 5, ground := Ground.data }, { on := 5, ground := Ground.chain }, { on := 0, ground := Ground.phase }, { on := 1, ground := Ground.phase }, { on := 2, ground := Ground.phase }, { on := 3, ground := Ground.phase }, { on := 4, ground := Ground.phase }, { on := 5, ground := Ground.phase }], guard := none }) (by kernel_rfl) rfl (by kernel_rfl) (fun K hK => ?_)
        go_simp
        refine hK.out _ _ ?_
        clear hK K
        rw [HU3.out]
        have hYU := hY4.grown hS3.2 (fun e => by cases e; omega)
        have hOU : OwnG 56 shardR U3 (.slice (some ⟨g', 0, none⟩) (k + 1) cap') (shsN (k + 1)) (partsN (k + 1)) := hO4.keep fun b hb2 => hS3.2.block b (hO4.at_ b hb2) (fun e => by
          rw [blocksN, List.append_nil] at hb2
          simp [Value.ownBlock] at hb2
          cases e
          omega)
        have hbU : Below w.heap.size w U3 := hb4.grown hS3.2 hb4.size (fun b e => by cases e; omega)
        have hXU := hS3.1
        clear x6 f6 hS3 HU3 hX4 hY4 hO4 hb4 hX hY hb hgr hHeld0
        go_wp2_with fail
        go_roundw
        case rel => exact ⟨k + 1, some ⟨g', 0, none⟩, cap', by omega, by go_num, hXU, hYU, hOU, fun b hb => by simp [Value.ownBlock] at hb; omega, hbU⟩
        case measure => simp [intOf]; omega
      · have hki : ¬ (k : Int) < (N : Int) := by omega
        obtain rfl : k = N := by omega
        obtain ⟨q0, q1, q2, q3, q4, q5, q6, q7, q8, q9⟩ := cells10 hX
        obtain ⟨z0, z1, z2, z3, z4, z5, z6, z7, z8, z9⟩ := cells10 hY
        have f0 := hY.fz 0
        have f1 := hY.fz 1
        have f2 := hY.fz 2
        have f3 := hY.fz 3
        have f4 := hY.fz 4
        have f5 := hY.fz 5
        have f6 := hY.fz 6
        have f7 := hY.fz 7
        have f8 := hY.fz 8
        have f9 := hY.fz 9
        have hS := hY.whole [.int .i64 (k : Int), .int .i64 1, .int .i64 0, .slice none 0 0, .slice none 0 0, .int .i64 0, .slice sa k sc, .slice none 0 0, .slice none 0 0, .slice none 0 0] rfl
        obtain ⟨y0, y1, y2, y3, y4, y5, y6, y7, y8, y9⟩ := cells10 hS.1
        simp only [putAll, Nat.zero_add, Nat.reduceAdd] at y0 y1 y2 y3 y4 y5 y6 y7 y8 y9
        have hO2 : OwnG 56 shardR _ (.slice sa k sc) (shsN k) (partsN k) := hO.keep fun b hb2 => hS.2.block b (hO.at_ b hb2) (fun e => by
          rw [blocksN, List.append_nil] at hb2
          have := hob b hb2
          cases e
          omega)
        have hBz : Below w.heap.size w _ := hb.grown hS.2 hb.size (fun j e => by cases e; omega)
        have HRET := Hid.mk' (HRT.out sa sc _ hO2 (fun b hb2 => by have := hob b hb2; omega) hBz)
        clear hO2 hS hBz hO hX hY
        go_wp2_with fail
        refine bodyPost_ret (v := .agg #[.int .i64 (k : Int), .int .i64 1, .int .i64 0, .slice none 0 0, .slice none 0 0, .int .i64 0, .slice sa k sc, .slice none 0 0, .slice none 0 0, .slice none 0 0]) ?_ rfl HRET.out
        simp [results, Try.results6, go_sem, y0, y1, y2, y3, y4, y5, y6, y7, y8, y9]
  · rw [decide_eq_false hn] at HIN
    have HRT : Hid (∀ w', Below w.heap.size w w' → RetNw w n (.returned (.agg #[.int .i64 0, .int .i64 0, .int .i64 0, .slice none 0 0, .slice none 0 0, .int .i64 0, .slice none 0 0, .slice none 0 0, .slice none 0 0, .slice none 0 0])) w') := fun w' h3 => by
      have hC : cntN n = 0 := by unfold cntN; rw [if_neg hn]
      have hR : cos.newR n = (0, 0, 0, [], [], 0) := if_neg hn
      unfold RetNw
      rw [hC, hR]
      exact ⟨none, 0, rfl, ownG_nil _ _ _, fun b hb => absurd hb List.not_mem_nil, h3⟩
    obtain ⟨z0, z1, z2, z3, z4, z5, z6, z7, z8, z9⟩ := cells10 hY
    have f0 := hY.fz 0
    have f1 := hY.fz 1
    have f2 := hY.fz 2
    have f3 := hY.fz 3
    have f4 := hY.fz 4
    have f5 := hY.fz 5
    have f6 := hY.fz 6
    have f7 := hY.fz 7
    have f8 := hY.fz 8
    have f9 := hY.fz 9
    have hS := hY.whole [.int .i64 0, .int .i64 0, .int .i64 0, .slice none 0 0, .slice none 0 0, .int .i64 0, .slice none 0 0, .slice none 0 0, .slice none 0 0, .slice none 0 0] rfl
    obtain ⟨y0, y1, y2, y3, y4, y5, y6, y7, y8, y9⟩ := cells10 hS.1
    simp only [putAll, Nat.zero_add, Nat.reduceAdd] at y0 y1 y2 y3 y4 y5 y6 y7 y8 y9
    have hBz : Below w.heap.size w _ := hbA.grown hS.2 hbA.size (fun j e => by cases e; omega)
    have HRET := Hid.mk' (HRT.out _ hBz)
    clear hwA hS hBz hY
    go_enter Try.func6, Try.ntmps6
    go_wp2_with fail
    rw [HA.out]
    refine HIN.out.mono ?_
    rintro e w1 ⟨rfl, hw1⟩
    replace hw1 := hw1.symm
    subst hw1
    go_wp2_with fail
    refine bodyPost_ret (v := .agg #[.int .i64 0, .int .i64 0, .int .i64 0, .slice none 0 0, .slice none 0 0, .int .i64 0, .slice none 0 0, .slice none 0 0, .slice none 0 0, .slice none 0 0]) ?_ rfl HRET.out
    simp [results, Try.results6, go_sem, y0, y1, y2, y3, y4, y5, y6, y7, y8, y9]
theorem i_countN (n : Int) (w : World) : Calls Try.prog 20 #[.int .i64 n] w fun e w' => e = .returned (.bool (decide (1 ≤ n ∧ n ≤ 8))) ∧ w' = w := by
  by_cases h1 : 1 ≤ n
  · by_cases h2 : n ≤ 8
    · rw [decide_eq_true ⟨h1, h2⟩]
      go_enter Try.func20, Try.ntmps20
      go_wp2
      go_ret
      exact ⟨by simp [h2], rfl⟩
    · rw [decide_eq_false (fun h => h2 h.2)]
      go_enter Try.func20, Try.ntmps20
      go_wp2
      go_ret
      exact ⟨by simp [h2], rfl⟩
  · rw [decide_eq_false (fun h => h1 h.1)]
    go_enter Try.func20, Try.ntmps20
    go_wp2
    go_ret
    exact ⟨rfl, rfl⟩
set_option maxRecDepth 100000 in
theorem impl_coNew (n : Int) (w : World) :
    Calls Try.prog 21 #[.int .i64 n] w fun e w' => e = .returned (cos.coV (cos.newR n).1 (cos.newR n).2.1 (cos.newR n).2.2.1 (cos.newR n).2.2.2.2.2 none 0 0 none 0 0) ∧ Below w.heap.size w w' := by
  have hin := i_countN n (w.alloc (cos.coO 0 0 0 0 none 0 0 none 0 0))
  by_cases hn : 1 ≤ n ∧ n ≤ 8
  · have HR : Hid (cos.newR n = (n, 1, 0, [], [], 0)) := if_pos hn
    rw [decide_eq_true hn] at hin
    have HI := Hid.mk' hin
    clear hin
    go_enter Try.func21, Try.ntmps21
    go_wp2_with fail
    refine HI.out.mono ?_
    rintro e w1 ⟨rfl, hw1⟩
    subst hw1
    go_wp2_with fail
    go_returns
    exact ⟨by rw [HR.out], cos.below_new _ _⟩
  · have HR : Hid (cos.newR n = (0, 0, 0, [], [], 0)) := if_neg hn
    rw [decide_eq_false hn] at hin
    have HI := Hid.mk' hin
    clear hin
    go_enter Try.func21, Try.ntmps21
    go_wp2_with fail
    refine HI.out.mono ?_
    rintro e w1 ⟨rfl, hw1⟩
    subst hw1
    go_wp2_with fail
    go_returns
    exact ⟨by rw [HR.out], cos.below_new _ _⟩
set_option maxRecDepth 100000 in
set_option maxHeartbeats 4000000 in
theorem impl_worldNew (n : Int) (w : World) (hn0 : (Lit.int .i64 n).wf = true) : Calls Try.prog 7 #[.int .i64 n] w (RetNw w n) := by
  obtain ⟨wA, hwA⟩ : ∃ wA, w.alloc (.cells #[.int .i64 0, .int .i64 0, .int .i64 0, .slice none 0 0, .slice none 0 0, .int .i64 0, .slice none 0 0, .slice none 0 0, .slice none 0 0, .slice none 0 0] 30) = wA := ⟨_, rfl⟩
  have hbA : Below w.heap.size w wA := by rw [← hwA]; exact below_make
  have hY : BoxIn w.heap.size 30 [] [.int .i64 0, .int .i64 0, .int .i64 0, .slice none 0 0, .slice none 0 0, .int .i64 0, .slice none 0 0, .slice none 0 0, .slice none 0 0, .slice none 0 0] [] wA := by rw [← hwA]; exact boxIn_new w _ _
  have HIN := Hid.mk' (i_countN n wA)
  have HA := Hid.mk' hwA
  by_cases hn : 1 ≤ n ∧ n ≤ 8
  · rw [decide_eq_true hn] at HIN
    obtain ⟨N, hN⟩ : ∃ N : Nat, n = (N : Int) := ⟨n.toNat, by omega⟩
    subst hN
    have hC : cntN (N : Int) = N := by unfold cntN; rw [if_pos hn]; omega
    have HR : Hid (cos.newR (N : Int) = ((N : Int), 1, 0, [], [], 0)) := if_pos hn
    have hN8 : N ≤ 8 := by omega
    have HCO := Hid.mk' (impl_coNew (N : Int) wA)
    rw [HR.out] at HCO
    simp only [] at HCO
    have HRT : Hid (∀ sa sc w', OwnG 56 shardR w' (.slice sa N sc) (shsN N) (partsN N) → (∀ b ∈ (Value.slice sa N sc).ownBlock.toList, w.heap.size ≤ b) → Below w.heap.size w w' → RetNw w (N : Int) (.returned (.agg #[.int .i64 (N : Int), .int .i64 1, .int .i64 0, .slice none 0 0, .slice none 0 0, .int .i64 0, .slice sa N sc, .slice none 0 0, .slice none 0 0, .slice none 0 0])) w') := fun sa sc w' h1 h2 h3 => by
      unfold RetNw
      rw [hC, HR.out]
      exact ⟨sa, sc, rfl, h1, h2, h3⟩
    have HSN : Hid (∀ (k : Nat) (wx : World), k < 8 → Calls Try.prog 22 #[.int .i64 (k : Int)] wx fun e w' => e = .returned (.agg #[.int .i64 (k : Int), .slice none 0 0, .int .i64 0, .slice none 0 0, .slice none 0 0]) ∧ Below wx.heap.size wx w') := fun k wx hk => by
      have h := recs.impl_shardNew (k : Int) wx
      have e : (recs.newShd (k : Int)).1 = (k : Int) := by unfold recs.newShd; rw [if_pos ⟨by omega, by omega⟩]
      rw [e] at h
      exact h
    clear hn hC HR hwA
    go_enter Try.func7, Try.ntmps7
    go_wp2_with fail
    rw [HA.out]
    refine HIN.out.mono ?_
    rintro e w1 ⟨rfl, hw1⟩
    replace hw1 := hw1.symm
    subst hw1
    go_wp2_with fail
    refine HCO.out.mono ?_
    rintro e w2 ⟨rfl, hb2⟩
    obtain ⟨V, hV⟩ : ∃ V, w2.alloc (.cells #[.int .i64 (N : Int), .int .i64 1, .int .i64 0, .slice none 0 0, .slice none 0 0, .int .i64 0, .slice none 0 0, .slice none 0 0, .slice none 0 0, .slice none 0 0] 30) = V := ⟨_, rfl⟩
    have hbV : Below w2.heap.size w2 V := by rw [← hV]; exact below_make
    have hX : BoxIn w2.heap.size 30 [] [.int .i64 (N : Int), .int .i64 1, .int .i64 0, .slice none 0 0, .slice none 0 0, .int .i64 0, .slice none 0 0, .slice none 0 0, .slice none 0 0, .slice none 0 0] [] V := by rw [← hV]; exact boxIn_new w2 _ _
    have hbw2 := hbA.trans (hb2.mono hbA.size)
    have hbWV := hbw2.trans (hbV.mono hbw2.size)
    have hYV := (hY.below hb2).below hbV
    have hXY : w.heap.size < w2.heap.size := Nat.lt_of_lt_of_le hY.lt hb2.size
    have HV := Hid.mk' hV
    clear hV HIN HCO HA hY
    go_wp2_with fail
    rw [HV.out]
    clear HV
    generalize w2.heap.size = X at *
    go_loopw [13] (fun i wr => ∃ (k : Nat) (sa : Option Addr) (sc : Nat), k ≤ N ∧ i = .int .i64 (k : Int) ∧ BoxIn X 30 [] [.int .i64 (N : Int), .int .i64 1, .int .i64 0, .slice none 0 0, .slice none 0 0, .int .i64 0, .slice sa k sc, .slice none 0 0, .slice none 0 0, .slice none 0 0] [] wr ∧ BoxIn w.heap.size 30 [] [.int .i64 0, .int .i64 0, .int .i64 0, .slice none 0 0, .slice none 0 0, .int .i64 0, .slice none 0 0, .slice none 0 0, .slice none 0 0, .slice none 0 0] [] wr ∧ OwnG 56 shardR wr (.slice sa k sc) (shsN k) (partsN k) ∧ (∀ b ∈ (Value.slice sa k sc).ownBlock.toList, X < b) ∧ Below w.heap.size w wr) (fun i _ => N - (intOf i).toNat)
    case atStart => exact ⟨0, none, 0, Nat.zero_le _, rfl, hX, hYV, ownG_nil _ _ _, fun b hb => absurd hb List.not_mem_nil, hbWV⟩
    case round =>
      clear hX hYV hbV hbWV hb2 hbw2
      obtain ⟨k, sa, sc, hk, rfl, hX, hY, hO, hob, hb⟩ := hrel
      have hXl := hX.lt
      have hYl := hY.lt
      by_cases hlt : k < N
      · have hki : (k : Int) < (N : Int) := by omega
        go_wp2_with fail
        have hd : Below wr.heap.size wr wr.drew := (Below.refl _ _).drew
        refine last.wp_region_later (S := fun w' => BoxIn X 30 [] [.int .i64 (N : Int), .int .i64 1, .int .i64 0, .slice none 0 0, .slice none 0 0, .int .i64 0, .slice sa k sc, .slice none 0 0, .slice none 0 0, .slice none 0 0] [] w') 7 (by kernel_rfl) (hX.below hd) (fun hHeld0 => ?_)
        replace hX := hX.below hd
        replace hY := hY.below hd
        replace hO := hO.below hd
        replace hb := hb.trans (hd.mono hb.size)
        have hds := hd.size
        clear hd
        generalize hD : wr.drew = D at *
        clear hD hds hXl hYl
        refine last.wpAnyL_take (i := 0) (v := (.pointer (some ⟨X, 6, none⟩))) rfl rfl (by kernel_rfl) (by kernel_rfl) (by kernel_rfl) (by kernel_rfl) (fun _ _ _ h => h) (Or.inl ⟨by rfl, ?_⟩) (by assumption) ?_
        · intro wq hSq; go_simp
        try simp only [Act.put, List.setIfInBounds_toArray, List.set_cons_zero, List.set_cons_succ]
        refine last.wpAnyL_take (i := 1) (v := (.slice sa k sc)) rfl rfl (by kernel_rfl) (by kernel_rfl) (by kernel_rfl) (by kernel_rfl) (fun _ _ _ h => h) (Or.inl ⟨by rfl, ?_⟩) (by assumption) ?_
        · intro wq hSq; have q := hSq.cell 6 _ rfl; simp only [List.length_nil, Nat.zero_add] at q; go_simp
        try simp only [Act.put, List.setIfInBounds_toArray, List.set_cons_zero, List.set_cons_succ]
        refine last.wpAnyL_take (i := 2) (v := (.int .i64 (k : Int))) rfl rfl (by kernel_rfl) (by kernel_rfl) (by kernel_rfl) (by kernel_rfl) (fun _ _ _ h => h) (Or.inl ⟨by rfl, ?_⟩) (by assumption) ?_
        · intro wq hSq; go_simp
        try simp only [Act.put, List.setIfInBounds_toArray, List.set_cons_zero, List.set_cons_succ]
        refine last.wpAnyL_one (i := 3) (o := { dst := some 19, op := Op.call { callee := Callee.value (Operand.func 22), args := #[Operand.tmp 18], argTypes := #[3] }, type := 56, pos := "l12_world.go:57", after := #[{ on := 2, ground := Ground.data }], guard := none }) (by kernel_rfl) rfl (fun K hK => ?_)
        refine stepg.call1 rfl 22 (.tmp 18) _ rfl (fun _ _ => rfl) (.int .i64 (k : Int)) (by kernel_rfl) _ (HSN.out k _ (by omega)) ?_
        rintro e wB ⟨rfl, hbc⟩
        refine ⟨_, rfl, ?_⟩
        refine hK.out _ _ ?_ (fun hHeld => ?_)
        · exact hX.below hbc
        clear hK K hHeld0
        have hHeld0 := hHeld
        clear hHeld
        try simp only [Act.put, List.setIfInBounds_toArray, List.set_cons_zero, List.set_cons_succ]
        replace hX := hX.below hbc
        replace hY := hY.below hbc
        replace hO := hO.below hbc
        replace hb := hb.trans (hbc.mono hb.size)
        clear hbc
        refine last.wpAnyL_one (i := 4) (o := { dst := some 20, op := Op.buildSlice 26 1 #[(0, Operand.tmp 19)], type := 26, pos := "l12_world.go:57", after := #[{ on := 3, ground := Ground.data }], guard := none }) (by kernel_rfl) rfl (fun K hK => ?_)
        go_simp
        obtain ⟨V2, hV2⟩ : ∃ V, wB.alloc (.cells #[.int .i64 (k : Int), .slice none 0 0, .int .i64 0, .slice none 0 0, .slice none 0 0] 56) = V := ⟨_, rfl⟩
        have hbv : Below wB.heap.size wB V2 := by rw [← hV2]; exact below_make
        have hNb : BoxIn wB.heap.size 56 [] [.int .i64 (k : Int), .slice none 0 0, .int .i64 0, .slice none 0 0, .slice none 0 0] [] V2 := by rw [← hV2]; exact boxIn_new _ _ _
        rw [hV2]
        refine hK.out _ _ ?_ (fun hHeld => ?_)
        · exact hX.below hbv
        clear hK K hHeld0
        have hHeld0 := hHeld
        clear hHeld
        try simp only [Act.put, List.setIfInBounds_toArray, List.set_cons_zero, List.set_cons_succ]
        replace hX := hX.below hbv
        replace hY := hY.below hbv
        replace hO := hO.below hbv
        replace hb := hb.trans (hbv.mono hb.size)
        clear hV2 hbv
        have hxs : shardR.own V2 [.int .i64 (k : Int), .slice none 0 0, .int .i64 0, .slice none 0 0, .slice none 0 0] ((k : Int), [], 0, [], []) [] := shard_own.2 ⟨none, 0, 0, none, 0, 0, none, 0, 0, rfl, recs.ownSh_new V2 (k : Int) (WalkArith.wf_i64 (by omega))⟩
        obtain ⟨g', cap', w4, hrun, hO4, hgr, hat⟩ := cos.OwnG.appRun (P := Try.prog) (z := .agg #[.int .i64 0, .slice none 0 0, .int .i64 0, .slice none 0 0, .slice none 0 0]) Try.underlying26 infoSh rfl (by decide) hO hxs (fun b hb => absurd hb List.not_mem_nil) hNb (by rw [shsN_len]; unfold maxLen; omega) (by rw [shsN_len]; omega) 26
        rw [shsN_len] at hrun hO4
        rw [show (([.int .i64 (k : Int), .slice none 0 0, .int .i64 0, .slice none 0 0, .slice none 0 0] : List Value), ([] : List Nat)) = (usN (k : Int) 0, []) from rfl, ← partsN_succ, ← shsN_succ] at hO4
        refine last.wpAnyL_one (i := 5) (o := { dst := some 21, op := Op.call { callee := Callee.builtin Builtin.append, args := #[Operand.tmp 17, Operand.tmp 20], argTypes := #[26, 26] }, type := 26, pos := "l12_world.go:57", after := #[{ on := 1, ground := Ground.data }, { on := 4, ground := Ground.data }, { on := 3, ground := Ground.chain }], guard := none }) (by kernel_rfl) rfl (fun K hK => ?_)
        refine cos.step_append_run rfl (.tmp 17) (.tmp 20) 26 rfl (by kernel_rfl) (by kernel_rfl) hrun ?_
        have hvb : ∀ b, (Value.slice sa k sc).ownBlock = some b → X < b := fun b e => hob b (by rw [e]; simp)
        have hX4 := hX.grown hgr (fun e => by have := hvb X e.symm; omega)
        have hY4 := hY.grown hgr (fun e => by have := hvb _ e.symm; omega)
        have hb4 : Below w.heap.size w w4 := hb.grown hgr hb.size (fun b e => by have := hvb b e; omega)
        have hg4 : X < g' := by
          rcases hat with e | e
          · exact hvb g' e
          · have := hX.lt; omega
        clear hrun hat hob hO hxs hNb
        refine hK.out _ _ ?_ (fun hHeld => ?_)
        · exact hX4
        clear hK K hHeld0
        have hHeld0 := hHeld
        clear hHeld
        try simp only [Act.put, List.setIfInBounds_toArray, List.set_cons_zero, List.set_cons_succ]
        refine last.wpAnyL_take (i := 6) (v := (.pointer (some ⟨X, 6, none⟩))) rfl rfl (by kernel_rfl) (by kernel_rfl) (by kernel_rfl) (by kernel_rfl) (fun _ _ _ h => h) (Or.inl ⟨by rfl, ?_⟩) (by assumption) ?_
        · intro wq hSq; go_simp
        try simp only [Act.put, List.setIfInBounds_toArray, List.set_cons_zero, List.set_cons_succ]
        have x6 := hX4.cell 6 _ rfl
        have f6 := hX4.fz 6
        simp only [List.length_nil, Nat.zero_add] at x6
        have hS3 := hX4.set 6 (by simp) (.slice (some ⟨g', 0, none⟩) (k + 1) cap')
        simp only [List.length_nil, Nat.zero_add, List.set_cons_succ, List.set_cons_zero] at hS3
        obtain ⟨U3, hU3⟩ : ∃ U3, w4.setCell ⟨X, 6, none⟩ (.slice (some ⟨g', 0, none⟩) (k + 1) cap') = U3 := ⟨_, rfl⟩
        rw [hU3] at hS3
        have HU3 := Hid.mk' hU3
        clear hU3
        refine last.wpAnyL_last (o := { dst := none, op := Op.store 26 (Operand.tmp 22) (Operand.tmp 21), type := 0, pos := "l12_world.go:57", after := #[{ on := 6, ground := Ground.data }, { on := 5, ground := Ground.data }, { on := 5, ground := Ground.chain }, { on := 0, ground := Ground.phase }, { on := 1, ground := Ground.phase }, { on := 2, ground := Ground.phase }, { on := 3, ground := Ground.phase }, { on := 4, ground := Ground.phase }, { on := 5, ground := Ground.phase }], guard := none }) (by kernel_rfl) rfl (by kernel_rfl) (fun K hK => ?_)
        go_simp
        refine hK.out _ _ ?_
        clear hK K
        rw [HU3.out]
        have hYU := hY4.grown hS3.2 (fun e => by cases e; omega)
        have hOU : OwnG 56 shardR U3 (.slice (some ⟨g', 0, none⟩) (k + 1) cap') (shsN (k + 1)) (partsN (k + 1)) := hO4.keep fun b hb2 => hS3.2.block b (hO4.at_ b hb2) (fun e => by
          rw [blocksN, List.append_nil] at hb2
          simp [Value.ownBlock] at hb2
          cases e
          omega)
        have hbU : Below w.heap.size w U3 := hb4.grown hS3.2 hb4.size (fun b e => by cases e; omega)
        have hXU := hS3.1
        clear x6 f6 hS3 HU3 hX4 hY4 hO4 hb4 hX hY hb hgr hHeld0
        go_wp2_with fail
        go_roundw
        case rel => exact ⟨k + 1, some ⟨g', 0, none⟩, cap', by omega, by go_num, hXU, hYU, hOU, fun b hb => by simp [Value.ownBlock] at hb; omega, hbU⟩
        case measure => simp [intOf]; omega
      · have hki : ¬ (k : Int) < (N : Int) := by omega
        obtain rfl : k = N := by omega
        obtain ⟨q0, q1, q2, q3, q4, q5, q6, q7, q8, q9⟩ := cells10 hX
        obtain ⟨z0, z1, z2, z3, z4, z5, z6, z7, z8, z9⟩ := cells10 hY
        have f0 := hY.fz 0
        have f1 := hY.fz 1
        have f2 := hY.fz 2
        have f3 := hY.fz 3
        have f4 := hY.fz 4
        have f5 := hY.fz 5
        have f6 := hY.fz 6
        have f7 := hY.fz 7
        have f8 := hY.fz 8
        have f9 := hY.fz 9
        have hS := hY.whole [.int .i64 (k : Int), .int .i64 1, .int .i64 0, .slice none 0 0, .slice none 0 0, .int .i64 0, .slice sa k sc, .slice none 0 0, .slice none 0 0, .slice none 0 0] rfl
        obtain ⟨y0, y1, y2, y3, y4, y5, y6, y7, y8, y9⟩ := cells10 hS.1
        simp only [putAll, Nat.zero_add, Nat.reduceAdd] at y0 y1 y2 y3 y4 y5 y6 y7 y8 y9
        have hO2 : OwnG 56 shardR _ (.slice sa k sc) (shsN k) (partsN k) := hO.keep fun b hb2 => hS.2.block b (hO.at_ b hb2) (fun e => by
          rw [blocksN, List.append_nil] at hb2
          have := hob b hb2
          cases e
          omega)
        have hBz : Below w.heap.size w _ := hb.grown hS.2 hb.size (fun j e => by cases e; omega)
        have HRET := Hid.mk' (HRT.out sa sc _ hO2 (fun b hb2 => by have := hob b hb2; omega) hBz)
        clear hO2 hS hBz hO hX hY
        go_wp2_with fail
        refine bodyPost_ret (v := .agg #[.int .i64 (k : Int), .int .i64 1, .int .i64 0, .slice none 0 0, .slice none 0 0, .int .i64 0, .slice sa k sc, .slice none 0 0, .slice none 0 0, .slice none 0 0]) ?_ rfl HRET.out
        simp [results, Try.results7, go_sem, y0, y1, y2, y3, y4, y5, y6, y7, y8, y9]
  · rw [decide_eq_false hn] at HIN
    have HRT : Hid (∀ w', Below w.heap.size w w' → RetNw w n (.returned (.agg #[.int .i64 0, .int .i64 0, .int .i64 0, .slice none 0 0, .slice none 0 0, .int .i64 0, .slice none 0 0, .slice none 0 0, .slice none 0 0, .slice none 0 0])) w') := fun w' h3 => by
      have hC : cntN n = 0 := by unfold cntN; rw [if_neg hn]
      have hR : cos.newR n = (0, 0, 0, [], [], 0) := if_neg hn
      unfold RetNw
      rw [hC, hR]
      exact ⟨none, 0, rfl, ownG_nil _ _ _, fun b hb => absurd hb List.not_mem_nil, h3⟩
    obtain ⟨z0, z1, z2, z3, z4, z5, z6, z7, z8, z9⟩ := cells10 hY
    have f0 := hY.fz 0
    have f1 := hY.fz 1
    have f2 := hY.fz 2
    have f3 := hY.fz 3
    have f4 := hY.fz 4
    have f5 := hY.fz 5
    have f6 := hY.fz 6
    have f7 := hY.fz 7
    have f8 := hY.fz 8
    have f9 := hY.fz 9
    have hS := hY.whole [.int .i64 0, .int .i64 0, .int .i64 0, .slice none 0 0, .slice none 0 0, .int .i64 0, .slice none 0 0, .slice none 0 0, .slice none 0 0, .slice none 0 0] rfl
    obtain ⟨y0, y1, y2, y3, y4, y5, y6, y7, y8, y9⟩ := cells10 hS.1
    simp only [putAll, Nat.zero_add, Nat.reduceAdd] at y0 y1 y2 y3 y4 y5 y6 y7 y8 y9
    have hBz : Below w.heap.size w _ := hbA.grown hS.2 hbA.size (fun j e => by cases e; omega)
    have HRET := Hid.mk' (HRT.out _ hBz)
    clear hwA hS hBz hY
    go_enter Try.func7, Try.ntmps7
    go_wp2_with fail
    rw [HA.out]
    refine HIN.out.mono ?_
    rintro e w1 ⟨rfl, hw1⟩
    replace hw1 := hw1.symm
    subst hw1
    go_wp2_with fail
    refine bodyPost_ret (v := .agg #[.int .i64 0, .int .i64 0, .int .i64 0, .slice none 0 0, .slice none 0 0, .int .i64 0, .slice none 0 0, .slice none 0 0, .slice none 0 0, .slice none 0 0]) ?_ rfl HRET.out
    simp [results, Try.results7, go_sem, y0, y1, y2, y3, y4, y5, y6, y7, y8, y9]
end Go.Proofs.Ytijplooogplccaa.wos
