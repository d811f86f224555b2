/- WsE WoE WdHz -/
import Derived.Test.YtijplooogplccaaGreatShai
import Derived.Test.YtijplooogplccaaGreatShah
import Derived.Test.YtijplooogplccaaGreatShap
import Derived.Test.YtijplooogplccaaGreatShav
set_option linter.unusedVariables false
set_option linter.unusedSimpArgs false
namespace Go.Proofs.YtijplooogplccaaGreat
namespace cos
open Go Go.RowKit base pairs ords lay wds
theorem word_at {w : World} {b off len : Nat} {l : List Wd} (h : SlG wordR w (some ⟨b, off, none⟩) len l) (i : Nat) (hi : i < l.length) :
 ∃ oa ol oc, w.cell? ⟨b, off + i * 5, none⟩ = some (.int .i64 l[i].1) ∧ w.cell? ⟨b, off + i * 5 + 1, none⟩ = some (.int .i64 l[i].2.1) ∧ w.cell? ⟨b, off + i * 5 + 2, none⟩ = some (.int .i64 l[i].2.2.1) ∧ w.cell? ⟨b, off + i * 5 + 3, none⟩ = some (.slice oa ol oc) ∧ w.cell? ⟨b, off + i * 5 + 4, none⟩ = some (.bool l[i].2.2.2.2) ∧ SlO w oa ol l[i].2.2.2.1 ∧ ol ≤ oc := by
 obtain ⟨u0, u1, u2, u3, u4, hs, c0, c1, c2, c3, c4⟩ := slg_at5 rfl h i hi
 obtain ⟨oa, ol, oc, e, _, _, _, h4, h5⟩ := word_see.1 hs
 simp only [List.cons.injEq, and_true] at e
 obtain ⟨rfl, rfl, rfl, rfl, rfl⟩ := e
 exact ⟨oa, ol, oc, c0, c1, c2, c3, c4, h4, h5⟩
set_option maxRecDepth 100000 in
set_option maxHeartbeats 1000000 in
theorem eqWord1T (k s t : Int) (y : Bool) (pa qa : Option Addr) (pl pc ql qc : Nat) (l : List Od) (w : World) (hx : SlO w pa pl l) (hy : SlO w qa ql l) :
 Calls Tryz.prog 68 #[.agg #[.int .i64 k, .int .i64 s, .int .i64 t, .slice pa pl pc, .bool y], .agg #[.int .i64 k, .int .i64 s, .int .i64 t, .slice qa ql qc, .bool y]] w fun e w' => e = .returned (.bool true) ∧ Below w.heap.size w w' := by
 obtain ⟨W, hW⟩ : ∃ W, (w.alloc (.cells #[.int .i64 k, .int .i64 s, .int .i64 t, .slice pa pl pc, .bool y] 100)).alloc (.cells #[.int .i64 k, .int .i64 s, .int .i64 t, .slice qa ql qc, .bool y] 100) = W := ⟨_, rfl⟩
 have hB : Below w.heap.size w W := by rw [← hW]; exact below_two _ _ _
 have vx : BoxIn w.heap.size 100 [] [.int .i64 k, .int .i64 s, .int .i64 t, .slice pa pl pc, .bool y] [] W := by rw [← hW]; exact (boxIn_new w _ _).below below_make
 have vy : BoxIn (w.heap.size + 1) 100 [] [.int .i64 k, .int .i64 s, .int .i64 t, .slice qa ql qc, .bool y] [] W := by
  rw [← hW]
  have := boxIn_new (w.alloc (.cells #[.int .i64 k, .int .i64 s, .int .i64 t, .slice pa pl pc, .bool y] 100)) [.int .i64 k, .int .i64 s, .int .i64 t, .slice qa ql qc, .bool y] 100
  rwa [show (w.alloc (.cells #[.int .i64 k, .int .i64 s, .int .i64 t, .slice pa pl pc, .bool y] 100)).heap.size = w.heap.size + 1 by simp] at this
 have HE := Hid.mk' (eqO pa qa pl pc ql qc l l W (hx.below hB) (hy.below hB) rfl)
 have HW := Hid.mk' hW
 clear hW
 cases y
 all_goals
  have hn1 : (k == k) = true := by simp
  have hn2 : (s == s) = true := by simp
  have hn3 : (t == t) = true := by simp
  go_enter Tryz.func68, Tryz.ntmps68
  go_wp2_with fail
  rw [HW.out]
  refine HE.out.mono ?_
  rintro e w1 ⟨rfl, hb1⟩
  have hB1 := hB.trans (hb1.mono hB.size)
  have x4 := (vx.below hb1).cell 4 _ rfl
  have y4 := (vy.below hb1).cell 4 _ rfl
  rw [show ([] : List Value).length + 4 = 4 from rfl] at x4 y4
  clear HE HW hb1 vx vy
  go_wp2_with fail
  go_ret
  exact ⟨rfl, hB1⟩
set_option maxRecDepth 100000 in
set_option maxHeartbeats 2000000 in
theorem eqWordsT (a a2 : Option Addr) (len cap cap2 : Nat) (l : List Wd) (w : World) (h : SlG wordR w a len l) (h2 : SlG wordR w a2 len l) :
 Calls Tryz.prog 31 #[.slice a len cap, .slice a2 len cap2] w fun e w' => e = .returned (.bool true) ∧ Below w.heap.size w w' := by
 have hl := h.1
 have hm := h.2.1
 unfold maxLen at hm
 have hb : ((len : Int) == (len : Int)) = true := by simp
 go_enter Tryz.func31, Tryz.ntmps31
 go_wp2_with fail
 go_loopw [5] (fun i wr => ∃ k : Nat, k ≤ len ∧ i = .int .i64 k ∧ Below w.heap.size w wr) (fun i _ => len - (intOf i).toNat)
 case atStart => exact ⟨0, Nat.zero_le _, rfl, Below.refl _ _⟩
 case round =>
  obtain ⟨k, hk, rfl, hB⟩ := hrel
  by_cases hlt : k < len
  · have hltl : k < l.length := by omega
    obtain ⟨b, off, e⟩ := slg_some h (by omega)
    obtain ⟨b2, off2, e2⟩ := slg_some h2 (by omega)
    subst e e2
    have hki : (k : Int) < (len : Int) := by omega
    obtain ⟨oa, ol, oc, c0, c1, c2, c3, c4, hO1, _⟩ := word_at (h.below hB) k hltl
    obtain ⟨ob, bl, bc, d0, d1, d2, d3, d4, hO2, _⟩ := word_at (h2.below hB) k hltl
    have o0 := last.On.cell (B := wr.heap.size) c0 (World.block_lt_of_cell? _ _ c0)
    have o1 := last.On.cell (B := wr.heap.size) c1 (World.block_lt_of_cell? _ _ c1)
    have o2 := last.On.cell (B := wr.heap.size) c2 (World.block_lt_of_cell? _ _ c2)
    have o3 := last.On.cell (B := wr.heap.size) c3 (World.block_lt_of_cell? _ _ c3)
    have o4 := last.On.cell (B := wr.heap.size) c4 (World.block_lt_of_cell? _ _ c4)
    have p0 := last.On.cell (B := wr.heap.size) d0 (World.block_lt_of_cell? _ _ d0)
    have p1 := last.On.cell (B := wr.heap.size) d1 (World.block_lt_of_cell? _ _ d1)
    have p2 := last.On.cell (B := wr.heap.size) d2 (World.block_lt_of_cell? _ _ d2)
    have p3 := last.On.cell (B := wr.heap.size) d3 (World.block_lt_of_cell? _ _ d3)
    have p4 := last.On.cell (B := wr.heap.size) d4 (World.block_lt_of_cell? _ _ d4)
    have hinh := last.On.inh wr.heap.size wr
    have hcall : ∀ x : last.On wr.heap.size wr, Calls Tryz.prog 68 #[.agg #[.int .i64 l[k].1, .int .i64 l[k].2.1, .int .i64 l[k].2.2.1, .slice oa ol oc, .bool l[k].2.2.2.2], .agg #[.int .i64 l[k].1, .int .i64 l[k].2.1, .int .i64 l[k].2.2.1, .slice ob bl bc, .bool l[k].2.2.2.2]] x.w fun e w' => e = .returned (.bool true) ∧ ∃ y : last.On wr.heap.size wr, w' = y.w := fun x => last.Calls.on x (Nat.le_refl _) (eqWord1T _ _ _ _ oa ob ol oc bl bc l[k].2.2.2.1 x.w (hO1.below x.2) (hO2.below x.2))
    clear h h2 hO1 hO2
    generalize l[k] = p at *
    go_wp2_with fail
    refine last.wp_region_on wr.heap.size (by kernel_rfl) (by kernel_rfl) ?_
    repeat (go_big_quiet_step ((go_at_call 68; exact hcall _)))
    refine wpQuiet_nil ?_
    intro w5 hw5
    obtain ⟨x5, hw5⟩ := hw5
    subst hw5
    have hB5 : Below w.heap.size w x5.w := hB.trans (x5.2.mono hB.size)
    go_wp2_with fail
    go_roundw
    case rel => exact ⟨k + 1, by omega, by go_num, hB5⟩
    case measure => simp [intOf]; omega
  · have hnk : ¬ (k : Int) < (len : Int) := by omega
    go_wp2_with fail
    go_ret
    exact ⟨rfl, hB⟩
end cos
namespace wos
open Go Go.RowKit base pairs ords lay
set_option maxRecDepth 100000 in
set_option maxHeartbeats 1000000 in
theorem eqOrderT (tx : Int) (oa ob : Option Addr) (ol oc bl bc : Nat) (ops : List Od) (w : World) (h1 : SlO w oa ol ops) (h2 : SlO w ob bl ops) :
 Calls Tryz.prog 69 #[.agg #[.int .i64 tx, .slice oa ol oc], .agg #[.int .i64 tx, .slice ob bl bc]] w fun e w' => e = .returned (.bool true) ∧ Below w.heap.size w w' := by
 obtain ⟨W, hW⟩ : ∃ W, (w.alloc (.cells #[.int .i64 tx, .slice oa ol oc] 103)).alloc (.cells #[.int .i64 tx, .slice ob bl bc] 103) = W := ⟨_, rfl⟩
 have hB : Below w.heap.size w W := by rw [← hW]; exact cos.below_two _ _ _
 have HO := Hid.mk' (eqO oa ob ol oc bl bc ops ops W (h1.below hB) (h2.below hB) rfl)
 have HW := Hid.mk' hW
 have hn : (tx == tx) = true := by simp
 clear hW h1 h2
 go_enter Tryz.func69, Tryz.ntmps69
 go_wp2_with fail
 rw [HW.out]
 refine HO.out.mono ?_
 rintro e w1 ⟨rfl, hb1⟩
 have hB1 := hB.trans (hb1.mono hB.size)
 clear HO HW
 go_wp2_with fail
 go_ret
 exact ⟨rfl, hB1⟩
set_option maxRecDepth 100000 in
set_option maxHeartbeats 2000000 in
theorem eqOrdersT (a a2 : Option Addr) (len cap cap2 : Nat) (l : List Orr) (w : World) (h : SlG ordR w a len l) (h2 : SlG ordR w a2 len l) :
 Calls Tryz.prog 32 #[.slice a len cap, .slice a2 len cap2] w fun e w' => e = .returned (.bool true) ∧ Below w.heap.size w w' := by
 have hl := h.1
 have hm := h.2.1
 unfold maxLen at hm
 have hb : ((len : Int) == (len : Int)) = true := by simp
 go_enter Tryz.func32, Tryz.ntmps32
 go_wp2_with fail
 go_loopw [5] (fun i wr => ∃ k : Nat, k ≤ len ∧ i = .int .i64 k ∧ Below w.heap.size w wr) (fun i _ => len - (intOf i).toNat)
 case atStart => exact ⟨0, Nat.zero_le _, rfl, Below.refl _ _⟩
 case round =>
  obtain ⟨k, hk, rfl, hB⟩ := hrel
  by_cases hlt : k < len
  · have hltl : k < l.length := by omega
    obtain ⟨b, off, e⟩ := cos.slg_some h (by omega)
    obtain ⟨b2, off2, e2⟩ := cos.slg_some h2 (by omega)
    subst e e2
    have hki : (k : Int) < (len : Int) := by omega
    obtain ⟨c0, oa, ol, oc, c1, hO1, _⟩ := ord_at (h.below hB) k hltl
    obtain ⟨d0, ob, bl, bc, d1, hO2, _⟩ := ord_at (h2.below hB) k hltl
    have o0 := last.On.cell (B := wr.heap.size) c0 (World.block_lt_of_cell? _ _ c0)
    have p0 := last.On.cell (B := wr.heap.size) d0 (World.block_lt_of_cell? _ _ d0)
    have o1 := last.On.cell (B := wr.heap.size) c1 (World.block_lt_of_cell? _ _ c1)
    have p1 := last.On.cell (B := wr.heap.size) d1 (World.block_lt_of_cell? _ _ d1)
    have hinh := last.On.inh wr.heap.size wr
    have hcall : ∀ x : last.On wr.heap.size wr, Calls Tryz.prog 69 #[.agg #[.int .i64 l[k].1, .slice oa ol oc], .agg #[.int .i64 l[k].1, .slice ob bl bc]] x.w fun e w' => e = .returned (.bool true) ∧ ∃ y : last.On wr.heap.size wr, w' = y.w := fun x => last.Calls.on x (Nat.le_refl _) (eqOrderT _ oa ob ol oc bl bc l[k].2 x.w (hO1.below x.2) (hO2.below x.2))
    clear h h2 hO1 hO2
    generalize l[k] = p at *
    go_wp2_with fail
    refine last.wp_region_on wr.heap.size (by kernel_rfl) (by kernel_rfl) ?_
    repeat (go_big_quiet_step ((go_at_call 69; exact hcall _)))
    refine wpQuiet_nil ?_
    intro w5 hw5
    obtain ⟨x5, hw5⟩ := hw5
    subst hw5
    have hB5 : Below w.heap.size w x5.w := hB.trans (x5.2.mono hB.size)
    go_wp2_with fail
    go_roundw
    case rel => exact ⟨k + 1, by omega, by go_num, hB5⟩
    case measure => simp [intOf]; omega
  · have hnk : ¬ (k : Int) < (len : Int) := by omega
    go_wp2_with fail
    go_ret
    exact ⟨rfl, hB⟩
set_option maxRecDepth 100000 in
set_option maxHeartbeats 2000000 in
theorem eqShardsT (a a2 : Option Addr) (len cap cap2 : Nat) (l : List recs.Shd) (w : World) (h : SlG shardR w a len l) (h2 : SlG shardR w a2 len l) :
 Calls Tryz.prog 30 #[.slice a len cap, .slice a2 len cap2] w fun e w' => e = .returned (.bool true) ∧ Below w.heap.size w w' := by
 have hl := h.1
 have hm := h.2.1
 unfold maxLen at hm
 have hb : ((len : Int) == (len : Int)) = true := by simp
 go_enter Tryz.func30, Tryz.ntmps30
 go_wp2_with fail
 go_loopw [5] (fun i wr => ∃ k : Nat, k ≤ len ∧ i = .int .i64 k ∧ Below w.heap.size w wr) (fun i _ => len - (intOf i).toNat)
 case atStart => exact ⟨0, Nat.zero_le _, rfl, Below.refl _ _⟩
 case round =>
  obtain ⟨k, hk, rfl, hB⟩ := hrel
  by_cases hlt : k < len
  · have hltl : k < l.length := by omega
    obtain ⟨b, off, e⟩ := cos.slg_some h (by omega)
    obtain ⟨b2, off2, e2⟩ := cos.slg_some h2 (by omega)
    subst e e2
    have hki : (k : Int) < (len : Int) := by omega
    obtain ⟨la, ln, lc, ma, mn, mc, ha, hn, hc, c0, c1, c2, c3, c4, hS1⟩ := shard_at (h.below hB) k hltl
    obtain ⟨zla, zln, zlc, zma, zmn, zmc, zha, zhn, zhc, d0, d1, d2, d3, d4, hS2⟩ := shard_at (h2.below hB) k hltl
    have o0 := last.On.cell (B := wr.heap.size) c0 (World.block_lt_of_cell? _ _ c0)
    have p0 := last.On.cell (B := wr.heap.size) d0 (World.block_lt_of_cell? _ _ d0)
    have o1 := last.On.cell (B := wr.heap.size) c1 (World.block_lt_of_cell? _ _ c1)
    have p1 := last.On.cell (B := wr.heap.size) d1 (World.block_lt_of_cell? _ _ d1)
    have o2 := last.On.cell (B := wr.heap.size) c2 (World.block_lt_of_cell? _ _ c2)
    have p2 := last.On.cell (B := wr.heap.size) d2 (World.block_lt_of_cell? _ _ d2)
    have o3 := last.On.cell (B := wr.heap.size) c3 (World.block_lt_of_cell? _ _ c3)
    have p3 := last.On.cell (B := wr.heap.size) d3 (World.block_lt_of_cell? _ _ d3)
    have o4 := last.On.cell (B := wr.heap.size) c4 (World.block_lt_of_cell? _ _ c4)
    have p4 := last.On.cell (B := wr.heap.size) d4 (World.block_lt_of_cell? _ _ d4)
    have hinh := last.On.inh wr.heap.size wr
    have hcall : ∀ x : last.On wr.heap.size wr, Calls Tryz.prog 67 #[.agg #[.int .i64 l[k].1, .slice la ln lc, .int .i64 l[k].2.2.1, .slice ma mn mc, .slice ha hn hc], .agg #[.int .i64 l[k].1, .slice zla zln zlc, .int .i64 l[k].2.2.1, .slice zma zmn zmc, .slice zha zhn zhc]] x.w fun e w' => e = .returned (.bool true) ∧ ∃ y : last.On wr.heap.size wr, w' = y.w := fun x => last.Calls.on x (Nat.le_refl _) (recs.eqShardT _ _ _ _ _ _ _ _ _ _ _ _ _ _ _ _ _ _ l[k] x.w (hS1.below x.2) (hS2.below x.2))
    clear h h2 hS1 hS2
    generalize l[k] = p at *
    go_wp2_with fail
    refine last.wp_region_on wr.heap.size (by kernel_rfl) (by kernel_rfl) ?_
    repeat (go_big_quiet_step ((go_at_call 67; exact hcall _)))
    refine wpQuiet_nil ?_
    intro w5 hw5
    obtain ⟨x5, hw5⟩ := hw5
    subst hw5
    have hB5 : Below w.heap.size w x5.w := hB.trans (x5.2.mono hB.size)
    go_wp2_with fail
    go_roundw
    case rel => exact ⟨k + 1, by omega, by go_num, hB5⟩
    case measure => simp [intOf]; omega
  · have hnk : ¬ (k : Int) < (len : Int) := by omega
    go_wp2_with fail
    go_ret
    exact ⟨rfl, hB⟩
set_option maxRecDepth 100000 in
set_option maxHeartbeats 4000000 in
theorem eqWorldT (ja : Option Addr) (jn jc : Nat) (la : Option Addr) (ln lc : Nat) (sa : Option Addr) (sn sc : Nat) (na : Option Addr) (nn nc : Nat) (oa : Option Addr) (on oc : Nat) (ba : Option Addr) (bn bc : Nat) (zja : Option Addr) (zjn zjc : Nat) (zla : Option Addr) (zln zlc : Nat) (zsa : Option Addr) (zsn zsc : Nat) (zna : Option Addr) (znn znc : Nat) (zoa : Option Addr) (zon zoc : Nat) (zba : Option Addr) (zbn zbc : Nat) (x : Wo) (w : World) (h1 : SeeWo w ja jn jc la ln lc sa sn sc na nn nc oa on oc ba bn bc x) (h2 : SeeWo w zja zjn zjc zla zln zlc zsa zsn zsc zna znn znc zoa zon zoc zba zbn zbc x) :
 Calls Tryz.prog 9 #[.agg #[.int .i64 x.1.1, .int .i64 x.1.2.1, .int .i64 x.1.2.2.1, .slice ja jn jc, .slice la ln lc, .int .i64 x.1.2.2.2.2.2, .slice sa sn sc, .slice na nn nc, .slice oa on oc, .slice ba bn bc], .agg #[.int .i64 x.1.1, .int .i64 x.1.2.1, .int .i64 x.1.2.2.1, .slice zja zjn zjc, .slice zla zln zlc, .int .i64 x.1.2.2.2.2.2, .slice zsa zsn zsc, .slice zna znn znc, .slice zoa zon zoc, .slice zba zbn zbc]] w fun e w' => e = .returned (.bool true) ∧ Below w.heap.size w w' := by
 obtain rfl : sn = zsn := h1.sh.1.symm.trans h2.sh.1
 obtain rfl : nn = znn := h1.net.1.symm.trans h2.net.1
 obtain rfl : on = zon := h1.outs.1.symm.trans h2.outs.1
 obtain rfl : bn = zbn := h1.begun.1.symm.trans h2.begun.1
 obtain ⟨W, hW⟩ : ∃ W, (w.alloc (.cells #[.int .i64 x.1.1, .int .i64 x.1.2.1, .int .i64 x.1.2.2.1, .slice ja jn jc, .slice la ln lc, .int .i64 x.1.2.2.2.2.2, .slice sa sn sc, .slice na nn nc, .slice oa on oc, .slice ba bn bc] 41)).alloc (.cells #[.int .i64 x.1.1, .int .i64 x.1.2.1, .int .i64 x.1.2.2.1, .slice zja zjn zjc, .slice zla zln zlc, .int .i64 x.1.2.2.2.2.2, .slice zsa sn zsc, .slice zna nn znc, .slice zoa on zoc, .slice zba bn zbc] 41) = W := ⟨_, rfl⟩
 have hB : Below w.heap.size w W := by rw [← hW]; exact cos.below_two _ _ _
 have hx : BoxIn w.heap.size 41 [] [.int .i64 x.1.1, .int .i64 x.1.2.1, .int .i64 x.1.2.2.1, .slice ja jn jc, .slice la ln lc, .int .i64 x.1.2.2.2.2.2, .slice sa sn sc, .slice na nn nc, .slice oa on oc, .slice ba bn bc] [] W := by rw [← hW]; exact (boxIn_new w _ _).below below_make
 have hy : BoxIn (w.heap.size + 1) 41 [] [.int .i64 x.1.1, .int .i64 x.1.2.1, .int .i64 x.1.2.2.1, .slice zja zjn zjc, .slice zla zln zlc, .int .i64 x.1.2.2.2.2.2, .slice zsa sn zsc, .slice zna nn znc, .slice zoa on zoc, .slice zba bn zbc] [] W := by
  rw [← hW]
  have := boxIn_new (w.alloc (.cells #[.int .i64 x.1.1, .int .i64 x.1.2.1, .int .i64 x.1.2.2.1, .slice ja jn jc, .slice la ln lc, .int .i64 x.1.2.2.2.2.2, .slice sa sn sc, .slice na nn nc, .slice oa on oc, .slice ba bn bc] 41)) [.int .i64 x.1.1, .int .i64 x.1.2.1, .int .i64 x.1.2.2.1, .slice zja zjn zjc, .slice zla zln zlc, .int .i64 x.1.2.2.2.2.2, .slice zsa sn zsc, .slice zna nn znc, .slice zoa on zoc, .slice zba bn zbc] 41
  rwa [show (w.alloc (.cells #[.int .i64 x.1.1, .int .i64 x.1.2.1, .int .i64 x.1.2.2.1, .slice ja jn jc, .slice la ln lc, .int .i64 x.1.2.2.2.2.2, .slice sa sn sc, .slice na nn nc, .slice oa on oc, .slice ba bn bc] 41)).heap.size = w.heap.size + 1 by simp] at this
 have H0 := Hid.mk' (fun wx (hb : Below W.heap.size W wx) => cos.eqCoordT _ _ _ _ _ _ _ _ _ _ _ _ x.1 wx ((h1.co.below hB).below hb) ((h2.co.below hB).below hb))
 have H1 := Hid.mk' (fun wx (hb : Below W.heap.size W wx) => eqShardsT sa zsa sn sc zsc x.2.1 wx ((h1.sh.below hB).below hb) ((h2.sh.below hB).below hb))
 have H2 := Hid.mk' (fun wx (hb : Below W.heap.size W wx) => cos.eqWordsT na zna nn nc znc x.2.2.1 wx ((h1.net.below hB).below hb) ((h2.net.below hB).below hb))
 have H3 := Hid.mk' (fun wx (hb : Below W.heap.size W wx) => cos.eqWordsT oa zoa on oc zoc x.2.2.2.1 wx ((h1.outs.below hB).below hb) ((h2.outs.below hB).below hb))
 have H4 := Hid.mk' (fun wx (hb : Below W.heap.size W wx) => eqOrdersT ba zba bn bc zbc x.2.2.2.2 wx ((h1.begun.below hB).below hb) ((h2.begun.below hB).below hb))
 have HW := Hid.mk' hW
 obtain ⟨x0, x1, x2, x3, x4, x5, x6, x7, x8, x9⟩ := cells10 hx
 obtain ⟨y0, y1, y2, y3, y4, y5, y6, y7, y8, y9⟩ := cells10 hy
 rw [← hW] at x0 x1 x2 x3 x4 x5 x6 x7 x8 x9 y0 y1 y2 y3 y4 y5 y6 y7 y8 y9
 clear hW h1 h2
 go_enter Tryz.func9, Tryz.ntmps9
 go_wp2_with fail
 rw [HW.out]
 refine (H0.out W (Below.refl _ _)).mono ?_
 rintro e w1 ⟨rfl, hb1⟩
 clear x0 x1 x2 x3 x4 x5 x6 x7 x8 x9 y0 y1 y2 y3 y4 y5 y6 y7 y8 y9 HW H0
 obtain ⟨x0, x1, x2, x3, x4, x5, x6, x7, x8, x9⟩ := cells10 (hx.below hb1)
 obtain ⟨y0, y1, y2, y3, y4, y5, y6, y7, y8, y9⟩ := cells10 (hy.below hb1)
 go_wp2_with fail
 refine (H1.out _ hb1).mono ?_
 rintro e w2 ⟨rfl, hn1⟩
 have hb2 := hb1.trans (hn1.mono hb1.size)
 clear x0 x1 x2 x3 x4 x5 x6 x7 x8 x9 y0 y1 y2 y3 y4 y5 y6 y7 y8 y9 H1
 obtain ⟨x0, x1, x2, x3, x4, x5, x6, x7, x8, x9⟩ := cells10 (hx.below hb2)
 obtain ⟨y0, y1, y2, y3, y4, y5, y6, y7, y8, y9⟩ := cells10 (hy.below hb2)
 go_wp2_with fail
 refine (H2.out _ hb2).mono ?_
 rintro e w3 ⟨rfl, hn2⟩
 have hb3 := hb2.trans (hn2.mono hb2.size)
 clear x0 x1 x2 x3 x4 x5 x6 x7 x8 x9 y0 y1 y2 y3 y4 y5 y6 y7 y8 y9 H2
 obtain ⟨x0, x1, x2, x3, x4, x5, x6, x7, x8, x9⟩ := cells10 (hx.below hb3)
 obtain ⟨y0, y1, y2, y3, y4, y5, y6, y7, y8, y9⟩ := cells10 (hy.below hb3)
 go_wp2_with fail
 refine (H3.out _ hb3).mono ?_
 rintro e w4 ⟨rfl, hn3⟩
 have hb4 := hb3.trans (hn3.mono hb3.size)
 clear x0 x1 x2 x3 x4 x5 x6 x7 x8 x9 y0 y1 y2 y3 y4 y5 y6 y7 y8 y9 H3
 obtain ⟨x0, x1, x2, x3, x4, x5, x6, x7, x8, x9⟩ := cells10 (hx.below hb4)
 obtain ⟨y0, y1, y2, y3, y4, y5, y6, y7, y8, y9⟩ := cells10 (hy.below hb4)
 go_wp2_with fail
 refine (H4.out _ hb4).mono ?_
 rintro e w5 ⟨rfl, hn4⟩
 have hb5 := hb4.trans (hn4.mono hb4.size)
 clear x0 x1 x2 x3 x4 x5 x6 x7 x8 x9 y0 y1 y2 y3 y4 y5 y6 y7 y8 y9 H4
 go_wp2_with fail
 go_ret
 exact ⟨rfl, hB.trans (hb5.mono hB.size)⟩
end wos
namespace wds
open Go Go.RowKit base pairs ords lay
set_option maxRecDepth 100000 in
set_option maxHeartbeats 1000000 in
theorem szWordZ (k s t : Int) (y : Bool) (a : Option Addr) (len cap : Nat) (l : List Od) (L : Nat) (w : World) (h : SlO w a len l) (hL : L ≤ 1099511627776) :
 Calls Tryz.prog 41 #[.agg #[.int .i64 k, .int .i64 s, .int .i64 t, .slice a len cap, .bool y], .int .i64 (L : Int)] w fun e w' => e = .returned (.int .i64 (pairs.szR L (l.length + sumO l))) ∧ Below w.heap.size w w' := by
 have hba : Below w.heap.size w (w.alloc (.cells #[.int .i64 k, .int .i64 s, .int .i64 t, .slice a len cap, .bool y] 88)) := (Below.refl _ _).alloc (Nat.le_refl _) _
 have HS := Hid.mk' (szOpS a len cap l L _ (h.below hba) hL)
 by_cases hc : l.length + sumO l ≤ L
 · rw [pairs.szR_pos hc] at HS ⊢
   have hn : ¬ (L : Int) - ((l.length + sumO l : Nat) : Int) < 0 := by omega
   generalize (L : Int) - ((l.length + sumO l : Nat) : Int) = S at *
   go_enter Tryz.func41, Tryz.ntmps41
   go_wp2_with fail
   refine HS.out.mono ?_
   rintro e w1 ⟨rfl, hb1⟩
   go_wp2_with fail
   go_ret
   exact ⟨rfl, hba.trans (hb1.mono hba.size)⟩
 · rw [pairs.szR_neg (by omega)] at HS ⊢
   go_enter Tryz.func41, Tryz.ntmps41
   go_wp2_with fail
   refine HS.out.mono ?_
   rintro e w1 ⟨rfl, hb1⟩
   go_wp2_with fail
   go_ret
   exact ⟨rfl, hba.trans (hb1.mono hba.size)⟩
end wds
end Go.Proofs.YtijplooogplccaaGreat
