/- The laws' marks on rows of tables. The laws' marks on tables: read back. The laws' helpers for worlds: alike. The laws' helpers for one word: its size. -/
import Derived.Test.YteammdkipnfmnaaSham
import Derived.Test.YteammdkipnfmnaaShae
import Derived.Test.YteammdkipnfmnaaShag
import Derived.Test.YteammdkipnfmnaaShal
import Derived.Test.YteammdkipnfmnaaShaj
import Derived.Test.YteammdkipnfmnaaShad
import Derived.Test.YteammdkipnfmnaaShaf
namespace Go.Proofs.Yteammdkipnfmnaa.tabs
open Go Go.RowKit Go.Proofs.Yteammdkipnfmnaa.base Go.Proofs.Yteammdkipnfmnaa.pairs Go.Proofs.Yteammdkipnfmnaa.lay
set_option linter.unusedVariables false
set_option linter.unusedSimpArgs false

def cntT (x : List Pr) : Nat := 2 * x.length
def mT (k : Nat) (x : List Pr) : List Pr := marksP k x.length
set_option maxRecDepth 100000 in
theorem nil_markPairS (K : Int) (w : World) : Calls Try.prog 30 #[.slice none 0 0, .int .i64 K] w fun e w' => e = .returned (.int .i64 K) ∧ w' = w := by
  go_enter Try.func30, Try.ntmps30
  go_wp2_with fail
  go_loopw [5, 1] (fun iv kv wr => iv = .int .i64 0 ∧ kv = .int .i64 K ∧ w = wr) (fun _ _ _ => 0)
  case atStart => exact ⟨rfl, rfl, rfl⟩
  case round =>
    obtain ⟨rfl, rfl, rfl⟩ := hrel
    go_wp2_with fail
    go_ret
    exact ⟨rfl, rfl⟩
theorem markPairs_R (v : Value) (l : List Pr) (F : List Nat) (k0 : Nat) (w : World) (h : tableR.own w [v] l F) (hk1 : 1 ≤ k0) (hk0 : k0 + 2 * l.length ≤ 1099511627776) :
    Calls Try.prog 30 #[v, .int .i64 (k0 : Nat)] w fun e w' => e = .returned (.int .i64 ((k0 + 2 * l.length : Nat) : Int)) ∧ tableR.own w' [v] (marksP k0 l.length) F ∧ lay.Frame F w w' := by
  obtain ⟨v', q, e, hF, hO⟩ := id h
  cases e
  rcases hO.shape with ⟨rfl, rfl, rfl⟩ | ⟨g, cap, rfl, h1, h2⟩
  · subst hF
    refine (nil_markPairS (k0 : Int) w).mono ?_
    rintro e w' ⟨rfl, rfl⟩
    exact ⟨rfl, own_nil _ _ _, lay.Frame.refl _ _⟩
  · obtain ⟨_, _, hF2⟩ := table_own.1 h
    subst hF2
    refine (markPairS g l.length cap k0 0 l w (table_P h) hk1 hk0).mono ?_
    rintro e w' ⟨rfl, hO', hg⟩
    exact ⟨rfl, table_ownP hO', lay.Frame.of_grown hg (fun k e => .inl (by cases e; simp [Value.ownBlock]))⟩
set_option maxRecDepth 100000 in
set_option maxHeartbeats 2000000 in
theorem markTableS (g n cap : Nat) (l : List (List Pr)) (q : Parts) (k0 : Nat) (w : World) (h : OwnG 58 tableR w (.slice (some ⟨g, 0, none⟩) n cap) l q) (hk1 : 1 ≤ k0) (hk : k0 + cntAll cntT l ≤ 1099511627776) :
    Calls Try.prog 11 #[.slice (some ⟨g, 0, none⟩) n cap, .int .i64 (k0 : Int)] w fun e w' => e = .returned (.int .i64 ((k0 + cntAll cntT l : Nat) : Int)) ∧ OwnG 58 tableR w' (.slice (some ⟨g, 0, none⟩) n cap) (markRow mT cntT k0 l) q ∧ lay.Frame (g :: blocksOf q) w w' := by
  have hnl := h.nlen
  subst hnl
  have hlm : l.length ≤ maxLen := by rcases h.shape with ⟨e, _⟩ | ⟨_, _, _, h1, h2⟩; cases e; omega
  unfold maxLen at hlm
  go_enter Try.func11, Try.ntmps11
  go_wp2_with fail
  go_loopw [5, 1] (fun iv kv wr => ∃ (i : Nat), i ≤ l.length ∧ iv = .int .i64 (i : Int) ∧ kv = .int .i64 ((k0 + cntTo cntT l i : Nat) : Int) ∧ OwnG 58 tableR wr (.slice (some ⟨g, 0, none⟩) l.length cap) (mapTo (markF mT cntT k0 l) l i) q ∧ lay.Frame (g :: blocksOf q) w wr) (fun iv _ _ => l.length - (intOf iv).toNat)
  case atStart => exact ⟨0, Nat.zero_le _, rfl, by rw [cntTo_zero]; rfl, by rw [mapTo_zero]; exact h, lay.Frame.refl _ _⟩
  case round =>
    obtain ⟨i, hi, rfl, rfl, hO, hFr⟩ := hrel
    by_cases hlt : i < l.length
    · have hii : (i : Int) < (l.length : Int) := by omega
      obtain ⟨L, hL⟩ : ∃ L, mapTo (markF mT cntT k0 l) l i = L := ⟨_, rfl⟩
      have HLL : Hid (L.length = l.length) := by show _ = _; rw [← hL, mapTo_length]
      have hLi : i < L.length := by rw [HLL.out]; exact hlt
      have HLat : Hid (L[i] = l[i]) := by show _ = _; have := mapTo_at (markF mT cntT k0 l) i hlt; simp only [hL] at this; exact this
      have HSET : Hid (L.set i (markF mT cntT k0 l i l[i]) = mapTo (markF mT cntT k0 l) l (i + 1)) := by show _ = _; rw [← hL]; exact mapTo_set _ i hlt
      rw [hL] at hO
      have HCS := Hid.mk' (cntTo_succ cntT l i hlt)
      have hcl := cntTo_le cntT l (i + 1)
      obtain ⟨K, hK⟩ : ∃ K, k0 + cntTo cntT l i = K := ⟨_, rfl⟩
      have HMF : Hid (markF mT cntT k0 l i l[i] = marksP K l[i].length) := by show _ = _; unfold markF; rw [hK]; rfl
      rw [HCS.out] at hcl
      have hcn : cntT l[i] = 2 * l[i].length := rfl
      have HKN : Hid (((K + 2 * l[i].length : Nat) : Int) = ((k0 + cntTo cntT l (i + 1) : Nat) : Int)) := by show _ = _; rw [HCS.out, ← hK, hcn]; omega
      have hKb : K + 2 * l[i].length ≤ 1099511627776 := by omega
      simp only [hK]
      have hK1 : 1 ≤ K := by omega
      clear hL hcl hK hcn
      rw [HMF.out] at HSET
      obtain ⟨us, F, hx, hc, hG, bk⟩ := hO.open i hLi
      rw [HLat.out] at hx
      obtain ⟨oa, ol, oc, rfl⟩ := table_shape hx
      have c0 := hc 0 _ rfl
      rw [show i * tableR.size + 0 = i by show i * 1 + 0 = i; omega] at c0
      have HMO := Hid.mk' (markPairs_R (.slice oa ol oc) l[i] F K wr hx hK1 hKb)
      have HBK := Hid.mk' bk
      have HGB := Hid.mk' hG
      generalize l[i] = x at *
      clear hx hc bk hG hO
      go_wp2_with fail
      refine HMO.out.mono ?_
      rintro e w5 ⟨rfl, hop5, hf5⟩
      have hO5 := HBK.out w5 (marksP K x.length) F hf5 (fun k hk => hk) hop5
      rw [HSET.out] at hO5
      have HO6 := Hid.mk' hO5
      have HFR : Hid (lay.Frame (g :: blocksOf q) w w5) := hFr.trans hf5 (fun k hk => .inl (List.mem_cons_of_mem _ (HGB.out k hk)))
      clear hO5 hop5 hf5 hFr HBK HMO c0
      go_wp2_with fail
      go_roundw
      case rel => exact ⟨i + 1, by omega, by go_num, congrArg (Value.int .i64) HKN.out, HO6.out, HFR.out⟩
      case measure => simp [intOf]; omega
    · have he : i = l.length := by omega
      subst he
      rw [mapTo_all] at hO
      rw [cntTo_all]
      go_wp2_with fail
      go_ret
      exact ⟨rfl, hO, hFr⟩
end Go.Proofs.Yteammdkipnfmnaa.tabs

namespace Go.Proofs.Yteammdkipnfmnaa.tabs
open Go Go.RowKit Go.Proofs.Yteammdkipnfmnaa.base Go.Proofs.Yteammdkipnfmnaa.pairs Go.Proofs.Yteammdkipnfmnaa.lay
set_option linter.unusedVariables false
set_option linter.unusedSimpArgs false

set_option maxRecDepth 100000 in
theorem nil_markTableS (K : Int) (w : World) : Calls Try.prog 11 #[.slice none 0 0, .int .i64 K] w fun e w' => e = .returned (.int .i64 K) ∧ w' = w := by
  go_enter Try.func11, Try.ntmps11
  go_wp2_with fail
  go_loopw [5, 1] (fun iv kv wr => iv = .int .i64 0 ∧ kv = .int .i64 K ∧ w = wr) (fun _ _ _ => 0)
  case atStart => exact ⟨rfl, rfl, rfl⟩
  case round =>
    obtain ⟨rfl, rfl, rfl⟩ := hrel
    go_wp2_with fail
    go_ret
    exact ⟨rfl, rfl⟩
theorem markTables_R (v : Value) (l : List (List Pr)) (F : List Nat) (k0 : Nat) (w : World) (h : tablesR.own w [v] l F) (hk1 : 1 ≤ k0) (hk : k0 + cntAll cntT l ≤ 1099511627776) :
    Calls Try.prog 11 #[v, .int .i64 (k0 : Nat)] w fun e w' => e = .returned (.int .i64 ((k0 + cntAll cntT l : Nat) : Int)) ∧ tablesR.own w' [v] (markRow mT cntT k0 l) F ∧ lay.Frame F w w' := by
  obtain ⟨v', q, e, rfl, hO⟩ := id h
  cases e
  rcases hO.shape with ⟨rfl, rfl, rfl⟩ | ⟨g, cap, rfl, h1, h2⟩
  · refine (nil_markTableS (k0 : Int) w).mono ?_
    rintro e w' ⟨rfl, rfl⟩
    exact ⟨rfl, own_nil _ _ _, lay.Frame.refl _ _⟩
  · refine (markTableS g l.length cap l q k0 w hO hk1 hk).mono ?_
    rintro e w' ⟨rfl, hO', hf⟩
    exact ⟨rfl, ⟨_, q, rfl, rfl, hO'⟩, hf⟩
set_option maxRecDepth 100000 in
set_option maxHeartbeats 1000000 in
theorem heldTableS (a : Option Addr) (n cap : Nat) (l : List (List Pr)) (k0 : Nat) (w : World) (h : SlG tableR w a n (markRow mT cntT k0 l)) (hk1 : 1 ≤ k0) (hk : k0 + cntAll cntT l ≤ 1099511627776) :
    Calls Try.prog 12 #[.slice a n cap, .int .i64 (k0 : Int)] w fun e w' => e = .returned (.int .i64 ((k0 + cntAll cntT l : Nat) : Int)) ∧ Below w.heap.size w w' := by
  have hnl : n = l.length := by have := h.1; rw [markRow_length] at this; omega
  subst hnl
  have hlm := h.2.1
  unfold maxLen at hlm
  go_enter Try.func12, Try.ntmps12
  go_wp2_with fail
  go_loopw [5, 1] (fun iv kv wr => ∃ i : Nat, i ≤ l.length ∧ iv = .int .i64 (i : Int) ∧ kv = .int .i64 ((k0 + cntTo cntT l i : Nat) : Int) ∧ Below w.heap.size w wr) (fun iv _ _ => l.length - (intOf iv).toNat)
  case atStart => exact ⟨0, Nat.zero_le _, rfl, by rw [cntTo_zero]; rfl, Below.refl _ _⟩
  case round =>
    obtain ⟨i, hi, rfl, rfl, hB⟩ := hrel
    by_cases hlt : i < l.length
    · have hii : (i : Int) < (l.length : Int) := by omega
      obtain ⟨b, off, e⟩ := slg_some h (by omega)
      subst e
      have hlt2 : i < (markRow mT cntT k0 l).length := by rw [markRow_length]; exact hlt
      obtain ⟨oa, ol, oc, c0, hO, _⟩ := table_at (h.below hB) i hlt2
      have hat := markRow_at mT cntT k0 l i hlt
      simp only [hat] at hO
      have HCS := Hid.mk' (cntTo_succ cntT l i hlt)
      have hcl := cntTo_le cntT l (i + 1)
      obtain ⟨K, hK⟩ : ∃ K, k0 + cntTo cntT l i = K := ⟨_, rfl⟩
      rw [HCS.out] at hcl
      have hcj : K + cntT l[i] ≤ k0 + cntAll cntT l := by omega
      have HKN : Hid (K + cntT l[i] = k0 + cntTo cntT l (i + 1)) := by show _ = _; rw [HCS.out]; omega
      simp only [hK] at hO ⊢
      have hcn : cntT l[i] = 2 * l[i].length := rfl
      have hK1 : 1 ≤ K := by omega
      clear hcl hK hat
      generalize l[i] = x at *
      have hol : ol = x.length := by have := hO.1; rw [show mT K x = marksP K x.length from rfl, marksP_length] at this; omega
      subst hol
      have hKb : K + 2 * x.length ≤ 1099511627776 := by omega
      have HO := Hid.mk' (heldPairS oa x.length oc K wr hO (by omega) (by omega))
      have HK6 : Hid (((K + 2 * x.length : Nat) : Int) = ((k0 + cntTo cntT l (i + 1) : Nat) : Int)) := by show _ = _; rw [← HKN.out, hcn]
      have r2 : ¬ ((K + 2 * x.length : Nat) : Int) < 0 := by omega
      generalize hKK : ((K + 2 * x.length : Nat) : Int) = KK at *
      clear hO hKK
      go_wp2_with fail
      refine HO.out.mono ?_
      rintro e w2 ⟨rfl, hb2⟩
      have hB2 := hB.trans (hb2.mono hB.size)
      go_wp2_with fail
      go_roundw
      case rel => exact ⟨i + 1, by omega, by go_num, congrArg (Value.int .i64) HK6.out, hB2⟩
      case measure => simp [intOf]; omega
    · have he : i = l.length := by omega
      subst he
      rw [cntTo_all]
      go_wp2_with fail
      go_ret
      exact ⟨rfl, hB⟩
end Go.Proofs.Yteammdkipnfmnaa.tabs

namespace Go.Proofs.Yteammdkipnfmnaa.wos
open Go Go.RowKit Go.Proofs.Yteammdkipnfmnaa.base Go.Proofs.Yteammdkipnfmnaa.pairs Go.Proofs.Yteammdkipnfmnaa.ords Go.Proofs.Yteammdkipnfmnaa.lay
set_option linter.unusedVariables false
set_option linter.unusedSimpArgs false

set_option maxRecDepth 100000 in
set_option maxHeartbeats 1000000 in
theorem eqOrderT (tx : Int) (oa ob : Option Addr) (ol oc bl bc : Nat) (ops : List Od) (w : World) (h1 : SlO w oa ol ops) (h2 : SlO w ob bl ops) :
    Calls Try.prog 47 #[.agg #[.int .i64 tx, .slice oa ol oc], .agg #[.int .i64 tx, .slice ob bl bc]] w fun e w' => e = .returned (.bool true) ∧ Below w.heap.size w w' := by
  obtain ⟨W, hW⟩ : ∃ W, (w.alloc (.cells #[.int .i64 tx, .slice oa ol oc] 95)).alloc (.cells #[.int .i64 tx, .slice ob bl bc] 95) = W := ⟨_, rfl⟩
  have hB : Below w.heap.size w W := by rw [← hW]; exact cos.below_two _ _ _
  have HO := Hid.mk' (eqO oa ob ol oc bl bc ops ops W (h1.below hB) (h2.below hB) rfl)
  have HW := Hid.mk' hW
  have hn : (tx == tx) = true := by simp
  clear hW h1 h2
  go_enter Try.func47, Try.ntmps47
  go_wp2_with fail
  rw [HW.out]
  refine HO.out.mono ?_
  rintro e w1 ⟨rfl, hb1⟩
  have hB1 := hB.trans (hb1.mono hB.size)
  clear HO HW
  go_wp2_with fail
  go_ret
  exact ⟨rfl, hB1⟩
set_option maxRecDepth 100000 in
set_option maxHeartbeats 2000000 in
theorem eqOrdersT (a a2 : Option Addr) (len cap cap2 : Nat) (l : List Orr) (w : World) (h : SlG ordR w a len l) (h2 : SlG ordR w a2 len l) :
    Calls Try.prog 25 #[.slice a len cap, .slice a2 len cap2] w fun e w' => e = .returned (.bool true) ∧ Below w.heap.size w w' := by
  have hl := h.1
  have hm := h.2.1
  unfold maxLen at hm
  have hb : ((len : Int) == (len : Int)) = true := by simp
  go_enter Try.func25, Try.ntmps25
  go_wp2_with fail
  go_loopw [5] (fun i wr => ∃ k : Nat, k ≤ len ∧ i = .int .i64 k ∧ Below w.heap.size w wr) (fun i _ => len - (intOf i).toNat)
  case atStart => exact ⟨0, Nat.zero_le _, rfl, Below.refl _ _⟩
  case round =>
    obtain ⟨k, hk, rfl, hB⟩ := hrel
    by_cases hlt : k < len
    · have hltl : k < l.length := by omega
      obtain ⟨b, off, e⟩ := cos.slg_some h (by omega)
      obtain ⟨b2, off2, e2⟩ := cos.slg_some h2 (by omega)
      subst e e2
      have hki : (k : Int) < (len : Int) := by omega
      obtain ⟨c0, oa, ol, oc, c1, hO1, _⟩ := ord_at (h.below hB) k hltl
      obtain ⟨d0, ob, bl, bc, d1, hO2, _⟩ := ord_at (h2.below hB) k hltl
      have o0 := last.On.cell (B := wr.heap.size) c0 (World.block_lt_of_cell? _ _ c0)
      have p0 := last.On.cell (B := wr.heap.size) d0 (World.block_lt_of_cell? _ _ d0)
      have o1 := last.On.cell (B := wr.heap.size) c1 (World.block_lt_of_cell? _ _ c1)
      have p1 := last.On.cell (B := wr.heap.size) d1 (World.block_lt_of_cell? _ _ d1)
      have hinh := last.On.inh wr.heap.size wr
      have hcall : ∀ x : last.On wr.heap.size wr, Calls Try.prog 47 #[.agg #[.int .i64 l[k].1, .slice oa ol oc], .agg #[.int .i64 l[k].1, .slice ob bl bc]] x.w fun e w' => e = .returned (.bool true) ∧ ∃ y : last.On wr.heap.size wr, w' = y.w := fun x => last.Calls.on x (Nat.le_refl _) (eqOrderT _ oa ob ol oc bl bc l[k].2 x.w (hO1.below x.2) (hO2.below x.2))
      clear h h2 hO1 hO2
      generalize l[k] = p at *
      go_wp2_with fail
      refine last.wp_region_on wr.heap.size (by kernel_rfl) (by kernel_rfl) ?_
      repeat (go_big_quiet_step ((go_at_call 47; exact hcall _)))
      refine wpQuiet_nil ?_
      intro w5 hw5
      obtain ⟨x5, hw5⟩ := hw5
      subst hw5
      have hB5 : Below w.heap.size w x5.w := hB.trans (x5.2.mono hB.size)
      go_wp2_with fail
      go_roundw
      case rel => exact ⟨k + 1, by omega, by go_num, hB5⟩
      case measure => simp [intOf]; omega
    · have hnk : ¬ (k : Int) < (len : Int) := by omega
      go_wp2_with fail
      go_ret
      exact ⟨rfl, hB⟩
set_option maxRecDepth 100000 in
set_option maxHeartbeats 2000000 in
theorem eqShardsT (a a2 : Option Addr) (len cap cap2 : Nat) (l : List recs.Shd) (w : World) (h : SlG shardR w a len l) (h2 : SlG shardR w a2 len l) :
    Calls Try.prog 23 #[.slice a len cap, .slice a2 len cap2] w fun e w' => e = .returned (.bool true) ∧ Below w.heap.size w w' := by
  have hl := h.1
  have hm := h.2.1
  unfold maxLen at hm
  have hb : ((len : Int) == (len : Int)) = true := by simp
  go_enter Try.func23, Try.ntmps23
  go_wp2_with fail
  go_loopw [5] (fun i wr => ∃ k : Nat, k ≤ len ∧ i = .int .i64 k ∧ Below w.heap.size w wr) (fun i _ => len - (intOf i).toNat)
  case atStart => exact ⟨0, Nat.zero_le _, rfl, Below.refl _ _⟩
  case round =>
    obtain ⟨k, hk, rfl, hB⟩ := hrel
    by_cases hlt : k < len
    · have hltl : k < l.length := by omega
      obtain ⟨b, off, e⟩ := cos.slg_some h (by omega)
      obtain ⟨b2, off2, e2⟩ := cos.slg_some h2 (by omega)
      subst e e2
      have hki : (k : Int) < (len : Int) := by omega
      obtain ⟨la, ln, lc, ma, mn, mc, ha, hn, hc, c0, c1, c2, c3, c4, hS1⟩ := shard_at (h.below hB) k hltl
      obtain ⟨zla, zln, zlc, zma, zmn, zmc, zha, zhn, zhc, d0, d1, d2, d3, d4, hS2⟩ := shard_at (h2.below hB) k hltl
      have o0 := last.On.cell (B := wr.heap.size) c0 (World.block_lt_of_cell? _ _ c0)
      have p0 := last.On.cell (B := wr.heap.size) d0 (World.block_lt_of_cell? _ _ d0)
      have o1 := last.On.cell (B := wr.heap.size) c1 (World.block_lt_of_cell? _ _ c1)
      have p1 := last.On.cell (B := wr.heap.size) d1 (World.block_lt_of_cell? _ _ d1)
      have o2 := last.On.cell (B := wr.heap.size) c2 (World.block_lt_of_cell? _ _ c2)
      have p2 := last.On.cell (B := wr.heap.size) d2 (World.block_lt_of_cell? _ _ d2)
      have o3 := last.On.cell (B := wr.heap.size) c3 (World.block_lt_of_cell? _ _ c3)
      have p3 := last.On.cell (B := wr.heap.size) d3 (World.block_lt_of_cell? _ _ d3)
      have o4 := last.On.cell (B := wr.heap.size) c4 (World.block_lt_of_cell? _ _ c4)
      have p4 := last.On.cell (B := wr.heap.size) d4 (World.block_lt_of_cell? _ _ d4)
      have hinh := last.On.inh wr.heap.size wr
      have hcall : ∀ x : last.On wr.heap.size wr, Calls Try.prog 45 #[.agg #[.int .i64 l[k].1, .slice la ln lc, .int .i64 l[k].2.2.1, .slice ma mn mc, .slice ha hn hc], .agg #[.int .i64 l[k].1, .slice zla zln zlc, .int .i64 l[k].2.2.1, .slice zma zmn zmc, .slice zha zhn zhc]] x.w fun e w' => e = .returned (.bool true) ∧ ∃ y : last.On wr.heap.size wr, w' = y.w := fun x => last.Calls.on x (Nat.le_refl _) (recs.eqShardT _ _ _ _ _ _ _ _ _ _ _ _ _ _ _ _ _ _ l[k] x.w (hS1.below x.2) (hS2.below x.2))
      clear h h2 hS1 hS2
      generalize l[k] = p at *
      go_wp2_with fail
      refine last.wp_region_on wr.heap.size (by kernel_rfl) (by kernel_rfl) ?_
      repeat (go_big_quiet_step ((go_at_call 45; exact hcall _)))
      refine wpQuiet_nil ?_
      intro w5 hw5
      obtain ⟨x5, hw5⟩ := hw5
      subst hw5
      have hB5 : Below w.heap.size w x5.w := hB.trans (x5.2.mono hB.size)
      go_wp2_with fail
      go_roundw
      case rel => exact ⟨k + 1, by omega, by go_num, hB5⟩
      case measure => simp [intOf]; omega
    · have hnk : ¬ (k : Int) < (len : Int) := by omega
      go_wp2_with fail
      go_ret
      exact ⟨rfl, hB⟩
set_option maxRecDepth 100000 in
set_option maxHeartbeats 4000000 in
theorem eqWorldT (ja : Option Addr) (jn jc : Nat) (la : Option Addr) (ln lc : Nat) (sa : Option Addr) (sn sc : Nat) (na : Option Addr) (nn nc : Nat) (oa : Option Addr) (on oc : Nat) (ba : Option Addr) (bn bc : Nat) (zja : Option Addr) (zjn zjc : Nat) (zla : Option Addr) (zln zlc : Nat) (zsa : Option Addr) (zsn zsc : Nat) (zna : Option Addr) (znn znc : Nat) (zoa : Option Addr) (zon zoc : Nat) (zba : Option Addr) (zbn zbc : Nat) (x : Wo) (w : World) (h1 : SeeWo w ja jn jc la ln lc sa sn sc na nn nc oa on oc ba bn bc x) (h2 : SeeWo w zja zjn zjc zla zln zlc zsa zsn zsc zna znn znc zoa zon zoc zba zbn zbc x) :
    Calls Try.prog 9 #[.agg #[.int .i64 x.1.1, .int .i64 x.1.2.1, .int .i64 x.1.2.2.1, .slice ja jn jc, .slice la ln lc, .int .i64 x.1.2.2.2.2.2, .slice sa sn sc, .slice na nn nc, .slice oa on oc, .slice ba bn bc], .agg #[.int .i64 x.1.1, .int .i64 x.1.2.1, .int .i64 x.1.2.2.1, .slice zja zjn zjc, .slice zla zln zlc, .int .i64 x.1.2.2.2.2.2, .slice zsa zsn zsc, .slice zna znn znc, .slice zoa zon zoc, .slice zba zbn zbc]] w fun e w' => e = .returned (.bool true) ∧ Below w.heap.size w w' := by
  obtain rfl : sn = zsn := h1.sh.1.symm.trans h2.sh.1
  obtain rfl : nn = znn := h1.net.1.symm.trans h2.net.1
  obtain rfl : on = zon := h1.outs.1.symm.trans h2.outs.1
  obtain rfl : bn = zbn := h1.begun.1.symm.trans h2.begun.1
  obtain ⟨W, hW⟩ : ∃ W, (w.alloc (.cells #[.int .i64 x.1.1, .int .i64 x.1.2.1, .int .i64 x.1.2.2.1, .slice ja jn jc, .slice la ln lc, .int .i64 x.1.2.2.2.2.2, .slice sa sn sc, .slice na nn nc, .slice oa on oc, .slice ba bn bc] 42)).alloc (.cells #[.int .i64 x.1.1, .int .i64 x.1.2.1, .int .i64 x.1.2.2.1, .slice zja zjn zjc, .slice zla zln zlc, .int .i64 x.1.2.2.2.2.2, .slice zsa sn zsc, .slice zna nn znc, .slice zoa on zoc, .slice zba bn zbc] 42) = W := ⟨_, rfl⟩
  have hB : Below w.heap.size w W := by rw [← hW]; exact cos.below_two _ _ _
  have hx : BoxIn w.heap.size 42 [] [.int .i64 x.1.1, .int .i64 x.1.2.1, .int .i64 x.1.2.2.1, .slice ja jn jc, .slice la ln lc, .int .i64 x.1.2.2.2.2.2, .slice sa sn sc, .slice na nn nc, .slice oa on oc, .slice ba bn bc] [] W := by rw [← hW]; exact (boxIn_new w _ _).below below_make
  have hy : BoxIn (w.heap.size + 1) 42 [] [.int .i64 x.1.1, .int .i64 x.1.2.1, .int .i64 x.1.2.2.1, .slice zja zjn zjc, .slice zla zln zlc, .int .i64 x.1.2.2.2.2.2, .slice zsa sn zsc, .slice zna nn znc, .slice zoa on zoc, .slice zba bn zbc] [] W := by
    rw [← hW]
    have := boxIn_new (w.alloc (.cells #[.int .i64 x.1.1, .int .i64 x.1.2.1, .int .i64 x.1.2.2.1, .slice ja jn jc, .slice la ln lc, .int .i64 x.1.2.2.2.2.2, .slice sa sn sc, .slice na nn nc, .slice oa on oc, .slice ba bn bc] 42)) [.int .i64 x.1.1, .int .i64 x.1.2.1, .int .i64 x.1.2.2.1, .slice zja zjn zjc, .slice zla zln zlc, .int .i64 x.1.2.2.2.2.2, .slice zsa sn zsc, .slice zna nn znc, .slice zoa on zoc, .slice zba bn zbc] 42
    rwa [show (w.alloc (.cells #[.int .i64 x.1.1, .int .i64 x.1.2.1, .int .i64 x.1.2.2.1, .slice ja jn jc, .slice la ln lc, .int .i64 x.1.2.2.2.2.2, .slice sa sn sc, .slice na nn nc, .slice oa on oc, .slice ba bn bc] 42)).heap.size = w.heap.size + 1 by simp] at this
  have H0 := Hid.mk' (fun wx (hb : Below W.heap.size W wx) => cos.eqCoordT _ _ _ _ _ _ _ _ _ _ _ _ x.1 wx ((h1.co.below hB).below hb) ((h2.co.below hB).below hb))
  have H1 := Hid.mk' (fun wx (hb : Below W.heap.size W wx) => eqShardsT sa zsa sn sc zsc x.2.1 wx ((h1.sh.below hB).below hb) ((h2.sh.below hB).below hb))
  have H2 := Hid.mk' (fun wx (hb : Below W.heap.size W wx) => cos.eqWordsT na zna nn nc znc x.2.2.1 wx ((h1.net.below hB).below hb) ((h2.net.below hB).below hb))
  have H3 := Hid.mk' (fun wx (hb : Below W.heap.size W wx) => cos.eqWordsT oa zoa on oc zoc x.2.2.2.1 wx ((h1.outs.below hB).below hb) ((h2.outs.below hB).below hb))
  have H4 := Hid.mk' (fun wx (hb : Below W.heap.size W wx) => eqOrdersT ba zba bn bc zbc x.2.2.2.2 wx ((h1.begun.below hB).below hb) ((h2.begun.below hB).below hb))
  have HW := Hid.mk' hW
  obtain ⟨x0, x1, x2, x3, x4, x5, x6, x7, x8, x9⟩ := cells10 hx
  obtain ⟨y0, y1, y2, y3, y4, y5, y6, y7, y8, y9⟩ := cells10 hy
  rw [← hW] at x0 x1 x2 x3 x4 x5 x6 x7 x8 x9 y0 y1 y2 y3 y4 y5 y6 y7 y8 y9
  clear hW h1 h2
  go_enter Try.func9, Try.ntmps9
  go_wp2_with fail
  rw [HW.out]
  refine (H0.out W (Below.refl _ _)).mono ?_
  rintro e w1 ⟨rfl, hb1⟩
  clear x0 x1 x2 x3 x4 x5 x6 x7 x8 x9 y0 y1 y2 y3 y4 y5 y6 y7 y8 y9 HW H0
  obtain ⟨x0, x1, x2, x3, x4, x5, x6, x7, x8, x9⟩ := cells10 (hx.below hb1)
  obtain ⟨y0, y1, y2, y3, y4, y5, y6, y7, y8, y9⟩ := cells10 (hy.below hb1)
  go_wp2_with fail
  refine (H1.out _ hb1).mono ?_
  rintro e w2 ⟨rfl, hn1⟩
  have hb2 := hb1.trans (hn1.mono hb1.size)
  clear x0 x1 x2 x3 x4 x5 x6 x7 x8 x9 y0 y1 y2 y3 y4 y5 y6 y7 y8 y9 H1
  obtain ⟨x0, x1, x2, x3, x4, x5, x6, x7, x8, x9⟩ := cells10 (hx.below hb2)
  obtain ⟨y0, y1, y2, y3, y4, y5, y6, y7, y8, y9⟩ := cells10 (hy.below hb2)
  go_wp2_with fail
  refine (H2.out _ hb2).mono ?_
  rintro e w3 ⟨rfl, hn2⟩
  have hb3 := hb2.trans (hn2.mono hb2.size)
  clear x0 x1 x2 x3 x4 x5 x6 x7 x8 x9 y0 y1 y2 y3 y4 y5 y6 y7 y8 y9 H2
  obtain ⟨x0, x1, x2, x3, x4, x5, x6, x7, x8, x9⟩ := cells10 (hx.below hb3)
  obtain ⟨y0, y1, y2, y3, y4, y5, y6, y7, y8, y9⟩ := cells10 (hy.below hb3)
  go_wp2_with fail
  refine (H3.out _ hb3).mono ?_
  rintro e w4 ⟨rfl, hn3⟩
  have hb4 := hb3.trans (hn3.mono hb3.size)
  clear x0 x1 x2 x3 x4 x5 x6 x7 x8 x9 y0 y1 y2 y3 y4 y5 y6 y7 y8 y9 H3
  obtain ⟨x0, x1, x2, x3, x4, x5, x6, x7, x8, x9⟩ := cells10 (hx.below hb4)
  obtain ⟨y0, y1, y2, y3, y4, y5, y6, y7, y8, y9⟩ := cells10 (hy.below hb4)
  go_wp2_with fail
  refine (H4.out _ hb4).mono ?_
  rintro e w5 ⟨rfl, hn4⟩
  have hb5 := hb4.trans (hn4.mono hb4.size)
  clear x0 x1 x2 x3 x4 x5 x6 x7 x8 x9 y0 y1 y2 y3 y4 y5 y6 y7 y8 y9 H4
  go_wp2_with fail
  go_ret
  exact ⟨rfl, hB.trans (hb5.mono hB.size)⟩
end Go.Proofs.Yteammdkipnfmnaa.wos

namespace Go.Proofs.Yteammdkipnfmnaa.wds
open Go Go.RowKit Go.Proofs.Yteammdkipnfmnaa.base Go.Proofs.Yteammdkipnfmnaa.pairs Go.Proofs.Yteammdkipnfmnaa.ords Go.Proofs.Yteammdkipnfmnaa.lay
set_option linter.unusedVariables false
set_option linter.unusedSimpArgs false

set_option maxRecDepth 100000 in
set_option maxHeartbeats 1000000 in
theorem szWordZ (k s t : Int) (y : Bool) (a : Option Addr) (len cap : Nat) (l : List Od) (L : Nat) (w : World) (h : SlO w a len l) (hL : L ≤ 1099511627776) :
    Calls Try.prog 35 #[.agg #[.int .i64 k, .int .i64 s, .int .i64 t, .slice a len cap, .bool y], .int .i64 (L : Int)] w fun e w' => e = .returned (.int .i64 (pairs.szR L (l.length + sumO l))) ∧ Below w.heap.size w w' := by
  have hba : Below w.heap.size w (w.alloc (.cells #[.int .i64 k, .int .i64 s, .int .i64 t, .slice a len cap, .bool y] 83)) := (Below.refl _ _).alloc (Nat.le_refl _) _
  have HS := Hid.mk' (szOpS a len cap l L _ (h.below hba) hL)
  by_cases hc : l.length + sumO l ≤ L
  · rw [pairs.szR_pos hc] at HS ⊢
    have hn : ¬ (L : Int) - ((l.length + sumO l : Nat) : Int) < 0 := by omega
    generalize (L : Int) - ((l.length + sumO l : Nat) : Int) = S at *
    go_enter Try.func35, Try.ntmps35
    go_wp2_with fail
    refine HS.out.mono ?_
    rintro e w1 ⟨rfl, hb1⟩
    go_wp2_with fail
    go_ret
    exact ⟨rfl, hba.trans (hb1.mono hba.size)⟩
  · rw [pairs.szR_neg (by omega)] at HS ⊢
    go_enter Try.func35, Try.ntmps35
    go_wp2_with fail
    refine HS.out.mono ?_
    rintro e w1 ⟨rfl, hb1⟩
    go_wp2_with fail
    go_ret
    exact ⟨rfl, hba.trans (hb1.mono hba.size)⟩
end Go.Proofs.Yteammdkipnfmnaa.wds
