/- The laws' marks on rows of shards, rows of orders and worlds: what is marked lies in their own blocks. Arguments: what came in is read as a value of its type. No function of the program is named here. Tables: how they lie in memory, and the laws' helpers for them. -/
import Derived.Test.YteammdkipnfmnaaShag
import Derived.Test.YteammdkipnfmnaaShaj
import Derived.Test.YteammdkipnfmnaaShal
import Derived.Test.YteammdkipnfmnaaShai
import Derived.Test.YteammdkipnfmnaaShae
import Derived.ChangeArms
import Derived.Deep.Slices
import Derived.WideShapes
import Derived.Deep.SlicePairs
import Derived.Test.YteammdkipnfmnaaShaa
import Derived.Test.YteammdkipnfmnaaShac
import Derived.Test.YteammdkipnfmnaaShab
namespace Go.Proofs.Yteammdkipnfmnaa.wos
open Go Go.RowKit Go.Proofs.Yteammdkipnfmnaa.base Go.Proofs.Yteammdkipnfmnaa.pairs Go.Proofs.Yteammdkipnfmnaa.ords Go.Proofs.Yteammdkipnfmnaa.recs Go.Proofs.Yteammdkipnfmnaa.lay
set_option linter.unusedVariables false
set_option linter.unusedSimpArgs false

section
variable {w w' : World} {g n cap : Nat} {L : List recs.Shd} {q : Parts} {s : recs.Shd}
theorem get_of {α : Type} {L : List α} {i : Nat} {s : α} (hx : L[i]? = some s) : ∃ h : i < L.length, L[i] = s := List.getElem?_eq_some_iff.1 hx
theorem shs_num (h : OwnG 56 shardR w (.slice (some ⟨g, 0, none⟩) n cap) L q) (i : Nat) (hx : L[i]? = some s) (k : Int) (hk : (Lit.int .i64 k).wf = true) :
    w.cell? ⟨g, i * 5, none⟩ = some (.int .i64 s.1) ∧ w.frozen? ⟨g, i * 5, none⟩ = false ∧ ∃ q', OwnG 56 shardR (w.setCell ⟨g, i * 5, none⟩ (.int .i64 k)) (.slice (some ⟨g, 0, none⟩) n cap) (L.set i (k, s.2)) q' ∧ blocksOf q' = blocksOf q ∧ w.grownBy (w.setCell ⟨g, i * 5, none⟩ (.int .i64 k)) (some g) := by
  obtain ⟨hi, rfl⟩ := get_of hx
  obtain ⟨us, F, hx1, hc, _, _⟩ := h.open i hi
  obtain ⟨la, ln, lc, ma, mn, mc, ha, hn, hc2, rfl, hS⟩ := shard_own.1 hx1
  refine ⟨hc 0 _ rfl, h.fz _, ?_⟩
  exact h.cell1 i hi 0 (by decide) (.int .i64 k) (k, L[i].2) (fun vs F hv => by
    obtain ⟨la, ln, lc, ma, mn, mc, ha, hn, hc2, rfl, hS⟩ := shard_own.1 hv
    exact shard_own.2 ⟨la, ln, lc, ma, mn, mc, ha, hn, hc2, rfl, hk, hS.sure, hS.log, hS.map, hS.nodup⟩)
theorem shs_sure (h : OwnG 56 shardR w (.slice (some ⟨g, 0, none⟩) n cap) L q) (i : Nat) (hx : L[i]? = some s) (k : Int) (hk : (Lit.int .i64 k).wf = true) :
    w.cell? ⟨g, i * 5 + 2, none⟩ = some (.int .i64 s.2.2.1) ∧ w.frozen? ⟨g, i * 5 + 2, none⟩ = false ∧ ∃ q', OwnG 56 shardR (w.setCell ⟨g, i * 5 + 2, none⟩ (.int .i64 k)) (.slice (some ⟨g, 0, none⟩) n cap) (L.set i (s.1, s.2.1, k, s.2.2.2)) q' ∧ blocksOf q' = blocksOf q ∧ w.grownBy (w.setCell ⟨g, i * 5 + 2, none⟩ (.int .i64 k)) (some g) := by
  obtain ⟨hi, rfl⟩ := get_of hx
  obtain ⟨us, F, hx1, hc, _, _⟩ := h.open i hi
  obtain ⟨la, ln, lc, ma, mn, mc, ha, hn, hc2, rfl, hS⟩ := shard_own.1 hx1
  refine ⟨hc 2 _ rfl, h.fz _, ?_⟩
  exact h.cell1 i hi 2 (by decide) (.int .i64 k) (L[i].1, L[i].2.1, k, L[i].2.2.2) (fun vs F hv => by
    obtain ⟨la, ln, lc, ma, mn, mc, ha, hn, hc2, rfl, hS⟩ := shard_own.1 hv
    exact shard_own.2 ⟨la, ln, lc, ma, mn, mc, ha, hn, hc2, rfl, hS.id, hk, hS.log, hS.map, hS.nodup⟩)
theorem frame_in {F : List Nat} (hG : ∀ k ∈ F, k ∈ blocksOf q) (hf : lay.Frame F w w') : lay.Frame (g :: blocksOf q) w w' := hf.mono (fun k hk => List.mem_cons_of_mem _ (hG k hk))
theorem shs_log (h : OwnG 56 shardR w (.slice (some ⟨g, 0, none⟩) n cap) L q) (i : Nat) (hx : L[i]? = some s) :
    ∃ la ln lc hl, w.cell? ⟨g, i * 5 + 1, none⟩ = some (.slice la ln lc) ∧ OwnR w 0 (.slice la ln lc) s.2.1 hl ∧ ∀ w' l', OwnR w' 0 (.slice la ln lc) l' hl → KeepR (.slice la ln lc) hl w w' → OwnG 56 shardR w' (.slice (some ⟨g, 0, none⟩) n cap) (L.set i (s.1, l', s.2.2)) q ∧ lay.Frame (g :: blocksOf q) w w' := by
  obtain ⟨hi, rfl⟩ := get_of hx
  obtain ⟨us, F, hx1, hc, hG, bk⟩ := h.open i hi
  obtain ⟨la, ln, lc, ma, mn, mc, ha, hn, hc2, rfl, hS⟩ := shard_own.1 hx1
  obtain ⟨hl, hh, hOL, hOH, hFe, d1, d2⟩ := blkS_split hS
  refine ⟨la, ln, lc, hl, hc 1 _ rfl, hOL, fun w' l' hO' hk => ?_⟩
  have hLF : ∀ k, BlkR (.slice la ln lc) hl k → k ∈ F := fun k hk => by rw [hFe]; exact List.mem_append.2 (.inl (mem_blkR.2 hk))
  have hf := frame_keepR hk hLF
  refine ⟨bk w' _ F hf (fun k hk => hk) (shard_own.2 ⟨la, ln, lc, ma, mn, mc, ha, hn, hc2, rfl, hS.id, hS.sure, ⟨hl, hO', hh, hOH.of_blocks (fun k hb => hk.block k (hOH.lt k hb).2 (fun e => (d1 k e).2 hb)), hFe⟩, hS.map.of_block (fun k hb => hk.block k (hS.map.lt k hb) (fun e => (d1 k e).1 hb)), hS.nodup⟩), frame_in hG hf⟩
theorem shs_map (h : OwnG 56 shardR w (.slice (some ⟨g, 0, none⟩) n cap) L q) (i : Nat) (hx : L[i]? = some s) :
    ∃ ma mn mc, w.cell? ⟨g, i * 5 + 3, none⟩ = some (.slice ma mn mc) ∧ OwnPV w ma mn mc s.2.2.2.1 ∧ ∀ w' l', OwnPV w' ma mn mc l' → w.grownBy w' (Value.slice ma mn mc).ownBlock → OwnG 56 shardR w' (.slice (some ⟨g, 0, none⟩) n cap) (L.set i (s.1, s.2.1, s.2.2.1, l', s.2.2.2.2)) q ∧ lay.Frame (g :: blocksOf q) w w' := by
  obtain ⟨hi, rfl⟩ := get_of hx
  obtain ⟨us, F, hx1, hc, hG, bk⟩ := h.open i hi
  obtain ⟨la, ln, lc, ma, mn, mc, ha, hn, hc2, rfl, hS⟩ := shard_own.1 hx1
  obtain ⟨hl, hh, hOL, hOH, hFe, d1, d2⟩ := blkS_split hS
  refine ⟨ma, mn, mc, hc 3 _ rfl, hS.map, fun w' l' hO' hg => ?_⟩
  have hMF : ∀ k, (Value.slice ma mn mc).ownBlock = some k → k ∈ F := fun k hk => by rw [hFe]; exact List.mem_append.2 (.inr (List.mem_append.2 (.inl (by simp [hk]))))
  have hf : lay.Frame F w w' := lay.Frame.of_grown hg (fun k e => .inl (hMF k e))
  refine ⟨bk w' _ F hf (fun k hk => hk) (shard_own.2 ⟨la, ln, lc, ma, mn, mc, ha, hn, hc2, rfl, hS.id, hS.sure, ⟨hl, hOL.of_blocks (fun k hb => hg.block k (hOL.lt k hb).2 (fun e => (d1 k hb).1 e.symm)), hh, hOH.of_blocks (fun k hb => hg.block k (hOH.lt k hb).2 (fun e => d2 k e.symm hb)), hFe⟩, hO', hS.nodup⟩), frame_in hG hf⟩
theorem shs_held (h : OwnG 56 shardR w (.slice (some ⟨g, 0, none⟩) n cap) L q) (i : Nat) (hx : L[i]? = some s) :
    ∃ ha hn hc hh, w.cell? ⟨g, i * 5 + 4, none⟩ = some (.slice ha hn hc) ∧ OwnR w 0 (.slice ha hn hc) s.2.2.2.2 hh ∧ ∀ w' l', OwnR w' 0 (.slice ha hn hc) l' hh → KeepR (.slice ha hn hc) hh w w' → OwnG 56 shardR w' (.slice (some ⟨g, 0, none⟩) n cap) (L.set i (s.1, s.2.1, s.2.2.1, s.2.2.2.1, l')) q ∧ lay.Frame (g :: blocksOf q) w w' := by
  obtain ⟨hi, rfl⟩ := get_of hx
  obtain ⟨us, F, hx1, hc, hG, bk⟩ := h.open i hi
  obtain ⟨la, ln, lc, ma, mn, mc, ha, hn, hc2, rfl, hS⟩ := shard_own.1 hx1
  obtain ⟨hl, hh, hOL, hOH, hFe, d1, d2⟩ := blkS_split hS
  refine ⟨ha, hn, hc2, hh, hc 4 _ rfl, hOH, fun w' l' hO' hk => ?_⟩
  have hHF : ∀ k, BlkR (.slice ha hn hc2) hh k → k ∈ F := fun k hk => by rw [hFe]; exact List.mem_append.2 (.inr (List.mem_append.2 (.inr (mem_blkR.2 hk))))
  have hf := frame_keepR hk hHF
  refine ⟨bk w' _ F hf (fun k hk => hk) (shard_own.2 ⟨la, ln, lc, ma, mn, mc, ha, hn, hc2, rfl, hS.id, hS.sure, ⟨hl, hOL.of_blocks (fun k hb => hk.block k (hOL.lt k hb).2 (fun e => (d1 k hb).2 e)), hh, hO', hFe⟩, hS.map.of_block (fun k hb => hk.block k (hS.map.lt k hb) (fun e => d2 k hb e)), hS.nodup⟩), frame_in hG hf⟩
end
def cntSh (s : recs.Shd) : Nat := 2 + cntR s.2.1 + 2 * s.2.2.2.1.length + cntR s.2.2.2.2
def cntOr (x : Orr) : Nat := 1 + 3 * x.2.length
set_option maxRecDepth 100000 in
set_option maxHeartbeats 4000000 in
theorem markShardS (g n cap : Nat) (l : List recs.Shd) (q : Parts) (k0 : Nat) (w : World) (h : OwnG 56 shardR w (.slice (some ⟨g, 0, none⟩) n cap) l q) (hk1 : 1 ≤ k0) (hk : k0 + cntAll cntSh l ≤ 1099511627776) (hfit : ∀ s ∈ l, s.2.1.length ≤ 1099511627776 ∧ s.2.2.2.2.length ≤ 1099511627776) :
    Calls Try.prog 27 #[.slice (some ⟨g, 0, none⟩) n cap, .int .i64 (k0 : Int)] w fun e w' => e = .returned (.int .i64 ((k0 + cntAll cntSh l : Nat) : Int)) ∧ lay.Frame (g :: blocksOf q) w w' := by
  have hnl := h.nlen
  subst hnl
  have hlm : l.length ≤ maxLen := by rcases h.shape with ⟨e, _⟩ | ⟨_, _, _, h1, h2⟩; cases e; omega
  unfold maxLen at hlm
  have HFIT := Hid.mk' hfit
  clear hfit
  go_enter Try.func27, Try.ntmps27
  go_wp2_with fail
  go_loopw [5, 1] (fun iv kv wr => ∃ (i : Nat) (L : List recs.Shd) (q' : Parts), i ≤ l.length ∧ iv = .int .i64 (i : Int) ∧ kv = .int .i64 ((k0 + cntTo cntSh l i : Nat) : Int) ∧ OwnG 56 shardR wr (.slice (some ⟨g, 0, none⟩) l.length cap) L q' ∧ blocksOf q' = blocksOf q ∧ (∀ j, i ≤ j → L[j]? = l[j]?) ∧ lay.Frame (g :: blocksOf q) w wr) (fun iv _ _ => l.length - (intOf iv).toNat)
  case atStart => exact ⟨0, l, q, Nat.zero_le _, rfl, by rw [cntTo_zero]; rfl, h, rfl, fun j _ => rfl, lay.Frame.refl _ _⟩
  case round =>
    obtain ⟨i, L, q', hi, rfl, rfl, hO, hq, hsame, hFr⟩ := hrel
    by_cases hlt : i < l.length
    · have hii : (i : Int) < (l.length : Int) := by omega
      have HCS := Hid.mk' (cntTo_succ cntSh l i hlt)
      have hcl := cntTo_le cntSh l (i + 1)
      rw [HCS.out] at hcl
      obtain ⟨tot, htot⟩ : ∃ t, cntAll cntSh l = t := ⟨_, rfl⟩
      rw [htot] at hcl hk
      obtain ⟨K, hK⟩ : ∃ K, k0 + cntTo cntSh l i = K := ⟨_, rfl⟩
      have HKN : Hid (K + cntSh l[i] = k0 + cntTo cntSh l (i + 1)) := by show _ = _; rw [HCS.out]; omega
      have hcj : K + cntSh l[i] ≤ 1099511627776 := by omega
      simp only [hK]
      have hK1 : 1 ≤ K := by omega
      have hx0 : L[i]? = some l[i] := by rw [hsame i (Nat.le_refl _), List.getElem?_eq_getElem hlt]
      have hft := HFIT.out l[i] (List.getElem_mem hlt)
      clear hK hcl htot
      obtain ⟨hiL, _⟩ := get_of hx0
      have HSAME := Hid.mk' hsame
      generalize l[i] = x at *
      obtain ⟨id, log, sure, map, held⟩ := x
      simp only [] at hft
      have hcn : cntSh (id, log, sure, map, held) = 2 + cntR log + 2 * map.length + cntR held := rfl
      -- the number
      obtain ⟨c0, f0, q1, hO1, hq1, hg1⟩ := shs_num hO i hx0 (K : Int) (WalkArith.wf_i64 (by omega))
      have hx1 : (L.set i ((K : Int), log, sure, map, held))[i]? = some ((K : Int), log, sure, map, held) := List.getElem?_set_self hiL
      have hFr1 := hFr.grown hg1 (fun k e => by cases e; exact .inl (by simp))
      simp only [] at hO1
      obtain ⟨la, ln, lc, hl, d1, hOL, bk1⟩ := shs_log hO1 i hx1
      simp only [] at hOL bk1
      have HKI : Hid (((K : Nat) : Int) + 1 = ((K + 1 : Nat) : Int)) := by show _ = _; omega
      have HM1 := Hid.mk' (markRecS (.slice la ln lc) 0 (K + 1) log hl _ hOL (Nat.zero_le _) (by omega) (by omega) hft.1 ((K + 1 : Nat) : Int) (by show _ = _; rfl))
      have HB1 := Hid.mk' bk1
      have HL1 : Hid ((L.set i ((K : Int), log, sure, map, held)).length = L.length) := by show _ = _; simp
      clear hO hO1 hOL bk1 hg1 hsame
      go_wp2_with fail
      rw [HKI.out]
      refine HM1.out.mono ?_
      rintro e w2 ⟨rfl, hL2, hk2⟩
      obtain ⟨hO2, hf2⟩ := HB1.out w2 _ hL2 hk2
      rw [List.set_set] at hO2
      rw [hq1, hq] at hf2
      have hFr2 := hFr1.trans hf2 (fun k hk => .inl hk)
      have hx2 : (L.set i ((K : Int), markR (K + 1) log, sure, map, held))[i]? = some ((K : Int), markR (K + 1) log, sure, map, held) := List.getElem?_set_self hiL
      clear HB1 HM1 hL2 hk2 c0 f0 d1
      -- how many are sure
      obtain ⟨c2, f2, q3, hO3, hq3, hg3⟩ := shs_sure hO2 i hx2 ((K + 1 + cntR log : Nat) : Int) (WalkArith.wf_i64 (by omega))
      simp only [] at hO3
      rw [List.set_set] at hO3
      have hx3 : (L.set i ((K : Int), markR (K + 1) log, ((K + 1 + cntR log : Nat) : Int), map, held))[i]? = some ((K : Int), markR (K + 1) log, ((K + 1 + cntR log : Nat) : Int), map, held) := List.getElem?_set_self hiL
      have hFr3 := hFr2.grown hg3 (fun k e => by cases e; exact .inl (by simp))
      obtain ⟨ma, mn, mc, d3, hOM, bk3⟩ := shs_map hO3 i hx3
      simp only [] at hOM bk3
      have hmn := hOM.1
      subst hmn
      have HM3 := Hid.mk' (markPairV ma map.length mc (K + 2 + cntR log) map _ hOM (by omega) (by omega))
      have HB3 := Hid.mk' bk3
      have HKI3 : Hid (((K + 1 + cntR log : Nat) : Int) + 1 = ((K + 2 + cntR log : Nat) : Int)) := by show _ = _; omega
      have hKKb : ((K + 1 + cntR log : Nat) : Int) ≤ 1099511627776 ∧ 0 ≤ ((K + 1 + cntR log : Nat) : Int) := by omega
      clear hO2 hO3 hOM bk3 hg3
      generalize ((K + 1 + cntR log : Nat) : Int) = KK at *
      go_wp2_with fail
      rw [HKI3.out]
      refine HM3.out.mono ?_
      rintro e w4 ⟨rfl, hM4, hg4⟩
      obtain ⟨hO4, hf4⟩ := HB3.out w4 _ hM4 hg4
      rw [List.set_set] at hO4
      rw [hq3, hq1, hq] at hf4
      have hFr4 := hFr3.trans hf4 (fun k hk => .inl hk)
      have hx4 : (L.set i ((K : Int), markR (K + 1) log, KK, marksP (K + 2 + cntR log) map.length, held))[i]? = some ((K : Int), markR (K + 1) log, KK, marksP (K + 2 + cntR log) map.length, held) := List.getElem?_set_self hiL
      clear HB3 HM3 hM4 hg4 c2 f2 d3
      obtain ⟨ha, hn, hc, hh, d4, hOH, bk4⟩ := shs_held hO4 i hx4
      simp only [] at hOH bk4
      have HM4 := Hid.mk' (markRecS (.slice ha hn hc) 0 (K + 2 + cntR log + 2 * map.length) held hh w4 hOH (Nat.zero_le _) (by omega) (by omega) hft.2 ((K + 2 + cntR log + 2 * map.length : Nat) : Int) (by show _ = _; rfl))
      have HB4 := Hid.mk' bk4
      clear hO4 hOH bk4
      go_wp2_with fail
      refine HM4.out.mono ?_
      rintro e w5 ⟨rfl, hH5, hk5⟩
      obtain ⟨hO5, hf5⟩ := HB4.out w5 _ hH5 hk5
      rw [List.set_set] at hO5
      rw [hq3, hq1, hq] at hf5
      have hFr5 := hFr4.trans hf5 (fun k hk => .inl hk)
      have HO5 := Hid.mk' hO5
      have HQ5 : Hid (blocksOf q3 = blocksOf q) := hq3.trans (hq1.trans hq)
      have HS5 : Hid (∀ (y : recs.Shd) j, i + 1 ≤ j → (L.set i y)[j]? = l[j]?) := fun y j hj => by
        rw [List.getElem?_set_ne (by omega)]; exact HSAME.out j (by omega)
      have HK5 : Hid (K + 2 + cntR log + 2 * map.length + cntR held = k0 + cntTo cntSh l (i + 1)) := by show _ = _; rw [← HKN.out, hcn]; omega
      clear hO5 hH5 hk5 HB4 HM4 d4
      go_wp2_with fail
      go_roundw
      case rel => exact ⟨i + 1, _, q3, by omega, by go_num, congrArg (Value.int .i64) (by have := HK5.out; omega), HO5.out, HQ5.out, HS5.out _, hFr5⟩
      case measure => simp [intOf]; omega
    · have he : i = l.length := by omega
      subst he
      rw [cntTo_all]
      go_wp2_with fail
      go_ret
      exact ⟨rfl, hFr⟩
theorem cells10t {X : Nat} {T : TypeId} {w : World} {v0 v1 v2 v3 v4 v5 v6 v7 v8 v9 : Value} (h : BoxIn X T [] [v0, v1, v2, v3, v4, v5, v6, v7, v8, v9] [] w) : w.cell? ⟨X, 0, none⟩ = some v0 ∧ w.cell? ⟨X, 1, none⟩ = some v1 ∧ w.cell? ⟨X, 2, none⟩ = some v2 ∧ w.cell? ⟨X, 3, none⟩ = some v3 ∧ w.cell? ⟨X, 4, none⟩ = some v4 ∧ w.cell? ⟨X, 5, none⟩ = some v5 ∧ w.cell? ⟨X, 6, none⟩ = some v6 ∧ w.cell? ⟨X, 7, none⟩ = some v7 ∧ w.cell? ⟨X, 8, none⟩ = some v8 ∧ w.cell? ⟨X, 9, none⟩ = some v9 := by
  have a := fun j u hj => h.cell j u hj
  simp only [List.length_nil, Nat.zero_add] at a
  exact ⟨a 0 _ rfl, a 1 _ rfl, a 2 _ rfl, a 3 _ rfl, a 4 _ rfl, a 5 _ rfl, a 6 _ rfl, a 7 _ rfl, a 8 _ rfl, a 9 _ rfl⟩
section
variable {w w' : World} {g n cap : Nat} {L : List Orr} {q : Parts} {s : Orr}
theorem ors_num (h : OwnG 95 ordR w (.slice (some ⟨g, 0, none⟩) n cap) L q) (i : Nat) (hx : L[i]? = some s) (k : Int) (hk : (Lit.int .i64 k).wf = true) :
    w.cell? ⟨g, i * 2, none⟩ = some (.int .i64 s.1) ∧ w.frozen? ⟨g, i * 2, none⟩ = false ∧ ∃ q', OwnG 95 ordR (w.setCell ⟨g, i * 2, none⟩ (.int .i64 k)) (.slice (some ⟨g, 0, none⟩) n cap) (L.set i (k, s.2)) q' ∧ blocksOf q' = blocksOf q ∧ w.grownBy (w.setCell ⟨g, i * 2, none⟩ (.int .i64 k)) (some g) := by
  obtain ⟨hi, rfl⟩ := get_of hx
  obtain ⟨us, F, hx1, hc, _, _⟩ := h.open i hi
  obtain ⟨v, rfl, _, _⟩ := ord_own.1 hx1
  refine ⟨hc 0 _ rfl, h.fz _, ?_⟩
  exact h.cell1 i hi 0 (by decide) (.int .i64 k) (k, L[i].2) (fun vs F hv => by
    obtain ⟨v, rfl, _, h2⟩ := ord_own.1 hv
    exact ord_own.2 ⟨v, rfl, hk, h2⟩)
theorem ors_ops (h : OwnG 95 ordR w (.slice (some ⟨g, 0, none⟩) n cap) L q) (i : Nat) (hx : L[i]? = some s) :
    ∃ oa ol oc F, w.cell? ⟨g, i * 2 + 1, none⟩ = some (.slice oa ol oc) ∧ cos.opsR.own w [.slice oa ol oc] s.2 F ∧ ∀ w' l', cos.opsR.own w' [.slice oa ol oc] l' F → lay.Frame F w w' → OwnG 95 ordR w' (.slice (some ⟨g, 0, none⟩) n cap) (L.set i (s.1, l')) q ∧ lay.Frame (g :: blocksOf q) w w' := by
  obtain ⟨hi, rfl⟩ := get_of hx
  obtain ⟨us, F, hx1, hc, hG, bk⟩ := h.open i hi
  obtain ⟨v, rfl, k1, h2⟩ := ord_own.1 hx1
  obtain ⟨oa, ol, oc, rfl⟩ := slice_shape h2
  exact ⟨oa, ol, oc, F, hc 1 _ rfl, h2, fun w' l' hO hf => ⟨bk w' _ F hf (fun k hk => hk) (ord_own.2 ⟨_, rfl, k1, hO⟩), hf.mono (fun k hk => List.mem_cons_of_mem _ (hG k hk))⟩⟩
end
set_option maxRecDepth 100000 in
set_option maxHeartbeats 4000000 in
theorem markOrderS (g n cap : Nat) (l : List Orr) (q : Parts) (k0 : Nat) (w : World) (h : OwnG 95 ordR w (.slice (some ⟨g, 0, none⟩) n cap) l q) (hk1 : 1 ≤ k0) (hk : k0 + cntAll cntOr l ≤ 1099511627776) :
    Calls Try.prog 29 #[.slice (some ⟨g, 0, none⟩) n cap, .int .i64 (k0 : Int)] w fun e w' => e = .returned (.int .i64 ((k0 + cntAll cntOr l : Nat) : Int)) ∧ lay.Frame (g :: blocksOf q) w w' := by
  have hnl := h.nlen
  subst hnl
  have hlm : l.length ≤ maxLen := by rcases h.shape with ⟨e, _⟩ | ⟨_, _, _, h1, h2⟩; cases e; omega
  unfold maxLen at hlm
  go_enter Try.func29, Try.ntmps29
  go_wp2_with fail
  go_loopw [5, 1] (fun iv kv wr => ∃ (i : Nat) (L : List Orr) (q' : Parts), i ≤ l.length ∧ iv = .int .i64 (i : Int) ∧ kv = .int .i64 ((k0 + cntTo cntOr l i : Nat) : Int) ∧ OwnG 95 ordR wr (.slice (some ⟨g, 0, none⟩) l.length cap) L q' ∧ blocksOf q' = blocksOf q ∧ (∀ j, i ≤ j → L[j]? = l[j]?) ∧ lay.Frame (g :: blocksOf q) w wr) (fun iv _ _ => l.length - (intOf iv).toNat)
  case atStart => exact ⟨0, l, q, Nat.zero_le _, rfl, by rw [cntTo_zero]; rfl, h, rfl, fun j _ => rfl, lay.Frame.refl _ _⟩
  case round =>
    obtain ⟨i, L, q', hi, rfl, rfl, hO, hq, hsame, hFr⟩ := hrel
    by_cases hlt : i < l.length
    · have hii : (i : Int) < (l.length : Int) := by omega
      have HCS := Hid.mk' (cntTo_succ cntOr l i hlt)
      have hcl := cntTo_le cntOr l (i + 1)
      rw [HCS.out] at hcl
      obtain ⟨tot, htot⟩ : ∃ t, cntAll cntOr l = t := ⟨_, rfl⟩
      rw [htot] at hcl hk
      obtain ⟨K, hK⟩ : ∃ K, k0 + cntTo cntOr l i = K := ⟨_, rfl⟩
      have HKN : Hid (K + cntOr l[i] = k0 + cntTo cntOr l (i + 1)) := by show _ = _; rw [HCS.out]; omega
      have hcj : K + cntOr l[i] ≤ 1099511627776 := by omega
      simp only [hK]
      have hK1 : 1 ≤ K := by omega
      have hx0 : L[i]? = some l[i] := by rw [hsame i (Nat.le_refl _), List.getElem?_eq_getElem hlt]
      clear hK hcl htot
      obtain ⟨hiL, _⟩ := get_of hx0
      have HSAME := Hid.mk' hsame
      generalize l[i] = x at *
      obtain ⟨tx, ops⟩ := x
      have hcn : cntOr (tx, ops) = 1 + 3 * ops.length := rfl
      obtain ⟨c0, f0, q1, hO1, hq1, hg1⟩ := ors_num hO i hx0 (K : Int) (WalkArith.wf_i64 (by omega))
      have hx1 : (L.set i ((K : Int), ops))[i]? = some ((K : Int), ops) := List.getElem?_set_self hiL
      have hFr1 := hFr.grown hg1 (fun k e => by cases e; exact .inl (by simp))
      simp only [] at hO1
      obtain ⟨oa, ol, oc, F, d1, hop, bk1⟩ := ors_ops hO1 i hx1
      simp only [] at hop bk1
      have HKI : Hid (((K : Nat) : Int) + 1 = ((K + 1 : Nat) : Int)) := by show _ = _; omega
      have HM1 := Hid.mk' (cos.markOps_R oa ol oc ops F (K + 1) _ hop (by omega) (by omega))
      have HB1 := Hid.mk' bk1
      clear hO hO1 hop bk1 hg1 hsame
      go_wp2_with fail
      rw [HKI.out]
      refine HM1.out.mono ?_
      rintro e w2 ⟨rfl, hL2, hk2⟩
      obtain ⟨hO2, hf2⟩ := HB1.out w2 _ hL2 hk2
      rw [List.set_set] at hO2
      rw [hq1, hq] at hf2
      have hFr2 := hFr1.trans hf2 (fun k hk => .inl hk)
      have HO2 := Hid.mk' hO2
      have HQ2 : Hid (blocksOf q1 = blocksOf q) := hq1.trans hq
      have HS2 : Hid (∀ (y : Orr) j, i + 1 ≤ j → (L.set i y)[j]? = l[j]?) := fun y j hj => by
        rw [List.getElem?_set_ne (by omega)]; exact HSAME.out j (by omega)
      have HK2 : Hid (K + 1 + 3 * ops.length = k0 + cntTo cntOr l (i + 1)) := by show _ = _; rw [← HKN.out, hcn]; omega
      clear hO2 hL2 hk2 HB1 HM1 c0 f0 d1
      go_wp2_with fail
      go_roundw
      case rel => exact ⟨i + 1, _, q1, by omega, by go_num, congrArg (Value.int .i64) (by have := HK2.out; omega), HO2.out, HQ2.out, HS2.out _, hFr2⟩
      case measure => simp [intOf]; omega
    · have he : i = l.length := by omega
      subst he
      rw [cntTo_all]
      go_wp2_with fail
      go_ret
      exact ⟨rfl, hFr⟩
set_option maxRecDepth 100000 in
theorem nilT_markShardS (K : Int) (w : World) : Calls Try.prog 27 #[.slice none 0 0, .int .i64 K] w fun e w' => e = .returned (.int .i64 K) ∧ w' = w := by
  go_enter Try.func27, Try.ntmps27
  go_wp2_with fail
  go_loopw [5, 1] (fun iv kv wr => iv = .int .i64 0 ∧ kv = .int .i64 K ∧ w = wr) (fun _ _ _ => 0)
  case atStart => exact ⟨rfl, rfl, rfl⟩
  case round =>
    obtain ⟨rfl, rfl, rfl⟩ := hrel
    go_wp2_with fail
    go_ret
    exact ⟨rfl, rfl⟩
set_option maxRecDepth 100000 in
theorem nilT_markWordS (K : Int) (w : World) : Calls Try.prog 28 #[.slice none 0 0, .int .i64 K] w fun e w' => e = .returned (.int .i64 K) ∧ w' = w := by
  go_enter Try.func28, Try.ntmps28
  go_wp2_with fail
  go_loopw [5, 1] (fun iv kv wr => iv = .int .i64 0 ∧ kv = .int .i64 K ∧ w = wr) (fun _ _ _ => 0)
  case atStart => exact ⟨rfl, rfl, rfl⟩
  case round =>
    obtain ⟨rfl, rfl, rfl⟩ := hrel
    go_wp2_with fail
    go_ret
    exact ⟨rfl, rfl⟩
set_option maxRecDepth 100000 in
theorem nilT_markOrderS (K : Int) (w : World) : Calls Try.prog 29 #[.slice none 0 0, .int .i64 K] w fun e w' => e = .returned (.int .i64 K) ∧ w' = w := by
  go_enter Try.func29, Try.ntmps29
  go_wp2_with fail
  go_loopw [5, 1] (fun iv kv wr => iv = .int .i64 0 ∧ kv = .int .i64 K ∧ w = wr) (fun _ _ _ => 0)
  case atStart => exact ⟨rfl, rfl, rfl⟩
  case round =>
    obtain ⟨rfl, rfl, rfl⟩ := hrel
    go_wp2_with fail
    go_ret
    exact ⟨rfl, rfl⟩
theorem markShardS_R (v : Value) (l : List recs.Shd) (F : List Nat) (k0 : Nat) (w : World) (h : shsR.own w [v] l F) (hk1 : 1 ≤ k0) (hk : k0 + cntAll cntSh l ≤ 1099511627776) (hfit : ∀ s ∈ l, s.2.1.length ≤ 1099511627776 ∧ s.2.2.2.2.length ≤ 1099511627776) :
    Calls Try.prog 27 #[v, .int .i64 (k0 : Int)] w fun e w' => e = .returned (.int .i64 ((k0 + cntAll cntSh l : Nat) : Int)) ∧ lay.Frame F w w' := by
  obtain ⟨v', q, e, rfl, hO⟩ := id h
  cases e
  rcases hO.shape with ⟨rfl, rfl, rfl⟩ | ⟨g, cap, rfl, h1, h2⟩
  · refine (nilT_markShardS (k0 : Int) w).mono ?_
    rintro e w' ⟨rfl, rfl⟩
    exact ⟨rfl, lay.Frame.refl _ _⟩
  · refine (markShardS g l.length cap l q k0 w hO hk1 hk hfit).mono ?_
    rintro e w' ⟨rfl, hf⟩
    exact ⟨rfl, hf⟩
theorem markWordS_R (v : Value) (l : List wds.Wd) (F : List Nat) (k0 : Nat) (w : World) (h : cos.wordsR.own w [v] l F) (hk1 : 1 ≤ k0) (hk : k0 + cntAll cos.cntW l ≤ 1099511627776) :
    Calls Try.prog 28 #[v, .int .i64 (k0 : Int)] w fun e w' => e = .returned (.int .i64 ((k0 + cntAll cos.cntW l : Nat) : Int)) ∧ lay.Frame F w w' := by
  obtain ⟨v', q, e, rfl, hO⟩ := id h
  cases e
  rcases hO.shape with ⟨rfl, rfl, rfl⟩ | ⟨g, cap, rfl, h1, h2⟩
  · refine (nilT_markWordS (k0 : Int) w).mono ?_
    rintro e w' ⟨rfl, rfl⟩
    exact ⟨rfl, lay.Frame.refl _ _⟩
  · refine (cos.markWordS g l.length cap l q k0 w hO hk1 hk).mono ?_
    rintro e w' ⟨rfl, _, _, _, hf⟩
    exact ⟨rfl, hf⟩
theorem markOrderS_R (v : Value) (l : List Orr) (F : List Nat) (k0 : Nat) (w : World) (h : ordsR.own w [v] l F) (hk1 : 1 ≤ k0) (hk : k0 + cntAll cntOr l ≤ 1099511627776) :
    Calls Try.prog 29 #[v, .int .i64 (k0 : Int)] w fun e w' => e = .returned (.int .i64 ((k0 + cntAll cntOr l : Nat) : Int)) ∧ lay.Frame F w w' := by
  obtain ⟨v', q, e, rfl, hO⟩ := id h
  cases e
  rcases hO.shape with ⟨rfl, rfl, rfl⟩ | ⟨g, cap, rfl, h1, h2⟩
  · refine (nilT_markOrderS (k0 : Int) w).mono ?_
    rintro e w' ⟨rfl, rfl⟩
    exact ⟨rfl, lay.Frame.refl _ _⟩
  · refine (markOrderS g l.length cap l q k0 w hO hk1 hk).mono ?_
    rintro e w' ⟨rfl, hf⟩
    exact ⟨rfl, hf⟩
def cntWo (x : Wo) : Nat := cos.cntC x.1 + cntAll cntSh x.2.1 + cntAll cos.cntW x.2.2.1 + cntAll cos.cntW x.2.2.2.1 + cntAll cntOr x.2.2.2.2
set_option maxRecDepth 100000 in
set_option maxHeartbeats 4000000 in
theorem markWorld (ja : Option Addr) (jn jc : Nat) (la : Option Addr) (ln lc : Nat) (sa : Option Addr) (sn sc : Nat) (na : Option Addr) (nn nc : Nat) (oa : Option Addr) (on oc : Nat) (ba : Option Addr) (bn bc : Nat) (x : Wo) (F : List Nat) (k0 : Nat) (w : World) (h : worldR.own w [.int .i64 x.1.1, .int .i64 x.1.2.1, .int .i64 x.1.2.2.1, .slice ja jn jc, .slice la ln lc, .int .i64 x.1.2.2.2.2.2, .slice sa sn sc, .slice na nn nc, .slice oa on oc, .slice ba bn bc] x F) (hk1 : 1 ≤ k0) (hk : k0 + cntWo x ≤ 1099511627776) (hfit : ∀ s ∈ x.2.1, s.2.1.length ≤ 1099511627776 ∧ s.2.2.2.2.length ≤ 1099511627776) :
    Calls Try.prog 10 #[.agg #[.int .i64 x.1.1, .int .i64 x.1.2.1, .int .i64 x.1.2.2.1, .slice ja jn jc, .slice la ln lc, .int .i64 x.1.2.2.2.2.2, .slice sa sn sc, .slice na nn nc, .slice oa on oc, .slice ba bn bc], .int .i64 (k0 : Int)] w fun e w' => e = .returned (.int .i64 ((k0 + cntWo x : Nat) : Int)) ∧ lay.Frame F w w' := by
  obtain ⟨us, v1, v2, v3, v4, F0, F1, F2, F3, F4, e, rfl, h0, h1, h2, h3, h4, hnd⟩ := world_own.1 h
  obtain ⟨ja', jn', jc', la', ln', lc', eu, _⟩ := cos.coord_see.1 (cos.coordR.ownSee h0)
  subst eu
  simp only [cos.coVals, List.cons_append, List.nil_append, List.cons.injEq, Value.slice.injEq, and_true, true_and] at e
  obtain ⟨⟨rfl, rfl, rfl⟩, ⟨rfl, rfl, rfl⟩, rfl, rfl, rfl, rfl⟩ := e
  obtain ⟨_, nd1, x0⟩ := nodup_parts hnd
  obtain ⟨_, nd2, x1⟩ := nodup_parts nd1
  obtain ⟨_, nd3, x2⟩ := nodup_parts nd2
  obtain ⟨_, _, x3⟩ := nodup_parts nd3
  have m1 : ∀ k, k ∈ F1 → k ∉ F0 := fun k hk h => x0 k h (List.mem_append.2 (.inl hk))
  have m2 : ∀ k, k ∈ F2 → k ∉ F0 ∧ k ∉ F1 := fun k hk => ⟨fun h => x0 k h (List.mem_append.2 (.inr (List.mem_append.2 (.inl hk)))), fun h => x1 k h (List.mem_append.2 (.inl hk))⟩
  have m3 : ∀ k, k ∈ F3 → k ∉ F0 ∧ k ∉ F1 ∧ k ∉ F2 := fun k hk => ⟨fun h => x0 k h (List.mem_append.2 (.inr (List.mem_append.2 (.inr (List.mem_append.2 (.inl hk)))))), fun h => x1 k h (List.mem_append.2 (.inr (List.mem_append.2 (.inl hk)))), fun h => x2 k h (List.mem_append.2 (.inl hk))⟩
  have m4 : ∀ k, k ∈ F4 → k ∉ F0 ∧ k ∉ F1 ∧ k ∉ F2 ∧ k ∉ F3 := fun k hk => ⟨fun h => x0 k h (List.mem_append.2 (.inr (List.mem_append.2 (.inr (List.mem_append.2 (.inr hk)))))), fun h => x1 k h (List.mem_append.2 (.inr (List.mem_append.2 (.inr hk)))), fun h => x2 k h (List.mem_append.2 (.inr hk)), fun h => x3 k h hk⟩
  have i0 : ∀ k ∈ F0, k ∈ F0 ++ (F1 ++ (F2 ++ (F3 ++ F4))) := fun k h => List.mem_append.2 (.inl h)
  have i1 : ∀ k ∈ F1, k ∈ F0 ++ (F1 ++ (F2 ++ (F3 ++ F4))) := fun k h => List.mem_append.2 (.inr (List.mem_append.2 (.inl h)))
  have i2 : ∀ k ∈ F2, k ∈ F0 ++ (F1 ++ (F2 ++ (F3 ++ F4))) := fun k h => List.mem_append.2 (.inr (List.mem_append.2 (.inr (List.mem_append.2 (.inl h)))))
  have i3 : ∀ k ∈ F3, k ∈ F0 ++ (F1 ++ (F2 ++ (F3 ++ F4))) := fun k h => List.mem_append.2 (.inr (List.mem_append.2 (.inr (List.mem_append.2 (.inr (List.mem_append.2 (.inl h)))))))
  have i4 : ∀ k ∈ F4, k ∈ F0 ++ (F1 ++ (F2 ++ (F3 ++ F4))) := fun k h => List.mem_append.2 (.inr (List.mem_append.2 (.inr (List.mem_append.2 (.inr (List.mem_append.2 (.inr h)))))))
  have hFl := worldR.ownLt h
  generalize F0 ++ (F1 ++ (F2 ++ (F3 ++ F4))) = FF at *
  obtain ⟨W, hW⟩ : ∃ W, w.alloc (.cells #[.int .i64 x.1.1, .int .i64 x.1.2.1, .int .i64 x.1.2.2.1, .slice ja jn jc, .slice la ln lc, .int .i64 x.1.2.2.2.2.2, .slice sa sn sc, .slice na nn nc, .slice oa on oc, .slice ba bn bc] 42) = W := ⟨_, rfl⟩
  have hB : Below w.heap.size w W := by rw [← hW]; exact below_make
  have hbx : BoxIn w.heap.size 42 [] [.int .i64 x.1.1, .int .i64 x.1.2.1, .int .i64 x.1.2.2.1, .slice ja jn jc, .slice la ln lc, .int .i64 x.1.2.2.2.2.2, .slice sa sn sc, .slice na nn nc, .slice oa on oc, .slice ba bn bc] [] W := by rw [← hW]; exact boxIn_new w _ _
  have hXF : w.heap.size ∉ FF := fun hk => by have := hFl _ hk; omega
  have hcw : cntWo x = cos.cntC x.1 + cntAll cntSh x.2.1 + cntAll cos.cntW x.2.2.1 + cntAll cos.cntW x.2.2.2.1 + cntAll cntOr x.2.2.2.2 := rfl
  have HC := Hid.mk' hcw
  rw [hcw] at hk
  have HM0 := Hid.mk' (cos.markCoord ja jn jc la ln lc x.1 F0 k0 W (cos.coordR.ownBelow h0 hB) hk1 (by omega))
  have h1' := shsR.ownBelow h1 hB
  have h2' := cos.wordsR.ownBelow h2 hB
  have h3' := cos.wordsR.ownBelow h3 hB
  have h4' := ordsR.ownBelow h4 hB
  have hF0 : lay.Frame FF w W := lay.Frame.of_below hB
  have HW := Hid.mk' hW
  obtain ⟨y0, y1, y2, y3, y4, y5, y6, y7, y8, y9⟩ := cells10t hbx
  rw [← hW] at y0 y1 y2 y3 y4 y5 y6 y7 y8 y9
  obtain ⟨n0, hn0⟩ : ∃ n, cos.cntC x.1 = n := ⟨_, rfl⟩
  obtain ⟨n1, hn1⟩ : ∃ n, cntAll cntSh x.2.1 = n := ⟨_, rfl⟩
  obtain ⟨n2, hn2⟩ : ∃ n, cntAll cos.cntW x.2.2.1 = n := ⟨_, rfl⟩
  obtain ⟨n3, hn3⟩ : ∃ n, cntAll cos.cntW x.2.2.2.1 = n := ⟨_, rfl⟩
  obtain ⟨n4, hn4⟩ : ∃ n, cntAll cntOr x.2.2.2.2 = n := ⟨_, rfl⟩
  rw [hn0] at HM0
  rw [hn0, hn1, hn2, hn3, hn4] at hk HC
  have H1 := Hid.mk' (fun wx (hx : shsR.own wx [.slice sa sn sc] x.2.1 F1) => markShardS_R (.slice sa sn sc) x.2.1 F1 (k0 + n0) wx hx (by omega) (by rw [hn1]; omega) hfit)
  have H2 := Hid.mk' (fun wx (hx : cos.wordsR.own wx [.slice na nn nc] x.2.2.1 F2) => markWordS_R (.slice na nn nc) x.2.2.1 F2 (k0 + n0 + n1) wx hx (by omega) (by rw [hn2]; omega))
  have H3 := Hid.mk' (fun wx (hx : cos.wordsR.own wx [.slice oa on oc] x.2.2.2.1 F3) => markWordS_R (.slice oa on oc) x.2.2.2.1 F3 (k0 + n0 + n1 + n2) wx hx (by omega) (by rw [hn3]; omega))
  have H4 := Hid.mk' (fun wx (hx : ordsR.own wx [.slice ba bn bc] x.2.2.2.2 F4) => markOrderS_R (.slice ba bn bc) x.2.2.2.2 F4 (k0 + n0 + n1 + n2 + n3) wx hx (by omega) (by rw [hn4]; omega))
  rw [hn1] at H1
  rw [hn2] at H2
  rw [hn3] at H3
  rw [hn4] at H4
  have HE : Hid (((k0 + cntWo x : Nat) : Int) = ((k0 + n0 + n1 + n2 + n3 + n4 : Nat) : Int)) := by show _ = _; rw [HC.out]; omega
  clear hW h h0 h1 h2 h3 h4 hcw hn0 hn1 hn2 hn3 hn4 hk hfit
  go_enter Try.func10, Try.ntmps10
  go_wp2_with fail
  rw [HW.out]
  refine HM0.out.mono ?_
  rintro e w1 ⟨rfl, _, hf1⟩
  have hbx1 := hbx.frame hf1 (fun hk => hXF (i0 _ hk))
  have a1 := shsR.ownFrame h1' hf1 m1
  have a2 := cos.wordsR.ownFrame h2' hf1 (fun k hk => (m2 k hk).1)
  have a3 := cos.wordsR.ownFrame h3' hf1 (fun k hk => (m3 k hk).1)
  have a4 := ordsR.ownFrame h4' hf1 (fun k hk => (m4 k hk).1)
  have hF1 := hF0.trans (hf1.mono i0) (fun k hk => .inl hk)
  clear y0 y1 y2 y3 y4 y5 y6 y7 y8 y9 HM0 HW h1' h2' h3' h4' hf1
  obtain ⟨y0, y1, y2, y3, y4, y5, y6, y7, y8, y9⟩ := cells10t hbx1
  go_wp2_with fail
  refine (H1.out w1 a1).mono ?_
  rintro e w2 ⟨rfl, hf2⟩
  have hbx2 := hbx1.frame hf2 (fun hk => hXF (i1 _ hk))
  have b2 := cos.wordsR.ownFrame a2 hf2 (fun k hk => (m2 k hk).2)
  have b3 := cos.wordsR.ownFrame a3 hf2 (fun k hk => (m3 k hk).2.1)
  have b4 := ordsR.ownFrame a4 hf2 (fun k hk => (m4 k hk).2.1)
  have hF2 := hF1.trans (hf2.mono i1) (fun k hk => .inl hk)
  clear y0 y1 y2 y3 y4 y5 y6 y7 y8 y9 a1 a2 a3 a4 hf2 H1 hbx hbx1
  obtain ⟨y0, y1, y2, y3, y4, y5, y6, y7, y8, y9⟩ := cells10t hbx2
  go_wp2_with fail
  refine (H2.out w2 b2).mono ?_
  rintro e w3 ⟨rfl, hf3⟩
  have hbx3 := hbx2.frame hf3 (fun hk => hXF (i2 _ hk))
  have d3 := cos.wordsR.ownFrame b3 hf3 (fun k hk => (m3 k hk).2.2)
  have d4 := ordsR.ownFrame b4 hf3 (fun k hk => (m4 k hk).2.2.1)
  have hF3 := hF2.trans (hf3.mono i2) (fun k hk => .inl hk)
  clear y0 y1 y2 y3 y4 y5 y6 y7 y8 y9 b2 b3 b4 hf3 H2 hbx2
  obtain ⟨y0, y1, y2, y3, y4, y5, y6, y7, y8, y9⟩ := cells10t hbx3
  go_wp2_with fail
  refine (H3.out w3 d3).mono ?_
  rintro e w4 ⟨rfl, hf4⟩
  have hbx4 := hbx3.frame hf4 (fun hk => hXF (i3 _ hk))
  have e4 := ordsR.ownFrame d4 hf4 (fun k hk => (m4 k hk).2.2.2)
  have hF4 := hF3.trans (hf4.mono i3) (fun k hk => .inl hk)
  clear y0 y1 y2 y3 y4 y5 y6 y7 y8 y9 d3 d4 hf4 H3 hbx3
  obtain ⟨y0, y1, y2, y3, y4, y5, y6, y7, y8, y9⟩ := cells10t hbx4
  go_wp2_with fail
  refine (H4.out w4 e4).mono ?_
  rintro e w5 ⟨rfl, hf5⟩
  have hF5 := hF4.trans (hf5.mono i4) (fun k hk => .inl hk)
  clear y0 y1 y2 y3 y4 y5 y6 y7 y8 y9 e4 hf5 H4 hbx4
  go_wp2_with fail
  go_ret
  exact ⟨by rw [HE.out]; rfl, hF5⟩
end Go.Proofs.Yteammdkipnfmnaa.wos

namespace Go.Proofs.Yteammdkipnfmnaa.lay
open Go Go.RowKit Go.Proofs.Yteammdkipnfmnaa.base
set_option linter.unusedVariables false
set_option linter.unusedSimpArgs false

def Reads {α : Type} (P : Program) (t : TypeId) (R : Rd α) : Prop :=
  ∀ (H : Type) (enc : TypeId × Value → H) (W : World) (fuel : Nat) (vs : List Value) (x : DataW H × List MemPlace), vs.length = R.size → DataW.trod enc P W 0 (fun _ => true) true fuel t vs = some x → ∃ y, R.see W vs y
section
variable {α : Type} {P : Program} {t e : TypeId} {R : Rd α}
theorem reads_int (ht : P.underlying t = some (.int .i64)) : Reads P t int := fun H enc W fuel vs x hl h => by
  obtain ⟨n, rfl, _, hw⟩ := DataW.trod_int ht h
  exact ⟨n, rfl, hw⟩
theorem reads_bool (ht : P.underlying t = some .bool) : Reads P t bool := fun H enc W fuel vs x hl h => by
  obtain ⟨b, rfl, _⟩ := DataW.trod_bool ht h
  exact ⟨b, rfl⟩
theorem reads_str (ht : P.underlying t = some .string) : Reads P t str := fun H enc W fuel vs x hl h => by
  obtain ⟨s, rfl, _, hs⟩ := DataW.trod_string ht h
  exact ⟨s, rfl, hs⟩
theorem reads_slice [Inhabited α] (ty : TypeId) (ht : P.underlying t = some (.slice e)) (hc : P.cellsOf e = R.size) (h0 : 0 < R.size) (hR : Reads P e R) : Reads P t (lay.slice ty R) := fun H enc W fuel vs x hl h => by
  rcases Deep.open_slice ht h with ⟨rfl, _⟩ | ⟨ad, len, cap, m, n, D, Pl, rfl, hb, hlc, hm, hmm, _, hx⟩
  · exact ⟨[], none, 0, 0, rfl, Nat.le_refl _, rfl, Nat.zero_le _, fun x hx => absurd hx List.not_mem_nil, fun h => absurd h (by omega)⟩
  · simp at hmm
    have each : ∀ i, i < len → ∃ y : α, ∃ us, R.see W us y ∧ ∀ j u, us[j]? = some u → W.cell? (ad.add (i * R.size + j)) = some u := by
      intro i hi
      obtain ⟨cs', h1, h2⟩ := hx i (by omega)
      rw [hc] at h1
      obtain ⟨_, hlen, hcell⟩ := World.cells?_some h1
      obtain ⟨y, hy⟩ := hR H enc W n cs' _ hlen h2
      refine ⟨y, cs', hy, fun j u hj => ?_⟩
      have hjl := (List.getElem?_eq_some_iff.1 hj).1
      have := hcell j (by omega)
      rw [Deep.add_add] at this
      rw [this]; exact hj
    obtain ⟨q, hq⟩ := Deep.choose_lt each
    refine ⟨(List.range len).map q, some ad, len, cap, rfl, hlc, by simp, by omega, fun x hx => ?_, fun hl0 => ?_⟩
    · obtain ⟨i, hi, rfl⟩ := List.mem_map.1 hx
      obtain ⟨us, h1, _⟩ := hq i (List.mem_range.1 hi)
      exact ⟨us, h1⟩
    · obtain ⟨b, off, spot⟩ := ad
      obtain ⟨us0, hs0, hc0⟩ := hq 0 hl0
      have hl0 := R.seeLen hs0
      obtain ⟨u0, hu0⟩ : ∃ u, us0[0]? = some u := ⟨us0[0]'(by omega), List.getElem?_eq_getElem (by omega)⟩
      have hspot : spot = none := by simpa [Addr.add] using World.cell?_spot (hc0 0 u0 hu0)
      subst hspot
      refine ⟨b, off, rfl, fun i hi => ?_⟩
      have hi' : i < len := by simpa using hi
      obtain ⟨us, h1, h2⟩ := hq i hi'
      simp only [List.getElem_map, List.getElem_range]
      refine ⟨us, h1, fun j u hj => ?_⟩
      have := h2 j u hj
      rw [Addr.add_lit, ← Nat.add_assoc] at this
      exact this
theorem arg_struct {H : Type} {enc : TypeId × Value → H} {W : World} {r : Reach} {base fuel : Nat} {v : Value} {fs : Array Field} {x : DataW H × List MemPlace} (ht : P.underlying t = some (.struct fs)) (hc : P.cellsOf t = R.size) (hR : Reads P t R) (hok : Value.okWide P W r base t v) (h : DataW.trod enc P W 0 (fun _ => true) true fuel t v.cells.toList = some x) : ∃ cs y, v = .agg cs.toArray ∧ R.see W cs y := by
  obtain ⟨cs, rfl, hsz⟩ := WideShapes.okWide_struct ht hok
  obtain ⟨l⟩ := cs
  rw [hc] at hsz
  obtain ⟨y, hy⟩ := hR H enc W fuel l x hsz h
  exact ⟨l, y, rfl, hy⟩
end
end Go.Proofs.Yteammdkipnfmnaa.lay

namespace Go.Proofs.Yteammdkipnfmnaa.tabs
open Go Go.RowKit Go.Proofs.Yteammdkipnfmnaa.base Go.Proofs.Yteammdkipnfmnaa.pairs Go.Proofs.Yteammdkipnfmnaa.lay
set_option linter.unusedVariables false
set_option linter.unusedSimpArgs false

def tablesR : Rd (List (List Pr)) := slice 58 tableR
set_option maxRecDepth 100000 in
set_option maxHeartbeats 1000000 in
theorem eqTableT (oa ob : Option Addr) (ol oc bl bc : Nat) (l : List Pr) (w : World) (h1 : SlP w oa ol l) (h2 : SlP w ob bl l) :
    Calls Try.prog 21 #[.agg #[.slice oa ol oc], .agg #[.slice ob bl bc]] w fun e w' => e = .returned (.bool true) ∧ Below w.heap.size w w' := by
  obtain ⟨W, hW⟩ : ∃ W, (w.alloc (.cells #[.slice oa ol oc] 58)).alloc (.cells #[.slice ob bl bc] 58) = W := ⟨_, rfl⟩
  have hB : Below w.heap.size w W := by rw [← hW]; exact ((Below.refl _ _).alloc (Nat.le_refl _) _).alloc (by simp) _
  have hT := eqPairS oa ob ol oc bl bc l l W (h1.below hB) (h2.below hB)
  rw [decide_eq_true rfl] at hT
  have HO := Hid.mk' hT
  have HW := Hid.mk' hW
  clear hW h1 h2 hT
  go_enter Try.func21, Try.ntmps21
  go_wp2_with fail
  rw [HW.out]
  refine HO.out.mono ?_
  rintro e w1 ⟨rfl, hb⟩
  have hB1 := hB.trans (hb.mono hB.size)
  clear HO HW
  go_wp2_with fail
  go_ret
  exact ⟨rfl, hB1⟩
set_option maxRecDepth 100000 in
set_option maxHeartbeats 2000000 in
theorem eqTablesT (a a2 : Option Addr) (len cap cap2 : Nat) (l : List (List Pr)) (w : World) (h : SlG tableR w a len l) (h2 : SlG tableR w a2 len l) :
    Calls Try.prog 8 #[.slice a len cap, .slice a2 len cap2] w fun e w' => e = .returned (.bool true) ∧ Below w.heap.size w w' := by
  have hl := h.1
  have hm := h.2.1
  unfold maxLen at hm
  have hb : ((len : Int) == (len : Int)) = true := by simp
  go_enter Try.func8, Try.ntmps8
  go_wp2_with fail
  go_loopw [5] (fun i wr => ∃ k : Nat, k ≤ len ∧ i = .int .i64 k ∧ Below w.heap.size w wr) (fun i _ => len - (intOf i).toNat)
  case atStart => exact ⟨0, Nat.zero_le _, rfl, Below.refl _ _⟩
  case round =>
    obtain ⟨k, hk, rfl, hB⟩ := hrel
    by_cases hlt : k < len
    · have hltl : k < l.length := by omega
      obtain ⟨b, off, e⟩ := slg_some h (by omega)
      obtain ⟨b2, off2, e2⟩ := slg_some h2 (by omega)
      subst e e2
      have hki : (k : Int) < (len : Int) := by omega
      obtain ⟨ra, rn, rc, c0, hS1, _⟩ := table_at (h.below hB) k hltl
      obtain ⟨zra, zrn, zrc, d0, hS2, _⟩ := table_at (h2.below hB) k hltl
      have o0 := last.On.cell (B := wr.heap.size) c0 (World.block_lt_of_cell? _ _ c0)
      have p0 := last.On.cell (B := wr.heap.size) d0 (World.block_lt_of_cell? _ _ d0)
      have hinh := last.On.inh wr.heap.size wr
      have hcall : ∀ x : last.On wr.heap.size wr, Calls Try.prog 21 #[.agg #[.slice ra rn rc], .agg #[.slice zra zrn zrc]] x.w fun e w' => e = .returned (.bool true) ∧ ∃ y : last.On wr.heap.size wr, w' = y.w := fun x => last.Calls.on x (Nat.le_refl _) (eqTableT ra zra rn rc zrn zrc l[k] x.w (hS1.below x.2) (hS2.below x.2))
      clear h h2 hS1 hS2
      generalize l[k] = p at *
      go_wp2_with fail
      refine last.wp_region_on wr.heap.size (by kernel_rfl) (by kernel_rfl) ?_
      repeat (go_big_quiet_step ((go_at_call 21; exact hcall _)))
      refine wpQuiet_nil ?_
      intro w5 hw5
      obtain ⟨x5, hw5⟩ := hw5
      subst hw5
      have hB5 : Below w.heap.size w x5.w := hB.trans (x5.2.mono hB.size)
      go_wp2_with fail
      go_roundw
      case rel => exact ⟨k + 1, by omega, by go_num, hB5⟩
      case measure => simp [intOf]; omega
    · have hnk : ¬ (k : Int) < (len : Int) := by omega
      go_wp2_with fail
      go_ret
      exact ⟨rfl, hB⟩
end Go.Proofs.Yteammdkipnfmnaa.tabs
