/- The program's pairs between two ends. The program's deleting of keys: a map counts the keys, and the key is deleted from it. The program's orders: what is met, at which shard, what is done. The program's check of a bundle. The program's stretch of a proof. Plain mathematics of sides: which half a place is in, from the leaf up. Rows of truths that a call makes. The program's halves and sides. -/
import Derived.Test.YteammdkipnfmnaaGreatDoorShax
import Derived.Maps.OwnSet
import Derived.Maps.OwnOps
import Derived.Maps.Views
import Derived.Test.YteammdkipnfmnaaGreatDoorShaw
import Derived.Test.YteammdkipnfmnaaGreatDoorShal
import Derived.Laws.EntriesVeiled
import Derived.Test.YteammdkipnfmnaaGreatDoorShag
import Derived.Test.YteammdkipnfmnaaGreatDoorShac
import Derived.Test.YteammdkipnfmnaaGreatDoorShaa
import Derived.Deep.RegionHeldLaw
import Derived.Test.YteammdkipnfmnaaGreatDoorShab
import Derived.Deep.RegionHeld3
namespace Go.Proofs.YteammdkipnfmnaaGreatDoor.pairs
open Go Go.RowKit Go.Proofs.YteammdkipnfmnaaGreatDoor.base
set_option linter.unusedVariables false
set_option linter.unusedSimpArgs false

theorem empty_iff (hi : ByteArray) : hi.size = 0 ↔ hi = ⟨#[]⟩ := by
  constructor
  · intro h; apply bytes_ext; exact List.eq_nil_of_length_eq_zero (by rw [Array.length_toList]; exact h)
  · rintro rfl; rfl

set_option maxRecDepth 100000 in
set_option maxHeartbeats 4000000 in
theorem i_between (b off cap : Nat) (l : List Pr) (lo hi : ByteArray) (w : World) (h : SlP w (some ⟨b, off, none⟩) l.length l) (hsz : l.length ≤ 1099511627776) :
    Calls Tryz.prog 100 #[.slice (some ⟨b, off, none⟩) l.length cap, .string lo, .string hi] w fun e w' =>
      ∃ g' n' cap', e = .returned (.slice (some ⟨g', 0, none⟩) n' cap') ∧ OwnP w' w.heap.size g' n' cap' (between lo hi l) ∧ Below w.heap.size w w' := by
  obtain ⟨i0, hif, hz0, hz1, hz2⟩ := info_parts infoP
  have hsm := h.2.2.1
  have hmt := i_meth
  go_enter Tryz.func100, Tryz.ntmps100
  go_wp2_with (at_builtin; fail)
  go_loopw [7, 13] (fun v i wr => ∃ (k g n cp : Nat), k ≤ l.length ∧ n ≤ k ∧ i = .int .i64 (k : Int) ∧ v = .slice (some ⟨g, 0, none⟩) n cp ∧ OwnP wr w.heap.size g n cp (between lo hi (l.take k)) ∧ Below w.heap.size w wr) (fun _ i _ => l.length - (intOf i).toNat)
  case atStart => exact ⟨0, w.heap.size, 0, 0, Nat.zero_le _, Nat.le_refl _, rfl, rfl, ownP_made w _ (Nat.le_refl _), (Below.refl _ _).alloc (Nat.le_refl _) _⟩
  case round =>
    obtain ⟨k, g, n, cp, hk, hnk, rfl, rfl, hO, hB⟩ := hrel
    have hbw : w.heap.size ≤ wr.heap.size := hB.size
    by_cases hlt : k < l.length
    · obtain ⟨c1, c2⟩ := (h.below hB).cells k hlt
      have hst := filter_snoc (fun p => inB lo hi p.1) l k hlt
      have hpk := hsm _ (List.getElem_mem hlt)
      have hki : (k : Int) < (l.length : Int) := by omega
      cases h1 : Op.bytesLess l[k].1.toList lo.toList
      · by_cases h2 : hi = ⟨#[]⟩
        · have HIN : Hid (inB lo hi l[k].1 = true) := by show _ = _; unfold inB; rw [show ltB l[k].1 lo = false from h1, decide_eq_true ((empty_iff hi).2 h2)]; rfl
          subst h2
          have HF : Hid (between lo ⟨#[]⟩ (l.take (k + 1)) = between lo ⟨#[]⟩ (l.take k) ++ [l[k]]) := by
            show List.filter _ _ = List.filter _ _ ++ _
            rw [hst, HIN.out]; simp
          have hc3 : n + 1 ≤ maxLen := by unfold maxLen; omega
          have hc4 : (n + 1) * 32 ≤ 140737488355328 := by omega
          clear hst HIN
          generalize l[k] = p at *
          go_wp2_with fail
          refine (i_key p _).mono ?_
          rintro e w3 ⟨rfl, hw3⟩
          have hX3 : Below (wr.alloc (.cells #[.string p.1, .string p.2] 34)).heap.size (wr.alloc (.cells #[.string p.1, .string p.2] 34)) w3 := by rw [hw3]; exact (Below.refl _ _).alloc (Nat.le_refl _) _
          have hXB : Below wr.heap.size wr w3 := ((Below.refl _ _).alloc (Nat.le_refl _) _).trans (hX3.mono (le_alloc _ _ (Nat.le_refl _)))
          have hB3 : Below w.heap.size w w3 := hB.trans (hXB.mono hB.size)
          have hO3 : OwnP w3 w.heap.size g n cp (between lo ⟨#[]⟩ (l.take k)) := hO.below hXB
          obtain ⟨cb0, cb1⟩ := box_cell wr w3 p.1 p.2 hX3
          clear hw3 hO hB hXB c1 c2
          have hszW : w.heap.size ≤ w3.heap.size := hB3.size
          go_wp2_with (at_builtin; refine wpList_append_own _ rfl (.tmp 33) (.tmp 35) 98 rfl w.heap.size 34 i0 (.agg #[.string ⟨#[]⟩, .string ⟨#[]⟩]) 2 32 Tryz.underlying98 hif hz0 hz1 hz2 rfl (by decide) _ _ _ rfl (hO3.2.2.alloc _) ⟨w3.heap.size, 0, none⟩ 1 1 (pairVals [p]) rfl rfl (one_pair_cells _ _ _) (pairVals_oneCell _) hc3 hc4 (le_alloc _ _ hszW) ?_)
          intro v2 w2 hown hgrow hnn
          obtain ⟨g2, cp2, hv, hO2⟩ := ownP_app hO3.1 hO3.2.1 hpk hnn hown
          subst hv
          have hB2 : Below w.heap.size w w2 := (hB3.alloc hszW _).grown hgrow (le_alloc _ _ hszW) (fun k e => by simp [Value.ownBlock] at e; have := hO3.lt; omega)
          rw [← HF.out] at hO2
          have HO2 := Hid.mk' hO2
          clear hown hgrow hnn hO2 hO3 hB3
          go_wp2_with (at_builtin; fail)
          go_roundw
          case rel => exact ⟨k + 1, g2, n + 1, cp2, by omega, by omega, by go_num, rfl, HO2.out, hB2⟩
          case measure => simp [intOf]; omega
        · have hq2 : (hi.toList == []) = false := by
            rw [beq_eq_false_iff_ne]; intro e; exact h2 (bytes_ext (by rw [← ByteArray.toList_eq]; exact e))
          have hq : ¬ hi.toList = [] := fun e => h2 (bytes_ext (by rw [← ByteArray.toList_eq]; exact e))
          have hq3 : hi.toList.isEmpty = false := by rw [Bool.eq_false_iff]; intro e; exact hq (List.isEmpty_iff.1 e)
          have hz : decide (hi.size = 0) = false := decide_eq_false (fun e => h2 ((empty_iff hi).1 e))
          cases h3 : Op.bytesLess l[k].1.toList hi.toList
          · have HIN : Hid (inB lo hi l[k].1 = false) := by show _ = _; unfold inB; rw [show ltB l[k].1 lo = false from h1, hz, show ltB l[k].1 hi = false from h3]; rfl
            clear hz h2
            have HF : Hid (between lo hi (l.take (k + 1)) = between lo hi (l.take k)) := by
              show List.filter _ _ = List.filter _ _
              rw [hst, HIN.out]; simp
            clear hst HIN
            generalize l[k] = p at *
            go_wp2_with fail
            refine (i_key p _).mono ?_
            rintro e w3 ⟨rfl, hw3⟩
            have hX3 : Below (wr.alloc (.cells #[.string p.1, .string p.2] 34)).heap.size (wr.alloc (.cells #[.string p.1, .string p.2] 34)) w3 := by rw [hw3]; exact (Below.refl _ _).alloc (Nat.le_refl _) _
            have hXB : Below wr.heap.size wr w3 := ((Below.refl _ _).alloc (Nat.le_refl _) _).trans (hX3.mono (le_alloc _ _ (Nat.le_refl _)))
            have hB3 : Below w.heap.size w w3 := hB.trans (hXB.mono hB.size)
            have hO3 : OwnP w3 w.heap.size g n cp (between lo hi (l.take k)) := hO.below hXB
            obtain ⟨cb0, cb1⟩ := box_cell wr w3 p.1 p.2 hX3
            clear hw3 hO hB hXB c1 c2
            go_wp2_with fail
            refine (i_key p _).mono ?_
            rintro e w4 ⟨rfl, hw4⟩
            have hXB : Below w3.heap.size w3 w4 := by rw [hw4]; exact (Below.refl _ _).alloc (Nat.le_refl _) _
            have hB4 : Below w.heap.size w w4 := hB3.trans (hXB.mono hB3.size)
            have hO4 : OwnP w4 w.heap.size g n cp (between lo hi (l.take k)) := hO3.below hXB
            obtain ⟨cc0, cc1⟩ := box_cell wr w4 p.1 p.2 (hX3.trans (hXB.mono hX3.size))
            clear hw4 hO3 hB3 hXB cb0 cb1
            go_wp2_with (at_builtin; fail)
            go_roundw
            case rel => exact ⟨k + 1, g, n, cp, by omega, by omega, by go_num, rfl, by rw [HF.out]; exact hO4, hB4⟩
            case measure => simp [intOf]; omega
          · have HIN : Hid (inB lo hi l[k].1 = true) := by show _ = _; unfold inB; rw [show ltB l[k].1 lo = false from h1, hz, show ltB l[k].1 hi = true from h3]; rfl
            clear hz h2
            have HF : Hid (between lo hi (l.take (k + 1)) = between lo hi (l.take k) ++ [l[k]]) := by
              show List.filter _ _ = List.filter _ _ ++ _
              rw [hst, HIN.out]; simp
            have hc3 : n + 1 ≤ maxLen := by unfold maxLen; omega
            have hc4 : (n + 1) * 32 ≤ 140737488355328 := by omega
            clear hst HIN
            generalize l[k] = p at *
            go_wp2_with fail
            refine (i_key p _).mono ?_
            rintro e w3 ⟨rfl, hw3⟩
            have hX3 : Below (wr.alloc (.cells #[.string p.1, .string p.2] 34)).heap.size (wr.alloc (.cells #[.string p.1, .string p.2] 34)) w3 := by rw [hw3]; exact (Below.refl _ _).alloc (Nat.le_refl _) _
            have hXB : Below wr.heap.size wr w3 := ((Below.refl _ _).alloc (Nat.le_refl _) _).trans (hX3.mono (le_alloc _ _ (Nat.le_refl _)))
            have hB3 : Below w.heap.size w w3 := hB.trans (hXB.mono hB.size)
            have hO3 : OwnP w3 w.heap.size g n cp (between lo hi (l.take k)) := hO.below hXB
            obtain ⟨cb0, cb1⟩ := box_cell wr w3 p.1 p.2 hX3
            clear hw3 hO hB hXB c1 c2
            go_wp2_with fail
            refine (i_key p _).mono ?_
            rintro e w4 ⟨rfl, hw4⟩
            have hXB : Below w3.heap.size w3 w4 := by rw [hw4]; exact (Below.refl _ _).alloc (Nat.le_refl _) _
            have hB4 : Below w.heap.size w w4 := hB3.trans (hXB.mono hB3.size)
            have hO4 : OwnP w4 w.heap.size g n cp (between lo hi (l.take k)) := hO3.below hXB
            obtain ⟨cc0, cc1⟩ := box_cell wr w4 p.1 p.2 (hX3.trans (hXB.mono hX3.size))
            clear hw4 hO3 hB3 hXB cb0 cb1
            have hszW : w.heap.size ≤ w4.heap.size := hB4.size
            go_wp2_with (at_builtin; refine wpList_append_own _ rfl (.tmp 33) (.tmp 35) 98 rfl w.heap.size 34 i0 (.agg #[.string ⟨#[]⟩, .string ⟨#[]⟩]) 2 32 Tryz.underlying98 hif hz0 hz1 hz2 rfl (by decide) _ _ _ rfl (hO4.2.2.alloc _) ⟨w4.heap.size, 0, none⟩ 1 1 (pairVals [p]) rfl rfl (one_pair_cells _ _ _) (pairVals_oneCell _) hc3 hc4 (le_alloc _ _ hszW) ?_)
            intro v2 w2 hown hgrow hnn
            obtain ⟨g2, cp2, hv, hO2⟩ := ownP_app hO4.1 hO4.2.1 hpk hnn hown
            subst hv
            have hB2 : Below w.heap.size w w2 := (hB4.alloc hszW _).grown hgrow (le_alloc _ _ hszW) (fun k e => by simp [Value.ownBlock] at e; have := hO4.lt; omega)
            rw [← HF.out] at hO2
            have HO2 := Hid.mk' hO2
            clear hown hgrow hnn hO2 hO4 hB4
            go_wp2_with (at_builtin; fail)
            go_roundw
            case rel => exact ⟨k + 1, g2, n + 1, cp2, by omega, by omega, by go_num, rfl, HO2.out, hB2⟩
            case measure => simp [intOf]; omega
      · have HIN : Hid (inB lo hi l[k].1 = false) := by show _ = _; unfold inB; rw [show ltB l[k].1 lo = true from h1]; rfl
        have HF : Hid (between lo hi (l.take (k + 1)) = between lo hi (l.take k)) := by
          show List.filter _ _ = List.filter _ _
          rw [hst, HIN.out]; simp
        clear hst HIN
        generalize l[k] = p at *
        go_wp2_with fail
        refine (i_key p _).mono ?_
        rintro e w3 ⟨rfl, hw3⟩
        have hX3 : Below (wr.alloc (.cells #[.string p.1, .string p.2] 34)).heap.size (wr.alloc (.cells #[.string p.1, .string p.2] 34)) w3 := by rw [hw3]; exact (Below.refl _ _).alloc (Nat.le_refl _) _
        have hXB : Below wr.heap.size wr w3 := ((Below.refl _ _).alloc (Nat.le_refl _) _).trans (hX3.mono (le_alloc _ _ (Nat.le_refl _)))
        have hB3 : Below w.heap.size w w3 := hB.trans (hXB.mono hB.size)
        have hO3 : OwnP w3 w.heap.size g n cp (between lo hi (l.take k)) := hO.below hXB
        obtain ⟨cb0, cb1⟩ := box_cell wr w3 p.1 p.2 hX3
        clear hw3 hO hB hXB c1 c2
        go_wp2_with (at_builtin; fail)
        go_roundw
        case rel => exact ⟨k + 1, g, n, cp, by omega, by omega, by go_num, rfl, by rw [HF.out]; exact hO3, hB3⟩
        case measure => simp [intOf]; omega
    · have HE : Hid (l.take k = l) := List.take_of_length_le (by omega)
      go_wp2_with (at_builtin; fail)
      go_ret
      rw [HE.out] at hO
      exact ⟨g, n, cp, rfl, hO, hB⟩

set_option maxHeartbeats 1000000 in
theorem impl_between (b off len cap : Nat) (l : List Pr) (lo hi : ByteArray) (w : World) (h : SlP w (some ⟨b, off, none⟩) len l) (hcap : len ≤ cap) (hsz : len ≤ 1099511627776) :
    Calls Tryz.prog 63 #[.slice (some ⟨b, off, none⟩) len cap, .string lo, .string hi] w fun e w' =>
      ∃ g' n' cap', e = .returned (.slice (some ⟨g', 0, none⟩) n' cap') ∧ OwnP w' w.heap.size g' n' cap' (between lo hi l) ∧ Below w.heap.size w w' := by
  have hl := h.1
  subst hl
  have HW := Hid.mk' (i_between b off cap l lo hi w h hsz)
  go_enter Tryz.func63, Tryz.ntmps63
  go_wp2_with fail
  refine HW.out.mono ?_
  rintro e w2 ⟨g, n, cp, rfl, hO, hB⟩
  have HO := Hid.mk' hO
  clear hO
  go_wp2_with fail
  go_ret
  exact ⟨g, n, cp, rfl, HO.out, hB⟩

end Go.Proofs.YteammdkipnfmnaaGreatDoor.pairs

namespace Go.Proofs.YteammdkipnfmnaaGreatDoor.pairs
open Go Go.RowKit Go.Proofs.YteammdkipnfmnaaGreatDoor.base
open Go.Maps (Keyed)
open Go.WideMaps (keyOf_string_mk)
set_option linter.unusedVariables false
set_option linter.unusedSimpArgs false

/-! ### how often a key is there -/
end Go.Proofs.YteammdkipnfmnaaGreatDoor.pairs

namespace Go.Proofs.YteammdkipnfmnaaGreatDoor.ords
open Go Go.RowKit Go.Proofs.YteammdkipnfmnaaGreatDoor.base Go.Proofs.YteammdkipnfmnaaGreatDoor.pairs
set_option linter.unusedVariables false
set_option linter.unusedSimpArgs false

set_option maxHeartbeats 400000 in
theorem impl_shardOf (key : ByteArray) (n : Int) (w : World) (hs : key.size ≤ 1099511627776) (hn : (Lit.int .i64 n).wf = true) :
    Calls Tryz.prog 66 #[.string key, .int .i64 n] w fun e w' => e = .returned (.int .i64 (shardOf key n)) ∧ Below w.heap.size w w' := by
  have hH := hashOf_lt key.data.toList
  have HC := Hid.mk' (hash.impl_hash key w (by unfold maxLen; omega))
  unfold shardOf
  generalize hashOf key.data.toList = H at *
  by_cases h1 : n < 1
  · rw [if_pos h1]
    go_enter Tryz.func66, Tryz.ntmps66
    go_wp2_with fail
    go_ret
    exact ⟨rfl, Below.refl _ _⟩
  · rw [if_neg h1]
    have h2 : Int.tmod (H : Int) n = (H : Int) % n := Int.tmod_eq_emod_of_nonneg (by omega)
    have h3 : 0 ≤ (H : Int) % n := Int.emod_nonneg _ (by omega)
    have h4 : (H : Int) % n ≤ 4294967296 := by
      have h5 := Int.emod_add_ediv_mul (H : Int) n
      have h6 : 0 ≤ (H : Int) / n * n := Int.mul_nonneg (Int.ediv_nonneg (by omega) (by omega)) (by omega)
      omega
    generalize (H : Int) % n = R at *
    go_enter Tryz.func66, Tryz.ntmps66
    go_wp2_with fail
    refine HC.out.mono ?_
    rintro e w1 ⟨rfl, hb1⟩
    go_wp2_with fail
    go_ret
    exact ⟨rfl, hb1⟩


end Go.Proofs.YteammdkipnfmnaaGreatDoor.ords

namespace Go.Proofs.YteammdkipnfmnaaGreatDoor.bun
open Go Go.RowKit Go.Proofs.YteammdkipnfmnaaGreatDoor.base Go.Proofs.YteammdkipnfmnaaGreatDoor.pairs Go.Proofs.YteammdkipnfmnaaGreatDoor.lay Go.Proofs.YteammdkipnfmnaaGreatDoor.range Go.Proofs.YteammdkipnfmnaaGreatDoor.seals Go.Proofs.YteammdkipnfmnaaGreatDoor.tabs
set_option linter.unusedVariables false
set_option linter.unusedSimpArgs false

def ownB (n k : Int) (l : List Pr) : Bool := l.all fun p => decide (ords.shardOf p.1 n = k)
set_option maxRecDepth 100000 in
theorem i_notOf (p : Pr) (n k : Int) (an ak : Nat) (w : World) (hs : p.1.size ≤ 1099511627776) (hn : (Lit.int .i64 n).wf = true) (cn : w.cell? ⟨an, 0, none⟩ = some (.int .i64 n)) (ck : w.cell? ⟨ak, 0, none⟩ = some (.int .i64 k)) :
    Calls Tryz.prog 65 #[.agg #[.string p.1, .string p.2], .pointer (some ⟨an, 0, none⟩), .pointer (some ⟨ak, 0, none⟩)] w fun e w' => e = .returned (.bool (!decide (ords.shardOf p.1 n = k))) ∧ Below w.heap.size w w' := by
  obtain ⟨W, hW⟩ : ∃ W, w.alloc (.cells #[.string p.1, .string p.2] 34) = W := ⟨_, rfl⟩
  have hB : Below w.heap.size w W := by rw [← hW]; exact below_make
  have hX : BoxIn w.heap.size 34 [] [.string p.1, .string p.2] [] W := by rw [← hW]; exact boxIn_new w _ _
  have x0 := hX.cell 0 _ rfl
  have x1 := hX.cell 1 _ rfl
  simp only [List.length_nil, Nat.zero_add] at x0 x1
  have dn := (hB.cell (p := ⟨an, 0, none⟩) (World.block_lt_of_cell? w _ cn)).trans cn
  have dk := (hB.cell (p := ⟨ak, 0, none⟩) (World.block_lt_of_cell? w _ ck)).trans ck
  have p0 := last.On.cell (B := W.heap.size) x0 (World.block_lt_of_cell? _ _ x0)
  have p1 := last.On.cell (B := W.heap.size) dn (World.block_lt_of_cell? _ _ dn)
  have p2 := last.On.cell (B := W.heap.size) dk (World.block_lt_of_cell? _ _ dk)
  have hc : ∀ xx : last.On W.heap.size W, Calls Tryz.prog 66 #[.string p.1, .int .i64 n] xx.w fun e w' => e = .returned (.int .i64 (ords.shardOf p.1 n)) ∧ ∃ yv : last.On W.heap.size W, w' = yv.w := fun xx => last.Calls.on xx (Nat.le_refl _) (ords.impl_shardOf p.1 n xx.w hs hn)
  have hinh := last.On.inh W.heap.size W
  have HW := Hid.mk' hW
  generalize ords.shardOf p.1 n = sh at *
  clear hW
  by_cases he : sh = k
  · have hne : (sh != k) = false := by simp [he]
    have HR : Hid ((!decide (sh = k)) = false) := by show _ = _; simp [he]
    clear he
    go_enter Tryz.func65, Tryz.ntmps65
    go_wp2_with fail
    rw [HW.out]
    refine last.wp_region_on W.heap.size (by kernel_rfl) (by kernel_rfl) ?_
    repeat (go_big_quiet_step (first | (go_at_call 66; with_reducible exact hc _)))
    refine wpQuiet_nil ?_
    intro wq hwq
    obtain ⟨xq, hwq⟩ := hwq
    subst hwq
    have hbq : Below W.heap.size W xq.w := xq.2
    go_wp2_with fail
    go_ret
    exact ⟨by rw [HR.out]; rfl, hB.trans (hbq.mono hB.size)⟩
  · have hne : (sh != k) = true := by simp [he]
    have HR : Hid ((!decide (sh = k)) = true) := by show _ = _; simp [he]
    clear he
    go_enter Tryz.func65, Tryz.ntmps65
    go_wp2_with fail
    rw [HW.out]
    refine last.wp_region_on W.heap.size (by kernel_rfl) (by kernel_rfl) ?_
    repeat (go_big_quiet_step (first | (go_at_call 66; with_reducible exact hc _)))
    refine wpQuiet_nil ?_
    intro wq hwq
    obtain ⟨xq, hwq⟩ := hwq
    subst hwq
    have hbq : Below W.heap.size W xq.w := xq.2
    go_wp2_with fail
    go_ret
    exact ⟨by rw [HR.out]; rfl, hB.trans (hbq.mono hB.size)⟩
set_option maxRecDepth 100000 in
set_option maxHeartbeats 2000000 in
theorem i_indexNot (b off m cap : Nat) (l : List Pr) (n k : Int) (an ak : Nat) (w : World) (h : SlP w (some ⟨b, off, none⟩) m l) (hks : ∀ p ∈ l, p.1.size ≤ 1099511627776) (hn : (Lit.int .i64 n).wf = true) (cn : w.cell? ⟨an, 0, none⟩ = some (.int .i64 n)) (ck : w.cell? ⟨ak, 0, none⟩ = some (.int .i64 k)) :
    Calls Tryz.prog 101 #[.slice (some ⟨b, off, none⟩) m cap, .func (.func 65) #[] #[.pointer (some ⟨an, 0, none⟩), .pointer (some ⟨ak, 0, none⟩)]] w fun e w' => ∃ z : Int, e = .returned (.int .i64 z) ∧ (ownB n k l = decide (z < 0)) ∧ Below w.heap.size w w' := by
  obtain rfl : l.length = m := h.1
  have hm := h.2.1
  unfold maxLen at hm
  have HH := Hid.mk' h
  have HN := Hid.mk' (fun (p : Pr) (hp : p ∈ l) wx (hx : Below w.heap.size w wx) => i_notOf p n k an ak wx (hks p hp) hn ((hx.cell (p := ⟨an, 0, none⟩) (World.block_lt_of_cell? w _ cn)).trans cn) ((hx.cell (p := ⟨ak, 0, none⟩) (World.block_lt_of_cell? w _ ck)).trans ck))
  clear h cn ck
  go_enter Tryz.func101, Tryz.ntmps101
  go_wp2_with fail
  go_loopw [8] (fun i wr => ∃ j : Nat, j ≤ l.length ∧ i = .int .i64 (j : Int) ∧ (∀ t (ht : t < j) (hl : t < l.length), ords.shardOf l[t].1 n = k) ∧ Below w.heap.size w wr) (fun i _ => l.length - (intOf i).toNat)
  case atStart => exact ⟨0, Nat.zero_le _, rfl, fun t ht => absurd ht (Nat.not_lt_zero _), Below.refl _ _⟩
  case round =>
    obtain ⟨j, hj, rfl, hno, hb⟩ := hrel
    have HNO := Hid.mk' hno
    clear hno
    by_cases hlt : j < l.length
    · obtain ⟨c0, c1⟩ := (HH.out.below hb).cells j hlt
      have hki : (j : Int) < (l.length : Int) := by omega
      have HC := Hid.mk' (HN.out l[j] (List.getElem_mem hlt) wr hb)
      by_cases hr : ords.shardOf l[j].1 n = k
      · have HF : Hid (∀ t (ht : t < j + 1) (hl : t < l.length), ords.shardOf l[t].1 n = k) := fun t ht hl => by
          by_cases e : t = j
          · subst e; exact hr
          · exact HNO.out t (by omega) hl
        rw [show (!decide (ords.shardOf l[j].1 n = k)) = false by simp [hr]] at HC
        clear hr
        generalize l[j] = p at *
        go_wp2_with fail
        refine HC.out.mono ?_
        rintro e w1 ⟨rfl, hb1⟩
        have hB1 := hb.trans (hb1.mono hb.size)
        go_wp2_with fail
        go_roundw
        case rel => exact ⟨j + 1, by omega, by go_num, HF.out, hB1⟩
        case measure => simp [intOf]; omega
      · have HF : Hid (ownB n k l = false) := by
          show _ = _
          unfold ownB
          rw [List.all_eq_false]
          exact ⟨l[j], List.getElem_mem hlt, by simp [hr]⟩
        rw [show (!decide (ords.shardOf l[j].1 n = k)) = true by simp [hr]] at HC
        clear hr
        generalize l[j] = p at *
        go_wp2_with fail
        refine HC.out.mono ?_
        rintro e w1 ⟨rfl, hb1⟩
        have hB1 := hb.trans (hb1.mono hb.size)
        go_wp2_with fail
        go_ret
        exact ⟨_, rfl, by rw [HF.out]; symm; rw [decide_eq_false_iff_not]; omega, hB1⟩
    · have hki : ¬ (j : Int) < (l.length : Int) := by omega
      have HF : Hid (ownB n k l = true) := by
        show _ = _
        unfold ownB
        rw [List.all_eq_true]
        intro p hp
        obtain ⟨t, ht, rfl⟩ := List.getElem_of_mem hp
        exact decide_eq_true (HNO.out t (by omega) ht)
      go_wp2_with fail
      go_ret
      exact ⟨_, rfl, by rw [HF.out]; rfl, hb⟩
set_option maxRecDepth 100000 in
theorem i_containsNot (b off m cap : Nat) (l : List Pr) (n k : Int) (an ak : Nat) (w : World) (h : SlP w (some ⟨b, off, none⟩) m l) (hks : ∀ p ∈ l, p.1.size ≤ 1099511627776) (hn : (Lit.int .i64 n).wf = true) (cn : w.cell? ⟨an, 0, none⟩ = some (.int .i64 n)) (ck : w.cell? ⟨ak, 0, none⟩ = some (.int .i64 k)) :
    Calls Tryz.prog 64 #[.slice (some ⟨b, off, none⟩) m cap, .func (.func 65) #[] #[.pointer (some ⟨an, 0, none⟩), .pointer (some ⟨ak, 0, none⟩)]] w fun e w' => e = .returned (.bool (!ownB n k l)) ∧ Below w.heap.size w w' := by
  have HC := Hid.mk' (i_indexNot b off m cap l n k an ak w h hks hn cn ck)
  clear h cn ck
  go_enter Tryz.func64, Tryz.ntmps64
  go_wp2_with fail
  refine HC.out.mono ?_
  rintro e w1 ⟨z, rfl, hz, hb⟩
  have HZ := Hid.mk' hz
  clear hz
  by_cases h0 : z ≥ 0
  · go_wp2_with fail
    go_ret
    exact ⟨by rw [HZ.out, decide_eq_false (show ¬ z < 0 by omega)]; first | rfl | simp [h0], hb⟩
  · go_wp2_with fail
    go_ret
    exact ⟨by rw [HZ.out, decide_eq_true (show z < 0 by omega)]; first | rfl | simp [h0], hb⟩
set_option maxRecDepth 100000 in
set_option maxHeartbeats 1000000 in
theorem i_allOf (b off m cap : Nat) (l : List Pr) (n k : Int) (w : World) (h : SlP w (some ⟨b, off, none⟩) m l) (hks : ∀ p ∈ l, p.1.size ≤ 1099511627776) (hn : (Lit.int .i64 n).wf = true) :
    Calls Tryz.prog 27 #[.slice (some ⟨b, off, none⟩) m cap, .int .i64 k, .int .i64 n] w fun e w' => e = .returned (.bool (ownB n k l)) ∧ Below w.heap.size w w' := by
  obtain ⟨W, hW⟩ : ∃ W, (w.alloc (.cells #[.int .i64 k] 3)).alloc (.cells #[.int .i64 n] 3) = W := ⟨_, rfl⟩
  have hB : Below w.heap.size w W := by rw [← hW]; exact ((Below.refl _ _).alloc (Nat.le_refl _) _).alloc (by simp) _
  have ck : W.cell? ⟨w.heap.size, 0, none⟩ = some (.int .i64 k) := by rw [← hW]; simp
  have cn : W.cell? ⟨w.heap.size + 1, 0, none⟩ = some (.int .i64 n) := by rw [← hW]; simp
  have HC := Hid.mk' (i_containsNot b off m cap l n k (w.heap.size + 1) w.heap.size W (h.below hB) hks hn cn ck)
  have HW := Hid.mk' hW
  clear h hW cn ck
  generalize ownB n k l = r at *
  go_enter Tryz.func27, Tryz.ntmps27
  go_wp2_with fail
  rw [HW.out]
  refine HC.out.mono ?_
  rintro e w1 ⟨rfl, hb⟩
  have hB1 := hB.trans (hb.mono hB.size)
  cases r
  · go_wp2_with fail
    go_ret
    exact ⟨rfl, hB1⟩
  · go_wp2_with fail
    go_ret
    exact ⟨rfl, hB1⟩
end Go.Proofs.YteammdkipnfmnaaGreatDoor.bun

namespace Go.Proofs.YteammdkipnfmnaaGreatDoor.range
open Go Go.RowKit Go.Proofs.YteammdkipnfmnaaGreatDoor.base Go.Proofs.YteammdkipnfmnaaGreatDoor.pairs Go.Proofs.YteammdkipnfmnaaGreatDoor.tree
set_option linter.unusedVariables false
set_option linter.unusedSimpArgs false

end Go.Proofs.YteammdkipnfmnaaGreatDoor.range

namespace Go.Proofs.YteammdkipnfmnaaGreatDoor.tree
open Go Go.Proofs.YteammdkipnfmnaaGreatDoor.base Go.Proofs.YteammdkipnfmnaaGreatDoor.pairs
set_option linter.unusedVariables false

def sidesS (f : Nat × Nat → List Bool) (s : Nat × Nat) : List Bool :=
  if s.2 < 2 then []
  else if s.1 < half s.2 then f (s.1, half s.2) ++ [true]
  else f (s.1 - half s.2, s.2 - half s.2) ++ [false]
def sides (i n : Nat) : List Bool := runs (fun _ => []) sidesS (n + 1) (i, n)
theorem sides_eq (i n : Nat) : sides i n = if n < 2 then [] else if i < half n then sides i (half n) ++ [true] else sides (i - half n) (n - half n) ++ [false] :=
  runs_eq (fun _ => []) sidesS (fun s => s.2) (fun f g s h => by
    unfold sidesS
    by_cases hn : s.2 < 2
    · rw [if_pos hn, if_pos hn]
    · have hb := half_bd s.2 (by omega)
      rw [if_neg hn, if_neg hn, h (s.1, half s.2) hb.2, h (s.1 - half s.2, s.2 - half s.2) (by show s.2 - half s.2 < s.2; omega)]) (i, n)
theorem sides_low (i n : Nat) (h : n < 2) : sides i n = [] := by rw [sides_eq, if_pos h]
theorem sides_left (i n : Nat) (h : 2 ≤ n) (hi : i < half n) : sides i n = sides i (half n) ++ [true] := by rw [sides_eq, if_neg (by omega), if_pos hi]
theorem sides_right (i n : Nat) (h : 2 ≤ n) (hi : ¬ i < half n) : sides i n = sides (i - half n) (n - half n) ++ [false] := by rw [sides_eq, if_neg (by omega), if_neg hi]
theorem sides_length (i n : Nat) : (sides i n).length = depth i n := by
  induction n using Nat.strongRecOn generalizing i with
  | _ n ih =>
    by_cases h : n < 2
    · rw [sides_low i n h, depth_eq, if_pos h]; rfl
    · have hb := half_bd n (by omega)
      by_cases hi : i < half n
      · rw [sides_left i n (by omega) hi, depth_left i n (by omega) hi, List.length_append, ih _ hb.2]; rfl
      · rw [sides_right i n (by omega) hi, depth_right i n (by omega) hi, List.length_append, ih _ (by omega)]; rfl
def downs (i n : Nat) : List Bool := (sides i n).reverse
theorem downs_low (i n : Nat) (h : n < 2) : downs i n = [] := by unfold downs; rw [sides_low i n h]; rfl
theorem downs_left (i n : Nat) (h : 2 ≤ n) (hi : i < half n) : downs i n = true :: downs i (half n) := by unfold downs; rw [sides_left i n h hi, List.reverse_concat]
theorem downs_right (i n : Nat) (h : 2 ≤ n) (hi : ¬ i < half n) : downs i n = false :: downs (i - half n) (n - half n) := by unfold downs; rw [sides_right i n h hi, List.reverse_concat]
theorem downs_length (i n : Nat) : (downs i n).length = depth i n := by unfold downs; rw [List.length_reverse, sides_length]

def nodeAt (x : ByteArray) (s : Bool) (q : ByteArray) : List UInt8 := if s = true then nodeB x q else nodeB q x
def ups (x : ByteArray) (l : List (Bool × ByteArray)) : ByteArray := l.foldl (fun t s => dg (nodeAt t s.1 s.2)) x
theorem ups_snoc (x : ByteArray) (l : List (Bool × ByteArray)) (s : Bool) (q : ByteArray) : ups x (l ++ [(s, q)]) = dg (nodeAt (ups x l) s q) := by
  unfold ups; rw [List.foldl_append]; rfl
theorem ups_size (x : ByteArray) (l : List (Bool × ByteArray)) (hx : x.size = 32) : (ups x l).size = 32 := by
  rcases List.eq_nil_or_concat l with rfl | ⟨l', s, rfl⟩
  · exact hx
  · obtain ⟨s, q⟩ := s
    rw [List.concat_eq_append, ups_snoc]; exact dg_size _
def upTo (x : ByteArray) (S : List Bool) (P : List ByteArray) (k : Nat) : ByteArray := ups x ((S.zip P).take k)
theorem upTo_step (x : ByteArray) (S : List Bool) (P : List ByteArray) (k : Nat) (h1 : k < S.length) (h2 : k < P.length) : upTo x S P (k + 1) = dg (nodeAt (upTo x S P k) S[k] P[k]) := by
  unfold upTo
  rw [List.take_succ_eq_append_getElem (by rw [List.length_zip]; omega), List.getElem_zip, ups_snoc]
theorem upTo_all (x : ByteArray) (S : List Bool) (P : List ByteArray) (k : Nat) (h : S.length ≤ k) : upTo x S P k = ups x (S.zip P) := by
  unfold upTo
  rw [List.take_of_length_le (by rw [List.length_zip]; omega)]
theorem zip_snoc {α β : Type} (a : List α) (b : List β) (x : α) (y : β) (h : a.length = b.length) : (a ++ [x]).zip (b ++ [y]) = a.zip b ++ [(x, y)] := by
  rw [List.zip_append h]; rfl
theorem climb_sides (x : ByteArray) (i n : Nat) (p : List ByteArray) (hp : p.length = depth i n) : climb x i n p = some (ups x ((sides i n).zip p)) := by
  induction n using Nat.strongRecOn generalizing i p with
  | _ n ih =>
    by_cases h : n < 2
    · rw [depth_eq, if_pos h] at hp
      have : p = [] := List.eq_nil_of_length_eq_zero hp
      subst this
      rw [climb_low _ _ _ _ h, sides_low i n h, if_pos rfl]; rfl
    · have hb := half_bd n (by omega)
      have hd : 1 ≤ depth i n := by
        rw [depth_eq, if_neg h]; split <;> omega
      have hne : p ≠ [] := by rintro rfl; simp at hp; omega
      have he : p = p.dropLast ++ [p.getLast hne] := (List.dropLast_concat_getLast hne).symm
      obtain ⟨q, z, rfl⟩ : ∃ q z, p = q ++ [z] := ⟨_, _, he⟩
      rw [List.length_append, List.length_singleton] at hp
      have hlast : (q ++ [z]).getLast? = some z := List.getLast?_concat
      by_cases hi : i < half n
      · rw [depth_left i n (by omega) hi] at hp
        rw [climb_left _ _ _ _ _ (by omega) hlast hi, List.dropLast_concat, ih _ hb.2 i q (by omega), sides_left i n (by omega) hi,
          zip_snoc _ _ _ _ (by rw [sides_length]; omega), ups_snoc]
        rfl
      · rw [depth_right i n (by omega) hi] at hp
        rw [climb_right _ _ _ _ _ (by omega) hlast hi, List.dropLast_concat, ih _ (by omega) (i - half n) q (by omega), sides_right i n (by omega) hi,
          zip_snoc _ _ _ _ (by rw [sides_length]; omega), ups_snoc]
        rfl
theorem check_not {p : Pr} {i n : Nat} {P : List ByteArray} {root : ByteArray} (h : ¬ P.length = depth i n) : checkPath p i n P root = false := by
  have hc := climb_length (leafOf p) i n P
  rw [decide_eq_false h] at hc
  unfold checkPath
  cases he : climb (leafOf p) i n P with
  | none => rfl
  | some t => rw [he] at hc; cases hc
theorem check_ups {p : Pr} {i n : Nat} {P : List ByteArray} {root : ByteArray} (h : P.length = depth i n) : checkPath p i n P root = decide (dg (topB (n : Int) (ups (leafOf p) ((sides i n).zip P))) = root) := by
  unfold checkPath
  rw [climb_sides _ _ _ _ h]
end Go.Proofs.YteammdkipnfmnaaGreatDoor.tree

namespace Go.Proofs.YteammdkipnfmnaaGreatDoor.base
open Go.RowKit
set_option linter.unusedVariables false

theorem infoBool : (Tryz.prog.info? 4).map (fun i => (i.zero, i.size, i.bytes)) = some (some (.bool false), 1, 1) := by kernel_rfl
def boolVals (zs : List Bool) : List Value := zs.map fun z => .bool z
theorem boolVals_set (zs : List Bool) (k : Nat) (z : Bool) : (boolVals zs).set k (.bool z) = boolVals (zs.set k z) := by simp [boolVals]
theorem bool_oneCell (x : Bool) : ∀ u ∈ [Value.bool x], u.oneCell' = true := by
  intro v hv; rw [List.mem_singleton.1 hv]; rfl
def OwnB (w : World) (base g n cap : Nat) (zs : List Bool) : Prop := zs.length = n ∧ w.ownsRow base 4 1 (.slice (some ⟨g, 0, none⟩) n cap) n (boolVals zs)
section
variable {w w' : World} {base base' g n cap : Nat} {zs : List Bool} {row : Option Nat}
theorem OwnB.lt (h : OwnB w base g n cap zs) : base ≤ g ∧ g < w.heap.size := h.2.lt g rfl
theorem OwnB.mono (h : OwnB w base g n cap zs) (hb : base' ≤ base) : OwnB w base' g n cap zs := by
  refine ⟨h.1, h.2.1, ?_⟩
  rcases h.2.2 with h' | ⟨g', cap', cur, h', h0, r⟩
  · exact .inl h'
  · exact .inr ⟨g', cap', cur, h', by omega, r⟩
theorem OwnB.block (h : OwnB w base g n cap zs) : ∃ cur, w.heap[g]? = some (.cells cur 4 (0, 0)) := by
  rcases h.2.2 with ⟨h', _⟩ | ⟨g', cap', cur, h', _, hg, _⟩
  · simp at h'
  · simp only [Value.slice.injEq, Option.some.injEq, Addr.mk.injEq, and_true, true_and] at h'
    obtain ⟨rfl, rfl⟩ := h'
    exact ⟨cur, hg⟩
theorem OwnB.max (h : OwnB w base g n cap zs) : n ≤ cap ∧ cap ≤ maxLen := by
  rcases h.2.2 with ⟨h', _⟩ | ⟨g', cap', cur, h', _, hg, h1, h2, _⟩
  · simp at h'
  · simp only [Value.slice.injEq, Option.some.injEq, Addr.mk.injEq, and_true, true_and] at h'
    obtain ⟨rfl, rfl⟩ := h'
    exact ⟨h1, h2⟩
theorem OwnB.at (h : OwnB w base g n cap zs) (i : Nat) (hi : i < zs.length) : w.cell? ⟨g, i, none⟩ = some (.bool zs[i]) := by
  have hl := h.1
  rw [h.2.cellAt i (by omega)]
  simp [boolVals, hi]
theorem OwnB.frozen (h : OwnB w base g n cap zs) (i : Nat) : w.frozen? ⟨g, i, none⟩ = false := h.2.frozenAt i
theorem OwnB.grown (h : OwnB w base g n cap zs) (hg : w.grownBy w' row) (hne : some g ≠ row) : OwnB w' base g n cap zs := ⟨h.1, h.2.kept hg (.inr hne)⟩
theorem OwnB.below (h : OwnB w base g n cap zs) (hb : Below w.heap.size w w') : OwnB w' base g n cap zs :=
  ⟨h.1, h.2.kept (row := none) ⟨hb.os, hb.tape, hb.output, hb.size, fun k hk _ => hb.block k hk⟩ (.inr (by simp [Value.ownBlock]))⟩
theorem ownB_made (w : World) (base : Nat) (hb : base ≤ w.heap.size) : OwnB (w.alloc (.cells #[] 4)) base w.heap.size 0 0 [] :=
  ⟨rfl, World.ownsRow_made w #[] 0 hb (Nat.zero_le _) rfl⟩
theorem ownB_val {v' : Value} (hl : zs.length = n) (h0 : ¬ v' = .slice none 0 0) (h : w'.ownsRow base 4 1 v' n (boolVals zs)) :
    ∃ g' cap', v' = .slice (some ⟨g', 0, none⟩) n cap' ∧ OwnB w' base g' n cap' zs := by
  rcases h.2 with ⟨h2, _⟩ | ⟨g', cap', cur, hv, _⟩
  · exact absurd h2 h0
  · subst hv
    exact ⟨g', cap', rfl, hl, h⟩
theorem ownB_set (h : OwnB w base g n cap zs) (k : Nat) (z : Bool) :
    OwnB (w.setCell ⟨g, k, none⟩ (.bool z)) base g n cap (zs.set k z) ∧ w.grownBy (w.setCell ⟨g, k, none⟩ (.bool z)) (some g) := by
  have hs := h.2.stored k (.bool z)
  rw [boolVals_set] at hs
  exact ⟨⟨by simpa using h.1, hs.1⟩, hs.2⟩
end
end Go.Proofs.YteammdkipnfmnaaGreatDoor.base

namespace Go.Proofs.YteammdkipnfmnaaGreatDoor.tree
open Go Go.RowKit Go.Proofs.YteammdkipnfmnaaGreatDoor.base Go.Proofs.YteammdkipnfmnaaGreatDoor.pairs Go.Proofs.YteammdkipnfmnaaGreatDoor.puttext Go.Proofs.YteammdkipnfmnaaGreatDoor.putnum
set_option linter.unusedVariables false
set_option linter.unusedSimpArgs false

def bl (x : Nat) : Nat := if x < 2 then 1 else if x < 4 then 2 else if x < 8 then 3 else if x < 16 then 4 else if x < 32 then 5 else 6
theorem bl_le (q : Nat) : bl q ≤ 6 := by
  unfold bl
  repeat' split
  all_goals omega
theorem bytes_at (l : List UInt8) (q : Nat) (h : q < (⟨l.toArray⟩ : ByteArray).size) : (⟨l.toArray⟩ : ByteArray)[q]'h = l.getD q 0 := by
  have hq : q < l.length := by have : (⟨l.toArray⟩ : ByteArray).size = l.length := by show l.toArray.size = _; simp
                               omega
  show l.toArray[q]'(by simpa using hq) = _
  simp [List.getD, hq]
theorem blAll (l : List UInt8) (hl : ((List.range 64).all fun q => q == 0 || (l.getD q 0).toNat == bl q) = true) (q : Nat) (h1 : 1 ≤ q) (h2 : q < 64) (h : q < (⟨l.toArray⟩ : ByteArray).size) : wrap64 (wrap64 (((⟨l.toArray⟩ : ByteArray)[q]'h).toNat : Int)) = (bl q : Int) := by
  have hx := List.all_eq_true.1 hl q (List.mem_range.2 h2)
  have hb := bl_le q
  have hx2 : (l.getD q 0).toNat = bl q := by
    rcases Bool.or_eq_true _ _ ▸ hx with h3 | h3
    · have := eq_of_beq h3; omega
    · exact eq_of_beq h3
  rw [bytes_at, hx2, IntWalk.wrap64_in (bl q : Int) (by omega), IntWalk.wrap64_in (bl q : Int) (by omega)]
theorem blTab (q : Nat) (h1 : 1 ≤ q) (h2 : q < 64) (h : q < (⟨#[0, 1, 2, 2, 3, 3, 3, 3, 4, 4, 4, 4, 4, 4, 4, 4, 5, 5, 5, 5, 5, 5, 5, 5, 5, 5, 5, 5, 5, 5, 5, 5, 6, 6, 6, 6, 6, 6, 6, 6, 6, 6, 6, 6, 6, 6, 6, 6, 6, 6, 6, 6, 6, 6, 6, 6, 6, 6, 6, 6, 6, 6, 6, 6, 7, 7, 7, 7, 7, 7, 7, 7, 7, 7, 7, 7, 7, 7, 7, 7, 7, 7, 7, 7, 7, 7, 7, 7, 7, 7, 7, 7, 7, 7, 7, 7, 7, 7, 7, 7, 7, 7, 7, 7, 7, 7, 7, 7, 7, 7, 7, 7, 7, 7, 7, 7, 7, 7, 7, 7, 7, 7, 7, 7, 7, 7, 7, 7, 8, 8, 8, 8, 8, 8, 8, 8, 8, 8, 8, 8, 8, 8, 8, 8, 8, 8, 8, 8, 8, 8, 8, 8, 8, 8, 8, 8, 8, 8, 8, 8, 8, 8, 8, 8, 8, 8, 8, 8, 8, 8, 8, 8, 8, 8, 8, 8, 8, 8, 8, 8, 8, 8, 8, 8, 8, 8, 8, 8, 8, 8, 8, 8, 8, 8, 8, 8, 8, 8, 8, 8, 8, 8, 8, 8, 8, 8, 8, 8, 8, 8, 8, 8, 8, 8, 8, 8, 8, 8, 8, 8, 8, 8, 8, 8, 8, 8, 8, 8, 8, 8, 8, 8, 8, 8, 8, 8, 8, 8, 8, 8, 8, 8, 8, 8, 8, 8, 8, 8, 8, 8, 8, 8, 8, 8, 8, 8]⟩ : ByteArray).size) : wrap64 (wrap64 (((⟨#[0, 1, 2, 2, 3, 3, 3, 3, 4, 4, 4, 4, 4, 4, 4, 4, 5, 5, 5, 5, 5, 5, 5, 5, 5, 5, 5, 5, 5, 5, 5, 5, 6, 6, 6, 6, 6, 6, 6, 6, 6, 6, 6, 6, 6, 6, 6, 6, 6, 6, 6, 6, 6, 6, 6, 6, 6, 6, 6, 6, 6, 6, 6, 6, 7, 7, 7, 7, 7, 7, 7, 7, 7, 7, 7, 7, 7, 7, 7, 7, 7, 7, 7, 7, 7, 7, 7, 7, 7, 7, 7, 7, 7, 7, 7, 7, 7, 7, 7, 7, 7, 7, 7, 7, 7, 7, 7, 7, 7, 7, 7, 7, 7, 7, 7, 7, 7, 7, 7, 7, 7, 7, 7, 7, 7, 7, 7, 7, 8, 8, 8, 8, 8, 8, 8, 8, 8, 8, 8, 8, 8, 8, 8, 8, 8, 8, 8, 8, 8, 8, 8, 8, 8, 8, 8, 8, 8, 8, 8, 8, 8, 8, 8, 8, 8, 8, 8, 8, 8, 8, 8, 8, 8, 8, 8, 8, 8, 8, 8, 8, 8, 8, 8, 8, 8, 8, 8, 8, 8, 8, 8, 8, 8, 8, 8, 8, 8, 8, 8, 8, 8, 8, 8, 8, 8, 8, 8, 8, 8, 8, 8, 8, 8, 8, 8, 8, 8, 8, 8, 8, 8, 8, 8, 8, 8, 8, 8, 8, 8, 8, 8, 8, 8, 8, 8, 8, 8, 8, 8, 8, 8, 8, 8, 8, 8, 8, 8, 8, 8, 8, 8, 8, 8, 8, 8, 8]⟩ : ByteArray)[q]'h).toNat : Int)) = (bl q : Int) :=
  blAll _ (by kernel_rfl) q h1 h2 h

set_option maxRecDepth 100000 in
set_option maxHeartbeats 1000000 in
theorem len64 (y : Int) (w : World) (h1 : 1 ≤ y) (h2 : y < 64) :
    Calls Tryz.prog 151 #[.int .u64 y] w fun e w' => e = .returned (.int .i64 (bl y.toNat : Int)) ∧ w' = w := by
  go_enter Tryz.func151, Tryz.ntmps151
  go_wp2_with fail
  go_ret
  exact ⟨ret_int (blTab _ (by omega) (by omega) _), rfl⟩

set_option maxHeartbeats 1000000 in
theorem bitsLen (y : Int) (w : World) (h1 : 1 ≤ y) (h2 : y < 64) :
    Calls Tryz.prog 149 #[.int .u64 y] w fun e w' => e = .returned (.int .i64 (bl y.toNat : Int)) ∧ w' = w := by
  have HL := Hid.mk' (len64 y w h1 h2)
  go_enter Tryz.func149, Tryz.ntmps149
  go_wp2_with fail
  refine HL.out.mono ?_
  rintro e w1 ⟨rfl, hw1⟩
  subst hw1
  go_wp2_with fail
  go_ret
  exact ⟨rfl, rfl⟩

set_option maxHeartbeats 2000000 in
theorem impl_half (n : Nat) (w : World) (h : 2 ≤ n) (h64 : n ≤ 64) :
    Calls Tryz.prog 147 #[.int .i64 (n : Int)] w fun e w' => e = .returned (.int .i64 (half n : Int)) ∧ w' = w := by
  have hL := bitsLen ((n : Int) - 1) w (by omega) (by omega)
  have hb : ∃ k : Nat, bl ((n : Int) - 1).toNat = k ∧ (k = 1 ∧ half n = 1 ∨ k = 2 ∧ half n = 2 ∨ k = 3 ∧ half n = 4 ∨ k = 4 ∧ half n = 8 ∨ k = 5 ∧ half n = 16 ∨ k = 6 ∧ half n = 32) := by
    refine ⟨_, rfl, ?_⟩
    unfold bl half
    repeat' split
    all_goals omega
  obtain ⟨k, hk, hb⟩ := hb
  rw [hk] at hL
  have e1 : IntKind.u64.wrap ((n : Int) - 1) = (n : Int) - 1 := by rw [IntKind.wrap_u64]; omega
  have HL := Hid.mk' hL
  clear hL hk
  rcases hb with ⟨rfl, hh⟩ | ⟨rfl, hh⟩ | ⟨rfl, hh⟩ | ⟨rfl, hh⟩ | ⟨rfl, hh⟩ | ⟨rfl, hh⟩
  all_goals
    rw [hh]
    clear hh
    go_enter Tryz.func147, Tryz.ntmps147
    go_wp2_with fail
    refine HL.out.mono ?_
    rintro e w1 ⟨rfl, hw1⟩
    subst hw1
    go_wp2_with fail
    go_ret
    exact ⟨rfl, rfl⟩
end Go.Proofs.YteammdkipnfmnaaGreatDoor.tree
