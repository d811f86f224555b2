/- append within the room that a make laid: small facts on worlds; no function of the program is named here. The program's keys and pairs: what is right. The program's places of keys, and what is got. The program's putting of keys. The program's pairs between two ends. The program's stretch of a proof. Plain mathematics of sides: which half a place is in, from the leaf up. Rows of truths that a call makes. The program's halves and sides. The program's places, halves and sides. What the specification hashes on the way up, and its check of a path. The specification's check of a path. The program's turns of words. -/
import Derived.Test.YteammdkipnfmnaaDoorShaa
import Derived.OwnWalk
import Derived.Test.YteammdkipnfmnaaDoorShai
import Derived.Test.YteammdkipnfmnaaDoorShaf
import Derived.Test.YteammdkipnfmnaaDoorShab
import Derived.Deep.RegionHeldLaw
import Derived.Deep.RegionHeld3
import Derived.Test.YteammdkipnfmnaaDoorShah
namespace Go.Proofs.YteammdkipnfmnaaDoor.base
open Go.RowKit
set_option linter.unusedVariables false
set_option linter.unusedSimpArgs false

def Bts (w : World) (g : Nat) (s : ByteArray) : Prop := g < w.heap.size ∧ ∀ j (h : j < s.size), w.cell? ⟨g, j, none⟩ = some (.int .u8 (s[j].toNat : Int))
theorem bts_new (w : World) (s : ByteArray) : Bts (Lib.bytesWorld w 5 s) w.heap.size s := by
  refine ⟨by rw [Lib.bytesWorld_size]; omega, fun j h => ?_⟩
  rw [Lib.bytesWorld_cell w 5 s j h]; simp [List.getD, h]; rfl
theorem Bts.grown {w w' : World} {g g2 : Nat} {s : ByteArray} (h : Bts w g s) (hg : w.grownBy w' (some g2)) (hne : g ≠ g2) : Bts w' g s :=
  ⟨Nat.lt_of_lt_of_le h.1 hg.size, fun j hj => hg.cell (h.2 j hj) (by simpa using hne)⟩
theorem Bts.below {w w' : World} {g : Nat} {s : ByteArray} (h : Bts w g s) (hb : Below w.heap.size w w') : Bts w' g s :=
  ⟨Nat.lt_of_lt_of_le h.1 hb.size, fun j hj => (hb.cell (p := ⟨g, j, none⟩) h.1).trans (h.2 j hj)⟩

end Go.Proofs.YteammdkipnfmnaaDoor.base

namespace Go.Proofs.YteammdkipnfmnaaDoor.pairs
open Go Go.RowKit Go.Proofs.YteammdkipnfmnaaDoor.base
set_option linter.unusedVariables false
set_option linter.unusedSimpArgs false

set_option maxHeartbeats 400000 in
theorem i_key (p : Pr) (w : World) :
    Calls Tryd.prog 115 #[.agg #[.string p.1, .string p.2]] w fun e w' => e = .returned (.string p.1) ∧ w' = w.alloc (.cells #[.string p.1, .string p.2] 65) := by
  go_enter Tryd.func115, Tryd.ntmps115
  go_wp2
  go_ret
  exact ⟨rfl, rfl⟩

set_option maxHeartbeats 400000 in
theorem i_keySign (c : Nat) (w : World) (hc : c < 256) :
    Calls Tryd.prog 73 #[.int .u8 (c : Int)] w fun e w' => e = .returned (.bool (keyCh c)) ∧ w' = w := by
  by_cases h1 : 97 ≤ c
  · by_cases h2 : c ≤ 122
    · go_enter Tryd.func73, Tryd.ntmps73
      go_wp2
      go_ret
      exact ⟨ret_bool (by simp [keyCh, h1, h2]), rfl⟩
    · have h3 : ¬ c ≤ 57 := by omega
      have h4 : 48 ≤ c := by omega
      go_enter Tryd.func73, Tryd.ntmps73
      go_wp2
      go_ret
      exact ⟨ret_bool (by simp [keyCh, h2, h3]; omega), rfl⟩
  · by_cases h2 : 48 ≤ c
    · by_cases h3 : c ≤ 57
      · go_enter Tryd.func73, Tryd.ntmps73
        go_wp2
        go_ret
        exact ⟨ret_bool (by simp [keyCh, h2, h3]; omega), rfl⟩
      · go_enter Tryd.func73, Tryd.ntmps73
        go_wp2
        go_ret
        exact ⟨ret_bool (by simp [keyCh, h1, h3]; omega), rfl⟩
    · go_enter Tryd.func73, Tryd.ntmps73
      go_wp2
      go_ret
      exact ⟨ret_bool (by simp [keyCh, h1, h2]), rfl⟩

set_option maxRecDepth 100000 in
set_option maxHeartbeats 1000000 in
theorem impl_keyOk (s : ByteArray) (w : World) (hs : s.size ≤ 1099511627776) :
    Calls Tryd.prog 60 #[.string s] w fun e w' => e = .returned (.bool (keyOk s)) ∧ Below w.heap.size w w' := by
  by_cases h0 : s.size < 1
  · go_enter Tryd.func60, Tryd.ntmps60
    go_wp2_with fail
    go_ret
    exact ⟨ret_bool (by simp [keyOk]; omega), Below.refl _ _⟩
  by_cases h12 : 12 < s.size
  · go_enter Tryd.func60, Tryd.ntmps60
    go_wp2_with fail
    go_ret
    exact ⟨ret_bool (by simp [keyOk]; omega), Below.refl _ _⟩
  have HZ : Hid (decide (1 ≤ s.size ∧ s.size ≤ 12) = true) := by show _ = _; simp; omega
  generalize hR : keyAll s.data.toList = R
  have HR := Hid.mk' hR
  clear hR
  have hconv := Lib.run_convert_string_bytes (P := Tryd.prog) w 9 92 5 s Tryd.underlying9 Tryd.underlying92 Tryd.underlying5
  have hbts := bts_new w s
  have hBB := below_bytesWorld w 5 s
  go_enter Tryd.func60, Tryd.ntmps60
  go_wp2_with fail
  generalize Lib.bytesWorld w 5 s = w1 at *
  go_loop [16] (fun i => ∃ k : Nat, k ≤ s.size ∧ i = .int .i64 (k : Int) ∧ keyAll (s.data.toList.drop k) = R) (fun i => s.size - (intOf i).toNat)
  case atStart => exact ⟨0, Nat.zero_le _, rfl, HR.out⟩
  case round =>
    obtain ⟨k, hk, rfl, hr⟩ := hrel
    clear hconv
    by_cases hlt : k < s.size
    · have hst := keyAll_drop s k hlt
      rw [hr] at hst
      have hc := s[k].toNat_lt
      have hcl := hbts.2 k hlt
      generalize hC : s[k].toNat = c at *
      have hki : (k : Int) < (s.size : Int) := by omega
      have hl := i_keySign c w1 (by omega)
      cases hq : keyCh c
      · rw [hq] at hl hst
        have HF : Hid (R = false) := by show _ = _; simpa using hst
        have HL := Hid.mk' hl
        clear hl hst hr hC
        go_wp2_with fail
        refine HL.out.mono ?_
        rintro e w2 ⟨rfl, rfl⟩
        go_wp2_with fail
        go_ret
        exact ⟨ret_bool (by unfold keyOk; rw [HR.out, HF.out]; rfl), hBB⟩
      · rw [hq] at hl hst
        have HF : Hid (keyAll (s.data.toList.drop (k + 1)) = R) := by show _ = _; simpa using hst.symm
        have HL := Hid.mk' hl
        clear hl hst hr hC
        go_wp2_with fail
        refine HL.out.mono ?_
        rintro e w2 ⟨rfl, rfl⟩
        go_wp2_with fail
        go_round
        case rel => exact ⟨k + 1, by omega, by go_num, HF.out⟩
        case measure => simp [intOf]; omega
    · have HF : Hid (R = true) := by show _ = _; rw [← hr, List.drop_eq_nil_of_le (by simp; omega)]; rfl
      clear hr
      go_wp2_with fail
      go_ret
      exact ⟨ret_bool (by unfold keyOk; rw [HR.out, HF.out, HZ.out]; rfl), hBB⟩

set_option maxHeartbeats 400000 in
theorem impl_pairOk (p : Pr) (w : World) (hp : small p) (hs : p.1.size ≤ 1099511627776) :
    Calls Tryd.prog 49 #[.agg #[.string p.1, .string p.2]] w fun e w' => e = .returned (.bool (pairOk p)) ∧ Below w.heap.size w w' := by
  have h2 := hp.2
  unfold maxLen at h2
  have hba : Below w.heap.size w (w.alloc (.cells #[.string p.1, .string p.2] 65)) := (Below.refl _ _).alloc (Nat.le_refl _) _
  have hk := impl_keyOk p.1 (w.alloc (.cells #[.string p.1, .string p.2] 65)) hs
  cases hK : keyOk p.1
  · rw [hK] at hk
    have HK := Hid.mk' hk
    have H1 := Hid.mk' hK
    clear hk hK
    go_enter Tryd.func49, Tryd.ntmps49
    go_wp2_with fail
    refine HK.out.mono ?_
    rintro e w1 ⟨rfl, hb1⟩
    go_wp2_with fail
    go_ret
    exact ⟨ret_bool (by unfold pairOk; rw [H1.out]; rfl), hba.trans (hb1.mono hba.size)⟩
  · rw [hK] at hk
    have HK := Hid.mk' hk
    have H1 := Hid.mk' hK
    clear hk hK
    go_enter Tryd.func49, Tryd.ntmps49
    go_wp2_with fail
    refine HK.out.mono ?_
    rintro e w1 ⟨rfl, hb1⟩
    have hc := bcell hb1
    go_wp2_with fail
    go_ret
    exact ⟨ret_bool (by unfold pairOk; rw [H1.out]; simp; omega), hba.trans (hb1.mono hba.size)⟩

end Go.Proofs.YteammdkipnfmnaaDoor.pairs

namespace Go.Proofs.YteammdkipnfmnaaDoor.pairs
open Go Go.RowKit Go.Proofs.YteammdkipnfmnaaDoor.base
set_option linter.unusedVariables false
set_option linter.unusedSimpArgs false

theorem i_meth (x y : ByteArray) (w : World) : (method 246 65 (.agg #[.string x, .string y]) "loop.example/g00244/impl.key").run Tryd.prog w = .ok (115, .agg #[.string x, .string y]) w := by kernel_rfl
end Go.Proofs.YteammdkipnfmnaaDoor.pairs

namespace Go.Proofs.YteammdkipnfmnaaDoor.pairs
open Go Go.RowKit Go.Proofs.YteammdkipnfmnaaDoor.base
set_option linter.unusedVariables false
set_option linter.unusedSimpArgs false

theorem box_cell (w w' : World) (x y : ByteArray) (hB : Below (w.alloc (.cells #[.string x, .string y] 65)).heap.size (w.alloc (.cells #[.string x, .string y] 65)) w') :
    w'.cell? ⟨w.heap.size, 0, none⟩ = some (.string x) ∧ w'.cell? ⟨w.heap.size, 1, none⟩ = some (.string y) := by
  have hlt : w.heap.size < (w.alloc (.cells #[.string x, .string y] 65)).heap.size := by simp
  refine ⟨(hB.cell (p := ⟨w.heap.size, 0, none⟩) hlt).trans ?_, (hB.cell (p := ⟨w.heap.size, 1, none⟩) hlt).trans ?_⟩
  · simp
  · simp




end Go.Proofs.YteammdkipnfmnaaDoor.pairs

namespace Go.Proofs.YteammdkipnfmnaaDoor.pairs
open Go Go.RowKit Go.Proofs.YteammdkipnfmnaaDoor.base
set_option linter.unusedVariables false
set_option linter.unusedSimpArgs false

theorem empty_iff (hi : ByteArray) : hi.size = 0 ↔ hi = ⟨#[]⟩ := by
  constructor
  · intro h; apply bytes_ext; exact List.eq_nil_of_length_eq_zero (by rw [Array.length_toList]; exact h)
  · rintro rfl; rfl

set_option maxRecDepth 100000 in
set_option maxHeartbeats 4000000 in
theorem i_between (b off cap : Nat) (l : List Pr) (lo hi : ByteArray) (w : World) (h : SlP w (some ⟨b, off, none⟩) l.length l) (hsz : l.length ≤ 1099511627776) :
    Calls Tryd.prog 61 #[.slice (some ⟨b, off, none⟩) l.length cap, .string lo, .string hi] w fun e w' =>
      ∃ g' n' cap', e = .returned (.slice (some ⟨g', 0, none⟩) n' cap') ∧ OwnP w' w.heap.size g' n' cap' (between lo hi l) ∧ Below w.heap.size w w' := by
  obtain ⟨i0, hif, hz0, hz1, hz2⟩ := info_parts infoP
  have hsm := h.2.2.1
  have hmt := i_meth
  go_enter Tryd.func61, Tryd.ntmps61
  go_wp2_with (at_builtin; fail)
  go_loopw [7, 13] (fun v i wr => ∃ (k g n cp : Nat), k ≤ l.length ∧ n ≤ k ∧ i = .int .i64 (k : Int) ∧ v = .slice (some ⟨g, 0, none⟩) n cp ∧ OwnP wr w.heap.size g n cp (between lo hi (l.take k)) ∧ Below w.heap.size w wr) (fun _ i _ => l.length - (intOf i).toNat)
  case atStart => exact ⟨0, w.heap.size, 0, 0, Nat.zero_le _, Nat.le_refl _, rfl, rfl, ownP_made w _ (Nat.le_refl _), (Below.refl _ _).alloc (Nat.le_refl _) _⟩
  case round =>
    obtain ⟨k, g, n, cp, hk, hnk, rfl, rfl, hO, hB⟩ := hrel
    have hbw : w.heap.size ≤ wr.heap.size := hB.size
    by_cases hlt : k < l.length
    · obtain ⟨c1, c2⟩ := (h.below hB).cells k hlt
      have hst := filter_snoc (fun p => inB lo hi p.1) l k hlt
      have hpk := hsm _ (List.getElem_mem hlt)
      have hki : (k : Int) < (l.length : Int) := by omega
      cases h1 : Op.bytesLess l[k].1.toList lo.toList
      · by_cases h2 : hi = ⟨#[]⟩
        · have HIN : Hid (inB lo hi l[k].1 = true) := by show _ = _; unfold inB; rw [show ltB l[k].1 lo = false from h1, decide_eq_true ((empty_iff hi).2 h2)]; rfl
          subst h2
          have HF : Hid (between lo ⟨#[]⟩ (l.take (k + 1)) = between lo ⟨#[]⟩ (l.take k) ++ [l[k]]) := by
            show List.filter _ _ = List.filter _ _ ++ _
            rw [hst, HIN.out]; simp
          have hc3 : n + 1 ≤ maxLen := by unfold maxLen; omega
          have hc4 : (n + 1) * 32 ≤ 140737488355328 := by omega
          clear hst HIN
          generalize l[k] = p at *
          go_wp2_with fail
          refine (i_key p _).mono ?_
          rintro e w3 ⟨rfl, hw3⟩
          have hX3 : Below (wr.alloc (.cells #[.string p.1, .string p.2] 65)).heap.size (wr.alloc (.cells #[.string p.1, .string p.2] 65)) w3 := by rw [hw3]; exact (Below.refl _ _).alloc (Nat.le_refl _) _
          have hXB : Below wr.heap.size wr w3 := ((Below.refl _ _).alloc (Nat.le_refl _) _).trans (hX3.mono (le_alloc _ _ (Nat.le_refl _)))
          have hB3 : Below w.heap.size w w3 := hB.trans (hXB.mono hB.size)
          have hO3 : OwnP w3 w.heap.size g n cp (between lo ⟨#[]⟩ (l.take k)) := hO.below hXB
          obtain ⟨cb0, cb1⟩ := box_cell wr w3 p.1 p.2 hX3
          clear hw3 hO hB hXB c1 c2
          have hszW : w.heap.size ≤ w3.heap.size := hB3.size
          go_wp2_with (at_builtin; refine wpList_append_own _ rfl (.tmp 33) (.tmp 35) 86 rfl w.heap.size 65 i0 (.agg #[.string ⟨#[]⟩, .string ⟨#[]⟩]) 2 32 Tryd.underlying86 hif hz0 hz1 hz2 rfl (by decide) _ _ _ rfl (hO3.2.2.alloc _) ⟨w3.heap.size, 0, none⟩ 1 1 (pairVals [p]) rfl rfl (one_pair_cells _ _ _) (pairVals_oneCell _) hc3 hc4 (le_alloc _ _ hszW) ?_)
          intro v2 w2 hown hgrow hnn
          obtain ⟨g2, cp2, hv, hO2⟩ := ownP_app hO3.1 hO3.2.1 hpk hnn hown
          subst hv
          have hB2 : Below w.heap.size w w2 := (hB3.alloc hszW _).grown hgrow (le_alloc _ _ hszW) (fun k e => by simp [Value.ownBlock] at e; have := hO3.lt; omega)
          rw [← HF.out] at hO2
          have HO2 := Hid.mk' hO2
          clear hown hgrow hnn hO2 hO3 hB3
          go_wp2_with (at_builtin; fail)
          go_roundw
          case rel => exact ⟨k + 1, g2, n + 1, cp2, by omega, by omega, by go_num, rfl, HO2.out, hB2⟩
          case measure => simp [intOf]; omega
        · have hq2 : (hi.toList == []) = false := by
            rw [beq_eq_false_iff_ne]; intro e; exact h2 (bytes_ext (by rw [← ByteArray.toList_eq]; exact e))
          have hq : ¬ hi.toList = [] := fun e => h2 (bytes_ext (by rw [← ByteArray.toList_eq]; exact e))
          have hq3 : hi.toList.isEmpty = false := by rw [Bool.eq_false_iff]; intro e; exact hq (List.isEmpty_iff.1 e)
          have hz : decide (hi.size = 0) = false := decide_eq_false (fun e => h2 ((empty_iff hi).1 e))
          cases h3 : Op.bytesLess l[k].1.toList hi.toList
          · have HIN : Hid (inB lo hi l[k].1 = false) := by show _ = _; unfold inB; rw [show ltB l[k].1 lo = false from h1, hz, show ltB l[k].1 hi = false from h3]; rfl
            clear hz h2
            have HF : Hid (between lo hi (l.take (k + 1)) = between lo hi (l.take k)) := by
              show List.filter _ _ = List.filter _ _
              rw [hst, HIN.out]; simp
            clear hst HIN
            generalize l[k] = p at *
            go_wp2_with fail
            refine (i_key p _).mono ?_
            rintro e w3 ⟨rfl, hw3⟩
            have hX3 : Below (wr.alloc (.cells #[.string p.1, .string p.2] 65)).heap.size (wr.alloc (.cells #[.string p.1, .string p.2] 65)) w3 := by rw [hw3]; exact (Below.refl _ _).alloc (Nat.le_refl _) _
            have hXB : Below wr.heap.size wr w3 := ((Below.refl _ _).alloc (Nat.le_refl _) _).trans (hX3.mono (le_alloc _ _ (Nat.le_refl _)))
            have hB3 : Below w.heap.size w w3 := hB.trans (hXB.mono hB.size)
            have hO3 : OwnP w3 w.heap.size g n cp (between lo hi (l.take k)) := hO.below hXB
            obtain ⟨cb0, cb1⟩ := box_cell wr w3 p.1 p.2 hX3
            clear hw3 hO hB hXB c1 c2
            go_wp2_with fail
            refine (i_key p _).mono ?_
            rintro e w4 ⟨rfl, hw4⟩
            have hXB : Below w3.heap.size w3 w4 := by rw [hw4]; exact (Below.refl _ _).alloc (Nat.le_refl _) _
            have hB4 : Below w.heap.size w w4 := hB3.trans (hXB.mono hB3.size)
            have hO4 : OwnP w4 w.heap.size g n cp (between lo hi (l.take k)) := hO3.below hXB
            obtain ⟨cc0, cc1⟩ := box_cell wr w4 p.1 p.2 (hX3.trans (hXB.mono hX3.size))
            clear hw4 hO3 hB3 hXB cb0 cb1
            go_wp2_with (at_builtin; fail)
            go_roundw
            case rel => exact ⟨k + 1, g, n, cp, by omega, by omega, by go_num, rfl, by rw [HF.out]; exact hO4, hB4⟩
            case measure => simp [intOf]; omega
          · have HIN : Hid (inB lo hi l[k].1 = true) := by show _ = _; unfold inB; rw [show ltB l[k].1 lo = false from h1, hz, show ltB l[k].1 hi = true from h3]; rfl
            clear hz h2
            have HF : Hid (between lo hi (l.take (k + 1)) = between lo hi (l.take k) ++ [l[k]]) := by
              show List.filter _ _ = List.filter _ _ ++ _
              rw [hst, HIN.out]; simp
            have hc3 : n + 1 ≤ maxLen := by unfold maxLen; omega
            have hc4 : (n + 1) * 32 ≤ 140737488355328 := by omega
            clear hst HIN
            generalize l[k] = p at *
            go_wp2_with fail
            refine (i_key p _).mono ?_
            rintro e w3 ⟨rfl, hw3⟩
            have hX3 : Below (wr.alloc (.cells #[.string p.1, .string p.2] 65)).heap.size (wr.alloc (.cells #[.string p.1, .string p.2] 65)) w3 := by rw [hw3]; exact (Below.refl _ _).alloc (Nat.le_refl _) _
            have hXB : Below wr.heap.size wr w3 := ((Below.refl _ _).alloc (Nat.le_refl _) _).trans (hX3.mono (le_alloc _ _ (Nat.le_refl _)))
            have hB3 : Below w.heap.size w w3 := hB.trans (hXB.mono hB.size)
            have hO3 : OwnP w3 w.heap.size g n cp (between lo hi (l.take k)) := hO.below hXB
            obtain ⟨cb0, cb1⟩ := box_cell wr w3 p.1 p.2 hX3
            clear hw3 hO hB hXB c1 c2
            go_wp2_with fail
            refine (i_key p _).mono ?_
            rintro e w4 ⟨rfl, hw4⟩
            have hXB : Below w3.heap.size w3 w4 := by rw [hw4]; exact (Below.refl _ _).alloc (Nat.le_refl _) _
            have hB4 : Below w.heap.size w w4 := hB3.trans (hXB.mono hB3.size)
            have hO4 : OwnP w4 w.heap.size g n cp (between lo hi (l.take k)) := hO3.below hXB
            obtain ⟨cc0, cc1⟩ := box_cell wr w4 p.1 p.2 (hX3.trans (hXB.mono hX3.size))
            clear hw4 hO3 hB3 hXB cb0 cb1
            have hszW : w.heap.size ≤ w4.heap.size := hB4.size
            go_wp2_with (at_builtin; refine wpList_append_own _ rfl (.tmp 33) (.tmp 35) 86 rfl w.heap.size 65 i0 (.agg #[.string ⟨#[]⟩, .string ⟨#[]⟩]) 2 32 Tryd.underlying86 hif hz0 hz1 hz2 rfl (by decide) _ _ _ rfl (hO4.2.2.alloc _) ⟨w4.heap.size, 0, none⟩ 1 1 (pairVals [p]) rfl rfl (one_pair_cells _ _ _) (pairVals_oneCell _) hc3 hc4 (le_alloc _ _ hszW) ?_)
            intro v2 w2 hown hgrow hnn
            obtain ⟨g2, cp2, hv, hO2⟩ := ownP_app hO4.1 hO4.2.1 hpk hnn hown
            subst hv
            have hB2 : Below w.heap.size w w2 := (hB4.alloc hszW _).grown hgrow (le_alloc _ _ hszW) (fun k e => by simp [Value.ownBlock] at e; have := hO4.lt; omega)
            rw [← HF.out] at hO2
            have HO2 := Hid.mk' hO2
            clear hown hgrow hnn hO2 hO4 hB4
            go_wp2_with (at_builtin; fail)
            go_roundw
            case rel => exact ⟨k + 1, g2, n + 1, cp2, by omega, by omega, by go_num, rfl, HO2.out, hB2⟩
            case measure => simp [intOf]; omega
      · have HIN : Hid (inB lo hi l[k].1 = false) := by show _ = _; unfold inB; rw [show ltB l[k].1 lo = true from h1]; rfl
        have HF : Hid (between lo hi (l.take (k + 1)) = between lo hi (l.take k)) := by
          show List.filter _ _ = List.filter _ _
          rw [hst, HIN.out]; simp
        clear hst HIN
        generalize l[k] = p at *
        go_wp2_with fail
        refine (i_key p _).mono ?_
        rintro e w3 ⟨rfl, hw3⟩
        have hX3 : Below (wr.alloc (.cells #[.string p.1, .string p.2] 65)).heap.size (wr.alloc (.cells #[.string p.1, .string p.2] 65)) w3 := by rw [hw3]; exact (Below.refl _ _).alloc (Nat.le_refl _) _
        have hXB : Below wr.heap.size wr w3 := ((Below.refl _ _).alloc (Nat.le_refl _) _).trans (hX3.mono (le_alloc _ _ (Nat.le_refl _)))
        have hB3 : Below w.heap.size w w3 := hB.trans (hXB.mono hB.size)
        have hO3 : OwnP w3 w.heap.size g n cp (between lo hi (l.take k)) := hO.below hXB
        obtain ⟨cb0, cb1⟩ := box_cell wr w3 p.1 p.2 hX3
        clear hw3 hO hB hXB c1 c2
        go_wp2_with (at_builtin; fail)
        go_roundw
        case rel => exact ⟨k + 1, g, n, cp, by omega, by omega, by go_num, rfl, by rw [HF.out]; exact hO3, hB3⟩
        case measure => simp [intOf]; omega
    · have HE : Hid (l.take k = l) := List.take_of_length_le (by omega)
      go_wp2_with (at_builtin; fail)
      go_ret
      rw [HE.out] at hO
      exact ⟨g, n, cp, rfl, hO, hB⟩

set_option maxHeartbeats 1000000 in
theorem impl_between (b off len cap : Nat) (l : List Pr) (lo hi : ByteArray) (w : World) (h : SlP w (some ⟨b, off, none⟩) len l) (hcap : len ≤ cap) (hsz : len ≤ 1099511627776) :
    Calls Tryd.prog 51 #[.slice (some ⟨b, off, none⟩) len cap, .string lo, .string hi] w fun e w' =>
      ∃ g' n' cap', e = .returned (.slice (some ⟨g', 0, none⟩) n' cap') ∧ OwnP w' w.heap.size g' n' cap' (between lo hi l) ∧ Below w.heap.size w w' := by
  have hl := h.1
  subst hl
  have HW := Hid.mk' (i_between b off cap l lo hi w h hsz)
  go_enter Tryd.func51, Tryd.ntmps51
  go_wp2_with fail
  refine HW.out.mono ?_
  rintro e w2 ⟨g, n, cp, rfl, hO, hB⟩
  have HO := Hid.mk' hO
  clear hO
  go_wp2_with fail
  go_ret
  exact ⟨g, n, cp, rfl, HO.out, hB⟩

end Go.Proofs.YteammdkipnfmnaaDoor.pairs

namespace Go.Proofs.YteammdkipnfmnaaDoor.range
open Go Go.RowKit Go.Proofs.YteammdkipnfmnaaDoor.base Go.Proofs.YteammdkipnfmnaaDoor.pairs Go.Proofs.YteammdkipnfmnaaDoor.tree
set_option linter.unusedVariables false
set_option linter.unusedSimpArgs false

theorem lowN_filter (lo : ByteArray) (l : List Pr) (hr : Rise l) : lowN lo l = (l.filter fun p => ltB p.1 lo).length := by
  unfold lowN
  rw [filter_eq_takeWhile (l := l) (f := fun p => ltB p.1 lo)]
  exact List.Pairwise.imp (fun {p q} h hq => ltB_trans h hq) hr
theorem between_open (lo : ByteArray) (l : List Pr) (hr : Rise l) : (between lo ⟨#[]⟩ l).length + lowN lo l = l.length := by
  rw [lowN_filter lo l hr]
  have h : between lo ⟨#[]⟩ l = l.filter fun p => !ltB p.1 lo := by
    unfold between; congr 1; funext p; unfold inB
    simp [ByteArray.size]
  rw [h]
  clear h hr
  induction l with
  | nil => rfl
  | cons p l ih => cases hp : ltB p.1 lo <;> simp [List.filter_cons, hp] <;> omega

set_option maxRecDepth 100000 in
set_option maxHeartbeats 1000000 in
theorem impl_stretchOf (b off cap : Nat) (l : List Pr) (lo hi : ByteArray) (w : World) (h : SlP w (some ⟨b, off, none⟩) l.length l) (hcap : l.length ≤ cap) (hr : Rise l) (h60 : l.length ≤ 60) :
    Calls Tryd.prog 37 #[.slice (some ⟨b, off, none⟩) l.length cap, .string lo, .string hi] w fun e w' =>
      e = .returned (.tuple #[.int .i64 (fromN lo l : Int), .int .i64 (toN lo hi l : Int)]) ∧ Below w.heap.size w w' := by
  have H1 := Hid.mk' (impl_between b off l.length cap l lo ⟨#[]⟩ w h hcap (by omega))
  have H2 : Hid (∀ wx, Below w.heap.size w wx → Calls Tryd.prog 51 #[.slice (some ⟨b, off, none⟩) l.length cap, .string lo, .string hi] wx fun e w' =>
      ∃ g' n' cap', e = .returned (.slice (some ⟨g', 0, none⟩) n' cap') ∧ OwnP w' wx.heap.size g' n' cap' (between lo hi l) ∧ Below wx.heap.size wx w') :=
    fun wx hx => impl_between b off l.length cap l lo hi wx (h.below hx) hcap (by omega)
  have e1 := between_open lo l hr
  have e2 := between_count lo hi l hr
  have e3 := segN_le lo hi l
  obtain ⟨N, hN⟩ : ∃ N, l.length = N := ⟨_, rfl⟩
  obtain ⟨L, hL⟩ : ∃ L, lowN lo l = L := ⟨_, rfl⟩
  obtain ⟨S, hS⟩ : ∃ S, segN lo hi l = S := ⟨_, rfl⟩
  have hF : fromN lo l = L - 1 := by unfold fromN; rw [hL]
  have hT : toN lo hi l = if L + S < N then L + S + 1 else L + S := by unfold toN; rw [hL, hS, hN]
  have HF := Hid.mk' hF
  have HT := Hid.mk' hT
  rw [hL, hN] at e1
  rw [hS] at e2
  rw [hL, hS, hN] at e3
  rw [hN] at h60
  simp only [hN] at H1 H2 ⊢
  have HE1 := Hid.mk' e1
  have HE2 := Hid.mk' e2
  clear h hr hL hS hN hF hT e1 e2
  go_enter Tryd.func37, Tryd.ntmps37
  go_wp2_with (at_builtin; fail)
  refine H1.out.mono ?_
  rintro e w1 ⟨g1, n1, c1, rfl, hO1, hb1⟩
  have hn1 : n1 + L = N := by have := hO1.1; have := HE1.out; omega
  clear H1 hO1
  have q1 : (N : Int) - (n1 : Int) = (L : Int) := by omega
  go_wp2_with (at_builtin; fail)
  refine (H2.out _ hb1).mono ?_
  rintro e w2 ⟨g2, n2, c2, rfl, hO2, hb2⟩
  have hn2 : n2 = S := by have := hO2.1; have := HE2.out; omega
  subst hn2
  have hB2 := hb1.trans (hb2.mono hb1.size)
  clear H2 hO2
  go_wp2_with (at_builtin; fail)
  go_ret2
  have k1 : max ((L : Int) - 1) 0 = ((fromN lo l : Nat) : Int) := by rw [HF.out]; omega
  have k2 : min ((L : Int) + (n2 : Int) + 1) (N : Int) = ((toN lo hi l : Nat) : Int) := by rw [HT.out]; split <;> omega
  refine ⟨?_, hB2⟩
  show Ending.returned (.tuple #[.int .i64 (max ((L : Int) - 1) 0), .int .i64 (min ((L : Int) + (n2 : Int) + 1) (N : Int))]) = _
  rw [k1, k2]
end Go.Proofs.YteammdkipnfmnaaDoor.range

namespace Go.Proofs.YteammdkipnfmnaaDoor.tree
open Go Go.Proofs.YteammdkipnfmnaaDoor.base Go.Proofs.YteammdkipnfmnaaDoor.pairs
set_option linter.unusedVariables false

end Go.Proofs.YteammdkipnfmnaaDoor.tree

namespace Go.Proofs.YteammdkipnfmnaaDoor.base
open Go.RowKit
set_option linter.unusedVariables false

section
variable {w w' : World} {base base' g n cap : Nat} {zs : List Bool} {row : Option Nat}
end
end Go.Proofs.YteammdkipnfmnaaDoor.base

namespace Go.Proofs.YteammdkipnfmnaaDoor.tree
open Go Go.RowKit Go.Proofs.YteammdkipnfmnaaDoor.base Go.Proofs.YteammdkipnfmnaaDoor.pairs Go.Proofs.YteammdkipnfmnaaDoor.puttext Go.Proofs.YteammdkipnfmnaaDoor.putnum
set_option linter.unusedVariables false
set_option linter.unusedSimpArgs false

def bl (x : Nat) : Nat := if x < 2 then 1 else if x < 4 then 2 else if x < 8 then 3 else if x < 16 then 4 else if x < 32 then 5 else 6
theorem bl_le (q : Nat) : bl q ≤ 6 := by
  unfold bl
  repeat' split
  all_goals omega
theorem bytes_at (l : List UInt8) (q : Nat) (h : q < (⟨l.toArray⟩ : ByteArray).size) : (⟨l.toArray⟩ : ByteArray)[q]'h = l.getD q 0 := by
  have hq : q < l.length := by have : (⟨l.toArray⟩ : ByteArray).size = l.length := by show l.toArray.size = _; simp
                               omega
  show l.toArray[q]'(by simpa using hq) = _
  simp [List.getD, hq]
theorem blAll (l : List UInt8) (hl : ((List.range 64).all fun q => q == 0 || (l.getD q 0).toNat == bl q) = true) (q : Nat) (h1 : 1 ≤ q) (h2 : q < 64) (h : q < (⟨l.toArray⟩ : ByteArray).size) : wrap64 (wrap64 (((⟨l.toArray⟩ : ByteArray)[q]'h).toNat : Int)) = (bl q : Int) := by
  have hx := List.all_eq_true.1 hl q (List.mem_range.2 h2)
  have hb := bl_le q
  have hx2 : (l.getD q 0).toNat = bl q := by
    rcases Bool.or_eq_true _ _ ▸ hx with h3 | h3
    · have := eq_of_beq h3; omega
    · exact eq_of_beq h3
  rw [bytes_at, hx2, IntWalk.wrap64_in (bl q : Int) (by omega), IntWalk.wrap64_in (bl q : Int) (by omega)]
theorem blTab (q : Nat) (h1 : 1 ≤ q) (h2 : q < 64) (h : q < (⟨#[0, 1, 2, 2, 3, 3, 3, 3, 4, 4, 4, 4, 4, 4, 4, 4, 5, 5, 5, 5, 5, 5, 5, 5, 5, 5, 5, 5, 5, 5, 5, 5, 6, 6, 6, 6, 6, 6, 6, 6, 6, 6, 6, 6, 6, 6, 6, 6, 6, 6, 6, 6, 6, 6, 6, 6, 6, 6, 6, 6, 6, 6, 6, 6, 7, 7, 7, 7, 7, 7, 7, 7, 7, 7, 7, 7, 7, 7, 7, 7, 7, 7, 7, 7, 7, 7, 7, 7, 7, 7, 7, 7, 7, 7, 7, 7, 7, 7, 7, 7, 7, 7, 7, 7, 7, 7, 7, 7, 7, 7, 7, 7, 7, 7, 7, 7, 7, 7, 7, 7, 7, 7, 7, 7, 7, 7, 7, 7, 8, 8, 8, 8, 8, 8, 8, 8, 8, 8, 8, 8, 8, 8, 8, 8, 8, 8, 8, 8, 8, 8, 8, 8, 8, 8, 8, 8, 8, 8, 8, 8, 8, 8, 8, 8, 8, 8, 8, 8, 8, 8, 8, 8, 8, 8, 8, 8, 8, 8, 8, 8, 8, 8, 8, 8, 8, 8, 8, 8, 8, 8, 8, 8, 8, 8, 8, 8, 8, 8, 8, 8, 8, 8, 8, 8, 8, 8, 8, 8, 8, 8, 8, 8, 8, 8, 8, 8, 8, 8, 8, 8, 8, 8, 8, 8, 8, 8, 8, 8, 8, 8, 8, 8, 8, 8, 8, 8, 8, 8, 8, 8, 8, 8, 8, 8, 8, 8, 8, 8, 8, 8, 8, 8, 8, 8, 8, 8]⟩ : ByteArray).size) : wrap64 (wrap64 (((⟨#[0, 1, 2, 2, 3, 3, 3, 3, 4, 4, 4, 4, 4, 4, 4, 4, 5, 5, 5, 5, 5, 5, 5, 5, 5, 5, 5, 5, 5, 5, 5, 5, 6, 6, 6, 6, 6, 6, 6, 6, 6, 6, 6, 6, 6, 6, 6, 6, 6, 6, 6, 6, 6, 6, 6, 6, 6, 6, 6, 6, 6, 6, 6, 6, 7, 7, 7, 7, 7, 7, 7, 7, 7, 7, 7, 7, 7, 7, 7, 7, 7, 7, 7, 7, 7, 7, 7, 7, 7, 7, 7, 7, 7, 7, 7, 7, 7, 7, 7, 7, 7, 7, 7, 7, 7, 7, 7, 7, 7, 7, 7, 7, 7, 7, 7, 7, 7, 7, 7, 7, 7, 7, 7, 7, 7, 7, 7, 7, 8, 8, 8, 8, 8, 8, 8, 8, 8, 8, 8, 8, 8, 8, 8, 8, 8, 8, 8, 8, 8, 8, 8, 8, 8, 8, 8, 8, 8, 8, 8, 8, 8, 8, 8, 8, 8, 8, 8, 8, 8, 8, 8, 8, 8, 8, 8, 8, 8, 8, 8, 8, 8, 8, 8, 8, 8, 8, 8, 8, 8, 8, 8, 8, 8, 8, 8, 8, 8, 8, 8, 8, 8, 8, 8, 8, 8, 8, 8, 8, 8, 8, 8, 8, 8, 8, 8, 8, 8, 8, 8, 8, 8, 8, 8, 8, 8, 8, 8, 8, 8, 8, 8, 8, 8, 8, 8, 8, 8, 8, 8, 8, 8, 8, 8, 8, 8, 8, 8, 8, 8, 8, 8, 8, 8, 8, 8, 8]⟩ : ByteArray)[q]'h).toNat : Int)) = (bl q : Int) :=
  blAll _ (by kernel_rfl) q h1 h2 h

set_option maxRecDepth 100000 in
set_option maxHeartbeats 1000000 in
theorem len64 (y : Int) (w : World) (h1 : 1 ≤ y) (h2 : y < 64) :
    Calls Tryd.prog 91 #[.int .u64 y] w fun e w' => e = .returned (.int .i64 (bl y.toNat : Int)) ∧ w' = w := by
  go_enter Tryd.func91, Tryd.ntmps91
  go_wp2_with fail
  go_ret
  exact ⟨ret_int (blTab _ (by omega) (by omega) _), rfl⟩

set_option maxHeartbeats 1000000 in
theorem bitsLen (y : Int) (w : World) (h1 : 1 ≤ y) (h2 : y < 64) :
    Calls Tryd.prog 82 #[.int .u64 y] w fun e w' => e = .returned (.int .i64 (bl y.toNat : Int)) ∧ w' = w := by
  have HL := Hid.mk' (len64 y w h1 h2)
  go_enter Tryd.func82, Tryd.ntmps82
  go_wp2_with fail
  refine HL.out.mono ?_
  rintro e w1 ⟨rfl, hw1⟩
  subst hw1
  go_wp2_with fail
  go_ret
  exact ⟨rfl, rfl⟩

set_option maxHeartbeats 2000000 in
theorem impl_half (n : Nat) (w : World) (h : 2 ≤ n) (h64 : n ≤ 64) :
    Calls Tryd.prog 74 #[.int .i64 (n : Int)] w fun e w' => e = .returned (.int .i64 (half n : Int)) ∧ w' = w := by
  have hL := bitsLen ((n : Int) - 1) w (by omega) (by omega)
  have hb : ∃ k : Nat, bl ((n : Int) - 1).toNat = k ∧ (k = 1 ∧ half n = 1 ∨ k = 2 ∧ half n = 2 ∨ k = 3 ∧ half n = 4 ∨ k = 4 ∧ half n = 8 ∨ k = 5 ∧ half n = 16 ∨ k = 6 ∧ half n = 32) := by
    refine ⟨_, rfl, ?_⟩
    unfold bl half
    repeat' split
    all_goals omega
  obtain ⟨k, hk, hb⟩ := hb
  rw [hk] at hL
  have e1 : IntKind.u64.wrap ((n : Int) - 1) = (n : Int) - 1 := by rw [IntKind.wrap_u64]; omega
  have HL := Hid.mk' hL
  clear hL hk
  rcases hb with ⟨rfl, hh⟩ | ⟨rfl, hh⟩ | ⟨rfl, hh⟩ | ⟨rfl, hh⟩ | ⟨rfl, hh⟩ | ⟨rfl, hh⟩
  all_goals
    rw [hh]
    clear hh
    go_enter Tryd.func74, Tryd.ntmps74
    go_wp2_with fail
    refine HL.out.mono ?_
    rintro e w1 ⟨rfl, hw1⟩
    subst hw1
    go_wp2_with fail
    go_ret
    exact ⟨rfl, rfl⟩
end Go.Proofs.YteammdkipnfmnaaDoor.tree

namespace Go.Proofs.YteammdkipnfmnaaDoor.tree
open Go Go.RowKit Go.Proofs.YteammdkipnfmnaaDoor.base Go.Proofs.YteammdkipnfmnaaDoor.pairs Go.Proofs.YteammdkipnfmnaaDoor.puttext Go.Proofs.YteammdkipnfmnaaDoor.putnum
set_option linter.unusedVariables false
set_option linter.unusedSimpArgs false

set_option maxHeartbeats 1000000 in
theorem impl_placeOk (I N : Int) (w : World) :
    Calls Tryd.prog 62 #[.int .i64 I, .int .i64 N] w fun e w' => e = .returned (.bool (decide (N ≤ 60) && decide (0 ≤ I) && decide (I < N))) ∧ w' = w := by
  by_cases h1 : N ≤ 60
  · by_cases h2 : 0 ≤ I
    · by_cases h3 : I < N
      · go_enter Tryd.func62, Tryd.ntmps62
        go_wp2
        go_ret
        exact ⟨ret_bool (by simp [h1, h2, h3]), rfl⟩
      · go_enter Tryd.func62, Tryd.ntmps62
        go_wp2
        go_ret
        exact ⟨ret_bool (by have h4 : ¬ I < N := by omega
                            simp [h1, h2, h4]), rfl⟩
    · go_enter Tryd.func62, Tryd.ntmps62
      go_wp2
      go_ret
      exact ⟨ret_bool (by have h4 : ¬ 0 ≤ I := by omega
                          simp [h1, h4]), rfl⟩
  · go_enter Tryd.func62, Tryd.ntmps62
    go_wp2
    go_ret
    exact ⟨ret_bool (by have h4 : ¬ N ≤ 60 := by omega
                        simp [h4]), rfl⟩

set_option maxRecDepth 100000 in
set_option maxHeartbeats 1000000 in
theorem impl_halves (b off n cap : Nat) (w : World) (h : 2 ≤ n) (h64 : n ≤ 60) (hcap : n ≤ cap) (k : Nat) (hk : half n = k) :
    Calls Tryd.prog 64 #[.slice (some ⟨b, off, none⟩) n cap] w fun e w' =>
      e = .returned (.tuple #[.slice (some ⟨b, off, none⟩) k k, .slice (some ⟨b, off + k * 2, none⟩) (n - k) (n - k)]) ∧ Below w.heap.size w w' := by
  have hbd := half_bd n h
  have hL := impl_half n w h (by omega)
  rw [hk] at hL hbd
  have HL := Hid.mk' hL
  clear hL hk
  have q1 : (k : Int) ≤ (cap : Int) := by omega
  have q3 : (k : Int) ≤ (n : Int) := by omega
  have q4 : (n : Int) ≤ (cap : Int) := by omega
  have q2 : ¬ n = k := by omega
  go_enter Tryd.func64, Tryd.ntmps64
  go_wp2_with fail
  refine HL.out.mono ?_
  rintro e w1 ⟨rfl, hw1⟩
  subst hw1
  go_wp2_with fail
  go_region
  go_wp2_with fail
  go_ret2
  exact ⟨rfl, (Below.refl _ _).drew⟩

/-! ### a row of truths turned round -/
end Go.Proofs.YteammdkipnfmnaaDoor.tree

namespace Go.Proofs.YteammdkipnfmnaaDoor.tree
open Go Go.RowKit Go.Proofs.YteammdkipnfmnaaDoor.base Go.Proofs.YteammdkipnfmnaaDoor.pairs Go.Proofs.YteammdkipnfmnaaDoor.puttext Go.Proofs.YteammdkipnfmnaaDoor.putnum
set_option linter.unusedVariables false
set_option linter.unusedSimpArgs false

end Go.Proofs.YteammdkipnfmnaaDoor.tree

namespace Go.Proofs.YteammdkipnfmnaaDoor.tree
open Go Go.RowKit Go.Proofs.YteammdkipnfmnaaDoor.base Go.Proofs.YteammdkipnfmnaaDoor.pairs Go.Proofs.YteammdkipnfmnaaDoor.puttext Go.Proofs.YteammdkipnfmnaaDoor.putnum
set_option linter.unusedVariables false
set_option linter.unusedSimpArgs false

end Go.Proofs.YteammdkipnfmnaaDoor.tree

namespace Go.Proofs.YteammdkipnfmnaaDoor.sha
open Go.RowKit Go.Proofs.YteammdkipnfmnaaDoor.base Go.Proofs.YteammdkipnfmnaaDoor.padmath
set_option linter.unusedVariables false
set_option linter.unusedSimpArgs false

theorem wraps_u64 (n : Int) (h₀ : 0 ≤ n) (h₁ : n < 2 ^ 64) : IntKind.u64.wrap n = n := by rw [IntKind.wrap_u64]; omega
theorem wraps_u32 (n : Int) (h₀ : 0 ≤ n) (h₁ : n < 2 ^ 32) : IntKind.u32.wrap n = n := by rw [IntKind.wrap_u32]; omega
theorem u64_mask5 (x : Int) (h₀ : 0 ≤ x) (h₁ : x < 18446744073709551616) : bits .and .u64 x 31 = x % 32 :=
  bits_mask .u64 64 (by decide) wraps_u64 5 (by decide) x h₀ (by omega)
theorem neg31 (n m : Nat) (hn : 1 ≤ n) (hm : m + n = 32) (hm1 : 1 ≤ m) : bits .and .u64 (IntKind.u64.wrap (-(n : Int))) 31 = (m : Int) := by
  have e : IntKind.u64.wrap (-(n : Int)) = 18446744073709551616 - (n : Int) := by rw [IntKind.wrap_u64]; omega
  rw [e, u64_mask5 _ (by omega) (by omega)]
  omega
theorem u32_or_nat (a b : Nat) (ha : a < 4294967296) (hb : b < 4294967296) : bits .or .u32 (a : Int) (b : Int) = ((a ||| b : Nat) : Int) :=
  (bits_nat .u32 32 (by decide) wraps_u32 a b (by omega) (by omega)).2
theorem u32_and_nat (a b : Nat) (ha : a < 4294967296) (hb : b < 4294967296) : bits .and .u32 (a : Int) (b : Int) = ((a &&& b : Nat) : Int) :=
  (bits_nat .u32 32 (by decide) wraps_u32 a b (by omega) (by omega)).1
theorem rot_val (x n m : Nat) (hx : x < 4294967296) (hm : m + n = 32) : bits .or .u32 ((x : Int) * 2 ^ m % 4294967296) ((x : Int) / 2 ^ n) = (rotr n x : Int) := by
  have e1 : (x : Int) / 2 ^ n = ((x / 2 ^ n : Nat) : Int) := by rw [Int.natCast_ediv, Int.natCast_pow]; rfl
  have e2 : (x : Int) * 2 ^ m % 4294967296 = ((x * 2 ^ m % 4294967296 : Nat) : Int) := by rw [Int.natCast_emod, Int.natCast_mul, Int.natCast_pow]; rfl
  rw [e1, e2, u32_or_nat _ _ (Nat.mod_lt _ (by omega)) (div32 _ hx), Nat.or_comm]
  unfold rotr
  rw [show 32 - n = m by omega]
set_option maxHeartbeats 400000 in
theorem impl_rot (x n : Nat) (w : World) (hx : x < 4294967296) (hn : 1 ≤ n) (hn2 : n ≤ 31) :
    Calls Tryd.prog 96 #[.int .u32 (x : Int), .int .i64 (-(n : Int))] w fun e w' => e = .returned (.int .u32 (rotr n x : Int)) ∧ w' = w := by
  obtain ⟨m, hm⟩ : ∃ m, m + n = 32 := ⟨32 - n, by omega⟩
  have hm1 : 1 ≤ m := by omega
  have hm2 : m ≤ 31 := by omega
  have hA := neg31 n m hn hm hm1
  have hS : (32 : Int) - (m : Int) = (n : Int) := by omega
  have HV := Hid.mk' (rot_val x n m hx hm)
  clear hm
  go_enter Tryd.func96, Tryd.ntmps96
  go_wp2
  go_ret
  exact ⟨ret_int HV.out, rfl⟩
theorem impl_rotI (x n : Nat) (N : Int) (w : World) (hN : Hid (N = -(n : Int))) (hx : x < 4294967296) (hn : 1 ≤ n) (hn2 : n ≤ 31) :
    Calls Tryd.prog 96 #[.int .u32 (x : Int), .int .i64 N] w fun e w' => e = .returned (.int .u32 (rotr n x : Int)) ∧ w' = w := by
  have e := hN.out
  subst e
  exact impl_rot x n w hx hn hn2
theorem u32_xor3 (a b c : Nat) (ha : a < 4294967296) (hb : b < 4294967296) (hc : c < 4294967296) : bits .xor .u32 (bits .xor .u32 (a : Int) (b : Int)) (c : Int) = ((a ^^^ b ^^^ c : Nat) : Int) := by
  rw [u32_xor_nat a b ha hb, u32_xor_nat _ _ (xor32 ha hb) hc]
theorem sz_val (x : Nat) (h : x < 4294967296) : bits .xor .u32 (bits .xor .u32 (rotr 7 x : Int) (rotr 18 x : Int)) ((x : Int) / 8) = (ssig0 x : Int) := by
  rw [show (x : Int) / 8 = ((x / 8 : Nat) : Int) by omega, u32_xor3 _ _ _ (rotr_lt _ _ h) (rotr_lt _ _ h) (div32 _ h)]; rfl
theorem so_val (x : Nat) (h : x < 4294967296) : bits .xor .u32 (bits .xor .u32 (rotr 17 x : Int) (rotr 19 x : Int)) ((x : Int) / 1024) = (ssig1 x : Int) := by
  rw [show (x : Int) / 1024 = ((x / 1024 : Nat) : Int) by omega, u32_xor3 _ _ _ (rotr_lt _ _ h) (rotr_lt _ _ h) (div32 _ h)]; rfl
set_option maxHeartbeats 400000 in
theorem impl_sig0 (x : Nat) (w : World) (hx : x < 4294967296) :
    Calls Tryd.prog 92 #[.int .u32 (x : Int)] w fun e w' => e = .returned (.int .u32 (ssig0 x : Int)) ∧ w' = w := by
  have HV := Hid.mk' (sz_val x hx)
  go_enter Tryd.func92, Tryd.ntmps92
  go_wp2_with fail
  refine (impl_rotI x 7 _ _ (by show _ = _; rfl) hx (by omega) (by omega)).mono ?_
  rintro e w1 ⟨rfl, hw1⟩
  subst hw1
  go_wp2_with fail
  refine (impl_rotI x 18 _ _ (by show _ = _; rfl) hx (by omega) (by omega)).mono ?_
  rintro e w1 ⟨rfl, hw1⟩
  subst hw1
  go_wp2_with fail
  go_ret
  exact ⟨ret_int HV.out, rfl⟩
set_option maxHeartbeats 400000 in
theorem impl_sig1 (x : Nat) (w : World) (hx : x < 4294967296) :
    Calls Tryd.prog 93 #[.int .u32 (x : Int)] w fun e w' => e = .returned (.int .u32 (ssig1 x : Int)) ∧ w' = w := by
  have HV := Hid.mk' (so_val x hx)
  go_enter Tryd.func93, Tryd.ntmps93
  go_wp2_with fail
  refine (impl_rotI x 17 _ _ (by show _ = _; rfl) hx (by omega) (by omega)).mono ?_
  rintro e w1 ⟨rfl, hw1⟩
  subst hw1
  go_wp2_with fail
  refine (impl_rotI x 19 _ _ (by show _ = _; rfl) hx (by omega) (by omega)).mono ?_
  rintro e w1 ⟨rfl, hw1⟩
  subst hw1
  go_wp2_with fail
  go_ret
  exact ⟨ret_int HV.out, rfl⟩
set_option maxHeartbeats 400000 in
theorem impl_turned (x i j k : Nat) (w : World) (hx : x < 4294967296) (hi : 1 ≤ i) (hi2 : i ≤ 31) (hj : 1 ≤ j) (hj2 : j ≤ 31) (hk : 1 ≤ k) (hk2 : k ≤ 31) :
    Calls Tryd.prog 94 #[.int .u32 (x : Int), .int .i64 (i : Int), .int .i64 (j : Int), .int .i64 (k : Int)] w fun e w' => e = .returned (.int .u32 ((rotr i x ^^^ rotr j x ^^^ rotr k x : Nat) : Int)) ∧ w' = w := by
  have HV := Hid.mk' (u32_xor3 _ _ _ (rotr_lt i x hx) (rotr_lt j x hx) (rotr_lt k x hx))
  go_enter Tryd.func94, Tryd.ntmps94
  go_wp2_with fail
  refine (impl_rotI x i _ _ (by show _ = _; rfl) hx (by omega) (by omega)).mono ?_
  rintro e w1 ⟨rfl, hw1⟩
  subst hw1
  go_wp2_with fail
  refine (impl_rotI x j _ _ (by show _ = _; rfl) hx (by omega) (by omega)).mono ?_
  rintro e w1 ⟨rfl, hw1⟩
  subst hw1
  go_wp2_with fail
  refine (impl_rotI x k _ _ (by show _ = _; rfl) hx (by omega) (by omega)).mono ?_
  rintro e w1 ⟨rfl, hw1⟩
  subst hw1
  go_wp2_with fail
  go_ret
  exact ⟨ret_int HV.out, rfl⟩
theorem impl_bsig1 (x : Nat) (w : World) (hx : x < 4294967296) :
    Calls Tryd.prog 94 #[.int .u32 (x : Int), .int .i64 6, .int .i64 11, .int .i64 25] w fun e w' => e = .returned (.int .u32 (bsig1 x : Int)) ∧ w' = w :=
  impl_turned x 6 11 25 w hx (by omega) (by omega) (by omega) (by omega) (by omega) (by omega)
theorem impl_bsig0 (x : Nat) (w : World) (hx : x < 4294967296) :
    Calls Tryd.prog 94 #[.int .u32 (x : Int), .int .i64 2, .int .i64 13, .int .i64 22] w fun e w' => e = .returned (.int .u32 (bsig0 x : Int)) ∧ w' = w :=
  impl_turned x 2 13 22 w hx (by omega) (by omega) (by omega) (by omega) (by omega) (by omega)

end Go.Proofs.YteammdkipnfmnaaDoor.sha
