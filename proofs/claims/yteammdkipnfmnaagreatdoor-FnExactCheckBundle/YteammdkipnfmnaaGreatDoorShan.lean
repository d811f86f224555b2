/- The laws' copies of proofs, and the size of items and proofs that are handed in. The laws' helpers for bundles: their sizes. The laws' helpers for seals: their sizes. An answer of one cell that is new. No function of the program is named here. The laws' own copies of seals. The laws' own copies of bundles. The laws' helpers for items and proofs: held; proofs marked and held. -/
import Derived.Test.YteammdkipnfmnaaGreatDoorSham
import Derived.Test.YteammdkipnfmnaaGreatDoorShae
import Derived.Test.YteammdkipnfmnaaGreatDoorShal
import Derived.Test.YteammdkipnfmnaaGreatDoorShaf
namespace Go.Proofs.YteammdkipnfmnaaGreatDoor.range
open Go Go.RowKit Go.Proofs.YteammdkipnfmnaaGreatDoor.base Go.Proofs.YteammdkipnfmnaaGreatDoor.pairs Go.Proofs.YteammdkipnfmnaaGreatDoor.tree Go.Proofs.YteammdkipnfmnaaGreatDoor.helps
set_option linter.unusedVariables false
set_option linter.unusedSimpArgs false

theorem ownI_other {w : World} {base g2 j : Nat} {v u : Value} {l : List It} {hs : List Hd} (h : OwnI w base v l hs) (hne : ∀ k, Blk v hs k → k ≠ g2) : OwnI (w.setCell ⟨g2, j, none⟩ u) base v l hs :=
  h.of_blocks (fun k hk => heap_setCell_other w ⟨g2, j, none⟩ k u (hne k hk))

set_option maxRecDepth 100000 in
set_option maxHeartbeats 2000000 in
theorem toProof (n fr : Int) (a : Option Addr) (len cap : Nat) (l : List It) (w : World) (h : SlI w a len l) (hsz : len ≤ 1099511627776) (hps : ∀ x ∈ l, x.2.length ≤ 1099511627776) :
    Calls Tryz.prog 81 #[.agg #[.int .i64 n, .int .i64 fr, .slice a len cap]] w fun e w' =>
      ∃ g hs, e = .returned (.agg #[.int .i64 n, .int .i64 fr, .slice (some ⟨g, 0, none⟩) len len]) ∧ OwnI w' w.heap.size (.slice (some ⟨g, 0, none⟩) len len) l hs ∧ Below w.heap.size w w' := by
  obtain ⟨W, hW⟩ : ∃ W, ((w.alloc (.cells #[.int .i64 n, .int .i64 fr, .slice a len cap] 120)).alloc (.cells #[.int .i64 0, .int .i64 0, .slice none 0 0] 64)).alloc (.cells #[.int .i64 n, .int .i64 fr, .slice none 0 0] 64) = W := ⟨_, rfl⟩
  have hB : Below w.heap.size w W := by rw [← hW]; exact (((Below.refl _ _).alloc (Nat.le_refl _) _).alloc (by simp) _).alloc (by simp; omega) _
  have v1 : V3 W (w.heap.size + 1) 64 (.int .i64 0) (.int .i64 0) (.slice none 0 0) := by
    rw [← hW]; exact v3_alloc (v3_new1 w _ _ _ _ _) _
  have v2 : V3 W (w.heap.size + 2) 64 (.int .i64 n) (.int .i64 fr) (.slice none 0 0) := by
    rw [← hW]; exact v3_new2 w _ _ _ _ _ _
  have HW := Hid.mk' hW
  have HP := Hid.mk' (toItemS a len cap l W (h.below hB) hsz hps)
  clear hW h
  go_enter Tryz.func81, Tryz.ntmps81
  go_wp2_with fail
  rw [HW.out]
  refine HP.out.mono ?_
  rintro e w2 ⟨g, hs, rfl, hO, hb2⟩
  have r1 := v1.below hb2
  have r2 := v2.below hb2
  have hB3 := hB.trans (hb2.mono hB.size)
  have n2 := r2.c2
  have g2 := r2.fz 2
  have y2 := r2.set2 (.slice (some ⟨g, 0, none⟩) len len)
  have y1 := r1.other 2 (.slice (some ⟨g, 0, none⟩) len len) (show w.heap.size + 1 ≠ w.heap.size + 2 by omega)
  have a0 := y2.c0
  have a1 := y2.c1
  have a2 := y2.c2
  have b0 := y1.c0
  have b1 := y1.c1
  have b2 := y1.c2
  have k0 := y1.fz 0
  have k1 := y1.fz 1
  have k2 := y1.fz 2
  have hgl : ∀ k, Blk (.slice (some ⟨g, 0, none⟩) len len) hs k → w.heap.size + 2 < k := fun k hk => by
    have h1 := (hO.lt k hk).1
    have h2 := v2.lt
    omega
  have hOz := ownI_other (g2 := w.heap.size + 1) (j := 2) (u := .slice (some ⟨g, 0, none⟩) len len) (ownI_other (g2 := w.heap.size + 1) (j := 1) (u := .int .i64 fr) (ownI_other (g2 := w.heap.size + 1) (j := 0) (u := .int .i64 n) (ownI_other (g2 := w.heap.size + 2) (j := 2) (u := .slice (some ⟨g, 0, none⟩) len len) (hO.mono (base' := w.heap.size) hB.size) (fun k hk => by have := hgl k hk; omega)) (fun k hk => by have := hgl k hk; omega)) (fun k hk => by have := hgl k hk; omega)) (fun k hk => by have := hgl k hk; omega)
  have hBz := (((hB3.setCell (p := ⟨w.heap.size + 2, 2, none⟩) (by show w.heap.size ≤ w.heap.size + 2; omega) (.slice (some ⟨g, 0, none⟩) len len)).setCell (p := ⟨w.heap.size + 1, 0, none⟩) (by show w.heap.size ≤ w.heap.size + 1; omega) (.int .i64 n)).setCell (p := ⟨w.heap.size + 1, 1, none⟩) (by show w.heap.size ≤ w.heap.size + 1; omega) (.int .i64 fr)).setCell (p := ⟨w.heap.size + 1, 2, none⟩) (by show w.heap.size ≤ w.heap.size + 1; omega) (.slice (some ⟨g, 0, none⟩) len len)
  have HOZ := Hid.mk' hOz
  have HBZ := Hid.mk' hBz
  have z1 := ((y1.set0 (.int .i64 n)).set1 (.int .i64 fr)).set2 (.slice (some ⟨g, 0, none⟩) len len)
  have e0 := z1.c0
  have e1 := z1.c1
  have e2 := z1.c2
  clear r1 r2 y1 y2 z1 HP HW hOz hBz hO hb2 hB3 hB v1 v2 hgl
  go_wp2_with fail
  refine bodyPost_ret (v := .agg #[.int .i64 n, .int .i64 fr, .slice (some ⟨g, 0, none⟩) len len]) ?h1 rfl ⟨g, hs, rfl, HOZ.out, HBZ.out⟩
  simp [results, Tryz.results81, go_sem, e0, e1, e2, a0, a1, a2, b0, b1, b2]

def isz (x : It) : Nat := psz x.1 + (x.2.length + puttexts.sum x.2)
def sumI (l : List It) : Nat := (l.map isz).sum
theorem sumI_take (l : List It) (k : Nat) (h : k < l.length) : sumI (l.take (k + 1)) = sumI (l.take k) + isz l[k] := by
  unfold sumI; rw [List.take_succ_eq_append_getElem h, List.map_append, List.sum_append]; simp
theorem sumI_le (l : List It) (k : Nat) : sumI (l.take k) ≤ sumI l := by
  have e : sumI l = sumI (l.take k) + sumI (l.drop k) := by
    unfold sumI; rw [← List.sum_append, ← List.map_append, List.take_append_drop]
  omega
theorem isz_le (l : List It) : ∀ x ∈ l, isz x ≤ sumI l := by
  induction l with
  | nil => intro s h; exact absurd h List.not_mem_nil
  | cons x l ih =>
    intro s h
    simp only [sumI, List.map_cons, List.sum_cons] at *
    rcases List.mem_cons.1 h with h | h
    · subst h; omega
    · have := ih s h; omega
set_option maxHeartbeats 1000000 in
theorem szItem (x : It) (pa : Option Addr) (pl pc L : Nat) (w : World) (hx : small x.1) (h : SlS w pa pl x.2) (hL : L ≤ 1099511627776) :
    Calls Tryz.prog 131 #[.agg #[.string x.1.1, .string x.1.2, .slice pa pl pc], .int .i64 (L : Int)] w fun e w' => e = .returned (.int .i64 (szR L (isz x))) ∧ Below w.heap.size w w' := by
  obtain ⟨W, hW⟩ : ∃ W, w.alloc (.cells #[.string x.1.1, .string x.1.2, .slice pa pl pc] 168) = W := ⟨_, rfl⟩
  have hB : Below w.heap.size w W := by rw [← hW]; exact (Below.refl _ _).alloc (Nat.le_refl _) _
  have v0 : V3 W w.heap.size 168 (.string x.1.1) (.string x.1.2) (.slice pa pl pc) := by rw [← hW]; exact v3_new w _ _ _ _
  have HW := Hid.mk' hW
  have hP := szPair x.1 L W hx hL
  clear hW
  by_cases h1 : L < psz x.1
  · rw [szR_neg h1] at hP
    have HP := Hid.mk' hP
    have HZ : Hid (szR L (isz x) = -1) := szR_neg (by unfold isz; omega)
    clear hP
    go_enter Tryz.func131, Tryz.ntmps131
    go_wp2_with fail
    rw [HW.out]
    refine HP.out.mono ?_
    rintro e w1 ⟨rfl, hb1⟩
    have hB1 := hB.trans (hb1.mono hB.size)
    go_wp2_with fail
    go_ret
    exact ⟨ret_int HZ.out.symm, hB1⟩
  · rw [szR_pos (by omega)] at hP
    obtain ⟨m, hm⟩ : ∃ m, L - psz x.1 = m := ⟨_, rfl⟩
    rw [show (L : Int) - (psz x.1 : Int) = (m : Int) by omega] at hP
    have HP := Hid.mk' hP
    have hS := fun wx hx => puttexts.szStringS pa pl pc x.2 m wx (h.below (w' := wx) hx) (by omega)
    clear hP
    by_cases h2 : m < x.2.length + puttexts.sum x.2
    · rw [puttexts.szR_neg h2] at hS
      have HS := Hid.mk' hS
      have HZ : Hid (szR L (isz x) = -1) := szR_neg (by unfold isz; omega)
      clear hS h hm
      go_enter Tryz.func131, Tryz.ntmps131
      go_wp2_with fail
      rw [HW.out]
      refine HP.out.mono ?_
      rintro e w1 ⟨rfl, hb1⟩
      have hB1 := hB.trans (hb1.mono hB.size)
      have c2 := (v0.below hb1).c2
      go_wp2_with fail
      refine (HS.out _ hB1).mono ?_
      rintro e w2 ⟨rfl, hw2⟩
      subst hw2
      go_wp2_with fail
      go_ret
      exact ⟨ret_int HZ.out.symm, hB1⟩
    · rw [puttexts.szR_pos (by omega)] at hS
      obtain ⟨m2, hm2⟩ : ∃ m2, m - (x.2.length + puttexts.sum x.2) = m2 := ⟨_, rfl⟩
      rw [show (m : Int) - ((x.2.length + puttexts.sum x.2 : Nat) : Int) = (m2 : Int) by omega] at hS
      have HS := Hid.mk' hS
      have HZ : Hid (szR L (isz x) = (m2 : Int)) := by show _ = _; rw [szR_pos (by unfold isz; omega)]; unfold isz; omega
      clear hS h hm hm2
      go_enter Tryz.func131, Tryz.ntmps131
      go_wp2_with fail
      rw [HW.out]
      refine HP.out.mono ?_
      rintro e w1 ⟨rfl, hb1⟩
      have hB1 := hB.trans (hb1.mono hB.size)
      have c2 := (v0.below hb1).c2
      go_wp2_with fail
      refine (HS.out _ hB1).mono ?_
      rintro e w2 ⟨rfl, hw2⟩
      subst hw2
      go_wp2_with fail
      go_ret
      exact ⟨ret_int HZ.out.symm, hB1⟩

set_option maxRecDepth 100000 in
set_option maxHeartbeats 2000000 in
theorem szItemS (a : Option Addr) (len cap : Nat) (l : List It) (L : Nat) (w : World) (h : SlI w a len l) (hL : L ≤ 1099511627776) :
    Calls Tryz.prog 112 #[.slice a len cap, .int .i64 (L : Int)] w fun e w' => e = .returned (.int .i64 (szR L (l.length + sumI l))) ∧ Below w.heap.size w w' := by
  obtain ⟨hl, hm, hsm, hc⟩ := id h
  subst hl
  unfold maxLen at hm
  by_cases hneg : L < l.length
  · rw [szR_neg (by omega)]
    have h1 : (L : Int) - (l.length : Int) < 0 := by omega
    go_enter Tryz.func112, Tryz.ntmps112
    go_wp2_with fail
    go_ret
    exact ⟨rfl, Below.refl _ _⟩
  · have h1 : ¬ (L : Int) - (l.length : Int) < 0 := by omega
    go_enter Tryz.func112, Tryz.ntmps112
    go_wp2_with fail
    go_loopw [1, 5] (fun lv i wr => ∃ k m : Nat, k ≤ l.length ∧ i = .int .i64 (k : Int) ∧ lv = .int .i64 (m : Int) ∧ m + (l.length + sumI (l.take k)) = L ∧ Below w.heap.size w wr) (fun _ i _ => l.length - (intOf i).toNat)
    case atStart => exact ⟨0, L - l.length, Nat.zero_le _, rfl, by go_num, by simp [sumI]; omega, Below.refl _ _⟩
    case round =>
      obtain ⟨k, m, hk, rfl, rfl, hmL, hB⟩ := hrel
      by_cases hlt : k < l.length
      · obtain ⟨b, off, ha⟩ : ∃ b off, a = some ⟨b, off, none⟩ := by
          obtain ⟨b, off, ha, _⟩ := hc (by omega)
          exact ⟨b, off, ha⟩
        subst ha
        have hst := sumI_take l k hlt
        have hle := sumI_le l (k + 1)
        obtain ⟨c1, c2, pa, pl, pc, c3, hS, _⟩ := (h.at k hlt).below hB
        have hpk := hsm _ (List.getElem_mem hlt)
        have hi1 : (k : Int) < (l.length : Int) := by omega
        have hmB : m ≤ 1099511627776 := by omega
        have HML := Hid.mk' hmL
        have HST := Hid.mk' hst
        have HLE := Hid.mk' hle
        have hcall := szItem l[k] pa pl pc m wr hpk.1 hS hmB
        obtain ⟨x, hx⟩ : ∃ x, l[k] = x := ⟨_, rfl⟩
        simp only [hx] at hcall c1 c2 HST
        clear hc hsm hmL hst hle h hS hpk hx
        by_cases hover : m < isz x
        · rw [szR_neg hover] at hcall
          have HC := Hid.mk' hcall
          clear hcall
          go_wp2_with fail
          refine HC.out.mono ?_
          rintro e w2 ⟨rfl, hB2⟩
          go_wp2_with fail
          go_ret
          have e1 := HML.out
          have e2 := HST.out
          have e3 := HLE.out
          rw [szR_neg (by omega)]
          exact ⟨rfl, hB.trans (hB2.mono hB.size)⟩
        · rw [szR_pos (by omega), show (m : Int) - (isz x : Int) = ((m - isz x : Nat) : Int) by omega] at hcall
          have HC := Hid.mk' hcall
          obtain ⟨m2, hm2⟩ : ∃ m2, m - isz x = m2 := ⟨_, rfl⟩
          rw [hm2] at HC
          have HM2 := Hid.mk' hm2
          have hm2b : m2 ≤ 1099511627776 := by omega
          clear hcall hm2
          go_wp2_with fail
          refine HC.out.mono ?_
          rintro e w2 ⟨rfl, hB2⟩
          go_wp2_with fail
          go_roundw
          case rel => exact ⟨k + 1, m2, by omega, by go_num, rfl, by have e1 := HML.out; have e2 := HST.out; have e3 := HM2.out; omega, hB.trans (hB2.mono hB.size)⟩
          case measure => simp [intOf]; omega
      · have e : k = l.length := by omega
        have HML := Hid.mk' hmL
        clear hmL
        go_wp2_with fail
        go_ret
        have e1 := HML.out
        rw [e, List.take_length] at e1
        rw [szR_pos (by omega)]
        exact ⟨ret_int (by omega), hB⟩

set_option maxHeartbeats 1000000 in
theorem szProof (n fr : Int) (a : Option Addr) (len cap : Nat) (l : List It) (L : Nat) (w : World) (h : SlI w a len l) (hL : L ≤ 1099511627776) :
    Calls Tryz.prog 80 #[.agg #[.int .i64 n, .int .i64 fr, .slice a len cap], .int .i64 (L : Int)] w fun e w' => e = .returned (.int .i64 (szR L (l.length + sumI l))) ∧ Below w.heap.size w w' := by
  have hba : Below w.heap.size w (w.alloc (.cells #[.int .i64 n, .int .i64 fr, .slice a len cap] 120)) := (Below.refl _ _).alloc (Nat.le_refl _) _
  have hS := szItemS a len cap l L _ (h.below hba) hL
  by_cases h1 : L < l.length + sumI l
  · rw [szR_neg h1] at hS
    rw [szR_neg h1]
    have HS := Hid.mk' hS
    clear hS
    go_enter Tryz.func80, Tryz.ntmps80
    go_wp2_with fail
    refine HS.out.mono ?_
    rintro e w1 ⟨rfl, hb1⟩
    have hB1 := hba.trans (hb1.mono hba.size)
    go_wp2_with fail
    go_ret
    exact ⟨rfl, hB1⟩
  · obtain ⟨m, hm⟩ : ∃ m, L - (l.length + sumI l) = m := ⟨_, rfl⟩
    have he : szR L (l.length + sumI l) = (m : Int) := by rw [szR_pos (by omega)]; omega
    rw [he] at hS
    rw [he]
    have HS := Hid.mk' hS
    clear hS he hm
    go_enter Tryz.func80, Tryz.ntmps80
    go_wp2_with fail
    refine HS.out.mono ?_
    rintro e w1 ⟨rfl, hb1⟩
    have hB1 := hba.trans (hb1.mono hba.size)
    go_wp2_with fail
    go_ret
    exact ⟨rfl, hB1⟩
end Go.Proofs.YteammdkipnfmnaaGreatDoor.range

namespace Go.Proofs.YteammdkipnfmnaaGreatDoor.bun
open Go Go.RowKit Go.Proofs.YteammdkipnfmnaaGreatDoor.base Go.Proofs.YteammdkipnfmnaaGreatDoor.pairs Go.Proofs.YteammdkipnfmnaaGreatDoor.lay Go.Proofs.YteammdkipnfmnaaGreatDoor.range Go.Proofs.YteammdkipnfmnaaGreatDoor.seals
set_option linter.unusedVariables false
set_option linter.unusedSimpArgs false

def pfz (x : Pf) : Nat := x.2.2.length + sumI x.2.2
def sumF (l : List Pf) : Nat := (l.map pfz).sum
theorem sumF_take (l : List Pf) (k : Nat) (h : k < l.length) : sumF (l.take (k + 1)) = sumF (l.take k) + pfz l[k] := by
  unfold sumF
  rw [List.take_succ_eq_append_getElem h, List.map_append, List.sum_append]; simp
theorem sumF_le (l : List Pf) (k : Nat) : sumF (l.take k) ≤ sumF l := by
  conv => rhs; rw [← List.take_append_drop k l]
  unfold sumF
  rw [List.map_append, List.sum_append]; omega
theorem sumF_mem {l : List Pf} {j : Pf} (h : j ∈ l) : pfz j ≤ sumF l := by
  obtain ⟨i, hi, rfl⟩ := List.getElem_of_mem h
  have h1 := sumF_take l i hi
  have h2 := sumF_le l (i + 1)
  omega
set_option maxRecDepth 100000 in
set_option maxHeartbeats 2000000 in
theorem szProofS (a : Option Addr) (len cap : Nat) (l : List Pf) (L : Nat) (w : World) (h : SlG proofR w a len l) (hL : L ≤ 1099511627776) :
    Calls Tryz.prog 39 #[.slice a len cap, .int .i64 (L : Int)] w fun e w' => e = .returned (.int .i64 (pairs.szR L (l.length + sumF l))) ∧ Below w.heap.size w w' := by
  have hl := h.1
  have hm := h.2.1
  subst hl
  unfold maxLen at hm
  by_cases hneg : L < l.length
  · rw [pairs.szR_neg (by omega)]
    have h1 : (L : Int) - (l.length : Int) < 0 := by omega
    go_enter Tryz.func39, Tryz.ntmps39
    go_wp2
    go_ret
    exact ⟨rfl, Below.refl _ _⟩
  · have h1 : ¬ (L : Int) - (l.length : Int) < 0 := by omega
    go_enter Tryz.func39, Tryz.ntmps39
    go_wp2_with fail
    go_loopw [1, 5] (fun lv i wr => ∃ k m : Nat, k ≤ l.length ∧ i = .int .i64 (k : Int) ∧ lv = .int .i64 (m : Int) ∧ m + (l.length + sumF (l.take k)) = L ∧ Below w.heap.size w wr) (fun _ i _ => l.length - (intOf i).toNat)
    case atStart => exact ⟨0, L - l.length, Nat.zero_le _, rfl, by go_num, by simp [sumF]; omega, Below.refl _ _⟩
    case round =>
      obtain ⟨k, m, hk, rfl, rfl, hmL, hB⟩ := hrel
      by_cases hlt : k < l.length
      · obtain ⟨b, off, ha⟩ := slg_some h (by omega)
        subst ha
        obtain ⟨ra, rn, rc, c0, c1, c2, hSo, _⟩ := proof_at (h.below hB) k hlt
        have hst := sumF_take l k hlt
        have hle := sumF_le l (k + 1)
        have hi1 : (k : Int) < (l.length : Int) := by omega
        have hmB : m ≤ 1099511627776 := by omega
        have HML := Hid.mk' hmL
        have HST := Hid.mk' hst
        have HLE := Hid.mk' hle
        generalize l[k] = p at *
        clear hmL hst hle
        have hcall : Calls Tryz.prog 80 #[.agg #[.int .i64 p.1, .int .i64 p.2.1, .slice ra rn rc], .int .i64 (m : Int)] wr fun e w' => e = .returned (.int .i64 (pairs.szR m (pfz p))) ∧ Below wr.heap.size wr w' := range.szProof p.1 p.2.1 ra rn rc p.2.2 m wr hSo hmB
        by_cases hover : m < pfz p
        · rw [pairs.szR_neg hover] at hcall
          have HC := Hid.mk' hcall
          clear hcall
          go_wp2_with fail
          refine HC.out.mono ?_
          rintro e w2 ⟨rfl, hB2⟩
          go_wp2_with fail
          go_ret
          have e1 := HML.out
          have e2 := HST.out
          have e3 := HLE.out
          rw [pairs.szR_neg (by omega)]
          exact ⟨rfl, hB.trans (hB2.mono hB.size)⟩
        · rw [pairs.szR_pos (by omega), show (m : Int) - (pfz p : Int) = ((m - pfz p : Nat) : Int) by omega] at hcall
          have HC := Hid.mk' hcall
          obtain ⟨m2, hm2⟩ : ∃ m2, m - pfz p = m2 := ⟨_, rfl⟩
          rw [hm2] at HC
          have HM2 := Hid.mk' hm2
          have hm2b : m2 ≤ 1099511627776 := by omega
          clear hcall hm2
          go_wp2_with fail
          refine HC.out.mono ?_
          rintro e w2 ⟨rfl, hB2⟩
          go_wp2_with fail
          go_roundw
          case rel => exact ⟨k + 1, m2, by omega, by go_num, rfl, by have e1 := HML.out; have e2 := HST.out; have e3 := HM2.out; omega, hB.trans (hB2.mono hB.size)⟩
          case measure => simp [intOf]; omega
      · have e : k = l.length := by omega
        subst e
        rw [List.take_length] at hmL
        go_wp2_with fail
        go_ret
        rw [pairs.szR_pos (by omega), show (L : Int) - ((l.length + sumF l : Nat) : Int) = (m : Int) by omega]
        exact ⟨rfl, hB⟩
def bsz (x : Bun) : Nat := x.2.1.size + ((x.2.2.1.length + puttexts.sum x.2.2.1) + (x.2.2.2.length + sumF x.2.2.2))
set_option maxRecDepth 100000 in
set_option maxHeartbeats 2000000 in
theorem szBundle (ra : Option Addr) (rn rc : Nat) (pa : Option Addr) (pn pc : Nat) (x : Bun) (L : Nat) (w : World) (h : SeeBu w ra rn rc pa pn pc x) (hL : L ≤ 1099511627776) :
    Calls Tryz.prog 10 #[.agg #[.int .i64 x.1, .string x.2.1, .slice ra rn rc, .slice pa pn pc], .int .i64 (L : Int)] w fun e w' => e = .returned (.int .i64 (pairs.szR L (bsz x))) ∧ Below w.heap.size w w' := by
  have hp := h.prev
  unfold maxLen at hp
  obtain ⟨W, hW⟩ : ∃ W, w.alloc (.cells #[.int .i64 x.1, .string x.2.1, .slice ra rn rc, .slice pa pn pc] 38) = W := ⟨_, rfl⟩
  have hB : Below w.heap.size w W := by rw [← hW]; exact below_make
  have hbx : BoxIn w.heap.size 38 [] [.int .i64 x.1, .string x.2.1, .slice ra rn rc, .slice pa pn pc] [] W := by rw [← hW]; exact boxIn_new w _ _
  have HW := Hid.mk' hW
  have HH := Hid.mk' (fun (M : Nat) (hM : M ≤ 1099511627776) => puttexts.szStringS ra rn rc x.2.2.1 M W (h.roots.below hB) hM)
  have HP := Hid.mk' (fun (M : Nat) (hM : M ≤ 1099511627776) => szProofS pa pn pc x.2.2.2 M W (h.proofs.below hB) hM)
  have HZ : Hid (bsz x = x.2.1.size + ((x.2.2.1.length + puttexts.sum x.2.2.1) + (x.2.2.2.length + sumF x.2.2.2))) := rfl
  generalize bsz x = Z at *
  generalize x.2.2.1.length + puttexts.sum x.2.2.1 = z1 at *
  generalize x.2.2.2.length + sumF x.2.2.2 = z2 at *
  obtain ⟨y0, y1, y2, y3⟩ := box4 hbx
  rw [← hW] at y0 y1 y2 y3
  clear hW h
  by_cases q0 : (L : Int) - (x.2.1.size : Int) < 0
  · have HR : Hid (pairs.szR L Z = -1) := by show _ = _; rw [HZ.out, pairs.szR_neg (by omega)]
    clear HZ HH HP
    go_enter Tryz.func10, Tryz.ntmps10
    go_wp2_with fail
    go_ret
    rw [HW.out]
    exact ⟨ret_int HR.out.symm, hB⟩
  obtain ⟨m, e0⟩ : ∃ m : Nat, (L : Int) - (x.2.1.size : Int) = (m : Int) := ⟨L - x.2.1.size, by omega⟩
  rw [e0] at q0
  have hS := HH.out m (by omega)
  by_cases q1 : z1 ≤ m
  · rw [puttexts.szR_pos q1] at hS
    obtain ⟨m2, e1⟩ : ∃ m2 : Nat, (m : Int) - (z1 : Int) = (m2 : Int) := ⟨m - z1, by omega⟩
    rw [e1] at hS
    have r1 : ¬ (m2 : Int) < 0 := by omega
    have hT := HP.out m2 (by omega)
    by_cases q2 : z2 ≤ m2
    · rw [pairs.szR_pos q2] at hT
      obtain ⟨m3, e2⟩ : ∃ m3 : Nat, (m2 : Int) - (z2 : Int) = (m3 : Int) := ⟨m2 - z2, by omega⟩
      rw [e2] at hT
      have r2 : ¬ (m3 : Int) < 0 := by omega
      have HR : Hid (pairs.szR L Z = (m3 : Int)) := by show _ = _; rw [HZ.out, pairs.szR_pos (by omega)]; omega
      have HS := Hid.mk' hS
      have HT := Hid.mk' hT
      clear HZ HH HP hS hT q1 q2 e1 e2
      go_enter Tryz.func10, Tryz.ntmps10
      go_wp2_with fail
      rw [HW.out]
      refine HS.out.mono ?_
      rintro e w1 ⟨rfl, hw1⟩
      replace hw1 := hw1.symm
      subst hw1
      rw [HW.out] at y0 y1 y2 y3
      go_wp2_with fail
      refine HT.out.mono ?_
      rintro e w2 ⟨rfl, hb2⟩
      go_wp2_with fail
      go_ret
      exact ⟨ret_int HR.out.symm, hB.trans (hb2.mono hB.size)⟩
    · rw [pairs.szR_neg (by omega)] at hT
      have HR : Hid (pairs.szR L Z = -1) := by show _ = _; rw [HZ.out, pairs.szR_neg (by omega)]
      have HS := Hid.mk' hS
      have HT := Hid.mk' hT
      clear HZ HH HP hS hT q1 q2 e1
      go_enter Tryz.func10, Tryz.ntmps10
      go_wp2_with fail
      rw [HW.out]
      refine HS.out.mono ?_
      rintro e w1 ⟨rfl, hw1⟩
      replace hw1 := hw1.symm
      subst hw1
      rw [HW.out] at y0 y1 y2 y3
      go_wp2_with fail
      refine HT.out.mono ?_
      rintro e w2 ⟨rfl, hb2⟩
      go_wp2_with fail
      go_ret
      exact ⟨ret_int HR.out.symm, hB.trans (hb2.mono hB.size)⟩
  · rw [puttexts.szR_neg (by omega)] at hS
    have HR : Hid (pairs.szR L Z = -1) := by show _ = _; rw [HZ.out, pairs.szR_neg (by omega)]
    have HS := Hid.mk' hS
    clear HZ HH HP hS q1
    go_enter Tryz.func10, Tryz.ntmps10
    go_wp2_with fail
    rw [HW.out]
    refine HS.out.mono ?_
    rintro e w1 ⟨rfl, rfl⟩
    go_wp2_with fail
    go_ret
    exact ⟨ret_int HR.out.symm, hB⟩
end Go.Proofs.YteammdkipnfmnaaGreatDoor.bun

namespace Go.Proofs.YteammdkipnfmnaaGreatDoor.seals
open Go Go.RowKit Go.Proofs.YteammdkipnfmnaaGreatDoor.base Go.Proofs.YteammdkipnfmnaaGreatDoor.pairs Go.Proofs.YteammdkipnfmnaaGreatDoor.lay
set_option linter.unusedVariables false
set_option linter.unusedSimpArgs false

end Go.Proofs.YteammdkipnfmnaaGreatDoor.seals

namespace Go.Proofs.YteammdkipnfmnaaGreatDoor.lay
open Go Go.RowKit
def RetV {α : Type} (R : Rd α) (w : World) (x : α) (e : Ending) (w' : World) : Prop := ∃ v F, e = .returned v ∧ R.own w' [v] x F ∧ (∀ k ∈ F, w.heap.size ≤ k) ∧ Below w.heap.size w w'
theorem slice_shape {α : Type} {ty : TypeId} {R : Rd α} {w : World} {v : Value} {l : List α} {F : List Nat} (h : (lay.slice ty R).own w [v] l F) : ∃ a n c, v = .slice a n c := by
  obtain ⟨v', q, e, _, h⟩ := h
  cases e
  rcases h.shape with ⟨e, _⟩ | ⟨g, c, e, _⟩
  · exact ⟨_, _, _, e⟩
  · exact ⟨_, _, _, e⟩
end Go.Proofs.YteammdkipnfmnaaGreatDoor.lay

namespace Go.Proofs.YteammdkipnfmnaaGreatDoor.seals
open Go Go.RowKit Go.Proofs.YteammdkipnfmnaaGreatDoor.base Go.Proofs.YteammdkipnfmnaaGreatDoor.pairs Go.Proofs.YteammdkipnfmnaaGreatDoor.lay
set_option linter.unusedVariables false
set_option linter.unusedSimpArgs false

theorem toStringS_V (a : Option Addr) (len cap : Nat) (l : List ByteArray) (w : World) (h : SlS w a len l) (hsz : len ≤ 1099511627776) : Calls Tryz.prog 40 #[.slice a len cap] w (RetV textsR w l) := by
  refine (helps.toStringS a len cap l w h hsz).mono ?_
  rintro e w' ⟨g, rfl, hO, hb⟩
  have hO' := hO.mono (Nat.zero_le _)
  refine ⟨_, _, rfl, texts_own.2 ⟨by rw [h.1]; exact hO'.2.2, hO.2.1, rfl⟩, fun k hk => ?_, hb⟩
  have : k = g := by simpa [Value.ownBlock] using hk
  subst this
  exact hO.lt.1
end Go.Proofs.YteammdkipnfmnaaGreatDoor.seals

namespace Go.Proofs.YteammdkipnfmnaaGreatDoor.bun
open Go Go.RowKit Go.Proofs.YteammdkipnfmnaaGreatDoor.base Go.Proofs.YteammdkipnfmnaaGreatDoor.pairs Go.Proofs.YteammdkipnfmnaaGreatDoor.lay Go.Proofs.YteammdkipnfmnaaGreatDoor.range Go.Proofs.YteammdkipnfmnaaGreatDoor.seals
set_option linter.unusedVariables false
set_option linter.unusedSimpArgs false

theorem toProofR (u0 u1 u2 : Value) (x : Pf) (w : World) (h : proofR.see w [u0, u1, u2] x) (h1 : x.2.2.length ≤ 1099511627776 ∧ ∀ y ∈ x.2.2, y.2.length ≤ 1099511627776) : Calls Tryz.prog 81 #[.agg #[u0, u1, u2]] w (RetR proofR w x) := by
  obtain ⟨oa, ol, oc, e, k1, k2, hO, _⟩ := proof_see.1 h
  simp only [List.cons.injEq, and_true] at e
  obtain ⟨rfl, rfl, rfl⟩ := e
  refine (range.toProof x.1 x.2.1 oa ol oc x.2.2 w hO (by have := hO.1; omega) h1.2).mono ?_
  rintro e w' ⟨g, hs, rfl, hI, hb⟩
  exact ⟨[_, _, _], _, rfl, proof_own.2 ⟨_, rfl, k1, k2, ⟨_, hs, rfl, rfl, hI.mono (Nat.zero_le _)⟩⟩, fun k hk => (hI.lt k (mem_blkI.1 hk)).1, hb⟩
theorem info_toProofS : (Tryz.prog.info? 64).map (fun i => (i.zero, i.size, i.bytes)) = some (some (.agg #[.int .i64 0, .int .i64 0, .slice none 0 0]), 3, 40) := by kernel_rfl
set_option maxRecDepth 100000 in
set_option maxHeartbeats 4000000 in
theorem toProofS (a : Option Addr) (len cap : Nat) (l : List Pf) (w : World) (h : SlG proofR w a len l) (hsz : len ≤ 1099511627776) (hfit : ∀ j ∈ l, j.2.2.length ≤ 1099511627776 ∧ ∀ y ∈ j.2.2, y.2.length ≤ 1099511627776) :
    Calls Tryz.prog 41 #[.slice a len cap] w (RetV (lay.slice 64 proofR) w l) := by
  have hl := h.1
  have hm := h.2.1
  subst hl
  have hm' := hm
  unfold maxLen at hm'
  obtain ⟨i0, hif, hz0, hz1, hz2⟩ := info_parts info_toProofS
  go_enter Tryz.func41, Tryz.ntmps41
  go_wp2_with (at_make; refine wpList_make_full _ rfl _ _ 25 rfl w.heap.size 64 i0 (.agg #[.int .i64 0, .int .i64 0, .slice none 0 0]) 3 Tryz.underlying25 hif hz0 hz1 _ _ _ _ l.length rfl rfl rfl rfl ?b2 ?b3 ?b4 ?_)
  case b2 => rw [hz2]; omega
  case b3 => exact hm
  case b4 => exact Nat.le_refl _
  intro w1 hown hgrow
  have hOwn := ownG_zeros (R := proofR) (z := .agg #[.int .i64 0, .int .i64 0, .slice none 0 0]) (x := ((0, 0, []) : Pf)) hown (proof_zero _)
  have hbel : Below w.heap.size w w1 := (Below.refl _ _).grown hgrow (Nat.le_refl _) (fun k e => by cases e)
  have hOwn0 : OwnG 64 proofR w1 (.slice (some ⟨w.heap.size, 0, none⟩) l.length l.length) (copyG ((0, 0, []) : Pf) l 0) (List.replicate l.length ((.agg #[.int .i64 0, .int .i64 0, .slice none 0 0] : Value).cells.toList, [])) := by rw [copyG_zero]; exact hOwn
  have hq0 : ∀ b ∈ w.heap.size :: blocksOf (List.replicate l.length ((.agg #[.int .i64 0, .int .i64 0, .slice none 0 0] : Value).cells.toList, ([] : List Nat))), w.heap.size ≤ b := fun b hb => by
    have e1 : blocksOf (List.replicate l.length ((.agg #[.int .i64 0, .int .i64 0, .slice none 0 0] : Value).cells.toList, ([] : List Nat))) = [] := by unfold blocksOf; simp
    rw [e1, List.mem_singleton] at hb; omega
  clear hown hgrow hif hz0 hz1 hz2 hOwn
  go_wp2_with fail
  go_loopw [4] (fun i wr => ∃ (k : Nat) (q : Parts), k ≤ l.length ∧ i = .int .i64 k ∧ OwnG 64 proofR wr (.slice (some ⟨w.heap.size, 0, none⟩) l.length l.length) (copyG ((0, 0, []) : Pf) l k) q ∧ (∀ b ∈ w.heap.size :: blocksOf q, w.heap.size ≤ b) ∧ Below w.heap.size w wr) (fun i _ => l.length - (intOf i).toNat)
  case atStart => exact ⟨0, _, Nat.zero_le _, rfl, hOwn0, hq0, hbel⟩
  case round =>
    clear hOwn0 hbel hq0
    obtain ⟨k, q, hk, rfl, hO, hq, hB⟩ := hrel
    by_cases hlt : k < l.length
    · obtain ⟨b, off, e⟩ : ∃ b off, a = some ⟨b, off, none⟩ := by
        obtain ⟨b, off, e, _⟩ := h.2.2.2 (by omega)
        exact ⟨b, off, e⟩
      subst e
      obtain ⟨u0, u1, u2, hsee, c0, c1, c2⟩ := slg_at3 rfl (h.below hB) k hlt
      have hki : (k : Int) < (l.length : Int) := by omega
      have HS := Hid.mk' (copyG_set (z := ((0, 0, []) : Pf)) k hlt)
      have hfk := hfit _ (List.getElem_mem hlt)
      have HE := Hid.mk' (toProofR u0 u1 u2 l[k] wr hsee hfk)
      generalize l[k] = p at *
      clear hsee
      go_wp2_with fail
      refine HE.out.mono ?_
      rintro e w2 ⟨us, F, rfl, hOx, hF, hb2⟩
      obtain ⟨ra, rn, rc, rfl⟩ := proof_vals hOx
      have hOR := hO.below hb2
      have hB2 := hB.trans (hb2.mono hB.size)
      have hkl : k < (copyG ((0, 0, []) : Pf) l k).length := by rw [copyG_length k hk]; exact hlt
      have hlts := hO.lts
      have Rp := hOR.put k hkl [.int .i64 p.1, .int .i64 p.2.1, .slice ra rn rc] p F hOx (fun j hj hjb => by have h1 := hF j hj; have h2 := hlts j hjb; omega)
      rw [HS.out] at Rp
      have HR := Hid.mk' Rp
      obtain ⟨y0, y1, y2, _, d0, d1, d2⟩ := slg_at3 rfl hOR.sl k hkl
      simp only [Nat.zero_add] at d0 d1 d2
      have f0 := hOR.frozen (k * 3)
      have f1 := hOR.frozen (k * 3 + 1)
      have f2 := hOR.frozen (k * 3 + 2)
      have hqn : Hid (∀ b ∈ w.heap.size :: blocksOf (q.set k ([.int .i64 p.1, .int .i64 p.2.1, .slice ra rn rc], F)), w.heap.size ≤ b) := fun j hj => by
        rcases List.mem_cons.1 hj with e | e
        · omega
        · obtain ⟨pp, hpp, hjp⟩ := List.mem_flatMap.1 e
          rcases List.mem_or_eq_of_mem_set hpp with h1 | h1
          · exact hq j (List.mem_cons_of_mem _ (List.mem_flatMap.2 ⟨pp, h1, hjp⟩))
          · subst h1
            have h1 := hF j hjp
            have h2 := hB.size
            omega
      have hsz2 := hB2.size
      clear Rp hO hOR hOx hB hb2 c0 c1 c2 hlts
      go_wp2_with fail
      go_roundw
      case rel => exact ⟨k + 1, _, by omega, by go_num, HR.out.1, hqn.out, hB2.trans (below_grown HR.out.2 (Nat.le_refl _) hsz2)⟩
      case measure => simp [intOf]; omega
    · have e : k = l.length := by omega
      subst e
      rw [copyG_all] at hO
      go_wp2_with fail
      go_ret
      exact ⟨_, _, rfl, ⟨_, q, rfl, rfl, hO⟩, fun b hb => hq b (by simpa [Value.ownBlock] using hb), hB⟩
set_option maxRecDepth 100000 in
set_option maxHeartbeats 4000000 in
theorem toBundle (ra : Option Addr) (rn rc : Nat) (pa : Option Addr) (pn pc : Nat) (x : Bun) (w : World) (h : SeeBu w ra rn rc pa pn pc x) (hrl : rn ≤ 1099511627776) (hpl : pn ≤ 1099511627776) (hfit : ∀ j ∈ x.2.2.2, j.2.2.length ≤ 1099511627776 ∧ ∀ y ∈ j.2.2, y.2.length ≤ 1099511627776) :
    Calls Tryz.prog 11 #[.agg #[.int .i64 x.1, .string x.2.1, .slice ra rn rc, .slice pa pn pc]] w (RetR bundleR w x) := by
  have H1 := Hid.mk' (fun wx (hx : Below w.heap.size w wx) => toStringS_V ra rn rc x.2.2.1 wx (h.roots.below hx) hrl)
  have H2 := Hid.mk' (fun wx (hx : Below w.heap.size w wx) => toProofS pa pn pc x.2.2.2 wx (h.proofs.below hx) hpl hfit)
  have k1 := h.no
  have k2 := h.prev
  clear h hfit
  obtain ⟨W1, hW1⟩ : ∃ W1, w.alloc (.cells #[.int .i64 x.1, .string x.2.1, .slice ra rn rc, .slice pa pn pc] 38) = W1 := ⟨_, rfl⟩
  have hb1 : Below w.heap.size w W1 := by rw [← hW1]; exact below_make
  have hA1 : BoxIn w.heap.size 38 [] [.int .i64 x.1, .string x.2.1, .slice ra rn rc, .slice pa pn pc] [] W1 := by rw [← hW1]; exact boxIn_new w _ _
  have hs1 : W1.heap.size = w.heap.size + 1 := by rw [← hW1]; simp
  obtain ⟨W2, hW2⟩ : ∃ W2, W1.alloc (.cells #[.int .i64 0, .string ⟨#[]⟩, .slice none 0 0, .slice none 0 0] 27) = W2 := ⟨_, rfl⟩
  have hb2 : Below W1.heap.size W1 W2 := by rw [← hW2]; exact below_make
  have hR2 : BoxIn (w.heap.size + 1) 27 [] [.int .i64 0, .string ⟨#[]⟩, .slice none 0 0, .slice none 0 0] [] W2 := by rw [← hW2, ← hs1]; exact boxIn_new W1 _ _
  have hs2 : W2.heap.size = w.heap.size + 1 + 1 := by rw [← hW2]; simp [hs1]
  obtain ⟨W, hW⟩ : ∃ W, W2.alloc (.cells #[.int .i64 x.1, .string x.2.1, .slice none 0 0, .slice none 0 0] 27) = W := ⟨_, rfl⟩
  have hb3 : Below W2.heap.size W2 W := by rw [← hW]; exact below_make
  have hO : BoxIn (w.heap.size + 1 + 1) 27 [] [.int .i64 x.1, .string x.2.1, .slice none 0 0, .slice none 0 0] [] W := by rw [← hW, ← hs2]; exact boxIn_new W2 _ _
  have hA := (hA1.below hb2).below hb3
  have hR := hR2.below hb3
  have hB := (hb1.trans (hb2.mono hb1.size)).trans (hb3.mono (Nat.le_trans hb1.size hb2.size))
  have HWW : Hid (((w.alloc (.cells #[.int .i64 x.1, .string x.2.1, .slice ra rn rc, .slice pa pn pc] 38)).alloc (.cells #[.int .i64 0, .string ⟨#[]⟩, .slice none 0 0, .slice none 0 0] 27)).alloc (.cells #[.int .i64 x.1, .string x.2.1, .slice none 0 0, .slice none 0 0] 27) = W) := by show _ = _; rw [hW1, hW2, hW]
  clear hb1 hb2 hb3 hA1 hR2 hs1 hs2 hW1 hW2 hW
  obtain ⟨c0, c1, c2, c3⟩ := cells4 hA
  rw [← HWW.out] at c0 c1 c2 c3
  have hbs0 := hO.lt
  go_enter Tryz.func11, Tryz.ntmps11
  go_wp2_with fail
  rw [HWW.out]
  refine (H1.out W hB).mono ?_
  rintro e w1 ⟨r0, F0, rfl, h0, hF0, hbn⟩
  obtain ⟨ra0, rn0, rc0, rfl⟩ := slice_shape h0
  replace hO := hO.below hbn
  replace hA := hA.below hbn
  replace hR := hR.below hbn
  replace hB := hB.trans (hbn.mono hB.size)
  have n0 := hO.set 2 (by simp) (.slice ra0 rn0 rc0)
  have u0 := hO.cell 2 _ rfl
  have v0 := hO.fz 2
  simp only [List.length_nil, Nat.zero_add] at n0 u0
  have t0 := (hA.grown n0.2 (by simp; omega)).cell 3 _ rfl
  simp only [List.length_nil, Nat.zero_add] at t0
  have gg := n0.2
  replace hB := hB.grown gg hB.size (fun k e => by cases e; omega)
  replace hR := hR.grown gg (by simp)
  replace hA := hA.grown gg (by simp; omega)
  replace h0 := textsR.ownGrown h0 gg (fun k hk e => by have := hF0 k hk; cases e; omega)
  replace hO : BoxIn (w.heap.size + 1 + 1) 27 [] [.int .i64 x.1, .string x.2.1, .slice ra0 rn0 rc0, .slice none 0 0] [] _ := n0.1
  clear c0 c1 c2 c3
  go_wp2_with fail
  clear u0 v0 t0 n0 gg hbn
  generalize hVV : (w1.setCell ⟨w.heap.size + 1 + 1, 2, none⟩ (.slice ra0 rn0 rc0)) = V1 at *
  clear hVV
  have hbs1 := hO.lt
  refine (H2.out V1 hB).mono ?_
  rintro e w2 ⟨r1, F1, rfl, h1, hF1, hbn⟩
  obtain ⟨ra1, rn1, rc1, rfl⟩ := slice_shape h1
  have hl0_1 := textsR.ownLt h0
  replace h0 := textsR.ownBelow h0 hbn
  replace hO := hO.below hbn
  replace hA := hA.below hbn
  replace hR := hR.below hbn
  replace hB := hB.trans (hbn.mono hB.size)
  have n0 := hO.set 3 (by simp) (.slice ra1 rn1 rc1)
  have u0 := hO.cell 3 _ rfl
  have v0 := hO.fz 3
  simp only [List.length_nil, Nat.zero_add] at n0 u0
  have gg := n0.2
  replace hB := hB.grown gg hB.size (fun k e => by cases e; omega)
  replace hR := hR.grown gg (by simp)
  replace hA := hA.grown gg (by simp; omega)
  replace h0 := textsR.ownGrown h0 gg (fun k hk e => by have := hF0 k hk; cases e; omega)
  replace h1 := proofsR.ownGrown h1 gg (fun k hk e => by have := hF1 k hk; cases e; omega)
  replace hO : BoxIn (w.heap.size + 1 + 1) 27 [] [.int .i64 x.1, .string x.2.1, .slice ra0 rn0 rc0, .slice ra1 rn1 rc1] [] _ := n0.1
  obtain ⟨q0, q1, q2, q3⟩ := cells4 hO
  obtain ⟨z0, z1, z2, z3⟩ := cells4 hR
  have f0 := hR.fz 0
  have f1 := hR.fz 1
  have f2 := hR.fz 2
  have f3 := hR.fz 3
  have hS := hR.whole [.int .i64 x.1, .string x.2.1, .slice ra0 rn0 rc0, .slice ra1 rn1 rc1] rfl
  obtain ⟨y0, y1, y2, y3⟩ := cells4 hS.1
  simp only [putAll, Nat.zero_add, Nat.reduceAdd] at y0 y1 y2 y3
  have HBz := Hid.mk' (hB.grown hS.2 hB.size (fun j e => by cases e; omega))
  replace h0 := textsR.ownGrown h0 hS.2 (fun k hk e => by have := hF0 k hk; cases e; omega)
  replace h1 := proofsR.ownGrown h1 hS.2 (fun k hk e => by have := hF1 k hk; cases e; omega)
  have nd : (F0 ++ F1).Nodup := nodup_new (textsR.ownNodup h0) (proofsR.ownNodup h1) hl0_1 hF1
  have HOW : Hid (bundleR.own (putAll (w2.setCell ⟨w.heap.size + 1 + 1, 3, none⟩ (.slice ra1 rn1 rc1)) (w.heap.size + 1) 0 [.int .i64 x.1, .string x.2.1, .slice ra0 rn0 rc0, .slice ra1 rn1 rc1]) [.int .i64 x.1, .string x.2.1, .slice ra0 rn0 rc0, .slice ra1 rn1 rc1] x (F0 ++ F1)) := bundle_own.2 ⟨_, _, F0, F1, rfl, rfl, k1, k2, h0, h1, nd⟩
  have HFN : Hid (∀ k ∈ F0 ++ F1, w.heap.size ≤ k) := fun k hk => by
    rcases List.mem_append.1 hk with e | e
    · have := hF0 k e; omega
    · have := hF1 k e; omega
  clear h0 h1 hS 
  go_wp2_with fail
  refine bodyPost_ret (v := .agg #[.int .i64 x.1, .string x.2.1, .slice ra0 rn0 rc0, .slice ra1 rn1 rc1]) ?_ rfl ⟨_, _, rfl, HOW.out, HFN.out, HBz.out⟩
  simp [results, Tryz.results11, go_sem, y0, y1, y2, y3]
end Go.Proofs.YteammdkipnfmnaaGreatDoor.bun

namespace Go.Proofs.YteammdkipnfmnaaGreatDoor.range
open Go Go.RowKit Go.Proofs.YteammdkipnfmnaaGreatDoor.base Go.Proofs.YteammdkipnfmnaaGreatDoor.pairs Go.Proofs.YteammdkipnfmnaaGreatDoor.tree Go.Proofs.YteammdkipnfmnaaGreatDoor.helps
set_option linter.unusedVariables false
set_option linter.unusedSimpArgs false



end Go.Proofs.YteammdkipnfmnaaGreatDoor.range
