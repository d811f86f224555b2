/- A shard: how it stands with a transaction, and the code of it. The program's shard: how many keys are held, how much room there is. The program's shard: copies of records. Shards: what stays right, whatever they do. Plain mathematics. Shards: what is right is no greater than the laws take. Plain mathematics. The program's shard holds a transaction. The specification's shard: it does, or lets go. The specification's shard: it holds, does and lets go, whatever it is. -/
import Derived.Test.YteniflajiklffaaGreatDoorShak
import Derived.Test.YteniflajiklffaaGreatDoorShar
import Derived.Test.YteniflajiklffaaGreatDoorShat
import Derived.Test.YteniflajiklffaaGreatDoorShaj
namespace Go.Proofs.YteniflajiklffaaGreatDoor.recs
open Go Go.RowKit Go.Proofs.YteniflajiklffaaGreatDoor.base Go.Proofs.YteniflajiklffaaGreatDoor.pairs Go.Proofs.YteniflajiklffaaGreatDoor.ords Go.Proofs.YteniflajiklffaaGreatDoor.helps Go.Proofs.YteniflajiklffaaGreatDoor.help Go.Proofs.YteniflajiklffaaGreatDoor.lay Go.Proofs.YteniflajiklffaaGreatDoor.sent
set_option linter.unusedVariables false
set_option linter.unusedSimpArgs false

def senOf (k : Int) : Nat := if k = 1 then 6 else if k = 2 then 0 else if k = 3 then 1 else 3
def codeS (g : Nat) : Int := if g = 6 then 1 else if g = 0 then 3 else if g = 1 then 4 else if g = 2 then 5 else 2
theorem senOf_mem (k : Int) : senOf k ∈ gs := by
  unfold senOf
  split
  · decide
  · split
    · decide
    · split
      · decide
      · decide
theorem code_sen (k : Int) : codeS (senOf k) = standCode k := by
  unfold senOf standCode
  split
  · rfl
  · split
    · rfl
    · split
      · rfl
      · rfl
set_option maxRecDepth 100000 in
set_option maxHeartbeats 4000000 in
theorem codeOf_ (T : TypeId) (x : Value) (a0 a1 a2 a3 : Addr) (t0 t1 t2 t3 : Bool) (w : World)
    (HC0 : Hid (∀ wx, Below w.heap.size w wx → wx.cell? ⟨6, 0, none⟩ = some (.iface 180 (.pointer (some a0)))))
    (HC1 : Hid (∀ wx, Below w.heap.size w wx → wx.cell? ⟨0, 0, none⟩ = some (.iface 180 (.pointer (some a1)))))
    (HC2 : Hid (∀ wx, Below w.heap.size w wx → wx.cell? ⟨1, 0, none⟩ = some (.iface 180 (.pointer (some a2)))))
    (HC3 : Hid (∀ wx, Below w.heap.size w wx → wx.cell? ⟨2, 0, none⟩ = some (.iface 180 (.pointer (some a3)))))
    (H0 : Hid (∀ wx, Below w.heap.size w wx → Calls Tryz.prog 47 #[.iface T x, .iface 180 (.pointer (some a0))] wx fun e w' => e = .returned (.bool t0) ∧ Below wx.heap.size wx w'))
    (H1 : Hid (∀ wx, Below w.heap.size w wx → Calls Tryz.prog 47 #[.iface T x, .iface 180 (.pointer (some a1))] wx fun e w' => e = .returned (.bool t1) ∧ Below wx.heap.size wx w'))
    (H2 : Hid (∀ wx, Below w.heap.size w wx → Calls Tryz.prog 47 #[.iface T x, .iface 180 (.pointer (some a2))] wx fun e w' => e = .returned (.bool t2) ∧ Below wx.heap.size wx w'))
    (H3 : Hid (∀ wx, Below w.heap.size w wx → Calls Tryz.prog 47 #[.iface T x, .iface 180 (.pointer (some a3))] wx fun e w' => e = .returned (.bool t3) ∧ Below wx.heap.size wx w')) :
    Calls Tryz.prog 34 #[.iface T x] w fun e w' => e = .returned (.int .i64 (if t0 = true then 1 else if t1 = true then 3 else if t2 = true then 4 else if t3 = true then 5 else 2)) ∧ Below w.heap.size w w' := by
  have hb0 : Below w.heap.size w w := Below.refl _ _
  cases t0 with
  | true =>
    go_enter Tryz.func34, Tryz.ntmps34
    have c0 := HC0.out _ hb0
    go_wp2_with fail
    refine (H0.out _ hb0).mono ?_
    rintro e w1 ⟨rfl, hb'⟩
    have hb1 := hb0.trans (hb'.mono hb0.size)
    clear hb' c0
    go_wp2_with fail
    go_ret
    exact ⟨rfl, hb1⟩
  | false =>
    cases t1 with
    | true =>
      go_enter Tryz.func34, Tryz.ntmps34
      have c0 := HC0.out _ hb0
      go_wp2_with fail
      refine (H0.out _ hb0).mono ?_
      rintro e w1 ⟨rfl, hb'⟩
      have hb1 := hb0.trans (hb'.mono hb0.size)
      clear hb' c0
      have c1 := HC1.out _ hb1
      go_wp2_with fail
      refine (H1.out _ hb1).mono ?_
      rintro e w2 ⟨rfl, hb'⟩
      have hb2 := hb1.trans (hb'.mono hb1.size)
      clear hb' c1
      go_wp2_with fail
      go_ret
      exact ⟨rfl, hb2⟩
    | false =>
      cases t2 with
      | true =>
        go_enter Tryz.func34, Tryz.ntmps34
        have c0 := HC0.out _ hb0
        go_wp2_with fail
        refine (H0.out _ hb0).mono ?_
        rintro e w1 ⟨rfl, hb'⟩
        have hb1 := hb0.trans (hb'.mono hb0.size)
        clear hb' c0
        have c1 := HC1.out _ hb1
        go_wp2_with fail
        refine (H1.out _ hb1).mono ?_
        rintro e w2 ⟨rfl, hb'⟩
        have hb2 := hb1.trans (hb'.mono hb1.size)
        clear hb' c1
        have c2 := HC2.out _ hb2
        go_wp2_with fail
        refine (H2.out _ hb2).mono ?_
        rintro e w3 ⟨rfl, hb'⟩
        have hb3 := hb2.trans (hb'.mono hb2.size)
        clear hb' c2
        go_wp2_with fail
        go_ret
        exact ⟨rfl, hb3⟩
      | false =>
        cases t3 with
        | true =>
          go_enter Tryz.func34, Tryz.ntmps34
          have c0 := HC0.out _ hb0
          go_wp2_with fail
          refine (H0.out _ hb0).mono ?_
          rintro e w1 ⟨rfl, hb'⟩
          have hb1 := hb0.trans (hb'.mono hb0.size)
          clear hb' c0
          have c1 := HC1.out _ hb1
          go_wp2_with fail
          refine (H1.out _ hb1).mono ?_
          rintro e w2 ⟨rfl, hb'⟩
          have hb2 := hb1.trans (hb'.mono hb1.size)
          clear hb' c1
          have c2 := HC2.out _ hb2
          go_wp2_with fail
          refine (H2.out _ hb2).mono ?_
          rintro e w3 ⟨rfl, hb'⟩
          have hb3 := hb2.trans (hb'.mono hb2.size)
          clear hb' c2
          have c3 := HC3.out _ hb3
          go_wp2_with fail
          refine (H3.out _ hb3).mono ?_
          rintro e w4 ⟨rfl, hb'⟩
          have hb4 := hb3.trans (hb'.mono hb3.size)
          clear hb' c3
          go_wp2_with fail
          go_ret
          exact ⟨rfl, hb4⟩
        | false =>
          go_enter Tryz.func34, Tryz.ntmps34
          have c0 := HC0.out _ hb0
          go_wp2_with fail
          refine (H0.out _ hb0).mono ?_
          rintro e w1 ⟨rfl, hb'⟩
          have hb1 := hb0.trans (hb'.mono hb0.size)
          clear hb' c0
          have c1 := HC1.out _ hb1
          go_wp2_with fail
          refine (H1.out _ hb1).mono ?_
          rintro e w2 ⟨rfl, hb'⟩
          have hb2 := hb1.trans (hb'.mono hb1.size)
          clear hb' c1
          have c2 := HC2.out _ hb2
          go_wp2_with fail
          refine (H2.out _ hb2).mono ?_
          rintro e w3 ⟨rfl, hb'⟩
          have hb3 := hb2.trans (hb'.mono hb2.size)
          clear hb' c2
          have c3 := HC3.out _ hb3
          go_wp2_with fail
          refine (H3.out _ hb3).mono ?_
          rintro e w4 ⟨rfl, hb'⟩
          have hb4 := hb3.trans (hb'.mono hb3.size)
          clear hb' c3
          go_wp2_with fail
          go_ret
          exact ⟨rfl, hb4⟩
theorem lastKind_take (tx : Int) (l : List Rc) (k : Nat) (h : k < l.length) : lastKind tx (l.take (k + 1)) = if l[k].2.1 = tx then l[k].1 else lastKind tx (l.take k) := by
  rw [List.take_succ_eq_append_getElem h, lastKind_snoc]
set_option maxRecDepth 100000 in
set_option maxHeartbeats 4000000 in
theorem i_standing (G : List Nat) (A : Nat → Addr) (la : Option Addr) (ln lc : Nat) (ma : Option Addr) (mn mc : Nat) (ha : Option Addr) (hn hc : Nat) (s : Shd) (tx : Int) (w : World) (h : SeeSh w la ln lc ma mn mc ha hn hc s) (hK : KS G A w) :
    Calls Tryz.prog 38 #[aggSh s.1 s.2.2.1 la ln lc ma mn mc ha hn hc, .int .i64 tx] w fun e w' => e = .returned (.iface 180 (.pointer (some (A (senOf (lastKind tx s.2.1)))))) ∧ Below w.heap.size w w' := by
  obtain ⟨hl, hm, hsm, hc'⟩ := id h.log
  unfold maxLen at hm
  obtain ⟨W, hW⟩ : ∃ W, w.alloc (boxSh s.1 s.2.2.1 la ln lc ma mn mc ha hn hc) = W := ⟨_, rfl⟩
  have hB : Below w.heap.size w W := by rw [← hW]; exact (Below.refl _ _).alloc (Nat.le_refl _) _
  have hbx : BoxIn w.heap.size 27 [] (shVals s.1 s.2.2.1 la ln lc ma mn mc ha hn hc) [] W := by rw [← hW]; exact boxIn_new w _ _
  have c1 := hbx.cell 1 _ rfl
  simp only [List.length_nil, Nat.zero_add] at c1
  have hlog := h.log.below hB
  have hKW := hK.below hB
  have HW := Hid.mk' hW
  rw [← hW] at c1
  have HL := Hid.mk' hl
  clear hW hl
  go_enter Tryz.func38, Tryz.ntmps38
  go_wp2_with fail
  rw [HW.out]
  clear c1 HW
  go_loopw [5, 11] (fun o i wr => ∃ k : Nat, k ≤ ln ∧ i = .int .i64 (k : Int) ∧ o = .int .i64 (lastKind tx (s.2.1.take k)) ∧ Below W.heap.size W wr) (fun _ i _ => ln - (intOf i).toNat)
  case atStart => exact ⟨0, Nat.zero_le _, rfl, rfl, Below.refl _ _⟩
  case round =>
    obtain ⟨k, hk, rfl, rfl, hb⟩ := hrel
    by_cases hlt : k < ln
    · have hltl : k < s.2.1.length := by have := HL.out; omega
      obtain ⟨b, off, e, _⟩ := hc' (by omega)
      subst e
      obtain ⟨e0, e1, pa, pl, pc, e2, _, _⟩ := (hlog.below hb).at k hltl
      have hki : (k : Int) < (ln : Int) := by omega
      have HT := Hid.mk' (lastKind_take tx s.2.1 k hltl)
      generalize s.2.1[k] = r at *
      generalize lastKind tx (s.2.1.take k) = o0 at *
      obtain ⟨r1, r2, r3⟩ := r
      simp only [] at e0 e1 e2 HT
      have HB2 := Hid.mk' (hb.alloc hb.size (.cells #[.int .i64 r1, .int .i64 r2, .slice pa pl pc] 41))
      clear hb
      by_cases h1 : r2 = tx
      · subst h1
        have f1 : (r2 == r2) = true := by simp
        have HT2 : Hid (lastKind r2 (s.2.1.take (k + 1)) = r1) := by show _ = _; rw [HT.out]; simp
        clear HT
        go_wp2_with fail
        go_roundw
        case rel => exact ⟨k + 1, by omega, by go_num, by rw [HT2.out], HB2.out⟩
        case measure => simp [intOf]; omega
      · have f1 : (r2 == tx) = false := beq_eq_false_iff_ne.2 h1
        have HT2 : Hid (lastKind tx (s.2.1.take (k + 1)) = o0) := by show _ = _; rw [HT.out]; simp [h1]
        clear HT h1
        go_wp2_with fail
        go_roundw
        case rel => exact ⟨k + 1, by omega, by go_num, by rw [HT2.out], HB2.out⟩
        case measure => simp [intOf]; omega
    · have HE : Hid (s.2.1.take k = s.2.1) := List.take_of_length_le (by have := HL.out; omega)
      have hnk : ¬ (k : Int) < (ln : Int) := by omega
      have hBz := hB.trans (hb.mono hB.size)
      have hKr := hKW.below hb
      have g0 := hKr.cell 6 (hK.sub _ (by decide))
      have g1 := hKr.cell 0 (hK.sub _ (by decide))
      have g2 := hKr.cell 1 (hK.sub _ (by decide))
      have g4 := hKr.cell 3 (hK.sub _ (by decide))
      rw [HE.out]
      clear hKr hb HE hKW hK
      obtain ⟨o0, ho0⟩ : ∃ o0, lastKind tx s.2.1 = o0 := ⟨_, rfl⟩
      rw [ho0]
      have HO := Hid.mk' ho0
      clear ho0
      by_cases k1 : o0 = 1
      · have HA : Hid (senOf o0 = 6) := by show _ = _; unfold senOf; rw [if_pos k1]
        have HG := Hid.mk' g0
        rw [show A 6 = A (senOf o0) by rw [HA.out]] at HG
        have g1' := HG.out
        subst k1
        clear g0 g1 g2 g4 HA HG
        go_wp2_with fail
        go_ret
        exact ⟨by rw [HO.out]; rfl, hBz⟩
      have b1 : (o0 == 1) = false := beq_eq_false_iff_ne.2 k1
      by_cases k2 : o0 = 2
      · have HA : Hid (senOf o0 = 0) := by show _ = _; unfold senOf; rw [if_neg k1, if_pos k2]
        have HG := Hid.mk' g1
        rw [show A 0 = A (senOf o0) by rw [HA.out]] at HG
        have g1' := HG.out
        subst k2
        clear k1 g0 g1 g2 g4 HA HG b1
        go_wp2_with fail
        go_ret
        exact ⟨by rw [HO.out]; rfl, hBz⟩
      have b2 : (o0 == 2) = false := beq_eq_false_iff_ne.2 k2
      by_cases k3 : o0 = 3
      · have HA : Hid (senOf o0 = 1) := by show _ = _; unfold senOf; rw [if_neg k1, if_neg k2, if_pos k3]
        have HG := Hid.mk' g2
        rw [show A 1 = A (senOf o0) by rw [HA.out]] at HG
        have g1' := HG.out
        subst k3
        clear k1 k2 g0 g1 g2 g4 HA HG b1 b2
        go_wp2_with fail
        go_ret
        exact ⟨by rw [HO.out]; rfl, hBz⟩
      have b3 : (o0 == 3) = false := beq_eq_false_iff_ne.2 k3
      have HA : Hid (senOf o0 = 3) := by show _ = _; unfold senOf; rw [if_neg k1, if_neg k2, if_neg k3]
      have HG := Hid.mk' g4
      rw [show A 3 = A (senOf o0) by rw [HA.out]] at HG
      have g1' := HG.out
      clear g0 g1 g2 g4 HA HG
      go_wp2_with fail
      go_ret
      exact ⟨by rw [HO.out]; rfl, hBz⟩
end Go.Proofs.YteniflajiklffaaGreatDoor.recs

namespace Go.Proofs.YteniflajiklffaaGreatDoor.recs
open Go Go.RowKit Go.Proofs.YteniflajiklffaaGreatDoor.base Go.Proofs.YteniflajiklffaaGreatDoor.pairs Go.Proofs.YteniflajiklffaaGreatDoor.ords Go.Proofs.YteniflajiklffaaGreatDoor.helps Go.Proofs.YteniflajiklffaaGreatDoor.help Go.Proofs.YteniflajiklffaaGreatDoor.lay Go.Proofs.YteniflajiklffaaGreatDoor.sent
set_option linter.unusedVariables false
set_option linter.unusedSimpArgs false

set_option maxRecDepth 100000 in
set_option maxHeartbeats 4000000 in
theorem i_heldKeys (la : Option Addr) (ln lc : Nat) (ma : Option Addr) (mn mc : Nat) (ha : Option Addr) (hn hc : Nat) (s : Shd) (w : World) (h : SeeSh w la ln lc ma mn mc ha hn hc s) (hs : ∀ k, sumOps (s.2.2.2.2.take k) ≤ 1000000) :
    Calls Tryz.prog 73 #[aggSh s.1 s.2.2.1 la ln lc ma mn mc ha hn hc] w fun e w' => e = .returned (.int .i64 (sumOps s.2.2.2.2 : Int)) ∧ Below w.heap.size w w' := by
  obtain ⟨hl, hm, hsm, hc'⟩ := id h.held
  unfold maxLen at hm
  obtain ⟨W, hW⟩ : ∃ W, w.alloc (boxSh s.1 s.2.2.1 la ln lc ma mn mc ha hn hc) = W := ⟨_, rfl⟩
  have hB : Below w.heap.size w W := by rw [← hW]; exact (Below.refl _ _).alloc (Nat.le_refl _) _
  have hbx : BoxIn w.heap.size 27 [] (shVals s.1 s.2.2.1 la ln lc ma mn mc ha hn hc) [] W := by rw [← hW]; exact boxIn_new w _ _
  have c1 := hbx.cell 4 _ rfl
  simp only [List.length_nil, Nat.zero_add] at c1
  have hheld := h.held.below hB
  have HW := Hid.mk' hW
  rw [← hW] at c1
  have HL := Hid.mk' hl
  have HS := Hid.mk' hs
  clear hW hl hs
  go_enter Tryz.func73, Tryz.ntmps73
  go_wp2_with fail
  rw [HW.out]
  clear c1 HW
  go_loopw [3, 9] (fun o i wr => ∃ k : Nat, k ≤ hn ∧ i = .int .i64 (k : Int) ∧ o = .int .i64 (sumOps (s.2.2.2.2.take k) : Int) ∧ Below W.heap.size W wr) (fun _ i _ => hn - (intOf i).toNat)
  case atStart => exact ⟨0, Nat.zero_le _, rfl, rfl, Below.refl _ _⟩
  case round =>
    obtain ⟨k, hk, rfl, rfl, hb⟩ := hrel
    by_cases hlt : k < hn
    · have hltl : k < s.2.2.2.2.length := by have := HL.out; omega
      obtain ⟨b, off, e, _⟩ := hc' (by omega)
      subst e
      obtain ⟨e0, e1, pa, pl, pc, e2, hSo, _⟩ := (hheld.below hb).at k hltl
      have hki : (k : Int) < (hn : Int) := by omega
      have HT := Hid.mk' (sumOps_take s.2.2.2.2 k hltl)
      have hs1 := HS.out k
      have hs2 := HS.out (k + 1)
      generalize s.2.2.2.2[k] = r at *
      obtain ⟨r1, r2, r3⟩ := r
      simp only [] at e0 e1 e2 HT hSo
      have hpl := hSo.1
      have HT2 : Hid (sumOps (s.2.2.2.2.take (k + 1)) = sumOps (s.2.2.2.2.take k) + pl) := by show _ = _; rw [HT.out, hpl]
      have hs3 : sumOps (s.2.2.2.2.take k) + pl ≤ 1000000 := by rw [← HT2.out]; exact hs2
      have hwr : IntKind.i64.wrap ((sumOps (s.2.2.2.2.take k) : Int) + (pl : Int)) = (sumOps (s.2.2.2.2.take k) : Int) + (pl : Int) := wraps_i64 _ (by omega) (by omega)
      have HB2 := Hid.mk' (hb.alloc hb.size (.cells #[.int .i64 r1, .int .i64 r2, .slice pa pl pc] 41))
      have HE : Hid (Value.int .i64 ((sumOps (s.2.2.2.2.take k) : Int) + (pl : Int)) = .int .i64 (sumOps (s.2.2.2.2.take (k + 1)) : Int)) := by show _ = _; rw [HT2.out]; congr 1
      clear hb HT HT2 hpl hSo hs1 hs2
      generalize sumOps (s.2.2.2.2.take k) = S0 at *
      go_wp2_with fail
      go_roundw
      case rel => exact ⟨k + 1, by omega, by go_num, HE.out, HB2.out⟩
      case measure => simp [intOf]; omega
    · have HE : Hid (s.2.2.2.2.take k = s.2.2.2.2) := List.take_of_length_le (by have := HL.out; omega)
      have hnk : ¬ (k : Int) < (hn : Int) := by omega
      have hBz := hB.trans (hb.mono hB.size)
      clear hb
      go_wp2_with fail
      go_ret
      exact ⟨by rw [HE.out]; rfl, hBz⟩
set_option maxRecDepth 100000 in
theorem i_room (la : Option Addr) (ln lc : Nat) (ma : Option Addr) (mn mc : Nat) (ha : Option Addr) (hn hc : Nat) (s : Shd) (w : World) (hln : ln + hn ≤ 300) :
    Calls Tryz.prog 74 #[aggSh s.1 s.2.2.1 la ln lc ma mn mc ha hn hc] w fun e w' => e = .returned (.int .i64 (300 - (ln : Int) - (hn : Int))) ∧ Below w.heap.size w w' := by
  obtain ⟨W, hW⟩ : ∃ W, w.alloc (boxSh s.1 s.2.2.1 la ln lc ma mn mc ha hn hc) = W := ⟨_, rfl⟩
  have hB : Below w.heap.size w W := by rw [← hW]; exact (Below.refl _ _).alloc (Nat.le_refl _) _
  have hbx : BoxIn w.heap.size 27 [] (shVals s.1 s.2.2.1 la ln lc ma mn mc ha hn hc) [] W := by rw [← hW]; exact boxIn_new w _ _
  have c1 := hbx.cell 1 _ rfl
  have c4 := hbx.cell 4 _ rfl
  simp only [List.length_nil, Nat.zero_add] at c1 c4
  have HW := Hid.mk' hW
  rw [← hW] at c1 c4
  have hw1 : IntKind.i64.wrap (300 - (ln : Int)) = 300 - (ln : Int) := wraps_i64 _ (by omega) (by omega)
  have hw2 : IntKind.i64.wrap (300 - (ln : Int) - (hn : Int)) = 300 - (ln : Int) - (hn : Int) := wraps_i64 _ (by omega) (by omega)
  clear hW
  go_enter Tryz.func74, Tryz.ntmps74
  go_wp2_with fail
  rw [HW.out]
  go_ret
  exact ⟨rfl, hB⟩
end Go.Proofs.YteniflajiklffaaGreatDoor.recs

namespace Go.Proofs.YteniflajiklffaaGreatDoor.recs
open Go Go.RowKit Go.Proofs.YteniflajiklffaaGreatDoor.base Go.Proofs.YteniflajiklffaaGreatDoor.pairs Go.Proofs.YteniflajiklffaaGreatDoor.ords Go.Proofs.YteniflajiklffaaGreatDoor.helps Go.Proofs.YteniflajiklffaaGreatDoor.help Go.Proofs.YteniflajiklffaaGreatDoor.lay
set_option linter.unusedVariables false
set_option linter.unusedSimpArgs false

set_option maxRecDepth 100000 in
set_option maxHeartbeats 2000000 in
theorem i_ownRecs (a : Option Addr) (len cap : Nat) (l : List Rc) (w : World) (h : SlR w a len l) (hsz : len ≤ 1099511627776) (hops : ∀ r ∈ l, r.2.2.length ≤ 1099511627776) :
    Calls Tryz.prog 75 #[.slice a len cap] w fun e w' => ∃ g cp hs, e = .returned (.slice (some ⟨g, 0, none⟩) len cp) ∧ OwnR w' w.heap.size (.slice (some ⟨g, 0, none⟩) len cp) l hs ∧ Below w.heap.size w w' := by
  obtain ⟨i0, hi, hz0, hz1, hz2⟩ := info_parts infoRW
  obtain ⟨hl, hm, hsm, hc⟩ := id h
  subst hl
  have hm' := hm
  unfold maxLen at hm'
  go_enter Tryz.func75, Tryz.ntmps75
  go_wp2_with (at_make; refine wpList_make_own _ rfl _ _ 24 rfl w.heap.size 41 i0 (.agg #[.int .i64 0, .int .i64 0, .slice none 0 0]) 3 Tryz.underlying24 hi hz0 hz1 _ _ _ l.length rfl rfl rfl ?b2 ?b3 ?b4 ?_)
  case b2 => rw [hz2]; omega
  case b3 => exact hm
  case b4 => exact Nat.le_refl _
  intro w1 hown hgrow
  have hO0 : OwnR w1 w.heap.size (.slice (some ⟨w.heap.size, 0, none⟩) 0 l.length) (l.take 0) [] :=
    ⟨rfl, (fun _ h => absurd h (by simp)), hown, fun i hi => absurd hi (by simp), List.Pairwise.nil, fun k _ y hy => absurd hy List.not_mem_nil⟩
  have hB0 : Below w.heap.size w w1 := (Below.refl _ _).grown hgrow (Nat.le_refl _) (fun k e => by cases e)
  clear hown hgrow
  go_wp2_with (at_builtin; fail)
  go_loopw [3, 11] (fun v i wr => ∃ (k g cp : Nat) (hs : List Value), k ≤ l.length ∧ v = .slice (some ⟨g, 0, none⟩) k cp ∧ i = .int .i64 (k : Int) ∧ OwnR wr w.heap.size (.slice (some ⟨g, 0, none⟩) k cp) (l.take k) hs ∧ Below w.heap.size w wr) (fun _ i _ => l.length - (intOf i).toNat)
  case atStart => exact ⟨0, _, _, [], Nat.zero_le _, rfl, rfl, hO0, hB0⟩
  case round =>
    clear hO0 hB0
    obtain ⟨k, g, cp, hs, hk, rfl, rfl, hO, hB⟩ := hrel
    by_cases hlt : k < l.length
    · obtain ⟨b, off, ha, _⟩ := hc (by omega)
      subst ha
      obtain ⟨c0, c1, pa, pl, pc, c2, hSo, _⟩ := (h.at k hlt).below hB
      have hki : (k : Int) < (l.length : Int) := by omega
      have hsr := hsm _ (List.getElem_mem hlt)
      have hol := hops _ (List.getElem_mem hlt)
      have HTK : Hid (l.take (k + 1) = l.take k ++ [l[k]]) := List.take_succ_eq_append_getElem hlt
      have htl : (l.take k).length = k := by rw [List.length_take]; omega
      generalize l[k] = r at *
      generalize l.take k = T at *
      have hpe := hSo.1
      obtain ⟨W, hW⟩ : ∃ W, wr.alloc (.cells #[.int .i64 r.1, .int .i64 r.2.1, .slice pa pl pc] 41) = W := ⟨_, rfl⟩
      have hbW : Below wr.heap.size wr W := by rw [← hW]; exact (Below.refl _ _).alloc (Nat.le_refl _) _
      have HCR := Hid.mk' (i_ownRec r.1 r.2.1 pa pl pc r.2.2 W (hSo.below hbW) (by omega))
      have HW := Hid.mk' hW
      have HTL := Hid.mk' htl
      have HO := Hid.mk' (hO.below hbW)
      have hBW := hB.trans (hbW.mono hB.size)
      clear hO htl hW hbW
      go_wp2_with (at_builtin; fail)
      rw [HW.out]
      refine HCR.out.mono ?_
      rintro e w3 ⟨g3, rfl, hO3, hb3⟩
      have hV3 := (ownV_of hO3).mono (base' := w.heap.size) hBW.size
      have hOa := HO.out.below hb3
      have hB3 := hBW.trans (hb3.mono hBW.size)
      have hg3 := hO3.lt
      have hout : ∀ j, (Value.slice (some ⟨g3, 0, none⟩) pl pl).ownBlock = some j → ¬ BlkR (.slice (some ⟨g, 0, none⟩) k cp) hs j := fun j hj hb => by
        have e1 : g3 = j := by simpa [Value.ownBlock] using hj
        have := (HO.out.lt j hb).2
        omega
      have HOU := Hid.mk' hout
      have hbn : Below w3.heap.size w3 (w3.alloc (.cells #[.int .i64 r.1, .int .i64 r.2.1, .slice (some ⟨g3, 0, none⟩) pl pl] 41)) := (Below.refl _ _).alloc (Nat.le_refl _) _
      have hO4 := hOa.below hbn
      have hV4 := hV3.below hbn
      have hB4 := hB3.trans (hbn.mono hB3.size)
      have HOC := Hid.mk' (rec_cellsW w3 r.1 r.2.1 (.slice (some ⟨g3, 0, none⟩) pl pl) 41)
      have HON := Hid.mk' (rec_oneW r.1 r.2.1 hV3.one)
      have hc3 : T.length + 1 ≤ maxLen := by have := HTL.out; unfold maxLen; omega
      have hc4 : (T.length + 1) * 40 ≤ 140737488355328 := by have := HTL.out; omega
      clear HCR hO3 hb3 hV3 hOa hB3 hbn hout c0 c1 c2 HO
      go_wp2_with (at_builtin; refine wpList_append_own _ rfl (.tmp 15) (.tmp 18) 24 rfl w.heap.size 41 i0 (.agg #[.int .i64 0, .int .i64 0, .slice none 0 0]) 3 40 Tryz.underlying24 hi hz0 hz1 hz2 rfl (by decide) _ _ _ rfl hO4.row ⟨w3.heap.size, 0, none⟩ 1 1 _ rfl rfl HOC.out HON.out hc3 hc4 hB4.size ?_)
      intro v5 w5 hown5 hgrow5 hnn5
      have hnn' : ¬ v5 = .slice none 0 0 := by simpa using hnn5
      have hO5 := hO4.snoc hV4 hsr HOU.out hown5 hgrow5
      have hB5 : Below w.heap.size w w5 := hB4.grown hgrow5 hB4.size (fun j e => (hO4.row.lt j e).1)
      rw [← HTK.out] at hO5
      have htl2 : (l.take (k + 1)).length = k + 1 := by rw [List.length_take]; omega
      rcases hO5.shape with ⟨hv5, _⟩ | ⟨g5, cp5, hv5, _⟩
      · exact absurd hv5 hnn'
      · rw [htl2] at hv5
        subst hv5
        have HO5 := Hid.mk' hO5
        clear hown5 hgrow5 hnn5 hnn' hO5 hO4 hB4 hV4 HOC HON HOU htl2
        go_wp2_with (at_builtin; fail)
        go_roundw
        case rel => exact ⟨k + 1, g5, cp5, _, by omega, rfl, by go_num, HO5.out, hB5⟩
        case measure => simp [intOf]; omega
    · have hke : k = l.length := by omega
      subst hke
      rw [List.take_length] at hO
      have hlt2 : ¬ (l.length : Int) < (l.length : Int) := by omega
      go_wp2_with (at_builtin; fail)
      go_ret
      exact ⟨g, cp, rfl, ⟨hs, hO⟩, hB⟩
end Go.Proofs.YteniflajiklffaaGreatDoor.recs

namespace Go.Proofs.YteniflajiklffaaGreatDoor.recs
open Go Go.RowKit Go.Proofs.YteniflajiklffaaGreatDoor.base Go.Proofs.YteniflajiklffaaGreatDoor.pairs Go.Proofs.YteniflajiklffaaGreatDoor.ords
set_option linter.unusedVariables false

theorem sumOps_append (a b : List Rc) : sumOps (a ++ b) = sumOps a + sumOps b := by unfold sumOps; rw [List.map_append, List.sum_append]
theorem go_recOk : ∀ (l : List Rc) (s t : St), replayGo s l = some t → ∀ r ∈ l, recOk r = true
  | [], _, _, _, r, hr => absurd hr List.not_mem_nil
  | x :: l, s, t, e, r, hr => by
    rw [replayGo] at e
    split at e
    · cases e
    · next u hu =>
      rcases List.mem_cons.1 hr with rfl | hr
      · unfold one at hu
        split at hu
        · assumption
        · cases hu
      · exact go_recOk l u t e r hr
theorem Right.recOk {s : Shd} (h : Right s) : ∀ r ∈ s.2.1, recs.recOk r = true := by
  obtain ⟨seen, hm⟩ := h.made
  exact go_recOk _ _ _ hm
theorem holdNo_false {s : Shd} {ops : List Od} (h : ¬ holdNo s ops = true) : locked s.2.2.2.2 ops = false ∧ meets s.2.2.2.1 ops = true ∧ keysOf s ops ≤ 60 ∧ s.2.1.length + s.2.2.2.2.length + 2 ≤ 300 := by
  unfold holdNo at h
  simp only [Bool.or_eq_true, decide_eq_true_iff, not_or, Bool.not_eq_true', Bool.not_eq_true, Bool.not_eq_false] at h
  exact ⟨h.1.1.1, h.1.1.2, by omega, by omega⟩
theorem holdS_cases (s : Shd) (tx : Int) (ops : List Od) : (holdS s tx ops).1 = s ∨ ((holdS s tx ops) = (written s (1, tx, ops), 1) ∧ (txOk tx && opsOk ops) = true ∧ outc s tx = 2 ∧ ¬ holdNo s ops = true) := by
  unfold holdS
  split
  · exact .inl rfl
  · next h1 =>
    split
    · exact .inl rfl
    · next h2 =>
      split
      · exact .inl rfl
      · next h3 => exact .inr ⟨rfl, by simpa using h1, by omega, h3⟩
theorem recOk_of {tx : Int} {ops : List Od} (h : (txOk tx && opsOk ops) = true) : recOk (1, tx, ops) = true := by
  rw [Bool.and_eq_true] at h
  exact (recOk_iff _).2 ⟨by simpa [txOk] using h.1, .inl ⟨rfl, h.2⟩⟩
theorem hold_one {s : Shd} {tx : Int} {ops : List Od} (h : Right s) (h1 : (txOk tx && opsOk ops) = true) (h2 : outc s tx = 2) (h3 : ¬ holdNo s ops = true) : ∃ seen, replay s.2.1 = some (s.2.2.2.1, s.2.2.2.2, seen) ∧ one (s.2.2.2.1, s.2.2.2.2, seen) (1, tx, ops) = some (s.2.2.2.1, s.2.2.2.2 ++ [(1, tx, ops)], seen ++ [tx]) := by
  obtain ⟨seen, hm⟩ := h.made
  obtain ⟨g1, g2, _, _⟩ := holdNo_false h3
  exact ⟨seen, hm, hold_fits h hm (recOk_of h1) h2 g1 g2⟩
theorem right_hold {s : Shd} {tx : Int} {ops : List Od} (h : Right s) : Right (holdS s tx ops).1 := by
  rcases holdS_cases s tx ops with e | ⟨e, h1, h2, h3⟩
  · rw [e]; exact h
  · rw [e]
    obtain ⟨seen, hm, ho⟩ := hold_one h h1 h2 h3
    obtain ⟨_, _, _, g4⟩ := holdNo_false h3
    exact right_written h hm ho (by simp; omega)
theorem Right.held_tx {s : Shd} (h : Right s) : ∀ r ∈ s.2.2.2.2, r ∈ s.2.1 ∧ r.1 = 1 := fun r hr => by
  obtain ⟨seen, hm⟩ := h.made
  have := (replay_ok hm).2.1 r hr
  exact ⟨this.1, this.2.1⟩
end Go.Proofs.YteniflajiklffaaGreatDoor.recs

namespace Go.Proofs.YteniflajiklffaaGreatDoor.recs
open Go Go.RowKit Go.Proofs.YteniflajiklffaaGreatDoor.base Go.Proofs.YteniflajiklffaaGreatDoor.pairs Go.Proofs.YteniflajiklffaaGreatDoor.ords Go.Proofs.YteniflajiklffaaGreatDoor.helps Go.Proofs.YteniflajiklffaaGreatDoor.help Go.Proofs.YteniflajiklffaaGreatDoor.lay
set_option linter.unusedVariables false
set_option linter.unusedSimpArgs false

theorem ok_eight {r : Rc} (h : recOk r = true) : r.2.2.length ≤ 8 ∧ ∀ p ∈ r.2.2, p.2.1.size ≤ 1099511627776 := by
  rcases ((recOk_iff r).1 h).2 with ⟨_, h2⟩ | ⟨_, h2⟩
  · refine ⟨((opsOk_iff _).1 h2).2.2, fun p hp => ?_⟩
    have h3 := ((opsOk_iff _).1 h2).1.1 p hp
    have h5 := keyOk_size ((odOk_iff p).1 h3).2.2.1
    omega
  · rw [h2]; exact ⟨by simp, fun p hp => absurd hp List.not_mem_nil⟩
theorem cntR_26 {l : List Rc} (h : ∀ r ∈ l, r.2.2.length ≤ 8) : cntR l ≤ 26 * l.length := by
  induction l with
  | nil => simp [cntR]
  | cons r l ih =>
    have h1 := h r List.mem_cons_self
    have h2 := ih (fun x hx => h x (List.mem_cons_of_mem _ hx))
    unfold cntR at h2 ⊢
    simp only [List.map_cons, List.sum_cons, List.length_cons]
    omega
theorem few_ok {l : List Rc} (h : ∀ r ∈ l, recOk r = true) : Few l := fun r hr => ⟨by have := (ok_eight (h r hr)).1; omega, (ok_eight (h r hr)).2⟩
theorem right_bd {s : Shd} (h : Right s) : Bound s := by
  have h1 := h.room
  obtain ⟨seen, hm⟩ := h.made
  have h2 := ((pairsOk_iff _).1 (replay_ok hm).1).2
  have h3 := cntR_26 (fun r hr => (ok_eight (h.recOk r hr)).1)
  have h4 := cntR_26 (l := s.2.2.2.2) (fun r hr => (ok_eight (h.recOk r (h.held_tx r hr).1)).1)
  simp only [] at h2
  refine ⟨few_ok h.recOk, few_ok (fun r hr => h.recOk r (h.held_tx r hr).1), by omega, by omega, by omega, ?_⟩
  unfold cntS
  omega
end Go.Proofs.YteniflajiklffaaGreatDoor.recs

namespace Go.Proofs.YteniflajiklffaaGreatDoor.recs
open Go Go.RowKit Go.Proofs.YteniflajiklffaaGreatDoor.base Go.Proofs.YteniflajiklffaaGreatDoor.pairs Go.Proofs.YteniflajiklffaaGreatDoor.ords Go.Proofs.YteniflajiklffaaGreatDoor.helps Go.Proofs.YteniflajiklffaaGreatDoor.help Go.Proofs.YteniflajiklffaaGreatDoor.lay Go.Proofs.YteniflajiklffaaGreatDoor.sent
set_option linter.unusedVariables false
set_option linter.unusedSimpArgs false

def DoPost (A : Nat → Addr) (t : Shd) (g : Option Nat) (w : World) (e : Ending) (w' : World) : Prop :=
  match g with
  | some k => e = .returned (.tuple #[.agg #[.int .i64 0, .slice none 0 0, .int .i64 0, .slice none 0 0, .slice none 0 0], .iface 180 (.pointer (some (A k)))]) ∧ Below w.heap.size w w'
  | none => ∃ (la : Option Addr) (ln lc : Nat) (ma : Option Addr) (mn mc : Nat) (ha : Option Addr) (hn hc : Nat) (F : List Nat), e = .returned (.tuple #[aggSh t.1 t.2.2.1 la ln lc ma mn mc ha hn hc, .nilIface]) ∧ OwnSh w' la ln lc ma mn mc ha hn hc t F ∧ (∀ k ∈ F, w.heap.size ≤ k) ∧ Below w.heap.size w w'
def holdErr (s : Shd) (tx : Int) (ops : List Od) : Option Nat :=
  if lastKind tx s.2.1 ≠ 0 then some (senOf (lastKind tx s.2.1)) else if 60 < s.2.2.2.1.length + sumOps s.2.2.2.2 + ops.length ∨ 300 - (s.2.1.length : Int) - (s.2.2.2.2.length : Int) < 2 then some 4 else match replay (s.2.1 ++ [(1, tx, ops)]) with | none => some 5 | some _ => none
theorem own_made {V : World} {B C : Nat} {sid su : Int} {gl n cl gm nm cm gh ch : Nat} {t : Option St} {L : List Rc} {hl hh : List Value} (hid : (Lit.int .i64 sid).wf = true) (hsu : (Lit.int .i64 su).wf = true) (hOl : OwnR V 0 (.slice (some ⟨gl, 0, none⟩) n cl) L hl) (hlB : ∀ k, BlkR (.slice (some ⟨gl, 0, none⟩) n cl) hl k → B ≤ k ∧ k < C)
    (hOm : OwnP V C gm nm cm (resM t)) (hOh : OwnR V C (.slice (some ⟨gh, 0, none⟩) (resH t).length ch) (resH t) hh) (hnb : ¬ BlkR (.slice (some ⟨gh, 0, none⟩) (resH t).length ch) hh gm) (hBC : B ≤ C) :
    ∃ F, OwnSh V (some ⟨gl, 0, none⟩) n cl (some ⟨gm, 0, none⟩) nm cm (some ⟨gh, 0, none⟩) (resH t).length ch (sid, L, su, resM t, resH t) F ∧ (∀ k ∈ F, B ≤ k) ∧ ∀ k ∈ F, BlkR (.slice (some ⟨gl, 0, none⟩) n cl) hl k ∨ C ≤ k := by
  have hOh0 := hOh.mono (base' := 0) (Nat.zero_le _)
  have hmlt := hOm.lt
  have n1 := recsR.ownNodup (recs_own.2 ⟨_, hOl, rfl⟩)
  have n2 := recsR.ownNodup (recs_own.2 ⟨_, hOh0, rfl⟩)
  have hw : ∀ k ∈ blkR (.slice (some ⟨gl, 0, none⟩) n cl) hl ++ ((Value.slice (some ⟨gm, 0, none⟩) nm cm).ownBlock.toList ++ blkR (.slice (some ⟨gh, 0, none⟩) (resH t).length ch) hh), BlkR (.slice (some ⟨gl, 0, none⟩) n cl) hl k ∨ C ≤ k := fun k hk => by
    rcases List.mem_append.1 hk with e | e
    · exact .inl (mem_blkR.1 e)
    · rcases List.mem_append.1 e with e | e
      · have e2 : k = gm := by simpa [Value.ownBlock] using e
        exact .inr (by rw [e2]; exact hmlt.1)
      · exact .inr (hOh.lt k (mem_blkR.1 e)).1
  refine ⟨_, ⟨hid, hsu, ⟨hl, hOl, hh, hOh0, rfl⟩, ownPV_of hOm, ?_⟩, fun k hk => ?_, hw⟩
  · refine nodup_mk n1 (nodup_mk (by simp [Value.ownBlock]) n2 (fun k hk hk2 => ?_)) (fun k hk hk2 => ?_)
    · have e2 : k = gm := by simpa [Value.ownBlock] using hk
      rw [e2] at hk2
      exact hnb (mem_blkR.1 hk2)
    · have h1 := (hlB k (mem_blkR.1 hk)).2
      rcases List.mem_append.1 hk2 with e | e
      · have e2 : k = gm := by simpa [Value.ownBlock] using e
        have := hmlt.1; omega
      · have := (hOh.lt k (mem_blkR.1 e)).1; omega
  · rcases hw k hk with e | e
    · exact (hlB k e).1
    · omega
set_option maxRecDepth 100000 in
set_option maxHeartbeats 4000000 in
theorem hold_stood (G : List Nat) (A : Nat → Addr) (la : Option Addr) (ln lc : Nat) (ma : Option Addr) (mn mc : Nat) (ha : Option Addr) (hn hc : Nat) (s : Shd) (tx : Int) (a : Option Addr) (len cap : Nat) (ops : List Od) (w : World) (h : SeeSh w la ln lc ma mn mc ha hn hc s) (hR : Right s) (ho : SlO w a len ops) (hok : recOk (1, tx, ops) = true) (hK : KS G A w) (hst : lastKind tx s.2.1 ≠ 0) :
    Calls Tryz.prog 33 #[aggSh s.1 s.2.2.1 la ln lc ma mn mc ha hn hc, .agg #[.int .i64 1, .int .i64 tx, .slice a len cap]] w fun e w' => e = .returned (.tuple #[.agg #[.int .i64 0, .slice none 0 0, .int .i64 0, .slice none 0 0, .slice none 0 0], .iface 180 (.pointer (some (A (senOf (lastKind tx s.2.1)))))]) ∧ Below w.heap.size w w' := by
  obtain ⟨W, hW⟩ : ∃ W, ((w.alloc (boxSh s.1 s.2.2.1 la ln lc ma mn mc ha hn hc)).alloc (.cells #[.int .i64 1, .int .i64 tx, .slice a len cap] 41)).alloc (boxSh 0 0 none 0 0 none 0 0 none 0 0) = W := ⟨_, rfl⟩
  have hb0 : Below w.heap.size w (w.alloc (boxSh s.1 s.2.2.1 la ln lc ma mn mc ha hn hc)) := below_alloc
  have hb1 : Below w.heap.size w ((w.alloc (boxSh s.1 s.2.2.1 la ln lc ma mn mc ha hn hc)).alloc (.cells #[.int .i64 1, .int .i64 tx, .slice a len cap] 41)) := hb0.alloc hb0.size _
  have hB : Below w.heap.size w W := by rw [← hW]; exact hb1.alloc hb1.size _
  have hX : BoxIn w.heap.size 27 [] (shVals s.1 s.2.2.1 la ln lc ma mn mc ha hn hc) [] W := by rw [← hW]; exact ((boxIn_new w _ _).below below_alloc).below below_alloc
  have hC : BoxR (w.heap.size + 1) 1 tx (.slice a len cap) W := by
    rw [← hW]
    have := (boxR_new (w.alloc (boxSh s.1 s.2.2.1 la ln lc ma mn mc ha hn hc)) 1 tx (.slice a len cap)).below (below_alloc (o := boxSh 0 0 none 0 0 none 0 0 none 0 0))
    rwa [show (w.alloc (boxSh s.1 s.2.2.1 la ln lc ma mn mc ha hn hc)).heap.size = w.heap.size + 1 by simp] at this
  have hRB : BoxIn (w.heap.size + 1 + 1) 27 [] (shVals 0 0 none 0 0 none 0 0 none 0 0) [] W := by
    rw [← hW]
    have := boxIn_new ((w.alloc (boxSh s.1 s.2.2.1 la ln lc ma mn mc ha hn hc)).alloc (.cells #[.int .i64 1, .int .i64 tx, .slice a len cap] 41)) (shVals 0 0 none 0 0 none 0 0 none 0 0) 27
    rwa [show ((w.alloc (boxSh s.1 s.2.2.1 la ln lc ma mn mc ha hn hc)).alloc (.cells #[.int .i64 1, .int .i64 tx, .slice a len cap] 41)).heap.size = w.heap.size + 1 + 1 by simp] at this
  have hsW : w.heap.size + 1 + 1 < W.heap.size := hRB.lt
  have HXC := Hid.mk' (fun wx (hx : Below W.heap.size W wx) => (show _ ∧ _ ∧ _ ∧ _ ∧ _ from by
    have a0 := (hX.below hx).cell 0 _ rfl
    have a1 := (hX.below hx).cell 1 _ rfl
    have a2 := (hX.below hx).cell 2 _ rfl
    have a3 := (hX.below hx).cell 3 _ rfl
    have a4 := (hX.below hx).cell 4 _ rfl
    simp only [List.length_nil, Nat.zero_add] at a0 a1 a2 a3 a4
    exact ⟨a0, a1, a2, a3, a4⟩))
  have HCC := Hid.mk' (fun wx (hx : Below W.heap.size W wx) => (hC.below hx).cells)
  have hKW := hK.below hB
  have hroom := hR.room
  obtain ⟨l1, l2, l3⟩ := SeeSh.lens h
  have hmn : s.2.2.2.1.length ≤ 60 := by
    obtain ⟨seen, hm⟩ := hR.made
    exact ((pairsOk_iff _).1 (replay_ok hm).1).2
  have HST := Hid.mk' (i_standing G A la ln lc ma mn mc ha hn hc s tx W (h.below hB) hKW)
  have HIS := Hid.mk' (fun wx (hx : Below W.heap.size W wx) => (is_ (senOf (lastKind tx s.2.1)) 3 (hK.sub _ (senOf_mem _)) (hK.sub _ (by decide)) wx (hKW.below hx)).mono (fun e w' (hp : e = .returned (.bool (decide (senOf (lastKind tx s.2.1) = 3))) ∧ w' = wx) => (⟨hp.1, hp.2.symm⟩ : e = .returned (.bool (decide (senOf (lastKind tx s.2.1) = 3))) ∧ wx = w')))
  have HGN := Hid.mk' (fun wx (hx : Below W.heap.size W wx) => (hKW.below hx).cell 3 (hK.sub _ (by decide)))
  have hkk : ∀ k, k = 0 ∨ k = 1 ∨ k = 2 ∨ k = 3 → k ≠ 0 → senOf k ≠ 3 := fun k hk h0 => by
    rcases hk with e | e | e | e
    · exact absurd e h0
    all_goals (subst e; decide)
  have hsn : senOf (lastKind tx s.2.1) ≠ 3 := by
    obtain ⟨seen, hm⟩ := hR.made
    exact hkk _ ((stood_replay hm).kinds tx) hst
  rw [decide_eq_false hsn] at HIS
  generalize senOf (lastKind tx s.2.1) = gg at *
  have HW := Hid.mk' hW
  obtain ⟨a0, a1, a2, a3, a4⟩ := HXC.out W (Below.refl _ _)
  obtain ⟨c0, c1, c2⟩ := HCC.out W (Below.refl _ _)
  rw [← hW] at a0 a1 a2 a3 a4 c0 c1 c2
  clear hW hb0 hb1 hkk hsn hst hroom l1 l2 l3 hmn
  go_enter Tryz.func33, Tryz.ntmps33
  go_wp2_with fail
  rw [HW.out]
  refine HST.out.mono ?_
  rintro e w1 ⟨rfl, hb2⟩
  clear a0 a1 a2 a3 a4 c0 c1 c2 HST HW
  have gN := HGN.out w1 hb2
  go_wp2_with fail
  refine (HIS.out w1 hb2).mono ?_
  rintro e w2 ⟨rfl, hw2⟩
  subst hw2
  clear gN
  have hR1 := hRB.below hb2
  have hB1 := hB.trans (hb2.mono hB.size)
  have z0 := hR1.cell 0 _ rfl
  have z1 := hR1.cell 1 _ rfl
  have z2 := hR1.cell 2 _ rfl
  have z3 := hR1.cell 3 _ rfl
  have z4 := hR1.cell 4 _ rfl
  have hS5 := hR1.set5 (.int .i64 0) (.slice none 0 0) (.int .i64 0) (.slice none 0 0) (.slice none 0 0)
  simp only [List.length_nil, Nat.zero_add] at z0 z1 z2 z3 z4 hS5
  have f0 := hR1.fz 0
  have f1 := hR1.fz 1
  have f2 := hR1.fz 2
  have f3 := hR1.fz 3
  have f4 := hR1.fz 4
  have hBz := hB1.grown hS5.2 hB1.size (fun j e => by cases e; omega)
  have hzc0 := hS5.1.cell 0 _ rfl
  have hzc1 := hS5.1.cell 1 _ rfl
  have hzc2 := hS5.1.cell 2 _ rfl
  have hzc3 := hS5.1.cell 3 _ rfl
  have hzc4 := hS5.1.cell 4 _ rfl
  simp only [List.length_nil, Nat.zero_add] at hzc0 hzc1 hzc2 hzc3 hzc4
  have HB := Hid.mk' hBz
  clear hBz hS5 hR1 HIS HGN HXC HCC
  go_wp2_with fail
  refine bodyPost_ret (v := .tuple #[.agg #[.int .i64 0, .slice none 0 0, .int .i64 0, .slice none 0 0, .slice none 0 0], .iface 180 (.pointer (some (A gg)))]) ?_ rfl ⟨rfl, HB.out⟩
  simp [results, Tryz.results33, go_sem, hzc0, hzc1, hzc2, hzc3, hzc4]
end Go.Proofs.YteniflajiklffaaGreatDoor.recs

namespace Go.Proofs.YteniflajiklffaaGreatDoor.recs
open Go Go.RowKit Go.Proofs.YteniflajiklffaaGreatDoor.base Go.Proofs.YteniflajiklffaaGreatDoor.pairs Go.Proofs.YteniflajiklffaaGreatDoor.ords Go.Proofs.YteniflajiklffaaGreatDoor.helps Go.Proofs.YteniflajiklffaaGreatDoor.help Go.Proofs.YteniflajiklffaaGreatDoor.lay
set_option linter.unusedVariables false
set_option linter.unusedSimpArgs false

end Go.Proofs.YteniflajiklffaaGreatDoor.recs

namespace Go.Proofs.YteniflajiklffaaGreatDoor.recs
open Go Go.RowKit Go.Proofs.YteniflajiklffaaGreatDoor.base Go.Proofs.YteniflajiklffaaGreatDoor.pairs Go.Proofs.YteniflajiklffaaGreatDoor.ords Go.Proofs.YteniflajiklffaaGreatDoor.helps Go.Proofs.YteniflajiklffaaGreatDoor.help Go.Proofs.YteniflajiklffaaGreatDoor.lay
set_option linter.unusedVariables false
set_option linter.unusedSimpArgs false

def Ret2 (w : World) (r : Shd) (v : Value) (e : Ending) (w' : World) : Prop :=
  ∃ (la : Option Addr) (ln lc : Nat) (ma : Option Addr) (mn mc : Nat) (ha : Option Addr) (hn hc : Nat) (F : List Nat), e = .returned (.tuple #[aggSh r.1 r.2.2.1 la ln lc ma mn mc ha hn hc, v]) ∧ OwnSh w' la ln lc ma mn mc ha hn hc r F ∧ (∀ k ∈ F, w.heap.size ≤ k) ∧ Below w.heap.size w w'
theorem ret2_mk {w w' : World} {la ma ha : Option Addr} {ln lc mn mc hn hc : Nat} {s : Shd} {F : List Nat} {v : Value} (h : OwnSh w' la ln lc ma mn mc ha hn hc s F) (hF : ∀ k ∈ F, w.heap.size ≤ k) (hb : Below w.heap.size w w') : Ret2 w s v (.returned (.tuple #[aggSh s.1 s.2.2.1 la ln lc ma mn mc ha hn hc, v])) w' :=
  ⟨la, ln, lc, ma, mn, mc, ha, hn, hc, F, rfl, h, hF, hb⟩
set_option maxRecDepth 100000 in
set_option maxHeartbeats 4000000 in
theorem spec_hold (la : Option Addr) (ln lc : Nat) (ma : Option Addr) (mn mc : Nat) (ha : Option Addr) (hn hc : Nat) (s : Shd) (tx : Int) (a : Option Addr) (len cap : Nat) (ops : List Od) (w : World) (h : SeeSh w la ln lc ma mn mc ha hn hc s) (hb : Bound s)
    (ho : SlO w a len ops) (hks : ∀ p ∈ ops, p.2.1.size ≤ 1099511627776) (htx : (Lit.int .i64 tx).wf = true) (hlen : len ≤ 1099511627776) :
    Calls Tryz.prog 10 #[aggSh s.1 s.2.2.1 la ln lc ma mn mc ha hn hc, .int .i64 tx, .slice a len cap] w (Ret2 w (holdR s tx ops).1 (.int .i64 (holdR s tx ops).2)) := by
  obtain ⟨b1, b2, b3⟩ := SeeSh.few h hb
  obtain ⟨W, hW⟩ : ∃ W, (w.alloc (boxSh s.1 s.2.2.1 la ln lc ma mn mc ha hn hc)).alloc (boxSh 0 0 none 0 0 none 0 0 none 0 0) = W := ⟨_, rfl⟩
  have hba : Below w.heap.size w (w.alloc (boxSh s.1 s.2.2.1 la ln lc ma mn mc ha hn hc)) := below_alloc
  have hB : Below w.heap.size w W := by rw [← hW]; exact hba.alloc hba.size _
  have hA : BoxIn w.heap.size 27 [] (shVals s.1 s.2.2.1 la ln lc ma mn mc ha hn hc) [] W := by rw [← hW]; exact (boxIn_new w _ _).below below_alloc
  have hR : BoxIn (w.heap.size + 1) 27 [] (shVals 0 0 none 0 0 none 0 0 none 0 0) [] W := by
    rw [← hW]
    have := boxIn_new (w.alloc (boxSh s.1 s.2.2.1 la ln lc ma mn mc ha hn hc)) (shVals 0 0 none 0 0 none 0 0 none 0 0) 27
    rwa [show (w.alloc (boxSh s.1 s.2.2.1 la ln lc ma mn mc ha hn hc)).heap.size = w.heap.size + 1 by simp] at this
  have hsW : w.heap.size + 1 < W.heap.size := hR.lt
  have HW := Hid.mk' hW
  have a0 := hA.cell 0 _ rfl
  have a1 := hA.cell 1 _ rfl
  have a2 := hA.cell 2 _ rfl
  have a3 := hA.cell 3 _ rfl
  have a4 := hA.cell 4 _ rfl
  simp only [List.length_nil, Nat.zero_add] at a0 a1 a2 a3 a4
  rw [← hW] at a0 a1 a2 a3 a4
  have HCP := Hid.mk' (spec_copySh la ln lc ma mn mc ha hn hc s W (h.below hB) hb.few hb.fewH (by omega) (by omega) (by omega))
  have HOK := Hid.mk' (fun wx (hx : Below w.heap.size w wx) => spec_shardOk la ln lc ma mn mc ha hn hc s wx (h.below hx) hb.few)
  have HHO := Hid.mk' (fun (X : Nat) (la' : Option Addr) (ln' lc' : Nat) (ma' : Option Addr) (mn' mc' : Nat) (ha' : Option Addr) (hn' hc' : Nat) (F : List Nat) wx (hx : Below w.heap.size w wx) (hi : InSh wx X 27 [] [] la' ln' lc' ma' mn' mc' ha' hn' hc' s F) (hXF : ∀ k ∈ X :: F, w.heap.size ≤ k) (hRt : Right s) =>
    spec_l9Hold X 27 [] [] la' ln' lc' ma' mn' mc' ha' hn' hc' s F tx a len cap ops wx hi (fun w' hf => ho.below (hx.trans (hf.bel hx.size hXF))) hks htx hlen hRt)
  clear hW h hba ho
  go_enter Tryz.func10, Tryz.ntmps10
  go_wp2_with fail
  rw [HW.out]
  refine HCP.out.mono ?_
  rintro e w1 ⟨gl, cl, gm, cm, gh, ch, F, rfl, hO1, hF1, hb1⟩
  have hB1 := hB.trans (hb1.mono hB.size)
  obtain ⟨v1, hv1⟩ : ∃ v1, w1.alloc (boxSh s.1 s.2.2.1 (some ⟨gl, 0, none⟩) ln cl (some ⟨gm, 0, none⟩) mn cm (some ⟨gh, 0, none⟩) hn ch) = v1 := ⟨_, rfl⟩
  have hc1 : Below w1.heap.size w1 v1 := by rw [← hv1]; exact below_alloc
  have hX1 := inBox_new hO1
  rw [hv1] at hX1
  have hA1 := (hA.below hb1).below hc1
  have hR1 := (hR.below hb1).below hc1
  have hBv := hB1.trans (hc1.mono hB1.size)
  have hsz1 := hb1.size
  clear a0 a1 a2 a3 a4 HW HCP hO1
  have a0 := hA1.cell 0 _ rfl
  have a1 := hA1.cell 1 _ rfl
  have a2 := hA1.cell 2 _ rfl
  have a3 := hA1.cell 3 _ rfl
  have a4 := hA1.cell 4 _ rfl
  simp only [List.length_nil, Nat.zero_add] at a0 a1 a2 a3 a4
  rw [← hv1] at a0 a1 a2 a3 a4
  have HV1 := Hid.mk' hv1
  have HOK1 := Hid.mk' (HOK.out v1 hBv)
  clear hv1 HOK
  go_wp2_with fail
  rw [HV1.out]
  refine HOK1.out.mono ?_
  rintro e w2 ⟨rfl, hb2⟩
  have hX2 := hX1.below hb2
  have hA2 := hA1.below hb2
  have hR2 := hR1.below hb2
  have hB2 := hBv.trans (hb2.mono hBv.size)
  have hFR : ∀ k ∈ F, W.heap.size ≤ k := hF1
  have hXR : w.heap.size + 1 ≠ w1.heap.size := by omega
  clear a0 a1 a2 a3 a4 HV1 HOK1 hX1 hA1 hR1 hBv hc1 hb2
  cases hok : shardOk s with
  | false =>
    obtain ⟨q0, q1, q2, q3, q4⟩ := hX2.cells
    have z0 := hR2.cell 0 _ rfl
    have z1 := hR2.cell 1 _ rfl
    have z2 := hR2.cell 2 _ rfl
    have z3 := hR2.cell 3 _ rfl
    have z4 := hR2.cell 4 _ rfl
    simp only [List.length_nil, Nat.zero_add] at z0 z1 z2 z3 z4
    have f0 := hR2.fz 0
    have f1 := hR2.fz 1
    have f2 := hR2.fz 2
    have f3 := hR2.fz 3
    have f4 := hR2.fz 4
    have hS5 := hR2.set5 (.int .i64 s.1) (.slice (some ⟨gl, 0, none⟩) ln cl) (.int .i64 s.2.2.1) (.slice (some ⟨gm, 0, none⟩) mn cm) (.slice (some ⟨gh, 0, none⟩) hn ch)
    simp only [List.length_nil, Nat.zero_add] at hS5
    have hOz := hX2.own.keep (fun j hj => hS5.2.block j (hX2.own.lt j hj) (fun e => by have := hFR j hj; have := Option.some.inj e; omega))
    have hBz := hB2.grown hS5.2 hB2.size (fun j e => by cases e; omega)
    have hzc0 := hS5.1.cell 0 _ rfl
    have hzc1 := hS5.1.cell 1 _ rfl
    have hzc2 := hS5.1.cell 2 _ rfl
    have hzc3 := hS5.1.cell 3 _ rfl
    have hzc4 := hS5.1.cell 4 _ rfl
    simp only [List.length_nil, Nat.zero_add] at hzc0 hzc1 hzc2 hzc3 hzc4
    have HE0 : Hid (holdR s tx ops = (s, 5)) := by show _ = _; unfold holdR; rw [hok]; rfl
    have HP := Hid.mk' (ret2_mk (w := w) (v := .int .i64 5) hOz (fun k hk => Nat.le_trans hB.size (hFR k hk)) hBz)
    clear hOz hBz hS5 hX2 hR2 hA2 hok
    go_wp2_with fail
    refine bodyPost_ret (v := .tuple #[aggSh s.1 s.2.2.1 (some ⟨gl, 0, none⟩) ln cl (some ⟨gm, 0, none⟩) mn cm (some ⟨gh, 0, none⟩) hn ch, .int .i64 5]) ?_ rfl (by rw [HE0.out]; exact HP.out)
    simp [results, Tryz.results10, go_sem, hzc0, hzc1, hzc2, hzc3, hzc4]
  | true =>
    have hRt := (shardOk_iff s).1 hok
    have HE0 : Hid (holdR s tx ops = holdS s tx ops) := by show _ = _; unfold holdR; rw [hok]; rfl
    have hXF : ∀ k ∈ w1.heap.size :: F, w.heap.size ≤ k := fun k hk => by
      rcases List.mem_cons.1 hk with e | e
      · omega
      · have := hFR k e; omega
    have HH2 := Hid.mk' (HHO.out _ _ _ _ _ _ _ _ _ _ _ w2 hB2 hX2 hXF hRt)
    have hRF : w.heap.size + 1 ∉ w1.heap.size :: F := fun e => by
      rcases List.mem_cons.1 e with e | e
      · omega
      · have := hFR _ e; omega
    clear hok hRt HHO
    go_wp2_with fail
    refine HH2.out.mono ?_
    rintro e w3 ⟨rfl, la3, ln3, lc3, ma3, mn3, mc3, ha3, hn3, hc3, F3, hX3, hfr3, hnew3⟩
    have hR3 := hR2.frame hfr3 hRF
    have hB3 : Below w.heap.size w w3 := hB2.trans (hfr3.bel hB2.size hXF)
    have hF3 : ∀ k ∈ F3, w.heap.size ≤ k := fun k hk => by
      rcases hnew3 k hk with e | e
      · exact hXF k (List.mem_cons_of_mem _ e)
      · have := hB2.size; omega
    have hF3R : w.heap.size + 1 ∉ F3 := fun e => by
      rcases hnew3 _ e with e2 | e2
      · exact hRF (List.mem_cons_of_mem _ e2)
      · have := hR2.lt; omega
    obtain ⟨q0, q1, q2, q3, q4⟩ := hX3.cells
    have z0 := hR3.cell 0 _ rfl
    have z1 := hR3.cell 1 _ rfl
    have z2 := hR3.cell 2 _ rfl
    have z3 := hR3.cell 3 _ rfl
    have z4 := hR3.cell 4 _ rfl
    simp only [List.length_nil, Nat.zero_add] at z0 z1 z2 z3 z4
    have f0 := hR3.fz 0
    have f1 := hR3.fz 1
    have f2 := hR3.fz 2
    have f3 := hR3.fz 3
    have f4 := hR3.fz 4
    generalize holdS s tx ops = HS at *
    have hS5 := hR3.set5 (.int .i64 HS.1.1) (.slice la3 ln3 lc3) (.int .i64 HS.1.2.2.1) (.slice ma3 mn3 mc3) (.slice ha3 hn3 hc3)
    simp only [List.length_nil, Nat.zero_add] at hS5
    have hOz := hX3.own.keep (fun j hj => hS5.2.block j (hX3.own.lt j hj) (fun e => hF3R (by rw [← Option.some.inj e]; exact hj)))
    have hBz := hB3.grown hS5.2 hB3.size (fun j e => by cases e; omega)
    have hzc0 := hS5.1.cell 0 _ rfl
    have hzc1 := hS5.1.cell 1 _ rfl
    have hzc2 := hS5.1.cell 2 _ rfl
    have hzc3 := hS5.1.cell 3 _ rfl
    have hzc4 := hS5.1.cell 4 _ rfl
    simp only [List.length_nil, Nat.zero_add] at hzc0 hzc1 hzc2 hzc3 hzc4
    have HP := Hid.mk' (ret2_mk (w := w) (v := .int .i64 HS.2) hOz hF3 hBz)
    clear hOz hBz hS5 hX2 hR2 hA2 hX3 hR3 HH2 hfr3 hnew3 hB3 hF3
    go_wp2_with fail
    refine bodyPost_ret (v := .tuple #[aggSh HS.1.1 HS.1.2.2.1 la3 ln3 lc3 ma3 mn3 mc3 ha3 hn3 hc3, .int .i64 HS.2]) ?_ rfl (by rw [HE0.out]; exact HP.out)
    simp [results, Tryz.results10, go_sem, hzc0, hzc1, hzc2, hzc3, hzc4]
end Go.Proofs.YteniflajiklffaaGreatDoor.recs
