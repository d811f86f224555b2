/- The program's shard: how many keys are held, how much room there is. -/
import Derived.Test.YtddolmklnifnmaaGreatDoorBund9bi
namespace Go.Proofs.YtddolmklnifnmaaGreatDoor.recs
open Go Go.RowKit Go.Proofs.YtddolmklnifnmaaGreatDoor.base Go.Proofs.YtddolmklnifnmaaGreatDoor.pairs Go.Proofs.YtddolmklnifnmaaGreatDoor.ords Go.Proofs.YtddolmklnifnmaaGreatDoor.helps Go.Proofs.YtddolmklnifnmaaGreatDoor.help Go.Proofs.YtddolmklnifnmaaGreatDoor.lay Go.Proofs.YtddolmklnifnmaaGreatDoor.sent
set_option linter.unusedVariables false
set_option linter.unusedSimpArgs false

set_option maxRecDepth 100000 in
set_option maxHeartbeats 4000000 in
theorem i_heldKeys (la : Option Addr) (ln lc : Nat) (ma : Option Addr) (mn mc : Nat) (ha : Option Addr) (hn hc : Nat) (s : Shd) (w : World) (h : SeeSh w la ln lc ma mn mc ha hn hc s) (hs : ∀ k, sumOps (s.2.2.2.2.take k) ≤ 1000000) :
    Calls Tryz.prog 73 #[aggSh s.1 s.2.2.1 la ln lc ma mn mc ha hn hc] w fun e w' => e = .returned (.int .i64 (sumOps s.2.2.2.2 : Int)) ∧ Below w.heap.size w w' := by
  obtain ⟨hl, hm, hsm, hc'⟩ := id h.held
  unfold maxLen at hm
  obtain ⟨W, hW⟩ : ∃ W, w.alloc (boxSh s.1 s.2.2.1 la ln lc ma mn mc ha hn hc) = W := ⟨_, rfl⟩
  have hB : Below w.heap.size w W := by rw [← hW]; exact (Below.refl _ _).alloc (Nat.le_refl _) _
  have hbx : BoxIn w.heap.size 27 [] (shVals s.1 s.2.2.1 la ln lc ma mn mc ha hn hc) [] W := by rw [← hW]; exact boxIn_new w _ _
  have c1 := hbx.cell 4 _ rfl
  simp only [List.length_nil, Nat.zero_add] at c1
  have hheld := h.held.below hB
  have HW := Hid.mk' hW
  rw [← hW] at c1
  have HL := Hid.mk' hl
  have HS := Hid.mk' hs
  clear hW hl hs
  go_enter Tryz.func73, Tryz.ntmps73
  go_wp2_with fail
  rw [HW.out]
  clear c1 HW
  go_loopw [3, 9] (fun o i wr => ∃ k : Nat, k ≤ hn ∧ i = .int .i64 (k : Int) ∧ o = .int .i64 (sumOps (s.2.2.2.2.take k) : Int) ∧ Below W.heap.size W wr) (fun _ i _ => hn - (intOf i).toNat)
  case atStart => exact ⟨0, Nat.zero_le _, rfl, rfl, Below.refl _ _⟩
  case round =>
    obtain ⟨k, hk, rfl, rfl, hb⟩ := hrel
    by_cases hlt : k < hn
    · have hltl : k < s.2.2.2.2.length := by have := HL.out; omega
      obtain ⟨b, off, e, _⟩ := hc' (by omega)
      subst e
      obtain ⟨e0, e1, pa, pl, pc, e2, hSo, _⟩ := (hheld.below hb).at k hltl
      have hki : (k : Int) < (hn : Int) := by omega
      have HT := Hid.mk' (sumOps_take s.2.2.2.2 k hltl)
      have hs1 := HS.out k
      have hs2 := HS.out (k + 1)
      generalize s.2.2.2.2[k] = r at *
      obtain ⟨r1, r2, r3⟩ := r
      simp only [] at e0 e1 e2 HT hSo
      have hpl := hSo.1
      have HT2 : Hid (sumOps (s.2.2.2.2.take (k + 1)) = sumOps (s.2.2.2.2.take k) + pl) := by show _ = _; rw [HT.out, hpl]
      have hs3 : sumOps (s.2.2.2.2.take k) + pl ≤ 1000000 := by rw [← HT2.out]; exact hs2
      have hwr : IntKind.i64.wrap ((sumOps (s.2.2.2.2.take k) : Int) + (pl : Int)) = (sumOps (s.2.2.2.2.take k) : Int) + (pl : Int) := wraps_i64 _ (by omega) (by omega)
      have HB2 := Hid.mk' (hb.alloc hb.size (.cells #[.int .i64 r1, .int .i64 r2, .slice pa pl pc] 41))
      have HE : Hid (Value.int .i64 ((sumOps (s.2.2.2.2.take k) : Int) + (pl : Int)) = .int .i64 (sumOps (s.2.2.2.2.take (k + 1)) : Int)) := by show _ = _; rw [HT2.out]; congr 1
      clear hb HT HT2 hpl hSo hs1 hs2
      generalize sumOps (s.2.2.2.2.take k) = S0 at *
      go_wp2_with fail
      go_roundw
      case rel => exact ⟨k + 1, by omega, by go_num, HE.out, HB2.out⟩
      case measure => simp [intOf]; omega
    · have HE : Hid (s.2.2.2.2.take k = s.2.2.2.2) := List.take_of_length_le (by have := HL.out; omega)
      have hnk : ¬ (k : Int) < (hn : Int) := by omega
      have hBz := hB.trans (hb.mono hB.size)
      clear hb
      go_wp2_with fail
      go_ret
      exact ⟨by rw [HE.out]; rfl, hBz⟩
set_option maxRecDepth 100000 in
theorem i_room (la : Option Addr) (ln lc : Nat) (ma : Option Addr) (mn mc : Nat) (ha : Option Addr) (hn hc : Nat) (s : Shd) (w : World) (hln : ln + hn ≤ 300) :
    Calls Tryz.prog 74 #[aggSh s.1 s.2.2.1 la ln lc ma mn mc ha hn hc] w fun e w' => e = .returned (.int .i64 (300 - (ln : Int) - (hn : Int))) ∧ Below w.heap.size w w' := by
  obtain ⟨W, hW⟩ : ∃ W, w.alloc (boxSh s.1 s.2.2.1 la ln lc ma mn mc ha hn hc) = W := ⟨_, rfl⟩
  have hB : Below w.heap.size w W := by rw [← hW]; exact (Below.refl _ _).alloc (Nat.le_refl _) _
  have hbx : BoxIn w.heap.size 27 [] (shVals s.1 s.2.2.1 la ln lc ma mn mc ha hn hc) [] W := by rw [← hW]; exact boxIn_new w _ _
  have c1 := hbx.cell 1 _ rfl
  have c4 := hbx.cell 4 _ rfl
  simp only [List.length_nil, Nat.zero_add] at c1 c4
  have HW := Hid.mk' hW
  rw [← hW] at c1 c4
  have hw1 : IntKind.i64.wrap (300 - (ln : Int)) = 300 - (ln : Int) := wraps_i64 _ (by omega) (by omega)
  have hw2 : IntKind.i64.wrap (300 - (ln : Int) - (hn : Int)) = 300 - (ln : Int) - (hn : Int) := wraps_i64 _ (by omega) (by omega)
  clear hW
  go_enter Tryz.func74, Tryz.ntmps74
  go_wp2_with fail
  rw [HW.out]
  go_ret
  exact ⟨rfl, hB⟩
end Go.Proofs.YtddolmklnifnmaaGreatDoor.recs
