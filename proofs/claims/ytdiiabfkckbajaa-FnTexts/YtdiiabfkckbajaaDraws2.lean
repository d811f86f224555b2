/- The draw of texts, the comparison of texts, and what the laws read of the code. -/
import Derived.Test.YtdiiabfkckbajaaDraws1
import Derived.ArgAppend
namespace Go.Proofs.Ytdiiabfkckbajaa.draw
open Go.RowKit Go.Proofs.Ytdiiabfkckbajaa.base Go.Proofs.Ytdiiabfkckbajaa.help Go.Proofs.Ytdiiabfkckbajaa.helps Go.Proofs.Ytdiiabfkckbajaa.putnum Go.Proofs.Ytdiiabfkckbajaa.gettext Go.Proofs.Ytdiiabfkckbajaa.gettexts
set_option linter.unusedVariables false
set_option linter.unusedSimpArgs false

set_option maxHeartbeats 400000 in
theorem sameTexts (a a2 : Option Addr) (len cap len2 cap2 : Nat) (bs bs2 : List ByteArray) (w : World) (h : SlS w a len bs) (h2 : SlS w a2 len2 bs2) :
    Calls Try.prog 25 #[.slice a len cap, .slice a2 len2 cap2] w fun e w' => e = .returned (.bool (decide (bs = bs2))) ∧ ∃ n, w' = w.drewN n := by
  obtain ⟨hl, hm, _, hc⟩ := h
  obtain ⟨hl2, hm2, _, hc2⟩ := h2
  subst hl hl2
  unfold maxLen at hm hm2
  by_cases hne : bs.length = bs2.length
  · have hb : ((bs.length : Int) == (bs2.length : Int)) = true := by simp; omega
    go_enter Try.func25, Try.ntmps25
    go_wp2
    go_loopw [5] (fun i wr => ∃ k : Nat, k ≤ bs.length ∧ i = .int .i64 k ∧ bs.take k = bs2.take k ∧ ∃ n, wr = w.drewN n) (fun i _ => bs.length - (intOf i).toNat)
    case atStart => exact ⟨0, Nat.zero_le _, rfl, rfl, 0, rfl⟩
    case round =>
      obtain ⟨k, hk, rfl, htk, n, rfl⟩ := hrel
      by_cases hlt : k < bs.length
      · obtain ⟨b, off, ha, hcl⟩ := hc (by omega)
        obtain ⟨b2, off2, ha2, hcl2⟩ := hc2 (by omega)
        subst ha ha2
        have hlt2 : k < bs2.length := by omega
        have hi1 : (k : Int) < (bs.length : Int) := by omega
        have hi2 : (k : Int) < (bs2.length : Int) := by omega
        have HT := Hid.mk' htk
        by_cases e : bs[k] = bs2[k]
        · have c1 : w.cell? ⟨b, off + k, none⟩ = some (.string bs[k]) := hcl k hlt
          have c2 : w.cell? ⟨b2, off2 + k, none⟩ = some (.string bs[k]) := by rw [e]; exact hcl2 k hlt2
          have HE := Hid.mk' e
          clear hcl hcl2 hc hc2 htk hne e
          go_wp2
          go_quiet (fail)
          go_wp2
          go_roundw
          case rel => exact ⟨k + 1, by omega, by go_num, take_eqS HT.out hlt hlt2 HE.out, _, rfl⟩
          case measure => simp [intOf]; omega
        · have hq : (bs[k].toList == bs2[k].toList) = false := by
            rw [beq_eq_false_iff_ne]; intro h; rw [ByteArray.toList_eq, ByteArray.toList_eq] at h; exact e (WideShapes.bytes_inj h)
          have c1 : w.cell? ⟨b, off + k, none⟩ = some (.string bs[k]) := hcl k hlt
          have c2 : w.cell? ⟨b2, off2 + k, none⟩ = some (.string bs2[k]) := hcl2 k hlt2
          have HE := Hid.mk' e
          clear hcl hcl2 hc hc2 htk hne e
          go_wp2
          go_quiet (fail)
          go_wp2
          go_ret
          exact ⟨ret_bool (by symm; rw [decide_eq_false_iff_not]; intro h; subst h; exact HE.out rfl), _, World.drewN_drewN _ _ _⟩
      · have e : k = bs.length := by omega
        have hfin : bs = bs2 := by
          subst e
          rw [List.take_of_length_le (Nat.le_refl _), List.take_of_length_le (by omega)] at htk
          exact htk
        have HF := Hid.mk' hfin
        clear hfin htk
        go_wp2
        go_ret
        exact ⟨ret_bool (by symm; rw [decide_eq_true_iff]; exact HF.out), _, rfl⟩
  · have hb : ((bs.length : Int) == (bs2.length : Int)) = false := by simp; omega
    go_enter Try.func25, Try.ntmps25
    go_wp2
    go_ret
    exact ⟨ret_bool (by symm; rw [decide_eq_false_iff_not]; intro h; exact hne (by rw [h])), 0, rfl⟩

theorem sameT (a a2 : Option Addr) (len cap len2 cap2 : Nat) (bs bs2 : List ByteArray) (w : World) (h : SlS w a len bs) (h2 : SlS w a2 len2 bs2) (he : bs = bs2) :
    Calls Try.prog 25 #[.slice a len cap, .slice a2 len2 cap2] w fun e w' => e = .returned (.bool true) ∧ Below w.heap.size w w' := by
  refine (sameTexts a a2 len cap len2 cap2 bs bs2 w h h2).mono ?_
  rintro e w' ⟨rfl, n, rfl⟩
  exact ⟨ret_bool (decide_eq_true he), below_drewN (Below.refl _ _) _⟩

set_option maxRecDepth 100000 in
set_option maxHeartbeats 1000000 in
theorem at_ (a : Option Addr) (len cap : Nat) (code : List UInt8) (i : Nat) (w : World) (h : Sl w a len code) (hln : len ≤ 1099511627776) (hi : i ≤ 1000) :
    Calls Try.prog 24 #[.slice a len cap, .int .i64 (i : Int)] w fun e w' => ∃ x : Nat, x < 256 ∧ e = .returned (.int .i64 (x : Int)) ∧ w' = w := by
  obtain ⟨hl, hm, hc⟩ := h
  subst hl
  by_cases hlt : i < code.length
  · obtain ⟨b, off, ha, hcl⟩ := hc (by omega)
    subst ha
    have c1 : w.cell? ⟨b, off + i, none⟩ = some (.int .u8 code[i].toNat) := hcl i hlt
    have hi1 : (i : Int) < (code.length : Int) := by omega
    have hb := code[i].toNat_lt
    clear hcl hc
    go_enter Try.func24, Try.ntmps24
    go_wp2
    go_ret
    exact ⟨code[i].toNat, hb, ret_int rfl, rfl⟩
  · go_enter Try.func24, Try.ntmps24
    go_wp2
    go_ret
    exact ⟨(i * 31 + code.length * 7) % 256, Nat.mod_lt _ (by omega), ret_int (by omega), rfl⟩

def GotTextsC (w0 w : World) (gc : Nat) (a : Option Addr) (len cap : Nat) (code : List UInt8) (e : Ending) (w' : World) : Prop :=
  ∃ (g m cp : Nat) (ss : List ByteArray), m ≤ 5 ∧ (∀ s ∈ ss, s.size ≤ 15) ∧ e = .returned (.slice (some ⟨g, 0, none⟩) m cp) ∧ OwnS w' w.heap.size g m cp ss ∧ Cur w0 w' gc a len cap code ∧ w.grownBy w' (some gc)

set_option maxRecDepth 100000 in
set_option maxHeartbeats 1000000 in
theorem texts_ (w0 w : World) (gc : Nat) (a : Option Addr) (len cap : Nat) (code : List UInt8) (h : Cur w0 w gc a len cap code) :
    Calls Try.prog 49 #[.pointer (some ⟨gc, 0, none⟩)] w fun e w' => GotTextsC w0 w gc a len cap code e w' := by
  obtain ⟨i0, hi, hz0, hz1, hz2⟩ := info_parts info9
  have hgcl := h.lt
  have hba0 : ∀ o, Below w.heap.size w (w.alloc o) := fun o => (Below.refl _ _).alloc (Nat.le_refl _) _
  have hmade := ownS_made w w.heap.size (Nat.le_refl _)
  go_enter Try.func49, Try.ntmps49
  go_wp2_with fail
  refine (below_ w0 _ gc a len cap code _ (h.below (hba0 _)) (by omega) (by omega)).mono ?_
  rintro e w1 ⟨x, hx, rfl, hC1, hG1⟩
  have hO1 : OwnS w1 w.heap.size w.heap.size 0 0 [] := hmade.grown hG1 (by simp; omega)
  have hG1' := grownBy_trans (grown_alloc0 w _ (some gc)) hG1
  clear hmade hG1
  go_wp2_with (at_builtin; fail)
  go_loopw [3, 4] (fun v i wr => ∃ (k j g cp : Nat) (ss : List ByteArray), i = .int .i64 (j : Int) ∧ k + j = x ∧ v = .slice (some ⟨g, 0, none⟩) k cp ∧ (∀ s ∈ ss, s.size ≤ 15) ∧ OwnS wr w.heap.size g k cp ss ∧ Cur w0 wr gc a len cap code ∧ w.grownBy wr (some gc)) (fun _ i _ => (intOf i).toNat)
  case atStart => exact ⟨0, x, w.heap.size, 0, [], rfl, by omega, rfl, fun s hs => absurd hs List.not_mem_nil, hO1, hC1, hG1'⟩
  case round =>
    obtain ⟨k, j, g, cp, ss, rfl, hkj, rfl, hss, hO, hC, hG⟩ := hrel
    have hk5 : k ≤ 5 := by omega
    have hj5 : j ≤ 5 := by omega
    have HKJ := Hid.mk' hkj
    clear hkj hO1 hC1 hG1'
    by_cases hlt : 0 < j
    · have hba : ∀ o, Below wr.heap.size wr (wr.alloc o) := fun o => (Below.refl _ _).alloc (Nat.le_refl _) _
      have hcl := hC.lt
      go_wp2_with fail
      refine (str_ w0 _ gc a len cap code wr.heap.size 5 5 _ _ (hC.below (hba _)) (heap_alloc_new wr _) rfl (by omega) (by omega) (by omega) (fun z => z.size ≤ 15) ?_).mono ?_
      · intro i hi
        match i, hi with
        | 0, _ => exact ⟨_, rfl, by decide⟩
        | 1, _ => exact ⟨_, rfl, by decide⟩
        | 2, _ => exact ⟨_, rfl, by decide⟩
        | 3, _ => exact ⟨_, rfl, by decide⟩
        | 4, _ => exact ⟨_, rfl, by decide⟩
      rintro e w2 ⟨z, hz, rfl, hC2, hG2⟩
      have hO2 : OwnS w2 w.heap.size g k cp ss := (hO.below (hba _)).grown hG2 (by have := hO.lt; simp; omega)
      have hGG := grownBy_trans hG (grownBy_trans (grown_alloc0 wr _ (some gc)) hG2)
      have hbw : w.heap.size ≤ w2.heap.size := hGG.size
      have hc3 : k + 1 ≤ maxLen := by unfold maxLen; omega
      have hc4 : (k + 1) * 16 ≤ 140737488355328 := by omega
      clear hO hC hG hG2
      go_wp2_with (at_builtin; refine wpList_append_own _ rfl _ _ 34 rfl w.heap.size 9 i0 (.string ⟨#[]⟩) 1 16 Try.underlying34 hi hz0 hz1 hz2 rfl (by decide) _ _ _ rfl (hO2.2.2.alloc _) ⟨w2.heap.size, 0, none⟩ 1 1 [_] rfl rfl (cell_one_new _ _ _) (str_oneCell _) hc3 hc4 (leAlloc _ _ hbw) ?_)
      intro v3 w3 hown hgrow hnn
      rw [← strVals_snoc] at hown
      have hall : ∀ s ∈ ss ++ [z], s.size ≤ 15 := by
        intro s hs
        rcases List.mem_append.1 hs with hs | hs
        · exact hss s hs
        · simp at hs; subst hs; exact hz
      obtain ⟨g3, cp3, hv, hO3⟩ := ownS_val (by have := hO2.1; simp; omega) (fun s hs => Nat.le_trans (hall s hs) (by decide)) hnn hown
      subst hv
      have hgl := hO2.lt
      have hC3 := (hC2.below ((Below.refl _ _).alloc (Nat.le_refl _) (.cells #[.string z] 9))).grown hgrow (show some gc ≠ some g by simp; omega) (fun k e => by simp [Value.ownBlock] at e; have := h.ge; omega)
      have hG3 := grown_own (g := g) (grown_alloc hGG _) hgrow (by omega)
      have HO3 := Hid.mk' hO3
      have HALL := Hid.mk' hall
      clear hown hgrow hnn hO2 hO3 hC2 hGG hall hss
      go_wp2_with (at_builtin; fail)
      go_roundw
      case rel => exact ⟨k + 1, j - 1, g3, cp3, ss ++ [z], by go_num, by have := HKJ.out; omega, rfl, HALL.out, HO3.out, hC3, hG3⟩
      case measure => simp [intOf]; omega
    · go_wp2_with (at_builtin; fail)
      go_ret
      exact ⟨g, k, cp, ss, hk5, hss, rfl, hO, hC, hG⟩

def GotTexts (w : World) (e : Ending) (w' : World) : Prop :=
  ∃ (g m cp : Nat) (bs : List UInt8) (g2 m2 cp2 : Nat) (ss : List ByteArray), m ≤ 1000 ∧ m2 ≤ 5 ∧ (∀ s ∈ ss, s.size ≤ 15) ∧ e = .returned (.tuple #[.slice (some ⟨g, 0, none⟩) m cp, .slice (some ⟨g2, 0, none⟩) m2 cp2]) ∧ Own w' w.heap.size g m cp bs ∧ OwnS w' w.heap.size g2 m2 cp2 ss ∧ Below w.heap.size w w'

set_option maxRecDepth 100000 in
set_option maxHeartbeats 1000000 in
theorem drawPutTexts (a : Option Addr) (len cap : Nat) (code : List UInt8) (w : World) (h : Sl w a len code) (hln : len ≤ 1099511627776) :
    Calls Try.prog 19 #[.slice a len cap] w fun e w' => GotTexts w e w' := by
  go_enter Try.func19, Try.ntmps19
  go_wp2_with fail
  refine (new_ w w a len cap code h (Below.refl _ _) hln).mono ?_
  rintro e w1 ⟨rfl, hC1, hB1⟩
  have hlt1 := hC1.lt
  go_wp2_with fail
  refine (some_ w _ _ a len cap code hC1).mono ?_
  rintro e w2 ⟨g, m, cp, bs, hm, rfl, hO2, hC2, hG2⟩
  clear hC1
  go_wp2_with fail
  refine (texts_ w _ _ a len cap code hC2).mono ?_
  rintro e w3 ⟨g2, m2, cp2, ss, hm2, hss, rfl, hO3, hC3, hG3⟩
  have hOb : Own w3 w1.heap.size g m cp bs := hO2.grown hG3 (by have := hO2.lt; simp; omega)
  go_wp2_with fail
  go_ret2
  exact ⟨g, m, cp, bs, g2, m2, cp2, ss, hm, hm2, hss, rfl, hOb.mono hB1.size, hO3.mono (Nat.le_trans hB1.size hG2.size), hC3.bel⟩

end Go.Proofs.Ytdiiabfkckbajaa.draw
