/- The program's seals: the digest of all roots. The program's seals: their parts. The program's keys and pairs: what is right. The program's orders: what is right. The specification's orders: what is done, and those of a shard. The program's places of keys, and what is got. The program's putting of keys. -/
import Derived.Test.YteammdkipnfmnaaGreatDoorShae
import Derived.Test.YteammdkipnfmnaaGreatDoorShar
import Derived.Test.YteammdkipnfmnaaGreatDoorShaf
import Derived.Test.YteammdkipnfmnaaGreatDoorShag
import Derived.Laws.StructEq
import Derived.Test.YteammdkipnfmnaaGreatDoorShaj
import Derived.Test.YteammdkipnfmnaaGreatDoorShah
import Derived.Test.YteammdkipnfmnaaGreatDoorShap
namespace Go.Proofs.YteammdkipnfmnaaGreatDoor.seals
open Go Go.RowKit Go.Proofs.YteammdkipnfmnaaGreatDoor.base Go.Proofs.YteammdkipnfmnaaGreatDoor.pairs Go.Proofs.YteammdkipnfmnaaGreatDoor.tree Go.Proofs.YteammdkipnfmnaaGreatDoor.putnum Go.Proofs.YteammdkipnfmnaaGreatDoor.puttext Go.Proofs.YteammdkipnfmnaaGreatDoor.puttexts
set_option linter.unusedVariables false
set_option linter.unusedSimpArgs false

set_option maxRecDepth 100000 in
set_option maxHeartbeats 1000000 in
theorem addTextsB (g n cap base : Nat) (bs : List UInt8) (a : Option Addr) (len cap2 : Nat) (ss : List ByteArray) (w : World) (h : Own w base g n cap bs) (hb : base ≤ w.heap.size)
    (hS : SlS w a len ss) (hblk : ∀ b off, a = some ⟨b, off, none⟩ → 0 < len → b < base) (hsz : n + (textsBytes ss).length ≤ 549755813888) (hss : ∀ s ∈ ss, s.size ≤ 549755813888) :
    Calls Tryz.prog 77 #[.slice (some ⟨g, 0, none⟩) n cap, .slice a len cap2] w fun e w' =>
      ∃ g' n' cap', e = .returned (.slice (some ⟨g', 0, none⟩) n' cap') ∧ Own w' base g' n' cap' (bs ++ textsBytes ss) ∧ Below base w w' ∧ Keeps w w' := by
  obtain ⟨hl, hm, _, hc⟩ := hS
  subst hl
  unfold maxLen at hm
  obtain ⟨i0, hi, hz0, hz1, hz2⟩ := info_parts info8
  have hn0 := h.1
  go_enter Tryz.func77, Tryz.ntmps77
  go_wp2
  go_loopw [0, 9] (fun v i wr => ∃ (k g' n' cap' : Nat), v = .slice (some ⟨g', 0, none⟩) n' cap' ∧ i = .int .i64 (k : Int) ∧ k ≤ ss.length ∧ Own wr base g' n' cap' (bs ++ textsBytes (ss.take k)) ∧ Below base w wr ∧ Keeps w wr) (fun _ i _ => ss.length - (intOf i).toNat)
  case atStart => exact ⟨0, g, n, cap, rfl, rfl, Nat.zero_le _, by simpa [textsBytes] using h, Below.refl _ _, Keeps.refl _⟩
  case round =>
    obtain ⟨k, g', n', cap', rfl, rfl, hk, hO, hB, hK⟩ := hrel
    by_cases hlt : k < ss.length
    · obtain ⟨b, off, ha, hcl⟩ := hc (by omega)
      have hbk := hblk b off ha (by omega)
      subst ha
      generalize hsk : ss[k] = s
      have c1 : wr.cell? ⟨b, off + k, none⟩ = some (.string s) := by
        rw [hB.cell (p := ⟨b, off + k, none⟩) hbk, hcl k hlt, hsk]
      have hs9 : s.size ≤ 549755813888 := by rw [← hsk]; exact hss _ (List.getElem_mem hlt)
      have hT := textsBytes_take ss k hlt
      rw [hsk] at hT
      have hle := textsBytes_le ss (k + 1)
      rw [hT, List.length_append] at hle
      have hs1 := size_le_textBytes s
      have hn' : n' + s.size ≤ 549755813888 := by have := hO.1; simp only [List.length_append] at this; omega
      have hwf : (Lit.int .i64 (s.size : Int)).wf = true := WalkArith.wf_i64 (by omega)
      have hnb := numBytes_length (s.size : Int)
      have hbw : base ≤ wr.heap.size := Nat.le_trans hb hB.size
      have HT := Hid.mk' hT
      clear hT hle hs1 hcl hc hblk hbk hsk hss
      go_wp2_with fail
      refine (addNum g' n' cap' base _ _ _ hO hbw hwf (by omega)).mono ?_
      rintro e w1 ⟨g1, n1, cap1, rfl, hO1, hB1, hK1⟩
      rw [List.append_assoc] at hO1
      have hn1 : n1 ≤ n' + 5 := by have := hO1.1; have := hO.1; simp only [List.length_append] at *; omega
      have hc3 : n1 + s.size ≤ maxLen := by unfold maxLen; omega
      have hc4 : n1 + s.size ≤ 140737488355328 := by omega
      have hbw1 : base ≤ w1.heap.size := Nat.le_trans hbw hB1.size
      go_wp2_with (at_builtin; refine Lib.wpList_append_own_string _ rfl _ _ 22 9 rfl base 5 i0 Tryz.underlying22 Tryz.underlying9 hi hz0 hz1 hz2 _ _ _ rfl hO1.2 s rfl hc3 hc4 hbw1 ?_)
      intro v2 w2 hown hgrow hnn
      have hnn' : ¬ v2 = .slice none 0 0 := by simpa using hnn
      rw [strCells_eq] at hown
      obtain ⟨g2, cap2', hv, hO2⟩ := own_app (m := s.size) (ns := s.data.toList) hO1.1 (size_toList s) rfl hnn' hown
      subst hv
      have hB2 : Below base w w2 := (hB.trans hB1).grown hgrow hbw1 (fun k e => by simp [Value.ownBlock] at e; have := hO1.lt; omega)
      have hK2 : Keeps w w2 := (hK.trans hK1).trans (hO1.keeps hgrow)
      have HO2 : Hid (Own w2 base g2 (n1 + s.size) cap2' (bs ++ textsBytes (ss.take (k + 1)))) := by
        show Own w2 base g2 (n1 + s.size) cap2' (bs ++ textsBytes (ss.take (k + 1)))
        rw [HT.out]
        simpa [textBytes, List.append_assoc] using hO2
      clear hown hgrow hnn hnn' hO1 hO2 hB1 hO hB hK hK1
      go_wp2
      go_roundw
      case rel => exact ⟨k + 1, g2, _, cap2', rfl, by go_num, by omega, HO2.out, hB2, hK2⟩
      case measure => simp [intOf]; omega
    · have e : k = ss.length := by omega
      go_wp2
      go_ret
      subst e
      rw [List.take_length] at hO
      exact ⟨g', n', cap', rfl, hO, hB, hK⟩
set_option maxRecDepth 100000 in
set_option maxHeartbeats 1000000 in
theorem impl_textsA (a0 : Option Addr) (len cap : Nat) (bs : List UInt8) (a : Option Addr) (len2 cap2 : Nat) (ss : List ByteArray) (w : World) (h : Sl w a0 len bs) (hS : SlS w a len2 ss) (hsz : len ≤ 134217728) (hs : ss.length + sum ss ≤ 134217728) :
    Calls Tryz.prog 35 #[.slice a0 len cap, .slice a len2 cap2] w fun e w' =>
      ∃ g' n' cap', e = .returned (.slice (some ⟨g', 0, none⟩) n' cap') ∧ Own w' w.heap.size g' n' cap' (bs ++ listBytes ss) ∧ Below w.heap.size w w' := by
  have hl := h.1
  have hl2 := hS.1
  have hwf : (Lit.int .i64 (len2 : Int)).wf = true := WalkArith.wf_i64 (by omega)
  have hnb := numBytes_length (len2 : Int)
  have hle2 := textsBytes_sum ss
  have HBL : Hid (∀ b off, a = some ⟨b, off, none⟩ → 0 < len2 → b < w.heap.size) := fun b off e h0 => by
    obtain ⟨b', off', e', hc⟩ := hS.2.2.2 h0
    rw [e] at e'
    simp only [Option.some.injEq, Addr.mk.injEq, and_true] at e'
    obtain ⟨rfl, rfl⟩ := e'
    exact World.block_lt_of_cell? w _ (hc 0 (by omega))
  go_enter Tryz.func35, Tryz.ntmps35
  go_wp2_with fail
  refine (impl_put a0 len cap bs _ _ h hwf (by omega)).mono ?_
  rintro e w1 ⟨g1, n1, cap1, rfl, hO1, hB1⟩
  have hS1 := hS.below hB1
  have hn1 : n1 ≤ 134217733 := by have := hO1.1; simp at this; omega
  go_wp2_with fail
  refine (addTextsB g1 n1 cap1 w.heap.size _ _ len2 cap2 ss _ hO1 hB1.size hS1 ?_ ?_ ?_).mono ?_
  · exact HBL.out
  · omega
  · intro x hx; have := size_le_sum ss x hx; omega
  rintro e w2 ⟨g3, n3, cap3, rfl, hO3, hB3, _⟩
  go_wp2_with fail
  go_ret
  refine ⟨g3, n3, cap3, rfl, ?_, hB1.trans hB3⟩
  rw [List.append_assoc, ← hl2] at hO3
  exact hO3
set_option maxRecDepth 100000 in
set_option maxHeartbeats 1000000 in
theorem impl_superOf (no : Int) (prev : ByteArray) (a : Option Addr) (n cap : Nat) (roots : List ByteArray) (w : World) (h : SlS w a n roots) (hno : (Lit.int .i64 no).wf = true) (hp : prev.size ≤ 1048576) (hr : roots.length + sum roots ≤ 1048576) (hK : sha.KW w) :
    Calls Tryz.prog 9 #[.int .i64 no, .string prev, .slice a n cap] w fun e w' => e = .returned (.string (superOf no prev roots)) ∧ Below w.heap.size w w' := by
  obtain ⟨w0, hw0⟩ : ∃ w0, w.alloc (.cells #[.int .u8 3] 5) = w0 := ⟨_, rfl⟩
  have hb0 : Below w.heap.size w w0 := by rw [← hw0]; exact (Below.refl _ _).alloc (Nat.le_refl _) _
  have hO : Own w0 w.heap.size w.heap.size 1 1 [3] := by rw [← hw0]; exact own_one w 3 3 rfl w.heap.size (Nat.le_refl _)
  have HN := Hid.mk' (impl_put (some ⟨w.heap.size, 0, none⟩) 1 1 [3] no w0 hO.sl hno (by omega))
  have HW := Hid.mk' hw0
  have hnl := numBytes_length no
  have htl := textBytes_length prev
  have hll := listBytes_length roots
  clear hw0 hO
  go_enter Tryz.func9, Tryz.ntmps9
  go_wp2_with fail
  rw [HW.out]
  refine HN.out.mono ?_
  rintro e w1 ⟨g1, n1, c1, rfl, hO1, hb1⟩
  have hB1 := hb0.trans (hb1.mono hb0.size)
  have HT := Hid.mk' (impl_text (some ⟨g1, 0, none⟩) n1 c1 ([3] ++ numBytes no) prev w1 hO1.sl (by have := hO1.1; simp at this; omega) (by omega))
  clear HN HW hO1
  go_wp2_with fail
  refine HT.out.mono ?_
  rintro e w2 ⟨g2, n2, c2, rfl, hO2, hb2⟩
  have hB2 := hB1.trans (hb2.mono hB1.size)
  have HS := Hid.mk' (impl_textsA (some ⟨g2, 0, none⟩) n2 c2 ([3] ++ numBytes no ++ textBytes prev) a n cap roots w2 hO2.sl (h.below hB2) (by have := hO2.1; simp at this; omega) (by omega))
  clear HT hO2
  go_wp2_with fail
  refine HS.out.mono ?_
  rintro e w3 ⟨g3, n3, c3, rfl, hO3, hb3⟩
  have hB3 := hB2.trans (hb3.mono hB2.size)
  have hn : n3 ≤ 1099511627776 := by have := hO3.1; simp at this; omega
  have HD := Hid.mk' (sha.impl_digest g3 0 n3 c3 (superB no prev roots) w3 hO3.sl hn (hK.below hB3))
  clear HS hO3
  go_wp2_with fail
  refine HD.out.mono ?_
  rintro e w4 ⟨rfl, hb4⟩
  go_wp2_with fail
  go_ret
  exact ⟨rfl, hB3.trans (hb4.mono hB3.size)⟩
end Go.Proofs.YteammdkipnfmnaaGreatDoor.seals

namespace Go.Proofs.YteammdkipnfmnaaGreatDoor.seals
open Go Go.RowKit Go.Proofs.YteammdkipnfmnaaGreatDoor.base Go.Proofs.YteammdkipnfmnaaGreatDoor.pairs Go.Proofs.YteammdkipnfmnaaGreatDoor.tree Go.Proofs.YteammdkipnfmnaaGreatDoor.lay
set_option linter.unusedVariables false
set_option linter.unusedSimpArgs false

def prevOf (l : List Seal) : ByteArray := match l.getLast? with
  | none => dg []
  | some s => s.2.2.1
theorem i_count (n : Int) (w : World) : Calls Tryz.prog 57 #[.int .i64 n] w fun e w' => e = .returned (.bool (decide (1 ≤ n ∧ n ≤ 8))) ∧ w' = w := by
  by_cases h1 : n ≥ 1
  · have h1' : 1 ≤ n := h1
    by_cases h2 : n ≤ 8
    · go_enter Tryz.func57, Tryz.ntmps57
      go_wp2
      go_ret
      exact ⟨by simp [h1', h2], rfl⟩
    · go_enter Tryz.func57, Tryz.ntmps57
      go_wp2
      go_ret
      exact ⟨by simp [h1', h2], rfl⟩
  · go_enter Tryz.func57, Tryz.ntmps57
    go_wp2
    go_ret
    exact ⟨by have h3 : ¬ 1 ≤ n := by omega
              simp [h3], rfl⟩
end Go.Proofs.YteammdkipnfmnaaGreatDoor.seals

namespace Go.Proofs.YteammdkipnfmnaaGreatDoor.pairs
open Go Go.RowKit Go.Proofs.YteammdkipnfmnaaGreatDoor.base
set_option linter.unusedVariables false
set_option linter.unusedSimpArgs false

set_option maxHeartbeats 400000 in
theorem i_key (p : Pr) (w : World) :
    Calls Tryz.prog 167 #[.agg #[.string p.1, .string p.2]] w fun e w' => e = .returned (.string p.1) ∧ w' = w.alloc (.cells #[.string p.1, .string p.2] 34) := by
  go_enter Tryz.func167, Tryz.ntmps167
  go_wp2
  go_ret
  exact ⟨rfl, rfl⟩

set_option maxHeartbeats 400000 in
theorem i_keySign (c : Nat) (w : World) (hc : c < 256) :
    Calls Tryz.prog 139 #[.int .u8 (c : Int)] w fun e w' => e = .returned (.bool (keyCh c)) ∧ w' = w := by
  by_cases h1 : 97 ≤ c
  · by_cases h2 : c ≤ 122
    · go_enter Tryz.func139, Tryz.ntmps139
      go_wp2
      go_ret
      exact ⟨ret_bool (by simp [keyCh, h1, h2]), rfl⟩
    · have h3 : ¬ c ≤ 57 := by omega
      have h4 : 48 ≤ c := by omega
      go_enter Tryz.func139, Tryz.ntmps139
      go_wp2
      go_ret
      exact ⟨ret_bool (by simp [keyCh, h2, h3]; omega), rfl⟩
  · by_cases h2 : 48 ≤ c
    · by_cases h3 : c ≤ 57
      · go_enter Tryz.func139, Tryz.ntmps139
        go_wp2
        go_ret
        exact ⟨ret_bool (by simp [keyCh, h2, h3]; omega), rfl⟩
      · go_enter Tryz.func139, Tryz.ntmps139
        go_wp2
        go_ret
        exact ⟨ret_bool (by simp [keyCh, h1, h3]; omega), rfl⟩
    · go_enter Tryz.func139, Tryz.ntmps139
      go_wp2
      go_ret
      exact ⟨ret_bool (by simp [keyCh, h1, h2]), rfl⟩

set_option maxRecDepth 100000 in
set_option maxHeartbeats 1000000 in
theorem impl_keyOk (s : ByteArray) (w : World) (hs : s.size ≤ 1099511627776) :
    Calls Tryz.prog 123 #[.string s] w fun e w' => e = .returned (.bool (keyOk s)) ∧ Below w.heap.size w w' := by
  by_cases h0 : s.size < 1
  · go_enter Tryz.func123, Tryz.ntmps123
    go_wp2_with fail
    go_ret
    exact ⟨ret_bool (by simp [keyOk]; omega), Below.refl _ _⟩
  by_cases h12 : 12 < s.size
  · go_enter Tryz.func123, Tryz.ntmps123
    go_wp2_with fail
    go_ret
    exact ⟨ret_bool (by simp [keyOk]; omega), Below.refl _ _⟩
  have HZ : Hid (decide (1 ≤ s.size ∧ s.size ≤ 12) = true) := by show _ = _; simp; omega
  generalize hR : keyAll s.data.toList = R
  have HR := Hid.mk' hR
  clear hR
  have hconv := Lib.run_convert_string_bytes (P := Tryz.prog) w 9 22 5 s Tryz.underlying9 Tryz.underlying22 Tryz.underlying5
  have hbts := bts_new w s
  have hBB := below_bytesWorld w 5 s
  go_enter Tryz.func123, Tryz.ntmps123
  go_wp2_with fail
  generalize Lib.bytesWorld w 5 s = w1 at *
  go_loop [16] (fun i => ∃ k : Nat, k ≤ s.size ∧ i = .int .i64 (k : Int) ∧ keyAll (s.data.toList.drop k) = R) (fun i => s.size - (intOf i).toNat)
  case atStart => exact ⟨0, Nat.zero_le _, rfl, HR.out⟩
  case round =>
    obtain ⟨k, hk, rfl, hr⟩ := hrel
    clear hconv
    by_cases hlt : k < s.size
    · have hst := keyAll_drop s k hlt
      rw [hr] at hst
      have hc := s[k].toNat_lt
      have hcl := hbts.2 k hlt
      generalize hC : s[k].toNat = c at *
      have hki : (k : Int) < (s.size : Int) := by omega
      have hl := i_keySign c w1 (by omega)
      cases hq : keyCh c
      · rw [hq] at hl hst
        have HF : Hid (R = false) := by show _ = _; simpa using hst
        have HL := Hid.mk' hl
        clear hl hst hr hC
        go_wp2_with fail
        refine HL.out.mono ?_
        rintro e w2 ⟨rfl, rfl⟩
        go_wp2_with fail
        go_ret
        exact ⟨ret_bool (by unfold keyOk; rw [HR.out, HF.out]; rfl), hBB⟩
      · rw [hq] at hl hst
        have HF : Hid (keyAll (s.data.toList.drop (k + 1)) = R) := by show _ = _; simpa using hst.symm
        have HL := Hid.mk' hl
        clear hl hst hr hC
        go_wp2_with fail
        refine HL.out.mono ?_
        rintro e w2 ⟨rfl, rfl⟩
        go_wp2_with fail
        go_round
        case rel => exact ⟨k + 1, by omega, by go_num, HF.out⟩
        case measure => simp [intOf]; omega
    · have HF : Hid (R = true) := by show _ = _; rw [← hr, List.drop_eq_nil_of_le (by simp; omega)]; rfl
      clear hr
      go_wp2_with fail
      go_ret
      exact ⟨ret_bool (by unfold keyOk; rw [HR.out, HF.out, HZ.out]; rfl), hBB⟩

set_option maxHeartbeats 400000 in
theorem impl_pairOk (p : Pr) (w : World) (hp : small p) (hs : p.1.size ≤ 1099511627776) :
    Calls Tryz.prog 98 #[.agg #[.string p.1, .string p.2]] w fun e w' => e = .returned (.bool (pairOk p)) ∧ Below w.heap.size w w' := by
  have h2 := hp.2
  unfold maxLen at h2
  have hba : Below w.heap.size w (w.alloc (.cells #[.string p.1, .string p.2] 34)) := (Below.refl _ _).alloc (Nat.le_refl _) _
  have hk := impl_keyOk p.1 (w.alloc (.cells #[.string p.1, .string p.2] 34)) hs
  cases hK : keyOk p.1
  · rw [hK] at hk
    have HK := Hid.mk' hk
    have H1 := Hid.mk' hK
    clear hk hK
    go_enter Tryz.func98, Tryz.ntmps98
    go_wp2_with fail
    refine HK.out.mono ?_
    rintro e w1 ⟨rfl, hb1⟩
    go_wp2_with fail
    go_ret
    exact ⟨ret_bool (by unfold pairOk; rw [H1.out]; rfl), hba.trans (hb1.mono hba.size)⟩
  · rw [hK] at hk
    have HK := Hid.mk' hk
    have H1 := Hid.mk' hK
    clear hk hK
    go_enter Tryz.func98, Tryz.ntmps98
    go_wp2_with fail
    refine HK.out.mono ?_
    rintro e w1 ⟨rfl, hb1⟩
    have hc := bcell hb1
    go_wp2_with fail
    go_ret
    exact ⟨ret_bool (by unfold pairOk; rw [H1.out]; simp; omega), hba.trans (hb1.mono hba.size)⟩

end Go.Proofs.YteammdkipnfmnaaGreatDoor.pairs

namespace Go.Proofs.YteammdkipnfmnaaGreatDoor.ords
open Go Go.RowKit Go.Proofs.YteammdkipnfmnaaGreatDoor.base Go.Proofs.YteammdkipnfmnaaGreatDoor.pairs
set_option linter.unusedVariables false
set_option linter.unusedSimpArgs false

/-! ### orders that rise -/
end Go.Proofs.YteammdkipnfmnaaGreatDoor.ords

namespace Go.Proofs.YteammdkipnfmnaaGreatDoor.ords
open Go Go.RowKit Go.Proofs.YteammdkipnfmnaaGreatDoor.base Go.Proofs.YteammdkipnfmnaaGreatDoor.pairs
set_option linter.unusedVariables false
set_option linter.unusedSimpArgs false

theorem cells_three (w : World) (v1 v2 v3 : Value) (t : TypeId) : ∀ j u, [v1, v2, v3][j]? = some u → (w.alloc (.cells #[v1, v2, v3] t)).cell? ((⟨w.heap.size, 0, none⟩ : Addr).add j) = some u := by
  intro j u hj
  have hl : j < 3 := by have := (List.getElem?_eq_some_iff.1 hj).1; simpa using this
  rw [Addr.add_lit]
  match j, hl with
  | 0, _ => simp at hj; subst hj; simp [go_sem]
  | 1, _ => simp at hj; subst hj; simp [go_sem]
  | 2, _ => simp at hj; subst hj; simp [go_sem]
end Go.Proofs.YteammdkipnfmnaaGreatDoor.ords

namespace Go.Proofs.YteammdkipnfmnaaGreatDoor.pairs
open Go Go.RowKit Go.Proofs.YteammdkipnfmnaaGreatDoor.base
set_option linter.unusedVariables false
set_option linter.unusedSimpArgs false

theorem i_meth (x y : ByteArray) (w : World) : (method 299 34 (.agg #[.string x, .string y]) "loop.example/g00244/impl.key").run Tryz.prog w = .ok (167, .agg #[.string x, .string y]) w := by kernel_rfl
theorem nth_take_none {key : ByteArray} {l : List Pr} {k : Nat} (hn : getKey key (l.take k) = none) (hk : k ≤ l.length) (j : Nat) (hj : j < k) : (l[j]'(by omega)).1 ≠ key := by
  have := getKey_none hn j (by simp; omega)
  rwa [List.getElem_take] at this
theorem bel2 {w wr : World} (hB : Below w.heap.size w wr) (x y : Obj) : Below w.heap.size w ((wr.alloc x).alloc y) := (hB.alloc hB.size _).alloc (le_alloc _ _ hB.size) _

set_option maxRecDepth 100000 in
set_option maxHeartbeats 2000000 in
theorem place_found (b off len cap : Nat) (l : List Pr) (key : ByteArray) (w : World) (h : SlP w (some ⟨b, off, none⟩) len l) (n : Nat) (hn : n < l.length) (he : l[n].1 = key) (hno : getKey key (l.take n) = none) :
    Calls Tryz.prog 126 #[.slice (some ⟨b, off, none⟩) len cap, .string key] w fun e w' => e = .returned (.tuple #[.int .i64 (n : Int), .bool true]) ∧ Below w.heap.size w w' := by
  have hl := h.1
  have hm := h.2.1
  subst hl
  unfold maxLen at hm
  have hmt := i_meth
  have HE := Hid.mk' he
  clear he
  go_enter Tryz.func126, Tryz.ntmps126
  go_wp2_with fail
  go_loopw [12] (fun i wr => ∃ k : Nat, k ≤ n ∧ i = .int .i64 (k : Int) ∧ Below w.heap.size w wr) (fun i _ => l.length - (intOf i).toNat)
  case atStart => exact ⟨0, Nat.zero_le _, rfl, Below.refl _ _⟩
  case round =>
    obtain ⟨k, hk, rfl, hB⟩ := hrel
    have hlt : k < l.length := by omega
    obtain ⟨c1, c2⟩ := (h.below hB).cells k hlt
    have hki : (k : Int) < (l.length : Int) := by omega
    by_cases hkn : k = n
    · subst hkn
      have he := HE.out
      rw [he] at c1
      generalize l[k].2 = y at *
      clear hno HE he
      go_wp2_with fail
      refine (i_key (key, y) _).mono ?_
      rintro e w2 ⟨rfl, rfl⟩
      go_wp2_with fail
      go_ret2
      exact ⟨rfl, bel2 hB _ _⟩
    · have hq : (l[k].1.toList == key.toList) = false := str_ne (nth_take_none hno (by omega) k (by omega))
      have hkn2 : k + 1 ≤ n := by omega
      clear hno HE hkn
      generalize l[k] = p at *
      go_wp2_with fail
      refine (i_key p _).mono ?_
      rintro e w2 ⟨rfl, rfl⟩
      go_wp2_with fail
      go_roundw
      case rel => exact ⟨k + 1, hkn2, by go_num, bel2 hB _ _⟩
      case measure => simp [intOf]; omega

set_option maxRecDepth 100000 in
set_option maxHeartbeats 2000000 in
theorem place_none (b off len cap : Nat) (l : List Pr) (key : ByteArray) (w : World) (h : SlP w (some ⟨b, off, none⟩) len l) (hno : getKey key l = none) :
    Calls Tryz.prog 126 #[.slice (some ⟨b, off, none⟩) len cap, .string key] w fun e w' => e = .returned (.tuple #[.int .i64 (below key l : Int), .bool false]) ∧ Below w.heap.size w w' := by
  have hl := h.1
  have hm := h.2.1
  subst hl
  unfold maxLen at hm
  have hmt := i_meth
  obtain ⟨r, hr⟩ : ∃ r, below key l = r := ⟨_, rfl⟩
  have hne := getKey_none hno
  clear hno
  rw [hr]
  have HR := Hid.mk' hr
  clear hr
  go_enter Tryz.func126, Tryz.ntmps126
  go_wp2_with fail
  go_loopw [12] (fun i wr => ∃ k : Nat, k ≤ l.length ∧ i = .int .i64 (k : Int) ∧ Below w.heap.size w wr) (fun i _ => l.length - (intOf i).toNat)
  case atStart => exact ⟨0, Nat.zero_le _, rfl, Below.refl _ _⟩
  case round =>
    obtain ⟨k, hk, rfl, hB⟩ := hrel
    by_cases hlt : k < l.length
    · obtain ⟨c1, c2⟩ := (h.below hB).cells k hlt
      have hki : (k : Int) < (l.length : Int) := by omega
      have hq := str_ne (hne k hlt)
      clear hne
      generalize l[k] = p at *
      go_wp2_with fail
      refine (i_key p _).mono ?_
      rintro e w2 ⟨rfl, rfl⟩
      go_wp2_with fail
      go_roundw
      case rel => exact ⟨k + 1, by omega, by go_num, bel2 hB _ _⟩
      case measure => simp [intOf]; omega
    · have hB0 := hB
      clear hB
      go_wp2_with fail
      go_loopw [26] (fun i wr => ∃ k : Nat, k ≤ l.length ∧ i = .int .i64 (k : Int) ∧ k + below key (l.drop k) = r ∧ Below w.heap.size w wr) (fun i _ => l.length - (intOf i).toNat)
      case atStart => exact ⟨0, Nat.zero_le _, rfl, by rw [List.drop_zero, HR.out]; omega, hB0⟩
      case round =>
        clear hB0 hlt hk
        obtain ⟨k, hk, rfl, hr, hB⟩ := hrel
        by_cases hlt : k < l.length
        · obtain ⟨c1, c2⟩ := (h.below hB).cells k hlt
          have hki : (k : Int) < (l.length : Int) := by omega
          have hst := below_drop key l k hlt
          cases hL : ltB key l[k].1
          · have HF : Hid (k + 1 + below key (l.drop (k + 1)) = r) := by
              show _ = _
              rw [hL] at hst; simp at hst; omega
            have hl2 : Op.bytesLess l[k].1.toList key.toList = true := by rw [less_flip (hne k hlt), show Op.bytesLess key.toList l[k].1.toList = false from hL]; rfl
            clear hst hr hL hne
            generalize l[k] = p at *
            go_wp2_with fail
            refine (i_key p _).mono ?_
            rintro e w2 ⟨rfl, rfl⟩
            go_wp2_with fail
            go_roundw
            case rel => exact ⟨k + 1, by omega, by go_num, HF.out, bel2 hB _ _⟩
            case measure => simp [intOf]; omega
          · have HF : Hid (k = r) := by
              show _ = _
              rw [hL] at hst; simp at hst; omega
            have hl2 : Op.bytesLess l[k].1.toList key.toList = false := by rw [less_flip (hne k hlt), show Op.bytesLess key.toList l[k].1.toList = true from hL]; rfl
            have hq := str_ne (hne k hlt)
            clear hst hr hL hne
            generalize l[k] = p at *
            go_wp2_with fail
            refine (i_key p _).mono ?_
            rintro e w2 ⟨rfl, rfl⟩
            go_wp2_with fail
            obtain rfl := HF.out
            go_ret2
            exact ⟨rfl, bel2 hB _ _⟩
        · have HF : Hid (l.length = r) := by
            show _ = _
            rw [List.drop_eq_nil_of_le (by omega)] at hr; simp [below] at hr; omega
          clear hr hne
          go_wp2_with fail
          obtain rfl := HF.out
          go_ret2
          exact ⟨rfl, hB⟩

theorem getKey_place {key : ByteArray} {l : List Pr} {v : ByteArray} (h : getKey key l = some v) : ∃ n, ∃ hn : n < l.length, l[n].1 = key ∧ l[n].2 = v ∧ getKey key (l.take n) = none := by
  induction l with
  | nil => cases h
  | cons p l ih =>
    rw [getKey] at h
    by_cases hp : p.1 = key
    · rw [if_pos hp] at h
      exact ⟨0, by simp, hp, by simpa using h, rfl⟩
    · rw [if_neg hp] at h
      obtain ⟨n, hn, h1, h2, h3⟩ := ih h
      refine ⟨n + 1, by simp; omega, by simpa using h1, by simpa using h2, ?_⟩
      rw [List.take_succ_cons, getKey, if_neg hp]
      exact h3


end Go.Proofs.YteammdkipnfmnaaGreatDoor.pairs

namespace Go.Proofs.YteammdkipnfmnaaGreatDoor.pairs
open Go Go.RowKit Go.Proofs.YteammdkipnfmnaaGreatDoor.base
set_option linter.unusedVariables false
set_option linter.unusedSimpArgs false

theorem box_cell (w w' : World) (x y : ByteArray) (hB : Below (w.alloc (.cells #[.string x, .string y] 34)).heap.size (w.alloc (.cells #[.string x, .string y] 34)) w') :
    w'.cell? ⟨w.heap.size, 0, none⟩ = some (.string x) ∧ w'.cell? ⟨w.heap.size, 1, none⟩ = some (.string y) := by
  have hlt : w.heap.size < (w.alloc (.cells #[.string x, .string y] 34)).heap.size := by simp
  refine ⟨(hB.cell (p := ⟨w.heap.size, 0, none⟩) hlt).trans ?_, (hB.cell (p := ⟨w.heap.size, 1, none⟩) hlt).trans ?_⟩
  · simp
  · simp

set_option maxRecDepth 100000 in
set_option maxHeartbeats 4000000 in
theorem with_new (b off cap : Nat) (l : List Pr) (key val : ByteArray) (w : World) (h : SlP w (some ⟨b, off, none⟩) l.length l) (hcap : l.length ≤ cap) (hsz : l.length ≤ 1099511627776) (hks : key.size ≤ maxLen) (hvs : val.size ≤ maxLen)
    (k : Nat) (hk : k ≤ l.length)
    (HP : Hid (∀ wx, SlP wx (some ⟨b, off, none⟩) l.length l → Calls Tryz.prog 126 #[.slice (some ⟨b, off, none⟩) l.length cap, .string key] wx fun e w' => e = .returned (.tuple #[.int .i64 (k : Int), .bool false]) ∧ Below wx.heap.size wx w')) :
    Calls Tryz.prog 103 #[.slice (some ⟨b, off, none⟩) l.length cap, .agg #[.string key, .string val]] w fun e w' =>
      ∃ g' n' cap', e = .returned (.slice (some ⟨g', 0, none⟩) n' cap') ∧ OwnP w' w.heap.size g' n' cap' (l.take k ++ (key, val) :: l.drop k) ∧ Below w.heap.size w w' := by
  obtain ⟨i0, hif, hz0, hz1, hz2⟩ := info_parts infoP
  have hsm := h.2.2.1
  have hmt := i_meth
  have hbA : Below w.heap.size w (w.alloc (.cells #[.string key, .string val] 34)) := (Below.refl _ _).alloc (Nat.le_refl _) _
  have hbK : Below (w.alloc (.cells #[.string key, .string val] 34)).heap.size (w.alloc (.cells #[.string key, .string val] 34)) ((w.alloc (.cells #[.string key, .string val] 34)).alloc (.cells #[.string key, .string val] 34)) := (Below.refl _ _).alloc (Nat.le_refl _) _
  have HA := Hid.mk' (HP.out _ ((h.below hbA).below hbK))
  have hBA := Hid.mk' hbA
  have hBK := Hid.mk' hbK
  clear hbA hbK HP
  go_enter Tryz.func103, Tryz.ntmps103
  go_wp2_with fail
  refine (i_key (key, val) _).mono ?_
  rintro e w2 ⟨rfl, rfl⟩
  go_wp2_with fail
  refine HA.out.mono ?_
  rintro e w3 ⟨rfl, hb3⟩
  have hB3 : Below (w.alloc (.cells #[.string key, .string val] 34)).heap.size (w.alloc (.cells #[.string key, .string val] 34)) w3 := hBK.out.trans (hb3.mono hBK.out.size)
  obtain ⟨base, hbase⟩ : ∃ base, (w.alloc (.cells #[.string key, .string val] 34)).heap.size = base := ⟨_, rfl⟩
  have hwb : w.heap.size ≤ base := by rw [← hbase]; exact hBA.out.size
  have hbox := fun wx hx => box_cell w wx key val (hbase ▸ hx)
  have hbs3 : base ≤ w3.heap.size := by rw [← hbase]; exact hB3.size
  rw [hbase] at hB3
  have HAll : Hid (∀ wx, Below base (w.alloc (.cells #[.string key, .string val] 34)) wx → Below w.heap.size w wx) := fun wx hx => hBA.out.trans (hx.mono hwb)
  have HBox := Hid.mk' hbox
  clear hb3 hBK hBA HA hbase hbox
  have hSl3 := h.below (HAll.out _ hB3)
  obtain ⟨c, hc⟩ : ∃ c : Nat, l.length + 1 = c := ⟨_, rfl⟩
  have hcI : (l.length : Int) + 1 = (c : Int) := by omega
  have hmk1 : c ≤ maxLen := by unfold maxLen; omega
  have hmk2 : i0.bytes * c ≤ 281474976710656 := by rw [hz2]; omega
  go_wp2_with (at_make; refine wpList_make_own _ rfl _ _ 98 rfl base 34 i0 (.agg #[.string ⟨#[]⟩, .string ⟨#[]⟩]) 2 Tryz.underlying98 hif hz0 hz1 _ _ _ c rfl rfl (by omega) hmk2 hmk1 hbs3 ?_)
  intro w4 hown hgrow
  have hO4 : OwnP w4 base w3.heap.size 0 c [] := ⟨rfl, fun s h => absurd h List.not_mem_nil, hown⟩
  have hB4 := hB3.grown hgrow hbs3 (fun k e => by cases e)
  have hbs4 : base ≤ w4.heap.size := Nat.le_trans hbs3 hgrow.size
  have HC1 := Hid.mk' (cells_pairs (cellsP_take (h.below (HAll.out _ hB4)).cells k))
  have hn1 : (pairVals (l.take k)).length = k * 2 := by rw [pairVals_length, List.length_take_of_le (by omega)]
  have hm3 : 0 + k ≤ maxLen := by unfold maxLen; omega
  have hm4 : (0 + k) * 32 ≤ 140737488355328 := by omega
  have hkc : (k : Int) ≤ (cap : Int) := by omega
  have hown4 := hO4.2.2
  clear hown hgrow hB3 hSl3 hmk1 hmk2 hcI
  go_wp2_with (at_builtin; refine wpList_append_own _ rfl (.tmp 25) (.tmp 28) 98 rfl base 34 i0 (.agg #[.string ⟨#[]⟩, .string ⟨#[]⟩]) 2 32 Tryz.underlying98 hif hz0 hz1 hz2 rfl (by decide) _ _ _ rfl hown4 ⟨b, off, none⟩ k cap (pairVals (l.take k)) rfl hn1 HC1.out (pairVals_oneCell _) hm3 hm4 hbs4 ?_)
  intro v5 w5 hown hgrow hnn
  have hnn' : ¬ v5 = .slice none 0 0 := by simpa using hnn
  obtain ⟨g5, cap5, hv, hO5⟩ := ownP_val (l := l.take k) (n := k) (List.length_take_of_le (by omega)) (take_small hsm k) hnn' (by simpa [pairVals] using hown)
  subst hv
  have hB5 := hB4.grown hgrow hbs4 (fun k e => by simp [Value.ownBlock] at e; have := hO4.lt; omega)
  have hbs5 : base ≤ w5.heap.size := Nat.le_trans hbs4 hgrow.size
  obtain ⟨cb0, cb1⟩ := HBox.out _ hB5
  have hm5 : k + 1 ≤ maxLen := by unfold maxLen; omega
  have hm6 : (k + 1) * 32 ≤ 140737488355328 := by omega
  clear hown hgrow hnn hnn' hown4 hO4 hB4 HC1 hn1 hm3 hm4 HBox
  go_wp2_with (at_builtin; refine wpList_append_own _ rfl (.tmp 30) (.tmp 32) 98 rfl base 34 i0 (.agg #[.string ⟨#[]⟩, .string ⟨#[]⟩]) 2 32 Tryz.underlying98 hif hz0 hz1 hz2 rfl (by decide) _ _ _ rfl (hO5.2.2.alloc _) ⟨w5.heap.size, 0, none⟩ 1 1 (pairVals [(key, val)]) rfl rfl (one_pair_cells _ (key, val) _) (pairVals_oneCell _) hm5 hm6 (le_alloc _ _ hbs5) ?_)
  intro v6 w6 hown hgrow hnn
  obtain ⟨g6, cap6, hv, hO6⟩ := ownP_app hO5.1 hO5.2.1 ⟨hks, hvs⟩ hnn hown
  subst hv
  have hB6 := (hB5.alloc hbs5 _).grown hgrow (le_alloc _ _ hbs5) (fun k e => by simp [Value.ownBlock] at e; have := hO5.lt; omega)
  have hbs6 : base ≤ w6.heap.size := Nat.le_trans (le_alloc _ _ hbs5) hgrow.size
  have hSl6 := h.below (HAll.out _ hB6)
  have hm7 : k + 1 + (l.length - (k)) ≤ maxLen := by unfold maxLen; omega
  have hm8 : (k + 1 + (l.length - (k))) * 32 ≤ 140737488355328 := by omega
  have hn7 : (pairVals (l.drop (k))).length = (l.length - (k)) * 2 := by rw [pairVals_length, List.length_drop]
  clear hown hgrow hnn hO5 hB5 hm5 hm6
  by_cases hck : cap = k
  · have HC7 : Hid (∀ j v, (pairVals (l.drop (k)))[j]? = some v → w6.cell? ((⟨b, off, none⟩ : Addr).add j) = some v) := by
      show ∀ j v, _ → _
      intro j v hj
      rw [List.drop_eq_nil_of_le (by omega)] at hj
      simp [pairVals] at hj
    go_wp2_with (at_builtin; refine wpList_append_own _ rfl (.tmp 34) (.tmp 37) 98 rfl base 34 i0 (.agg #[.string ⟨#[]⟩, .string ⟨#[]⟩]) 2 32 Tryz.underlying98 hif hz0 hz1 hz2 rfl (by decide) _ _ _ rfl hO6.2.2 ⟨b, off, none⟩ (l.length - (k)) _ (pairVals (l.drop (k))) rfl hn7 HC7.out (pairVals_oneCell _) hm7 hm8 hbs6 ?_)
    intro v7 w7 hown hgrow hnn
    have hnn' : ¬ v7 = .slice none 0 0 := by simpa using hnn
    rw [← pairVals_append] at hown
    obtain ⟨g7, cap7, hv, hO7⟩ := ownP_val (n := k + 1 + (l.length - (k))) (by simp; omega) (fun q hq => by
      rcases List.mem_append.1 hq with h1 | h1
      · exact hO6.2.1 q h1
      · exact hsm q (List.mem_of_mem_drop h1)) hnn' hown
    subst hv
    have hB7 := HAll.out _ (hB6.grown hgrow hbs6 (fun k e => by simp [Value.ownBlock] at e; have := hO6.lt; omega))
    have HO7 := Hid.mk' (hO7.mono hwb)
    clear hown hgrow hnn hnn' hO7
    go_wp2_with (at_builtin; fail)
    go_ret
    refine ⟨g7, _, cap7, rfl, ?_, hB7⟩
    have := HO7.out
    rw [List.append_assoc] at this
    exact this
  · have HC7 := Hid.mk' (cells_pairs (cellsP_drop hSl6.cells (k)))
    go_wp2_with (at_builtin; refine wpList_append_own _ rfl (.tmp 34) (.tmp 37) 98 rfl base 34 i0 (.agg #[.string ⟨#[]⟩, .string ⟨#[]⟩]) 2 32 Tryz.underlying98 hif hz0 hz1 hz2 rfl (by decide) _ _ _ rfl hO6.2.2 ⟨b, off + (k) * 2, none⟩ (l.length - (k)) _ (pairVals (l.drop (k))) rfl hn7 HC7.out (pairVals_oneCell _) hm7 hm8 hbs6 ?_)
    intro v7 w7 hown hgrow hnn
    have hnn' : ¬ v7 = .slice none 0 0 := by simpa using hnn
    rw [← pairVals_append] at hown
    obtain ⟨g7, cap7, hv, hO7⟩ := ownP_val (n := k + 1 + (l.length - (k))) (by simp; omega) (fun q hq => by
      rcases List.mem_append.1 hq with h1 | h1
      · exact hO6.2.1 q h1
      · exact hsm q (List.mem_of_mem_drop h1)) hnn' hown
    subst hv
    have hB7 := HAll.out _ (hB6.grown hgrow hbs6 (fun k e => by simp [Value.ownBlock] at e; have := hO6.lt; omega))
    have HO7 := Hid.mk' (hO7.mono hwb)
    clear hown hgrow hnn hnn' hO7
    go_wp2_with (at_builtin; fail)
    go_ret
    refine ⟨g7, _, cap7, rfl, ?_, hB7⟩
    have := HO7.out
    rw [List.append_assoc] at this
    exact this

set_option maxRecDepth 100000 in
set_option maxHeartbeats 4000000 in
theorem with_found (b off cap : Nat) (l : List Pr) (key val : ByteArray) (w : World) (h : SlP w (some ⟨b, off, none⟩) l.length l) (hcap : l.length ≤ cap) (hsz : l.length ≤ 1099511627776) (hks : key.size ≤ maxLen) (hvs : val.size ≤ maxLen)
    (k : Nat) (hk : k < l.length)
    (HP : Hid (∀ wx, SlP wx (some ⟨b, off, none⟩) l.length l → Calls Tryz.prog 126 #[.slice (some ⟨b, off, none⟩) l.length cap, .string key] wx fun e w' => e = .returned (.tuple #[.int .i64 (k : Int), .bool true]) ∧ Below wx.heap.size wx w')) :
    Calls Tryz.prog 103 #[.slice (some ⟨b, off, none⟩) l.length cap, .agg #[.string key, .string val]] w fun e w' =>
      ∃ g' n' cap', e = .returned (.slice (some ⟨g', 0, none⟩) n' cap') ∧ OwnP w' w.heap.size g' n' cap' (l.take k ++ (key, val) :: l.drop (k + 1)) ∧ Below w.heap.size w w' := by
  obtain ⟨i0, hif, hz0, hz1, hz2⟩ := info_parts infoP
  have hsm := h.2.2.1
  have hmt := i_meth
  have hbA : Below w.heap.size w (w.alloc (.cells #[.string key, .string val] 34)) := (Below.refl _ _).alloc (Nat.le_refl _) _
  have hbK : Below (w.alloc (.cells #[.string key, .string val] 34)).heap.size (w.alloc (.cells #[.string key, .string val] 34)) ((w.alloc (.cells #[.string key, .string val] 34)).alloc (.cells #[.string key, .string val] 34)) := (Below.refl _ _).alloc (Nat.le_refl _) _
  have HA := Hid.mk' (HP.out _ ((h.below hbA).below hbK))
  have hBA := Hid.mk' hbA
  have hBK := Hid.mk' hbK
  clear hbA hbK HP
  go_enter Tryz.func103, Tryz.ntmps103
  go_wp2_with fail
  refine (i_key (key, val) _).mono ?_
  rintro e w2 ⟨rfl, rfl⟩
  go_wp2_with fail
  refine HA.out.mono ?_
  rintro e w3 ⟨rfl, hb3⟩
  have hB3 : Below (w.alloc (.cells #[.string key, .string val] 34)).heap.size (w.alloc (.cells #[.string key, .string val] 34)) w3 := hBK.out.trans (hb3.mono hBK.out.size)
  obtain ⟨base, hbase⟩ : ∃ base, (w.alloc (.cells #[.string key, .string val] 34)).heap.size = base := ⟨_, rfl⟩
  have hwb : w.heap.size ≤ base := by rw [← hbase]; exact hBA.out.size
  have hbox := fun wx hx => box_cell w wx key val (hbase ▸ hx)
  have hbs3 : base ≤ w3.heap.size := by rw [← hbase]; exact hB3.size
  rw [hbase] at hB3
  have HAll : Hid (∀ wx, Below base (w.alloc (.cells #[.string key, .string val] 34)) wx → Below w.heap.size w wx) := fun wx hx => hBA.out.trans (hx.mono hwb)
  have HBox := Hid.mk' hbox
  clear hb3 hBK hBA HA hbase hbox
  have hSl3 := h.below (HAll.out _ hB3)
  obtain ⟨c, hc⟩ : ∃ c : Nat, l.length + 1 = c := ⟨_, rfl⟩
  have hcI : (l.length : Int) + 1 = (c : Int) := by omega
  have hmk1 : c ≤ maxLen := by unfold maxLen; omega
  have hmk2 : i0.bytes * c ≤ 281474976710656 := by rw [hz2]; omega
  go_wp2_with (at_make; refine wpList_make_own _ rfl _ _ 98 rfl base 34 i0 (.agg #[.string ⟨#[]⟩, .string ⟨#[]⟩]) 2 Tryz.underlying98 hif hz0 hz1 _ _ _ c rfl rfl (by omega) hmk2 hmk1 hbs3 ?_)
  intro w4 hown hgrow
  have hO4 : OwnP w4 base w3.heap.size 0 c [] := ⟨rfl, fun s h => absurd h List.not_mem_nil, hown⟩
  have hB4 := hB3.grown hgrow hbs3 (fun k e => by cases e)
  have hbs4 : base ≤ w4.heap.size := Nat.le_trans hbs3 hgrow.size
  have HC1 := Hid.mk' (cells_pairs (cellsP_take (h.below (HAll.out _ hB4)).cells k))
  have hn1 : (pairVals (l.take k)).length = k * 2 := by rw [pairVals_length, List.length_take_of_le (by omega)]
  have hm3 : 0 + k ≤ maxLen := by unfold maxLen; omega
  have hm4 : (0 + k) * 32 ≤ 140737488355328 := by omega
  have hkc : (k : Int) ≤ (cap : Int) := by omega
  have hown4 := hO4.2.2
  clear hown hgrow hB3 hSl3 hmk1 hmk2 hcI
  go_wp2_with (at_builtin; refine wpList_append_own _ rfl (.tmp 25) (.tmp 28) 98 rfl base 34 i0 (.agg #[.string ⟨#[]⟩, .string ⟨#[]⟩]) 2 32 Tryz.underlying98 hif hz0 hz1 hz2 rfl (by decide) _ _ _ rfl hown4 ⟨b, off, none⟩ k cap (pairVals (l.take k)) rfl hn1 HC1.out (pairVals_oneCell _) hm3 hm4 hbs4 ?_)
  intro v5 w5 hown hgrow hnn
  have hnn' : ¬ v5 = .slice none 0 0 := by simpa using hnn
  obtain ⟨g5, cap5, hv, hO5⟩ := ownP_val (l := l.take k) (n := k) (List.length_take_of_le (by omega)) (take_small hsm k) hnn' (by simpa [pairVals] using hown)
  subst hv
  have hB5 := hB4.grown hgrow hbs4 (fun k e => by simp [Value.ownBlock] at e; have := hO4.lt; omega)
  have hbs5 : base ≤ w5.heap.size := Nat.le_trans hbs4 hgrow.size
  obtain ⟨cb0, cb1⟩ := HBox.out _ hB5
  have hm5 : k + 1 ≤ maxLen := by unfold maxLen; omega
  have hm6 : (k + 1) * 32 ≤ 140737488355328 := by omega
  clear hown hgrow hnn hnn' hown4 hO4 hB4 HC1 hn1 hm3 hm4 HBox
  go_wp2_with (at_builtin; refine wpList_append_own _ rfl (.tmp 30) (.tmp 32) 98 rfl base 34 i0 (.agg #[.string ⟨#[]⟩, .string ⟨#[]⟩]) 2 32 Tryz.underlying98 hif hz0 hz1 hz2 rfl (by decide) _ _ _ rfl (hO5.2.2.alloc _) ⟨w5.heap.size, 0, none⟩ 1 1 (pairVals [(key, val)]) rfl rfl (one_pair_cells _ (key, val) _) (pairVals_oneCell _) hm5 hm6 (le_alloc _ _ hbs5) ?_)
  intro v6 w6 hown hgrow hnn
  obtain ⟨g6, cap6, hv, hO6⟩ := ownP_app hO5.1 hO5.2.1 ⟨hks, hvs⟩ hnn hown
  subst hv
  have hB6 := (hB5.alloc hbs5 _).grown hgrow (le_alloc _ _ hbs5) (fun k e => by simp [Value.ownBlock] at e; have := hO5.lt; omega)
  have hbs6 : base ≤ w6.heap.size := Nat.le_trans (le_alloc _ _ hbs5) hgrow.size
  have hSl6 := h.below (HAll.out _ hB6)
  have hm7 : k + 1 + (l.length - (k + 1)) ≤ maxLen := by unfold maxLen; omega
  have hm8 : (k + 1 + (l.length - (k + 1))) * 32 ≤ 140737488355328 := by omega
  have hn7 : (pairVals (l.drop (k + 1))).length = (l.length - (k + 1)) * 2 := by rw [pairVals_length, List.length_drop]
  clear hown hgrow hnn hO5 hB5 hm5 hm6
  by_cases hck : cap = k + 1
  · have HC7 : Hid (∀ j v, (pairVals (l.drop (k + 1)))[j]? = some v → w6.cell? ((⟨b, off, none⟩ : Addr).add j) = some v) := by
      show ∀ j v, _ → _
      intro j v hj
      rw [List.drop_eq_nil_of_le (by omega)] at hj
      simp [pairVals] at hj
    have hR1 : (k : Int) + 1 ≤ (l.length : Int) := by omega
    have hR2 : (k : Int) + 1 ≤ (cap : Int) := by omega
    have hR3 : ((k : Int) + 1).toNat = k + 1 := by omega
    go_wp2_with (at_builtin; refine wpList_append_own _ rfl (.tmp 34) (.tmp 37) 98 rfl base 34 i0 (.agg #[.string ⟨#[]⟩, .string ⟨#[]⟩]) 2 32 Tryz.underlying98 hif hz0 hz1 hz2 rfl (by decide) _ _ _ rfl hO6.2.2 ⟨b, off, none⟩ (l.length - (k + 1)) _ (pairVals (l.drop (k + 1))) rfl hn7 HC7.out (pairVals_oneCell _) hm7 hm8 hbs6 ?_)
    intro v7 w7 hown hgrow hnn
    have hnn' : ¬ v7 = .slice none 0 0 := by simpa using hnn
    rw [← pairVals_append] at hown
    obtain ⟨g7, cap7, hv, hO7⟩ := ownP_val (n := k + 1 + (l.length - (k + 1))) (by simp; omega) (fun q hq => by
      rcases List.mem_append.1 hq with h1 | h1
      · exact hO6.2.1 q h1
      · exact hsm q (List.mem_of_mem_drop h1)) hnn' hown
    subst hv
    have hB7 := HAll.out _ (hB6.grown hgrow hbs6 (fun k e => by simp [Value.ownBlock] at e; have := hO6.lt; omega))
    have HO7 := Hid.mk' (hO7.mono hwb)
    clear hown hgrow hnn hnn' hO7
    go_wp2_with (at_builtin; fail)
    go_ret
    refine ⟨g7, _, cap7, rfl, ?_, hB7⟩
    have := HO7.out
    rw [List.append_assoc] at this
    exact this
  · have HC7 := Hid.mk' (cells_pairs (cellsP_drop hSl6.cells (k + 1)))
    have hR1 : (k : Int) + 1 ≤ (l.length : Int) := by omega
    have hR2 : (k : Int) + 1 ≤ (cap : Int) := by omega
    have hR3 : ((k : Int) + 1).toNat = k + 1 := by omega
    go_wp2_with (at_builtin; refine wpList_append_own _ rfl (.tmp 34) (.tmp 37) 98 rfl base 34 i0 (.agg #[.string ⟨#[]⟩, .string ⟨#[]⟩]) 2 32 Tryz.underlying98 hif hz0 hz1 hz2 rfl (by decide) _ _ _ rfl hO6.2.2 ⟨b, off + (k + 1) * 2, none⟩ (l.length - (k + 1)) _ (pairVals (l.drop (k + 1))) rfl hn7 HC7.out (pairVals_oneCell _) hm7 hm8 hbs6 ?_)
    intro v7 w7 hown hgrow hnn
    have hnn' : ¬ v7 = .slice none 0 0 := by simpa using hnn
    rw [← pairVals_append] at hown
    obtain ⟨g7, cap7, hv, hO7⟩ := ownP_val (n := k + 1 + (l.length - (k + 1))) (by simp; omega) (fun q hq => by
      rcases List.mem_append.1 hq with h1 | h1
      · exact hO6.2.1 q h1
      · exact hsm q (List.mem_of_mem_drop h1)) hnn' hown
    subst hv
    have hB7 := HAll.out _ (hB6.grown hgrow hbs6 (fun k e => by simp [Value.ownBlock] at e; have := hO6.lt; omega))
    have HO7 := Hid.mk' (hO7.mono hwb)
    clear hown hgrow hnn hnn' hO7
    go_wp2_with (at_builtin; fail)
    go_ret
    refine ⟨g7, _, cap7, rfl, ?_, hB7⟩
    have := HO7.out
    rw [List.append_assoc] at this
    exact this

set_option maxRecDepth 100000 in
set_option maxHeartbeats 1000000 in
theorem impl_putKey (b off len cap : Nat) (l : List Pr) (key val : ByteArray) (w : World) (h : SlP w (some ⟨b, off, none⟩) len l) (hcap : len ≤ cap) (hsz : len ≤ 1099511627776) (hks : key.size ≤ maxLen) (hvs : val.size ≤ maxLen) :
    Calls Tryz.prog 67 #[.slice (some ⟨b, off, none⟩) len cap, .string key, .string val] w fun e w' =>
      ∃ g' n' cap', e = .returned (.slice (some ⟨g', 0, none⟩) n' cap') ∧ OwnP w' w.heap.size g' n' cap' (putKey key val l) ∧ Below w.heap.size w w' := by
  have hl := h.1
  subst hl
  have HW : Hid (Calls Tryz.prog 103 #[.slice (some ⟨b, off, none⟩) l.length cap, .agg #[.string key, .string val]] w fun e w' =>
      ∃ g' n' cap', e = .returned (.slice (some ⟨g', 0, none⟩) n' cap') ∧ OwnP w' w.heap.size g' n' cap' (putKey key val l) ∧ Below w.heap.size w w') := by
    cases hg : getKey key l with
    | none =>
      rw [put_new hg]
      exact with_new b off cap l key val w h hcap hsz hks hvs (below key l) (below_le key l) (Hid.mk' fun wx hx => place_none b off _ cap l key wx hx hg)
    | some v =>
      obtain ⟨n, hn, h1, h2, h3⟩ := getKey_place hg
      rw [put_found n hn h1 h3, List.set_eq_take_append_cons_drop, if_pos hn, h1]
      exact with_found b off cap l key val w h hcap hsz hks hvs n hn (Hid.mk' fun wx hx => place_found b off _ cap l key wx hx n hn h1 h3)
  go_enter Tryz.func67, Tryz.ntmps67
  go_wp2_with fail
  refine HW.out.mono ?_
  rintro e w2 ⟨g, n, cp, rfl, hO, hB⟩
  have HO := Hid.mk' hO
  clear hO
  go_wp2_with fail
  go_ret
  exact ⟨g, n, cp, rfl, HO.out, hB⟩

end Go.Proofs.YteammdkipnfmnaaGreatDoor.pairs
