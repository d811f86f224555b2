/- The specification's check of a path. The specification's keys and pairs: what is right, what is got. The specification's lists of pairs. The specification's putting of keys. -/
import Derived.Test.YteammdkipnfmnaaGreatDoorShah
import Derived.Test.YteammdkipnfmnaaGreatDoorShac
import Derived.Deep.RegionHeld3
namespace Go.Proofs.YteammdkipnfmnaaGreatDoor.tree
open Go Go.RowKit Go.Proofs.YteammdkipnfmnaaGreatDoor.base Go.Proofs.YteammdkipnfmnaaGreatDoor.pairs Go.Proofs.YteammdkipnfmnaaGreatDoor.puttext Go.Proofs.YteammdkipnfmnaaGreatDoor.putnum
set_option linter.unusedVariables false
set_option linter.unusedSimpArgs false

def allOf (leaf : List UInt8) (i n : Nat) (p : List ByteArray) : Option (List ByteArray) :=
  (hashed leaf i n p).map fun out => out ++ [⟨(topB (n : Int) (dg (out.getLastD ⟨#[]⟩).data.toList)).toArray⟩]

set_option maxRecDepth 100000 in
set_option maxHeartbeats 2000000 in
theorem spec_l4All (leaf : List UInt8) (lbase lg ln lcap i n pb po pcap : Nat) (P : List ByteArray) (w : World) (h60 : n ≤ 60) (hL : Own w lbase lg ln lcap leaf) (hleaf : leaf.length ≤ 137438953472) (hP : SlS w (some ⟨pb, po, none⟩) P.length P) (hPs : ∀ s ∈ P, s.size ≤ 137438953472) (hpc : P.length ≤ pcap) (hin : i < n) :
    Calls Tryz.prog 128 #[.slice (some ⟨lg, 0, none⟩) ln lcap, .int .i64 (i : Int), .int .i64 (n : Int), .slice (some ⟨pb, po, none⟩) P.length pcap] w (HPost w (allOf leaf i n P)) := by
  obtain ⟨i0, hi, hz0, hz1, hz2'⟩ := info_parts info9
  have hrec := spec_l4Hashed n leaf lbase lg ln lcap i n pb po pcap P w rfl h60 hL hleaf hP hPs hpc hin
  cases hh : hashed leaf i n P with
  | none =>
    have HN : Hid (allOf leaf i n P = none) := by show _ = _; unfold allOf; rw [hh]; rfl
    rw [hh] at hrec
    have HR := Hid.mk' hrec
    clear hrec hh hL hP hPs
    go_enter Tryz.func128, Tryz.ntmps128
    go_wp2_with (at_builtin; fail)
    refine HR.out.mono ?_
    rintro e w5 ⟨hB5, v, rfl⟩
    go_wp2_with (at_builtin; fail)
    go_ret2
    exact ⟨hB5.alloc hB5.size _, by rw [HN.out]; exact ⟨_, rfl⟩⟩
  | some out =>
    obtain ⟨out', y, rfl⟩ := snoc_of_ne (hashed_ne _ _ _ _ _ hh)
    have HN : Hid (allOf leaf i n P = some (out' ++ [y] ++ [⟨(topB (n : Int) (dg y.data.toList)).toArray⟩])) := by show _ = _; unfold allOf; rw [hh]; simp
    have hsm := hashed_small leaf i n P _ hh hleaf hPs
    have hol0 := hashed_len leaf i n P _ hh
    have hol : out'.length ≤ 100 := by simp at hol0; omega
    have hy := hsm y (by simp)
    rw [hh] at hrec
    have HR := Hid.mk' hrec
    have hds := dg_size y.data.toList
    have htl := topB_length (n : Int) (dg y.data.toList)
    clear hrec hh hsm hL hP hPs hol0
    go_enter Tryz.func128, Tryz.ntmps128
    go_wp2_with (at_builtin; fail)
    refine HR.out.mono ?_
    rintro e w5 ⟨hB5, g5, n5, cp5, rfl, hO5⟩
    have hn5 := hO5.1
    have hn5' : n5 = out'.length + 1 := by simp at hn5; omega
    subst hn5'
    have hcy := hO5.at out'.length (by simp)
    simp only [List.getElem_concat_length] at hcy
    have hconv := Lib.run_convert_string_bytes (P := Tryz.prog) w5 9 22 5 y Tryz.underlying9 Tryz.underlying22 Tryz.underlying5
    have hBb := below_bytesWorld w5 5 y
    have HD := Hid.mk' (fun c => sha.spec_digest w5.heap.size 0 y.size c y.data.toList (Lib.bytesWorld w5 5 y) (sl_bts (bts_new w5 y) (by unfold maxLen; omega)) (by omega))
    have HB5 := Hid.mk' hB5
    have HO5 := Hid.mk' hO5
    clear hB5 hO5 hn5
    go_wp2_with (at_builtin; fail)
    refine (HD.out _).mono ?_
    rintro e w6 ⟨rfl, hb6⟩
    have hB6 : Below w5.heap.size w5 w6 := hBb.trans (hb6.mono hBb.size)
    have hO6 := HO5.out.below hB6
    have hB6' := HB5.out.trans (hB6.mono HB5.out.size)
    have hdd : (⟨(sha.digest y.data.toList).toArray⟩ : ByteArray) = dg y.data.toList := rfl
    rw [hdd]
    have HL := Hid.mk' (fun wx => spec_l4Top (n : Int) (dg y.data.toList) wx (WalkArith.wf_i64 (by omega)) (by omega))
    generalize dg y.data.toList = d at *
    clear hconv hBb HD hb6 hB6 HO5 HB5 hcy
    go_wp2_with (at_builtin; fail)
    refine (HL.out _).mono ?_
    rintro e w7 ⟨g7, n7, cp7, rfl, hO7, hb7⟩
    have hcv := conv_own hO7
    have hnds : (⟨(topB (n : Int) d).toArray⟩ : ByteArray).size ≤ maxLen := by rw [arr_size]; unfold maxLen; omega
    obtain ⟨nd, hnd⟩ : ∃ nd, (⟨(topB (n : Int) d).toArray⟩ : ByteArray) = nd := ⟨_, rfl⟩
    rw [hnd] at hcv hnds HN
    clear hnd
    have hO8 := hO6.below hb7
    have hB7 := hB6'.trans (hb7.mono hB6'.size)
    have hs7 := hB7.size
    clear hO6 hB6' hb7 hO7 HL htl
    have hc3 : out'.length + 1 + 1 ≤ maxLen := by unfold maxLen; omega
    have hc4 : (out'.length + 1 + 1) * 16 ≤ 140737488355328 := by omega
    go_wp2_with (at_builtin; refine wpList_append_own _ rfl (.tmp 23) (.tmp 35) 24 rfl w.heap.size 9 i0 (.string ⟨#[]⟩) 1 16 Tryz.underlying24 hi hz0 hz1 hz2' rfl (by decide) _ _ _ rfl (hO8.2.2.alloc _) ⟨w7.heap.size, 0, none⟩ 1 1 [.string nd] rfl rfl (cell_one_new _ _ _) (str_oneCell _) hc3 hc4 (le_alloc _ _ hs7) ?_)
    intro v9 w9 hown hgrow hnn
    have hnn' : ¬ v9 = .slice none 0 0 := by simpa using hnn
    obtain ⟨g9, cap9, hv, hO9⟩ := ownS_val (ss := out' ++ [y] ++ [nd]) (n := out'.length + 1 + 1) (by simp) (fun s hs => by
      rcases List.mem_append.1 hs with h1 | h1
      · exact hO8.2.1 s h1
      · rw [List.mem_singleton.1 h1]; exact hnds) hnn' (by simpa [strVals] using hown)
    subst hv
    have hB9 : Below w.heap.size w w9 := (hB7.alloc hs7 _).grown hgrow (le_alloc _ _ hs7) (fun k e => by simp [Value.ownBlock] at e; have := hO8.lt; omega)
    have HO9 := Hid.mk' hO9
    clear hown hgrow hnn hnn' hO9 hO8 hB7
    go_wp2_with (at_builtin; fail)
    go_ret2
    exact ⟨hB9, by rw [HN.out]; exact ⟨g9, _, cap9, rfl, HO9.out⟩⟩

theorem check_none {p : Pr} {i n : Nat} {P : List ByteArray} {root : ByteArray} (h : hashed (leafB p) i n P = none) : checkPath p i n P root = false := by
  unfold checkPath leafOf; rw [climb_hashed, h]; rfl
theorem check_some {p : Pr} {i n : Nat} {P : List ByteArray} {root : ByteArray} {out : List ByteArray} {y : ByteArray} (h : hashed (leafB p) i n P = some (out ++ [y])) : checkPath p i n P root = decide (dg (topB (n : Int) (dg y.data.toList)) = root) := by
  unfold checkPath leafOf; rw [climb_hashed, h]; simp

set_option maxRecDepth 100000 in
set_option maxHeartbeats 2000000 in
theorem spec_checkPath (p : Pr) (I N : Int) (pb po pcap : Nat) (P : List ByteArray) (root : ByteArray) (w : World) (hp : lim p) (hP : SlS w (some ⟨pb, po, none⟩) P.length P) (hPs : ∀ s ∈ P, s.size ≤ 137438953472) (hpc : P.length ≤ pcap) :
    Calls Tryz.prog 108 #[.agg #[.string p.1, .string p.2], .int .i64 I, .int .i64 N, .slice (some ⟨pb, po, none⟩) P.length pcap, .string root] w fun e w' => e = .returned (.bool (checkPathI p I N P root)) ∧ Below w.heap.size w w' := by
  have hp1 := hp.1
  have hp2 := hp.2
  have hlen := leafB_length p
  obtain ⟨w0, hw0⟩ : ∃ w0, w0 = w.alloc (.cells #[.string p.1, .string p.2] 34) := ⟨_, rfl⟩
  have hba : Below w.heap.size w w0 := by rw [hw0]; exact (Below.refl _ _).alloc (Nat.le_refl _) _
  have hc1 : w0.cell? ⟨w.heap.size, 0, none⟩ = some (.string p.1) := by rw [hw0]; simp
  have hc2 : w0.cell? ⟨w.heap.size, 1, none⟩ = some (.string p.2) := by rw [hw0]; simp
  by_cases hN : 1 ≤ N ∧ N ≤ 60
  · have h1 := fun wx => s_inI N 1 60 wx
    rw [decide_eq_true hN] at h1
    obtain ⟨n, hn⟩ : ∃ n : Nat, N = (n : Int) := ⟨N.toNat, by omega⟩
    subst hn
    by_cases hI : 0 ≤ I ∧ I ≤ (n : Int) - 1
    · have h2 := fun wx => s_inI I 0 ((n : Int) - 1) wx
      rw [decide_eq_true hI] at h2
      obtain ⟨i, hi⟩ : ∃ i : Nat, I = (i : Int) := ⟨I.toNat, by omega⟩
      subst hi
      have H1 := Hid.mk' h1
      have H2 := Hid.mk' h2
      have HCI : Hid (checkPathI p (i : Int) (n : Int) P root = checkPath p i n P root) := by
        show _ = _; unfold checkPathI; rw [decide_eq_true hN, decide_eq_true hI, Int.toNat_natCast, Int.toNat_natCast]; rfl
      have hn60 : n ≤ 60 := by omega
      have hin : i < n := by omega
      clear h1 h2 hN hI
      go_enter Tryz.func108, Tryz.ntmps108
      go_wp2_with fail
      rw [← hw0]
      clear hw0
      refine (H1.out _).mono ?_
      rintro e w1 ⟨rfl, hw1⟩
      subst hw1
      go_wp2_with fail
      refine (H2.out _).mono ?_
      rintro e w1 ⟨rfl, hw1⟩
      subst hw1
      have HL := Hid.mk' (spec_l4Leaf p w1 hp)
      clear H1 H2
      go_wp2_with fail
      refine HL.out.mono ?_
      rintro e w2 ⟨lg, ln, lcap, rfl, hL, hb2⟩
      have hB2 := hba.trans (hb2.mono hba.size)
      have hA := spec_l4All (leafB p) _ lg ln lcap i n pb po pcap P w2 hn60 hL (by omega) (hP.below hB2) hPs hpc hin
      unfold allOf at hA
      clear hc1 hc2 HL hL hb2 hba
      cases hh : hashed (leafB p) i n P with
      | none =>
        have HC : Hid (checkPathI p (i : Int) (n : Int) P root = false) := by show _ = _; rw [HCI.out, check_none hh]
        rw [hh] at hA
        have HA := Hid.mk' hA
        clear hA hh HCI
        go_wp2_with fail
        refine HA.out.mono ?_
        rintro e w3 ⟨hb3, v, rfl⟩
        have hB3 := hB2.trans (hb3.mono hB2.size)
        go_wp2_with fail
        go_ret
        exact ⟨ret_bool (by rw [HC.out]), hB3⟩
      | some out =>
        have hsm := hashed_small (leafB p) i n P _ hh (by omega) hPs
        have hol0 := hashed_len (leafB p) i n P _ hh
        obtain ⟨out', y, rfl⟩ := snoc_of_ne (hashed_ne _ _ _ _ _ hh)
        have HC : Hid (checkPathI p (i : Int) (n : Int) P root = decide (dg (topB (n : Int) (dg y.data.toList)) = root)) := by show _ = _; rw [HCI.out, check_some hh]
        rw [hh] at hA
        simp only [Option.map_some, List.getLastD_concat] at hA
        have htl := topB_length (n : Int) (dg y.data.toList)
        have hds := dg_size y.data.toList
        generalize topB (n : Int) (dg y.data.toList) = tb at *
        obtain ⟨nd, hnd⟩ : ∃ nd, (⟨tb.toArray⟩ : ByteArray) = nd := ⟨_, rfl⟩
        have hnl : nd.data.toList = tb := by rw [← hnd]
        have hnz : nd.size ≤ 100 := by rw [← hnd, arr_size]; omega
        rw [hnd] at hA
        have HA := Hid.mk' hA
        have HNL := Hid.mk' hnl
        have hol : out'.length ≤ 100 := by simp at hol0; omega
        clear hA hh HCI hsm hol0 hnd hnl htl
        go_wp2_with fail
        refine HA.out.mono ?_
        rintro e w3 ⟨hb3, g5, n5, cp5, rfl, hO5⟩
        have hB3 := hB2.trans (hb3.mono hB2.size)
        have hn5 := hO5.1
        have hn5' : n5 = out'.length + 2 := by simp at hn5; omega
        subst hn5'
        have hcy := hO5.at (out'.length + 1) (by simp)
        have hge : (out' ++ [y] ++ [nd])[out'.length + 1]'(by simp) = nd := by
          rw [List.getElem_append_right (by simp)]; simp
        rw [hge] at hcy
        have hconv := Lib.run_convert_string_bytes (P := Tryz.prog) w3 9 22 5 nd Tryz.underlying9 Tryz.underlying22 Tryz.underlying5
        have hBb := below_bytesWorld w3 5 nd
        have hD := fun c => sha.spec_digest w3.heap.size 0 nd.size c nd.data.toList (Lib.bytesWorld w3 5 nd) (sl_bts (bts_new w3 nd) (by unfold maxLen; omega)) (by omega)
        rw [HNL.out] at hD
        have HD := Hid.mk' hD
        have q1 : ((out'.length + 2 : Nat) : Int) - 1 = ((out'.length + 1 : Nat) : Int) := by omega
        clear hO5 hn5 hge hb3 hD
        go_wp2_with fail
        refine (HD.out _).mono ?_
        rintro e w4 ⟨rfl, hb4⟩
        have hB4 : Below w3.heap.size w3 w4 := hBb.trans (hb4.mono hBb.size)
        have hB4' := hB3.trans (hB4.mono hB3.size)
        have hdd : (⟨(sha.digest tb).toArray⟩ : ByteArray) = dg tb := rfl
        rw [hdd]
        generalize dg tb = d at *
        clear hconv hBb HD hb4 hB4 hcy
        by_cases he : d = root
        · subst he
          go_wp2_with fail
          go_ret
          exact ⟨ret_bool (by rw [HC.out]; simp), hB4'⟩
        · have hq : (d.toList == root.toList) = false := by
            rw [beq_eq_false_iff_ne]; intro e; rw [ByteArray.toList_eq, ByteArray.toList_eq] at e; exact he (bytes_ext e)
          have HE : Hid (¬ d = root) := he
          clear he
          go_wp2_with fail
          go_ret
          exact ⟨ret_bool (by rw [HC.out, decide_eq_false HE.out]), hB4'⟩
    · have h2 := fun wx => s_inI I 0 ((n : Int) - 1) wx
      rw [decide_eq_false hI] at h2
      have H1 := Hid.mk' h1
      have H2 := Hid.mk' h2
      have HC : Hid (checkPathI p I (n : Int) P root = false) := by show _ = _; unfold checkPathI; rw [decide_eq_false hI]; simp
      have hn60 : n ≤ 60 := by omega
      clear h1 h2 hN hI
      go_enter Tryz.func108, Tryz.ntmps108
      go_wp2_with fail
      rw [← hw0]
      clear hw0
      refine (H1.out _).mono ?_
      rintro e w1 ⟨rfl, hw1⟩
      subst hw1
      go_wp2_with fail
      refine (H2.out _).mono ?_
      rintro e w1 ⟨rfl, hw1⟩
      subst hw1
      go_wp2_with fail
      go_ret
      exact ⟨ret_bool (by rw [HC.out]), hba⟩
  · have h1 := fun wx => s_inI N 1 60 wx
    rw [decide_eq_false hN] at h1
    have H1 := Hid.mk' h1
    have HC : Hid (checkPathI p I N P root = false) := by show _ = _; unfold checkPathI; rw [decide_eq_false hN]; simp
    clear h1 hN
    go_enter Tryz.func108, Tryz.ntmps108
    go_wp2_with fail
    rw [← hw0]
    clear hw0
    refine (H1.out _).mono ?_
    rintro e w1 ⟨rfl, hw1⟩
    subst hw1
    go_wp2_with fail
    go_ret
    exact ⟨ret_bool (by rw [HC.out]), hba⟩

end Go.Proofs.YteammdkipnfmnaaGreatDoor.tree

namespace Go.Proofs.YteammdkipnfmnaaGreatDoor.pairs
open Go Go.RowKit Go.Proofs.YteammdkipnfmnaaGreatDoor.base
set_option linter.unusedVariables false
set_option linter.unusedSimpArgs false

theorem bcell {W w1 : World} (hb : Below W.heap.size W w1) : (∀ b o, b < W.heap.size → w1.cell? ⟨b, o, none⟩ = W.cell? ⟨b, o, none⟩) :=
  fun b o h => hb.cell (p := ⟨b, o, none⟩) h
set_option maxHeartbeats 400000 in
theorem s_in (x a b : Int) (w : World) (hx : -1000 ≤ x ∧ x ≤ 1099511627776) (ha : 0 ≤ a ∧ a ≤ 1000) (hb : 0 ≤ b ∧ b ≤ 1000) :
    Calls Tryz.prog 30 #[.int .i64 x, .int .i64 a, .int .i64 b] w fun e w' => e = .returned (.bool (decide (a ≤ x ∧ x ≤ b))) ∧ w' = w := by
  by_cases h1 : a ≤ x
  · by_cases h2 : x ≤ b
    · go_enter Tryz.func30, Tryz.ntmps30
      go_wp2
      go_ret
      exact ⟨ret_bool (by simp [h1, h2]), rfl⟩
    · go_enter Tryz.func30, Tryz.ntmps30
      go_wp2
      go_ret
      exact ⟨ret_bool (by simp [h1, h2]), rfl⟩
  · go_enter Tryz.func30, Tryz.ntmps30
    go_wp2
    go_ret
    exact ⟨ret_bool (by have h3 : ¬ a ≤ x := by omega
                        simp [h3]), rfl⟩

theorem keyAll_drop (s : ByteArray) (k : Nat) (h : k < s.size) : keyAll (s.data.toList.drop k) = (keyCh s[k].toNat && keyAll (s.data.toList.drop (k + 1))) := by
  rw [List.drop_eq_getElem_cons (by simpa using h)]; rfl

set_option maxRecDepth 100000 in
set_option maxHeartbeats 1000000 in
theorem spec_keyOk (s : ByteArray) (w : World) (hs : s.size ≤ 1099511627776) :
    Calls Tryz.prog 127 #[.string s] w fun e w' => e = .returned (.bool (keyOk s)) ∧ w' = w := by
  generalize hR : keyAll s.data.toList = R
  have HR := Hid.mk' hR
  clear hR
  go_enter Tryz.func127, Tryz.ntmps127
  go_wp2
  go_loop [3] (fun i => ∃ k : Nat, k ≤ s.size ∧ i = .int .i64 (k : Int) ∧ keyAll (s.data.toList.drop k) = R) (fun i => s.size - (intOf i).toNat)
  case atStart => exact ⟨0, Nat.zero_le _, rfl, HR.out⟩
  case round =>
    obtain ⟨k, hk, rfl, hr⟩ := hrel
    by_cases hlt : k < s.size
    · have hst := keyAll_drop s k hlt
      rw [hr] at hst
      have hc := s[k].toNat_lt
      generalize hC : s[k].toNat = c at *
      have HST := Hid.mk' hst
      have HC := Hid.mk' hC
      clear hst hr
      have hki : (k : Int) < (s.size : Int) := by omega
      by_cases h1 : 97 ≤ c ∧ c ≤ 122
      · have HF : Hid (keyAll (s.data.toList.drop (k + 1)) = R) := by
          show _ = _
          have := HST.out; rw [show keyCh c = true by simp [keyCh, h1]] at this; simpa using this.symm
        have hl := s_in (c : Int) 97 122 w (by omega) (by omega) (by omega)
        rw [decide_eq_true (by omega)] at hl
        have HL := Hid.mk' hl
        clear hl HST
        go_wp2_with fail
        refine HL.out.mono ?_
        rintro e w1 ⟨rfl, rfl⟩
        go_wp2_with fail
        go_round
        case rel => exact ⟨k + 1, by omega, by go_num, HF.out⟩
        case measure => simp [intOf]; omega
      · have hl := s_in (c : Int) 97 122 w (by omega) (by omega) (by omega)
        rw [decide_eq_false (by omega)] at hl
        have HL := Hid.mk' hl
        clear hl
        by_cases h2 : 48 ≤ c ∧ c ≤ 57
        · have HF : Hid (keyAll (s.data.toList.drop (k + 1)) = R) := by
            show _ = _
            have := HST.out; rw [show keyCh c = true by simp [keyCh, h2]] at this; simpa using this.symm
          have hl := s_in (c : Int) 48 57 w (by omega) (by omega) (by omega)
          rw [decide_eq_true (by omega)] at hl
          have HL2 := Hid.mk' hl
          clear hl HST
          go_wp2_with fail
          refine HL.out.mono ?_
          rintro e w1 ⟨rfl, rfl⟩
          go_wp2_with fail
          refine HL2.out.mono ?_
          rintro e w1 ⟨rfl, rfl⟩
          go_wp2_with fail
          go_round
          case rel => exact ⟨k + 1, by omega, by go_num, HF.out⟩
          case measure => simp [intOf]; omega
        · have HF : Hid (R = false) := by
            show _ = _
            have := HST.out; rw [show keyCh c = false by simp only [keyCh, h1, h2]; rfl] at this; simpa using this
          have hl := s_in (c : Int) 48 57 w (by omega) (by omega) (by omega)
          rw [decide_eq_false (by omega)] at hl
          have HL2 := Hid.mk' hl
          clear hl HST
          go_wp2_with fail
          refine HL.out.mono ?_
          rintro e w1 ⟨rfl, rfl⟩
          go_wp2_with fail
          refine HL2.out.mono ?_
          rintro e w1 ⟨rfl, rfl⟩
          go_wp2_with fail
          go_ret
          exact ⟨ret_bool (by unfold keyOk; rw [HR.out, HF.out]; rfl), rfl⟩
    · have HF : Hid (R = true) := by show _ = _; rw [← hr, List.drop_eq_nil_of_le (by simp; omega)]; rfl
      have hl := s_in (s.size : Int) 1 12 w (by omega) (by omega) (by omega)
      rw [show decide ((1 : Int) ≤ (s.size : Int) ∧ (s.size : Int) ≤ 12) = decide (1 ≤ s.size ∧ s.size ≤ 12) by rw [decide_eq_decide]; omega] at hl
      have HL := Hid.mk' hl
      clear hl hr
      go_wp2_with fail
      refine HL.out.mono ?_
      rintro e w1 ⟨rfl, rfl⟩
      go_wp2_with fail
      go_ret
      exact ⟨ret_bool (by unfold keyOk; rw [HR.out, HF.out]; simp), rfl⟩

set_option maxHeartbeats 400000 in
theorem spec_pairOk (p : Pr) (w : World) (hp : small p) (hs : p.1.size ≤ 1099511627776) :
    Calls Tryz.prog 107 #[.agg #[.string p.1, .string p.2]] w fun e w' => e = .returned (.bool (pairOk p)) ∧ Below w.heap.size w w' := by
  have h2 := hp.2
  unfold maxLen at h2
  have hba : Below w.heap.size w (w.alloc (.cells #[.string p.1, .string p.2] 34)) := (Below.refl _ _).alloc (Nat.le_refl _) _
  have hk := spec_keyOk p.1 (w.alloc (.cells #[.string p.1, .string p.2] 34)) hs
  cases hK : keyOk p.1
  · rw [hK] at hk
    have HK := Hid.mk' hk
    have H1 := Hid.mk' hK
    clear hk hK
    go_enter Tryz.func107, Tryz.ntmps107
    go_wp2_with fail
    refine HK.out.mono ?_
    rintro e w1 ⟨rfl, rfl⟩
    go_wp2_with fail
    go_ret
    exact ⟨ret_bool (by unfold pairOk; rw [H1.out]; rfl), hba⟩
  · rw [hK] at hk
    have HK := Hid.mk' hk
    have H1 := Hid.mk' hK
    clear hk hK
    go_enter Tryz.func107, Tryz.ntmps107
    go_wp2_with fail
    refine HK.out.mono ?_
    rintro e w1 ⟨rfl, rfl⟩
    go_wp2_with fail
    go_ret
    exact ⟨ret_bool (by unfold pairOk; rw [H1.out]; simp; omega), hba⟩

theorem str_ne {a b : ByteArray} (h : a ≠ b) : (a.toList == b.toList) = false := by
  rw [beq_eq_false_iff_ne]; intro e; rw [ByteArray.toList_eq, ByteArray.toList_eq] at e; exact h (bytes_ext e)


set_option maxHeartbeats 1000000 in
theorem spec_l3In (key lo hi : ByteArray) (w : World) :
    Calls Tryz.prog 70 #[.string key, .string lo, .string hi] w fun e w' => e = .returned (.bool (inB lo hi key)) ∧ w' = w := by
  have hz : hi.size = 0 ↔ hi = ⟨#[]⟩ := by
    constructor
    · intro h; apply bytes_ext; exact List.eq_nil_of_length_eq_zero (by rw [Array.length_toList]; exact h)
    · rintro rfl; rfl
  cases h1 : Op.bytesLess key.toList lo.toList
  · have H1 : Hid (ltB key lo = false) := h1
    by_cases h2 : hi = ⟨#[]⟩
    · have H2 : Hid (hi.size = 0) := hz.2 h2
      subst h2
      go_enter Tryz.func70, Tryz.ntmps70
      go_wp2
      go_ret
      exact ⟨ret_bool (by unfold inB; rw [H1.out]; rfl), rfl⟩
    · have H2 : Hid (¬ hi.size = 0) := fun e => h2 (hz.1 e)
      have hq : ¬ hi.toList = [] := fun e => h2 (bytes_ext (by rw [← ByteArray.toList_eq]; exact e))
      have hq2 : hi.toList.isEmpty = false := by rw [Bool.eq_false_iff]; intro e; exact hq (List.isEmpty_iff.1 e)
      cases h3 : Op.bytesLess key.toList hi.toList
      all_goals
        have H3 : Hid (ltB key hi = _) := h3
        clear hz h2
        go_enter Tryz.func70, Tryz.ntmps70
        go_wp2
        go_ret
        exact ⟨ret_bool (by unfold inB; rw [H1.out, H3.out, decide_eq_false H2.out]; rfl), rfl⟩
  · have H1 : Hid (ltB key lo = true) := h1
    clear hz
    go_enter Tryz.func70, Tryz.ntmps70
    go_wp2
    go_ret
    exact ⟨ret_bool (by unfold inB; rw [H1.out]; rfl), rfl⟩

end Go.Proofs.YteammdkipnfmnaaGreatDoor.pairs

namespace Go.Proofs.YteammdkipnfmnaaGreatDoor.pairs
open Go Go.RowKit Go.Proofs.YteammdkipnfmnaaGreatDoor.base
set_option linter.unusedVariables false
set_option linter.unusedSimpArgs false

theorem take_snocP (l : List Pr) (k : Nat) (h : k < l.length) : l.take (k + 1) = l.take k ++ [l[k]] := List.take_succ_eq_append_getElem h
theorem filter_snoc (f : Pr → Bool) (l : List Pr) (k : Nat) (h : k < l.length) : (l.take (k + 1)).filter f = (l.take k).filter f ++ if f l[k] then [l[k]] else [] := by
  rw [take_snocP l k h, List.filter_append]
  cases hf : f l[k] <;> simp [List.filter_cons, hf]
theorem take_small {l : List Pr} (h : ∀ p ∈ l, small p) (k : Nat) : ∀ p ∈ l.take k, small p := fun p hp => h p (List.mem_of_mem_take hp)
theorem one_pair_cells (w : World) (p : Pr) (t : TypeId) : ∀ j u, (pairVals [p])[j]? = some u → (w.alloc (.cells #[.string p.1, .string p.2] t)).cell? ((⟨w.heap.size, 0, none⟩ : Addr).add j) = some u :=
  cells_two w (.string p.1) (.string p.2) t
theorem ownP_app {w' : World} {base n : Nat} {v' : Value} {l : List Pr} {p : Pr} (hl : l.length = n) (hs : ∀ q ∈ l, small q) (hp : small p) (h0 : ¬ v' = .slice none 0 0)
    (h : w'.ownsRow base 34 2 v' (n + 1) (pairVals l ++ pairVals [p])) : ∃ g' cap', v' = .slice (some ⟨g', 0, none⟩) (n + 1) cap' ∧ OwnP w' base g' (n + 1) cap' (l ++ [p]) := by
  rw [← pairVals_append] at h
  refine ownP_val (by simp; omega) ?_ h0 h
  intro q hq
  rcases List.mem_append.1 hq with h1 | h1
  · exact hs q h1
  · simp at h1; subst h1; exact hp



end Go.Proofs.YteammdkipnfmnaaGreatDoor.pairs

namespace Go.Proofs.YteammdkipnfmnaaGreatDoor.pairs
open Go Go.RowKit Go.Proofs.YteammdkipnfmnaaGreatDoor.base
set_option linter.unusedVariables false
set_option linter.unusedSimpArgs false

theorem getKey_none {key : ByteArray} {l : List Pr} (h : getKey key l = none) (k : Nat) (hk : k < l.length) : l[k].1 ≠ key := by
  intro e
  have h2 := getKey_append key (l.take k) (l.drop k)
  rw [List.take_append_drop, h, getKey_drop key l k hk, if_pos e] at h2
  cases h3 : getKey key (l.take k) <;> rw [h3] at h2 <;> cases h2
theorem put_found {key val : ByteArray} {l : List Pr} (k : Nat) (hk : k < l.length) (he : l[k].1 = key) (hn : getKey key (l.take k) = none) : putKey key val l = l.set k (l[k].1, val) := by
  have h2 := getKey_append key (l.take k) (l.drop k)
  rw [List.take_append_drop, hn, getKey_drop key l k hk, if_pos he] at h2
  unfold putKey
  rw [h2, if_pos (by rfl), setFirst_at key val l k hk he hn, he]
theorem put_new {key val : ByteArray} {l : List Pr} (hn : getKey key l = none) : putKey key val l = l.take (below key l) ++ (key, val) :: l.drop (below key l) := by
  unfold putKey; rw [hn]; rfl
theorem take_none (key : ByteArray) (l : List Pr) (k : Nat) (hk : k < l.length) (hn : getKey key (l.take k) = none) (he : l[k].1 ≠ key) : getKey key (l.take (k + 1)) = none := by
  rw [take_snocP l k hk]; exact getKey_snoc_none key _ _ hn he
theorem less_flip {a b : ByteArray} (h : a ≠ b) : Op.bytesLess a.toList b.toList = !Op.bytesLess b.toList a.toList := by
  cases h1 : Op.bytesLess b.toList a.toList
  · cases h2 : Op.bytesLess a.toList b.toList
    · exact absurd (ltB_total (a := a) (b := b) h2 h1) h
    · rfl
  · exact ltB_asymm (a := b) (b := a) h1
theorem cellsP_drop {w : World} {b off : Nat} {l : List Pr} (h : CellsP w b off l) (k : Nat) : CellsP w b (off + k * 2) (l.drop k) := by
  intro i hi
  have hki : k + i < l.length := by simp at hi; omega
  have := h (k + i) hki
  rw [List.getElem_drop, show off + k * 2 + i * 2 = off + (k + i) * 2 by omega]
  exact this
theorem cellsP_take {w : World} {b off : Nat} {l : List Pr} (h : CellsP w b off l) (k : Nat) : CellsP w b off (l.take k) := by
  intro i hi
  rw [List.getElem_take]
  exact h i (by simp at hi; omega)

set_option maxRecDepth 100000 in
set_option maxHeartbeats 2000000 in
theorem spec_putKey (b off len cap : Nat) (l : List Pr) (key val : ByteArray) (w : World) (h : SlP w (some ⟨b, off, none⟩) len l) (hcap : len ≤ cap) (hsz : len ≤ 1099511627776) (hks : key.size ≤ maxLen) (hvs : val.size ≤ maxLen) :
    Calls Tryz.prog 72 #[.slice (some ⟨b, off, none⟩) len cap, .string key, .string val] w fun e w' =>
      ∃ g' n' cap', e = .returned (.slice (some ⟨g', 0, none⟩) n' cap') ∧ OwnP w' w.heap.size g' n' cap' (putKey key val l) ∧ Below w.heap.size w w' := by
  obtain ⟨i0, hif, hz0, hz1, hz2⟩ := info_parts infoP
  have hl := h.1
  have hsm := h.2.2.1
  subst hl
  have hba : Below w.heap.size w (w.alloc (.cells #[] 34)) := (Below.refl _ _).alloc (Nat.le_refl _) _
  have HC := Hid.mk' (cells_pairs (h.below hba).cells)
  have hn0 := pairVals_length l
  have hm1 : 0 + l.length ≤ maxLen := by unfold maxLen; omega
  have hm2 : (0 + l.length) * 32 ≤ 140737488355328 := by omega
  have hown0 := (ownP_made w w.heap.size (Nat.le_refl _)).2.2
  go_enter Tryz.func72, Tryz.ntmps72
  go_wp2_with (at_builtin; refine wpList_append_own _ rfl (.tmp 10) (.tmp 11) 30 rfl w.heap.size 34 i0 (.agg #[.string ⟨#[]⟩, .string ⟨#[]⟩]) 2 32 Tryz.underlying30 hif hz0 hz1 hz2 rfl (by decide) _ _ _ rfl hown0 ⟨b, off, none⟩ l.length cap (pairVals l) rfl hn0 HC.out (pairVals_oneCell _) hm1 hm2 (le_alloc _ _ (Nat.le_refl _)) ?_)
  intro v1 w1 hown hgrow hnn
  have hnn' : ¬ v1 = .slice none 0 0 := by simpa using hnn
  obtain ⟨g1, cap1, hv, hO1⟩ := ownP_val rfl hsm hnn' (by simpa [pairVals] using hown)
  subst hv
  have hB1 : Below w.heap.size w w1 := hba.grown hgrow (le_alloc _ _ (Nat.le_refl _)) (fun k e => by simp [Value.ownBlock] at e; omega)
  clear hown hgrow hnn hnn' hown0 HC hn0 hm1 hm2 hba
  go_wp2_with (at_builtin; fail)
  go_loop [8] (fun i => ∃ k : Nat, k ≤ l.length ∧ i = .int .i64 (k : Int) ∧ getKey key (l.take k) = none) (fun i => l.length - (intOf i).toNat)
  case atStart => exact ⟨0, Nat.zero_le _, rfl, rfl⟩
  case round =>
    obtain ⟨k, hk, rfl, hno⟩ := hrel
    by_cases hlt : k < l.length
    · have c1 := hO1.key k hlt
      have c2 := hO1.val k hlt
      have hki : (k : Int) < (l.length : Int) := by omega
      by_cases he : l[k].1 = key
      · have HF : Hid (putKey key val l = l.set k (l[k].1, val)) := put_found k hlt he hno
        have hfz := hO1.frozen (k * 2 + 1)
        have hR := hO1.setVal k hlt val hvs
        rw [← HF.out] at hR
        have HR := Hid.mk' hR
        rw [he] at c1
        clear hno hR
        go_wp2_with (at_builtin; fail)
        go_ret
        exact ⟨_, _, _, rfl, HR.out.1, hB1.trans (below_grown HR.out.2 hO1.lt.1 hB1.size)⟩
      · have HF : Hid (getKey key (l.take (k + 1)) = none) := take_none key l k hlt hno he
        have hq := str_ne he
        clear hno he
        go_wp2_with (at_builtin; fail)
        go_round
        case rel => exact ⟨k + 1, by omega, by go_num, HF.out⟩
        case measure => simp [intOf]; omega
    · have hnone : getKey key l = none := by rw [List.take_of_length_le (by omega)] at hno; exact hno
      have HP := Hid.mk' (put_new (val := val) hnone)
      have hne := getKey_none hnone
      have hSl := h.below hB1
      obtain ⟨B, hBe⟩ : ∃ B, below key l = B := ⟨_, rfl⟩
      have hBl : B ≤ l.length := by rw [← hBe]; exact below_le key l
      rw [hBe] at HP
      have HB := Hid.mk' hBe
      clear hno hnone hBe
      go_wp2_with (at_builtin; fail)
      go_loop [9] (fun i => ∃ k : Nat, k ≤ l.length ∧ i = .int .i64 (k : Int) ∧ below key (l.drop k) + k = B) (fun i => l.length - (intOf i).toNat)
      case atStart => exact ⟨0, Nat.zero_le _, rfl, HB.out⟩
      case round =>
        obtain ⟨k, hk2, rfl, hr⟩ := hrel
        by_cases hlt2 : k < l.length ∧ Op.bytesLess key.toList (l[k]!).1.toList = false
        · obtain ⟨hlt2, hb⟩ := hlt2
          rw [getElem!_pos l k hlt2] at hb
          have c1 := (hSl.cells k hlt2).1
          have hst := below_drop key l k hlt2
          rw [if_neg (by show ¬ Op.bytesLess _ _ = true; rw [hb]; simp)] at hst
          have HF : Hid (below key (l.drop (k + 1)) + (k + 1) = B) := by show _ = _; omega
          have hq := str_ne (hne k hlt2)
          have hlf := less_flip (hne k hlt2)
          rw [hb] at hlf
          have hki : (k : Int) < (l.length : Int) := by omega
          generalize l[k].1 = kk at *
          clear hr hst hb hne
          go_wp2_with (at_builtin; fail)
          go_round
          case rel => exact ⟨k + 1, by omega, by go_num, HF.out⟩
          case measure => simp [intOf]; omega
        · have HE : Hid (k = B) := by
            show k = B
            by_cases h3 : k < l.length
            · have hst := below_drop key l k h3
              have : Op.bytesLess key.toList l[k].1.toList = true := by
                cases h4 : Op.bytesLess key.toList l[k].1.toList
                · exact absurd ⟨h3, by rw [getElem!_pos l k h3]; exact h4⟩ hlt2
                · rfl
              rw [if_pos (show ltB key l[k].1 = true from this)] at hst
              omega
            · rw [List.drop_eq_nil_of_le (by omega)] at hr
              have : below key [] = 0 := rfl
              omega
          have hcond : k < l.length → ∃ kk, w1.cell? ⟨b, off + k * 2, none⟩ = some (.string kk) ∧ Op.bytesLess kk.toList key.toList = false ∧ (kk.toList == key.toList) = false := by
            intro h3
            refine ⟨l[k].1, (hSl.cells k h3).1, ?_, str_ne (hne k h3)⟩
            rw [less_flip (hne k h3)]
            cases h4 : Op.bytesLess key.toList l[k].1.toList
            · exact absurd ⟨h3, by rw [getElem!_pos l k h3]; exact h4⟩ hlt2
            · rfl
          clear hr hlt2 hne
          by_cases h3 : k < l.length
          · obtain ⟨kk, c1, q1, q2⟩ := hcond h3
            have hki : (k : Int) < (l.length : Int) := by omega
            clear hcond
            have hba2 : Below w1.heap.size w1 (w1.alloc (.cells #[] 34)) := (Below.refl _ _).alloc (Nat.le_refl _) _
            have HC2 := Hid.mk' (cells_pairs (cellsP_take (hSl.below hba2).cells k))
            have hn2 : (pairVals (l.take k)).length = k * 2 := by rw [pairVals_length, List.length_take_of_le hk2]
            have hm3 : 0 + k ≤ maxLen := by unfold maxLen; omega
            have hm4 : (0 + k) * 32 ≤ 140737488355328 := by omega
            have hm5 : k + 1 ≤ maxLen := by unfold maxLen; omega
            have hm6 : (k + 1) * 32 ≤ 140737488355328 := by omega
            have hown2 := (ownP_made w1 w.heap.size hB1.size).2.2
            have hbw1 : w.heap.size ≤ w1.heap.size := hB1.size
            have hkc : (k : Int) ≤ (cap : Int) := by omega
            have hkl : (k : Int) ≤ (l.length : Int) := by omega
            go_wp2_with (at_builtin; refine wpList_append_own _ rfl (.tmp 47) (.tmp 50) 30 rfl w.heap.size 34 i0 (.agg #[.string ⟨#[]⟩, .string ⟨#[]⟩]) 2 32 Tryz.underlying30 hif hz0 hz1 hz2 rfl (by decide) _ _ _ rfl hown2 ⟨b, off, none⟩ k cap (pairVals (l.take k)) rfl hn2 HC2.out (pairVals_oneCell _) hm3 hm4 (le_alloc _ _ hbw1) ?_)
            intro v2 w2 hown hgrow hnn
            have hnn' : ¬ v2 = .slice none 0 0 := by simpa using hnn
            obtain ⟨g2, cap2, hv, hO2⟩ := ownP_val (l := l.take k) (n := k) (List.length_take_of_le hk2) (take_small hsm k) hnn' (by simpa [pairVals] using hown)
            subst hv
            have hBx : Below w.heap.size w1 (w1.alloc (.cells #[] 34)) := (Below.refl _ _).alloc hbw1 _
            have hB2 : Below w.heap.size w1 w2 := hBx.grown hgrow (le_alloc _ _ hbw1) (fun k e => by simp [Value.ownBlock] at e; omega)
            have hB2' : Below w.heap.size w w2 := hB1.trans hB2
            have hbw2 : w.heap.size ≤ w2.heap.size := hB2'.size
            clear hown hgrow hnn hnn' hown2 HC2 hn2 hm3 hm4 hba2 hBx hB2
            go_wp2_with (at_builtin; refine wpList_append_own _ rfl (.tmp 51) (.tmp 55) 30 rfl w.heap.size 34 i0 (.agg #[.string ⟨#[]⟩, .string ⟨#[]⟩]) 2 32 Tryz.underlying30 hif hz0 hz1 hz2 rfl (by decide) _ _ _ rfl (hO2.2.2.alloc _) ⟨w2.heap.size, 0, none⟩ 1 1 (pairVals [(key, val)]) rfl rfl (one_pair_cells _ (key, val) _) (pairVals_oneCell _) hm5 hm6 (le_alloc _ _ hbw2) ?_)
            intro v3 w3 hown hgrow hnn
            obtain ⟨g3, cap3, hv, hO3⟩ := ownP_app hO2.1 hO2.2.1 ⟨hks, hvs⟩ hnn hown
            subst hv
            have hB3 : Below w.heap.size w w3 := (hB2'.alloc hbw2 _).grown hgrow (le_alloc _ _ hbw2) (fun k e => by simp [Value.ownBlock] at e; have := hO2.lt; omega)
            have hbw3 : w.heap.size ≤ w3.heap.size := hB3.size
            have hSl3 := h.below hB3
            have hm7 : k + 1 + (l.length - k) ≤ maxLen := by unfold maxLen; omega
            have hm8 : (k + 1 + (l.length - k)) * 32 ≤ 140737488355328 := by omega
            have hn4 : (pairVals (l.drop k)).length = (l.length - k) * 2 := by rw [pairVals_length, List.length_drop]
            clear hown hgrow hnn hO2 hB2' hm5 hm6
            have hck : ¬ cap = k := by omega
            have HC4 := Hid.mk' (cells_pairs (cellsP_drop hSl3.cells k))
            go_wp2_with (at_builtin; refine wpList_append_own _ rfl (.tmp 57) (.tmp 60) 30 rfl w.heap.size 34 i0 (.agg #[.string ⟨#[]⟩, .string ⟨#[]⟩]) 2 32 Tryz.underlying30 hif hz0 hz1 hz2 rfl (by decide) _ _ _ rfl hO3.2.2 ⟨b, off + k * 2, none⟩ (l.length - k) (cap - k) (pairVals (l.drop k)) rfl hn4 HC4.out (pairVals_oneCell _) hm7 hm8 hbw3 ?_)
            intro v4 w4 hown hgrow hnn
            have hnn' : ¬ v4 = .slice none 0 0 := by simpa using hnn
            rw [← pairVals_append] at hown
            obtain ⟨g4, cap4, hv, hO4⟩ := ownP_val (n := k + 1 + (l.length - k)) (by simp; omega) (fun q hq => by
              rcases List.mem_append.1 hq with h1 | h1
              · exact hO3.2.1 q h1
              · exact hsm q (List.mem_of_mem_drop h1)) hnn' hown
            subst hv
            have hB4 : Below w.heap.size w w4 := hB3.grown hgrow hbw3 (fun k e => by simp [Value.ownBlock] at e; have := hO3.lt; omega)
            have HO4 := Hid.mk' hO4
            clear hown hgrow hnn hnn' hO4
            go_wp2_with (at_builtin; fail)
            go_ret
            refine ⟨g4, _, cap4, rfl, ?_, hB4⟩
            rw [HP.out, ← HE.out]
            have := HO4.out
            rw [List.append_assoc] at this
            exact this
          · clear hcond
            have hkl' : l.length = k := by omega
            have HDR : Hid (l.drop k = []) := List.drop_eq_nil_of_le (by omega)
            have hba2 : Below w1.heap.size w1 (w1.alloc (.cells #[] 34)) := (Below.refl _ _).alloc (Nat.le_refl _) _
            have HC2 := Hid.mk' (cells_pairs (cellsP_take (hSl.below hba2).cells k))
            have hn2 : (pairVals (l.take k)).length = k * 2 := by rw [pairVals_length, List.length_take_of_le hk2]
            have hm3 : 0 + k ≤ maxLen := by unfold maxLen; omega
            have hm4 : (0 + k) * 32 ≤ 140737488355328 := by omega
            have hm5 : k + 1 ≤ maxLen := by unfold maxLen; omega
            have hm6 : (k + 1) * 32 ≤ 140737488355328 := by omega
            have hown2 := (ownP_made w1 w.heap.size hB1.size).2.2
            have hbw1 : w.heap.size ≤ w1.heap.size := hB1.size
            have hkc : (k : Int) ≤ (cap : Int) := by omega
            have hkl : (k : Int) ≤ (l.length : Int) := by omega
            clear hkl'
            go_wp2_with (at_builtin; refine wpList_append_own _ rfl (.tmp 47) (.tmp 50) 30 rfl w.heap.size 34 i0 (.agg #[.string ⟨#[]⟩, .string ⟨#[]⟩]) 2 32 Tryz.underlying30 hif hz0 hz1 hz2 rfl (by decide) _ _ _ rfl hown2 ⟨b, off, none⟩ k cap (pairVals (l.take k)) rfl hn2 HC2.out (pairVals_oneCell _) hm3 hm4 (le_alloc _ _ hbw1) ?_)
            intro v2 w2 hown hgrow hnn
            have hnn' : ¬ v2 = .slice none 0 0 := by simpa using hnn
            obtain ⟨g2, cap2, hv, hO2⟩ := ownP_val (l := l.take k) (n := k) (List.length_take_of_le hk2) (take_small hsm k) hnn' (by simpa [pairVals] using hown)
            subst hv
            have hBx : Below w.heap.size w1 (w1.alloc (.cells #[] 34)) := (Below.refl _ _).alloc hbw1 _
            have hB2 : Below w.heap.size w1 w2 := hBx.grown hgrow (le_alloc _ _ hbw1) (fun k e => by simp [Value.ownBlock] at e; omega)
            have hB2' : Below w.heap.size w w2 := hB1.trans hB2
            have hbw2 : w.heap.size ≤ w2.heap.size := hB2'.size
            clear hown hgrow hnn hnn' hown2 HC2 hn2 hm3 hm4 hba2 hBx hB2
            go_wp2_with (at_builtin; refine wpList_append_own _ rfl (.tmp 51) (.tmp 55) 30 rfl w.heap.size 34 i0 (.agg #[.string ⟨#[]⟩, .string ⟨#[]⟩]) 2 32 Tryz.underlying30 hif hz0 hz1 hz2 rfl (by decide) _ _ _ rfl (hO2.2.2.alloc _) ⟨w2.heap.size, 0, none⟩ 1 1 (pairVals [(key, val)]) rfl rfl (one_pair_cells _ (key, val) _) (pairVals_oneCell _) hm5 hm6 (le_alloc _ _ hbw2) ?_)
            intro v3 w3 hown hgrow hnn
            obtain ⟨g3, cap3, hv, hO3⟩ := ownP_app hO2.1 hO2.2.1 ⟨hks, hvs⟩ hnn hown
            subst hv
            have hB3 : Below w.heap.size w w3 := (hB2'.alloc hbw2 _).grown hgrow (le_alloc _ _ hbw2) (fun k e => by simp [Value.ownBlock] at e; have := hO2.lt; omega)
            have hbw3 : w.heap.size ≤ w3.heap.size := hB3.size
            have hSl3 := h.below hB3
            have hm7 : k + 1 + (l.length - k) ≤ maxLen := by unfold maxLen; omega
            have hm8 : (k + 1 + (l.length - k)) * 32 ≤ 140737488355328 := by omega
            have hn4 : (pairVals (l.drop k)).length = (l.length - k) * 2 := by rw [pairVals_length, List.length_drop]
            clear hown hgrow hnn hO2 hB2' hm5 hm6
            by_cases hck : cap = k
            · have HC4 : Hid (∀ j v, (pairVals (l.drop k))[j]? = some v → w3.cell? ((⟨b, off, none⟩ : Addr).add j) = some v) := by
                show ∀ j v, _ → _
                intro j v hj
                rw [HDR.out] at hj
                simp [pairVals] at hj
              go_wp2_with (at_builtin; refine wpList_append_own _ rfl (.tmp 57) (.tmp 60) 30 rfl w.heap.size 34 i0 (.agg #[.string ⟨#[]⟩, .string ⟨#[]⟩]) 2 32 Tryz.underlying30 hif hz0 hz1 hz2 rfl (by decide) _ _ _ rfl hO3.2.2 ⟨b, off, none⟩ (l.length - k) _ (pairVals (l.drop k)) rfl hn4 HC4.out (pairVals_oneCell _) hm7 hm8 hbw3 ?_)
              intro v4 w4 hown hgrow hnn
              have hnn' : ¬ v4 = .slice none 0 0 := by simpa using hnn
              rw [← pairVals_append] at hown
              obtain ⟨g4, cap4, hv, hO4⟩ := ownP_val (n := k + 1 + (l.length - k)) (by simp; omega) (fun q hq => by
                rcases List.mem_append.1 hq with h1 | h1
                · exact hO3.2.1 q h1
                · exact hsm q (List.mem_of_mem_drop h1)) hnn' hown
              subst hv
              have hB4 : Below w.heap.size w w4 := hB3.grown hgrow hbw3 (fun k e => by simp [Value.ownBlock] at e; have := hO3.lt; omega)
              have HO4 := Hid.mk' hO4
              clear hown hgrow hnn hnn' hO4
              go_wp2_with (at_builtin; fail)
              go_ret
              refine ⟨g4, _, cap4, rfl, ?_, hB4⟩
              rw [HP.out, ← HE.out]
              have := HO4.out
              rw [List.append_assoc] at this
              exact this
            · have HC4 : Hid (∀ j v, (pairVals (l.drop k))[j]? = some v → w3.cell? ((⟨b, off + k * 2, none⟩ : Addr).add j) = some v) := by
                show ∀ j v, _ → _
                intro j v hj
                rw [HDR.out] at hj
                simp [pairVals] at hj
              go_wp2_with (at_builtin; refine wpList_append_own _ rfl (.tmp 57) (.tmp 60) 30 rfl w.heap.size 34 i0 (.agg #[.string ⟨#[]⟩, .string ⟨#[]⟩]) 2 32 Tryz.underlying30 hif hz0 hz1 hz2 rfl (by decide) _ _ _ rfl hO3.2.2 ⟨b, off + k * 2, none⟩ (l.length - k) _ (pairVals (l.drop k)) rfl hn4 HC4.out (pairVals_oneCell _) hm7 hm8 hbw3 ?_)
              intro v4 w4 hown hgrow hnn
              have hnn' : ¬ v4 = .slice none 0 0 := by simpa using hnn
              rw [← pairVals_append] at hown
              obtain ⟨g4, cap4, hv, hO4⟩ := ownP_val (n := k + 1 + (l.length - k)) (by simp; omega) (fun q hq => by
                rcases List.mem_append.1 hq with h1 | h1
                · exact hO3.2.1 q h1
                · exact hsm q (List.mem_of_mem_drop h1)) hnn' hown
              subst hv
              have hB4 : Below w.heap.size w w4 := hB3.grown hgrow hbw3 (fun k e => by simp [Value.ownBlock] at e; have := hO3.lt; omega)
              have HO4 := Hid.mk' hO4
              clear hown hgrow hnn hnn' hO4
              go_wp2_with (at_builtin; fail)
              go_ret
              refine ⟨g4, _, cap4, rfl, ?_, hB4⟩
              rw [HP.out, ← HE.out]
              have := HO4.out
              rw [List.append_assoc] at this
              exact this

end Go.Proofs.YteammdkipnfmnaaGreatDoor.pairs
