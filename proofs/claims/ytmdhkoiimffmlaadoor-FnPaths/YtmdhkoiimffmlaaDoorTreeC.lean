/- The specification's check of a path. -/
import Derived.Test.YtmdhkoiimffmlaaDoorTreeH
namespace Go.Proofs.YtmdhkoiimffmlaaDoor.tree
open Go Go.RowKit Go.Proofs.YtmdhkoiimffmlaaDoor.base Go.Proofs.YtmdhkoiimffmlaaDoor.pairs Go.Proofs.YtmdhkoiimffmlaaDoor.puttext Go.Proofs.YtmdhkoiimffmlaaDoor.putnum
set_option linter.unusedVariables false
set_option linter.unusedSimpArgs false

/-- all that is hashed on the way from a leaf to a root -/
def allOf (leaf : List UInt8) (i n : Nat) (p : List ByteArray) : Option (List ByteArray) :=
  (hashed leaf i n p).map fun out => out ++ [⟨(topB (n : Int) (dg (out.getLastD ⟨#[]⟩).data.toList)).toArray⟩]

set_option maxRecDepth 100000 in
set_option maxHeartbeats 2000000 in
theorem spec_l4All (leaf : List UInt8) (lbase lg ln lcap i n pb po pcap : Nat) (P : List ByteArray) (w : World) (h60 : n ≤ 60) (hL : Own w lbase lg ln lcap leaf) (hleaf : leaf.length ≤ 137438953472) (hP : SlS w (some ⟨pb, po, none⟩) P.length P) (hPs : ∀ s ∈ P, s.size ≤ 137438953472) (hpc : P.length ≤ pcap) (hin : i < n) :
    Calls Tryd.prog 64 #[.slice (some ⟨lg, 0, none⟩) ln lcap, .int .i64 (i : Int), .int .i64 (n : Int), .slice (some ⟨pb, po, none⟩) P.length pcap] w (HPost w (allOf leaf i n P)) := by
  obtain ⟨i0, hi, hz0, hz1, hz2'⟩ := info_parts info9
  have hrec := spec_l4Hashed n leaf lbase lg ln lcap i n pb po pcap P w rfl h60 hL hleaf hP hPs hpc hin
  cases hh : hashed leaf i n P with
  | none =>
    have HN : Hid (allOf leaf i n P = none) := by show _ = _; unfold allOf; rw [hh]; rfl
    rw [hh] at hrec
    have HR := Hid.mk' hrec
    clear hrec hh hL hP hPs
    go_enter Tryd.func64, Tryd.ntmps64
    go_wp2_with (at_builtin; fail)
    refine HR.out.mono ?_
    rintro e w5 ⟨hB5, v, rfl⟩
    go_wp2_with (at_builtin; fail)
    go_ret2
    exact ⟨hB5.alloc hB5.size _, by rw [HN.out]; exact ⟨_, rfl⟩⟩
  | some out =>
    obtain ⟨out', y, rfl⟩ := snoc_of_ne (hashed_ne _ _ _ _ _ hh)
    have HN : Hid (allOf leaf i n P = some (out' ++ [y] ++ [⟨(topB (n : Int) (dg y.data.toList)).toArray⟩])) := by show _ = _; unfold allOf; rw [hh]; simp
    have hsm := hashed_small leaf i n P _ hh hleaf hPs
    have hol0 := hashed_len leaf i n P _ hh
    have hol : out'.length ≤ 100 := by simp at hol0; omega
    have hy := hsm y (by simp)
    rw [hh] at hrec
    have HR := Hid.mk' hrec
    have hds := dg_size y.data.toList
    have htl := topB_length (n : Int) (dg y.data.toList)
    clear hrec hh hsm hL hP hPs hol0
    go_enter Tryd.func64, Tryd.ntmps64
    go_wp2_with (at_builtin; fail)
    refine HR.out.mono ?_
    rintro e w5 ⟨hB5, g5, n5, cp5, rfl, hO5⟩
    have hn5 := hO5.1
    have hn5' : n5 = out'.length + 1 := by simp at hn5; omega
    subst hn5'
    have hcy := hO5.at out'.length (by simp)
    simp only [List.getElem_concat_length] at hcy
    have hconv := Lib.run_convert_string_bytes (P := Tryd.prog) w5 9 22 5 y Tryd.underlying9 Tryd.underlying22 Tryd.underlying5
    have hBb := below_bytesWorld w5 5 y
    have HD := Hid.mk' (fun c => sha.spec_digest w5.heap.size 0 y.size c y.data.toList (Lib.bytesWorld w5 5 y) (sl_bts (bts_new w5 y) (by unfold maxLen; omega)) (by omega))
    have HB5 := Hid.mk' hB5
    have HO5 := Hid.mk' hO5
    clear hB5 hO5 hn5
    go_wp2_with (at_builtin; fail)
    refine (HD.out _).mono ?_
    rintro e w6 ⟨rfl, hb6⟩
    have hB6 : Below w5.heap.size w5 w6 := hBb.trans (hb6.mono hBb.size)
    have hO6 := HO5.out.below hB6
    have hB6' := HB5.out.trans (hB6.mono HB5.out.size)
    have hdd : (⟨(sha.digest y.data.toList).toArray⟩ : ByteArray) = dg y.data.toList := rfl
    rw [hdd]
    have HL := Hid.mk' (fun wx => spec_l4Top (n : Int) (dg y.data.toList) wx (WalkArith.wf_i64 (by omega)) (by omega))
    generalize dg y.data.toList = d at *
    clear hconv hBb HD hb6 hB6 HO5 HB5 hcy
    go_wp2_with (at_builtin; fail)
    refine (HL.out _).mono ?_
    rintro e w7 ⟨g7, n7, cp7, rfl, hO7, hb7⟩
    have hcv := conv_own hO7
    have hnds : (⟨(topB (n : Int) d).toArray⟩ : ByteArray).size ≤ maxLen := by rw [arr_size]; unfold maxLen; omega
    obtain ⟨nd, hnd⟩ : ∃ nd, (⟨(topB (n : Int) d).toArray⟩ : ByteArray) = nd := ⟨_, rfl⟩
    rw [hnd] at hcv hnds HN
    clear hnd
    have hO8 := hO6.below hb7
    have hB7 := hB6'.trans (hb7.mono hB6'.size)
    have hs7 := hB7.size
    clear hO6 hB6' hb7 hO7 HL htl
    have hc3 : out'.length + 1 + 1 ≤ maxLen := by unfold maxLen; omega
    have hc4 : (out'.length + 1 + 1) * 16 ≤ 140737488355328 := by omega
    go_wp2_with (at_builtin; refine wpList_append_own _ rfl (.tmp 23) (.tmp 35) 33 rfl w.heap.size 9 i0 (.string ⟨#[]⟩) 1 16 Tryd.underlying33 hi hz0 hz1 hz2' rfl (by decide) _ _ _ rfl (hO8.2.2.alloc _) ⟨w7.heap.size, 0, none⟩ 1 1 [.string nd] rfl rfl (cell_one_new _ _ _) (str_oneCell _) hc3 hc4 (le_alloc _ _ hs7) ?_)
    intro v9 w9 hown hgrow hnn
    have hnn' : ¬ v9 = .slice none 0 0 := by simpa using hnn
    obtain ⟨g9, cap9, hv, hO9⟩ := ownS_val (ss := out' ++ [y] ++ [nd]) (n := out'.length + 1 + 1) (by simp) (fun s hs => by
      rcases List.mem_append.1 hs with h1 | h1
      · exact hO8.2.1 s h1
      · rw [List.mem_singleton.1 h1]; exact hnds) hnn' (by simpa [strVals] using hown)
    subst hv
    have hB9 : Below w.heap.size w w9 := (hB7.alloc hs7 _).grown hgrow (le_alloc _ _ hs7) (fun k e => by simp [Value.ownBlock] at e; have := hO8.lt; omega)
    have HO9 := Hid.mk' hO9
    clear hown hgrow hnn hnn' hO9 hO8 hB7
    go_wp2_with (at_builtin; fail)
    go_ret2
    exact ⟨hB9, by rw [HN.out]; exact ⟨g9, _, cap9, rfl, HO9.out⟩⟩

theorem check_none {p : Pr} {i n : Nat} {P : List ByteArray} {root : ByteArray} (h : hashed (leafB p) i n P = none) : checkPath p i n P root = false := by
  unfold checkPath leafOf; rw [climb_hashed, h]; rfl
theorem check_some {p : Pr} {i n : Nat} {P : List ByteArray} {root : ByteArray} {out : List ByteArray} {y : ByteArray} (h : hashed (leafB p) i n P = some (out ++ [y])) : checkPath p i n P root = decide (dg (topB (n : Int) (dg y.data.toList)) = root) := by
  unfold checkPath leafOf; rw [climb_hashed, h]; simp

set_option maxRecDepth 100000 in
set_option maxHeartbeats 2000000 in
theorem spec_checkPath (p : Pr) (I N : Int) (pb po pcap : Nat) (P : List ByteArray) (root : ByteArray) (w : World) (hp : lim p) (hP : SlS w (some ⟨pb, po, none⟩) P.length P) (hPs : ∀ s ∈ P, s.size ≤ 137438953472) (hpc : P.length ≤ pcap) :
    Calls Tryd.prog 37 #[.agg #[.string p.1, .string p.2], .int .i64 I, .int .i64 N, .slice (some ⟨pb, po, none⟩) P.length pcap, .string root] w fun e w' => e = .returned (.bool (checkPathI p I N P root)) ∧ Below w.heap.size w w' := by
  have hp1 := hp.1
  have hp2 := hp.2
  have hlen := leafB_length p
  obtain ⟨w0, hw0⟩ : ∃ w0, w0 = w.alloc (.cells #[.string p.1, .string p.2] 38) := ⟨_, rfl⟩
  have hba : Below w.heap.size w w0 := by rw [hw0]; exact (Below.refl _ _).alloc (Nat.le_refl _) _
  have hc1 : w0.cell? ⟨w.heap.size, 0, none⟩ = some (.string p.1) := by rw [hw0]; simp
  have hc2 : w0.cell? ⟨w.heap.size, 1, none⟩ = some (.string p.2) := by rw [hw0]; simp
  by_cases hN : 1 ≤ N ∧ N ≤ 60
  · have h1 := fun wx => s_inI N 1 60 wx
    rw [decide_eq_true hN] at h1
    obtain ⟨n, hn⟩ : ∃ n : Nat, N = (n : Int) := ⟨N.toNat, by omega⟩
    subst hn
    by_cases hI : 0 ≤ I ∧ I ≤ (n : Int) - 1
    · have h2 := fun wx => s_inI I 0 ((n : Int) - 1) wx
      rw [decide_eq_true hI] at h2
      obtain ⟨i, hi⟩ : ∃ i : Nat, I = (i : Int) := ⟨I.toNat, by omega⟩
      subst hi
      have H1 := Hid.mk' h1
      have H2 := Hid.mk' h2
      have HCI : Hid (checkPathI p (i : Int) (n : Int) P root = checkPath p i n P root) := by
        show _ = _; unfold checkPathI; rw [decide_eq_true hN, decide_eq_true hI, Int.toNat_natCast, Int.toNat_natCast]; rfl
      have hn60 : n ≤ 60 := by omega
      have hin : i < n := by omega
      clear h1 h2 hN hI
      go_enter Tryd.func37, Tryd.ntmps37
      go_wp2_with fail
      rw [← hw0]
      clear hw0
      refine (H1.out _).mono ?_
      rintro e w1 ⟨rfl, hw1⟩
      subst hw1
      go_wp2_with fail
      refine (H2.out _).mono ?_
      rintro e w1 ⟨rfl, hw1⟩
      subst hw1
      have HL := Hid.mk' (spec_l4Leaf p w1 hp)
      clear H1 H2
      go_wp2_with fail
      refine HL.out.mono ?_
      rintro e w2 ⟨lg, ln, lcap, rfl, hL, hb2⟩
      have hB2 := hba.trans (hb2.mono hba.size)
      have hA := spec_l4All (leafB p) _ lg ln lcap i n pb po pcap P w2 hn60 hL (by omega) (hP.below hB2) hPs hpc hin
      unfold allOf at hA
      clear hc1 hc2 HL hL hb2 hba
      cases hh : hashed (leafB p) i n P with
      | none =>
        have HC : Hid (checkPathI p (i : Int) (n : Int) P root = false) := by show _ = _; rw [HCI.out, check_none hh]
        rw [hh] at hA
        have HA := Hid.mk' hA
        clear hA hh HCI
        go_wp2_with fail
        refine HA.out.mono ?_
        rintro e w3 ⟨hb3, v, rfl⟩
        have hB3 := hB2.trans (hb3.mono hB2.size)
        go_wp2_with fail
        go_ret
        exact ⟨ret_bool (by rw [HC.out]), hB3⟩
      | some out =>
        have hsm := hashed_small (leafB p) i n P _ hh (by omega) hPs
        have hol0 := hashed_len (leafB p) i n P _ hh
        obtain ⟨out', y, rfl⟩ := snoc_of_ne (hashed_ne _ _ _ _ _ hh)
        have HC : Hid (checkPathI p (i : Int) (n : Int) P root = decide (dg (topB (n : Int) (dg y.data.toList)) = root)) := by show _ = _; rw [HCI.out, check_some hh]
        rw [hh] at hA
        simp only [Option.map_some, List.getLastD_concat] at hA
        have htl := topB_length (n : Int) (dg y.data.toList)
        have hds := dg_size y.data.toList
        generalize topB (n : Int) (dg y.data.toList) = tb at *
        obtain ⟨nd, hnd⟩ : ∃ nd, (⟨tb.toArray⟩ : ByteArray) = nd := ⟨_, rfl⟩
        have hnl : nd.data.toList = tb := by rw [← hnd]
        have hnz : nd.size ≤ 100 := by rw [← hnd, arr_size]; omega
        rw [hnd] at hA
        have HA := Hid.mk' hA
        have HNL := Hid.mk' hnl
        have hol : out'.length ≤ 100 := by simp at hol0; omega
        clear hA hh HCI hsm hol0 hnd hnl htl
        go_wp2_with fail
        refine HA.out.mono ?_
        rintro e w3 ⟨hb3, g5, n5, cp5, rfl, hO5⟩
        have hB3 := hB2.trans (hb3.mono hB2.size)
        have hn5 := hO5.1
        have hn5' : n5 = out'.length + 2 := by simp at hn5; omega
        subst hn5'
        have hcy := hO5.at (out'.length + 1) (by simp)
        have hge : (out' ++ [y] ++ [nd])[out'.length + 1]'(by simp) = nd := by
          rw [List.getElem_append_right (by simp)]; simp
        rw [hge] at hcy
        have hconv := Lib.run_convert_string_bytes (P := Tryd.prog) w3 9 22 5 nd Tryd.underlying9 Tryd.underlying22 Tryd.underlying5
        have hBb := below_bytesWorld w3 5 nd
        have hD := fun c => sha.spec_digest w3.heap.size 0 nd.size c nd.data.toList (Lib.bytesWorld w3 5 nd) (sl_bts (bts_new w3 nd) (by unfold maxLen; omega)) (by omega)
        rw [HNL.out] at hD
        have HD := Hid.mk' hD
        have q1 : ((out'.length + 2 : Nat) : Int) - 1 = ((out'.length + 1 : Nat) : Int) := by omega
        clear hO5 hn5 hge hb3 hD
        go_wp2_with fail
        refine (HD.out _).mono ?_
        rintro e w4 ⟨rfl, hb4⟩
        have hB4 : Below w3.heap.size w3 w4 := hBb.trans (hb4.mono hBb.size)
        have hB4' := hB3.trans (hB4.mono hB3.size)
        have hdd : (⟨(sha.digest tb).toArray⟩ : ByteArray) = dg tb := rfl
        rw [hdd]
        generalize dg tb = d at *
        clear hconv hBb HD hb4 hB4 hcy
        by_cases he : d = root
        · subst he
          go_wp2_with fail
          go_ret
          exact ⟨ret_bool (by rw [HC.out]; simp), hB4'⟩
        · have hq : (d.toList == root.toList) = false := by
            rw [beq_eq_false_iff_ne]; intro e; rw [ByteArray.toList_eq, ByteArray.toList_eq] at e; exact he (bytes_ext e)
          have HE : Hid (¬ d = root) := he
          clear he
          go_wp2_with fail
          go_ret
          exact ⟨ret_bool (by rw [HC.out, decide_eq_false HE.out]), hB4'⟩
    · have h2 := fun wx => s_inI I 0 ((n : Int) - 1) wx
      rw [decide_eq_false hI] at h2
      have H1 := Hid.mk' h1
      have H2 := Hid.mk' h2
      have HC : Hid (checkPathI p I (n : Int) P root = false) := by show _ = _; unfold checkPathI; rw [decide_eq_false hI]; simp
      have hn60 : n ≤ 60 := by omega
      clear h1 h2 hN hI
      go_enter Tryd.func37, Tryd.ntmps37
      go_wp2_with fail
      rw [← hw0]
      clear hw0
      refine (H1.out _).mono ?_
      rintro e w1 ⟨rfl, hw1⟩
      subst hw1
      go_wp2_with fail
      refine (H2.out _).mono ?_
      rintro e w1 ⟨rfl, hw1⟩
      subst hw1
      go_wp2_with fail
      go_ret
      exact ⟨ret_bool (by rw [HC.out]), hba⟩
  · have h1 := fun wx => s_inI N 1 60 wx
    rw [decide_eq_false hN] at h1
    have H1 := Hid.mk' h1
    have HC : Hid (checkPathI p I N P root = false) := by show _ = _; unfold checkPathI; rw [decide_eq_false hN]; simp
    clear h1 hN
    go_enter Tryd.func37, Tryd.ntmps37
    go_wp2_with fail
    rw [← hw0]
    clear hw0
    refine (H1.out _).mono ?_
    rintro e w1 ⟨rfl, hw1⟩
    subst hw1
    go_wp2_with fail
    go_ret
    exact ⟨ret_bool (by rw [HC.out]), hba⟩

end Go.Proofs.YtmdhkoiimffmlaaDoor.tree
