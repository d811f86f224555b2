/- What the specification hashes on the way up, and its check of a path. The specification's check of a path. The specification's keys and pairs: what is right, what is got. The specification's lists of pairs. -/
import Derived.Test.YteammdkipnfmnaaGreatDoorShah
import Derived.Test.YteammdkipnfmnaaGreatDoorShac
import Derived.Deep.RegionHeld3
namespace Go.Proofs.YteammdkipnfmnaaGreatDoor.tree
open Go Go.RowKit Go.Proofs.YteammdkipnfmnaaGreatDoor.base Go.Proofs.YteammdkipnfmnaaGreatDoor.pairs Go.Proofs.YteammdkipnfmnaaGreatDoor.puttext Go.Proofs.YteammdkipnfmnaaGreatDoor.putnum
set_option linter.unusedVariables false
set_option linter.unusedSimpArgs false

theorem snoc_of_ne {α : Type} {l : List α} (h : l ≠ []) : ∃ q z, l = q ++ [z] := by
  exact ⟨l.dropLast, l.getLast h, (List.dropLast_concat_getLast h).symm⟩
theorem sl_bts {w : World} {g : Nat} {s : ByteArray} (h : Bts w g s) (hm : s.size ≤ maxLen) : Sl w (some ⟨g, 0, none⟩) s.size s.data.toList := by
  refine ⟨by simp, hm, fun _ => ⟨g, 0, rfl, fun i hi => ?_⟩⟩
  rw [Nat.zero_add]
  exact h.2 i (by simpa using hi)
theorem arr_size (l : List UInt8) : (⟨l.toArray⟩ : ByteArray).size = l.length := by
  show l.toArray.size = _
  exact List.size_toArray
theorem hashed_small (leaf : List UInt8) (i n : Nat) (p out : List ByteArray) (h : hashed leaf i n p = some out) (hl : leaf.length ≤ 137438953472) (hp : ∀ s ∈ p, s.size ≤ 137438953472) : ∀ s ∈ out, s.size ≤ 137438953600 := by
  induction n using Nat.strongRecOn generalizing i p out with
  | _ n ih =>
    by_cases h2 : n < 2
    · rw [hashed_low _ _ _ _ h2] at h
      split at h
      · cases h
        intro s hs
        rw [List.mem_singleton.1 hs, arr_size]; omega
      · cases h
    · have hb := half_bd n (by omega)
      cases hq : p.getLast? with
      | none =>
        have : p = [] := List.getLast?_eq_none_iff.1 hq
        subst this
        rw [hashed_none _ _ _ (by omega)] at h; cases h
      | some z =>
        have hz := hp z (List.mem_of_getLast? hq)
        have hd : ∀ s ∈ p.dropLast, s.size ≤ 137438953472 := fun s hs => hp s ((List.dropLast_sublist p).subset hs)
        by_cases hi : i < half n
        · rw [hashed_left _ _ _ _ _ (by omega) hq hi] at h
          obtain ⟨o, ho, rfl⟩ := Option.map_eq_some_iff.1 h
          intro s hs
          rcases List.mem_append.1 hs with h1 | h1
          · exact ih _ hb.2 _ _ _ ho hd s h1
          · rw [List.mem_singleton.1 h1, arr_size, nodeB_length, dg_size]; omega
        · rw [hashed_right _ _ _ _ _ (by omega) hq hi] at h
          obtain ⟨o, ho, rfl⟩ := Option.map_eq_some_iff.1 h
          intro s hs
          rcases List.mem_append.1 hs with h1 | h1
          · exact ih _ (by omega) _ _ _ ho hd s h1
          · rw [List.mem_singleton.1 h1, arr_size, nodeB_length, dg_size]; omega
theorem hashed_len (leaf : List UInt8) (i n : Nat) (p out : List ByteArray) (h : hashed leaf i n p = some out) : out.length ≤ n + 1 := by
  induction n using Nat.strongRecOn generalizing i p out with
  | _ n ih =>
    by_cases h2 : n < 2
    · rw [hashed_low _ _ _ _ h2] at h
      split at h
      · cases h; simp
      · cases h
    · have hb := half_bd n (by omega)
      cases hq : p.getLast? with
      | none =>
        have : p = [] := List.getLast?_eq_none_iff.1 hq
        subst this
        rw [hashed_none _ _ _ (by omega)] at h; cases h
      | some z =>
        by_cases hi : i < half n
        · rw [hashed_left _ _ _ _ _ (by omega) hq hi] at h
          obtain ⟨o, ho, rfl⟩ := Option.map_eq_some_iff.1 h
          have := ih _ hb.2 _ _ _ ho
          simp; omega
        · rw [hashed_right _ _ _ _ _ (by omega) hq hi] at h
          obtain ⟨o, ho, rfl⟩ := Option.map_eq_some_iff.1 h
          have := ih _ (by omega) _ _ _ ho
          simp; omega

theorem ownS_one (w : World) (s : ByteArray) (hs : s.size ≤ maxLen) : OwnS (w.alloc (.cells #[.string s] 9)) w.heap.size w.heap.size 1 1 [s] :=
  ⟨rfl, fun x hx => by rw [List.mem_singleton.1 hx]; exact hs, by simp [strVals], .inr ⟨w.heap.size, 1, #[.string s], rfl, Nat.le_refl _, heap_alloc_new w _, Nat.le_refl _, by decide, rfl, by simp [strVals]⟩⟩
theorem sls_front {w : World} {b o : Nat} {q : List ByteArray} {z : ByteArray} (h : SlS w (some ⟨b, o, none⟩) (q ++ [z]).length (q ++ [z])) : SlS w (some ⟨b, o, none⟩) q.length q := by
  obtain ⟨h1, h2, h3, h4⟩ := h
  refine ⟨rfl, by simp at h2; omega, fun s hs => h3 s (by simp [hs]), fun _ => ?_⟩
  obtain ⟨b', o', e, hc⟩ := h4 (by simp)
  refine ⟨b', o', e, fun i hi => ?_⟩
  have := hc i (by simp; omega)
  rwa [List.getElem_append_left hi] at this
theorem sls_last {w : World} {b o : Nat} {q : List ByteArray} {z : ByteArray} (h : SlS w (some ⟨b, o, none⟩) (q ++ [z]).length (q ++ [z])) : w.cell? ⟨b, o + q.length, none⟩ = some (.string z) := by
  obtain ⟨b', o', e, hc⟩ := h.2.2.2 (by simp)
  have := hc q.length (by simp)
  simp only [Option.some.injEq, Addr.mk.injEq, and_true] at e
  obtain ⟨rfl, rfl⟩ := e
  simpa using this
def HPost (w : World) (r : Option (List ByteArray)) (e : Ending) (w' : World) : Prop :=
  Below w.heap.size w w' ∧ match r with
    | none => ∃ v, e = .returned (.tuple #[v, .bool false])
    | some out => ∃ g n cap, e = .returned (.tuple #[.slice (some ⟨g, 0, none⟩) n cap, .bool true]) ∧ OwnS w' w.heap.size g n cap out

set_option maxRecDepth 100000 in
set_option maxHeartbeats 4000000 in
theorem spec_l4Hashed (m : Nat) : ∀ (leaf : List UInt8) (lbase lg ln lcap i n pb po pcap : Nat) (P : List ByteArray) (w : World), n = m → n ≤ 60 → Own w lbase lg ln lcap leaf → leaf.length ≤ 137438953472 → SlS w (some ⟨pb, po, none⟩) P.length P → (∀ s ∈ P, s.size ≤ 137438953472) → P.length ≤ pcap → i < n →
    Calls Tryz.prog 144 #[.slice (some ⟨lg, 0, none⟩) ln lcap, .int .i64 (i : Int), .int .i64 (n : Int), .slice (some ⟨pb, po, none⟩) P.length pcap] w (HPost w (hashed leaf i n P)) := by
  obtain ⟨i0, hi, hz0, hz1, hz2'⟩ := info_parts info9
  induction m using Nat.strongRecOn with
  | _ m ih =>
    intro leaf lbase lg ln lcap i n pb po pcap P w hnm h60 hL hleaf hP hPs hpc hin
    subst hnm
    by_cases h2 : n < 2
    · have h2i : (n : Int) < 2 := by omega
      have hcv := conv_own hL
      have hlsz : (⟨leaf.toArray⟩ : ByteArray).size ≤ maxLen := by rw [arr_size]; unfold maxLen; omega
      have hst := hashed_low leaf i n P h2
      by_cases hpe : P = []
      · have HN : Hid (hashed leaf i n P = some [⟨leaf.toArray⟩]) := by show _ = _; rw [hst, if_pos hpe]
        subst hpe
        generalize (⟨leaf.toArray⟩ : ByteArray) = lf at *
        clear ih hL hP hPs hst hleaf
        go_enter Tryz.func144, Tryz.ntmps144
        go_wp2_with (at_builtin; fail)
        go_ret2
        refine ⟨(Below.refl _ _).alloc (Nat.le_refl _) _, ?_⟩
        rw [HN.out]
        exact ⟨w.heap.size, 1, 1, rfl, ownS_one w lf hlsz⟩
      · have HN : Hid (hashed leaf i n P = none) := by show _ = _; rw [hst, if_neg hpe]
        have hpl : ¬ P.length = 0 := fun e => hpe (List.eq_nil_of_length_eq_zero e)
        have hpm := hP.2.1
        unfold maxLen at hpm
        have hpli : ¬ (P.length : Int) = 0 := by omega
        have hpd : ((P.length : Int) == 0) = false := by rw [beq_eq_false_iff_ne]; exact hpli
        clear ih hL hP hPs hst hleaf hpe
        go_enter Tryz.func144, Tryz.ntmps144
        go_wp2_with (at_builtin; fail)
        go_ret2
        refine ⟨(Below.refl _ _).alloc (Nat.le_refl _) _, ?_⟩
        rw [HN.out]
        exact ⟨_, rfl⟩
    have h2i : ¬ (n : Int) < 2 := by omega
    by_cases hpe : P = []
    · subst hpe
      have HN : Hid (hashed leaf i n [] = none) := hashed_none leaf i n (by omega)
      clear ih hL hP hPs hleaf
      go_enter Tryz.func144, Tryz.ntmps144
      go_wp2_with (at_builtin; fail)
      go_ret2
      refine ⟨(Below.refl _ _).alloc (Nat.le_refl _) _, ?_⟩
      rw [HN.out]
      exact ⟨_, rfl⟩
    obtain ⟨Q, z, rfl⟩ := snoc_of_ne hpe
    have hbd := half_bd n (by omega)
    have HH := Hid.mk' (spec_half n w (by omega) (by omega))
    have hpl := hashed_left leaf i n (Q ++ [z]) z (by omega) List.getLast?_concat
    have hpr := hashed_right leaf i n (Q ++ [z]) z (by omega) List.getLast?_concat
    rw [List.dropLast_concat] at hpl hpr
    obtain ⟨k, hk⟩ : ∃ k, half n = k := ⟨_, rfl⟩
    rw [hk] at hbd HH hpl hpr
    have hz2 := hPs z (by simp)
    have hQ : ∀ s ∈ Q, s.size ≤ 137438953472 := fun s hs => hPs s (by simp [hs])
    have hPQ : ∀ wx, Below w.heap.size w wx → SlS wx (some ⟨pb, po, none⟩) Q.length Q := fun wx hx => sls_front (hP.below hx)
    have hcz := sls_last hP
    have hlen : (Q ++ [z]).length = Q.length + 1 := by simp
    rw [hlen] at hP hpc ⊢
    have hqm := hP.2.1
    unfold maxLen at hqm
    have q1 : (Q.length : Int) ≤ (pcap : Int) := by omega
    have hrecL : ∀ (at_ mm : Nat), mm < n → at_ < mm → Calls Tryz.prog 144 #[.slice (some ⟨lg, 0, none⟩) ln lcap, .int .i64 (at_ : Int), .int .i64 (mm : Int), .slice (some ⟨pb, po, none⟩) Q.length pcap] w (HPost w (hashed leaf at_ mm Q)) :=
      fun at_ mm h1 h2 => ih mm (by omega) leaf lbase lg ln lcap at_ mm pb po pcap Q w rfl (by omega) hL hleaf (hPQ w (Below.refl _ _)) hQ (by omega) h2
    clear ih hP hL hPs hPQ hlen hk hpe
    by_cases hik : i < k
    · have hst := hpl hik
      have hiki : (i : Int) < (k : Int) := by omega
      have hrec := hrecL i k (by omega) hik
      clear hpl hpr hrecL
      cases hh : hashed leaf i k Q with
      | none =>
        have HN : Hid (hashed leaf i n (Q ++ [z]) = none) := by show _ = _; rw [hst, hh]; rfl
        rw [hh] at hrec
        have HR := Hid.mk' hrec
        clear hrec hh hst
        go_enter Tryz.func144, Tryz.ntmps144
        go_wp2_with (at_builtin; fail)
        refine HH.out.mono ?_
        rintro e w2 ⟨rfl, hw2⟩
        subst hw2
        go_wp2_with (at_builtin; fail)
        refine HR.out.mono ?_
        rintro e w5 ⟨hB5, v, rfl⟩
        go_wp2_with (at_builtin; fail)
        go_ret2
        exact ⟨hB5.alloc hB5.size _, by rw [HN.out]; exact ⟨_, rfl⟩⟩
      | some out =>
        obtain ⟨out', y, rfl⟩ := snoc_of_ne (hashed_ne _ _ _ _ _ hh)
        have HN : Hid (hashed leaf i n (Q ++ [z]) = some (out' ++ [y] ++ [⟨(nodeB (dg y.data.toList) z).toArray⟩])) := by
          show _ = _; rw [hst, hh]; simp
        have hsm := hashed_small leaf i k Q _ hh hleaf hQ
        have hol0 := hashed_len leaf i k Q _ hh
        have hy := hsm y (by simp)
        rw [hh] at hrec
        have HR := Hid.mk' hrec
        have hds := dg_size y.data.toList
        have hnb := nodeB_length (dg y.data.toList) z
        have hnb2 := nodeB_length z (dg y.data.toList)
        have HSM := Hid.mk' hsm
        clear hrec hh hst hsm
        go_enter Tryz.func144, Tryz.ntmps144
        go_wp2_with (at_builtin; fail)
        refine HH.out.mono ?_
        rintro e w2 ⟨rfl, hw2⟩
        subst hw2
        go_wp2_with (at_builtin; fail)
        refine HR.out.mono ?_
        rintro e w5 ⟨hB5, g5, n5, cp5, rfl, hO5⟩
        have hn5 := hO5.1
        have hn5' : n5 = out'.length + 1 := by simp at hn5; omega
        subst hn5'
        have hcy := hO5.at out'.length (by simp)
        simp only [List.getElem_concat_length] at hcy
        have hconv := Lib.run_convert_string_bytes (P := Tryz.prog) w5 9 22 5 y Tryz.underlying9 Tryz.underlying22 Tryz.underlying5
        have hBb := below_bytesWorld w5 5 y
        have HD := Hid.mk' (fun c => sha.spec_digest w5.heap.size 0 y.size c y.data.toList (Lib.bytesWorld w5 5 y) (sl_bts (bts_new w5 y) (by unfold maxLen; omega)) (by omega))
        have hol : out'.length ≤ 100 := by simp at hol0; omega
        have HB5 := Hid.mk' hB5
        have HO5 := Hid.mk' hO5
        clear hB5 hO5 hn5
        go_wp2_with (at_builtin; fail)
        refine (HD.out _).mono ?_
        rintro e w6 ⟨rfl, hb6⟩
        have hB6 : Below w5.heap.size w5 w6 := hBb.trans (hb6.mono hBb.size)
        have hO6 := HO5.out.below hB6
        have hB6' := HB5.out.trans (hB6.mono HB5.out.size)
        have hdd : (⟨(sha.digest y.data.toList).toArray⟩ : ByteArray) = dg y.data.toList := rfl
        rw [hdd]
        have HL := Hid.mk' (fun wx => spec_l4Node (dg y.data.toList) z wx (by omega) hz2)
        generalize dg y.data.toList = d at *
        clear hconv hBb HD hb6 hB6 HO5 HB5 hcy
        go_wp2_with (at_builtin; fail)
        refine (HL.out _).mono ?_
        rintro e w7 ⟨g7, n7, cp7, rfl, hO7, hb7⟩
        have hcv := conv_own hO7
        have hnds : (⟨(nodeB d z).toArray⟩ : ByteArray).size ≤ maxLen := by rw [arr_size, nodeB_length]; unfold maxLen; omega
        obtain ⟨nd, hnd⟩ : ∃ nd, (⟨(nodeB d z).toArray⟩ : ByteArray) = nd := ⟨_, rfl⟩
        rw [hnd] at hcv hnds HN
        clear hnd
        have hO8 := hO6.below hb7
        have hB7 := hB6'.trans (hb7.mono hB6'.size)
        have hs7 := hB7.size
        clear hO6 hB6' hb7 hO7 HL
        have hc3 : out'.length + 1 + 1 ≤ maxLen := by unfold maxLen; omega
        have hc4 : (out'.length + 1 + 1) * 16 ≤ 140737488355328 := by omega
        go_wp2_with (at_builtin; refine wpList_append_own _ rfl (.tmp 74) (.tmp 79) 24 rfl w2.heap.size 9 i0 (.string ⟨#[]⟩) 1 16 Tryz.underlying24 hi hz0 hz1 hz2' rfl (by decide) _ _ _ rfl (hO8.2.2.alloc _) ⟨w7.heap.size, 0, none⟩ 1 1 [.string nd] rfl rfl (cell_one_new _ _ _) (str_oneCell _) hc3 hc4 (le_alloc _ _ hs7) ?_)
        intro v9 w9 hown hgrow hnn
        have hnn' : ¬ v9 = .slice none 0 0 := by simpa using hnn
        obtain ⟨g9, cap9, hv, hO9⟩ := ownS_val (ss := out' ++ [y] ++ [nd]) (n := out'.length + 1 + 1) (by simp) (fun s hs => by
          rcases List.mem_append.1 hs with h1 | h1
          · exact hO8.2.1 s h1
          · rw [List.mem_singleton.1 h1]; exact hnds) hnn' (by simpa [strVals] using hown)
        subst hv
        have hB9 : Below w2.heap.size w2 w9 := (hB7.alloc hs7 _).grown hgrow (le_alloc _ _ hs7) (fun k e => by simp [Value.ownBlock] at e; have := hO8.lt; omega)
        have HO9 := Hid.mk' hO9
        clear hown hgrow hnn hnn' hO9 hO8 hB7
        go_wp2_with (at_builtin; fail)
        go_ret2
        exact ⟨hB9, by rw [HN.out]; exact ⟨g9, _, cap9, rfl, HO9.out⟩⟩
    · have hst := hpr hik
      have hiki : ¬ (i : Int) < (k : Int) := by omega
      obtain ⟨j, hj⟩ : ∃ j, i - k = j := ⟨_, rfl⟩
      obtain ⟨r, hr⟩ : ∃ r, n - k = r := ⟨_, rfl⟩
      rw [hj, hr] at hst
      have hji : (i : Int) - (k : Int) = (j : Int) := by omega
      have hri : (n : Int) - (k : Int) = (r : Int) := by omega
      have hrec := hrecL j r (by omega) (by omega)
      clear hpl hpr hrecL hj hr
      cases hh : hashed leaf j r Q with
      | none =>
        have HN : Hid (hashed leaf i n (Q ++ [z]) = none) := by show _ = _; rw [hst, hh]; rfl
        rw [hh] at hrec
        have HR := Hid.mk' hrec
        clear hrec hh hst
        go_enter Tryz.func144, Tryz.ntmps144
        go_wp2_with (at_builtin; fail)
        refine HH.out.mono ?_
        rintro e w2 ⟨rfl, hw2⟩
        subst hw2
        go_wp2_with (at_builtin; fail)
        refine HR.out.mono ?_
        rintro e w5 ⟨hB5, v, rfl⟩
        go_wp2_with (at_builtin; fail)
        go_ret2
        exact ⟨hB5.alloc hB5.size _, by rw [HN.out]; exact ⟨_, rfl⟩⟩
      | some out =>
        obtain ⟨out', y, rfl⟩ := snoc_of_ne (hashed_ne _ _ _ _ _ hh)
        have HN : Hid (hashed leaf i n (Q ++ [z]) = some (out' ++ [y] ++ [⟨(nodeB z (dg y.data.toList)).toArray⟩])) := by
          show _ = _; rw [hst, hh]; simp
        have hsm := hashed_small leaf j r Q _ hh hleaf hQ
        have hol0 := hashed_len leaf j r Q _ hh
        have hy := hsm y (by simp)
        rw [hh] at hrec
        have HR := Hid.mk' hrec
        have hds := dg_size y.data.toList
        have hnb := nodeB_length (dg y.data.toList) z
        have hnb2 := nodeB_length z (dg y.data.toList)
        have HSM := Hid.mk' hsm
        clear hrec hh hst hsm
        go_enter Tryz.func144, Tryz.ntmps144
        go_wp2_with (at_builtin; fail)
        refine HH.out.mono ?_
        rintro e w2 ⟨rfl, hw2⟩
        subst hw2
        go_wp2_with (at_builtin; fail)
        refine HR.out.mono ?_
        rintro e w5 ⟨hB5, g5, n5, cp5, rfl, hO5⟩
        have hn5 := hO5.1
        have hn5' : n5 = out'.length + 1 := by simp at hn5; omega
        subst hn5'
        have hcy := hO5.at out'.length (by simp)
        simp only [List.getElem_concat_length] at hcy
        have hconv := Lib.run_convert_string_bytes (P := Tryz.prog) w5 9 22 5 y Tryz.underlying9 Tryz.underlying22 Tryz.underlying5
        have hBb := below_bytesWorld w5 5 y
        have HD := Hid.mk' (fun c => sha.spec_digest w5.heap.size 0 y.size c y.data.toList (Lib.bytesWorld w5 5 y) (sl_bts (bts_new w5 y) (by unfold maxLen; omega)) (by omega))
        have hol : out'.length ≤ 100 := by simp at hol0; omega
        have HB5 := Hid.mk' hB5
        have HO5 := Hid.mk' hO5
        clear hB5 hO5 hn5
        go_wp2_with (at_builtin; fail)
        refine (HD.out _).mono ?_
        rintro e w6 ⟨rfl, hb6⟩
        have hB6 : Below w5.heap.size w5 w6 := hBb.trans (hb6.mono hBb.size)
        have hO6 := HO5.out.below hB6
        have hB6' := HB5.out.trans (hB6.mono HB5.out.size)
        have hdd : (⟨(sha.digest y.data.toList).toArray⟩ : ByteArray) = dg y.data.toList := rfl
        rw [hdd]
        have HL := Hid.mk' (fun wx => spec_l4Node z (dg y.data.toList) wx hz2 (by omega))
        generalize dg y.data.toList = d at *
        clear hconv hBb HD hb6 hB6 HO5 HB5 hcy
        go_wp2_with (at_builtin; fail)
        refine (HL.out _).mono ?_
        rintro e w7 ⟨g7, n7, cp7, rfl, hO7, hb7⟩
        have hcv := conv_own hO7
        have hnds : (⟨(nodeB z d).toArray⟩ : ByteArray).size ≤ maxLen := by rw [arr_size, nodeB_length]; unfold maxLen; omega
        obtain ⟨nd, hnd⟩ : ∃ nd, (⟨(nodeB z d).toArray⟩ : ByteArray) = nd := ⟨_, rfl⟩
        rw [hnd] at hcv hnds HN
        clear hnd
        have hO8 := hO6.below hb7
        have hB7 := hB6'.trans (hb7.mono hB6'.size)
        have hs7 := hB7.size
        clear hO6 hB6' hb7 hO7 HL
        have hc3 : out'.length + 1 + 1 ≤ maxLen := by unfold maxLen; omega
        have hc4 : (out'.length + 1 + 1) * 16 ≤ 140737488355328 := by omega
        go_wp2_with (at_builtin; refine wpList_append_own _ rfl (.tmp 81) (.tmp 86) 24 rfl w2.heap.size 9 i0 (.string ⟨#[]⟩) 1 16 Tryz.underlying24 hi hz0 hz1 hz2' rfl (by decide) _ _ _ rfl (hO8.2.2.alloc _) ⟨w7.heap.size, 0, none⟩ 1 1 [.string nd] rfl rfl (cell_one_new _ _ _) (str_oneCell _) hc3 hc4 (le_alloc _ _ hs7) ?_)
        intro v9 w9 hown hgrow hnn
        have hnn' : ¬ v9 = .slice none 0 0 := by simpa using hnn
        obtain ⟨g9, cap9, hv, hO9⟩ := ownS_val (ss := out' ++ [y] ++ [nd]) (n := out'.length + 1 + 1) (by simp) (fun s hs => by
          rcases List.mem_append.1 hs with h1 | h1
          · exact hO8.2.1 s h1
          · rw [List.mem_singleton.1 h1]; exact hnds) hnn' (by simpa [strVals] using hown)
        subst hv
        have hB9 : Below w2.heap.size w2 w9 := (hB7.alloc hs7 _).grown hgrow (le_alloc _ _ hs7) (fun k e => by simp [Value.ownBlock] at e; have := hO8.lt; omega)
        have HO9 := Hid.mk' hO9
        clear hown hgrow hnn hnn' hO9 hO8 hB7
        go_wp2_with (at_builtin; fail)
        go_ret2
        exact ⟨hB9, by rw [HN.out]; exact ⟨g9, _, cap9, rfl, HO9.out⟩⟩

end Go.Proofs.YteammdkipnfmnaaGreatDoor.tree

namespace Go.Proofs.YteammdkipnfmnaaGreatDoor.tree
open Go Go.RowKit Go.Proofs.YteammdkipnfmnaaGreatDoor.base Go.Proofs.YteammdkipnfmnaaGreatDoor.pairs Go.Proofs.YteammdkipnfmnaaGreatDoor.puttext Go.Proofs.YteammdkipnfmnaaGreatDoor.putnum
set_option linter.unusedVariables false
set_option linter.unusedSimpArgs false

def allOf (leaf : List UInt8) (i n : Nat) (p : List ByteArray) : Option (List ByteArray) :=
  (hashed leaf i n p).map fun out => out ++ [⟨(topB (n : Int) (dg (out.getLastD ⟨#[]⟩).data.toList)).toArray⟩]

set_option maxRecDepth 100000 in
set_option maxHeartbeats 2000000 in
theorem spec_l4All (leaf : List UInt8) (lbase lg ln lcap i n pb po pcap : Nat) (P : List ByteArray) (w : World) (h60 : n ≤ 60) (hL : Own w lbase lg ln lcap leaf) (hleaf : leaf.length ≤ 137438953472) (hP : SlS w (some ⟨pb, po, none⟩) P.length P) (hPs : ∀ s ∈ P, s.size ≤ 137438953472) (hpc : P.length ≤ pcap) (hin : i < n) :
    Calls Tryz.prog 128 #[.slice (some ⟨lg, 0, none⟩) ln lcap, .int .i64 (i : Int), .int .i64 (n : Int), .slice (some ⟨pb, po, none⟩) P.length pcap] w (HPost w (allOf leaf i n P)) := by
  obtain ⟨i0, hi, hz0, hz1, hz2'⟩ := info_parts info9
  have hrec := spec_l4Hashed n leaf lbase lg ln lcap i n pb po pcap P w rfl h60 hL hleaf hP hPs hpc hin
  cases hh : hashed leaf i n P with
  | none =>
    have HN : Hid (allOf leaf i n P = none) := by show _ = _; unfold allOf; rw [hh]; rfl
    rw [hh] at hrec
    have HR := Hid.mk' hrec
    clear hrec hh hL hP hPs
    go_enter Tryz.func128, Tryz.ntmps128
    go_wp2_with (at_builtin; fail)
    refine HR.out.mono ?_
    rintro e w5 ⟨hB5, v, rfl⟩
    go_wp2_with (at_builtin; fail)
    go_ret2
    exact ⟨hB5.alloc hB5.size _, by rw [HN.out]; exact ⟨_, rfl⟩⟩
  | some out =>
    obtain ⟨out', y, rfl⟩ := snoc_of_ne (hashed_ne _ _ _ _ _ hh)
    have HN : Hid (allOf leaf i n P = some (out' ++ [y] ++ [⟨(topB (n : Int) (dg y.data.toList)).toArray⟩])) := by show _ = _; unfold allOf; rw [hh]; simp
    have hsm := hashed_small leaf i n P _ hh hleaf hPs
    have hol0 := hashed_len leaf i n P _ hh
    have hol : out'.length ≤ 100 := by simp at hol0; omega
    have hy := hsm y (by simp)
    rw [hh] at hrec
    have HR := Hid.mk' hrec
    have hds := dg_size y.data.toList
    have htl := topB_length (n : Int) (dg y.data.toList)
    clear hrec hh hsm hL hP hPs hol0
    go_enter Tryz.func128, Tryz.ntmps128
    go_wp2_with (at_builtin; fail)
    refine HR.out.mono ?_
    rintro e w5 ⟨hB5, g5, n5, cp5, rfl, hO5⟩
    have hn5 := hO5.1
    have hn5' : n5 = out'.length + 1 := by simp at hn5; omega
    subst hn5'
    have hcy := hO5.at out'.length (by simp)
    simp only [List.getElem_concat_length] at hcy
    have hconv := Lib.run_convert_string_bytes (P := Tryz.prog) w5 9 22 5 y Tryz.underlying9 Tryz.underlying22 Tryz.underlying5
    have hBb := below_bytesWorld w5 5 y
    have HD := Hid.mk' (fun c => sha.spec_digest w5.heap.size 0 y.size c y.data.toList (Lib.bytesWorld w5 5 y) (sl_bts (bts_new w5 y) (by unfold maxLen; omega)) (by omega))
    have HB5 := Hid.mk' hB5
    have HO5 := Hid.mk' hO5
    clear hB5 hO5 hn5
    go_wp2_with (at_builtin; fail)
    refine (HD.out _).mono ?_
    rintro e w6 ⟨rfl, hb6⟩
    have hB6 : Below w5.heap.size w5 w6 := hBb.trans (hb6.mono hBb.size)
    have hO6 := HO5.out.below hB6
    have hB6' := HB5.out.trans (hB6.mono HB5.out.size)
    have hdd : (⟨(sha.digest y.data.toList).toArray⟩ : ByteArray) = dg y.data.toList := rfl
    rw [hdd]
    have HL := Hid.mk' (fun wx => spec_l4Top (n : Int) (dg y.data.toList) wx (WalkArith.wf_i64 (by omega)) (by omega))
    generalize dg y.data.toList = d at *
    clear hconv hBb HD hb6 hB6 HO5 HB5 hcy
    go_wp2_with (at_builtin; fail)
    refine (HL.out _).mono ?_
    rintro e w7 ⟨g7, n7, cp7, rfl, hO7, hb7⟩
    have hcv := conv_own hO7
    have hnds : (⟨(topB (n : Int) d).toArray⟩ : ByteArray).size ≤ maxLen := by rw [arr_size]; unfold maxLen; omega
    obtain ⟨nd, hnd⟩ : ∃ nd, (⟨(topB (n : Int) d).toArray⟩ : ByteArray) = nd := ⟨_, rfl⟩
    rw [hnd] at hcv hnds HN
    clear hnd
    have hO8 := hO6.below hb7
    have hB7 := hB6'.trans (hb7.mono hB6'.size)
    have hs7 := hB7.size
    clear hO6 hB6' hb7 hO7 HL htl
    have hc3 : out'.length + 1 + 1 ≤ maxLen := by unfold maxLen; omega
    have hc4 : (out'.length + 1 + 1) * 16 ≤ 140737488355328 := by omega
    go_wp2_with (at_builtin; refine wpList_append_own _ rfl (.tmp 23) (.tmp 35) 24 rfl w.heap.size 9 i0 (.string ⟨#[]⟩) 1 16 Tryz.underlying24 hi hz0 hz1 hz2' rfl (by decide) _ _ _ rfl (hO8.2.2.alloc _) ⟨w7.heap.size, 0, none⟩ 1 1 [.string nd] rfl rfl (cell_one_new _ _ _) (str_oneCell _) hc3 hc4 (le_alloc _ _ hs7) ?_)
    intro v9 w9 hown hgrow hnn
    have hnn' : ¬ v9 = .slice none 0 0 := by simpa using hnn
    obtain ⟨g9, cap9, hv, hO9⟩ := ownS_val (ss := out' ++ [y] ++ [nd]) (n := out'.length + 1 + 1) (by simp) (fun s hs => by
      rcases List.mem_append.1 hs with h1 | h1
      · exact hO8.2.1 s h1
      · rw [List.mem_singleton.1 h1]; exact hnds) hnn' (by simpa [strVals] using hown)
    subst hv
    have hB9 : Below w.heap.size w w9 := (hB7.alloc hs7 _).grown hgrow (le_alloc _ _ hs7) (fun k e => by simp [Value.ownBlock] at e; have := hO8.lt; omega)
    have HO9 := Hid.mk' hO9
    clear hown hgrow hnn hnn' hO9 hO8 hB7
    go_wp2_with (at_builtin; fail)
    go_ret2
    exact ⟨hB9, by rw [HN.out]; exact ⟨g9, _, cap9, rfl, HO9.out⟩⟩

theorem check_none {p : Pr} {i n : Nat} {P : List ByteArray} {root : ByteArray} (h : hashed (leafB p) i n P = none) : checkPath p i n P root = false := by
  unfold checkPath leafOf; rw [climb_hashed, h]; rfl
theorem check_some {p : Pr} {i n : Nat} {P : List ByteArray} {root : ByteArray} {out : List ByteArray} {y : ByteArray} (h : hashed (leafB p) i n P = some (out ++ [y])) : checkPath p i n P root = decide (dg (topB (n : Int) (dg y.data.toList)) = root) := by
  unfold checkPath leafOf; rw [climb_hashed, h]; simp

set_option maxRecDepth 100000 in
set_option maxHeartbeats 2000000 in
theorem spec_checkPath (p : Pr) (I N : Int) (pb po pcap : Nat) (P : List ByteArray) (root : ByteArray) (w : World) (hp : lim p) (hP : SlS w (some ⟨pb, po, none⟩) P.length P) (hPs : ∀ s ∈ P, s.size ≤ 137438953472) (hpc : P.length ≤ pcap) :
    Calls Tryz.prog 108 #[.agg #[.string p.1, .string p.2], .int .i64 I, .int .i64 N, .slice (some ⟨pb, po, none⟩) P.length pcap, .string root] w fun e w' => e = .returned (.bool (checkPathI p I N P root)) ∧ Below w.heap.size w w' := by
  have hp1 := hp.1
  have hp2 := hp.2
  have hlen := leafB_length p
  obtain ⟨w0, hw0⟩ : ∃ w0, w0 = w.alloc (.cells #[.string p.1, .string p.2] 34) := ⟨_, rfl⟩
  have hba : Below w.heap.size w w0 := by rw [hw0]; exact (Below.refl _ _).alloc (Nat.le_refl _) _
  have hc1 : w0.cell? ⟨w.heap.size, 0, none⟩ = some (.string p.1) := by rw [hw0]; simp
  have hc2 : w0.cell? ⟨w.heap.size, 1, none⟩ = some (.string p.2) := by rw [hw0]; simp
  by_cases hN : 1 ≤ N ∧ N ≤ 60
  · have h1 := fun wx => s_inI N 1 60 wx
    rw [decide_eq_true hN] at h1
    obtain ⟨n, hn⟩ : ∃ n : Nat, N = (n : Int) := ⟨N.toNat, by omega⟩
    subst hn
    by_cases hI : 0 ≤ I ∧ I ≤ (n : Int) - 1
    · have h2 := fun wx => s_inI I 0 ((n : Int) - 1) wx
      rw [decide_eq_true hI] at h2
      obtain ⟨i, hi⟩ : ∃ i : Nat, I = (i : Int) := ⟨I.toNat, by omega⟩
      subst hi
      have H1 := Hid.mk' h1
      have H2 := Hid.mk' h2
      have HCI : Hid (checkPathI p (i : Int) (n : Int) P root = checkPath p i n P root) := by
        show _ = _; unfold checkPathI; rw [decide_eq_true hN, decide_eq_true hI, Int.toNat_natCast, Int.toNat_natCast]; rfl
      have hn60 : n ≤ 60 := by omega
      have hin : i < n := by omega
      clear h1 h2 hN hI
      go_enter Tryz.func108, Tryz.ntmps108
      go_wp2_with fail
      rw [← hw0]
      clear hw0
      refine (H1.out _).mono ?_
      rintro e w1 ⟨rfl, hw1⟩
      subst hw1
      go_wp2_with fail
      refine (H2.out _).mono ?_
      rintro e w1 ⟨rfl, hw1⟩
      subst hw1
      have HL := Hid.mk' (spec_l4Leaf p w1 hp)
      clear H1 H2
      go_wp2_with fail
      refine HL.out.mono ?_
      rintro e w2 ⟨lg, ln, lcap, rfl, hL, hb2⟩
      have hB2 := hba.trans (hb2.mono hba.size)
      have hA := spec_l4All (leafB p) _ lg ln lcap i n pb po pcap P w2 hn60 hL (by omega) (hP.below hB2) hPs hpc hin
      unfold allOf at hA
      clear hc1 hc2 HL hL hb2 hba
      cases hh : hashed (leafB p) i n P with
      | none =>
        have HC : Hid (checkPathI p (i : Int) (n : Int) P root = false) := by show _ = _; rw [HCI.out, check_none hh]
        rw [hh] at hA
        have HA := Hid.mk' hA
        clear hA hh HCI
        go_wp2_with fail
        refine HA.out.mono ?_
        rintro e w3 ⟨hb3, v, rfl⟩
        have hB3 := hB2.trans (hb3.mono hB2.size)
        go_wp2_with fail
        go_ret
        exact ⟨ret_bool (by rw [HC.out]), hB3⟩
      | some out =>
        have hsm := hashed_small (leafB p) i n P _ hh (by omega) hPs
        have hol0 := hashed_len (leafB p) i n P _ hh
        obtain ⟨out', y, rfl⟩ := snoc_of_ne (hashed_ne _ _ _ _ _ hh)
        have HC : Hid (checkPathI p (i : Int) (n : Int) P root = decide (dg (topB (n : Int) (dg y.data.toList)) = root)) := by show _ = _; rw [HCI.out, check_some hh]
        rw [hh] at hA
        simp only [Option.map_some, List.getLastD_concat] at hA
        have htl := topB_length (n : Int) (dg y.data.toList)
        have hds := dg_size y.data.toList
        generalize topB (n : Int) (dg y.data.toList) = tb at *
        obtain ⟨nd, hnd⟩ : ∃ nd, (⟨tb.toArray⟩ : ByteArray) = nd := ⟨_, rfl⟩
        have hnl : nd.data.toList = tb := by rw [← hnd]
        have hnz : nd.size ≤ 100 := by rw [← hnd, arr_size]; omega
        rw [hnd] at hA
        have HA := Hid.mk' hA
        have HNL := Hid.mk' hnl
        have hol : out'.length ≤ 100 := by simp at hol0; omega
        clear hA hh HCI hsm hol0 hnd hnl htl
        go_wp2_with fail
        refine HA.out.mono ?_
        rintro e w3 ⟨hb3, g5, n5, cp5, rfl, hO5⟩
        have hB3 := hB2.trans (hb3.mono hB2.size)
        have hn5 := hO5.1
        have hn5' : n5 = out'.length + 2 := by simp at hn5; omega
        subst hn5'
        have hcy := hO5.at (out'.length + 1) (by simp)
        have hge : (out' ++ [y] ++ [nd])[out'.length + 1]'(by simp) = nd := by
          rw [List.getElem_append_right (by simp)]; simp
        rw [hge] at hcy
        have hconv := Lib.run_convert_string_bytes (P := Tryz.prog) w3 9 22 5 nd Tryz.underlying9 Tryz.underlying22 Tryz.underlying5
        have hBb := below_bytesWorld w3 5 nd
        have hD := fun c => sha.spec_digest w3.heap.size 0 nd.size c nd.data.toList (Lib.bytesWorld w3 5 nd) (sl_bts (bts_new w3 nd) (by unfold maxLen; omega)) (by omega)
        rw [HNL.out] at hD
        have HD := Hid.mk' hD
        have q1 : ((out'.length + 2 : Nat) : Int) - 1 = ((out'.length + 1 : Nat) : Int) := by omega
        clear hO5 hn5 hge hb3 hD
        go_wp2_with fail
        refine (HD.out _).mono ?_
        rintro e w4 ⟨rfl, hb4⟩
        have hB4 : Below w3.heap.size w3 w4 := hBb.trans (hb4.mono hBb.size)
        have hB4' := hB3.trans (hB4.mono hB3.size)
        have hdd : (⟨(sha.digest tb).toArray⟩ : ByteArray) = dg tb := rfl
        rw [hdd]
        generalize dg tb = d at *
        clear hconv hBb HD hb4 hB4 hcy
        by_cases he : d = root
        · subst he
          go_wp2_with fail
          go_ret
          exact ⟨ret_bool (by rw [HC.out]; simp), hB4'⟩
        · have hq : (d.toList == root.toList) = false := by
            rw [beq_eq_false_iff_ne]; intro e; rw [ByteArray.toList_eq, ByteArray.toList_eq] at e; exact he (bytes_ext e)
          have HE : Hid (¬ d = root) := he
          clear he
          go_wp2_with fail
          go_ret
          exact ⟨ret_bool (by rw [HC.out, decide_eq_false HE.out]), hB4'⟩
    · have h2 := fun wx => s_inI I 0 ((n : Int) - 1) wx
      rw [decide_eq_false hI] at h2
      have H1 := Hid.mk' h1
      have H2 := Hid.mk' h2
      have HC : Hid (checkPathI p I (n : Int) P root = false) := by show _ = _; unfold checkPathI; rw [decide_eq_false hI]; simp
      have hn60 : n ≤ 60 := by omega
      clear h1 h2 hN hI
      go_enter Tryz.func108, Tryz.ntmps108
      go_wp2_with fail
      rw [← hw0]
      clear hw0
      refine (H1.out _).mono ?_
      rintro e w1 ⟨rfl, hw1⟩
      subst hw1
      go_wp2_with fail
      refine (H2.out _).mono ?_
      rintro e w1 ⟨rfl, hw1⟩
      subst hw1
      go_wp2_with fail
      go_ret
      exact ⟨ret_bool (by rw [HC.out]), hba⟩
  · have h1 := fun wx => s_inI N 1 60 wx
    rw [decide_eq_false hN] at h1
    have H1 := Hid.mk' h1
    have HC : Hid (checkPathI p I N P root = false) := by show _ = _; unfold checkPathI; rw [decide_eq_false hN]; simp
    clear h1 hN
    go_enter Tryz.func108, Tryz.ntmps108
    go_wp2_with fail
    rw [← hw0]
    clear hw0
    refine (H1.out _).mono ?_
    rintro e w1 ⟨rfl, hw1⟩
    subst hw1
    go_wp2_with fail
    go_ret
    exact ⟨ret_bool (by rw [HC.out]), hba⟩

end Go.Proofs.YteammdkipnfmnaaGreatDoor.tree

namespace Go.Proofs.YteammdkipnfmnaaGreatDoor.pairs
open Go Go.RowKit Go.Proofs.YteammdkipnfmnaaGreatDoor.base
set_option linter.unusedVariables false
set_option linter.unusedSimpArgs false

theorem bcell {W w1 : World} (hb : Below W.heap.size W w1) : (∀ b o, b < W.heap.size → w1.cell? ⟨b, o, none⟩ = W.cell? ⟨b, o, none⟩) :=
  fun b o h => hb.cell (p := ⟨b, o, none⟩) h
set_option maxHeartbeats 400000 in
theorem s_in (x a b : Int) (w : World) (hx : -1000 ≤ x ∧ x ≤ 1099511627776) (ha : 0 ≤ a ∧ a ≤ 1000) (hb : 0 ≤ b ∧ b ≤ 1000) :
    Calls Tryz.prog 30 #[.int .i64 x, .int .i64 a, .int .i64 b] w fun e w' => e = .returned (.bool (decide (a ≤ x ∧ x ≤ b))) ∧ w' = w := by
  by_cases h1 : a ≤ x
  · by_cases h2 : x ≤ b
    · go_enter Tryz.func30, Tryz.ntmps30
      go_wp2
      go_ret
      exact ⟨ret_bool (by simp [h1, h2]), rfl⟩
    · go_enter Tryz.func30, Tryz.ntmps30
      go_wp2
      go_ret
      exact ⟨ret_bool (by simp [h1, h2]), rfl⟩
  · go_enter Tryz.func30, Tryz.ntmps30
    go_wp2
    go_ret
    exact ⟨ret_bool (by have h3 : ¬ a ≤ x := by omega
                        simp [h3]), rfl⟩

theorem keyAll_drop (s : ByteArray) (k : Nat) (h : k < s.size) : keyAll (s.data.toList.drop k) = (keyCh s[k].toNat && keyAll (s.data.toList.drop (k + 1))) := by
  rw [List.drop_eq_getElem_cons (by simpa using h)]; rfl

set_option maxRecDepth 100000 in
set_option maxHeartbeats 1000000 in
theorem spec_keyOk (s : ByteArray) (w : World) (hs : s.size ≤ 1099511627776) :
    Calls Tryz.prog 127 #[.string s] w fun e w' => e = .returned (.bool (keyOk s)) ∧ w' = w := by
  generalize hR : keyAll s.data.toList = R
  have HR := Hid.mk' hR
  clear hR
  go_enter Tryz.func127, Tryz.ntmps127
  go_wp2
  go_loop [3] (fun i => ∃ k : Nat, k ≤ s.size ∧ i = .int .i64 (k : Int) ∧ keyAll (s.data.toList.drop k) = R) (fun i => s.size - (intOf i).toNat)
  case atStart => exact ⟨0, Nat.zero_le _, rfl, HR.out⟩
  case round =>
    obtain ⟨k, hk, rfl, hr⟩ := hrel
    by_cases hlt : k < s.size
    · have hst := keyAll_drop s k hlt
      rw [hr] at hst
      have hc := s[k].toNat_lt
      generalize hC : s[k].toNat = c at *
      have HST := Hid.mk' hst
      have HC := Hid.mk' hC
      clear hst hr
      have hki : (k : Int) < (s.size : Int) := by omega
      by_cases h1 : 97 ≤ c ∧ c ≤ 122
      · have HF : Hid (keyAll (s.data.toList.drop (k + 1)) = R) := by
          show _ = _
          have := HST.out; rw [show keyCh c = true by simp [keyCh, h1]] at this; simpa using this.symm
        have hl := s_in (c : Int) 97 122 w (by omega) (by omega) (by omega)
        rw [decide_eq_true (by omega)] at hl
        have HL := Hid.mk' hl
        clear hl HST
        go_wp2_with fail
        refine HL.out.mono ?_
        rintro e w1 ⟨rfl, rfl⟩
        go_wp2_with fail
        go_round
        case rel => exact ⟨k + 1, by omega, by go_num, HF.out⟩
        case measure => simp [intOf]; omega
      · have hl := s_in (c : Int) 97 122 w (by omega) (by omega) (by omega)
        rw [decide_eq_false (by omega)] at hl
        have HL := Hid.mk' hl
        clear hl
        by_cases h2 : 48 ≤ c ∧ c ≤ 57
        · have HF : Hid (keyAll (s.data.toList.drop (k + 1)) = R) := by
            show _ = _
            have := HST.out; rw [show keyCh c = true by simp [keyCh, h2]] at this; simpa using this.symm
          have hl := s_in (c : Int) 48 57 w (by omega) (by omega) (by omega)
          rw [decide_eq_true (by omega)] at hl
          have HL2 := Hid.mk' hl
          clear hl HST
          go_wp2_with fail
          refine HL.out.mono ?_
          rintro e w1 ⟨rfl, rfl⟩
          go_wp2_with fail
          refine HL2.out.mono ?_
          rintro e w1 ⟨rfl, rfl⟩
          go_wp2_with fail
          go_round
          case rel => exact ⟨k + 1, by omega, by go_num, HF.out⟩
          case measure => simp [intOf]; omega
        · have HF : Hid (R = false) := by
            show _ = _
            have := HST.out; rw [show keyCh c = false by simp only [keyCh, h1, h2]; rfl] at this; simpa using this
          have hl := s_in (c : Int) 48 57 w (by omega) (by omega) (by omega)
          rw [decide_eq_false (by omega)] at hl
          have HL2 := Hid.mk' hl
          clear hl HST
          go_wp2_with fail
          refine HL.out.mono ?_
          rintro e w1 ⟨rfl, rfl⟩
          go_wp2_with fail
          refine HL2.out.mono ?_
          rintro e w1 ⟨rfl, rfl⟩
          go_wp2_with fail
          go_ret
          exact ⟨ret_bool (by unfold keyOk; rw [HR.out, HF.out]; rfl), rfl⟩
    · have HF : Hid (R = true) := by show _ = _; rw [← hr, List.drop_eq_nil_of_le (by simp; omega)]; rfl
      have hl := s_in (s.size : Int) 1 12 w (by omega) (by omega) (by omega)
      rw [show decide ((1 : Int) ≤ (s.size : Int) ∧ (s.size : Int) ≤ 12) = decide (1 ≤ s.size ∧ s.size ≤ 12) by rw [decide_eq_decide]; omega] at hl
      have HL := Hid.mk' hl
      clear hl hr
      go_wp2_with fail
      refine HL.out.mono ?_
      rintro e w1 ⟨rfl, rfl⟩
      go_wp2_with fail
      go_ret
      exact ⟨ret_bool (by unfold keyOk; rw [HR.out, HF.out]; simp), rfl⟩

set_option maxHeartbeats 400000 in
theorem spec_pairOk (p : Pr) (w : World) (hp : small p) (hs : p.1.size ≤ 1099511627776) :
    Calls Tryz.prog 107 #[.agg #[.string p.1, .string p.2]] w fun e w' => e = .returned (.bool (pairOk p)) ∧ Below w.heap.size w w' := by
  have h2 := hp.2
  unfold maxLen at h2
  have hba : Below w.heap.size w (w.alloc (.cells #[.string p.1, .string p.2] 34)) := (Below.refl _ _).alloc (Nat.le_refl _) _
  have hk := spec_keyOk p.1 (w.alloc (.cells #[.string p.1, .string p.2] 34)) hs
  cases hK : keyOk p.1
  · rw [hK] at hk
    have HK := Hid.mk' hk
    have H1 := Hid.mk' hK
    clear hk hK
    go_enter Tryz.func107, Tryz.ntmps107
    go_wp2_with fail
    refine HK.out.mono ?_
    rintro e w1 ⟨rfl, rfl⟩
    go_wp2_with fail
    go_ret
    exact ⟨ret_bool (by unfold pairOk; rw [H1.out]; rfl), hba⟩
  · rw [hK] at hk
    have HK := Hid.mk' hk
    have H1 := Hid.mk' hK
    clear hk hK
    go_enter Tryz.func107, Tryz.ntmps107
    go_wp2_with fail
    refine HK.out.mono ?_
    rintro e w1 ⟨rfl, rfl⟩
    go_wp2_with fail
    go_ret
    exact ⟨ret_bool (by unfold pairOk; rw [H1.out]; simp; omega), hba⟩

theorem str_ne {a b : ByteArray} (h : a ≠ b) : (a.toList == b.toList) = false := by
  rw [beq_eq_false_iff_ne]; intro e; rw [ByteArray.toList_eq, ByteArray.toList_eq] at e; exact h (bytes_ext e)


set_option maxHeartbeats 1000000 in
theorem spec_l3In (key lo hi : ByteArray) (w : World) :
    Calls Tryz.prog 70 #[.string key, .string lo, .string hi] w fun e w' => e = .returned (.bool (inB lo hi key)) ∧ w' = w := by
  have hz : hi.size = 0 ↔ hi = ⟨#[]⟩ := by
    constructor
    · intro h; apply bytes_ext; exact List.eq_nil_of_length_eq_zero (by rw [Array.length_toList]; exact h)
    · rintro rfl; rfl
  cases h1 : Op.bytesLess key.toList lo.toList
  · have H1 : Hid (ltB key lo = false) := h1
    by_cases h2 : hi = ⟨#[]⟩
    · have H2 : Hid (hi.size = 0) := hz.2 h2
      subst h2
      go_enter Tryz.func70, Tryz.ntmps70
      go_wp2
      go_ret
      exact ⟨ret_bool (by unfold inB; rw [H1.out]; rfl), rfl⟩
    · have H2 : Hid (¬ hi.size = 0) := fun e => h2 (hz.1 e)
      have hq : ¬ hi.toList = [] := fun e => h2 (bytes_ext (by rw [← ByteArray.toList_eq]; exact e))
      have hq2 : hi.toList.isEmpty = false := by rw [Bool.eq_false_iff]; intro e; exact hq (List.isEmpty_iff.1 e)
      cases h3 : Op.bytesLess key.toList hi.toList
      all_goals
        have H3 : Hid (ltB key hi = _) := h3
        clear hz h2
        go_enter Tryz.func70, Tryz.ntmps70
        go_wp2
        go_ret
        exact ⟨ret_bool (by unfold inB; rw [H1.out, H3.out, decide_eq_false H2.out]; rfl), rfl⟩
  · have H1 : Hid (ltB key lo = true) := h1
    clear hz
    go_enter Tryz.func70, Tryz.ntmps70
    go_wp2
    go_ret
    exact ⟨ret_bool (by unfold inB; rw [H1.out]; rfl), rfl⟩

end Go.Proofs.YteammdkipnfmnaaGreatDoor.pairs

namespace Go.Proofs.YteammdkipnfmnaaGreatDoor.pairs
open Go Go.RowKit Go.Proofs.YteammdkipnfmnaaGreatDoor.base
set_option linter.unusedVariables false
set_option linter.unusedSimpArgs false

theorem take_snocP (l : List Pr) (k : Nat) (h : k < l.length) : l.take (k + 1) = l.take k ++ [l[k]] := List.take_succ_eq_append_getElem h
theorem filter_snoc (f : Pr → Bool) (l : List Pr) (k : Nat) (h : k < l.length) : (l.take (k + 1)).filter f = (l.take k).filter f ++ if f l[k] then [l[k]] else [] := by
  rw [take_snocP l k h, List.filter_append]
  cases hf : f l[k] <;> simp [List.filter_cons, hf]
theorem take_small {l : List Pr} (h : ∀ p ∈ l, small p) (k : Nat) : ∀ p ∈ l.take k, small p := fun p hp => h p (List.mem_of_mem_take hp)
theorem one_pair_cells (w : World) (p : Pr) (t : TypeId) : ∀ j u, (pairVals [p])[j]? = some u → (w.alloc (.cells #[.string p.1, .string p.2] t)).cell? ((⟨w.heap.size, 0, none⟩ : Addr).add j) = some u :=
  cells_two w (.string p.1) (.string p.2) t
theorem ownP_app {w' : World} {base n : Nat} {v' : Value} {l : List Pr} {p : Pr} (hl : l.length = n) (hs : ∀ q ∈ l, small q) (hp : small p) (h0 : ¬ v' = .slice none 0 0)
    (h : w'.ownsRow base 34 2 v' (n + 1) (pairVals l ++ pairVals [p])) : ∃ g' cap', v' = .slice (some ⟨g', 0, none⟩) (n + 1) cap' ∧ OwnP w' base g' (n + 1) cap' (l ++ [p]) := by
  rw [← pairVals_append] at h
  refine ownP_val (by simp; omega) ?_ h0 h
  intro q hq
  rcases List.mem_append.1 hq with h1 | h1
  · exact hs q h1
  · simp at h1; subst h1; exact hp



end Go.Proofs.YteammdkipnfmnaaGreatDoor.pairs
