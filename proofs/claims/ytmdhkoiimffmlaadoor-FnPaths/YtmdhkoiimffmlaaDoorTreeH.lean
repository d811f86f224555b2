/- What the specification hashes on the way up, and its check of a path. -/
import Derived.Test.YtmdhkoiimffmlaaDoorTreeP
import Derived.Test.YtmdhkoiimffmlaaDoorFits
namespace Go.Proofs.YtmdhkoiimffmlaaDoor.tree
open Go Go.RowKit Go.Proofs.YtmdhkoiimffmlaaDoor.base Go.Proofs.YtmdhkoiimffmlaaDoor.pairs Go.Proofs.YtmdhkoiimffmlaaDoor.puttext Go.Proofs.YtmdhkoiimffmlaaDoor.putnum
set_option linter.unusedVariables false
set_option linter.unusedSimpArgs false

theorem snoc_of_ne {α : Type} {l : List α} (h : l ≠ []) : ∃ q z, l = q ++ [z] := by
  exact ⟨l.dropLast, l.getLast h, (List.dropLast_concat_getLast h).symm⟩
theorem sl_bts {w : World} {g : Nat} {s : ByteArray} (h : Bts w g s) (hm : s.size ≤ maxLen) : Sl w (some ⟨g, 0, none⟩) s.size s.data.toList := by
  refine ⟨by simp, hm, fun _ => ⟨g, 0, rfl, fun i hi => ?_⟩⟩
  rw [Nat.zero_add]
  exact h.2 i (by simpa using hi)
theorem arr_size (l : List UInt8) : (⟨l.toArray⟩ : ByteArray).size = l.length := by
  show l.toArray.size = _
  exact List.size_toArray
theorem hashed_small (leaf : List UInt8) (i n : Nat) (p out : List ByteArray) (h : hashed leaf i n p = some out) (hl : leaf.length ≤ 137438953472) (hp : ∀ s ∈ p, s.size ≤ 137438953472) : ∀ s ∈ out, s.size ≤ 137438953600 := by
  induction n using Nat.strongRecOn generalizing i p out with
  | _ n ih =>
    by_cases h2 : n < 2
    · rw [hashed_low _ _ _ _ h2] at h
      split at h
      · cases h
        intro s hs
        rw [List.mem_singleton.1 hs, arr_size]; omega
      · cases h
    · have hb := half_bd n (by omega)
      cases hq : p.getLast? with
      | none =>
        have : p = [] := List.getLast?_eq_none_iff.1 hq
        subst this
        rw [hashed_none _ _ _ (by omega)] at h; cases h
      | some z =>
        have hz := hp z (List.mem_of_getLast? hq)
        have hd : ∀ s ∈ p.dropLast, s.size ≤ 137438953472 := fun s hs => hp s ((List.dropLast_sublist p).subset hs)
        by_cases hi : i < half n
        · rw [hashed_left _ _ _ _ _ (by omega) hq hi] at h
          obtain ⟨o, ho, rfl⟩ := Option.map_eq_some_iff.1 h
          intro s hs
          rcases List.mem_append.1 hs with h1 | h1
          · exact ih _ hb.2 _ _ _ ho hd s h1
          · rw [List.mem_singleton.1 h1, arr_size, nodeB_length, dg_size]; omega
        · rw [hashed_right _ _ _ _ _ (by omega) hq hi] at h
          obtain ⟨o, ho, rfl⟩ := Option.map_eq_some_iff.1 h
          intro s hs
          rcases List.mem_append.1 hs with h1 | h1
          · exact ih _ (by omega) _ _ _ ho hd s h1
          · rw [List.mem_singleton.1 h1, arr_size, nodeB_length, dg_size]; omega
theorem hashed_len (leaf : List UInt8) (i n : Nat) (p out : List ByteArray) (h : hashed leaf i n p = some out) : out.length ≤ n + 1 := by
  induction n using Nat.strongRecOn generalizing i p out with
  | _ n ih =>
    by_cases h2 : n < 2
    · rw [hashed_low _ _ _ _ h2] at h
      split at h
      · cases h; simp
      · cases h
    · have hb := half_bd n (by omega)
      cases hq : p.getLast? with
      | none =>
        have : p = [] := List.getLast?_eq_none_iff.1 hq
        subst this
        rw [hashed_none _ _ _ (by omega)] at h; cases h
      | some z =>
        by_cases hi : i < half n
        · rw [hashed_left _ _ _ _ _ (by omega) hq hi] at h
          obtain ⟨o, ho, rfl⟩ := Option.map_eq_some_iff.1 h
          have := ih _ hb.2 _ _ _ ho
          simp; omega
        · rw [hashed_right _ _ _ _ _ (by omega) hq hi] at h
          obtain ⟨o, ho, rfl⟩ := Option.map_eq_some_iff.1 h
          have := ih _ (by omega) _ _ _ ho
          simp; omega

theorem ownS_one (w : World) (s : ByteArray) (hs : s.size ≤ maxLen) : OwnS (w.alloc (.cells #[.string s] 9)) w.heap.size w.heap.size 1 1 [s] :=
  ⟨rfl, fun x hx => by rw [List.mem_singleton.1 hx]; exact hs, by simp [strVals], .inr ⟨w.heap.size, 1, #[.string s], rfl, Nat.le_refl _, heap_alloc_new w _, Nat.le_refl _, by decide, rfl, by simp [strVals]⟩⟩
theorem sls_front {w : World} {b o : Nat} {q : List ByteArray} {z : ByteArray} (h : SlS w (some ⟨b, o, none⟩) (q ++ [z]).length (q ++ [z])) : SlS w (some ⟨b, o, none⟩) q.length q := by
  obtain ⟨h1, h2, h3, h4⟩ := h
  refine ⟨rfl, by simp at h2; omega, fun s hs => h3 s (by simp [hs]), fun _ => ?_⟩
  obtain ⟨b', o', e, hc⟩ := h4 (by simp)
  refine ⟨b', o', e, fun i hi => ?_⟩
  have := hc i (by simp; omega)
  rwa [List.getElem_append_left hi] at this
theorem sls_last {w : World} {b o : Nat} {q : List ByteArray} {z : ByteArray} (h : SlS w (some ⟨b, o, none⟩) (q ++ [z]).length (q ++ [z])) : w.cell? ⟨b, o + q.length, none⟩ = some (.string z) := by
  obtain ⟨b', o', e, hc⟩ := h.2.2.2 (by simp)
  have := hc q.length (by simp)
  simp only [Option.some.injEq, Addr.mk.injEq, and_true] at e
  obtain ⟨rfl, rfl⟩ := e
  simpa using this
/-- what l4Hashed and l4All answer -/
def HPost (w : World) (r : Option (List ByteArray)) (e : Ending) (w' : World) : Prop :=
  Below w.heap.size w w' ∧ match r with
    | none => ∃ v, e = .returned (.tuple #[v, .bool false])
    | some out => ∃ g n cap, e = .returned (.tuple #[.slice (some ⟨g, 0, none⟩) n cap, .bool true]) ∧ OwnS w' w.heap.size g n cap out

set_option maxRecDepth 100000 in
set_option maxHeartbeats 4000000 in
theorem spec_l4Hashed (m : Nat) : ∀ (leaf : List UInt8) (lbase lg ln lcap i n pb po pcap : Nat) (P : List ByteArray) (w : World), n = m → n ≤ 60 → Own w lbase lg ln lcap leaf → leaf.length ≤ 137438953472 → SlS w (some ⟨pb, po, none⟩) P.length P → (∀ s ∈ P, s.size ≤ 137438953472) → P.length ≤ pcap → i < n →
    Calls Tryd.prog 85 #[.slice (some ⟨lg, 0, none⟩) ln lcap, .int .i64 (i : Int), .int .i64 (n : Int), .slice (some ⟨pb, po, none⟩) P.length pcap] w (HPost w (hashed leaf i n P)) := by
  obtain ⟨i0, hi, hz0, hz1, hz2'⟩ := info_parts info9
  induction m using Nat.strongRecOn with
  | _ m ih =>
    intro leaf lbase lg ln lcap i n pb po pcap P w hnm h60 hL hleaf hP hPs hpc hin
    subst hnm
    by_cases h2 : n < 2
    · have h2i : (n : Int) < 2 := by omega
      have hcv := conv_own hL
      have hlsz : (⟨leaf.toArray⟩ : ByteArray).size ≤ maxLen := by rw [arr_size]; unfold maxLen; omega
      have hst := hashed_low leaf i n P h2
      by_cases hpe : P = []
      · have HN : Hid (hashed leaf i n P = some [⟨leaf.toArray⟩]) := by show _ = _; rw [hst, if_pos hpe]
        subst hpe
        generalize (⟨leaf.toArray⟩ : ByteArray) = lf at *
        clear ih hL hP hPs hst hleaf
        go_enter Tryd.func85, Tryd.ntmps85
        go_wp2_with (at_builtin; fail)
        go_ret2
        refine ⟨(Below.refl _ _).alloc (Nat.le_refl _) _, ?_⟩
        rw [HN.out]
        exact ⟨w.heap.size, 1, 1, rfl, ownS_one w lf hlsz⟩
      · have HN : Hid (hashed leaf i n P = none) := by show _ = _; rw [hst, if_neg hpe]
        have hpl : ¬ P.length = 0 := fun e => hpe (List.eq_nil_of_length_eq_zero e)
        have hpm := hP.2.1
        unfold maxLen at hpm
        have hpli : ¬ (P.length : Int) = 0 := by omega
        have hpd : ((P.length : Int) == 0) = false := by rw [beq_eq_false_iff_ne]; exact hpli
        clear ih hL hP hPs hst hleaf hpe
        go_enter Tryd.func85, Tryd.ntmps85
        go_wp2_with (at_builtin; fail)
        go_ret2
        refine ⟨(Below.refl _ _).alloc (Nat.le_refl _) _, ?_⟩
        rw [HN.out]
        exact ⟨_, rfl⟩
    have h2i : ¬ (n : Int) < 2 := by omega
    by_cases hpe : P = []
    · subst hpe
      have HN : Hid (hashed leaf i n [] = none) := hashed_none leaf i n (by omega)
      clear ih hL hP hPs hleaf
      go_enter Tryd.func85, Tryd.ntmps85
      go_wp2_with (at_builtin; fail)
      go_ret2
      refine ⟨(Below.refl _ _).alloc (Nat.le_refl _) _, ?_⟩
      rw [HN.out]
      exact ⟨_, rfl⟩
    obtain ⟨Q, z, rfl⟩ := snoc_of_ne hpe
    have hbd := half_bd n (by omega)
    have HH := Hid.mk' (spec_half n w (by omega) (by omega))
    have hpl := hashed_left leaf i n (Q ++ [z]) z (by omega) List.getLast?_concat
    have hpr := hashed_right leaf i n (Q ++ [z]) z (by omega) List.getLast?_concat
    rw [List.dropLast_concat] at hpl hpr
    obtain ⟨k, hk⟩ : ∃ k, half n = k := ⟨_, rfl⟩
    rw [hk] at hbd HH hpl hpr
    have hz2 := hPs z (by simp)
    have hQ : ∀ s ∈ Q, s.size ≤ 137438953472 := fun s hs => hPs s (by simp [hs])
    have hPQ : ∀ wx, Below w.heap.size w wx → SlS wx (some ⟨pb, po, none⟩) Q.length Q := fun wx hx => sls_front (hP.below hx)
    have hcz := sls_last hP
    have hlen : (Q ++ [z]).length = Q.length + 1 := by simp
    rw [hlen] at hP hpc ⊢
    have hqm := hP.2.1
    unfold maxLen at hqm
    have q1 : (Q.length : Int) ≤ (pcap : Int) := by omega
    have hrecL : ∀ (at_ mm : Nat), mm < n → at_ < mm → Calls Tryd.prog 85 #[.slice (some ⟨lg, 0, none⟩) ln lcap, .int .i64 (at_ : Int), .int .i64 (mm : Int), .slice (some ⟨pb, po, none⟩) Q.length pcap] w (HPost w (hashed leaf at_ mm Q)) :=
      fun at_ mm h1 h2 => ih mm (by omega) leaf lbase lg ln lcap at_ mm pb po pcap Q w rfl (by omega) hL hleaf (hPQ w (Below.refl _ _)) hQ (by omega) h2
    clear ih hP hL hPs hPQ hlen hk hpe
    by_cases hik : i < k
    · have hst := hpl hik
      have hiki : (i : Int) < (k : Int) := by omega
      have hrec := hrecL i k (by omega) hik
      clear hpl hpr hrecL
      cases hh : hashed leaf i k Q with
      | none =>
        have HN : Hid (hashed leaf i n (Q ++ [z]) = none) := by show _ = _; rw [hst, hh]; rfl
        rw [hh] at hrec
        have HR := Hid.mk' hrec
        clear hrec hh hst
        go_enter Tryd.func85, Tryd.ntmps85
        go_wp2_with (at_builtin; fail)
        refine HH.out.mono ?_
        rintro e w2 ⟨rfl, hw2⟩
        subst hw2
        go_wp2_with (at_builtin; fail)
        refine HR.out.mono ?_
        rintro e w5 ⟨hB5, v, rfl⟩
        go_wp2_with (at_builtin; fail)
        go_ret2
        exact ⟨hB5.alloc hB5.size _, by rw [HN.out]; exact ⟨_, rfl⟩⟩
      | some out =>
        obtain ⟨out', y, rfl⟩ := snoc_of_ne (hashed_ne _ _ _ _ _ hh)
        have HN : Hid (hashed leaf i n (Q ++ [z]) = some (out' ++ [y] ++ [⟨(nodeB (dg y.data.toList) z).toArray⟩])) := by
          show _ = _; rw [hst, hh]; simp
        have hsm := hashed_small leaf i k Q _ hh hleaf hQ
        have hol0 := hashed_len leaf i k Q _ hh
        have hy := hsm y (by simp)
        rw [hh] at hrec
        have HR := Hid.mk' hrec
        have hds := dg_size y.data.toList
        have hnb := nodeB_length (dg y.data.toList) z
        have hnb2 := nodeB_length z (dg y.data.toList)
        have HSM := Hid.mk' hsm
        clear hrec hh hst hsm
        go_enter Tryd.func85, Tryd.ntmps85
        go_wp2_with (at_builtin; fail)
        refine HH.out.mono ?_
        rintro e w2 ⟨rfl, hw2⟩
        subst hw2
        go_wp2_with (at_builtin; fail)
        refine HR.out.mono ?_
        rintro e w5 ⟨hB5, g5, n5, cp5, rfl, hO5⟩
        have hn5 := hO5.1
        have hn5' : n5 = out'.length + 1 := by simp at hn5; omega
        subst hn5'
        have hcy := hO5.at out'.length (by simp)
        simp only [List.getElem_concat_length] at hcy
        have hconv := Lib.run_convert_string_bytes (P := Tryd.prog) w5 9 22 5 y Tryd.underlying9 Tryd.underlying22 Tryd.underlying5
        have hBb := below_bytesWorld w5 5 y
        have HD := Hid.mk' (fun c => sha.spec_digest w5.heap.size 0 y.size c y.data.toList (Lib.bytesWorld w5 5 y) (sl_bts (bts_new w5 y) (by unfold maxLen; omega)) (by omega))
        have hol : out'.length ≤ 100 := by simp at hol0; omega
        have HB5 := Hid.mk' hB5
        have HO5 := Hid.mk' hO5
        clear hB5 hO5 hn5
        go_wp2_with (at_builtin; fail)
        refine (HD.out _).mono ?_
        rintro e w6 ⟨rfl, hb6⟩
        have hB6 : Below w5.heap.size w5 w6 := hBb.trans (hb6.mono hBb.size)
        have hO6 := HO5.out.below hB6
        have hB6' := HB5.out.trans (hB6.mono HB5.out.size)
        have hdd : (⟨(sha.digest y.data.toList).toArray⟩ : ByteArray) = dg y.data.toList := rfl
        rw [hdd]
        have HL := Hid.mk' (fun wx => spec_l4Node (dg y.data.toList) z wx (by omega) hz2)
        generalize dg y.data.toList = d at *
        clear hconv hBb HD hb6 hB6 HO5 HB5 hcy
        go_wp2_with (at_builtin; fail)
        refine (HL.out _).mono ?_
        rintro e w7 ⟨g7, n7, cp7, rfl, hO7, hb7⟩
        have hcv := conv_own hO7
        have hnds : (⟨(nodeB d z).toArray⟩ : ByteArray).size ≤ maxLen := by rw [arr_size, nodeB_length]; unfold maxLen; omega
        obtain ⟨nd, hnd⟩ : ∃ nd, (⟨(nodeB d z).toArray⟩ : ByteArray) = nd := ⟨_, rfl⟩
        rw [hnd] at hcv hnds HN
        clear hnd
        have hO8 := hO6.below hb7
        have hB7 := hB6'.trans (hb7.mono hB6'.size)
        have hs7 := hB7.size
        clear hO6 hB6' hb7 hO7 HL
        have hc3 : out'.length + 1 + 1 ≤ maxLen := by unfold maxLen; omega
        have hc4 : (out'.length + 1 + 1) * 16 ≤ 140737488355328 := by omega
        go_wp2_with (at_builtin; refine wpList_append_own _ rfl (.tmp 74) (.tmp 79) 33 rfl w2.heap.size 9 i0 (.string ⟨#[]⟩) 1 16 Tryd.underlying33 hi hz0 hz1 hz2' rfl (by decide) _ _ _ rfl (hO8.2.2.alloc _) ⟨w7.heap.size, 0, none⟩ 1 1 [.string nd] rfl rfl (cell_one_new _ _ _) (str_oneCell _) hc3 hc4 (le_alloc _ _ hs7) ?_)
        intro v9 w9 hown hgrow hnn
        have hnn' : ¬ v9 = .slice none 0 0 := by simpa using hnn
        obtain ⟨g9, cap9, hv, hO9⟩ := ownS_val (ss := out' ++ [y] ++ [nd]) (n := out'.length + 1 + 1) (by simp) (fun s hs => by
          rcases List.mem_append.1 hs with h1 | h1
          · exact hO8.2.1 s h1
          · rw [List.mem_singleton.1 h1]; exact hnds) hnn' (by simpa [strVals] using hown)
        subst hv
        have hB9 : Below w2.heap.size w2 w9 := (hB7.alloc hs7 _).grown hgrow (le_alloc _ _ hs7) (fun k e => by simp [Value.ownBlock] at e; have := hO8.lt; omega)
        have HO9 := Hid.mk' hO9
        clear hown hgrow hnn hnn' hO9 hO8 hB7
        go_wp2_with (at_builtin; fail)
        go_ret2
        exact ⟨hB9, by rw [HN.out]; exact ⟨g9, _, cap9, rfl, HO9.out⟩⟩
    · have hst := hpr hik
      have hiki : ¬ (i : Int) < (k : Int) := by omega
      obtain ⟨j, hj⟩ : ∃ j, i - k = j := ⟨_, rfl⟩
      obtain ⟨r, hr⟩ : ∃ r, n - k = r := ⟨_, rfl⟩
      rw [hj, hr] at hst
      have hji : (i : Int) - (k : Int) = (j : Int) := by omega
      have hri : (n : Int) - (k : Int) = (r : Int) := by omega
      have hrec := hrecL j r (by omega) (by omega)
      clear hpl hpr hrecL hj hr
      cases hh : hashed leaf j r Q with
      | none =>
        have HN : Hid (hashed leaf i n (Q ++ [z]) = none) := by show _ = _; rw [hst, hh]; rfl
        rw [hh] at hrec
        have HR := Hid.mk' hrec
        clear hrec hh hst
        go_enter Tryd.func85, Tryd.ntmps85
        go_wp2_with (at_builtin; fail)
        refine HH.out.mono ?_
        rintro e w2 ⟨rfl, hw2⟩
        subst hw2
        go_wp2_with (at_builtin; fail)
        refine HR.out.mono ?_
        rintro e w5 ⟨hB5, v, rfl⟩
        go_wp2_with (at_builtin; fail)
        go_ret2
        exact ⟨hB5.alloc hB5.size _, by rw [HN.out]; exact ⟨_, rfl⟩⟩
      | some out =>
        obtain ⟨out', y, rfl⟩ := snoc_of_ne (hashed_ne _ _ _ _ _ hh)
        have HN : Hid (hashed leaf i n (Q ++ [z]) = some (out' ++ [y] ++ [⟨(nodeB z (dg y.data.toList)).toArray⟩])) := by
          show _ = _; rw [hst, hh]; simp
        have hsm := hashed_small leaf j r Q _ hh hleaf hQ
        have hol0 := hashed_len leaf j r Q _ hh
        have hy := hsm y (by simp)
        rw [hh] at hrec
        have HR := Hid.mk' hrec
        have hds := dg_size y.data.toList
        have hnb := nodeB_length (dg y.data.toList) z
        have hnb2 := nodeB_length z (dg y.data.toList)
        have HSM := Hid.mk' hsm
        clear hrec hh hst hsm
        go_enter Tryd.func85, Tryd.ntmps85
        go_wp2_with (at_builtin; fail)
        refine HH.out.mono ?_
        rintro e w2 ⟨rfl, hw2⟩
        subst hw2
        go_wp2_with (at_builtin; fail)
        refine HR.out.mono ?_
        rintro e w5 ⟨hB5, g5, n5, cp5, rfl, hO5⟩
        have hn5 := hO5.1
        have hn5' : n5 = out'.length + 1 := by simp at hn5; omega
        subst hn5'
        have hcy := hO5.at out'.length (by simp)
        simp only [List.getElem_concat_length] at hcy
        have hconv := Lib.run_convert_string_bytes (P := Tryd.prog) w5 9 22 5 y Tryd.underlying9 Tryd.underlying22 Tryd.underlying5
        have hBb := below_bytesWorld w5 5 y
        have HD := Hid.mk' (fun c => sha.spec_digest w5.heap.size 0 y.size c y.data.toList (Lib.bytesWorld w5 5 y) (sl_bts (bts_new w5 y) (by unfold maxLen; omega)) (by omega))
        have hol : out'.length ≤ 100 := by simp at hol0; omega
        have HB5 := Hid.mk' hB5
        have HO5 := Hid.mk' hO5
        clear hB5 hO5 hn5
        go_wp2_with (at_builtin; fail)
        refine (HD.out _).mono ?_
        rintro e w6 ⟨rfl, hb6⟩
        have hB6 : Below w5.heap.size w5 w6 := hBb.trans (hb6.mono hBb.size)
        have hO6 := HO5.out.below hB6
        have hB6' := HB5.out.trans (hB6.mono HB5.out.size)
        have hdd : (⟨(sha.digest y.data.toList).toArray⟩ : ByteArray) = dg y.data.toList := rfl
        rw [hdd]
        have HL := Hid.mk' (fun wx => spec_l4Node z (dg y.data.toList) wx hz2 (by omega))
        generalize dg y.data.toList = d at *
        clear hconv hBb HD hb6 hB6 HO5 HB5 hcy
        go_wp2_with (at_builtin; fail)
        refine (HL.out _).mono ?_
        rintro e w7 ⟨g7, n7, cp7, rfl, hO7, hb7⟩
        have hcv := conv_own hO7
        have hnds : (⟨(nodeB z d).toArray⟩ : ByteArray).size ≤ maxLen := by rw [arr_size, nodeB_length]; unfold maxLen; omega
        obtain ⟨nd, hnd⟩ : ∃ nd, (⟨(nodeB z d).toArray⟩ : ByteArray) = nd := ⟨_, rfl⟩
        rw [hnd] at hcv hnds HN
        clear hnd
        have hO8 := hO6.below hb7
        have hB7 := hB6'.trans (hb7.mono hB6'.size)
        have hs7 := hB7.size
        clear hO6 hB6' hb7 hO7 HL
        have hc3 : out'.length + 1 + 1 ≤ maxLen := by unfold maxLen; omega
        have hc4 : (out'.length + 1 + 1) * 16 ≤ 140737488355328 := by omega
        go_wp2_with (at_builtin; refine wpList_append_own _ rfl (.tmp 81) (.tmp 86) 33 rfl w2.heap.size 9 i0 (.string ⟨#[]⟩) 1 16 Tryd.underlying33 hi hz0 hz1 hz2' rfl (by decide) _ _ _ rfl (hO8.2.2.alloc _) ⟨w7.heap.size, 0, none⟩ 1 1 [.string nd] rfl rfl (cell_one_new _ _ _) (str_oneCell _) hc3 hc4 (le_alloc _ _ hs7) ?_)
        intro v9 w9 hown hgrow hnn
        have hnn' : ¬ v9 = .slice none 0 0 := by simpa using hnn
        obtain ⟨g9, cap9, hv, hO9⟩ := ownS_val (ss := out' ++ [y] ++ [nd]) (n := out'.length + 1 + 1) (by simp) (fun s hs => by
          rcases List.mem_append.1 hs with h1 | h1
          · exact hO8.2.1 s h1
          · rw [List.mem_singleton.1 h1]; exact hnds) hnn' (by simpa [strVals] using hown)
        subst hv
        have hB9 : Below w2.heap.size w2 w9 := (hB7.alloc hs7 _).grown hgrow (le_alloc _ _ hs7) (fun k e => by simp [Value.ownBlock] at e; have := hO8.lt; omega)
        have HO9 := Hid.mk' hO9
        clear hown hgrow hnn hnn' hO9 hO8 hB7
        go_wp2_with (at_builtin; fail)
        go_ret2
        exact ⟨hB9, by rw [HN.out]; exact ⟨g9, _, cap9, rfl, HO9.out⟩⟩

end Go.Proofs.YtmdhkoiimffmlaaDoor.tree
