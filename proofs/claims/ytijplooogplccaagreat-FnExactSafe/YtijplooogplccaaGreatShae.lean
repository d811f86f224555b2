/- OrdV OrdX CoS -/
import Derived.Test.YtijplooogplccaaGreatShad
import Derived.Test.YtijplooogplccaaGreatShab
import Derived.Test.YtijplooogplccaaGreatShac
set_option linter.unusedVariables false
set_option linter.unusedSimpArgs false
namespace Go.Proofs.YtijplooogplccaaGreat
namespace ords
open Go Go.RowKit base pairs
theorem apply1_length (m : List Pr) (o : Od) : (apply1 m o).length ≤ m.length + 1 := by
 unfold apply1
 split
 · exact (putKey_length _ _ _).1
 · split
   · exact Nat.le_trans (List.length_filter_le _ _) (by omega)
   · omega
set_option maxRecDepth 100000 in
set_option maxHeartbeats 2000000 in
theorem spec_apply (b off len cap : Nat) (m : List Pr) (a2 : Option Addr) (len2 cap2 : Nat) (l : List Od) (w : World) (h : SlP w (some ⟨b, off, none⟩) len m) (h2 : SlO w a2 len2 l) (hsz : len + len2 ≤ 1099511627776) :
 Calls Tryz.prog 128 #[.slice (some ⟨b, off, none⟩) len cap, .slice a2 len2 cap2] w fun e w' =>
  ∃ g' n' cap', e = .returned (.slice (some ⟨g', 0, none⟩) n' cap') ∧ OwnP w' w.heap.size g' n' cap' (applyAll m l) ∧ Below w.heap.size w w' := by
 obtain ⟨i0, hif, hz0, hz1, hz2⟩ := info_parts infoP
 have hl := h.1
 have hsm := h.2.2.1
 have hl2 := h2.1
 have hsm2 := h2.2.2.1
 subst hl hl2
 have hba : Below w.heap.size w (w.alloc (.cells #[] 151)) := (Below.refl _ _).alloc (Nat.le_refl _) _
 have HC := Hid.mk' (cells_pairs (h.below hba).cells)
 have hn0 := pairVals_length m
 have hm1 : 0 + m.length ≤ maxLen := by unfold maxLen; omega
 have hm2 : (0 + m.length) * 32 ≤ 140737488355328 := by omega
 have hown0 := (ownP_made w w.heap.size (Nat.le_refl _)).2.2
 go_enter Tryz.func128, Tryz.ntmps128
 go_wp2_with (at_builtin; refine wpList_append_own _ rfl (.tmp 7) (.tmp 8) 53 rfl w.heap.size 151 i0 (.agg #[.string ⟨#[]⟩, .string ⟨#[]⟩]) 2 32 Tryz.underlying53 hif hz0 hz1 hz2 rfl (by decide) _ _ _ rfl hown0 ⟨b, off, none⟩ m.length cap (pairVals m) rfl hn0 HC.out (pairVals_oneCell _) hm1 hm2 (le_alloc _ _ (Nat.le_refl _)) ?_)
 intro v1 w1 hown hgrow hnn
 have hnn' : ¬ v1 = .slice none 0 0 := by simpa using hnn
 obtain ⟨g1, cap1, hv, hO1⟩ := ownP_val rfl hsm hnn' (by simpa [pairVals] using hown)
 subst hv
 have hB1 : Below w.heap.size w w1 := hba.grown hgrow (le_alloc _ _ (Nat.le_refl _)) (fun k e => by simp [Value.ownBlock] at e; omega)
 clear hown hgrow hnn hnn' hown0 HC hn0 hm1 hm2 hba
 go_wp2_with (at_builtin; fail)
 go_loopw [5, 6] (fun v i wr => ∃ (k g n cp : Nat), k ≤ l.length ∧ n ≤ m.length + k ∧ i = .int .i64 (k : Int) ∧ v = .slice (some ⟨g, 0, none⟩) n cp ∧ OwnP wr w.heap.size g n cp (applyAll m (l.take k)) ∧ Below w.heap.size w wr) (fun _ i _ => l.length - (intOf i).toNat)
 case atStart => exact ⟨0, g1, _, cap1, Nat.zero_le _, by omega, rfl, rfl, hO1, hB1⟩
 case round =>
  clear hO1 hB1
  obtain ⟨k, g, n, cp, hk, hn, rfl, rfl, hO, hB⟩ := hrel
  by_cases hlt : k < l.length
  · obtain ⟨b2, off2, ha, hcl⟩ := h2.2.2.2 (by omega)
    subst ha
    obtain ⟨c0, c1, c2⟩ := (h2.below hB).cells k hlt
    have hpk := hsm2 _ (List.getElem_mem hlt)
    have hki : (k : Int) < (l.length : Int) := by omega
    have HU := Hid.mk' (apply_take m l k hlt)
    have hpl := apply1_length (applyAll m (l.take k)) l[k]
    have hOd : OwnP wr.drew w.heap.size g n cp (applyAll m (l.take k)) := hO
    have hcs := hO.cases
    have hul := hO.1
    generalize l[k] = p at *
    generalize applyAll m (l.take k) = u at *
    obtain ⟨z, key, val⟩ := p
    simp only [] at c0 c1 c2 hpk
    clear hcl
    by_cases hz : z = 1
    · subst hz
      have HU2 : Hid (applyAll m (l.take (k + 1)) = putKey key val u) := by show _ = _; rw [HU.out]; rfl
      have hpl2 := (putKey_length key val u).1
      clear HU hpl
      go_wp2_with (at_builtin; fail)
      go_region_held3 (fun w' => w'.cell? ⟨b2, off2 + k * 3 + 1, none⟩ = some (.string key) ∧ w'.cell? ⟨b2, off2 + k * 3 + 2, none⟩ = some (.string val)) (first | (exact keepB2 hb5 (by assumption)) | (go_keep)) (first | (go_at_call 152; refine (spec_putKey g 0 n cp u key val _ hOd.sl hcs.1 (by omega) hpk.2.1 hpk.2.2).mono ?_; rintro e w5 ⟨g5, n5, cp5, rfl, hO5, hb5⟩))
      all_goals
       have hB5 : Below w.heap.size w w5 := hB.drew.trans (hb5.mono hB.size)
       have hO5' := hO5.mono (base' := w.heap.size) hB.size
       rw [← HU2.out] at hO5'
       have hn5 : n5 ≤ m.length + (k + 1) := by have := hO5.1; omega
       have HO5 := Hid.mk' hO5'
       clear hb5 hO5 hO5' hO hOd hB c0 c1 c2
       go_wp2_with (at_builtin; fail)
       go_roundw
       case rel => exact ⟨k + 1, g5, n5, cp5, by omega, hn5, by go_num, rfl, HO5.out, hB5⟩
       case measure => simp [intOf]; omega
    · have hb1 : (z == 1) = false := beq_eq_false_iff_ne.2 hz
      by_cases hz2 : z = 2
      · subst hz2
        have HU2 : Hid (applyAll m (l.take (k + 1)) = delKey key u) := by show _ = _; rw [HU.out]; rfl
        have hpl2 : (delKey key u).length ≤ u.length := List.length_filter_le _ _
        clear HU hpl hz
        go_wp2_with (at_builtin; fail)
        refine (spec_delKey g 0 n cp u key _ hO.sl (by omega)).mono ?_
        rintro e w5 ⟨g5, n5, cp5, rfl, hO5, hb5⟩
        have hB5 : Below w.heap.size w w5 := hB.trans (hb5.mono hB.size)
        have hO5' := hO5.mono (base' := w.heap.size) hB.size
        rw [← HU2.out] at hO5'
        have hn5 : n5 ≤ m.length + (k + 1) := by have := hO5.1; omega
        have HO5 := Hid.mk' hO5'
        clear hb5 hO5 hO5' hO hOd hB c0 c1 c2
        go_wp2_with (at_builtin; fail)
        go_roundw
        case rel => exact ⟨k + 1, g5, n5, cp5, by omega, hn5, by go_num, rfl, HO5.out, hB5⟩
        case measure => simp [intOf]; omega
      · have hb2 : (z == 2) = false := beq_eq_false_iff_ne.2 hz2
        have HU2 : Hid (applyAll m (l.take (k + 1)) = u) := by show _ = _; rw [HU.out]; unfold apply1; rw [if_neg hz, if_neg hz2]
        clear HU hpl hz hz2
        go_wp2_with (at_builtin; fail)
        go_roundw
        case rel => exact ⟨k + 1, g, n, cp, by omega, by omega, by go_num, rfl, by rw [HU2.out]; exact hO, hB⟩
        case measure => simp [intOf]; omega
  · have HE : Hid (l.take k = l) := List.take_of_length_le (by omega)
    go_wp2_with (at_builtin; fail)
    go_ret
    rw [HE.out] at hO
    exact ⟨g, n, cp, rfl, hO, hB⟩
theorem append_nothingP (w : World) (g c : Nat) (ty : TypeId) : (Builtin.append_ #[53, 53] ty #[.slice (some ⟨g, 0, none⟩) 0 0, .slice none 0 c]).run Tryz.prog w = .ok (.slice (some ⟨g, 0, none⟩) 0 0) w := by kernel_rfl
set_option maxRecDepth 100000 in
set_option maxHeartbeats 2000000 in
theorem spec_apply_nil (cap : Nat) (m : List Pr) (a2 : Option Addr) (len2 cap2 : Nat) (l : List Od) (w : World) (hm : m = []) (h2 : SlO w a2 len2 l) (hsz : len2 ≤ 1099511627776) :
 Calls Tryz.prog 128 #[.slice none 0 cap, .slice a2 len2 cap2] w fun e w' =>
  ∃ g' n' cap', e = .returned (.slice (some ⟨g', 0, none⟩) n' cap') ∧ OwnP w' w.heap.size g' n' cap' (applyAll m l) ∧ Below w.heap.size w w' := by
 have hl2 := h2.1
 have hsm2 := h2.2.2.1
 have hml : m.length = 0 := by rw [hm]; rfl
 subst hl2
 have hba : Below w.heap.size w (w.alloc (.cells #[] 151)) := (Below.refl _ _).alloc (Nat.le_refl _) _
 have hO1 : OwnP (w.alloc (.cells #[] 151)) w.heap.size w.heap.size 0 0 (applyAll m (l.take 0)) := by rw [hm]; exact ownP_made w w.heap.size (Nat.le_refl _)
 have han := append_nothingP
 have HM := Hid.mk' hml
 clear hm hml
 go_enter Tryz.func128, Tryz.ntmps128
 go_wp2_with (at_builtin; fail)
 go_loopw [5, 6] (fun v i wr => ∃ (k g n cp : Nat), k ≤ l.length ∧ n ≤ m.length + k ∧ i = .int .i64 (k : Int) ∧ v = .slice (some ⟨g, 0, none⟩) n cp ∧ OwnP wr w.heap.size g n cp (applyAll m (l.take k)) ∧ Below w.heap.size w wr) (fun _ i _ => l.length - (intOf i).toNat)
 case atStart => exact ⟨0, _, 0, 0, Nat.zero_le _, Nat.zero_le _, rfl, rfl, hO1, hba⟩
 case round =>
  have hml := HM.out
  clear hO1 hba HM han
  obtain ⟨k, g, n, cp, hk, hn, rfl, rfl, hO, hB⟩ := hrel
  by_cases hlt : k < l.length
  · obtain ⟨b2, off2, ha, hcl⟩ := h2.2.2.2 (by omega)
    subst ha
    obtain ⟨c0, c1, c2⟩ := (h2.below hB).cells k hlt
    have hpk := hsm2 _ (List.getElem_mem hlt)
    have hki : (k : Int) < (l.length : Int) := by omega
    have HU := Hid.mk' (apply_take m l k hlt)
    have hpl := apply1_length (applyAll m (l.take k)) l[k]
    have hOd : OwnP wr.drew w.heap.size g n cp (applyAll m (l.take k)) := hO
    have hcs := hO.cases
    have hul := hO.1
    generalize l[k] = p at *
    generalize applyAll m (l.take k) = u at *
    obtain ⟨z, key, val⟩ := p
    simp only [] at c0 c1 c2 hpk
    clear hcl
    by_cases hz : z = 1
    · subst hz
      have HU2 : Hid (applyAll m (l.take (k + 1)) = putKey key val u) := by show _ = _; rw [HU.out]; rfl
      have hpl2 := (putKey_length key val u).1
      clear HU hpl
      go_wp2_with (at_builtin; fail)
      go_region_held3 (fun w' => w'.cell? ⟨b2, off2 + k * 3 + 1, none⟩ = some (.string key) ∧ w'.cell? ⟨b2, off2 + k * 3 + 2, none⟩ = some (.string val)) (first | (exact keepB2 hb5 (by assumption)) | (go_keep)) (first | (go_at_call 152; refine (spec_putKey g 0 n cp u key val _ hOd.sl hcs.1 (by omega) hpk.2.1 hpk.2.2).mono ?_; rintro e w5 ⟨g5, n5, cp5, rfl, hO5, hb5⟩))
      all_goals
       have hB5 : Below w.heap.size w w5 := hB.drew.trans (hb5.mono hB.size)
       have hO5' := hO5.mono (base' := w.heap.size) hB.size
       rw [← HU2.out] at hO5'
       have hn5 : n5 ≤ m.length + (k + 1) := by have := hO5.1; omega
       have HO5 := Hid.mk' hO5'
       clear hb5 hO5 hO5' hO hOd hB c0 c1 c2
       go_wp2_with (at_builtin; fail)
       go_roundw
       case rel => exact ⟨k + 1, g5, n5, cp5, by omega, hn5, by go_num, rfl, HO5.out, hB5⟩
       case measure => simp [intOf]; omega
    · have hb1 : (z == 1) = false := beq_eq_false_iff_ne.2 hz
      by_cases hz2 : z = 2
      · subst hz2
        have HU2 : Hid (applyAll m (l.take (k + 1)) = delKey key u) := by show _ = _; rw [HU.out]; rfl
        have hpl2 : (delKey key u).length ≤ u.length := List.length_filter_le _ _
        clear HU hpl hz
        go_wp2_with (at_builtin; fail)
        refine (spec_delKey g 0 n cp u key _ hO.sl (by omega)).mono ?_
        rintro e w5 ⟨g5, n5, cp5, rfl, hO5, hb5⟩
        have hB5 : Below w.heap.size w w5 := hB.trans (hb5.mono hB.size)
        have hO5' := hO5.mono (base' := w.heap.size) hB.size
        rw [← HU2.out] at hO5'
        have hn5 : n5 ≤ m.length + (k + 1) := by have := hO5.1; omega
        have HO5 := Hid.mk' hO5'
        clear hb5 hO5 hO5' hO hOd hB c0 c1 c2
        go_wp2_with (at_builtin; fail)
        go_roundw
        case rel => exact ⟨k + 1, g5, n5, cp5, by omega, hn5, by go_num, rfl, HO5.out, hB5⟩
        case measure => simp [intOf]; omega
      · have hb2 : (z == 2) = false := beq_eq_false_iff_ne.2 hz2
        have HU2 : Hid (applyAll m (l.take (k + 1)) = u) := by show _ = _; rw [HU.out]; unfold apply1; rw [if_neg hz, if_neg hz2]
        clear HU hpl hz hz2
        go_wp2_with (at_builtin; fail)
        go_roundw
        case rel => exact ⟨k + 1, g, n, cp, by omega, by omega, by go_num, rfl, by rw [HU2.out]; exact hO, hB⟩
        case measure => simp [intOf]; omega
  · have HE : Hid (l.take k = l) := List.take_of_length_le (by omega)
    go_wp2_with (at_builtin; fail)
    go_ret
    rw [HE.out] at hO
    exact ⟨g, n, cp, rfl, hO, hB⟩
theorem spec_applyV (a : Option Addr) (len cap : Nat) (m : List Pr) (a2 : Option Addr) (len2 cap2 : Nat) (l : List Od) (w : World) (h : SlP w a len m) (hoff : ∀ ad, a = some ad → ad.spot = none) (h2 : SlO w a2 len2 l) (hsz : len + len2 ≤ 1099511627776) :
 Calls Tryz.prog 128 #[.slice a len cap, .slice a2 len2 cap2] w fun e w' =>
  ∃ g' n' cap', e = .returned (.slice (some ⟨g', 0, none⟩) n' cap') ∧ OwnP w' w.heap.size g' n' cap' (applyAll m l) ∧ Below w.heap.size w w' := by
 cases a with
 | none =>
  have h0 : len = 0 := by
   rcases Nat.eq_zero_or_pos len with e | e
   · exact e
   · obtain ⟨b, off, ha, _⟩ := h.2.2.2 e; cases ha
  subst h0
  exact spec_apply_nil cap m a2 len2 cap2 l w (List.eq_nil_of_length_eq_zero h.1) h2 (by omega)
 | some ad =>
  obtain ⟨b, off, sp⟩ := ad
  obtain rfl : sp = none := hoff _ rfl
  exact spec_apply b off len cap m a2 len2 cap2 l w h h2 hsz
theorem take_snocO' (l : List Od) (k : Nat) (h : k < l.length) : l.take (k + 1) = l.take k ++ [l[k]] := List.take_succ_eq_append_getElem h
theorem filter_snocO (f : Od → Bool) (l : List Od) (k : Nat) (h : k < l.length) : (l.take (k + 1)).filter f = (l.take k).filter f ++ if f l[k] then [l[k]] else [] := by
 rw [take_snocO' l k h, List.filter_append]
 cases hf : f l[k] <;> simp [List.filter_cons, hf]
theorem cells_three (w : World) (v1 v2 v3 : Value) (t : TypeId) : ∀ j u, [v1, v2, v3][j]? = some u → (w.alloc (.cells #[v1, v2, v3] t)).cell? ((⟨w.heap.size, 0, none⟩ : Addr).add j) = some u := by
 intro j u hj
 have hl : j < 3 := by have := (List.getElem?_eq_some_iff.1 hj).1; simpa using this
 rw [Addr.add_lit]
 match j, hl with
 | 0, _ => simp at hj; subst hj; simp [go_sem]
 | 1, _ => simp at hj; subst hj; simp [go_sem]
 | 2, _ => simp at hj; subst hj; simp [go_sem]
theorem one_ord_cells (w : World) (p : Od) (t : TypeId) : ∀ j u, (ordVals [p])[j]? = some u → (w.alloc (.cells #[.int .i64 p.1, .string p.2.1, .string p.2.2] t)).cell? ((⟨w.heap.size, 0, none⟩ : Addr).add j) = some u :=
 cells_three w (.int .i64 p.1) (.string p.2.1) (.string p.2.2) t
theorem ownO_app {w' : World} {base n : Nat} {v' : Value} {l : List Od} {p : Od} (hl : l.length = n) (hs : ∀ q ∈ l, smallO q) (hp : smallO p) (h0 : ¬ v' = .slice none 0 0)
 (h : w'.ownsRow base 126 3 v' (n + 1) (ordVals l ++ ordVals [p])) : ∃ g' cap', v' = .slice (some ⟨g', 0, none⟩) (n + 1) cap' ∧ OwnO w' base g' (n + 1) cap' (l ++ [p]) := by
 rw [← ordVals_append] at h
 refine ownO_val (by simp; omega) ?_ h0 h
 intro q hq
 rcases List.mem_append.1 hq with h1 | h1
 · exact hs q h1
 · simp at h1; subst h1; exact hp
set_option maxRecDepth 100000 in
set_option maxHeartbeats 2000000 in
theorem spec_opsFor (a : Option Addr) (len cap : Nat) (l : List Od) (s n : Int) (w : World) (h : SlO w a len l) (hsz : len ≤ 1099511627776) (hn : (Lit.int .i64 n).wf = true) (hs : (Lit.int .i64 s).wf = true) :
 Calls Tryz.prog 72 #[.slice a len cap, .int .i64 s, .int .i64 n] w fun e w' =>
  ∃ g' n' cap', e = .returned (.slice (some ⟨g', 0, none⟩) n' cap') ∧ OwnO w' w.heap.size g' n' cap' (opsFor s n l) ∧ Below w.heap.size w w' := by
 obtain ⟨i0, hi, hz0, hz1, hz2⟩ := info_parts infoO
 have hl := h.1
 have hsm := h.2.2.1
 subst hl
 go_enter Tryz.func72, Tryz.ntmps72
 go_wp2_with (at_builtin; fail)
 go_loopw [7, 8] (fun v i wr => ∃ (k g n' cp : Nat), k ≤ l.length ∧ n' ≤ k ∧ i = .int .i64 (k : Int) ∧ v = .slice (some ⟨g, 0, none⟩) n' cp ∧ OwnO wr w.heap.size g n' cp (opsFor s n (l.take k)) ∧ Below w.heap.size w wr) (fun _ i _ => l.length - (intOf i).toNat)
 case atStart => exact ⟨0, w.heap.size, 0, 0, Nat.zero_le _, Nat.le_refl _, rfl, rfl, ownO_made w _ (Nat.le_refl _), (Below.refl _ _).alloc (Nat.le_refl _) _⟩
 case round =>
  obtain ⟨k, g, m, cp, hk, hnk, rfl, rfl, hO, hB⟩ := hrel
  have hbw : w.heap.size ≤ wr.heap.size := hB.size
  by_cases hlt : k < l.length
  · obtain ⟨b, off, ha, _⟩ := h.2.2.2 (by omega)
    subst ha
    obtain ⟨c0, c1, c2⟩ := (h.below hB).cells k hlt
    have hst := filter_snocO (fun o => decide (shardOf o.2.1 n = s)) l k hlt
    have hpk := hsm _ (List.getElem_mem hlt)
    have hki : (k : Int) < (l.length : Int) := by omega
    have HSH := Hid.mk' (spec_shardOf l[k].2.1 n wr hpk.2.1 hn)
    have hrg := shardOf_range l[k].2.1 n
    have hlg := shardOf_lt l[k].2.1 n
    by_cases he : shardOf l[k].2.1 n = s
    · have HF : Hid (opsFor s n (l.take (k + 1)) = opsFor s n (l.take k) ++ [l[k]]) := by
       show List.filter _ _ = List.filter _ _ ++ _
       rw [hst]; simp [he]
      have hc3 : m + 1 ≤ maxLen := by unfold maxLen; omega
      have hc4 : (m + 1) * 40 ≤ 140737488355328 := by omega
      rw [he] at HSH
      generalize l[k] = p at *
      clear hst he hrg hlg
      go_wp2_with (at_builtin; fail)
      refine HSH.out.mono ?_
      rintro e w1 ⟨rfl, hw1⟩
      subst hw1
      go_wp2_with (at_builtin; refine wpList_append_own _ rfl _ _ 98 rfl w.heap.size 126 i0 (.agg #[.int .i64 0, .string ⟨#[]⟩, .string ⟨#[]⟩]) 3 40 Tryz.underlying98 hi hz0 hz1 hz2 rfl (by decide) _ _ _ rfl (hO.2.2.alloc _) ⟨w1.heap.size, 0, none⟩ 1 1 (ordVals [p]) rfl rfl (one_ord_cells _ _ _) (ordVals_oneCell _) hc3 hc4 (le_alloc _ _ hbw) ?_)
      intro v2 w2 hown hgrow hnn
      obtain ⟨g2, cp2, hv, hO2⟩ := ownO_app hO.1 hO.2.1 hpk hnn hown
      subst hv
      have hB2 : Below w.heap.size w w2 := (hB.alloc hbw _).grown hgrow (le_alloc _ _ hbw) (fun k e => by simp [Value.ownBlock] at e; have := hO.lt; omega)
      rw [← HF.out] at hO2
      have HO2 := Hid.mk' hO2
      clear hown hgrow hnn hO2 hO hB
      go_wp2_with (at_builtin; fail)
      go_roundw
      case rel => exact ⟨k + 1, g2, m + 1, cp2, by omega, by omega, by go_num, rfl, HO2.out, hB2⟩
      case measure => simp [intOf]; omega
    · have HF : Hid (opsFor s n (l.take (k + 1)) = opsFor s n (l.take k)) := by
       show List.filter _ _ = List.filter _ _
       rw [hst]; simp [he]
      have hq : (shardOf l[k].2.1 n == s) = false := beq_eq_false_iff_ne.2 he
      generalize l[k] = p at *
      generalize shardOf p.2.1 n = sh at *
      clear hst he
      go_wp2_with (at_builtin; fail)
      refine HSH.out.mono ?_
      rintro e w1 ⟨rfl, hw1⟩
      subst hw1
      go_wp2_with (at_builtin; fail)
      go_roundw
      case rel => exact ⟨k + 1, g, m, cp, by omega, by omega, by go_num, rfl, by rw [HF.out]; exact hO, hB⟩
      case measure => simp [intOf]; omega
  · have HE : Hid (l.take k = l) := List.take_of_length_le (by omega)
    go_wp2_with (at_builtin; fail)
    go_ret
    rw [HE.out] at hO
    exact ⟨g, m, cp, rfl, hO, hB⟩
end ords
namespace ords
open Go Go.RowKit base pairs
set_option maxRecDepth 100000 in
set_option maxHeartbeats 1000000 in
theorem spec_l7Has (a : Option Addr) (len cap : Nat) (zs : List Int) (n : Int) (w : World) (h : SlZ w a len zs) :
 Calls Tryz.prog 83 #[.slice a len cap, .int .i64 n] w fun e w' => e = .returned (.bool (decide (n ∈ zs))) ∧ w' = w := by
 obtain ⟨hl, hm, hc⟩ := h
 subst hl
 unfold maxLen at hm
 generalize hR : decide (n ∈ zs) = R
 have HR := Hid.mk' hR
 clear hR
 go_enter Tryz.func83, Tryz.ntmps83
 go_wp2
 go_loop [5] (fun i => ∃ k : Nat, k ≤ zs.length ∧ i = .int .i64 (k : Int) ∧ decide (n ∈ zs.drop k) = R) (fun i => zs.length - (intOf i).toNat)
 case atStart => exact ⟨0, Nat.zero_le _, rfl, HR.out⟩
 case round =>
  obtain ⟨k, hk, rfl, hr⟩ := hrel
  by_cases hlt : k < zs.length
  · obtain ⟨b, off, ha, hcl⟩ := hc (by omega)
    subst ha
    have c1 := hcl k hlt
    have hki : (k : Int) < (zs.length : Int) := by omega
    rw [List.drop_eq_getElem_cons hlt] at hr
    generalize zs[k] = z at *
    by_cases he : z = n
    · have HF : Hid (R = true) := by show _ = _; rw [← hr, he]; simp
      subst he
      have hq : (z == z) = true := beq_self_eq_true _
      clear hr hcl hc
      go_wp2
      go_ret
      exact ⟨ret_bool HF.out.symm, rfl⟩
    · have HF : Hid (decide (n ∈ zs.drop (k + 1)) = R) := by
       show _ = _
       rw [← hr]
       have : ¬ n = z := fun e => he e.symm
       simp [this]
      have hq : (z == n) = false := beq_eq_false_iff_ne.2 he
      clear hr hcl hc he
      go_wp2
      go_round
      case rel => exact ⟨k + 1, by omega, by go_num, HF.out⟩
      case measure => simp [intOf]; omega
  · have HF : Hid (R = false) := by show _ = _; rw [← hr, List.drop_eq_nil_of_le (by omega)]; simp
    clear hr
    go_wp2
    go_ret
    exact ⟨ret_bool HF.out.symm, rfl⟩
set_option maxRecDepth 100000 in
set_option maxHeartbeats 2000000 in
theorem spec_l7Put (base g m cp : Nat) (zs : List Int) (n : Int) (w : World) (h : OwnZ w base g m cp zs) (hbs : base ≤ w.heap.size) (ha : Asc zs) (hsz : m ≤ 1099511627776) :
 Calls Tryz.prog 121 #[.slice (some ⟨g, 0, none⟩) m cp, .int .i64 n] w fun e w' =>
  ∃ g' n' cap', e = .returned (.slice (some ⟨g', 0, none⟩) n' cap') ∧ OwnZ w' base g' n' cap' (putI zs n) ∧ Below w.heap.size w w' := by
 obtain ⟨i0, hif, hz0, hz1, hz2⟩ := info_parts infoZ
 have hl := h.1
 subst hl
 have HH := Hid.mk' (spec_l7Has (some ⟨g, 0, none⟩) zs.length cp zs n w h.sl)
 by_cases hn : n ∈ zs
 · rw [decide_eq_true hn] at HH
   have HP : Hid (putI zs n = zs) := by show _ = _; unfold putI; rw [if_pos hn]
   clear hn
   go_enter Tryz.func121, Tryz.ntmps121
   go_wp2_with (at_builtin; fail)
   refine HH.out.mono ?_
   rintro e w1 ⟨rfl, hw1⟩
   subst hw1
   go_wp2_with (at_builtin; fail)
   go_ret
   exact ⟨g, _, cp, rfl, by rw [HP.out]; exact h, Below.refl _ _⟩
 · rw [decide_eq_false hn] at HH
   have HN := Hid.mk' hn
   clear hn
   have hba : Below w.heap.size w (w.alloc (.cells #[] 3)) := (Below.refl _ _).alloc (Nat.le_refl _) _
   have HC := Hid.mk' (cells_ints (h.sl.below hba).cells)
   have hn0 : (intVals zs).length = zs.length * 1 := by rw [intVals_length, Nat.mul_one]
   have hm1 : 0 + zs.length ≤ maxLen := by unfold maxLen; omega
   have hm2 : (0 + zs.length) * 8 ≤ 140737488355328 := by omega
   have hown0 := (ownZ_made w w.heap.size (Nat.le_refl _)).2
   go_enter Tryz.func121, Tryz.ntmps121
   go_wp2_with (at_builtin; fail)
   refine HH.out.mono ?_
   rintro e w1 ⟨rfl, hw1⟩
   subst hw1
   go_wp2_with (at_builtin; refine wpList_append_own _ rfl _ _ 105 rfl w1.heap.size 3 i0 (.int .i64 0) 1 8 Tryz.underlying105 hif hz0 hz1 hz2 rfl (by decide) _ _ _ rfl hown0 ⟨g, 0, none⟩ zs.length cp (intVals zs) rfl hn0 HC.out (intVals_oneCell _) hm1 hm2 (le_alloc _ _ (Nat.le_refl _)) ?_)
   intro v1 w2 hown hgrow hnn
   obtain ⟨g1, cap1, hv, hO1⟩ := ownZ_val (zs := zs) rfl (by simpa using hnn) (by simpa [intVals] using hown)
   subst hv
   have hB1 : Below w1.heap.size w1 w2 := hba.grown hgrow (le_alloc _ _ (Nat.le_refl _)) (fun k e => by simp [Value.ownBlock] at e; omega)
   have hbw2 : w1.heap.size ≤ w2.heap.size := hB1.size
   have hc3 : zs.length + 1 ≤ maxLen := by unfold maxLen; omega
   have hc4 : (zs.length + 1) * 8 ≤ 140737488355328 := by omega
   clear hown hgrow hnn hown0 HC hn0 hm1 hm2 hba HH
   go_wp2_with (at_builtin; refine wpList_append_own _ rfl _ _ 105 rfl w1.heap.size 3 i0 (.int .i64 0) 1 8 Tryz.underlying105 hif hz0 hz1 hz2 rfl (by decide) _ _ _ rfl (hO1.2.alloc _) ⟨w2.heap.size, 0, none⟩ 1 1 (intVals [n]) rfl rfl (one_int_cells _ _ _) (intVals_oneCell _) hc3 hc4 (le_alloc _ _ hbw2) ?_)
   intro v3 w3 hown hgrow hnn
   obtain ⟨g3, cap3, hv, hO3⟩ := ownZ_app (zs := zs) rfl hnn hown
   subst hv
   have hB3 : Below w1.heap.size w1 w3 := (hB1.alloc hbw2 _).grown hgrow (le_alloc _ _ hbw2) (fun k e => by simp [Value.ownBlock] at e; have := hO1.lt; omega)
   have e0 : zs ++ [n] = gap zs zs.length n := by unfold gap; simp
   rw [e0] at hO3
   clear hown hgrow hnn hO1 hB1 e0
   go_wp2_with (at_builtin; fail)
   go_loopw [6] (fun kv wr => ∃ (k : Nat) (x : Int), k ≤ zs.length ∧ kv = .int .i64 (k : Int) ∧ (∀ y ∈ zs.drop k, n < y) ∧ OwnZ wr w1.heap.size g3 (zs.length + 1) cap3 (gap zs k x) ∧ Below w1.heap.size w1 wr) (fun kv _ => (intOf kv).toNat)
   case atStart => exact ⟨zs.length, n, Nat.le_refl _, by go_num, by simp, hO3, hB3⟩
   case round =>
    clear hO3 hB3
    obtain ⟨k, x, hk, rfl, hd, hO, hB⟩ := hrel
    have hgl := gap_length zs k x hk
    by_cases hk0 : k = 0
    · subst hk0
      have HP : Hid (putI zs n = gap zs 0 n) := putI_at zs n 0 ha HN.out hk hd (.inl rfl)
      have hfz := hO.frozen 0
      have hat := hO.at 0 (by omega)
      have R := ownZ_set hO 0 n
      rw [gap_set zs 0 x n hk, ← HP.out] at R
      have HR := Hid.mk' R
      have hlt3 := hO.lt
      generalize (gap zs 0 x)[0] = y0 at *
      clear R hO hd
      go_wp2_with (at_builtin; fail)
      go_ret
      exact ⟨g3, _, cap3, rfl, HR.out.1.mono hbs, hB.trans (below_grown HR.out.2 hlt3.1 hB.size)⟩
    · obtain ⟨j, rfl⟩ : ∃ j, k = j + 1 := ⟨k - 1, by omega⟩
      have hjz : j < zs.length := by omega
      have hgp := gap_prev zs (j + 1) x (by omega) hk
      simp only [Nat.add_sub_cancel] at hgp
      have hat : wr.cell? ⟨g3, j, none⟩ = some (.int .i64 zs[j]) := by
       have := hO.at j (by omega)
       rw [this]
       have e := List.getElem?_eq_getElem (l := gap zs (j + 1) x) (i := j) (by omega)
       rw [e] at hgp
       rw [Option.some.inj hgp]
      have hat2 := hO.at (j + 1) (by omega)
      have hfz := hO.frozen (j + 1)
      have hj1 : ((j + 1 : Nat) : Int) - 1 = (j : Int) := by omega
      have hjl : ((j : Nat) : Int) < ((zs.length + 1 : Nat) : Int) := by omega
      have hjl2 : ((j + 1 : Nat) : Int) < ((zs.length + 1 : Nat) : Int) := by omega
      have hpos : (0 : Int) < ((j + 1 : Nat) : Int) := by omega
      by_cases hgt : n < zs[j]
      · have R := ownZ_set hO (j + 1) zs[j]
        have hgd := gap_down zs (j + 1) (by omega) hk
        simp only [Nat.add_sub_cancel] at hgd
        rw [gap_set zs (j + 1) x zs[j] hk, hgd] at R
        have HD : Hid (∀ y ∈ zs.drop j, n < y) := by
         intro y hy
         rw [List.drop_eq_getElem_cons hjz] at hy
         rcases List.mem_cons.1 hy with rfl | hy
         · exact hgt
         · exact hd y hy
        have HR := Hid.mk' R
        have hlt3 := hO.lt
        generalize (gap zs (j + 1) x)[j + 1] = y0 at *
        generalize zs[j] = zj at *
        clear R hO hd hgp hgd
        go_wp2_with (at_builtin; fail)
        go_roundw
        case rel => exact ⟨j, zj, by omega, by go_num, HD.out, HR.out.1, hB.trans (below_grown HR.out.2 hlt3.1 hB.size)⟩
        case measure => simp [intOf]
      · have HP : Hid (putI zs n = gap zs (j + 1) n) := putI_at zs n (j + 1) ha HN.out hk hd (.inr ⟨hjz, hgt⟩)
        have R := ownZ_set hO (j + 1) n
        rw [gap_set zs (j + 1) x n hk, ← HP.out] at R
        have HR := Hid.mk' R
        have hlt3 := hO.lt
        generalize (gap zs (j + 1) x)[j + 1] = y0 at *
        generalize zs[j] = zj at *
        clear R hO hd hgp
        go_wp2_with (at_builtin; fail)
        go_ret
        exact ⟨g3, _, cap3, rfl, HR.out.1.mono hbs, hB.trans (below_grown HR.out.2 hlt3.1 hB.size)⟩
theorem putI_length (zs : List Int) (n : Int) : (putI zs n).length ≤ zs.length + 1 := by
 unfold putI
 split
 · omega
 · have h1 : ∀ l : List Int, (l.filter fun x => decide (x < n)).length + (l.filter fun x => decide (n < x)).length ≤ l.length := by
    intro l
    induction l with
    | nil => simp
    | cons x l ih =>
     simp only [List.filter_cons]
     by_cases a : x < n
     · have b : ¬ n < x := by omega
       simp [a, b]; omega
     · by_cases b : n < x
       · simp [a, b]; omega
       · simp [a, b]; omega
   have := h1 zs
   simp only [List.length_append, List.length_cons]
   omega
set_option maxRecDepth 100000 in
set_option maxHeartbeats 2000000 in
theorem spec_shardsOf (a : Option Addr) (len cap : Nat) (l : List Od) (n : Int) (w : World) (h : SlO w a len l) (hsz : len ≤ 1099511627776) (hn : (Lit.int .i64 n).wf = true) :
 Calls Tryz.prog 82 #[.slice a len cap, .int .i64 n] w fun e w' =>
  ∃ g' n' cap', e = .returned (.slice (some ⟨g', 0, none⟩) n' cap') ∧ OwnZ w' w.heap.size g' n' cap' (shardsOf n l) ∧ Below w.heap.size w w' := by
 have hl := h.1
 have hsm := h.2.2.1
 subst hl
 go_enter Tryz.func82, Tryz.ntmps82
 go_wp2_with (at_builtin; fail)
 go_loopw [5, 6] (fun v i wr => ∃ (k g n' cp : Nat), k ≤ l.length ∧ n' ≤ k ∧ i = .int .i64 (k : Int) ∧ v = .slice (some ⟨g, 0, none⟩) n' cp ∧ OwnZ wr w.heap.size g n' cp (shardsOf n (l.take k)) ∧ Below w.heap.size w wr) (fun _ i _ => l.length - (intOf i).toNat)
 case atStart => exact ⟨0, w.heap.size, 0, 0, Nat.zero_le _, Nat.le_refl _, rfl, rfl, ownZ_made w _ (Nat.le_refl _), (Below.refl _ _).alloc (Nat.le_refl _) _⟩
 case round =>
  obtain ⟨k, g, m, cp, hk, hnk, rfl, rfl, hO, hB⟩ := hrel
  have hbw : w.heap.size ≤ wr.heap.size := hB.size
  by_cases hlt : k < l.length
  · obtain ⟨b, off, ha, _⟩ := h.2.2.2 (by omega)
    subst ha
    obtain ⟨c0, c1, c2⟩ := (h.below hB).cells k hlt
    have hpk := hsm _ (List.getElem_mem hlt)
    have hki : (k : Int) < (l.length : Int) := by omega
    have HT := Hid.mk' (shards_take n l k hlt)
    have HSH := Hid.mk' (spec_shardOf l[k].2.1 n wr hpk.2.1 hn)
    have hol := hO.1
    have hpl := putI_length (shardsOf n (l.take k)) (shardOf l[k].2.1 n)
    have HP := Hid.mk' (spec_l7Put w.heap.size g m cp (shardsOf n (l.take k)) (shardOf l[k].2.1 n) wr hO hbw (shards_asc _ _) (by omega))
    generalize l[k] = p at *
    generalize shardOf p.2.1 n = sh at *
    generalize shardsOf n (l.take k) = u at *
    go_wp2_with (at_builtin; fail)
    refine HSH.out.mono ?_
    rintro e w1 ⟨rfl, hw1⟩
    subst hw1
    go_wp2_with (at_builtin; fail)
    refine HP.out.mono ?_
    rintro e w2 ⟨g2, n2, cp2, rfl, hO2, hB2⟩
    have hB3 : Below w.heap.size w w2 := hB.trans (hB2.mono hB.size)
    have hn2 : n2 ≤ k + 1 := by have := hO2.1; omega
    rw [← HT.out] at hO2
    have HO2 := Hid.mk' hO2
    clear hO2 hO hB hB2 HP HSH HT
    go_wp2_with (at_builtin; fail)
    go_roundw
    case rel => exact ⟨k + 1, g2, n2, cp2, by omega, hn2, by go_num, rfl, HO2.out, hB3⟩
    case measure => simp [intOf]; omega
  · have HE : Hid (l.take k = l) := List.take_of_length_le (by omega)
    go_wp2_with (at_builtin; fail)
    go_ret
    rw [HE.out] at hO
    exact ⟨g, m, cp, rfl, hO, hB⟩
end ords
namespace cos
open Go Go.RowKit base pairs ords lay wds
abbrev coV (n life next sure : Int) (ja : Option Addr) (jn jc : Nat) (la : Option Addr) (ln lc : Nat) : Value := .agg #[.int .i64 n, .int .i64 life, .int .i64 next, .slice ja jn jc, .slice la ln lc, .int .i64 sure]
abbrev coO (n life next sure : Int) (ja : Option Addr) (jn jc : Nat) (la : Option Addr) (ln lc : Nat) : Obj := .cells #[.int .i64 n, .int .i64 life, .int .i64 next, .slice ja jn jc, .slice la ln lc, .int .i64 sure] 36
def BoxC (X : Nat) (n life next sure : Int) (ja : Option Addr) (jn jc : Nat) (la : Option Addr) (ln lc : Nat) (w : World) : Prop := w.heap[X]? = some (.cells #[.int .i64 n, .int .i64 life, .int .i64 next, .slice ja jn jc, .slice la ln lc, .int .i64 sure] 36 (0, 0))
section
variable {X : Nat} {n life next sure : Int} {ja : Option Addr} {jn jc : Nat} {la : Option Addr} {ln lc : Nat} {w w' : World}
theorem boxC_new (w : World) (n life next sure : Int) (ja : Option Addr) (jn jc : Nat) (la : Option Addr) (ln lc : Nat) : BoxC w.heap.size n life next sure ja jn jc la ln lc (w.alloc (coO n life next sure ja jn jc la ln lc)) := heap_alloc_new w _
theorem BoxC.cells (h : BoxC X n life next sure ja jn jc la ln lc w) : w.cell? ⟨X, 0, none⟩ = some (.int .i64 n) ∧ w.cell? ⟨X, 1, none⟩ = some (.int .i64 life) ∧ w.cell? ⟨X, 2, none⟩ = some (.int .i64 next) ∧ w.cell? ⟨X, 3, none⟩ = some (.slice ja jn jc) ∧ w.cell? ⟨X, 4, none⟩ = some (.slice la ln lc) ∧ w.cell? ⟨X, 5, none⟩ = some (.int .i64 sure) := by
 unfold BoxC at h
 simp [World.cell?, h]
theorem BoxC.lt (h : BoxC X n life next sure ja jn jc la ln lc w) : X < w.heap.size := (Array.getElem?_eq_some_iff.1 h).1
theorem BoxC.below (h : BoxC X n life next sure ja jn jc la ln lc w) (hb : Below w.heap.size w w') : BoxC X n life next sure ja jn jc la ln lc w' := (hb.block X h.lt).trans h
theorem BoxC.grown {row : Option Nat} (h : BoxC X n life next sure ja jn jc la ln lc w) (hg : w.grownBy w' row) (hne : some X ≠ row) : BoxC X n life next sure ja jn jc la ln lc w' := (hg.block X h.lt hne).trans h
theorem BoxC.fz (h : BoxC X n life next sure ja jn jc la ln lc w) (j : Nat) : w.frozen? ⟨X, j, none⟩ = false := by unfold BoxC at h; simp [World.frozen?, h]
end
theorem below_new (w : World) (o : Obj) : Below w.heap.size w (w.alloc o) := (Below.refl _ _).alloc (Nat.le_refl _) _
theorem idx_some (k : Nat) : idx (some k) = (k : Int) := rfl
theorem idx_none : idx none = -1 := rfl
set_option maxRecDepth 100000 in
set_option maxHeartbeats 1000000 in
theorem spec_chosen (n life next sure : Int) (ja : Option Addr) (jn jc : Nat) (la : Option Addr) (ln lc : Nat) (log : List Ch) (tx : Int) (w : World) (h : SlG chR w la ln log) :
 Calls Tryz.prog 44 #[coV n life next sure ja jn jc la ln lc, .int .i64 tx] w fun e w' => e = .returned (.int .i64 (idx (chosen log tx))) ∧ w' = w.alloc (coO n life next sure ja jn jc la ln lc) := by
 have hl := h.1
 have hm := h.2.1
 unfold maxLen at hm
 have hb := below_new w (coO n life next sure ja jn jc la ln lc)
 have hbx := boxC_new w n life next sure ja jn jc la ln lc
 have hS := h.below hb
 obtain ⟨W, hW⟩ : ∃ W, w.alloc (coO n life next sure ja jn jc la ln lc) = W := ⟨_, rfl⟩
 rw [hW] at hbx hS
 have HW := Hid.mk' hW
 obtain ⟨c0, c1, c2, c3, c4, c5⟩ := hbx.cells
 clear h hb hW
 rw [HW.out]
 go_enter Tryz.func44, Tryz.ntmps44
 go_wp2_with fail
 rw [HW.out]
 go_loopw [5] (fun i wr => ∃ k : Nat, k ≤ ln ∧ i = .int .i64 (k : Int) ∧ wr = W ∧ ∀ j (hj : j < k) (hjl : j < log.length), log[j].1 ≠ tx) (fun i _ => ln - (intOf i).toNat)
 case atStart => exact ⟨0, Nat.zero_le _, rfl, rfl, fun j hj => absurd hj (by omega)⟩
 case round =>
  obtain ⟨k, hk, rfl, hwr, hall⟩ := hrel
  replace hwr := hwr.symm
  subst hwr
  have HALL := Hid.mk' hall
  clear hall
  by_cases hlt : k < ln
  · have hltl : k < log.length := by omega
    obtain ⟨b, off, e⟩ := slg_some hS (by omega)
    subst e
    have hki : (k : Int) < (ln : Int) := by omega
    have hat := (ch_at hS k hltl).1
    by_cases ht : log[k].1 = tx
    · have HF : Hid (idx (chosen log tx) = (k : Int)) := by
       show _ = _
       rw [show chosen log tx = some k from findIdx_hit hltl (fun i hi => decide_eq_false (HALL.out i hi (by omega))) (decide_eq_true ht)]
       rfl
      rw [ht] at hat
      clear ht HALL
      go_wp2_with fail
      go_ret
      exact ⟨ret_int HF.out.symm, rfl⟩
    · have HN : Hid (∀ j (hj : j < k + 1) (hjl : j < log.length), log[j].1 ≠ tx) := fun j hj hjl => by
       rcases Nat.lt_succ_iff_lt_or_eq.1 hj with e | e
       · exact HALL.out j e hjl
       · subst e; exact ht
      generalize log[k].1 = txk at *
      have htb : (txk == tx) = false := beq_eq_false_iff_ne.2 ht
      clear HALL
      go_wp2_with fail
      go_roundw
      case rel => exact ⟨k + 1, by omega, by go_num, by first | rfl | trivial, HN.out⟩
      case measure => simp [intOf]; omega
  · have hnk : ¬ (k : Int) < (ln : Int) := by omega
    have HF : Hid (idx (chosen log tx) = -1) := by
     show _ = _
     rw [show chosen log tx = none from findIdx_none (fun i hi => decide_eq_false (HALL.out i (by omega) hi))]
     rfl
    clear HALL
    go_wp2_with fail
    go_ret
    exact ⟨ret_int HF.out.symm, rfl⟩
end cos
end Go.Proofs.YtijplooogplccaaGreat
