/- OrdK RecP RecQ -/
import Derived.Test.YtijplooogplccaaGreatShal
import Derived.Test.YtijplooogplccaaGreatShae
import Derived.BigQuiet
set_option linter.unusedVariables false
set_option linter.unusedSimpArgs false
namespace Go.Proofs.YtijplooogplccaaGreat
namespace ords
open Go Go.RowKit base pairs
def need1 (m : List Pr) (k v : ByteArray) : Bool := match getKey k m with | none => decide (v.size = 0) | some x => decide (v.size ≠ 0) && decide (x = v)
theorem meet1_need (m : List Pr) (z : Int) (k v : ByteArray) : meet1 m (z, k, v) = (decide (z ≠ 3) || need1 m k v) := rfl
set_option maxRecDepth 100000 in
set_option maxHeartbeats 1000000 in
theorem i_needHolds (b off len cap : Nat) (m : List Pr) (z : Int) (k v : ByteArray) (w : World) (h : SlP w (some ⟨b, off, none⟩) len m) :
 Calls Tryz.prog 169 #[.slice (some ⟨b, off, none⟩) len cap, .agg #[.int .i64 z, .string k, .string v]] w fun e w' => e = .returned (.bool (need1 m k v)) ∧ Below w.heap.size w w' := by
 have hba : Below w.heap.size w (w.alloc (.cells #[.int .i64 z, .string k, .string v] 126)) := (Below.refl _ _).alloc (Nat.le_refl _) _
 have hG := impl_getKey b off len cap m k _ (h.below hba)
 unfold need1
 cases hg : getKey k m with
 | none =>
  rw [hg] at hG
  simp only [getRet] at hG ⊢
  have HG := Hid.mk' hG
  clear hG hg
  by_cases hv : v.size = 0
  · rw [decide_eq_true hv]
    obtain rfl := size_empty hv
    clear hv
    go_enter Tryz.func169, Tryz.ntmps169
    go_wp2_with fail
    refine HG.out.mono ?_
    rintro e w1 ⟨rfl, hb1⟩
    have hc := bcell hb1
    go_wp2_with fail
    go_ret
    exact ⟨rfl, hba.trans (hb1.mono hba.size)⟩
  · rw [decide_eq_false hv]
    obtain ⟨hq, hq2⟩ := not_empty hv
    clear hv
    go_enter Tryz.func169, Tryz.ntmps169
    go_wp2_with fail
    refine HG.out.mono ?_
    rintro e w1 ⟨rfl, hb1⟩
    have hc := bcell hb1
    go_wp2_with fail
    go_ret
    exact ⟨rfl, hba.trans (hb1.mono hba.size)⟩
 | some x =>
  rw [hg] at hG
  simp only [getRet] at hG ⊢
  have HG := Hid.mk' hG
  clear hG hg
  by_cases hv : v.size = 0
  · have HF : Hid ((decide (v.size ≠ 0) && decide (x = v)) = false) := by show _ = _; simp [hv]
    rw [HF.out]
    clear HF
    obtain rfl := size_empty hv
    clear hv
    go_enter Tryz.func169, Tryz.ntmps169
    go_wp2_with fail
    refine HG.out.mono ?_
    rintro e w1 ⟨rfl, hb1⟩
    have hc := bcell hb1
    go_wp2_with fail
    go_ret
    exact ⟨rfl, hba.trans (hb1.mono hba.size)⟩
  · obtain ⟨hq, hq2⟩ := not_empty hv
    by_cases hx : x = v
    · have HF : Hid ((decide (v.size ≠ 0) && decide (x = v)) = true) := by show _ = _; simp [hv, hx]
      rw [HF.out]
      clear HF hv
      subst hx
      go_enter Tryz.func169, Tryz.ntmps169
      go_wp2_with fail
      refine HG.out.mono ?_
      rintro e w1 ⟨rfl, hb1⟩
      have hc := bcell hb1
      go_wp2_with fail
      go_ret
      exact ⟨rfl, hba.trans (hb1.mono hba.size)⟩
    · have HF : Hid ((decide (v.size ≠ 0) && decide (x = v)) = false) := by show _ = _; simp [hx]
      rw [HF.out]
      have hne := str_ne hx
      clear HF hv hx
      go_enter Tryz.func169, Tryz.ntmps169
      go_wp2_with fail
      refine HG.out.mono ?_
      rintro e w1 ⟨rfl, hb1⟩
      have hc := bcell hb1
      go_wp2_with fail
      go_ret
      exact ⟨rfl, hba.trans (hb1.mono hba.size)⟩
set_option maxRecDepth 100000 in
set_option maxHeartbeats 2000000 in
theorem impl_meets (b off len cap : Nat) (m : List Pr) (b2 off2 len2 cap2 : Nat) (l : List Od) (w : World) (h : SlP w (some ⟨b, off, none⟩) len m) (h2 : SlO w (some ⟨b2, off2, none⟩) len2 l) (hsz : len + len2 ≤ 1099511627776) :
 Calls Tryz.prog 163 #[.slice (some ⟨b, off, none⟩) len cap, .slice (some ⟨b2, off2, none⟩) len2 cap2] w fun e w' => e = .returned (.bool (meets m l)) ∧ Below w.heap.size w w' := by
 have hl := h2.1
 subst hl
 generalize hR : meets m l = R
 have HR := Hid.mk' hR
 clear hR
 go_enter Tryz.func163, Tryz.ntmps163
 go_wp2_with fail
 go_loopw [9] (fun i wr => ∃ k : Nat, k ≤ l.length ∧ i = .int .i64 (k : Int) ∧ meets m (l.drop k) = R ∧ Below w.heap.size w wr) (fun i _ => l.length - (intOf i).toNat)
 case atStart => exact ⟨0, Nat.zero_le _, rfl, HR.out, Below.refl _ _⟩
 case round =>
  obtain ⟨k, hk, rfl, hr, hB⟩ := hrel
  by_cases hlt : k < l.length
  · obtain ⟨c0, c1, c2⟩ := (h2.below hB).cells k hlt
    have hst := meets_drop m l k hlt
    rw [hr] at hst
    have hki : (k : Int) < (l.length : Int) := by omega
    generalize l[k] = o at *
    obtain ⟨z, key, val⟩ := o
    simp only [] at c0 c1 c2
    rw [meet1_need] at hst
    have hBA : Below w.heap.size w (wr.alloc (.cells #[.int .i64 z, .string key, .string val] 126)) := hB.alloc hB.size _
    have hC := i_needHolds b off len cap m z key val _ (h.below hBA)
    by_cases hz : z = 3
    · subst hz
      cases hN : need1 m key val
      all_goals
       rw [hN] at hst hC
       have HST := Hid.mk' hst
       have HC := Hid.mk' hC
       clear hst hr hC hN
       go_wp2_with fail
       refine HC.out.mono ?_
       rintro e w3 ⟨rfl, hb3⟩
       have hB3 : Below w.heap.size w w3 := hBA.trans (hb3.mono hBA.size)
       clear hb3 hBA hB c0 c1 c2
       go_wp2_with fail
      · go_ret
        exact ⟨ret_bool (by rw [HST.out]; rfl), hB3⟩
      · go_roundw
        case rel => exact ⟨k + 1, by omega, by go_num, by rw [HST.out]; simp, hB3⟩
        case measure => simp [intOf]; omega
    · have HF : Hid (meets m (l.drop (k + 1)) = R) := by show _ = _; simp [hz] at hst; exact hst.symm
      have hzz : (z == 3) = false := beq_eq_false_iff_ne.2 hz
      clear hst hr hz hC
      go_wp2_with fail
      go_roundw
      case rel => exact ⟨k + 1, by omega, by go_num, HF.out, hBA⟩
      case measure => simp [intOf]; omega
  · have HF : Hid (R = true) := by show _ = _; rw [← hr, List.drop_eq_nil_of_le (by omega)]; rfl
    clear hr
    go_wp2_with fail
    go_ret
    exact ⟨ret_bool HF.out.symm, hB⟩
set_option maxHeartbeats 400000 in
theorem impl_shardOf (key : ByteArray) (n : Int) (w : World) (hs : key.size ≤ 1099511627776) (hn : (Lit.int .i64 n).wf = true) :
 Calls Tryz.prog 166 #[.string key, .int .i64 n] w fun e w' => e = .returned (.int .i64 (shardOf key n)) ∧ Below w.heap.size w w' := by
 have hH := hashOf_lt key.data.toList
 have HC := Hid.mk' (hash.impl_hash key w (by unfold maxLen; omega))
 unfold shardOf
 generalize hashOf key.data.toList = H at *
 by_cases h1 : n < 1
 · rw [if_pos h1]
   go_enter Tryz.func166, Tryz.ntmps166
   go_wp2_with fail
   go_ret
   exact ⟨rfl, Below.refl _ _⟩
 · rw [if_neg h1]
   have h2 : Int.tmod (H : Int) n = (H : Int) % n := Int.tmod_eq_emod_of_nonneg (by omega)
   have h3 : 0 ≤ (H : Int) % n := Int.emod_nonneg _ (by omega)
   have h4 : (H : Int) % n ≤ 4294967296 := by
    have h5 := Int.emod_add_ediv_mul (H : Int) n
    have h6 : 0 ≤ (H : Int) / n * n := Int.mul_nonneg (Int.ediv_nonneg (by omega) (by omega)) (by omega)
    omega
   generalize (H : Int) % n = R at *
   go_enter Tryz.func166, Tryz.ntmps166
   go_wp2_with fail
   refine HC.out.mono ?_
   rintro e w1 ⟨rfl, hb1⟩
   go_wp2_with fail
   go_ret
   exact ⟨rfl, hb1⟩
set_option maxRecDepth 100000 in
set_option maxHeartbeats 2000000 in
theorem impl_apply (b off len cap : Nat) (m : List Pr) (b2 off2 len2 cap2 : Nat) (l : List Od) (w : World) (h : SlP w (some ⟨b, off, none⟩) len m) (h2 : SlO w (some ⟨b2, off2, none⟩) len2 l) (hcap : len ≤ cap) (hsz : len + len2 ≤ 1099511627776) :
 Calls Tryz.prog 164 #[.slice (some ⟨b, off, none⟩) len cap, .slice (some ⟨b2, off2, none⟩) len2 cap2] w fun e w' =>
  ∃ g' n' cap', e = .returned (.slice (some ⟨g', 0, none⟩) n' cap') ∧ OwnP w' w.heap.size g' n' cap' (applyAll m l) ∧ Below w.heap.size w w' := by
 obtain ⟨i0, hif, hz0, hz1, hz2⟩ := info_parts infoP
 have hl := h.1
 have hsm := h.2.2.1
 have hl2 := h2.1
 have hsm2 := h2.2.2.1
 subst hl hl2
 have hba : Below w.heap.size w (w.alloc (.cells #[] 151)) := (Below.refl _ _).alloc (Nat.le_refl _) _
 have HC := Hid.mk' (cells_pairs (h.below hba).cells)
 have hn0 := pairVals_length m
 have hm1 : 0 + m.length ≤ maxLen := by unfold maxLen; omega
 have hm2 : (0 + m.length) * 32 ≤ 140737488355328 := by omega
 have hown0 := (ownP_made w w.heap.size (Nat.le_refl _)).2.2
 go_enter Tryz.func164, Tryz.ntmps164
 go_wp2_with (at_builtin; refine wpList_append_own _ rfl (.tmp 8) (.tmp 9) 53 rfl w.heap.size 151 i0 (.agg #[.string ⟨#[]⟩, .string ⟨#[]⟩]) 2 32 Tryz.underlying53 hif hz0 hz1 hz2 rfl (by decide) _ _ _ rfl hown0 ⟨b, off, none⟩ m.length cap (pairVals m) rfl hn0 HC.out (pairVals_oneCell _) hm1 hm2 (le_alloc _ _ (Nat.le_refl _)) ?_)
 intro v1 w1 hown hgrow hnn
 have hnn' : ¬ v1 = .slice none 0 0 := by simpa using hnn
 obtain ⟨g1, cap1, hv, hO1⟩ := ownP_val rfl hsm hnn' (by simpa [pairVals] using hown)
 subst hv
 have hB1 : Below w.heap.size w w1 := hba.grown hgrow (le_alloc _ _ (Nat.le_refl _)) (fun k e => by simp [Value.ownBlock] at e; omega)
 clear hown hgrow hnn hnn' hown0 HC hn0 hm1 hm2 hba
 go_wp2_with (at_builtin; fail)
 go_loopw [5, 13] (fun v i wr => ∃ (k g n cp : Nat), k ≤ l.length ∧ n ≤ m.length + k ∧ i = .int .i64 (k : Int) ∧ v = .slice (some ⟨g, 0, none⟩) n cp ∧ OwnP wr w.heap.size g n cp (applyAll m (l.take k)) ∧ Below w.heap.size w wr) (fun _ i _ => l.length - (intOf i).toNat)
 case atStart => exact ⟨0, g1, _, cap1, Nat.zero_le _, by omega, rfl, rfl, hO1, hB1⟩
 case round =>
  clear hO1 hB1
  obtain ⟨k, g, n, cp, hk, hn, rfl, rfl, hO, hB⟩ := hrel
  by_cases hlt : k < l.length
  · obtain ⟨c0, c1, c2⟩ := (h2.below hB).cells k hlt
    have hpk := hsm2 _ (List.getElem_mem hlt)
    have hki : (k : Int) < (l.length : Int) := by omega
    have HU := Hid.mk' (apply_take m l k hlt)
    have hpl := apply1_length (applyAll m (l.take k)) l[k]
    have hcs := hO.cases
    have hul := hO.1
    have hBA : Below w.heap.size w (wr.alloc (.cells #[.int .i64 l[k].1, .string l[k].2.1, .string l[k].2.2] 126)) := hB.alloc hB.size _
    have hOA : OwnP (wr.alloc (.cells #[.int .i64 l[k].1, .string l[k].2.1, .string l[k].2.2] 126)) w.heap.size g n cp (applyAll m (l.take k)) := hO.below ((Below.refl _ _).alloc (Nat.le_refl _) _)
    generalize l[k] = p at *
    generalize applyAll m (l.take k) = u at *
    obtain ⟨z, key, val⟩ := p
    simp only [] at c0 c1 c2 hpk hBA hOA
    by_cases hz : z = 1
    · subst hz
      have HU2 : Hid (applyAll m (l.take (k + 1)) = putKey key val u) := by show _ = _; rw [HU.out]; rfl
      have hpl2 := (putKey_length key val u).1
      have HP := Hid.mk' (impl_putKey g 0 n cp u key val _ hOA.sl hcs.1 (by omega) hpk.2.1 hpk.2.2)
      clear HU hpl hOA hO hB
      go_wp2_with (at_builtin; fail)
      refine HP.out.mono ?_
      rintro e w5 ⟨g5, n5, cp5, rfl, hO5, hb5⟩
      have hB5 : Below w.heap.size w w5 := hBA.trans (hb5.mono hBA.size)
      have hO5' := hO5.mono (base' := w.heap.size) hBA.size
      rw [← HU2.out] at hO5'
      have hn5 : n5 ≤ m.length + (k + 1) := by have := hO5.1; omega
      have HO5 := Hid.mk' hO5'
      clear hb5 hO5 hO5' hBA c0 c1 c2 HP
      go_wp2_with (at_builtin; fail)
      go_roundw
      case rel => exact ⟨k + 1, g5, n5, cp5, by omega, hn5, by go_num, rfl, HO5.out, hB5⟩
      case measure => simp [intOf]; omega
    · have hb1 : (z == 1) = false := beq_eq_false_iff_ne.2 hz
      by_cases hz2 : z = 2
      · subst hz2
        have HU2 : Hid (applyAll m (l.take (k + 1)) = delKey key u) := by show _ = _; rw [HU.out]; rfl
        have hpl2 : (delKey key u).length ≤ u.length := List.length_filter_le _ _
        have HP := Hid.mk' (impl_delKey g 0 n cp u key _ hOA.sl hcs.1 (by omega) hpk.2.1)
        clear HU hpl hz hOA hO hB
        go_wp2_with (at_builtin; fail)
        refine HP.out.mono ?_
        rintro e w5 ⟨g5, n5, cp5, rfl, hO5, hb5⟩
        have hB5 : Below w.heap.size w w5 := hBA.trans (hb5.mono hBA.size)
        have hO5' := hO5.mono (base' := w.heap.size) hBA.size
        rw [← HU2.out] at hO5'
        have hn5 : n5 ≤ m.length + (k + 1) := by have := hO5.1; omega
        have HO5 := Hid.mk' hO5'
        clear hb5 hO5 hO5' hBA c0 c1 c2 HP
        go_wp2_with (at_builtin; fail)
        go_roundw
        case rel => exact ⟨k + 1, g5, n5, cp5, by omega, hn5, by go_num, rfl, HO5.out, hB5⟩
        case measure => simp [intOf]; omega
      · have hb2 : (z == 2) = false := beq_eq_false_iff_ne.2 hz2
        have HU2 : Hid (applyAll m (l.take (k + 1)) = u) := by show _ = _; rw [HU.out]; unfold apply1; rw [if_neg hz, if_neg hz2]
        clear HU hpl hz hz2 hO hB
        go_wp2_with (at_builtin; fail)
        go_roundw
        case rel => exact ⟨k + 1, g, n, cp, by omega, by omega, by go_num, rfl, by rw [HU2.out]; exact hOA, hBA⟩
        case measure => simp [intOf]; omega
  · have HE : Hid (l.take k = l) := List.take_of_length_le (by omega)
    go_wp2_with (at_builtin; fail)
    go_ret
    rw [HE.out] at hO
    exact ⟨g, n, cp, rfl, hO, hB⟩
end ords
namespace recs
open Go Go.RowKit base pairs ords
open Go.WideMaps (keyOf_string_mk)
def BoxM (X : Nat) (pv : Value) (B1 B2 : Nat) (w : World) : Prop := w.heap[X]? = some (.cells #[pv, .map (some B1), .map (some B2)] 231 (0, 0))
section
variable {X B1 B2 : Nat} {pv : Value} {w w' : World}
theorem BoxM.cells (h : BoxM X pv B1 B2 w) : w.cell? ⟨X, 0, none⟩ = some pv ∧ w.cell? ⟨X, 1, none⟩ = some (.map (some B1)) ∧ w.cell? ⟨X, 2, none⟩ = some (.map (some B2)) := by
 unfold BoxM at h
 simp [World.cell?, h]
theorem BoxM.lt (h : BoxM X pv B1 B2 w) : X < w.heap.size := (Array.getElem?_eq_some_iff.1 h).1
theorem BoxM.below (h : BoxM X pv B1 B2 w) (hb : Below w.heap.size w w') : BoxM X pv B1 B2 w' := (hb.block X h.lt).trans h
theorem BoxM.grown {row : Option Nat} (h : BoxM X pv B1 B2 w) (hg : w.grownBy w' row) (hne : some X ≠ row) : BoxM X pv B1 B2 w' := (hg.block X h.lt hne).trans h
theorem BoxM.fz (h : BoxM X pv B1 B2 w) (j : Nat) : w.frozen? ⟨X, j, none⟩ = false := by unfold BoxM at h; simp [World.frozen?, h]
end
theorem tally_look {w : World} {B n : Nat} {f : ByteArray → Nat} (h : Tally w B n f) {s : ByteArray} (hs : s.size ≤ maxLen) : (Instr.lookup 229 (.map (some B)) (.string s) false).run Tryz.prog w = .ok (.int .i64 (f s : Int)) w := by
 obtain ⟨D, h1, h2, h3⟩ := h
 obtain ⟨c, hrun, hat, _⟩ := h1.lookup_int keyLaw Tryz.underlying229 Tryz.underlying3 (zeroInt w) (keyOf_string_mk Tryz.underlying9 hs)
 rw [h3 s] at hat
 rw [hrun, ← lit_inj hat]
set_option maxRecDepth 100000 in
set_option maxHeartbeats 2000000 in
theorem i_holdsAny (X B1 B2 nh : Nat) (pv : Value) (hf : ByteArray → Nat) (a : Option Addr) (len cap : Nat) (l : List Od) (w : World) (hM : BoxM X pv B1 B2 w) (hT : Tally w B2 nh hf) (h : SlO w a len l) :
 Calls Tryz.prog 162 #[.pointer (some ⟨X, 0, none⟩), .slice a len cap] w fun e w' => e = .returned (.bool (l.any fun o => decide (hf o.2.1 ≠ 0))) ∧ Below w.heap.size w w' := by
 obtain ⟨hl, hm, hsm, hc⟩ := id h
 subst hl
 unfold maxLen at hm
 generalize hR : (l.any fun o => decide (hf o.2.1 ≠ 0)) = R
 have HR := Hid.mk' hR
 clear hR
 go_enter Tryz.func162, Tryz.ntmps162
 go_wp2_with fail
 go_loopw [9] (fun i wr => ∃ k : Nat, k ≤ l.length ∧ i = .int .i64 (k : Int) ∧ ((l.take k).any fun o => decide (hf o.2.1 ≠ 0)) = false ∧ Below w.heap.size w wr) (fun i _ => l.length - (intOf i).toNat)
 case atStart => exact ⟨0, Nat.zero_le _, rfl, rfl, Below.refl _ _⟩
 case round =>
  obtain ⟨k, hk, rfl, hno, hB⟩ := hrel
  by_cases hlt : k < l.length
  · obtain ⟨b, off, ha, _⟩ := hc (by omega)
    subst ha
    obtain ⟨c0, c1, c2⟩ := (h.below hB).cells k hlt
    have hki : (k : Int) < (l.length : Int) := by omega
    have hks := (hsm _ (List.getElem_mem hlt)).2.1
    have hst : ((l.take (k + 1)).any fun o => decide (hf o.2.1 ≠ 0)) = decide (hf l[k].2.1 ≠ 0) := by
     rw [List.take_succ_eq_append_getElem hlt, List.any_append, hno]; simp
    have HIN : Hid (decide (hf l[k].2.1 ≠ 0) = true → R = true) := fun e => by
     rw [← HR.out, List.any_eq_true]
     exact ⟨l[k], List.getElem_mem hlt, e⟩
    generalize l[k] = p at *
    have hba : Below wr.heap.size wr (wr.alloc (.cells #[.int .i64 p.1, .string p.2.1, .string p.2.2] 126)) := (Below.refl _ _).alloc (Nat.le_refl _) _
    have hB2 := hB.trans (hba.mono hB.size)
    have hX := ((hM.below hB).below hba).cells
    have hT2 := (hT.below hB).below hba
    have d1 : (wr.alloc (.cells #[.int .i64 p.1, .string p.2.1, .string p.2.2] 126)).cell? ⟨wr.heap.size, 1, none⟩ = some (.string p.2.1) := by simp
    have hlk : ∀ n, (Instr.lookup 229 (.map (some B2)) (.string p.2.1) false).run Tryz.prog ((wr.alloc (.cells #[.int .i64 p.1, .string p.2.1, .string p.2.2] 126)).drewN n) = .ok (.int .i64 (hf p.2.1 : Int)) ((wr.alloc (.cells #[.int .i64 p.1, .string p.2.1, .string p.2.2] 126)).drewN n) := fun n => tally_look (hT2.below (below_drewN (Below.refl _ _) n)) hks
    obtain ⟨x0, x1, x2⟩ := hX
    clear hsm hc
    by_cases hz : hf p.2.1 = 0
    · have hz2 : ((hf p.2.1 : Int) == 0) = true := by rw [hz]; rfl
      go_wp2_with fail
      go_quiet (fail)
      go_wp2_with fail
      go_roundw
      case rel => exact ⟨k + 1, by omega, by go_num, by rw [hst]; simp [hz], hB2.trans (below_drewN (Below.refl _ _) _)⟩
      case measure => simp [intOf]; omega
    · have hz2 : ((hf p.2.1 : Int) == 0) = false := beq_eq_false_iff_ne.2 (by omega)
      have hR1 : Hid (R = true) := HIN.out (decide_eq_true hz)
      clear HIN
      go_wp2_with fail
      go_quiet (fail)
      go_wp2_with fail
      go_ret
      exact ⟨ret_bool hR1.out.symm, hB2.trans (below_drewN (Below.refl _ _) _)⟩
  · have hR0 : Hid (R = false) := by
     show _ = _
     rw [← HR.out]
     rwa [List.take_of_length_le (by omega)] at hno
    go_wp2_with fail
    go_ret
    exact ⟨ret_bool hR0.out.symm, hB⟩
theorem field0 (k t : Int) (a : Option Addr) (n c : Nat) (w : World) : (Instr.field 133 (.agg #[.int .i64 k, .int .i64 t, .slice a n c]) 0).run Tryz.prog w = .ok (.int .i64 k) w := by kernel_rfl
theorem field2 (k t : Int) (a : Option Addr) (n c : Nat) (w : World) : (Instr.field 133 (.agg #[.int .i64 k, .int .i64 t, .slice a n c]) 2).run Tryz.prog w = .ok (.slice a n c) w := by kernel_rfl
def fitsP (m : List Pr) (f : Int → Rc) (hf : ByteArray → Nat) (r : Rc) : Bool := recOk r &&
 (if r.1 = 1 then decide ((f r.2.1).1 = 0) && (!(r.2.2.any fun o => decide (hf o.2.1 ≠ 0)) && meets m r.2.2) else if r.1 = 2 then decide ((f r.2.1).1 = 1) else decide ((f r.2.1).1 = 1) || decide ((f r.2.1).1 = 0))
set_option maxRecDepth 100000 in
set_option maxHeartbeats 4000000 in
theorem i_fits (X B1 B2 n1 n2 g np cp : Nat) (f : Int → Rc) (hf : ByteArray → Nat) (m : List Pr) (kind tx : Int) (a : Option Addr) (len cap : Nat) (l : List Od) (w0 w : World)
 (hM : BoxM X (.slice (some ⟨g, 0, none⟩) np cp) B1 B2 w) (hL : Lasts w0 w B1 n1 f) (hT : Tally w B2 n2 hf) (hP : SlP w (some ⟨g, 0, none⟩) np m) (hnp : np ≤ 1000) (h : SlO w a len l) (hks : ∀ p ∈ l, p.2.1.size ≤ 1099511627776) :
 Calls Tryz.prog 155 #[.pointer (some ⟨X, 0, none⟩), .agg #[.int .i64 kind, .int .i64 tx, .slice a len cap]] w fun e w' => e = .returned (.bool (fitsP m f hf (kind, tx, l))) ∧ Below w.heap.size w w' := by
 obtain ⟨W, hW⟩ : ∃ W, W = w.alloc (.cells #[.int .i64 kind, .int .i64 tx, .slice a len cap] 133) := ⟨_, rfl⟩
 have hba : Below w.heap.size w W := by rw [hW]; exact (Below.refl _ _).alloc (Nat.le_refl _) _
 have hbx : BoxR w.heap.size kind tx (.slice a len cap) W := by rw [hW]; exact boxR_new _ _ _ _
 have HOK := Hid.mk' (impl_recOk kind tx a len cap l W (h.below hba) hks)
 have HW := Hid.mk' hW.symm
 clear hW
 cases hok : recOk (kind, tx, l)
 · rw [hok] at HOK
   have HF : Hid (fitsP m f hf (kind, tx, l) = false) := by show _ = _; unfold fitsP; rw [hok]; rfl
   clear hok
   go_enter Tryz.func155, Tryz.ntmps155
   go_wp2_with fail
   rw [HW.out]
   refine HOK.out.mono ?_
   rintro e w1 ⟨rfl, hb1⟩
   have hB1 := hba.trans (hb1.mono hba.size)
   clear HOK HW hbx
   go_wp2_with fail
   go_ret
   exact ⟨ret_bool HF.out.symm, hB1⟩
 · rw [hok] at HOK
   obtain ⟨⟨ht1, ht2⟩, hcase⟩ := (recOk_iff _).1 hok
   simp only [] at ht1 ht2 hcase
   have htw : (Lit.int .i64 tx).wf = true := WalkArith.wf_i64 (by omega)
   go_enter Tryz.func155, Tryz.ntmps155
   go_wp2_with fail
   rw [HW.out]
   refine HOK.out.mono ?_
   rintro e w1 ⟨rfl, hb1⟩
   have hB1 := hba.trans (hb1.mono hba.size)
   have hX1 := (hM.below hB1)
   obtain ⟨x0, x1, x2⟩ := hX1.cells
   have hbx1 := hbx.below hb1
   obtain ⟨d0, d1, d2⟩ := hbx1.cells
   obtain ⟨la, lm, lc, hla, hls, hlk0⟩ := (hL.below hB1).look htw
   have hL1 := (hL.below hB1)
   have hlk : ∀ x : last.On w1.heap.size w1, (Instr.lookup 228 (.map (some B1)) (.int .i64 tx) false).run Tryz.prog x.w = .ok (.agg #[.int .i64 (f tx).1, .int .i64 (f tx).2.1, .slice la lm lc]) x.w := fun x => hlk0 _ (x.2.block B1 hL1.lt)
   have hfd := field0
   have hxl := hX1.lt
   have hdl := hbx1.lt
   have y0 := last.On.cell x0 hxl
   have y1 := last.On.cell x1 hxl
   have z1 := last.On.cell d1 hdl
   have hinh := last.On.inh w1.heap.size w1
   clear HOK HW hlk0
   go_wp2_with fail
   refine last.wp_region_on w1.heap.size (by kernel_rfl) (by kernel_rfl) ?_
   repeat (go_big_quiet_step (fail))
   refine wpQuiet_nil ?_
   intro w2 hw2
   obtain ⟨x2', hw2⟩ := hw2
   have hb2 : Below w1.heap.size w1 w2 := by rw [hw2]; exact x2'.2
   clear hw2 x2' hinh hlk y0 y1 z1 hfd hls
   have hB2 := hB1.trans (hb2.mono hB1.size)
   have hbx2 := hbx1.below hb2
   have hX2 := hX1.below hb2
   obtain ⟨e0, e1, e2⟩ := hbx2.cells
   have hr2 : recOk (kind, tx, l) = true := hok
   by_cases hk1 : kind = 1
   · subst hk1
     have hopk : opsOk l = true := by rcases hcase with ⟨_, h1⟩ | ⟨h1, _⟩; exact h1; omega
     have HF : Hid (fitsP m f hf (1, tx, l) = (decide ((f tx).1 = 0) && (!(l.any fun o => decide (hf o.2.1 ≠ 0)) && meets m l))) := by show _ = _; unfold fitsP; rw [hr2, if_pos rfl]; rfl
     obtain ⟨_, hl1, _⟩ := (opsOk_iff l).1 hopk
     have hll := h.1
     obtain ⟨ob, oo, hoa, _⟩ := h.2.2.2 (by omega)
     subst hoa
     have hinh := last.On.inh w2.heap.size w2
     have hsz8 : len ≤ 8 := by have := ((opsOk_iff l).1 hopk).2.2; omega
     have hcH : ∀ x : last.On w2.heap.size w2, Calls Tryz.prog 162 #[.pointer (some ⟨X, 0, none⟩), .slice (some ⟨ob, oo, none⟩) len cap] x.w fun e w' => e = .returned (.bool (l.any fun o => decide (hf o.2.1 ≠ 0))) ∧ ∃ y : last.On w2.heap.size w2, w' = y.w := fun x => last.Calls.on x (Nat.le_refl _) (i_holdsAny X B1 B2 n2 _ hf _ len cap l x.w (hX2.below x.2) ((hT.below hB2).below x.2) ((h.below hB2).below x.2))
     have hcM : ∀ x : last.On w2.heap.size w2, Calls Tryz.prog 163 #[.slice (some ⟨g, 0, none⟩) np cp, .slice (some ⟨ob, oo, none⟩) len cap] x.w fun e w' => e = .returned (.bool (meets m l)) ∧ ∃ y : last.On w2.heap.size w2, w' = y.w := fun x => last.Calls.on x (Nat.le_refl _) (impl_meets g 0 np cp m ob oo len cap l x.w ((hP.below hB2).below x.2) ((h.below hB2).below x.2) (by omega))
     obtain ⟨q0, q1, q2⟩ := hX2.cells
     have hx2l := hX2.lt
     have hd2l := hbx2.lt
     have y0 := last.On.cell q0 hx2l
     have z2 := last.On.cell e2 hd2l
     generalize (l.any fun o => decide (hf o.2.1 ≠ 0)) = K1 at *
     generalize meets m l = K2 at *
     clear hcase hok hr2 hopk hl1
     by_cases hah : (f tx).1 = 0
     · have hah2 : ((f tx).1 == 0) = true := by rw [hah]; rfl
       rw [decide_eq_true hah] at HF
       cases K1
       · go_wp2_with fail
         refine last.wp_region_on w2.heap.size (by kernel_rfl) (by kernel_rfl) ?_
         repeat (go_big_quiet_step ((first | (go_at_call 162; exact hcH _) | (go_at_call 163; exact hcM _))))
         refine wpQuiet_nil ?_
         intro w3 hw3
         obtain ⟨x3, hw3⟩ := hw3
         have hb3 : Below w2.heap.size w2 w3 := by rw [hw3]; exact x3.2
         clear hw3 x3 hinh hcH hcM y0 z2
         go_wp2_with fail
         go_ret
         exact ⟨ret_bool (by rw [HF.out]; simp), hB2.trans (hb3.mono hB2.size)⟩
       · go_wp2_with fail
         refine last.wp_region_on w2.heap.size (by kernel_rfl) (by kernel_rfl) ?_
         repeat (go_big_quiet_step ((first | (go_at_call 162; exact hcH _) | (go_at_call 163; exact hcM _))))
         refine wpQuiet_nil ?_
         intro w3 hw3
         obtain ⟨x3, hw3⟩ := hw3
         have hb3 : Below w2.heap.size w2 w3 := by rw [hw3]; exact x3.2
         clear hw3 x3 hinh hcH hcM y0 z2
         go_wp2_with fail
         go_ret
         exact ⟨ret_bool (by rw [HF.out]; simp), hB2.trans (hb3.mono hB2.size)⟩
     · have hah2 : ((f tx).1 == 0) = false := beq_eq_false_iff_ne.2 hah
       rw [decide_eq_false hah] at HF
       go_wp2_with fail
       refine last.wp_region_on w2.heap.size (by kernel_rfl) (by kernel_rfl) ?_
       repeat (go_big_quiet_step (fail))
       refine wpQuiet_nil ?_
       intro w3 hw3
       obtain ⟨x3, hw3⟩ := hw3
       have hb3 : Below w2.heap.size w2 w3 := by rw [hw3]; exact x3.2
       clear hw3 x3 hinh hcH hcM y0 z2
       go_wp2_with fail
       go_ret
       exact ⟨ret_bool (by rw [HF.out]; simp), hB2.trans (hb3.mono hB2.size)⟩
   · have hkb : (kind == 1) = false := beq_eq_false_iff_ne.2 hk1
     by_cases hk2 : kind = 2
     · subst hk2
       have HF : Hid (fitsP m f hf (2, tx, l) = decide ((f tx).1 = 1)) := by show _ = _; unfold fitsP; rw [hr2, if_neg (show ¬ ((2 : Int), tx, l).1 = 1 by simp), if_pos rfl]; rfl
       clear hcase hok hr2
       go_wp2_with fail
       go_ret
       exact ⟨ret_bool (by rw [HF.out]; rfl), hB2⟩
     · have hkb2 : (kind == 2) = false := beq_eq_false_iff_ne.2 hk2
       have HF : Hid (fitsP m f hf (kind, tx, l) = (decide ((f tx).1 = 1) || decide ((f tx).1 = 0))) := by show _ = _; unfold fitsP; rw [hr2, if_neg hk1, if_neg hk2]; rfl
       clear hcase hok hr2 hk1 hk2
       by_cases h1 : (f tx).1 = 1
       · have h1b : ((f tx).1 == 1) = true := by rw [h1]; rfl
         go_wp2_with fail
         go_ret
         exact ⟨ret_bool (by rw [HF.out]; simp [h1]), hB2⟩
       · have h1b : ((f tx).1 == 1) = false := beq_eq_false_iff_ne.2 h1
         go_wp2_with fail
         go_ret
         exact ⟨ret_bool (by rw [HF.out, decide_eq_false h1, Bool.false_or]; rfl), hB2⟩
end recs
namespace recs
open Go Go.RowKit base pairs ords
open Go.WideMaps (keyOf_string_mk)
theorem boxM_set {X B1 B2 : Nat} {pv : Value} {w : World} (h : BoxM X pv B1 B2 w) (v : Value) : BoxM X v B1 B2 (w.setCell ⟨X, 0, none⟩ v) ∧ w.grownBy (w.setCell ⟨X, 0, none⟩ v) (some X) := by
 have h0 : w.heap[X]? = some (.cells #[pv, .map (some B1), .map (some B2)] 231 (0, 0)) := h
 have s0 := set_cur h0 0 v
 exact ⟨s0.1, s0.2⟩
def hasKey (ops : List Od) (s : ByteArray) : Bool := ops.any fun o => decide (o.2.1 = s)
def delK (h : ByteArray → Nat) (ops : List Od) (s : ByteArray) : Nat := if hasKey ops s = true then 0 else h s
def putK (h : ByteArray → Nat) (ops : List Od) (t : Nat) (s : ByteArray) : Nat := if hasKey ops s = true then t else h s
theorem hasKey_snoc (ops : List Od) (o : Od) (s : ByteArray) : hasKey (ops ++ [o]) s = (hasKey ops s || decide (o.2.1 = s)) := by simp [hasKey]
theorem delK_snoc (h : ByteArray → Nat) (ops : List Od) (o : Od) : delK h (ops ++ [o]) = fun s => if s = o.2.1 then 0 else delK h ops s := by
 funext s
 unfold delK
 rw [hasKey_snoc]
 by_cases e : o.2.1 = s
 · subst e; simp
 · have e2 : ¬ s = o.2.1 := fun x => e x.symm
   simp [e, e2]
theorem putK_snoc (h : ByteArray → Nat) (ops : List Od) (t : Nat) (o : Od) (s : ByteArray) : putK h (ops ++ [o]) t s = if s = o.2.1 then t else putK h ops t s := by
 unfold putK
 rw [hasKey_snoc]
 by_cases e : o.2.1 = s
 · subst e; simp
 · have e2 : ¬ s = o.2.1 := fun x => e x.symm
   simp [e, e2]
theorem step_delete {ops : Array Oper} {o : Oper} {a : Act} {w : World} {K : Act → World → Prop} {Q : Exit → Act → World → Prop} {E : Prop} (hgd : o.guard = none) (m x : Operand) (hop : o.op = Op.call { callee := Callee.builtin Builtin.delete, args := #[m, x], argTypes := #[229, 9] })
 {B n : Nat} {f : ByteArray → Nat} (hm : a.eval m = .map (some B)) (hT : Tally w B n f) {s : ByteArray} (hs : s.size ≤ maxLen) (hx : a.eval x = .string s)
 (h : ∀ w', Tally w' B n (fun t => if t = s then 0 else f t) → w.grownBy w' (some B) → K (a.put o.dst (.tuple #[])) w') :
 if Region.wanted o (yielded ops a.tmps) = true then Oper.wp Tryz.prog o a w K Q else E := by
 have hw : Region.wanted o (yielded ops a.tmps) = true := by simp [Region.wanted, hgd]
 rw [if_pos hw]
 obtain ⟨D, h1, h2, h3⟩ := hT
 obtain ⟨w', hrun, r1, r2⟩ := h1.drop keyLaw Tryz.underlying229 (keyOf_string_mk (P := Tryz.prog) Tryz.underlying9 hs) o.type
 unfold Oper.wp
 simp [execOp, hop, resolve, invoke, builtin, hm, hx, hrun, Result.andThen]
 exact h w' (Tally.del h2 h3 r1) r2.grown
structure Made (w0 w : World) (X B1 B2 n1 n2 g np cp : Nat) (f : Int → Rc) (hf : ByteArray → Nat) (m : List Pr) : Prop where
 box : BoxM X (.slice (some ⟨g, 0, none⟩) np cp) B1 B2 w
 lasts : Lasts w0 w B1 n1 f
 tally : Tally w B2 n2 hf
 own : OwnP w w0.heap.size g np cp m
 bel : Below w0.heap.size w0 w
 geX : w0.heap.size ≤ X
 ge1 : w0.heap.size ≤ B1
 ge2 : w0.heap.size ≤ B2
 x1 : X ≠ B1
 x2 : X ≠ B2
 x12 : B1 ≠ B2
 gX : g ≠ X
 g1 : g ≠ B1
 g2 : g ≠ B2
section
variable {w0 w w' : World} {X B1 B2 n1 n2 g np cp : Nat} {f : Int → Rc} {hf : ByteArray → Nat} {m : List Pr}
theorem tally_lt {B n : Nat} (h : Tally w B n hf) : B < w.heap.size := by
 obtain ⟨D, ⟨es, clock, hb, _⟩, _⟩ := h
 exact (Array.getElem?_eq_some_iff.1 hb).1
theorem Made.below (h : Made w0 w X B1 B2 n1 n2 g np cp f hf m) (hb : Below w.heap.size w w') : Made w0 w' X B1 B2 n1 n2 g np cp f hf m :=
 ⟨h.box.below hb, h.lasts.below hb, h.tally.below hb, h.own.below hb, h.bel.trans (hb.mono h.bel.size), h.geX, h.ge1, h.ge2, h.x1, h.x2, h.x12, h.gX, h.g1, h.g2⟩
end
set_option maxRecDepth 100000 in
set_option maxHeartbeats 4000000 in
theorem i_take (X B1 B2 n1 n2 g np cp : Nat) (f : Int → Rc) (hf : ByteArray → Nat) (m : List Pr) (kind tx : Int) (a : Option Addr) (len cap : Nat) (l : List Od) (w0 w : World)
 (h : Made w0 w X B1 B2 n1 n2 g np cp f hf m) (hS : SlO w0 a len l) (ha : Plain a) (ht1 : 1 ≤ tx) (ht2 : tx ≤ 1000000) (hn1 : n1 ≤ 1099511627776) (hn2 : n2 ≤ 1099511627776) (hnp : np ≤ 1000) (hl8 : len ≤ 8) (hf8 : (f tx).2.2.length ≤ 8) (hne : kind = 2 → (f tx).2.2 ≠ []) :
 Calls Tryz.prog 156 #[.pointer (some ⟨X, 0, none⟩), .agg #[.int .i64 kind, .int .i64 tx, .slice a len cap]] w fun e w' =>
  ∃ g' np' cp', e = .returned (.tuple #[]) ∧ Made w0 w' X B1 B2 (n1 + 1) (n2 + len) g' np' cp' (updR f tx (kind, tx, l)) (putK (delK hf (f tx).2.2) l tx.toNat) (if kind = 2 then applyAll m (f tx).2.2 else m) := by
 have htw : (Lit.int .i64 tx).wf = true := WalkArith.wf_i64 (by omega)
 obtain ⟨ops, hops⟩ : ∃ ops, ops = (f tx).2.2 := ⟨_, rfl⟩
 obtain ⟨f', hf'⟩ : ∃ f', f' = updR f tx (kind, tx, l) := ⟨_, rfl⟩
 rw [← hops] at hf8 hne ⊢
 rw [← hf']
 obtain ⟨W, hW⟩ : ∃ W, W = w.alloc (.cells #[.int .i64 kind, .int .i64 tx, .slice a len cap] 133) := ⟨_, rfl⟩
 have hba : Below w.heap.size w W := by rw [hW]; exact (Below.refl _ _).alloc (Nat.le_refl _) _
 have hbx : BoxR w.heap.size kind tx (.slice a len cap) W := by rw [hW]; exact boxR_new _ _ _ _
 have hW1 := h.below hba
 have HW := Hid.mk' hW.symm
 have hsz := h.bel.size
 have hXl := h.box.lt
 have h1l := h.lasts.lt
 have h2l := tally_lt h.tally
 clear hW
 obtain ⟨la, lm, lc, hla, hls, hlk0⟩ := hW1.lasts.look htw
 have hlk : ∀ x : last.On W.heap.size W, (Instr.lookup 228 (.map (some B1)) (.int .i64 tx) false).run Tryz.prog x.w = .ok (.agg #[.int .i64 (f tx).1, .int .i64 (f tx).2.1, .slice la lm lc]) x.w := fun x => hlk0 _ (x.2.block B1 hW1.lasts.lt)
 have hfd := field2
 obtain ⟨x0, x1, x2⟩ := hW1.box.cells
 obtain ⟨d0, d1, d2⟩ := hbx.cells
 have hxl := hW1.box.lt
 have hdl := hbx.lt
 have y1 := last.On.cell x1 hxl
 have z1 := last.On.cell d1 hdl
 have hinh := last.On.inh W.heap.size W
 go_enter Tryz.func156, Tryz.ntmps156
 go_wp2_with fail
 rw [HW.out]
 refine last.wp_region_on W.heap.size (by kernel_rfl) (by kernel_rfl) ?_
 repeat (go_big_quiet_step (fail))
 refine wpQuiet_nil ?_
 intro w2 hw2
 obtain ⟨x2', hw2⟩ := hw2
 have hb2 : Below W.heap.size W w2 := by rw [hw2]; exact x2'.2
 clear hw2 x2' hinh hlk y1 z1 hfd hlk0 x0 x1 x2 d0 d1 d2 HW
 have hM2 := hW1.below hb2
 have hbx2 := hbx.below hb2
 have hXl2 := hM2.box.lt
 have hdl2 := hbx2.lt
 obtain ⟨x0, x1, x2⟩ := hM2.box.cells
 obtain ⟨d0, d1, d2⟩ := hbx2.cells
 have y1 := last.On.cell x1 hXl2
 have z0 := last.On.cell d0 hdl2
 have z1 := last.On.cell d1 hdl2
 have z2 := last.On.cell d2 hdl2
 have hinh := last.On.inh w2.heap.size w2
 go_wp2_with fail
 refine last.wp_region_last_on w2.heap.size 7 _ rfl (by kernel_rfl) (by kernel_rfl) (by kernel_rfl) ?_
 simp only [List.take_succ_cons, List.take_zero]
 repeat (go_big_quiet_step (fail))
 refine wpQuiet_nil ?_
 intro w3 hw3
 obtain ⟨x3', hw3⟩ := hw3
 have hb3 : Below w2.heap.size w2 w3 := by rw [hw3]; exact x3'.2
 clear hw3 x3' hinh y1 z0 z1 z2 x0 x1 x2 d0 d1 d2
 have hM3 := hM2.below hb3
 have hbx3 := hbx2.below hb3
 have hL3 := hM3.lasts
 go_wp2_with (at_mapUpdate; refine wpList_store_last rfl _ _ _ rfl rfl hL3 (by unfold maxLen; omega) rfl htw (r := (kind, tx, l)) rfl ha hS ?_)
 intro w4 hL4 hg4
 rw [← hf'] at hL4
 have hM4 : Made w0 w4 X B1 B2 (n1 + 1) n2 g np cp f' hf m := ⟨hM3.box.grown hg4 (by intro e; exact hM3.x1 (Option.some.inj e)), hL4, hM3.tally.grown hg4 (by intro e; exact hM3.x12 (Option.some.inj e).symm), hM3.own.grown hg4 (by intro e; exact hM3.g1 (Option.some.inj e)), hM3.bel.grown hg4 hM3.bel.size (fun j e => by cases e; exact hM3.ge1), hM3.geX, hM3.ge1, hM3.ge2, hM3.x1, hM3.x2, hM3.x12, hM3.gX, hM3.g1, hM3.g2⟩
 have hbx4 := hbx3.grown hg4 (by intro e; have := Option.some.inj e; omega)
 rw [← hops] at hls
 have hlo := hls.1
 subst hlo
 have hsmO := hls.2.2.1
 clear hM3 hM2 hW1 h hbx3 hbx2 hbx hL3 hL4 hg4 hb3 hb2 hba hops hf'
 go_wp2_with fail
 go_loopw [26] (fun i wr => ∃ k : Nat, k ≤ ops.length ∧ i = .int .i64 (k : Int) ∧ Made w0 wr X B1 B2 (n1 + 1) n2 g np cp f' (delK hf (ops.take k)) m ∧ BoxR w.heap.size kind tx (.slice a len cap) wr) (fun i _ => ops.length - (intOf i).toNat)
 case atStart => exact ⟨0, Nat.zero_le _, rfl, hM4, hbx4⟩
 case round =>
  clear hM4 hbx4
  obtain ⟨k, hk, rfl, hM, hbx⟩ := hrel
  by_cases hlt : k < ops.length
  · obtain ⟨b, off, hb, _⟩ := hls.2.2.2 (by omega)
    subst hb
    obtain ⟨c0, c1, c2⟩ := (hls.below hM.bel).cells k hlt
    have hki : (k : Int) < (ops.length : Int) := by omega
    have hks := (hsmO _ (List.getElem_mem hlt)).2.1
    have HST : Hid (delK hf (ops.take (k + 1)) = fun s => if s = ops[k].2.1 then 0 else delK hf (ops.take k) s) := by show _ = _; rw [List.take_succ_eq_append_getElem hlt, delK_snoc]
    generalize ops[k] = p at *
    obtain ⟨V, hV⟩ : ∃ V, V = wr.alloc (.cells #[.int .i64 p.1, .string p.2.1, .string p.2.2] 126) := ⟨_, rfl⟩
    have hbv : Below wr.heap.size wr V := by rw [hV]; exact (Below.refl _ _).alloc (Nat.le_refl _) _
    have hMV := hM.below hbv
    have hbxV := hbx.below hbv
    have o1 : V.cell? ⟨wr.heap.size, 1, none⟩ = some (.string p.2.1) := by rw [hV]; simp
    have hVl : wr.heap.size < V.heap.size := by rw [hV]; simp
    obtain ⟨x0, x1, x2⟩ := hMV.box.cells
    have x2d : V.drew.cell? ⟨X, 2, none⟩ = some (.map (some B2)) := x2
    have o1d : V.drew.cell? ⟨wr.heap.size, 1, none⟩ = some (.string p.2.1) := o1
    have HV := Hid.mk' hV.symm
    have hM5 := hMV.below ((Below.refl _ _).drew)
    have hbx5 := hbxV.below ((Below.refl _ _).drew)
    have hT5 := hM5.tally
    have hwr2 := hM.box.lt
    have h2r := tally_lt hM.tally
    clear hV hM hbx x0 x1 o1 x2 hbv hMV hbxV
    go_wp2_with fail
    rw [HV.out]
    clear HV c0 c1 c2
    go_region_held3 (fun w' => w'.cell? ⟨X, 2, none⟩ = some (.map (some B2)) ∧ w'.cell? ⟨wr.heap.size, 1, none⟩ = some (.string p.2.1))
     (first | (exact ⟨x2d, o1d⟩) | (with_reducible assumption) | (exact ⟨hg6.cell x2d (fun e => hM5.x2 (Option.some.inj e)), hg6.cell o1d (fun e => Nat.lt_irrefl _ ((Option.some.inj e : wr.heap.size = B2) ▸ h2r))⟩))
     (first | (refine step_delete rfl (.tmp 33) (.tmp 35) rfl rfl hT5 hks rfl ?_; intro w6 hT6 hg6))
    rw [← HST.out] at hT6
    have hM6 : Made w0 w6 X B1 B2 (n1 + 1) n2 g np cp f' (delK hf (ops.take (k + 1))) m := ⟨hM5.box.grown hg6 (by intro e; exact hM5.x2 (Option.some.inj e)), hM5.lasts.grown hg6 (by intro e; exact hM5.x12 (Option.some.inj e)), hT6, hM5.own.grown hg6 (by intro e; exact hM5.g2 (Option.some.inj e)), hM5.bel.grown hg6 hM5.bel.size (fun j e => by cases e; exact hM5.ge2), hM5.geX, hM5.ge1, hM5.ge2, hM5.x1, hM5.x2, hM5.x12, hM5.gX, hM5.g1, hM5.g2⟩
    have hbx6 := hbx5.grown hg6 (by intro e; have := Option.some.inj e; omega)
    clear hg6 hT6 hM5 hbx5 hT5 x2d o1d
    go_wp2_with fail
    go_roundw
    case rel => exact ⟨k + 1, by omega, by go_num, hM6, hbx6⟩
    case measure => simp [intOf]; omega
  · have HE : Hid (ops.take k = ops) := List.take_of_length_le (by omega)
    rw [HE.out] at hM
    have hll := hS.1
    have hsmL := hS.2.2.1
    obtain ⟨d0, d1, d2⟩ := hbx.cells
    generalize hh1 : delK hf ops = h1 at *
    have hex : ¬ (k : Int) < (ops.length : Int) := by omega
    clear HE hk
    go_wp2_with fail
    clear hex hlt
    go_loopw [40] (fun i wr => ∃ k : Nat, k ≤ l.length ∧ i = .int .i64 (k : Int) ∧ Made w0 wr X B1 B2 (n1 + 1) (n2 + k) g np cp f' (putK h1 (l.take k) tx.toNat) m ∧ BoxR w.heap.size kind tx (.slice a len cap) wr) (fun i _ => l.length - (intOf i).toNat)
    case atStart => exact ⟨0, Nat.zero_le _, rfl, hM, hbx⟩
    case round =>
     clear hM hbx d0 d1 d2
     obtain ⟨k, hk, rfl, hM, hbx⟩ := hrel
     by_cases hlt : k < l.length
     · obtain ⟨b, off, hb, _⟩ := hS.2.2.2 (by omega)
       subst hb
       obtain ⟨c0, c1, c2⟩ := (hS.below hM.bel).cells k hlt
       have hki : (k : Int) < (len : Int) := by omega
       have hks := (hsmL _ (List.getElem_mem hlt)).2.1
       have HST : Hid (∀ s, putK h1 (l.take (k + 1)) tx.toNat s = if s = l[k].2.1 then tx.toNat else putK h1 (l.take k) tx.toNat s) := fun s => by rw [List.take_succ_eq_append_getElem hlt, putK_snoc]
       generalize l[k] = p at *
       obtain ⟨V, hV⟩ : ∃ V, V = wr.alloc (.cells #[.int .i64 p.1, .string p.2.1, .string p.2.2] 126) := ⟨_, rfl⟩
       have hbv : Below wr.heap.size wr V := by rw [hV]; exact (Below.refl _ _).alloc (Nat.le_refl _) _
       have hMV := hM.below hbv
       have hbxV := hbx.below hbv
       have o1 : V.cell? ⟨wr.heap.size, 1, none⟩ = some (.string p.2.1) := by rw [hV]; simp
       have hVl : wr.heap.size < V.heap.size := by rw [hV]; simp
       obtain ⟨x0, x1, x2⟩ := hMV.box.cells
       obtain ⟨d0, d1, d2⟩ := hbxV.cells
       have y2 := last.On.cell x2 hMV.box.lt
       have z1 := last.On.cell o1 hVl
       have t1 := last.On.cell d1 hbxV.lt
       have hinh := last.On.inh V.heap.size V
       have HV := Hid.mk' hV.symm
       have hkk := keyOf_string_mk (P := Tryz.prog) Tryz.underlying9 hks
       clear hV hM hbx x0 x1 x2 o1 hbv d0 d1 d2
       go_wp2_with fail
       rw [HV.out]
       refine last.wp_region_last_on V.heap.size 8 _ rfl (by kernel_rfl) (by kernel_rfl) (by kernel_rfl) ?_
       simp only [List.take_succ_cons, List.take_zero]
       repeat (go_big_quiet_step (fail))
       refine wpQuiet_nil ?_
       intro w5 hw5
       obtain ⟨x5', hw5⟩ := hw5
       have hb5 : Below V.heap.size V w5 := by rw [hw5]; exact x5'.2
       clear hw5 x5' hinh y2 z1 t1 HV c0 c1 c2
       have hM5 := hMV.below hb5
       have hbx5 := hbxV.below hb5
       obtain ⟨D, hown, hD, hat0⟩ := hM5.tally
       go_wp2_with (at_mapUpdate; refine wpList_mapUpdate_own _ rfl _ _ _ 229 rfl 9 3 keyLaw Tryz.underlying229 _ B2 (n2 + k) D rfl hown (by unfold maxLen; omega) _ _ _ rfl rfl hkk _ [] (plainElem_int Tryz.underlying3 htw) ?_)
       intro w6 hown6 hg6
       have hT6 : Tally w6 B2 (n2 + (k + 1)) (putK h1 (l.take (k + 1)) tx.toNat) := Tally.put hD hat0 (by rw [HST.out, if_pos rfl]; omega) (fun s hs => by rw [HST.out, if_neg hs]) hown6
       have hM6 : Made w0 w6 X B1 B2 (n1 + 1) (n2 + (k + 1)) g np cp f' (putK h1 (l.take (k + 1)) tx.toNat) m := ⟨hM5.box.grown hg6 (by intro e; exact hM5.x2 (Option.some.inj e)), hM5.lasts.grown hg6 (by intro e; exact hM5.x12 (Option.some.inj e)), hT6, hM5.own.grown hg6 (by intro e; exact hM5.g2 (Option.some.inj e)), hM5.bel.grown hg6 hM5.bel.size (fun j e => by cases e; exact hM5.ge2), hM5.geX, hM5.ge1, hM5.ge2, hM5.x1, hM5.x2, hM5.x12, hM5.gX, hM5.g1, hM5.g2⟩
       have hbx6 := hbx5.grown hg6 (by intro e; have := Option.some.inj e; omega)
       clear hown hown6 hg6 hT6 hM5 hbx5 hMV hbxV hD hat0
       go_wp2_with fail
       go_roundw
       case rel => exact ⟨k + 1, by omega, by go_num, hM6, hbx6⟩
       case measure => simp [intOf]; omega
     · have HE : Hid (l.take k = l) := List.take_of_length_le (by omega)
       rw [HE.out] at hM
       have hkL : k = len := by omega
       subst hkL
       obtain ⟨d0, d1, d2⟩ := hbx.cells
       by_cases hk2 : kind = 2
       · have hpo := hne hk2
         have hlp : 0 < ops.length := List.length_pos_iff.2 hpo
         obtain ⟨b2, off2, hb2, _⟩ := hls.2.2.2 hlp
         subst hb2
         have HAP := Hid.mk' (impl_apply g 0 np cp m b2 off2 ops.length lc ops wr hM.own.sl (hls.below hM.bel) hM.own.cases.1 (by omega))
         obtain ⟨x0, x1, x2⟩ := hM.box.cells
         subst hk2
         have hXr := hM.box.lt
         have h1r := hM.lasts.lt
         have h2r := tally_lt hM.tally
         go_wp2_with fail
         refine HAP.out.mono ?_
         rintro e w7 ⟨g7, n7, cp7, rfl, hO7, hb7⟩
         have hM7 := hM.below hb7
         obtain ⟨S1, S2⟩ := boxM_set hM7.box (.slice (some ⟨g7, 0, none⟩) n7 cp7)
         have hg7 := hO7.lt
         have HM8 : Hid (Made w0 (w7.setCell ⟨X, 0, none⟩ (.slice (some ⟨g7, 0, none⟩) n7 cp7)) X B1 B2 (n1 + 1) (n2 + k) g7 n7 cp7 f' (putK h1 l tx.toNat) (applyAll m ops)) := ⟨S1, hM7.lasts.grown S2 (by intro e; exact hM7.x1 (Option.some.inj e).symm), hM7.tally.grown S2 (by intro e; exact hM7.x2 (Option.some.inj e).symm), (hO7.mono hM.bel.size).grown S2 (by intro e; have := Option.some.inj e; omega), hM7.bel.grown S2 hM7.bel.size (fun j e => by cases e; exact hM7.geX), hM7.geX, hM7.ge1, hM7.ge2, hM7.x1, hM7.x2, hM7.x12, by omega, by omega, by omega⟩
         obtain ⟨q0, q1, q2⟩ := hM7.box.cells
         have fq := hM7.box.fz 0
         clear HAP hM hM7 S1 S2 hO7 hb7
         go_wp2_with fail
         refine bodyPost_end (v := .tuple #[]) ?_ rfl ⟨rfl, g7, n7, cp7, HM8.out⟩
         simp [results, Tryz.results156, go_sem]
       · have hkb : (kind == 2) = false := beq_eq_false_iff_ne.2 hk2
         go_wp2_with fail
         refine bodyPost_end (v := .tuple #[]) ?_ rfl ⟨rfl, g, np, cp, hM⟩
         simp [results, Tryz.results156, go_sem]
end recs
end Go.Proofs.YtijplooogplccaaGreat
