/- The specification's chains. A copy of a slice by append to an empty row of the call's own, nil or not; one struct appended. No function of the program is named here. The cursor from which the laws draw: what each call does to it. What the draws of the first chapter's laws hand back. What the draws of seals hand back: roots, seals one behind the other. -/
import Derived.Test.YtfaldffehpgaiaaDoorShag
import Derived.Maps.AppendAt
import Derived.Deep.AppendLies
import Derived.Test.YtfaldffehpgaiaaDoorRows
import Derived.Test.YtfaldffehpgaiaaDoorShaa
import Derived.Deep.RegionWith
namespace Go.Proofs.YtfaldffehpgaiaaDoor.seals
open Go Go.RowKit Go.Proofs.YtfaldffehpgaiaaDoor.base Go.Proofs.YtfaldffehpgaiaaDoor.pairs Go.Proofs.YtfaldffehpgaiaaDoor.tree Go.Proofs.YtfaldffehpgaiaaDoor.lay
set_option linter.unusedVariables false
set_option linter.unusedSimpArgs false

def link (l : List Seal) (k : Nat) : Bool := match l[k]? with
  | none => true
  | some s => sealOk s && decide (s.1 = (k : Int) + 1) && decide (s.2.1 = prevOf (l.take k))
def chainOk (l : List Seal) : Bool := (List.range l.length).all (link l) && decide (l.length ≤ 1000)
theorem link_at {l : List Seal} {k : Nat} (h : k < l.length) : link l k = (sealOk l[k] && decide (l[k].1 = (k : Int) + 1) && decide (l[k].2.1 = prevOf (l.take k))) := by
  unfold link
  rw [List.getElem?_eq_getElem h]
theorem chain_bad {l : List Seal} {k : Nat} (h : k < l.length) (hl : link l k = false) : chainOk l = false := by
  unfold chainOk
  have : (List.range l.length).all (link l) = false := by
    rw [List.all_eq_false]
    exact ⟨k, List.mem_range.2 h, by rw [hl]; simp⟩
  rw [this]; rfl
theorem chain_good {l : List Seal} (h : ∀ j, j < l.length → link l j = true) : chainOk l = decide (l.length ≤ 1000) := by
  unfold chainOk
  have : (List.range l.length).all (link l) = true := by
    rw [List.all_eq_true]
    exact fun j hj => h j (List.mem_range.1 hj)
  rw [this]; rfl
theorem slg_pre {α : Type} {R : Rd α} {w : World} {a : Option Addr} {n : Nat} {l : List α} (h : SlG R w a n l) (k : Nat) (hk : k ≤ n) : SlG R w a k (l.take k) := by
  obtain ⟨h1, h2, h3, h4⟩ := h
  refine ⟨by simp; omega, by omega, fun x hx => h3 x (List.mem_of_mem_take hx), fun h0 => ?_⟩
  obtain ⟨b, off, e, hi⟩ := h4 (by omega)
  refine ⟨b, off, e, fun i hl => ?_⟩
  have hl' : i < l.length := by simp at hl; omega
  rw [List.getElem_take]
  exact hi i hl'
set_option maxRecDepth 100000 in
theorem spec_prev (a : Option Addr) (n cap : Nat) (l : List Seal) (w : World) (h : SlG sealR w a n l) :
    Calls Tryd.prog 24 #[.slice a n cap] w fun e w' => e = .returned (.string (prevOf l)) ∧ Below w.heap.size w w' := by
  have hl := h.1
  have hm := h.2.1
  unfold maxLen at hm
  by_cases h0 : n = 0
  · subst h0
    have e0 : l = [] := List.eq_nil_of_length_eq_zero hl
    subst e0
    obtain ⟨w0, hw0⟩ : ∃ w0, w.alloc (.cells #[] 5) = w0 := ⟨_, rfl⟩
    have hb0 : Below w.heap.size w w0 := by rw [← hw0]; exact (Below.refl _ _).alloc (Nat.le_refl _) _
    have HD := Hid.mk' (sha.spec_digest w.heap.size 0 0 0 [] w0 (sl_nil _ _) (by omega))
    have HW := Hid.mk' hw0
    clear h hw0
    go_enter Tryd.func24, Tryd.ntmps24
    go_wp2_with fail
    rw [HW.out]
    refine HD.out.mono ?_
    rintro e w1 ⟨rfl, hb⟩
    go_wp2_with fail
    go_ret
    exact ⟨rfl, hb0.trans (hb.mono hb0.size)⟩
  · obtain ⟨b, off, ha, _⟩ := h.2.2.2 (by omega)
    subst ha
    obtain ⟨k, hk⟩ : ∃ k, n = k + 1 := ⟨n - 1, by omega⟩
    have hkl : k < l.length := by omega
    obtain ⟨ra, rn, rc, c0, c1, c2, c3, _⟩ := seal_at h k hkl
    have HP : Hid (prevOf l = l[k].2.2.1) := by
      show _ = _
      rw [prevOf_some (by omega)]
      have e1 : l.length - 1 = k := by omega
      simp only [e1]
    have hn0 : ((n : Int) == 0) = false := by simp; omega
    have hn1 : (n : Int) - 1 = (k : Int) := by omega
    have hlt : (k : Int) < (n : Int) := by omega
    clear hk hl
    generalize l[k] = s at *
    clear h
    go_enter Tryd.func24, Tryd.ntmps24
    go_wp2_with fail
    go_ret
    exact ⟨by rw [HP.out]; rfl, Below.refl _ _⟩
set_option maxRecDepth 100000 in
set_option maxHeartbeats 8000000 in
theorem spec_chainOk (a : Option Addr) (n cap : Nat) (l : List Seal) (w : World) (h : SlG sealR w a n l) (hcap : n ≤ cap) (hcm : cap ≤ maxLen) :
    Calls Tryd.prog 9 #[.slice a n cap] w fun e w' => e = .returned (.bool (chainOk l)) ∧ Below w.heap.size w w' := by
  have hl := h.1
  have hm := h.2.1
  unfold maxLen at hm hcm
  have HL := Hid.mk' hl
  have HH := Hid.mk' h
  go_enter Tryd.func9, Tryd.ntmps9
  go_wp2_with fail
  go_loopw [3] (fun i wr => ∃ k : Nat, k ≤ n ∧ i = .int .i64 (k : Int) ∧ (∀ j, j < k → link l j = true) ∧ Below w.heap.size w wr) (fun i _ => n - (intOf i).toNat)
  case atStart => exact ⟨0, Nat.zero_le _, rfl, fun j hj => absurd hj (Nat.not_lt_zero _), Below.refl _ _⟩
  case round =>
    obtain ⟨k, hk, rfl, hno, hb⟩ := hrel
    have HNO := Hid.mk' hno
    clear hno
    by_cases hlt : k < n
    · have hkl : k < l.length := by omega
      obtain ⟨b, off, ha, _⟩ := h.2.2.2 (by omega)
      subst ha
      obtain ⟨ra, rn, rc, c0, c1, c2, c3, hS, _, hno1, hp1, _⟩ := seal_at (h.below hb) k hkl
      have hki : (k : Int) < (n : Int) := by omega
      have hkc : (k : Int) ≤ (cap : Int) := by omega
      have HLK := Hid.mk' (link_at hkl)
      have hB := hb
      have hinh := last.On.inh wr.heap.size wr
      have p0 := last.On.cell (B := wr.heap.size) c0 (World.block_lt_of_cell? _ _ c0)
      have p1 := last.On.cell (B := wr.heap.size) c1 (World.block_lt_of_cell? _ _ c1)
      have p2 := last.On.cell (B := wr.heap.size) c2 (World.block_lt_of_cell? _ _ c2)
      have p3 := last.On.cell (B := wr.heap.size) c3 (World.block_lt_of_cell? _ _ c3)
      have hc0 : ∀ xx : last.On wr.heap.size wr, Calls Tryd.prog 11 #[.agg #[.int .i64 l[k].1, .string l[k].2.1, .string l[k].2.2.1, .slice ra rn rc]] xx.w fun e w' => e = .returned (.bool (sealOk l[k])) ∧ ∃ yv : last.On wr.heap.size wr, w' = yv.w := fun xx => last.Calls.on xx (Nat.le_refl _) (spec_sealOk ra rn rc l[k] xx.w (hS.below xx.2) hno1 hp1)
      have hc1 : ∀ xx : last.On wr.heap.size wr, Calls Tryd.prog 24 #[.slice (some ⟨b, off, none⟩) k cap] xx.w fun e w' => e = .returned (.string (prevOf (l.take k))) ∧ ∃ yv : last.On wr.heap.size wr, w' = yv.w := fun xx => last.Calls.on xx (Nat.le_refl _) (spec_prev _ k cap (l.take k) xx.w (slg_pre ((h.below hb).below xx.2) k (by omega)))
      clear h c0 c1 c2 c3 hS hno1 hp1
      generalize hr0 : sealOk l[k] = r0 at *
      generalize hr2 : prevOf (l.take k) = pv at *
      have HF : Hid (r0 = false → chainOk l = false) := fun e => chain_bad hkl (by rw [HLK.out, e]; rfl)
      have HF1 : Hid (l[k].1 ≠ (k : Int) + 1 → chainOk l = false) := fun e => chain_bad hkl (by rw [HLK.out, decide_eq_false e]; simp)
      have HF2 : Hid (l[k].2.1 ≠ pv → chainOk l = false) := fun e => chain_bad hkl (by rw [HLK.out, decide_eq_false e]; simp)
      have HG : Hid (r0 = true → l[k].1 = (k : Int) + 1 → l[k].2.1 = pv → ∀ j, j < k + 1 → link l j = true) := fun e1 e2 e3 j hj => by
        by_cases hjk : j = k
        · subst hjk; rw [HLK.out, e1, decide_eq_true e2, decide_eq_true e3]; rfl
        · exact HNO.out j (by omega)
      clear HLK hr0 hr2
      generalize l[k] = s at *
      obtain ⟨no, pp, su, rs⟩ := s
      simp only [] at *
      cases r0
      · have HR := Hid.mk' (HF.out rfl)
        clear HF HF1 HF2 HG
        go_wp2_with fail
        refine last.wp_region_on wr.heap.size (by kernel_rfl) (by kernel_rfl) ?_
        repeat (go_big_quiet_step (first | (go_at_call 11; with_reducible exact hc0 _) | (go_at_call 24; with_reducible exact hc1 _)))
        refine wpQuiet_nil ?_
        intro wq hwq
        obtain ⟨xq, hwq⟩ := hwq
        subst hwq
        have hbq : Below wr.heap.size wr xq.w := xq.2
        go_wp2_with fail
        go_ret
        exact ⟨by rw [HR.out]; rfl, hB.trans (hbq.mono hB.size)⟩
      by_cases e1 : no = (k : Int) + 1
      · have hd : (no != (k : Int) + 1) = false := by simp [e1]
        by_cases e2 : pp = pv
        · have HR := Hid.mk' (HG.out rfl e1 e2)
          subst e2
          have hq := str_same pp
          clear HF HF1 HF2 HG e1
          go_wp2_with fail
          refine last.wp_region_on wr.heap.size (by kernel_rfl) (by kernel_rfl) ?_
          repeat (go_big_quiet_step (first | (go_at_call 11; with_reducible exact hc0 _) | (go_at_call 24; with_reducible exact hc1 _)))
          refine wpQuiet_nil ?_
          intro wq hwq
          obtain ⟨xq, hwq⟩ := hwq
          subst hwq
          have hbq : Below wr.heap.size wr xq.w := xq.2
          go_wp2_with fail
          go_roundw
          case rel => exact ⟨k + 1, by omega, by go_num, HR.out, hB.trans (hbq.mono hB.size)⟩
          case measure => simp [intOf]; omega
        · have HR := Hid.mk' (HF2.out e2)
          have hq := str_ne e2
          clear HF HF1 HF2 HG e1 e2
          go_wp2_with fail
          refine last.wp_region_on wr.heap.size (by kernel_rfl) (by kernel_rfl) ?_
          repeat (go_big_quiet_step (first | (go_at_call 11; with_reducible exact hc0 _) | (go_at_call 24; with_reducible exact hc1 _)))
          refine wpQuiet_nil ?_
          intro wq hwq
          obtain ⟨xq, hwq⟩ := hwq
          subst hwq
          have hbq : Below wr.heap.size wr xq.w := xq.2
          go_wp2_with fail
          go_ret
          exact ⟨by rw [HR.out]; rfl, hB.trans (hbq.mono hB.size)⟩
      · have HR := Hid.mk' (HF1.out e1)
        have hd : (no != (k : Int) + 1) = true := by simp [e1]
        clear HF HF1 HF2 HG e1
        go_wp2_with fail
        refine last.wp_region_on wr.heap.size (by kernel_rfl) (by kernel_rfl) ?_
        repeat (go_big_quiet_step (first | (go_at_call 11; with_reducible exact hc0 _) | (go_at_call 24; with_reducible exact hc1 _)))
        refine wpQuiet_nil ?_
        intro wq hwq
        obtain ⟨xq, hwq⟩ := hwq
        subst hwq
        have hbq : Below wr.heap.size wr xq.w := xq.2
        go_wp2_with fail
        go_ret
        exact ⟨by rw [HR.out]; rfl, hB.trans (hbq.mono hB.size)⟩
    · have hki : ¬ (k : Int) < (n : Int) := by omega
      have HR := Hid.mk' (chain_good (l := l) (fun j hj => HNO.out j (by omega)))
      have HD : Hid (decide (l.length ≤ 1000) = decide ((n : Int) ≤ 1000)) := by show _ = _; rw [hl]; exact decide_eq_decide.2 ⟨fun e => by omega, fun e => by omega⟩
      by_cases h1 : (n : Int) ≤ 1000
      · go_wp2_with fail
        go_ret
        exact ⟨by rw [HR.out, HD.out]; simp [h1], hb⟩
      · go_wp2_with fail
        go_ret
        exact ⟨by rw [HR.out, HD.out]; simp [h1], hb⟩
end Go.Proofs.YtfaldffehpgaiaaDoor.seals

namespace Go.Proofs.YtfaldffehpgaiaaDoor.cos
open Go Go.RowKit Go.Proofs.YtfaldffehpgaiaaDoor.base Go.Proofs.YtfaldffehpgaiaaDoor.lay
set_option linter.unusedVariables false
set_option linter.unusedSimpArgs false

section
variable {α : Type} {R : Rd α} {enc : α → List Value} {ok : α → Prop} {w : World} {l : List α}
theorem Flat.cells (hR : Flat R enc ok) {b off n : Nat} (h : SlG R w (some ⟨b, off, none⟩) n l) : ∀ j u, (l.flatMap enc)[j]? = some u → w.cell? ((⟨b, off, none⟩ : Addr).add j) = some u := by
  intro j u hj
  have hp : ∀ p ∈ l.map (fun x => (enc x, ([] : List Nat))), p.1.length = R.size := fun p hp => by
    obtain ⟨x, hx, rfl⟩ := List.mem_map.1 hp
    obtain ⟨vs, hv⟩ := h.2.2.1 x hx
    have := R.seeLen hv
    rwa [(hR.see.1 hv).1] at this
  have e1 : cellsOf (l.map (fun x => (enc x, ([] : List Nat)))) = l.flatMap enc := by unfold cellsOf; rw [List.flatMap_map]
  have hjl := (List.getElem?_eq_some_iff.1 hj).1
  rw [← e1, cellsOf_length hp, List.length_map] at hjl
  have hn0 : 0 < R.size := by
    rcases Nat.eq_zero_or_pos R.size with e | e
    · rw [e] at hjl; omega
    · exact e
  have hm := Nat.mod_lt j hn0
  have hjd : j / R.size < l.length := Nat.div_lt_of_lt_mul (by rw [Nat.mul_comm]; exact hjl)
  have e : j = j / R.size * R.size + j % R.size := by rw [Nat.mul_comm]; have := Nat.div_add_mod j R.size; omega
  rw [← e1] at hj
  obtain ⟨d, m, hd, hm2, hjm⟩ : ∃ d m, d < l.length ∧ m < R.size ∧ j = d * R.size + m := ⟨_, _, hjd, hm, e⟩
  clear e hm hjd hjl
  subst hjm
  rw [cellsOf_get hp d (by simpa using hd) m hm2] at hj
  simp only [List.getElem_map] at hj
  obtain ⟨b', off', e2, hc⟩ := h.2.2.2 (by have := h.1; omega)
  simp only [Option.some.injEq, Addr.mk.injEq, and_true] at e2
  obtain ⟨rfl, rfl⟩ := e2
  obtain ⟨vs, hs, hcl⟩ := hc d hd
  rw [(hR.see.1 hs).1] at hcl
  have := hcl _ _ hj
  rw [Addr.add_lit, ← Nat.add_assoc]
  exact this
theorem Flat.len (hR : Flat R enc ok) {a : Option Addr} {n : Nat} (h : SlG R w a n l) : (l.flatMap enc).length = n * R.size := by
  have hp : ∀ p ∈ l.map (fun x => (enc x, ([] : List Nat))), p.1.length = R.size := fun p hp => by
    obtain ⟨x, hx, rfl⟩ := List.mem_map.1 hp
    obtain ⟨vs, hv⟩ := h.2.2.1 x hx
    have := R.seeLen hv
    rwa [(hR.see.1 hv).1] at this
  have e1 : cellsOf (l.map (fun x => (enc x, ([] : List Nat)))) = l.flatMap enc := by unfold cellsOf; rw [List.flatMap_map]
  rw [← e1, cellsOf_length hp, List.length_map, h.1]
theorem Flat.oks (hR : Flat R enc ok) {a : Option Addr} {n : Nat} (h : SlG R w a n l) : ∀ x ∈ l, ok x := fun x hx => by
  obtain ⟨vs, hv⟩ := h.2.2.1 x hx
  exact (hR.see.1 hv).2
theorem Flat.copyRun {P : Program} (hR : Flat R enc ok) (h1 : ∀ x, ∀ u ∈ enc x, u.oneCell' = true) (hsz : 0 < R.size) {t e : TypeId} {z : Value} {bytes : Nat} (ht : P.underlying t = some (.slice e)) (hinfo : (P.info? e).map (fun i => (i.zero, i.size, i.bytes)) = some (some z, R.size, bytes)) (hzs : z.cells.size = R.size)
    (hnone : ∀ (w : World) (g c : Nat) (ty : TypeId), (Builtin.append_ #[t, t] ty #[.slice (some ⟨g, 0, none⟩) 0 0, .slice none 0 c]).run P w = .ok (.slice (some ⟨g, 0, none⟩) 0 0) w)
    (g : Nat) (a : Option Addr) (n c : Nat) (hg : w.ownsRow 0 e R.size (.slice (some ⟨g, 0, none⟩) 0 0) 0 []) (h : SlG R w a n l) (hb : n * bytes ≤ 140737488355328) (ty : TypeId) :
    ∃ g' cap' w', (Builtin.append_ #[t, t] ty #[.slice (some ⟨g, 0, none⟩) 0 0, .slice a n c]).run P w = .ok (.slice (some ⟨g', 0, none⟩) n cap') w' ∧ OwnG e R w' (.slice (some ⟨g', 0, none⟩) n cap') l (l.map fun x => (enc x, [])) ∧ w.grownBy w' (some g) ∧ (g' = g ∨ w.heap.size ≤ g') := by
  have hoks := hR.oks h
  have hlen := hR.len h
  have hl := h.1
  obtain ⟨i, hi, hz0, hz1, hz2⟩ := info_parts hinfo
  cases a with
  | none =>
    have hn0 : n = 0 := by
      rcases Nat.eq_zero_or_pos n with e | e
      · exact e
      · obtain ⟨b, off, e2, _⟩ := h.2.2.2 e; cases e2
    subst hn0
    have : l = [] := List.eq_nil_of_length_eq_zero hl
    subst this
    exact ⟨g, 0, w, hnone w g c ty, hR.made hg (fun x hx => absurd hx List.not_mem_nil), World.grownBy.refl _ _, .inl rfl⟩
  | some ad =>
    obtain ⟨v', w', hr, h2, h3, h4, h5⟩ := run_append_own_at (P := P) w 0 t ty e i z R.size bytes ht hi hz0 hz1 hz2 hzs hsz (.slice (some ⟨g, 0, none⟩) 0 0) 0 [] hg ad n c (l.flatMap enc) hlen (fun j u hj => by
      rcases Nat.eq_zero_or_pos n with e0 | e0
      · have : l = [] := List.eq_nil_of_length_eq_zero (by omega)
        subst this
        simp at hj
      · obtain ⟨b, off, e2, _⟩ := h.2.2.2 e0
        cases e2
        exact hR.cells h j u hj) (fun u hu => by
      obtain ⟨x, _, hx⟩ := List.mem_flatMap.1 hu
      exact h1 x u hx) (by have := h.2.1; omega) (by rw [Nat.zero_add]; exact hb) (Nat.zero_le _)
    rw [Nat.zero_add, List.nil_append] at h2
    rcases h2.2 with ⟨e2, _⟩ | ⟨g', cap', cur, e2, _⟩
    · exact absurd (h4.1 e2).1 (by simp)
    · subst e2
      refine ⟨g', cap', w', hr, hR.made (by rw [hl]; exact h2) hoks, h3, ?_⟩
      rcases h5 with h5 | h5
      · left; simpa [Value.ownBlock] using h5
      · right
        have : g' = w.heap.size := by simpa [Value.ownBlock] using h5
        omega
end
theorem OwnG.appRun {α : Type} {R : Rd α} {P : Program} {V : World} {t ty : TypeId} {z : Value} {bytes : Nat} (ht : P.underlying t = some (.slice ty)) (hinfo : (P.info? ty).map (fun i => (i.zero, i.size, i.bytes)) = some (some z, R.size, bytes)) (hzs : z.cells.size = R.size) (hsz : 0 < R.size)
    {v : Value} {l : List α} {q : Parts} {us : List Value} {x : α} {F : List Nat} (h : OwnG ty R V v l q) (hx : R.own V us x F) (hd : ∀ k ∈ F, k ∉ v.ownBlock.toList ++ blocksOf q) {X : Nat} {T : TypeId} (hX : BoxIn X T [] us [] V) (hm : l.length + 1 ≤ maxLen) (hb : (l.length + 1) * bytes ≤ 140737488355328) (tyo : TypeId) :
    ∃ g cap w', (Builtin.append_ #[t, t] tyo #[v, .slice (some ⟨X, 0, none⟩) 1 1]).run P V = .ok (.slice (some ⟨g, 0, none⟩) (l.length + 1) cap) w' ∧ OwnG ty R w' (.slice (some ⟨g, 0, none⟩) (l.length + 1) cap) (l ++ [x]) (q ++ [(us, F)]) ∧ V.grownBy w' v.ownBlock ∧ (v.ownBlock = some g ∨ g = V.heap.size) := by
  obtain ⟨i, hi, hz0, hz1, hz2⟩ := info_parts hinfo
  obtain ⟨g, cap, w', h1, h2, h3, h4, h5⟩ := run_append_lies (P := P) V t tyo 0 ty i z R.size bytes ht hi hz0 hz1 hz2 hzs hsz v l.length (cellsOf q) h.row ⟨X, 0, none⟩ 1 1 us (by rw [R.ownLen hx, Nat.one_mul]) (fun j u hj => by
    have := hX.cell j u hj
    rw [Addr.add_lit, Nat.zero_add]
    simpa using this) (R.ownOne hx) (by omega) hm hb (Nat.zero_le _) V.heap.size rfl
  exact ⟨g, cap, w', h1, OwnG.snoc h hx hd h2 h3 h4 rfl, h3, h4⟩
theorem wp_append_run {P : Program} {w w' : World} {o : Oper} {a : Act} {K : Act → World → Prop} {Q : Exit → Act → World → Prop} (s x : Operand) (t : TypeId) (ho : o.op = .call { callee := .builtin .append, args := #[s, x], argTypes := #[t, t] }) {v1 v2 v' : Value} (hs : a.eval s = v1) (hx : a.eval x = v2)
    (hr : (Builtin.append_ #[t, t] o.type #[v1, v2]).run P w = .ok v' w') (h : K (a.put o.dst v') w') : o.wp P a w K Q := by
  unfold Oper.wp execOp
  simp only [ho, resolve, invoke, builtin, Sem.run_bind, Sem.run_pure, Result.andThen_ok, List.map_toArray, List.map_cons, List.map_nil, hs, hx, hr]
  exact h
theorem step_append_run {P : Program} {ops : Array Oper} {o : Oper} {a : Act} {w w' : World} {K : Act → World → Prop} {Q : Exit → Act → World → Prop} {E : Prop} (hgd : o.guard = none) (s x : Operand) (t : TypeId)
    (ho : o.op = .call { callee := .builtin .append, args := #[s, x], argTypes := #[t, t] }) {v1 v2 v' : Value} (hs : a.eval s = v1) (hx : a.eval x = v2) (hr : (Builtin.append_ #[t, t] o.type #[v1, v2]).run P w = .ok v' w') (h : K (a.put o.dst v') w') :
    if Region.wanted o (yielded ops a.tmps) = true then Oper.wp P o a w K Q else E := by
  have hw : Region.wanted o (yielded ops a.tmps) = true := by simp [Region.wanted, hgd]
  rw [if_pos hw]
  exact wp_append_run s x t ho hs hx hr h
theorem wpList_append_run {P : Program} {ops : Array Oper} {rest : List Oper} {o : Oper} {a : Act} {w w' : World} {Q : Exit → Act → World → Prop} (hgd : o.guard = none) (s x : Operand) (t : TypeId)
    (ho : o.op = .call { callee := .builtin .append, args := #[s, x], argTypes := #[t, t] }) {v1 v2 v' : Value} (hs : a.eval s = v1) (hx : a.eval x = v2) (hr : (Builtin.append_ #[t, t] o.type #[v1, v2]).run P w = .ok v' w') (h : wpList P ops Q rest (a.put o.dst v') w') : wpList P ops Q (o :: rest) a w :=
  wpList_plain hgd fun _ hK => wp_append_run s x t ho hs hx hr (hK _ _ h)
end Go.Proofs.YtfaldffehpgaiaaDoor.cos

namespace Go.Proofs.YtfaldffehpgaiaaDoor.draw
open Go.RowKit Go.Proofs.YtfaldffehpgaiaaDoor.base
set_option linter.unusedVariables false
set_option linter.unusedSimpArgs false

def Cur (w0 w : World) (gc : Nat) (a : Option Addr) (len cap : Nat) (code : List UInt8) : Prop :=
  Sl w0 a len code ∧ Below w0.heap.size w0 w ∧ w0.heap.size ≤ gc ∧ len ≤ 1099511627776 ∧
  ∃ i h : Int, 0 ≤ i ∧ i ≤ len ∧ w.heap[gc]? = some (.cells #[.slice a len cap, .int .i64 i, .int .i64 h] 63 (0, 0))

theorem and_byte (z : Int) : 0 ≤ bits .and .i64 z 255 ∧ bits .and .i64 z 255 ≤ 255 := by
  have e : bits .and .i64 z 255 = IntKind.i64.wrap (((BitVec.ofInt 64 z) &&& (BitVec.ofInt 64 255)).toNat : Int) := rfl
  have h : ((BitVec.ofInt 64 z) &&& (BitVec.ofInt 64 255)).toNat ≤ 255 := by
    rw [BitVec.toNat_and]
    exact Nat.le_trans Nat.and_le_right (by decide)
  rw [e, wraps_i64 _ (by omega) (by omega)]
  omega

theorem cur_of {w0 w w1 : World} {gc : Nat} {a : Option Addr} {len cap : Nat} {code : List UInt8} {i h : Int} (hS : Sl w0 a len code) (hB : Below w0.heap.size w0 w) (hgc : w0.heap.size ≤ gc) (hln : len ≤ 1099511627776)
    (hi0 : 0 ≤ i) (hi1 : i ≤ len) (hg : w.grownBy w1 (some gc)) (hr : w1.heap[gc]? = some (.cells #[.slice a len cap, .int .i64 i, .int .i64 h] 63 (0, 0))) : Cur w0 w1 gc a len cap code :=
  ⟨hS, hB.grown hg hB.size (fun k e => by cases e; exact hgc), hgc, hln, i, h, hi0, hi1, hr⟩

set_option maxRecDepth 100000 in
set_option maxHeartbeats 1000000 in
theorem byte_ (w0 w : World) (gc : Nat) (a : Option Addr) (len cap : Nat) (code : List UInt8) (h : Cur w0 w gc a len cap code) :
    Calls Tryd.prog 60 #[.pointer (some ⟨gc, 0, none⟩)] w fun e w' => ∃ x : Int, 0 ≤ x ∧ x ≤ 255 ∧ e = .returned (.int .i64 x) ∧ Cur w0 w' gc a len cap code ∧ w.grownBy w' (some gc) := by
  obtain ⟨hS, hB, hgc, hln, i, hh, hi0, hi1, hrow⟩ := h
  have c0 : w.cell? ⟨gc, 0, none⟩ = some (.slice a len cap) := cell_cur hrow 0 _ rfl
  have c1 : w.cell? ⟨gc, 1, none⟩ = some (.int .i64 i) := cell_cur hrow 1 _ rfl
  have c2 : w.cell? ⟨gc, 2, none⟩ = some (.int .i64 hh) := cell_cur hrow 2 _ rfl
  have f1 : w.frozen? ⟨gc, 1, none⟩ = false := frozen_of_row w gc 1 _ _ hrow
  have f2 : w.frozen? ⟨gc, 2, none⟩ = false := frozen_of_row w gc 2 _ _ hrow
  have HROW := Hid.mk' hrow
  clear hrow
  by_cases hlt : i < len
  · obtain ⟨I, rfl⟩ := Int.eq_ofNat_of_zero_le hi0
    have hS' := hS.below hB
    have hIl : I < code.length := by have := hS.1; omega
    obtain ⟨b, off, ha, hcl⟩ := hS.2.2 (by omega)
    subst ha
    have hbb : b < w0.heap.size := World.block_lt_of_cell? w0 _ (hcl I hIl)
    have hne : ¬ b = gc := by omega
    have hne2 : ¬ gc = b := by omega
    generalize hcc : code[I].toNat = c
    have hc256 : c < 256 := by rw [← hcc]; exact UInt8.toNat_lt _
    have c3 : w.cell? ⟨b, off + I, none⟩ = some (.int .u8 (c : Int)) := by rw [hS'.at I hIl, hcc]
    have hi3 : (I : Int) < (len : Int) := hlt
    clear hcl hcc hIl hS'
    go_enter Tryd.func60, Tryd.ntmps60
    go_wp2
    go_quiet (fail)
    go_wp2
    go_quiet (fail)
    go_wp2
    go_quiet (fail)
    go_wp2
    go_ret
    have hs := set_cur HROW.out 2 (.int .i64 (wrap64 (wrap64 (hh * 6364136223846793005) + 1442695040888963407)))
    have hs2 := fun n => set_cur (w := (w.setCell ⟨gc, 2, none⟩ (.int .i64 (wrap64 (wrap64 (hh * 6364136223846793005) + 1442695040888963407)))).drewN n) hs.1 1 (.int .i64 ((I : Int) + 1))
    have hg := fun n => grownBy_trans (grown_drewN hs.2 n) (hs2 n).2
    exact ⟨_, (and_byte _).1, (and_byte _).2, rfl, cur_of hS hB hgc hln (by omega) (by omega) (hg _) (hs2 _).1, hg _⟩
  · go_enter Tryd.func60, Tryd.ntmps60
    go_wp2
    go_quiet (fail)
    go_wp2
    go_quiet (fail)
    go_wp2
    go_ret
    have hs := set_cur HROW.out 2 (.int .i64 (wrap64 (wrap64 (hh * 6364136223846793005) + 1442695040888963407)))
    exact ⟨_, (and_byte _).1, (and_byte _).2, rfl, cur_of hS hB hgc hln hi0 hi1 (grown_drewN (grown_drewN hs.2 _) _) hs.1, grown_drewN (grown_drewN hs.2 _) _⟩

theorem Cur.lt {w0 w : World} {gc : Nat} {a : Option Addr} {len cap : Nat} {code : List UInt8} (h : Cur w0 w gc a len cap code) : gc < w.heap.size := by
  obtain ⟨_, _, _, _, i, hh, _, _, hr⟩ := h
  exact (Array.getElem?_eq_some_iff.1 hr).1
theorem Cur.bel {w0 w : World} {gc : Nat} {a : Option Addr} {len cap : Nat} {code : List UInt8} (h : Cur w0 w gc a len cap code) : Below w0.heap.size w0 w := h.2.1
theorem Cur.ge {w0 w : World} {gc : Nat} {a : Option Addr} {len cap : Nat} {code : List UInt8} (h : Cur w0 w gc a len cap code) : w0.heap.size ≤ gc := h.2.2.1
theorem Cur.grown {w0 w w1 : World} {gc : Nat} {a : Option Addr} {len cap : Nat} {code : List UInt8} {row : Option Nat} (h : Cur w0 w gc a len cap code) (hg : w.grownBy w1 row) (hne : some gc ≠ row) (hr : ∀ k, row = some k → w0.heap.size ≤ k) : Cur w0 w1 gc a len cap code := by
  have hlt := h.lt
  obtain ⟨hS, hB, hgc, hln, i, hh, hi0, hi1, hrow⟩ := h
  exact ⟨hS, hB.grown hg hB.size hr, hgc, hln, i, hh, hi0, hi1, by rw [hg.block gc hlt hne]; exact hrow⟩
theorem Cur.below {w0 w w1 : World} {gc : Nat} {a : Option Addr} {len cap : Nat} {code : List UInt8} (h : Cur w0 w gc a len cap code) (hb : Below w.heap.size w w1) : Cur w0 w1 gc a len cap code :=
  h.grown (row := none) ⟨hb.os, hb.tape, hb.output, hb.size, fun k hk _ => hb.block k hk⟩ (by simp) (fun k e => by cases e)

set_option maxRecDepth 100000 in
set_option maxHeartbeats 1000000 in
theorem below_ (w0 w : World) (gc : Nat) (a : Option Addr) (len cap : Nat) (code : List UInt8) (n : Int) (h : Cur w0 w gc a len cap code) (hn : 0 < n) (hn2 : n ≤ 1000000000) :
    Calls Tryd.prog 42 #[.pointer (some ⟨gc, 0, none⟩), .int .i64 n] w fun e w' => ∃ x : Nat, (x : Int) < n ∧ e = .returned (.int .i64 (x : Int)) ∧ Cur w0 w' gc a len cap code ∧ w.grownBy w' (some gc) := by
  by_cases hs : n ≤ 256
  · go_enter Tryd.func42, Tryd.ntmps42
    go_wp2_with fail
    refine (byte_ w0 _ gc a len cap code h).mono ?_
    rintro e w1 ⟨x, hx0, hx1, rfl, hc1, hg1⟩
    go_wp2_with fail
    go_ret
    have e1 : 0 ≤ x % n := Int.emod_nonneg _ (by omega)
    have e2 : x % n < n := Int.emod_lt_of_pos _ hn
    exact ⟨(x % n).toNat, by omega, ret_int (by omega), hc1, hg1⟩
  · go_enter Tryd.func42, Tryd.ntmps42
    go_wp2_with fail
    refine (byte_ w0 _ gc a len cap code h).mono ?_
    rintro e w1 ⟨x, hx0, hx1, rfl, hc1, hg1⟩
    go_wp2_with fail
    refine (byte_ w0 _ gc a len cap code hc1).mono ?_
    rintro e w2 ⟨y, hy0, hy1, rfl, hc2, hg2⟩
    go_wp2_with fail
    refine (byte_ w0 _ gc a len cap code hc2).mono ?_
    rintro e w3 ⟨z, hz0, hz1, rfl, hc3, hg3⟩
    go_wp2_with fail
    go_ret
    have e1 : 0 ≤ (x * 65536 + y * 256 + z) % n := Int.emod_nonneg _ (by omega)
    have e2 : (x * 65536 + y * 256 + z) % n < n := Int.emod_lt_of_pos _ hn
    exact ⟨((x * 65536 + y * 256 + z) % n).toNat, by omega, ret_int (by omega), hc3, grownBy_trans (grownBy_trans hg1 hg2) hg3⟩

theorem int_ (w0 w : World) (gc : Nat) (a : Option Addr) (len cap : Nat) (code : List UInt8) (gl n cp : Nat) (zs : Array Value) (mk : Nat × Nat) (h : Cur w0 w gc a len cap code) (hr : w.heap[gl]? = some (.cells zs 3 mk)) (hz : zs.size = n) (hn : 0 < n) (hn2 : n ≤ 1000) (hne : gl ≠ gc)
    (P : Int → Prop) (hP : ∀ i, i < n → ∃ z, zs[i]? = some (.int .i64 z) ∧ P z) :
    Calls Tryd.prog 61 #[.pointer (some ⟨gc, 0, none⟩), .slice (some ⟨gl, 0, none⟩) n cp] w fun e w' => ∃ z : Int, P z ∧ e = .returned (.int .i64 z) ∧ Cur w0 w' gc a len cap code ∧ w.grownBy w' (some gc) := by
  go_enter Tryd.func61, Tryd.ntmps61
  go_wp2_with fail
  refine (below_ w0 _ gc a len cap code _ h (by omega) (by omega)).mono ?_
  rintro e w1 ⟨x, hx, rfl, hc1, hg1⟩
  have hgl : gl < w.heap.size := (Array.getElem?_eq_some_iff.1 hr).1
  obtain ⟨z, hz1, hz2⟩ := hP x (by omega)
  have c1 : w1.cell? ⟨gl, x, none⟩ = some (.int .i64 z) := by
    have e1 := hg1.block gl hgl (by simpa using hne)
    rw [hr] at e1
    exact cell_cur e1 x _ hz1
  go_wp2_with fail
  go_ret
  exact ⟨z, hz2, rfl, hc1, hg1⟩

theorem str_ (w0 w : World) (gc : Nat) (a : Option Addr) (len cap : Nat) (code : List UInt8) (gl n cp : Nat) (zs : Array Value) (mk : Nat × Nat) (h : Cur w0 w gc a len cap code) (hr : w.heap[gl]? = some (.cells zs 9 mk)) (hz : zs.size = n) (hn : 0 < n) (hn2 : n ≤ 1000) (hne : gl ≠ gc)
    (P : ByteArray → Prop) (hP : ∀ i, i < n → ∃ z, zs[i]? = some (.string z) ∧ P z) :
    Calls Tryd.prog 62 #[.pointer (some ⟨gc, 0, none⟩), .slice (some ⟨gl, 0, none⟩) n cp] w fun e w' => ∃ z : ByteArray, P z ∧ e = .returned (.string z) ∧ Cur w0 w' gc a len cap code ∧ w.grownBy w' (some gc) := by
  go_enter Tryd.func62, Tryd.ntmps62
  go_wp2_with fail
  refine (below_ w0 _ gc a len cap code _ h (by omega) (by omega)).mono ?_
  rintro e w1 ⟨x, hx, rfl, hc1, hg1⟩
  have hgl : gl < w.heap.size := (Array.getElem?_eq_some_iff.1 hr).1
  obtain ⟨z, hz1, hz2⟩ := hP x (by omega)
  have c1 : w1.cell? ⟨gl, x, none⟩ = some (.string z) := by
    have e1 := hg1.block gl hgl (by simpa using hne)
    rw [hr] at e1
    exact cell_cur e1 x _ hz1
  go_wp2_with fail
  go_ret
  exact ⟨z, hz2, rfl, hc1, hg1⟩

set_option maxRecDepth 100000 in
set_option maxHeartbeats 1000000 in
theorem new_ (w0 w : World) (a : Option Addr) (len cap : Nat) (code : List UInt8) (h0 : Sl w0 a len code) (hB : Below w0.heap.size w0 w) (hln : len ≤ 1099511627776) :
    Calls Tryd.prog 20 #[.slice a len cap] w fun e w' => e = .returned (.pointer (some ⟨w.heap.size, 0, none⟩)) ∧ Cur w0 w' w.heap.size a len cap code ∧ Below w.heap.size w w' := by
  have hS := h0.below hB
  obtain ⟨hl, hm, hc⟩ := id hS
  subst hl
  go_enter Tryd.func20, Tryd.ntmps20
  go_wp2
  go_loop [3, 4] (fun hv i => ∃ (k : Nat) (hh : Int), k ≤ code.length ∧ i = .int .i64 (k : Int) ∧ hv = .int .i64 hh) (fun _ i => code.length - (intOf i).toNat)
  case atStart => exact ⟨0, _, Nat.zero_le _, rfl, rfl⟩
  case round =>
    obtain ⟨k, hh, hk, rfl, rfl⟩ := hrel
    by_cases hlt : k < code.length
    · by_cases h4 : k < 4000
      · obtain ⟨b, off, ha, hcl⟩ := hc (by omega)
        subst ha
        have c1 : w.cell? ⟨b, off + k, none⟩ = some (.int .u8 code[k].toNat) := hcl k hlt
        have hi1 : (k : Int) < (code.length : Int) := by omega
        clear hcl hc
        go_wp2
        go_round
        case rel => exact ⟨k + 1, _, by omega, by go_num, rfl⟩
        case measure => simp [intOf]; omega
      · go_wp2
        go_ret
        exact ⟨rfl, ⟨h0, hB.alloc hB.size _, hB.size, hln, 0, hh, by omega, by omega, heap_alloc_new w _⟩, (Below.refl _ _).alloc (Nat.le_refl _) _⟩
    · go_wp2
      go_ret
      exact ⟨rfl, ⟨h0, hB.alloc hB.size _, hB.size, hln, 0, hh, by omega, by omega, heap_alloc_new w _⟩, (Below.refl _ _).alloc (Nat.le_refl _) _⟩

def GotBytes (w0 w : World) (gc : Nat) (a : Option Addr) (len cap : Nat) (code : List UInt8) (e : Ending) (w' : World) : Prop :=
  ∃ (g m cp : Nat) (bs : List UInt8), m ≤ 1000 ∧ e = .returned (.slice (some ⟨g, 0, none⟩) m cp) ∧ Own w' w.heap.size g m cp bs ∧ Cur w0 w' gc a len cap code ∧ w.grownBy w' (some gc)
set_option maxRecDepth 100000 in
set_option maxHeartbeats 1000000 in
theorem bytes_ (w0 w : World) (gc : Nat) (a : Option Addr) (len cap : Nat) (code : List UInt8) (n : Int) (h : Cur w0 w gc a len cap code) (hn2 : n ≤ 1000) :
    Calls Tryd.prog 71 #[.pointer (some ⟨gc, 0, none⟩), .int .i64 n] w fun e w' => GotBytes w0 w gc a len cap code e w' := by
  obtain ⟨i0, hi, hz0, hz1, hz2⟩ := info_parts info8
  have hgcl := h.lt
  go_enter Tryd.func71, Tryd.ntmps71
  go_wp2_with (at_builtin; fail)
  go_loopw [5, 6] (fun v i wr => ∃ (k g cp : Nat) (bs : List UInt8), k ≤ 1000 ∧ i = .int .i64 (k : Int) ∧ v = .slice (some ⟨g, 0, none⟩) k cp ∧ Own wr w.heap.size g k cp bs ∧ Cur w0 wr gc a len cap code ∧ w.grownBy wr (some gc)) (fun _ i _ => (n - intOf i).toNat)
  case atStart => exact ⟨0, w.heap.size, 0, [], by omega, rfl, rfl, own_made w _ (Nat.le_refl _), h.below ((Below.refl _ _).alloc (Nat.le_refl _) _), grown_alloc (World.grownBy.refl _ _) _⟩
  case round =>
    obtain ⟨k, g, cp, bs, hk, rfl, rfl, hO, hC, hG⟩ := hrel
    by_cases hlt : (k : Int) < n
    · go_wp2_with fail
      refine (byte_ w0 _ gc a len cap code hC).mono ?_
      rintro e w1 ⟨x, hx0, hx1, rfl, hC1, hG1⟩
      have hO1 : Own w1 w.heap.size g k cp bs := hO.grown hG1 (by have := hO.lt; simp; omega)
      have hGG := grownBy_trans hG hG1
      have hbw : w.heap.size ≤ w1.heap.size := hGG.size
      have hc3 : k + 1 ≤ maxLen := by unfold maxLen; omega
      have hc4 : (k + 1) * 1 ≤ 140737488355328 := by omega
      clear hO hC hG hG1
      go_wp2_with (at_builtin; refine wpList_append_own _ rfl _ _ 22 rfl w.heap.size 5 i0 (.int .u8 0) 1 1 Tryd.underlying22 hi hz0 hz1 hz2 rfl (by decide) _ _ _ rfl (hO1.2.alloc _) ⟨w1.heap.size, 0, none⟩ 1 1 [_] rfl rfl (cell_one_new _ _ _) (one_oneCell _ _) hc3 hc4 (le_alloc _ _ hbw) ?_)
      intro v2 w2 hown hgrow hnn
      obtain ⟨g2, cap2, hv, hO2⟩ := own_app (m := 1) (ns := [UInt8.ofNat x.toNat]) hO1.1 rfl (one_val (byte_x x hx0 hx1)) hnn hown
      subst hv
      have hba : Below w1.heap.size w1 (w1.alloc (.cells #[.int .u8 x] 5)) := (Below.refl _ _).alloc (Nat.le_refl _) _
      have hgl := hO1.lt
      have hC2 := (hC1.below hba).grown hgrow (show some gc ≠ some g by simp; omega) (fun k e => by simp [Value.ownBlock] at e; have := h.ge; omega)
      have hG2 := grown_own (g := g) (grown_alloc hGG _) hgrow (by omega)
      have HO2 := Hid.mk' hO2
      clear hown hgrow hnn hO1 hO2 hC1 hGG hba
      go_wp2_with (at_builtin; fail)
      go_roundw
      case rel => exact ⟨k + 1, g2, cap2, _, by omega, by go_num, rfl, HO2.out, hC2, hG2⟩
      case measure => simp [intOf]; omega
    · go_wp2_with (at_builtin; fail)
      go_ret
      exact ⟨g, k, cp, bs, hk, rfl, hO, hC, hG⟩

end Go.Proofs.YtfaldffehpgaiaaDoor.draw

namespace Go.Proofs.YtfaldffehpgaiaaDoor.draw
open Go.RowKit Go.Proofs.YtfaldffehpgaiaaDoor.base
set_option linter.unusedVariables false
set_option linter.unusedSimpArgs false

theorem Cur.drew {w0 w : World} {gc : Nat} {a : Option Addr} {len cap : Nat} {code : List UInt8} (h : Cur w0 w gc a len cap code) : Cur w0 w.drew gc a len cap code :=
  ⟨h.1, h.2.1.drew, h.2.2⟩

set_option maxRecDepth 100000 in
set_option maxHeartbeats 1000000 in
theorem some_ (w0 w : World) (gc : Nat) (a : Option Addr) (len cap : Nat) (code : List UInt8) (h : Cur w0 w gc a len cap code) :
    Calls Tryd.prog 69 #[.pointer (some ⟨gc, 0, none⟩)] w fun e w' => GotBytes w0 w gc a len cap code e w' := by
  have hlt := h.lt
  have hba : ∀ o, Below w.heap.size w (w.alloc o) := fun o => (Below.refl _ _).alloc (Nat.le_refl _) _
  go_enter Tryd.func69, Tryd.ntmps69
  go_wp2_with fail
  refine (int_ w0 _ gc a len cap code w.heap.size 5 5 _ _ (h.below (hba _)) (heap_alloc_new w _) rfl (by omega) (by omega) (by omega) (fun z => z ≤ 1000) ?_).mono ?_
  · intro i hi
    match i, hi with
    | 0, _ => exact ⟨_, rfl, by omega⟩
    | 1, _ => exact ⟨_, rfl, by omega⟩
    | 2, _ => exact ⟨_, rfl, by omega⟩
    | 3, _ => exact ⟨_, rfl, by omega⟩
    | 4, _ => exact ⟨_, rfl, by omega⟩
  rintro e w1 ⟨z, hz, rfl, hC1, hG1⟩
  have hG1' := grownBy_trans (grown_alloc0 w _ (some gc)) hG1
  clear hG1
  go_wp2_with fail
  refine (bytes_ w0 _ gc a len cap code z hC1 hz).mono ?_
  rintro e w2 ⟨g, m, cp, bs, hm, rfl, hO2, hC2, hG2⟩
  go_wp2_with fail
  go_ret
  exact ⟨g, m, cp, bs, hm, rfl, hO2.mono hG1'.size, hC2, grownBy_trans hG1' hG2⟩

end Go.Proofs.YtfaldffehpgaiaaDoor.draw

namespace Go.Proofs.YtfaldffehpgaiaaDoor.seals
open Go Go.RowKit Go.Proofs.YtfaldffehpgaiaaDoor.base Go.Proofs.YtfaldffehpgaiaaDoor.pairs Go.Proofs.YtfaldffehpgaiaaDoor.tree Go.Proofs.YtfaldffehpgaiaaDoor.lay Go.Proofs.YtfaldffehpgaiaaDoor.draw
set_option linter.unusedVariables false
set_option linter.unusedSimpArgs false

set_option maxHeartbeats 1000000 in
theorem d_once (w0 w : World) (gc : Nat) (a : Option Addr) (len cap : Nat) (code : List UInt8) (n : Int) (h : Cur w0 w gc a len cap code) (hn : 0 < n) (hn2 : n ≤ 1000000000) :
    Calls Tryd.prog 41 #[.pointer (some ⟨gc, 0, none⟩), .int .i64 n] w fun e w' => ∃ b : Bool, e = .returned (.bool b) ∧ Cur w0 w' gc a len cap code ∧ w.grownBy w' (some gc) := by
  go_enter Tryd.func41, Tryd.ntmps41
  go_wp2_with fail
  refine (below_ w0 _ gc a len cap code n h hn hn2).mono ?_
  rintro e w1 ⟨x, hx, rfl, hc1, hg1⟩
  go_wp2_with fail
  go_ret
  exact ⟨_, rfl, hc1, hg1⟩
theorem infoStr : (Tryd.prog.info? 9).map (fun i => (i.zero, i.size, i.bytes)) = some (some (.string ⟨#[]⟩), 1, 16) := by kernel_rfl
theorem infoSeal : (Tryd.prog.info? 29).map (fun i => (i.zero, i.size, i.bytes)) = some (some (.agg #[.int .i64 0, .string ⟨#[]⟩, .string ⟨#[]⟩, .slice none 0 0]), 4, 64) := by kernel_rfl
theorem dg_32 (bs : List UInt8) : (dg bs).size = 32 := dg_size bs
theorem super_32 (no : Int) (pv : ByteArray) (rs : List ByteArray) : (superOf no pv rs).size = 32 := dg_size _
theorem sum_le {l : List ByteArray} {n : Nat} (h : ∀ r ∈ l, r.size ≤ 32) (hl : l.length ≤ n) : puttexts.sum l ≤ 32 * n := by
  have : puttexts.sum l ≤ 32 * l.length := by
    clear hl
    induction l with
    | nil => exact Nat.le_refl _
    | cons r l ih =>
      have h1 := ih (fun x hx => h x (List.mem_cons_of_mem _ hx))
      have h2 := h r List.mem_cons_self
      simp only [puttexts.sum, List.map_cons, List.sum_cons, List.length_cons] at *
      omega
  omega
structure Drawn {α : Type} (ty : TypeId) (R : Rd α) (w0 w wr : World) (gc : Nat) (a : Option Addr) (len cap : Nat) (code : List UInt8) (g n c : Nat) (l : List α) (q : Parts) : Prop where
  own : OwnG ty R wr (.slice (some ⟨g, 0, none⟩) n c) l q
  new : ∀ b ∈ g :: blocksOf q, w.heap.size ≤ b
  cur : Cur w0 wr gc a len cap code
  lt : gc < w.heap.size
  grown : w.grownBy wr (some gc)
section
variable {α : Type} {ty : TypeId} {R : Rd α} {w0 w wr w' : World} {gc : Nat} {a : Option Addr} {len cap : Nat} {code : List UInt8} {g n c : Nat} {l : List α} {q : Parts}
theorem Drawn.below (h : Drawn ty R w0 w wr gc a len cap code g n c l q) (hb : Below wr.heap.size wr w') : Drawn ty R w0 w w' gc a len cap code g n c l q :=
  ⟨h.own.below hb, h.new, h.cur.below hb, h.lt, grown_below h.grown hb⟩
theorem Drawn.step (h : Drawn ty R w0 w wr gc a len cap code g n c l q) (hc : Cur w0 w' gc a len cap code) (hg : wr.grownBy w' (some gc)) : Drawn ty R w0 w w' gc a len cap code g n c l q :=
  ⟨h.own.keep (fun k hk => hg.block k (h.own.at_ k hk) (fun e => by
    have h1 := h.new k (by simpa [Value.ownBlock] using hk)
    have h2 := h.lt
    cases e; omega)), h.new, hc, h.lt, grownBy_trans h.grown hg⟩
theorem Drawn.lens (h : Drawn ty R w0 w wr gc a len cap code g n c l q) : n = l.length ∧ n ≤ c ∧ c ≤ maxLen := by
  rcases h.own.shape with ⟨e, _⟩ | ⟨g', c', e, h1, h2⟩
  · cases e
  · cases e; exact ⟨rfl, h1, h2⟩
theorem Drawn.app {x : α} {us : List Value} {F : List Nat} {g' cap' : Nat} (h : Drawn ty R w0 w wr gc a len cap code g n c l q) (hO : OwnG ty R w' (.slice (some ⟨g', 0, none⟩) (l.length + 1) cap') (l ++ [x]) (q ++ [(us, F)])) (hg : wr.grownBy w' (Value.slice (some ⟨g, 0, none⟩) n c).ownBlock)
    (hat : (Value.slice (some ⟨g, 0, none⟩) n c).ownBlock = some g' ∨ g' = wr.heap.size) (hF : ∀ b ∈ F, w.heap.size ≤ b) : Drawn ty R w0 w w' gc a len cap code g' (l.length + 1) cap' (l ++ [x]) (q ++ [(us, F)]) := by
  have hgg : wr.grownBy w' (some g) := by simpa [Value.ownBlock] using hg
  have hng := h.new g (by simp)
  have hs := h.grown.size
  have hge := h.cur.ge
  have hlt := h.lt
  refine ⟨hO, fun b hb => ?_, h.cur.grown hgg (fun e => by cases e; omega) (fun k e => by cases e; omega), h.lt, grown_own h.grown hgg hng⟩
  rcases List.mem_cons.1 hb with e | e
  · subst e
    rcases hat with e2 | e2
    · have : g = b := by simpa [Value.ownBlock] using e2
      omega
    · omega
  · rw [blocksOf_append] at e
    rcases List.mem_append.1 e with e | e
    · exact h.new b (List.mem_cons_of_mem _ e)
    · exact hF b (by simpa [blocksOf] using e)
end
def GotRoots (w0 w : World) (gc : Nat) (a : Option Addr) (len cap : Nat) (code : List UInt8) (e : Ending) (w' : World) : Prop :=
  ∃ g n c rs q, e = .returned (.slice (some ⟨g, 0, none⟩) n c) ∧ Drawn 9 str w0 w w' gc a len cap code g n c rs q ∧ rs.length ≤ 3 ∧ ∀ r ∈ rs, r.size = 32
set_option maxRecDepth 100000 in
set_option maxHeartbeats 2000000 in
theorem d_roots (w0 w : World) (gc : Nat) (a : Option Addr) (len cap : Nat) (code : List UInt8) (h : Cur w0 w gc a len cap code) :
    Calls Tryd.prog 59 #[.pointer (some ⟨gc, 0, none⟩)] w fun e w' => GotRoots w0 w gc a len cap code e w' := by
  obtain ⟨wa, hwa⟩ : ∃ wa, w.alloc (.cells #[] 9) = wa := ⟨_, rfl⟩
  have hba : Below w.heap.size w wa := by rw [← hwa]; exact below_make
  have hO0 : OwnG 9 str wa (.slice (some ⟨w.heap.size, 0, none⟩) 0 0) [] [] := by rw [← hwa]; exact ownG_made _ _ _
  have hD0 : Drawn 9 str w0 w wa gc a len cap code w.heap.size 0 0 [] [] := ⟨hO0, fun b hb => by simp [blocksOf] at hb; omega, h.below hba, h.lt, by rw [← hwa]; exact grown_alloc0 w _ _⟩
  have HWA := Hid.mk' hwa
  have HBL := Hid.mk' (below_ w0 wa gc a len cap code 3 hD0.cur (by omega) (by omega))
  clear hwa hO0 hba
  go_enter Tryd.func59, Tryd.ntmps59
  go_wp2_with fail
  rw [HWA.out]
  refine HBL.out.mono ?_
  rintro e w1 ⟨x, hx, rfl, hc1, hg1⟩
  have hD1 := hD0.step hc1 hg1
  clear HWA HBL hc1 hg1 hD0
  go_wp2_with fail
  go_loopw [3, 4] (fun v i wr => ∃ (k g n c : Nat) (rs : List ByteArray) (q : Parts), v = .slice (some ⟨g, 0, none⟩) n c ∧ i = .int .i64 (k : Int) ∧ k + rs.length ≤ 3 ∧ (∀ r ∈ rs, r.size = 32) ∧ Drawn 9 str w0 w wr gc a len cap code g n c rs q) (fun _ i _ => (intOf i).toNat)
  case atStart => exact ⟨1 + x, _, _, _, [], [], rfl, by go_num, by simp; omega, fun r hr => absurd hr List.not_mem_nil, hD1⟩
  case round =>
    clear hD1
    obtain ⟨k, g, n, c, rs, q, rfl, rfl, hk, h32, hD⟩ := hrel
    by_cases hlt : 0 < k
    · have hki : (0 : Int) < (k : Int) := by omega
      have H32 := Hid.mk' h32
      clear h32
      go_wp2_with fail
      refine (some_ w0 _ gc a len cap code hD.cur).mono ?_
      rintro e w2 ⟨g2, m2, c2, bs, hm2, rfl, hO2, hc2, hg2⟩
      have hD2 := hD.step hc2 hg2
      have HDG := Hid.mk' (sha.spec_digest g2 0 m2 c2 bs w2 hO2.sl (by omega))
      clear hD hc2 hg2 hO2
      go_wp2_with fail
      refine HDG.out.mono ?_
      rintro e w3 ⟨rfl, hb3⟩
      have hd32 := dg_32 bs
      unfold dg at hd32
      generalize (⟨(sha.digest bs).toArray⟩ : ByteArray) = d at *
      obtain ⟨V, hV⟩ : ∃ V, w3.alloc (.cells #[.string d] 9) = V := ⟨_, rfl⟩
      have hbv : Below w3.heap.size w3 V := by rw [← hV]; exact below_make
      have hXV : BoxIn w3.heap.size 9 [] [.string d] [] V := by rw [← hV]; exact boxIn_new w3 _ _
      have hD3 := (hD2.below hb3).below hbv
      have hln := hD3.lens
      have hxs : str.own V [.string d] d [] := ⟨⟨rfl, by rw [hd32]; unfold maxLen; omega⟩, rfl⟩
      obtain ⟨g', cap', w4, hrun, hO4, hgr, hat⟩ := cos.OwnG.appRun (P := Tryd.prog) (z := .string ⟨#[]⟩) Tryd.underlying27 infoStr rfl (by decide) hD3.own hxs (fun b hb => absurd hb List.not_mem_nil) hXV (by unfold maxLen; omega) (by omega) 27
      have hD4 := hD3.app hO4 hgr hat (fun b hb => absurd hb List.not_mem_nil)
      have HV := Hid.mk' hV
      have H32' : Hid (∀ r ∈ rs ++ [d], r.size = 32) := fun r hr => by
        rcases List.mem_append.1 hr with e | e
        · exact H32.out r e
        · rw [List.mem_singleton.1 e]; exact hd32
      clear hD2 HDG hb3 hV hbv hXV hxs hO4 hgr hat hD3 hd32 H32 hln
      go_wp2_with (at_builtin; rw [HV.out]; refine cos.wpList_append_run rfl (.tmp 13) (.tmp 17) 27 rfl (by kernel_rfl) (by kernel_rfl) hrun ?_)
      go_roundw
      case rel => exact ⟨k - 1, g', _, cap', rs ++ [d], _, rfl, by go_num, by simp; omega, H32'.out, hD4⟩
      case measure => simp [intOf]; omega
    · have hki : ¬ (0 : Int) < (k : Int) := by omega
      go_wp2_with fail
      go_ret
      exact ⟨g, n, c, rs, q, rfl, hD, by omega, h32⟩
end Go.Proofs.YtfaldffehpgaiaaDoor.seals
