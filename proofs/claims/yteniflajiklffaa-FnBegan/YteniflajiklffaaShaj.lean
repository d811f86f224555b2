/- The program's orders by shards: a map of rows, one shard's row, and the shards in order. Plain mathematics of words: what is right, their bytes, and that these come back. The specification's words: what is right; a box of a word. The program's question whether the shards that said yes are right, and whether the state is. The program's one who decides: whether it is right, and its answers. -/
import Derived.Test.YteniflajiklffaaShai
import Derived.Test.YteniflajiklffaaShac
import Derived.Sort.OwnSortedInts
import Derived.Test.YteniflajiklffaaShaa
import Derived.Test.YteniflajiklffaaShah
import Derived.Test.YteniflajiklffaaShae
namespace Go.Proofs.Yteniflajiklffaa.ords
open Go Go.RowKit Go.Proofs.Yteniflajiklffaa.base Go.Proofs.Yteniflajiklffaa.pairs
open Go.Maps (Keyed keyOf_int_mk)
open Go.Sort (Holds)
set_option linter.unusedVariables false
set_option linter.unusedSimpArgs false

theorem box_cellO (w w' : World) (z : Int) (x y : ByteArray) (hB : Below (w.alloc (.cells #[.int .i64 z, .string x, .string y] 111)).heap.size (w.alloc (.cells #[.int .i64 z, .string x, .string y] 111)) w') :
    w'.cell? ⟨w.heap.size, 0, none⟩ = some (.int .i64 z) ∧ w'.cell? ⟨w.heap.size, 1, none⟩ = some (.string x) ∧ w'.cell? ⟨w.heap.size, 2, none⟩ = some (.string y) := by
  have hlt : w.heap.size < (w.alloc (.cells #[.int .i64 z, .string x, .string y] 111)).heap.size := by simp
  refine ⟨(hB.cell (p := ⟨w.heap.size, 0, none⟩) hlt).trans ?_, (hB.cell (p := ⟨w.heap.size, 1, none⟩) hlt).trans ?_, (hB.cell (p := ⟨w.heap.size, 2, none⟩) hlt).trans ?_⟩
  · simp
  · simp
  · simp
theorem opsFor_upd (n : Int) (l : List Od) (k : Nat) (h : k < l.length) : upd (fun s => opsFor s n (l.take k)) (shardOf l[k].2.1 n) (opsFor (shardOf l[k].2.1 n) n (l.take k) ++ [l[k]]) = fun s => opsFor s n (l.take (k + 1)) := by
  funext t
  show upd _ _ _ _ = List.filter _ _
  rw [filter_snocO (fun o => decide (shardOf o.2.1 n = t)) l k h]
  by_cases e : t = shardOf l[k].2.1 n
  · subst e
    rw [upd_same]; simp [opsFor]
  · rw [upd_other e]
    have e' : ¬ shardOf l[k].2.1 n = t := fun x => e x.symm
    simp [opsFor, e']
theorem shardOf_wf (key : ByteArray) (n : Int) : (Lit.int .i64 (shardOf key n)).wf = true := by
  have h1 := (shardOf_range key n).1
  have h2 := shardOf_lt key n
  exact WalkArith.wf_i64 (by omega)
theorem opsFor_le (s n : Int) (l : List Od) : (opsFor s n l).length ≤ l.length := List.length_filter_le _ _

set_option maxRecDepth 100000 in
set_option maxHeartbeats 2000000 in
theorem i_byShard (b off len cap : Nat) (l : List Od) (n : Int) (w : World) (h : SlO w (some ⟨b, off, none⟩) len l) (hks : ∀ p ∈ l, p.2.1.size ≤ 1099511627776) (hsz : len ≤ 1099511627776) (hn : (Lit.int .i64 n).wf = true) :
    Calls Try.prog 36 #[.slice (some ⟨b, off, none⟩) len cap, .int .i64 n] w fun e w' =>
      e = .returned (.map (some w.heap.size)) ∧ Groups w' w.heap.size (w.heap.size + 1) len (fun s => opsFor s n l) ∧ Below w.heap.size w w' := by
  obtain ⟨i0, hi, hz0, hz1, hz2⟩ := info_parts infoO
  have hl := h.1
  have hsm := h.2.2.1
  have hmm := @run_makeMap Try.prog
  subst hl
  go_enter Try.func36, Try.ntmps36
  go_wp2_with (at_builtin; fail)
  go_loopw [12] (fun i wr => ∃ k : Nat, k ≤ l.length ∧ i = .int .i64 (k : Int) ∧ Groups wr w.heap.size (w.heap.size + 1) k (fun s => opsFor s n (l.take k)) ∧ Below w.heap.size w wr) (fun i _ => l.length - (intOf i).toNat)
  case atStart => exact ⟨0, Nat.zero_le _, rfl, groups_made w, (Below.refl _ _).alloc (Nat.le_refl _) _⟩
  case round =>
    obtain ⟨k, hk, rfl, hT, hB⟩ := hrel
    clear hmm
    by_cases hlt : k < l.length
    · obtain ⟨c0, c1, c2⟩ := (h.below hB).cells k hlt
      have hki : (k : Int) < (l.length : Int) := by omega
      have hpk := hsm _ (List.getElem_mem hlt)
      have hks' := hks _ (List.getElem_mem hlt)
      have HU := Hid.mk' (opsFor_upd n l k hlt)
      have hfl := opsFor_le (shardOf l[k].2.1 n) n (l.take k)
      have hlk : (l.take k).length ≤ k := List.length_take_le _ _
      have hsw := shardOf_wf l[k].2.1 n
      have hba : Below wr.heap.size wr (wr.alloc (.cells #[.int .i64 l[k].1, .string l[k].2.1, .string l[k].2.2] 111)) := (Below.refl _ _).alloc (Nat.le_refl _) _
      have HC := Hid.mk' (impl_shardOf l[k].2.1 n (wr.alloc (.cells #[.int .i64 l[k].1, .string l[k].2.1, .string l[k].2.2] 111)) hks' hn)
      generalize shardOf l[k].2.1 n = sh at *
      generalize l[k] = p at *
      go_wp2_with (at_builtin; fail)
      refine HC.out.mono ?_
      rintro e w3 ⟨rfl, hb3⟩
      obtain ⟨d0, d1, d2⟩ := box_cellO wr w3 p.1 p.2.1 p.2.2 hb3
      have hX3 : Below wr.heap.size wr w3 := hba.trans (hb3.mono hba.size)
      have hB3 : Below w.heap.size w w3 := hB.trans (hX3.mono hB.size)
      have hT3 := hT.below hX3
      have hsz3 : w.heap.size + 1 ≤ w3.heap.size := hT3.lt
      clear HC hb3 hX3 hB hT c0 c1 c2 hba
      go_wp2_with (at_lookup; refine wpList_look_groups _ rfl _ _ rfl rfl rfl hT3 hsw (by unfold maxLen; omega) ?_)
      intro v hown hsmv hback
      have hc3 : (opsFor sh n (l.take k)).length + 1 ≤ maxLen := by unfold maxLen; omega
      have hc4 : ((opsFor sh n (l.take k)).length + 1) * 40 ≤ 140737488355328 := by omega
      have HT3 := Hid.mk' hT3
      have HBK := Hid.mk' hback
      have HSM : Hid (∀ q ∈ opsFor sh n (l.take k), smallO q) := fun q hq => hsmv q.1 q.2.1 q.2.2 hq
      clear hback hT3 hsmv
      go_wp2_with (at_builtin; refine wpList_append_own_at _ rfl (.tmp 24) (.tmp 26) 28 rfl (w.heap.size + 1) 111 i0 (.agg #[.int .i64 0, .string ⟨#[]⟩, .string ⟨#[]⟩]) 3 40 Try.underlying28 hi hz0 hz1 hz2 rfl (by decide) _ _ _ rfl (hown.alloc _) ⟨w3.heap.size, 0, none⟩ 1 1 (ordVals [p]) rfl rfl (one_ord_cells _ _ _) (ordVals_oneCell _) hc3 hc4 (le_alloc _ _ hsz3) ?_)
      intro v4 w4 hown4 hgrow4 hnn hloc
      have hnn' : ¬ v4 = .slice none 0 0 := by simpa using hnn
      obtain ⟨g4, cp4, hv4, hO4⟩ := ownO_app rfl HSM.out hpk hnn' hown4
      subst hv4
      have hgr4 : w3.grownBy w4 v.ownBlock := World.grownBy.andThen ((World.grownBy_alloc w3 _ none).but v.ownBlock) hgrow4 (fun j hj => Or.inr hj)
      have hloc4 : some g4 = v.ownBlock ∨ w3.heap.size ≤ g4 := by
        rcases hloc with h1 | h1
        · exact Or.inl h1
        · simp [Value.ownBlock] at h1; exact Or.inr (by omega)
      have hB4 : Below w.heap.size w w4 := hB3.grown hgr4 hB3.size (fun j hj => by have := (hown.lt j hj).1; omega)
      clear hown hown4 hgrow4 hnn hnn' hloc hB3 HT3
      go_wp2_with (at_mapUpdate; refine wpList_store_back _ rfl _ _ _ rfl HBK.out rfl rfl rfl hgr4 hO4 (by simp) hloc4 ?_)
      intro w5 hT5 hgrow5
      rw [HU.out] at hT5
      have hB5 : Below w.heap.size w w5 := hB4.grown hgrow5 hB4.size (fun j hj => by cases hj; exact Nat.le_refl _)
      have HT5 := Hid.mk' hT5
      clear hgrow5 hB4 hT5 hO4 hgr4 hloc4 HBK
      go_wp2_with (at_builtin; fail)
      go_roundw
      case rel => exact ⟨k + 1, by omega, by go_num, HT5.out, hB5⟩
      case measure => simp [intOf]; omega
    · have HE : Hid (l.take k = l) := List.take_of_length_le (by omega)
      have hkl : k = l.length := by omega
      rw [HE.out] at hT
      go_wp2_with (at_builtin; fail)
      go_ret
      subst hkl
      exact ⟨rfl, hT, hB⟩

theorem append_nil_arg (w : World) (g : Nat) : (Builtin.append_ #[28, 28] 28 #[.slice (some ⟨g, 0, none⟩) 0 0, .slice none 0 0]).run Try.prog w = .ok (.slice (some ⟨g, 0, none⟩) 0 0) w := by kernel_rfl

set_option maxRecDepth 100000 in
set_option maxHeartbeats 2000000 in
theorem impl_opsFor (b off len cap : Nat) (l : List Od) (s n : Int) (w : World) (h : SlO w (some ⟨b, off, none⟩) len l) (hks : ∀ p ∈ l, p.2.1.size ≤ 1099511627776) (hsz : len ≤ 1099511627776) (hn : (Lit.int .i64 n).wf = true) (hs : (Lit.int .i64 s).wf = true) :
    Calls Try.prog 12 #[.slice (some ⟨b, off, none⟩) len cap, .int .i64 s, .int .i64 n] w fun e w' =>
      ∃ g' n' cap', e = .returned (.slice (some ⟨g', 0, none⟩) n' cap') ∧ OwnO w' w.heap.size g' n' cap' (opsFor s n l) ∧ Below w.heap.size w w' := by
  obtain ⟨i0, hi, hz0, hz1, hz2⟩ := info_parts infoO
  have hba : Below w.heap.size w (w.alloc (.cells #[] 111)) := (Below.refl _ _).alloc (Nat.le_refl _) _
  have hO1 := ownO_made w w.heap.size (Nat.le_refl _)
  have hC := i_byShard b off len cap l n _ (h.below hba) hks hsz hn
  have hsz1 : (w.alloc (.cells #[] 111)).heap.size = w.heap.size + 1 := by simp
  rw [hsz1] at hC
  have HC := Hid.mk' hC
  clear hC hsz1
  have hfl := opsFor_le s n l
  have hl := h.1
  go_enter Try.func12, Try.ntmps12
  go_wp2_with (at_builtin; fail)
  refine HC.out.mono ?_
  rintro e w2 ⟨rfl, hT, hb2⟩
  have hb2' : Below (w.alloc (.cells #[] 111)).heap.size (w.alloc (.cells #[] 111)) w2 := hb2.mono (by simp)
  have hB2 : Below w.heap.size w w2 := hba.trans (hb2'.mono hba.size)
  have hO2 := hO1.below hb2'
  have hbs := hB2.size
  clear HC hb2 hb2' hO1 hba
  go_wp2_with (at_lookup; refine wpList_look_groups _ rfl _ _ rfl rfl rfl hT hs (by unfold maxLen; omega) ?_)
  intro v hown hsmv hback
  have HSM : Hid (∀ q ∈ opsFor s n l, smallO q) := fun q hq => hsmv q.1 q.2.1 q.2.2 hq
  clear hback hsmv
  rcases hown.2 with ⟨hv, h0⟩ | ⟨g, cp, cur, hv, hbg, hgh, hnc, hcm, hcs, htk⟩
  · subst hv
    have hap := append_nil_arg w2 w.heap.size
    have hf : opsFor s n l = [] := List.eq_nil_of_length_eq_zero h0
    rw [← hf] at hO2
    have HO2 := Hid.mk' hO2
    clear hf h0 hown hO2 hT
    go_wp2_with fail
    go_ret
    exact ⟨_, _, _, rfl, HO2.out, hB2⟩
  · subst hv
    have hOg : OwnO w2 (w.heap.size + 1 + 1) g (opsFor s n l).length cp (opsFor s n l) := ⟨rfl, HSM.out, hown⟩
    have HCL := Hid.mk' (cells_ords hOg.cell)
    have hn0 := ordVals_length (opsFor s n l)
    have hm1 : 0 + (opsFor s n l).length ≤ maxLen := by unfold maxLen; omega
    have hm2 : (0 + (opsFor s n l).length) * 40 ≤ 140737488355328 := by omega
    have hown0 := hO2.2.2
    clear hown hbg hgh hnc hcm hcs htk hT hOg hO2
    generalize hF : opsFor s n l = F at *
    have HF := Hid.mk' hF
    clear hF
    generalize hFl : F.length = fl at *
    go_wp2_with (at_builtin; refine wpList_append_own _ rfl (.tmp 7) (.tmp 12) 28 rfl w.heap.size 111 i0 (.agg #[.int .i64 0, .string ⟨#[]⟩, .string ⟨#[]⟩]) 3 40 Try.underlying28 hi hz0 hz1 hz2 rfl (by decide) _ _ _ rfl hown0 ⟨g, 0, none⟩ fl cp (ordVals F) rfl hn0 HCL.out (ordVals_oneCell _) hm1 hm2 hbs ?_)
    intro v4 w4 hown4 hgrow4 hnn
    have hnn' : ¬ v4 = .slice none 0 0 := by simpa using hnn
    obtain ⟨g4, cp4, hv4, hO4⟩ := ownO_val (l := F) (n := 0 + fl) (by omega) HSM.out hnn' (by simpa [ordVals] using hown4)
    subst hv4
    have hB4 : Below w.heap.size w w4 := hB2.grown hgrow4 hbs (fun j hj => by simp [Value.ownBlock] at hj; omega)
    have HO4 := Hid.mk' hO4
    clear hown4 hgrow4 hnn hnn' hO4
    go_wp2_with (at_builtin; fail)
    go_ret
    exact ⟨_, _, _, rfl, by rw [HF.out]; exact HO4.out, hB4⟩

/-! ### the shards that have any, in order -/
theorem OwnZ.obj {w : World} {base g n cap : Nat} {zs : List Int} (h : OwnZ w base g n cap zs) : ∃ cur e, w.heap[g]? = some (.cells cur e (0, 0)) := by
  rcases h.2.2 with ⟨h', _⟩ | ⟨g', cap', cur, h', _, hg, _⟩
  · simp at h'
  · simp only [Value.slice.injEq, Option.some.injEq, Addr.mk.injEq, and_true, true_and] at h'
    obtain ⟨rfl, rfl⟩ := h'
    exact ⟨cur, _, hg⟩
theorem ranges_ne {w : World} {base g m cap b r n cnt : Nat} {zs : List Int} {D : DataW Unit} {left : Lit → Bool} (h : OwnZ w base g m cap zs) (hr : w.ranges Try.prog 3 noR b r n D left cnt) : g ≠ b ∧ g ≠ r := by
  obtain ⟨cur, e, hg⟩ := h.obj
  obtain ⟨es, clock, since, seen, c0, hb, _, _, _, hit, _⟩ := hr
  refine ⟨fun x => ?_, fun x => ?_⟩
  · rw [x, hb] at hg; cases hg
  · rw [x, hit] at hg; cases hg
def Coll (D : DataW Unit) (left : Lit → Bool) (ks : List Int) : Prop :=
  ks.Nodup ∧ (∀ s ∈ ks, (Lit.int .i64 s).wf = true) ∧ ∀ s, (Lit.int .i64 s).wf = true → (s ∈ ks ↔ (Maps.has D (.int .i64 s) = true ∧ left (.int .i64 s) = false))
theorem Coll.start (D : DataW Unit) : Coll D (Maps.has D) [] := ⟨List.nodup_nil, fun s h => absurd h List.not_mem_nil, fun s _ => by cases Maps.has D (.int .i64 s) <;> simp⟩
theorem Coll.step {D : DataW Unit} {left : Lit → Bool} {ks : List Int} (h : Coll D left ks) {x : Int} (hx : (Lit.int .i64 x).wf = true) (hl : left (.int .i64 x) = true) (hh : Maps.has D (.int .i64 x) = true) : Coll D (fun z => left z && !z.sameKey (.int .i64 x)) (ks ++ [x]) := by
  obtain ⟨h1, h2, h3⟩ := h
  have hnew : x ∉ ks := fun hm => by have := ((h3 x hx).1 hm).2; rw [hl] at this; cases this
  refine ⟨List.nodup_append.2 ⟨h1, by simp, fun a ha b hb => by simp at hb; subst hb; exact fun e => hnew (e ▸ ha)⟩, fun s hs => ?_, fun s hs => ?_⟩
  · rcases List.mem_append.1 hs with h4 | h4
    · exact h2 s h4
    · simp at h4; subst h4; exact hx
  · by_cases e : s = x
    · subst e; simp [hh, Lit.sameKey]
    · simp [h3 s hs, e, Lit.sameKey]
theorem Coll.sorted {D : DataW Unit} {left : Lit → Bool} {ks : List Int} (h : Coll D left ks) (hl : ∀ kl, left kl = false) {n : Int} {l : List Od} (hD : ∀ s, (Lit.int .i64 s).wf = true → (Maps.has D (.int .i64 s) = true ↔ opsFor s n l ≠ [])) : ks.mergeSort (fun x y => decide (x ≤ y)) = shardsOf n l := by
  obtain ⟨h1, h2, h3⟩ := h
  have hp : (ks.mergeSort (fun x y => decide (x ≤ y))).Perm ks := List.mergeSort_perm ks _
  have hs : (ks.mergeSort (fun x y => decide (x ≤ y))).Pairwise (fun a b => (decide (a ≤ b)) = true) := List.pairwise_mergeSort (le := fun x y : Int => decide (x ≤ y)) (fun a b c h1 h2 => by simp at *; omega) (fun a b => by simp; omega) ks
  have hn := hp.nodup_iff.2 h1
  refine asc_ext ?_ (shards_asc n l) fun x => ?_
  · unfold Asc
    refine (hs.and hn).imp ?_
    rintro a b ⟨h4, h5⟩
    simp at h4
    omega
  · rw [hp.mem_iff, shards_mem]
    constructor
    · intro hx
      have hw := h2 x hx
      have := (hD x hw).1 ((h3 x hw).1 hx).1
      obtain ⟨o, ho⟩ := List.exists_mem_of_ne_nil _ this
      obtain ⟨ho1, ho2⟩ := List.mem_filter.1 ho
      exact ⟨o, ho1, by simpa using ho2⟩
    · rintro ⟨o, ho, rfl⟩
      have hw := shardOf_wf o.2.1 n
      refine (h3 _ hw).2 ⟨(hD _ hw).2 fun e => ?_, hl _⟩
      have : o ∈ opsFor (shardOf o.2.1 n) n l := List.mem_filter.2 ⟨ho, by simp⟩
      rw [e] at this
      exact absurd this List.not_mem_nil
theorem ownZ_sorted {w : World} {base g m cp nn : Nat} {os : Array Obj} {ks : List Int} (h : OwnZ w base g m cp ks) :
    OwnZ (Go.Sort.grow (Go.Sort.putRow (Value.int .i64) (Go.Sort.ahead w nn) g 0 (ks.mergeSort fun x y => decide (x ≤ y)).toArray) os) base g m cp (ks.mergeSort fun x y => decide (x ≤ y)) ∧
    w.grownBy (Go.Sort.grow (Go.Sort.putRow (Value.int .i64) (Go.Sort.ahead w nn) g 0 (ks.mergeSort fun x y => decide (x ≤ y)).toArray) os) (some g) := by
  have hl := h.1
  have hl2 : (ks.mergeSort fun x y => decide (x ≤ y)).length = ks.length := List.length_mergeSort ks
  rcases h.2.2 with ⟨h', _⟩ | ⟨g', cap', cur, h', hbase, hb, h1, h2, h3, h4⟩
  · simp at h'
  · simp only [Value.slice.injEq, Option.some.injEq, Addr.mk.injEq, and_true, true_and] at h'
    obtain ⟨rfl, rfl⟩ := h'
    subst hl
    exact ⟨⟨hl2, ownsRow_sortedI hl2 hbase hb h1 h2 h3⟩, grownBy_sortedI _⟩
theorem ownZ_holds {w : World} {base g m cp : Nat} {ks : List Int} (h : OwnZ w base g m cp ks) : Holds (Value.int .i64) w g 0 ks.toArray := by
  have hl := h.1
  rcases h.2.2 with ⟨h', _⟩ | ⟨g', cap', cur, h', hbase, hb, h1, h2, h3, h4⟩
  · simp at h'
  · simp only [Value.slice.injEq, Option.some.injEq, Addr.mk.injEq, and_true, true_and] at h'
    obtain ⟨rfl, rfl⟩ := h'
    subst hl
    exact holds_of_blockI hb (by simpa [intVals] using h4)
theorem size_has {w : World} {B n : Nat} {D : DataW Unit} (h : w.ownsMap Try.prog 3 noR B n D) : Maps.size D ≤ n := by
  obtain ⟨es, clock, hb, F, hs, rfl⟩ := h
  rw [Maps.size_eq, length_sorted]
  simpa using hs

theorem wpList_next_key (w : World) {ops : Array Oper} {rest : List Oper} {o : Oper} {a : Act} {Q : Exit → Act → World → Prop} (hg : o.guard = none) (it : Operand) (hop : o.op = Op.next it false) (b r n : Nat) (D : DataW Unit) (left : Lit → Bool) (cnt : Nat)
    (hit : a.eval it = .pointer (some ⟨r, 0, none⟩)) (h : w.ranges Try.prog 3 noR b r n D left cnt)
    (hDone : (∀ kl, left kl = false) → wpList Try.prog ops Q rest (a.put o.dst (.tuple #[.bool false])) w)
    (hMore : ∀ (x : Int) (v : Value) (w' : World) (cnt' : Nat), (Lit.int .i64 x).wf = true → left (.int .i64 x) = true → Maps.has D (.int .i64 x) = true → Hid (w'.ranges Try.prog 3 noR b r n D (fun z => left z && !z.sameKey (.int .i64 x)) cnt') → cnt' < cnt →
      w.grownBy w' (some r) → (Instr.entry (.pointer (some ⟨r, 0, none⟩))).run Try.prog w' = .ok (.tuple #[.int .i64 x, v]) w' → wpList Try.prog ops Q rest (a.put o.dst (.tuple #[.bool true, .int .i64 x, v])) w') :
    wpList Try.prog ops Q (o :: rest) a w :=
  wpList_next_ranges w hg it hop 3 intLaw noR (Value.int .i64) (fun v : Value => v) (fun key kl hkey => by obtain ⟨x, rfl, _⟩ := Maps.keyOf_int_inv Try.underlying3 hkey; exact ⟨x, rfl⟩) (fun v y hv => ⟨v, rfl⟩) b r n D left cnt hit h (fun _ hl => hDone hl)
    (fun x c kl y w' cnt' hkey hlk hv hat hrg hlt hgr hsz hen => by
      obtain ⟨x', ex, rfl, hwx⟩ := Maps.keyOf_int_inv Try.underlying3 hkey
      cases ex
      exact hMore x c w' cnt' hwx hlk (Maps.has_true_of_atKey hat) hrg hlt hgr hen)

set_option maxRecDepth 100000 in
set_option maxHeartbeats 2000000 in
theorem impl_shardsOf (b off len cap : Nat) (l : List Od) (n : Int) (w : World) (h : SlO w (some ⟨b, off, none⟩) len l) (hks : ∀ p ∈ l, p.2.1.size ≤ 1099511627776) (hsz : len ≤ 1099511627776) (hn : (Lit.int .i64 n).wf = true) :
    Calls Try.prog 9 #[.slice (some ⟨b, off, none⟩) len cap, .int .i64 n] w fun e w' =>
      ∃ g' n' cap', e = .returned (.slice (some ⟨g', 0, none⟩) n' cap') ∧ OwnZ w' w.heap.size g' n' cap' (shardsOf n l) ∧ Below w.heap.size w w' := by
  obtain ⟨i0, hi, hz0, hz1, hz2⟩ := info_parts infoZ
  have hba : Below w.heap.size w (w.alloc (.cells #[] 3)) := (Below.refl _ _).alloc (Nat.le_refl _) _
  have hO1 := ownZ_made w w.heap.size (Nat.le_refl _)
  have hC := i_byShard b off len cap l n _ (h.below hba) hks hsz hn
  have hsz1 : (w.alloc (.cells #[] 3)).heap.size = w.heap.size + 1 := by simp
  rw [hsz1] at hC
  have HC := Hid.mk' hC
  clear hC hsz1
  go_enter Try.func9, Try.ntmps9
  go_wp2_with (at_builtin; fail)
  refine HC.out.mono ?_
  rintro e w2 ⟨rfl, hT, hb2⟩
  have hb2' : Below (w.alloc (.cells #[] 3)).heap.size (w.alloc (.cells #[] 3)) w2 := hb2.mono (by simp)
  have hB2 : Below w.heap.size w w2 := hba.trans (hb2'.mono hba.size)
  have hO2 := hO1.below hb2'
  have hbs := hB2.size
  obtain ⟨D, hown, hIs, hD⟩ := hT.owns
  have HD := Hid.mk' hD
  have hsD := size_has hown
  clear HC hb2 hb2' hO1 hba hT hD hIs
  go_wp2_with (at_range; refine wpList_range_own _ rfl _ 73 rfl 3 28 intLaw Try.underlying73 noR (w.heap.size + 1) len D rfl hown ?_)
  intro w3 hrg3 hg3 hs3
  have hO3 := hO2.grown hg3 (by simp)
  have hB3 : Below w.heap.size w w3 := hB2.grown hg3 hbs (fun j hj => by cases hj)
  have hr3 : w.heap.size ≤ w2.heap.size := hbs
  generalize w2.heap.size = rr at *
  clear hO2 hB2 hown hg3 hbs
  go_wp2_with (at_builtin; fail)
  go_loopw [5] (fun v wr => ∃ (left : Lit → Bool) (cnt g m cp : Nat) (ks : List Int), wr.ranges Try.prog 3 noR (w.heap.size + 1) rr len D left cnt ∧ v = .slice (some ⟨g, 0, none⟩) m cp ∧ OwnZ wr w.heap.size g m cp ks ∧ Hid (Coll D left ks) ∧ m + cnt ≤ len ∧ Below w.heap.size w wr) (fun _ wr => wr.rangeLeft (w.heap.size + 1) rr)
  case atStart => exact ⟨_, _, _, _, _, [], hrg3, rfl, hO3, Coll.start D, by omega, hB3⟩
  case round =>
    clear hrg3 hO3 hB3
    obtain ⟨left, cnt, g, m, cp, ks, hrg, rfl, hO, HG, hlen, hB⟩ := hrel
    have hbw := hB.size
    go_wp2_with (at_next; refine wpList_next_key _ rfl _ rfl (w.heap.size + 1) rr len D left cnt rfl hrg ?_ ?_)
    · intro hl0
      have HS := Hid.mk' (HG.out.sorted hl0 HD.out)
      have hml := hO.1
      have HSO := Hid.mk' (sorts.sort_int g 0 cp ks wr (ownZ_holds hO) hO.lt.2 (by omega))
      rw [hml] at HSO
      clear hrg hl0 HG
      go_wp2_with fail
      refine HSO.out.mono ?_
      rintro e w5 ⟨rfl, nn, os, hw5⟩
      obtain ⟨hO5, hg5⟩ := ownZ_sorted (nn := nn) (os := os) hO
      rw [← hw5] at hO5 hg5
      have hB5 : Below w.heap.size w w5 := hB.grown hg5 hbw (fun j hj => by cases hj; exact hO.lt.1)
      rw [HS.out] at hO5
      have HO5 := Hid.mk' hO5
      clear hw5 hg5 hO5 hO hB HSO
      go_wp2_with fail
      go_ret
      exact ⟨_, _, _, rfl, HO5.out, hB5⟩
    · intro x c w1 cnt1 hwx hlk hhas HRG hlt hg1 hen
      have hm0 : wr.rangeLeft (w.heap.size + 1) rr = cnt := hrg.left_eq
      have HG1 : Hid (Coll D (fun z => left z && !z.sameKey (.int .i64 x)) (ks ++ [x])) := HG.out.step hwx hlk hhas
      have hne := ranges_ne hO hrg
      have hO1 := hO.grown hg1 (fun e => hne.2 (by cases e; rfl))
      have hB1 : Below w.heap.size w w1 := hB.grown hg1 hbw (fun j hj => by cases hj; exact hr3)
      have hc3 : m + 1 ≤ maxLen := by unfold maxLen; omega
      have hc4 : (m + 1) * 8 ≤ 140737488355328 := by omega
      have hbw1 : w.heap.size ≤ w1.heap.size := hB1.size
      have HM0 := Hid.mk' hm0
      clear hO hB hrg hg1 HG hne hhas hm0
      go_wp2_with (at_builtin; refine wpList_append_own _ rfl (.tmp 16) (.tmp 18) 34 rfl w.heap.size 3 i0 (.int .i64 0) 1 8 Try.underlying34 hi hz0 hz1 hz2 rfl (by decide) _ _ _ rfl (hO1.2.alloc _) ⟨w1.heap.size, 0, none⟩ 1 1 (intVals [x]) rfl rfl (one_int_cells _ _ _) (intVals_oneCell _) hc3 hc4 (le_alloc _ _ hbw1) ?_)
      intro v4 w4 hown4 hgrow4 hnn
      have hnn' : ¬ v4 = .slice none 0 0 := by simpa using hnn
      obtain ⟨g4, cp4, hv4, hO4⟩ := ownZ_app hO1.1 hnn' hown4
      subst hv4
      have hO1a : OwnZ (w1.alloc (.cells #[.int .i64 x] 3)) w.heap.size g m cp ks := hO1.below ((Below.refl _ _).alloc (Nat.le_refl _) _)
      have hrga := HRG.out.alloc (.cells #[.int .i64 x] 3)
      have hne := ranges_ne hO1a hrga
      have hrg4 := hrga.kept hgrow4 (fun e => hne.1 (by simp [Value.ownBlock] at e; omega)) (fun e => hne.2 (by simp [Value.ownBlock] at e; omega))
      have hB4 : Below w.heap.size w w4 := (hB1.alloc hbw1 _).grown hgrow4 (le_alloc _ _ hbw1) (fun j hj => by simp [Value.ownBlock] at hj; have := hO1.lt; omega)
      have HO4 := Hid.mk' hO4
      have HR4 := Hid.mk' hrg4
      clear hown4 hgrow4 hnn hnn' hO4 hO1 hO1a hrga hne hB1 hrg4 HRG
      go_wp2_with (at_builtin; fail)
      go_roundw
      case rel => exact ⟨_, cnt1, g4, m + 1, cp4, ks ++ [x], HR4.out, rfl, HO4.out, HG1, by omega, hB4⟩
      case measure => rw [HR4.out.left_eq, HM0.out]; exact hlt

end Go.Proofs.Yteniflajiklffaa.ords

namespace Go.Proofs.Yteniflajiklffaa.wds
open Go Go.RowKit Go.Proofs.Yteniflajiklffaa.base Go.Proofs.Yteniflajiklffaa.pairs Go.Proofs.Yteniflajiklffaa.ords Go.Proofs.Yteniflajiklffaa.putnum Go.Proofs.Yteniflajiklffaa.puttext Go.Proofs.Yteniflajiklffaa.getnum Go.Proofs.Yteniflajiklffaa.gettext Go.Proofs.Yteniflajiklffaa.gettexts Go.Proofs.Yteniflajiklffaa.nummath
set_option linter.unusedVariables false
set_option linter.unusedSimpArgs false

abbrev Wd := Int × Int × Int × List Od × Bool
end Go.Proofs.Yteniflajiklffaa.wds

namespace Go.Proofs.Yteniflajiklffaa.wds
open Go Go.RowKit Go.Proofs.Yteniflajiklffaa.base Go.Proofs.Yteniflajiklffaa.pairs Go.Proofs.Yteniflajiklffaa.ords
set_option linter.unusedVariables false
set_option linter.unusedSimpArgs false

set_option maxRecDepth 100000 in
set_option maxHeartbeats 1000000 in
theorem spec_opsNil (a : Option Addr) (cap : Nat) (w : World) :
    Calls Try.prog 66 #[.slice a 0 cap] w fun e w' => e = .returned (.bool false) ∧ w' = w := by
  go_enter Try.func66, Try.ntmps66
  go_wp2_with fail
  refine wp_loop_rounds 1 ?_
  rw [rounds_succ]
  go_wp2_with fail
  refine (s_inZ 0 1 8 _).mono ?_
  rintro e w9 ⟨rfl, rfl⟩
  go_wp2_with fail
  go_ret
  exact ⟨ret_bool (by decide), rfl⟩
theorem spec_opsOkA (a : Option Addr) (len cap : Nat) (l : List Od) (w : World) (h : SlO w a len l) (hks : ∀ p ∈ l, p.2.1.size ≤ 1099511627776) :
    Calls Try.prog 66 #[.slice a len cap] w fun e w' => e = .returned (.bool (opsOk l)) ∧ Below w.heap.size w w' := by
  by_cases h0 : len = 0
  · subst h0
    obtain rfl : l = [] := List.eq_nil_of_length_eq_zero h.1
    refine (spec_opsNil a cap w).mono ?_
    rintro e w' ⟨rfl, rfl⟩
    exact ⟨rfl, Below.refl _ _⟩
  · obtain ⟨b, off, ha, _⟩ := h.2.2.2 (by omega)
    subst ha
    exact spec_opsOk b off len cap l w h hks
theorem impl_opsOkA (a : Option Addr) (len cap : Nat) (l : List Od) (w : World) (h : SlO w a len l) (hks : ∀ p ∈ l, p.2.1.size ≤ 1099511627776) :
    Calls Try.prog 29 #[.slice a len cap] w fun e w' => e = .returned (.bool (opsOk l)) ∧ Below w.heap.size w w' := by
  by_cases h0 : len = 0
  · subst h0
    obtain rfl : l = [] := List.eq_nil_of_length_eq_zero h.1
    go_enter Try.func29, Try.ntmps29
    go_wp2_with fail
    go_ret
    exact ⟨ret_bool (by decide), Below.refl _ _⟩
  · obtain ⟨b, off, ha, _⟩ := h.2.2.2 (by omega)
    subst ha
    exact impl_opsOk b off len cap l w h hks

section
variable {X : Nat} {k s t : Int} {v : Value} {y : Bool} {w w' : World}
end

end Go.Proofs.Yteniflajiklffaa.wds

namespace Go.Proofs.Yteniflajiklffaa.cos
open Go Go.RowKit Go.Proofs.Yteniflajiklffaa.base Go.Proofs.Yteniflajiklffaa.pairs Go.Proofs.Yteniflajiklffaa.ords Go.Proofs.Yteniflajiklffaa.lay Go.Proofs.Yteniflajiklffaa.wds
set_option linter.unusedVariables false
set_option linter.unusedSimpArgs false

set_option maxRecDepth 100000 in
set_option maxHeartbeats 1000000 in
theorem i_index (a : Option Addr) (len cap : Nat) (zs : List Int) (x : Int) (w : World) (h : SlZ w a len zs) :
    Calls Try.prog 102 #[.slice a len cap, .int .i64 x] w fun e w' => e = .returned (.int .i64 (idx (zs.findIdx? fun z => decide (z = x)))) ∧ w' = w := by
  obtain ⟨hl, hm, hc⟩ := h
  subst hl
  unfold maxLen at hm
  go_enter Try.func102, Try.ntmps102
  go_wp2
  go_loop [8] (fun i => ∃ k : Nat, k ≤ zs.length ∧ i = .int .i64 (k : Int) ∧ ∀ j (hj : j < k) (hjl : j < zs.length), zs[j] ≠ x) (fun i => zs.length - (intOf i).toNat)
  case atStart => exact ⟨0, Nat.zero_le _, rfl, fun j hj => absurd hj (by omega)⟩
  case round =>
    obtain ⟨k, hk, rfl, hall⟩ := hrel
    have HALL := Hid.mk' hall
    clear hall
    by_cases hlt : k < zs.length
    · obtain ⟨b, off, ha, hcl⟩ := hc (by omega)
      subst ha
      have hat := hcl k hlt
      have hki : (k : Int) < (zs.length : Int) := by omega
      by_cases ht : zs[k] = x
      · have HF : Hid (idx (zs.findIdx? fun z => decide (z = x)) = (k : Int)) := by
          show _ = _
          rw [show zs.findIdx? (fun z => decide (z = x)) = some k from findIdx_hit hlt (fun i hi => decide_eq_false (HALL.out i hi (by omega))) (decide_eq_true ht)]
          rfl
        rw [ht] at hat
        clear ht HALL hcl hc
        go_wp2
        go_ret
        exact ⟨ret_int HF.out.symm, rfl⟩
      · have HN : Hid (∀ j (hj : j < k + 1) (hjl : j < zs.length), zs[j] ≠ x) := fun j hj hjl => by
          rcases Nat.lt_succ_iff_lt_or_eq.1 hj with e | e
          · exact HALL.out j e hjl
          · subst e; exact ht
        generalize zs[k] = y at *
        have htb : (x == y) = false := beq_eq_false_iff_ne.2 fun e => ht e.symm
        clear HALL hcl
        go_wp2
        go_round
        case rel => exact ⟨k + 1, by omega, by go_num, HN.out⟩
        case measure => simp [intOf]; omega
    · have hnk : ¬ (k : Int) < (zs.length : Int) := by omega
      have HF : Hid (idx (zs.findIdx? fun z => decide (z = x)) = -1) := by
        show _ = _
        rw [show zs.findIdx? (fun z => decide (z = x)) = none from findIdx_none (fun i hi => decide_eq_false (HALL.out i (by omega) hi))]
        rfl
      clear HALL hc
      go_wp2
      go_ret
      exact ⟨ret_int HF.out.symm, rfl⟩
theorem idx_contains (zs : List Int) (x : Int) : decide (0 ≤ idx (zs.findIdx? fun z => decide (z = x))) = decide (x ∈ zs) := by
  cases e : zs.findIdx? (fun z => decide (z = x)) with
  | none =>
    have hn : x ∉ zs := fun hm => by
      have := List.findIdx?_eq_none_iff.1 e x hm
      simp at this
    rw [idx_none, decide_eq_false hn]; rfl
  | some k =>
    obtain ⟨hk, hp, _⟩ := findIdx_some e
    have hx : zs[k] = x := of_decide_eq_true hp
    have hm : x ∈ zs := by rw [← hx]; exact List.getElem_mem hk
    have h0 : (0 : Int) ≤ (k : Int) := by omega
    rw [idx_some, decide_eq_true hm, decide_eq_true h0]
theorem i_contains (a : Option Addr) (len cap : Nat) (zs : List Int) (x : Int) (w : World) (h : SlZ w a len zs) :
    Calls Try.prog 61 #[.slice a len cap, .int .i64 x] w fun e w' => e = .returned (.bool (decide (x ∈ zs))) ∧ w' = w := by
  have HI := Hid.mk' (i_index a len cap zs x w h)
  have HR := Hid.mk' (idx_contains zs x)
  generalize idx (zs.findIdx? fun z => decide (z = x)) = K at *
  clear h
  go_enter Try.func61, Try.ntmps61
  go_wp2_with fail
  refine HI.out.mono ?_
  rintro e w1 ⟨rfl, rfl⟩
  go_wp2_with fail
  go_ret
  exact ⟨ret_bool (by rw [← HR.out]), rfl⟩
theorem slz_drop {w : World} {b off len : Nat} {zs : List Int} (h : SlZ w (some ⟨b, off, none⟩) len zs) (k : Nat) (hk : k ≤ len) : SlZ w (some ⟨b, off + k, none⟩) (len - k) (zs.drop k) := by
  have hl := h.1
  have hm := h.2.1
  have hc := h.cells
  refine ⟨by simp; omega, by omega, fun h0 => ⟨b, off + k, rfl, fun i hi => ?_⟩⟩
  have hi2 : k + i < zs.length := by simp at hi; omega
  rw [Nat.add_assoc, hc (k + i) hi2, List.getElem_drop]
theorem slz_none {w : World} {a : Option Addr} : SlZ w a 0 [] := ⟨rfl, Nat.zero_le _, fun h => absurd h (by omega)⟩
theorem yesCut_step (left ys : List Int) (k : Nat) (hk : k < ys.length) : yesCut left (ys.drop k) = match left.findIdx? (fun z => decide (z = ys[k])) with | none => false | some i => yesCut (left.drop (i + 1)) (ys.drop (k + 1)) := by
  rw [List.drop_eq_getElem_cons hk]
  rfl
set_option maxRecDepth 100000 in
set_option maxHeartbeats 2000000 in
theorem i_yesOk (b off : Nat) (tx st n : Int) (ob ooff ol oc : Nat) (ya : Option Addr) (yl yc : Nat) (ops : List Od) (ys : List Int) (w : World) (c1 : w.cell? ⟨b, off + 1, none⟩ = some (.slice (some ⟨ob, ooff, none⟩) ol oc)) (c3 : w.cell? ⟨b, off + 3, none⟩ = some (.slice ya yl yc)) (hO : SlO w (some ⟨ob, ooff, none⟩) ol ops) (hY : SlZ w ya yl ys) (hks : ∀ p ∈ ops, p.2.1.size ≤ 1099511627776) (hsz : ol ≤ 1099511627776) (hn : (Lit.int .i64 n).wf = true) :
    Calls Try.prog 117 #[.pointer (some ⟨b, off, none⟩), .int .i64 n] w fun e w' => e = .returned (.bool (yesOk (shardsOf n ops) none ys)) ∧ Below w.heap.size w w' := by
  have hyl := hY.1
  have hym := hY.2.1
  unfold maxLen at hym
  rw [← cut_all (shards_asc n ops)]
  have HS := Hid.mk' (impl_shardsOf ob ooff ol oc ops n w hO hks hsz hn)
  have hbl := World.block_lt_of_cell? _ _ c3
  generalize hR : yesCut (shardsOf n ops) ys = R
  have HR := Hid.mk' hR
  clear hO hks hsz hn hR
  generalize shardsOf n ops = sh at *
  go_enter Try.func117, Try.ntmps117
  go_wp2_with fail
  refine HS.out.mono ?_
  rintro e w1 ⟨g, m, cp, rfl, hOZ, hb1⟩
  have d3 := (hb1.cell (p := ⟨b, off + 3, none⟩) hbl).trans c3
  have hcp := hOZ.cases
  have hSZ := hOZ.sl
  have HY := Hid.mk' (hY.below hb1)
  clear c1 c3 HS hOZ hY
  go_wp2_with fail
  go_loop [20, 5] (fun i s => ∃ (k sb so sn sc : Nat) (left : List Int), k ≤ yl ∧ i = .int .i64 (k : Int) ∧ s = .slice (some ⟨sb, so, none⟩) sn sc ∧ SlZ w1 (some ⟨sb, so, none⟩) sn left ∧ sn ≤ sc ∧ sc ≤ maxLen ∧ yesCut left (ys.drop k) = R) (fun i _ => yl - (intOf i).toNat)
  case atStart => exact ⟨0, _, _, _, _, sh, Nat.zero_le _, rfl, rfl, hSZ, hcp.1, hcp.2, HR.out⟩
  case round =>
    obtain ⟨k, sb, so, sn, sc, left, hk, rfl, rfl, hL, hnc, hcm, hres⟩ := hrel
    clear hSZ hcp d3
    have hcm2 := hcm
    unfold maxLen at hcm2
    by_cases hlt : k < yl
    · have hltl : k < ys.length := by omega
      obtain ⟨yb, yo, e, hyc⟩ := HY.out.2.2 (by omega)
      subst e
      have hat := hyc k hltl
      have hki : (k : Int) < (yl : Int) := by omega
      have hst := yesCut_step left ys k hltl
      have HIX := i_index (some ⟨sb, so, none⟩) sn sc left ys[k] w1 hL
      rw [hst] at hres
      generalize ys[k] = y at *
      cases hix : left.findIdx? (fun z => decide (z = y)) with
      | none =>
        rw [hix] at hres HIX
        have HRE := Hid.mk' hres
        have HI := Hid.mk' HIX
        rw [idx_none] at HI
        clear hres hst hix HIX hyc
        go_wp2_with fail
        refine HI.out.mono ?_
        rintro e w2 ⟨rfl, hw2⟩
        replace hw2 := hw2.symm
        subst hw2
        go_wp2_with fail
        go_ret
        exact ⟨ret_bool HRE.out, hb1⟩
      | some j =>
        rw [hix] at hres HIX
        have hjl : j < left.length := (findIdx_some hix).1
        have hll := hL.1
        have HRE := Hid.mk' hres
        have HI := Hid.mk' HIX
        rw [idx_some] at HI
        have hj1 : ((j : Int) + 1) ≤ (sc : Int) := by omega
        have hj2 : ((j : Int) + 1) ≤ (sn : Int) := by omega
        clear hres hst hix HIX hyc
        go_wp2_with fail
        refine HI.out.mono ?_
        rintro e w2 ⟨rfl, hw2⟩
        replace hw2 := hw2.symm
        subst hw2
        go_wp2_with fail
        go_round
        case rel =>
          have hml : maxLen = 2 ^ 63 - 1 := rfl
          by_cases hsc : sc = j + 1
          · have hd : left.drop (j + 1) = [] := List.drop_eq_nil_of_le (by omega)
            exact ⟨k + 1, sb, so, sn - (j + 1), sc - (j + 1), left.drop (j + 1), by omega, by go_num, by rw [if_pos hsc], by rw [hd, show sn - (j + 1) = 0 by omega]; exact slz_none, by omega, by omega, HRE.out⟩
          · exact ⟨k + 1, sb, so + (j + 1), sn - (j + 1), sc - (j + 1), left.drop (j + 1), by omega, by go_num, by rw [if_neg hsc], slz_drop hL (j + 1) (by omega), by omega, by omega, HRE.out⟩
        case measure => simp [intOf]; omega
    · have hke : ys.drop k = [] := List.drop_eq_nil_of_le (by omega)
      rw [hke] at hres
      have HRE : Hid (R = true) := by show _ = _; rw [← hres]; unfold yesCut; rfl
      have hki : ¬ (k : Int) < (yl : Int) := by omega
      clear hres
      go_wp2_with fail
      go_ret
      exact ⟨ret_bool HRE.out.symm, hb1⟩
def stateI (log : List Ch) (tx st : Int) : Bool := if st = 1 then !decided log tx else if st = 2 then has log (tx, true) else if st = 3 then has log (tx, false) else false
theorem stateI_eq {log : List Ch} (hn : (log.map fun c => c.1).Nodup) (tx st : Int) : stateI log tx st = (decide (1 ≤ st ∧ st ≤ 3) && stateOk st (choice log tx)) := by
  unfold stateI
  rw [decided_choice hn, has_choice hn, has_choice hn]
  by_cases h1 : st = 1
  · subst h1
    rw [if_pos rfl]
    rcases choice log tx with _ | y
    · rfl
    · cases y <;> rfl
  by_cases h2 : st = 2
  · subst h2
    rw [if_neg (by decide), if_pos rfl]
    rcases choice log tx with _ | y
    · rfl
    · cases y <;> rfl
  by_cases h3 : st = 3
  · subst h3
    rw [if_neg (by decide), if_neg (by decide), if_pos rfl]
    rcases choice log tx with _ | y
    · rfl
    · cases y <;> rfl
  rw [if_neg h1, if_neg h2, if_neg h3, decide_eq_false (by omega)]; rfl
set_option maxRecDepth 100000 in
set_option maxHeartbeats 2000000 in
theorem i_stateOk (b off : Nat) (tx st : Int) (B m : Nat) (log : List Ch) (w : World) (c0 : w.cell? ⟨b, off, none⟩ = some (.int .i64 tx)) (c2 : w.cell? ⟨b, off + 2, none⟩ = some (.int .i64 st)) (hM : Made w B m log) (hw : (Lit.int .i64 tx).wf = true) :
    Calls Try.prog 118 #[.pointer (some ⟨b, off, none⟩), .map (some B)] w fun e w' => e = .returned (.bool (stateI log tx st)) ∧ Below w.heap.size w w' := by
  have H0 := Hid.mk' (i_decided B m log tx w hM hw)
  have H1 := Hid.mk' (i_has B m log tx true w hM hw)
  have H2 := Hid.mk' (i_has B m log tx false w hM hw)
  have HR : Hid (stateI log tx st = if st = 1 then !decided log tx else if st = 2 then has log (tx, true) else if st = 3 then has log (tx, false) else false) := rfl
  clear hM hw
  generalize decided log tx = r0 at *
  generalize has log (tx, true) = r1 at *
  generalize has log (tx, false) = r2 at *
  by_cases h1 : st = 1
  · subst h1
    cases r0
    all_goals
      go_enter Try.func118, Try.ntmps118
      go_wp2_with fail
      refine H0.out.mono ?_
      rintro e w1 ⟨rfl, hb1⟩
      go_wp2_with fail
      go_ret
      exact ⟨ret_bool (by rw [HR.out]; simp), hb1⟩
  have k1 : (st == 1) = false := beq_eq_false_iff_ne.2 h1
  by_cases h2 : st = 2
  · subst h2
    go_enter Try.func118, Try.ntmps118
    go_wp2_with fail
    refine H1.out.mono ?_
    rintro e w1 ⟨rfl, hb1⟩
    go_wp2_with fail
    go_ret
    exact ⟨ret_bool (by rw [HR.out]; simp), hb1⟩
  have k2 : (st == 2) = false := beq_eq_false_iff_ne.2 h2
  by_cases h3 : st = 3
  · subst h3
    go_enter Try.func118, Try.ntmps118
    go_wp2_with fail
    refine H2.out.mono ?_
    rintro e w1 ⟨rfl, hb1⟩
    go_wp2_with fail
    go_ret
    exact ⟨ret_bool (by rw [HR.out]; simp), hb1⟩
  have k3 : (st == 3) = false := beq_eq_false_iff_ne.2 h3
  go_enter Try.func118, Try.ntmps118
  go_wp2_with fail
  go_ret
  exact ⟨ret_bool (by rw [HR.out, if_neg h1, if_neg h2, if_neg h3]), Below.refl _ _⟩
end Go.Proofs.Yteniflajiklffaa.cos

namespace Go.Proofs.Yteniflajiklffaa.cos
open Go Go.RowKit Go.Proofs.Yteniflajiklffaa.base Go.Proofs.Yteniflajiklffaa.pairs Go.Proofs.Yteniflajiklffaa.ords Go.Proofs.Yteniflajiklffaa.lay Go.Proofs.Yteniflajiklffaa.wds
set_option linter.unusedVariables false
set_option linter.unusedSimpArgs false

def fromOf (life : Int) (p : Option Int) : Int := match p with | none => life * 1000 | some q => q + 1
def jobI (n life next : Int) (log : List Ch) (fr : Int) (j : Jb) : Bool := !decide (j.1 < fr) && (!decide (life * 1000 + next ≤ j.1) && (opsOk j.2.1 && (yesOk (shardsOf n j.2.1) none j.2.2.2 && stateI log j.1 j.2.2.1)))
theorem jobI_eq {n life next : Int} {log : List Ch} (hn : (log.map fun c => c.1).Nodup) (p : Option Int) (hp : ∀ q, p = some q → life * 1000 ≤ q) (j : Jb) : jobI n life next log (fromOf life p) j = jobOk n life next log p j := by
  have bool : ∀ a b d b2 b3 b4 b5 b6 : Bool, (a && b) = (d && b2) → (a && (b && (b3 && (b4 && (b5 && b6))))) = (d && b2 && b3 && b5 && b4 && b6) := by decide
  unfold jobI jobOk
  rw [stateI_eq hn]
  refine bool _ _ _ _ _ _ _ _ ?_
  cases p with
  | none =>
    rw [show fromOf life none = life * 1000 from rfl]
    show _ = (_ && true)
    rw [Bool.and_true]
    by_cases h1 : j.1 < life * 1000
    · rw [decide_eq_true h1, decide_eq_false (p := life * 1000 ≤ j.1 ∧ j.1 ≤ life * 1000 + next - 1) (by omega)]; rfl
    · rw [decide_eq_false h1]
      by_cases h2 : life * 1000 + next ≤ j.1
      · rw [decide_eq_true h2, decide_eq_false (p := life * 1000 ≤ j.1 ∧ j.1 ≤ life * 1000 + next - 1) (by omega)]; rfl
      · rw [decide_eq_false h2, decide_eq_true (p := life * 1000 ≤ j.1 ∧ j.1 ≤ life * 1000 + next - 1) (by omega)]; rfl
  | some q =>
    have hq := hp q rfl
    rw [show fromOf life (some q) = q + 1 from rfl]
    show _ = (_ && decide (q < j.1))
    by_cases h1 : j.1 < q + 1
    · rw [decide_eq_true h1, decide_eq_false (show ¬ q < j.1 by omega)]; simp
    · rw [decide_eq_false h1, decide_eq_true (show q < j.1 by omega)]
      by_cases h2 : life * 1000 + next ≤ j.1
      · rw [decide_eq_true h2, decide_eq_false (p := life * 1000 ≤ j.1 ∧ j.1 ≤ life * 1000 + next - 1) (by omega)]; rfl
      · rw [decide_eq_false h2, decide_eq_true (p := life * 1000 ≤ j.1 ∧ j.1 ≤ life * 1000 + next - 1) (by omega)]; rfl

set_option maxRecDepth 100000 in
set_option maxHeartbeats 4000000 in
theorem i_jobsOk (X : Nat) (T : TypeId) (pre post : List Value) (n life next sure : Int) (ja : Option Addr) (jn jc : Nat) (la : Option Addr) (ln lc : Nat) (jobs : List Jb) (log : List Ch) (B m : Nat) (w : World) (hbx : BoxIn X T pre (coVals n life next sure ja jn jc la ln lc) post w) (hj : SlG jobR w ja jn jobs) (hM : Made w B m log) (hnd : (log.map fun c => c.1).Nodup) (hnw : 1 ≤ n ∧ n ≤ 8) (hlf : 1 ≤ life ∧ life ≤ 900) (hnx0 : 0 ≤ next ∧ next ≤ 999)
    (hfj : ∀ j ∈ jobs, j.2.1.length ≤ 1099511627776 ∧ (∀ p ∈ j.2.1, p.2.1.size ≤ 1099511627776)) :
    Calls Try.prog 73 #[.pointer (some ⟨X, pre.length, none⟩), .map (some B)] w fun e w' => e = .returned (.bool (jobsOk n life next log none jobs)) ∧ Below w.heap.size w w' := by
  have hjl := hj.1
  have hjm := hj.2.1
  unfold maxLen at hjm
  have c3 := hbx.cell 3 _ rfl
  have hnwf : (Lit.int .i64 n).wf = true := WalkArith.wf_i64 (by omega)
  have HFT := Hid.mk' (i_firstTx X T pre post n life next sure ja jn jc la ln lc w hbx hlf)
  generalize hR : jobsOk n life next log none jobs = R
  have HR := Hid.mk' hR
  have HFJ := Hid.mk' hfj
  clear hR hfj
  go_enter Try.func73, Try.ntmps73
  go_wp2_with fail
  refine HFT.out.mono ?_
  rintro e w1 ⟨rfl, hw1⟩
  replace hw1 := hw1.symm
  subst hw1
  go_wp2_with fail
  go_loopw [15, 5] (fun i f wr => ∃ k : Nat, k ≤ jn ∧ i = .int .i64 (k : Int) ∧ f = .int .i64 (fromOf life (prevTx jobs k)) ∧ (∀ q, prevTx jobs k = some q → life * 1000 ≤ q ∧ q < life * 1000 + next) ∧ jobsOk n life next log (prevTx jobs k) (jobs.drop k) = R ∧ Below w.heap.size w wr) (fun i _ _ => jn - (intOf i).toNat)
  case atStart => exact ⟨0, Nat.zero_le _, rfl, rfl, fun q hq => (by cases hq), HR.out, Below.refl _ _⟩
  case round =>
    obtain ⟨k, hk, rfl, rfl, hpr, hres, hB⟩ := hrel
    clear c3 HFT
    by_cases hlt : k < jn
    · have hltl : k < jobs.length := by omega
      obtain ⟨jb, joff, e⟩ := slg_some hj (by omega)
      subst e
      have hS := hj.below hB
      obtain ⟨y0, y2, ⟨oa, ol, oc, y1, hO, hoc⟩, ya, yl, yc, y3, hY, hyc⟩ := job_at hS k hltl
      have hki : (k : Int) < (jn : Int) := by omega
      obtain ⟨hf1, hf2⟩ := HFJ.out _ (List.getElem_mem hltl)
      have hwf : (Lit.int .i64 jobs[k].1).wf = true := by
        obtain ⟨vs, hv⟩ := hS.2.2.1 jobs[k] (List.getElem_mem hltl)
        obtain ⟨_, _, _, _, _, _, _, k1, _⟩ := job_see.1 hv
        exact k1
      rw [jobs_step hltl, ← jobI_eq hnd _ (fun q hq => (hpr q hq).1)] at hres
      have HRES := Hid.mk' hres
      have HPS := Hid.mk' (prevTx_succ hltl)
      have HPR := Hid.mk' hpr
      clear hres hpr
      generalize jobs[k] = j at *
      obtain ⟨tx, ops, st, yes⟩ := j
      simp only [] at *
      have hxw := hbx.below hB
      have hMw := hM.below hB
      obtain ⟨fr, hfr⟩ : ∃ fr, fromOf life (prevTx jobs k) = fr := ⟨_, rfl⟩
      rw [hfr] at HRES
      simp only [hfr]
      have x0 := hxw.cell 0 _ rfl
      rw [Nat.add_zero] at x0
      have x3 := hxw.cell 3 _ rfl
      have o0 := last.On.cell (B := wr.heap.size) x0 (World.block_lt_of_cell? _ _ x0)
      have o1 := last.On.cell (B := wr.heap.size) x3 (World.block_lt_of_cell? _ _ x3)
      have p0 := last.On.cell (B := wr.heap.size) y0 (World.block_lt_of_cell? _ _ y0)
      have p1 := last.On.cell (B := wr.heap.size) y1 (World.block_lt_of_cell? _ _ y1)
      have p2 := last.On.cell (B := wr.heap.size) y2 (World.block_lt_of_cell? _ _ y2)
      have p3 := last.On.cell (B := wr.heap.size) y3 (World.block_lt_of_cell? _ _ y3)
      have hinh := last.On.inh wr.heap.size wr
      have hnx : ∀ x : last.On wr.heap.size wr, Calls Try.prog 31 #[.pointer (some ⟨X, pre.length, none⟩)] x.w fun e w' => e = .returned (.int .i64 (life * 1000 + next)) ∧ ∃ y : last.On wr.heap.size wr, w' = y.w := fun x => last.Calls.on x (Nat.le_refl _) (i_nextTx X T pre post n life next sure _ jn jc la ln lc x.w (hxw.below x.2) hlf hnx0)
      have hops : ∀ x : last.On wr.heap.size wr, Calls Try.prog 29 #[.slice oa ol oc] x.w fun e w' => e = .returned (.bool (opsOk ops)) ∧ ∃ y : last.On wr.heap.size wr, w' = y.w := fun x => last.Calls.on x (Nat.le_refl _) (impl_opsOkA oa ol oc ops x.w (hO.below x.2) hf2)
      have hst : ∀ x : last.On wr.heap.size wr, Calls Try.prog 118 #[.pointer (some ⟨jb, joff + k * 4, none⟩), .map (some B)] x.w fun e w' => e = .returned (.bool (stateI log tx st)) ∧ ∃ y : last.On wr.heap.size wr, w' = y.w := fun x => last.Calls.on x (Nat.le_refl _) (i_stateOk jb (joff + k * 4) tx st B m log x.w (p0 x) (p2 x) (hMw.below x.2) hwf)
      have HO := Hid.mk' hO
      have HY := Hid.mk' hY
      have HJI : Hid (jobI n life next log fr (tx, ops, st, yes) = (!decide (tx < fr) && (!decide (life * 1000 + next ≤ tx) && (opsOk ops && (yesOk (shardsOf n ops) none yes && stateI log tx st))))) := rfl
      clear hO hY hxw hMw x0 y0 y1 y2 y3 hS
      cases hd1 : decide (tx < fr)
      rotate_left
      · have HF : Hid (R = false) := by show _ = _; rw [← HRES.out, HJI.out, hd1]; rfl
        clear HRES HJI hst
        go_wp2_with fail
        refine last.wp_region_on wr.heap.size (by kernel_rfl) (by kernel_rfl) ?_
        repeat (go_big_quiet_step ((first | (go_at_call 31; with_reducible exact hnx _) | (go_at_call 29; with_reducible exact hops _))))
        refine wpQuiet_nil ?_
        intro wq hwq
        obtain ⟨xq, hwq⟩ := hwq
        subst hwq
        have hbq : Below wr.heap.size wr xq.w := xq.2
        generalize xq.w = w4 at *
        clear o0 o1 p0 p1 p2 p3 hnx hops hinh
        go_wp2_with fail
        go_ret
        exact ⟨ret_bool HF.out.symm, hB.trans (hbq.mono hB.size)⟩
      cases hd2 : decide (life * 1000 + next ≤ tx)
      rotate_left
      · have HF : Hid (R = false) := by show _ = _; rw [← HRES.out, HJI.out, hd1, hd2]; rfl
        clear HRES HJI hst
        go_wp2_with fail
        refine last.wp_region_on wr.heap.size (by kernel_rfl) (by kernel_rfl) ?_
        repeat (go_big_quiet_step ((first | (go_at_call 31; with_reducible exact hnx _) | (go_at_call 29; with_reducible exact hops _))))
        refine wpQuiet_nil ?_
        intro wq hwq
        obtain ⟨xq, hwq⟩ := hwq
        subst hwq
        have hbq : Below wr.heap.size wr xq.w := xq.2
        generalize xq.w = w4 at *
        clear o0 o1 p0 p1 p2 p3 hnx hops hinh
        go_wp2_with fail
        go_ret
        exact ⟨ret_bool HF.out.symm, hB.trans (hbq.mono hB.size)⟩
      cases hd3 : opsOk ops
      · have HF : Hid (R = false) := by show _ = _; rw [← HRES.out, HJI.out, hd1, hd2, hd3]; rfl
        rw [hd3] at hops
        clear HRES HJI hst hd3
        go_wp2_with fail
        refine last.wp_region_on wr.heap.size (by kernel_rfl) (by kernel_rfl) ?_
        repeat (go_big_quiet_step ((first | (go_at_call 31; with_reducible exact hnx _) | (go_at_call 29; with_reducible exact hops _))))
        refine wpQuiet_nil ?_
        intro wq hwq
        obtain ⟨xq, hwq⟩ := hwq
        subst hwq
        have hbq : Below wr.heap.size wr xq.w := xq.2
        generalize xq.w = w4 at *
        clear o0 o1 p0 p1 p2 p3 hnx hops hinh
        go_wp2_with fail
        go_ret
        exact ⟨ret_bool HF.out.symm, hB.trans (hbq.mono hB.size)⟩
      have hop8 := (opsOk_iff _).1 hd3
      have hol : ol = ops.length := HO.out.1.symm
      obtain ⟨ob, ooff, e, _⟩ := HO.out.2.2.2 (by omega)
      subst e
      have hyes : ∀ x : last.On wr.heap.size wr, Calls Try.prog 117 #[.pointer (some ⟨jb, joff + k * 4, none⟩), .int .i64 n] x.w fun e w' => e = .returned (.bool (yesOk (shardsOf n ops) none yes)) ∧ ∃ y : last.On wr.heap.size wr, w' = y.w := fun x => last.Calls.on x (Nat.le_refl _) (i_yesOk jb (joff + k * 4) tx st n ob ooff ol oc ya yl yc ops yes x.w (p1 x) (p3 x) (HO.out.below x.2) (HY.out.below x.2) hf2 (by omega) hnwf)
      rw [hd3] at hops
      have HD1 := Hid.mk' (of_decide_eq_false hd1)
      have HD2 := Hid.mk' (of_decide_eq_false hd2)
      clear hol hop8
      cases hd4 : yesOk (shardsOf n ops) none yes
      · have HF : Hid (R = false) := by show _ = _; rw [← HRES.out, HJI.out, hd1, hd2, hd3, hd4]; rfl
        rw [hd4] at hyes
        clear HRES HJI hst hd3 hd4
        go_wp2_with fail
        refine last.wp_region_on wr.heap.size (by kernel_rfl) (by kernel_rfl) ?_
        repeat (go_big_quiet_step ((first | (go_at_call 31; with_reducible exact hnx _) | (go_at_call 29; with_reducible exact hops _) | (go_at_call 117; with_reducible exact hyes _))))
        refine wpQuiet_nil ?_
        intro wq hwq
        obtain ⟨xq, hwq⟩ := hwq
        subst hwq
        have hbq : Below wr.heap.size wr xq.w := xq.2
        generalize xq.w = w4 at *
        clear o0 o1 p0 p1 p2 p3 hnx hops hinh hyes
        go_wp2_with fail
        go_ret
        exact ⟨ret_bool HF.out.symm, hB.trans (hbq.mono hB.size)⟩
      rw [hd4] at hyes
      cases hd5 : stateI log tx st
      · have HF : Hid (R = false) := by show _ = _; rw [← HRES.out, HJI.out, hd1, hd2, hd3, hd4, hd5]; rfl
        rw [hd5] at hst
        clear HRES HJI hd3 hd4 hd5
        go_wp2_with fail
        refine last.wp_region_on wr.heap.size (by kernel_rfl) (by kernel_rfl) ?_
        repeat (go_big_quiet_step ((first | (go_at_call 31; with_reducible exact hnx _) | (go_at_call 29; with_reducible exact hops _) | (go_at_call 117; with_reducible exact hyes _) | (go_at_call 118; with_reducible exact hst _))))
        refine wpQuiet_nil ?_
        intro wq hwq
        obtain ⟨xq, hwq⟩ := hwq
        subst hwq
        have hbq : Below wr.heap.size wr xq.w := xq.2
        generalize xq.w = w4 at *
        clear o0 o1 p0 p1 p2 p3 hnx hops hinh hyes hst
        go_wp2_with fail
        go_ret
        exact ⟨ret_bool HF.out.symm, hB.trans (hbq.mono hB.size)⟩
      · have HF : Hid (jobsOk n life next log (some tx) (jobs.drop (k + 1)) = R) := by show _ = _; rw [← HRES.out, HJI.out, hd1, hd2, hd3, hd4, hd5]; rfl
        rw [hd5] at hst
        have HLO : Hid (life * 1000 ≤ tx ∧ tx < life * 1000 + next) := by
          have h1 := HD1.out
          have h2 := HD2.out
          refine ⟨?_, by omega⟩
          rw [← hfr] at h1
          cases hpt : prevTx jobs k with
          | none => rw [hpt] at h1; unfold fromOf at h1; simp only [] at h1; omega
          | some q => rw [hpt] at h1; have := (HPR.out q hpt).1; unfold fromOf at h1; simp only [] at h1; omega
        clear HRES HJI hd3 hd4 hd5
        go_wp2_with fail
        refine last.wp_region_on wr.heap.size (by kernel_rfl) (by kernel_rfl) ?_
        repeat (go_big_quiet_step ((first | (go_at_call 31; with_reducible exact hnx _) | (go_at_call 29; with_reducible exact hops _) | (go_at_call 117; with_reducible exact hyes _) | (go_at_call 118; with_reducible exact hst _))))
        refine wpQuiet_nil ?_
        intro wq hwq
        obtain ⟨xq, hwq⟩ := hwq
        subst hwq
        have hbq : Below wr.heap.size wr xq.w := xq.2
        have t0 := p0 xq
        generalize xq.w = w4 at *
        clear p0
        clear o0 o1 p1 p2 p3 hnx hops hinh hyes hst
        have htl := HLO.out
        have w1 : IntKind.i64.wrap (tx + 1) = tx + 1 := by rw [IntKind.wrap_i64]; omega
        go_wp2_with fail
        go_roundw
        case rel => exact ⟨k + 1, by omega, by go_num, by rw [HPS.out]; rfl, fun q hq => by rw [HPS.out] at hq; cases hq; exact HLO.out, by rw [HPS.out]; exact HF.out, hB.trans (hbq.mono hB.size)⟩
        case measure => simp [intOf]; omega
    · have hke : jobs.drop k = [] := List.drop_eq_nil_of_le (by omega)
      rw [hke] at hres
      have HRE : Hid (R = true) := by show _ = _; rw [← hres]; cases prevTx jobs k <;> rfl
      have hki : ¬ (k : Int) < (jn : Int) := by omega
      clear hres hbx hj hM
      go_wp2_with fail
      go_ret
      exact ⟨ret_bool HRE.out.symm, hB⟩
end Go.Proofs.Yteniflajiklffaa.cos
