/- The program's orders by shards: a map of rows, one shard's row, and the shards in order. The program's OpsFor and ShardsOf, also of orders that are nil. The specification's shard: how it is with a transaction, and how many keys there are. The program's shard: what is alike, and whether it is right. Whether what is held is of orders that began, and is their part: both sides. -/
import Derived.Test.YtijplooogplccaaGreatShan
import Derived.Test.YtijplooogplccaaGreatShbc
import Derived.Test.YtijplooogplccaaGreatShaf
import Derived.Sort.OwnSortedInts
import Derived.Test.YtijplooogplccaaGreatShax
import Derived.Test.YtijplooogplccaaGreatShao
import Derived.Test.YtijplooogplccaaGreatShae
import Derived.Test.YtijplooogplccaaGreatShaw
import Derived.Deep.RegionHeld3
namespace Go.Proofs.YtijplooogplccaaGreat.ords
open Go Go.RowKit Go.Proofs.YtijplooogplccaaGreat.base Go.Proofs.YtijplooogplccaaGreat.pairs
open Go.Maps (Keyed keyOf_int_mk)
open Go.Sort (Holds)
set_option linter.unusedVariables false
set_option linter.unusedSimpArgs false

theorem box_cellO (w w' : World) (z : Int) (x y : ByteArray) (hB : Below (w.alloc (.cells #[.int .i64 z, .string x, .string y] 126)).heap.size (w.alloc (.cells #[.int .i64 z, .string x, .string y] 126)) w') :
    w'.cell? ⟨w.heap.size, 0, none⟩ = some (.int .i64 z) ∧ w'.cell? ⟨w.heap.size, 1, none⟩ = some (.string x) ∧ w'.cell? ⟨w.heap.size, 2, none⟩ = some (.string y) := by
  have hlt : w.heap.size < (w.alloc (.cells #[.int .i64 z, .string x, .string y] 126)).heap.size := by simp
  refine ⟨(hB.cell (p := ⟨w.heap.size, 0, none⟩) hlt).trans ?_, (hB.cell (p := ⟨w.heap.size, 1, none⟩) hlt).trans ?_, (hB.cell (p := ⟨w.heap.size, 2, none⟩) hlt).trans ?_⟩
  · simp
  · simp
  · simp
theorem opsFor_upd (n : Int) (l : List Od) (k : Nat) (h : k < l.length) : upd (fun s => opsFor s n (l.take k)) (shardOf l[k].2.1 n) (opsFor (shardOf l[k].2.1 n) n (l.take k) ++ [l[k]]) = fun s => opsFor s n (l.take (k + 1)) := by
  funext t
  show upd _ _ _ _ = List.filter _ _
  rw [filter_snocO (fun o => decide (shardOf o.2.1 n = t)) l k h]
  by_cases e : t = shardOf l[k].2.1 n
  · subst e
    rw [upd_same]; simp [opsFor]
  · rw [upd_other e]
    have e' : ¬ shardOf l[k].2.1 n = t := fun x => e x.symm
    simp [opsFor, e']
theorem shardOf_wf (key : ByteArray) (n : Int) : (Lit.int .i64 (shardOf key n)).wf = true := by
  have h1 := (shardOf_range key n).1
  have h2 := shardOf_lt key n
  exact WalkArith.wf_i64 (by omega)
theorem opsFor_le (s n : Int) (l : List Od) : (opsFor s n l).length ≤ l.length := List.length_filter_le _ _

set_option maxRecDepth 100000 in
set_option maxHeartbeats 2000000 in
theorem i_byShard (b off len cap : Nat) (l : List Od) (n : Int) (w : World) (h : SlO w (some ⟨b, off, none⟩) len l) (hks : ∀ p ∈ l, p.2.1.size ≤ 1099511627776) (hsz : len ≤ 1099511627776) (hn : (Lit.int .i64 n).wf = true) :
    Calls Tryz.prog 159 #[.slice (some ⟨b, off, none⟩) len cap, .int .i64 n] w fun e w' =>
      e = .returned (.map (some w.heap.size)) ∧ Groups w' w.heap.size (w.heap.size + 1) len (fun s => opsFor s n l) ∧ Below w.heap.size w w' := by
  obtain ⟨i0, hi, hz0, hz1, hz2⟩ := info_parts infoO
  have hl := h.1
  have hsm := h.2.2.1
  have hmm := @run_makeMap Tryz.prog
  subst hl
  go_enter Tryz.func159, Tryz.ntmps159
  go_wp2_with (at_builtin; fail)
  go_loopw [12] (fun i wr => ∃ k : Nat, k ≤ l.length ∧ i = .int .i64 (k : Int) ∧ Groups wr w.heap.size (w.heap.size + 1) k (fun s => opsFor s n (l.take k)) ∧ Below w.heap.size w wr) (fun i _ => l.length - (intOf i).toNat)
  case atStart => exact ⟨0, Nat.zero_le _, rfl, groups_made w, (Below.refl _ _).alloc (Nat.le_refl _) _⟩
  case round =>
    obtain ⟨k, hk, rfl, hT, hB⟩ := hrel
    clear hmm
    by_cases hlt : k < l.length
    · obtain ⟨c0, c1, c2⟩ := (h.below hB).cells k hlt
      have hki : (k : Int) < (l.length : Int) := by omega
      have hpk := hsm _ (List.getElem_mem hlt)
      have hks' := hks _ (List.getElem_mem hlt)
      have HU := Hid.mk' (opsFor_upd n l k hlt)
      have hfl := opsFor_le (shardOf l[k].2.1 n) n (l.take k)
      have hlk : (l.take k).length ≤ k := List.length_take_le _ _
      have hsw := shardOf_wf l[k].2.1 n
      have hba : Below wr.heap.size wr (wr.alloc (.cells #[.int .i64 l[k].1, .string l[k].2.1, .string l[k].2.2] 126)) := (Below.refl _ _).alloc (Nat.le_refl _) _
      have HC := Hid.mk' (impl_shardOf l[k].2.1 n (wr.alloc (.cells #[.int .i64 l[k].1, .string l[k].2.1, .string l[k].2.2] 126)) hks' hn)
      generalize shardOf l[k].2.1 n = sh at *
      generalize l[k] = p at *
      go_wp2_with (at_builtin; fail)
      refine HC.out.mono ?_
      rintro e w3 ⟨rfl, hb3⟩
      obtain ⟨d0, d1, d2⟩ := box_cellO wr w3 p.1 p.2.1 p.2.2 hb3
      have hX3 : Below wr.heap.size wr w3 := hba.trans (hb3.mono hba.size)
      have hB3 : Below w.heap.size w w3 := hB.trans (hX3.mono hB.size)
      have hT3 := hT.below hX3
      have hsz3 : w.heap.size + 1 ≤ w3.heap.size := hT3.lt
      clear HC hb3 hX3 hB hT c0 c1 c2 hba
      go_wp2_with (at_lookup; refine wpList_look_groups _ rfl _ _ rfl rfl rfl hT3 hsw (by unfold maxLen; omega) ?_)
      intro v hown hsmv hback
      have hc3 : (opsFor sh n (l.take k)).length + 1 ≤ maxLen := by unfold maxLen; omega
      have hc4 : ((opsFor sh n (l.take k)).length + 1) * 40 ≤ 140737488355328 := by omega
      have HT3 := Hid.mk' hT3
      have HBK := Hid.mk' hback
      have HSM : Hid (∀ q ∈ opsFor sh n (l.take k), smallO q) := fun q hq => hsmv q.1 q.2.1 q.2.2 hq
      clear hback hT3 hsmv
      go_wp2_with (at_builtin; refine wpList_append_own_at _ rfl (.tmp 24) (.tmp 26) 98 rfl (w.heap.size + 1) 126 i0 (.agg #[.int .i64 0, .string ⟨#[]⟩, .string ⟨#[]⟩]) 3 40 Tryz.underlying98 hi hz0 hz1 hz2 rfl (by decide) _ _ _ rfl (hown.alloc _) ⟨w3.heap.size, 0, none⟩ 1 1 (ordVals [p]) rfl rfl (one_ord_cells _ _ _) (ordVals_oneCell _) hc3 hc4 (le_alloc _ _ hsz3) ?_)
      intro v4 w4 hown4 hgrow4 hnn hloc
      have hnn' : ¬ v4 = .slice none 0 0 := by simpa using hnn
      obtain ⟨g4, cp4, hv4, hO4⟩ := ownO_app rfl HSM.out hpk hnn' hown4
      subst hv4
      have hgr4 : w3.grownBy w4 v.ownBlock := World.grownBy.andThen ((World.grownBy_alloc w3 _ none).but v.ownBlock) hgrow4 (fun j hj => Or.inr hj)
      have hloc4 : some g4 = v.ownBlock ∨ w3.heap.size ≤ g4 := by
        rcases hloc with h1 | h1
        · exact Or.inl h1
        · simp [Value.ownBlock] at h1; exact Or.inr (by omega)
      have hB4 : Below w.heap.size w w4 := hB3.grown hgr4 hB3.size (fun j hj => by have := (hown.lt j hj).1; omega)
      clear hown hown4 hgrow4 hnn hnn' hloc hB3 HT3
      go_wp2_with (at_mapUpdate; refine wpList_store_back _ rfl _ _ _ rfl HBK.out rfl rfl rfl hgr4 hO4 (by simp) hloc4 ?_)
      intro w5 hT5 hgrow5
      rw [HU.out] at hT5
      have hB5 : Below w.heap.size w w5 := hB4.grown hgrow5 hB4.size (fun j hj => by cases hj; exact Nat.le_refl _)
      have HT5 := Hid.mk' hT5
      clear hgrow5 hB4 hT5 hO4 hgr4 hloc4 HBK
      go_wp2_with (at_builtin; fail)
      go_roundw
      case rel => exact ⟨k + 1, by omega, by go_num, HT5.out, hB5⟩
      case measure => simp [intOf]; omega
    · have HE : Hid (l.take k = l) := List.take_of_length_le (by omega)
      have hkl : k = l.length := by omega
      rw [HE.out] at hT
      go_wp2_with (at_builtin; fail)
      go_ret
      subst hkl
      exact ⟨rfl, hT, hB⟩

/-! ### the shards that have any, in order -/
theorem OwnZ.obj {w : World} {base g n cap : Nat} {zs : List Int} (h : OwnZ w base g n cap zs) : ∃ cur e, w.heap[g]? = some (.cells cur e (0, 0)) := by
  rcases h.2.2 with ⟨h', _⟩ | ⟨g', cap', cur, h', _, hg, _⟩
  · simp at h'
  · simp only [Value.slice.injEq, Option.some.injEq, Addr.mk.injEq, and_true, true_and] at h'
    obtain ⟨rfl, rfl⟩ := h'
    exact ⟨cur, _, hg⟩
theorem ranges_ne {w : World} {base g m cap b r n cnt : Nat} {zs : List Int} {D : DataW Unit} {left : Lit → Bool} (h : OwnZ w base g m cap zs) (hr : w.ranges Tryz.prog 3 noR b r n D left cnt) : g ≠ b ∧ g ≠ r := by
  obtain ⟨cur, e, hg⟩ := h.obj
  obtain ⟨es, clock, since, seen, c0, hb, _, _, _, hit, _⟩ := hr
  refine ⟨fun x => ?_, fun x => ?_⟩
  · rw [x, hb] at hg; cases hg
  · rw [x, hit] at hg; cases hg
def Coll (D : DataW Unit) (left : Lit → Bool) (ks : List Int) : Prop :=
  ks.Nodup ∧ (∀ s ∈ ks, (Lit.int .i64 s).wf = true) ∧ ∀ s, (Lit.int .i64 s).wf = true → (s ∈ ks ↔ (Maps.has D (.int .i64 s) = true ∧ left (.int .i64 s) = false))
theorem Coll.start (D : DataW Unit) : Coll D (Maps.has D) [] := ⟨List.nodup_nil, fun s h => absurd h List.not_mem_nil, fun s _ => by cases Maps.has D (.int .i64 s) <;> simp⟩
theorem Coll.step {D : DataW Unit} {left : Lit → Bool} {ks : List Int} (h : Coll D left ks) {x : Int} (hx : (Lit.int .i64 x).wf = true) (hl : left (.int .i64 x) = true) (hh : Maps.has D (.int .i64 x) = true) : Coll D (fun z => left z && !z.sameKey (.int .i64 x)) (ks ++ [x]) := by
  obtain ⟨h1, h2, h3⟩ := h
  have hnew : x ∉ ks := fun hm => by have := ((h3 x hx).1 hm).2; rw [hl] at this; cases this
  refine ⟨List.nodup_append.2 ⟨h1, by simp, fun a ha b hb => by simp at hb; subst hb; exact fun e => hnew (e ▸ ha)⟩, fun s hs => ?_, fun s hs => ?_⟩
  · rcases List.mem_append.1 hs with h4 | h4
    · exact h2 s h4
    · simp at h4; subst h4; exact hx
  · by_cases e : s = x
    · subst e; simp [hh, Lit.sameKey]
    · simp [h3 s hs, e, Lit.sameKey]
theorem Coll.sorted {D : DataW Unit} {left : Lit → Bool} {ks : List Int} (h : Coll D left ks) (hl : ∀ kl, left kl = false) {n : Int} {l : List Od} (hD : ∀ s, (Lit.int .i64 s).wf = true → (Maps.has D (.int .i64 s) = true ↔ opsFor s n l ≠ [])) : ks.mergeSort (fun x y => decide (x ≤ y)) = shardsOf n l := by
  obtain ⟨h1, h2, h3⟩ := h
  have hp : (ks.mergeSort (fun x y => decide (x ≤ y))).Perm ks := List.mergeSort_perm ks _
  have hs : (ks.mergeSort (fun x y => decide (x ≤ y))).Pairwise (fun a b => (decide (a ≤ b)) = true) := List.pairwise_mergeSort (le := fun x y : Int => decide (x ≤ y)) (fun a b c h1 h2 => by simp at *; omega) (fun a b => by simp; omega) ks
  have hn := hp.nodup_iff.2 h1
  refine asc_ext ?_ (shards_asc n l) fun x => ?_
  · unfold Asc
    refine (hs.and hn).imp ?_
    rintro a b ⟨h4, h5⟩
    simp at h4
    omega
  · rw [hp.mem_iff, shards_mem]
    constructor
    · intro hx
      have hw := h2 x hx
      have := (hD x hw).1 ((h3 x hw).1 hx).1
      obtain ⟨o, ho⟩ := List.exists_mem_of_ne_nil _ this
      obtain ⟨ho1, ho2⟩ := List.mem_filter.1 ho
      exact ⟨o, ho1, by simpa using ho2⟩
    · rintro ⟨o, ho, rfl⟩
      have hw := shardOf_wf o.2.1 n
      refine (h3 _ hw).2 ⟨(hD _ hw).2 fun e => ?_, hl _⟩
      have : o ∈ opsFor (shardOf o.2.1 n) n l := List.mem_filter.2 ⟨ho, by simp⟩
      rw [e] at this
      exact absurd this List.not_mem_nil
theorem ownZ_sorted {w : World} {base g m cp nn : Nat} {os : Array Obj} {ks : List Int} (h : OwnZ w base g m cp ks) :
    OwnZ (Go.Sort.grow (Go.Sort.putRow (Value.int .i64) (Go.Sort.ahead w nn) g 0 (ks.mergeSort fun x y => decide (x ≤ y)).toArray) os) base g m cp (ks.mergeSort fun x y => decide (x ≤ y)) ∧
    w.grownBy (Go.Sort.grow (Go.Sort.putRow (Value.int .i64) (Go.Sort.ahead w nn) g 0 (ks.mergeSort fun x y => decide (x ≤ y)).toArray) os) (some g) := by
  have hl := h.1
  have hl2 : (ks.mergeSort fun x y => decide (x ≤ y)).length = ks.length := List.length_mergeSort ks
  rcases h.2.2 with ⟨h', _⟩ | ⟨g', cap', cur, h', hbase, hb, h1, h2, h3, h4⟩
  · simp at h'
  · simp only [Value.slice.injEq, Option.some.injEq, Addr.mk.injEq, and_true, true_and] at h'
    obtain ⟨rfl, rfl⟩ := h'
    subst hl
    exact ⟨⟨hl2, ownsRow_sortedI hl2 hbase hb h1 h2 h3⟩, grownBy_sortedI _⟩
theorem ownZ_holds {w : World} {base g m cp : Nat} {ks : List Int} (h : OwnZ w base g m cp ks) : Holds (Value.int .i64) w g 0 ks.toArray := by
  have hl := h.1
  rcases h.2.2 with ⟨h', _⟩ | ⟨g', cap', cur, h', hbase, hb, h1, h2, h3, h4⟩
  · simp at h'
  · simp only [Value.slice.injEq, Option.some.injEq, Addr.mk.injEq, and_true, true_and] at h'
    obtain ⟨rfl, rfl⟩ := h'
    subst hl
    exact holds_of_blockI hb (by simpa [intVals] using h4)
theorem size_has {w : World} {B n : Nat} {D : DataW Unit} (h : w.ownsMap Tryz.prog 3 noR B n D) : Maps.size D ≤ n := by
  obtain ⟨es, clock, hb, F, hs, rfl⟩ := h
  rw [Maps.size_eq, length_sorted]
  simpa using hs

theorem wpList_next_key (w : World) {ops : Array Oper} {rest : List Oper} {o : Oper} {a : Act} {Q : Exit → Act → World → Prop} (hg : o.guard = none) (it : Operand) (hop : o.op = Op.next it false) (b r n : Nat) (D : DataW Unit) (left : Lit → Bool) (cnt : Nat)
    (hit : a.eval it = .pointer (some ⟨r, 0, none⟩)) (h : w.ranges Tryz.prog 3 noR b r n D left cnt)
    (hDone : (∀ kl, left kl = false) → wpList Tryz.prog ops Q rest (a.put o.dst (.tuple #[.bool false])) w)
    (hMore : ∀ (x : Int) (v : Value) (w' : World) (cnt' : Nat), (Lit.int .i64 x).wf = true → left (.int .i64 x) = true → Maps.has D (.int .i64 x) = true → Hid (w'.ranges Tryz.prog 3 noR b r n D (fun z => left z && !z.sameKey (.int .i64 x)) cnt') → cnt' < cnt →
      w.grownBy w' (some r) → (Instr.entry (.pointer (some ⟨r, 0, none⟩))).run Tryz.prog w' = .ok (.tuple #[.int .i64 x, v]) w' → wpList Tryz.prog ops Q rest (a.put o.dst (.tuple #[.bool true, .int .i64 x, v])) w') :
    wpList Tryz.prog ops Q (o :: rest) a w :=
  wpList_next_ranges w hg it hop 3 intLaw noR (Value.int .i64) (fun v : Value => v) (fun key kl hkey => by obtain ⟨x, rfl, _⟩ := Maps.keyOf_int_inv Tryz.underlying3 hkey; exact ⟨x, rfl⟩) (fun v y hv => ⟨v, rfl⟩) b r n D left cnt hit h (fun _ hl => hDone hl)
    (fun x c kl y w' cnt' hkey hlk hv hat hrg hlt hgr hsz hen => by
      obtain ⟨x', ex, rfl, hwx⟩ := Maps.keyOf_int_inv Tryz.underlying3 hkey
      cases ex
      exact hMore x c w' cnt' hwx hlk (Maps.has_true_of_atKey hat) hrg hlt hgr hen)

set_option maxRecDepth 100000 in
set_option maxHeartbeats 2000000 in
theorem impl_shardsOf (b off len cap : Nat) (l : List Od) (n : Int) (w : World) (h : SlO w (some ⟨b, off, none⟩) len l) (hks : ∀ p ∈ l, p.2.1.size ≤ 1099511627776) (hsz : len ≤ 1099511627776) (hn : (Lit.int .i64 n).wf = true) :
    Calls Tryz.prog 148 #[.slice (some ⟨b, off, none⟩) len cap, .int .i64 n] w fun e w' =>
      ∃ g' n' cap', e = .returned (.slice (some ⟨g', 0, none⟩) n' cap') ∧ OwnZ w' w.heap.size g' n' cap' (shardsOf n l) ∧ Below w.heap.size w w' := by
  obtain ⟨i0, hi, hz0, hz1, hz2⟩ := info_parts infoZ
  have hba : Below w.heap.size w (w.alloc (.cells #[] 3)) := (Below.refl _ _).alloc (Nat.le_refl _) _
  have hO1 := ownZ_made w w.heap.size (Nat.le_refl _)
  have hC := i_byShard b off len cap l n _ (h.below hba) hks hsz hn
  have hsz1 : (w.alloc (.cells #[] 3)).heap.size = w.heap.size + 1 := by simp
  rw [hsz1] at hC
  have HC := Hid.mk' hC
  clear hC hsz1
  go_enter Tryz.func148, Tryz.ntmps148
  go_wp2_with (at_builtin; fail)
  refine HC.out.mono ?_
  rintro e w2 ⟨rfl, hT, hb2⟩
  have hb2' : Below (w.alloc (.cells #[] 3)).heap.size (w.alloc (.cells #[] 3)) w2 := hb2.mono (by simp)
  have hB2 : Below w.heap.size w w2 := hba.trans (hb2'.mono hba.size)
  have hO2 := hO1.below hb2'
  have hbs := hB2.size
  obtain ⟨D, hown, hIs, hD⟩ := hT.owns
  have HD := Hid.mk' hD
  have hsD := size_has hown
  clear HC hb2 hb2' hO1 hba hT hD hIs
  go_wp2_with (at_range; refine wpList_range_own _ rfl _ 237 rfl 3 98 intLaw Tryz.underlying237 noR (w.heap.size + 1) len D rfl hown ?_)
  intro w3 hrg3 hg3 hs3
  have hO3 := hO2.grown hg3 (by simp)
  have hB3 : Below w.heap.size w w3 := hB2.grown hg3 hbs (fun j hj => by cases hj)
  have hr3 : w.heap.size ≤ w2.heap.size := hbs
  generalize w2.heap.size = rr at *
  clear hO2 hB2 hown hg3 hbs
  go_wp2_with (at_builtin; fail)
  go_loopw [5] (fun v wr => ∃ (left : Lit → Bool) (cnt g m cp : Nat) (ks : List Int), wr.ranges Tryz.prog 3 noR (w.heap.size + 1) rr len D left cnt ∧ v = .slice (some ⟨g, 0, none⟩) m cp ∧ OwnZ wr w.heap.size g m cp ks ∧ Hid (Coll D left ks) ∧ m + cnt ≤ len ∧ Below w.heap.size w wr) (fun _ wr => wr.rangeLeft (w.heap.size + 1) rr)
  case atStart => exact ⟨_, _, _, _, _, [], hrg3, rfl, hO3, Coll.start D, by omega, hB3⟩
  case round =>
    clear hrg3 hO3 hB3
    obtain ⟨left, cnt, g, m, cp, ks, hrg, rfl, hO, HG, hlen, hB⟩ := hrel
    have hbw := hB.size
    go_wp2_with (at_next; refine wpList_next_key _ rfl _ rfl (w.heap.size + 1) rr len D left cnt rfl hrg ?_ ?_)
    · intro hl0
      have HS := Hid.mk' (HG.out.sorted hl0 HD.out)
      have hml := hO.1
      have HSO := Hid.mk' (sorts.sort_int g 0 cp ks wr (ownZ_holds hO) hO.lt.2 (by omega))
      rw [hml] at HSO
      clear hrg hl0 HG
      go_wp2_with fail
      refine HSO.out.mono ?_
      rintro e w5 ⟨rfl, nn, os, hw5⟩
      obtain ⟨hO5, hg5⟩ := ownZ_sorted (nn := nn) (os := os) hO
      rw [← hw5] at hO5 hg5
      have hB5 : Below w.heap.size w w5 := hB.grown hg5 hbw (fun j hj => by cases hj; exact hO.lt.1)
      rw [HS.out] at hO5
      have HO5 := Hid.mk' hO5
      clear hw5 hg5 hO5 hO hB HSO
      go_wp2_with fail
      go_ret
      exact ⟨_, _, _, rfl, HO5.out, hB5⟩
    · intro x c w1 cnt1 hwx hlk hhas HRG hlt hg1 hen
      have hm0 : wr.rangeLeft (w.heap.size + 1) rr = cnt := hrg.left_eq
      have HG1 : Hid (Coll D (fun z => left z && !z.sameKey (.int .i64 x)) (ks ++ [x])) := HG.out.step hwx hlk hhas
      have hne := ranges_ne hO hrg
      have hO1 := hO.grown hg1 (fun e => hne.2 (by cases e; rfl))
      have hB1 : Below w.heap.size w w1 := hB.grown hg1 hbw (fun j hj => by cases hj; exact hr3)
      have hc3 : m + 1 ≤ maxLen := by unfold maxLen; omega
      have hc4 : (m + 1) * 8 ≤ 140737488355328 := by omega
      have hbw1 : w.heap.size ≤ w1.heap.size := hB1.size
      have HM0 := Hid.mk' hm0
      clear hO hB hrg hg1 HG hne hhas hm0
      go_wp2_with (at_builtin; refine wpList_append_own _ rfl (.tmp 16) (.tmp 18) 105 rfl w.heap.size 3 i0 (.int .i64 0) 1 8 Tryz.underlying105 hi hz0 hz1 hz2 rfl (by decide) _ _ _ rfl (hO1.2.alloc _) ⟨w1.heap.size, 0, none⟩ 1 1 (intVals [x]) rfl rfl (one_int_cells _ _ _) (intVals_oneCell _) hc3 hc4 (le_alloc _ _ hbw1) ?_)
      intro v4 w4 hown4 hgrow4 hnn
      have hnn' : ¬ v4 = .slice none 0 0 := by simpa using hnn
      obtain ⟨g4, cp4, hv4, hO4⟩ := ownZ_app hO1.1 hnn' hown4
      subst hv4
      have hO1a : OwnZ (w1.alloc (.cells #[.int .i64 x] 3)) w.heap.size g m cp ks := hO1.below ((Below.refl _ _).alloc (Nat.le_refl _) _)
      have hrga := HRG.out.alloc (.cells #[.int .i64 x] 3)
      have hne := ranges_ne hO1a hrga
      have hrg4 := hrga.kept hgrow4 (fun e => hne.1 (by simp [Value.ownBlock] at e; omega)) (fun e => hne.2 (by simp [Value.ownBlock] at e; omega))
      have hB4 : Below w.heap.size w w4 := (hB1.alloc hbw1 _).grown hgrow4 (le_alloc _ _ hbw1) (fun j hj => by simp [Value.ownBlock] at hj; have := hO1.lt; omega)
      have HO4 := Hid.mk' hO4
      have HR4 := Hid.mk' hrg4
      clear hown4 hgrow4 hnn hnn' hO4 hO1 hO1a hrga hne hB1 hrg4 HRG
      go_wp2_with (at_builtin; fail)
      go_roundw
      case rel => exact ⟨_, cnt1, g4, m + 1, cp4, ks ++ [x], HR4.out, rfl, HO4.out, HG1, by omega, hB4⟩
      case measure => rw [HR4.out.left_eq, HM0.out]; exact hlt

end Go.Proofs.YtijplooogplccaaGreat.ords

namespace Go.Proofs.YtijplooogplccaaGreat.ords
open Go Go.RowKit Go.Proofs.YtijplooogplccaaGreat.base Go.Proofs.YtijplooogplccaaGreat.pairs
open Go.Maps (Keyed keyOf_int_mk)
open Go.Sort (Holds)
set_option linter.unusedVariables false
set_option linter.unusedSimpArgs false

end Go.Proofs.YtijplooogplccaaGreat.ords

namespace Go.Proofs.YtijplooogplccaaGreat.recs
open Go Go.RowKit Go.Proofs.YtijplooogplccaaGreat.base Go.Proofs.YtijplooogplccaaGreat.pairs Go.Proofs.YtijplooogplccaaGreat.ords Go.Proofs.YtijplooogplccaaGreat.helps Go.Proofs.YtijplooogplccaaGreat.help Go.Proofs.YtijplooogplccaaGreat.lay
set_option linter.unusedVariables false
set_option linter.unusedSimpArgs false

end Go.Proofs.YtijplooogplccaaGreat.recs

namespace Go.Proofs.YtijplooogplccaaGreat.recs
open Go Go.RowKit Go.Proofs.YtijplooogplccaaGreat.base Go.Proofs.YtijplooogplccaaGreat.pairs Go.Proofs.YtijplooogplccaaGreat.ords Go.Proofs.YtijplooogplccaaGreat.helps Go.Proofs.YtijplooogplccaaGreat.help Go.Proofs.YtijplooogplccaaGreat.lay
set_option linter.unusedVariables false
set_option linter.unusedSimpArgs false

set_option maxRecDepth 100000 in
set_option maxHeartbeats 1000000 in
theorem eq_pairs (a a2 : Option Addr) (len cap len2 cap2 : Nat) (l l2 : List Pr) (w : World) (h : SlP w a len l) (h2 : SlP w a2 len2 l2) :
    Calls Tryz.prog 96 #[.slice a len cap, .slice a2 len2 cap2] w fun e w' => e = .returned (.bool (decide (l = l2))) ∧ ∃ n, w' = w.drewN n := by
  obtain ⟨hl, hm, _, hc⟩ := h
  obtain ⟨hl2, hm2, _, hc2⟩ := h2
  subst hl hl2
  unfold maxLen at hm hm2
  by_cases hne : l.length = l2.length
  · have hb : ((l.length : Int) == (l2.length : Int)) = true := by simp; omega
    go_enter Tryz.func96, Tryz.ntmps96
    go_wp2_with fail
    go_loopw [13] (fun i wr => ∃ k : Nat, k ≤ l.length ∧ i = .int .i64 k ∧ l.take k = l2.take k ∧ ∃ n, wr = w.drewN n) (fun i _ => l.length - (intOf i).toNat)
    case atStart => exact ⟨0, Nat.zero_le _, rfl, rfl, 0, rfl⟩
    case round =>
      obtain ⟨k, hk, rfl, htk, n, rfl⟩ := hrel
      by_cases hlt : k < l.length
      · obtain ⟨b, off, ha, hcl⟩ := hc (by omega)
        obtain ⟨b2, off2, ha2, hcl2⟩ := hc2 (by omega)
        subst ha ha2
        have hlt2 : k < l2.length := by omega
        have hi1 : (k : Int) < (l.length : Int) := by omega
        have hi2 : (k : Int) < (l2.length : Int) := by omega
        obtain ⟨c1, c2⟩ := hcl k hlt
        obtain ⟨c3, c4⟩ := hcl2 k hlt2
        by_cases e : l[k] = l2[k]
        · have HE := Hid.mk' (take_eqP htk hlt hlt2 e)
          rw [← e] at c3 c4
          clear hcl hcl2 hc hc2 htk hne e
          generalize l[k] = p at *
          go_wp2_with fail
          go_quiet (fail)
          go_wp2_with fail
          go_roundw
          case rel => exact ⟨k + 1, by omega, by go_num, HE.out, _, rfl⟩
          case measure => simp [intOf]; omega
        · have HE : Hid (¬ l = l2) := by
            show ¬ _
            rintro rfl; exact e rfl
          generalize l[k] = p at *
          generalize l2[k] = q at *
          clear hcl hcl2 hc hc2 htk hne
          by_cases e1 : p.1 = q.1
          · have hq := str_ne (fun e2 : p.2 = q.2 => e (Prod.ext e1 e2))
            rw [← e1] at c3
            generalize p.1 = p1 at *
            generalize p.2 = p2 at *
            generalize q.2 = q2 at *
            clear e e1
            go_wp2_with fail
            go_quiet (fail)
            go_wp2_with fail
            go_ret
            exact ⟨ret_bool (by symm; rw [decide_eq_false_iff_not]; exact HE.out), _, World.drewN_drewN _ _ _⟩
          · have hq := str_ne e1
            generalize p.1 = p1 at *
            generalize p.2 = p2 at *
            generalize q.1 = q1 at *
            generalize q.2 = q2 at *
            clear e e1
            go_wp2_with fail
            go_quiet (fail)
            go_wp2_with fail
            go_ret
            exact ⟨ret_bool (by symm; rw [decide_eq_false_iff_not]; exact HE.out), _, World.drewN_drewN _ _ _⟩
      · have e : k = l.length := by omega
        have hfin : l = l2 := by
          subst e
          rw [List.take_of_length_le (Nat.le_refl _), List.take_of_length_le (by omega)] at htk
          exact htk
        have HF := Hid.mk' hfin
        clear hfin htk
        go_wp2_with fail
        go_ret
        exact ⟨ret_bool (by symm; rw [decide_eq_true_iff]; exact HF.out), _, rfl⟩
  · have hb : ((l.length : Int) == (l2.length : Int)) = false := by simp; omega
    go_enter Tryz.func96, Tryz.ntmps96
    go_wp2
    go_ret
    exact ⟨ret_bool (by symm; rw [decide_eq_false_iff_not]; intro h; exact hne (by rw [h])), 0, rfl⟩
set_option maxRecDepth 100000 in
set_option maxHeartbeats 1000000 in
theorem eq_ops (a a2 : Option Addr) (len cap len2 cap2 : Nat) (l l2 : List Od) (w : World) (h : SlO w a len l) (h2 : SlO w a2 len2 l2) :
    Calls Tryz.prog 64 #[.slice a len cap, .slice a2 len2 cap2] w fun e w' => e = .returned (.bool (decide (l = l2))) ∧ ∃ n, w' = w.drewN n := by
  obtain ⟨hl, hm, _, hc⟩ := h
  obtain ⟨hl2, hm2, _, hc2⟩ := h2
  subst hl hl2
  unfold maxLen at hm hm2
  by_cases hne : l.length = l2.length
  · have hb : ((l.length : Int) == (l2.length : Int)) = true := by simp; omega
    go_enter Tryz.func64, Tryz.ntmps64
    go_wp2_with fail
    go_loopw [13] (fun i wr => ∃ k : Nat, k ≤ l.length ∧ i = .int .i64 k ∧ l.take k = l2.take k ∧ ∃ n, wr = w.drewN n) (fun i _ => l.length - (intOf i).toNat)
    case atStart => exact ⟨0, Nat.zero_le _, rfl, rfl, 0, rfl⟩
    case round =>
      obtain ⟨k, hk, rfl, htk, n, rfl⟩ := hrel
      by_cases hlt : k < l.length
      · obtain ⟨b, off, ha, hcl⟩ := hc (by omega)
        obtain ⟨b2, off2, ha2, hcl2⟩ := hc2 (by omega)
        subst ha ha2
        have hlt2 : k < l2.length := by omega
        have hi1 : (k : Int) < (l.length : Int) := by omega
        have hi2 : (k : Int) < (l2.length : Int) := by omega
        obtain ⟨c0, c1, c2⟩ := hcl k hlt
        obtain ⟨d0, d1, d2⟩ := hcl2 k hlt2
        by_cases e : l[k] = l2[k]
        · have HE := Hid.mk' (take_eqO htk hlt hlt2 e)
          rw [← e] at d0 d1 d2
          clear hcl hcl2 hc hc2 htk hne e
          generalize l[k] = p at *
          go_wp2_with fail
          go_quiet (fail)
          go_wp2_with fail
          go_roundw
          case rel => exact ⟨k + 1, by omega, by go_num, HE.out, _, rfl⟩
          case measure => simp [intOf]; omega
        · have HE : Hid (¬ l = l2) := by
            show ¬ _
            rintro rfl; exact e rfl
          generalize l[k] = p at *
          generalize l2[k] = q at *
          clear hcl hcl2 hc hc2 htk hne
          obtain ⟨p0, p1, p2⟩ := p
          obtain ⟨q0, q1, q2⟩ := q
          simp only [] at c0 c1 c2 d0 d1 d2
          by_cases e0 : p0 = q0
          · subst e0
            have h0 : (p0 == p0) = true := beq_self_eq_true _
            by_cases e1 : p1 = q1
            · subst e1
              have hq := str_ne (fun e2 : p2 = q2 => e (by rw [e2]))
              clear e
              go_wp2_with fail
              go_quiet (fail)
              go_wp2_with fail
              go_ret
              exact ⟨ret_bool (by symm; rw [decide_eq_false_iff_not]; exact HE.out), _, World.drewN_drewN _ _ _⟩
            · have hq := str_ne e1
              clear e e1
              go_wp2_with fail
              go_quiet (fail)
              go_wp2_with fail
              go_ret
              exact ⟨ret_bool (by symm; rw [decide_eq_false_iff_not]; exact HE.out), _, World.drewN_drewN _ _ _⟩
          · have h0 : (p0 == q0) = false := beq_eq_false_iff_ne.2 e0
            clear e e0
            go_wp2_with fail
            go_quiet (fail)
            go_wp2_with fail
            go_ret
            exact ⟨ret_bool (by symm; rw [decide_eq_false_iff_not]; exact HE.out), _, World.drewN_drewN _ _ _⟩
      · have e : k = l.length := by omega
        have hfin : l = l2 := by
          subst e
          rw [List.take_of_length_le (Nat.le_refl _), List.take_of_length_le (by omega)] at htk
          exact htk
        have HF := Hid.mk' hfin
        clear hfin htk
        go_wp2_with fail
        go_ret
        exact ⟨ret_bool (by symm; rw [decide_eq_true_iff]; exact HF.out), _, rfl⟩
  · have hb : ((l.length : Int) == (l2.length : Int)) = false := by simp; omega
    go_enter Tryz.func64, Tryz.ntmps64
    go_wp2
    go_ret
    exact ⟨ret_bool (by symm; rw [decide_eq_false_iff_not]; intro h; exact hne (by rw [h])), 0, rfl⟩
theorem i_idOk (id : Int) (w : World) :
    Calls Tryz.prog 94 #[.int .i64 id] w fun e w' => e = .returned (.bool (decide (0 ≤ id ∧ id ≤ 7))) ∧ w = w' := by
  by_cases h1 : 0 ≤ id
  · by_cases h2 : id ≤ 7
    · go_enter Tryz.func94, Tryz.ntmps94
      go_wp2
      go_ret
      exact ⟨ret_bool (by simp [h1, h2]), rfl⟩
    · go_enter Tryz.func94, Tryz.ntmps94
      go_wp2
      go_ret
      exact ⟨ret_bool (by simp [h1, h2]), rfl⟩
  · go_enter Tryz.func94, Tryz.ntmps94
    go_wp2
    go_ret
    exact ⟨ret_bool (by have h3 : ¬ 0 ≤ id := by omega
                        simp [h3]), rfl⟩
theorem eq_opsB (a a2 : Option Addr) (len cap len2 cap2 : Nat) (l l2 : List Od) (w : World) (h : SlO w a len l) (h2 : SlO w a2 len2 l2) :
    Calls Tryz.prog 64 #[.slice a len cap, .slice a2 len2 cap2] w fun e w' => e = .returned (.bool (decide (l = l2))) ∧ Below w.heap.size w w' := by
  refine (eq_ops a a2 len cap len2 cap2 l l2 w h h2).mono ?_
  rintro e w' ⟨rfl, n, rfl⟩
  exact ⟨rfl, below_drewN (Below.refl _ _) n⟩
set_option maxRecDepth 100000 in
set_option maxHeartbeats 2000000 in
theorem i_sameRec (x y : Rc) (pa qa : Option Addr) (pl pc ql qc : Nat) (w : World) (hx : SlO w pa pl x.2.2) (hy : SlO w qa ql y.2.2) :
    Calls Tryz.prog 98 #[.agg #[.int .i64 x.1, .int .i64 x.2.1, .slice pa pl pc], .agg #[.int .i64 y.1, .int .i64 y.2.1, .slice qa ql qc]] w fun e w' => e = .returned (.bool (decide (x = y))) ∧ Below w.heap.size w w' := by
  obtain ⟨W, hW⟩ : ∃ W, (w.alloc (.cells #[.int .i64 x.1, .int .i64 x.2.1, .slice pa pl pc] 133)).alloc (.cells #[.int .i64 y.1, .int .i64 y.2.1, .slice qa ql qc] 133) = W := ⟨_, rfl⟩
  have hB : Below w.heap.size w W := by rw [← hW]; exact ((Below.refl _ _).alloc (Nat.le_refl _) _).alloc (by simp) _
  have HE := Hid.mk' (eq_opsB pa qa pl pc ql qc x.2.2 y.2.2 W (hx.below hB) (hy.below hB))
  have HW := Hid.mk' hW
  obtain ⟨x1, x2, x3⟩ := x
  obtain ⟨y1, y2, y3⟩ := y
  simp only [] at HE HW
  clear hW hx hy
  by_cases e1 : x1 = y1
  · subst e1
    have hn : (x1 == x1) = true := by simp
    by_cases e2 : x2 = y2
    · subst e2
      have hf : (x2 == x2) = true := by simp
      have HD : Hid (decide ((x1, x2, x3) = (x1, x2, y3)) = decide (x3 = y3)) := by show _ = _; simp
      go_enter Tryz.func98, Tryz.ntmps98
      go_wp2_with fail
      rw [HW.out]
      refine HE.out.mono ?_
      rintro e w1 ⟨rfl, hb1⟩
      have hB1 := hB.trans (hb1.mono hB.size)
      clear HE HW hb1
      go_wp2_with fail
      go_ret
      rw [HD.out]
      exact ⟨rfl, hB1⟩
    · have hf : (x2 == y2) = false := beq_eq_false_iff_ne.2 e2
      have HD : Hid (decide ((x1, x2, x3) = (x1, y2, y3)) = false) := by show _ = _; simp [e2]
      clear e2
      go_enter Tryz.func98, Tryz.ntmps98
      go_wp2_with fail
      go_ret
      rw [HD.out, HW.out]
      exact ⟨rfl, hB⟩
  · have hn : (x1 == y1) = false := beq_eq_false_iff_ne.2 e1
    have HD : Hid (decide ((x1, x2, x3) = (y1, y2, y3)) = false) := by show _ = _; simp [e1]
    clear e1
    go_enter Tryz.func98, Tryz.ntmps98
    go_wp2_with fail
    go_ret
    rw [HD.out, HW.out]
    exact ⟨rfl, hB⟩
set_option maxRecDepth 100000 in
set_option maxHeartbeats 2000000 in
theorem eq_recs (a a2 : Option Addr) (len cap len2 cap2 : Nat) (l l2 : List Rc) (w : World) (h : SlR w a len l) (h2 : SlR w a2 len2 l2) :
    Calls Tryz.prog 97 #[.slice a len cap, .slice a2 len2 cap2, .func (.func 98) #[] #[]] w fun e w' => e = .returned (.bool (decide (l = l2))) ∧ Below w.heap.size w w' := by
  obtain ⟨hl, hm, hsm, hc⟩ := id h
  obtain ⟨hl2, hm2, hsm2, hc2⟩ := id h2
  subst hl hl2
  unfold maxLen at hm hm2
  by_cases hne : l.length = l2.length
  · have hb : ((l.length : Int) == (l2.length : Int)) = true := by simp; omega
    go_enter Tryz.func97, Tryz.ntmps97
    go_wp2_with fail
    go_loopw [17] (fun i wr => ∃ k : Nat, k ≤ l.length ∧ i = .int .i64 k ∧ l.take k = l2.take k ∧ Below w.heap.size w wr) (fun i _ => l.length - (intOf i).toNat)
    case atStart => exact ⟨0, Nat.zero_le _, rfl, rfl, Below.refl _ _⟩
    case round =>
      obtain ⟨k, hk, rfl, htk, hB⟩ := hrel
      by_cases hlt : k < l.length
      · obtain ⟨b, off, ha, hcl⟩ := hc (by omega)
        obtain ⟨b2, off2, ha2, hcl2⟩ := hc2 (by omega)
        subst ha ha2
        have hlt2 : k < l2.length := by omega
        have hki : (k : Int) < (l.length : Int) := by omega
        have hki2 : (k : Int) < (l2.length : Int) := by omega
        have i1 := h.at k hlt
        have i2 := h2.at k hlt2
        obtain ⟨c1, c2, pa, pl, pc, c3, hS1, _⟩ := i1.below hB
        obtain ⟨c4, c5, qa, ql, qc, c6, hS2, _⟩ := i2.below hB
        have hg1 := World.block_lt_of_cell? _ _ c1
        have hg2 := World.block_lt_of_cell? _ _ c4
        obtain ⟨W1, hW1⟩ : ∃ W1, (wr.alloc (.cells #[.int .i64 l[k].1, .int .i64 l[k].2.1, .slice pa pl pc] 133)) = W1 := ⟨_, rfl⟩
        have hb1 : Below wr.heap.size wr W1 := by rw [← hW1]; exact (Below.refl _ _).alloc (Nat.le_refl _) _
        obtain ⟨W2, hW2⟩ : ∃ W2, (W1.alloc (.cells #[.int .i64 l2[k].1, .int .i64 l2[k].2.1, .slice qa ql qc] 133)) = W2 := ⟨_, rfl⟩
        have hb2 : Below W1.heap.size W1 W2 := by rw [← hW2]; exact (Below.refl _ _).alloc (Nat.le_refl _) _
        have hB2 := (hB.trans (hb1.mono hB.size)).trans (hb2.mono (Nat.le_trans hB.size hb1.size))
        have HSA := Hid.mk' (i_sameRec l[k] l2[k] pa qa pl pc ql qc W2 ((hS1.below hb1).below hb2) ((hS2.below hb1).below hb2))
        have HE1 : Hid (l[k] = l2[k] → l.take (k + 1) = l2.take (k + 1)) := fun e => take_eqR htk hlt hlt2 e
        have HE2 : Hid (¬ l[k] = l2[k] → ¬ l = l2) := fun e e2 => e (by subst e2; rfl)
        have HW : Hid ((wr.alloc (.cells #[.int .i64 l[k].1, .int .i64 l[k].2.1, .slice pa pl pc] 133)).alloc (.cells #[.int .i64 l2[k].1, .int .i64 l2[k].2.1, .slice qa ql qc] 133) = W2) := by show _ = _; rw [hW1, hW2]
        clear hcl hcl2 hc hc2 i1 i2 hsm hsm2 h h2 hS1 hS2 htk hne hW1 hW2 hb1 hb2
        cases hd : decide (l[k] = l2[k]) with
        | true =>
          rw [hd] at HSA
          have HE := Hid.mk' (HE1.out (of_decide_eq_true hd))
          clear hd HE1 HE2
          generalize l[k] = p at *
          generalize l2[k] = q at *
          go_wp2_with fail
          rw [HW.out]
          refine HSA.out.mono ?_
          rintro e w5 ⟨rfl, hb5⟩
          have hB5 := hB2.trans (hb5.mono hB2.size)
          clear HSA HW
          go_wp2_with fail
          go_roundw
          case rel => exact ⟨k + 1, by omega, by go_num, HE.out, hB5⟩
          case measure => simp [intOf]; omega
        | false =>
          rw [hd] at HSA
          have HE := Hid.mk' (HE2.out (of_decide_eq_false hd))
          clear hd HE1 HE2
          generalize l[k] = p at *
          generalize l2[k] = q at *
          go_wp2_with fail
          rw [HW.out]
          refine HSA.out.mono ?_
          rintro e w5 ⟨rfl, hb5⟩
          have hB5 := hB2.trans (hb5.mono hB2.size)
          clear HSA HW
          go_wp2_with fail
          go_ret
          exact ⟨ret_bool (by symm; rw [decide_eq_false_iff_not]; exact HE.out), hB5⟩
      · have e : k = l.length := by omega
        have hfin : l = l2 := by
          subst e
          rw [List.take_of_length_le (Nat.le_refl _), List.take_of_length_le (by omega)] at htk
          exact htk
        have HF := Hid.mk' hfin
        clear hfin htk
        go_wp2_with fail
        go_ret
        exact ⟨ret_bool (by symm; rw [decide_eq_true_iff]; exact HF.out), hB⟩
  · have hb : ((l.length : Int) == (l2.length : Int)) = false := by simp; omega
    go_enter Tryz.func97, Tryz.ntmps97
    go_wp2
    go_ret
    exact ⟨ret_bool (by symm; rw [decide_eq_false_iff_not]; intro h; exact hne (by rw [h])), Below.refl _ _⟩
end Go.Proofs.YtijplooogplccaaGreat.recs

namespace Go.Proofs.YtijplooogplccaaGreat.wos
open Go Go.RowKit Go.Proofs.YtijplooogplccaaGreat.base Go.Proofs.YtijplooogplccaaGreat.pairs Go.Proofs.YtijplooogplccaaGreat.ords Go.Proofs.YtijplooogplccaaGreat.lay
set_option linter.unusedVariables false
set_option linter.unusedSimpArgs false

def begZ (l : List Orr) (tx : Int) : Int := match l.findIdx? fun o => decide (o.1 = tx) with
  | none => -1
  | some k => (k : Int)
theorem beg_hit {l : List Orr} {tx : Int} {k : Nat} (hk : k < l.length) (h : l[k].1 = tx) (hno : ∀ j (hj : j < k) (hl : j < l.length), l[j].1 ≠ tx) : begZ l tx = (k : Int) ∧ firstO l tx = some l[k] := by
  constructor
  · unfold begZ
    rw [show l.findIdx? (fun o => decide (o.1 = tx)) = some k from by
      rw [List.findIdx?_eq_some_iff_getElem]
      exact ⟨hk, by simp [h], fun j hj => by simp [hno j hj (by omega)]⟩]
  · unfold firstO
    rw [List.find?_eq_some_iff_getElem]
    exact ⟨by simp [h], k, hk, rfl, fun j hj => by simp [hno j hj (by omega)]⟩
theorem beg_none {l : List Orr} {tx : Int} (hno : ∀ j (hl : j < l.length), l[j].1 ≠ tx) : begZ l tx = -1 ∧ firstO l tx = none := by
  have h : ∀ x ∈ l, x.1 ≠ tx := fun x hx => by
    obtain ⟨j, hj, rfl⟩ := List.getElem_of_mem hx
    exact hno j hj
  constructor
  · unfold begZ
    rw [List.findIdx?_eq_none_iff.2 (fun x hx => by simp [h x hx])]
  · unfold firstO
    rw [List.find?_eq_none]
    exact fun x hx => by simp [h x hx]
theorem beg_cases (l : List Orr) (tx : Int) : (begZ l tx = -1 ∧ firstO l tx = none) ∨ ∃ k, ∃ hk : k < l.length, begZ l tx = (k : Int) ∧ firstO l tx = some l[k] := by
  cases e : l.findIdx? fun o => decide (o.1 = tx) with
  | none =>
    refine .inl (beg_none fun j hl h => ?_)
    have := List.findIdx?_eq_none_iff.1 e _ (List.getElem_mem hl)
    simp [h] at this
  | some k =>
    obtain ⟨hk, h1, h2⟩ := List.findIdx?_eq_some_iff_getElem.1 e
    exact .inr ⟨k, hk, beg_hit hk (by simpa using h1) fun j hj hl h3 => by have := h2 j hj; simp [h3] at this⟩
set_option maxRecDepth 100000 in
set_option maxHeartbeats 2000000 in
theorem spec_l12Begun (ja : Option Addr) (jn jc : Nat) (la : Option Addr) (ln lc : Nat) (sa : Option Addr) (sn sc : Nat) (na : Option Addr) (nn nc : Nat) (oa : Option Addr) (on oc : Nat) (ba : Option Addr) (bn bc : Nat) (x : Wo) (tx : Int) (w : World) (h : SeeWo w ja jn jc la ln lc sa sn sc na nn nc oa on oc ba bn bc x) :
    Calls Tryz.prog 48 #[.agg #[.int .i64 x.1.1, .int .i64 x.1.2.1, .int .i64 x.1.2.2.1, .slice ja jn jc, .slice la ln lc, .int .i64 x.1.2.2.2.2.2, .slice sa sn sc, .slice na nn nc, .slice oa on oc, .slice ba bn bc], .int .i64 tx] w fun e w' => e = .returned (.int .i64 (begZ x.2.2.2.2 tx)) ∧ Below w.heap.size w w' := by
  obtain ⟨W, hW⟩ : ∃ W, w.alloc (.cells #[.int .i64 x.1.1, .int .i64 x.1.2.1, .int .i64 x.1.2.2.1, .slice ja jn jc, .slice la ln lc, .int .i64 x.1.2.2.2.2.2, .slice sa sn sc, .slice na nn nc, .slice oa on oc, .slice ba bn bc] 41) = W := ⟨_, rfl⟩
  have hB : Below w.heap.size w W := by rw [← hW]; exact below_make
  have hX : BoxIn w.heap.size 41 [] [.int .i64 x.1.1, .int .i64 x.1.2.1, .int .i64 x.1.2.2.1, .slice ja jn jc, .slice la ln lc, .int .i64 x.1.2.2.2.2.2, .slice sa sn sc, .slice na nn nc, .slice oa on oc, .slice ba bn bc] [] W := by rw [← hW]; exact boxIn_new w _ _
  have hL := h.begun.below hB
  have hm := h.begun.2.1
  unfold maxLen at hm
  have HLL := Hid.mk' h.begun.1
  have HW := Hid.mk' hW
  clear hW h
  go_enter Tryz.func48, Tryz.ntmps48
  go_wp2_with fail
  rw [HW.out]
  go_loopw [5] (fun i wr => ∃ k : Nat, k ≤ bn ∧ i = .int .i64 (k : Int) ∧ Below W.heap.size W wr ∧ ∀ j (hj : j < k) (hl : j < x.2.2.2.2.length), x.2.2.2.2[j].1 ≠ tx) (fun i _ => bn - (intOf i).toNat)
  case atStart => exact ⟨0, Nat.zero_le _, rfl, Below.refl _ _, fun j hj => absurd hj (Nat.not_lt_zero _)⟩
  case round =>
    obtain ⟨k, hk, rfl, hb, hno⟩ := hrel
    have HNO := Hid.mk' hno
    have hBw := hB.trans (hb.mono hB.size)
    obtain ⟨a0, a1, a2, a3, a4, a5, a6, a7, a8, a9⟩ := cells10 (hX.below hb)
    clear hno a0 a1 a2 a3 a4 a5 a6 a7 a8
    by_cases hlt : k < bn
    · have hki : (k : Int) < (bn : Int) := by omega
      have hkl : k < x.2.2.2.2.length := by have := HLL.out; omega
      obtain ⟨b, off, hba⟩ := cos.slg_some hL (by omega)
      subst hba
      obtain ⟨c0, oa', ol', oc', c1, _, _⟩ := ord_at (hL.below hb) k hkl
      have HP : Hid ((x.2.2.2.2[k].1 = tx → begZ x.2.2.2.2 tx = (k : Int)) ∧ (x.2.2.2.2[k].1 ≠ tx → ∀ j (hj : j < k + 1) (hl : j < x.2.2.2.2.length), x.2.2.2.2[j].1 ≠ tx)) := ⟨fun e => (beg_hit hkl e HNO.out).1, fun e j hj hl => by
        by_cases hjk : j = k
        · subst hjk; exact e
        · exact HNO.out j (by omega) hl⟩
      generalize x.2.2.2.2[k].1 = t at *
      clear c1
      by_cases e1 : t = tx
      · have d1 : (t == tx) = true := beq_iff_eq.2 e1
        have HT := Hid.mk' (HP.out.1 e1)
        clear HP e1
        go_wp2_with fail
        go_ret
        exact ⟨ret_int HT.out.symm, hBw⟩
      · have d1 : (t == tx) = false := beq_eq_false_iff_ne.2 e1
        have HF := Hid.mk' (HP.out.2 e1)
        clear HP e1
        go_wp2_with fail
        go_roundw
        case rel => exact ⟨k + 1, by omega, by go_num, hb, HF.out⟩
        case measure => simp [intOf]; omega
    · have hki : ¬ (k : Int) < (bn : Int) := by omega
      have HT : Hid (begZ x.2.2.2.2 tx = -1) := (beg_none fun j hl => HNO.out j (by have := HLL.out; omega) hl).1
      go_wp2_with fail
      go_ret
      exact ⟨ret_int HT.out.symm, hBw⟩
structure SmallB (x : Wo) : Prop where
  ops : ∀ y ∈ x.2.2.2.2, y.2.length ≤ 1048576 ∧ ∀ p ∈ y.2, p.2.1.size ≤ 1048576
  n : x.2.2.2.2.length ≤ 1048576
end Go.Proofs.YtijplooogplccaaGreat.wos
