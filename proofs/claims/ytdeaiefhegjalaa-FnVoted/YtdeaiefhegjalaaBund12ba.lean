/- The program's orders by shards: a map of rows, one shard's row, and the shards in order. Plain mathematics of words: what is right, their bytes, and that these come back. -/
import Derived.Test.YtdeaiefhegjalaaBund12ay
import Derived.Test.YtdeaiefhegjalaaBund12az
import Derived.Test.YtdeaiefhegjalaaBund12ak
import Derived.Sort.OwnSortedInts
import Derived.Test.YtdeaiefhegjalaaBund12af
namespace Go.Proofs.Ytdeaiefhegjalaa.ords
open Go Go.RowKit Go.Proofs.Ytdeaiefhegjalaa.base Go.Proofs.Ytdeaiefhegjalaa.pairs
open Go.Maps (Keyed keyOf_int_mk)
open Go.Sort (Holds)
set_option linter.unusedVariables false
set_option linter.unusedSimpArgs false

theorem box_cellO (w w' : World) (z : Int) (x y : ByteArray) (hB : Below (w.alloc (.cells #[.int .i64 z, .string x, .string y] 76)).heap.size (w.alloc (.cells #[.int .i64 z, .string x, .string y] 76)) w') :
    w'.cell? ⟨w.heap.size, 0, none⟩ = some (.int .i64 z) ∧ w'.cell? ⟨w.heap.size, 1, none⟩ = some (.string x) ∧ w'.cell? ⟨w.heap.size, 2, none⟩ = some (.string y) := by
  have hlt : w.heap.size < (w.alloc (.cells #[.int .i64 z, .string x, .string y] 76)).heap.size := by simp
  refine ⟨(hB.cell (p := ⟨w.heap.size, 0, none⟩) hlt).trans ?_, (hB.cell (p := ⟨w.heap.size, 1, none⟩) hlt).trans ?_, (hB.cell (p := ⟨w.heap.size, 2, none⟩) hlt).trans ?_⟩
  · simp
  · simp
  · simp
theorem opsFor_upd (n : Int) (l : List Od) (k : Nat) (h : k < l.length) : upd (fun s => opsFor s n (l.take k)) (shardOf l[k].2.1 n) (opsFor (shardOf l[k].2.1 n) n (l.take k) ++ [l[k]]) = fun s => opsFor s n (l.take (k + 1)) := by
  funext t
  show upd _ _ _ _ = List.filter _ _
  rw [filter_snocO (fun o => decide (shardOf o.2.1 n = t)) l k h]
  by_cases e : t = shardOf l[k].2.1 n
  · subst e
    rw [upd_same]; simp [opsFor]
  · rw [upd_other e]
    have e' : ¬ shardOf l[k].2.1 n = t := fun x => e x.symm
    simp [opsFor, e']
theorem shardOf_wf (key : ByteArray) (n : Int) : (Lit.int .i64 (shardOf key n)).wf = true := by
  have h1 := (shardOf_range key n).1
  have h2 := shardOf_lt key n
  exact WalkArith.wf_i64 (by omega)
theorem opsFor_le (s n : Int) (l : List Od) : (opsFor s n l).length ≤ l.length := List.length_filter_le _ _

set_option maxRecDepth 100000 in
set_option maxHeartbeats 2000000 in
theorem i_byShard (b off len cap : Nat) (l : List Od) (n : Int) (w : World) (h : SlO w (some ⟨b, off, none⟩) len l) (hks : ∀ p ∈ l, p.2.1.size ≤ 1099511627776) (hsz : len ≤ 1099511627776) (hn : (Lit.int .i64 n).wf = true) :
    Calls Try.prog 26 #[.slice (some ⟨b, off, none⟩) len cap, .int .i64 n] w fun e w' =>
      e = .returned (.map (some w.heap.size)) ∧ Groups w' w.heap.size (w.heap.size + 1) len (fun s => opsFor s n l) ∧ Below w.heap.size w w' := by
  obtain ⟨i0, hi, hz0, hz1, hz2⟩ := info_parts infoO
  have hl := h.1
  have hsm := h.2.2.1
  have hmm := @run_makeMap Try.prog
  subst hl
  go_enter Try.func26, Try.ntmps26
  go_wp2_with (at_builtin; fail)
  go_loopw [12] (fun i wr => ∃ k : Nat, k ≤ l.length ∧ i = .int .i64 (k : Int) ∧ Groups wr w.heap.size (w.heap.size + 1) k (fun s => opsFor s n (l.take k)) ∧ Below w.heap.size w wr) (fun i _ => l.length - (intOf i).toNat)
  case atStart => exact ⟨0, Nat.zero_le _, rfl, groups_made w, (Below.refl _ _).alloc (Nat.le_refl _) _⟩
  case round =>
    obtain ⟨k, hk, rfl, hT, hB⟩ := hrel
    clear hmm
    by_cases hlt : k < l.length
    · obtain ⟨c0, c1, c2⟩ := (h.below hB).cells k hlt
      have hki : (k : Int) < (l.length : Int) := by omega
      have hpk := hsm _ (List.getElem_mem hlt)
      have hks' := hks _ (List.getElem_mem hlt)
      have HU := Hid.mk' (opsFor_upd n l k hlt)
      have hfl := opsFor_le (shardOf l[k].2.1 n) n (l.take k)
      have hlk : (l.take k).length ≤ k := List.length_take_le _ _
      have hsw := shardOf_wf l[k].2.1 n
      have hba : Below wr.heap.size wr (wr.alloc (.cells #[.int .i64 l[k].1, .string l[k].2.1, .string l[k].2.2] 76)) := (Below.refl _ _).alloc (Nat.le_refl _) _
      have HC := Hid.mk' (impl_shardOf l[k].2.1 n (wr.alloc (.cells #[.int .i64 l[k].1, .string l[k].2.1, .string l[k].2.2] 76)) hks' hn)
      generalize shardOf l[k].2.1 n = sh at *
      generalize l[k] = p at *
      go_wp2_with (at_builtin; fail)
      refine HC.out.mono ?_
      rintro e w3 ⟨rfl, hb3⟩
      obtain ⟨d0, d1, d2⟩ := box_cellO wr w3 p.1 p.2.1 p.2.2 hb3
      have hX3 : Below wr.heap.size wr w3 := hba.trans (hb3.mono hba.size)
      have hB3 : Below w.heap.size w w3 := hB.trans (hX3.mono hB.size)
      have hT3 := hT.below hX3
      have hsz3 : w.heap.size + 1 ≤ w3.heap.size := hT3.lt
      clear HC hb3 hX3 hB hT c0 c1 c2 hba
      go_wp2_with (at_lookup; refine wpList_look_groups _ rfl _ _ rfl rfl rfl hT3 hsw (by unfold maxLen; omega) ?_)
      intro v hown hsmv hback
      have hc3 : (opsFor sh n (l.take k)).length + 1 ≤ maxLen := by unfold maxLen; omega
      have hc4 : ((opsFor sh n (l.take k)).length + 1) * 40 ≤ 140737488355328 := by omega
      have HT3 := Hid.mk' hT3
      have HBK := Hid.mk' hback
      have HSM : Hid (∀ q ∈ opsFor sh n (l.take k), smallO q) := fun q hq => hsmv q.1 q.2.1 q.2.2 hq
      clear hback hT3 hsmv
      go_wp2_with (at_builtin; refine wpList_append_own_at _ rfl (.tmp 24) (.tmp 26) 34 rfl (w.heap.size + 1) 76 i0 (.agg #[.int .i64 0, .string ⟨#[]⟩, .string ⟨#[]⟩]) 3 40 Try.underlying34 hi hz0 hz1 hz2 rfl (by decide) _ _ _ rfl (hown.alloc _) ⟨w3.heap.size, 0, none⟩ 1 1 (ordVals [p]) rfl rfl (one_ord_cells _ _ _) (ordVals_oneCell _) hc3 hc4 (le_alloc _ _ hsz3) ?_)
      intro v4 w4 hown4 hgrow4 hnn hloc
      have hnn' : ¬ v4 = .slice none 0 0 := by simpa using hnn
      obtain ⟨g4, cp4, hv4, hO4⟩ := ownO_app rfl HSM.out hpk hnn' hown4
      subst hv4
      have hgr4 : w3.grownBy w4 v.ownBlock := World.grownBy.andThen ((World.grownBy_alloc w3 _ none).but v.ownBlock) hgrow4 (fun j hj => Or.inr hj)
      have hloc4 : some g4 = v.ownBlock ∨ w3.heap.size ≤ g4 := by
        rcases hloc with h1 | h1
        · exact Or.inl h1
        · simp [Value.ownBlock] at h1; exact Or.inr (by omega)
      have hB4 : Below w.heap.size w w4 := hB3.grown hgr4 hB3.size (fun j hj => by have := (hown.lt j hj).1; omega)
      clear hown hown4 hgrow4 hnn hnn' hloc hB3 HT3
      go_wp2_with (at_mapUpdate; refine wpList_store_back _ rfl _ _ _ rfl HBK.out rfl rfl rfl hgr4 hO4 (by simp) hloc4 ?_)
      intro w5 hT5 hgrow5
      rw [HU.out] at hT5
      have hB5 : Below w.heap.size w w5 := hB4.grown hgrow5 hB4.size (fun j hj => by cases hj; exact Nat.le_refl _)
      have HT5 := Hid.mk' hT5
      clear hgrow5 hB4 hT5 hO4 hgr4 hloc4 HBK
      go_wp2_with (at_builtin; fail)
      go_roundw
      case rel => exact ⟨k + 1, by omega, by go_num, HT5.out, hB5⟩
      case measure => simp [intOf]; omega
    · have HE : Hid (l.take k = l) := List.take_of_length_le (by omega)
      have hkl : k = l.length := by omega
      rw [HE.out] at hT
      go_wp2_with (at_builtin; fail)
      go_ret
      subst hkl
      exact ⟨rfl, hT, hB⟩

theorem append_nil_arg (w : World) (g : Nat) : (Builtin.append_ #[34, 34] 34 #[.slice (some ⟨g, 0, none⟩) 0 0, .slice none 0 0]).run Try.prog w = .ok (.slice (some ⟨g, 0, none⟩) 0 0) w := by kernel_rfl


/-! ### the shards that have any, in order -/
theorem OwnZ.obj {w : World} {base g n cap : Nat} {zs : List Int} (h : OwnZ w base g n cap zs) : ∃ cur e, w.heap[g]? = some (.cells cur e (0, 0)) := by
  rcases h.2.2 with ⟨h', _⟩ | ⟨g', cap', cur, h', _, hg, _⟩
  · simp at h'
  · simp only [Value.slice.injEq, Option.some.injEq, Addr.mk.injEq, and_true, true_and] at h'
    obtain ⟨rfl, rfl⟩ := h'
    exact ⟨cur, _, hg⟩
theorem ranges_ne {w : World} {base g m cap b r n cnt : Nat} {zs : List Int} {D : DataW Unit} {left : Lit → Bool} (h : OwnZ w base g m cap zs) (hr : w.ranges Try.prog 3 noR b r n D left cnt) : g ≠ b ∧ g ≠ r := by
  obtain ⟨cur, e, hg⟩ := h.obj
  obtain ⟨es, clock, since, seen, c0, hb, _, _, _, hit, _⟩ := hr
  refine ⟨fun x => ?_, fun x => ?_⟩
  · rw [x, hb] at hg; cases hg
  · rw [x, hit] at hg; cases hg
/-- the keys that have come -/
def Coll (D : DataW Unit) (left : Lit → Bool) (ks : List Int) : Prop :=
  ks.Nodup ∧ (∀ s ∈ ks, (Lit.int .i64 s).wf = true) ∧ ∀ s, (Lit.int .i64 s).wf = true → (s ∈ ks ↔ (Maps.has D (.int .i64 s) = true ∧ left (.int .i64 s) = false))
theorem Coll.start (D : DataW Unit) : Coll D (Maps.has D) [] := ⟨List.nodup_nil, fun s h => absurd h List.not_mem_nil, fun s _ => by cases Maps.has D (.int .i64 s) <;> simp⟩
theorem Coll.step {D : DataW Unit} {left : Lit → Bool} {ks : List Int} (h : Coll D left ks) {x : Int} (hx : (Lit.int .i64 x).wf = true) (hl : left (.int .i64 x) = true) (hh : Maps.has D (.int .i64 x) = true) : Coll D (fun z => left z && !z.sameKey (.int .i64 x)) (ks ++ [x]) := by
  obtain ⟨h1, h2, h3⟩ := h
  have hnew : x ∉ ks := fun hm => by have := ((h3 x hx).1 hm).2; rw [hl] at this; cases this
  refine ⟨List.nodup_append.2 ⟨h1, by simp, fun a ha b hb => by simp at hb; subst hb; exact fun e => hnew (e ▸ ha)⟩, fun s hs => ?_, fun s hs => ?_⟩
  · rcases List.mem_append.1 hs with h4 | h4
    · exact h2 s h4
    · simp at h4; subst h4; exact hx
  · by_cases e : s = x
    · subst e; simp [hh, Lit.sameKey]
    · simp [h3 s hs, e, Lit.sameKey]
theorem Coll.sorted {D : DataW Unit} {left : Lit → Bool} {ks : List Int} (h : Coll D left ks) (hl : ∀ kl, left kl = false) {n : Int} {l : List Od} (hD : ∀ s, (Lit.int .i64 s).wf = true → (Maps.has D (.int .i64 s) = true ↔ opsFor s n l ≠ [])) : ks.mergeSort (fun x y => decide (x ≤ y)) = shardsOf n l := by
  obtain ⟨h1, h2, h3⟩ := h
  have hp : (ks.mergeSort (fun x y => decide (x ≤ y))).Perm ks := List.mergeSort_perm ks _
  have hs : (ks.mergeSort (fun x y => decide (x ≤ y))).Pairwise (fun a b => (decide (a ≤ b)) = true) := List.pairwise_mergeSort (le := fun x y : Int => decide (x ≤ y)) (fun a b c h1 h2 => by simp at *; omega) (fun a b => by simp; omega) ks
  have hn := hp.nodup_iff.2 h1
  refine asc_ext ?_ (shards_asc n l) fun x => ?_
  · unfold Asc
    refine (hs.and hn).imp ?_
    rintro a b ⟨h4, h5⟩
    simp at h4
    omega
  · rw [hp.mem_iff, shards_mem]
    constructor
    · intro hx
      have hw := h2 x hx
      have := (hD x hw).1 ((h3 x hw).1 hx).1
      obtain ⟨o, ho⟩ := List.exists_mem_of_ne_nil _ this
      obtain ⟨ho1, ho2⟩ := List.mem_filter.1 ho
      exact ⟨o, ho1, by simpa using ho2⟩
    · rintro ⟨o, ho, rfl⟩
      have hw := shardOf_wf o.2.1 n
      refine (h3 _ hw).2 ⟨(hD _ hw).2 fun e => ?_, hl _⟩
      have : o ∈ opsFor (shardOf o.2.1 n) n l := List.mem_filter.2 ⟨ho, by simp⟩
      rw [e] at this
      exact absurd this List.not_mem_nil
theorem ownZ_sorted {w : World} {base g m cp nn : Nat} {os : Array Obj} {ks : List Int} (h : OwnZ w base g m cp ks) :
    OwnZ (Go.Sort.grow (Go.Sort.putRow (Value.int .i64) (Go.Sort.ahead w nn) g 0 (ks.mergeSort fun x y => decide (x ≤ y)).toArray) os) base g m cp (ks.mergeSort fun x y => decide (x ≤ y)) ∧
    w.grownBy (Go.Sort.grow (Go.Sort.putRow (Value.int .i64) (Go.Sort.ahead w nn) g 0 (ks.mergeSort fun x y => decide (x ≤ y)).toArray) os) (some g) := by
  have hl := h.1
  have hl2 : (ks.mergeSort fun x y => decide (x ≤ y)).length = ks.length := List.length_mergeSort ks
  rcases h.2.2 with ⟨h', _⟩ | ⟨g', cap', cur, h', hbase, hb, h1, h2, h3, h4⟩
  · simp at h'
  · simp only [Value.slice.injEq, Option.some.injEq, Addr.mk.injEq, and_true, true_and] at h'
    obtain ⟨rfl, rfl⟩ := h'
    subst hl
    exact ⟨⟨hl2, ownsRow_sortedI hl2 hbase hb h1 h2 h3⟩, grownBy_sortedI _⟩
theorem ownZ_holds {w : World} {base g m cp : Nat} {ks : List Int} (h : OwnZ w base g m cp ks) : Holds (Value.int .i64) w g 0 ks.toArray := by
  have hl := h.1
  rcases h.2.2 with ⟨h', _⟩ | ⟨g', cap', cur, h', hbase, hb, h1, h2, h3, h4⟩
  · simp at h'
  · simp only [Value.slice.injEq, Option.some.injEq, Addr.mk.injEq, and_true, true_and] at h'
    obtain ⟨rfl, rfl⟩ := h'
    subst hl
    exact holds_of_blockI hb (by simpa [intVals] using h4)
theorem size_has {w : World} {B n : Nat} {D : DataW Unit} (h : w.ownsMap Try.prog 3 noR B n D) : Maps.size D ≤ n := by
  obtain ⟨es, clock, hb, F, hs, rfl⟩ := h
  rw [Maps.size_eq, length_sorted]
  simpa using hs

/-- the next key, at its operation -/
theorem wpList_next_key (w : World) {ops : Array Oper} {rest : List Oper} {o : Oper} {a : Act} {Q : Exit → Act → World → Prop} (hg : o.guard = none) (it : Operand) (hop : o.op = Op.next it false) (b r n : Nat) (D : DataW Unit) (left : Lit → Bool) (cnt : Nat)
    (hit : a.eval it = .pointer (some ⟨r, 0, none⟩)) (h : w.ranges Try.prog 3 noR b r n D left cnt)
    (hDone : (∀ kl, left kl = false) → wpList Try.prog ops Q rest (a.put o.dst (.tuple #[.bool false])) w)
    (hMore : ∀ (x : Int) (v : Value) (w' : World) (cnt' : Nat), (Lit.int .i64 x).wf = true → left (.int .i64 x) = true → Maps.has D (.int .i64 x) = true → Hid (w'.ranges Try.prog 3 noR b r n D (fun z => left z && !z.sameKey (.int .i64 x)) cnt') → cnt' < cnt →
      w.grownBy w' (some r) → (Instr.entry (.pointer (some ⟨r, 0, none⟩))).run Try.prog w' = .ok (.tuple #[.int .i64 x, v]) w' → wpList Try.prog ops Q rest (a.put o.dst (.tuple #[.bool true, .int .i64 x, v])) w') :
    wpList Try.prog ops Q (o :: rest) a w :=
  wpList_next_ranges w hg it hop 3 intLaw noR (Value.int .i64) (fun v : Value => v) (fun key kl hkey => by obtain ⟨x, rfl, _⟩ := Maps.keyOf_int_inv Try.underlying3 hkey; exact ⟨x, rfl⟩) (fun v y hv => ⟨v, rfl⟩) b r n D left cnt hit h (fun _ hl => hDone hl)
    (fun x c kl y w' cnt' hkey hlk hv hat hrg hlt hgr hsz hen => by
      obtain ⟨x', ex, rfl, hwx⟩ := Maps.keyOf_int_inv Try.underlying3 hkey
      cases ex
      exact hMore x c w' cnt' hwx hlk (Maps.has_true_of_atKey hat) hrg hlt hgr hen)

set_option maxRecDepth 100000 in
set_option maxHeartbeats 2000000 in
theorem impl_shardsOf (b off len cap : Nat) (l : List Od) (n : Int) (w : World) (h : SlO w (some ⟨b, off, none⟩) len l) (hks : ∀ p ∈ l, p.2.1.size ≤ 1099511627776) (hsz : len ≤ 1099511627776) (hn : (Lit.int .i64 n).wf = true) :
    Calls Try.prog 10 #[.slice (some ⟨b, off, none⟩) len cap, .int .i64 n] w fun e w' =>
      ∃ g' n' cap', e = .returned (.slice (some ⟨g', 0, none⟩) n' cap') ∧ OwnZ w' w.heap.size g' n' cap' (shardsOf n l) ∧ Below w.heap.size w w' := by
  obtain ⟨i0, hi, hz0, hz1, hz2⟩ := info_parts infoZ
  have hba : Below w.heap.size w (w.alloc (.cells #[] 3)) := (Below.refl _ _).alloc (Nat.le_refl _) _
  have hO1 := ownZ_made w w.heap.size (Nat.le_refl _)
  have hC := i_byShard b off len cap l n _ (h.below hba) hks hsz hn
  have hsz1 : (w.alloc (.cells #[] 3)).heap.size = w.heap.size + 1 := by simp
  rw [hsz1] at hC
  have HC := Hid.mk' hC
  clear hC hsz1
  go_enter Try.func10, Try.ntmps10
  go_wp2_with (at_builtin; fail)
  refine HC.out.mono ?_
  rintro e w2 ⟨rfl, hT, hb2⟩
  have hb2' : Below (w.alloc (.cells #[] 3)).heap.size (w.alloc (.cells #[] 3)) w2 := hb2.mono (by simp)
  have hB2 : Below w.heap.size w w2 := hba.trans (hb2'.mono hba.size)
  have hO2 := hO1.below hb2'
  have hbs := hB2.size
  obtain ⟨D, hown, hIs, hD⟩ := hT.owns
  have HD := Hid.mk' hD
  have hsD := size_has hown
  clear HC hb2 hb2' hO1 hba hT hD hIs
  go_wp2_with (at_range; refine wpList_range_own _ rfl _ 59 rfl 3 34 intLaw Try.underlying59 noR (w.heap.size + 1) len D rfl hown ?_)
  intro w3 hrg3 hg3 hs3
  have hO3 := hO2.grown hg3 (by simp)
  have hB3 : Below w.heap.size w w3 := hB2.grown hg3 hbs (fun j hj => by cases hj)
  have hr3 : w.heap.size ≤ w2.heap.size := hbs
  generalize w2.heap.size = rr at *
  clear hO2 hB2 hown hg3 hbs
  go_wp2_with (at_builtin; fail)
  go_loopw [5] (fun v wr => ∃ (left : Lit → Bool) (cnt g m cp : Nat) (ks : List Int), wr.ranges Try.prog 3 noR (w.heap.size + 1) rr len D left cnt ∧ v = .slice (some ⟨g, 0, none⟩) m cp ∧ OwnZ wr w.heap.size g m cp ks ∧ Hid (Coll D left ks) ∧ m + cnt ≤ len ∧ Below w.heap.size w wr) (fun _ wr => wr.rangeLeft (w.heap.size + 1) rr)
  case atStart => exact ⟨_, _, _, _, _, [], hrg3, rfl, hO3, Coll.start D, by omega, hB3⟩
  case round =>
    clear hrg3 hO3 hB3
    obtain ⟨left, cnt, g, m, cp, ks, hrg, rfl, hO, HG, hlen, hB⟩ := hrel
    have hbw := hB.size
    go_wp2_with (at_next; refine wpList_next_key _ rfl _ rfl (w.heap.size + 1) rr len D left cnt rfl hrg ?_ ?_)
    · intro hl0
      have HS := Hid.mk' (HG.out.sorted hl0 HD.out)
      have hml := hO.1
      have HSO := Hid.mk' (sorts.sort_int g 0 cp ks wr (ownZ_holds hO) hO.lt.2 (by omega))
      rw [hml] at HSO
      clear hrg hl0 HG
      go_wp2_with fail
      refine HSO.out.mono ?_
      rintro e w5 ⟨rfl, nn, os, hw5⟩
      obtain ⟨hO5, hg5⟩ := ownZ_sorted (nn := nn) (os := os) hO
      rw [← hw5] at hO5 hg5
      have hB5 : Below w.heap.size w w5 := hB.grown hg5 hbw (fun j hj => by cases hj; exact hO.lt.1)
      rw [HS.out] at hO5
      have HO5 := Hid.mk' hO5
      clear hw5 hg5 hO5 hO hB HSO
      go_wp2_with fail
      go_ret
      exact ⟨_, _, _, rfl, HO5.out, hB5⟩
    · intro x c w1 cnt1 hwx hlk hhas HRG hlt hg1 hen
      have hm0 : wr.rangeLeft (w.heap.size + 1) rr = cnt := hrg.left_eq
      have HG1 : Hid (Coll D (fun z => left z && !z.sameKey (.int .i64 x)) (ks ++ [x])) := HG.out.step hwx hlk hhas
      have hne := ranges_ne hO hrg
      have hO1 := hO.grown hg1 (fun e => hne.2 (by cases e; rfl))
      have hB1 : Below w.heap.size w w1 := hB.grown hg1 hbw (fun j hj => by cases hj; exact hr3)
      have hc3 : m + 1 ≤ maxLen := by unfold maxLen; omega
      have hc4 : (m + 1) * 8 ≤ 140737488355328 := by omega
      have hbw1 : w.heap.size ≤ w1.heap.size := hB1.size
      have HM0 := Hid.mk' hm0
      clear hO hB hrg hg1 HG hne hhas hm0
      go_wp2_with (at_builtin; refine wpList_append_own _ rfl (.tmp 16) (.tmp 18) 35 rfl w.heap.size 3 i0 (.int .i64 0) 1 8 Try.underlying35 hi hz0 hz1 hz2 rfl (by decide) _ _ _ rfl (hO1.2.alloc _) ⟨w1.heap.size, 0, none⟩ 1 1 (intVals [x]) rfl rfl (one_int_cells _ _ _) (intVals_oneCell _) hc3 hc4 (le_alloc _ _ hbw1) ?_)
      intro v4 w4 hown4 hgrow4 hnn
      have hnn' : ¬ v4 = .slice none 0 0 := by simpa using hnn
      obtain ⟨g4, cp4, hv4, hO4⟩ := ownZ_app hO1.1 hnn' hown4
      subst hv4
      have hO1a : OwnZ (w1.alloc (.cells #[.int .i64 x] 3)) w.heap.size g m cp ks := hO1.below ((Below.refl _ _).alloc (Nat.le_refl _) _)
      have hrga := HRG.out.alloc (.cells #[.int .i64 x] 3)
      have hne := ranges_ne hO1a hrga
      have hrg4 := hrga.kept hgrow4 (fun e => hne.1 (by simp [Value.ownBlock] at e; omega)) (fun e => hne.2 (by simp [Value.ownBlock] at e; omega))
      have hB4 : Below w.heap.size w w4 := (hB1.alloc hbw1 _).grown hgrow4 (le_alloc _ _ hbw1) (fun j hj => by simp [Value.ownBlock] at hj; have := hO1.lt; omega)
      have HO4 := Hid.mk' hO4
      have HR4 := Hid.mk' hrg4
      clear hown4 hgrow4 hnn hnn' hO4 hO1 hO1a hrga hne hB1 hrg4 HRG
      go_wp2_with (at_builtin; fail)
      go_roundw
      case rel => exact ⟨_, cnt1, g4, m + 1, cp4, ks ++ [x], HR4.out, rfl, HO4.out, HG1, by omega, hB4⟩
      case measure => rw [HR4.out.left_eq, HM0.out]; exact hlt

end Go.Proofs.Ytdeaiefhegjalaa.ords

namespace Go.Proofs.Ytdeaiefhegjalaa.wds
open Go Go.RowKit Go.Proofs.Ytdeaiefhegjalaa.base Go.Proofs.Ytdeaiefhegjalaa.pairs Go.Proofs.Ytdeaiefhegjalaa.ords Go.Proofs.Ytdeaiefhegjalaa.putnum Go.Proofs.Ytdeaiefhegjalaa.puttext Go.Proofs.Ytdeaiefhegjalaa.getnum Go.Proofs.Ytdeaiefhegjalaa.gettext Go.Proofs.Ytdeaiefhegjalaa.gettexts Go.Proofs.Ytdeaiefhegjalaa.nummath
set_option linter.unusedVariables false
set_option linter.unusedSimpArgs false

/-- kind, shard, transaction, orders, yes -/
abbrev Wd := Int × Int × Int × List Od × Bool
def kindOk (k : Int) (l : List Od) (y : Bool) : Bool := if k = 1 then opsOk l && !y else if k = 2 ∨ k = 3 then l.isEmpty else if k = 4 then l.isEmpty && !y else false
def placeOk (s t : Int) : Bool := decide (0 ≤ s ∧ s ≤ 7) && decide (1 ≤ t ∧ t ≤ 1000000)
def wordOk (d : Wd) : Bool := placeOk d.2.1 d.2.2.1 && kindOk d.1 d.2.2.2.1 d.2.2.2.2
def yesN (y : Bool) : Int := if y then 1 else 0
def headB (k s t : Int) (y : Bool) : List UInt8 := numBytes k ++ numBytes s ++ numBytes t ++ numBytes (yesN y)
def wordBytes (d : Wd) : List UInt8 := headB d.1 d.2.1 d.2.2.1 d.2.2.2.2 ++ if d.1 = 1 then putOps d.2.2.2.1 else []
def putWord (d : Wd) : List UInt8 := if wordOk d = true then wordBytes d else []
def getHead (bs : List UInt8) : Option ((Nat × Nat × Nat × Bool) × Nat) :=
  match getNum bs 0 with
  | none => none
  | some (k, a) => match getNum bs ((a : Nat) : Int) with
    | none => none
    | some (s, b) => match getNum bs ((a + b : Nat) : Int) with
      | none => none
      | some (t, c) => match getNum bs ((a + b + c : Nat) : Int) with
        | none => none
        | some (y, d) => if 1 < y then none else some ((k, s, t, decide (y = 1)), a + b + c + d)
def okWord (d : Wd) : Option Wd := if wordOk d = true then some d else none
def getWord (bs : List UInt8) : Option Wd :=
  match getHead bs with
  | none => none
  | some ((k, s, t, y), p) => if bs.length ≤ p then okWord (k, s, t, [], y) else
    match getOps (bs.drop p) with
    | none => none
    | some l => okWord (k, s, t, l, y)

theorem kindOk_iff (k : Int) (l : List Od) (y : Bool) : kindOk k l y = true ↔ (k = 1 ∧ opsOk l = true ∧ y = false) ∨ ((k = 2 ∨ k = 3) ∧ l = []) ∨ (k = 4 ∧ l = [] ∧ y = false) := by
  unfold kindOk
  by_cases h1 : k = 1
  · subst h1
    rw [if_pos rfl]
    simp
  · by_cases h2 : k = 2 ∨ k = 3
    · rw [if_neg h1, if_pos h2, List.isEmpty_iff]
      constructor
      · intro h; exact .inr (.inl ⟨h2, h⟩)
      · rintro (⟨h, _⟩ | ⟨_, h⟩ | ⟨h, _⟩)
        · exact absurd h h1
        · exact h
        · omega
    · by_cases h4 : k = 4
      · subst h4
        rw [if_neg h1, if_neg h2, if_pos rfl]
        simp
      · rw [if_neg h1, if_neg h2, if_neg h4]
        simp [h1, h4]
        intro h; exact absurd h h2
theorem placeOk_iff (s t : Int) : placeOk s t = true ↔ (0 ≤ s ∧ s ≤ 7) ∧ (1 ≤ t ∧ t ≤ 1000000) := by
  unfold placeOk; rw [Bool.and_eq_true, decide_eq_true_iff, decide_eq_true_iff]
theorem wordOk_iff (k s t : Int) (l : List Od) (y : Bool) : wordOk (k, s, t, l, y) = true ↔ ((0 ≤ s ∧ s ≤ 7) ∧ (1 ≤ t ∧ t ≤ 1000000)) ∧ ((k = 1 ∧ opsOk l = true ∧ y = false) ∨ ((k = 2 ∨ k = 3) ∧ l = []) ∨ (k = 4 ∧ l = [] ∧ y = false)) := by
  unfold wordOk; rw [Bool.and_eq_true, placeOk_iff, kindOk_iff]
theorem okWord_some {r x : Wd} (h : okWord r = some x) : x = r ∧ wordOk r = true := by
  unfold okWord at h
  split at h
  · next h1 => cases h; exact ⟨rfl, h1⟩
  · cases h
theorem okWord_ok {r : Wd} (h : wordOk r = true) : okWord r = some r := if_pos h
theorem okWord_no {r : Wd} (h : wordOk r = false) : okWord r = none := if_neg (by rw [h]; decide)
theorem putOps_len (l : List Od) (h : opsOk l = true) : 1 ≤ (putOps l).length := by
  unfold putOps
  rw [if_pos h, List.length_append]
  have := numBytes_length (l.length : Int)
  omega
theorem putOps_small (l : List Od) : (putOps l).length ≤ 400 := by
  unfold putOps
  split
  · next h =>
    obtain ⟨⟨h1, _⟩, _, h3⟩ := (opsOk_iff l).1 h
    have hb : ∀ l : List Od, (∀ o ∈ l, odOk o = true) → (odsBytes l).length ≤ 47 * l.length := by
      intro l
      induction l with
      | nil => intro _; simp [odsBytes]
      | cons o l ih =>
        intro hh
        have i1 := ih (fun x hx => hh x (List.mem_cons_of_mem _ hx))
        obtain ⟨_, _, k3, k4⟩ := (odOk_iff o).1 (hh o List.mem_cons_self)
        have h5 := keyOk_size k3
        have h6 := textBytes_length o.2.1
        have h7 := textBytes_length o.2.2
        have h8 := numBytes_length o.1
        have h9 : (odBytes o).length ≤ 47 := by simp [odBytes]; omega
        rw [odsBytes_cons, List.length_append, List.length_cons]
        omega
    have := hb l h1
    have := numBytes_length (l.length : Int)
    rw [List.length_append]; omega
  · simp
theorem yesN_range (y : Bool) : 0 ≤ yesN y ∧ yesN y ≤ 1 := by cases y <;> decide
theorem headB_length (k s t : Int) (y : Bool) : 1 ≤ (headB k s t y).length ∧ (headB k s t y).length ≤ 20 := by
  unfold headB
  have h1 := numBytes_length k
  have h2 := numBytes_length s
  have h3 := numBytes_length t
  have h4 := numBytes_length (yesN y)
  simp only [List.length_append]
  omega
theorem wordBytes_small (d : Wd) : (wordBytes d).length ≤ 420 := by
  have h1 := headB_length d.1 d.2.1 d.2.2.1 d.2.2.2.2
  have h2 := putOps_small d.2.2.2.1
  unfold wordBytes
  rw [List.length_append]
  split
  · omega
  · simp; omega
theorem getHead_put (k s t : Int) (y : Bool) (rest : List UInt8) (hk : 0 ≤ k ∧ k ≤ 1000000000) (hs : 0 ≤ s ∧ s ≤ 1000000000) (ht : 0 ≤ t ∧ t ≤ 1000000000) :
    getHead (headB k s t y ++ rest) = some ((clamp k, clamp s, clamp t, y), (headB k s t y).length) := by
  have e1 := getNum_put [] (numBytes s ++ numBytes t ++ numBytes (yesN y) ++ rest) k
  have e2 := getNum_put (numBytes k) (numBytes t ++ numBytes (yesN y) ++ rest) s
  have e3 := getNum_put (numBytes k ++ numBytes s) (numBytes (yesN y) ++ rest) t
  have e4 := getNum_put (numBytes k ++ numBytes s ++ numBytes t) rest (yesN y)
  have ea : headB k s t y ++ rest = [] ++ numBytes k ++ (numBytes s ++ numBytes t ++ numBytes (yesN y) ++ rest) := by simp [headB]
  have eb : headB k s t y ++ rest = numBytes k ++ numBytes s ++ (numBytes t ++ numBytes (yesN y) ++ rest) := by simp [headB]
  have ec : headB k s t y ++ rest = numBytes k ++ numBytes s ++ numBytes t ++ (numBytes (yesN y) ++ rest) := by simp [headB]
  have ed : headB k s t y ++ rest = numBytes k ++ numBytes s ++ numBytes t ++ numBytes (yesN y) ++ rest := by simp [headB]
  rw [← ea] at e1
  rw [← eb] at e2
  rw [← ec] at e3
  rw [← ed] at e4
  simp only [List.length_nil, List.length_append] at e1 e2 e3 e4
  rw [show ((0 : Nat) : Int) = 0 from rfl] at e1
  have hl : (headB k s t y).length = (numBytes k).length + (numBytes s).length + (numBytes t).length + (numBytes (yesN y)).length := by simp only [headB, List.length_append]
  unfold getHead
  rw [e1]
  simp only []
  rw [e2]
  simp only []
  rw [e3]
  simp only []
  rw [e4]
  simp only []
  have hy : clamp (yesN y) ≤ 1 := by cases y <;> decide
  rw [if_neg (by omega), hl]
  have hd : decide (clamp (yesN y) = 1) = y := by cases y <;> decide
  rw [hd]
theorem getWord_put (d : Wd) (h : wordOk d = true) : getWord (wordBytes d) = some d := by
  obtain ⟨k, s, t, l, y⟩ := d
  have h' := h
  rw [wordOk_iff] at h'
  obtain ⟨⟨hs, ht⟩, hc⟩ := h'
  have hk : 0 ≤ k ∧ k ≤ 1000000000 := by rcases hc with ⟨h1, _⟩ | ⟨h1, _⟩ | ⟨h1, _⟩ <;> omega
  unfold getWord wordBytes
  simp only []
  rw [getHead_put k s t y _ hk (by omega) (by omega)]
  simp only []
  rw [clamp_int hk.1 hk.2, clamp_int (by omega) (by omega), clamp_int (z := t) (by omega) (by omega)]
  by_cases h1 : k = 1
  · rw [if_pos h1]
    rcases hc with ⟨_, ho, hy⟩ | ⟨hx, _⟩ | ⟨hx, _⟩
    · have := putOps_len l ho
      rw [if_neg (by simp only [List.length_append]; omega), List.drop_left, getOps_put l ho]
      exact okWord_ok h
    · omega
    · omega
  · rw [if_neg h1, List.append_nil, if_pos (Nat.le_refl _)]
    have hl : l = [] := by
      rcases hc with ⟨hx, _⟩ | ⟨_, hx⟩ | ⟨_, hx, _⟩
      · exact absurd hx h1
      · exact hx
      · exact hx
    subst hl
    exact okWord_ok h
theorem getHead_some {bs : List UInt8} {k s t : Nat} {y : Bool} {p : Nat} (h : getHead bs = some ((k, s, t, y), p)) : bs.take p = headB k s t y ∧ p ≤ bs.length ∧ 1 ≤ p ∧ p ≤ 20 ∧ k ≤ 1000000000 ∧ s ≤ 1000000000 ∧ t ≤ 1000000000 := by
  unfold getHead at h
  rcases h1 : getNum bs 0 with _ | ⟨k1, a⟩
  · rw [h1] at h; cases h
  rw [h1] at h
  simp only [] at h
  rcases h2 : getNum bs ((a : Nat) : Int) with _ | ⟨s1, b⟩
  · rw [h2] at h; cases h
  rw [h2] at h
  simp only [] at h
  rcases h3 : getNum bs ((a + b : Nat) : Int) with _ | ⟨t1, c⟩
  · rw [h3] at h; cases h
  rw [h3] at h
  simp only [] at h
  rcases h4 : getNum bs ((a + b + c : Nat) : Int) with _ | ⟨y1, d⟩
  · rw [h4] at h; cases h
  rw [h4] at h
  simp only [] at h
  split at h
  · cases h
  next hy =>
  cases h
  have b1 := getNum_bytes (p := 0) h1
  have b2 := getNum_bytes h2
  have b3 := getNum_bytes h3
  have b4 := getNum_bytes h4
  have s1' := getNum_some h1
  have s2' := getNum_some h2
  have s3' := getNum_some h3
  have s4' := getNum_some h4
  simp only [Int.toNat_zero, Int.toNat_natCast] at s1' s2' s3' s4'
  refine ⟨?_, by omega, by omega, by omega, by omega, by omega, by omega⟩
  have e1 := take_split bs 0 a b
  have e2 := take_split bs 0 (a + b) c
  have e3 := take_split bs 0 (a + b + c) d
  simp only [List.drop_zero, Nat.zero_add] at e1 e2 e3 b1
  rw [e3, e2, e1, b1, b2, b3, b4]
  unfold headB
  have hyn : yesN (decide (y1 = 1)) = (y1 : Int) := by
    have : y1 = 0 ∨ y1 = 1 := by omega
    rcases this with rfl | rfl <;> rfl
  rw [hyn]
theorem getWord_some {bs : List UInt8} {d : Wd} (h : getWord bs = some d) : wordOk d = true ∧ wordBytes d = bs := by
  unfold getWord at h
  rcases hH : getHead bs with _ | ⟨⟨k, s, t, y⟩, p⟩
  · rw [hH] at h; cases h
  rw [hH] at h
  simp only [] at h
  obtain ⟨ht, hp, _⟩ := getHead_some hH
  split at h
  · next hlen =>
    obtain ⟨rfl, hok⟩ := okWord_some h
    refine ⟨hok, ?_⟩
    have hok' := hok
    rw [wordOk_iff] at hok'
    have hk : ¬ (k : Int) = 1 := by
      intro e
      rcases hok'.2 with ⟨_, hx, _⟩ | ⟨hx, _⟩ | ⟨hx, _⟩
      · exact absurd hx (by decide)
      · omega
      · omega
    unfold wordBytes
    simp only []
    rw [if_neg hk, List.append_nil, ← ht, List.take_of_length_le hlen]
  · next hlen =>
    rcases hO : getOps (bs.drop p) with _ | l
    · rw [hO] at h; cases h
    rw [hO] at h
    simp only [] at h
    obtain ⟨rfl, hok⟩ := okWord_some h
    refine ⟨hok, ?_⟩
    obtain ⟨ho, hb⟩ := getOps_some hO
    have hok' := hok
    rw [wordOk_iff] at hok'
    have hl : l ≠ [] := by intro e; subst e; exact absurd ho (by decide)
    have hk : (k : Int) = 1 := by
      rcases hok'.2 with ⟨hx, _⟩ | ⟨_, hx⟩ | ⟨_, hx, _⟩
      · exact hx
      · exact absurd hx hl
      · exact absurd hx hl
    unfold wordBytes
    simp only []
    rw [if_pos hk, hb, ← ht, List.take_append_drop]
theorem wordOk_keys {k s t : Int} {l : List Od} {y : Bool} (h : wordOk (k, s, t, l, y) = true) : ∀ p ∈ l, p.2.1.size ≤ 1099511627776 := by
  intro p hp
  rw [wordOk_iff] at h
  rcases h.2 with ⟨_, h2, _⟩ | ⟨_, h2⟩ | ⟨_, h2, _⟩
  · have := keyOk_size ((odOk_iff p).1 (((opsOk_iff _).1 h2).1.1 p hp)).2.2.1; omega
  · rw [h2] at hp; exact absurd hp List.not_mem_nil
  · rw [h2] at hp; exact absurd hp List.not_mem_nil
end Go.Proofs.Ytdeaiefhegjalaa.wds
