/- SortI OrdL OrdLa ShD -/
import Derived.Shelf.Sort.Plain
import Derived.Shelf.Slices.In.SortNone
import Derived.Test.YtijplooogplccaaGreatProg
import Derived.Test.YtijplooogplccaaGreatSham
import Derived.Test.YtijplooogplccaaGreatShba
import Derived.Test.YtijplooogplccaaGreatShae
import Derived.Sort.OwnSortedInts
import Derived.Test.YtijplooogplccaaGreatShav
set_option linter.unusedVariables false
set_option linter.unusedSimpArgs false
namespace Go.Proofs.YtijplooogplccaaGreat
namespace sorts
open Go Go.Proofs Go.Shelf
def ren189 : Go.Shelf.Ren := ⟨fun | 189 => 160 | 125 => 168 | 257 => 167 | 128 => 182 | 129 => 183 | 294 => 173 | 295 => 174 | 296 => 175 | 297 => 176 | 298 => 177 | 299 => 178 | 216 => 179 | 300 => 180 | 301 => 181 | 328 => 187 | 329 => 188 | 330 => 189 | 331 => 190 | 332 => 191 | 215 => 192 | 343 => 194 | n => n, fun | 28 => 105 | 3 => 3 | 46 => 243 | 0 => 0 | 51 => 254 | 53 => 256 | 4 => 4 | 183 => 247 | 182 => 246 | 131 => 236 | 5 => 5 | 9 => 9 | 218 => 260 | 222 => 264 | 228 => 267 | 229 => 268 | n => n, fun | n => n⟩
theorem lays189 : Go.Proofs.Lays.n189 Tryz.prog ren189 := {
 mixed := by kernel_rfl
 f125 := Tryz.func168.trans (congrArg some (by kernel_rfl))
 f128 := Tryz.func182.trans (congrArg some (by kernel_rfl))
 f129 := Tryz.func183.trans (congrArg some (by kernel_rfl))
 f189 := Tryz.func160.trans (congrArg some (by kernel_rfl))
 f215 := Tryz.func192.trans (congrArg some (by kernel_rfl))
 f216 := Tryz.func179.trans (congrArg some (by kernel_rfl))
 f257 := Tryz.func167.trans (congrArg some (by kernel_rfl))
 f294 := Tryz.func173.trans (congrArg some (by kernel_rfl))
 f295 := Tryz.func174.trans (congrArg some (by kernel_rfl))
 f296 := Tryz.func175.trans (congrArg some (by kernel_rfl))
 f297 := Tryz.func176.trans (congrArg some (by kernel_rfl))
 f298 := Tryz.func177.trans (congrArg some (by kernel_rfl))
 f299 := Tryz.func178.trans (congrArg some (by kernel_rfl))
 f300 := Tryz.func180.trans (congrArg some (by kernel_rfl))
 f301 := Tryz.func181.trans (congrArg some (by kernel_rfl))
 f328 := Tryz.func187.trans (congrArg some (by kernel_rfl))
 f329 := Tryz.func188.trans (congrArg some (by kernel_rfl))
 f330 := Tryz.func189.trans (congrArg some (by kernel_rfl))
 f331 := Tryz.func190.trans (congrArg some (by kernel_rfl))
 f332 := Tryz.func191.trans (congrArg some (by kernel_rfl))
 f343 := Tryz.func194.trans (congrArg some (by kernel_rfl))
 t0 := Tryz.underlying0
 a0 := Tryz.isAgg0
 z0 := Tryz.sizeOf0
 v0 := Tryz.zeroValue0
 t3 := Tryz.underlying3
 a3 := Tryz.isAgg3
 z3 := Tryz.sizeOf3
 v3 := Tryz.zeroValue3
 t4 := Tryz.underlying4
 a4 := Tryz.isAgg4
 z4 := Tryz.sizeOf4
 v4 := Tryz.zeroValue4
 t5 := Tryz.underlying5
 a5 := Tryz.isAgg5
 z5 := Tryz.sizeOf5
 v5 := Tryz.zeroValue5
 t9 := Tryz.underlying9
 a9 := Tryz.isAgg9
 z9 := Tryz.sizeOf9
 v9 := Tryz.zeroValue9
 t28 := Tryz.underlying105
 a28 := Tryz.isAgg105
 z28 := Tryz.sizeOf105
 v28 := Tryz.zeroValue105
 t46 := Tryz.underlying243
 a46 := Tryz.isAgg243
 z46 := Tryz.sizeOf243
 v46 := Tryz.zeroValue243
 t51 := Tryz.underlying254
 a51 := Tryz.isAgg254
 z51 := Tryz.sizeOf254
 v51 := Tryz.zeroValue254
 t53 := Tryz.underlying256
 a53 := Tryz.isAgg256
 z53 := Tryz.sizeOf256
 v53 := Tryz.zeroValue256
 t131 := Tryz.underlying236
 a131 := Tryz.isAgg236
 z131 := Tryz.sizeOf236
 v131 := Tryz.zeroValue236
 t182 := Tryz.underlying246
 a182 := Tryz.isAgg246
 z182 := Tryz.sizeOf246
 v182 := Tryz.zeroValue246
 t183 := Tryz.underlying247
 a183 := Tryz.isAgg247
 z183 := Tryz.sizeOf247
 v183 := Tryz.zeroValue247
 t218 := Tryz.underlying260
 a218 := Tryz.isAgg260
 z218 := Tryz.sizeOf260
 v218 := Tryz.zeroValue260
 t222 := Tryz.underlying264
 a222 := Tryz.isAgg264
 z222 := Tryz.sizeOf264
 v222 := Tryz.zeroValue264
 t228 := Tryz.underlying267
 a228 := Tryz.isAgg267
 z228 := Tryz.sizeOf267
 v228 := Tryz.zeroValue267
 t229 := Tryz.underlying268
 a229 := Tryz.isAgg268
 z229 := Tryz.sizeOf268
 v229 := Tryz.zeroValue268 }
open Go.Sort Go.RowKit in
theorem sort_int (blk off cap : Nat) (zs : List Int) (w : World) (hH : Holds (Value.int .i64) w blk off zs.toArray) (hblk : blk < w.heap.size) (hsz : zs.length < 4611686018427387904) :
 Calls Tryz.prog 160 #[.slice (some ⟨blk, off, none⟩) zs.length cap] w fun e w' =>
  e = .returned (.tuple #[]) ∧ ∃ n os, w' = grow (putRow (Value.int .i64) (Sort.ahead w n) blk off (zs.mergeSort fun x y => decide (x ≤ y)).toArray) os := Any.slices_Sort_int lays189 blk off cap zs w hH hblk hsz
end sorts
namespace ords
open Go Go.RowKit base pairs
open Go.Maps (Keyed keyOf_int_mk)
open Go.Sort (Holds)
theorem box_cellO (w w' : World) (z : Int) (x y : ByteArray) (hB : Below (w.alloc (.cells #[.int .i64 z, .string x, .string y] 126)).heap.size (w.alloc (.cells #[.int .i64 z, .string x, .string y] 126)) w') :
 w'.cell? ⟨w.heap.size, 0, none⟩ = some (.int .i64 z) ∧ w'.cell? ⟨w.heap.size, 1, none⟩ = some (.string x) ∧ w'.cell? ⟨w.heap.size, 2, none⟩ = some (.string y) := by
 have hlt : w.heap.size < (w.alloc (.cells #[.int .i64 z, .string x, .string y] 126)).heap.size := by simp
 refine ⟨(hB.cell (p := ⟨w.heap.size, 0, none⟩) hlt).trans ?_, (hB.cell (p := ⟨w.heap.size, 1, none⟩) hlt).trans ?_, (hB.cell (p := ⟨w.heap.size, 2, none⟩) hlt).trans ?_⟩
 · simp
 · simp
 · simp
theorem opsFor_upd (n : Int) (l : List Od) (k : Nat) (h : k < l.length) : upd (fun s => opsFor s n (l.take k)) (shardOf l[k].2.1 n) (opsFor (shardOf l[k].2.1 n) n (l.take k) ++ [l[k]]) = fun s => opsFor s n (l.take (k + 1)) := by
 funext t
 show upd _ _ _ _ = List.filter _ _
 rw [filter_snocO (fun o => decide (shardOf o.2.1 n = t)) l k h]
 by_cases e : t = shardOf l[k].2.1 n
 · subst e
   rw [upd_same]; simp [opsFor]
 · rw [upd_other e]
   have e' : ¬ shardOf l[k].2.1 n = t := fun x => e x.symm
   simp [opsFor, e']
theorem shardOf_wf (key : ByteArray) (n : Int) : (Lit.int .i64 (shardOf key n)).wf = true := by
 have h1 := (shardOf_range key n).1
 have h2 := shardOf_lt key n
 exact WalkArith.wf_i64 (by omega)
theorem opsFor_le (s n : Int) (l : List Od) : (opsFor s n l).length ≤ l.length := List.length_filter_le _ _
set_option maxRecDepth 100000 in
set_option maxHeartbeats 2000000 in
theorem i_byShard (b off len cap : Nat) (l : List Od) (n : Int) (w : World) (h : SlO w (some ⟨b, off, none⟩) len l) (hks : ∀ p ∈ l, p.2.1.size ≤ 1099511627776) (hsz : len ≤ 1099511627776) (hn : (Lit.int .i64 n).wf = true) :
 Calls Tryz.prog 159 #[.slice (some ⟨b, off, none⟩) len cap, .int .i64 n] w fun e w' =>
  e = .returned (.map (some w.heap.size)) ∧ Groups w' w.heap.size (w.heap.size + 1) len (fun s => opsFor s n l) ∧ Below w.heap.size w w' := by
 obtain ⟨i0, hi, hz0, hz1, hz2⟩ := info_parts infoO
 have hl := h.1
 have hsm := h.2.2.1
 have hmm := @run_makeMap Tryz.prog
 subst hl
 go_enter Tryz.func159, Tryz.ntmps159
 go_wp2_with (at_builtin; fail)
 go_loopw [12] (fun i wr => ∃ k : Nat, k ≤ l.length ∧ i = .int .i64 (k : Int) ∧ Groups wr w.heap.size (w.heap.size + 1) k (fun s => opsFor s n (l.take k)) ∧ Below w.heap.size w wr) (fun i _ => l.length - (intOf i).toNat)
 case atStart => exact ⟨0, Nat.zero_le _, rfl, groups_made w, (Below.refl _ _).alloc (Nat.le_refl _) _⟩
 case round =>
  obtain ⟨k, hk, rfl, hT, hB⟩ := hrel
  clear hmm
  by_cases hlt : k < l.length
  · obtain ⟨c0, c1, c2⟩ := (h.below hB).cells k hlt
    have hki : (k : Int) < (l.length : Int) := by omega
    have hpk := hsm _ (List.getElem_mem hlt)
    have hks' := hks _ (List.getElem_mem hlt)
    have HU := Hid.mk' (opsFor_upd n l k hlt)
    have hfl := opsFor_le (shardOf l[k].2.1 n) n (l.take k)
    have hlk : (l.take k).length ≤ k := List.length_take_le _ _
    have hsw := shardOf_wf l[k].2.1 n
    have hba : Below wr.heap.size wr (wr.alloc (.cells #[.int .i64 l[k].1, .string l[k].2.1, .string l[k].2.2] 126)) := (Below.refl _ _).alloc (Nat.le_refl _) _
    have HC := Hid.mk' (impl_shardOf l[k].2.1 n (wr.alloc (.cells #[.int .i64 l[k].1, .string l[k].2.1, .string l[k].2.2] 126)) hks' hn)
    generalize shardOf l[k].2.1 n = sh at *
    generalize l[k] = p at *
    go_wp2_with (at_builtin; fail)
    refine HC.out.mono ?_
    rintro e w3 ⟨rfl, hb3⟩
    obtain ⟨d0, d1, d2⟩ := box_cellO wr w3 p.1 p.2.1 p.2.2 hb3
    have hX3 : Below wr.heap.size wr w3 := hba.trans (hb3.mono hba.size)
    have hB3 : Below w.heap.size w w3 := hB.trans (hX3.mono hB.size)
    have hT3 := hT.below hX3
    have hsz3 : w.heap.size + 1 ≤ w3.heap.size := hT3.lt
    clear HC hb3 hX3 hB hT c0 c1 c2 hba
    go_wp2_with (at_lookup; refine wpList_look_groups _ rfl _ _ rfl rfl rfl hT3 hsw (by unfold maxLen; omega) ?_)
    intro v hown hsmv hback
    have hc3 : (opsFor sh n (l.take k)).length + 1 ≤ maxLen := by unfold maxLen; omega
    have hc4 : ((opsFor sh n (l.take k)).length + 1) * 40 ≤ 140737488355328 := by omega
    have HT3 := Hid.mk' hT3
    have HBK := Hid.mk' hback
    have HSM : Hid (∀ q ∈ opsFor sh n (l.take k), smallO q) := fun q hq => hsmv q.1 q.2.1 q.2.2 hq
    clear hback hT3 hsmv
    go_wp2_with (at_builtin; refine wpList_append_own_at _ rfl (.tmp 24) (.tmp 26) 98 rfl (w.heap.size + 1) 126 i0 (.agg #[.int .i64 0, .string ⟨#[]⟩, .string ⟨#[]⟩]) 3 40 Tryz.underlying98 hi hz0 hz1 hz2 rfl (by decide) _ _ _ rfl (hown.alloc _) ⟨w3.heap.size, 0, none⟩ 1 1 (ordVals [p]) rfl rfl (one_ord_cells _ _ _) (ordVals_oneCell _) hc3 hc4 (le_alloc _ _ hsz3) ?_)
    intro v4 w4 hown4 hgrow4 hnn hloc
    have hnn' : ¬ v4 = .slice none 0 0 := by simpa using hnn
    obtain ⟨g4, cp4, hv4, hO4⟩ := ownO_app rfl HSM.out hpk hnn' hown4
    subst hv4
    have hgr4 : w3.grownBy w4 v.ownBlock := World.grownBy.andThen ((World.grownBy_alloc w3 _ none).but v.ownBlock) hgrow4 (fun j hj => Or.inr hj)
    have hloc4 : some g4 = v.ownBlock ∨ w3.heap.size ≤ g4 := by
     rcases hloc with h1 | h1
     · exact Or.inl h1
     · simp [Value.ownBlock] at h1; exact Or.inr (by omega)
    have hB4 : Below w.heap.size w w4 := hB3.grown hgr4 hB3.size (fun j hj => by have := (hown.lt j hj).1; omega)
    clear hown hown4 hgrow4 hnn hnn' hloc hB3 HT3
    go_wp2_with (at_mapUpdate; refine wpList_store_back _ rfl _ _ _ rfl HBK.out rfl rfl rfl hgr4 hO4 (by simp) hloc4 ?_)
    intro w5 hT5 hgrow5
    rw [HU.out] at hT5
    have hB5 : Below w.heap.size w w5 := hB4.grown hgrow5 hB4.size (fun j hj => by cases hj; exact Nat.le_refl _)
    have HT5 := Hid.mk' hT5
    clear hgrow5 hB4 hT5 hO4 hgr4 hloc4 HBK
    go_wp2_with (at_builtin; fail)
    go_roundw
    case rel => exact ⟨k + 1, by omega, by go_num, HT5.out, hB5⟩
    case measure => simp [intOf]; omega
  · have HE : Hid (l.take k = l) := List.take_of_length_le (by omega)
    have hkl : k = l.length := by omega
    rw [HE.out] at hT
    go_wp2_with (at_builtin; fail)
    go_ret
    subst hkl
    exact ⟨rfl, hT, hB⟩
theorem append_nil_arg (w : World) (g : Nat) : (Builtin.append_ #[98, 98] 98 #[.slice (some ⟨g, 0, none⟩) 0 0, .slice none 0 0]).run Tryz.prog w = .ok (.slice (some ⟨g, 0, none⟩) 0 0) w := by kernel_rfl
/-! ### the shards that have any, in order -/
theorem OwnZ.obj {w : World} {base g n cap : Nat} {zs : List Int} (h : OwnZ w base g n cap zs) : ∃ cur e, w.heap[g]? = some (.cells cur e (0, 0)) := by
 rcases h.2.2 with ⟨h', _⟩ | ⟨g', cap', cur, h', _, hg, _⟩
 · simp at h'
 · simp only [Value.slice.injEq, Option.some.injEq, Addr.mk.injEq, and_true, true_and] at h'
   obtain ⟨rfl, rfl⟩ := h'
   exact ⟨cur, _, hg⟩
theorem ranges_ne {w : World} {base g m cap b r n cnt : Nat} {zs : List Int} {D : DataW Unit} {left : Lit → Bool} (h : OwnZ w base g m cap zs) (hr : w.ranges Tryz.prog 3 noR b r n D left cnt) : g ≠ b ∧ g ≠ r := by
 obtain ⟨cur, e, hg⟩ := h.obj
 obtain ⟨es, clock, since, seen, c0, hb, _, _, _, hit, _⟩ := hr
 refine ⟨fun x => ?_, fun x => ?_⟩
 · rw [x, hb] at hg; cases hg
 · rw [x, hit] at hg; cases hg
def Coll (D : DataW Unit) (left : Lit → Bool) (ks : List Int) : Prop :=
 ks.Nodup ∧ (∀ s ∈ ks, (Lit.int .i64 s).wf = true) ∧ ∀ s, (Lit.int .i64 s).wf = true → (s ∈ ks ↔ (Maps.has D (.int .i64 s) = true ∧ left (.int .i64 s) = false))
theorem Coll.start (D : DataW Unit) : Coll D (Maps.has D) [] := ⟨List.nodup_nil, fun s h => absurd h List.not_mem_nil, fun s _ => by cases Maps.has D (.int .i64 s) <;> simp⟩
theorem Coll.step {D : DataW Unit} {left : Lit → Bool} {ks : List Int} (h : Coll D left ks) {x : Int} (hx : (Lit.int .i64 x).wf = true) (hl : left (.int .i64 x) = true) (hh : Maps.has D (.int .i64 x) = true) : Coll D (fun z => left z && !z.sameKey (.int .i64 x)) (ks ++ [x]) := by
 obtain ⟨h1, h2, h3⟩ := h
 have hnew : x ∉ ks := fun hm => by have := ((h3 x hx).1 hm).2; rw [hl] at this; cases this
 refine ⟨List.nodup_append.2 ⟨h1, by simp, fun a ha b hb => by simp at hb; subst hb; exact fun e => hnew (e ▸ ha)⟩, fun s hs => ?_, fun s hs => ?_⟩
 · rcases List.mem_append.1 hs with h4 | h4
   · exact h2 s h4
   · simp at h4; subst h4; exact hx
 · by_cases e : s = x
   · subst e; simp [hh, Lit.sameKey]
   · simp [h3 s hs, e, Lit.sameKey]
theorem Coll.sorted {D : DataW Unit} {left : Lit → Bool} {ks : List Int} (h : Coll D left ks) (hl : ∀ kl, left kl = false) {n : Int} {l : List Od} (hD : ∀ s, (Lit.int .i64 s).wf = true → (Maps.has D (.int .i64 s) = true ↔ opsFor s n l ≠ [])) : ks.mergeSort (fun x y => decide (x ≤ y)) = shardsOf n l := by
 obtain ⟨h1, h2, h3⟩ := h
 have hp : (ks.mergeSort (fun x y => decide (x ≤ y))).Perm ks := List.mergeSort_perm ks _
 have hs : (ks.mergeSort (fun x y => decide (x ≤ y))).Pairwise (fun a b => (decide (a ≤ b)) = true) := List.pairwise_mergeSort (le := fun x y : Int => decide (x ≤ y)) (fun a b c h1 h2 => by simp at *; omega) (fun a b => by simp; omega) ks
 have hn := hp.nodup_iff.2 h1
 refine asc_ext ?_ (shards_asc n l) fun x => ?_
 · unfold Asc
   refine (hs.and hn).imp ?_
   rintro a b ⟨h4, h5⟩
   simp at h4
   omega
 · rw [hp.mem_iff, shards_mem]
   constructor
   · intro hx
     have hw := h2 x hx
     have := (hD x hw).1 ((h3 x hw).1 hx).1
     obtain ⟨o, ho⟩ := List.exists_mem_of_ne_nil _ this
     obtain ⟨ho1, ho2⟩ := List.mem_filter.1 ho
     exact ⟨o, ho1, by simpa using ho2⟩
   · rintro ⟨o, ho, rfl⟩
     have hw := shardOf_wf o.2.1 n
     refine (h3 _ hw).2 ⟨(hD _ hw).2 fun e => ?_, hl _⟩
     have : o ∈ opsFor (shardOf o.2.1 n) n l := List.mem_filter.2 ⟨ho, by simp⟩
     rw [e] at this
     exact absurd this List.not_mem_nil
theorem ownZ_sorted {w : World} {base g m cp nn : Nat} {os : Array Obj} {ks : List Int} (h : OwnZ w base g m cp ks) :
 OwnZ (Go.Sort.grow (Go.Sort.putRow (Value.int .i64) (Go.Sort.ahead w nn) g 0 (ks.mergeSort fun x y => decide (x ≤ y)).toArray) os) base g m cp (ks.mergeSort fun x y => decide (x ≤ y)) ∧
 w.grownBy (Go.Sort.grow (Go.Sort.putRow (Value.int .i64) (Go.Sort.ahead w nn) g 0 (ks.mergeSort fun x y => decide (x ≤ y)).toArray) os) (some g) := by
 have hl := h.1
 have hl2 : (ks.mergeSort fun x y => decide (x ≤ y)).length = ks.length := List.length_mergeSort ks
 rcases h.2.2 with ⟨h', _⟩ | ⟨g', cap', cur, h', hbase, hb, h1, h2, h3, h4⟩
 · simp at h'
 · simp only [Value.slice.injEq, Option.some.injEq, Addr.mk.injEq, and_true, true_and] at h'
   obtain ⟨rfl, rfl⟩ := h'
   subst hl
   exact ⟨⟨hl2, ownsRow_sortedI hl2 hbase hb h1 h2 h3⟩, grownBy_sortedI _⟩
theorem ownZ_holds {w : World} {base g m cp : Nat} {ks : List Int} (h : OwnZ w base g m cp ks) : Holds (Value.int .i64) w g 0 ks.toArray := by
 have hl := h.1
 rcases h.2.2 with ⟨h', _⟩ | ⟨g', cap', cur, h', hbase, hb, h1, h2, h3, h4⟩
 · simp at h'
 · simp only [Value.slice.injEq, Option.some.injEq, Addr.mk.injEq, and_true, true_and] at h'
   obtain ⟨rfl, rfl⟩ := h'
   subst hl
   exact holds_of_blockI hb (by simpa [intVals] using h4)
theorem size_has {w : World} {B n : Nat} {D : DataW Unit} (h : w.ownsMap Tryz.prog 3 noR B n D) : Maps.size D ≤ n := by
 obtain ⟨es, clock, hb, F, hs, rfl⟩ := h
 rw [Maps.size_eq, length_sorted]
 simpa using hs
theorem wpList_next_key (w : World) {ops : Array Oper} {rest : List Oper} {o : Oper} {a : Act} {Q : Exit → Act → World → Prop} (hg : o.guard = none) (it : Operand) (hop : o.op = Op.next it false) (b r n : Nat) (D : DataW Unit) (left : Lit → Bool) (cnt : Nat)
 (hit : a.eval it = .pointer (some ⟨r, 0, none⟩)) (h : w.ranges Tryz.prog 3 noR b r n D left cnt)
 (hDone : (∀ kl, left kl = false) → wpList Tryz.prog ops Q rest (a.put o.dst (.tuple #[.bool false])) w)
 (hMore : ∀ (x : Int) (v : Value) (w' : World) (cnt' : Nat), (Lit.int .i64 x).wf = true → left (.int .i64 x) = true → Maps.has D (.int .i64 x) = true → Hid (w'.ranges Tryz.prog 3 noR b r n D (fun z => left z && !z.sameKey (.int .i64 x)) cnt') → cnt' < cnt →
  w.grownBy w' (some r) → (Instr.entry (.pointer (some ⟨r, 0, none⟩))).run Tryz.prog w' = .ok (.tuple #[.int .i64 x, v]) w' → wpList Tryz.prog ops Q rest (a.put o.dst (.tuple #[.bool true, .int .i64 x, v])) w') :
 wpList Tryz.prog ops Q (o :: rest) a w :=
 wpList_next_ranges w hg it hop 3 intLaw noR (Value.int .i64) (fun v : Value => v) (fun key kl hkey => by obtain ⟨x, rfl, _⟩ := Maps.keyOf_int_inv Tryz.underlying3 hkey; exact ⟨x, rfl⟩) (fun v y hv => ⟨v, rfl⟩) b r n D left cnt hit h (fun _ hl => hDone hl)
  (fun x c kl y w' cnt' hkey hlk hv hat hrg hlt hgr hsz hen => by
   obtain ⟨x', ex, rfl, hwx⟩ := Maps.keyOf_int_inv Tryz.underlying3 hkey
   cases ex
   exact hMore x c w' cnt' hwx hlk (Maps.has_true_of_atKey hat) hrg hlt hgr hen)
set_option maxRecDepth 100000 in
set_option maxHeartbeats 2000000 in
theorem impl_shardsOf (b off len cap : Nat) (l : List Od) (n : Int) (w : World) (h : SlO w (some ⟨b, off, none⟩) len l) (hks : ∀ p ∈ l, p.2.1.size ≤ 1099511627776) (hsz : len ≤ 1099511627776) (hn : (Lit.int .i64 n).wf = true) :
 Calls Tryz.prog 148 #[.slice (some ⟨b, off, none⟩) len cap, .int .i64 n] w fun e w' =>
  ∃ g' n' cap', e = .returned (.slice (some ⟨g', 0, none⟩) n' cap') ∧ OwnZ w' w.heap.size g' n' cap' (shardsOf n l) ∧ Below w.heap.size w w' := by
 obtain ⟨i0, hi, hz0, hz1, hz2⟩ := info_parts infoZ
 have hba : Below w.heap.size w (w.alloc (.cells #[] 3)) := (Below.refl _ _).alloc (Nat.le_refl _) _
 have hO1 := ownZ_made w w.heap.size (Nat.le_refl _)
 have hC := i_byShard b off len cap l n _ (h.below hba) hks hsz hn
 have hsz1 : (w.alloc (.cells #[] 3)).heap.size = w.heap.size + 1 := by simp
 rw [hsz1] at hC
 have HC := Hid.mk' hC
 clear hC hsz1
 go_enter Tryz.func148, Tryz.ntmps148
 go_wp2_with (at_builtin; fail)
 refine HC.out.mono ?_
 rintro e w2 ⟨rfl, hT, hb2⟩
 have hb2' : Below (w.alloc (.cells #[] 3)).heap.size (w.alloc (.cells #[] 3)) w2 := hb2.mono (by simp)
 have hB2 : Below w.heap.size w w2 := hba.trans (hb2'.mono hba.size)
 have hO2 := hO1.below hb2'
 have hbs := hB2.size
 obtain ⟨D, hown, hIs, hD⟩ := hT.owns
 have HD := Hid.mk' hD
 have hsD := size_has hown
 clear HC hb2 hb2' hO1 hba hT hD hIs
 go_wp2_with (at_range; refine wpList_range_own _ rfl _ 237 rfl 3 98 intLaw Tryz.underlying237 noR (w.heap.size + 1) len D rfl hown ?_)
 intro w3 hrg3 hg3 hs3
 have hO3 := hO2.grown hg3 (by simp)
 have hB3 : Below w.heap.size w w3 := hB2.grown hg3 hbs (fun j hj => by cases hj)
 have hr3 : w.heap.size ≤ w2.heap.size := hbs
 generalize w2.heap.size = rr at *
 clear hO2 hB2 hown hg3 hbs
 go_wp2_with (at_builtin; fail)
 go_loopw [5] (fun v wr => ∃ (left : Lit → Bool) (cnt g m cp : Nat) (ks : List Int), wr.ranges Tryz.prog 3 noR (w.heap.size + 1) rr len D left cnt ∧ v = .slice (some ⟨g, 0, none⟩) m cp ∧ OwnZ wr w.heap.size g m cp ks ∧ Hid (Coll D left ks) ∧ m + cnt ≤ len ∧ Below w.heap.size w wr) (fun _ wr => wr.rangeLeft (w.heap.size + 1) rr)
 case atStart => exact ⟨_, _, _, _, _, [], hrg3, rfl, hO3, Coll.start D, by omega, hB3⟩
 case round =>
  clear hrg3 hO3 hB3
  obtain ⟨left, cnt, g, m, cp, ks, hrg, rfl, hO, HG, hlen, hB⟩ := hrel
  have hbw := hB.size
  go_wp2_with (at_next; refine wpList_next_key _ rfl _ rfl (w.heap.size + 1) rr len D left cnt rfl hrg ?_ ?_)
  · intro hl0
    have HS := Hid.mk' (HG.out.sorted hl0 HD.out)
    have hml := hO.1
    have HSO := Hid.mk' (sorts.sort_int g 0 cp ks wr (ownZ_holds hO) hO.lt.2 (by omega))
    rw [hml] at HSO
    clear hrg hl0 HG
    go_wp2_with fail
    refine HSO.out.mono ?_
    rintro e w5 ⟨rfl, nn, os, hw5⟩
    obtain ⟨hO5, hg5⟩ := ownZ_sorted (nn := nn) (os := os) hO
    rw [← hw5] at hO5 hg5
    have hB5 : Below w.heap.size w w5 := hB.grown hg5 hbw (fun j hj => by cases hj; exact hO.lt.1)
    rw [HS.out] at hO5
    have HO5 := Hid.mk' hO5
    clear hw5 hg5 hO5 hO hB HSO
    go_wp2_with fail
    go_ret
    exact ⟨_, _, _, rfl, HO5.out, hB5⟩
  · intro x c w1 cnt1 hwx hlk hhas HRG hlt hg1 hen
    have hm0 : wr.rangeLeft (w.heap.size + 1) rr = cnt := hrg.left_eq
    have HG1 : Hid (Coll D (fun z => left z && !z.sameKey (.int .i64 x)) (ks ++ [x])) := HG.out.step hwx hlk hhas
    have hne := ranges_ne hO hrg
    have hO1 := hO.grown hg1 (fun e => hne.2 (by cases e; rfl))
    have hB1 : Below w.heap.size w w1 := hB.grown hg1 hbw (fun j hj => by cases hj; exact hr3)
    have hc3 : m + 1 ≤ maxLen := by unfold maxLen; omega
    have hc4 : (m + 1) * 8 ≤ 140737488355328 := by omega
    have hbw1 : w.heap.size ≤ w1.heap.size := hB1.size
    have HM0 := Hid.mk' hm0
    clear hO hB hrg hg1 HG hne hhas hm0
    go_wp2_with (at_builtin; refine wpList_append_own _ rfl (.tmp 16) (.tmp 18) 105 rfl w.heap.size 3 i0 (.int .i64 0) 1 8 Tryz.underlying105 hi hz0 hz1 hz2 rfl (by decide) _ _ _ rfl (hO1.2.alloc _) ⟨w1.heap.size, 0, none⟩ 1 1 (intVals [x]) rfl rfl (one_int_cells _ _ _) (intVals_oneCell _) hc3 hc4 (le_alloc _ _ hbw1) ?_)
    intro v4 w4 hown4 hgrow4 hnn
    have hnn' : ¬ v4 = .slice none 0 0 := by simpa using hnn
    obtain ⟨g4, cp4, hv4, hO4⟩ := ownZ_app hO1.1 hnn' hown4
    subst hv4
    have hO1a : OwnZ (w1.alloc (.cells #[.int .i64 x] 3)) w.heap.size g m cp ks := hO1.below ((Below.refl _ _).alloc (Nat.le_refl _) _)
    have hrga := HRG.out.alloc (.cells #[.int .i64 x] 3)
    have hne := ranges_ne hO1a hrga
    have hrg4 := hrga.kept hgrow4 (fun e => hne.1 (by simp [Value.ownBlock] at e; omega)) (fun e => hne.2 (by simp [Value.ownBlock] at e; omega))
    have hB4 : Below w.heap.size w w4 := (hB1.alloc hbw1 _).grown hgrow4 (le_alloc _ _ hbw1) (fun j hj => by simp [Value.ownBlock] at hj; have := hO1.lt; omega)
    have HO4 := Hid.mk' hO4
    have HR4 := Hid.mk' hrg4
    clear hown4 hgrow4 hnn hnn' hO4 hO1 hO1a hrga hne hB1 hrg4 HRG
    go_wp2_with (at_builtin; fail)
    go_roundw
    case rel => exact ⟨_, cnt1, g4, m + 1, cp4, ks ++ [x], HR4.out, rfl, HO4.out, HG1, by omega, hB4⟩
    case measure => rw [HR4.out.left_eq, HM0.out]; exact hlt
end ords
namespace ords
open Go Go.RowKit base pairs
open Go.Maps (Keyed keyOf_int_mk)
open Go.Sort (Holds)
set_option maxRecDepth 100000 in
set_option maxHeartbeats 2000000 in
theorem i_byShardA (a : Option Addr) (len cap : Nat) (l : List Od) (n : Int) (w : World) (h : SlO w a len l) (hks : ∀ p ∈ l, p.2.1.size ≤ 1099511627776) (hsz : len ≤ 1099511627776) (hn : (Lit.int .i64 n).wf = true) :
 Calls Tryz.prog 159 #[.slice a len cap, .int .i64 n] w fun e w' =>
  e = .returned (.map (some w.heap.size)) ∧ Groups w' w.heap.size (w.heap.size + 1) len (fun s => opsFor s n l) ∧ Below w.heap.size w w' := by
 obtain ⟨i0, hi, hz0, hz1, hz2⟩ := info_parts infoO
 have hl := h.1
 have hsm := h.2.2.1
 have hmm := @run_makeMap Tryz.prog
 subst hl
 go_enter Tryz.func159, Tryz.ntmps159
 go_wp2_with (at_builtin; fail)
 go_loopw [12] (fun i wr => ∃ k : Nat, k ≤ l.length ∧ i = .int .i64 (k : Int) ∧ Groups wr w.heap.size (w.heap.size + 1) k (fun s => opsFor s n (l.take k)) ∧ Below w.heap.size w wr) (fun i _ => l.length - (intOf i).toNat)
 case atStart => exact ⟨0, Nat.zero_le _, rfl, groups_made w, (Below.refl _ _).alloc (Nat.le_refl _) _⟩
 case round =>
  obtain ⟨k, hk, rfl, hT, hB⟩ := hrel
  clear hmm
  by_cases hlt : k < l.length
  · obtain ⟨b, off, hab, _⟩ := h.2.2.2 (by omega)
    subst hab
    obtain ⟨c0, c1, c2⟩ := (h.below hB).cells k hlt
    have hki : (k : Int) < (l.length : Int) := by omega
    have hpk := hsm _ (List.getElem_mem hlt)
    have hks' := hks _ (List.getElem_mem hlt)
    have HU := Hid.mk' (opsFor_upd n l k hlt)
    have hfl := opsFor_le (shardOf l[k].2.1 n) n (l.take k)
    have hlk : (l.take k).length ≤ k := List.length_take_le _ _
    have hsw := shardOf_wf l[k].2.1 n
    have hba : Below wr.heap.size wr (wr.alloc (.cells #[.int .i64 l[k].1, .string l[k].2.1, .string l[k].2.2] 126)) := (Below.refl _ _).alloc (Nat.le_refl _) _
    have HC := Hid.mk' (impl_shardOf l[k].2.1 n (wr.alloc (.cells #[.int .i64 l[k].1, .string l[k].2.1, .string l[k].2.2] 126)) hks' hn)
    generalize shardOf l[k].2.1 n = sh at *
    generalize l[k] = p at *
    go_wp2_with (at_builtin; fail)
    refine HC.out.mono ?_
    rintro e w3 ⟨rfl, hb3⟩
    obtain ⟨d0, d1, d2⟩ := box_cellO wr w3 p.1 p.2.1 p.2.2 hb3
    have hX3 : Below wr.heap.size wr w3 := hba.trans (hb3.mono hba.size)
    have hB3 : Below w.heap.size w w3 := hB.trans (hX3.mono hB.size)
    have hT3 := hT.below hX3
    have hsz3 : w.heap.size + 1 ≤ w3.heap.size := hT3.lt
    clear HC hb3 hX3 hB hT c0 c1 c2 hba
    go_wp2_with (at_lookup; refine wpList_look_groups _ rfl _ _ rfl rfl rfl hT3 hsw (by unfold maxLen; omega) ?_)
    intro v hown hsmv hback
    have hc3 : (opsFor sh n (l.take k)).length + 1 ≤ maxLen := by unfold maxLen; omega
    have hc4 : ((opsFor sh n (l.take k)).length + 1) * 40 ≤ 140737488355328 := by omega
    have HT3 := Hid.mk' hT3
    have HBK := Hid.mk' hback
    have HSM : Hid (∀ q ∈ opsFor sh n (l.take k), smallO q) := fun q hq => hsmv q.1 q.2.1 q.2.2 hq
    clear hback hT3 hsmv
    go_wp2_with (at_builtin; refine wpList_append_own_at _ rfl (.tmp 24) (.tmp 26) 98 rfl (w.heap.size + 1) 126 i0 (.agg #[.int .i64 0, .string ⟨#[]⟩, .string ⟨#[]⟩]) 3 40 Tryz.underlying98 hi hz0 hz1 hz2 rfl (by decide) _ _ _ rfl (hown.alloc _) ⟨w3.heap.size, 0, none⟩ 1 1 (ordVals [p]) rfl rfl (one_ord_cells _ _ _) (ordVals_oneCell _) hc3 hc4 (le_alloc _ _ hsz3) ?_)
    intro v4 w4 hown4 hgrow4 hnn hloc
    have hnn' : ¬ v4 = .slice none 0 0 := by simpa using hnn
    obtain ⟨g4, cp4, hv4, hO4⟩ := ownO_app rfl HSM.out hpk hnn' hown4
    subst hv4
    have hgr4 : w3.grownBy w4 v.ownBlock := World.grownBy.andThen ((World.grownBy_alloc w3 _ none).but v.ownBlock) hgrow4 (fun j hj => Or.inr hj)
    have hloc4 : some g4 = v.ownBlock ∨ w3.heap.size ≤ g4 := by
     rcases hloc with h1 | h1
     · exact Or.inl h1
     · simp [Value.ownBlock] at h1; exact Or.inr (by omega)
    have hB4 : Below w.heap.size w w4 := hB3.grown hgr4 hB3.size (fun j hj => by have := (hown.lt j hj).1; omega)
    clear hown hown4 hgrow4 hnn hnn' hloc hB3 HT3
    go_wp2_with (at_mapUpdate; refine wpList_store_back _ rfl _ _ _ rfl HBK.out rfl rfl rfl hgr4 hO4 (by simp) hloc4 ?_)
    intro w5 hT5 hgrow5
    rw [HU.out] at hT5
    have hB5 : Below w.heap.size w w5 := hB4.grown hgrow5 hB4.size (fun j hj => by cases hj; exact Nat.le_refl _)
    have HT5 := Hid.mk' hT5
    clear hgrow5 hB4 hT5 hO4 hgr4 hloc4 HBK
    go_wp2_with (at_builtin; fail)
    go_roundw
    case rel => exact ⟨k + 1, by omega, by go_num, HT5.out, hB5⟩
    case measure => simp [intOf]; omega
  · have HE : Hid (l.take k = l) := List.take_of_length_le (by omega)
    have hkl : k = l.length := by omega
    rw [HE.out] at hT
    go_wp2_with (at_builtin; fail)
    go_ret
    subst hkl
    exact ⟨rfl, hT, hB⟩
set_option maxRecDepth 100000 in
set_option maxHeartbeats 2000000 in
theorem impl_opsForA (a : Option Addr) (len cap : Nat) (l : List Od) (s n : Int) (w : World) (h : SlO w a len l) (hks : ∀ p ∈ l, p.2.1.size ≤ 1099511627776) (hsz : len ≤ 1099511627776) (hn : (Lit.int .i64 n).wf = true) (hs : (Lit.int .i64 s).wf = true) :
 Calls Tryz.prog 147 #[.slice a len cap, .int .i64 s, .int .i64 n] w fun e w' =>
  ∃ g' n' cap', e = .returned (.slice (some ⟨g', 0, none⟩) n' cap') ∧ OwnO w' w.heap.size g' n' cap' (opsFor s n l) ∧ Below w.heap.size w w' := by
 obtain ⟨i0, hi, hz0, hz1, hz2⟩ := info_parts infoO
 have hba : Below w.heap.size w (w.alloc (.cells #[] 126)) := (Below.refl _ _).alloc (Nat.le_refl _) _
 have hO1 := ownO_made w w.heap.size (Nat.le_refl _)
 have hC := i_byShardA a len cap l n _ (h.below hba) hks hsz hn
 have hsz1 : (w.alloc (.cells #[] 126)).heap.size = w.heap.size + 1 := by simp
 rw [hsz1] at hC
 have HC := Hid.mk' hC
 clear hC hsz1
 have hfl := opsFor_le s n l
 have hl := h.1
 go_enter Tryz.func147, Tryz.ntmps147
 go_wp2_with (at_builtin; fail)
 refine HC.out.mono ?_
 rintro e w2 ⟨rfl, hT, hb2⟩
 have hb2' : Below (w.alloc (.cells #[] 126)).heap.size (w.alloc (.cells #[] 126)) w2 := hb2.mono (by simp)
 have hB2 : Below w.heap.size w w2 := hba.trans (hb2'.mono hba.size)
 have hO2 := hO1.below hb2'
 have hbs := hB2.size
 clear HC hb2 hb2' hO1 hba
 go_wp2_with (at_lookup; refine wpList_look_groups _ rfl _ _ rfl rfl rfl hT hs (by unfold maxLen; omega) ?_)
 intro v hown hsmv hback
 have HSM : Hid (∀ q ∈ opsFor s n l, smallO q) := fun q hq => hsmv q.1 q.2.1 q.2.2 hq
 clear hback hsmv
 rcases hown.2 with ⟨hv, h0⟩ | ⟨g, cp, cur, hv, hbg, hgh, hnc, hcm, hcs, htk⟩
 · subst hv
   have hap := append_nil_arg w2 w.heap.size
   have hf : opsFor s n l = [] := List.eq_nil_of_length_eq_zero h0
   rw [← hf] at hO2
   have HO2 := Hid.mk' hO2
   clear hf h0 hown hO2 hT
   go_wp2_with fail
   go_ret
   exact ⟨_, _, _, rfl, HO2.out, hB2⟩
 · subst hv
   have hOg : OwnO w2 (w.heap.size + 1 + 1) g (opsFor s n l).length cp (opsFor s n l) := ⟨rfl, HSM.out, hown⟩
   have HCL := Hid.mk' (cells_ords hOg.cell)
   have hn0 := ordVals_length (opsFor s n l)
   have hm1 : 0 + (opsFor s n l).length ≤ maxLen := by unfold maxLen; omega
   have hm2 : (0 + (opsFor s n l).length) * 40 ≤ 140737488355328 := by omega
   have hown0 := hO2.2.2
   clear hown hbg hgh hnc hcm hcs htk hT hOg hO2
   generalize hF : opsFor s n l = F at *
   have HF := Hid.mk' hF
   clear hF
   generalize hFl : F.length = fl at *
   go_wp2_with (at_builtin; refine wpList_append_own _ rfl (.tmp 7) (.tmp 12) 98 rfl w.heap.size 126 i0 (.agg #[.int .i64 0, .string ⟨#[]⟩, .string ⟨#[]⟩]) 3 40 Tryz.underlying98 hi hz0 hz1 hz2 rfl (by decide) _ _ _ rfl hown0 ⟨g, 0, none⟩ fl cp (ordVals F) rfl hn0 HCL.out (ordVals_oneCell _) hm1 hm2 hbs ?_)
   intro v4 w4 hown4 hgrow4 hnn
   have hnn' : ¬ v4 = .slice none 0 0 := by simpa using hnn
   obtain ⟨g4, cp4, hv4, hO4⟩ := ownO_val (l := F) (n := 0 + fl) (by omega) HSM.out hnn' (by simpa [ordVals] using hown4)
   subst hv4
   have hB4 : Below w.heap.size w w4 := hB2.grown hgrow4 hbs (fun j hj => by simp [Value.ownBlock] at hj; omega)
   have HO4 := Hid.mk' hO4
   clear hown4 hgrow4 hnn hnn' hO4
   go_wp2_with (at_builtin; fail)
   go_ret
   exact ⟨_, _, _, rfl, by rw [HF.out]; exact HO4.out, hB4⟩
set_option maxRecDepth 100000 in
set_option maxHeartbeats 2000000 in
theorem impl_shardsOfA (a : Option Addr) (len cap : Nat) (l : List Od) (n : Int) (w : World) (h : SlO w a len l) (hks : ∀ p ∈ l, p.2.1.size ≤ 1099511627776) (hsz : len ≤ 1099511627776) (hn : (Lit.int .i64 n).wf = true) :
 Calls Tryz.prog 148 #[.slice a len cap, .int .i64 n] w fun e w' =>
  ∃ g' n' cap', e = .returned (.slice (some ⟨g', 0, none⟩) n' cap') ∧ OwnZ w' w.heap.size g' n' cap' (shardsOf n l) ∧ Below w.heap.size w w' := by
 obtain ⟨i0, hi, hz0, hz1, hz2⟩ := info_parts infoZ
 have hba : Below w.heap.size w (w.alloc (.cells #[] 3)) := (Below.refl _ _).alloc (Nat.le_refl _) _
 have hO1 := ownZ_made w w.heap.size (Nat.le_refl _)
 have hC := i_byShardA a len cap l n _ (h.below hba) hks hsz hn
 have hsz1 : (w.alloc (.cells #[] 3)).heap.size = w.heap.size + 1 := by simp
 rw [hsz1] at hC
 have HC := Hid.mk' hC
 clear hC hsz1
 go_enter Tryz.func148, Tryz.ntmps148
 go_wp2_with (at_builtin; fail)
 refine HC.out.mono ?_
 rintro e w2 ⟨rfl, hT, hb2⟩
 have hb2' : Below (w.alloc (.cells #[] 3)).heap.size (w.alloc (.cells #[] 3)) w2 := hb2.mono (by simp)
 have hB2 : Below w.heap.size w w2 := hba.trans (hb2'.mono hba.size)
 have hO2 := hO1.below hb2'
 have hbs := hB2.size
 obtain ⟨D, hown, hIs, hD⟩ := hT.owns
 have HD := Hid.mk' hD
 have hsD := size_has hown
 clear HC hb2 hb2' hO1 hba hT hD hIs
 go_wp2_with (at_range; refine wpList_range_own _ rfl _ 237 rfl 3 98 intLaw Tryz.underlying237 noR (w.heap.size + 1) len D rfl hown ?_)
 intro w3 hrg3 hg3 hs3
 have hO3 := hO2.grown hg3 (by simp)
 have hB3 : Below w.heap.size w w3 := hB2.grown hg3 hbs (fun j hj => by cases hj)
 have hr3 : w.heap.size ≤ w2.heap.size := hbs
 generalize w2.heap.size = rr at *
 clear hO2 hB2 hown hg3 hbs
 go_wp2_with (at_builtin; fail)
 go_loopw [5] (fun v wr => ∃ (left : Lit → Bool) (cnt g m cp : Nat) (ks : List Int), wr.ranges Tryz.prog 3 noR (w.heap.size + 1) rr len D left cnt ∧ v = .slice (some ⟨g, 0, none⟩) m cp ∧ OwnZ wr w.heap.size g m cp ks ∧ Hid (Coll D left ks) ∧ m + cnt ≤ len ∧ Below w.heap.size w wr) (fun _ wr => wr.rangeLeft (w.heap.size + 1) rr)
 case atStart => exact ⟨_, _, _, _, _, [], hrg3, rfl, hO3, Coll.start D, by omega, hB3⟩
 case round =>
  clear hrg3 hO3 hB3
  obtain ⟨left, cnt, g, m, cp, ks, hrg, rfl, hO, HG, hlen, hB⟩ := hrel
  have hbw := hB.size
  go_wp2_with (at_next; refine wpList_next_key _ rfl _ rfl (w.heap.size + 1) rr len D left cnt rfl hrg ?_ ?_)
  · intro hl0
    have HS := Hid.mk' (HG.out.sorted hl0 HD.out)
    have hml := hO.1
    have HSO := Hid.mk' (sorts.sort_int g 0 cp ks wr (ownZ_holds hO) hO.lt.2 (by omega))
    rw [hml] at HSO
    clear hrg hl0 HG
    go_wp2_with fail
    refine HSO.out.mono ?_
    rintro e w5 ⟨rfl, nn, os, hw5⟩
    obtain ⟨hO5, hg5⟩ := ownZ_sorted (nn := nn) (os := os) hO
    rw [← hw5] at hO5 hg5
    have hB5 : Below w.heap.size w w5 := hB.grown hg5 hbw (fun j hj => by cases hj; exact hO.lt.1)
    rw [HS.out] at hO5
    have HO5 := Hid.mk' hO5
    clear hw5 hg5 hO5 hO hB HSO
    go_wp2_with fail
    go_ret
    exact ⟨_, _, _, rfl, HO5.out, hB5⟩
  · intro x c w1 cnt1 hwx hlk hhas HRG hlt hg1 hen
    have hm0 : wr.rangeLeft (w.heap.size + 1) rr = cnt := hrg.left_eq
    have HG1 : Hid (Coll D (fun z => left z && !z.sameKey (.int .i64 x)) (ks ++ [x])) := HG.out.step hwx hlk hhas
    have hne := ranges_ne hO hrg
    have hO1 := hO.grown hg1 (fun e => hne.2 (by cases e; rfl))
    have hB1 : Below w.heap.size w w1 := hB.grown hg1 hbw (fun j hj => by cases hj; exact hr3)
    have hc3 : m + 1 ≤ maxLen := by unfold maxLen; omega
    have hc4 : (m + 1) * 8 ≤ 140737488355328 := by omega
    have hbw1 : w.heap.size ≤ w1.heap.size := hB1.size
    have HM0 := Hid.mk' hm0
    clear hO hB hrg hg1 HG hne hhas hm0
    go_wp2_with (at_builtin; refine wpList_append_own _ rfl (.tmp 16) (.tmp 18) 105 rfl w.heap.size 3 i0 (.int .i64 0) 1 8 Tryz.underlying105 hi hz0 hz1 hz2 rfl (by decide) _ _ _ rfl (hO1.2.alloc _) ⟨w1.heap.size, 0, none⟩ 1 1 (intVals [x]) rfl rfl (one_int_cells _ _ _) (intVals_oneCell _) hc3 hc4 (le_alloc _ _ hbw1) ?_)
    intro v4 w4 hown4 hgrow4 hnn
    have hnn' : ¬ v4 = .slice none 0 0 := by simpa using hnn
    obtain ⟨g4, cp4, hv4, hO4⟩ := ownZ_app hO1.1 hnn' hown4
    subst hv4
    have hO1a : OwnZ (w1.alloc (.cells #[.int .i64 x] 3)) w.heap.size g m cp ks := hO1.below ((Below.refl _ _).alloc (Nat.le_refl _) _)
    have hrga := HRG.out.alloc (.cells #[.int .i64 x] 3)
    have hne := ranges_ne hO1a hrga
    have hrg4 := hrga.kept hgrow4 (fun e => hne.1 (by simp [Value.ownBlock] at e; omega)) (fun e => hne.2 (by simp [Value.ownBlock] at e; omega))
    have hB4 : Below w.heap.size w w4 := (hB1.alloc hbw1 _).grown hgrow4 (le_alloc _ _ hbw1) (fun j hj => by simp [Value.ownBlock] at hj; have := hO1.lt; omega)
    have HO4 := Hid.mk' hO4
    have HR4 := Hid.mk' hrg4
    clear hown4 hgrow4 hnn hnn' hO4 hO1 hO1a hrga hne hB1 hrg4 HRG
    go_wp2_with (at_builtin; fail)
    go_roundw
    case rel => exact ⟨_, cnt1, g4, m + 1, cp4, ks ++ [x], HR4.out, rfl, HO4.out, HG1, by omega, hB4⟩
    case measure => rw [HR4.out.left_eq, HM0.out]; exact hlt
end ords
namespace recs
open Go Go.RowKit base pairs ords helps help lay
end recs
end Go.Proofs.YtijplooogplccaaGreat
