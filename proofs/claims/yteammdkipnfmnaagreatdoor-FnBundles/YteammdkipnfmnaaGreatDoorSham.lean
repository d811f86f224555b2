/- A copy of a slice by append to an empty row of the call's own, nil or not; one struct appended. No function of the program is named here. An answer of one cell that is new. No function of the program is named here. The cursor from which the laws draw: what each call does to it. What the draws of the first chapter's laws hand back. Drawn tables with their seal: what the draw keeps from step to step. -/
import Derived.Test.YteammdkipnfmnaaGreatDoorShaf
import Derived.Maps.AppendAt
import Derived.Deep.AppendLies
import Derived.Test.YteammdkipnfmnaaGreatDoorRows
import Derived.Test.YteammdkipnfmnaaGreatDoorShaa
import Derived.Deep.RegionWith
import Derived.Test.YteammdkipnfmnaaGreatDoorShal
import Derived.Test.YteammdkipnfmnaaGreatDoorShag
namespace Go.Proofs.YteammdkipnfmnaaGreatDoor.cos
open Go Go.RowKit Go.Proofs.YteammdkipnfmnaaGreatDoor.base Go.Proofs.YteammdkipnfmnaaGreatDoor.lay
set_option linter.unusedVariables false
set_option linter.unusedSimpArgs false

section
variable {α : Type} {R : Rd α} {enc : α → List Value} {ok : α → Prop} {w : World} {l : List α}
theorem Flat.cells (hR : Flat R enc ok) {b off n : Nat} (h : SlG R w (some ⟨b, off, none⟩) n l) : ∀ j u, (l.flatMap enc)[j]? = some u → w.cell? ((⟨b, off, none⟩ : Addr).add j) = some u := by
  intro j u hj
  have hp : ∀ p ∈ l.map (fun x => (enc x, ([] : List Nat))), p.1.length = R.size := fun p hp => by
    obtain ⟨x, hx, rfl⟩ := List.mem_map.1 hp
    obtain ⟨vs, hv⟩ := h.2.2.1 x hx
    have := R.seeLen hv
    rwa [(hR.see.1 hv).1] at this
  have e1 : cellsOf (l.map (fun x => (enc x, ([] : List Nat)))) = l.flatMap enc := by unfold cellsOf; rw [List.flatMap_map]
  have hjl := (List.getElem?_eq_some_iff.1 hj).1
  rw [← e1, cellsOf_length hp, List.length_map] at hjl
  have hn0 : 0 < R.size := by
    rcases Nat.eq_zero_or_pos R.size with e | e
    · rw [e] at hjl; omega
    · exact e
  have hm := Nat.mod_lt j hn0
  have hjd : j / R.size < l.length := Nat.div_lt_of_lt_mul (by rw [Nat.mul_comm]; exact hjl)
  have e : j = j / R.size * R.size + j % R.size := by rw [Nat.mul_comm]; have := Nat.div_add_mod j R.size; omega
  rw [← e1] at hj
  obtain ⟨d, m, hd, hm2, hjm⟩ : ∃ d m, d < l.length ∧ m < R.size ∧ j = d * R.size + m := ⟨_, _, hjd, hm, e⟩
  clear e hm hjd hjl
  subst hjm
  rw [cellsOf_get hp d (by simpa using hd) m hm2] at hj
  simp only [List.getElem_map] at hj
  obtain ⟨b', off', e2, hc⟩ := h.2.2.2 (by have := h.1; omega)
  simp only [Option.some.injEq, Addr.mk.injEq, and_true] at e2
  obtain ⟨rfl, rfl⟩ := e2
  obtain ⟨vs, hs, hcl⟩ := hc d hd
  rw [(hR.see.1 hs).1] at hcl
  have := hcl _ _ hj
  rw [Addr.add_lit, ← Nat.add_assoc]
  exact this
theorem Flat.len (hR : Flat R enc ok) {a : Option Addr} {n : Nat} (h : SlG R w a n l) : (l.flatMap enc).length = n * R.size := by
  have hp : ∀ p ∈ l.map (fun x => (enc x, ([] : List Nat))), p.1.length = R.size := fun p hp => by
    obtain ⟨x, hx, rfl⟩ := List.mem_map.1 hp
    obtain ⟨vs, hv⟩ := h.2.2.1 x hx
    have := R.seeLen hv
    rwa [(hR.see.1 hv).1] at this
  have e1 : cellsOf (l.map (fun x => (enc x, ([] : List Nat)))) = l.flatMap enc := by unfold cellsOf; rw [List.flatMap_map]
  rw [← e1, cellsOf_length hp, List.length_map, h.1]
theorem Flat.oks (hR : Flat R enc ok) {a : Option Addr} {n : Nat} (h : SlG R w a n l) : ∀ x ∈ l, ok x := fun x hx => by
  obtain ⟨vs, hv⟩ := h.2.2.1 x hx
  exact (hR.see.1 hv).2
theorem Flat.copyRun {P : Program} (hR : Flat R enc ok) (h1 : ∀ x, ∀ u ∈ enc x, u.oneCell' = true) (hsz : 0 < R.size) {t e : TypeId} {z : Value} {bytes : Nat} (ht : P.underlying t = some (.slice e)) (hinfo : (P.info? e).map (fun i => (i.zero, i.size, i.bytes)) = some (some z, R.size, bytes)) (hzs : z.cells.size = R.size)
    (hnone : ∀ (w : World) (g c : Nat) (ty : TypeId), (Builtin.append_ #[t, t] ty #[.slice (some ⟨g, 0, none⟩) 0 0, .slice none 0 c]).run P w = .ok (.slice (some ⟨g, 0, none⟩) 0 0) w)
    (g : Nat) (a : Option Addr) (n c : Nat) (hg : w.ownsRow 0 e R.size (.slice (some ⟨g, 0, none⟩) 0 0) 0 []) (h : SlG R w a n l) (hb : n * bytes ≤ 140737488355328) (ty : TypeId) :
    ∃ g' cap' w', (Builtin.append_ #[t, t] ty #[.slice (some ⟨g, 0, none⟩) 0 0, .slice a n c]).run P w = .ok (.slice (some ⟨g', 0, none⟩) n cap') w' ∧ OwnG e R w' (.slice (some ⟨g', 0, none⟩) n cap') l (l.map fun x => (enc x, [])) ∧ w.grownBy w' (some g) ∧ (g' = g ∨ w.heap.size ≤ g') := by
  have hoks := hR.oks h
  have hlen := hR.len h
  have hl := h.1
  obtain ⟨i, hi, hz0, hz1, hz2⟩ := info_parts hinfo
  cases a with
  | none =>
    have hn0 : n = 0 := by
      rcases Nat.eq_zero_or_pos n with e | e
      · exact e
      · obtain ⟨b, off, e2, _⟩ := h.2.2.2 e; cases e2
    subst hn0
    have : l = [] := List.eq_nil_of_length_eq_zero hl
    subst this
    exact ⟨g, 0, w, hnone w g c ty, hR.made hg (fun x hx => absurd hx List.not_mem_nil), World.grownBy.refl _ _, .inl rfl⟩
  | some ad =>
    obtain ⟨v', w', hr, h2, h3, h4, h5⟩ := run_append_own_at (P := P) w 0 t ty e i z R.size bytes ht hi hz0 hz1 hz2 hzs hsz (.slice (some ⟨g, 0, none⟩) 0 0) 0 [] hg ad n c (l.flatMap enc) hlen (fun j u hj => by
      rcases Nat.eq_zero_or_pos n with e0 | e0
      · have : l = [] := List.eq_nil_of_length_eq_zero (by omega)
        subst this
        simp at hj
      · obtain ⟨b, off, e2, _⟩ := h.2.2.2 e0
        cases e2
        exact hR.cells h j u hj) (fun u hu => by
      obtain ⟨x, _, hx⟩ := List.mem_flatMap.1 hu
      exact h1 x u hx) (by have := h.2.1; omega) (by rw [Nat.zero_add]; exact hb) (Nat.zero_le _)
    rw [Nat.zero_add, List.nil_append] at h2
    rcases h2.2 with ⟨e2, _⟩ | ⟨g', cap', cur, e2, _⟩
    · exact absurd (h4.1 e2).1 (by simp)
    · subst e2
      refine ⟨g', cap', w', hr, hR.made (by rw [hl]; exact h2) hoks, h3, ?_⟩
      rcases h5 with h5 | h5
      · left; simpa [Value.ownBlock] using h5
      · right
        have : g' = w.heap.size := by simpa [Value.ownBlock] using h5
        omega
end
theorem OwnG.appRun {α : Type} {R : Rd α} {P : Program} {V : World} {t ty : TypeId} {z : Value} {bytes : Nat} (ht : P.underlying t = some (.slice ty)) (hinfo : (P.info? ty).map (fun i => (i.zero, i.size, i.bytes)) = some (some z, R.size, bytes)) (hzs : z.cells.size = R.size) (hsz : 0 < R.size)
    {v : Value} {l : List α} {q : Parts} {us : List Value} {x : α} {F : List Nat} (h : OwnG ty R V v l q) (hx : R.own V us x F) (hd : ∀ k ∈ F, k ∉ v.ownBlock.toList ++ blocksOf q) {X : Nat} {T : TypeId} (hX : BoxIn X T [] us [] V) (hm : l.length + 1 ≤ maxLen) (hb : (l.length + 1) * bytes ≤ 140737488355328) (tyo : TypeId) :
    ∃ g cap w', (Builtin.append_ #[t, t] tyo #[v, .slice (some ⟨X, 0, none⟩) 1 1]).run P V = .ok (.slice (some ⟨g, 0, none⟩) (l.length + 1) cap) w' ∧ OwnG ty R w' (.slice (some ⟨g, 0, none⟩) (l.length + 1) cap) (l ++ [x]) (q ++ [(us, F)]) ∧ V.grownBy w' v.ownBlock ∧ (v.ownBlock = some g ∨ g = V.heap.size) := by
  obtain ⟨i, hi, hz0, hz1, hz2⟩ := info_parts hinfo
  obtain ⟨g, cap, w', h1, h2, h3, h4, h5⟩ := run_append_lies (P := P) V t tyo 0 ty i z R.size bytes ht hi hz0 hz1 hz2 hzs hsz v l.length (cellsOf q) h.row ⟨X, 0, none⟩ 1 1 us (by rw [R.ownLen hx, Nat.one_mul]) (fun j u hj => by
    have := hX.cell j u hj
    rw [Addr.add_lit, Nat.zero_add]
    simpa using this) (R.ownOne hx) (by omega) hm hb (Nat.zero_le _) V.heap.size rfl
  exact ⟨g, cap, w', h1, OwnG.snoc h hx hd h2 h3 h4 rfl, h3, h4⟩
theorem wp_append_run {P : Program} {w w' : World} {o : Oper} {a : Act} {K : Act → World → Prop} {Q : Exit → Act → World → Prop} (s x : Operand) (t : TypeId) (ho : o.op = .call { callee := .builtin .append, args := #[s, x], argTypes := #[t, t] }) {v1 v2 v' : Value} (hs : a.eval s = v1) (hx : a.eval x = v2)
    (hr : (Builtin.append_ #[t, t] o.type #[v1, v2]).run P w = .ok v' w') (h : K (a.put o.dst v') w') : o.wp P a w K Q := by
  unfold Oper.wp execOp
  simp only [ho, resolve, invoke, builtin, Sem.run_bind, Sem.run_pure, Result.andThen_ok, List.map_toArray, List.map_cons, List.map_nil, hs, hx, hr]
  exact h
theorem step_append_run {P : Program} {ops : Array Oper} {o : Oper} {a : Act} {w w' : World} {K : Act → World → Prop} {Q : Exit → Act → World → Prop} {E : Prop} (hgd : o.guard = none) (s x : Operand) (t : TypeId)
    (ho : o.op = .call { callee := .builtin .append, args := #[s, x], argTypes := #[t, t] }) {v1 v2 v' : Value} (hs : a.eval s = v1) (hx : a.eval x = v2) (hr : (Builtin.append_ #[t, t] o.type #[v1, v2]).run P w = .ok v' w') (h : K (a.put o.dst v') w') :
    if Region.wanted o (yielded ops a.tmps) = true then Oper.wp P o a w K Q else E := by
  have hw : Region.wanted o (yielded ops a.tmps) = true := by simp [Region.wanted, hgd]
  rw [if_pos hw]
  exact wp_append_run s x t ho hs hx hr h
theorem wpList_append_run {P : Program} {ops : Array Oper} {rest : List Oper} {o : Oper} {a : Act} {w w' : World} {Q : Exit → Act → World → Prop} (hgd : o.guard = none) (s x : Operand) (t : TypeId)
    (ho : o.op = .call { callee := .builtin .append, args := #[s, x], argTypes := #[t, t] }) {v1 v2 v' : Value} (hs : a.eval s = v1) (hx : a.eval x = v2) (hr : (Builtin.append_ #[t, t] o.type #[v1, v2]).run P w = .ok v' w') (h : wpList P ops Q rest (a.put o.dst v') w') : wpList P ops Q (o :: rest) a w :=
  wpList_plain hgd fun _ hK => wp_append_run s x t ho hs hx hr (hK _ _ h)
end Go.Proofs.YteammdkipnfmnaaGreatDoor.cos

namespace Go.Proofs.YteammdkipnfmnaaGreatDoor.lay
open Go Go.RowKit
theorem slice_shape {α : Type} {ty : TypeId} {R : Rd α} {w : World} {v : Value} {l : List α} {F : List Nat} (h : (lay.slice ty R).own w [v] l F) : ∃ a n c, v = .slice a n c := by
  obtain ⟨v', q, e, _, h⟩ := h
  cases e
  rcases h.shape with ⟨e, _⟩ | ⟨g, c, e, _⟩
  · exact ⟨_, _, _, e⟩
  · exact ⟨_, _, _, e⟩
end Go.Proofs.YteammdkipnfmnaaGreatDoor.lay

namespace Go.Proofs.YteammdkipnfmnaaGreatDoor.draw
open Go.RowKit Go.Proofs.YteammdkipnfmnaaGreatDoor.base
set_option linter.unusedVariables false
set_option linter.unusedSimpArgs false

def Cur (w0 w : World) (gc : Nat) (a : Option Addr) (len cap : Nat) (code : List UInt8) : Prop :=
  Sl w0 a len code ∧ Below w0.heap.size w0 w ∧ w0.heap.size ≤ gc ∧ len ≤ 1099511627776 ∧
  ∃ i h : Int, 0 ≤ i ∧ i ≤ len ∧ w.heap[gc]? = some (.cells #[.slice a len cap, .int .i64 i, .int .i64 h] 85 (0, 0))

theorem and_byte (z : Int) : 0 ≤ bits .and .i64 z 255 ∧ bits .and .i64 z 255 ≤ 255 := by
  have e : bits .and .i64 z 255 = IntKind.i64.wrap (((BitVec.ofInt 64 z) &&& (BitVec.ofInt 64 255)).toNat : Int) := rfl
  have h : ((BitVec.ofInt 64 z) &&& (BitVec.ofInt 64 255)).toNat ≤ 255 := by
    rw [BitVec.toNat_and]
    exact Nat.le_trans Nat.and_le_right (by decide)
  rw [e, wraps_i64 _ (by omega) (by omega)]
  omega

theorem cur_of {w0 w w1 : World} {gc : Nat} {a : Option Addr} {len cap : Nat} {code : List UInt8} {i h : Int} (hS : Sl w0 a len code) (hB : Below w0.heap.size w0 w) (hgc : w0.heap.size ≤ gc) (hln : len ≤ 1099511627776)
    (hi0 : 0 ≤ i) (hi1 : i ≤ len) (hg : w.grownBy w1 (some gc)) (hr : w1.heap[gc]? = some (.cells #[.slice a len cap, .int .i64 i, .int .i64 h] 85 (0, 0))) : Cur w0 w1 gc a len cap code :=
  ⟨hS, hB.grown hg hB.size (fun k e => by cases e; exact hgc), hgc, hln, i, h, hi0, hi1, hr⟩

set_option maxRecDepth 100000 in
set_option maxHeartbeats 1000000 in
theorem byte_ (w0 w : World) (gc : Nat) (a : Option Addr) (len cap : Nat) (code : List UInt8) (h : Cur w0 w gc a len cap code) :
    Calls Tryz.prog 84 #[.pointer (some ⟨gc, 0, none⟩)] w fun e w' => ∃ x : Int, 0 ≤ x ∧ x ≤ 255 ∧ e = .returned (.int .i64 x) ∧ Cur w0 w' gc a len cap code ∧ w.grownBy w' (some gc) := by
  obtain ⟨hS, hB, hgc, hln, i, hh, hi0, hi1, hrow⟩ := h
  have c0 : w.cell? ⟨gc, 0, none⟩ = some (.slice a len cap) := cell_cur hrow 0 _ rfl
  have c1 : w.cell? ⟨gc, 1, none⟩ = some (.int .i64 i) := cell_cur hrow 1 _ rfl
  have c2 : w.cell? ⟨gc, 2, none⟩ = some (.int .i64 hh) := cell_cur hrow 2 _ rfl
  have f1 : w.frozen? ⟨gc, 1, none⟩ = false := frozen_of_row w gc 1 _ _ hrow
  have f2 : w.frozen? ⟨gc, 2, none⟩ = false := frozen_of_row w gc 2 _ _ hrow
  have HROW := Hid.mk' hrow
  clear hrow
  by_cases hlt : i < len
  · obtain ⟨I, rfl⟩ := Int.eq_ofNat_of_zero_le hi0
    have hS' := hS.below hB
    have hIl : I < code.length := by have := hS.1; omega
    obtain ⟨b, off, ha, hcl⟩ := hS.2.2 (by omega)
    subst ha
    have hbb : b < w0.heap.size := World.block_lt_of_cell? w0 _ (hcl I hIl)
    have hne : ¬ b = gc := by omega
    have hne2 : ¬ gc = b := by omega
    generalize hcc : code[I].toNat = c
    have hc256 : c < 256 := by rw [← hcc]; exact UInt8.toNat_lt _
    have c3 : w.cell? ⟨b, off + I, none⟩ = some (.int .u8 (c : Int)) := by rw [hS'.at I hIl, hcc]
    have hi3 : (I : Int) < (len : Int) := hlt
    clear hcl hcc hIl hS'
    go_enter Tryz.func84, Tryz.ntmps84
    go_wp2
    go_quiet (fail)
    go_wp2
    go_quiet (fail)
    go_wp2
    go_quiet (fail)
    go_wp2
    go_ret
    have hs := set_cur HROW.out 2 (.int .i64 (wrap64 (wrap64 (hh * 6364136223846793005) + 1442695040888963407)))
    have hs2 := fun n => set_cur (w := (w.setCell ⟨gc, 2, none⟩ (.int .i64 (wrap64 (wrap64 (hh * 6364136223846793005) + 1442695040888963407)))).drewN n) hs.1 1 (.int .i64 ((I : Int) + 1))
    have hg := fun n => grownBy_trans (grown_drewN hs.2 n) (hs2 n).2
    exact ⟨_, (and_byte _).1, (and_byte _).2, rfl, cur_of hS hB hgc hln (by omega) (by omega) (hg _) (hs2 _).1, hg _⟩
  · go_enter Tryz.func84, Tryz.ntmps84
    go_wp2
    go_quiet (fail)
    go_wp2
    go_quiet (fail)
    go_wp2
    go_ret
    have hs := set_cur HROW.out 2 (.int .i64 (wrap64 (wrap64 (hh * 6364136223846793005) + 1442695040888963407)))
    exact ⟨_, (and_byte _).1, (and_byte _).2, rfl, cur_of hS hB hgc hln hi0 hi1 (grown_drewN (grown_drewN hs.2 _) _) hs.1, grown_drewN (grown_drewN hs.2 _) _⟩

theorem Cur.lt {w0 w : World} {gc : Nat} {a : Option Addr} {len cap : Nat} {code : List UInt8} (h : Cur w0 w gc a len cap code) : gc < w.heap.size := by
  obtain ⟨_, _, _, _, i, hh, _, _, hr⟩ := h
  exact (Array.getElem?_eq_some_iff.1 hr).1
theorem Cur.bel {w0 w : World} {gc : Nat} {a : Option Addr} {len cap : Nat} {code : List UInt8} (h : Cur w0 w gc a len cap code) : Below w0.heap.size w0 w := h.2.1
theorem Cur.ge {w0 w : World} {gc : Nat} {a : Option Addr} {len cap : Nat} {code : List UInt8} (h : Cur w0 w gc a len cap code) : w0.heap.size ≤ gc := h.2.2.1
theorem Cur.grown {w0 w w1 : World} {gc : Nat} {a : Option Addr} {len cap : Nat} {code : List UInt8} {row : Option Nat} (h : Cur w0 w gc a len cap code) (hg : w.grownBy w1 row) (hne : some gc ≠ row) (hr : ∀ k, row = some k → w0.heap.size ≤ k) : Cur w0 w1 gc a len cap code := by
  have hlt := h.lt
  obtain ⟨hS, hB, hgc, hln, i, hh, hi0, hi1, hrow⟩ := h
  exact ⟨hS, hB.grown hg hB.size hr, hgc, hln, i, hh, hi0, hi1, by rw [hg.block gc hlt hne]; exact hrow⟩
theorem Cur.below {w0 w w1 : World} {gc : Nat} {a : Option Addr} {len cap : Nat} {code : List UInt8} (h : Cur w0 w gc a len cap code) (hb : Below w.heap.size w w1) : Cur w0 w1 gc a len cap code :=
  h.grown (row := none) ⟨hb.os, hb.tape, hb.output, hb.size, fun k hk _ => hb.block k hk⟩ (by simp) (fun k e => by cases e)

set_option maxRecDepth 100000 in
set_option maxHeartbeats 1000000 in
theorem below_ (w0 w : World) (gc : Nat) (a : Option Addr) (len cap : Nat) (code : List UInt8) (n : Int) (h : Cur w0 w gc a len cap code) (hn : 0 < n) (hn2 : n ≤ 1000000000) :
    Calls Tryz.prog 48 #[.pointer (some ⟨gc, 0, none⟩), .int .i64 n] w fun e w' => ∃ x : Nat, (x : Int) < n ∧ e = .returned (.int .i64 (x : Int)) ∧ Cur w0 w' gc a len cap code ∧ w.grownBy w' (some gc) := by
  by_cases hs : n ≤ 256
  · go_enter Tryz.func48, Tryz.ntmps48
    go_wp2_with fail
    refine (byte_ w0 _ gc a len cap code h).mono ?_
    rintro e w1 ⟨x, hx0, hx1, rfl, hc1, hg1⟩
    go_wp2_with fail
    go_ret
    have e1 : 0 ≤ x % n := Int.emod_nonneg _ (by omega)
    have e2 : x % n < n := Int.emod_lt_of_pos _ hn
    exact ⟨(x % n).toNat, by omega, ret_int (by omega), hc1, hg1⟩
  · go_enter Tryz.func48, Tryz.ntmps48
    go_wp2_with fail
    refine (byte_ w0 _ gc a len cap code h).mono ?_
    rintro e w1 ⟨x, hx0, hx1, rfl, hc1, hg1⟩
    go_wp2_with fail
    refine (byte_ w0 _ gc a len cap code hc1).mono ?_
    rintro e w2 ⟨y, hy0, hy1, rfl, hc2, hg2⟩
    go_wp2_with fail
    refine (byte_ w0 _ gc a len cap code hc2).mono ?_
    rintro e w3 ⟨z, hz0, hz1, rfl, hc3, hg3⟩
    go_wp2_with fail
    go_ret
    have e1 : 0 ≤ (x * 65536 + y * 256 + z) % n := Int.emod_nonneg _ (by omega)
    have e2 : (x * 65536 + y * 256 + z) % n < n := Int.emod_lt_of_pos _ hn
    exact ⟨((x * 65536 + y * 256 + z) % n).toNat, by omega, ret_int (by omega), hc3, grownBy_trans (grownBy_trans hg1 hg2) hg3⟩

theorem int_ (w0 w : World) (gc : Nat) (a : Option Addr) (len cap : Nat) (code : List UInt8) (gl n cp : Nat) (zs : Array Value) (mk : Nat × Nat) (h : Cur w0 w gc a len cap code) (hr : w.heap[gl]? = some (.cells zs 3 mk)) (hz : zs.size = n) (hn : 0 < n) (hn2 : n ≤ 1000) (hne : gl ≠ gc)
    (P : Int → Prop) (hP : ∀ i, i < n → ∃ z, zs[i]? = some (.int .i64 z) ∧ P z) :
    Calls Tryz.prog 91 #[.pointer (some ⟨gc, 0, none⟩), .slice (some ⟨gl, 0, none⟩) n cp] w fun e w' => ∃ z : Int, P z ∧ e = .returned (.int .i64 z) ∧ Cur w0 w' gc a len cap code ∧ w.grownBy w' (some gc) := by
  go_enter Tryz.func91, Tryz.ntmps91
  go_wp2_with fail
  refine (below_ w0 _ gc a len cap code _ h (by omega) (by omega)).mono ?_
  rintro e w1 ⟨x, hx, rfl, hc1, hg1⟩
  have hgl : gl < w.heap.size := (Array.getElem?_eq_some_iff.1 hr).1
  obtain ⟨z, hz1, hz2⟩ := hP x (by omega)
  have c1 : w1.cell? ⟨gl, x, none⟩ = some (.int .i64 z) := by
    have e1 := hg1.block gl hgl (by simpa using hne)
    rw [hr] at e1
    exact cell_cur e1 x _ hz1
  go_wp2_with fail
  go_ret
  exact ⟨z, hz2, rfl, hc1, hg1⟩

theorem str_ (w0 w : World) (gc : Nat) (a : Option Addr) (len cap : Nat) (code : List UInt8) (gl n cp : Nat) (zs : Array Value) (mk : Nat × Nat) (h : Cur w0 w gc a len cap code) (hr : w.heap[gl]? = some (.cells zs 9 mk)) (hz : zs.size = n) (hn : 0 < n) (hn2 : n ≤ 1000) (hne : gl ≠ gc)
    (P : ByteArray → Prop) (hP : ∀ i, i < n → ∃ z, zs[i]? = some (.string z) ∧ P z) :
    Calls Tryz.prog 53 #[.pointer (some ⟨gc, 0, none⟩), .slice (some ⟨gl, 0, none⟩) n cp] w fun e w' => ∃ z : ByteArray, P z ∧ e = .returned (.string z) ∧ Cur w0 w' gc a len cap code ∧ w.grownBy w' (some gc) := by
  go_enter Tryz.func53, Tryz.ntmps53
  go_wp2_with fail
  refine (below_ w0 _ gc a len cap code _ h (by omega) (by omega)).mono ?_
  rintro e w1 ⟨x, hx, rfl, hc1, hg1⟩
  have hgl : gl < w.heap.size := (Array.getElem?_eq_some_iff.1 hr).1
  obtain ⟨z, hz1, hz2⟩ := hP x (by omega)
  have c1 : w1.cell? ⟨gl, x, none⟩ = some (.string z) := by
    have e1 := hg1.block gl hgl (by simpa using hne)
    rw [hr] at e1
    exact cell_cur e1 x _ hz1
  go_wp2_with fail
  go_ret
  exact ⟨z, hz2, rfl, hc1, hg1⟩

set_option maxRecDepth 100000 in
set_option maxHeartbeats 1000000 in
theorem new_ (w0 w : World) (a : Option Addr) (len cap : Nat) (code : List UInt8) (h0 : Sl w0 a len code) (hB : Below w0.heap.size w0 w) (hln : len ≤ 1099511627776) :
    Calls Tryz.prog 17 #[.slice a len cap] w fun e w' => e = .returned (.pointer (some ⟨w.heap.size, 0, none⟩)) ∧ Cur w0 w' w.heap.size a len cap code ∧ Below w.heap.size w w' := by
  have hS := h0.below hB
  obtain ⟨hl, hm, hc⟩ := id hS
  subst hl
  go_enter Tryz.func17, Tryz.ntmps17
  go_wp2
  go_loop [3, 4] (fun hv i => ∃ (k : Nat) (hh : Int), k ≤ code.length ∧ i = .int .i64 (k : Int) ∧ hv = .int .i64 hh) (fun _ i => code.length - (intOf i).toNat)
  case atStart => exact ⟨0, _, Nat.zero_le _, rfl, rfl⟩
  case round =>
    obtain ⟨k, hh, hk, rfl, rfl⟩ := hrel
    by_cases hlt : k < code.length
    · by_cases h4 : k < 4000
      · obtain ⟨b, off, ha, hcl⟩ := hc (by omega)
        subst ha
        have c1 : w.cell? ⟨b, off + k, none⟩ = some (.int .u8 code[k].toNat) := hcl k hlt
        have hi1 : (k : Int) < (code.length : Int) := by omega
        clear hcl hc
        go_wp2
        go_round
        case rel => exact ⟨k + 1, _, by omega, by go_num, rfl⟩
        case measure => simp [intOf]; omega
      · go_wp2
        go_ret
        exact ⟨rfl, ⟨h0, hB.alloc hB.size _, hB.size, hln, 0, hh, by omega, by omega, heap_alloc_new w _⟩, (Below.refl _ _).alloc (Nat.le_refl _) _⟩
    · go_wp2
      go_ret
      exact ⟨rfl, ⟨h0, hB.alloc hB.size _, hB.size, hln, 0, hh, by omega, by omega, heap_alloc_new w _⟩, (Below.refl _ _).alloc (Nat.le_refl _) _⟩

def GotBytes (w0 w : World) (gc : Nat) (a : Option Addr) (len cap : Nat) (code : List UInt8) (e : Ending) (w' : World) : Prop :=
  ∃ (g m cp : Nat) (bs : List UInt8), m ≤ 1000 ∧ e = .returned (.slice (some ⟨g, 0, none⟩) m cp) ∧ Own w' w.heap.size g m cp bs ∧ Cur w0 w' gc a len cap code ∧ w.grownBy w' (some gc)
set_option maxRecDepth 100000 in
set_option maxHeartbeats 1000000 in
theorem bytes_ (w0 w : World) (gc : Nat) (a : Option Addr) (len cap : Nat) (code : List UInt8) (n : Int) (h : Cur w0 w gc a len cap code) (hn2 : n ≤ 1000) :
    Calls Tryz.prog 90 #[.pointer (some ⟨gc, 0, none⟩), .int .i64 n] w fun e w' => GotBytes w0 w gc a len cap code e w' := by
  obtain ⟨i0, hi, hz0, hz1, hz2⟩ := info_parts info8
  have hgcl := h.lt
  go_enter Tryz.func90, Tryz.ntmps90
  go_wp2_with (at_builtin; fail)
  go_loopw [5, 6] (fun v i wr => ∃ (k g cp : Nat) (bs : List UInt8), k ≤ 1000 ∧ i = .int .i64 (k : Int) ∧ v = .slice (some ⟨g, 0, none⟩) k cp ∧ Own wr w.heap.size g k cp bs ∧ Cur w0 wr gc a len cap code ∧ w.grownBy wr (some gc)) (fun _ i _ => (n - intOf i).toNat)
  case atStart => exact ⟨0, w.heap.size, 0, [], by omega, rfl, rfl, own_made w _ (Nat.le_refl _), h.below ((Below.refl _ _).alloc (Nat.le_refl _) _), grown_alloc (World.grownBy.refl _ _) _⟩
  case round =>
    obtain ⟨k, g, cp, bs, hk, rfl, rfl, hO, hC, hG⟩ := hrel
    by_cases hlt : (k : Int) < n
    · go_wp2_with fail
      refine (byte_ w0 _ gc a len cap code hC).mono ?_
      rintro e w1 ⟨x, hx0, hx1, rfl, hC1, hG1⟩
      have hO1 : Own w1 w.heap.size g k cp bs := hO.grown hG1 (by have := hO.lt; simp; omega)
      have hGG := grownBy_trans hG hG1
      have hbw : w.heap.size ≤ w1.heap.size := hGG.size
      have hc3 : k + 1 ≤ maxLen := by unfold maxLen; omega
      have hc4 : (k + 1) * 1 ≤ 140737488355328 := by omega
      clear hO hC hG hG1
      go_wp2_with (at_builtin; refine wpList_append_own _ rfl _ _ 22 rfl w.heap.size 5 i0 (.int .u8 0) 1 1 Tryz.underlying22 hi hz0 hz1 hz2 rfl (by decide) _ _ _ rfl (hO1.2.alloc _) ⟨w1.heap.size, 0, none⟩ 1 1 [_] rfl rfl (cell_one_new _ _ _) (one_oneCell _ _) hc3 hc4 (le_alloc _ _ hbw) ?_)
      intro v2 w2 hown hgrow hnn
      obtain ⟨g2, cap2, hv, hO2⟩ := own_app (m := 1) (ns := [UInt8.ofNat x.toNat]) hO1.1 rfl (one_val (byte_x x hx0 hx1)) hnn hown
      subst hv
      have hba : Below w1.heap.size w1 (w1.alloc (.cells #[.int .u8 x] 5)) := (Below.refl _ _).alloc (Nat.le_refl _) _
      have hgl := hO1.lt
      have hC2 := (hC1.below hba).grown hgrow (show some gc ≠ some g by simp; omega) (fun k e => by simp [Value.ownBlock] at e; have := h.ge; omega)
      have hG2 := grown_own (g := g) (grown_alloc hGG _) hgrow (by omega)
      have HO2 := Hid.mk' hO2
      clear hown hgrow hnn hO1 hO2 hC1 hGG hba
      go_wp2_with (at_builtin; fail)
      go_roundw
      case rel => exact ⟨k + 1, g2, cap2, _, by omega, by go_num, rfl, HO2.out, hC2, hG2⟩
      case measure => simp [intOf]; omega
    · go_wp2_with (at_builtin; fail)
      go_ret
      exact ⟨g, k, cp, bs, hk, rfl, hO, hC, hG⟩

end Go.Proofs.YteammdkipnfmnaaGreatDoor.draw

namespace Go.Proofs.YteammdkipnfmnaaGreatDoor.draw
open Go.RowKit Go.Proofs.YteammdkipnfmnaaGreatDoor.base
set_option linter.unusedVariables false
set_option linter.unusedSimpArgs false

theorem Cur.drew {w0 w : World} {gc : Nat} {a : Option Addr} {len cap : Nat} {code : List UInt8} (h : Cur w0 w gc a len cap code) : Cur w0 w.drew gc a len cap code :=
  ⟨h.1, h.2.1.drew, h.2.2⟩

set_option maxRecDepth 100000 in
set_option maxHeartbeats 1000000 in
theorem some_ (w0 w : World) (gc : Nat) (a : Option Addr) (len cap : Nat) (code : List UInt8) (h : Cur w0 w gc a len cap code) :
    Calls Tryz.prog 51 #[.pointer (some ⟨gc, 0, none⟩)] w fun e w' => GotBytes w0 w gc a len cap code e w' := by
  have hlt := h.lt
  have hba : ∀ o, Below w.heap.size w (w.alloc o) := fun o => (Below.refl _ _).alloc (Nat.le_refl _) _
  go_enter Tryz.func51, Tryz.ntmps51
  go_wp2_with fail
  refine (int_ w0 _ gc a len cap code w.heap.size 5 5 _ _ (h.below (hba _)) (heap_alloc_new w _) rfl (by omega) (by omega) (by omega) (fun z => z ≤ 1000) ?_).mono ?_
  · intro i hi
    match i, hi with
    | 0, _ => exact ⟨_, rfl, by omega⟩
    | 1, _ => exact ⟨_, rfl, by omega⟩
    | 2, _ => exact ⟨_, rfl, by omega⟩
    | 3, _ => exact ⟨_, rfl, by omega⟩
    | 4, _ => exact ⟨_, rfl, by omega⟩
  rintro e w1 ⟨z, hz, rfl, hC1, hG1⟩
  have hG1' := grownBy_trans (grown_alloc0 w _ (some gc)) hG1
  clear hG1
  go_wp2_with fail
  refine (bytes_ w0 _ gc a len cap code z hC1 hz).mono ?_
  rintro e w2 ⟨g, m, cp, bs, hm, rfl, hO2, hC2, hG2⟩
  go_wp2_with fail
  go_ret
  exact ⟨g, m, cp, bs, hm, rfl, hO2.mono hG1'.size, hC2, grownBy_trans hG1' hG2⟩

end Go.Proofs.YteammdkipnfmnaaGreatDoor.draw

namespace Go.Proofs.YteammdkipnfmnaaGreatDoor.bun
open Go Go.RowKit Go.Proofs.YteammdkipnfmnaaGreatDoor.base Go.Proofs.YteammdkipnfmnaaGreatDoor.pairs Go.Proofs.YteammdkipnfmnaaGreatDoor.tree Go.Proofs.YteammdkipnfmnaaGreatDoor.lay Go.Proofs.YteammdkipnfmnaaGreatDoor.seals Go.Proofs.YteammdkipnfmnaaGreatDoor.tabs Go.Proofs.YteammdkipnfmnaaGreatDoor.draw
set_option linter.unusedVariables false
set_option linter.unusedSimpArgs false

theorem row_box {w : World} {b : Nat} {e T : TypeId} {s n X : Nat} {v : Value} {xs pre vs post : List Value} (h : w.ownsRow b e s v n xs) (hX : BoxIn X T pre vs post w) (hT : e ≠ T) : v.ownBlock ≠ some X := by
  rcases h.2 with ⟨rfl, _⟩ | ⟨g, cap, cur, rfl, _, hg, _⟩
  · intro e2; cases e2
  · intro e2
    have h1 : g = X := by simpa [Value.ownBlock] using e2
    subst h1
    have h2 := hX.symm.trans hg
    simp only [Option.some.injEq, Obj.cells.injEq] at h2
    exact hT h2.2.1.symm
theorem row_row {w : World} {b b' : Nat} {e e' : TypeId} {s n s' n' : Nat} {v v' : Value} {xs xs' : List Value} (h : w.ownsRow b e s v n xs) (h' : w.ownsRow b' e' s' v' n' xs') (hT : e ≠ e') {k : Nat} (hk : v.ownBlock = some k) : v'.ownBlock ≠ some k := by
  rcases h.2 with ⟨rfl, _⟩ | ⟨g, cap, cur, rfl, _, hg, _⟩
  · cases hk
  · have h1 : g = k := by simpa [Value.ownBlock] using hk
    subst h1
    rcases h'.2 with ⟨rfl, _⟩ | ⟨g2, cap2, cur2, rfl, _, hg2, _⟩
    · intro e2; cases e2
    · intro e2
      have h1 : g2 = g := by simpa [Value.ownBlock] using e2
      subst h1
      have h2 := hg.symm.trans hg2
      simp only [Option.some.injEq, Obj.cells.injEq] at h2
      exact hT h2.2.1
theorem tabs_row {w : World} {v v' : Value} {ts : List (List Pr)} {q : Parts} {b : Nat} {e : TypeId} {s n : Nat} {xs : List Value} (h : OwnG 90 tableN w v ts q) (hr : w.ownsRow b e s v' n xs) (h1 : e ≠ 90) (h2 : e ≠ 34) : ∀ k ∈ v.ownBlock.toList ++ blocksOf q, v'.ownBlock ≠ some k := by
  intro k hk e2
  rcases List.mem_append.1 hk with hk | hk
  · exact row_row hr h.row h1 e2 (by simpa using hk)
  · obtain ⟨p, hp, hk⟩ := List.mem_flatMap.1 hk
    obtain ⟨i, hi, rfl⟩ := List.getElem_of_mem hp
    obtain ⟨g, n, c, e3, ht⟩ := h.each i (by have := h.len; omega)
    rw [e3] at ht
    obtain ⟨hr2, _, hF⟩ := table_own.1 ht
    rw [hF] at hk
    exact row_row hr hr2 h2 e2 (by simpa using hk)
theorem tabs_box {w : World} {v : Value} {ts : List (List Pr)} {q : Parts} {X : Nat} {T : TypeId} {pre vs post : List Value} (h : OwnG 90 tableN w v ts q) (hX : BoxIn X T pre vs post w) (h1 : T ≠ 90) (h2 : T ≠ 34) : X ∉ v.ownBlock.toList ++ blocksOf q := by
  intro hk
  rcases List.mem_append.1 hk with hk | hk
  · exact row_box h.row hX (fun e => h1 e.symm) (by simpa using hk)
  · obtain ⟨p, hp, hk⟩ := List.mem_flatMap.1 hk
    obtain ⟨i, hi, rfl⟩ := List.getElem_of_mem hp
    obtain ⟨g, n, c, e3, ht⟩ := h.each i (by have := h.len; omega)
    rw [e3] at ht
    obtain ⟨hr2, _, hF⟩ := table_own.1 ht
    rw [hF] at hk
    exact row_box hr2 hX (fun e => h2 e.symm) (by simpa using hk)
abbrev SE : TypeId := 49
structure TSt (w0 w wr : World) (gc : Nat) (a : Option Addr) (len cap : Nat) (code : List UInt8) (S R : Nat) (no : Int) (pv : ByteArray) (ga na ca : Nat) (al : List Pr) (vR : Value) (rs : List ByteArray) (qR : Parts) (gT nT cT : Nat) (ts : List (List Pr)) (qT : Parts) : Prop where
  cur : Cur w0 wr gc a len cap code
  grown : w.grownBy wr (some gc)
  lt : gc < w.heap.size
  box : BoxIn S SE [] [.int .i64 no, .string pv, .string ⟨#[]⟩, vR] [] wr
  ret : BoxIn R SE [] [.int .i64 0, .string ⟨#[]⟩, .string ⟨#[]⟩, .slice none 0 0] [] wr
  all : OwnP wr w.heap.size ga na ca al
  rts : OwnG 9 str wr vR rs qR
  tab : OwnG 90 tableN wr (.slice (some ⟨gT, 0, none⟩) nT cT) ts qT
  nS : w.heap.size ≤ S
  nR : w.heap.size ≤ R
  nSR : R ≠ S
  nV : ∀ k, vR.ownBlock = some k → w.heap.size ≤ k
  nT : ∀ k ∈ gT :: blocksOf qT, w.heap.size ≤ k
section
variable {w0 w wr w' : World} {gc : Nat} {a : Option Addr} {len cap : Nat} {code : List UInt8} {S R : Nat} {no : Int} {pv : ByteArray} {ga na ca : Nat} {al : List Pr} {vR : Value} {rs : List ByteArray} {qR : Parts} {gT nT cT : Nat} {ts : List (List Pr)} {qT : Parts}
theorem ownP_keep {w w' : World} {b g n c : Nat} {l : List Pr} (h : OwnP w b g n c l) (hk : w'.heap[g]? = w.heap[g]?) : OwnP w' b g n c l :=
  ⟨h.1, h.2.1, lay.row_of_block h.2.2 (fun k e => by have : g = k := by simpa [Value.ownBlock] using e
                                                     subst this; exact hk)⟩
theorem TSt.below (h : TSt w0 w wr gc a len cap code S R no pv ga na ca al vR rs qR gT nT cT ts qT) (hb : Below wr.heap.size wr w') : TSt w0 w w' gc a len cap code S R no pv ga na ca al vR rs qR gT nT cT ts qT :=
  ⟨h.cur.below hb, grown_below h.grown hb, h.lt, h.box.below hb, h.ret.below hb, h.all.below hb, h.rts.below hb, h.tab.below hb, h.nS, h.nR, h.nSR, h.nV, h.nT⟩
theorem TSt.app {us : List Value} {x : List Pr} {F : List Nat} {g' n' c' : Nat} (h : TSt w0 w wr gc a len cap code S R no pv ga na ca al vR rs qR gT nT cT ts qT) (hO : OwnG 90 tableN w' (.slice (some ⟨g', 0, none⟩) n' c') (ts ++ [x]) (qT ++ [(us, F)])) (hg : wr.grownBy w' (some gT)) (hat : gT = g' ∨ g' = wr.heap.size) (hF : ∀ k ∈ F, w.heap.size ≤ k) :
    TSt w0 w w' gc a len cap code S R no pv ga na ca al vR rs qR g' n' c' (ts ++ [x]) (qT ++ [(us, F)]) := by
  have hng := h.nT gT (by simp)
  have hlt := h.lt
  have hge := h.cur.ge
  have hs := h.grown.size
  have hgT : (Value.slice (some ⟨gT, 0, none⟩) nT cT).ownBlock = some gT := rfl
  refine ⟨h.cur.grown hg (fun e => by have := Option.some.inj e; omega) (fun k e => by have := Option.some.inj e; omega), grown_own h.grown hg hng, hlt, h.box.grown hg (fun e => row_box h.tab.row h.box (by decide) (hgT.trans e.symm)), h.ret.grown hg (fun e => row_box h.tab.row h.ret (by decide) (hgT.trans e.symm)), ownP_keep h.all (hg.block ga h.all.lt.2 (fun e => row_row h.tab.row h.all.2.2 (by decide) hgT (by rw [← e]; rfl))), h.rts.keep (fun k hk => hg.block k (h.rts.at_ k hk) (fun e => ?_)), hO, h.nS, h.nR, h.nSR, h.nV, fun k hk => ?_⟩
  · rcases List.mem_append.1 hk with hk | hk
    · exact row_row h.tab.row h.rts.row (by decide) hgT (by rw [show vR.ownBlock = some k by simpa using hk]; exact e)
    · rw [(cos.flat_str.parts h.rts).2.2.1] at hk; cases hk
  · rw [blocksOf_append] at hk
    rcases List.mem_cons.1 hk with e | e
    · rcases hat with e2 | e2
      · rw [e, ← e2]; exact hng
      · omega
    · rcases List.mem_append.1 e with e | e
      · exact h.nT k (List.mem_cons_of_mem _ e)
      · exact hF k (by simpa [blocksOf] using e)
theorem TSt.root {us : List Value} {r : ByteArray} {F : List Nat} {g' n' c' : Nat} (h : TSt w0 w wr gc a len cap code S R no pv ga na ca al vR rs qR gT nT cT ts qT) (hO : OwnG 9 str w' (.slice (some ⟨g', 0, none⟩) n' c') (rs ++ [r]) (qR ++ [(us, F)])) (hg : wr.grownBy w' vR.ownBlock) (hat : vR.ownBlock = some g' ∨ g' = wr.heap.size) :
    BoxIn S SE [] [.int .i64 no, .string pv, .string ⟨#[]⟩, vR] [] w' ∧ TSt w0 w (w'.setCell ⟨S, 3, none⟩ (.slice (some ⟨g', 0, none⟩) n' c')) gc a len cap code S R no pv ga na ca al (.slice (some ⟨g', 0, none⟩) n' c') (rs ++ [r]) (qR ++ [(us, F)]) gT nT cT ts qT := by
  have hlt := h.lt
  have hge := h.cur.ge
  have hs := h.grown.size
  have hgc : some gc ≠ vR.ownBlock := fun e => by have := h.nV gc e.symm; omega
  have hb1 := h.box.grown hg (fun e => row_box h.rts.row h.box (by decide) e.symm)
  have hr1 := h.ret.grown hg (fun e => row_box h.rts.row h.ret (by decide) e.symm)
  have ha1 := ownP_keep h.all (hg.block ga h.all.lt.2 (fun e => row_row (v := .slice (some ⟨ga, 0, none⟩) na ca) h.all.2.2 h.rts.row (by decide) (k := ga) rfl e.symm))
  have ht1 := h.tab.keep (fun k hk => hg.block k (h.tab.at_ k hk) (fun e => tabs_row h.tab h.rts.row (by decide) (by decide) k hk e.symm))
  have hc1 := h.cur.grown hg hgc (fun k e => by have := h.nV k e; omega)
  have hG1 : w.grownBy w' (some gc) := by
    cases e : vR.ownBlock with
    | none =>
      rw [e] at hg
      exact ⟨hg.os.trans h.grown.os, hg.tape.trans h.grown.tape, hg.output.trans h.grown.output, Nat.le_trans h.grown.size hg.size, fun k hk hne => (hg.block k (Nat.lt_of_lt_of_le hk h.grown.size) (by simp)).trans (h.grown.block k hk hne)⟩
    | some x => rw [e] at hg; exact grown_own h.grown hg (h.nV x e)
  have hS := hb1.set 3 (by simp) (.slice (some ⟨g', 0, none⟩) n' c')
  simp only [List.length_nil, Nat.zero_add, List.set_cons_succ, List.set_cons_zero] at hS
  refine ⟨hb1, hc1.grown hS.2 (fun e => by have := Option.some.inj e; have := h.nS; omega) (fun k e => by have := Option.some.inj e; have := h.nS; omega), grown_own hG1 hS.2 h.nS, hlt, hS.1, hr1.grown hS.2 (fun e => h.nSR (Option.some.inj e)), ownP_keep ha1 (hS.2.block ga ha1.lt.2 (fun e => row_box ha1.2.2 hb1 (by decide) (by rw [← e]; rfl))), hO.keep (fun k hk => hS.2.block k (hO.at_ k hk) (fun e => ?_)), ht1.keep (fun k hk => hS.2.block k (ht1.at_ k hk) (fun e => tabs_box ht1 hb1 (by decide) (by decide) (by rw [← Option.some.inj e]; exact hk))), h.nS, h.nR, h.nSR, fun k hk => ?_, h.nT⟩
  · rcases List.mem_append.1 hk with hk | hk
    · exact row_box hO.row hb1 (by decide) (by rw [← e]; simpa using hk)
    · rw [(cos.flat_str.parts hO).2.2.1] at hk; cases hk
  · have e1 : g' = k := by simpa [Value.ownBlock] using hk
    rcases hat with e2 | e2
    · have := h.nV g' e2; omega
    · omega
end
end Go.Proofs.YteammdkipnfmnaaGreatDoor.bun
