/- The laws' own comparison of bytes, where they are alike. Draws of a record's bytes, bent or not, and of a place. -/
import Derived.Test.YtooiinicnkhlbaaDoorBund8ab
import Derived.Test.YtooiinicnkhlbaaDoorBund8bb
import Derived.Test.YtooiinicnkhlbaaDoorBund8an
import Derived.Test.YtooiinicnkhlbaaDoorBund8xa
import Derived.Test.YtooiinicnkhlbaaDoorBund8ay
namespace Go.Proofs.YtooiinicnkhlbaaDoor.base
open Go Go.RowKit
set_option linter.unusedVariables false
set_option linter.unusedSimpArgs false

set_option maxRecDepth 100000 in
set_option maxHeartbeats 1000000 in
theorem sameBytes (a a2 : Option Addr) (len cap cap2 : Nat) (bs : List UInt8) (w : World) (h : Sl w a len bs) (h2 : Sl w a2 len bs) :
    Calls Tryd.prog 20 #[.slice a len cap, .slice a2 len cap2] w fun e w' => e = .returned (.bool true) ∧ ∃ n, w' = w.drewN n := by
  obtain ⟨hl, hm, hc⟩ := h
  obtain ⟨hl2, hm2, hc2⟩ := h2
  subst hl
  unfold maxLen at hm
  clear hl2 hm2
  go_enter Tryd.func20, Tryd.ntmps20
  go_wp2_with fail
  go_loopw [5] (fun i wr => ∃ k : Nat, k ≤ bs.length ∧ i = .int .i64 k ∧ ∃ n, wr = w.drewN n) (fun i _ => bs.length - (intOf i).toNat)
  case atStart => exact ⟨0, Nat.zero_le _, rfl, 0, rfl⟩
  case round =>
    obtain ⟨k, hk, rfl, n, rfl⟩ := hrel
    by_cases hlt : k < bs.length
    · obtain ⟨b, off, ha, hcl⟩ := hc (by omega)
      obtain ⟨b2, off2, ha2, hcl2⟩ := hc2 (by omega)
      subst ha ha2
      have hi1 : (k : Int) < (bs.length : Int) := by omega
      have c1 : w.cell? ⟨b, off + k, none⟩ = some (.int .u8 bs[k].toNat) := hcl k hlt
      have c2 : w.cell? ⟨b2, off2 + k, none⟩ = some (.int .u8 bs[k].toNat) := hcl2 k hlt
      clear hcl hcl2 hc hc2
      go_wp2_with fail
      go_quiet (fail)
      go_wp2_with fail
      go_roundw
      case rel => exact ⟨k + 1, by omega, by go_num, _, rfl⟩
      case measure => simp [intOf]; omega
    · go_wp2_with fail
      go_ret
      exact ⟨rfl, n, rfl⟩
end Go.Proofs.YtooiinicnkhlbaaDoor.base

namespace Go.Proofs.YtooiinicnkhlbaaDoor.recs
open Go Go.RowKit Go.Proofs.YtooiinicnkhlbaaDoor.base Go.Proofs.YtooiinicnkhlbaaDoor.pairs Go.Proofs.YtooiinicnkhlbaaDoor.draw Go.Proofs.YtooiinicnkhlbaaDoor.ords Go.Proofs.YtooiinicnkhlbaaDoor.turn
set_option linter.unusedVariables false
set_option linter.unusedSimpArgs false

def GotGR (w : World) (e : Ending) (w' : World) : Prop :=
  ∃ (g n cp : Nat) (bs : List UInt8) (z : Int), n ≤ 1000 ∧ n ≤ cp ∧ e = .returned (.tuple #[.slice (some ⟨g, 0, none⟩) n cp, .int .i64 z]) ∧ -1 ≤ z ∧ z ≤ 1000 ∧ Sl w' (some ⟨g, 0, none⟩) n bs ∧ Below w.heap.size w w'
theorem sl_cutR {w : World} {b n x : Nat} {bs : List UInt8} (h : Sl w (some ⟨b, 0, none⟩) n bs) (hx : x ≤ n) : Sl w (some ⟨b, 0, none⟩) x (bs.take x) := by
  have hat := h.at
  have hl := h.1
  refine ⟨by simp; omega, by have := h.2.1; omega, fun _ => ⟨b, 0, rfl, fun i hi => ?_⟩⟩
  have hi' : i < bs.length := by simp at hi; omega
  rw [hat i hi', List.getElem_take]
theorem places (n : Nat) (hn : n ≤ 1000) : ∀ i, i < 6 → ∃ z, (#[.int .i64 0, .int .i64 0, .int .i64 0, .int .i64 1, .int .i64 (-1), .int .i64 (n : Int)] : Array Value)[i]? = some (.int .i64 z) ∧ (-1 ≤ z ∧ z ≤ 1000) := by
  intro i hi
  match i, hi with
  | 0, _ => exact ⟨0, rfl, by omega, by omega⟩
  | 1, _ => exact ⟨0, rfl, by omega, by omega⟩
  | 2, _ => exact ⟨0, rfl, by omega, by omega⟩
  | 3, _ => exact ⟨1, rfl, by omega, by omega⟩
  | 4, _ => exact ⟨-1, rfl, by omega, by omega⟩
  | 5, _ => exact ⟨n, rfl, by omega, by omega⟩
set_option maxRecDepth 100000 in
set_option maxHeartbeats 2000000 in
theorem drawGetRec (a : Option Addr) (len cap : Nat) (code : List UInt8) (w : World) (h : Sl w a len code) (hln : len ≤ 1099511627776) :
    Calls Tryd.prog 18 #[.slice a len cap] w fun e w' => GotGR w e w' := by
  obtain ⟨i0, hi, hz0, hz1, hz2⟩ := info_parts info8
  go_enter Tryd.func18, Tryd.ntmps18
  go_wp2_with (at_builtin; fail)
  refine (new_ w w a len cap code h (Below.refl _ _) hln).mono ?_
  rintro e w1 ⟨rfl, hC1, hB1⟩
  go_wp2_with (at_builtin; fail)
  refine (d_rec w _ _ a len cap code hC1).mono ?_
  rintro e w2 ⟨⟨k, t, l⟩, v, hok, rfl, hV2, hC2, hG2⟩
  have hV2 : OwnV w2 w1.heap.size v l := hV2
  obtain ⟨pa, pc, hvv, hslo, _⟩ := hV2.sl
  obtain ⟨n, hn⟩ : ∃ n, l.length = n := ⟨_, rfl⟩
  rw [hn] at hvv hslo
  subst hvv
  have HP := Hid.mk' (spec_putRec k t pa n pc l w2 hslo (recOk_keys hok))
  have hpr : putRec (k, t, l) = recBytes (k, t, l) := by unfold putRec; rw [hok]; rfl
  have hsr := rec_small (k, t, l)
  have hpos : 4 ≤ (recBytes (k, t, l)).length := by
    have h4 := sum4_length (bodyOf (k, t, l))
    simp only [recBytes, List.length_append]; omega
  rw [hpr] at HP
  have hlt1 := hC1.lt
  have hlt2 := hC2.lt
  generalize recBytes (k, t, l) = bs at *
  clear hok hV2 hG2 hslo hpr
  go_wp2_with (at_builtin; fail)
  refine HP.out.mono ?_
  rintro e w3 ⟨g3, n3, cp3, rfl, hO3, hb3⟩
  have hC3 := hC2.below hb3
  have hn3 := hO3.1
  have hgg3 := hO3.lt
  have hmx := hO3.max
  unfold maxLen at hmx
  clear HP hb3
  subst hn3
  go_wp2_with (at_builtin; fail)
  refine (below_ w _ _ a len cap code _ hC3 (by omega) (by omega)).mono ?_
  rintro e w4 ⟨x, hx, rfl, hC4, hG4⟩
  have hO4 := hO3.grown hG4 (by simp; omega)
  clear hO3 hG4 hC3
  by_cases x0 : x = 0
  · subst x0
    have hO4d : Own w4.drew w2.heap.size g3 bs.length cp3 bs := hO4
    have hcells : Hid (∀ (wx : World), Own wx w2.heap.size g3 bs.length cp3 bs → ∀ y, y < bs.length → ∃ c : Nat, c < 256 ∧ wx.cell? ⟨g3, y, none⟩ = some (.int .u8 (c : Int)) ∧ wx.frozen? ⟨g3, y, none⟩ = false) := fun wx hO y hy => ⟨(bs[y]).toNat, UInt8.toNat_lt _, hO.at y hy, hO.frozen y⟩
    go_wp2_with (at_builtin; fail)
    go_region_with (first
      | (go_at_call_of 50 (Value.int IntKind.i64 8); refine (below_ w _ _ a len cap code _ hC5 (by omega) (by omega)).mono ?_; rintro e w6 ⟨r, hr, rfl, hC6, hG6⟩; have hO6 := hO5.grown hG6 (by simp; omega); have c6 : w6.cell? ⟨g3, y, none⟩ = some (.int .u8 (c : Int)) := (hG6.cell c5 (by simp; omega)); have f6 := hO6.frozen y)
      | (go_at_call 50; refine (below_ w _ _ a len cap code _ hC4.drew (by omega) (by omega)).mono ?_; rintro e w5 ⟨y, hy, rfl, hC5, hG5⟩; have hO5 := hO4d.grown hG5 (by simp; omega); have hyl : y < bs.length := (by omega); obtain ⟨c, hc256, c5, f5⟩ := hcells.out w5 hO5 y hyl))
    all_goals
      have hr8 : r < 8 := by omega
      first | rw [shiftA r hr8] | rw [shiftB r hr8]
      obtain ⟨u, hu1, hu2⟩ := turned c r hc256 hr8
      rw [hu1]
      obtain ⟨R1, R2⟩ := own_set hO6 y u
      have hgg6 := hO6.lt
      have hC7 : Cur w (w6.setCell ⟨g3, y, none⟩ (.int .u8 u.toNat)) w.heap.size a len cap code := hC6.grown R2 (by simp; omega) (fun k e => by cases e; omega)
      have hS7 := R1.sl
      clear R1 R2 hC6 hO6 hO5 hC5 hG6 hG5 hcells c5 c6 f5 f6 hO4 hO4d hC4 hu1 hu2
      generalize w6.setCell ⟨g3, y, none⟩ (.int .u8 (u.toNat : Int)) = w7 at *
      go_wp2_with (at_builtin; fail)
      refine (int_ w _ _ a len cap code w7.heap.size 6 6 _ _ (hC7.below ((Below.refl _ _).alloc (Nat.le_refl _) _)) (heap_alloc_new w7 _) rfl (by omega) (by omega) (by have := hC7.lt; omega) (fun z => -1 ≤ z ∧ z ≤ 1000) (places bs.length (by omega))).mono ?_
      rintro e wz ⟨z, hz, rfl, hCz, hGz⟩
      have hSz := (hS7.below ((Below.refl _ _).alloc (Nat.le_refl _) _)).grown hGz (by simp; omega)
      have HSz := Hid.mk' hSz
      clear hSz hGz
      go_wp2_with (at_builtin; fail)
      go_ret2
      exact ⟨g3, bs.length, cp3, _, z, by omega, by omega, rfl, hz.1, hz.2, HSz.out, hCz.bel⟩
  have e0 : ((x : Int) == 0) = false := by simp; omega
  by_cases x1 : x = 1
  · subst x1
    go_wp2_with (at_builtin; fail)
    refine (below_ w _ _ a len cap code _ hC4 (by omega) (by omega)).mono ?_
    rintro e w5 ⟨y, hy, rfl, hC5, hG5⟩
    have hO5 := hO4.grown hG5 (by simp; omega)
    have hS5 := sl_cutR hO5.sl (by omega : y ≤ bs.length)
    have hgg5 := hO5.lt
    clear hO4 hO5 hG5 hC4
    go_wp2_with (at_builtin; fail)
    refine (int_ w _ _ a len cap code w5.heap.size 6 6 _ _ (hC5.below ((Below.refl _ _).alloc (Nat.le_refl _) _)) (heap_alloc_new w5 _) rfl (by omega) (by omega) (by have := hC5.lt; omega) (fun z => -1 ≤ z ∧ z ≤ 1000) (places y (by omega))).mono ?_
    rintro e wz ⟨z, hz, rfl, hCz, hGz⟩
    have hSz := (hS5.below ((Below.refl _ _).alloc (Nat.le_refl _) _)).grown hGz (by simp; omega)
    have HSz := Hid.mk' hSz
    clear hSz hGz
    go_wp2_with (at_builtin; fail)
    go_ret2
    exact ⟨g3, y, cp3, _, z, by omega, by omega, rfl, hz.1, hz.2, HSz.out, hCz.bel⟩
  have e1 : ((x : Int) == 1) = false := by simp; omega
  by_cases x2 : x = 2
  · subst x2
    have HSL := Hid.mk' (sl_cells hO4.sl)
    have hl2 : (byteVals bs).length = bs.length * 1 := by rw [byteVals_length]; omega
    have hc3 : bs.length + bs.length ≤ maxLen := by unfold maxLen; omega
    have hc4 : (bs.length + bs.length) * 1 ≤ 140737488355328 := by omega
    have hbw : w2.heap.size ≤ w4.heap.size := by have := hO4.lt; omega
    go_wp2_with (at_builtin; refine wpList_append_own _ rfl (.tmp 38) (.tmp 39) 22 rfl w2.heap.size 5 i0 (.int .u8 0) 1 1 Tryd.underlying22 hi hz0 hz1 hz2 rfl (by decide) _ _ _ rfl hO4.2 ⟨g3, 0, none⟩ bs.length cp3 (byteVals bs) rfl hl2 HSL.out (byteVals_oneCell _) hc3 hc4 hbw ?_)
    intro v5 w5 hown5 hgrow5 hnn5
    have hnn' : ¬ v5 = .slice none 0 0 := by simpa using hnn5
    obtain ⟨g5, cp5, hv5, hO5⟩ := own_cat hO4.1 hO4.1 hnn' hown5
    subst hv5
    have hC5 := hC4.grown hgrow5 (by simp [Value.ownBlock]; omega) (fun k e => by simp [Value.ownBlock] at e; omega)
    have hS5 := hO5.sl
    have hgg5 := hO5.lt
    have hmx5 := hO5.max
    clear hown5 hgrow5 hnn5 hnn' hO4 hO5 hC4 HSL
    go_wp2_with (at_builtin; fail)
    refine (int_ w _ _ a len cap code w5.heap.size 6 6 _ _ (hC5.below ((Below.refl _ _).alloc (Nat.le_refl _) _)) (heap_alloc_new w5 _) rfl (by omega) (by omega) (by have := hC5.lt; omega) (fun z => -1 ≤ z ∧ z ≤ 1000) (places (bs.length + bs.length) (by omega))).mono ?_
    rintro e wz ⟨z, hz, rfl, hCz, hGz⟩
    have hSz := (hS5.below ((Below.refl _ _).alloc (Nat.le_refl _) _)).grown hGz (by simp; omega)
    have HSz := Hid.mk' hSz
    clear hSz hGz
    go_wp2_with (at_builtin; fail)
    go_ret2
    exact ⟨g5, (bs.length + bs.length), cp5, _, z, by omega, by omega, rfl, hz.1, hz.2, HSz.out, hCz.bel⟩
  have e2 : ((x : Int) == 2) = false := by simp; omega
  have hS4 := hO4.sl
  have hgg4 := hO4.lt
  go_wp2_with (at_builtin; fail)
  refine (int_ w _ _ a len cap code w4.heap.size 6 6 _ _ (hC4.below ((Below.refl _ _).alloc (Nat.le_refl _) _)) (heap_alloc_new w4 _) rfl (by omega) (by omega) (by have := hC4.lt; omega) (fun z => -1 ≤ z ∧ z ≤ 1000) (places bs.length (by omega))).mono ?_
  rintro e wz ⟨z, hz, rfl, hCz, hGz⟩
  have hSz := (hS4.below ((Below.refl _ _).alloc (Nat.le_refl _) _)).grown hGz (by simp; omega)
  have HSz := Hid.mk' hSz
  clear hSz hGz
  go_wp2_with (at_builtin; fail)
  go_ret2
  exact ⟨g3, bs.length, cp3, _, z, by omega, by omega, rfl, hz.1, hz.2, HSz.out, hCz.bel⟩
end Go.Proofs.YtooiinicnkhlbaaDoor.recs
