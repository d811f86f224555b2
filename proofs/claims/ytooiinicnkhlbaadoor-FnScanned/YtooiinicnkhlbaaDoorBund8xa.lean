/- A byte with one bit turned. The draw of records that are right, one by one. -/
import Derived.Test.YtooiinicnkhlbaaDoorRows
import Derived.Test.YtooiinicnkhlbaaDoorBund8aa
import Derived.Test.YtooiinicnkhlbaaDoorBund8ab
import Derived.Test.YtooiinicnkhlbaaDoorBund8ad
import Derived.Test.YtooiinicnkhlbaaDoorBund8bb
import Derived.Test.YtooiinicnkhlbaaDoorBund8ax
namespace Go.Proofs.YtooiinicnkhlbaaDoor.turn
open Go Go.RowKit Go.Proofs.YtooiinicnkhlbaaDoor.base Go.Proofs.YtooiinicnkhlbaaDoor.help Go.Proofs.YtooiinicnkhlbaaDoor.nummath
set_option linter.unusedVariables false
theorem xor_right (h x y : Nat) (e : h ^^^ x = h ^^^ y) : x = y := by
  have := congrArg (h ^^^ ·) e
  simpa [← Nat.xor_assoc] using this
theorem rem_q (x N : Nat) (h : 0 < N) : ∃ q : Nat, q < N ∧ (x : Int).tmod (N : Int) = (q : Int) ∧ (x : Int) % (N : Int) = (q : Int) := by
  refine ⟨x % N, Nat.mod_lt _ h, ?_, by rw [Int.natCast_emod]⟩
  rw [Int.tmod_eq_emod_of_nonneg (by omega), Int.natCast_emod]
theorem rem_q8 (x : Nat) : ∃ q : Nat, q < 8 ∧ (x : Int).tmod 8 = (q : Int) ∧ (x : Int) % 8 = (q : Int) := by
  have := rem_q x 8 (by omega)
  simpa using this
theorem pow8 (r : Nat) (h : r < 8) : 1 ≤ 2 ^ r ∧ 2 ^ r < 256 := by
  have h1 : 2 ^ r ≤ 2 ^ 7 := Nat.pow_le_pow_right (by omega) (by omega)
  have h2 : 0 < 2 ^ r := Nat.two_pow_pos r
  omega
theorem shiftA (r : Nat) (h : r < 8) : IntKind.u8.wrap (2 ^ min (IntKind.u64.wrap (r : Int)).toNat 8) = ((2 ^ r : Nat) : Int) := by
  have hp := pow8 r h
  have e : IntKind.u64.wrap (r : Int) = (r : Int) := by rw [IntKind.wrap_u64]; omega
  rw [e, Int.toNat_natCast, Nat.min_eq_left (by omega), IntKind.wrap_u8, show ((2 : Int) ^ r) = ((2 ^ r : Nat) : Int) by simp]
  omega
theorem shiftB (r : Nat) (h : r < 8) : (2 : Int) ^ min r 8 % 256 = ((2 ^ r : Nat) : Int) := by
  have hp := pow8 r h
  rw [Nat.min_eq_left (by omega), show ((2 : Int) ^ r) = ((2 ^ r : Nat) : Int) by simp]
  omega
theorem turned (c r : Nat) (hc : c < 256) (hr : r < 8) : ∃ u : UInt8, bits .xor .u8 (c : Int) ((2 ^ r : Nat) : Int) = (u.toNat : Int) ∧ u.toNat ≠ c := by
  have hp := pow8 r hr
  have hx : c ^^^ 2 ^ r < 256 := Nat.xor_lt_two_pow (n := 8) (by omega) (by omega)
  refine ⟨UInt8.ofNat (c ^^^ 2 ^ r), ?_, ?_⟩
  · rw [u8_xor_nat c (2 ^ r) hc (by omega), byteN _ hx]
  · rw [byteN _ hx]
    intro e
    have := xor_right c (2 ^ r) 0 (by rw [Nat.xor_zero]; exact e)
    omega
end Go.Proofs.YtooiinicnkhlbaaDoor.turn

namespace Go.Proofs.YtooiinicnkhlbaaDoor.recs
open Go Go.RowKit Go.Proofs.YtooiinicnkhlbaaDoor.base Go.Proofs.YtooiinicnkhlbaaDoor.pairs Go.Proofs.YtooiinicnkhlbaaDoor.draw Go.Proofs.YtooiinicnkhlbaaDoor.ords
set_option linter.unusedVariables false
set_option linter.unusedSimpArgs false

def GotRs (w : World) (e : Ending) (w' : World) : Prop :=
  ∃ (l : List Rc) (g cp : Nat) (hs : List Value), l.length ≤ 5 ∧ (∀ r ∈ l, recOk r = true) ∧ e = .returned (.slice (some ⟨g, 0, none⟩) l.length cp) ∧ OwnR w' w.heap.size (.slice (some ⟨g, 0, none⟩) l.length cp) l hs ∧ Below w.heap.size w w'
set_option maxRecDepth 100000 in
set_option maxHeartbeats 2000000 in
theorem drawRecs (a : Option Addr) (len cap : Nat) (code : List UInt8) (w : World) (h : Sl w a len code) (hln : len ≤ 1099511627776) :
    Calls Tryd.prog 21 #[.slice a len cap] w fun e w' => GotRs w e w' := by
  obtain ⟨i0, hi, hz0, hz1, hz2⟩ := info_parts infoR
  go_enter Tryd.func21, Tryd.ntmps21
  go_wp2_with (at_builtin; fail)
  refine (new_ w w a len cap code h (Below.refl _ _) hln).mono ?_
  rintro e w1 ⟨rfl, hC1, hB1⟩
  have hs1 := hC1.lt
  have hba : Below w1.heap.size w1 (w1.alloc (.cells #[] 26)) := (Below.refl _ _).alloc (Nat.le_refl _) _
  have hOm := ownR_made w1 w1.heap.size (Nat.le_refl _)
  have hCa := hC1.below hba
  clear hC1 hB1
  go_wp2_with (at_builtin; fail)
  refine (below_ w _ w.heap.size a len cap code _ hCa (by omega) (by omega)).mono ?_
  rintro e w2 ⟨x, hx, rfl, hC2, hG2⟩
  have hO2 := hOm.grown hG2 (fun hb => by have := (hOm.lt _ hb).1; omega)
  have hs2 : w1.heap.size ≤ w2.heap.size := by have := hG2.size; simp at this; omega
  clear hba hOm hCa hG2
  go_wp2_with (at_builtin; fail)
  go_loopw [4, 5] (fun v i wr => ∃ (k : Nat) (l : List Rc) (g cp : Nat) (hs : List Value), i = .int .i64 (k : Int) ∧ v = .slice (some ⟨g, 0, none⟩) l.length cp ∧ l.length + k ≤ 5 ∧ Hid (∀ r ∈ l, recOk r = true) ∧ OwnR wr w1.heap.size (.slice (some ⟨g, 0, none⟩) l.length cp) l hs ∧ Cur w wr w.heap.size a len cap code ∧ w1.heap.size ≤ wr.heap.size) (fun _ i _ => (intOf i).toNat)
  case atStart => exact ⟨x, [], w1.heap.size, 0, [], rfl, rfl, by simp; omega, fun r hr => absurd hr List.not_mem_nil, hO2, hC2, hs2⟩
  case round =>
    clear hO2 hC2 hs2
    obtain ⟨k, l, g, cp, hs, rfl, rfl, hlk, hall, hO, hC, hsr⟩ := hrel
    by_cases hk0 : 0 < k
    · have hki : (0 : Int) < (k : Int) := by omega
      have hc3 : l.length + 1 ≤ maxLen := by unfold maxLen; omega
      have hc4 : (l.length + 1) * 40 ≤ 140737488355328 := by omega
      go_wp2_with (at_builtin; fail)
      refine (d_rec w _ w.heap.size a len cap code hC).mono ?_
      rintro e w2 ⟨r, v, hok, rfl, hV, hC2, hG2⟩
      have hO1 := hO.grown hG2 (fun hb => by have := (hO.lt _ hb).1; omega)
      have hs3 := hG2.size
      have hout : ∀ k, v.ownBlock = some k → ¬ BlkR (.slice (some ⟨g, 0, none⟩) l.length cp) hs k := fun k hk hb => by have h1 := (hV.lt k hk).1; have h2 := (hO.lt k hb).2; omega
      have hba2 : Below w2.heap.size w2 (w2.alloc (.cells #[.int .i64 r.1, .int .i64 r.2.1, v] 26)) := (Below.refl _ _).alloc (Nat.le_refl _) _
      have hO3 := hO1.below hba2
      have hV3 := (hV.mono (base' := w1.heap.size) hsr).below hba2
      have hC3 := hC2.below hba2
      have hs4 : w1.heap.size ≤ (w2.alloc (.cells #[.int .i64 r.1, .int .i64 r.2.1, v] 26)).heap.size := by simp; omega
      have HOC := Hid.mk' (one_rec_cells w2 r.1 r.2.1 v 26)
      have HON := Hid.mk' (one_rec_oneCell r.1 r.2.1 hV.one)
      have HAL : Hid (∀ y ∈ l ++ [r], recOk y = true) := fun y hy => by
        rcases List.mem_append.1 hy with h1 | h1
        · exact hall.out y h1
        · rw [List.mem_singleton.1 h1]; exact hok
      have hsm := recOk_small hok
      have hsh := hV.shape
      have HOU := Hid.mk' hout
      clear hO hO1 hV hba2 hout hC hC2 hG2 hall hok
      rcases hsh with ⟨hv, _⟩ | ⟨gv, cv, hv, _⟩
      all_goals
        subst hv
        go_wp2_with (at_builtin; refine wpList_append_own _ rfl (.tmp 15) (.tmp 18) 37 rfl w1.heap.size 26 i0 (.agg #[.int .i64 0, .int .i64 0, .slice none 0 0]) 3 40 Tryd.underlying37 hi hz0 hz1 hz2 rfl (by decide) _ _ _ rfl hO3.row ⟨w2.heap.size, 0, none⟩ 1 1 _ rfl rfl HOC.out HON.out hc3 hc4 hs4 ?_)
        intro v4 w4 hown4 hgrow4 hnn4
        have hnn' : ¬ v4 = .slice none 0 0 := by simpa using hnn4
        have hO4 := hO3.snoc hV3 hsm HOU.out hown4 hgrow4
        have hgl := (hO3.row.lt g rfl).1
        have hC4 := hC3.grown hgrow4 (by intro e; have e2 : some w.heap.size = some g := e; simp at e2; omega) (fun j e => by have := (hO3.row.lt j e).1; omega)
        have hs5 : w1.heap.size ≤ w4.heap.size := Nat.le_trans hs4 hgrow4.size
        rcases hO4.shape with ⟨hv4, _⟩ | ⟨g4, cp4, hv4, _⟩
        · exact absurd hv4 hnn'
        · subst hv4
          have HO4 := Hid.mk' hO4
          clear hown4 hgrow4 hnn4 hnn' hO4 hO3 hV3 HOC HON HOU hC3
          go_wp2_with (at_builtin; fail)
          go_roundw
          case rel => exact ⟨k - 1, l ++ [_], g4, cp4, _, by go_num, rfl, by simp; omega, HAL.out, HO4.out, hC4, hs5⟩
          case measure => simp [intOf]; omega
    · go_wp2_with (at_builtin; fail)
      go_ret
      exact ⟨l, g, cp, hs, by omega, hall.out, rfl, hO.mono (by omega), hC.bel⟩
end Go.Proofs.YtooiinicnkhlbaaDoor.recs
