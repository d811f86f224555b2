/- The laws' helpers for rows of words: alike. The laws' marks on rows of words: whether they are held. -/
import Derived.Test.YtgiibadbjgdjcaaGreatBund13a
import Derived.Test.YtgiibadbjgdjcaaGreatBund12ar
import Derived.Test.YtgiibadbjgdjcaaGreatBund12bd
namespace Go.Proofs.YtgiibadbjgdjcaaGreat.cos
open Go Go.RowKit Go.Proofs.YtgiibadbjgdjcaaGreat.base Go.Proofs.YtgiibadbjgdjcaaGreat.pairs Go.Proofs.YtgiibadbjgdjcaaGreat.ords Go.Proofs.YtgiibadbjgdjcaaGreat.lay Go.Proofs.YtgiibadbjgdjcaaGreat.wds
set_option linter.unusedVariables false
set_option linter.unusedSimpArgs false

theorem word_at {w : World} {b off len : Nat} {l : List Wd} (h : SlG wordR w (some ⟨b, off, none⟩) len l) (i : Nat) (hi : i < l.length) :
    ∃ oa ol oc, w.cell? ⟨b, off + i * 5, none⟩ = some (.int .i64 l[i].1) ∧ w.cell? ⟨b, off + i * 5 + 1, none⟩ = some (.int .i64 l[i].2.1) ∧ w.cell? ⟨b, off + i * 5 + 2, none⟩ = some (.int .i64 l[i].2.2.1) ∧ w.cell? ⟨b, off + i * 5 + 3, none⟩ = some (.slice oa ol oc) ∧ w.cell? ⟨b, off + i * 5 + 4, none⟩ = some (.bool l[i].2.2.2.2) ∧ SlO w oa ol l[i].2.2.2.1 ∧ ol ≤ oc := by
  obtain ⟨u0, u1, u2, u3, u4, hs, c0, c1, c2, c3, c4⟩ := slg_at5 rfl h i hi
  obtain ⟨oa, ol, oc, e, _, _, _, h4, h5⟩ := word_see.1 hs
  simp only [List.cons.injEq, and_true] at e
  obtain ⟨rfl, rfl, rfl, rfl, rfl⟩ := e
  exact ⟨oa, ol, oc, c0, c1, c2, c3, c4, h4, h5⟩
set_option maxRecDepth 100000 in
set_option maxHeartbeats 1000000 in
theorem eqWord1T (k s t : Int) (y : Bool) (pa qa : Option Addr) (pl pc ql qc : Nat) (l : List Od) (w : World) (hx : SlO w pa pl l) (hy : SlO w qa ql l) :
    Calls Tryz.prog 72 #[.agg #[.int .i64 k, .int .i64 s, .int .i64 t, .slice pa pl pc, .bool y], .agg #[.int .i64 k, .int .i64 s, .int .i64 t, .slice qa ql qc, .bool y]] w fun e w' => e = .returned (.bool true) ∧ Below w.heap.size w w' := by
  obtain ⟨W, hW⟩ : ∃ W, (w.alloc (.cells #[.int .i64 k, .int .i64 s, .int .i64 t, .slice pa pl pc, .bool y] 112)).alloc (.cells #[.int .i64 k, .int .i64 s, .int .i64 t, .slice qa ql qc, .bool y] 112) = W := ⟨_, rfl⟩
  have hB : Below w.heap.size w W := by rw [← hW]; exact below_two _ _ _
  have vx : BoxIn w.heap.size 112 [] [.int .i64 k, .int .i64 s, .int .i64 t, .slice pa pl pc, .bool y] [] W := by rw [← hW]; exact (boxIn_new w _ _).below below_make
  have vy : BoxIn (w.heap.size + 1) 112 [] [.int .i64 k, .int .i64 s, .int .i64 t, .slice qa ql qc, .bool y] [] W := by
    rw [← hW]
    have := boxIn_new (w.alloc (.cells #[.int .i64 k, .int .i64 s, .int .i64 t, .slice pa pl pc, .bool y] 112)) [.int .i64 k, .int .i64 s, .int .i64 t, .slice qa ql qc, .bool y] 112
    rwa [show (w.alloc (.cells #[.int .i64 k, .int .i64 s, .int .i64 t, .slice pa pl pc, .bool y] 112)).heap.size = w.heap.size + 1 by simp] at this
  have HE := Hid.mk' (eqO pa qa pl pc ql qc l l W (hx.below hB) (hy.below hB) rfl)
  have HW := Hid.mk' hW
  clear hW
  cases y
  all_goals
    have hn1 : (k == k) = true := by simp
    have hn2 : (s == s) = true := by simp
    have hn3 : (t == t) = true := by simp
    go_enter Tryz.func72, Tryz.ntmps72
    go_wp2_with fail
    rw [HW.out]
    refine HE.out.mono ?_
    rintro e w1 ⟨rfl, hb1⟩
    have hB1 := hB.trans (hb1.mono hB.size)
    have x4 := (vx.below hb1).cell 4 _ rfl
    have y4 := (vy.below hb1).cell 4 _ rfl
    rw [show ([] : List Value).length + 4 = 4 from rfl] at x4 y4
    clear HE HW hb1 vx vy
    go_wp2_with fail
    go_ret
    exact ⟨rfl, hB1⟩
set_option maxRecDepth 100000 in
set_option maxHeartbeats 2000000 in
theorem eqWordsT (a a2 : Option Addr) (len cap cap2 : Nat) (l : List Wd) (w : World) (h : SlG wordR w a len l) (h2 : SlG wordR w a2 len l) :
    Calls Tryz.prog 27 #[.slice a len cap, .slice a2 len cap2] w fun e w' => e = .returned (.bool true) ∧ Below w.heap.size w w' := by
  have hl := h.1
  have hm := h.2.1
  unfold maxLen at hm
  have hb : ((len : Int) == (len : Int)) = true := by simp
  go_enter Tryz.func27, Tryz.ntmps27
  go_wp2_with fail
  go_loopw [5] (fun i wr => ∃ k : Nat, k ≤ len ∧ i = .int .i64 k ∧ Below w.heap.size w wr) (fun i _ => len - (intOf i).toNat)
  case atStart => exact ⟨0, Nat.zero_le _, rfl, Below.refl _ _⟩
  case round =>
    obtain ⟨k, hk, rfl, hB⟩ := hrel
    by_cases hlt : k < len
    · have hltl : k < l.length := by omega
      obtain ⟨b, off, e⟩ := slg_some h (by omega)
      obtain ⟨b2, off2, e2⟩ := slg_some h2 (by omega)
      subst e e2
      have hki : (k : Int) < (len : Int) := by omega
      obtain ⟨oa, ol, oc, c0, c1, c2, c3, c4, hO1, _⟩ := word_at (h.below hB) k hltl
      obtain ⟨ob, bl, bc, d0, d1, d2, d3, d4, hO2, _⟩ := word_at (h2.below hB) k hltl
      have o0 := last.On.cell (B := wr.heap.size) c0 (World.block_lt_of_cell? _ _ c0)
      have o1 := last.On.cell (B := wr.heap.size) c1 (World.block_lt_of_cell? _ _ c1)
      have o2 := last.On.cell (B := wr.heap.size) c2 (World.block_lt_of_cell? _ _ c2)
      have o3 := last.On.cell (B := wr.heap.size) c3 (World.block_lt_of_cell? _ _ c3)
      have o4 := last.On.cell (B := wr.heap.size) c4 (World.block_lt_of_cell? _ _ c4)
      have p0 := last.On.cell (B := wr.heap.size) d0 (World.block_lt_of_cell? _ _ d0)
      have p1 := last.On.cell (B := wr.heap.size) d1 (World.block_lt_of_cell? _ _ d1)
      have p2 := last.On.cell (B := wr.heap.size) d2 (World.block_lt_of_cell? _ _ d2)
      have p3 := last.On.cell (B := wr.heap.size) d3 (World.block_lt_of_cell? _ _ d3)
      have p4 := last.On.cell (B := wr.heap.size) d4 (World.block_lt_of_cell? _ _ d4)
      have hinh := last.On.inh wr.heap.size wr
      have hcall : ∀ x : last.On wr.heap.size wr, Calls Tryz.prog 72 #[.agg #[.int .i64 l[k].1, .int .i64 l[k].2.1, .int .i64 l[k].2.2.1, .slice oa ol oc, .bool l[k].2.2.2.2], .agg #[.int .i64 l[k].1, .int .i64 l[k].2.1, .int .i64 l[k].2.2.1, .slice ob bl bc, .bool l[k].2.2.2.2]] x.w fun e w' => e = .returned (.bool true) ∧ ∃ y : last.On wr.heap.size wr, w' = y.w := fun x => last.Calls.on x (Nat.le_refl _) (eqWord1T _ _ _ _ oa ob ol oc bl bc l[k].2.2.2.1 x.w (hO1.below x.2) (hO2.below x.2))
      clear h h2 hO1 hO2
      generalize l[k] = p at *
      go_wp2_with fail
      refine last.wp_region_on wr.heap.size (by kernel_rfl) (by kernel_rfl) ?_
      repeat (go_big_quiet_step ((go_at_call 72; exact hcall _)))
      refine wpQuiet_nil ?_
      intro w5 hw5
      obtain ⟨x5, hw5⟩ := hw5
      subst hw5
      have hB5 : Below w.heap.size w x5.w := hB.trans (x5.2.mono hB.size)
      go_wp2_with fail
      go_roundw
      case rel => exact ⟨k + 1, by omega, by go_num, hB5⟩
      case measure => simp [intOf]; omega
    · have hnk : ¬ (k : Int) < (len : Int) := by omega
      go_wp2_with fail
      go_ret
      exact ⟨rfl, hB⟩
end Go.Proofs.YtgiibadbjgdjcaaGreat.cos

namespace Go.Proofs.YtgiibadbjgdjcaaGreat.cos
open Go Go.RowKit Go.Proofs.YtgiibadbjgdjcaaGreat.base Go.Proofs.YtgiibadbjgdjcaaGreat.pairs Go.Proofs.YtgiibadbjgdjcaaGreat.ords Go.Proofs.YtgiibadbjgdjcaaGreat.lay Go.Proofs.YtgiibadbjgdjcaaGreat.wds
set_option linter.unusedVariables false
set_option linter.unusedSimpArgs false

def cntW (x : Wd) : Nat := 4 + 3 * x.2.2.2.1.length
/-- a word that is marked -/
def mW (k : Nat) (x : Wd) : Wd := ((k : Int), ((k + 1 : Nat) : Int), ((k + 2 : Nat) : Int), marksO (k + 3) x.2.2.2.1.length, decide ((k + 3 + 3 * x.2.2.2.1.length) % 3 = 0))
theorem mod3W (m : Nat) : (((m : Nat) : Int) % 3 == 0) = decide (m % 3 = 0) := by
  by_cases h : m % 3 = 0
  · rw [decide_eq_true h]; simp; omega
  · rw [decide_eq_false h]; simp; omega
set_option maxRecDepth 100000 in
set_option maxHeartbeats 2000000 in
theorem heldWordS (a : Option Addr) (n cap : Nat) (l : List Wd) (k0 : Nat) (w : World) (h : SlG wordR w a n (markRow mW cntW k0 l)) (hk1 : 1 ≤ k0) (hk : k0 + cntAll cntW l ≤ 1099511627776) :
    Calls Tryz.prog 33 #[.slice a n cap, .int .i64 (k0 : Int)] w fun e w' => e = .returned (.int .i64 ((k0 + cntAll cntW l : Nat) : Int)) ∧ Below w.heap.size w w' := by
  have hnl : n = l.length := by have := h.1; rw [markRow_length] at this; omega
  subst hnl
  have hlm := h.2.1
  unfold maxLen at hlm
  go_enter Tryz.func33, Tryz.ntmps33
  go_wp2_with fail
  go_loopw [5, 1] (fun iv kv wr => ∃ i : Nat, i ≤ l.length ∧ iv = .int .i64 (i : Int) ∧ kv = .int .i64 ((k0 + cntTo cntW l i : Nat) : Int) ∧ Below w.heap.size w wr) (fun iv _ _ => l.length - (intOf iv).toNat)
  case atStart => exact ⟨0, Nat.zero_le _, rfl, by rw [cntTo_zero]; rfl, Below.refl _ _⟩
  case round =>
    obtain ⟨i, hi, rfl, rfl, hB⟩ := hrel
    by_cases hlt : i < l.length
    · have hii : (i : Int) < (l.length : Int) := by omega
      obtain ⟨b, off, e⟩ := slg_some h (by omega)
      subst e
      have hlt2 : i < (markRow mW cntW k0 l).length := by rw [markRow_length]; exact hlt
      obtain ⟨oa, ol, oc, c0, c1, c2, c3, c4, hO, hoc⟩ := word_at (h.below hB) i hlt2
      have hat := markRow_at mW cntW k0 l i hlt
      simp only [hat] at c0 c1 c2 c4 hO
      have HCS := Hid.mk' (cntTo_succ cntW l i hlt)
      have hcl := cntTo_le cntW l (i + 1)
      obtain ⟨K, hK⟩ : ∃ K, k0 + cntTo cntW l i = K := ⟨_, rfl⟩
      rw [HCS.out] at hcl
      have hcj : K + cntW l[i] ≤ k0 + cntAll cntW l := by omega
      have HKN : Hid (K + cntW l[i] = k0 + cntTo cntW l (i + 1)) := by show _ = _; rw [HCS.out]; omega
      simp only [hK] at c0 c1 c2 c4 hO ⊢
      have hcn : cntW l[i] = 4 + 3 * l[i].2.2.2.1.length := rfl
      have hK1 : 1 ≤ K := by omega
      clear hcl hK hat
      generalize l[i] = x at *
      obtain ⟨kd, s, tx, ops, y⟩ := x
      simp only [mW] at c0 c1 c2 c4 hO hcn
      have hKb : K + 4 + 3 * ops.length ≤ 1099511627776 := by omega
      have HO := Hid.mk' (heldOps_R oa ol oc ops.length (K + 3) wr hO (by omega) (by omega))
      have e1 : ((K + 1 : Nat) : Int) = (K : Int) + 1 := by omega
      have e2 : ((K + 2 : Nat) : Int) = (K : Int) + 1 + 1 := by omega
      have HKI : Hid (((K : Nat) : Int) + 1 + 1 + 1 = ((K + 3 : Nat) : Int)) := by show _ = _; omega
      have HK4 : Hid (K + 4 + 3 * ops.length = k0 + cntTo cntW l (i + 1)) := by show _ = _; rw [← HKN.out, hcn]; omega
      have HM := Hid.mk' (mod3W (K + 3 + 3 * ops.length))
      rw [e1] at c1
      rw [e2] at c2
      have hlb := World.block_lt_of_cell? _ _ c4
      clear hO hcn HKN HCS hcj e1 e2
      have hne0 : ((K : Int) != (K : Int)) = false := by simp
      have hne1 : ((K : Int) + 1 != (K : Int) + 1) = false := by simp
      have hne2 : ((K : Int) + 1 + 1 != (K : Int) + 1 + 1) = false := by simp
      go_wp2_with fail
      rw [HKI.out]
      refine HO.out.mono ?_
      rintro e w2 ⟨rfl, hb2⟩
      have d4 := (hb2.cell (p := ⟨b, off + i * 5 + 4, none⟩) hlb).trans c4
      have hKKb : ((K + 3 + 3 * ops.length : Nat) : Int) ≤ 1099511627776 ∧ 0 ≤ ((K + 3 + 3 * ops.length : Nat) : Int) := by omega
      have HK5 : Hid (((K + 3 + 3 * ops.length : Nat) : Int) + 1 = ((k0 + cntTo cntW l (i + 1) : Nat) : Int)) := by show _ = _; rw [← HK4.out]; omega
      have hB2 := hB.trans (hb2.mono hB.size)
      clear c0 c1 c2 c3 c4 HO hne0 hne1 hne2 HK4 HKI
      generalize hMM : decide ((K + 3 + 3 * ops.length) % 3 = 0) = mm at *
      have hmm : (((K + 3 + 3 * ops.length : Nat) : Int) % 3 == 0) = mm := HM.out
      clear HM hMM
      generalize ((K + 3 + 3 * ops.length : Nat) : Int) = KK at *
      have hn0 : ¬ KK < 0 := by omega
      cases mm
      all_goals
        go_wp2_with fail
        go_roundw
        case rel => exact ⟨i + 1, by omega, by go_num, congrArg (Value.int .i64) HK5.out, hB2⟩
        case measure => simp [intOf]; omega
    · have he : i = l.length := by omega
      subst he
      rw [cntTo_all]
      go_wp2_with fail
      go_ret
      exact ⟨rfl, hB⟩
end Go.Proofs.YtgiibadbjgdjcaaGreat.cos
