/- What the draws of seals hand back: chains, or chains with one seal bent. Codes that are too long. What all laws share whose road reads the table of the rounds' words: the table reads as its datum, so its cells are the words. -/
import Derived.Test.YtfaldffehpgaiaaDoorShaj
import Derived.Test.YtfaldffehpgaiaaDoorShaa
import Derived.Test.YtfaldffehpgaiaaDoorRows
import Derived.Test.YtfaldffehpgaiaaDoorShaf
import Derived.ProofKit
import Derived.OpenShut
import Derived.ShutString
import Derived.ChangeOld
import Derived.Below
import Derived.ChangeVars
import Derived.OpenVars
import Derived.LaidMore
import Derived.Lay
import Derived.LaidOnce
import Derived.SevenTiedAt
namespace Go.Proofs.YtfaldffehpgaiaaDoor.seals
open Go Go.RowKit Go.Proofs.YtfaldffehpgaiaaDoor.base Go.Proofs.YtfaldffehpgaiaaDoor.pairs Go.Proofs.YtfaldffehpgaiaaDoor.tree Go.Proofs.YtfaldffehpgaiaaDoor.lay Go.Proofs.YtfaldffehpgaiaaDoor.draw
set_option linter.unusedVariables false
set_option linter.unusedSimpArgs false

set_option maxRecDepth 100000 in
set_option maxHeartbeats 4000000 in
theorem d_any15 (w0 w : World) (gc : Nat) (a : Option Addr) (len cap : Nat) (code : List UInt8) (h : Cur w0 w gc a len cap code) :
    Calls Tryd.prog 21 #[.pointer (some ⟨gc, 0, none⟩)] w fun e w' => GotSeals w0 w gc a len cap code Bent1 e w' := by
  have HDR := Hid.mk' (d_draw w0 w gc a len cap code h)
  clear h
  go_enter Tryd.func21, Tryd.ntmps21
  go_wp2_with fail
  refine HDR.out.mono ?_
  rintro e w1 ⟨g, n, c, l, q, rfl, hD, hl3, hfr⟩
  have hln := hD.lens
  have HLN := Hid.mk' hln.1
  have hn3 : n ≤ 3 := by omega
  have HFR := Hid.mk' hfr
  have HD := Hid.mk' hD
  have hcur := hD.cur
  clear HDR hln hfr hD
  by_cases h0 : 0 < n
  · have hki : (0 : Int) < (n : Int) := by omega
    have HON := Hid.mk' (d_once w0 w1 gc a len cap code 3 hcur (by omega) (by omega))
    clear hcur
    go_wp2_with fail
    refine HON.out.mono ?_
    rintro e w2 ⟨bb, rfl, hc2, hg2⟩
    have HD2 := Hid.mk' (HD.out.step hc2 hg2)
    clear HD HON hg2
    cases bb
    · go_wp2_with fail
      go_ret
      exact ⟨g, n, c, l, q, rfl, HD2.out, hl3, fun s hs => (HFR.out s hs).bent⟩
    · have HBL := Hid.mk' (below_ w0 w2 gc a len cap code (n : Int) hc2 (by omega) (by omega))
      clear hc2
      go_wp2_with fail
      refine HBL.out.mono ?_
      rintro e w3 ⟨k, hk, rfl, hc3, hg3⟩
      have hD3 := HD2.out.step hc3 hg3
      clear HD2 HBL hg3
      have hkn : k < n := by omega
      have hkl : k < l.length := by have := HLN.out; omega
      have hki : (k : Int) < (n : Int) := hk
      have hsl := hD3.own.sl
      obtain ⟨ra, rn, rc, c0, c1, c2, c3, hS, _⟩ := seal_at hsl k hkl
      simp only [Nat.zero_add] at c0 c1 c2 c3
      have HBE := Hid.mk' (d_bend w0 w3 gc a len cap code l[k] ra rn rc hc3 (HFR.out _ (List.getElem_mem hkl)) (by
        obtain ⟨a', n', c', e, _, hx⟩ := texts_see.2 (show SlS w3 ra rn l[k].2.2.2 ∧ rn ≤ rn from ⟨hS, Nat.le_refl _⟩)
        cases e
        exact hx))
      have HD3 := Hid.mk' hD3
      generalize l[k] = s at *
      clear hsl hS hD3 hc3 hk
      go_wp2_with fail
      refine HBE.out.mono ?_
      rintro e w4 ⟨us, s', F, rfl, hO4, hF4, hbent, hc4, hg4⟩
      obtain ⟨xa, xn, xc, rfl⟩ := seal_vals hO4
      have hD4 := HD3.out.step hc4 hg4
      have hlt3 : ∀ b ∈ g :: blocksOf q, b < w3.heap.size := fun b hb => HD3.out.own.at_ b (by simpa [Value.ownBlock] using hb)
      have hs3 := HD3.out.grown.size
      have hP := hD4.put k hkl [.int .i64 s'.1, .string s'.2.1, .string s'.2.2.1, .slice xa xn xc] s' F hO4 (fun b hb hc => by have h1 := hF4 b hb; have h2 := hlt3 b hc; omega) (fun b hb => by have h1 := hF4 b hb; omega)
      obtain ⟨ya, yn, yc, d0, d1, d2, d3, _⟩ := seal_at hD4.own.sl k hkl
      simp only [Nat.zero_add] at d0 d1 d2 d3
      have f0 := hD4.own.frozen (k * 4)
      have f1 := hD4.own.frozen (k * 4 + 1)
      have f2 := hD4.own.frozen (k * 4 + 2)
      have f3 := hD4.own.frozen (k * 4 + 3)
      have HP := Hid.mk' hP
      have HAL : Hid (∀ y ∈ l.set k s', Bent1 y) := fun y hy => by
        rcases List.mem_or_eq_of_mem_set hy with e | e
        · exact (HFR.out y e).bent
        · rw [e]; exact hbent
      clear hP hD4 hO4 hF4 hlt3 hbent hc4 hg4 c0 c1 c2 c3 HBE
      generalize l[k] = y at *
      go_wp2_with fail
      go_ret
      exact ⟨g, n, c, l.set k s', _, rfl, HP.out, by simpa using hl3, HAL.out⟩
  · have hki : ¬ (0 : Int) < (n : Int) := by omega
    go_wp2_with fail
    go_ret
    exact ⟨g, n, c, l, q, rfl, HD.out, hl3, fun s hs => (HFR.out s hs).bent⟩
set_option maxRecDepth 100000 in
theorem drawChain (a : Option Addr) (len cap : Nat) (code : List UInt8) (w : World) (h : Sl w a len code) (hln : len ≤ 1099511627776) :
    Calls Tryd.prog 7 #[.slice a len cap] w fun e w' => ∃ b n c l, e = .returned (.slice b n c) ∧ SlG sealR w' b n l ∧ n ≤ c ∧ c ≤ maxLen ∧ l.length ≤ 3 ∧ (∀ s ∈ l, Bent1 s) ∧ Below w.heap.size w w' := by
  go_enter Tryd.func7, Tryd.ntmps7
  go_wp2_with fail
  refine (new_ w w a len cap code h (Below.refl _ _) hln).mono ?_
  rintro e w1 ⟨rfl, hC1, hB1⟩
  have HA := Hid.mk' (d_any15 w w1 _ a len cap code hC1)
  clear hC1 h
  go_wp2_with fail
  refine HA.out.mono ?_
  rintro e w2 ⟨g, n, c, l, q, rfl, hD, hl3, hbe⟩
  have hls := hD.lens
  have HX : Hid (SlG sealR w2 (some ⟨g, 0, none⟩) n l ∧ n ≤ c ∧ c ≤ maxLen ∧ l.length ≤ 3 ∧ (∀ s ∈ l, Bent1 s) ∧ Below w.heap.size w w2) := ⟨hD.own.sl, hls.2.1, hls.2.2, hl3, hbe, hD.cur.bel⟩
  clear hD hls hbe hl3
  go_wp2_with fail
  go_ret
  exact ⟨_, n, c, l, rfl, HX.out⟩
theorem link_take {l : List Seal} {k j : Nat} (hj : j < k) (hk : k ≤ l.length) : link (l.take k) j = link l j := by
  have h1 : j < (l.take k).length := by simp; omega
  have h2 : j < l.length := by omega
  have h3 : (l.take k)[j] = l[j] := List.getElem_take
  have h4 : (l.take k).take j = l.take j := by rw [List.take_take, Nat.min_eq_left (by omega)]
  rw [link_at h1, link_at h2, h3, h4]
theorem chain_links {l : List Seal} (h : chainOk l = true) : (∀ j, j < l.length → link l j = true) ∧ l.length ≤ 1000 := by
  unfold chainOk at h
  obtain ⟨h1, h2⟩ := Bool.and_eq_true_iff.1 h
  exact ⟨fun j hj => List.all_eq_true.1 h1 j (List.mem_range.2 hj), of_decide_eq_true h2⟩
theorem chain_take {l : List Seal} (h : chainOk l = true) (k : Nat) (hk : k ≤ l.length) : chainOk (l.take k) = true := by
  obtain ⟨h1, h2⟩ := chain_links h
  rw [chain_good (fun j hj => by
    have hj' : j < k := by simp at hj; omega
    rw [link_take hj' hk]; exact h1 j (by omega))]
  exact decide_eq_true (by simp; omega)
end Go.Proofs.YtfaldffehpgaiaaDoor.seals

namespace Go.Proofs.YtfaldffehpgaiaaDoor.base
open Go.RowKit
set_option linter.unusedVariables false
theorem big_ (a0 : Option Addr) (len0 cap0 : Nat) (w : World) (h : len0 ≤ maxLen) :
    Calls Tryd.prog 6 #[.slice a0 len0 cap0] w fun e w' => e = .returned (.bool (decide (1048576 < (len0 : Int)))) ∧ w' = w := by
  unfold maxLen at h
  go_enter Tryd.func6, Tryd.ntmps6
  go_wp2
  go_ret
  exact ⟨rfl, rfl⟩
end Go.Proofs.YtfaldffehpgaiaaDoor.base

namespace Go.Proofs.YtfaldffehpgaiaaDoor.door
open Go.ChangeShapes Go.WideShapes Go.ChangeAt Go.RowKit
open Go.ChangeMaps (open_string shut_string)
set_option linter.unusedVariables false
open Go.Proofs.YtfaldffehpgaiaaDoor.base

def kd (H : Type) : List (DataW H) := sha.K64.map fun (n : Nat) => .lit (.int .u32 (n : Int))
abbrev laidD : List (String × DataW Unit) := [("loop.example/g00244/impl.roundWords", Rows.laid_loop_example_g00244_impl_roundWords)]
theorem laid_kd : (Rows.laid_loop_example_g00244_impl_roundWords : DataW Unit) = .agg (kd Unit) := rfl
theorem own : ownKnob Tryd.prog.godebug = none := by kernel_rfl
theorem laidOut : laidOutB Tryd.prog = true := by kernel_rfl
theorem gRound : Tryd.prog.globalNamed "loop.example/g00244/impl.roundWords" = some 0 := by kernel_rfl
theorem tRound : (Tryd.prog.globals[0]?).map (·.type) = some 89 := by kernel_rfl
theorem words_of_laid {W : World} (h : laidMetH Tryd.prog laidD W) : sha.KW W := by
  rw [MakeChecks.laidMetH_plain _ _ _ (by kernel_rfl)] at h
  obtain ⟨ps, ⟨g, t, cs, fuel, p, q, hg, ht, hv, hd, _, _⟩, _, _⟩ := h
  obtain rfl := Option.some.inj (gRound.symm.trans hg)
  obtain rfl := Option.some.inj (tRound.symm.trans ht)
  have c1 : Tryd.prog.cellsOf 69 = 1 := by kernel_rfl
  have c64 : Tryd.prog.cellsOf 89 = 64 := by kernel_rfl
  obtain ⟨xs, m, _, ex, hlen, hl, hel⟩ := DataW.trod_array Tryd.underlying89 hd
  rw [c64] at hlen
  rw [laid_kd] at ex
  have e3 := (DataW.agg.inj (Prod.mk.inj ex).1)
  intro i hi
  rw [World.var?_cell gRound hv i]
  have hk := hel i hi
  have hxi : i < xs.length := by omega
  rw [c1, Nat.mul_one, List.getElem?_eq_getElem hxi] at hk
  obtain ⟨z, a0, b0, _⟩ := DataW.trod_int Tryd.underlying69 hk
  have hcs : cs.toList[i]? = some (.int .u32 z) := by
    have := congrArg (·[0]?) a0
    simpa using this
  have hz : (kd Unit)[i]? = some (.lit (.int .u32 z)) := by
    rw [e3]
    simp [hxi, b0]
  have hKl : sha.K64.length = 64 := rfl
  have hz2 : (kd Unit)[i]? = some (.lit (.int .u32 ((sha.K64.getD i 0 : Nat) : Int))) := by
    simp [kd, List.getD, show i < sha.K64.length by omega]
  have e4 : z = ((sha.K64.getD i 0 : Nat) : Int) := by
    have := hz.symm.trans hz2
    simpa using this
  rw [← e4, ← hcs]
  simp

end Go.Proofs.YtfaldffehpgaiaaDoor.door
