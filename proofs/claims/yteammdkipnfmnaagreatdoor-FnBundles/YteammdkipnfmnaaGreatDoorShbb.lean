/- The program's ends of a proof. A region that draws its order, whose last operation waits for an operation only through others. No function of the program is named here. Codes that are too long. What all laws share whose road reads the table of the rounds' words: the table reads as its datum, so its cells are the words. -/
import Derived.Test.YteammdkipnfmnaaGreatDoorShaj
import Derived.Test.YteammdkipnfmnaaGreatDoorShav
import Derived.Test.YteammdkipnfmnaaGreatDoorShba
import Derived.Test.YteammdkipnfmnaaGreatDoorShal
import Derived.Test.YteammdkipnfmnaaGreatDoorShaa
import Derived.Test.YteammdkipnfmnaaGreatDoorRows
import Derived.Test.YteammdkipnfmnaaGreatDoorShar
import Derived.ProofKit
import Derived.OpenShut
import Derived.ShutString
import Derived.ChangeOld
import Derived.Below
import Derived.ChangeVars
import Derived.OpenVars
import Derived.LaidMore
import Derived.Lay
import Derived.LaidOnce
import Derived.SevenTiedAt
namespace Go.Proofs.YteammdkipnfmnaaGreatDoor.range
open Go Go.RowKit Go.Proofs.YteammdkipnfmnaaGreatDoor.base Go.Proofs.YteammdkipnfmnaaGreatDoor.pairs Go.Proofs.YteammdkipnfmnaaGreatDoor.tree
set_option linter.unusedVariables false
set_option linter.unusedSimpArgs false

/-! ### the root of no pairs -/
set_option maxRecDepth 100000 in
set_option maxHeartbeats 1000000 in
theorem impl_treeNil (t : Nat) (w : World) (hK : sha.KW w) : Calls Tryz.prog 135 #[.slice none 0 0, .pointer (some ⟨t, 0, none⟩)] w fun e w' => e = .returned (.string (inner [])) ∧ Below w.heap.size w w' := by
  have HD := Hid.mk' (sha.impl_digestA none 0 0 [] w (sl_nil _ _) (by omega) hK)
  go_enter Tryz.func135, Tryz.ntmps135
  go_wp2_with fail
  refine HD.out.mono ?_
  rintro e w1 ⟨rfl, hb1⟩
  go_wp2_with fail
  go_ret
  exact ⟨by rw [inner_nil]; rfl, hb1⟩
set_option maxHeartbeats 1000000 in
theorem impl_innerNil (w : World) (hK : sha.KW w) : Calls Tryz.prog 121 #[.slice none 0 0] w fun e w' => e = .returned (.string (inner [])) ∧ Below w.heap.size w w' := by
  have hmf := makeFunc_run
  have HI : Hid (∀ wx, Below w.heap.size w wx → Calls Tryz.prog 135 #[.slice none 0 0, .pointer (some ⟨w.heap.size, 0, none⟩)] wx fun e w' => e = .returned (.string (inner [])) ∧ Below wx.heap.size wx w') :=
    fun wx hx => impl_treeNil w.heap.size wx (hK.below hx)
  clear hK
  go_enter Tryz.func121, Tryz.ntmps121
  go_wp2_with fail
  refine (HI.out _ ?hb).mono ?_
  case hb => exact (Below.refl _ _).alloc (Nat.le_refl _) _
  rintro e w2 ⟨rfl, hb⟩
  have hB : Below w.heap.size w w2 := ((Below.refl _ _).alloc (Nat.le_refl _) _).trans (hb.mono (by simp))
  go_wp2_with fail
  go_ret
  exact ⟨rfl, hB⟩
set_option maxHeartbeats 1000000 in
theorem impl_rootNil (w : World) (hK : sha.KW w) : Calls Tryz.prog 96 #[.slice none 0 0] w fun e w' => e = .returned (.string (rootOf [])) ∧ Below w.heap.size w w' := by
  have hs := inner_size []
  have htl := topB_length 0 (inner [])
  have HT := Hid.mk' (fun wx => impl_rootBytes 0 (inner []) wx (WalkArith.wf_i64 (by omega)) (by omega))
  have HI := Hid.mk' (impl_innerNil w hK)
  have HK := Hid.mk' hK
  have HR : Hid (rootOf [] = dg (topB 0 (inner []))) := rfl
  generalize inner [] = y at *
  clear hK
  go_enter Tryz.func96, Tryz.ntmps96
  go_wp2_with fail
  refine HI.out.mono ?_
  rintro e w1 ⟨rfl, hB1⟩
  go_wp2_with fail
  refine (HT.out _).mono ?_
  rintro e w2 ⟨g, n, cp, rfl, hO, hb2⟩
  have hB2 : Below w.heap.size w w2 := hB1.trans (hb2.mono hB1.size)
  have hn : n ≤ 1099511627776 := by have := hO.1; omega
  have HD := Hid.mk' (sha.impl_digest g 0 n cp (topB 0 y) w2 hO.sl hn (HK.out.below hB2))
  clear hO hB1 hb2
  go_wp2_with fail
  refine HD.out.mono ?_
  rintro e w3 ⟨rfl, hb3⟩
  have hB3 : Below w.heap.size w w3 := hB2.trans (hb3.mono hB2.size)
  go_wp2_with fail
  go_ret
  exact ⟨by rw [HR.out]; rfl, hB3⟩

/-! ### a proof of none -/
set_option maxRecDepth 100000 in
set_option maxHeartbeats 1000000 in
theorem impl_provesNone (root : ByteArray) (n fr : Int) (a : Option Addr) (len cap : Nat) (w : World) (hK : sha.KW w) :
    Calls Tryz.prog 58 #[.agg #[.int .i64 n, .int .i64 fr, .slice a len cap], .string root] w fun e w' => e = .returned (.bool (decide (len = 0 ∧ fr = 0 ∧ root = rootOf []))) ∧ Below w.heap.size w w' := by
  obtain ⟨W, hW⟩ : ∃ W, W = w.alloc (.cells #[.int .i64 n, .int .i64 fr, .slice a len cap] 64) := ⟨_, rfl⟩
  have hB : Below w.heap.size w W := by rw [hW]; exact (Below.refl _ _).alloc (Nat.le_refl _) _
  have HR := Hid.mk' (impl_rootNil W (hK.below hB))
  have HW := Hid.mk' hW
  clear hW hK
  by_cases h0 : len = 0
  · subst h0
    by_cases hf : fr = 0
    · subst hf
      by_cases hr : root = rootOf []
      · have HD : Hid (decide ((0 : Nat) = 0 ∧ (0 : Int) = 0 ∧ root = rootOf []) = true) := decide_eq_true ⟨rfl, rfl, hr⟩
        rw [HD.out]
        clear HD
        rw [← hr] at HR
        clear hr
        go_enter Tryz.func58, Tryz.ntmps58
        go_wp2_with fail
        rw [← HW.out]
        refine HR.out.mono ?_
        rintro e w1 ⟨rfl, hb1⟩
        have hB1 := hB.trans (hb1.mono hB.size)
        go_wp2_with fail
        go_ret
        exact ⟨rfl, hB1⟩
      · have HD : Hid (decide ((0 : Nat) = 0 ∧ (0 : Int) = 0 ∧ root = rootOf []) = false) := decide_eq_false (fun h => hr h.2.2)
        rw [HD.out]
        have hq := str_ne' hr
        generalize rootOf [] = R at *
        clear HD hr
        go_enter Tryz.func58, Tryz.ntmps58
        go_wp2_with fail
        rw [← HW.out]
        refine HR.out.mono ?_
        rintro e w1 ⟨rfl, hb1⟩
        have hB1 := hB.trans (hb1.mono hB.size)
        go_wp2_with fail
        go_ret
        exact ⟨rfl, hB1⟩
    · have HD : Hid (decide ((0 : Nat) = 0 ∧ fr = 0 ∧ root = rootOf []) = false) := decide_eq_false (fun h => hf h.2.1)
      rw [HD.out]
      have hq : (fr == 0) = false := by simpa using hf
      clear HD HR
      go_enter Tryz.func58, Tryz.ntmps58
      go_wp2_with fail
      go_ret
      rw [← HW.out]
      exact ⟨rfl, hB⟩
  · have HD : Hid (decide (len = 0 ∧ fr = 0 ∧ root = rootOf []) = false) := decide_eq_false (fun h => h0 h.1)
    rw [HD.out]
    have hq : ((len : Int) == 0) = false := by simp; omega
    have hq2 : ¬ (len : Int) = 0 := by omega
    clear HD HR
    go_enter Tryz.func58, Tryz.ntmps58
    go_wp2_with fail
    go_ret
    rw [← HW.out]
    exact ⟨rfl, hB⟩

/-! ### where a proof begins and ends -/
set_option maxRecDepth 100000 in
set_option maxHeartbeats 1000000 in
theorem impl_beginsBelow (lo : ByteArray) (n fr : Int) (b off cap : Nat) (l : List It) (w : World) (h : SlJ w (some ⟨b, off, none⟩) l.length l) (h0 : 0 < l.length) :
    Calls Tryz.prog 61 #[.agg #[.int .i64 n, .int .i64 fr, .slice (some ⟨b, off, none⟩) l.length cap], .string lo] w fun e w' => e = .returned (.bool (decide (fr = 0) || ltB l[0].1.1 lo)) ∧ Below w.heap.size w w' := by
  obtain ⟨W, hW⟩ : ∃ W, W = w.alloc (.cells #[.int .i64 n, .int .i64 fr, .slice (some ⟨b, off, none⟩) l.length cap] 64) := ⟨_, rfl⟩
  have hB : Below w.heap.size w W := by rw [hW]; exact (Below.refl _ _).alloc (Nat.le_refl _) _
  have hll := h.2.1
  have c1 := (h.at 0 h0).1
  have hbb : b < w.heap.size := World.block_lt_of_cell? w _ c1
  simp only [Nat.zero_mul, Nat.add_zero] at c1
  have HW := Hid.mk' hW
  have hl0 : (0 : Int) < (l.length : Int) := by omega
  clear hW h
  by_cases hf : fr = 0
  · subst hf
    go_enter Tryz.func61, Tryz.ntmps61
    go_wp2_with fail
    go_ret
    rw [← HW.out]
    exact ⟨by simp, hB⟩
  · have hq : (fr == 0) = false := by simpa using hf
    have hd : decide (fr = 0) = false := decide_eq_false hf
    rw [hd]
    generalize l[0].1.1 = q at *
    cases hb : ltB q lo with
    | true =>
      have hq2 : Op.bytesLess q.toList lo.toList = true := hb
      clear hb
      go_enter Tryz.func61, Tryz.ntmps61
      go_wp2_with fail
      go_ret
      rw [← HW.out]
      exact ⟨rfl, hB⟩
    | false =>
      have hq2 : Op.bytesLess q.toList lo.toList = false := hb
      clear hb
      go_enter Tryz.func61, Tryz.ntmps61
      go_wp2_with fail
      go_ret
      rw [← HW.out]
      exact ⟨rfl, hB⟩

set_option maxRecDepth 100000 in
set_option maxHeartbeats 1000000 in
theorem impl_endsBehind (hi : ByteArray) (n fr : Int) (b off cap : Nat) (l : List It) (w : World) (h : SlJ w (some ⟨b, off, none⟩) l.length l) (m : Nat) (hm : l.length = m + 1) (hfr : 0 ≤ fr ∧ fr ≤ 60) (hn : 1 ≤ n ∧ n ≤ 60) :
    Calls Tryz.prog 62 #[.agg #[.int .i64 n, .int .i64 fr, .slice (some ⟨b, off, none⟩) l.length cap], .string hi] w fun e w' => e = .returned (.bool (decide (fr + (m : Int) = n - 1) || (!decide (hi.size = 0) && !ltB (l[m]'(by omega)).1.1 hi))) ∧ Below w.heap.size w w' := by
  obtain ⟨W, hW⟩ : ∃ W, W = w.alloc (.cells #[.int .i64 n, .int .i64 fr, .slice (some ⟨b, off, none⟩) l.length cap] 64) := ⟨_, rfl⟩
  have hB : Below w.heap.size w W := by rw [hW]; exact (Below.refl _ _).alloc (Nat.le_refl _) _
  have hll := h.2.1
  have c1 := (h.at m (by omega)).1
  have hbb : b < w.heap.size := World.block_lt_of_cell? w _ c1
  have HW := Hid.mk' hW
  have hl0 : (m : Int) < (l.length : Int) := by omega
  have hlm : (l.length : Int) - 1 = (m : Int) := by omega
  clear hW h
  generalize (l[m]'(by omega)).1.1 = q at *
  simp only [hm] at HW hl0 hlm hll ⊢
  by_cases hf : fr + (m : Int) = n - 1
  · have hd : decide (fr + (m : Int) = n - 1) = true := decide_eq_true hf
    rw [hd]
    have hq : (fr + (m : Int) == n - 1) = true := by simpa using hf
    go_enter Tryz.func62, Tryz.ntmps62
    go_wp2_with fail
    go_ret
    rw [← HW.out]
    exact ⟨rfl, hB⟩
  · have hq : (fr + (m : Int) == n - 1) = false := by simpa using hf
    have hd : decide (fr + (m : Int) = n - 1) = false := decide_eq_false hf
    rw [hd]
    by_cases he : hi.size = 0
    · have hhi : hi = ⟨#[]⟩ := by
        have : hi.data = #[] := Array.eq_empty_of_size_eq_zero he
        cases hi; cases this; rfl
      subst hhi
      go_enter Tryz.func62, Tryz.ntmps62
      go_wp2_with fail
      go_ret
      rw [← HW.out]
      exact ⟨by simp [he], hB⟩
    · have hd2 : decide (hi.size = 0) = false := decide_eq_false he
      rw [hd2]
      have hq4 : ¬ hi.toList = [] := fun e => he (by have h1 : hi = ⟨#[]⟩ := bytes_ext (by rw [← ByteArray.toList_eq]; exact e); rw [h1]; rfl)
      have hq3 : hi.toList.isEmpty = false := by rw [Bool.eq_false_iff]; intro e; exact hq4 (List.isEmpty_iff.1 e)
      cases hb : ltB q hi with
      | true =>
        have hq2 : Op.bytesLess q.toList hi.toList = true := hb
        clear hb
        go_enter Tryz.func62, Tryz.ntmps62
        go_wp2_with fail
        go_ret
        rw [← HW.out]
        exact ⟨rfl, hB⟩
      | false =>
        have hq2 : Op.bytesLess q.toList hi.toList = false := hb
        clear hb
        go_enter Tryz.func62, Tryz.ntmps62
        go_wp2_with fail
        go_ret
        rw [← HW.out]
        exact ⟨rfl, hB⟩
end Go.Proofs.YteammdkipnfmnaaGreatDoor.range

namespace Go.Proofs.YteammdkipnfmnaaGreatDoor.last
open Go Go.RowKit
section
variable {P : Program} {ops : Array Oper} {md : Region.Mode} {Q : Exit → Act → World → Prop} {S : World → Prop} {z : Nat}

end
end Go.Proofs.YteammdkipnfmnaaGreatDoor.last

namespace Go.Proofs.YteammdkipnfmnaaGreatDoor.base
open Go.RowKit
set_option linter.unusedVariables false
theorem big_ (a0 : Option Addr) (len0 cap0 : Nat) (w : World) (h : len0 ≤ maxLen) :
    Calls Tryz.prog 5 #[.slice a0 len0 cap0] w fun e w' => e = .returned (.bool (decide (1048576 < (len0 : Int)))) ∧ w' = w := by
  unfold maxLen at h
  go_enter Tryz.func5, Tryz.ntmps5
  go_wp2
  go_ret
  exact ⟨rfl, rfl⟩
end Go.Proofs.YteammdkipnfmnaaGreatDoor.base

namespace Go.Proofs.YteammdkipnfmnaaGreatDoor.door
open Go.ChangeShapes Go.WideShapes Go.ChangeAt Go.RowKit
open Go.ChangeMaps (open_string shut_string)
set_option linter.unusedVariables false
open Go.Proofs.YteammdkipnfmnaaGreatDoor.base

def kd (H : Type) : List (DataW H) := sha.K64.map fun (n : Nat) => .lit (.int .u32 (n : Int))
abbrev laidD : List (String × DataW Unit) := [("loop.example/g00244/impl.roundWords", Rows.laid_loop_example_g00244_impl_roundWords)]
theorem laid_kd : (Rows.laid_loop_example_g00244_impl_roundWords : DataW Unit) = .agg (kd Unit) := rfl
theorem own : ownKnob Tryz.prog.godebug = none := by kernel_rfl
theorem laidOut : laidOutB Tryz.prog = true := by kernel_rfl
theorem gRound : Tryz.prog.globalNamed "loop.example/g00244/impl.roundWords" = some 0 := by kernel_rfl
theorem tRound : (Tryz.prog.globals[0]?).map (·.type) = some 146 := by kernel_rfl
theorem words_of_laid {W : World} (h : laidMetH Tryz.prog laidD W) : sha.KW W := by
  rw [MakeChecks.laidMetH_plain _ _ _ (by kernel_rfl)] at h
  obtain ⟨ps, ⟨g, t, cs, fuel, p, q, hg, ht, hv, hd, _, _⟩, _, _⟩ := h
  obtain rfl := Option.some.inj (gRound.symm.trans hg)
  obtain rfl := Option.some.inj (tRound.symm.trans ht)
  have c1 : Tryz.prog.cellsOf 109 = 1 := by kernel_rfl
  have c64 : Tryz.prog.cellsOf 146 = 64 := by kernel_rfl
  obtain ⟨xs, m, _, ex, hlen, hl, hel⟩ := DataW.trod_array Tryz.underlying146 hd
  rw [c64] at hlen
  rw [laid_kd] at ex
  have e3 := (DataW.agg.inj (Prod.mk.inj ex).1)
  intro i hi
  rw [World.var?_cell gRound hv i]
  have hk := hel i hi
  have hxi : i < xs.length := by omega
  rw [c1, Nat.mul_one, List.getElem?_eq_getElem hxi] at hk
  obtain ⟨z, a0, b0, _⟩ := DataW.trod_int Tryz.underlying109 hk
  have hcs : cs.toList[i]? = some (.int .u32 z) := by
    have := congrArg (·[0]?) a0
    simpa using this
  have hz : (kd Unit)[i]? = some (.lit (.int .u32 z)) := by
    rw [e3]
    simp [hxi, b0]
  have hKl : sha.K64.length = 64 := rfl
  have hz2 : (kd Unit)[i]? = some (.lit (.int .u32 ((sha.K64.getD i 0 : Nat) : Int))) := by
    simp [kd, List.getD, show i < sha.K64.length by omega]
  have e4 : z = ((sha.K64.getD i 0 : Nat) : Int) := by
    have := hz.symm.trans hz2
    simpa using this
  rw [← e4, ← hcs]
  simp

end Go.Proofs.YteammdkipnfmnaaGreatDoor.door
