/- Seals that came in. What all laws share whose road reads the table of the rounds' words: the table reads as its datum, so its cells are the words. -/
import Derived.Test.YtfaldffehpgaiaaDoorShag
import Derived.Test.YtfaldffehpgaiaaDoorShai
import Derived.Test.YtfaldffehpgaiaaDoorRows
import Derived.Test.YtfaldffehpgaiaaDoorShaf
import Derived.ProofKit
import Derived.OpenShut
import Derived.ShutString
import Derived.ChangeOld
import Derived.Below
import Derived.ChangeVars
import Derived.OpenVars
import Derived.LaidMore
import Derived.Lay
import Derived.LaidOnce
import Derived.SevenTiedAt
namespace Go.Proofs.YtfaldffehpgaiaaDoor.seals
open Go Go.RowKit Go.Proofs.YtfaldffehpgaiaaDoor.base Go.Proofs.YtfaldffehpgaiaaDoor.pairs Go.Proofs.YtfaldffehpgaiaaDoor.lay
set_option linter.unusedVariables false
set_option linter.unusedSimpArgs false

set_option maxRecDepth 100000 in
theorem reads_seal : Reads Tryd.prog 59 sealR := fun H enc W fuel vs x hl h => by
  obtain ⟨xs, m, _, _, _, hxl, hel⟩ := DataW.trod_struct Tryd.underlying59 h
  match vs, (show vs.length = 4 from hl) with
  | [v0, v1, v2, v3], _ =>
    match xs, (show xs.length = 4 from hxl) with
    | [x0, x1, x2, x3], _ =>
      have k0 := hel 0 _ rfl
      have k1 := hel 1 _ rfl
      have k2 := hel 2 _ rfl
      have k3 := hel 3 _ rfl
      have e0 : Tryd.prog.cellsOf 3 = 1 := by kernel_rfl
      have e1 : Tryd.prog.cellsOf 9 = 1 := by kernel_rfl
      have e2 : Tryd.prog.cellsOf 27 = 1 := by kernel_rfl
      simp [e0, e1, e2] at k0 k1 k2 k3
      obtain ⟨y0, s0⟩ := (reads_int Tryd.underlying3) H enc W m _ x0 rfl k0
      obtain ⟨y1, s1⟩ := (reads_str Tryd.underlying9) H enc W m _ x1 rfl k1
      obtain ⟨y2, s2⟩ := (reads_str Tryd.underlying9) H enc W m _ x2 rfl k2
      obtain ⟨y3, s3⟩ := (reads_slice _ Tryd.underlying27 (by kernel_rfl) (by decide) (reads_str Tryd.underlying9)) H enc W m _ x3 rfl k3
      exact ⟨(y0, (y1, (y2, y3))), ⟨[v0], [v1, v2, v3], rfl, s0, ⟨[v1], [v2, v3], rfl, s1, ⟨[v2], [v3], rfl, s2, s3⟩⟩⟩⟩
theorem reads_seals : Reads Tryd.prog 36 sealsR := (reads_slice _ Tryd.underlying36 (by kernel_rfl) (by decide) reads_seal)
end Go.Proofs.YtfaldffehpgaiaaDoor.seals

namespace Go.Proofs.YtfaldffehpgaiaaDoor.door
open Go.ChangeShapes Go.WideShapes Go.ChangeAt Go.RowKit
open Go.ChangeMaps (open_string shut_string)
set_option linter.unusedVariables false
open Go.Proofs.YtfaldffehpgaiaaDoor.base

def kd (H : Type) : List (DataW H) := sha.K64.map fun (n : Nat) => .lit (.int .u32 (n : Int))
abbrev laidD : List (String × DataW Unit) := [("loop.example/g00244/impl.roundWords", Rows.laid_loop_example_g00244_impl_roundWords)]
theorem laid_kd : (Rows.laid_loop_example_g00244_impl_roundWords : DataW Unit) = .agg (kd Unit) := rfl
theorem own : ownKnob Tryd.prog.godebug = none := by kernel_rfl
theorem laidOut : laidOutB Tryd.prog = true := by kernel_rfl
theorem gRound : Tryd.prog.globalNamed "loop.example/g00244/impl.roundWords" = some 0 := by kernel_rfl
theorem tRound : (Tryd.prog.globals[0]?).map (·.type) = some 89 := by kernel_rfl
theorem words_of_laid {W : World} (h : laidMetH Tryd.prog laidD W) : sha.KW W := by
  rw [MakeChecks.laidMetH_plain _ _ _ (by kernel_rfl)] at h
  obtain ⟨ps, ⟨g, t, cs, fuel, p, q, hg, ht, hv, hd, _, _⟩, _, _⟩ := h
  obtain rfl := Option.some.inj (gRound.symm.trans hg)
  obtain rfl := Option.some.inj (tRound.symm.trans ht)
  have c1 : Tryd.prog.cellsOf 69 = 1 := by kernel_rfl
  have c64 : Tryd.prog.cellsOf 89 = 64 := by kernel_rfl
  obtain ⟨xs, m, _, ex, hlen, hl, hel⟩ := DataW.trod_array Tryd.underlying89 hd
  rw [c64] at hlen
  rw [laid_kd] at ex
  have e3 := (DataW.agg.inj (Prod.mk.inj ex).1)
  intro i hi
  rw [World.var?_cell gRound hv i]
  have hk := hel i hi
  have hxi : i < xs.length := by omega
  rw [c1, Nat.mul_one, List.getElem?_eq_getElem hxi] at hk
  obtain ⟨z, a0, b0, _⟩ := DataW.trod_int Tryd.underlying69 hk
  have hcs : cs.toList[i]? = some (.int .u32 z) := by
    have := congrArg (·[0]?) a0
    simpa using this
  have hz : (kd Unit)[i]? = some (.lit (.int .u32 z)) := by
    rw [e3]
    simp [hxi, b0]
  have hKl : sha.K64.length = 64 := rfl
  have hz2 : (kd Unit)[i]? = some (.lit (.int .u32 ((sha.K64.getD i 0 : Nat) : Int))) := by
    simp [kd, List.getD, show i < sha.K64.length by omega]
  have e4 : z = ((sha.K64.getD i 0 : Nat) : Int) := by
    have := hz.symm.trans hz2
    simpa using this
  rw [← e4, ← hcs]
  simp

end Go.Proofs.YtfaldffehpgaiaaDoor.door
