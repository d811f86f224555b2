/- Arguments: what came in is read as a value of its type. No function of the program is named here. One who decides that came in. A world that came in. How many are open: both sides. -/
import Derived.Test.YtmibabclefgljaaShae
import Derived.ChangeArms
import Derived.Deep.Slices
import Derived.WideShapes
import Derived.Deep.SlicePairs
import Derived.Test.YtmibabclefgljaaShab
import Derived.Test.YtmibabclefgljaaShaf
import Derived.WalkMore
namespace Go.Proofs.Ytmibabclefgljaa.lay
open Go Go.RowKit Go.Proofs.Ytmibabclefgljaa.base
set_option linter.unusedVariables false
set_option linter.unusedSimpArgs false

def Reads {α : Type} (P : Program) (t : TypeId) (R : Rd α) : Prop :=
  ∀ (H : Type) (enc : TypeId × Value → H) (W : World) (fuel : Nat) (vs : List Value) (x : DataW H × List MemPlace), vs.length = R.size → DataW.trod enc P W 0 (fun _ => true) true fuel t vs = some x → ∃ y, R.see W vs y
section
variable {α : Type} {P : Program} {t e : TypeId} {R : Rd α}
theorem reads_int (ht : P.underlying t = some (.int .i64)) : Reads P t int := fun H enc W fuel vs x hl h => by
  obtain ⟨n, rfl, _, hw⟩ := DataW.trod_int ht h
  exact ⟨n, rfl, hw⟩
theorem reads_bool (ht : P.underlying t = some .bool) : Reads P t bool := fun H enc W fuel vs x hl h => by
  obtain ⟨b, rfl, _⟩ := DataW.trod_bool ht h
  exact ⟨b, rfl⟩
theorem reads_str (ht : P.underlying t = some .string) : Reads P t str := fun H enc W fuel vs x hl h => by
  obtain ⟨s, rfl, _, hs⟩ := DataW.trod_string ht h
  exact ⟨s, rfl, hs⟩
theorem reads_slice [Inhabited α] (ty : TypeId) (ht : P.underlying t = some (.slice e)) (hc : P.cellsOf e = R.size) (h0 : 0 < R.size) (hR : Reads P e R) : Reads P t (lay.slice ty R) := fun H enc W fuel vs x hl h => by
  rcases Deep.open_slice ht h with ⟨rfl, _⟩ | ⟨ad, len, cap, m, n, D, Pl, rfl, hb, hlc, hm, hmm, _, hx⟩
  · exact ⟨[], none, 0, 0, rfl, Nat.le_refl _, rfl, Nat.zero_le _, fun x hx => absurd hx List.not_mem_nil, fun h => absurd h (by omega)⟩
  · simp at hmm
    have each : ∀ i, i < len → ∃ y : α, ∃ us, R.see W us y ∧ ∀ j u, us[j]? = some u → W.cell? (ad.add (i * R.size + j)) = some u := by
      intro i hi
      obtain ⟨cs', h1, h2⟩ := hx i (by omega)
      rw [hc] at h1
      obtain ⟨_, hlen, hcell⟩ := World.cells?_some h1
      obtain ⟨y, hy⟩ := hR H enc W n cs' _ hlen h2
      refine ⟨y, cs', hy, fun j u hj => ?_⟩
      have hjl := (List.getElem?_eq_some_iff.1 hj).1
      have := hcell j (by omega)
      rw [Deep.add_add] at this
      rw [this]; exact hj
    obtain ⟨q, hq⟩ := Deep.choose_lt each
    refine ⟨(List.range len).map q, some ad, len, cap, rfl, hlc, by simp, by omega, fun x hx => ?_, fun hl0 => ?_⟩
    · obtain ⟨i, hi, rfl⟩ := List.mem_map.1 hx
      obtain ⟨us, h1, _⟩ := hq i (List.mem_range.1 hi)
      exact ⟨us, h1⟩
    · obtain ⟨b, off, spot⟩ := ad
      obtain ⟨us0, hs0, hc0⟩ := hq 0 hl0
      have hl0 := R.seeLen hs0
      obtain ⟨u0, hu0⟩ : ∃ u, us0[0]? = some u := ⟨us0[0]'(by omega), List.getElem?_eq_getElem (by omega)⟩
      have hspot : spot = none := by simpa [Addr.add] using World.cell?_spot (hc0 0 u0 hu0)
      subst hspot
      refine ⟨b, off, rfl, fun i hi => ?_⟩
      have hi' : i < len := by simpa using hi
      obtain ⟨us, h1, h2⟩ := hq i hi'
      simp only [List.getElem_map, List.getElem_range]
      refine ⟨us, h1, fun j u hj => ?_⟩
      have := h2 j u hj
      rw [Addr.add_lit, ← Nat.add_assoc] at this
      exact this
theorem arg_struct {H : Type} {enc : TypeId × Value → H} {W : World} {r : Reach} {base fuel : Nat} {v : Value} {fs : Array Field} {x : DataW H × List MemPlace} (ht : P.underlying t = some (.struct fs)) (hc : P.cellsOf t = R.size) (hR : Reads P t R) (hok : Value.okWide P W r base t v) (h : DataW.trod enc P W 0 (fun _ => true) true fuel t v.cells.toList = some x) : ∃ cs y, v = .agg cs.toArray ∧ R.see W cs y := by
  obtain ⟨cs, rfl, hsz⟩ := WideShapes.okWide_struct ht hok
  obtain ⟨l⟩ := cs
  rw [hc] at hsz
  obtain ⟨y, hy⟩ := hR H enc W fuel l x hsz h
  exact ⟨l, y, rfl, hy⟩
end
end Go.Proofs.Ytmibabclefgljaa.lay

namespace Go.Proofs.Ytmibabclefgljaa.cos
open Go Go.RowKit Go.Proofs.Ytmibabclefgljaa.base Go.Proofs.Ytmibabclefgljaa.pairs Go.Proofs.Ytmibabclefgljaa.ords Go.Proofs.Ytmibabclefgljaa.lay Go.Proofs.Ytmibabclefgljaa.wds
set_option linter.unusedVariables false
set_option linter.unusedSimpArgs false

set_option maxRecDepth 100000 in
theorem reads_op : Reads Try.prog 122 opR := fun H enc W fuel vs x hl h => by
  obtain ⟨xs, m, _, _, _, hxl, hel⟩ := DataW.trod_struct Try.underlying122 h
  match vs, (show vs.length = 3 from hl) with
  | [v0, v1, v2], _ =>
    match xs, (show xs.length = 3 from hxl) with
    | [x0, x1, x2], _ =>
      have k0 := hel 0 _ rfl
      have k1 := hel 1 _ rfl
      have k2 := hel 2 _ rfl
      have e0 : Try.prog.cellsOf 3 = 1 := by kernel_rfl
      have e1 : Try.prog.cellsOf 9 = 1 := by kernel_rfl
      simp [e0, e1] at k0 k1 k2
      obtain ⟨y0, s0⟩ := (reads_int Try.underlying3) H enc W m _ x0 rfl k0
      obtain ⟨y1, s1⟩ := (reads_str Try.underlying9) H enc W m _ x1 rfl k1
      obtain ⟨y2, s2⟩ := (reads_str Try.underlying9) H enc W m _ x2 rfl k2
      exact ⟨(y0, (y1, y2)), ⟨[v0], [v1, v2], rfl, s0, ⟨[v1], [v2], rfl, s1, s2⟩⟩⟩
set_option maxRecDepth 100000 in
theorem reads_choice : Reads Try.prog 104 chR := fun H enc W fuel vs x hl h => by
  obtain ⟨xs, m, _, _, _, hxl, hel⟩ := DataW.trod_struct Try.underlying104 h
  match vs, (show vs.length = 2 from hl) with
  | [v0, v1], _ =>
    match xs, (show xs.length = 2 from hxl) with
    | [x0, x1], _ =>
      have k0 := hel 0 _ rfl
      have k1 := hel 1 _ rfl
      have e0 : Try.prog.cellsOf 3 = 1 := by kernel_rfl
      have e1 : Try.prog.cellsOf 4 = 1 := by kernel_rfl
      simp [e0, e1] at k0 k1
      obtain ⟨y0, s0⟩ := (reads_int Try.underlying3) H enc W m _ x0 rfl k0
      obtain ⟨y1, s1⟩ := (reads_bool Try.underlying4) H enc W m _ x1 rfl k1
      exact ⟨(y0, y1), ⟨[v0], [v1], rfl, s0, s1⟩⟩
set_option maxRecDepth 100000 in
theorem reads_job : Reads Try.prog 96 jobR := fun H enc W fuel vs x hl h => by
  obtain ⟨xs, m, _, _, _, hxl, hel⟩ := DataW.trod_struct Try.underlying96 h
  match vs, (show vs.length = 4 from hl) with
  | [v0, v1, v2, v3], _ =>
    match xs, (show xs.length = 4 from hxl) with
    | [x0, x1, x2, x3], _ =>
      have k0 := hel 0 _ rfl
      have k1 := hel 1 _ rfl
      have k2 := hel 2 _ rfl
      have k3 := hel 3 _ rfl
      have e0 : Try.prog.cellsOf 3 = 1 := by kernel_rfl
      have e1 : Try.prog.cellsOf 74 = 1 := by kernel_rfl
      have e2 : Try.prog.cellsOf 54 = 1 := by kernel_rfl
      simp [e0, e1, e2] at k0 k1 k2 k3
      obtain ⟨y0, s0⟩ := (reads_int Try.underlying3) H enc W m _ x0 rfl k0
      obtain ⟨y1, s1⟩ := (reads_slice _ Try.underlying74 (by kernel_rfl) (by decide) reads_op) H enc W m _ x1 rfl k1
      obtain ⟨y2, s2⟩ := (reads_int Try.underlying3) H enc W m _ x2 rfl k2
      obtain ⟨y3, s3⟩ := (reads_slice _ Try.underlying54 (by kernel_rfl) (by decide) (reads_int Try.underlying3)) H enc W m _ x3 rfl k3
      exact ⟨(y0, (y1, (y2, y3))), ⟨[v0], [v1, v2, v3], rfl, s0, ⟨[v1], [v2, v3], rfl, s1, ⟨[v2], [v3], rfl, s2, s3⟩⟩⟩⟩
set_option maxRecDepth 100000 in
theorem reads_coord : Reads Try.prog 25 coordR := fun H enc W fuel vs x hl h => by
  obtain ⟨xs, m, _, _, _, hxl, hel⟩ := DataW.trod_struct Try.underlying25 h
  match vs, (show vs.length = 6 from hl) with
  | [v0, v1, v2, v3, v4, v5], _ =>
    match xs, (show xs.length = 6 from hxl) with
    | [x0, x1, x2, x3, x4, x5], _ =>
      have k0 := hel 0 _ rfl
      have k1 := hel 1 _ rfl
      have k2 := hel 2 _ rfl
      have k3 := hel 3 _ rfl
      have k4 := hel 4 _ rfl
      have k5 := hel 5 _ rfl
      have e0 : Try.prog.cellsOf 3 = 1 := by kernel_rfl
      have e1 : Try.prog.cellsOf 22 = 1 := by kernel_rfl
      have e2 : Try.prog.cellsOf 23 = 1 := by kernel_rfl
      simp [e0, e1, e2] at k0 k1 k2 k3 k4 k5
      obtain ⟨y0, s0⟩ := (reads_int Try.underlying3) H enc W m _ x0 rfl k0
      obtain ⟨y1, s1⟩ := (reads_int Try.underlying3) H enc W m _ x1 rfl k1
      obtain ⟨y2, s2⟩ := (reads_int Try.underlying3) H enc W m _ x2 rfl k2
      obtain ⟨y3, s3⟩ := (reads_slice _ Try.underlying22 (by kernel_rfl) (by decide) reads_job) H enc W m _ x3 rfl k3
      obtain ⟨y4, s4⟩ := (reads_slice _ Try.underlying23 (by kernel_rfl) (by decide) reads_choice) H enc W m _ x4 rfl k4
      obtain ⟨y5, s5⟩ := (reads_int Try.underlying3) H enc W m _ x5 rfl k5
      exact ⟨(y0, (y1, (y2, (y3, (y4, y5))))), ⟨[v0], [v1, v2, v3, v4, v5], rfl, s0, ⟨[v1], [v2, v3, v4, v5], rfl, s1, ⟨[v2], [v3, v4, v5], rfl, s2, ⟨[v3], [v4, v5], rfl, s3, ⟨[v4], [v5], rfl, s4, s5⟩⟩⟩⟩⟩⟩
end Go.Proofs.Ytmibabclefgljaa.cos

namespace Go.Proofs.Ytmibabclefgljaa.wos
open Go Go.RowKit Go.Proofs.Ytmibabclefgljaa.base Go.Proofs.Ytmibabclefgljaa.pairs Go.Proofs.Ytmibabclefgljaa.ords Go.Proofs.Ytmibabclefgljaa.lay
set_option linter.unusedVariables false
set_option linter.unusedSimpArgs false

set_option maxRecDepth 100000 in
theorem reads_pair : Reads Try.prog 119 pairR := fun H enc W fuel vs x hl h => by
  obtain ⟨xs, m, _, _, _, hxl, hel⟩ := DataW.trod_struct Try.underlying119 h
  match vs, (show vs.length = 2 from hl) with
  | [v0, v1], _ =>
    match xs, (show xs.length = 2 from hxl) with
    | [x0, x1], _ =>
      have k0 := hel 0 _ rfl
      have k1 := hel 1 _ rfl
      have e0 : Try.prog.cellsOf 9 = 1 := by kernel_rfl
      simp [e0] at k0 k1
      obtain ⟨y0, s0⟩ := (reads_str Try.underlying9) H enc W m _ x0 rfl k0
      obtain ⟨y1, s1⟩ := (reads_str Try.underlying9) H enc W m _ x1 rfl k1
      exact ⟨(y0, y1), ⟨[v0], [v1], rfl, s0, s1⟩⟩
set_option maxRecDepth 100000 in
theorem reads_rec : Reads Try.prog 116 recR := fun H enc W fuel vs x hl h => by
  obtain ⟨xs, m, _, _, _, hxl, hel⟩ := DataW.trod_struct Try.underlying116 h
  match vs, (show vs.length = 3 from hl) with
  | [v0, v1, v2], _ =>
    match xs, (show xs.length = 3 from hxl) with
    | [x0, x1, x2], _ =>
      have k0 := hel 0 _ rfl
      have k1 := hel 1 _ rfl
      have k2 := hel 2 _ rfl
      have e0 : Try.prog.cellsOf 3 = 1 := by kernel_rfl
      have e1 : Try.prog.cellsOf 74 = 1 := by kernel_rfl
      simp [e0, e1] at k0 k1 k2
      obtain ⟨y0, s0⟩ := (reads_int Try.underlying3) H enc W m _ x0 rfl k0
      obtain ⟨y1, s1⟩ := (reads_int Try.underlying3) H enc W m _ x1 rfl k1
      obtain ⟨y2, s2⟩ := (reads_slice _ Try.underlying74 (by kernel_rfl) (by decide) cos.reads_op) H enc W m _ x2 rfl k2
      exact ⟨(y0, (y1, y2)), ⟨[v0], [v1, v2], rfl, s0, ⟨[v1], [v2], rfl, s1, s2⟩⟩⟩
set_option maxRecDepth 100000 in
theorem reads_shard : Reads Try.prog 72 shardR := fun H enc W fuel vs x hl h => by
  obtain ⟨xs, m, _, _, _, hxl, hel⟩ := DataW.trod_struct Try.underlying72 h
  match vs, (show vs.length = 5 from hl) with
  | [v0, v1, v2, v3, v4], _ =>
    match xs, (show xs.length = 5 from hxl) with
    | [x0, x1, x2, x3, x4], _ =>
      have k0 := hel 0 _ rfl
      have k1 := hel 1 _ rfl
      have k2 := hel 2 _ rfl
      have k3 := hel 3 _ rfl
      have k4 := hel 4 _ rfl
      have e0 : Try.prog.cellsOf 3 = 1 := by kernel_rfl
      have e1 : Try.prog.cellsOf 69 = 1 := by kernel_rfl
      have e2 : Try.prog.cellsOf 70 = 1 := by kernel_rfl
      simp [e0, e1, e2] at k0 k1 k2 k3 k4
      obtain ⟨y0, s0⟩ := (reads_int Try.underlying3) H enc W m _ x0 rfl k0
      obtain ⟨y1, s1⟩ := (reads_slice _ Try.underlying69 (by kernel_rfl) (by decide) reads_rec) H enc W m _ x1 rfl k1
      obtain ⟨y2, s2⟩ := (reads_int Try.underlying3) H enc W m _ x2 rfl k2
      obtain ⟨y3, s3⟩ := (reads_slice _ Try.underlying70 (by kernel_rfl) (by decide) reads_pair) H enc W m _ x3 rfl k3
      obtain ⟨y4, s4⟩ := (reads_slice _ Try.underlying69 (by kernel_rfl) (by decide) reads_rec) H enc W m _ x4 rfl k4
      exact ⟨(y0, (y1, (y2, (y3, y4)))), ⟨[v0], [v1, v2, v3, v4], rfl, s0, ⟨[v1], [v2, v3, v4], rfl, s1, ⟨[v2], [v3, v4], rfl, s2, ⟨[v3], [v4], rfl, s3, s4⟩⟩⟩⟩⟩
set_option maxRecDepth 100000 in
theorem reads_word : Reads Try.prog 76 cos.wordR := fun H enc W fuel vs x hl h => by
  obtain ⟨xs, m, _, _, _, hxl, hel⟩ := DataW.trod_struct Try.underlying76 h
  match vs, (show vs.length = 5 from hl) with
  | [v0, v1, v2, v3, v4], _ =>
    match xs, (show xs.length = 5 from hxl) with
    | [x0, x1, x2, x3, x4], _ =>
      have k0 := hel 0 _ rfl
      have k1 := hel 1 _ rfl
      have k2 := hel 2 _ rfl
      have k3 := hel 3 _ rfl
      have k4 := hel 4 _ rfl
      have e0 : Try.prog.cellsOf 3 = 1 := by kernel_rfl
      have e1 : Try.prog.cellsOf 74 = 1 := by kernel_rfl
      have e2 : Try.prog.cellsOf 4 = 1 := by kernel_rfl
      simp [e0, e1, e2] at k0 k1 k2 k3 k4
      obtain ⟨y0, s0⟩ := (reads_int Try.underlying3) H enc W m _ x0 rfl k0
      obtain ⟨y1, s1⟩ := (reads_int Try.underlying3) H enc W m _ x1 rfl k1
      obtain ⟨y2, s2⟩ := (reads_int Try.underlying3) H enc W m _ x2 rfl k2
      obtain ⟨y3, s3⟩ := (reads_slice _ Try.underlying74 (by kernel_rfl) (by decide) cos.reads_op) H enc W m _ x3 rfl k3
      obtain ⟨y4, s4⟩ := (reads_bool Try.underlying4) H enc W m _ x4 rfl k4
      exact ⟨(y0, (y1, (y2, (y3, y4)))), ⟨[v0], [v1, v2, v3, v4], rfl, s0, ⟨[v1], [v2, v3, v4], rfl, s1, ⟨[v2], [v3, v4], rfl, s2, ⟨[v3], [v4], rfl, s3, s4⟩⟩⟩⟩⟩
set_option maxRecDepth 100000 in
theorem reads_order : Reads Try.prog 79 ordR := fun H enc W fuel vs x hl h => by
  obtain ⟨xs, m, _, _, _, hxl, hel⟩ := DataW.trod_struct Try.underlying79 h
  match vs, (show vs.length = 2 from hl) with
  | [v0, v1], _ =>
    match xs, (show xs.length = 2 from hxl) with
    | [x0, x1], _ =>
      have k0 := hel 0 _ rfl
      have k1 := hel 1 _ rfl
      have e0 : Try.prog.cellsOf 3 = 1 := by kernel_rfl
      have e1 : Try.prog.cellsOf 74 = 1 := by kernel_rfl
      simp [e0, e1] at k0 k1
      obtain ⟨y0, s0⟩ := (reads_int Try.underlying3) H enc W m _ x0 rfl k0
      obtain ⟨y1, s1⟩ := (reads_slice _ Try.underlying74 (by kernel_rfl) (by decide) cos.reads_op) H enc W m _ x1 rfl k1
      exact ⟨(y0, y1), ⟨[v0], [v1], rfl, s0, s1⟩⟩
set_option maxRecDepth 100000 in
theorem reads_world : Reads Try.prog 30 worldR := fun H enc W fuel vs x hl h => by
  obtain ⟨xs, m, _, _, _, hxl, hel⟩ := DataW.trod_struct Try.underlying30 h
  match vs, (show vs.length = 10 from hl) with
  | [v0, v1, v2, v3, v4, v5, v6, v7, v8, v9], _ =>
    match xs, (show xs.length = 5 from hxl) with
    | [x0, x1, x2, x3, x4], _ =>
      have k0 := hel 0 _ rfl
      have k1 := hel 1 _ rfl
      have k2 := hel 2 _ rfl
      have k3 := hel 3 _ rfl
      have k4 := hel 4 _ rfl
      have e0 : Try.prog.cellsOf 25 = 6 := by kernel_rfl
      have e1 : Try.prog.cellsOf 26 = 1 := by kernel_rfl
      have e2 : Try.prog.cellsOf 27 = 1 := by kernel_rfl
      have e3 : Try.prog.cellsOf 28 = 1 := by kernel_rfl
      simp [e0, e1, e2, e3] at k0 k1 k2 k3 k4
      obtain ⟨y0, s0⟩ := cos.reads_coord H enc W m _ x0 rfl k0
      obtain ⟨y1, s1⟩ := (reads_slice _ Try.underlying26 (by kernel_rfl) (by decide) reads_shard) H enc W m _ x1 rfl k1
      obtain ⟨y2, s2⟩ := (reads_slice _ Try.underlying27 (by kernel_rfl) (by decide) reads_word) H enc W m _ x2 rfl k2
      obtain ⟨y3, s3⟩ := (reads_slice _ Try.underlying27 (by kernel_rfl) (by decide) reads_word) H enc W m _ x3 rfl k3
      obtain ⟨y4, s4⟩ := (reads_slice _ Try.underlying28 (by kernel_rfl) (by decide) reads_order) H enc W m _ x4 rfl k4
      exact ⟨(y0, (y1, (y2, (y3, y4)))), ⟨[v0, v1, v2, v3, v4, v5], [v6, v7, v8, v9], rfl, s0, ⟨[v6], [v7, v8, v9], rfl, s1, ⟨[v7], [v8, v9], rfl, s2, ⟨[v8], [v9], rfl, s3, s4⟩⟩⟩⟩⟩
end Go.Proofs.Ytmibabclefgljaa.wos

namespace Go.Proofs.Ytmibabclefgljaa.wos
open Go Go.RowKit Go.Proofs.Ytmibabclefgljaa.base Go.Proofs.Ytmibabclefgljaa.pairs Go.Proofs.Ytmibabclefgljaa.ords Go.Proofs.Ytmibabclefgljaa.lay
set_option linter.unusedVariables false
set_option linter.unusedSimpArgs false

def heldT (l : List recs.Shd) (k : Nat) : Nat := ((l.take k).map fun s => s.2.2.2.2.length).sum
def asksT (l : List cos.Jb) (k : Nat) : Nat := ((l.take k).filter fun j => j.2.2.1 == 1).length
def openR (x : Wo) : Int := ((heldT x.2.1 x.2.1.length + asksT x.1.2.2.2.1 x.1.2.2.2.1.length : Nat) : Int)
theorem heldT_succ {l : List recs.Shd} {k : Nat} (hk : k < l.length) : heldT l (k + 1) = heldT l k + l[k].2.2.2.2.length := by
  unfold heldT
  rw [List.take_succ_eq_append_getElem hk, List.map_append, List.sum_append]
  simp
theorem asksT_succ {l : List cos.Jb} {k : Nat} (hk : k < l.length) : asksT l (k + 1) = asksT l k + if (l[k].2.2.1 == 1) = true then 1 else 0 := by
  unfold asksT
  rw [List.take_succ_eq_append_getElem hk, List.filter_append, List.length_append]
  congr 1
  split <;> simp_all [List.filter_cons]
theorem asksT_le (l : List cos.Jb) (k : Nat) : asksT l k ≤ k := by
  unfold asksT
  exact Nat.le_trans (List.length_filter_le _ _) (by simp; omega)
theorem heldT_le {l : List recs.Shd} {m : Nat} (h : ∀ s ∈ l, s.2.2.2.2.length ≤ m) : ∀ k, k ≤ l.length → heldT l k ≤ m * k := by
  intro k
  induction k with
  | zero => intro _; simp [heldT]
  | succ k ih =>
    intro hk
    rw [heldT_succ (by omega), Nat.mul_succ]
    have := ih (by omega)
    have := h _ (List.getElem_mem (show k < l.length by omega))
    omega
structure FewO (x : Wo) : Prop where
  held : ∀ s ∈ x.2.1, s.2.2.2.2.length ≤ 1048576
  sh : x.2.1.length ≤ 1048576
  jobs : x.1.2.2.2.1.length ≤ 1048576
theorem FewO.le {x : Wo} (h : FewO x) (k : Nat) (hk : k ≤ x.2.1.length) : heldT x.2.1 k ≤ 1099511627776 := by
  have h1 := heldT_le h.held k hk
  have h2 := h.sh
  have h3 : 1048576 * k ≤ 1048576 * 1048576 := Nat.mul_le_mul_left _ (by omega)
  omega
set_option maxRecDepth 100000 in
set_option maxHeartbeats 4000000 in
theorem spec_open (ja : Option Addr) (jn jc : Nat) (la : Option Addr) (ln lc : Nat) (sa : Option Addr) (sn sc : Nat) (na : Option Addr) (nn nc : Nat) (oa : Option Addr) (on oc : Nat) (ba : Option Addr) (bn bc : Nat) (x : Wo) (w : World) (h : SeeWo w ja jn jc la ln lc sa sn sc na nn nc oa on oc ba bn bc x) (hf : FewO x) :
    Calls Try.prog 5 #[.agg #[.int .i64 x.1.1, .int .i64 x.1.2.1, .int .i64 x.1.2.2.1, .slice ja jn jc, .slice la ln lc, .int .i64 x.1.2.2.2.2.2, .slice sa sn sc, .slice na nn nc, .slice oa on oc, .slice ba bn bc]] w fun e w' => e = .returned (.int .i64 (openR x)) ∧ Below w.heap.size w w' := by
  obtain ⟨W, hW⟩ : ∃ W, w.alloc (.cells #[.int .i64 x.1.1, .int .i64 x.1.2.1, .int .i64 x.1.2.2.1, .slice ja jn jc, .slice la ln lc, .int .i64 x.1.2.2.2.2.2, .slice sa sn sc, .slice na nn nc, .slice oa on oc, .slice ba bn bc] 41) = W := ⟨_, rfl⟩
  have hB : Below w.heap.size w W := by rw [← hW]; exact below_make
  have hX : BoxIn w.heap.size 41 [] [.int .i64 x.1.1, .int .i64 x.1.2.1, .int .i64 x.1.2.2.1, .slice ja jn jc, .slice la ln lc, .int .i64 x.1.2.2.2.2.2, .slice sa sn sc, .slice na nn nc, .slice oa on oc, .slice ba bn bc] [] W := by rw [← hW]; exact boxIn_new w _ _
  have hS := h.sh.below hB
  have hJ := h.co.jobs.below hB
  have hsl := h.sh.1
  have hjl := h.co.jobs.1
  have HSL := Hid.mk' hsl
  have HJL := Hid.mk' hjl
  have HLE := Hid.mk' (fun k (hk : k ≤ sn) => hf.le k (by omega))
  have HLH := Hid.mk' hf.held
  have hsn : sn ≤ 1048576 := by have := hf.sh; omega
  have hjn : jn ≤ 1048576 := by have := hf.jobs; omega
  have HW := Hid.mk' hW
  have HR : Hid (∀ a b : Nat, a = heldT x.2.1 sn → b = asksT x.1.2.2.2.1 jn → ((a + b : Nat) : Int) = openR x) := fun a b h1 h2 => by unfold openR; rw [h1, h2, hsl, hjl]
  obtain ⟨a0, a1, a2, a3, a4, a5, a6, a7, a8, a9⟩ := cells10 hX
  clear hW h hsl hjl hf
  go_enter Try.func5, Try.ntmps5
  go_wp2_with fail
  rw [HW.out]
  clear a0 a1 a2 a3 a4 a5 a6 a7 a8 a9
  go_loopw [3, 4] (fun n i wr => ∃ k : Nat, k ≤ sn ∧ n = .int .i64 ((heldT x.2.1 k : Nat) : Int) ∧ i = .int .i64 (k : Int) ∧ Below W.heap.size W wr) (fun _ i _ => sn - (intOf i).toNat)
  case atStart => exact ⟨0, Nat.zero_le _, rfl, rfl, Below.refl _ _⟩
  case round =>
    obtain ⟨k, hk, rfl, rfl, hb⟩ := hrel
    obtain ⟨a0, a1, a2, a3, a4, a5, a6, a7, a8, a9⟩ := cells10 (hX.below hb)
    have hBw := hB.trans (hb.mono hB.size)
    by_cases hlt : k < sn
    · have hki : (k : Int) < (sn : Int) := by omega
      have hkl : k < x.2.1.length := by have := HSL.out; omega
      obtain ⟨b, off, hsa⟩ := cos.slg_some hS (by omega)
      subst hsa
      obtain ⟨rla, rln, rlc, rma, rmn, rmc, rha, rhn, rhc, s0, s1, s2, s3, s4, hsee⟩ := shard_at (hS.below hb) k hkl
      have HT := Hid.mk' (heldT_succ hkl)
      have hh := HLH.out _ (List.getElem_mem hkl)
      have hhl := hsee.held.1
      have h8 := HLE.out k hk
      rw [hhl] at hh
      have HHL := Hid.mk' hhl
      generalize heldT x.2.1 k = t0 at *
      clear s0 s1 s2 s3 hsee hhl
      go_wp2_with fail
      go_roundw
      case rel => exact ⟨k + 1, by omega, by rw [HT.out, HHL.out]; go_num, by go_num, hb⟩
      case measure => simp [intOf]; omega
    · have hki : ¬ (k : Int) < (sn : Int) := by omega
      obtain rfl : k = sn := by omega
      have h8 := HLE.out k hk
      have HRA : Hid (∀ b : Nat, b = asksT x.1.2.2.2.1 jn → ((heldT x.2.1 k + b : Nat) : Int) = openR x) := fun b h2 => HR.out _ b rfl h2
      generalize heldT x.2.1 k = t0 at *
      go_wp2_with fail
      clear a0 a1 a2 a3 a4 a5 a6 a7 a8 a9
      obtain ⟨wo, hwo⟩ : ∃ v, v = wr := ⟨_, rfl⟩
      subst hwo
      go_loopw [3, 5] (fun n i wr => ∃ q : Nat, q ≤ jn ∧ n = .int .i64 ((t0 + asksT x.1.2.2.2.1 q : Nat) : Int) ∧ i = .int .i64 (q : Int) ∧ Below W.heap.size W wr) (fun _ i _ => jn - (intOf i).toNat)
      case atStart => exact ⟨0, Nat.zero_le _, by simp [asksT], rfl, hb⟩
      case round =>
        clear hb hBw
        obtain ⟨q, hq, rfl, rfl, hb⟩ := hrel
        obtain ⟨a0, a1, a2, a3, a4, a5, a6, a7, a8, a9⟩ := cells10 (hX.below hb)
        have hBw := hB.trans (hb.mono hB.size)
        have hA := asksT_le x.1.2.2.2.1 q
        by_cases hlq : q < jn
        · have hqi : (q : Int) < (jn : Int) := by omega
          have hql : q < x.1.2.2.2.1.length := by have := HJL.out; omega
          obtain ⟨b, off, hja⟩ := cos.slg_some hJ (by omega)
          subst hja
          obtain ⟨c0, c2, _, _⟩ := cos.job_at (hJ.below hb) q hql
          have HT := Hid.mk' (asksT_succ hql)
          generalize x.1.2.2.2.1[q].2.2.1 = st at *
          generalize asksT x.1.2.2.2.1 q = t1 at *
          cases hst : (st == 1)
          · rw [hst] at HT
            clear c0
            go_wp2_with fail
            go_roundw
            case rel => exact ⟨q + 1, by omega, by rw [HT.out]; go_num, by go_num, hb⟩
            case measure => simp [intOf]; omega
          · rw [hst] at HT
            clear c0
            go_wp2_with fail
            go_roundw
            case rel => exact ⟨q + 1, by omega, by rw [HT.out]; go_num, by go_num, hb⟩
            case measure => simp [intOf]; omega
        · have hqi : ¬ (q : Int) < (jn : Int) := by omega
          obtain rfl : q = jn := by omega
          have HF := Hid.mk' (HRA.out _ rfl)
          go_wp2_with fail
          go_ret
          exact ⟨by rw [← HF.out]; go_num, hBw⟩
set_option maxRecDepth 100000 in
theorem i_asks (t st : Int) (oa : Option Addr) (ol oc : Nat) (ya : Option Addr) (yl yc : Nat) (w : World) :
    Calls Try.prog 17 #[.agg #[.int .i64 t, .slice oa ol oc, .int .i64 st, .slice ya yl yc]] w fun e w' => e = .returned (.bool (st == 1)) ∧ Below w.heap.size w w' := by
  go_enter Try.func17, Try.ntmps17
  go_wp2_with fail
  go_ret
  exact ⟨rfl, below_make⟩
set_option maxRecDepth 100000 in
set_option maxHeartbeats 4000000 in
theorem impl_open (ja : Option Addr) (jn jc : Nat) (la : Option Addr) (ln lc : Nat) (sa : Option Addr) (sn sc : Nat) (na : Option Addr) (nn nc : Nat) (oa : Option Addr) (on oc : Nat) (ba : Option Addr) (bn bc : Nat) (x : Wo) (w : World) (h : SeeWo w ja jn jc la ln lc sa sn sc na nn nc oa on oc ba bn bc x) (hf : FewO x) :
    Calls Try.prog 7 #[.agg #[.int .i64 x.1.1, .int .i64 x.1.2.1, .int .i64 x.1.2.2.1, .slice ja jn jc, .slice la ln lc, .int .i64 x.1.2.2.2.2.2, .slice sa sn sc, .slice na nn nc, .slice oa on oc, .slice ba bn bc]] w fun e w' => e = .returned (.int .i64 (openR x)) ∧ Below w.heap.size w w' := by
  obtain ⟨W, hW⟩ : ∃ W, w.alloc (.cells #[.int .i64 x.1.1, .int .i64 x.1.2.1, .int .i64 x.1.2.2.1, .slice ja jn jc, .slice la ln lc, .int .i64 x.1.2.2.2.2.2, .slice sa sn sc, .slice na nn nc, .slice oa on oc, .slice ba bn bc] 41) = W := ⟨_, rfl⟩
  have hB : Below w.heap.size w W := by rw [← hW]; exact below_make
  have hX : BoxIn w.heap.size 41 [] [.int .i64 x.1.1, .int .i64 x.1.2.1, .int .i64 x.1.2.2.1, .slice ja jn jc, .slice la ln lc, .int .i64 x.1.2.2.2.2.2, .slice sa sn sc, .slice na nn nc, .slice oa on oc, .slice ba bn bc] [] W := by rw [← hW]; exact boxIn_new w _ _
  have hS := h.sh.below hB
  have hJ := h.co.jobs.below hB
  have hsl := h.sh.1
  have hjl := h.co.jobs.1
  have HSL := Hid.mk' hsl
  have HJL := Hid.mk' hjl
  have HLE := Hid.mk' (fun k (hk : k ≤ sn) => hf.le k (by omega))
  have HLH := Hid.mk' hf.held
  have hsn : sn ≤ 1048576 := by have := hf.sh; omega
  have hjn : jn ≤ 1048576 := by have := hf.jobs; omega
  have HW := Hid.mk' hW
  have HR : Hid (∀ a b : Nat, a = heldT x.2.1 sn → b = asksT x.1.2.2.2.1 jn → ((a + b : Nat) : Int) = openR x) := fun a b h1 h2 => by unfold openR; rw [h1, h2, hsl, hjl]
  obtain ⟨a0, a1, a2, a3, a4, a5, a6, a7, a8, a9⟩ := cells10 hX
  clear hW h hsl hjl hf
  go_enter Try.func7, Try.ntmps7
  go_wp2_with fail
  rw [HW.out]
  clear a0 a1 a2 a3 a4 a5 a6 a7 a8 a9
  go_loopw [3, 11] (fun n i wr => ∃ k : Nat, k ≤ sn ∧ n = .int .i64 ((heldT x.2.1 k : Nat) : Int) ∧ i = .int .i64 (k : Int) ∧ Below W.heap.size W wr) (fun _ i _ => sn - (intOf i).toNat)
  case atStart => exact ⟨0, Nat.zero_le _, rfl, rfl, Below.refl _ _⟩
  case round =>
    obtain ⟨k, hk, rfl, rfl, hb⟩ := hrel
    have hBw := hB.trans (hb.mono hB.size)
    by_cases hlt : k < sn
    · have hki : (k : Int) < (sn : Int) := by omega
      have hkl : k < x.2.1.length := by have := HSL.out; omega
      obtain ⟨b, off, hsa⟩ := cos.slg_some hS (by omega)
      subst hsa
      obtain ⟨rla, rln, rlc, rma, rmn, rmc, rha, rhn, rhc, s0, s1, s2, s3, s4, hsee⟩ := shard_at (hS.below hb) k hkl
      have HT := Hid.mk' (heldT_succ hkl)
      have hh := HLH.out _ (List.getElem_mem hkl)
      have hhl := hsee.held.1
      have h8 := HLE.out k hk
      rw [hhl] at hh
      have HHL := Hid.mk' hhl
      generalize heldT x.2.1 k = t0 at *
      generalize x.2.1[k] = s at *
      obtain ⟨u1, hu1⟩ : ∃ u1, wr.alloc (.cells #[.int .i64 s.1, .slice rla rln rlc, .int .i64 s.2.2.1, .slice rma rmn rmc, .slice rha rhn rhc] 52) = u1 := ⟨_, rfl⟩
      have hbu : Below wr.heap.size wr u1 := by rw [← hu1]; exact below_make
      have hC := boxIn_new wr [.int .i64 s.1, .slice rla rln rlc, .int .i64 s.2.2.1, .slice rma rmn rmc, .slice rha rhn rhc] 52
      rw [hu1] at hC
      have y4 := hC.cell 4 _ rfl
      simp only [List.length_nil, Nat.zero_add] at y4
      rw [← hu1] at y4
      have HU := Hid.mk' hu1
      have hbu1 := hb.trans (hbu.mono hb.size)
      clear hu1 hsee hC hhl
      go_wp2_with fail
      rw [HU.out]
      go_roundw
      case rel => exact ⟨k + 1, by omega, by rw [HT.out, HHL.out]; go_num, by go_num, hbu1⟩
      case measure => simp [intOf]; omega
    · have hki : ¬ (k : Int) < (sn : Int) := by omega
      obtain rfl : k = sn := by omega
      have h8 := HLE.out k hk
      have HRA : Hid (∀ b : Nat, b = asksT x.1.2.2.2.1 jn → ((heldT x.2.1 k + b : Nat) : Int) = openR x) := fun b h2 => HR.out _ b rfl h2
      obtain ⟨a0, a1, a2, a3, a4, a5, a6, a7, a8, a9⟩ := cells10 (hX.below hb)
      generalize heldT x.2.1 k = t0 at *
      go_wp2_with fail
      clear a0 a1 a2 a3 a4 a5 a6 a7 a8 a9
      obtain ⟨wo, hwo⟩ : ∃ v, v = wr := ⟨_, rfl⟩
      subst hwo
      go_loopw [3, 25] (fun n i wr => ∃ q : Nat, q ≤ jn ∧ n = .int .i64 ((t0 + asksT x.1.2.2.2.1 q : Nat) : Int) ∧ i = .int .i64 (q : Int) ∧ Below W.heap.size W wr) (fun _ i _ => jn - (intOf i).toNat)
      case atStart => exact ⟨0, Nat.zero_le _, by simp [asksT], rfl, hb⟩
      case round =>
        clear hb hBw
        obtain ⟨q, hq, rfl, rfl, hb⟩ := hrel
        have hBw := hB.trans (hb.mono hB.size)
        have hA := asksT_le x.1.2.2.2.1 q
        by_cases hlq : q < jn
        · have hqi : (q : Int) < (jn : Int) := by omega
          have hql : q < x.1.2.2.2.1.length := by have := HJL.out; omega
          obtain ⟨b, off, hja⟩ := cos.slg_some hJ (by omega)
          subst hja
          obtain ⟨c0, c2, ⟨oa', ol', oc', c1, _, _⟩, ya', yl', yc', c3, _, _⟩ := cos.job_at (hJ.below hb) q hql
          have HT := Hid.mk' (asksT_succ hql)
          generalize x.1.2.2.2.1[q] = j at *
          generalize asksT x.1.2.2.2.1 q = t1 at *
          obtain ⟨u1, hu1⟩ : ∃ u1, wr.alloc (.cells #[.int .i64 j.1, .slice oa' ol' oc', .int .i64 j.2.2.1, .slice ya' yl' yc'] 56) = u1 := ⟨_, rfl⟩
          have hbu : Below wr.heap.size wr u1 := by rw [← hu1]; exact below_make
          have hC := boxIn_new wr [.int .i64 j.1, .slice oa' ol' oc', .int .i64 j.2.2.1, .slice ya' yl' yc'] 56
          rw [hu1] at hC
          have y0 := hC.cell 0 _ rfl
          have y1 := hC.cell 1 _ rfl
          have y2 := hC.cell 2 _ rfl
          have y3 := hC.cell 3 _ rfl
          simp only [List.length_nil, Nat.zero_add] at y0 y1 y2 y3
          rw [← hu1] at y0 y1 y2 y3
          have HU := Hid.mk' hu1
          have hbu1 := hb.trans (hbu.mono hb.size)
          have HA := Hid.mk' (i_asks j.1 j.2.2.1 oa' ol' oc' ya' yl' yc' u1)
          clear hu1 hC
          cases hst : (j.2.2.1 == 1)
          all_goals
            rw [hst] at HT HA
            go_wp2_with fail
            rw [HU.out]
            refine HA.out.mono ?_
            rintro e w5 ⟨rfl, hb5⟩
            have hb6 := hbu1.trans (hb5.mono hbu1.size)
            go_wp2_with fail
            go_roundw
            case rel => exact ⟨q + 1, by omega, by rw [HT.out]; go_num, by go_num, hb6⟩
            case measure => simp [intOf]; omega
        · have hqi : ¬ (q : Int) < (jn : Int) := by omega
          obtain rfl : q = jn := by omega
          have HF := Hid.mk' (HRA.out _ rfl)
          go_wp2_with fail
          go_ret
          exact ⟨by rw [← HF.out]; go_num, hBw⟩
end Go.Proofs.Ytmibabclefgljaa.wos
