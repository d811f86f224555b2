/- Arguments: what came in is read as a value of its type. No function of the program is named here. One who decides that came in. A world that came in. -/
import Derived.Test.YtijplooogplccaaShae
import Derived.ChangeArms
import Derived.Deep.Slices
import Derived.WideShapes
import Derived.Deep.SlicePairs
import Derived.Test.YtijplooogplccaaShab
import Derived.Test.YtijplooogplccaaShaf
namespace Go.Proofs.Ytijplooogplccaa.lay
open Go Go.RowKit Go.Proofs.Ytijplooogplccaa.base
set_option linter.unusedVariables false
set_option linter.unusedSimpArgs false

def Reads {α : Type} (P : Program) (t : TypeId) (R : Rd α) : Prop :=
  ∀ (H : Type) (enc : TypeId × Value → H) (W : World) (fuel : Nat) (vs : List Value) (x : DataW H × List MemPlace), vs.length = R.size → DataW.trod enc P W 0 (fun _ => true) true fuel t vs = some x → ∃ y, R.see W vs y
section
variable {α : Type} {P : Program} {t e : TypeId} {R : Rd α}
theorem reads_int (ht : P.underlying t = some (.int .i64)) : Reads P t int := fun H enc W fuel vs x hl h => by
  obtain ⟨n, rfl, _, hw⟩ := DataW.trod_int ht h
  exact ⟨n, rfl, hw⟩
theorem reads_bool (ht : P.underlying t = some .bool) : Reads P t bool := fun H enc W fuel vs x hl h => by
  obtain ⟨b, rfl, _⟩ := DataW.trod_bool ht h
  exact ⟨b, rfl⟩
theorem reads_str (ht : P.underlying t = some .string) : Reads P t str := fun H enc W fuel vs x hl h => by
  obtain ⟨s, rfl, _, hs⟩ := DataW.trod_string ht h
  exact ⟨s, rfl, hs⟩
theorem reads_slice [Inhabited α] (ty : TypeId) (ht : P.underlying t = some (.slice e)) (hc : P.cellsOf e = R.size) (h0 : 0 < R.size) (hR : Reads P e R) : Reads P t (lay.slice ty R) := fun H enc W fuel vs x hl h => by
  rcases Deep.open_slice ht h with ⟨rfl, _⟩ | ⟨ad, len, cap, m, n, D, Pl, rfl, hb, hlc, hm, hmm, _, hx⟩
  · exact ⟨[], none, 0, 0, rfl, Nat.le_refl _, rfl, Nat.zero_le _, fun x hx => absurd hx List.not_mem_nil, fun h => absurd h (by omega)⟩
  · simp at hmm
    have each : ∀ i, i < len → ∃ y : α, ∃ us, R.see W us y ∧ ∀ j u, us[j]? = some u → W.cell? (ad.add (i * R.size + j)) = some u := by
      intro i hi
      obtain ⟨cs', h1, h2⟩ := hx i (by omega)
      rw [hc] at h1
      obtain ⟨_, hlen, hcell⟩ := World.cells?_some h1
      obtain ⟨y, hy⟩ := hR H enc W n cs' _ hlen h2
      refine ⟨y, cs', hy, fun j u hj => ?_⟩
      have hjl := (List.getElem?_eq_some_iff.1 hj).1
      have := hcell j (by omega)
      rw [Deep.add_add] at this
      rw [this]; exact hj
    obtain ⟨q, hq⟩ := Deep.choose_lt each
    refine ⟨(List.range len).map q, some ad, len, cap, rfl, hlc, by simp, by omega, fun x hx => ?_, fun hl0 => ?_⟩
    · obtain ⟨i, hi, rfl⟩ := List.mem_map.1 hx
      obtain ⟨us, h1, _⟩ := hq i (List.mem_range.1 hi)
      exact ⟨us, h1⟩
    · obtain ⟨b, off, spot⟩ := ad
      obtain ⟨us0, hs0, hc0⟩ := hq 0 hl0
      have hl0 := R.seeLen hs0
      obtain ⟨u0, hu0⟩ : ∃ u, us0[0]? = some u := ⟨us0[0]'(by omega), List.getElem?_eq_getElem (by omega)⟩
      have hspot : spot = none := by simpa [Addr.add] using World.cell?_spot (hc0 0 u0 hu0)
      subst hspot
      refine ⟨b, off, rfl, fun i hi => ?_⟩
      have hi' : i < len := by simpa using hi
      obtain ⟨us, h1, h2⟩ := hq i hi'
      simp only [List.getElem_map, List.getElem_range]
      refine ⟨us, h1, fun j u hj => ?_⟩
      have := h2 j u hj
      rw [Addr.add_lit, ← Nat.add_assoc] at this
      exact this
theorem arg_struct {H : Type} {enc : TypeId × Value → H} {W : World} {r : Reach} {base fuel : Nat} {v : Value} {fs : Array Field} {x : DataW H × List MemPlace} (ht : P.underlying t = some (.struct fs)) (hc : P.cellsOf t = R.size) (hR : Reads P t R) (hok : Value.okWide P W r base t v) (h : DataW.trod enc P W 0 (fun _ => true) true fuel t v.cells.toList = some x) : ∃ cs y, v = .agg cs.toArray ∧ R.see W cs y := by
  obtain ⟨cs, rfl, hsz⟩ := WideShapes.okWide_struct ht hok
  obtain ⟨l⟩ := cs
  rw [hc] at hsz
  obtain ⟨y, hy⟩ := hR H enc W fuel l x hsz h
  exact ⟨l, y, rfl, hy⟩
end
end Go.Proofs.Ytijplooogplccaa.lay

namespace Go.Proofs.Ytijplooogplccaa.cos
open Go Go.RowKit Go.Proofs.Ytijplooogplccaa.base Go.Proofs.Ytijplooogplccaa.pairs Go.Proofs.Ytijplooogplccaa.ords Go.Proofs.Ytijplooogplccaa.lay Go.Proofs.Ytijplooogplccaa.wds
set_option linter.unusedVariables false
set_option linter.unusedSimpArgs false

set_option maxRecDepth 100000 in
theorem reads_op : Reads Try.prog 166 opR := fun H enc W fuel vs x hl h => by
  obtain ⟨xs, m, _, _, _, hxl, hel⟩ := DataW.trod_struct Try.underlying166 h
  match vs, (show vs.length = 3 from hl) with
  | [v0, v1, v2], _ =>
    match xs, (show xs.length = 3 from hxl) with
    | [x0, x1, x2], _ =>
      have k0 := hel 0 _ rfl
      have k1 := hel 1 _ rfl
      have k2 := hel 2 _ rfl
      have e0 : Try.prog.cellsOf 3 = 1 := by kernel_rfl
      have e1 : Try.prog.cellsOf 9 = 1 := by kernel_rfl
      simp [e0, e1] at k0 k1 k2
      obtain ⟨y0, s0⟩ := (reads_int Try.underlying3) H enc W m _ x0 rfl k0
      obtain ⟨y1, s1⟩ := (reads_str Try.underlying9) H enc W m _ x1 rfl k1
      obtain ⟨y2, s2⟩ := (reads_str Try.underlying9) H enc W m _ x2 rfl k2
      exact ⟨(y0, (y1, y2)), ⟨[v0], [v1, v2], rfl, s0, ⟨[v1], [v2], rfl, s1, s2⟩⟩⟩
set_option maxRecDepth 100000 in
theorem reads_choice : Reads Try.prog 147 chR := fun H enc W fuel vs x hl h => by
  obtain ⟨xs, m, _, _, _, hxl, hel⟩ := DataW.trod_struct Try.underlying147 h
  match vs, (show vs.length = 2 from hl) with
  | [v0, v1], _ =>
    match xs, (show xs.length = 2 from hxl) with
    | [x0, x1], _ =>
      have k0 := hel 0 _ rfl
      have k1 := hel 1 _ rfl
      have e0 : Try.prog.cellsOf 3 = 1 := by kernel_rfl
      have e1 : Try.prog.cellsOf 4 = 1 := by kernel_rfl
      simp [e0, e1] at k0 k1
      obtain ⟨y0, s0⟩ := (reads_int Try.underlying3) H enc W m _ x0 rfl k0
      obtain ⟨y1, s1⟩ := (reads_bool Try.underlying4) H enc W m _ x1 rfl k1
      exact ⟨(y0, y1), ⟨[v0], [v1], rfl, s0, s1⟩⟩
set_option maxRecDepth 100000 in
theorem reads_job : Reads Try.prog 141 jobR := fun H enc W fuel vs x hl h => by
  obtain ⟨xs, m, _, _, _, hxl, hel⟩ := DataW.trod_struct Try.underlying141 h
  match vs, (show vs.length = 4 from hl) with
  | [v0, v1, v2, v3], _ =>
    match xs, (show xs.length = 4 from hxl) with
    | [x0, x1, x2, x3], _ =>
      have k0 := hel 0 _ rfl
      have k1 := hel 1 _ rfl
      have k2 := hel 2 _ rfl
      have k3 := hel 3 _ rfl
      have e0 : Try.prog.cellsOf 3 = 1 := by kernel_rfl
      have e1 : Try.prog.cellsOf 109 = 1 := by kernel_rfl
      have e2 : Try.prog.cellsOf 128 = 1 := by kernel_rfl
      simp [e0, e1, e2] at k0 k1 k2 k3
      obtain ⟨y0, s0⟩ := (reads_int Try.underlying3) H enc W m _ x0 rfl k0
      obtain ⟨y1, s1⟩ := (reads_slice _ Try.underlying109 (by kernel_rfl) (by decide) reads_op) H enc W m _ x1 rfl k1
      obtain ⟨y2, s2⟩ := (reads_int Try.underlying3) H enc W m _ x2 rfl k2
      obtain ⟨y3, s3⟩ := (reads_slice _ Try.underlying128 (by kernel_rfl) (by decide) (reads_int Try.underlying3)) H enc W m _ x3 rfl k3
      exact ⟨(y0, (y1, (y2, y3))), ⟨[v0], [v1, v2, v3], rfl, s0, ⟨[v1], [v2, v3], rfl, s1, ⟨[v2], [v3], rfl, s2, s3⟩⟩⟩⟩
set_option maxRecDepth 100000 in
theorem reads_coord : Reads Try.prog 38 coordR := fun H enc W fuel vs x hl h => by
  obtain ⟨xs, m, _, _, _, hxl, hel⟩ := DataW.trod_struct Try.underlying38 h
  match vs, (show vs.length = 6 from hl) with
  | [v0, v1, v2, v3, v4, v5], _ =>
    match xs, (show xs.length = 6 from hxl) with
    | [x0, x1, x2, x3, x4, x5], _ =>
      have k0 := hel 0 _ rfl
      have k1 := hel 1 _ rfl
      have k2 := hel 2 _ rfl
      have k3 := hel 3 _ rfl
      have k4 := hel 4 _ rfl
      have k5 := hel 5 _ rfl
      have e0 : Try.prog.cellsOf 3 = 1 := by kernel_rfl
      have e1 : Try.prog.cellsOf 35 = 1 := by kernel_rfl
      have e2 : Try.prog.cellsOf 36 = 1 := by kernel_rfl
      simp [e0, e1, e2] at k0 k1 k2 k3 k4 k5
      obtain ⟨y0, s0⟩ := (reads_int Try.underlying3) H enc W m _ x0 rfl k0
      obtain ⟨y1, s1⟩ := (reads_int Try.underlying3) H enc W m _ x1 rfl k1
      obtain ⟨y2, s2⟩ := (reads_int Try.underlying3) H enc W m _ x2 rfl k2
      obtain ⟨y3, s3⟩ := (reads_slice _ Try.underlying35 (by kernel_rfl) (by decide) reads_job) H enc W m _ x3 rfl k3
      obtain ⟨y4, s4⟩ := (reads_slice _ Try.underlying36 (by kernel_rfl) (by decide) reads_choice) H enc W m _ x4 rfl k4
      obtain ⟨y5, s5⟩ := (reads_int Try.underlying3) H enc W m _ x5 rfl k5
      exact ⟨(y0, (y1, (y2, (y3, (y4, y5))))), ⟨[v0], [v1, v2, v3, v4, v5], rfl, s0, ⟨[v1], [v2, v3, v4, v5], rfl, s1, ⟨[v2], [v3, v4, v5], rfl, s2, ⟨[v3], [v4, v5], rfl, s3, ⟨[v4], [v5], rfl, s4, s5⟩⟩⟩⟩⟩⟩
end Go.Proofs.Ytijplooogplccaa.cos

namespace Go.Proofs.Ytijplooogplccaa.wos
open Go Go.RowKit Go.Proofs.Ytijplooogplccaa.base Go.Proofs.Ytijplooogplccaa.pairs Go.Proofs.Ytijplooogplccaa.ords Go.Proofs.Ytijplooogplccaa.lay
set_option linter.unusedVariables false
set_option linter.unusedSimpArgs false

set_option maxRecDepth 100000 in
theorem reads_pair : Reads Try.prog 164 pairR := fun H enc W fuel vs x hl h => by
  obtain ⟨xs, m, _, _, _, hxl, hel⟩ := DataW.trod_struct Try.underlying164 h
  match vs, (show vs.length = 2 from hl) with
  | [v0, v1], _ =>
    match xs, (show xs.length = 2 from hxl) with
    | [x0, x1], _ =>
      have k0 := hel 0 _ rfl
      have k1 := hel 1 _ rfl
      have e0 : Try.prog.cellsOf 9 = 1 := by kernel_rfl
      simp [e0] at k0 k1
      obtain ⟨y0, s0⟩ := (reads_str Try.underlying9) H enc W m _ x0 rfl k0
      obtain ⟨y1, s1⟩ := (reads_str Try.underlying9) H enc W m _ x1 rfl k1
      exact ⟨(y0, y1), ⟨[v0], [v1], rfl, s0, s1⟩⟩
set_option maxRecDepth 100000 in
theorem reads_rec : Reads Try.prog 162 recR := fun H enc W fuel vs x hl h => by
  obtain ⟨xs, m, _, _, _, hxl, hel⟩ := DataW.trod_struct Try.underlying162 h
  match vs, (show vs.length = 3 from hl) with
  | [v0, v1, v2], _ =>
    match xs, (show xs.length = 3 from hxl) with
    | [x0, x1, x2], _ =>
      have k0 := hel 0 _ rfl
      have k1 := hel 1 _ rfl
      have k2 := hel 2 _ rfl
      have e0 : Try.prog.cellsOf 3 = 1 := by kernel_rfl
      have e1 : Try.prog.cellsOf 109 = 1 := by kernel_rfl
      simp [e0, e1] at k0 k1 k2
      obtain ⟨y0, s0⟩ := (reads_int Try.underlying3) H enc W m _ x0 rfl k0
      obtain ⟨y1, s1⟩ := (reads_int Try.underlying3) H enc W m _ x1 rfl k1
      obtain ⟨y2, s2⟩ := (reads_slice _ Try.underlying109 (by kernel_rfl) (by decide) cos.reads_op) H enc W m _ x2 rfl k2
      exact ⟨(y0, (y1, y2)), ⟨[v0], [v1, v2], rfl, s0, ⟨[v1], [v2], rfl, s1, s2⟩⟩⟩
set_option maxRecDepth 100000 in
theorem reads_shard : Reads Try.prog 107 shardR := fun H enc W fuel vs x hl h => by
  obtain ⟨xs, m, _, _, _, hxl, hel⟩ := DataW.trod_struct Try.underlying107 h
  match vs, (show vs.length = 5 from hl) with
  | [v0, v1, v2, v3, v4], _ =>
    match xs, (show xs.length = 5 from hxl) with
    | [x0, x1, x2, x3, x4], _ =>
      have k0 := hel 0 _ rfl
      have k1 := hel 1 _ rfl
      have k2 := hel 2 _ rfl
      have k3 := hel 3 _ rfl
      have k4 := hel 4 _ rfl
      have e0 : Try.prog.cellsOf 3 = 1 := by kernel_rfl
      have e1 : Try.prog.cellsOf 104 = 1 := by kernel_rfl
      have e2 : Try.prog.cellsOf 105 = 1 := by kernel_rfl
      simp [e0, e1, e2] at k0 k1 k2 k3 k4
      obtain ⟨y0, s0⟩ := (reads_int Try.underlying3) H enc W m _ x0 rfl k0
      obtain ⟨y1, s1⟩ := (reads_slice _ Try.underlying104 (by kernel_rfl) (by decide) reads_rec) H enc W m _ x1 rfl k1
      obtain ⟨y2, s2⟩ := (reads_int Try.underlying3) H enc W m _ x2 rfl k2
      obtain ⟨y3, s3⟩ := (reads_slice _ Try.underlying105 (by kernel_rfl) (by decide) reads_pair) H enc W m _ x3 rfl k3
      obtain ⟨y4, s4⟩ := (reads_slice _ Try.underlying104 (by kernel_rfl) (by decide) reads_rec) H enc W m _ x4 rfl k4
      exact ⟨(y0, (y1, (y2, (y3, y4)))), ⟨[v0], [v1, v2, v3, v4], rfl, s0, ⟨[v1], [v2, v3, v4], rfl, s1, ⟨[v2], [v3, v4], rfl, s2, ⟨[v3], [v4], rfl, s3, s4⟩⟩⟩⟩⟩
set_option maxRecDepth 100000 in
theorem reads_word : Reads Try.prog 111 cos.wordR := fun H enc W fuel vs x hl h => by
  obtain ⟨xs, m, _, _, _, hxl, hel⟩ := DataW.trod_struct Try.underlying111 h
  match vs, (show vs.length = 5 from hl) with
  | [v0, v1, v2, v3, v4], _ =>
    match xs, (show xs.length = 5 from hxl) with
    | [x0, x1, x2, x3, x4], _ =>
      have k0 := hel 0 _ rfl
      have k1 := hel 1 _ rfl
      have k2 := hel 2 _ rfl
      have k3 := hel 3 _ rfl
      have k4 := hel 4 _ rfl
      have e0 : Try.prog.cellsOf 3 = 1 := by kernel_rfl
      have e1 : Try.prog.cellsOf 109 = 1 := by kernel_rfl
      have e2 : Try.prog.cellsOf 4 = 1 := by kernel_rfl
      simp [e0, e1, e2] at k0 k1 k2 k3 k4
      obtain ⟨y0, s0⟩ := (reads_int Try.underlying3) H enc W m _ x0 rfl k0
      obtain ⟨y1, s1⟩ := (reads_int Try.underlying3) H enc W m _ x1 rfl k1
      obtain ⟨y2, s2⟩ := (reads_int Try.underlying3) H enc W m _ x2 rfl k2
      obtain ⟨y3, s3⟩ := (reads_slice _ Try.underlying109 (by kernel_rfl) (by decide) cos.reads_op) H enc W m _ x3 rfl k3
      obtain ⟨y4, s4⟩ := (reads_bool Try.underlying4) H enc W m _ x4 rfl k4
      exact ⟨(y0, (y1, (y2, (y3, y4)))), ⟨[v0], [v1, v2, v3, v4], rfl, s0, ⟨[v1], [v2, v3, v4], rfl, s1, ⟨[v2], [v3, v4], rfl, s2, ⟨[v3], [v4], rfl, s3, s4⟩⟩⟩⟩⟩
set_option maxRecDepth 100000 in
theorem reads_order : Reads Try.prog 114 ordR := fun H enc W fuel vs x hl h => by
  obtain ⟨xs, m, _, _, _, hxl, hel⟩ := DataW.trod_struct Try.underlying114 h
  match vs, (show vs.length = 2 from hl) with
  | [v0, v1], _ =>
    match xs, (show xs.length = 2 from hxl) with
    | [x0, x1], _ =>
      have k0 := hel 0 _ rfl
      have k1 := hel 1 _ rfl
      have e0 : Try.prog.cellsOf 3 = 1 := by kernel_rfl
      have e1 : Try.prog.cellsOf 109 = 1 := by kernel_rfl
      simp [e0, e1] at k0 k1
      obtain ⟨y0, s0⟩ := (reads_int Try.underlying3) H enc W m _ x0 rfl k0
      obtain ⟨y1, s1⟩ := (reads_slice _ Try.underlying109 (by kernel_rfl) (by decide) cos.reads_op) H enc W m _ x1 rfl k1
      exact ⟨(y0, y1), ⟨[v0], [v1], rfl, s0, s1⟩⟩
set_option maxRecDepth 100000 in
theorem reads_world : Reads Try.prog 43 worldR := fun H enc W fuel vs x hl h => by
  obtain ⟨xs, m, _, _, _, hxl, hel⟩ := DataW.trod_struct Try.underlying43 h
  match vs, (show vs.length = 10 from hl) with
  | [v0, v1, v2, v3, v4, v5, v6, v7, v8, v9], _ =>
    match xs, (show xs.length = 5 from hxl) with
    | [x0, x1, x2, x3, x4], _ =>
      have k0 := hel 0 _ rfl
      have k1 := hel 1 _ rfl
      have k2 := hel 2 _ rfl
      have k3 := hel 3 _ rfl
      have k4 := hel 4 _ rfl
      have e0 : Try.prog.cellsOf 38 = 6 := by kernel_rfl
      have e1 : Try.prog.cellsOf 39 = 1 := by kernel_rfl
      have e2 : Try.prog.cellsOf 40 = 1 := by kernel_rfl
      have e3 : Try.prog.cellsOf 41 = 1 := by kernel_rfl
      simp [e0, e1, e2, e3] at k0 k1 k2 k3 k4
      obtain ⟨y0, s0⟩ := cos.reads_coord H enc W m _ x0 rfl k0
      obtain ⟨y1, s1⟩ := (reads_slice _ Try.underlying39 (by kernel_rfl) (by decide) reads_shard) H enc W m _ x1 rfl k1
      obtain ⟨y2, s2⟩ := (reads_slice _ Try.underlying40 (by kernel_rfl) (by decide) reads_word) H enc W m _ x2 rfl k2
      obtain ⟨y3, s3⟩ := (reads_slice _ Try.underlying40 (by kernel_rfl) (by decide) reads_word) H enc W m _ x3 rfl k3
      obtain ⟨y4, s4⟩ := (reads_slice _ Try.underlying41 (by kernel_rfl) (by decide) reads_order) H enc W m _ x4 rfl k4
      exact ⟨(y0, (y1, (y2, (y3, y4)))), ⟨[v0, v1, v2, v3, v4, v5], [v6, v7, v8, v9], rfl, s0, ⟨[v6], [v7, v8, v9], rfl, s1, ⟨[v7], [v8, v9], rfl, s2, ⟨[v8], [v9], rfl, s3, s4⟩⟩⟩⟩⟩
end Go.Proofs.Ytijplooogplccaa.wos
