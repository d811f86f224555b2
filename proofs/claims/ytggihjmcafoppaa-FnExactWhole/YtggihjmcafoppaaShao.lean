/- Arguments: what came in is read as a value of its type. No function of the program is named here. One who decides that came in. A world that came in. Whether each transaction that is done was decided for sure: both sides. A map of orders by their transactions, that the call itself made. -/
import Derived.Test.YtggihjmcafoppaaShaf
import Derived.ChangeArms
import Derived.Deep.Slices
import Derived.WideShapes
import Derived.Deep.SlicePairs
import Derived.Test.YtggihjmcafoppaaShac
import Derived.Test.YtggihjmcafoppaaShah
import Derived.WalkMore
import Derived.Test.YtggihjmcafoppaaShag
namespace Go.Proofs.Ytggihjmcafoppaa.lay
open Go Go.RowKit Go.Proofs.Ytggihjmcafoppaa.base
set_option linter.unusedVariables false
set_option linter.unusedSimpArgs false

def Reads {α : Type} (P : Program) (t : TypeId) (R : Rd α) : Prop :=
  ∀ (H : Type) (enc : TypeId × Value → H) (W : World) (fuel : Nat) (vs : List Value) (x : DataW H × List MemPlace), vs.length = R.size → DataW.trod enc P W 0 (fun _ => true) true fuel t vs = some x → ∃ y, R.see W vs y
section
variable {α : Type} {P : Program} {t e : TypeId} {R : Rd α}
theorem reads_int (ht : P.underlying t = some (.int .i64)) : Reads P t int := fun H enc W fuel vs x hl h => by
  obtain ⟨n, rfl, _, hw⟩ := DataW.trod_int ht h
  exact ⟨n, rfl, hw⟩
theorem reads_bool (ht : P.underlying t = some .bool) : Reads P t bool := fun H enc W fuel vs x hl h => by
  obtain ⟨b, rfl, _⟩ := DataW.trod_bool ht h
  exact ⟨b, rfl⟩
theorem reads_str (ht : P.underlying t = some .string) : Reads P t str := fun H enc W fuel vs x hl h => by
  obtain ⟨s, rfl, _, hs⟩ := DataW.trod_string ht h
  exact ⟨s, rfl, hs⟩
theorem reads_slice [Inhabited α] (ty : TypeId) (ht : P.underlying t = some (.slice e)) (hc : P.cellsOf e = R.size) (h0 : 0 < R.size) (hR : Reads P e R) : Reads P t (lay.slice ty R) := fun H enc W fuel vs x hl h => by
  rcases Deep.open_slice ht h with ⟨rfl, _⟩ | ⟨ad, len, cap, m, n, D, Pl, rfl, hb, hlc, hm, hmm, _, hx⟩
  · exact ⟨[], none, 0, 0, rfl, Nat.le_refl _, rfl, Nat.zero_le _, fun x hx => absurd hx List.not_mem_nil, fun h => absurd h (by omega)⟩
  · simp at hmm
    have each : ∀ i, i < len → ∃ y : α, ∃ us, R.see W us y ∧ ∀ j u, us[j]? = some u → W.cell? (ad.add (i * R.size + j)) = some u := by
      intro i hi
      obtain ⟨cs', h1, h2⟩ := hx i (by omega)
      rw [hc] at h1
      obtain ⟨_, hlen, hcell⟩ := World.cells?_some h1
      obtain ⟨y, hy⟩ := hR H enc W n cs' _ hlen h2
      refine ⟨y, cs', hy, fun j u hj => ?_⟩
      have hjl := (List.getElem?_eq_some_iff.1 hj).1
      have := hcell j (by omega)
      rw [Deep.add_add] at this
      rw [this]; exact hj
    obtain ⟨q, hq⟩ := Deep.choose_lt each
    refine ⟨(List.range len).map q, some ad, len, cap, rfl, hlc, by simp, by omega, fun x hx => ?_, fun hl0 => ?_⟩
    · obtain ⟨i, hi, rfl⟩ := List.mem_map.1 hx
      obtain ⟨us, h1, _⟩ := hq i (List.mem_range.1 hi)
      exact ⟨us, h1⟩
    · obtain ⟨b, off, spot⟩ := ad
      obtain ⟨us0, hs0, hc0⟩ := hq 0 hl0
      have hl0 := R.seeLen hs0
      obtain ⟨u0, hu0⟩ : ∃ u, us0[0]? = some u := ⟨us0[0]'(by omega), List.getElem?_eq_getElem (by omega)⟩
      have hspot : spot = none := by simpa [Addr.add] using World.cell?_spot (hc0 0 u0 hu0)
      subst hspot
      refine ⟨b, off, rfl, fun i hi => ?_⟩
      have hi' : i < len := by simpa using hi
      obtain ⟨us, h1, h2⟩ := hq i hi'
      simp only [List.getElem_map, List.getElem_range]
      refine ⟨us, h1, fun j u hj => ?_⟩
      have := h2 j u hj
      rw [Addr.add_lit, ← Nat.add_assoc] at this
      exact this
theorem arg_struct {H : Type} {enc : TypeId × Value → H} {W : World} {r : Reach} {base fuel : Nat} {v : Value} {fs : Array Field} {x : DataW H × List MemPlace} (ht : P.underlying t = some (.struct fs)) (hc : P.cellsOf t = R.size) (hR : Reads P t R) (hok : Value.okWide P W r base t v) (h : DataW.trod enc P W 0 (fun _ => true) true fuel t v.cells.toList = some x) : ∃ cs y, v = .agg cs.toArray ∧ R.see W cs y := by
  obtain ⟨cs, rfl, hsz⟩ := WideShapes.okWide_struct ht hok
  obtain ⟨l⟩ := cs
  rw [hc] at hsz
  obtain ⟨y, hy⟩ := hR H enc W fuel l x hsz h
  exact ⟨l, y, rfl, hy⟩
end
end Go.Proofs.Ytggihjmcafoppaa.lay

namespace Go.Proofs.Ytggihjmcafoppaa.cos
open Go Go.RowKit Go.Proofs.Ytggihjmcafoppaa.base Go.Proofs.Ytggihjmcafoppaa.pairs Go.Proofs.Ytggihjmcafoppaa.ords Go.Proofs.Ytggihjmcafoppaa.lay Go.Proofs.Ytggihjmcafoppaa.wds
set_option linter.unusedVariables false
set_option linter.unusedSimpArgs false

set_option maxRecDepth 100000 in
theorem reads_op : Reads Try.prog 166 opR := fun H enc W fuel vs x hl h => by
  obtain ⟨xs, m, _, _, _, hxl, hel⟩ := DataW.trod_struct Try.underlying166 h
  match vs, (show vs.length = 3 from hl) with
  | [v0, v1, v2], _ =>
    match xs, (show xs.length = 3 from hxl) with
    | [x0, x1, x2], _ =>
      have k0 := hel 0 _ rfl
      have k1 := hel 1 _ rfl
      have k2 := hel 2 _ rfl
      have e0 : Try.prog.cellsOf 3 = 1 := by kernel_rfl
      have e1 : Try.prog.cellsOf 9 = 1 := by kernel_rfl
      simp [e0, e1] at k0 k1 k2
      obtain ⟨y0, s0⟩ := (reads_int Try.underlying3) H enc W m _ x0 rfl k0
      obtain ⟨y1, s1⟩ := (reads_str Try.underlying9) H enc W m _ x1 rfl k1
      obtain ⟨y2, s2⟩ := (reads_str Try.underlying9) H enc W m _ x2 rfl k2
      exact ⟨(y0, (y1, y2)), ⟨[v0], [v1, v2], rfl, s0, ⟨[v1], [v2], rfl, s1, s2⟩⟩⟩
set_option maxRecDepth 100000 in
theorem reads_choice : Reads Try.prog 146 chR := fun H enc W fuel vs x hl h => by
  obtain ⟨xs, m, _, _, _, hxl, hel⟩ := DataW.trod_struct Try.underlying146 h
  match vs, (show vs.length = 2 from hl) with
  | [v0, v1], _ =>
    match xs, (show xs.length = 2 from hxl) with
    | [x0, x1], _ =>
      have k0 := hel 0 _ rfl
      have k1 := hel 1 _ rfl
      have e0 : Try.prog.cellsOf 3 = 1 := by kernel_rfl
      have e1 : Try.prog.cellsOf 4 = 1 := by kernel_rfl
      simp [e0, e1] at k0 k1
      obtain ⟨y0, s0⟩ := (reads_int Try.underlying3) H enc W m _ x0 rfl k0
      obtain ⟨y1, s1⟩ := (reads_bool Try.underlying4) H enc W m _ x1 rfl k1
      exact ⟨(y0, y1), ⟨[v0], [v1], rfl, s0, s1⟩⟩
set_option maxRecDepth 100000 in
theorem reads_job : Reads Try.prog 140 jobR := fun H enc W fuel vs x hl h => by
  obtain ⟨xs, m, _, _, _, hxl, hel⟩ := DataW.trod_struct Try.underlying140 h
  match vs, (show vs.length = 4 from hl) with
  | [v0, v1, v2, v3], _ =>
    match xs, (show xs.length = 4 from hxl) with
    | [x0, x1, x2, x3], _ =>
      have k0 := hel 0 _ rfl
      have k1 := hel 1 _ rfl
      have k2 := hel 2 _ rfl
      have k3 := hel 3 _ rfl
      have e0 : Try.prog.cellsOf 3 = 1 := by kernel_rfl
      have e1 : Try.prog.cellsOf 109 = 1 := by kernel_rfl
      have e2 : Try.prog.cellsOf 123 = 1 := by kernel_rfl
      simp [e0, e1, e2] at k0 k1 k2 k3
      obtain ⟨y0, s0⟩ := (reads_int Try.underlying3) H enc W m _ x0 rfl k0
      obtain ⟨y1, s1⟩ := (reads_slice _ Try.underlying109 (by kernel_rfl) (by decide) reads_op) H enc W m _ x1 rfl k1
      obtain ⟨y2, s2⟩ := (reads_int Try.underlying3) H enc W m _ x2 rfl k2
      obtain ⟨y3, s3⟩ := (reads_slice _ Try.underlying123 (by kernel_rfl) (by decide) (reads_int Try.underlying3)) H enc W m _ x3 rfl k3
      exact ⟨(y0, (y1, (y2, y3))), ⟨[v0], [v1, v2, v3], rfl, s0, ⟨[v1], [v2, v3], rfl, s1, ⟨[v2], [v3], rfl, s2, s3⟩⟩⟩⟩
set_option maxRecDepth 100000 in
theorem reads_coord : Reads Try.prog 38 coordR := fun H enc W fuel vs x hl h => by
  obtain ⟨xs, m, _, _, _, hxl, hel⟩ := DataW.trod_struct Try.underlying38 h
  match vs, (show vs.length = 6 from hl) with
  | [v0, v1, v2, v3, v4, v5], _ =>
    match xs, (show xs.length = 6 from hxl) with
    | [x0, x1, x2, x3, x4, x5], _ =>
      have k0 := hel 0 _ rfl
      have k1 := hel 1 _ rfl
      have k2 := hel 2 _ rfl
      have k3 := hel 3 _ rfl
      have k4 := hel 4 _ rfl
      have k5 := hel 5 _ rfl
      have e0 : Try.prog.cellsOf 3 = 1 := by kernel_rfl
      have e1 : Try.prog.cellsOf 35 = 1 := by kernel_rfl
      have e2 : Try.prog.cellsOf 36 = 1 := by kernel_rfl
      simp [e0, e1, e2] at k0 k1 k2 k3 k4 k5
      obtain ⟨y0, s0⟩ := (reads_int Try.underlying3) H enc W m _ x0 rfl k0
      obtain ⟨y1, s1⟩ := (reads_int Try.underlying3) H enc W m _ x1 rfl k1
      obtain ⟨y2, s2⟩ := (reads_int Try.underlying3) H enc W m _ x2 rfl k2
      obtain ⟨y3, s3⟩ := (reads_slice _ Try.underlying35 (by kernel_rfl) (by decide) reads_job) H enc W m _ x3 rfl k3
      obtain ⟨y4, s4⟩ := (reads_slice _ Try.underlying36 (by kernel_rfl) (by decide) reads_choice) H enc W m _ x4 rfl k4
      obtain ⟨y5, s5⟩ := (reads_int Try.underlying3) H enc W m _ x5 rfl k5
      exact ⟨(y0, (y1, (y2, (y3, (y4, y5))))), ⟨[v0], [v1, v2, v3, v4, v5], rfl, s0, ⟨[v1], [v2, v3, v4, v5], rfl, s1, ⟨[v2], [v3, v4, v5], rfl, s2, ⟨[v3], [v4, v5], rfl, s3, ⟨[v4], [v5], rfl, s4, s5⟩⟩⟩⟩⟩⟩
end Go.Proofs.Ytggihjmcafoppaa.cos

namespace Go.Proofs.Ytggihjmcafoppaa.wos
open Go Go.RowKit Go.Proofs.Ytggihjmcafoppaa.base Go.Proofs.Ytggihjmcafoppaa.pairs Go.Proofs.Ytggihjmcafoppaa.ords Go.Proofs.Ytggihjmcafoppaa.lay
set_option linter.unusedVariables false
set_option linter.unusedSimpArgs false

set_option maxRecDepth 100000 in
theorem reads_pair : Reads Try.prog 164 pairR := fun H enc W fuel vs x hl h => by
  obtain ⟨xs, m, _, _, _, hxl, hel⟩ := DataW.trod_struct Try.underlying164 h
  match vs, (show vs.length = 2 from hl) with
  | [v0, v1], _ =>
    match xs, (show xs.length = 2 from hxl) with
    | [x0, x1], _ =>
      have k0 := hel 0 _ rfl
      have k1 := hel 1 _ rfl
      have e0 : Try.prog.cellsOf 9 = 1 := by kernel_rfl
      simp [e0] at k0 k1
      obtain ⟨y0, s0⟩ := (reads_str Try.underlying9) H enc W m _ x0 rfl k0
      obtain ⟨y1, s1⟩ := (reads_str Try.underlying9) H enc W m _ x1 rfl k1
      exact ⟨(y0, y1), ⟨[v0], [v1], rfl, s0, s1⟩⟩
set_option maxRecDepth 100000 in
theorem reads_rec : Reads Try.prog 162 recR := fun H enc W fuel vs x hl h => by
  obtain ⟨xs, m, _, _, _, hxl, hel⟩ := DataW.trod_struct Try.underlying162 h
  match vs, (show vs.length = 3 from hl) with
  | [v0, v1, v2], _ =>
    match xs, (show xs.length = 3 from hxl) with
    | [x0, x1, x2], _ =>
      have k0 := hel 0 _ rfl
      have k1 := hel 1 _ rfl
      have k2 := hel 2 _ rfl
      have e0 : Try.prog.cellsOf 3 = 1 := by kernel_rfl
      have e1 : Try.prog.cellsOf 109 = 1 := by kernel_rfl
      simp [e0, e1] at k0 k1 k2
      obtain ⟨y0, s0⟩ := (reads_int Try.underlying3) H enc W m _ x0 rfl k0
      obtain ⟨y1, s1⟩ := (reads_int Try.underlying3) H enc W m _ x1 rfl k1
      obtain ⟨y2, s2⟩ := (reads_slice _ Try.underlying109 (by kernel_rfl) (by decide) cos.reads_op) H enc W m _ x2 rfl k2
      exact ⟨(y0, (y1, y2)), ⟨[v0], [v1, v2], rfl, s0, ⟨[v1], [v2], rfl, s1, s2⟩⟩⟩
set_option maxRecDepth 100000 in
theorem reads_shard : Reads Try.prog 107 shardR := fun H enc W fuel vs x hl h => by
  obtain ⟨xs, m, _, _, _, hxl, hel⟩ := DataW.trod_struct Try.underlying107 h
  match vs, (show vs.length = 5 from hl) with
  | [v0, v1, v2, v3, v4], _ =>
    match xs, (show xs.length = 5 from hxl) with
    | [x0, x1, x2, x3, x4], _ =>
      have k0 := hel 0 _ rfl
      have k1 := hel 1 _ rfl
      have k2 := hel 2 _ rfl
      have k3 := hel 3 _ rfl
      have k4 := hel 4 _ rfl
      have e0 : Try.prog.cellsOf 3 = 1 := by kernel_rfl
      have e1 : Try.prog.cellsOf 104 = 1 := by kernel_rfl
      have e2 : Try.prog.cellsOf 105 = 1 := by kernel_rfl
      simp [e0, e1, e2] at k0 k1 k2 k3 k4
      obtain ⟨y0, s0⟩ := (reads_int Try.underlying3) H enc W m _ x0 rfl k0
      obtain ⟨y1, s1⟩ := (reads_slice _ Try.underlying104 (by kernel_rfl) (by decide) reads_rec) H enc W m _ x1 rfl k1
      obtain ⟨y2, s2⟩ := (reads_int Try.underlying3) H enc W m _ x2 rfl k2
      obtain ⟨y3, s3⟩ := (reads_slice _ Try.underlying105 (by kernel_rfl) (by decide) reads_pair) H enc W m _ x3 rfl k3
      obtain ⟨y4, s4⟩ := (reads_slice _ Try.underlying104 (by kernel_rfl) (by decide) reads_rec) H enc W m _ x4 rfl k4
      exact ⟨(y0, (y1, (y2, (y3, y4)))), ⟨[v0], [v1, v2, v3, v4], rfl, s0, ⟨[v1], [v2, v3, v4], rfl, s1, ⟨[v2], [v3, v4], rfl, s2, ⟨[v3], [v4], rfl, s3, s4⟩⟩⟩⟩⟩
set_option maxRecDepth 100000 in
theorem reads_word : Reads Try.prog 111 cos.wordR := fun H enc W fuel vs x hl h => by
  obtain ⟨xs, m, _, _, _, hxl, hel⟩ := DataW.trod_struct Try.underlying111 h
  match vs, (show vs.length = 5 from hl) with
  | [v0, v1, v2, v3, v4], _ =>
    match xs, (show xs.length = 5 from hxl) with
    | [x0, x1, x2, x3, x4], _ =>
      have k0 := hel 0 _ rfl
      have k1 := hel 1 _ rfl
      have k2 := hel 2 _ rfl
      have k3 := hel 3 _ rfl
      have k4 := hel 4 _ rfl
      have e0 : Try.prog.cellsOf 3 = 1 := by kernel_rfl
      have e1 : Try.prog.cellsOf 109 = 1 := by kernel_rfl
      have e2 : Try.prog.cellsOf 4 = 1 := by kernel_rfl
      simp [e0, e1, e2] at k0 k1 k2 k3 k4
      obtain ⟨y0, s0⟩ := (reads_int Try.underlying3) H enc W m _ x0 rfl k0
      obtain ⟨y1, s1⟩ := (reads_int Try.underlying3) H enc W m _ x1 rfl k1
      obtain ⟨y2, s2⟩ := (reads_int Try.underlying3) H enc W m _ x2 rfl k2
      obtain ⟨y3, s3⟩ := (reads_slice _ Try.underlying109 (by kernel_rfl) (by decide) cos.reads_op) H enc W m _ x3 rfl k3
      obtain ⟨y4, s4⟩ := (reads_bool Try.underlying4) H enc W m _ x4 rfl k4
      exact ⟨(y0, (y1, (y2, (y3, y4)))), ⟨[v0], [v1, v2, v3, v4], rfl, s0, ⟨[v1], [v2, v3, v4], rfl, s1, ⟨[v2], [v3, v4], rfl, s2, ⟨[v3], [v4], rfl, s3, s4⟩⟩⟩⟩⟩
set_option maxRecDepth 100000 in
theorem reads_order : Reads Try.prog 114 ordR := fun H enc W fuel vs x hl h => by
  obtain ⟨xs, m, _, _, _, hxl, hel⟩ := DataW.trod_struct Try.underlying114 h
  match vs, (show vs.length = 2 from hl) with
  | [v0, v1], _ =>
    match xs, (show xs.length = 2 from hxl) with
    | [x0, x1], _ =>
      have k0 := hel 0 _ rfl
      have k1 := hel 1 _ rfl
      have e0 : Try.prog.cellsOf 3 = 1 := by kernel_rfl
      have e1 : Try.prog.cellsOf 109 = 1 := by kernel_rfl
      simp [e0, e1] at k0 k1
      obtain ⟨y0, s0⟩ := (reads_int Try.underlying3) H enc W m _ x0 rfl k0
      obtain ⟨y1, s1⟩ := (reads_slice _ Try.underlying109 (by kernel_rfl) (by decide) cos.reads_op) H enc W m _ x1 rfl k1
      exact ⟨(y0, y1), ⟨[v0], [v1], rfl, s0, s1⟩⟩
set_option maxRecDepth 100000 in
theorem reads_world : Reads Try.prog 43 worldR := fun H enc W fuel vs x hl h => by
  obtain ⟨xs, m, _, _, _, hxl, hel⟩ := DataW.trod_struct Try.underlying43 h
  match vs, (show vs.length = 10 from hl) with
  | [v0, v1, v2, v3, v4, v5, v6, v7, v8, v9], _ =>
    match xs, (show xs.length = 5 from hxl) with
    | [x0, x1, x2, x3, x4], _ =>
      have k0 := hel 0 _ rfl
      have k1 := hel 1 _ rfl
      have k2 := hel 2 _ rfl
      have k3 := hel 3 _ rfl
      have k4 := hel 4 _ rfl
      have e0 : Try.prog.cellsOf 38 = 6 := by kernel_rfl
      have e1 : Try.prog.cellsOf 39 = 1 := by kernel_rfl
      have e2 : Try.prog.cellsOf 40 = 1 := by kernel_rfl
      have e3 : Try.prog.cellsOf 41 = 1 := by kernel_rfl
      simp [e0, e1, e2, e3] at k0 k1 k2 k3 k4
      obtain ⟨y0, s0⟩ := cos.reads_coord H enc W m _ x0 rfl k0
      obtain ⟨y1, s1⟩ := (reads_slice _ Try.underlying39 (by kernel_rfl) (by decide) reads_shard) H enc W m _ x1 rfl k1
      obtain ⟨y2, s2⟩ := (reads_slice _ Try.underlying40 (by kernel_rfl) (by decide) reads_word) H enc W m _ x2 rfl k2
      obtain ⟨y3, s3⟩ := (reads_slice _ Try.underlying40 (by kernel_rfl) (by decide) reads_word) H enc W m _ x3 rfl k3
      obtain ⟨y4, s4⟩ := (reads_slice _ Try.underlying41 (by kernel_rfl) (by decide) reads_order) H enc W m _ x4 rfl k4
      exact ⟨(y0, (y1, (y2, (y3, y4)))), ⟨[v0, v1, v2, v3, v4, v5], [v6, v7, v8, v9], rfl, s0, ⟨[v6], [v7, v8, v9], rfl, s1, ⟨[v7], [v8, v9], rfl, s2, ⟨[v8], [v9], rfl, s3, s4⟩⟩⟩⟩⟩
end Go.Proofs.Ytggihjmcafoppaa.wos

namespace Go.Proofs.Ytggihjmcafoppaa.wos
open Go Go.RowKit Go.Proofs.Ytggihjmcafoppaa.base Go.Proofs.Ytggihjmcafoppaa.pairs Go.Proofs.Ytggihjmcafoppaa.ords Go.Proofs.Ytggihjmcafoppaa.lay
set_option linter.unusedVariables false
set_option linter.unusedSimpArgs false

theorem all_miss {α : Type} {l : List α} {p : α → Bool} {k : Nat} (hk : k < l.length) (h : p l[k] = false) : l.all p = false := by
  rw [List.all_eq_false]
  exact ⟨l[k], List.getElem_mem hk, by rw [h]; decide⟩
theorem all_every {α : Type} {l : List α} {p : α → Bool} (h : ∀ j (hj : j < l.length), p l[j] = true) : l.all p = true := by
  rw [List.all_eq_true]
  intro x hx
  obtain ⟨j, hj, rfl⟩ := List.getElem_of_mem hx
  exact h j hj
theorem rec_at {w : World} {b off len : Nat} {l : List recs.Rc} (h : recs.SlR w (some ⟨b, off, none⟩) len l) (i : Nat) (hi : i < l.length) : w.cell? ⟨b, off + i * 3, none⟩ = some (.int .i64 l[i].1) ∧ w.cell? ⟨b, off + i * 3 + 1, none⟩ = some (.int .i64 l[i].2.1) ∧ ∃ pa pl pc, w.cell? ⟨b, off + i * 3 + 2, none⟩ = some (.slice pa pl pc) ∧ SlO w pa pl l[i].2.2 ∧ pl ≤ pc := by
  obtain ⟨b', off', e, hc⟩ := h.2.2.2 (by have := h.1; omega)
  simp only [Option.some.injEq, Addr.mk.injEq, and_true] at e
  obtain ⟨rfl, rfl⟩ := e
  obtain ⟨c0, c1, pa, pl, pc, c2, k3, k4⟩ := hc i hi
  exact ⟨c0, c1, pa, pl, pc, c2, k3, k4⟩
theorem slr_some {w : World} {a : Option Addr} {len : Nat} {l : List recs.Rc} (h : recs.SlR w a len l) (h0 : 0 < len) : ∃ b off, a = some ⟨b, off, none⟩ := by
  obtain ⟨b, off, e, _⟩ := h.2.2.2 h0
  exact ⟨b, off, e⟩
end Go.Proofs.Ytggihjmcafoppaa.wos

namespace Go.Proofs.Ytggihjmcafoppaa.wos
open Go Go.RowKit Go.Proofs.Ytggihjmcafoppaa.base Go.Proofs.Ytggihjmcafoppaa.pairs Go.Proofs.Ytggihjmcafoppaa.ords Go.Proofs.Ytggihjmcafoppaa.lay
open Go.ChangeMaps Go.MapKept
open Go.Maps (keyOf_int_mk)
set_option linter.unusedVariables false
set_option linter.unusedSimpArgs false

def ordL : List Value → Option (DataW Unit × List MemPlace)
  | [.int .i64 t, .slice none n c] => some (recs.codeR 0 t none n c, [])
  | [.int .i64 t, .slice (some ⟨b, o, none⟩) n c] => some (recs.codeR 0 t (some ⟨b, o, none⟩) n c, [])
  | _ => none
def ordE : Value → Option (DataW Unit × List MemPlace)
  | .agg xs => ordL xs.toList
  | _ => none
theorem ordE_mk (t : Int) {a : Option Addr} (n c : Nat) (h : recs.Plain a) : ordE (.agg #[.int .i64 t, .slice a n c]) = some (recs.codeR 0 t a n c, []) := by
  rcases h with rfl | ⟨b, o, rfl⟩ <;> rfl
theorem ordE_inv {v : Value} {z : DataW Unit × List MemPlace} (h : ordE v = some z) : ∃ t a n c, recs.Plain a ∧ v = .agg #[.int .i64 t, .slice a n c] ∧ z = (recs.codeR 0 t a n c, []) := by
  unfold ordE at h
  split at h
  · next xs =>
    unfold ordL at h
    split at h
    · next t n c e =>
      cases h
      exact ⟨t, none, n, c, .inl rfl, by rw [← e], rfl⟩
    · next t b o n c e =>
      cases h
      exact ⟨t, some ⟨b, o, none⟩, n, c, .inr ⟨b, o, rfl⟩, by rw [← e], rfl⟩
    · cases h
  · cases h
theorem zeroOrd (w : World) : (zeroValue 80).run Try.prog w = .ok (.agg #[.int .i64 0, .slice none 0 0]) w := by kernel_rfl
def valO : Option Orr → Orr
  | none => (0, [])
  | some o => o
def OrdM (w0 w : World) (B n : Nat) (f : Int → Option Orr) : Prop :=
  ∃ D : DataW Unit, w.ownsMap Try.prog 3 ordE B n D ∧ Maps.IsMap D ∧
    ∀ s : Int, (Lit.int .i64 s).wf = true → Maps.has D (.int .i64 s) = (f s).isSome ∧ ∃ a m c, recs.Plain a ∧ SlO w0 a m (valO (f s)).2 ∧ m ≤ c ∧ D.atKey (.int .i64 s) (recs.codeR 0 0 none 0 0) = recs.codeR 0 (valO (f s)).1 a m c
theorem ordM_made (w0 w : World) : OrdM w0 (w.alloc (.map #[] 0)) w.heap.size 0 (fun _ => none) :=
  ⟨.map [], World.ownsMap_made _ _ _ _, Maps.isMap_empty, fun s _ => ⟨rfl, none, 0, 0, .inl rfl, slo_nil _ _, Nat.le_refl _, rfl⟩⟩
section
variable {w0 w w' : World} {B n : Nat} {f : Int → Option Orr}
theorem OrdM.lt (h : OrdM w0 w B n f) : B < w.heap.size := by
  obtain ⟨D, ⟨es, clock, hb, _⟩, _⟩ := h
  exact (Array.getElem?_eq_some_iff.1 hb).1
theorem OrdM.keep (h : OrdM w0 w B n f) (hb : w'.heap[B]? = w.heap[B]?) : OrdM w0 w' B n f := by
  obtain ⟨D, ⟨es, clock, h1, h2⟩, h3, h4⟩ := h
  exact ⟨D, ⟨es, clock, hb.trans h1, h2⟩, h3, h4⟩
theorem OrdM.below (h : OrdM w0 w B n f) (hb : Below w.heap.size w w') : OrdM w0 w' B n f := h.keep (hb.block B h.lt)
theorem OrdM.ask (h : OrdM w0 w B n f) {s : Int} (hs : (Lit.int .i64 s).wf = true) : ∃ a m c, recs.Plain a ∧ SlO w0 a m (valO (f s)).2 ∧ (Instr.lookup 82 (.map (some B)) (.int .i64 s) true).run Try.prog w = .ok (.tuple #[.agg #[.int .i64 (valO (f s)).1, .slice a m c], .bool (f s).isSome]) w := by
  obtain ⟨D, h1, h3, h4⟩ := h
  obtain ⟨hh, a, m, c, h5, h6, _, h7⟩ := h4 s hs
  obtain ⟨v, ps, hrun, hR⟩ := h1.look_ok recs.intLawR Try.underlying82 (zeroOrd w) (ordE_mk 0 0 0 (.inl rfl)) (keyOf_int_mk (P := Try.prog) Try.underlying3 hs)
  rw [h7] at hR
  obtain ⟨t', a', n', c', hp, hv, hz⟩ := ordE_inv hR
  obtain ⟨_, e2, e3, e4, e5⟩ := recs.codeR_inj h5 hp (congrArg Prod.fst hz)
  refine ⟨a, m, c, h5, h6, ?_⟩
  rw [hrun, hh, hv, e2, e3, e4, e5]
theorem OrdM.look (h : OrdM w0 w B n f) {s : Int} (hs : (Lit.int .i64 s).wf = true) : ∃ a m c, recs.Plain a ∧ SlO w0 a m (valO (f s)).2 ∧ m ≤ c ∧ ∀ w2 : World, w2.heap[B]? = w.heap[B]? → (Instr.lookup 82 (.map (some B)) (.int .i64 s) false).run Try.prog w2 = .ok (.agg #[.int .i64 (valO (f s)).1, .slice a m c]) w2 := by
  obtain ⟨D, ⟨es, clock, hb, F, hn, rfl⟩, h3, h4⟩ := h
  obtain ⟨_, a, m, c, h5, h6, hmc, h7⟩ := h4 s hs
  have hkey := keyOf_int_mk (P := Try.prog) Try.underlying3 hs
  refine ⟨a, m, c, h5, h6, hmc, fun w2 hw2 => ?_⟩
  rcases Maps.fit_look false recs.intLawR Try.underlying82 (zeroOrd w2) (hw2.trans hb) F hkey with ⟨hrun, _, hat⟩ | ⟨e0, y, _, _, hrun, hRv, hat, _⟩
  · rw [hat] at h7
    obtain ⟨_, e2, e3, e4, e5⟩ := recs.codeR_inj (.inl rfl) h5 h7
    rw [hrun, ← e2, ← e3, ← e4, ← e5]; rfl
  · rw [hat] at h7
    obtain ⟨t', a', n', c', hp, hv, hz⟩ := ordE_inv hRv
    rw [hz] at h7
    obtain ⟨_, e2, e3, e4, e5⟩ := recs.codeR_inj hp h5 h7
    rw [hrun, hv, ← e2, ← e3, ← e4, ← e5]; rfl
def updO (f : Int → Option Orr) (s : Int) (o : Orr) (t : Int) : Option Orr := if t = s then some o else f t
theorem OrdM.store (h : OrdM w0 w B n f) (hn : n < maxLen) {s : Int} (hs : (Lit.int .i64 s).wf = true) {r : Orr} {a : Option Addr} {m c : Nat} (ha : recs.Plain a) (hS : SlO w0 a m r.2) (hmc : m ≤ c) :
    ∃ w2, (Instr.mapUpdate 82 (.map (some B)) (.int .i64 s) (.agg #[.int .i64 r.1, .slice a m c])).run Try.prog w = .ok () w2 ∧ OrdM w0 w2 B (n + 1) (updO f s r) ∧ w.grownBy w2 (some B) := by
  obtain ⟨D, h1, h3, h4⟩ := h
  have hkey := keyOf_int_mk (P := Try.prog) Try.underlying3 hs
  obtain ⟨w2, hrun, hown, hturn⟩ := h1.store recs.intLawR Try.underlying82 hn hkey (ordE_mk r.1 m c ha)
  refine ⟨w2, hrun, ⟨_, hown, h3.put _ _, fun t ht => ?_⟩, hturn.grown⟩
  unfold updO
  by_cases e : t = s
  · subst e
    rw [if_pos rfl]
    exact ⟨Maps.has_put_same h3 (by trivial) _, a, m, c, ha, hS, hmc, Maps.atKey_put_same h3 (by trivial) _ _⟩
  · rw [if_neg e]
    obtain ⟨h8, a', m', c', h5, h6, h9, h7⟩ := h4 t ht
    have hne : (Lit.int .i64 t) ≠ .int .i64 s := by intro e2; exact e (by cases e2; rfl)
    exact ⟨by rw [Maps.has_put_other hne, h8], a', m', c', h5, h6, h9, by rw [Maps.atKey_put_other hne, h7]⟩
end
theorem wpList_store_ord {w0 w : World} {ops : Array Oper} {rest : List Oper} {o : Oper} {a : Act} {Q : Exit → Act → World → Prop} (hg : o.guard = none) (m x v : Operand) (hop : o.op = Op.mapUpdate 82 m x v)
    {B n : Nat} {f : Int → Option Orr} (hm : a.eval m = .map (some B)) (h : OrdM w0 w B n f) (hn : n < maxLen) {s : Int} (hx : a.eval x = .int .i64 s) (hs : (Lit.int .i64 s).wf = true) {r : Orr} {ad : Option Addr} {mm c : Nat} (hv : a.eval v = .agg #[.int .i64 r.1, .slice ad mm c]) (ha : recs.Plain ad) (hS : SlO w0 ad mm r.2) (hmc : mm ≤ c)
    (hK : ∀ w2, OrdM w0 w2 B (n + 1) (updO f s r) → w.grownBy w2 (some B) → wpList Try.prog ops Q rest (a.put o.dst undef) w2) : wpList Try.prog ops Q (o :: rest) a w := by
  refine wpList_plain hg fun K' hK' => ?_
  obtain ⟨w2, hrun, r1, r2⟩ := h.store hn hs (c := c) ha hS hmc
  unfold Oper.wp
  simp [execOp, hop, hm, hx, hv, hrun, Result.andThen]
  exact hK' _ _ (hK w2 r1 r2)
set_option maxRecDepth 100000 in
set_option maxHeartbeats 1000000 in
theorem i_ohas (w0 : World) (B m : Nat) (f : Int → Option Orr) (tx : Int) (w : World) (h : OrdM w0 w B m f) (hw : (Lit.int .i64 tx).wf = true) :
    Calls Try.prog 55 #[.map (some B), .int .i64 tx] w fun e w' => e = .returned (.bool (f tx).isSome) ∧ Below w.heap.size w w' := by
  obtain ⟨a, n, c, _, _, hlk⟩ := h.ask hw
  generalize (valO (f tx)).1 = t at *
  generalize (f tx).isSome = r at *
  clear h hw
  go_enter Try.func55, Try.ntmps55
  go_wp2_with fail
  go_ret
  exact ⟨rfl, below_make⟩
def firstO (l : List Orr) (tx : Int) : Option Orr := l.find? fun o => decide (o.1 = tx)
theorem firstO_take {l : List Orr} {k : Nat} (hk : k < l.length) : firstO (l.take (k + 1)) = if (firstO (l.take k) l[k].1).isSome = true then firstO (l.take k) else updO (firstO (l.take k)) l[k].1 l[k] := by
  funext s
  have e1 : firstO (l.take (k + 1)) s = (firstO (l.take k) s).or (if l[k].1 = s then some l[k] else none) := by
    unfold firstO
    rw [List.take_succ_eq_append_getElem hk, List.find?_append]
    congr 1
    by_cases e : l[k].1 = s
    · simp [e]
    · simp [e]
  rw [e1]
  by_cases h : (firstO (l.take k) l[k].1).isSome = true
  · rw [if_pos h]
    by_cases e : l[k].1 = s
    · subst e
      obtain ⟨o, ho⟩ := Option.isSome_iff_exists.1 h
      rw [ho]; rfl
    · rw [if_neg e]; simp
  · rw [if_neg h]
    unfold updO
    by_cases e : s = l[k].1
    · subst e
      have : firstO (l.take k) l[k].1 = none := by simpa using h
      rw [this]; simp
    · rw [if_neg e, if_neg (fun e2 => e e2.symm)]; simp
def PlainO (w : World) (a : Option Addr) (n : Nat) : Prop := ∀ b off, a = some ⟨b, off, none⟩ → ∀ i, i < n → ∀ pa pl pc, w.cell? ⟨b, off + i * 2 + 1, none⟩ = some (.slice pa pl pc) → recs.Plain pa
def RetM (w : World) (f : Int → Option Orr) (e : Ending) (w' : World) : Prop := ∃ B m, e = .returned (.map (some B)) ∧ OrdM w w' B m f ∧ Below w.heap.size w w'
set_option maxRecDepth 100000 in
set_option maxHeartbeats 4000000 in
theorem i_firstOrders (a : Option Addr) (n cap : Nat) (l : List Orr) (w : World) (h : SlG ordR w a n l) (hp : PlainO w a n) (hn : n ≤ 1048576) :
    Calls Try.prog 52 #[.slice a n cap] w (RetM w (firstO l)) := by
  have hl := h.1
  have HL := Hid.mk' hl
  have hm0 := ordM_made w w
  have hb0 : Below w.heap.size w (w.alloc (.map #[] 0)) := below_make
  have HF0 : Hid (firstO (l.take 0) = fun _ => none) := by show _ = _; funext s; rfl
  have hmm : ∀ wx : World, (Instr.makeMap 82 none).run Try.prog wx = .ok (.map (some wx.heap.size)) (wx.alloc (.map #[] 0)) := fun wx => by kernel_rfl
  clear hl
  go_enter Try.func52, Try.ntmps52
  go_wp2_with (at_builtin; fail)
  go_loopw [9] (fun i wr => ∃ k m : Nat, k ≤ n ∧ m ≤ k ∧ i = .int .i64 (k : Int) ∧ Below w.heap.size w wr ∧ OrdM w wr w.heap.size m (firstO (l.take k))) (fun i _ => n - (intOf i).toNat)
  case atStart => exact ⟨0, 0, Nat.zero_le _, Nat.le_refl _, rfl, hb0, by rw [HF0.out]; exact hm0⟩
  case round =>
    clear hm0 hb0
    obtain ⟨k, m, hk, hmk, rfl, hb, hM⟩ := hrel
    by_cases hlt : k < n
    · have hki : (k : Int) < (n : Int) := by omega
      have hkl : k < l.length := by have := HL.out; omega
      obtain ⟨b, off, ha⟩ := cos.slg_some h (by omega)
      subst ha
      obtain ⟨c0, oa, ol, oc, c1, hSo, hoc⟩ := ord_at h k hkl
      have hpl := hp b off rfl k hlt oa ol oc c1
      have hw1 : (Lit.int .i64 l[k].1).wf = true := by
        obtain ⟨vs, hv⟩ := h.2.2.1 _ (List.getElem_mem hkl)
        obtain ⟨_, _, _, _, k1, _⟩ := ord_see.1 hv
        exact k1
      have d0 := (hb.cell (p := ⟨b, off + k * 2, none⟩) (World.block_lt_of_cell? _ _ c0)).trans c0
      have d1 := (hb.cell (p := ⟨b, off + k * 2 + 1, none⟩) (World.block_lt_of_cell? _ _ c1)).trans c1
      have HT := Hid.mk' (firstO_take hkl)
      generalize l[k] = o at *
      obtain ⟨u1, hu1⟩ : ∃ u1, wr.alloc (.cells #[.int .i64 o.1, .slice oa ol oc] 80) = u1 := ⟨_, rfl⟩
      have hbu : Below wr.heap.size wr u1 := by rw [← hu1]; exact below_make
      have hX := boxIn_new wr [.int .i64 o.1, .slice oa ol oc] 80
      rw [hu1] at hX
      obtain ⟨x0, x1⟩ := cells2 hX
      rw [← hu1] at x0 x1
      have hMu := hM.below hbu
      have HH := Hid.mk' (i_ohas w w.heap.size m (firstO (l.take k)) o.1 u1 hMu hw1)
      have HU := Hid.mk' hu1
      have hbw := hb.trans (hbu.mono hb.size)
      have hBlt := hMu.lt
      clear hu1 c0 c1
      cases hs : (firstO (l.take k) o.1).isSome
      · rw [hs] at HH HT
        clear hs
        go_wp2_with fail
        rw [HU.out]
        refine HH.out.mono ?_
        rintro e w2 ⟨rfl, hb2⟩
        obtain ⟨x0, x1⟩ := cells2 (hX.below hb2)
        have hM2 := hMu.below hb2
        have hbw2 := hbw.trans (hb2.mono hbw.size)
        clear HH HU
        go_wp2_with (refine wpList_store_ord rfl _ _ _ rfl rfl hM2 (by unfold maxLen; omega) rfl hw1 (r := o) rfl hpl hSo hoc ?_)
        intro w3 hM3 hg3
        have hb3 : Below w.heap.size w w3 := hbw2.grown hg3 hbw2.size (fun j e => by cases e; exact Nat.le_refl _)
        go_wp2_with fail
        go_roundw
        case rel => exact ⟨k + 1, m + 1, by omega, by omega, by go_num, hb3, by rw [HT.out]; exact hM3⟩
        case measure => simp [intOf]; omega
      · rw [hs] at HH HT
        clear hs
        go_wp2_with fail
        rw [HU.out]
        refine HH.out.mono ?_
        rintro e w2 ⟨rfl, hb2⟩
        have hM2 := hMu.below hb2
        have hbw2 := hbw.trans (hb2.mono hbw.size)
        clear HH HU
        go_wp2_with fail
        go_roundw
        case rel => exact ⟨k + 1, m, by omega, by omega, by go_num, hbw2, by rw [HT.out]; exact hM2⟩
        case measure => simp [intOf]; omega
    · have hki : ¬ (k : Int) < (n : Int) := by omega
      have HE : Hid (l.take k = l) := List.take_of_length_le (by have := HL.out; omega)
      go_wp2_with fail
      go_ret
      exact ⟨_, m, rfl, by rw [HE.out] at hM; exact hM, hb⟩
end Go.Proofs.Ytggihjmcafoppaa.wos
