/- Arguments: what came in is read as a value of its type. No function of the program is named here. One who decides that came in. A world that came in. Whether each transaction that is done was decided for sure: both sides. Whether a shard keeps a promise for sure: both sides. -/
import Derived.Test.YtggihjmcafoppaaShag
import Derived.ChangeArms
import Derived.Deep.Slices
import Derived.WideShapes
import Derived.Deep.SlicePairs
import Derived.Test.YtggihjmcafoppaaShac
import Derived.Test.YtggihjmcafoppaaShai
import Derived.Test.YtggihjmcafoppaaShad
import Derived.WalkMore
namespace Go.Proofs.Ytggihjmcafoppaa.lay
open Go Go.RowKit Go.Proofs.Ytggihjmcafoppaa.base
set_option linter.unusedVariables false
set_option linter.unusedSimpArgs false

def Reads {α : Type} (P : Program) (t : TypeId) (R : Rd α) : Prop :=
  ∀ (H : Type) (enc : TypeId × Value → H) (W : World) (fuel : Nat) (vs : List Value) (x : DataW H × List MemPlace), vs.length = R.size → DataW.trod enc P W 0 (fun _ => true) true fuel t vs = some x → ∃ y, R.see W vs y
section
variable {α : Type} {P : Program} {t e : TypeId} {R : Rd α}
theorem reads_int (ht : P.underlying t = some (.int .i64)) : Reads P t int := fun H enc W fuel vs x hl h => by
  obtain ⟨n, rfl, _, hw⟩ := DataW.trod_int ht h
  exact ⟨n, rfl, hw⟩
theorem reads_bool (ht : P.underlying t = some .bool) : Reads P t bool := fun H enc W fuel vs x hl h => by
  obtain ⟨b, rfl, _⟩ := DataW.trod_bool ht h
  exact ⟨b, rfl⟩
theorem reads_str (ht : P.underlying t = some .string) : Reads P t str := fun H enc W fuel vs x hl h => by
  obtain ⟨s, rfl, _, hs⟩ := DataW.trod_string ht h
  exact ⟨s, rfl, hs⟩
theorem reads_slice [Inhabited α] (ty : TypeId) (ht : P.underlying t = some (.slice e)) (hc : P.cellsOf e = R.size) (h0 : 0 < R.size) (hR : Reads P e R) : Reads P t (lay.slice ty R) := fun H enc W fuel vs x hl h => by
  rcases Deep.open_slice ht h with ⟨rfl, _⟩ | ⟨ad, len, cap, m, n, D, Pl, rfl, hb, hlc, hm, hmm, _, hx⟩
  · exact ⟨[], none, 0, 0, rfl, Nat.le_refl _, rfl, Nat.zero_le _, fun x hx => absurd hx List.not_mem_nil, fun h => absurd h (by omega)⟩
  · simp at hmm
    have each : ∀ i, i < len → ∃ y : α, ∃ us, R.see W us y ∧ ∀ j u, us[j]? = some u → W.cell? (ad.add (i * R.size + j)) = some u := by
      intro i hi
      obtain ⟨cs', h1, h2⟩ := hx i (by omega)
      rw [hc] at h1
      obtain ⟨_, hlen, hcell⟩ := World.cells?_some h1
      obtain ⟨y, hy⟩ := hR H enc W n cs' _ hlen h2
      refine ⟨y, cs', hy, fun j u hj => ?_⟩
      have hjl := (List.getElem?_eq_some_iff.1 hj).1
      have := hcell j (by omega)
      rw [Deep.add_add] at this
      rw [this]; exact hj
    obtain ⟨q, hq⟩ := Deep.choose_lt each
    refine ⟨(List.range len).map q, some ad, len, cap, rfl, hlc, by simp, by omega, fun x hx => ?_, fun hl0 => ?_⟩
    · obtain ⟨i, hi, rfl⟩ := List.mem_map.1 hx
      obtain ⟨us, h1, _⟩ := hq i (List.mem_range.1 hi)
      exact ⟨us, h1⟩
    · obtain ⟨b, off, spot⟩ := ad
      obtain ⟨us0, hs0, hc0⟩ := hq 0 hl0
      have hl0 := R.seeLen hs0
      obtain ⟨u0, hu0⟩ : ∃ u, us0[0]? = some u := ⟨us0[0]'(by omega), List.getElem?_eq_getElem (by omega)⟩
      have hspot : spot = none := by simpa [Addr.add] using World.cell?_spot (hc0 0 u0 hu0)
      subst hspot
      refine ⟨b, off, rfl, fun i hi => ?_⟩
      have hi' : i < len := by simpa using hi
      obtain ⟨us, h1, h2⟩ := hq i hi'
      simp only [List.getElem_map, List.getElem_range]
      refine ⟨us, h1, fun j u hj => ?_⟩
      have := h2 j u hj
      rw [Addr.add_lit, ← Nat.add_assoc] at this
      exact this
theorem arg_struct {H : Type} {enc : TypeId × Value → H} {W : World} {r : Reach} {base fuel : Nat} {v : Value} {fs : Array Field} {x : DataW H × List MemPlace} (ht : P.underlying t = some (.struct fs)) (hc : P.cellsOf t = R.size) (hR : Reads P t R) (hok : Value.okWide P W r base t v) (h : DataW.trod enc P W 0 (fun _ => true) true fuel t v.cells.toList = some x) : ∃ cs y, v = .agg cs.toArray ∧ R.see W cs y := by
  obtain ⟨cs, rfl, hsz⟩ := WideShapes.okWide_struct ht hok
  obtain ⟨l⟩ := cs
  rw [hc] at hsz
  obtain ⟨y, hy⟩ := hR H enc W fuel l x hsz h
  exact ⟨l, y, rfl, hy⟩
end
end Go.Proofs.Ytggihjmcafoppaa.lay

namespace Go.Proofs.Ytggihjmcafoppaa.cos
open Go Go.RowKit Go.Proofs.Ytggihjmcafoppaa.base Go.Proofs.Ytggihjmcafoppaa.pairs Go.Proofs.Ytggihjmcafoppaa.ords Go.Proofs.Ytggihjmcafoppaa.lay Go.Proofs.Ytggihjmcafoppaa.wds
set_option linter.unusedVariables false
set_option linter.unusedSimpArgs false

set_option maxRecDepth 100000 in
theorem reads_op : Reads Try.prog 166 opR := fun H enc W fuel vs x hl h => by
  obtain ⟨xs, m, _, _, _, hxl, hel⟩ := DataW.trod_struct Try.underlying166 h
  match vs, (show vs.length = 3 from hl) with
  | [v0, v1, v2], _ =>
    match xs, (show xs.length = 3 from hxl) with
    | [x0, x1, x2], _ =>
      have k0 := hel 0 _ rfl
      have k1 := hel 1 _ rfl
      have k2 := hel 2 _ rfl
      have e0 : Try.prog.cellsOf 3 = 1 := by kernel_rfl
      have e1 : Try.prog.cellsOf 9 = 1 := by kernel_rfl
      simp [e0, e1] at k0 k1 k2
      obtain ⟨y0, s0⟩ := (reads_int Try.underlying3) H enc W m _ x0 rfl k0
      obtain ⟨y1, s1⟩ := (reads_str Try.underlying9) H enc W m _ x1 rfl k1
      obtain ⟨y2, s2⟩ := (reads_str Try.underlying9) H enc W m _ x2 rfl k2
      exact ⟨(y0, (y1, y2)), ⟨[v0], [v1, v2], rfl, s0, ⟨[v1], [v2], rfl, s1, s2⟩⟩⟩
set_option maxRecDepth 100000 in
theorem reads_choice : Reads Try.prog 146 chR := fun H enc W fuel vs x hl h => by
  obtain ⟨xs, m, _, _, _, hxl, hel⟩ := DataW.trod_struct Try.underlying146 h
  match vs, (show vs.length = 2 from hl) with
  | [v0, v1], _ =>
    match xs, (show xs.length = 2 from hxl) with
    | [x0, x1], _ =>
      have k0 := hel 0 _ rfl
      have k1 := hel 1 _ rfl
      have e0 : Try.prog.cellsOf 3 = 1 := by kernel_rfl
      have e1 : Try.prog.cellsOf 4 = 1 := by kernel_rfl
      simp [e0, e1] at k0 k1
      obtain ⟨y0, s0⟩ := (reads_int Try.underlying3) H enc W m _ x0 rfl k0
      obtain ⟨y1, s1⟩ := (reads_bool Try.underlying4) H enc W m _ x1 rfl k1
      exact ⟨(y0, y1), ⟨[v0], [v1], rfl, s0, s1⟩⟩
set_option maxRecDepth 100000 in
theorem reads_job : Reads Try.prog 140 jobR := fun H enc W fuel vs x hl h => by
  obtain ⟨xs, m, _, _, _, hxl, hel⟩ := DataW.trod_struct Try.underlying140 h
  match vs, (show vs.length = 4 from hl) with
  | [v0, v1, v2, v3], _ =>
    match xs, (show xs.length = 4 from hxl) with
    | [x0, x1, x2, x3], _ =>
      have k0 := hel 0 _ rfl
      have k1 := hel 1 _ rfl
      have k2 := hel 2 _ rfl
      have k3 := hel 3 _ rfl
      have e0 : Try.prog.cellsOf 3 = 1 := by kernel_rfl
      have e1 : Try.prog.cellsOf 109 = 1 := by kernel_rfl
      have e2 : Try.prog.cellsOf 123 = 1 := by kernel_rfl
      simp [e0, e1, e2] at k0 k1 k2 k3
      obtain ⟨y0, s0⟩ := (reads_int Try.underlying3) H enc W m _ x0 rfl k0
      obtain ⟨y1, s1⟩ := (reads_slice _ Try.underlying109 (by kernel_rfl) (by decide) reads_op) H enc W m _ x1 rfl k1
      obtain ⟨y2, s2⟩ := (reads_int Try.underlying3) H enc W m _ x2 rfl k2
      obtain ⟨y3, s3⟩ := (reads_slice _ Try.underlying123 (by kernel_rfl) (by decide) (reads_int Try.underlying3)) H enc W m _ x3 rfl k3
      exact ⟨(y0, (y1, (y2, y3))), ⟨[v0], [v1, v2, v3], rfl, s0, ⟨[v1], [v2, v3], rfl, s1, ⟨[v2], [v3], rfl, s2, s3⟩⟩⟩⟩
set_option maxRecDepth 100000 in
theorem reads_coord : Reads Try.prog 38 coordR := fun H enc W fuel vs x hl h => by
  obtain ⟨xs, m, _, _, _, hxl, hel⟩ := DataW.trod_struct Try.underlying38 h
  match vs, (show vs.length = 6 from hl) with
  | [v0, v1, v2, v3, v4, v5], _ =>
    match xs, (show xs.length = 6 from hxl) with
    | [x0, x1, x2, x3, x4, x5], _ =>
      have k0 := hel 0 _ rfl
      have k1 := hel 1 _ rfl
      have k2 := hel 2 _ rfl
      have k3 := hel 3 _ rfl
      have k4 := hel 4 _ rfl
      have k5 := hel 5 _ rfl
      have e0 : Try.prog.cellsOf 3 = 1 := by kernel_rfl
      have e1 : Try.prog.cellsOf 35 = 1 := by kernel_rfl
      have e2 : Try.prog.cellsOf 36 = 1 := by kernel_rfl
      simp [e0, e1, e2] at k0 k1 k2 k3 k4 k5
      obtain ⟨y0, s0⟩ := (reads_int Try.underlying3) H enc W m _ x0 rfl k0
      obtain ⟨y1, s1⟩ := (reads_int Try.underlying3) H enc W m _ x1 rfl k1
      obtain ⟨y2, s2⟩ := (reads_int Try.underlying3) H enc W m _ x2 rfl k2
      obtain ⟨y3, s3⟩ := (reads_slice _ Try.underlying35 (by kernel_rfl) (by decide) reads_job) H enc W m _ x3 rfl k3
      obtain ⟨y4, s4⟩ := (reads_slice _ Try.underlying36 (by kernel_rfl) (by decide) reads_choice) H enc W m _ x4 rfl k4
      obtain ⟨y5, s5⟩ := (reads_int Try.underlying3) H enc W m _ x5 rfl k5
      exact ⟨(y0, (y1, (y2, (y3, (y4, y5))))), ⟨[v0], [v1, v2, v3, v4, v5], rfl, s0, ⟨[v1], [v2, v3, v4, v5], rfl, s1, ⟨[v2], [v3, v4, v5], rfl, s2, ⟨[v3], [v4, v5], rfl, s3, ⟨[v4], [v5], rfl, s4, s5⟩⟩⟩⟩⟩⟩
end Go.Proofs.Ytggihjmcafoppaa.cos

namespace Go.Proofs.Ytggihjmcafoppaa.wos
open Go Go.RowKit Go.Proofs.Ytggihjmcafoppaa.base Go.Proofs.Ytggihjmcafoppaa.pairs Go.Proofs.Ytggihjmcafoppaa.ords Go.Proofs.Ytggihjmcafoppaa.lay
set_option linter.unusedVariables false
set_option linter.unusedSimpArgs false

set_option maxRecDepth 100000 in
theorem reads_pair : Reads Try.prog 164 pairR := fun H enc W fuel vs x hl h => by
  obtain ⟨xs, m, _, _, _, hxl, hel⟩ := DataW.trod_struct Try.underlying164 h
  match vs, (show vs.length = 2 from hl) with
  | [v0, v1], _ =>
    match xs, (show xs.length = 2 from hxl) with
    | [x0, x1], _ =>
      have k0 := hel 0 _ rfl
      have k1 := hel 1 _ rfl
      have e0 : Try.prog.cellsOf 9 = 1 := by kernel_rfl
      simp [e0] at k0 k1
      obtain ⟨y0, s0⟩ := (reads_str Try.underlying9) H enc W m _ x0 rfl k0
      obtain ⟨y1, s1⟩ := (reads_str Try.underlying9) H enc W m _ x1 rfl k1
      exact ⟨(y0, y1), ⟨[v0], [v1], rfl, s0, s1⟩⟩
set_option maxRecDepth 100000 in
theorem reads_rec : Reads Try.prog 162 recR := fun H enc W fuel vs x hl h => by
  obtain ⟨xs, m, _, _, _, hxl, hel⟩ := DataW.trod_struct Try.underlying162 h
  match vs, (show vs.length = 3 from hl) with
  | [v0, v1, v2], _ =>
    match xs, (show xs.length = 3 from hxl) with
    | [x0, x1, x2], _ =>
      have k0 := hel 0 _ rfl
      have k1 := hel 1 _ rfl
      have k2 := hel 2 _ rfl
      have e0 : Try.prog.cellsOf 3 = 1 := by kernel_rfl
      have e1 : Try.prog.cellsOf 109 = 1 := by kernel_rfl
      simp [e0, e1] at k0 k1 k2
      obtain ⟨y0, s0⟩ := (reads_int Try.underlying3) H enc W m _ x0 rfl k0
      obtain ⟨y1, s1⟩ := (reads_int Try.underlying3) H enc W m _ x1 rfl k1
      obtain ⟨y2, s2⟩ := (reads_slice _ Try.underlying109 (by kernel_rfl) (by decide) cos.reads_op) H enc W m _ x2 rfl k2
      exact ⟨(y0, (y1, y2)), ⟨[v0], [v1, v2], rfl, s0, ⟨[v1], [v2], rfl, s1, s2⟩⟩⟩
set_option maxRecDepth 100000 in
theorem reads_shard : Reads Try.prog 107 shardR := fun H enc W fuel vs x hl h => by
  obtain ⟨xs, m, _, _, _, hxl, hel⟩ := DataW.trod_struct Try.underlying107 h
  match vs, (show vs.length = 5 from hl) with
  | [v0, v1, v2, v3, v4], _ =>
    match xs, (show xs.length = 5 from hxl) with
    | [x0, x1, x2, x3, x4], _ =>
      have k0 := hel 0 _ rfl
      have k1 := hel 1 _ rfl
      have k2 := hel 2 _ rfl
      have k3 := hel 3 _ rfl
      have k4 := hel 4 _ rfl
      have e0 : Try.prog.cellsOf 3 = 1 := by kernel_rfl
      have e1 : Try.prog.cellsOf 104 = 1 := by kernel_rfl
      have e2 : Try.prog.cellsOf 105 = 1 := by kernel_rfl
      simp [e0, e1, e2] at k0 k1 k2 k3 k4
      obtain ⟨y0, s0⟩ := (reads_int Try.underlying3) H enc W m _ x0 rfl k0
      obtain ⟨y1, s1⟩ := (reads_slice _ Try.underlying104 (by kernel_rfl) (by decide) reads_rec) H enc W m _ x1 rfl k1
      obtain ⟨y2, s2⟩ := (reads_int Try.underlying3) H enc W m _ x2 rfl k2
      obtain ⟨y3, s3⟩ := (reads_slice _ Try.underlying105 (by kernel_rfl) (by decide) reads_pair) H enc W m _ x3 rfl k3
      obtain ⟨y4, s4⟩ := (reads_slice _ Try.underlying104 (by kernel_rfl) (by decide) reads_rec) H enc W m _ x4 rfl k4
      exact ⟨(y0, (y1, (y2, (y3, y4)))), ⟨[v0], [v1, v2, v3, v4], rfl, s0, ⟨[v1], [v2, v3, v4], rfl, s1, ⟨[v2], [v3, v4], rfl, s2, ⟨[v3], [v4], rfl, s3, s4⟩⟩⟩⟩⟩
set_option maxRecDepth 100000 in
theorem reads_word : Reads Try.prog 111 cos.wordR := fun H enc W fuel vs x hl h => by
  obtain ⟨xs, m, _, _, _, hxl, hel⟩ := DataW.trod_struct Try.underlying111 h
  match vs, (show vs.length = 5 from hl) with
  | [v0, v1, v2, v3, v4], _ =>
    match xs, (show xs.length = 5 from hxl) with
    | [x0, x1, x2, x3, x4], _ =>
      have k0 := hel 0 _ rfl
      have k1 := hel 1 _ rfl
      have k2 := hel 2 _ rfl
      have k3 := hel 3 _ rfl
      have k4 := hel 4 _ rfl
      have e0 : Try.prog.cellsOf 3 = 1 := by kernel_rfl
      have e1 : Try.prog.cellsOf 109 = 1 := by kernel_rfl
      have e2 : Try.prog.cellsOf 4 = 1 := by kernel_rfl
      simp [e0, e1, e2] at k0 k1 k2 k3 k4
      obtain ⟨y0, s0⟩ := (reads_int Try.underlying3) H enc W m _ x0 rfl k0
      obtain ⟨y1, s1⟩ := (reads_int Try.underlying3) H enc W m _ x1 rfl k1
      obtain ⟨y2, s2⟩ := (reads_int Try.underlying3) H enc W m _ x2 rfl k2
      obtain ⟨y3, s3⟩ := (reads_slice _ Try.underlying109 (by kernel_rfl) (by decide) cos.reads_op) H enc W m _ x3 rfl k3
      obtain ⟨y4, s4⟩ := (reads_bool Try.underlying4) H enc W m _ x4 rfl k4
      exact ⟨(y0, (y1, (y2, (y3, y4)))), ⟨[v0], [v1, v2, v3, v4], rfl, s0, ⟨[v1], [v2, v3, v4], rfl, s1, ⟨[v2], [v3, v4], rfl, s2, ⟨[v3], [v4], rfl, s3, s4⟩⟩⟩⟩⟩
set_option maxRecDepth 100000 in
theorem reads_order : Reads Try.prog 114 ordR := fun H enc W fuel vs x hl h => by
  obtain ⟨xs, m, _, _, _, hxl, hel⟩ := DataW.trod_struct Try.underlying114 h
  match vs, (show vs.length = 2 from hl) with
  | [v0, v1], _ =>
    match xs, (show xs.length = 2 from hxl) with
    | [x0, x1], _ =>
      have k0 := hel 0 _ rfl
      have k1 := hel 1 _ rfl
      have e0 : Try.prog.cellsOf 3 = 1 := by kernel_rfl
      have e1 : Try.prog.cellsOf 109 = 1 := by kernel_rfl
      simp [e0, e1] at k0 k1
      obtain ⟨y0, s0⟩ := (reads_int Try.underlying3) H enc W m _ x0 rfl k0
      obtain ⟨y1, s1⟩ := (reads_slice _ Try.underlying109 (by kernel_rfl) (by decide) cos.reads_op) H enc W m _ x1 rfl k1
      exact ⟨(y0, y1), ⟨[v0], [v1], rfl, s0, s1⟩⟩
set_option maxRecDepth 100000 in
theorem reads_world : Reads Try.prog 43 worldR := fun H enc W fuel vs x hl h => by
  obtain ⟨xs, m, _, _, _, hxl, hel⟩ := DataW.trod_struct Try.underlying43 h
  match vs, (show vs.length = 10 from hl) with
  | [v0, v1, v2, v3, v4, v5, v6, v7, v8, v9], _ =>
    match xs, (show xs.length = 5 from hxl) with
    | [x0, x1, x2, x3, x4], _ =>
      have k0 := hel 0 _ rfl
      have k1 := hel 1 _ rfl
      have k2 := hel 2 _ rfl
      have k3 := hel 3 _ rfl
      have k4 := hel 4 _ rfl
      have e0 : Try.prog.cellsOf 38 = 6 := by kernel_rfl
      have e1 : Try.prog.cellsOf 39 = 1 := by kernel_rfl
      have e2 : Try.prog.cellsOf 40 = 1 := by kernel_rfl
      have e3 : Try.prog.cellsOf 41 = 1 := by kernel_rfl
      simp [e0, e1, e2, e3] at k0 k1 k2 k3 k4
      obtain ⟨y0, s0⟩ := cos.reads_coord H enc W m _ x0 rfl k0
      obtain ⟨y1, s1⟩ := (reads_slice _ Try.underlying39 (by kernel_rfl) (by decide) reads_shard) H enc W m _ x1 rfl k1
      obtain ⟨y2, s2⟩ := (reads_slice _ Try.underlying40 (by kernel_rfl) (by decide) reads_word) H enc W m _ x2 rfl k2
      obtain ⟨y3, s3⟩ := (reads_slice _ Try.underlying40 (by kernel_rfl) (by decide) reads_word) H enc W m _ x3 rfl k3
      obtain ⟨y4, s4⟩ := (reads_slice _ Try.underlying41 (by kernel_rfl) (by decide) reads_order) H enc W m _ x4 rfl k4
      exact ⟨(y0, (y1, (y2, (y3, y4)))), ⟨[v0, v1, v2, v3, v4, v5], [v6, v7, v8, v9], rfl, s0, ⟨[v6], [v7, v8, v9], rfl, s1, ⟨[v7], [v8, v9], rfl, s2, ⟨[v8], [v9], rfl, s3, s4⟩⟩⟩⟩⟩
end Go.Proofs.Ytggihjmcafoppaa.wos

namespace Go.Proofs.Ytggihjmcafoppaa.wos
open Go Go.RowKit Go.Proofs.Ytggihjmcafoppaa.base Go.Proofs.Ytggihjmcafoppaa.pairs Go.Proofs.Ytggihjmcafoppaa.ords Go.Proofs.Ytggihjmcafoppaa.lay
set_option linter.unusedVariables false
set_option linter.unusedSimpArgs false

def sureN (s : Int) (n : Nat) : Nat := (min (max s 0) (n : Int)).toNat
theorem any_hit {α : Type} {l : List α} {p : α → Bool} {N k : Nat} (hk : k < l.length) (hN : k < N) (h : p l[k] = true) : (l.take N).any p = true :=
  List.any_eq_true.2 ⟨l[k], List.mem_take_iff_getElem.2 ⟨k, by omega, rfl⟩, h⟩
theorem any_none {α : Type} {l : List α} {p : α → Bool} {N : Nat} (h : ∀ j (hj : j < N) (hl : j < l.length), p l[j] = false) : (l.take N).any p = false := by
  rw [List.any_eq_false]
  intro x hx
  obtain ⟨j, hj, rfl⟩ := List.mem_take_iff_getElem.1 hx
  rw [h j (by omega) (by omega)]
  decide
theorem all_miss {α : Type} {l : List α} {p : α → Bool} {k : Nat} (hk : k < l.length) (h : p l[k] = false) : l.all p = false := by
  rw [List.all_eq_false]
  exact ⟨l[k], List.getElem_mem hk, by rw [h]; decide⟩
theorem all_every {α : Type} {l : List α} {p : α → Bool} (h : ∀ j (hj : j < l.length), p l[j] = true) : l.all p = true := by
  rw [List.all_eq_true]
  intro x hx
  obtain ⟨j, hj, rfl⟩ := List.getElem_of_mem hx
  exact h j hj
theorem sureN_le (s : Int) (n : Nat) : sureN s n ≤ n := by unfold sureN; omega
theorem sureN_lt {s : Int} {n k : Nat} : k < sureN s n ↔ k < n ∧ (k : Int) < s := by unfold sureN; omega
theorem rec_at {w : World} {b off len : Nat} {l : List recs.Rc} (h : recs.SlR w (some ⟨b, off, none⟩) len l) (i : Nat) (hi : i < l.length) : w.cell? ⟨b, off + i * 3, none⟩ = some (.int .i64 l[i].1) ∧ w.cell? ⟨b, off + i * 3 + 1, none⟩ = some (.int .i64 l[i].2.1) ∧ ∃ pa pl pc, w.cell? ⟨b, off + i * 3 + 2, none⟩ = some (.slice pa pl pc) ∧ SlO w pa pl l[i].2.2 ∧ pl ≤ pc := by
  obtain ⟨b', off', e, hc⟩ := h.2.2.2 (by have := h.1; omega)
  simp only [Option.some.injEq, Addr.mk.injEq, and_true] at e
  obtain ⟨rfl, rfl⟩ := e
  obtain ⟨c0, c1, pa, pl, pc, c2, k3, k4⟩ := hc i hi
  exact ⟨c0, c1, pa, pl, pc, c2, k3, k4⟩
theorem slr_some {w : World} {a : Option Addr} {len : Nat} {l : List recs.Rc} (h : recs.SlR w a len l) (h0 : 0 < len) : ∃ b off, a = some ⟨b, off, none⟩ := by
  obtain ⟨b, off, e, _⟩ := h.2.2.2 h0
  exact ⟨b, off, e⟩
set_option maxRecDepth 100000 in
theorem i_sureCount (s : Int) (n : Nat) (w : World) (hs : (Lit.int .i64 s).wf = true) (hn : n ≤ 9223372036854775807) :
    Calls Try.prog 47 #[.int .i64 s, .int .i64 (n : Int)] w fun e w' => e = .returned (.int .i64 ((sureN s n : Nat) : Int)) ∧ w' = w := by
  have e : ((sureN s n : Nat) : Int) = min (max s 0) (n : Int) := by unfold sureN; omega
  rw [e]
  go_enter Try.func47, Try.ntmps47
  go_wp2
  go_ret
  exact ⟨rfl, rfl⟩
end Go.Proofs.Ytggihjmcafoppaa.wos

namespace Go.Proofs.Ytggihjmcafoppaa.wos
open Go Go.RowKit Go.Proofs.Ytggihjmcafoppaa.base Go.Proofs.Ytggihjmcafoppaa.pairs Go.Proofs.Ytggihjmcafoppaa.ords Go.Proofs.Ytggihjmcafoppaa.lay
set_option linter.unusedVariables false
set_option linter.unusedSimpArgs false

def sayA (kind tx : Int) (r : recs.Rc) : Bool := decide (r.1 = kind) && decide (r.2.1 = tx)
def saysS (l : List recs.Rc) (first kind tx : Int) : Bool := (l.take (sureN first l.length)).any (sayA kind tx)
def keepA (tx : Int) (r : recs.Rc) : Bool := decide (r.2.1 = tx) && (decide (r.1 = 1) || decide (r.1 = 2))
def keepS (s : recs.Shd) (tx : Int) : Bool := (s.2.1.take (sureN s.2.2.1 s.2.1.length)).any (keepA tx)
theorem keepS_says (s : recs.Shd) (tx : Int) : keepS s tx = (saysS s.2.1 s.2.2.1 1 tx || saysS s.2.1 s.2.2.1 2 tx) := by
  unfold keepS saysS
  generalize s.2.1.take (sureN s.2.2.1 s.2.1.length) = l
  induction l with
  | nil => rfl
  | cons r l ih =>
    simp only [List.any_cons, ih, keepA, sayA]
    cases decide (r.2.1 = tx) <;> cases decide (r.1 = 1) <;> cases decide (r.1 = 2) <;> cases l.any (sayA 1 tx) <;> cases l.any (sayA 2 tx) <;> rfl
set_option maxRecDepth 100000 in
set_option maxHeartbeats 2000000 in
theorem spec_l13Says (la : Option Addr) (ln lc : Nat) (l : List recs.Rc) (first kind tx : Int) (w : World) (h : recs.SlR w la ln l) :
    Calls Try.prog 87 #[.slice la ln lc, .int .i64 first, .int .i64 kind, .int .i64 tx] w fun e w' => e = .returned (.bool (saysS l first kind tx)) ∧ Below w.heap.size w w' := by
  have hll := h.1
  have hm := h.2.1
  unfold maxLen at hm
  have HY : Hid (saysS l first kind tx = (l.take (sureN first ln)).any (sayA kind tx)) := by show _ = _; unfold saysS; rw [hll]
  have HLL := Hid.mk' hll
  clear hll
  go_enter Try.func87, Try.ntmps87
  go_wp2_with fail
  go_loopw [9] (fun i wr => ∃ k : Nat, k ≤ sureN first ln ∧ i = .int .i64 (k : Int) ∧ Below w.heap.size w wr ∧ ∀ j (hj : j < k) (hl : j < l.length), sayA kind tx l[j] = false) (fun i _ => ln - (intOf i).toNat)
  case atStart => exact ⟨0, Nat.zero_le _, rfl, Below.refl _ _, fun j hj => absurd hj (Nat.not_lt_zero _)⟩
  case round =>
    obtain ⟨k, hk, rfl, hb, hno⟩ := hrel
    have HNO := Hid.mk' hno
    have hle := sureN_le first ln
    clear hno
    by_cases hlt : k < sureN first ln
    · obtain ⟨h1, h2⟩ := sureN_lt.1 hlt
      have h1i : (k : Int) < (ln : Int) := by omega
      have hkl : k < l.length := by have := HLL.out; omega
      obtain ⟨b, off, hla⟩ := slr_some h (by omega)
      subst hla
      obtain ⟨c0, c1, _⟩ := rec_at (h.below hb) k hkl
      have HP : Hid (∀ v, sayA kind tx l[k] = v → (v = true → (l.take (sureN first ln)).any (sayA kind tx) = true) ∧ (v = false → ∀ j (hj : j < k + 1) (hl : j < l.length), sayA kind tx l[j] = false)) := fun v hv => ⟨fun e => any_hit hkl hlt (hv.trans e), fun e j hj hl => by
        by_cases hjk : j = k
        · subst hjk; exact hv.trans e
        · exact HNO.out j (by omega) hl⟩
      have HV : Hid (sayA kind tx l[k] = (decide (l[k].1 = kind) && decide (l[k].2.1 = tx))) := rfl
      generalize l[k] = r at *
      obtain ⟨rk, rt, ro⟩ := r
      simp only [] at c0 c1 HV
      by_cases e0 : rk = kind
      · have d0 : (rk == kind) = true := beq_iff_eq.2 e0
        by_cases e1 : rt = tx
        · have d1 : (rt == tx) = true := beq_iff_eq.2 e1
          have HT := Hid.mk' ((HP.out true (by rw [HV.out]; simp [e0, e1])).1 rfl)
          clear HP HV e0 e1
          go_wp2_with fail
          go_ret
          exact ⟨by rw [HY.out, HT.out]; rfl, hb⟩
        · have d1 : (rt == tx) = false := beq_eq_false_iff_ne.2 e1
          have HF := Hid.mk' ((HP.out false (by rw [HV.out]; simp [e1])).2 rfl)
          clear HP HV e0 e1
          go_wp2_with fail
          go_roundw
          case rel => exact ⟨k + 1, by omega, by go_num, hb, HF.out⟩
          case measure => simp [intOf]; omega
      · have d0 : (rk == kind) = false := beq_eq_false_iff_ne.2 e0
        have HF := Hid.mk' ((HP.out false (by rw [HV.out]; simp [e0])).2 rfl)
        clear HP HV e0
        go_wp2_with fail
        go_roundw
        case rel => exact ⟨k + 1, by omega, by go_num, hb, HF.out⟩
        case measure => simp [intOf]; omega
    · have HT : Hid ((l.take (sureN first ln)).any (sayA kind tx) = false) := any_none fun j hj hl => HNO.out j (by omega) hl
      have hor : ¬ (k < ln ∧ (k : Int) < first) := fun e => hlt (sureN_lt.2 e)
      clear hlt
      by_cases h2 : (k : Int) < first
      · have h1i : ¬ (k : Int) < (ln : Int) := fun e => hor ⟨by omega, h2⟩
        clear hor
        go_wp2_with fail
        go_ret
        exact ⟨by rw [HY.out, HT.out]; rfl, hb⟩
      · clear hor
        go_wp2_with fail
        go_ret
        exact ⟨by rw [HY.out, HT.out]; rfl, hb⟩
theorem slr_take {w : World} {a : Option Addr} {n N : Nat} {l : List recs.Rc} (h : recs.SlR w a n l) (hN : N ≤ n) : recs.SlR w a N (l.take N) := by
  obtain ⟨h1, h2, h3, h4⟩ := h
  refine ⟨by simp; omega, by omega, fun x hx => h3 x (List.mem_of_mem_take hx), fun h0 => ?_⟩
  obtain ⟨b, off, e, hi⟩ := h4 (by omega)
  refine ⟨b, off, e, fun i hl => ?_⟩
  have := hi i (by simp at hl; omega)
  rw [List.getElem_take]
  exact this
set_option maxRecDepth 100000 in
set_option maxHeartbeats 4000000 in
theorem i_keepsSh (la : Option Addr) (ln lc : Nat) (ma : Option Addr) (mn mc : Nat) (ha : Option Addr) (hn hc : Nat) (s : recs.Shd) (tx : Int) (w : World) (h : SeeSh w la ln lc ma mn mc ha hn hc s) :
    Calls Try.prog 89 #[.agg #[.int .i64 s.1, .slice la ln lc, .int .i64 s.2.2.1, .slice ma mn mc, .slice ha hn hc], .int .i64 tx] w fun e w' => e = .returned (.bool (keepS s tx)) ∧ Below w.heap.size w w' := by
  obtain ⟨W, hW⟩ : ∃ W, w.alloc (.cells #[.int .i64 s.1, .slice la ln lc, .int .i64 s.2.2.1, .slice ma mn mc, .slice ha hn hc] 53) = W := ⟨_, rfl⟩
  have hB : Below w.heap.size w W := by rw [← hW]; exact below_make
  have hX : BoxIn w.heap.size 53 [] [.int .i64 s.1, .slice la ln lc, .int .i64 s.2.2.1, .slice ma mn mc, .slice ha hn hc] [] W := by rw [← hW]; exact boxIn_new w _ _
  have hll := h.log.1
  have hm := h.log.2.1
  unfold maxLen at hm
  have hlc := h.lc
  have hsw := h.sure
  have hN := sureN_le s.2.2.1 ln
  have hTK := slr_take (h.log.below hB) hN
  have HY : Hid (keepS s tx = (s.2.1.take (sureN s.2.2.1 ln)).any (keepA tx)) := by show _ = _; unfold keepS; rw [hll]
  have HW := Hid.mk' hW
  obtain ⟨a0, a1, a2, a3, a4⟩ := cells5 hX
  have p1 := last.On.cell (B := W.heap.size) a1 (World.block_lt_of_cell? _ _ a1)
  have p2 := last.On.cell (B := W.heap.size) a2 (World.block_lt_of_cell? _ _ a2)
  have hinh := last.On.inh W.heap.size W
  have hcall0 : ∀ xx : last.On W.heap.size W, Calls Try.prog 47 #[.int .i64 s.2.2.1, .int .i64 (ln : Int)] xx.w fun e w' => e = .returned (.int .i64 ((sureN s.2.2.1 ln : Nat) : Int)) ∧ ∃ yv : last.On W.heap.size W, w' = yv.w := fun xx => (i_sureCount s.2.2.1 ln xx.w hsw (by omega)).mono (fun e w' ⟨he, hw⟩ => ⟨he, xx, hw⟩)
  generalize sureN s.2.2.1 ln = N at *
  have hNi : (N : Int) ≤ (lc : Int) := by omega
  generalize s.2.1.take N = l at *
  have HTL := Hid.mk' hTK.1
  clear hW h hll a0 a1 a2 a3 a4 hX
  go_enter Try.func89, Try.ntmps89
  go_wp2_with fail
  rw [HW.out]
  refine last.wp_region_on W.heap.size (by kernel_rfl) (by kernel_rfl) ?_
  repeat (go_big_quiet_step ((go_at_call 47; exact hcall0 _)))
  refine wpQuiet_nil ?_
  intro wq hwq
  obtain ⟨xq, hwq⟩ := hwq
  subst hwq
  have hbq : Below W.heap.size W xq.w := xq.2
  generalize xq.w = W1 at *
  clear p1 p2 hinh hcall0 HW
  go_wp2_with fail
  go_loopw [17] (fun i wr => ∃ k : Nat, k ≤ N ∧ i = .int .i64 (k : Int) ∧ Below W1.heap.size W1 wr ∧ ∀ j (hj : j < k) (hl : j < l.length), keepA tx l[j] = false) (fun i _ => N - (intOf i).toNat)
  case atStart => exact ⟨0, Nat.zero_le _, rfl, Below.refl _ _, fun j hj => absurd hj (Nat.not_lt_zero _)⟩
  case round =>
    obtain ⟨k, hk, rfl, hb, hno⟩ := hrel
    have HNO := Hid.mk' hno
    have hbw := hbq.trans (hb.mono hbq.size)
    have hBw := hB.trans (hbw.mono hB.size)
    clear hno
    by_cases hlt : k < N
    · have hki : (k : Int) < (N : Int) := by omega
      have hkl : k < l.length := by have := HTL.out; omega
      obtain ⟨b, off, hla⟩ := slr_some hTK (by omega)
      subst hla
      obtain ⟨c0, c1, pa, pl, pc, c2, _, _⟩ := rec_at (hTK.below hbw) k hkl
      have HP : Hid (∀ v, keepA tx l[k] = v → (v = true → l.any (keepA tx) = true) ∧ (v = false → ∀ j (hj : j < k + 1) (hl : j < l.length), keepA tx l[j] = false)) := fun v hv => ⟨fun e => List.any_eq_true.2 ⟨l[k], List.getElem_mem hkl, hv.trans e⟩, fun e j hj hl => by
        by_cases hjk : j = k
        · subst hjk; exact hv.trans e
        · exact HNO.out j (by omega) hl⟩
      have HV : Hid (keepA tx l[k] = (decide (l[k].2.1 = tx) && (decide (l[k].1 = 1) || decide (l[k].1 = 2)))) := rfl
      generalize l[k] = r at *
      obtain ⟨rk, rt, ro⟩ := r
      simp only [] at c0 c1 c2 HV
      obtain ⟨u1, hu1⟩ : ∃ u1, wr.alloc (.cells #[.int .i64 rk, .int .i64 rt, .slice pa pl pc] 69) = u1 := ⟨_, rfl⟩
      have hbu : Below wr.heap.size wr u1 := by rw [← hu1]; exact below_make
      have hC := boxIn_new wr [.int .i64 rk, .int .i64 rt, .slice pa pl pc] 69
      rw [hu1] at hC
      obtain ⟨x0, x1, x2⟩ := cells3 hC
      rw [← hu1] at x0 x1 x2
      have HU := Hid.mk' hu1
      have hbv := hb.trans (hbu.mono hb.size)
      have hBu := hBw.trans (hbu.mono hBw.size)
      clear hu1 hC
      by_cases e1 : rt = tx
      · have d1 : (rt == tx) = true := beq_iff_eq.2 e1
        by_cases e0 : rk = 1
        · have d0 : (rk == 1) = true := beq_iff_eq.2 e0
          have HT := Hid.mk' ((HP.out true (by rw [HV.out]; simp [e0, e1])).1 rfl)
          clear HP HV e0 e1
          go_wp2_with fail
          rw [HU.out]
          go_ret
          exact ⟨by rw [HY.out, HT.out]; rfl, hBu⟩
        · have d0 : (rk == 1) = false := beq_eq_false_iff_ne.2 e0
          by_cases e2 : rk = 2
          · have d2 : (rk == 2) = true := beq_iff_eq.2 e2
            have HT := Hid.mk' ((HP.out true (by rw [HV.out]; simp [e2, e1])).1 rfl)
            clear HP HV e0 e1 e2
            go_wp2_with fail
            rw [HU.out]
            go_ret
            exact ⟨by rw [HY.out, HT.out]; rfl, hBu⟩
          · have d2 : (rk == 2) = false := beq_eq_false_iff_ne.2 e2
            have HF := Hid.mk' ((HP.out false (by rw [HV.out]; simp [e0, e2])).2 rfl)
            clear HP HV e0 e1 e2
            go_wp2_with fail
            rw [HU.out]
            go_roundw
            case rel => exact ⟨k + 1, by omega, by go_num, hbv, HF.out⟩
            case measure => simp [intOf]; omega
      · have d1 : (rt == tx) = false := beq_eq_false_iff_ne.2 e1
        have HF := Hid.mk' ((HP.out false (by rw [HV.out]; simp [e1])).2 rfl)
        clear HP HV e1
        go_wp2_with fail
        rw [HU.out]
        go_roundw
        case rel => exact ⟨k + 1, by omega, by go_num, hbv, HF.out⟩
        case measure => simp [intOf]; omega
    · have hki : ¬ (k : Int) < (N : Int) := by omega
      have HT : Hid (l.any (keepA tx) = false) := by
        show _ = _
        rw [List.any_eq_false]
        intro c hc
        obtain ⟨j, hj, rfl⟩ := List.getElem_of_mem hc
        rw [HNO.out j (by have := HTL.out; omega) hj]
        decide
      go_wp2_with fail
      go_ret
      exact ⟨by rw [HY.out, HT.out]; rfl, hBw⟩
end Go.Proofs.Ytggihjmcafoppaa.wos
