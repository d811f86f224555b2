/- GenArg CoArg WoArg WoBk OrMap RowM -/
import Derived.Test.YtijplooogplccaaGreatShai
import Derived.ChangeArms
import Derived.Deep.Slices
import Derived.WideShapes
import Derived.Deep.SlicePairs
import Derived.Test.YtijplooogplccaaGreatShac
import Derived.Test.YtijplooogplccaaGreatShap
import Derived.Test.YtijplooogplccaaGreatShad
import Derived.Test.YtijplooogplccaaGreatShae
import Derived.WalkMore
import Derived.Test.YtijplooogplccaaGreatShal
import Derived.Test.YtijplooogplccaaGreatShab
import Derived.Maps.OwnSet
import Derived.Maps.OwnOps
import Derived.Maps.Views
import Derived.Maps.AppendAt
import Derived.Maps.RangeWalk
set_option linter.unusedVariables false
set_option linter.unusedSimpArgs false
namespace Go.Proofs.YtijplooogplccaaGreat
namespace lay
open Go Go.RowKit base
def Reads {α : Type} (P : Program) (t : TypeId) (R : Rd α) : Prop :=
 ∀ (H : Type) (enc : TypeId × Value → H) (W : World) (fuel : Nat) (vs : List Value) (x : DataW H × List MemPlace), vs.length = R.size → DataW.trod enc P W 0 (fun _ => true) true fuel t vs = some x → ∃ y, R.see W vs y
section
variable {α : Type} {P : Program} {t e : TypeId} {R : Rd α}
theorem reads_int (ht : P.underlying t = some (.int .i64)) : Reads P t int := fun H enc W fuel vs x hl h => by
 obtain ⟨n, rfl, _, hw⟩ := DataW.trod_int ht h
 exact ⟨n, rfl, hw⟩
theorem reads_bool (ht : P.underlying t = some .bool) : Reads P t bool := fun H enc W fuel vs x hl h => by
 obtain ⟨b, rfl, _⟩ := DataW.trod_bool ht h
 exact ⟨b, rfl⟩
theorem reads_str (ht : P.underlying t = some .string) : Reads P t str := fun H enc W fuel vs x hl h => by
 obtain ⟨s, rfl, _, hs⟩ := DataW.trod_string ht h
 exact ⟨s, rfl, hs⟩
theorem reads_slice [Inhabited α] (ty : TypeId) (ht : P.underlying t = some (.slice e)) (hc : P.cellsOf e = R.size) (h0 : 0 < R.size) (hR : Reads P e R) : Reads P t (lay.slice ty R) := fun H enc W fuel vs x hl h => by
 rcases Deep.open_slice ht h with ⟨rfl, _⟩ | ⟨ad, len, cap, m, n, D, Pl, rfl, hb, hlc, hm, hmm, _, hx⟩
 · exact ⟨[], none, 0, 0, rfl, Nat.le_refl _, rfl, Nat.zero_le _, fun x hx => absurd hx List.not_mem_nil, fun h => absurd h (by omega)⟩
 · simp at hmm
   have each : ∀ i, i < len → ∃ y : α, ∃ us, R.see W us y ∧ ∀ j u, us[j]? = some u → W.cell? (ad.add (i * R.size + j)) = some u := by
    intro i hi
    obtain ⟨cs', h1, h2⟩ := hx i (by omega)
    rw [hc] at h1
    obtain ⟨_, hlen, hcell⟩ := World.cells?_some h1
    obtain ⟨y, hy⟩ := hR H enc W n cs' _ hlen h2
    refine ⟨y, cs', hy, fun j u hj => ?_⟩
    have hjl := (List.getElem?_eq_some_iff.1 hj).1
    have := hcell j (by omega)
    rw [Deep.add_add] at this
    rw [this]; exact hj
   obtain ⟨q, hq⟩ := Deep.choose_lt each
   refine ⟨(List.range len).map q, some ad, len, cap, rfl, hlc, by simp, by omega, fun x hx => ?_, fun hl0 => ?_⟩
   · obtain ⟨i, hi, rfl⟩ := List.mem_map.1 hx
     obtain ⟨us, h1, _⟩ := hq i (List.mem_range.1 hi)
     exact ⟨us, h1⟩
   · obtain ⟨b, off, spot⟩ := ad
     obtain ⟨us0, hs0, hc0⟩ := hq 0 hl0
     have hl0 := R.seeLen hs0
     obtain ⟨u0, hu0⟩ : ∃ u, us0[0]? = some u := ⟨us0[0]'(by omega), List.getElem?_eq_getElem (by omega)⟩
     have hspot : spot = none := by simpa [Addr.add] using World.cell?_spot (hc0 0 u0 hu0)
     subst hspot
     refine ⟨b, off, rfl, fun i hi => ?_⟩
     have hi' : i < len := by simpa using hi
     obtain ⟨us, h1, h2⟩ := hq i hi'
     simp only [List.getElem_map, List.getElem_range]
     refine ⟨us, h1, fun j u hj => ?_⟩
     have := h2 j u hj
     rw [Addr.add_lit, ← Nat.add_assoc] at this
     exact this
theorem arg_struct {H : Type} {enc : TypeId × Value → H} {W : World} {r : Reach} {base fuel : Nat} {v : Value} {fs : Array Field} {x : DataW H × List MemPlace} (ht : P.underlying t = some (.struct fs)) (hc : P.cellsOf t = R.size) (hR : Reads P t R) (hok : Value.okWide P W r base t v) (h : DataW.trod enc P W 0 (fun _ => true) true fuel t v.cells.toList = some x) : ∃ cs y, v = .agg cs.toArray ∧ R.see W cs y := by
 obtain ⟨cs, rfl, hsz⟩ := WideShapes.okWide_struct ht hok
 obtain ⟨l⟩ := cs
 rw [hc] at hsz
 obtain ⟨y, hy⟩ := hR H enc W fuel l x hsz h
 exact ⟨l, y, rfl, hy⟩
end
end lay
namespace cos
open Go Go.RowKit base pairs ords lay wds
set_option maxRecDepth 100000 in
theorem reads_op : Reads Tryz.prog 188 opR := fun H enc W fuel vs x hl h => by
 obtain ⟨xs, m, _, _, _, hxl, hel⟩ := DataW.trod_struct Tryz.underlying188 h
 match vs, (show vs.length = 3 from hl) with
 | [v0, v1, v2], _ =>
  match xs, (show xs.length = 3 from hxl) with
  | [x0, x1, x2], _ =>
   have k0 := hel 0 _ rfl
   have k1 := hel 1 _ rfl
   have k2 := hel 2 _ rfl
   have e0 : Tryz.prog.cellsOf 3 = 1 := by kernel_rfl
   have e1 : Tryz.prog.cellsOf 9 = 1 := by kernel_rfl
   simp [e0, e1] at k0 k1 k2
   obtain ⟨y0, s0⟩ := (reads_int Tryz.underlying3) H enc W m _ x0 rfl k0
   obtain ⟨y1, s1⟩ := (reads_str Tryz.underlying9) H enc W m _ x1 rfl k1
   obtain ⟨y2, s2⟩ := (reads_str Tryz.underlying9) H enc W m _ x2 rfl k2
   exact ⟨(y0, (y1, y2)), ⟨[v0], [v1, v2], rfl, s0, ⟨[v1], [v2], rfl, s1, s2⟩⟩⟩
set_option maxRecDepth 100000 in
theorem reads_choice : Reads Tryz.prog 154 chR := fun H enc W fuel vs x hl h => by
 obtain ⟨xs, m, _, _, _, hxl, hel⟩ := DataW.trod_struct Tryz.underlying154 h
 match vs, (show vs.length = 2 from hl) with
 | [v0, v1], _ =>
  match xs, (show xs.length = 2 from hxl) with
  | [x0, x1], _ =>
   have k0 := hel 0 _ rfl
   have k1 := hel 1 _ rfl
   have e0 : Tryz.prog.cellsOf 3 = 1 := by kernel_rfl
   have e1 : Tryz.prog.cellsOf 4 = 1 := by kernel_rfl
   simp [e0, e1] at k0 k1
   obtain ⟨y0, s0⟩ := (reads_int Tryz.underlying3) H enc W m _ x0 rfl k0
   obtain ⟨y1, s1⟩ := (reads_bool Tryz.underlying4) H enc W m _ x1 rfl k1
   exact ⟨(y0, y1), ⟨[v0], [v1], rfl, s0, s1⟩⟩
set_option maxRecDepth 100000 in
theorem reads_job : Reads Tryz.prog 139 jobR := fun H enc W fuel vs x hl h => by
 obtain ⟨xs, m, _, _, _, hxl, hel⟩ := DataW.trod_struct Tryz.underlying139 h
 match vs, (show vs.length = 4 from hl) with
 | [v0, v1, v2, v3], _ =>
  match xs, (show xs.length = 4 from hxl) with
  | [x0, x1, x2, x3], _ =>
   have k0 := hel 0 _ rfl
   have k1 := hel 1 _ rfl
   have k2 := hel 2 _ rfl
   have k3 := hel 3 _ rfl
   have e0 : Tryz.prog.cellsOf 3 = 1 := by kernel_rfl
   have e1 : Tryz.prog.cellsOf 86 = 1 := by kernel_rfl
   have e2 : Tryz.prog.cellsOf 105 = 1 := by kernel_rfl
   simp [e0, e1, e2] at k0 k1 k2 k3
   obtain ⟨y0, s0⟩ := (reads_int Tryz.underlying3) H enc W m _ x0 rfl k0
   obtain ⟨y1, s1⟩ := (reads_slice _ Tryz.underlying86 (by kernel_rfl) (by decide) reads_op) H enc W m _ x1 rfl k1
   obtain ⟨y2, s2⟩ := (reads_int Tryz.underlying3) H enc W m _ x2 rfl k2
   obtain ⟨y3, s3⟩ := (reads_slice _ Tryz.underlying105 (by kernel_rfl) (by decide) (reads_int Tryz.underlying3)) H enc W m _ x3 rfl k3
   exact ⟨(y0, (y1, (y2, y3))), ⟨[v0], [v1, v2, v3], rfl, s0, ⟨[v1], [v2, v3], rfl, s1, ⟨[v2], [v3], rfl, s2, s3⟩⟩⟩⟩
set_option maxRecDepth 100000 in
theorem reads_coord : Reads Tryz.prog 25 coordR := fun H enc W fuel vs x hl h => by
 obtain ⟨xs, m, _, _, _, hxl, hel⟩ := DataW.trod_struct Tryz.underlying25 h
 match vs, (show vs.length = 6 from hl) with
 | [v0, v1, v2, v3, v4, v5], _ =>
  match xs, (show xs.length = 6 from hxl) with
  | [x0, x1, x2, x3, x4, x5], _ =>
   have k0 := hel 0 _ rfl
   have k1 := hel 1 _ rfl
   have k2 := hel 2 _ rfl
   have k3 := hel 3 _ rfl
   have k4 := hel 4 _ rfl
   have k5 := hel 5 _ rfl
   have e0 : Tryz.prog.cellsOf 3 = 1 := by kernel_rfl
   have e1 : Tryz.prog.cellsOf 22 = 1 := by kernel_rfl
   have e2 : Tryz.prog.cellsOf 23 = 1 := by kernel_rfl
   simp [e0, e1, e2] at k0 k1 k2 k3 k4 k5
   obtain ⟨y0, s0⟩ := (reads_int Tryz.underlying3) H enc W m _ x0 rfl k0
   obtain ⟨y1, s1⟩ := (reads_int Tryz.underlying3) H enc W m _ x1 rfl k1
   obtain ⟨y2, s2⟩ := (reads_int Tryz.underlying3) H enc W m _ x2 rfl k2
   obtain ⟨y3, s3⟩ := (reads_slice _ Tryz.underlying22 (by kernel_rfl) (by decide) reads_job) H enc W m _ x3 rfl k3
   obtain ⟨y4, s4⟩ := (reads_slice _ Tryz.underlying23 (by kernel_rfl) (by decide) reads_choice) H enc W m _ x4 rfl k4
   obtain ⟨y5, s5⟩ := (reads_int Tryz.underlying3) H enc W m _ x5 rfl k5
   exact ⟨(y0, (y1, (y2, (y3, (y4, y5))))), ⟨[v0], [v1, v2, v3, v4, v5], rfl, s0, ⟨[v1], [v2, v3, v4, v5], rfl, s1, ⟨[v2], [v3, v4, v5], rfl, s2, ⟨[v3], [v4, v5], rfl, s3, ⟨[v4], [v5], rfl, s4, s5⟩⟩⟩⟩⟩⟩
end cos
namespace wos
open Go Go.RowKit base pairs ords lay
set_option maxRecDepth 100000 in
theorem reads_pair : Reads Tryz.prog 186 pairR := fun H enc W fuel vs x hl h => by
 obtain ⟨xs, m, _, _, _, hxl, hel⟩ := DataW.trod_struct Tryz.underlying186 h
 match vs, (show vs.length = 2 from hl) with
 | [v0, v1], _ =>
  match xs, (show xs.length = 2 from hxl) with
  | [x0, x1], _ =>
   have k0 := hel 0 _ rfl
   have k1 := hel 1 _ rfl
   have e0 : Tryz.prog.cellsOf 9 = 1 := by kernel_rfl
   simp [e0] at k0 k1
   obtain ⟨y0, s0⟩ := (reads_str Tryz.underlying9) H enc W m _ x0 rfl k0
   obtain ⟨y1, s1⟩ := (reads_str Tryz.underlying9) H enc W m _ x1 rfl k1
   exact ⟨(y0, y1), ⟨[v0], [v1], rfl, s0, s1⟩⟩
set_option maxRecDepth 100000 in
theorem reads_rec : Reads Tryz.prog 184 recR := fun H enc W fuel vs x hl h => by
 obtain ⟨xs, m, _, _, _, hxl, hel⟩ := DataW.trod_struct Tryz.underlying184 h
 match vs, (show vs.length = 3 from hl) with
 | [v0, v1, v2], _ =>
  match xs, (show xs.length = 3 from hxl) with
  | [x0, x1, x2], _ =>
   have k0 := hel 0 _ rfl
   have k1 := hel 1 _ rfl
   have k2 := hel 2 _ rfl
   have e0 : Tryz.prog.cellsOf 3 = 1 := by kernel_rfl
   have e1 : Tryz.prog.cellsOf 86 = 1 := by kernel_rfl
   simp [e0, e1] at k0 k1 k2
   obtain ⟨y0, s0⟩ := (reads_int Tryz.underlying3) H enc W m _ x0 rfl k0
   obtain ⟨y1, s1⟩ := (reads_int Tryz.underlying3) H enc W m _ x1 rfl k1
   obtain ⟨y2, s2⟩ := (reads_slice _ Tryz.underlying86 (by kernel_rfl) (by decide) cos.reads_op) H enc W m _ x2 rfl k2
   exact ⟨(y0, (y1, y2)), ⟨[v0], [v1, v2], rfl, s0, ⟨[v1], [v2], rfl, s1, s2⟩⟩⟩
set_option maxRecDepth 100000 in
theorem reads_shard : Reads Tryz.prog 84 shardR := fun H enc W fuel vs x hl h => by
 obtain ⟨xs, m, _, _, _, hxl, hel⟩ := DataW.trod_struct Tryz.underlying84 h
 match vs, (show vs.length = 5 from hl) with
 | [v0, v1, v2, v3, v4], _ =>
  match xs, (show xs.length = 5 from hxl) with
  | [x0, x1, x2, x3, x4], _ =>
   have k0 := hel 0 _ rfl
   have k1 := hel 1 _ rfl
   have k2 := hel 2 _ rfl
   have k3 := hel 3 _ rfl
   have k4 := hel 4 _ rfl
   have e0 : Tryz.prog.cellsOf 3 = 1 := by kernel_rfl
   have e1 : Tryz.prog.cellsOf 81 = 1 := by kernel_rfl
   have e2 : Tryz.prog.cellsOf 82 = 1 := by kernel_rfl
   simp [e0, e1, e2] at k0 k1 k2 k3 k4
   obtain ⟨y0, s0⟩ := (reads_int Tryz.underlying3) H enc W m _ x0 rfl k0
   obtain ⟨y1, s1⟩ := (reads_slice _ Tryz.underlying81 (by kernel_rfl) (by decide) reads_rec) H enc W m _ x1 rfl k1
   obtain ⟨y2, s2⟩ := (reads_int Tryz.underlying3) H enc W m _ x2 rfl k2
   obtain ⟨y3, s3⟩ := (reads_slice _ Tryz.underlying82 (by kernel_rfl) (by decide) reads_pair) H enc W m _ x3 rfl k3
   obtain ⟨y4, s4⟩ := (reads_slice _ Tryz.underlying81 (by kernel_rfl) (by decide) reads_rec) H enc W m _ x4 rfl k4
   exact ⟨(y0, (y1, (y2, (y3, y4)))), ⟨[v0], [v1, v2, v3, v4], rfl, s0, ⟨[v1], [v2, v3, v4], rfl, s1, ⟨[v2], [v3, v4], rfl, s2, ⟨[v3], [v4], rfl, s3, s4⟩⟩⟩⟩⟩
set_option maxRecDepth 100000 in
theorem reads_word : Reads Tryz.prog 88 cos.wordR := fun H enc W fuel vs x hl h => by
 obtain ⟨xs, m, _, _, _, hxl, hel⟩ := DataW.trod_struct Tryz.underlying88 h
 match vs, (show vs.length = 5 from hl) with
 | [v0, v1, v2, v3, v4], _ =>
  match xs, (show xs.length = 5 from hxl) with
  | [x0, x1, x2, x3, x4], _ =>
   have k0 := hel 0 _ rfl
   have k1 := hel 1 _ rfl
   have k2 := hel 2 _ rfl
   have k3 := hel 3 _ rfl
   have k4 := hel 4 _ rfl
   have e0 : Tryz.prog.cellsOf 3 = 1 := by kernel_rfl
   have e1 : Tryz.prog.cellsOf 86 = 1 := by kernel_rfl
   have e2 : Tryz.prog.cellsOf 4 = 1 := by kernel_rfl
   simp [e0, e1, e2] at k0 k1 k2 k3 k4
   obtain ⟨y0, s0⟩ := (reads_int Tryz.underlying3) H enc W m _ x0 rfl k0
   obtain ⟨y1, s1⟩ := (reads_int Tryz.underlying3) H enc W m _ x1 rfl k1
   obtain ⟨y2, s2⟩ := (reads_int Tryz.underlying3) H enc W m _ x2 rfl k2
   obtain ⟨y3, s3⟩ := (reads_slice _ Tryz.underlying86 (by kernel_rfl) (by decide) cos.reads_op) H enc W m _ x3 rfl k3
   obtain ⟨y4, s4⟩ := (reads_bool Tryz.underlying4) H enc W m _ x4 rfl k4
   exact ⟨(y0, (y1, (y2, (y3, y4)))), ⟨[v0], [v1, v2, v3, v4], rfl, s0, ⟨[v1], [v2, v3, v4], rfl, s1, ⟨[v2], [v3, v4], rfl, s2, ⟨[v3], [v4], rfl, s3, s4⟩⟩⟩⟩⟩
set_option maxRecDepth 100000 in
theorem reads_order : Reads Tryz.prog 91 ordR := fun H enc W fuel vs x hl h => by
 obtain ⟨xs, m, _, _, _, hxl, hel⟩ := DataW.trod_struct Tryz.underlying91 h
 match vs, (show vs.length = 2 from hl) with
 | [v0, v1], _ =>
  match xs, (show xs.length = 2 from hxl) with
  | [x0, x1], _ =>
   have k0 := hel 0 _ rfl
   have k1 := hel 1 _ rfl
   have e0 : Tryz.prog.cellsOf 3 = 1 := by kernel_rfl
   have e1 : Tryz.prog.cellsOf 86 = 1 := by kernel_rfl
   simp [e0, e1] at k0 k1
   obtain ⟨y0, s0⟩ := (reads_int Tryz.underlying3) H enc W m _ x0 rfl k0
   obtain ⟨y1, s1⟩ := (reads_slice _ Tryz.underlying86 (by kernel_rfl) (by decide) cos.reads_op) H enc W m _ x1 rfl k1
   exact ⟨(y0, y1), ⟨[v0], [v1], rfl, s0, s1⟩⟩
set_option maxRecDepth 100000 in
theorem reads_world : Reads Tryz.prog 30 worldR := fun H enc W fuel vs x hl h => by
 obtain ⟨xs, m, _, _, _, hxl, hel⟩ := DataW.trod_struct Tryz.underlying30 h
 match vs, (show vs.length = 10 from hl) with
 | [v0, v1, v2, v3, v4, v5, v6, v7, v8, v9], _ =>
  match xs, (show xs.length = 5 from hxl) with
  | [x0, x1, x2, x3, x4], _ =>
   have k0 := hel 0 _ rfl
   have k1 := hel 1 _ rfl
   have k2 := hel 2 _ rfl
   have k3 := hel 3 _ rfl
   have k4 := hel 4 _ rfl
   have e0 : Tryz.prog.cellsOf 25 = 6 := by kernel_rfl
   have e1 : Tryz.prog.cellsOf 26 = 1 := by kernel_rfl
   have e2 : Tryz.prog.cellsOf 27 = 1 := by kernel_rfl
   have e3 : Tryz.prog.cellsOf 28 = 1 := by kernel_rfl
   simp [e0, e1, e2, e3] at k0 k1 k2 k3 k4
   obtain ⟨y0, s0⟩ := cos.reads_coord H enc W m _ x0 rfl k0
   obtain ⟨y1, s1⟩ := (reads_slice _ Tryz.underlying26 (by kernel_rfl) (by decide) reads_shard) H enc W m _ x1 rfl k1
   obtain ⟨y2, s2⟩ := (reads_slice _ Tryz.underlying27 (by kernel_rfl) (by decide) reads_word) H enc W m _ x2 rfl k2
   obtain ⟨y3, s3⟩ := (reads_slice _ Tryz.underlying27 (by kernel_rfl) (by decide) reads_word) H enc W m _ x3 rfl k3
   obtain ⟨y4, s4⟩ := (reads_slice _ Tryz.underlying28 (by kernel_rfl) (by decide) reads_order) H enc W m _ x4 rfl k4
   exact ⟨(y0, (y1, (y2, (y3, y4)))), ⟨[v0, v1, v2, v3, v4, v5], [v6, v7, v8, v9], rfl, s0, ⟨[v6], [v7, v8, v9], rfl, s1, ⟨[v7], [v8, v9], rfl, s2, ⟨[v8], [v9], rfl, s3, s4⟩⟩⟩⟩⟩
end wos
namespace wos
open Go Go.RowKit base pairs ords lay
def sureN (s : Int) (n : Nat) : Nat := (min (max s 0) (n : Int)).toNat
theorem any_hit {α : Type} {l : List α} {p : α → Bool} {N k : Nat} (hk : k < l.length) (hN : k < N) (h : p l[k] = true) : (l.take N).any p = true :=
 List.any_eq_true.2 ⟨l[k], List.mem_take_iff_getElem.2 ⟨k, by omega, rfl⟩, h⟩
theorem any_none {α : Type} {l : List α} {p : α → Bool} {N : Nat} (h : ∀ j (hj : j < N) (hl : j < l.length), p l[j] = false) : (l.take N).any p = false := by
 rw [List.any_eq_false]
 intro x hx
 obtain ⟨j, hj, rfl⟩ := List.mem_take_iff_getElem.1 hx
 rw [h j (by omega) (by omega)]
 decide
theorem all_miss {α : Type} {l : List α} {p : α → Bool} {k : Nat} (hk : k < l.length) (h : p l[k] = false) : l.all p = false := by
 rw [List.all_eq_false]
 exact ⟨l[k], List.getElem_mem hk, by rw [h]; decide⟩
theorem all_every {α : Type} {l : List α} {p : α → Bool} (h : ∀ j (hj : j < l.length), p l[j] = true) : l.all p = true := by
 rw [List.all_eq_true]
 intro x hx
 obtain ⟨j, hj, rfl⟩ := List.getElem_of_mem hx
 exact h j hj
theorem sureN_le (s : Int) (n : Nat) : sureN s n ≤ n := by unfold sureN; omega
theorem sureN_lt {s : Int} {n k : Nat} : k < sureN s n ↔ k < n ∧ (k : Int) < s := by unfold sureN; omega
theorem rec_at {w : World} {b off len : Nat} {l : List recs.Rc} (h : recs.SlR w (some ⟨b, off, none⟩) len l) (i : Nat) (hi : i < l.length) : w.cell? ⟨b, off + i * 3, none⟩ = some (.int .i64 l[i].1) ∧ w.cell? ⟨b, off + i * 3 + 1, none⟩ = some (.int .i64 l[i].2.1) ∧ ∃ pa pl pc, w.cell? ⟨b, off + i * 3 + 2, none⟩ = some (.slice pa pl pc) ∧ SlO w pa pl l[i].2.2 ∧ pl ≤ pc := by
 obtain ⟨b', off', e, hc⟩ := h.2.2.2 (by have := h.1; omega)
 simp only [Option.some.injEq, Addr.mk.injEq, and_true] at e
 obtain ⟨rfl, rfl⟩ := e
 obtain ⟨c0, c1, pa, pl, pc, c2, k3, k4⟩ := hc i hi
 exact ⟨c0, c1, pa, pl, pc, c2, k3, k4⟩
theorem slr_some {w : World} {a : Option Addr} {len : Nat} {l : List recs.Rc} (h : recs.SlR w a len l) (h0 : 0 < len) : ∃ b off, a = some ⟨b, off, none⟩ := by
 obtain ⟨b, off, e, _⟩ := h.2.2.2 h0
 exact ⟨b, off, e⟩
set_option maxRecDepth 100000 in
theorem i_sureCount (s : Int) (n : Nat) (w : World) (hs : (Lit.int .i64 s).wf = true) (hn : n ≤ 9223372036854775807) :
 Calls Tryz.prog 146 #[.int .i64 s, .int .i64 (n : Int)] w fun e w' => e = .returned (.int .i64 ((sureN s n : Nat) : Int)) ∧ w' = w := by
 have e : ((sureN s n : Nat) : Int) = min (max s 0) (n : Int) := by unfold sureN; omega
 rw [e]
 go_enter Tryz.func146, Tryz.ntmps146
 go_wp2
 go_ret
 exact ⟨rfl, rfl⟩
end wos
namespace wos
open Go Go.RowKit base pairs ords lay
open Go.ChangeMaps Go.MapKept
open Go.Maps (keyOf_int_mk)
def ordL : List Value → Option (DataW Unit × List MemPlace)
 | [.int .i64 t, .slice none n c] => some (recs.codeR 0 t none n c, [])
 | [.int .i64 t, .slice (some ⟨b, o, none⟩) n c] => some (recs.codeR 0 t (some ⟨b, o, none⟩) n c, [])
 | _ => none
def ordE : Value → Option (DataW Unit × List MemPlace)
 | .agg xs => ordL xs.toList
 | _ => none
theorem ordE_mk (t : Int) {a : Option Addr} (n c : Nat) (h : recs.Plain a) : ordE (.agg #[.int .i64 t, .slice a n c]) = some (recs.codeR 0 t a n c, []) := by
 rcases h with rfl | ⟨b, o, rfl⟩ <;> rfl
theorem ordE_inv {v : Value} {z : DataW Unit × List MemPlace} (h : ordE v = some z) : ∃ t a n c, recs.Plain a ∧ v = .agg #[.int .i64 t, .slice a n c] ∧ z = (recs.codeR 0 t a n c, []) := by
 unfold ordE at h
 split at h
 · next xs =>
   unfold ordL at h
   split at h
   · next t n c e =>
     cases h
     exact ⟨t, none, n, c, .inl rfl, by rw [← e], rfl⟩
   · next t b o n c e =>
     cases h
     exact ⟨t, some ⟨b, o, none⟩, n, c, .inr ⟨b, o, rfl⟩, by rw [← e], rfl⟩
   · cases h
 · cases h
theorem zeroOrd (w : World) : (zeroValue 103).run Tryz.prog w = .ok (.agg #[.int .i64 0, .slice none 0 0]) w := by kernel_rfl
def valO : Option Orr → Orr
 | none => (0, [])
 | some o => o
def OrdM (w0 w : World) (B n : Nat) (f : Int → Option Orr) : Prop :=
 ∃ D : DataW Unit, w.ownsMap Tryz.prog 3 ordE B n D ∧ Maps.IsMap D ∧
  ∀ s : Int, (Lit.int .i64 s).wf = true → Maps.has D (.int .i64 s) = (f s).isSome ∧ ∃ a m c, recs.Plain a ∧ SlO w0 a m (valO (f s)).2 ∧ m ≤ c ∧ D.atKey (.int .i64 s) (recs.codeR 0 0 none 0 0) = recs.codeR 0 (valO (f s)).1 a m c
theorem ordM_made (w0 w : World) : OrdM w0 (w.alloc (.map #[] 0)) w.heap.size 0 (fun _ => none) :=
 ⟨.map [], World.ownsMap_made _ _ _ _, Maps.isMap_empty, fun s _ => ⟨rfl, none, 0, 0, .inl rfl, slo_nil _ _, Nat.le_refl _, rfl⟩⟩
section
variable {w0 w w' : World} {B n : Nat} {f : Int → Option Orr}
theorem OrdM.lt (h : OrdM w0 w B n f) : B < w.heap.size := by
 obtain ⟨D, ⟨es, clock, hb, _⟩, _⟩ := h
 exact (Array.getElem?_eq_some_iff.1 hb).1
theorem OrdM.keep (h : OrdM w0 w B n f) (hb : w'.heap[B]? = w.heap[B]?) : OrdM w0 w' B n f := by
 obtain ⟨D, ⟨es, clock, h1, h2⟩, h3, h4⟩ := h
 exact ⟨D, ⟨es, clock, hb.trans h1, h2⟩, h3, h4⟩
theorem OrdM.below (h : OrdM w0 w B n f) (hb : Below w.heap.size w w') : OrdM w0 w' B n f := h.keep (hb.block B h.lt)
theorem OrdM.ask (h : OrdM w0 w B n f) {s : Int} (hs : (Lit.int .i64 s).wf = true) : ∃ a m c, recs.Plain a ∧ SlO w0 a m (valO (f s)).2 ∧ (Instr.lookup 64 (.map (some B)) (.int .i64 s) true).run Tryz.prog w = .ok (.tuple #[.agg #[.int .i64 (valO (f s)).1, .slice a m c], .bool (f s).isSome]) w := by
 obtain ⟨D, h1, h3, h4⟩ := h
 obtain ⟨hh, a, m, c, h5, h6, _, h7⟩ := h4 s hs
 obtain ⟨v, ps, hrun, hR⟩ := h1.look_ok recs.intLawR Tryz.underlying64 (zeroOrd w) (ordE_mk 0 0 0 (.inl rfl)) (keyOf_int_mk (P := Tryz.prog) Tryz.underlying3 hs)
 rw [h7] at hR
 obtain ⟨t', a', n', c', hp, hv, hz⟩ := ordE_inv hR
 obtain ⟨_, e2, e3, e4, e5⟩ := recs.codeR_inj h5 hp (congrArg Prod.fst hz)
 refine ⟨a, m, c, h5, h6, ?_⟩
 rw [hrun, hh, hv, e2, e3, e4, e5]
theorem OrdM.look (h : OrdM w0 w B n f) {s : Int} (hs : (Lit.int .i64 s).wf = true) : ∃ a m c, recs.Plain a ∧ SlO w0 a m (valO (f s)).2 ∧ m ≤ c ∧ ∀ w2 : World, w2.heap[B]? = w.heap[B]? → (Instr.lookup 64 (.map (some B)) (.int .i64 s) false).run Tryz.prog w2 = .ok (.agg #[.int .i64 (valO (f s)).1, .slice a m c]) w2 := by
 obtain ⟨D, ⟨es, clock, hb, F, hn, rfl⟩, h3, h4⟩ := h
 obtain ⟨_, a, m, c, h5, h6, hmc, h7⟩ := h4 s hs
 have hkey := keyOf_int_mk (P := Tryz.prog) Tryz.underlying3 hs
 refine ⟨a, m, c, h5, h6, hmc, fun w2 hw2 => ?_⟩
 rcases Maps.fit_look false recs.intLawR Tryz.underlying64 (zeroOrd w2) (hw2.trans hb) F hkey with ⟨hrun, _, hat⟩ | ⟨e0, y, _, _, hrun, hRv, hat, _⟩
 · rw [hat] at h7
   obtain ⟨_, e2, e3, e4, e5⟩ := recs.codeR_inj (.inl rfl) h5 h7
   rw [hrun, ← e2, ← e3, ← e4, ← e5]; rfl
 · rw [hat] at h7
   obtain ⟨t', a', n', c', hp, hv, hz⟩ := ordE_inv hRv
   rw [hz] at h7
   obtain ⟨_, e2, e3, e4, e5⟩ := recs.codeR_inj hp h5 h7
   rw [hrun, hv, ← e2, ← e3, ← e4, ← e5]; rfl
def updO (f : Int → Option Orr) (s : Int) (o : Orr) (t : Int) : Option Orr := if t = s then some o else f t
theorem OrdM.store (h : OrdM w0 w B n f) (hn : n < maxLen) {s : Int} (hs : (Lit.int .i64 s).wf = true) {r : Orr} {a : Option Addr} {m c : Nat} (ha : recs.Plain a) (hS : SlO w0 a m r.2) (hmc : m ≤ c) :
 ∃ w2, (Instr.mapUpdate 64 (.map (some B)) (.int .i64 s) (.agg #[.int .i64 r.1, .slice a m c])).run Tryz.prog w = .ok () w2 ∧ OrdM w0 w2 B (n + 1) (updO f s r) ∧ w.grownBy w2 (some B) := by
 obtain ⟨D, h1, h3, h4⟩ := h
 have hkey := keyOf_int_mk (P := Tryz.prog) Tryz.underlying3 hs
 obtain ⟨w2, hrun, hown, hturn⟩ := h1.store recs.intLawR Tryz.underlying64 hn hkey (ordE_mk r.1 m c ha)
 refine ⟨w2, hrun, ⟨_, hown, h3.put _ _, fun t ht => ?_⟩, hturn.grown⟩
 unfold updO
 by_cases e : t = s
 · subst e
   rw [if_pos rfl]
   exact ⟨Maps.has_put_same h3 (by trivial) _, a, m, c, ha, hS, hmc, Maps.atKey_put_same h3 (by trivial) _ _⟩
 · rw [if_neg e]
   obtain ⟨h8, a', m', c', h5, h6, h9, h7⟩ := h4 t ht
   have hne : (Lit.int .i64 t) ≠ .int .i64 s := by intro e2; exact e (by cases e2; rfl)
   exact ⟨by rw [Maps.has_put_other hne, h8], a', m', c', h5, h6, h9, by rw [Maps.atKey_put_other hne, h7]⟩
end
theorem wpList_store_ord {w0 w : World} {ops : Array Oper} {rest : List Oper} {o : Oper} {a : Act} {Q : Exit → Act → World → Prop} (hg : o.guard = none) (m x v : Operand) (hop : o.op = Op.mapUpdate 64 m x v)
 {B n : Nat} {f : Int → Option Orr} (hm : a.eval m = .map (some B)) (h : OrdM w0 w B n f) (hn : n < maxLen) {s : Int} (hx : a.eval x = .int .i64 s) (hs : (Lit.int .i64 s).wf = true) {r : Orr} {ad : Option Addr} {mm c : Nat} (hv : a.eval v = .agg #[.int .i64 r.1, .slice ad mm c]) (ha : recs.Plain ad) (hS : SlO w0 ad mm r.2) (hmc : mm ≤ c)
 (hK : ∀ w2, OrdM w0 w2 B (n + 1) (updO f s r) → w.grownBy w2 (some B) → wpList Tryz.prog ops Q rest (a.put o.dst undef) w2) : wpList Tryz.prog ops Q (o :: rest) a w := by
 refine wpList_plain hg fun K' hK' => ?_
 obtain ⟨w2, hrun, r1, r2⟩ := h.store hn hs (c := c) ha hS hmc
 unfold Oper.wp
 simp [execOp, hop, hm, hx, hv, hrun, Result.andThen]
 exact hK' _ _ (hK w2 r1 r2)
set_option maxRecDepth 100000 in
set_option maxHeartbeats 1000000 in
theorem i_ohas (w0 : World) (B m : Nat) (f : Int → Option Orr) (tx : Int) (w : World) (h : OrdM w0 w B m f) (hw : (Lit.int .i64 tx).wf = true) :
 Calls Tryz.prog 62 #[.map (some B), .int .i64 tx] w fun e w' => e = .returned (.bool (f tx).isSome) ∧ Below w.heap.size w w' := by
 obtain ⟨a, n, c, _, _, hlk⟩ := h.ask hw
 generalize (valO (f tx)).1 = t at *
 generalize (f tx).isSome = r at *
 clear h hw
 go_enter Tryz.func62, Tryz.ntmps62
 go_wp2_with fail
 go_ret
 exact ⟨rfl, below_make⟩
def firstO (l : List Orr) (tx : Int) : Option Orr := l.find? fun o => decide (o.1 = tx)
theorem firstO_take {l : List Orr} {k : Nat} (hk : k < l.length) : firstO (l.take (k + 1)) = if (firstO (l.take k) l[k].1).isSome = true then firstO (l.take k) else updO (firstO (l.take k)) l[k].1 l[k] := by
 funext s
 have e1 : firstO (l.take (k + 1)) s = (firstO (l.take k) s).or (if l[k].1 = s then some l[k] else none) := by
  unfold firstO
  rw [List.take_succ_eq_append_getElem hk, List.find?_append]
  congr 1
  by_cases e : l[k].1 = s
  · simp [e]
  · simp [e]
 rw [e1]
 by_cases h : (firstO (l.take k) l[k].1).isSome = true
 · rw [if_pos h]
   by_cases e : l[k].1 = s
   · subst e
     obtain ⟨o, ho⟩ := Option.isSome_iff_exists.1 h
     rw [ho]; rfl
   · rw [if_neg e]; simp
 · rw [if_neg h]
   unfold updO
   by_cases e : s = l[k].1
   · subst e
     have : firstO (l.take k) l[k].1 = none := by simpa using h
     rw [this]; simp
   · rw [if_neg e, if_neg (fun e2 => e e2.symm)]; simp
def PlainO (w : World) (a : Option Addr) (n : Nat) : Prop := ∀ b off, a = some ⟨b, off, none⟩ → ∀ i, i < n → ∀ pa pl pc, w.cell? ⟨b, off + i * 2 + 1, none⟩ = some (.slice pa pl pc) → recs.Plain pa
def RetM (w : World) (f : Int → Option Orr) (e : Ending) (w' : World) : Prop := ∃ B m, e = .returned (.map (some B)) ∧ OrdM w w' B m f ∧ Below w.heap.size w w'
set_option maxRecDepth 100000 in
set_option maxHeartbeats 4000000 in
theorem i_firstOrders (a : Option Addr) (n cap : Nat) (l : List Orr) (w : World) (h : SlG ordR w a n l) (hp : PlainO w a n) (hn : n ≤ 1048576) :
 Calls Tryz.prog 114 #[.slice a n cap] w (RetM w (firstO l)) := by
 have hl := h.1
 have HL := Hid.mk' hl
 have hm0 := ordM_made w w
 have hb0 : Below w.heap.size w (w.alloc (.map #[] 0)) := below_make
 have HF0 : Hid (firstO (l.take 0) = fun _ => none) := by show _ = _; funext s; rfl
 have hmm : ∀ wx : World, (Instr.makeMap 64 none).run Tryz.prog wx = .ok (.map (some wx.heap.size)) (wx.alloc (.map #[] 0)) := fun wx => by kernel_rfl
 clear hl
 go_enter Tryz.func114, Tryz.ntmps114
 go_wp2_with (at_builtin; fail)
 go_loopw [9] (fun i wr => ∃ k m : Nat, k ≤ n ∧ m ≤ k ∧ i = .int .i64 (k : Int) ∧ Below w.heap.size w wr ∧ OrdM w wr w.heap.size m (firstO (l.take k))) (fun i _ => n - (intOf i).toNat)
 case atStart => exact ⟨0, 0, Nat.zero_le _, Nat.le_refl _, rfl, hb0, by rw [HF0.out]; exact hm0⟩
 case round =>
  clear hm0 hb0
  obtain ⟨k, m, hk, hmk, rfl, hb, hM⟩ := hrel
  by_cases hlt : k < n
  · have hki : (k : Int) < (n : Int) := by omega
    have hkl : k < l.length := by have := HL.out; omega
    obtain ⟨b, off, ha⟩ := cos.slg_some h (by omega)
    subst ha
    obtain ⟨c0, oa, ol, oc, c1, hSo, hoc⟩ := ord_at h k hkl
    have hpl := hp b off rfl k hlt oa ol oc c1
    have hw1 : (Lit.int .i64 l[k].1).wf = true := by
     obtain ⟨vs, hv⟩ := h.2.2.1 _ (List.getElem_mem hkl)
     obtain ⟨_, _, _, _, k1, _⟩ := ord_see.1 hv
     exact k1
    have d0 := (hb.cell (p := ⟨b, off + k * 2, none⟩) (World.block_lt_of_cell? _ _ c0)).trans c0
    have d1 := (hb.cell (p := ⟨b, off + k * 2 + 1, none⟩) (World.block_lt_of_cell? _ _ c1)).trans c1
    have HT := Hid.mk' (firstO_take hkl)
    generalize l[k] = o at *
    obtain ⟨u1, hu1⟩ : ∃ u1, wr.alloc (.cells #[.int .i64 o.1, .slice oa ol oc] 103) = u1 := ⟨_, rfl⟩
    have hbu : Below wr.heap.size wr u1 := by rw [← hu1]; exact below_make
    have hX := boxIn_new wr [.int .i64 o.1, .slice oa ol oc] 103
    rw [hu1] at hX
    obtain ⟨x0, x1⟩ := cells2 hX
    rw [← hu1] at x0 x1
    have hMu := hM.below hbu
    have HH := Hid.mk' (i_ohas w w.heap.size m (firstO (l.take k)) o.1 u1 hMu hw1)
    have HU := Hid.mk' hu1
    have hbw := hb.trans (hbu.mono hb.size)
    have hBlt := hMu.lt
    clear hu1 c0 c1
    cases hs : (firstO (l.take k) o.1).isSome
    · rw [hs] at HH HT
      clear hs
      go_wp2_with fail
      rw [HU.out]
      refine HH.out.mono ?_
      rintro e w2 ⟨rfl, hb2⟩
      obtain ⟨x0, x1⟩ := cells2 (hX.below hb2)
      have hM2 := hMu.below hb2
      have hbw2 := hbw.trans (hb2.mono hbw.size)
      clear HH HU
      go_wp2_with (refine wpList_store_ord rfl _ _ _ rfl rfl hM2 (by unfold maxLen; omega) rfl hw1 (r := o) rfl hpl hSo hoc ?_)
      intro w3 hM3 hg3
      have hb3 : Below w.heap.size w w3 := hbw2.grown hg3 hbw2.size (fun j e => by cases e; exact Nat.le_refl _)
      go_wp2_with fail
      go_roundw
      case rel => exact ⟨k + 1, m + 1, by omega, by omega, by go_num, hb3, by rw [HT.out]; exact hM3⟩
      case measure => simp [intOf]; omega
    · rw [hs] at HH HT
      clear hs
      go_wp2_with fail
      rw [HU.out]
      refine HH.out.mono ?_
      rintro e w2 ⟨rfl, hb2⟩
      have hM2 := hMu.below hb2
      have hbw2 := hbw.trans (hb2.mono hbw.size)
      clear HH HU
      go_wp2_with fail
      go_roundw
      case rel => exact ⟨k + 1, m, by omega, by omega, by go_num, hbw2, by rw [HT.out]; exact hM2⟩
      case measure => simp [intOf]; omega
  · have hki : ¬ (k : Int) < (n : Int) := by omega
    have HE : Hid (l.take k = l) := List.take_of_length_le (by have := HL.out; omega)
    go_wp2_with fail
    go_ret
    exact ⟨_, m, rfl, by rw [HE.out] at hM; exact hM, hb⟩
end wos
namespace ords
open Go Go.RowKit base pairs
open Go.ChangeMaps Go.MapKept
open Go.WideElems (Fit rd rg pl rd_val rd_key rg_of)
open Go.Maps (Keyed)
open Go.Maps (keyOf_int_mk)
theorem intLaw : Keyed Tryz.prog 3 := Maps.int_keyed Tryz.underlying3
def noR : Value → Option (DataW Unit × List MemPlace) := fun _ => some (.nil, [])
def KeysD (es : Array MapEntry) (D : DataW Unit) : Prop := D = .map ((es.toList.map (rg Tryz.prog 3 noR)).foldr DataW.insert [])
def upd (f : Int → List Od) (s : Int) (l : List Od) (t : Int) : List Od := if t = s then l else f t
theorem upd_same (f : Int → List Od) (s : Int) (l : List Od) : upd f s l s = l := if_pos rfl
theorem upd_other {f : Int → List Od} {s t : Int} {l : List Od} (h : t ≠ s) : upd f s l t = f t := if_neg h
def Groups (w : World) (B base n : Nat) (f : Int → List Od) : Prop :=
 ∃ es clock, w.heap[B]? = some (.map es clock) ∧ Fit Tryz.prog 3 noR es clock ∧ es.size ≤ n ∧ B < base ∧
  (∀ x ∈ es.toList, ∃ (s : Int) (g m cp : Nat), x.key = .int .i64 s ∧ x.val = .slice (some ⟨g, 0, none⟩) m cp ∧ f s ≠ [] ∧ OwnO w base g m cp (f s)) ∧
  (∀ D, KeysD es D → ∀ s, (Lit.int .i64 s).wf = true → (Maps.has D (.int .i64 s) = true ↔ f s ≠ [])) ∧
  ∀ x ∈ es.toList, ∀ y ∈ es.toList, x.key ≠ y.key → x.val.ownBlock ≠ y.val.ownBlock
section
variable {w w' : World} {B base n : Nat} {f : Int → List Od} {row : Option Nat}
theorem groups_made (w : World) : Groups (w.alloc (.map #[] 0)) w.heap.size (w.heap.size + 1) 0 (fun _ => []) :=
 ⟨#[], 0, (MapKept.heap_alloc w _).1, ⟨by simp, stamped_empty 0, by simp⟩, Nat.le_refl _, Nat.lt_succ_self _, by simp, fun D hD s _ => by unfold KeysD at hD; subst hD; simp [Maps.has], by simp⟩
theorem Groups.lt (h : Groups w B base n f) : B < w.heap.size := by
 obtain ⟨es, clock, hb, _⟩ := h
 exact (Array.getElem?_eq_some_iff.1 hb).1
theorem Groups.size (h : Groups w B base n f) : B < base := by
 obtain ⟨es, clock, hb, _, _, h1, _⟩ := h
 exact h1
theorem Groups.grown (h : Groups w B base n f) (hg : w.grownBy w' row) (hB : some B ≠ row) (hr : ∀ j, row = some j → j < base) : Groups w' B base n f := by
 have hlt := h.lt
 obtain ⟨es, clock, hb, F, hs, hbb, hel, hhas, hap⟩ := h
 refine ⟨es, clock, (hg.block B hlt hB).trans hb, F, hs, hbb, fun x hx => ?_, hhas, hap⟩
 obtain ⟨s, g, m, cp, h1, h2, h3, h4⟩ := hel x hx
 exact ⟨s, g, m, cp, h1, h2, h3, h4.grown hg (fun e => by have := hr g e.symm; have := h4.lt; omega)⟩
theorem Groups.below (h : Groups w B base n f) (hb : Below w.heap.size w w') : Groups w' B base n f :=
 h.grown (row := none) ⟨hb.os, hb.tape, hb.output, hb.size, fun k hk _ => hb.block k hk⟩ (by simp) (fun j e => by cases e)
theorem Groups.owns (h : Groups w B base n f) : ∃ D, w.ownsMap Tryz.prog 3 noR B n D ∧ Maps.IsMap D ∧ ∀ s, (Lit.int .i64 s).wf = true → (Maps.has D (.int .i64 s) = true ↔ f s ≠ []) := by
 obtain ⟨es, clock, hb, F, hs, hbb, hel, hhas, hap⟩ := h
 exact ⟨_, ⟨es, clock, hb, F, hs, rfl⟩, ⟨_, rfl⟩, hhas _ rfl⟩
def Back (w : World) (B base n : Nat) (f : Int → List Od) (s : Int) (v : Value) : Prop :=
 ∀ (w1 : World) (g m cp : Nat) (l' : List Od), w.grownBy w1 v.ownBlock → OwnO w1 base g m cp l' → l' ≠ [] → (some g = v.ownBlock ∨ w.heap.size ≤ g) →
  ∃ w2, (Instr.mapUpdate 237 (.map (some B)) (.int .i64 s) (.slice (some ⟨g, 0, none⟩) m cp)).run Tryz.prog w1 = .ok () w2 ∧
   Groups w2 B base (n + 1) (upd f s l') ∧ w1.grownBy w2 (some B)
theorem groups_back {es : Array MapEntry} {clock : Nat} {s : Int} {v : Value} (hsw : (Lit.int .i64 s).wf = true) (hb : w.heap[B]? = some (.map es clock)) (F : Fit Tryz.prog 3 noR es clock) (hs : es.size ≤ n) (hn : n < maxLen) (hbb : B < base)
 (hel : ∀ x ∈ es.toList, ∃ (s : Int) (g m cp : Nat), x.key = .int .i64 s ∧ x.val = .slice (some ⟨g, 0, none⟩) m cp ∧ f s ≠ [] ∧ OwnO w base g m cp (f s))
 (hhas : ∀ D, KeysD es D → ∀ s, (Lit.int .i64 s).wf = true → (Maps.has D (.int .i64 s) = true ↔ f s ≠ []))
 (hap : ∀ x ∈ es.toList, ∀ y ∈ es.toList, x.key ≠ y.key → x.val.ownBlock ≠ y.val.ownBlock)
 (hv : ∀ x ∈ es.toList, x.key ≠ .int .i64 s → x.val.ownBlock ≠ v.ownBlock) (hvb : v.ownBlock ≠ some B) : Back w B base n f s v := by
 intro w1 g m cp l' hg hO' hne' hloc
 have hblt : B < w.heap.size := (Array.getElem?_eq_some_iff.1 hb).1
 have hb1 : w1.heap[B]? = some (.map es clock) := (hg.block B hblt (fun e1 => hvb e1.symm)).trans hb
 have hkey := keyOf_int_mk (P := Tryz.prog) Tryz.underlying3 hsw
 obtain ⟨es', clock', hrun, F', hput, _, _, hwho⟩ := Maps.fit_store (R := noR) (R' := noR) (val := .slice (some ⟨g, 0, none⟩) m cp) intLaw Tryz.underlying237 hb1 F (Nat.lt_of_le_of_lt hs hn) (fun x hx _ z hz => hz) hkey (yv := (.nil, [])) rfl
 have hg2 : w1.grownBy (setBlock w1 B (.map es' clock')) (some B) := ⟨rfl, rfl, rfl, by simp [setBlock], fun i _ hi => heap_setBlock_other hb1 _ (fun e1 => hi (by rw [e1]))⟩
 obtain ⟨D0, hD0⟩ : ∃ D, KeysD es D := ⟨_, rfl⟩
 have hD : ∀ D', KeysD es' D' → D' = D0.put (.int .i64 s) .nil := by intro D' h'; unfold KeysD at h' hD0; rw [h', hD0, DataW.put_eq, hput]
 have hD1 : Maps.IsMap D0 := ⟨_, hD0⟩
 have hgb := hO'.lt
 refine ⟨_, hrun, ⟨es', clock', heap_setBlock_same hb1 _, F', ?_, hbb, ?_, ?_, ?_⟩, hg2⟩
 · have e1 : es'.size = ((es'.toList.map (rg Tryz.prog 3 noR)).foldr DataW.insert []).length := by rw [length_sorted]; simp
   rw [e1, hput]
   unfold Go.ChangeMaps.putKey
   rw [length_insert]
   have e2 := List.length_filter_le (notKey (.int .i64 s)) ((es.toList.map (rg Tryz.prog 3 noR)).foldr DataW.insert [])
   rw [length_sorted] at e2
   simp at e2
   omega
 · intro x hx
   rcases hwho x hx with ⟨hx0, hxk⟩ | ⟨hxk, hxv⟩
   · obtain ⟨t, gx, mx, cx, h1, h2, h3, h4⟩ := hel x hx0
     have hts : t ≠ s := fun e => hxk (by rw [h1, e])
     have hgx : some gx ≠ v.ownBlock := fun e => hv x hx0 hxk (by rw [h2]; exact e)
     have := h4.lt
     exact ⟨t, gx, mx, cx, h1, h2, by rw [upd_other hts]; exact h3, by rw [upd_other hts]; exact (h4.grown hg hgx).grown hg2 (fun e => by cases e; omega)⟩
   · exact ⟨s, g, m, cp, hxk, hxv, by rw [upd_same]; exact hne', by rw [upd_same]; exact hO'.grown hg2 (fun e => by cases e; omega)⟩
 · intro D' h' t ht
   rw [hD D' h']
   by_cases e : t = s
   · subst e
     rw [Maps.has_put_same hD1 (by trivial)]
     rw [upd_same]; simpa using hne'
   · rw [Maps.has_put_other (fun e1 => e (by cases e1; rfl)), hhas D0 hD0 t ht, upd_other e]
 · have old_new : ∀ x ∈ es.toList, x.key ≠ .int .i64 s → x.val.ownBlock ≠ some g := by
    intro x hx hxk e1
    rcases hloc with h1 | h1
    · exact hv x hx hxk (by rw [e1, h1])
    · obtain ⟨t, gx, mx, cx, _, h2, _, h4⟩ := hel x hx
      have := h4.lt
      rw [h2] at e1
      simp [Value.ownBlock] at e1
      omega
   intro x hx y hy hne
   rcases hwho x hx with ⟨hx0, hxk⟩ | ⟨hxk, hxv⟩ <;> rcases hwho y hy with ⟨hy0, hyk⟩ | ⟨hyk, hyv⟩
   · exact hap x hx0 y hy0 hne
   · rw [hyv]; exact old_new x hx0 hxk
   · rw [hxv]; exact fun e => old_new y hy0 hyk e.symm
   · exact absurd (hxk.trans hyk.symm) hne
theorem Groups.look (h : Groups w B base n f) {s : Int} (hsw : (Lit.int .i64 s).wf = true) (hn : n < maxLen) :
 ∃ v, (Instr.lookup 237 (.map (some B)) (.int .i64 s) false).run Tryz.prog w = .ok v w ∧ w.ownsRow base 126 3 v (f s).length (ordVals (f s)) ∧ (∀ p ∈ f s, smallO p) ∧ Back w B base n f s v := by
 obtain ⟨es, clock, hb, F, hs, hbb, hel, hhas, hap⟩ := h
 have hkey := keyOf_int_mk (P := Tryz.prog) Tryz.underlying3 hsw
 rcases Maps.fit_look (R := noR) false intLaw Tryz.underlying237 (z := .slice none 0 0) (by kernel_rfl) hb F hkey with ⟨hrun, hno, hat⟩ | ⟨e0, y, hm0, h3, hrun, hR, hat, _⟩
 · have hf : f s = [] := by
    have := Maps.has_false_of_atKey hat
    have h1 := hhas _ rfl s hsw
    cases hfs : f s with
    | nil => rfl
    | cons a l =>
     have h2 := h1.2 (by rw [hfs]; simp)
     rw [this] at h2; cases h2
   refine ⟨.slice none 0 0, by simpa using hrun, by rw [hf]; exact World.ownsRow_nil _ _ _ _, by rw [hf]; exact fun p hp => absurd hp List.not_mem_nil, groups_back hsw hb F hs hn hbb hel hhas hap (fun x hx _ => ?_) (by simp [Value.ownBlock])⟩
   obtain ⟨t, g, m, cp, _, h2, _, _⟩ := hel x hx
   rw [h2]; simp [Value.ownBlock]
 · obtain ⟨t, g, m, cp, h1, h2, h4, h5⟩ := hel e0 hm0
   obtain rfl : t = s := by rw [h3] at h1; cases h1; rfl
   have hlt := h5.lt
   refine ⟨e0.val, by simpa using hrun, by rw [h2, h5.1]; exact h5.2.2, h5.2.1, groups_back hsw hb F hs hn hbb hel hhas hap (fun x hx hne => hap x hx e0 hm0 (by rw [h3]; exact hne)) ?_⟩
   rw [h2]; simp [Value.ownBlock]; omega
end
theorem wpList_look_groups (w : World) {ops : Array Oper} {rest : List Oper} {o : Oper} {a : Act} {Q : Exit → Act → World → Prop}
 (hg : o.guard = none) (m x : Operand) (hop : o.op = Op.lookup 237 m x false) {B base n : Nat} {f : Int → List Od} {s : Int}
 (hm : a.eval m = .map (some B)) (hx : a.eval x = .int .i64 s) (h : Groups w B base n f) (hsw : (Lit.int .i64 s).wf = true) (hn : n < maxLen)
 (hK : ∀ v, w.ownsRow base 126 3 v (f s).length (ordVals (f s)) → (∀ p ∈ f s, smallO p) → Back w B base n f s v → wpList Tryz.prog ops Q rest (a.put o.dst v) w) :
 wpList Tryz.prog ops Q (o :: rest) a w := by
 refine wpList_plain hg fun K' hK' => ?_
 obtain ⟨v, hrun, h1, h2, h3⟩ := h.look hsw hn
 unfold Oper.wp
 simp [execOp, hop, hm, hx, hrun, Result.andThen]
 exact hK' _ _ (hK v h1 h2 h3)
theorem wpList_store_back (w : World) {ops : Array Oper} {rest : List Oper} {o : Oper} {a : Act} {Q : Exit → Act → World → Prop}
 (hg : o.guard = none) (m x y : Operand) (hop : o.op = Op.mapUpdate 237 m x y) {w0 : World} {B base n g k cp : Nat} {f : Int → List Od} {s : Int} {v : Value} {l' : List Od}
 (hback : Back w0 B base n f s v) (hm : a.eval m = .map (some B)) (hx : a.eval x = .int .i64 s) (hy : a.eval y = .slice (some ⟨g, 0, none⟩) k cp)
 (hgr : w0.grownBy w v.ownBlock) (hO : OwnO w base g k cp l') (hne : l' ≠ []) (hloc : some g = v.ownBlock ∨ w0.heap.size ≤ g)
 (hK : ∀ w2, Groups w2 B base (n + 1) (upd f s l') → w.grownBy w2 (some B) → wpList Tryz.prog ops Q rest (a.put o.dst undef) w2) :
 wpList Tryz.prog ops Q (o :: rest) a w := by
 refine wpList_plain hg fun K' hK' => ?_
 obtain ⟨w2, hrun, r1, r2⟩ := hback w g k cp l' hgr hO hne hloc
 unfold Oper.wp
 simp [execOp, hop, hm, hx, hy, hrun, Result.andThen]
 exact hK' _ _ (hK w2 r1 r2)
end ords
end Go.Proofs.YtijplooogplccaaGreat
