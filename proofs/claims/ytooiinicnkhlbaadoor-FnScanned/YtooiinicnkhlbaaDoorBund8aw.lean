/- errors.As at the program's own error (a struct of one number): of nil it is false, of that error it is true, and the target gets it. The program's records out of bytes: a record out of its body, and at a place. -/
import Derived.Test.YtooiinicnkhlbaaDoorRows
import Derived.Test.YtooiinicnkhlbaaDoorBund8aa
import Derived.WalkKit
import Derived.LaidEql
import Derived.Stop.Asserts
import Derived.RowKitTokens
import Derived.Test.YtooiinicnkhlbaaDoorBund8av
import Derived.Test.YtooiinicnkhlbaaDoorBund8ak
import Derived.Deep.RegionWith
namespace Go.Proofs.YtooiinicnkhlbaaDoor.recs
open Go Go.RowKit Go.Extern.Stop Go.Stop Go.Extern Go.Proofs.YtooiinicnkhlbaaDoor.base
set_option linter.unusedVariables false
set_option linter.unusedSimpArgs false

/-- the variable that errors.As reads holds the type error -/
def ET (w : World) : Prop := w.cell? ⟨0, 0, none⟩ = some (.iface 130 (.agg #[.pointer (some ⟨2, 62, none⟩)]))
theorem ET.below {w w' : World} (h : ET w) (hb : Below w.heap.size w w') : ET w' :=
  (hb.cell (p := ⟨0, 0, none⟩) (World.block_lt_of_cell? w _ h)).trans h

theorem as_nil (t : Value) (w : World) :
    Calls Tryd.prog 47 #[.nilIface, t] w fun e w' => e = .returned (.bool false) ∧ w' = w := by
  go_enter Tryd.func47, Tryd.ntmps47
  go_wp2
  go_ret
  exact ⟨rfl, rfl⟩

namespace asF
theorem valueOfP (t : Addr) (w : World) : (ReflectliteValue.unpack (.iface 68 (.pointer (some t)))).run Tryd.prog w
    = .ok (.agg #[.pointer (some ⟨2, 68, none⟩), .pointer (some ⟨w.heap.size, 0, none⟩), .int .u64 150]) (w.alloc (.cells #[.pointer (some t)] 68)) := by kernel_rfl
theorem typeP (a : Addr) (w : World) : (ReflectliteValue.methodAny (ReflectliteValue.valueError "reflectlite.Value.Type" 0) (fun t _ _ _ => ReflectliteType.toType t) #[.agg #[.pointer (some ⟨2, 68, none⟩), .pointer (some a), .int .u64 150]]).run Tryd.prog w
    = .ok (.iface 130 (.agg #[.pointer (some ⟨2, 68, none⟩)])) w := by kernel_rfl
theorem methodKind (h : Value) (w : World) : (Go.method 285 130 (.agg #[h]) "Kind").run Tryd.prog w = .ok (129, h) w := by kernel_rfl
theorem methodElem (h : Value) (w : World) : (Go.method 285 130 (.agg #[h]) "Elem").run Tryd.prog w = .ok (141, .agg #[h]) w := by kernel_rfl
theorem methodImplements (h : Value) (w : World) : (Go.method 285 130 (.agg #[h]) "Implements").run Tryd.prog w = .ok (142, .agg #[h]) w := by kernel_rfl
theorem methodAssignableTo (h : Value) (w : World) : (Go.method 285 130 (.agg #[h]) "AssignableTo").run Tryd.prog w = .ok (139, .agg #[h]) w := by kernel_rfl
theorem kindP (w : World) : ((ReflectliteType.abiMethod fun t => (fun a : Nat => Value.int IntKind.u8 (a : Int)) <$> Rtype.kind t) #[.pointer (some ⟨2, 68, none⟩)]).run Tryd.prog w = .ok (.int .u8 22) w := by kernel_rfl
theorem kindS (w : World) : ((ReflectliteType.abiMethod fun t => (fun a : Nat => Value.int IntKind.u8 (a : Int)) <$> Rtype.kind t) #[.pointer (some ⟨2, 66, none⟩)]).run Tryd.prog w = .ok (.int .u8 25) w := by kernel_rfl
theorem rlm (z : Sem Value) (f : TypeId → Addr → Nat → Nat → Sem Value) (v : Value) :
    ReflectliteValue.method z f #[v] = (do match ← ReflectliteValue.parts v with | none => z | some (t, a, fl) => f t a fl (fl % 32)) := rfl
theorem partsP (a : Addr) (w : World) : (ReflectliteValue.parts (.agg #[.pointer (some ⟨2, 68, none⟩), .pointer (some a), .int .u64 150])).run Tryd.prog w = .ok (some (68, a, 150)) w := by kernel_rfl
theorem isNilP (a p : Addr) (W : World) (ha : W.cell? a = some (.pointer (some p))) :
    (ReflectliteValue.method (ReflectliteValue.valueError "reflectlite.Value.IsNil" 0) ReflectliteValue.isNil #[.agg #[.pointer (some ⟨2, 68, none⟩), .pointer (some a), .int .u64 150]]).run Tryd.prog W = .ok (.bool false) W := by
  rw [rlm]
  simp only [Sem.run_bind, partsP, Result.andThen]
  simp [ReflectliteValue.isNil, loadVar, isAgg, underlying, Tryd.underlying68, ha, Result.andThen]
theorem elemP (w : World) : (ReflectliteType.method ReflectliteType.elem #[.agg #[.pointer (some ⟨2, 68, none⟩)]]).run Tryd.prog w = .ok (.iface 130 (.agg #[.pointer (some ⟨2, 66, none⟩)])) w := by kernel_rfl
theorem implementsS (w : World) : (ReflectliteType.relation "Implements" ReflectliteType.implements_ #[.agg #[.pointer (some ⟨2, 66, none⟩)], .iface 130 (.agg #[.pointer (some ⟨2, 62, none⟩)])]).run Tryd.prog w = .ok (.bool true) w := by kernel_rfl
theorem typeOfS (v : Value) (w : World) : (ReflectliteType.typeOf #[.iface 66 v]).run Tryd.prog w = .ok (.iface 130 (.agg #[.pointer (some ⟨2, 66, none⟩)])) w := by kernel_rfl
theorem assignableS (w : World) : (ReflectliteType.relation "AssignableTo" ReflectliteType.assignableTo #[.agg #[.pointer (some ⟨2, 66, none⟩)], .iface 130 (.agg #[.pointer (some ⟨2, 66, none⟩)])]).run Tryd.prog w = .ok (.bool true) w := by kernel_rfl
theorem valueOfS (z : Int) (w : World) : (ReflectliteValue.unpack (.iface 66 (.agg #[.int .i64 z]))).run Tryd.prog w
    = .ok (.agg #[.pointer (some ⟨2, 66, none⟩), .pointer (some ⟨w.heap.size, 0, none⟩), .int .u64 153]) (w.alloc (.cells #[.int .i64 z] 66)) := by kernel_rfl
theorem elemOfP (w : World) : (Rtype.elem? 68).run Tryd.prog w = .ok (some 66) w := by kernel_rfl
theorem mkS (p : Addr) (w : World) : (ReflectliteValue.mk 66 p ReflectliteValue.flagAddr).run Tryd.prog w = .ok (.agg #[.pointer (some ⟨2, 66, none⟩), .pointer (some p), .int .u64 409]) w := by kernel_rfl
theorem elemV (a p : Addr) (W : World) (ha : W.cell? a = some (.pointer (some p))) :
    (ReflectliteValue.method (ReflectliteValue.valueError "reflectlite.Value.Elem" 0) ReflectliteValue.elem #[.agg #[.pointer (some ⟨2, 68, none⟩), .pointer (some a), .int .u64 150]]).run Tryd.prog W
      = .ok (.agg #[.pointer (some ⟨2, 66, none⟩), .pointer (some p), .int .u64 409]) W := by
  rw [rlm]
  simp only [Sem.run_bind, partsP, Result.andThen]
  simp [ReflectliteValue.elem, loadVar, isAgg, underlying, Tryd.underlying68, ha, Result.andThen, elemOfP, mkS]
theorem rls (v x : Value) : ReflectliteValue.set #[v, x] = (do
    let (some (dst, a, fl), some (src, b, _)) := (← ReflectliteValue.parts v, ← ReflectliteValue.parts x)
      | unsupported (.noEntry "extern/(internal/reflectlite.Value).Set.zeroValue")
    if fl / ReflectliteValue.flagAddr % 2 == 0 then unsupported (.noEntry "extern/(internal/reflectlite.Value).Set.unaddressable")
    let val ← loadVar src b
    if ← Rtype.directlyAssignable dst src then storeVar dst a val
    else if ← Rtype.implements dst src then
      if (← Rtype.kind src) == 20 then
        match val with
        | .nilIface => unsupported (.noEntry "extern/reflectlite: a nil value of one interface type handed on as a value of another")
        | _ => storeVar dst a val
      else storeVar dst a (.iface src val)
    else panicString ("reflectlite.Set: value of type " ++ (← Rtype.spelt src) ++ " is not assignable to type " ++ (← Rtype.spelt dst))
    pure (.tuple #[])) := rfl
theorem partsSa (a : Addr) (w : World) : (ReflectliteValue.parts (.agg #[.pointer (some ⟨2, 66, none⟩), .pointer (some a), .int .u64 409])).run Tryd.prog w = .ok (some (66, a, 409)) w := by kernel_rfl
theorem partsS (a : Addr) (w : World) : (ReflectliteValue.parts (.agg #[.pointer (some ⟨2, 66, none⟩), .pointer (some a), .int .u64 153])).run Tryd.prog w = .ok (some (66, a, 153)) w := by kernel_rfl
theorem directS (w : World) : (Rtype.directlyAssignable 66 66).run Tryd.prog w = .ok true w := by kernel_rfl
theorem sizeS (w : World) : (sizeOf 66).run Tryd.prog w = .ok 1 w := by kernel_rfl
theorem loadS (B : Nat) (z : Int) (W : World) (hb : W.cell? ⟨B, 0, none⟩ = some (.int .i64 z)) : (loadVar 66 ⟨B, 0, none⟩).run Tryd.prog W = .ok (.agg #[.int .i64 z]) W := by
  have h1 : (loadCells ⟨B, 0, none⟩ 1).run Tryd.prog W = .ok #[.int .i64 z] W := by
    show (loadCellsFrom ⟨B, 0, none⟩ 0 1 #[]).run Tryd.prog W = _
    simp [loadCellsFrom, Addr.add, hb, Result.andThen]
  simp [loadVar, isAgg, underlying, Tryd.underlying66, sizeS, h1, Result.andThen]
theorem storeS (X : Nat) (z : Int) (old : Value) (W : World) (ht : W.cell? ⟨X, 0, none⟩ = some old) (hf : W.frozen? ⟨X, 0, none⟩ = false) : (storeVar 66 ⟨X, 0, none⟩ (.agg #[.int .i64 z])).run Tryd.prog W = .ok () (W.setCell ⟨X, 0, none⟩ (.int .i64 z)) := by
  simp [storeVar, Value.cells, sizeS, storeCells, Addr.add, Result.andThen]
  rw [run_store Tryd.prog W ⟨X, 0, none⟩ _ _ (by rfl)]
  simp [ht, hf]
theorem setS (X B : Nat) (z : Int) (old : Value) (W : World) (hb : W.cell? ⟨B, 0, none⟩ = some (.int .i64 z)) (ht : W.cell? ⟨X, 0, none⟩ = some old) (hf : W.frozen? ⟨X, 0, none⟩ = false) :
    (ReflectliteValue.set #[.agg #[.pointer (some ⟨2, 66, none⟩), .pointer (some ⟨X, 0, none⟩), .int .u64 409], .agg #[.pointer (some ⟨2, 66, none⟩), .pointer (some ⟨B, 0, none⟩), .int .u64 153]]).run Tryd.prog W
      = .ok (.tuple #[]) (W.setCell ⟨X, 0, none⟩ (.int .i64 z)) := by
  rw [rls]
  simp only [Sem.run_bind, partsSa, partsS, Result.andThen]
  simp [ReflectliteValue.flagAddr, loadS B z W hb, directS, storeS X z old W ht hf, Result.andThen]
end asF

set_option maxRecDepth 100000 in
set_option maxHeartbeats 4000000 in
/-- of the program's own error: the target gets it -/
theorem as_hitW (z : Int) (X : Nat) (old : Value) (w : World) (hg : ET w) (ht0 : w.cell? ⟨X, 0, none⟩ = some old) (hf0 : w.frozen? ⟨X, 0, none⟩ = false) :
    Calls Tryd.prog 47 #[.iface 66 (.agg #[.int .i64 z]), .iface 68 (.pointer (some ⟨X, 0, none⟩))] w fun ev w' => ev = .returned (.bool true) ∧ w' = ((((w.alloc (.cells #[.pointer (some ⟨X, 0, none⟩)] 68)).alloc (.cells #[.pointer (some ⟨2, 68, none⟩), .pointer (some ⟨w.heap.size, 0, none⟩), .int .u64 150] 95)).alloc (.cells #[.pointer (some ⟨2, 68, none⟩), .pointer (some ⟨w.heap.size, 0, none⟩), .int .u64 150] 95)).alloc (.cells #[.int .i64 z] 66)).setCell ⟨X, 0, none⟩ (.int .i64 z) := by
  have h6 := @run_callFunc_extern Tryd.prog 72 _ (fun args => ReflectliteValue.unpack (args.getD 0 (.tuple #[]))) Tryd.func72 (by kernel_rfl) (by kernel_rfl) (by kernel_rfl) (by kernel_rfl)
  have h7 := @run_callFunc_extern Tryd.prog 73 _ (ReflectliteValue.methodAny (ReflectliteValue.valueError "reflectlite.Value.Type" 0) (fun t _ _ _ => ReflectliteType.toType t)) Tryd.func73 (by kernel_rfl) (by kernel_rfl) (by kernel_rfl) (by kernel_rfl)
  have h8 := @run_callFunc_extern Tryd.prog 74 _ (ReflectliteValue.method (ReflectliteValue.valueError "reflectlite.Value.IsNil" 0) ReflectliteValue.isNil) Tryd.func74 (by kernel_rfl) (by kernel_rfl) (by kernel_rfl) (by kernel_rfl)
  have h27 := @run_callFunc_extern Tryd.prog 129 _ (ReflectliteType.abiMethod fun t => do pure (.int .u8 (← Rtype.kind t))) Tryd.func129 (by kernel_rfl) (by kernel_rfl) (by kernel_rfl) (by kernel_rfl)
  have h37 := @run_callFunc_extern Tryd.prog 141 _ (ReflectliteType.method ReflectliteType.elem) Tryd.func141 (by kernel_rfl) (by kernel_rfl) (by kernel_rfl) (by kernel_rfl)
  have h38 := @run_callFunc_extern Tryd.prog 142 _ (ReflectliteType.relation "Implements" ReflectliteType.implements_) Tryd.func142 (by kernel_rfl) (by kernel_rfl) (by kernel_rfl) (by kernel_rfl)
  have h10 := @run_callFunc_extern Tryd.prog 99 _ ReflectliteType.typeOf Tryd.func99 (by kernel_rfl) (by kernel_rfl) (by kernel_rfl) (by kernel_rfl)
  have h35 := @run_callFunc_extern Tryd.prog 139 _ (ReflectliteType.relation "AssignableTo" ReflectliteType.assignableTo) Tryd.func139 (by kernel_rfl) (by kernel_rfl) (by kernel_rfl) (by kernel_rfl)
  have h11 := @run_callFunc_extern Tryd.prog 100 _ (ReflectliteValue.method (ReflectliteValue.valueError "reflectlite.Value.Elem" 0) ReflectliteValue.elem) Tryd.func100 (by kernel_rfl) (by kernel_rfl) (by kernel_rfl) (by kernel_rfl)
  have h12 := @run_callFunc_extern Tryd.prog 101 _ ReflectliteValue.set Tryd.func101 (by kernel_rfl) (by kernel_rfl) (by kernel_rfl) (by kernel_rfl)
  have tO := asF.typeOfS
  have mA := asF.methodAssignableTo
  have a25 := asF.assignableS
  have v25 := asF.valueOfS
  have f6 := asF.valueOfP
  have f7 := asF.typeP
  have mK := asF.methodKind
  have mE := asF.methodElem
  have mI := asF.methodImplements
  have k27 := asF.kindP
  have k25 := asF.kindS
  have e27 := asF.elemP
  have i25 := asF.implementsS
  have n8 := asF.isNilP ⟨w.heap.size, 0, none⟩ ⟨X, 0, none⟩ ((w.alloc (.cells #[.pointer (some ⟨X, 0, none⟩)] 68)).alloc (.cells #[.pointer (some ⟨2, 68, none⟩), .pointer (some ⟨w.heap.size, 0, none⟩), .int .u64 150] 95)) (by simp)
  have hlt : 0 < w.heap.size := World.block_lt_of_cell? w _ hg
  have hg2 : ((w.alloc (.cells #[.pointer (some ⟨X, 0, none⟩)] 68)).alloc (.cells #[.pointer (some ⟨2, 68, none⟩), .pointer (some ⟨w.heap.size, 0, none⟩), .int .u64 150] 95)).cell? ⟨0, 0, none⟩ = some (.iface 130 (.agg #[.pointer (some ⟨2, 62, none⟩)])) := by
    rw [World.cell?_alloc_lt _ _ ⟨0, 0, none⟩ (by simp), World.cell?_alloc_lt _ _ ⟨0, 0, none⟩ hlt]; exact hg
  have htl : X < w.heap.size := World.block_lt_of_cell? w _ ht0
  have el := asF.elemV ⟨w.heap.size, 0, none⟩ ⟨X, 0, none⟩ (((w.alloc (.cells #[.pointer (some ⟨X, 0, none⟩)] 68)).alloc (.cells #[.pointer (some ⟨2, 68, none⟩), .pointer (some ⟨w.heap.size, 0, none⟩), .int .u64 150] 95)).alloc (.cells #[.pointer (some ⟨2, 68, none⟩), .pointer (some ⟨w.heap.size, 0, none⟩), .int .u64 150] 95)) (by rw [World.cell?_alloc_lt _ _ ⟨w.heap.size, 0, none⟩ (by simp; omega)]; simp)
  have st := asF.setS X (w.heap.size + 1 + 1 + 1) z old ((((w.alloc (.cells #[.pointer (some ⟨X, 0, none⟩)] 68)).alloc (.cells #[.pointer (some ⟨2, 68, none⟩), .pointer (some ⟨w.heap.size, 0, none⟩), .int .u64 150] 95)).alloc (.cells #[.pointer (some ⟨2, 68, none⟩), .pointer (some ⟨w.heap.size, 0, none⟩), .int .u64 150] 95)).alloc (.cells #[.int .i64 z] 66))
    (by rw [World.cell?_alloc_at _ _ _ _ (by simp)]; rfl)
    (by rw [World.cell?_alloc_lt _ _ ⟨X, 0, none⟩ (by simp; omega), World.cell?_alloc_lt _ _ ⟨X, 0, none⟩ (by simp; omega), World.cell?_alloc_lt _ _ ⟨X, 0, none⟩ (by simp; omega), World.cell?_alloc_lt _ _ ⟨X, 0, none⟩ htl]; exact ht0)
    (by rw [World.frozen?_alloc_old _ _ ⟨X, 0, none⟩ (by simp; omega), World.frozen?_alloc_old _ _ ⟨X, 0, none⟩ (by simp; omega), World.frozen?_alloc_old _ _ ⟨X, 0, none⟩ (by simp; omega), World.frozen?_alloc_old _ _ ⟨X, 0, none⟩ (Nat.ne_of_lt htl)]; exact hf0)
  go_enter Tryd.func47, Tryd.ntmps47
  go_wp2
  refine wp_loop_rounds 1 ?_
  rw [rounds_succ]
  go_wp2
  go_ret
  exact ⟨rfl, rfl⟩

/-- the target's own block -/
def BoxE (X : Nat) (z : Int) (w : World) : Prop := w.heap[X]? = some (.cells #[.int .i64 z] 66 (0, 0))
theorem boxE_new (w : World) (z : Int) : BoxE w.heap.size z (w.alloc (.cells #[.int .i64 z] 66)) := heap_alloc_new w _
theorem BoxE.cell {X : Nat} {z : Int} {w : World} (h : BoxE X z w) : w.cell? ⟨X, 0, none⟩ = some (.int .i64 z) := by
  unfold BoxE at h
  simp [World.cell?, h]
theorem BoxE.lt {X : Nat} {z : Int} {w : World} (h : BoxE X z w) : X < w.heap.size := (Array.getElem?_eq_some_iff.1 h).1
theorem BoxE.fz {X : Nat} {z : Int} {w : World} (h : BoxE X z w) : w.frozen? ⟨X, 0, none⟩ = false := by
  unfold BoxE at h
  simp [World.frozen?, h]
theorem BoxE.below {X : Nat} {z : Int} {w w' : World} (h : BoxE X z w) (hb : Below w.heap.size w w') : BoxE X z w' := by
  have h' := h.lt
  unfold BoxE at h ⊢
  rw [hb.block X h', h]
theorem boxE_set {X : Nat} {z y : Int} {w : World} (h : BoxE X z w) : BoxE X y (w.setCell ⟨X, 0, none⟩ (.int .i64 y)) ∧ w.grownBy (w.setCell ⟨X, 0, none⟩ (.int .i64 y)) (some X) := by
  have h0 : w.heap[X]? = some (.cells #[.int .i64 z] 66 (0, 0)) := h
  have s0 := set_cur h0 0 (.int .i64 y)
  exact ⟨s0.1, s0.2⟩
theorem as_hit (z y : Int) (X : Nat) (w : World) (hg : ET w) (hx : BoxE X y w) :
    Calls Tryd.prog 47 #[.iface 66 (.agg #[.int .i64 z]), .iface 68 (.pointer (some ⟨X, 0, none⟩))] w fun ev w' => ev = .returned (.bool true) ∧ BoxE X z w' ∧ w.grownBy w' (some X) := by
  refine (as_hitW z X _ w hg hx.cell hx.fz).mono ?_
  rintro e w' ⟨rfl, rfl⟩
  have hb := grownBy_trans (grownBy_trans (grownBy_trans (World.grownBy_alloc w (.cells #[.pointer (some ⟨X, 0, none⟩)] 68) (some X)) (World.grownBy_alloc _ (.cells #[.pointer (some ⟨2, 68, none⟩), .pointer (some ⟨w.heap.size, 0, none⟩), .int .u64 150] 95) _)) (World.grownBy_alloc _ (.cells #[.pointer (some ⟨2, 68, none⟩), .pointer (some ⟨w.heap.size, 0, none⟩), .int .u64 150] 95) _)) (World.grownBy_alloc _ (.cells #[.int .i64 z] 66) _)
  have hx' : ∀ (v : World) (o : Obj), BoxE X y v → BoxE X y (v.alloc o) := fun v o h => h.below ((Below.refl _ _).alloc (Nat.le_refl _) _)
  have h1 := hx' _ (.cells #[.int .i64 z] 66) (hx' _ (.cells #[.pointer (some ⟨2, 68, none⟩), .pointer (some ⟨w.heap.size, 0, none⟩), .int .u64 150] 95) (hx' _ (.cells #[.pointer (some ⟨2, 68, none⟩), .pointer (some ⟨w.heap.size, 0, none⟩), .int .u64 150] 95) (hx' _ (.cells #[.pointer (some ⟨X, 0, none⟩)] 68) hx)))
  obtain ⟨h2, h3⟩ := boxE_set (y := z) h1
  exact ⟨rfl, h2, grownBy_trans hb h3⟩
end Go.Proofs.YtooiinicnkhlbaaDoor.recs

namespace Go.Proofs.YtooiinicnkhlbaaDoor.recs
open Go Go.RowKit Go.Proofs.YtooiinicnkhlbaaDoor.base Go.Proofs.YtooiinicnkhlbaaDoor.pairs Go.Proofs.YtooiinicnkhlbaaDoor.ords Go.Proofs.YtooiinicnkhlbaaDoor.putnum Go.Proofs.YtooiinicnkhlbaaDoor.puttext Go.Proofs.YtooiinicnkhlbaaDoor.getnum Go.Proofs.YtooiinicnkhlbaaDoor.gettext
set_option linter.unusedVariables false
set_option linter.unusedSimpArgs false

/-- what recOf answers -/
def OfPost (w : World) (r : Option Rc) (e : Ending) (w' : World) : Prop := Below w.heap.size w w' ∧
  ((r = none ∧ ∃ k t pa n pc, e = .returned (.tuple #[.agg #[.int .i64 k, .int .i64 t, .slice pa n pc], .bool false])) ∨
    ∃ x v, r = some x ∧ e = .returned (.tuple #[.agg #[.int .i64 x.1, .int .i64 x.2.1, v], .bool true]) ∧ OwnV w' w.heap.size v x.2.2)
theorem ofPost_no {w w' : World} {r : Option Rc} {k t : Int} {pa : Option Addr} {n pc : Nat} (hr : r = none) (hb : Below w.heap.size w w') : OfPost w r (.returned (.tuple #[.agg #[.int .i64 k, .int .i64 t, .slice pa n pc], .bool false])) w' := ⟨hb, .inl ⟨hr, _, _, _, _, _, rfl⟩⟩
theorem ofPost_yes {w w' : World} {r : Option Rc} {x : Rc} {v : Value} (hr : r = some x) (hb : Below w.heap.size w w') (hv : OwnV w' w.heap.size v x.2.2) : OfPost w r (.returned (.tuple #[.agg #[.int .i64 x.1, .int .i64 x.2.1, v], .bool true])) w' := ⟨hb, .inr ⟨x, v, hr, rfl, hv⟩⟩

theorem ofPost_ok {w w' : World} {r : Option Rc} {x : Rc} {pa : Option Addr} {n pc : Nat} (hr : r = okRec x) (hb : Below w.heap.size w w') (hv : OwnV w' w.heap.size (.slice pa n pc) x.2.2) : OfPost w r (.returned (.tuple #[.agg #[.int .i64 x.1, .int .i64 x.2.1, .slice pa n pc], .bool (recOk x)])) w' := by
  cases hok : recOk x
  · exact ofPost_no (by rw [hr, okRec_no hok]) hb
  · exact ofPost_yes (by rw [hr, okRec_ok hok]) hb hv

set_option maxRecDepth 100000 in
set_option maxHeartbeats 4000000 in
theorem i_recOf (g n cp : Nat) (body : List UInt8) (w : World) (h : Sl w (some ⟨g, 0, none⟩) n body) (hcap : n ≤ cp) (hsz : n ≤ 1099511627776) :
    Calls Tryd.prog 71 #[.slice (some ⟨g, 0, none⟩) n cp] w fun e w' => OfPost w (readBody body) e w' := by
  have hl := h.1
  obtain ⟨W, hW⟩ : ∃ W, W = w.alloc (.cells #[.int .i64 0, .int .i64 0, .slice none 0 0] 26) := ⟨_, rfl⟩
  have hB : Below w.heap.size w W := by rw [hW]; exact (Below.refl _ _).alloc (Nat.le_refl _) _
  have hR : BoxR w.heap.size 0 0 (.slice none 0 0) W := by rw [hW]; exact boxR_new w 0 0 (.slice none 0 0)
  have hWz : W.heap.size = w.heap.size + 1 := by rw [hW]; simp
  have HW := Hid.mk' hW.symm
  have hSW := h.below hB
  have HG2 : Hid (∀ q : Nat, q ≤ 1099511627776 → Calls Tryd.prog 97 #[.slice (some ⟨g, 0, none⟩) n cp, .int .i64 (q : Int)] W fun e w' => e = .returned (numRet (q : Int) (getNum body (q : Int))) ∧ w' = W) := fun q hq => impl_get (some ⟨g, 0, none⟩) n cp (q : Int) body W hSW (WalkArith.wf_i64 (by omega))
  have HN1 := Hid.mk' (HG2.out 0 (by omega))
  clear hW
  obtain ⟨r0, r1, r2⟩ := hR.cells
  have f0 := hR.fz 0
  have f1 := hR.fz 1
  have f2 := hR.fz 2
  rcases hK : getNum body ((0 : Nat) : Int) with _ | ⟨kd, ka⟩
  · have HF : Hid (readBody body = none) := by show _ = _; unfold readBody; rw [show (0 : Int) = ((0 : Nat) : Int) from rfl, hK]
    rw [hK, numRet] at HN1
    rw [show ((0 : Nat) : Int) = 0 from rfl] at HN1
    obtain ⟨z, zg⟩ := boxR_set hR (.int .i64 0) (.int .i64 0) (.slice none 0 0)
    have hz : BoxR w.heap.size 0 0 (.slice none 0 0) _ := z
    have hzc := hz.cells
    have HBz := Hid.mk' (hB.grown zg hB.size (fun j e => by cases e; exact Nat.le_refl _))
    clear hK HG2
    go_enter Tryd.func71, Tryd.ntmps71
    go_wp2_with fail
    rw [HW.out]
    refine HN1.out.mono ?_
    rintro e w1 ⟨rfl, hw1⟩
    subst hw1
    go_wp2_with fail
    refine bodyPost_ret (v := .tuple #[.agg #[.int .i64 0, .int .i64 0, .slice none 0 0], .bool false]) ?_ rfl (ofPost_no HF.out HBz.out)
    simp [results, Tryd.results71, go_sem, hzc.1, hzc.2.1, hzc.2.2]
  · obtain ⟨_, hk1, hk5, hle, hn9⟩ := getNum_some hK
    simp only [Int.toNat_natCast, Nat.zero_add] at hle
    rw [hK, numRet] at HN1
    rw [show ((0 : Nat) : Int) + (ka : Int) = (ka : Int) by omega, show ((0 : Nat) : Int) = 0 from rfl] at HN1
    have HN2 := Hid.mk' (HG2.out ka (by omega))
    rcases hT : getNum body (ka : Int) with _ | ⟨tx, kb⟩
    · have HF : Hid (readBody body = none) := by show _ = _; unfold readBody; rw [show (0 : Int) = ((0 : Nat) : Int) from rfl, hK]; simp only []; rw [hT]
      rw [hT, numRet] at HN2
      obtain ⟨z, zg⟩ := boxR_set hR (.int .i64 0) (.int .i64 0) (.slice none 0 0)
      have hz : BoxR w.heap.size 0 0 (.slice none 0 0) _ := z
      have hzc := hz.cells
      have HBz := Hid.mk' (hB.grown zg hB.size (fun j e => by cases e; exact Nat.le_refl _))
      clear hK hT HG2
      go_enter Tryd.func71, Tryd.ntmps71
      go_wp2_with fail
      rw [HW.out]
      refine HN1.out.mono ?_
      rintro e w1 ⟨rfl, hw1⟩
      subst hw1
      go_wp2_with fail
      refine HN2.out.mono ?_
      rintro e w1 ⟨rfl, hw1⟩
      subst hw1
      go_wp2_with fail
      refine bodyPost_ret (v := .tuple #[.agg #[.int .i64 0, .int .i64 0, .slice none 0 0], .bool false]) ?_ rfl (ofPost_no HF.out HBz.out)
      simp [results, Tryd.results71, go_sem, hzc.1, hzc.2.1, hzc.2.2]
    · obtain ⟨_, hb1, hb5, hle2, hn2⟩ := getNum_some hT
      simp only [Int.toNat_natCast] at hle2
      rw [hT, numRet] at HN2
      rw [show (ka : Int) + (kb : Int) = ((ka + kb : Nat) : Int) by omega] at HN2
      have hb6 : Below W.heap.size W (W.alloc (.cells #[.int .i64 (kd : Int), .int .i64 (tx : Int), .slice none 0 0] 26)) := (Below.refl _ _).alloc (Nat.le_refl _) _
      have hB6 := hB.trans (hb6.mono hB.size)
      have hR6 := hR.below hb6
      have hT6 := boxR_new W (kd : Int) (tx : Int) (.slice none 0 0)
      rw [hWz] at hT6
      by_cases hend : body.length ≤ ka + kb
      · have HRB : Hid (readBody body = okRec ((kd : Int), (tx : Int), [])) := by
          show _ = _
          unfold readBody; rw [show (0 : Int) = ((0 : Nat) : Int) from rfl, hK]; simp only []; rw [hT]; simp only []; rw [if_pos hend]
        generalize hrr : ka + kb = r at *
        have hri : ¬ (r : Int) < (n : Int) := by omega
        have HRK : Hid (∀ wx, Calls Tryd.prog 14 #[.agg #[.int .i64 (kd : Int), .int .i64 (tx : Int), .slice none 0 0]] wx fun e w' => e = .returned (.bool (recOk ((kd : Int), (tx : Int), []))) ∧ Below wx.heap.size wx w') := fun wx => impl_recOk _ _ none 0 0 [] wx (slo_nil _ _) (fun p hp => absurd hp List.not_mem_nil)
        clear hK hT HG2 r0 r1 r2 f0 f1 f2 hrr
        go_enter Tryd.func71, Tryd.ntmps71
        go_wp2_with fail
        rw [HW.out]
        refine HN1.out.mono ?_
        rintro e w1 ⟨rfl, hw1⟩
        subst hw1
        go_wp2_with fail
        refine HN2.out.mono ?_
        rintro e w1 ⟨rfl, hw1⟩
        subst hw1
        go_wp2_with fail
        generalize w1.alloc (.cells #[.int .i64 (kd : Int), .int .i64 (tx : Int), .slice none 0 0] 26) = W6 at *
        obtain ⟨t0, t1, t2⟩ := hT6.cells
        obtain ⟨r0, r1, r2⟩ := hR6.cells
        have f0 := hR6.fz 0
        have f1 := hR6.fz 1
        have f2 := hR6.fz 2
        try rw [hWz]
        have hdr : Below W6.heap.size W6 W6.drew := (Below.refl _ _).drew
        go_region_with (go_at_call 14; refine (HRK.out _).mono ?_; rintro e w7 ⟨rfl, hb7⟩; have hb7 := hdr.trans (hb7.mono hdr.size); have hT7 := hT6.below hb7; have hR7 := hR6.below hb7; obtain ⟨t70, t71, t72⟩ := hT7.cells; obtain ⟨r70, r71, r72⟩ := hR7.cells; have f70 := hR7.fz 0; have f71 := hR7.fz 1; have f72 := hR7.fz 2)
        all_goals
          obtain ⟨z, zg⟩ := boxR_set hR7 (.int .i64 (kd : Int)) (.int .i64 (tx : Int)) (.slice none 0 0)
          have hz : BoxR w.heap.size (kd : Int) (tx : Int) (.slice none 0 0) _ := z
          have hzc := hz.cells
          have hB7 := hB6.trans (hb7.mono hB6.size)
          have HBz := Hid.mk' (hB7.grown zg hB7.size (fun j e => by cases e; exact Nat.le_refl _))
          go_wp2_with fail
          refine bodyPost_ret (v := .tuple #[.agg #[.int .i64 (kd : Int), .int .i64 (tx : Int), .slice none 0 0], .bool (recOk ((kd : Int), (tx : Int), []))]) ?_ rfl (ofPost_ok (x := ((kd : Int), (tx : Int), [])) HRB.out HBz.out (ownV_nil _ _))
          simp [results, Tryd.results71, go_sem, hzc.1, hzc.2.1, hzc.2.2]
      · have hri : ((ka + kb : Nat) : Int) < (n : Int) := by omega
        have HRB : Hid (readBody body = match getOps (body.drop (ka + kb)) with | none => none | some l => okRec ((kd : Int), (tx : Int), l)) := by
          show _ = _
          unfold readBody; rw [show (0 : Int) = ((0 : Nat) : Int) from rfl, hK]; simp only []; rw [hT]; simp only []; rw [if_neg hend]; rfl
        generalize hrr : ka + kb = r at *
        have hrn : r < n := by omega
        have hcr : ¬ cp = r := by omega
        have hsp := sl_part hSW r (n - r) (by omega)
        have etk : (body.drop r).take (n - r) = body.drop r := List.take_of_length_le (by simp; omega)
        rw [etk, Nat.zero_add] at hsp
        have HGO : Hid (∀ wx, Below W.heap.size W wx → Calls Tryd.prog 98 #[.slice (some ⟨g, r, none⟩) (n - r) (cp - r)] wx fun e w' => GetPost wx (getOps (body.drop r)) e w') := fun wx hx => impl_getOps (some ⟨g, r, none⟩) (n - r) (cp - r) (body.drop r) wx (hsp.below hx) (by omega) (by omega)
        rw [hWz] at hb6
        have hb6' : Below W.heap.size W (W.alloc (.cells #[.int .i64 (kd : Int), .int .i64 (tx : Int), .slice none 0 0] 26)) := (Below.refl _ _).alloc (Nat.le_refl _) _
        have HC6 := Hid.mk' (HGO.out _ hb6')
        clear hK hT HG2 r0 r1 r2 f0 f1 f2 hrr hsp etk HGO hb6'
        rcases hGo : getOps (body.drop r) with _ | ops
        · have HF : Hid (readBody body = none) := by show _ = _; rw [HRB.out, hGo]
          rw [hGo] at HC6
          clear hGo HRB
          go_enter Tryd.func71, Tryd.ntmps71
          go_wp2_with fail
          rw [HW.out]
          refine HN1.out.mono ?_
          rintro e w1 ⟨rfl, hw1⟩
          subst hw1
          go_wp2_with fail
          refine HN2.out.mono ?_
          rintro e w1 ⟨rfl, hw1⟩
          subst hw1
          go_wp2_with fail
          refine HC6.out.mono ?_
          rintro e w7 ⟨g8, n8, cp8, rfl, hO8, hb7⟩
          simp only [Option.isSome_none]
          have hT7 := hT6.below hb7
          have hR7 := hR6.below hb7
          have hB7 := hB6.trans (hb7.mono hB6.size)
          obtain ⟨u0, u1, u2⟩ := hT7.cells
          have v2 := hT7.fz 2
          have hT8 := boxR_ops hT7 (.slice (some ⟨g8, 0, none⟩) n8 cp8)
          have hR8 := hR7.grown hT8.2 (by simp)
          have hB8 := hB7.grown hT8.2 hB7.size (fun j e => by cases e; omega)
          have hTb := hT8.1
          obtain ⟨W8, hW8⟩ : ∃ W8, W8 = w7.setCell ⟨w.heap.size + 1, 2, none⟩ (.slice (some ⟨g8, 0, none⟩) n8 cp8) := ⟨_, rfl⟩
          rw [← hW8] at hTb hR8 hB8
          obtain ⟨y0, y1, y2⟩ := hTb.cells
          obtain ⟨r0, r1, r2⟩ := hR8.cells
          have f0 := hR8.fz 0
          have f1 := hR8.fz 1
          have f2 := hR8.fz 2
          have HW8 := Hid.mk' hW8.symm
          obtain ⟨z, zg⟩ := boxR_set hR8 (.int .i64 (kd : Int)) (.int .i64 (tx : Int)) (.slice (some ⟨g8, 0, none⟩) n8 cp8)
          have hz : BoxR w.heap.size (kd : Int) (tx : Int) (.slice (some ⟨g8, 0, none⟩) n8 cp8) _ := z
          have hzc := hz.cells
          have HBz := Hid.mk' (hB8.grown zg hB8.size (fun j e => by cases e; exact Nat.le_refl _))
          clear hW8 hT8 hO8 hR7 hT7 hB7 hb7
          go_wp2_with fail
          rw [HW8.out]
          go_region_with (fail)
          all_goals
            go_wp2_with fail
            refine bodyPost_ret (v := .tuple #[.agg #[.int .i64 (kd : Int), .int .i64 (tx : Int), .slice (some ⟨g8, 0, none⟩) n8 cp8], .bool false]) ?_ rfl (ofPost_no HF.out HBz.out.drew)
            simp [results, Tryd.results71, go_sem, hzc.1, hzc.2.1, hzc.2.2]
        · obtain ⟨hopk, _⟩ := getOps_some hGo
          have hkeys : Hid (∀ p ∈ ops, p.2.1.size ≤ 1099511627776) := fun p hp => by have := keyOk_size ((odOk_iff p).1 (((opsOk_iff _).1 hopk).1.1 p hp)).2.2.1; omega
          have HRC : Hid (readBody body = okRec ((kd : Int), (tx : Int), ops)) := by show _ = _; rw [HRB.out, hGo]
          rw [hGo] at HC6
          clear hGo HRB hopk
          go_enter Tryd.func71, Tryd.ntmps71
          go_wp2_with fail
          rw [HW.out]
          refine HN1.out.mono ?_
          rintro e w1 ⟨rfl, hw1⟩
          subst hw1
          go_wp2_with fail
          refine HN2.out.mono ?_
          rintro e w1 ⟨rfl, hw1⟩
          subst hw1
          go_wp2_with fail
          refine HC6.out.mono ?_
          rintro e w7 ⟨g8, n8, cp8, he8, hO8, hb7⟩
          simp only [Option.isSome_some, Option.getD_some] at he8 hO8
          subst he8
          have hT7 := hT6.below hb7
          have hR7 := hR6.below hb7
          have hB7 := hB6.trans (hb7.mono hB6.size)
          obtain ⟨u0, u1, u2⟩ := hT7.cells
          have v2 := hT7.fz 2
          have hT8 := boxR_ops hT7 (.slice (some ⟨g8, 0, none⟩) n8 cp8)
          have hR8 := hR7.grown hT8.2 (by simp)
          have hB8 := hB7.grown hT8.2 hB7.size (fun j e => by cases e; omega)
          have hTb := hT8.1
          have hs6 : (w1.alloc (.cells #[.int .i64 (kd : Int), .int .i64 (tx : Int), .slice none 0 0] 26)).heap.size = w1.heap.size + 1 := by simp
          have hg8 := hO8.lt
          have hO8' := (hO8.mono (base' := w.heap.size) (by omega)).grown hT8.2 (by simp; omega)
          obtain ⟨W8, hW8⟩ : ∃ W8, W8 = w7.setCell ⟨w.heap.size + 1, 2, none⟩ (.slice (some ⟨g8, 0, none⟩) n8 cp8) := ⟨_, rfl⟩
          rw [← hW8] at hTb hR8 hB8 hO8'
          obtain ⟨t0, t1, t2⟩ := hTb.cells
          obtain ⟨r0, r1, r2⟩ := hR8.cells
          have f0 := hR8.fz 0
          have f1 := hR8.fz 1
          have f2 := hR8.fz 2
          have HW8 := Hid.mk' hW8.symm
          have hdr : Below W8.heap.size W8 W8.drew := (Below.refl _ _).drew
          have HRK : Hid (∀ wx, Below W8.heap.size W8 wx → Calls Tryd.prog 14 #[.agg #[.int .i64 (kd : Int), .int .i64 (tx : Int), .slice (some ⟨g8, 0, none⟩) n8 cp8]] wx fun e w' => e = .returned (.bool (recOk ((kd : Int), (tx : Int), ops))) ∧ Below wx.heap.size wx w') := fun wx hx => impl_recOk (kd : Int) (tx : Int) (some ⟨g8, 0, none⟩) n8 cp8 ops wx (hO8'.below hx).sl hkeys.out
          have HOV := Hid.mk' (ownV_of hO8')
          have hg8w : w.heap.size + 1 < g8 := by omega
          clear hW8 hT8 hO8 hR7 hT7 hB7 hb7 hs6 hg8 hO8'
          go_wp2_with fail
          rw [HW8.out]
          go_region_with (go_at_call 14; refine (HRK.out _ hdr).mono ?_; rintro e w9 ⟨rfl, hb9⟩; have hb9 := hdr.trans (hb9.mono hdr.size); have hT9 := hTb.below hb9; have hR9 := hR8.below hb9; obtain ⟨t90, t91, t92⟩ := hT9.cells; obtain ⟨r90, r91, r92⟩ := hR9.cells; have f90 := hR9.fz 0; have f91 := hR9.fz 1; have f92 := hR9.fz 2)
          all_goals
            obtain ⟨z, zg⟩ := boxR_set hR9 (.int .i64 (kd : Int)) (.int .i64 (tx : Int)) (.slice (some ⟨g8, 0, none⟩) n8 cp8)
            have hz : BoxR w.heap.size (kd : Int) (tx : Int) (.slice (some ⟨g8, 0, none⟩) n8 cp8) _ := z
            have hzc := hz.cells
            have hB9 := hB8.trans (hb9.mono hB8.size)
            have HBz := Hid.mk' (hB9.grown zg hB9.size (fun j e => by cases e; exact Nat.le_refl _))
            have HOz := Hid.mk' ((HOV.out.below hb9).grown zg (.inr (by simp [Value.ownBlock]; omega)))
            go_wp2_with fail
            refine bodyPost_ret (v := .tuple #[.agg #[.int .i64 (kd : Int), .int .i64 (tx : Int), .slice (some ⟨g8, 0, none⟩) n8 cp8], .bool (recOk ((kd : Int), (tx : Int), ops))]) ?_ rfl (ofPost_ok (x := ((kd : Int), (tx : Int), ops)) HRC.out HBz.out HOz.out)
            simp [results, Tryd.results71, go_sem, hzc.1, hzc.2.1, hzc.2.2]
end Go.Proofs.YtooiinicnkhlbaaDoor.recs
