/- The program's named errors: what their variables hold, and errors.Is over them. A shard: how it stands with a transaction, and the code of it. The specification's shard: how it stands with a transaction. -/
import Derived.Test.YtggdgceglmbaiaaGreatDoorRows
import Derived.Test.YtggdgceglmbaiaaGreatDoorBund9aa
import Derived.WalkKit
import Derived.LaidEql
import Derived.LaidLaws
import Derived.Stop.Asserts
import Derived.RowKitTokens
import Derived.Test.YtggdgceglmbaiaaGreatDoorBund9ay
import Derived.Test.YtggdgceglmbaiaaGreatDoorBund9aw
namespace Go.Proofs.YtggdgceglmbaiaaGreatDoor.sent
open Go Go.RowKit Go.Extern.Stop Go.Stop Go.Extern Go.Proofs.YtggdgceglmbaiaaGreatDoor.base
set_option linter.unusedVariables false
set_option linter.unusedSimpArgs false

/-! ### the variables -/
abbrev gs : List Nat := [2, 3, 0, 1, 4]
/-- each variable of G holds an error of its own -/
structure KS (G : List Nat) (A : Nat → Addr) (W : World) : Prop where
  sub : ∀ g ∈ gs, g ∈ G
  cell : ∀ g ∈ G, W.cell? ⟨g, 0, none⟩ = some (.iface 145 (.pointer (some (A g))))
  row : ∀ g ∈ G, ∃ c t, W.heap[(A g).block]? = some (.cells c t (0, 0))
  ne : ∀ g ∈ G, ∀ k ∈ G, g ≠ k → A g ≠ A k
theorem KS.below {G : List Nat} {A : Nat → Addr} {W W' : World} (h : KS G A W) (hb : Below W.heap.size W W') : KS G A W' :=
  ⟨h.sub, fun g hg => (hb.cell (p := ⟨g, 0, none⟩) (World.block_lt_of_cell? W _ (h.cell g hg))).trans (h.cell g hg), fun g hg => by
    obtain ⟨c, t, e⟩ := h.row g hg
    exact ⟨c, t, (hb.block _ (Array.getElem?_eq_some_iff.1 e).1).trans e⟩, h.ne⟩
theorem sens {P : Program} {W : World} {nm : String} {ti tp te ts : TypeId} {ms : Array (String × TypeId)} {f : Field}
    (hi : P.underlying ti = some (.interface ms)) (hrow : ∀ u, P.typeName? 3 u = some nm → u = tp)
    (hp : P.underlying tp = some (.pointer te)) (he : P.underlying te = some (.struct #[f])) (hft : f.type = ts) (hfo : f.offset = 0) (hs : P.underlying ts = some .string) (hc : P.cellsOf te = 1) (hcs : P.cellsOf ts = 1) :
    ∀ (L : List (String × Nat × List UInt8)) (ps : List MemPlace), DataW.LaidVars P W (L.map fun x => (x.1, .iface nm (.ptr (.agg [.lit (.string x.2.2)])))) ps → ps.Nodup →
      (∀ b off, MemPlace.cell b off ∈ ps → (∃ c t, W.heap[b]? = some (.cells c t (0, 0))) ∧ ∀ u v, W.cell? ⟨b, off, none⟩ = some (.iface u v) → Value.okWide P W .any 0 u v) →
      (∀ x ∈ L, P.globalNamed x.1 = some x.2.1 ∧ (P.globals[x.2.1]?).map (·.type) = some ti) → (L.map fun x => x.2.1).Nodup →
      ∃ A : Nat → Addr, (∀ x ∈ L, W.cell? ⟨x.2.1, 0, none⟩ = some (.iface tp (.pointer (some (A x.2.1)))) ∧ (∃ c t, W.heap[(A x.2.1).block]? = some (.cells c t (0, 0))) ∧ ∀ p ∈ MemPlace.row (A x.2.1) 1, p ∈ ps) ∧
        ∀ x ∈ L, ∀ y ∈ L, x.2.1 ≠ y.2.1 → A x.2.1 ≠ A y.2.1
  | [], ps, _, _, _, _, _ => ⟨fun _ => ⟨0, 0, Option.none⟩, fun x hx => absurd hx List.not_mem_nil, fun x hx => absurd hx List.not_mem_nil⟩
  | x :: L, ps, h, hnd, hrows, hgl, hg => by
    obtain ⟨g, t, cs, fuel, p, q, hg1, ht1, hv, hd, hr, rfl⟩ := h
    obtain ⟨hg0, ht0⟩ := hgl x List.mem_cons_self
    obtain rfl := Option.some.inj (hg0.symm.trans hg1)
    obtain rfl := Option.some.inj (ht0.symm.trans ht1)
    obtain ⟨l0⟩ := cs
    have ok0 : ∀ u v, l0 = [.iface u v] → Value.okWide P W .any 0 u v := fun u v e => by
      subst e
      exact (hrows x.2.1 0 (by simp [MemPlace.row])).2 u v (by simpa using World.var?_cell hg1 hv 0)
    obtain ⟨a, s, rfl, hc0, hs0, hz0, rfl⟩ := errorString_of_trod hi hrow hp he hft hfo hs hc hcs hd ok0
    have hna := List.nodup_append.1 hnd
    have hnb := List.nodup_append.1 hna.1
    have hg' := List.nodup_cons.1 (show (x.2.1 :: L.map fun x => x.2.1).Nodup from hg)
    obtain ⟨A, hA, hN⟩ := sens hi hrow hp he hft hfo hs hc hcs L q hr hna.2.1 (fun b off hb => hrows b off (List.mem_append.2 (.inr hb))) (fun y hy => hgl y (List.mem_cons_of_mem _ hy)) hg'.2
    have hrest : ∀ y ∈ L, y.2.1 ≠ x.2.1 := fun y hy e => hg'.1 (List.mem_map.2 ⟨y, hy, e⟩)
    have hmem : MemPlace.cell a.block a.off ∈ MemPlace.row a 1 := by simp [MemPlace.row]
    have hne : ∀ y ∈ L, a ≠ A y.2.1 := fun y hy e => by
      have h0 := hmem
      rw [e] at h0
      exact hna.2.2 _ (List.mem_append.2 (.inr hmem)) _ ((hA y hy).2.2 _ h0) (by rw [e])
    refine ⟨fun k => if k = x.2.1 then a else A k, fun y hy => ?_, fun y hy z hz hyz => ?_⟩
    · rcases List.mem_cons.1 hy with rfl | hy
      · simp only [if_pos]
        exact ⟨by simpa using World.var?_cell hg1 hv 0, (hrows a.block a.off (List.mem_append.2 (.inl (List.mem_append.2 (.inr hmem))))).1, fun p hp => List.mem_append.2 (.inl (List.mem_append.2 (.inr hp)))⟩
      · simp only [if_neg (hrest y hy)]
        obtain ⟨k1, k2, k3⟩ := hA y hy
        exact ⟨k1, k2, fun p hp => List.mem_append.2 (.inr (k3 p hp))⟩
    · show (if y.2.1 = x.2.1 then a else A y.2.1) ≠ (if z.2.1 = x.2.1 then a else A z.2.1)
      rcases List.mem_cons.1 hy with ey | hy
      · rcases List.mem_cons.1 hz with ez | hz
        · exact absurd (by rw [ey, ez]) hyz
        · rw [if_pos (by rw [ey]), if_neg (hrest z hz)]
          exact hne z hz
      · rcases List.mem_cons.1 hz with ez | hz
        · rw [if_neg (hrest y hy), if_pos (by rw [ez])]
          exact fun e => hne y hy e.symm
        · rw [if_neg (hrest y hy), if_neg (hrest z hz)]
          exact hN y hy z hz hyz
theorem vars_len {H : Type} {enc : TypeId × Value → H} {P : Program} {w : World} {spare : Nat → Bool} : ∀ (ns : List String) (ds : List (DataW H)) (ps : List MemPlace), DataW.TrodVars enc P w spare ns ds ps → ds.length = ns.length
  | [], [], _, _ => rfl
  | [], _ :: _, _, h => by simp [DataW.TrodVars] at h
  | _ :: _, [], _, h => by simp [DataW.TrodVars] at h
  | n :: ns, d :: ds, ps, h => by
    obtain ⟨g, t, cs, fuel, p, q, h1, h2, h3, h4, hs, e⟩ := h
    rw [List.length_cons, List.length_cons, vars_len ns ds q hs]
theorem star : ("*" ++ "errors.errorString" : String) = "*errors.errorString" := by decide
theorem tyN (u : TypeId) (h : Tryz.prog.typeName? 3 u = some "*errors.errorString") : u = 145 :=
  typeName_ptr_named (nm := "errors.errorString") (by rw [star]; kernel_rfl) (by kernel_rfl) (by decide) u (by rw [star]; exact h)
theorem ks_of_laid {W : World} (L : List (String × Nat × List UInt8)) (h : laidMet Tryz.prog (L.map fun x => (x.1, .iface "*errors.errorString" (.ptr (.agg [.lit (.string x.2.2)])))) W)
    (hgl : ∀ x ∈ L, Tryz.prog.globalNamed x.1 = some x.2.1 ∧ (Tryz.prog.globals[x.2.1]?).map (·.type) = some 48) (hnd : (L.map fun x => x.2.1).Nodup) (hsub : ∀ g ∈ gs, g ∈ L.map fun x => x.2.1) :
    ∃ A, KS (L.map fun x => x.2.1) A W := by
  obtain ⟨ps, hv, hn, hr⟩ := h
  obtain ⟨A, hA, hN⟩ := sens (P := Tryz.prog) (W := W) Tryz.underlying48 tyN Tryz.underlying145 Tryz.underlying171 rfl rfl Tryz.underlying9 (by kernel_rfl) (by kernel_rfl) L ps hv hn hr hgl hnd
  refine ⟨A, hsub, fun g hg => ?_, fun g hg => ?_, fun g hg k hk hne => ?_⟩
  · obtain ⟨x, hx, rfl⟩ := List.mem_map.1 hg
    exact (hA x hx).1
  · obtain ⟨x, hx, rfl⟩ := List.mem_map.1 hg
    exact (hA x hx).2.1
  · obtain ⟨x, hx, rfl⟩ := List.mem_map.1 hg
    obtain ⟨y, hy, rfl⟩ := List.mem_map.1 hk
    exact hN x hx y hy hne
/-! ### errors.Is -/
theorem isTypeOf (v : Value) (w : World) : (Extern.ReflectliteType.typeOf #[.iface 145 v]).run Tryz.prog w = .ok (.iface 102 (.agg #[.pointer (some ⟨6, 145, none⟩)])) w := by kernel_rfl
theorem isComparable (w : World) : ((Extern.ReflectliteType.method fun t => do Rtype.noPackHeld "Comparable" t; (fun a => Value.bool a.comparable) <$> typeInfo t) #[.agg #[.pointer (some ⟨6, 145, none⟩)]]).run Tryz.prog w = .ok (.bool true) w := by kernel_rfl
theorem isMethodComparable (v : Value) (w : World) : (Go.method 283 102 v "Comparable").run Tryz.prog w = .ok (126, v) w := by kernel_rfl
theorem isComp : (Tryz.prog.info? 145).map (·.comparable) = some true := by kernel_rfl
theorem isSize : (Tryz.prog.info? 171).map (·.size) = some 1 := by kernel_rfl
theorem noIsE (v : Value) (xT : TypeId) (w : World) : (Instr.typeAssert (.iface 145 v) xT 104 true).run Tryz.prog w = .ok (.tuple #[.nilIface, .bool false]) w := run_typeAssert_lacksB Tryz.underlying104 (by kernel_rfl) (by kernel_rfl) v xT w
theorem noUnwrapE (v : Value) (xT : TypeId) (w : World) : (Instr.typeAssert (.iface 145 v) xT 107 true).run Tryz.prog w = .ok (.tuple #[.nilIface, .bool false]) w := run_typeAssert_lacksB Tryz.underlying107 (by kernel_rfl) (by kernel_rfl) v xT w
theorem noUnwrapsE (v : Value) (xT : TypeId) (w : World) : (Instr.typeAssert (.iface 145 v) xT 109 true).run Tryz.prog w = .ok (.tuple #[.nilIface, .bool false]) w := run_typeAssert_lacksB Tryz.underlying109 (by kernel_rfl) (by kernel_rfl) v xT w
set_option maxRecDepth 100000 in
theorem is_same (a : Addr) (w : World) :
    Calls Tryz.prog 20 #[.iface 145 (.pointer (some a)), .iface 145 (.pointer (some a))] w fun e w' => e = .returned (.bool true) ∧ w' = w := by
  obtain ⟨i, hi, hcmp⟩ := Option.map_eq_some_iff.1 isComp
  obtain ⟨j, hj, hjs⟩ := Option.map_eq_some_iff.1 isSize
  have h8 := @run_callFunc_extern Tryz.prog 41 _ Extern.ReflectliteType.typeOf Tryz.func41 (by kernel_rfl) (by kernel_rfl) (by kernel_rfl) (by kernel_rfl)
  have h32 := @run_callFunc_extern Tryz.prog 126 _ (Extern.ReflectliteType.method fun t => do Rtype.noPackHeld "Comparable" t; pure (.bool (← typeInfo t).comparable)) Tryz.func126 (by kernel_rfl) (by kernel_rfl) (by kernel_rfl) (by kernel_rfl)
  have tT := isTypeOf
  have cT := isComparable
  have mR := isMethodComparable
  have heq := run_eql_iface_ptr_same (P := Tryz.prog) w a Tryz.underlying48 Tryz.underlying145 hi hcmp hj
  go_enter Tryz.func20, Tryz.ntmps20
  go_wp2
  refine wp_loop_rounds 1 ?_
  rw [rounds_succ]
  go_wp2
  go_ret
  exact ⟨rfl, rfl⟩
set_option maxRecDepth 100000 in
theorem is_other (a b : Addr) (ca cb : Array Value) (ta tb : TypeId) (w : World) (hne : a ≠ b) (ha : w.heap[a.block]? = some (.cells ca ta (0, 0))) (hb : w.heap[b.block]? = some (.cells cb tb (0, 0))) :
    Calls Tryz.prog 20 #[.iface 145 (.pointer (some a)), .iface 145 (.pointer (some b))] w fun e w' => e = .returned (.bool false) ∧ w' = w := by
  obtain ⟨i, hi, hcmp⟩ := Option.map_eq_some_iff.1 isComp
  obtain ⟨j, hj, hjs⟩ := Option.map_eq_some_iff.1 isSize
  have h8 := @run_callFunc_extern Tryz.prog 41 _ Extern.ReflectliteType.typeOf Tryz.func41 (by kernel_rfl) (by kernel_rfl) (by kernel_rfl) (by kernel_rfl)
  have h32 := @run_callFunc_extern Tryz.prog 126 _ (Extern.ReflectliteType.method fun t => do Rtype.noPackHeld "Comparable" t; pure (.bool (← typeInfo t).comparable)) Tryz.func126 (by kernel_rfl) (by kernel_rfl) (by kernel_rfl) (by kernel_rfl)
  have tT := isTypeOf
  have cT := isComparable
  have mR := isMethodComparable
  have nE := noIsE
  have uE := noUnwrapE
  have vE := noUnwrapsE
  have heq := run_eql_iface_ptr_other (P := Tryz.prog) w Tryz.underlying48 Tryz.underlying145 hi hcmp hj (by rw [hjs]; decide) hne ha hb
  go_enter Tryz.func20, Tryz.ntmps20
  go_wp2
  refine wp_loop_rounds 1 ?_
  rw [rounds_succ]
  go_wp2
  go_ret
  exact ⟨rfl, rfl⟩
theorem is_ {G : List Nat} {A : Nat → Addr} (g k : Nat) (hg : g ∈ G) (hk : k ∈ G) (w : World) (h : KS G A w) :
    Calls Tryz.prog 20 #[.iface 145 (.pointer (some (A g))), .iface 145 (.pointer (some (A k)))] w fun e w' => e = .returned (.bool (decide (g = k))) ∧ w' = w := by
  by_cases e : g = k
  · subst e
    rw [decide_eq_true rfl]
    exact is_same _ w
  · rw [decide_eq_false e]
    obtain ⟨c1, t1, r1⟩ := h.row g hg
    obtain ⟨c2, t2, r2⟩ := h.row k hk
    exact is_other _ _ _ _ _ _ w (h.ne g hg k hk e) r1 r2
/-! ### an error that wraps one of them -/
theorem noIsR (v : Value) (xT : TypeId) (w : World) : (Instr.typeAssert (.iface 74 v) xT 104 true).run Tryz.prog w = .ok (.tuple #[.nilIface, .bool false]) w := run_typeAssert_lacksB Tryz.underlying104 (by kernel_rfl) (by kernel_rfl) v xT w
theorem hasUnwrapR (v : Value) (xT : TypeId) (w : World) : (Instr.typeAssert (.iface 74 v) xT 107 true).run Tryz.prog w = .ok (.tuple #[.iface 74 v, .bool true]) w := run_typeAssert_hasB Tryz.underlying107 (by kernel_rfl) v xT w
theorem methodUnwrap (v : Value) (w : World) : (Go.method 283 74 v "Unwrap").run Tryz.prog w = .ok (121, v) w := by kernel_rfl
set_option maxRecDepth 100000 in
theorem is_ref_same (tx : Int) (b : Addr) (w : World) :
    Calls Tryz.prog 20 #[.iface 74 (.agg #[.int .i64 tx, .iface 145 (.pointer (some b))]), .iface 145 (.pointer (some b))] w fun e w' => e = .returned (.bool true) ∧ Below w.heap.size w w' := by
  obtain ⟨i, hi, hcmp⟩ := Option.map_eq_some_iff.1 isComp
  obtain ⟨j, hj, hjs⟩ := Option.map_eq_some_iff.1 isSize
  have h8 := @run_callFunc_extern Tryz.prog 41 _ Extern.ReflectliteType.typeOf Tryz.func41 (by kernel_rfl) (by kernel_rfl) (by kernel_rfl) (by kernel_rfl)
  have h32 := @run_callFunc_extern Tryz.prog 126 _ (Extern.ReflectliteType.method fun t => do Rtype.noPackHeld "Comparable" t; pure (.bool (← typeInfo t).comparable)) Tryz.func126 (by kernel_rfl) (by kernel_rfl) (by kernel_rfl) (by kernel_rfl)
  have tT := isTypeOf
  have cT := isComparable
  have mR := isMethodComparable
  have nW := noIsR
  have uW := hasUnwrapR
  have mU := methodUnwrap
  have heq := fun w => run_eql_iface_ptr_same (P := Tryz.prog) w b Tryz.underlying48 Tryz.underlying145 hi hcmp hj
  have hty := fun w => run_eql_iface_types (P := Tryz.prog) 74 145 (.agg #[.int .i64 tx, .iface 145 (.pointer (some b))]) (.pointer (some b)) Tryz.underlying48 (by decide) w
  go_enter Tryz.func20, Tryz.ntmps20
  go_wp2
  refine wp_loop_rounds 2 ?_
  rw [rounds_succ]
  go_wp2
  rw [rounds_succ]
  go_wp2
  go_ret
  exact ⟨rfl, (Below.refl _ _).alloc (Nat.le_refl _) _⟩
end Go.Proofs.YtggdgceglmbaiaaGreatDoor.sent

namespace Go.Proofs.YtggdgceglmbaiaaGreatDoor.recs
open Go Go.RowKit Go.Proofs.YtggdgceglmbaiaaGreatDoor.base Go.Proofs.YtggdgceglmbaiaaGreatDoor.pairs Go.Proofs.YtggdgceglmbaiaaGreatDoor.ords Go.Proofs.YtggdgceglmbaiaaGreatDoor.helps Go.Proofs.YtggdgceglmbaiaaGreatDoor.help Go.Proofs.YtggdgceglmbaiaaGreatDoor.lay Go.Proofs.YtggdgceglmbaiaaGreatDoor.sent
set_option linter.unusedVariables false
set_option linter.unusedSimpArgs false

/-- which error says how it stands -/
def senOf (k : Int) : Nat := if k = 1 then 3 else if k = 2 then 0 else if k = 3 then 1 else 4
/-- the code of an error -/
def codeS (g : Nat) : Int := if g = 3 then 1 else if g = 0 then 3 else if g = 1 then 4 else if g = 2 then 5 else 2
theorem senOf_mem (k : Int) : senOf k ∈ gs := by
  unfold senOf
  split
  · decide
  · split
    · decide
    · split
      · decide
      · decide
theorem code_sen (k : Int) : codeS (senOf k) = standCode k := by
  unfold senOf standCode
  split
  · rfl
  · split
    · rfl
    · split
      · rfl
      · rfl
set_option maxRecDepth 100000 in
set_option maxHeartbeats 4000000 in
theorem codeOf_ (T : TypeId) (x : Value) (a0 a1 a2 a3 : Addr) (t0 t1 t2 t3 : Bool) (w : World)
    (HC0 : Hid (∀ wx, Below w.heap.size w wx → wx.cell? ⟨3, 0, none⟩ = some (.iface 145 (.pointer (some a0)))))
    (HC1 : Hid (∀ wx, Below w.heap.size w wx → wx.cell? ⟨0, 0, none⟩ = some (.iface 145 (.pointer (some a1)))))
    (HC2 : Hid (∀ wx, Below w.heap.size w wx → wx.cell? ⟨1, 0, none⟩ = some (.iface 145 (.pointer (some a2)))))
    (HC3 : Hid (∀ wx, Below w.heap.size w wx → wx.cell? ⟨2, 0, none⟩ = some (.iface 145 (.pointer (some a3)))))
    (H0 : Hid (∀ wx, Below w.heap.size w wx → Calls Tryz.prog 20 #[.iface T x, .iface 145 (.pointer (some a0))] wx fun e w' => e = .returned (.bool t0) ∧ Below wx.heap.size wx w'))
    (H1 : Hid (∀ wx, Below w.heap.size w wx → Calls Tryz.prog 20 #[.iface T x, .iface 145 (.pointer (some a1))] wx fun e w' => e = .returned (.bool t1) ∧ Below wx.heap.size wx w'))
    (H2 : Hid (∀ wx, Below w.heap.size w wx → Calls Tryz.prog 20 #[.iface T x, .iface 145 (.pointer (some a2))] wx fun e w' => e = .returned (.bool t2) ∧ Below wx.heap.size wx w'))
    (H3 : Hid (∀ wx, Below w.heap.size w wx → Calls Tryz.prog 20 #[.iface T x, .iface 145 (.pointer (some a3))] wx fun e w' => e = .returned (.bool t3) ∧ Below wx.heap.size wx w')) :
    Calls Tryz.prog 25 #[.iface T x] w fun e w' => e = .returned (.int .i64 (if t0 = true then 1 else if t1 = true then 3 else if t2 = true then 4 else if t3 = true then 5 else 2)) ∧ Below w.heap.size w w' := by
  have hb0 : Below w.heap.size w w := Below.refl _ _
  cases t0 with
  | true =>
    go_enter Tryz.func25, Tryz.ntmps25
    have c0 := HC0.out _ hb0
    go_wp2_with fail
    refine (H0.out _ hb0).mono ?_
    rintro e w1 ⟨rfl, hb'⟩
    have hb1 := hb0.trans (hb'.mono hb0.size)
    clear hb' c0
    go_wp2_with fail
    go_ret
    exact ⟨rfl, hb1⟩
  | false =>
    cases t1 with
    | true =>
      go_enter Tryz.func25, Tryz.ntmps25
      have c0 := HC0.out _ hb0
      go_wp2_with fail
      refine (H0.out _ hb0).mono ?_
      rintro e w1 ⟨rfl, hb'⟩
      have hb1 := hb0.trans (hb'.mono hb0.size)
      clear hb' c0
      have c1 := HC1.out _ hb1
      go_wp2_with fail
      refine (H1.out _ hb1).mono ?_
      rintro e w2 ⟨rfl, hb'⟩
      have hb2 := hb1.trans (hb'.mono hb1.size)
      clear hb' c1
      go_wp2_with fail
      go_ret
      exact ⟨rfl, hb2⟩
    | false =>
      cases t2 with
      | true =>
        go_enter Tryz.func25, Tryz.ntmps25
        have c0 := HC0.out _ hb0
        go_wp2_with fail
        refine (H0.out _ hb0).mono ?_
        rintro e w1 ⟨rfl, hb'⟩
        have hb1 := hb0.trans (hb'.mono hb0.size)
        clear hb' c0
        have c1 := HC1.out _ hb1
        go_wp2_with fail
        refine (H1.out _ hb1).mono ?_
        rintro e w2 ⟨rfl, hb'⟩
        have hb2 := hb1.trans (hb'.mono hb1.size)
        clear hb' c1
        have c2 := HC2.out _ hb2
        go_wp2_with fail
        refine (H2.out _ hb2).mono ?_
        rintro e w3 ⟨rfl, hb'⟩
        have hb3 := hb2.trans (hb'.mono hb2.size)
        clear hb' c2
        go_wp2_with fail
        go_ret
        exact ⟨rfl, hb3⟩
      | false =>
        cases t3 with
        | true =>
          go_enter Tryz.func25, Tryz.ntmps25
          have c0 := HC0.out _ hb0
          go_wp2_with fail
          refine (H0.out _ hb0).mono ?_
          rintro e w1 ⟨rfl, hb'⟩
          have hb1 := hb0.trans (hb'.mono hb0.size)
          clear hb' c0
          have c1 := HC1.out _ hb1
          go_wp2_with fail
          refine (H1.out _ hb1).mono ?_
          rintro e w2 ⟨rfl, hb'⟩
          have hb2 := hb1.trans (hb'.mono hb1.size)
          clear hb' c1
          have c2 := HC2.out _ hb2
          go_wp2_with fail
          refine (H2.out _ hb2).mono ?_
          rintro e w3 ⟨rfl, hb'⟩
          have hb3 := hb2.trans (hb'.mono hb2.size)
          clear hb' c2
          have c3 := HC3.out _ hb3
          go_wp2_with fail
          refine (H3.out _ hb3).mono ?_
          rintro e w4 ⟨rfl, hb'⟩
          have hb4 := hb3.trans (hb'.mono hb3.size)
          clear hb' c3
          go_wp2_with fail
          go_ret
          exact ⟨rfl, hb4⟩
        | false =>
          go_enter Tryz.func25, Tryz.ntmps25
          have c0 := HC0.out _ hb0
          go_wp2_with fail
          refine (H0.out _ hb0).mono ?_
          rintro e w1 ⟨rfl, hb'⟩
          have hb1 := hb0.trans (hb'.mono hb0.size)
          clear hb' c0
          have c1 := HC1.out _ hb1
          go_wp2_with fail
          refine (H1.out _ hb1).mono ?_
          rintro e w2 ⟨rfl, hb'⟩
          have hb2 := hb1.trans (hb'.mono hb1.size)
          clear hb' c1
          have c2 := HC2.out _ hb2
          go_wp2_with fail
          refine (H2.out _ hb2).mono ?_
          rintro e w3 ⟨rfl, hb'⟩
          have hb3 := hb2.trans (hb'.mono hb2.size)
          clear hb' c2
          have c3 := HC3.out _ hb3
          go_wp2_with fail
          refine (H3.out _ hb3).mono ?_
          rintro e w4 ⟨rfl, hb'⟩
          have hb4 := hb3.trans (hb'.mono hb3.size)
          clear hb' c3
          go_wp2_with fail
          go_ret
          exact ⟨rfl, hb4⟩
theorem i_codeOf (G : List Nat) (A : Nat → Addr) (g : Nat) (hg : g ∈ G) (w : World) (h : KS G A w) :
    Calls Tryz.prog 25 #[.iface 145 (.pointer (some (A g)))] w fun e w' => e = .returned (.int .i64 (codeS g)) ∧ Below w.heap.size w w' := by
  have H := fun k (hk : k ∈ gs) => Hid.mk' (fun wx (hx : Below w.heap.size w wx) => (is_ g k hg (h.sub k hk) wx (h.below hx)).mono (fun e w' (hp : e = .returned (.bool (decide (g = k))) ∧ w' = wx) => (⟨hp.1, by rw [hp.2]; exact Below.refl _ _⟩ : e = .returned (.bool (decide (g = k))) ∧ Below wx.heap.size wx w')))
  have C := fun k (hk : k ∈ gs) => Hid.mk' (fun wx (hx : Below w.heap.size w wx) => (h.below hx).cell k (h.sub k hk))
  have := codeOf_ 145 (.pointer (some (A g))) (A 3) (A 0) (A 1) (A 2) (decide (g = 3)) (decide (g = 0)) (decide (g = 1)) (decide (g = 2)) w (C _ (by decide)) (C _ (by decide)) (C _ (by decide)) (C _ (by decide)) (H _ (by decide)) (H _ (by decide)) (H _ (by decide)) (H _ (by decide))
  simp only [decide_eq_true_eq] at this
  exact this
theorem lastKind_take (tx : Int) (l : List Rc) (k : Nat) (h : k < l.length) : lastKind tx (l.take (k + 1)) = if l[k].2.1 = tx then l[k].1 else lastKind tx (l.take k) := by
  rw [List.take_succ_eq_append_getElem h, lastKind_snoc]
set_option maxRecDepth 100000 in
set_option maxHeartbeats 4000000 in
theorem i_standing (G : List Nat) (A : Nat → Addr) (la : Option Addr) (ln lc : Nat) (ma : Option Addr) (mn mc : Nat) (ha : Option Addr) (hn hc : Nat) (s : Shd) (tx : Int) (w : World) (h : SeeSh w la ln lc ma mn mc ha hn hc s) (hK : KS G A w) :
    Calls Tryz.prog 26 #[aggSh s.1 s.2.2.1 la ln lc ma mn mc ha hn hc, .int .i64 tx] w fun e w' => e = .returned (.iface 145 (.pointer (some (A (senOf (lastKind tx s.2.1)))))) ∧ Below w.heap.size w w' := by
  obtain ⟨hl, hm, hsm, hc'⟩ := id h.log
  unfold maxLen at hm
  obtain ⟨W, hW⟩ : ∃ W, w.alloc (boxSh s.1 s.2.2.1 la ln lc ma mn mc ha hn hc) = W := ⟨_, rfl⟩
  have hB : Below w.heap.size w W := by rw [← hW]; exact (Below.refl _ _).alloc (Nat.le_refl _) _
  have hbx : BoxIn w.heap.size 27 [] (shVals s.1 s.2.2.1 la ln lc ma mn mc ha hn hc) [] W := by rw [← hW]; exact boxIn_new w _ _
  have c1 := hbx.cell 1 _ rfl
  simp only [List.length_nil, Nat.zero_add] at c1
  have hlog := h.log.below hB
  have hKW := hK.below hB
  have HW := Hid.mk' hW
  rw [← hW] at c1
  have HL := Hid.mk' hl
  clear hW hl
  go_enter Tryz.func26, Tryz.ntmps26
  go_wp2_with fail
  rw [HW.out]
  clear c1 HW
  go_loopw [5, 11] (fun o i wr => ∃ k : Nat, k ≤ ln ∧ i = .int .i64 (k : Int) ∧ o = .int .i64 (lastKind tx (s.2.1.take k)) ∧ Below W.heap.size W wr) (fun _ i _ => ln - (intOf i).toNat)
  case atStart => exact ⟨0, Nat.zero_le _, rfl, rfl, Below.refl _ _⟩
  case round =>
    obtain ⟨k, hk, rfl, rfl, hb⟩ := hrel
    by_cases hlt : k < ln
    · have hltl : k < s.2.1.length := by have := HL.out; omega
      obtain ⟨b, off, e, _⟩ := hc' (by omega)
      subst e
      obtain ⟨e0, e1, pa, pl, pc, e2, _, _⟩ := (hlog.below hb).at k hltl
      have hki : (k : Int) < (ln : Int) := by omega
      have HT := Hid.mk' (lastKind_take tx s.2.1 k hltl)
      generalize s.2.1[k] = r at *
      generalize lastKind tx (s.2.1.take k) = o0 at *
      obtain ⟨r1, r2, r3⟩ := r
      simp only [] at e0 e1 e2 HT
      have HB2 := Hid.mk' (hb.alloc hb.size (.cells #[.int .i64 r1, .int .i64 r2, .slice pa pl pc] 36))
      clear hb
      by_cases h1 : r2 = tx
      · subst h1
        have f1 : (r2 == r2) = true := by simp
        have HT2 : Hid (lastKind r2 (s.2.1.take (k + 1)) = r1) := by show _ = _; rw [HT.out]; simp
        clear HT
        go_wp2_with fail
        go_roundw
        case rel => exact ⟨k + 1, by omega, by go_num, by rw [HT2.out], HB2.out⟩
        case measure => simp [intOf]; omega
      · have f1 : (r2 == tx) = false := beq_eq_false_iff_ne.2 h1
        have HT2 : Hid (lastKind tx (s.2.1.take (k + 1)) = o0) := by show _ = _; rw [HT.out]; simp [h1]
        clear HT h1
        go_wp2_with fail
        go_roundw
        case rel => exact ⟨k + 1, by omega, by go_num, by rw [HT2.out], HB2.out⟩
        case measure => simp [intOf]; omega
    · have HE : Hid (s.2.1.take k = s.2.1) := List.take_of_length_le (by have := HL.out; omega)
      have hnk : ¬ (k : Int) < (ln : Int) := by omega
      have hBz := hB.trans (hb.mono hB.size)
      have hKr := hKW.below hb
      have g0 := hKr.cell 3 (hK.sub _ (by decide))
      have g1 := hKr.cell 0 (hK.sub _ (by decide))
      have g2 := hKr.cell 1 (hK.sub _ (by decide))
      have g4 := hKr.cell 4 (hK.sub _ (by decide))
      rw [HE.out]
      clear hKr hb HE hKW hK
      obtain ⟨o0, ho0⟩ : ∃ o0, lastKind tx s.2.1 = o0 := ⟨_, rfl⟩
      rw [ho0]
      have HO := Hid.mk' ho0
      clear ho0
      by_cases k1 : o0 = 1
      · have HA : Hid (senOf o0 = 3) := by show _ = _; unfold senOf; rw [if_pos k1]
        have HG := Hid.mk' g0
        rw [show A 3 = A (senOf o0) by rw [HA.out]] at HG
        have g1' := HG.out
        subst k1
        clear g0 g1 g2 g4 HA HG
        go_wp2_with fail
        go_ret
        exact ⟨by rw [HO.out]; rfl, hBz⟩
      have b1 : (o0 == 1) = false := beq_eq_false_iff_ne.2 k1
      by_cases k2 : o0 = 2
      · have HA : Hid (senOf o0 = 0) := by show _ = _; unfold senOf; rw [if_neg k1, if_pos k2]
        have HG := Hid.mk' g1
        rw [show A 0 = A (senOf o0) by rw [HA.out]] at HG
        have g1' := HG.out
        subst k2
        clear k1 g0 g1 g2 g4 HA HG b1
        go_wp2_with fail
        go_ret
        exact ⟨by rw [HO.out]; rfl, hBz⟩
      have b2 : (o0 == 2) = false := beq_eq_false_iff_ne.2 k2
      by_cases k3 : o0 = 3
      · have HA : Hid (senOf o0 = 1) := by show _ = _; unfold senOf; rw [if_neg k1, if_neg k2, if_pos k3]
        have HG := Hid.mk' g2
        rw [show A 1 = A (senOf o0) by rw [HA.out]] at HG
        have g1' := HG.out
        subst k3
        clear k1 k2 g0 g1 g2 g4 HA HG b1 b2
        go_wp2_with fail
        go_ret
        exact ⟨by rw [HO.out]; rfl, hBz⟩
      have b3 : (o0 == 3) = false := beq_eq_false_iff_ne.2 k3
      have HA : Hid (senOf o0 = 4) := by show _ = _; unfold senOf; rw [if_neg k1, if_neg k2, if_neg k3]
      have HG := Hid.mk' g4
      rw [show A 4 = A (senOf o0) by rw [HA.out]] at HG
      have g1' := HG.out
      clear g0 g1 g2 g4 HA HG
      go_wp2_with fail
      go_ret
      exact ⟨by rw [HO.out]; rfl, hBz⟩
set_option maxRecDepth 100000 in
set_option maxHeartbeats 4000000 in
theorem impl_outcome (G : List Nat) (A : Nat → Addr) (la : Option Addr) (ln lc : Nat) (ma : Option Addr) (mn mc : Nat) (ha : Option Addr) (hn hc : Nat) (s : Shd) (tx : Int) (w : World) (h : SeeSh w la ln lc ma mn mc ha hn hc s) (hpl : PlainR w la ln) (hb : Bound s) (hK : KS G A w) :
    Calls Tryz.prog 8 #[aggSh s.1 s.2.2.1 la ln lc ma mn mc ha hn hc, .int .i64 tx] w fun e w' => e = .returned (.int .i64 (outcR s tx)) ∧ Below w.heap.size w w' := by
  obtain ⟨b1, b2, b3⟩ := SeeSh.few h hb
  obtain ⟨W, hW⟩ : ∃ W, w.alloc (boxSh s.1 s.2.2.1 la ln lc ma mn mc ha hn hc) = W := ⟨_, rfl⟩
  have hB : Below w.heap.size w W := by rw [← hW]; exact below_alloc
  have hA : BoxIn w.heap.size 27 [] (shVals s.1 s.2.2.1 la ln lc ma mn mc ha hn hc) [] W := by rw [← hW]; exact boxIn_new w _ _
  have arg : ∀ wx, Below W.heap.size W wx → wx.cell? ⟨w.heap.size, 0, none⟩ = some (.int .i64 s.1) ∧ wx.cell? ⟨w.heap.size, 1, none⟩ = some (.slice la ln lc) ∧ wx.cell? ⟨w.heap.size, 2, none⟩ = some (.int .i64 s.2.2.1) ∧ wx.cell? ⟨w.heap.size, 3, none⟩ = some (.slice ma mn mc) ∧ wx.cell? ⟨w.heap.size, 4, none⟩ = some (.slice ha hn hc) := fun wx hx => by
    have a0 := (hA.below hx).cell 0 _ rfl
    have a1 := (hA.below hx).cell 1 _ rfl
    have a2 := (hA.below hx).cell 2 _ rfl
    have a3 := (hA.below hx).cell 3 _ rfl
    have a4 := (hA.below hx).cell 4 _ rfl
    simp only [List.length_nil, Nat.zero_add] at a0 a1 a2 a3 a4
    exact ⟨a0, a1, a2, a3, a4⟩
  obtain ⟨a0, a1, a2, a3, a4⟩ := arg W (Below.refl _ _)
  have HOK := Hid.mk' (impl_shardOk la ln lc ma mn mc ha hn hc s W (h.below hB) (plain_below h.log hpl hB) hb.few (by omega) (by omega))
  have HST := Hid.mk' (fun wx (hx : Below W.heap.size W wx) => i_standing G A la ln lc ma mn mc ha hn hc s tx wx ((h.below hB).below hx) ((hK.below hB).below hx))
  have HCO := Hid.mk' (fun wx (hx : Below W.heap.size W wx) => i_codeOf G A (senOf (lastKind tx s.2.1)) (hK.sub _ (senOf_mem _)) wx ((hK.below hB).below hx))
  have HW := Hid.mk' hW
  have ARG := Hid.mk' arg
  rw [← hW] at a0 a1 a2 a3 a4
  have HRT : Hid (shardOk s = true → outc s tx = codeS (senOf (lastKind tx s.2.1))) := fun e => by rw [code_sen]; exact outc_stand ((shardOk_iff s).1 e) tx
  clear hW arg
  cases hok : shardOk s with
  | false =>
    have HR : Hid (outcR s tx = 5) := by show _ = _; unfold outcR; rw [hok]; rfl
    rw [hok] at HOK
    clear hok HRT
    go_enter Tryz.func8, Tryz.ntmps8
    go_wp2_with fail
    rw [HW.out]
    refine HOK.out.mono ?_
    rintro e w1 ⟨rfl, hb1⟩
    clear a0 a1 a2 a3 a4 HOK HW
    go_wp2_with fail
    go_ret
    rw [HR.out]
    exact ⟨rfl, hB.trans (hb1.mono hB.size)⟩
  | true =>
    have HR : Hid (outcR s tx = codeS (senOf (lastKind tx s.2.1))) := by show _ = _; unfold outcR; rw [hok, if_pos rfl]; exact HRT.out hok
    rw [hok] at HOK
    clear hok HRT
    generalize codeS (senOf (lastKind tx s.2.1)) = cc at *
    generalize senOf (lastKind tx s.2.1) = sg at *
    go_enter Tryz.func8, Tryz.ntmps8
    go_wp2_with fail
    rw [HW.out]
    refine HOK.out.mono ?_
    rintro e w1 ⟨rfl, hb1⟩
    clear a0 a1 a2 a3 a4 HOK HW
    obtain ⟨a0, a1, a2, a3, a4⟩ := ARG.out w1 hb1
    go_wp2_with fail
    refine (HST.out _ hb1).mono ?_
    rintro e w2 ⟨rfl, hb2'⟩
    have hb2 := hb1.trans (hb2'.mono hb1.size)
    clear a0 a1 a2 a3 a4 hb2' HST
    go_wp2_with fail
    refine (HCO.out _ hb2).mono ?_
    rintro e w3 ⟨rfl, hb3⟩
    have hb4 := hb2.trans (hb3.mono hb2.size)
    clear HCO hb3
    go_wp2_with fail
    go_ret
    rw [HR.out]
    exact ⟨rfl, hB.trans (hb4.mono hB.size)⟩
end Go.Proofs.YtggdgceglmbaiaaGreatDoor.recs

namespace Go.Proofs.YtggdgceglmbaiaaGreatDoor.recs
open Go Go.RowKit Go.Proofs.YtggdgceglmbaiaaGreatDoor.base Go.Proofs.YtggdgceglmbaiaaGreatDoor.pairs Go.Proofs.YtggdgceglmbaiaaGreatDoor.ords Go.Proofs.YtggdgceglmbaiaaGreatDoor.helps Go.Proofs.YtggdgceglmbaiaaGreatDoor.help Go.Proofs.YtggdgceglmbaiaaGreatDoor.lay
set_option linter.unusedVariables false
set_option linter.unusedSimpArgs false

end Go.Proofs.YtggdgceglmbaiaaGreatDoor.recs
