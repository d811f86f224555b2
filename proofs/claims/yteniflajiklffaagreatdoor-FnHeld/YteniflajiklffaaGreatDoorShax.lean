/- The program's named errors: what their variables hold, and errors.Is over them. A shard: how it stands with a transaction, and the code of it. The program's shard: how many keys are held, how much room there is. The program's shard: copies of records. The program's shard holds a transaction. -/
import Derived.Test.YteniflajiklffaaGreatDoorRows
import Derived.Test.YteniflajiklffaaGreatDoorShaa
import Derived.WalkKit
import Derived.LaidEql
import Derived.LaidLaws
import Derived.Stop.Asserts
import Derived.RowKitTokens
import Derived.Test.YteniflajiklffaaGreatDoorShav
namespace Go.Proofs.YteniflajiklffaaGreatDoor.sent
open Go Go.RowKit Go.Extern.Stop Go.Stop Go.Extern Go.Proofs.YteniflajiklffaaGreatDoor.base
set_option linter.unusedVariables false
set_option linter.unusedSimpArgs false

/-! ### the variables -/
abbrev gs : List Nat := [2, 6, 0, 1, 3]
structure KS (G : List Nat) (A : Nat → Addr) (W : World) : Prop where
  sub : ∀ g ∈ gs, g ∈ G
  cell : ∀ g ∈ G, W.cell? ⟨g, 0, none⟩ = some (.iface 180 (.pointer (some (A g))))
  row : ∀ g ∈ G, ∃ c t, W.heap[(A g).block]? = some (.cells c t (0, 0))
  ne : ∀ g ∈ G, ∀ k ∈ G, g ≠ k → A g ≠ A k
theorem KS.below {G : List Nat} {A : Nat → Addr} {W W' : World} (h : KS G A W) (hb : Below W.heap.size W W') : KS G A W' :=
  ⟨h.sub, fun g hg => (hb.cell (p := ⟨g, 0, none⟩) (World.block_lt_of_cell? W _ (h.cell g hg))).trans (h.cell g hg), fun g hg => by
    obtain ⟨c, t, e⟩ := h.row g hg
    exact ⟨c, t, (hb.block _ (Array.getElem?_eq_some_iff.1 e).1).trans e⟩, h.ne⟩
theorem sens {P : Program} {W : World} {nm : String} {ti tp te ts : TypeId} {ms : Array (String × TypeId)} {f : Field}
    (hi : P.underlying ti = some (.interface ms)) (hrow : ∀ u, P.typeName? 3 u = some nm → u = tp)
    (hp : P.underlying tp = some (.pointer te)) (he : P.underlying te = some (.struct #[f])) (hft : f.type = ts) (hfo : f.offset = 0) (hs : P.underlying ts = some .string) (hc : P.cellsOf te = 1) (hcs : P.cellsOf ts = 1) :
    ∀ (L : List (String × Nat × List UInt8)) (ps : List MemPlace), DataW.LaidVars P W (L.map fun x => (x.1, .iface nm (.ptr (.agg [.lit (.string x.2.2)])))) ps → ps.Nodup →
      (∀ b off, MemPlace.cell b off ∈ ps → (∃ c t, W.heap[b]? = some (.cells c t (0, 0))) ∧ ∀ u v, W.cell? ⟨b, off, none⟩ = some (.iface u v) → Value.okWide P W .any 0 u v) →
      (∀ x ∈ L, P.globalNamed x.1 = some x.2.1 ∧ (P.globals[x.2.1]?).map (·.type) = some ti) → (L.map fun x => x.2.1).Nodup →
      ∃ A : Nat → Addr, (∀ x ∈ L, W.cell? ⟨x.2.1, 0, none⟩ = some (.iface tp (.pointer (some (A x.2.1)))) ∧ (∃ c t, W.heap[(A x.2.1).block]? = some (.cells c t (0, 0))) ∧ ∀ p ∈ MemPlace.row (A x.2.1) 1, p ∈ ps) ∧
        ∀ x ∈ L, ∀ y ∈ L, x.2.1 ≠ y.2.1 → A x.2.1 ≠ A y.2.1
  | [], ps, _, _, _, _, _ => ⟨fun _ => ⟨0, 0, Option.none⟩, fun x hx => absurd hx List.not_mem_nil, fun x hx => absurd hx List.not_mem_nil⟩
  | x :: L, ps, h, hnd, hrows, hgl, hg => by
    obtain ⟨g, t, cs, fuel, p, q, hg1, ht1, hv, hd, hr, rfl⟩ := h
    obtain ⟨hg0, ht0⟩ := hgl x List.mem_cons_self
    obtain rfl := Option.some.inj (hg0.symm.trans hg1)
    obtain rfl := Option.some.inj (ht0.symm.trans ht1)
    obtain ⟨l0⟩ := cs
    have ok0 : ∀ u v, l0 = [.iface u v] → Value.okWide P W .any 0 u v := fun u v e => by
      subst e
      exact (hrows x.2.1 0 (by simp [MemPlace.row])).2 u v (by simpa using World.var?_cell hg1 hv 0)
    obtain ⟨a, s, rfl, hc0, hs0, hz0, rfl⟩ := errorString_of_trod hi hrow hp he hft hfo hs hc hcs hd ok0
    have hna := List.nodup_append.1 hnd
    have hnb := List.nodup_append.1 hna.1
    have hg' := List.nodup_cons.1 (show (x.2.1 :: L.map fun x => x.2.1).Nodup from hg)
    obtain ⟨A, hA, hN⟩ := sens hi hrow hp he hft hfo hs hc hcs L q hr hna.2.1 (fun b off hb => hrows b off (List.mem_append.2 (.inr hb))) (fun y hy => hgl y (List.mem_cons_of_mem _ hy)) hg'.2
    have hrest : ∀ y ∈ L, y.2.1 ≠ x.2.1 := fun y hy e => hg'.1 (List.mem_map.2 ⟨y, hy, e⟩)
    have hmem : MemPlace.cell a.block a.off ∈ MemPlace.row a 1 := by simp [MemPlace.row]
    have hne : ∀ y ∈ L, a ≠ A y.2.1 := fun y hy e => by
      have h0 := hmem
      rw [e] at h0
      exact hna.2.2 _ (List.mem_append.2 (.inr hmem)) _ ((hA y hy).2.2 _ h0) (by rw [e])
    refine ⟨fun k => if k = x.2.1 then a else A k, fun y hy => ?_, fun y hy z hz hyz => ?_⟩
    · rcases List.mem_cons.1 hy with rfl | hy
      · simp only [if_pos]
        exact ⟨by simpa using World.var?_cell hg1 hv 0, (hrows a.block a.off (List.mem_append.2 (.inl (List.mem_append.2 (.inr hmem))))).1, fun p hp => List.mem_append.2 (.inl (List.mem_append.2 (.inr hp)))⟩
      · simp only [if_neg (hrest y hy)]
        obtain ⟨k1, k2, k3⟩ := hA y hy
        exact ⟨k1, k2, fun p hp => List.mem_append.2 (.inr (k3 p hp))⟩
    · show (if y.2.1 = x.2.1 then a else A y.2.1) ≠ (if z.2.1 = x.2.1 then a else A z.2.1)
      rcases List.mem_cons.1 hy with ey | hy
      · rcases List.mem_cons.1 hz with ez | hz
        · exact absurd (by rw [ey, ez]) hyz
        · rw [if_pos (by rw [ey]), if_neg (hrest z hz)]
          exact hne z hz
      · rcases List.mem_cons.1 hz with ez | hz
        · rw [if_neg (hrest y hy), if_pos (by rw [ez])]
          exact fun e => hne y hy e.symm
        · rw [if_neg (hrest y hy), if_neg (hrest z hz)]
          exact hN y hy z hz hyz
theorem vars_len {H : Type} {enc : TypeId × Value → H} {P : Program} {w : World} {spare : Nat → Bool} : ∀ (ns : List String) (ds : List (DataW H)) (ps : List MemPlace), DataW.TrodVars enc P w spare ns ds ps → ds.length = ns.length
  | [], [], _, _ => rfl
  | [], _ :: _, _, h => by simp [DataW.TrodVars] at h
  | _ :: _, [], _, h => by simp [DataW.TrodVars] at h
  | n :: ns, d :: ds, ps, h => by
    obtain ⟨g, t, cs, fuel, p, q, h1, h2, h3, h4, hs, e⟩ := h
    rw [List.length_cons, List.length_cons, vars_len ns ds q hs]
theorem star : ("*" ++ "errors.errorString" : String) = "*errors.errorString" := by decide
theorem tyN (u : TypeId) (h : Tryz.prog.typeName? 3 u = some "*errors.errorString") : u = 180 :=
  typeName_ptr_named (nm := "errors.errorString") (by rw [star]; kernel_rfl) (by kernel_rfl) (by decide) u (by rw [star]; exact h)
theorem ks_of_laid {W : World} (L : List (String × Nat × List UInt8)) (h : laidMet Tryz.prog (L.map fun x => (x.1, .iface "*errors.errorString" (.ptr (.agg [.lit (.string x.2.2)])))) W)
    (hgl : ∀ x ∈ L, Tryz.prog.globalNamed x.1 = some x.2.1 ∧ (Tryz.prog.globals[x.2.1]?).map (·.type) = some 65) (hnd : (L.map fun x => x.2.1).Nodup) (hsub : ∀ g ∈ gs, g ∈ L.map fun x => x.2.1) :
    ∃ A, KS (L.map fun x => x.2.1) A W := by
  obtain ⟨ps, hv, hn, hr⟩ := h
  obtain ⟨A, hA, hN⟩ := sens (P := Tryz.prog) (W := W) Tryz.underlying65 tyN Tryz.underlying180 Tryz.underlying206 rfl rfl Tryz.underlying9 (by kernel_rfl) (by kernel_rfl) L ps hv hn hr hgl hnd
  refine ⟨A, hsub, fun g hg => ?_, fun g hg => ?_, fun g hg k hk hne => ?_⟩
  · obtain ⟨x, hx, rfl⟩ := List.mem_map.1 hg
    exact (hA x hx).1
  · obtain ⟨x, hx, rfl⟩ := List.mem_map.1 hg
    exact (hA x hx).2.1
  · obtain ⟨x, hx, rfl⟩ := List.mem_map.1 hg
    obtain ⟨y, hy, rfl⟩ := List.mem_map.1 hk
    exact hN x hx y hy hne
/-! ### errors.Is -/
theorem isTypeOf (v : Value) (w : World) : (Extern.ReflectliteType.typeOf #[.iface 180 v]).run Tryz.prog w = .ok (.iface 159 (.agg #[.pointer (some ⟨7, 180, none⟩)])) w := by kernel_rfl
theorem isComparable (w : World) : ((Extern.ReflectliteType.method fun t => do Rtype.noPackHeld "Comparable" t; (fun a => Value.bool a.comparable) <$> typeInfo t) #[.agg #[.pointer (some ⟨7, 180, none⟩)]]).run Tryz.prog w = .ok (.bool true) w := by kernel_rfl
theorem isMethodComparable (v : Value) (w : World) : (Go.method 318 159 v "Comparable").run Tryz.prog w = .ok (163, v) w := by kernel_rfl
theorem isComp : (Tryz.prog.info? 180).map (·.comparable) = some true := by kernel_rfl
theorem isSize : (Tryz.prog.info? 206).map (·.size) = some 1 := by kernel_rfl
theorem noIsE (v : Value) (xT : TypeId) (w : World) : (Instr.typeAssert (.iface 180 v) xT 161 true).run Tryz.prog w = .ok (.tuple #[.nilIface, .bool false]) w := run_typeAssert_lacksB Tryz.underlying161 (by kernel_rfl) (by kernel_rfl) v xT w
theorem noUnwrapE (v : Value) (xT : TypeId) (w : World) : (Instr.typeAssert (.iface 180 v) xT 164 true).run Tryz.prog w = .ok (.tuple #[.nilIface, .bool false]) w := run_typeAssert_lacksB Tryz.underlying164 (by kernel_rfl) (by kernel_rfl) v xT w
theorem noUnwrapsE (v : Value) (xT : TypeId) (w : World) : (Instr.typeAssert (.iface 180 v) xT 166 true).run Tryz.prog w = .ok (.tuple #[.nilIface, .bool false]) w := run_typeAssert_lacksB Tryz.underlying166 (by kernel_rfl) (by kernel_rfl) v xT w
set_option maxRecDepth 100000 in
theorem is_same (a : Addr) (w : World) :
    Calls Tryz.prog 47 #[.iface 180 (.pointer (some a)), .iface 180 (.pointer (some a))] w fun e w' => e = .returned (.bool true) ∧ w' = w := by
  obtain ⟨i, hi, hcmp⟩ := Option.map_eq_some_iff.1 isComp
  obtain ⟨j, hj, hjs⟩ := Option.map_eq_some_iff.1 isSize
  have h8 := @run_callFunc_extern Tryz.prog 94 _ Extern.ReflectliteType.typeOf Tryz.func94 (by kernel_rfl) (by kernel_rfl) (by kernel_rfl) (by kernel_rfl)
  have h32 := @run_callFunc_extern Tryz.prog 163 _ (Extern.ReflectliteType.method fun t => do Rtype.noPackHeld "Comparable" t; pure (.bool (← typeInfo t).comparable)) Tryz.func163 (by kernel_rfl) (by kernel_rfl) (by kernel_rfl) (by kernel_rfl)
  have tT := isTypeOf
  have cT := isComparable
  have mR := isMethodComparable
  have heq := run_eql_iface_ptr_same (P := Tryz.prog) w a Tryz.underlying65 Tryz.underlying180 hi hcmp hj
  go_enter Tryz.func47, Tryz.ntmps47
  go_wp2
  refine wp_loop_rounds 1 ?_
  rw [rounds_succ]
  go_wp2
  go_ret
  exact ⟨rfl, rfl⟩
set_option maxRecDepth 100000 in
theorem is_other (a b : Addr) (ca cb : Array Value) (ta tb : TypeId) (w : World) (hne : a ≠ b) (ha : w.heap[a.block]? = some (.cells ca ta (0, 0))) (hb : w.heap[b.block]? = some (.cells cb tb (0, 0))) :
    Calls Tryz.prog 47 #[.iface 180 (.pointer (some a)), .iface 180 (.pointer (some b))] w fun e w' => e = .returned (.bool false) ∧ w' = w := by
  obtain ⟨i, hi, hcmp⟩ := Option.map_eq_some_iff.1 isComp
  obtain ⟨j, hj, hjs⟩ := Option.map_eq_some_iff.1 isSize
  have h8 := @run_callFunc_extern Tryz.prog 94 _ Extern.ReflectliteType.typeOf Tryz.func94 (by kernel_rfl) (by kernel_rfl) (by kernel_rfl) (by kernel_rfl)
  have h32 := @run_callFunc_extern Tryz.prog 163 _ (Extern.ReflectliteType.method fun t => do Rtype.noPackHeld "Comparable" t; pure (.bool (← typeInfo t).comparable)) Tryz.func163 (by kernel_rfl) (by kernel_rfl) (by kernel_rfl) (by kernel_rfl)
  have tT := isTypeOf
  have cT := isComparable
  have mR := isMethodComparable
  have nE := noIsE
  have uE := noUnwrapE
  have vE := noUnwrapsE
  have heq := run_eql_iface_ptr_other (P := Tryz.prog) w Tryz.underlying65 Tryz.underlying180 hi hcmp hj (by rw [hjs]; decide) hne ha hb
  go_enter Tryz.func47, Tryz.ntmps47
  go_wp2
  refine wp_loop_rounds 1 ?_
  rw [rounds_succ]
  go_wp2
  go_ret
  exact ⟨rfl, rfl⟩
theorem is_ {G : List Nat} {A : Nat → Addr} (g k : Nat) (hg : g ∈ G) (hk : k ∈ G) (w : World) (h : KS G A w) :
    Calls Tryz.prog 47 #[.iface 180 (.pointer (some (A g))), .iface 180 (.pointer (some (A k)))] w fun e w' => e = .returned (.bool (decide (g = k))) ∧ w' = w := by
  by_cases e : g = k
  · subst e
    rw [decide_eq_true rfl]
    exact is_same _ w
  · rw [decide_eq_false e]
    obtain ⟨c1, t1, r1⟩ := h.row g hg
    obtain ⟨c2, t2, r2⟩ := h.row k hk
    exact is_other _ _ _ _ _ _ w (h.ne g hg k hk e) r1 r2
/-! ### an error that wraps one of them -/
theorem noIsR (v : Value) (xT : TypeId) (w : World) : (Instr.typeAssert (.iface 107 v) xT 161 true).run Tryz.prog w = .ok (.tuple #[.nilIface, .bool false]) w := run_typeAssert_lacksB Tryz.underlying161 (by kernel_rfl) (by kernel_rfl) v xT w
theorem hasUnwrapR (v : Value) (xT : TypeId) (w : World) : (Instr.typeAssert (.iface 107 v) xT 164 true).run Tryz.prog w = .ok (.tuple #[.iface 107 v, .bool true]) w := run_typeAssert_hasB Tryz.underlying164 (by kernel_rfl) v xT w
theorem methodUnwrap (v : Value) (w : World) : (Go.method 318 107 v "Unwrap").run Tryz.prog w = .ok (158, v) w := by kernel_rfl
set_option maxRecDepth 100000 in
theorem is_ref_same (tx : Int) (b : Addr) (w : World) :
    Calls Tryz.prog 47 #[.iface 107 (.agg #[.int .i64 tx, .iface 180 (.pointer (some b))]), .iface 180 (.pointer (some b))] w fun e w' => e = .returned (.bool true) ∧ Below w.heap.size w w' := by
  obtain ⟨i, hi, hcmp⟩ := Option.map_eq_some_iff.1 isComp
  obtain ⟨j, hj, hjs⟩ := Option.map_eq_some_iff.1 isSize
  have h8 := @run_callFunc_extern Tryz.prog 94 _ Extern.ReflectliteType.typeOf Tryz.func94 (by kernel_rfl) (by kernel_rfl) (by kernel_rfl) (by kernel_rfl)
  have h32 := @run_callFunc_extern Tryz.prog 163 _ (Extern.ReflectliteType.method fun t => do Rtype.noPackHeld "Comparable" t; pure (.bool (← typeInfo t).comparable)) Tryz.func163 (by kernel_rfl) (by kernel_rfl) (by kernel_rfl) (by kernel_rfl)
  have tT := isTypeOf
  have cT := isComparable
  have mR := isMethodComparable
  have nW := noIsR
  have uW := hasUnwrapR
  have mU := methodUnwrap
  have heq := fun w => run_eql_iface_ptr_same (P := Tryz.prog) w b Tryz.underlying65 Tryz.underlying180 hi hcmp hj
  have hty := fun w => run_eql_iface_types (P := Tryz.prog) 107 180 (.agg #[.int .i64 tx, .iface 180 (.pointer (some b))]) (.pointer (some b)) Tryz.underlying65 (by decide) w
  go_enter Tryz.func47, Tryz.ntmps47
  go_wp2
  refine wp_loop_rounds 2 ?_
  rw [rounds_succ]
  go_wp2
  rw [rounds_succ]
  go_wp2
  go_ret
  exact ⟨rfl, (Below.refl _ _).alloc (Nat.le_refl _) _⟩
end Go.Proofs.YteniflajiklffaaGreatDoor.sent

namespace Go.Proofs.YteniflajiklffaaGreatDoor.recs
open Go Go.RowKit Go.Proofs.YteniflajiklffaaGreatDoor.base Go.Proofs.YteniflajiklffaaGreatDoor.pairs Go.Proofs.YteniflajiklffaaGreatDoor.ords Go.Proofs.YteniflajiklffaaGreatDoor.helps Go.Proofs.YteniflajiklffaaGreatDoor.help Go.Proofs.YteniflajiklffaaGreatDoor.lay Go.Proofs.YteniflajiklffaaGreatDoor.sent
set_option linter.unusedVariables false
set_option linter.unusedSimpArgs false

def senOf (k : Int) : Nat := if k = 1 then 6 else if k = 2 then 0 else if k = 3 then 1 else 3
def codeS (g : Nat) : Int := if g = 6 then 1 else if g = 0 then 3 else if g = 1 then 4 else if g = 2 then 5 else 2
theorem senOf_mem (k : Int) : senOf k ∈ gs := by
  unfold senOf
  split
  · decide
  · split
    · decide
    · split
      · decide
      · decide
theorem code_sen (k : Int) : codeS (senOf k) = standCode k := by
  unfold senOf standCode
  split
  · rfl
  · split
    · rfl
    · split
      · rfl
      · rfl
set_option maxRecDepth 100000 in
set_option maxHeartbeats 4000000 in
theorem codeOf_ (T : TypeId) (x : Value) (a0 a1 a2 a3 : Addr) (t0 t1 t2 t3 : Bool) (w : World)
    (HC0 : Hid (∀ wx, Below w.heap.size w wx → wx.cell? ⟨6, 0, none⟩ = some (.iface 180 (.pointer (some a0)))))
    (HC1 : Hid (∀ wx, Below w.heap.size w wx → wx.cell? ⟨0, 0, none⟩ = some (.iface 180 (.pointer (some a1)))))
    (HC2 : Hid (∀ wx, Below w.heap.size w wx → wx.cell? ⟨1, 0, none⟩ = some (.iface 180 (.pointer (some a2)))))
    (HC3 : Hid (∀ wx, Below w.heap.size w wx → wx.cell? ⟨2, 0, none⟩ = some (.iface 180 (.pointer (some a3)))))
    (H0 : Hid (∀ wx, Below w.heap.size w wx → Calls Tryz.prog 47 #[.iface T x, .iface 180 (.pointer (some a0))] wx fun e w' => e = .returned (.bool t0) ∧ Below wx.heap.size wx w'))
    (H1 : Hid (∀ wx, Below w.heap.size w wx → Calls Tryz.prog 47 #[.iface T x, .iface 180 (.pointer (some a1))] wx fun e w' => e = .returned (.bool t1) ∧ Below wx.heap.size wx w'))
    (H2 : Hid (∀ wx, Below w.heap.size w wx → Calls Tryz.prog 47 #[.iface T x, .iface 180 (.pointer (some a2))] wx fun e w' => e = .returned (.bool t2) ∧ Below wx.heap.size wx w'))
    (H3 : Hid (∀ wx, Below w.heap.size w wx → Calls Tryz.prog 47 #[.iface T x, .iface 180 (.pointer (some a3))] wx fun e w' => e = .returned (.bool t3) ∧ Below wx.heap.size wx w')) :
    Calls Tryz.prog 34 #[.iface T x] w fun e w' => e = .returned (.int .i64 (if t0 = true then 1 else if t1 = true then 3 else if t2 = true then 4 else if t3 = true then 5 else 2)) ∧ Below w.heap.size w w' := by
  have hb0 : Below w.heap.size w w := Below.refl _ _
  cases t0 with
  | true =>
    go_enter Tryz.func34, Tryz.ntmps34
    have c0 := HC0.out _ hb0
    go_wp2_with fail
    refine (H0.out _ hb0).mono ?_
    rintro e w1 ⟨rfl, hb'⟩
    have hb1 := hb0.trans (hb'.mono hb0.size)
    clear hb' c0
    go_wp2_with fail
    go_ret
    exact ⟨rfl, hb1⟩
  | false =>
    cases t1 with
    | true =>
      go_enter Tryz.func34, Tryz.ntmps34
      have c0 := HC0.out _ hb0
      go_wp2_with fail
      refine (H0.out _ hb0).mono ?_
      rintro e w1 ⟨rfl, hb'⟩
      have hb1 := hb0.trans (hb'.mono hb0.size)
      clear hb' c0
      have c1 := HC1.out _ hb1
      go_wp2_with fail
      refine (H1.out _ hb1).mono ?_
      rintro e w2 ⟨rfl, hb'⟩
      have hb2 := hb1.trans (hb'.mono hb1.size)
      clear hb' c1
      go_wp2_with fail
      go_ret
      exact ⟨rfl, hb2⟩
    | false =>
      cases t2 with
      | true =>
        go_enter Tryz.func34, Tryz.ntmps34
        have c0 := HC0.out _ hb0
        go_wp2_with fail
        refine (H0.out _ hb0).mono ?_
        rintro e w1 ⟨rfl, hb'⟩
        have hb1 := hb0.trans (hb'.mono hb0.size)
        clear hb' c0
        have c1 := HC1.out _ hb1
        go_wp2_with fail
        refine (H1.out _ hb1).mono ?_
        rintro e w2 ⟨rfl, hb'⟩
        have hb2 := hb1.trans (hb'.mono hb1.size)
        clear hb' c1
        have c2 := HC2.out _ hb2
        go_wp2_with fail
        refine (H2.out _ hb2).mono ?_
        rintro e w3 ⟨rfl, hb'⟩
        have hb3 := hb2.trans (hb'.mono hb2.size)
        clear hb' c2
        go_wp2_with fail
        go_ret
        exact ⟨rfl, hb3⟩
      | false =>
        cases t3 with
        | true =>
          go_enter Tryz.func34, Tryz.ntmps34
          have c0 := HC0.out _ hb0
          go_wp2_with fail
          refine (H0.out _ hb0).mono ?_
          rintro e w1 ⟨rfl, hb'⟩
          have hb1 := hb0.trans (hb'.mono hb0.size)
          clear hb' c0
          have c1 := HC1.out _ hb1
          go_wp2_with fail
          refine (H1.out _ hb1).mono ?_
          rintro e w2 ⟨rfl, hb'⟩
          have hb2 := hb1.trans (hb'.mono hb1.size)
          clear hb' c1
          have c2 := HC2.out _ hb2
          go_wp2_with fail
          refine (H2.out _ hb2).mono ?_
          rintro e w3 ⟨rfl, hb'⟩
          have hb3 := hb2.trans (hb'.mono hb2.size)
          clear hb' c2
          have c3 := HC3.out _ hb3
          go_wp2_with fail
          refine (H3.out _ hb3).mono ?_
          rintro e w4 ⟨rfl, hb'⟩
          have hb4 := hb3.trans (hb'.mono hb3.size)
          clear hb' c3
          go_wp2_with fail
          go_ret
          exact ⟨rfl, hb4⟩
        | false =>
          go_enter Tryz.func34, Tryz.ntmps34
          have c0 := HC0.out _ hb0
          go_wp2_with fail
          refine (H0.out _ hb0).mono ?_
          rintro e w1 ⟨rfl, hb'⟩
          have hb1 := hb0.trans (hb'.mono hb0.size)
          clear hb' c0
          have c1 := HC1.out _ hb1
          go_wp2_with fail
          refine (H1.out _ hb1).mono ?_
          rintro e w2 ⟨rfl, hb'⟩
          have hb2 := hb1.trans (hb'.mono hb1.size)
          clear hb' c1
          have c2 := HC2.out _ hb2
          go_wp2_with fail
          refine (H2.out _ hb2).mono ?_
          rintro e w3 ⟨rfl, hb'⟩
          have hb3 := hb2.trans (hb'.mono hb2.size)
          clear hb' c2
          have c3 := HC3.out _ hb3
          go_wp2_with fail
          refine (H3.out _ hb3).mono ?_
          rintro e w4 ⟨rfl, hb'⟩
          have hb4 := hb3.trans (hb'.mono hb3.size)
          clear hb' c3
          go_wp2_with fail
          go_ret
          exact ⟨rfl, hb4⟩
theorem i_codeOf (G : List Nat) (A : Nat → Addr) (g : Nat) (hg : g ∈ G) (w : World) (h : KS G A w) :
    Calls Tryz.prog 34 #[.iface 180 (.pointer (some (A g)))] w fun e w' => e = .returned (.int .i64 (codeS g)) ∧ Below w.heap.size w w' := by
  have H := fun k (hk : k ∈ gs) => Hid.mk' (fun wx (hx : Below w.heap.size w wx) => (is_ g k hg (h.sub k hk) wx (h.below hx)).mono (fun e w' (hp : e = .returned (.bool (decide (g = k))) ∧ w' = wx) => (⟨hp.1, by rw [hp.2]; exact Below.refl _ _⟩ : e = .returned (.bool (decide (g = k))) ∧ Below wx.heap.size wx w')))
  have C := fun k (hk : k ∈ gs) => Hid.mk' (fun wx (hx : Below w.heap.size w wx) => (h.below hx).cell k (h.sub k hk))
  have := codeOf_ 180 (.pointer (some (A g))) (A 6) (A 0) (A 1) (A 2) (decide (g = 6)) (decide (g = 0)) (decide (g = 1)) (decide (g = 2)) w (C _ (by decide)) (C _ (by decide)) (C _ (by decide)) (C _ (by decide)) (H _ (by decide)) (H _ (by decide)) (H _ (by decide)) (H _ (by decide))
  simp only [decide_eq_true_eq] at this
  exact this
theorem lastKind_take (tx : Int) (l : List Rc) (k : Nat) (h : k < l.length) : lastKind tx (l.take (k + 1)) = if l[k].2.1 = tx then l[k].1 else lastKind tx (l.take k) := by
  rw [List.take_succ_eq_append_getElem h, lastKind_snoc]
set_option maxRecDepth 100000 in
set_option maxHeartbeats 4000000 in
theorem i_standing (G : List Nat) (A : Nat → Addr) (la : Option Addr) (ln lc : Nat) (ma : Option Addr) (mn mc : Nat) (ha : Option Addr) (hn hc : Nat) (s : Shd) (tx : Int) (w : World) (h : SeeSh w la ln lc ma mn mc ha hn hc s) (hK : KS G A w) :
    Calls Tryz.prog 38 #[aggSh s.1 s.2.2.1 la ln lc ma mn mc ha hn hc, .int .i64 tx] w fun e w' => e = .returned (.iface 180 (.pointer (some (A (senOf (lastKind tx s.2.1)))))) ∧ Below w.heap.size w w' := by
  obtain ⟨hl, hm, hsm, hc'⟩ := id h.log
  unfold maxLen at hm
  obtain ⟨W, hW⟩ : ∃ W, w.alloc (boxSh s.1 s.2.2.1 la ln lc ma mn mc ha hn hc) = W := ⟨_, rfl⟩
  have hB : Below w.heap.size w W := by rw [← hW]; exact (Below.refl _ _).alloc (Nat.le_refl _) _
  have hbx : BoxIn w.heap.size 27 [] (shVals s.1 s.2.2.1 la ln lc ma mn mc ha hn hc) [] W := by rw [← hW]; exact boxIn_new w _ _
  have c1 := hbx.cell 1 _ rfl
  simp only [List.length_nil, Nat.zero_add] at c1
  have hlog := h.log.below hB
  have hKW := hK.below hB
  have HW := Hid.mk' hW
  rw [← hW] at c1
  have HL := Hid.mk' hl
  clear hW hl
  go_enter Tryz.func38, Tryz.ntmps38
  go_wp2_with fail
  rw [HW.out]
  clear c1 HW
  go_loopw [5, 11] (fun o i wr => ∃ k : Nat, k ≤ ln ∧ i = .int .i64 (k : Int) ∧ o = .int .i64 (lastKind tx (s.2.1.take k)) ∧ Below W.heap.size W wr) (fun _ i _ => ln - (intOf i).toNat)
  case atStart => exact ⟨0, Nat.zero_le _, rfl, rfl, Below.refl _ _⟩
  case round =>
    obtain ⟨k, hk, rfl, rfl, hb⟩ := hrel
    by_cases hlt : k < ln
    · have hltl : k < s.2.1.length := by have := HL.out; omega
      obtain ⟨b, off, e, _⟩ := hc' (by omega)
      subst e
      obtain ⟨e0, e1, pa, pl, pc, e2, _, _⟩ := (hlog.below hb).at k hltl
      have hki : (k : Int) < (ln : Int) := by omega
      have HT := Hid.mk' (lastKind_take tx s.2.1 k hltl)
      generalize s.2.1[k] = r at *
      generalize lastKind tx (s.2.1.take k) = o0 at *
      obtain ⟨r1, r2, r3⟩ := r
      simp only [] at e0 e1 e2 HT
      have HB2 := Hid.mk' (hb.alloc hb.size (.cells #[.int .i64 r1, .int .i64 r2, .slice pa pl pc] 41))
      clear hb
      by_cases h1 : r2 = tx
      · subst h1
        have f1 : (r2 == r2) = true := by simp
        have HT2 : Hid (lastKind r2 (s.2.1.take (k + 1)) = r1) := by show _ = _; rw [HT.out]; simp
        clear HT
        go_wp2_with fail
        go_roundw
        case rel => exact ⟨k + 1, by omega, by go_num, by rw [HT2.out], HB2.out⟩
        case measure => simp [intOf]; omega
      · have f1 : (r2 == tx) = false := beq_eq_false_iff_ne.2 h1
        have HT2 : Hid (lastKind tx (s.2.1.take (k + 1)) = o0) := by show _ = _; rw [HT.out]; simp [h1]
        clear HT h1
        go_wp2_with fail
        go_roundw
        case rel => exact ⟨k + 1, by omega, by go_num, by rw [HT2.out], HB2.out⟩
        case measure => simp [intOf]; omega
    · have HE : Hid (s.2.1.take k = s.2.1) := List.take_of_length_le (by have := HL.out; omega)
      have hnk : ¬ (k : Int) < (ln : Int) := by omega
      have hBz := hB.trans (hb.mono hB.size)
      have hKr := hKW.below hb
      have g0 := hKr.cell 6 (hK.sub _ (by decide))
      have g1 := hKr.cell 0 (hK.sub _ (by decide))
      have g2 := hKr.cell 1 (hK.sub _ (by decide))
      have g4 := hKr.cell 3 (hK.sub _ (by decide))
      rw [HE.out]
      clear hKr hb HE hKW hK
      obtain ⟨o0, ho0⟩ : ∃ o0, lastKind tx s.2.1 = o0 := ⟨_, rfl⟩
      rw [ho0]
      have HO := Hid.mk' ho0
      clear ho0
      by_cases k1 : o0 = 1
      · have HA : Hid (senOf o0 = 6) := by show _ = _; unfold senOf; rw [if_pos k1]
        have HG := Hid.mk' g0
        rw [show A 6 = A (senOf o0) by rw [HA.out]] at HG
        have g1' := HG.out
        subst k1
        clear g0 g1 g2 g4 HA HG
        go_wp2_with fail
        go_ret
        exact ⟨by rw [HO.out]; rfl, hBz⟩
      have b1 : (o0 == 1) = false := beq_eq_false_iff_ne.2 k1
      by_cases k2 : o0 = 2
      · have HA : Hid (senOf o0 = 0) := by show _ = _; unfold senOf; rw [if_neg k1, if_pos k2]
        have HG := Hid.mk' g1
        rw [show A 0 = A (senOf o0) by rw [HA.out]] at HG
        have g1' := HG.out
        subst k2
        clear k1 g0 g1 g2 g4 HA HG b1
        go_wp2_with fail
        go_ret
        exact ⟨by rw [HO.out]; rfl, hBz⟩
      have b2 : (o0 == 2) = false := beq_eq_false_iff_ne.2 k2
      by_cases k3 : o0 = 3
      · have HA : Hid (senOf o0 = 1) := by show _ = _; unfold senOf; rw [if_neg k1, if_neg k2, if_pos k3]
        have HG := Hid.mk' g2
        rw [show A 1 = A (senOf o0) by rw [HA.out]] at HG
        have g1' := HG.out
        subst k3
        clear k1 k2 g0 g1 g2 g4 HA HG b1 b2
        go_wp2_with fail
        go_ret
        exact ⟨by rw [HO.out]; rfl, hBz⟩
      have b3 : (o0 == 3) = false := beq_eq_false_iff_ne.2 k3
      have HA : Hid (senOf o0 = 3) := by show _ = _; unfold senOf; rw [if_neg k1, if_neg k2, if_neg k3]
      have HG := Hid.mk' g4
      rw [show A 3 = A (senOf o0) by rw [HA.out]] at HG
      have g1' := HG.out
      clear g0 g1 g2 g4 HA HG
      go_wp2_with fail
      go_ret
      exact ⟨by rw [HO.out]; rfl, hBz⟩
set_option maxRecDepth 100000 in
set_option maxHeartbeats 4000000 in
theorem impl_outcome (G : List Nat) (A : Nat → Addr) (la : Option Addr) (ln lc : Nat) (ma : Option Addr) (mn mc : Nat) (ha : Option Addr) (hn hc : Nat) (s : Shd) (tx : Int) (w : World) (h : SeeSh w la ln lc ma mn mc ha hn hc s) (hpl : PlainR w la ln) (hb : Bound s) (hK : KS G A w) :
    Calls Tryz.prog 12 #[aggSh s.1 s.2.2.1 la ln lc ma mn mc ha hn hc, .int .i64 tx] w fun e w' => e = .returned (.int .i64 (outcR s tx)) ∧ Below w.heap.size w w' := by
  obtain ⟨b1, b2, b3⟩ := SeeSh.few h hb
  obtain ⟨W, hW⟩ : ∃ W, w.alloc (boxSh s.1 s.2.2.1 la ln lc ma mn mc ha hn hc) = W := ⟨_, rfl⟩
  have hB : Below w.heap.size w W := by rw [← hW]; exact below_alloc
  have hA : BoxIn w.heap.size 27 [] (shVals s.1 s.2.2.1 la ln lc ma mn mc ha hn hc) [] W := by rw [← hW]; exact boxIn_new w _ _
  have arg : ∀ wx, Below W.heap.size W wx → wx.cell? ⟨w.heap.size, 0, none⟩ = some (.int .i64 s.1) ∧ wx.cell? ⟨w.heap.size, 1, none⟩ = some (.slice la ln lc) ∧ wx.cell? ⟨w.heap.size, 2, none⟩ = some (.int .i64 s.2.2.1) ∧ wx.cell? ⟨w.heap.size, 3, none⟩ = some (.slice ma mn mc) ∧ wx.cell? ⟨w.heap.size, 4, none⟩ = some (.slice ha hn hc) := fun wx hx => by
    have a0 := (hA.below hx).cell 0 _ rfl
    have a1 := (hA.below hx).cell 1 _ rfl
    have a2 := (hA.below hx).cell 2 _ rfl
    have a3 := (hA.below hx).cell 3 _ rfl
    have a4 := (hA.below hx).cell 4 _ rfl
    simp only [List.length_nil, Nat.zero_add] at a0 a1 a2 a3 a4
    exact ⟨a0, a1, a2, a3, a4⟩
  obtain ⟨a0, a1, a2, a3, a4⟩ := arg W (Below.refl _ _)
  have HOK := Hid.mk' (impl_shardOk la ln lc ma mn mc ha hn hc s W (h.below hB) (plain_below h.log hpl hB) hb.few (by omega) (by omega))
  have HST := Hid.mk' (fun wx (hx : Below W.heap.size W wx) => i_standing G A la ln lc ma mn mc ha hn hc s tx wx ((h.below hB).below hx) ((hK.below hB).below hx))
  have HCO := Hid.mk' (fun wx (hx : Below W.heap.size W wx) => i_codeOf G A (senOf (lastKind tx s.2.1)) (hK.sub _ (senOf_mem _)) wx ((hK.below hB).below hx))
  have HW := Hid.mk' hW
  have ARG := Hid.mk' arg
  rw [← hW] at a0 a1 a2 a3 a4
  have HRT : Hid (shardOk s = true → outc s tx = codeS (senOf (lastKind tx s.2.1))) := fun e => by rw [code_sen]; exact outc_stand ((shardOk_iff s).1 e) tx
  clear hW arg
  cases hok : shardOk s with
  | false =>
    have HR : Hid (outcR s tx = 5) := by show _ = _; unfold outcR; rw [hok]; rfl
    rw [hok] at HOK
    clear hok HRT
    go_enter Tryz.func12, Tryz.ntmps12
    go_wp2_with fail
    rw [HW.out]
    refine HOK.out.mono ?_
    rintro e w1 ⟨rfl, hb1⟩
    clear a0 a1 a2 a3 a4 HOK HW
    go_wp2_with fail
    go_ret
    rw [HR.out]
    exact ⟨rfl, hB.trans (hb1.mono hB.size)⟩
  | true =>
    have HR : Hid (outcR s tx = codeS (senOf (lastKind tx s.2.1))) := by show _ = _; unfold outcR; rw [hok, if_pos rfl]; exact HRT.out hok
    rw [hok] at HOK
    clear hok HRT
    generalize codeS (senOf (lastKind tx s.2.1)) = cc at *
    generalize senOf (lastKind tx s.2.1) = sg at *
    go_enter Tryz.func12, Tryz.ntmps12
    go_wp2_with fail
    rw [HW.out]
    refine HOK.out.mono ?_
    rintro e w1 ⟨rfl, hb1⟩
    clear a0 a1 a2 a3 a4 HOK HW
    obtain ⟨a0, a1, a2, a3, a4⟩ := ARG.out w1 hb1
    go_wp2_with fail
    refine (HST.out _ hb1).mono ?_
    rintro e w2 ⟨rfl, hb2'⟩
    have hb2 := hb1.trans (hb2'.mono hb1.size)
    clear a0 a1 a2 a3 a4 hb2' HST
    go_wp2_with fail
    refine (HCO.out _ hb2).mono ?_
    rintro e w3 ⟨rfl, hb3⟩
    have hb4 := hb2.trans (hb3.mono hb2.size)
    clear HCO hb3
    go_wp2_with fail
    go_ret
    rw [HR.out]
    exact ⟨rfl, hB.trans (hb4.mono hB.size)⟩
end Go.Proofs.YteniflajiklffaaGreatDoor.recs

namespace Go.Proofs.YteniflajiklffaaGreatDoor.recs
open Go Go.RowKit Go.Proofs.YteniflajiklffaaGreatDoor.base Go.Proofs.YteniflajiklffaaGreatDoor.pairs Go.Proofs.YteniflajiklffaaGreatDoor.ords Go.Proofs.YteniflajiklffaaGreatDoor.helps Go.Proofs.YteniflajiklffaaGreatDoor.help Go.Proofs.YteniflajiklffaaGreatDoor.lay Go.Proofs.YteniflajiklffaaGreatDoor.sent
set_option linter.unusedVariables false
set_option linter.unusedSimpArgs false

set_option maxRecDepth 100000 in
set_option maxHeartbeats 4000000 in
theorem i_heldKeys (la : Option Addr) (ln lc : Nat) (ma : Option Addr) (mn mc : Nat) (ha : Option Addr) (hn hc : Nat) (s : Shd) (w : World) (h : SeeSh w la ln lc ma mn mc ha hn hc s) (hs : ∀ k, sumOps (s.2.2.2.2.take k) ≤ 1000000) :
    Calls Tryz.prog 73 #[aggSh s.1 s.2.2.1 la ln lc ma mn mc ha hn hc] w fun e w' => e = .returned (.int .i64 (sumOps s.2.2.2.2 : Int)) ∧ Below w.heap.size w w' := by
  obtain ⟨hl, hm, hsm, hc'⟩ := id h.held
  unfold maxLen at hm
  obtain ⟨W, hW⟩ : ∃ W, w.alloc (boxSh s.1 s.2.2.1 la ln lc ma mn mc ha hn hc) = W := ⟨_, rfl⟩
  have hB : Below w.heap.size w W := by rw [← hW]; exact (Below.refl _ _).alloc (Nat.le_refl _) _
  have hbx : BoxIn w.heap.size 27 [] (shVals s.1 s.2.2.1 la ln lc ma mn mc ha hn hc) [] W := by rw [← hW]; exact boxIn_new w _ _
  have c1 := hbx.cell 4 _ rfl
  simp only [List.length_nil, Nat.zero_add] at c1
  have hheld := h.held.below hB
  have HW := Hid.mk' hW
  rw [← hW] at c1
  have HL := Hid.mk' hl
  have HS := Hid.mk' hs
  clear hW hl hs
  go_enter Tryz.func73, Tryz.ntmps73
  go_wp2_with fail
  rw [HW.out]
  clear c1 HW
  go_loopw [3, 9] (fun o i wr => ∃ k : Nat, k ≤ hn ∧ i = .int .i64 (k : Int) ∧ o = .int .i64 (sumOps (s.2.2.2.2.take k) : Int) ∧ Below W.heap.size W wr) (fun _ i _ => hn - (intOf i).toNat)
  case atStart => exact ⟨0, Nat.zero_le _, rfl, rfl, Below.refl _ _⟩
  case round =>
    obtain ⟨k, hk, rfl, rfl, hb⟩ := hrel
    by_cases hlt : k < hn
    · have hltl : k < s.2.2.2.2.length := by have := HL.out; omega
      obtain ⟨b, off, e, _⟩ := hc' (by omega)
      subst e
      obtain ⟨e0, e1, pa, pl, pc, e2, hSo, _⟩ := (hheld.below hb).at k hltl
      have hki : (k : Int) < (hn : Int) := by omega
      have HT := Hid.mk' (sumOps_take s.2.2.2.2 k hltl)
      have hs1 := HS.out k
      have hs2 := HS.out (k + 1)
      generalize s.2.2.2.2[k] = r at *
      obtain ⟨r1, r2, r3⟩ := r
      simp only [] at e0 e1 e2 HT hSo
      have hpl := hSo.1
      have HT2 : Hid (sumOps (s.2.2.2.2.take (k + 1)) = sumOps (s.2.2.2.2.take k) + pl) := by show _ = _; rw [HT.out, hpl]
      have hs3 : sumOps (s.2.2.2.2.take k) + pl ≤ 1000000 := by rw [← HT2.out]; exact hs2
      have hwr : IntKind.i64.wrap ((sumOps (s.2.2.2.2.take k) : Int) + (pl : Int)) = (sumOps (s.2.2.2.2.take k) : Int) + (pl : Int) := wraps_i64 _ (by omega) (by omega)
      have HB2 := Hid.mk' (hb.alloc hb.size (.cells #[.int .i64 r1, .int .i64 r2, .slice pa pl pc] 41))
      have HE : Hid (Value.int .i64 ((sumOps (s.2.2.2.2.take k) : Int) + (pl : Int)) = .int .i64 (sumOps (s.2.2.2.2.take (k + 1)) : Int)) := by show _ = _; rw [HT2.out]; congr 1
      clear hb HT HT2 hpl hSo hs1 hs2
      generalize sumOps (s.2.2.2.2.take k) = S0 at *
      go_wp2_with fail
      go_roundw
      case rel => exact ⟨k + 1, by omega, by go_num, HE.out, HB2.out⟩
      case measure => simp [intOf]; omega
    · have HE : Hid (s.2.2.2.2.take k = s.2.2.2.2) := List.take_of_length_le (by have := HL.out; omega)
      have hnk : ¬ (k : Int) < (hn : Int) := by omega
      have hBz := hB.trans (hb.mono hB.size)
      clear hb
      go_wp2_with fail
      go_ret
      exact ⟨by rw [HE.out]; rfl, hBz⟩
set_option maxRecDepth 100000 in
theorem i_room (la : Option Addr) (ln lc : Nat) (ma : Option Addr) (mn mc : Nat) (ha : Option Addr) (hn hc : Nat) (s : Shd) (w : World) (hln : ln + hn ≤ 300) :
    Calls Tryz.prog 74 #[aggSh s.1 s.2.2.1 la ln lc ma mn mc ha hn hc] w fun e w' => e = .returned (.int .i64 (300 - (ln : Int) - (hn : Int))) ∧ Below w.heap.size w w' := by
  obtain ⟨W, hW⟩ : ∃ W, w.alloc (boxSh s.1 s.2.2.1 la ln lc ma mn mc ha hn hc) = W := ⟨_, rfl⟩
  have hB : Below w.heap.size w W := by rw [← hW]; exact (Below.refl _ _).alloc (Nat.le_refl _) _
  have hbx : BoxIn w.heap.size 27 [] (shVals s.1 s.2.2.1 la ln lc ma mn mc ha hn hc) [] W := by rw [← hW]; exact boxIn_new w _ _
  have c1 := hbx.cell 1 _ rfl
  have c4 := hbx.cell 4 _ rfl
  simp only [List.length_nil, Nat.zero_add] at c1 c4
  have HW := Hid.mk' hW
  rw [← hW] at c1 c4
  have hw1 : IntKind.i64.wrap (300 - (ln : Int)) = 300 - (ln : Int) := wraps_i64 _ (by omega) (by omega)
  have hw2 : IntKind.i64.wrap (300 - (ln : Int) - (hn : Int)) = 300 - (ln : Int) - (hn : Int) := wraps_i64 _ (by omega) (by omega)
  clear hW
  go_enter Tryz.func74, Tryz.ntmps74
  go_wp2_with fail
  rw [HW.out]
  go_ret
  exact ⟨rfl, hB⟩
end Go.Proofs.YteniflajiklffaaGreatDoor.recs

namespace Go.Proofs.YteniflajiklffaaGreatDoor.recs
open Go Go.RowKit Go.Proofs.YteniflajiklffaaGreatDoor.base Go.Proofs.YteniflajiklffaaGreatDoor.pairs Go.Proofs.YteniflajiklffaaGreatDoor.ords Go.Proofs.YteniflajiklffaaGreatDoor.helps Go.Proofs.YteniflajiklffaaGreatDoor.help Go.Proofs.YteniflajiklffaaGreatDoor.lay
set_option linter.unusedVariables false
set_option linter.unusedSimpArgs false

set_option maxRecDepth 100000 in
set_option maxHeartbeats 2000000 in
theorem i_ownRecs (a : Option Addr) (len cap : Nat) (l : List Rc) (w : World) (h : SlR w a len l) (hsz : len ≤ 1099511627776) (hops : ∀ r ∈ l, r.2.2.length ≤ 1099511627776) :
    Calls Tryz.prog 75 #[.slice a len cap] w fun e w' => ∃ g cp hs, e = .returned (.slice (some ⟨g, 0, none⟩) len cp) ∧ OwnR w' w.heap.size (.slice (some ⟨g, 0, none⟩) len cp) l hs ∧ Below w.heap.size w w' := by
  obtain ⟨i0, hi, hz0, hz1, hz2⟩ := info_parts infoRW
  obtain ⟨hl, hm, hsm, hc⟩ := id h
  subst hl
  have hm' := hm
  unfold maxLen at hm'
  go_enter Tryz.func75, Tryz.ntmps75
  go_wp2_with (at_make; refine wpList_make_own _ rfl _ _ 24 rfl w.heap.size 41 i0 (.agg #[.int .i64 0, .int .i64 0, .slice none 0 0]) 3 Tryz.underlying24 hi hz0 hz1 _ _ _ l.length rfl rfl rfl ?b2 ?b3 ?b4 ?_)
  case b2 => rw [hz2]; omega
  case b3 => exact hm
  case b4 => exact Nat.le_refl _
  intro w1 hown hgrow
  have hO0 : OwnR w1 w.heap.size (.slice (some ⟨w.heap.size, 0, none⟩) 0 l.length) (l.take 0) [] :=
    ⟨rfl, (fun _ h => absurd h (by simp)), hown, fun i hi => absurd hi (by simp), List.Pairwise.nil, fun k _ y hy => absurd hy List.not_mem_nil⟩
  have hB0 : Below w.heap.size w w1 := (Below.refl _ _).grown hgrow (Nat.le_refl _) (fun k e => by cases e)
  clear hown hgrow
  go_wp2_with (at_builtin; fail)
  go_loopw [3, 11] (fun v i wr => ∃ (k g cp : Nat) (hs : List Value), k ≤ l.length ∧ v = .slice (some ⟨g, 0, none⟩) k cp ∧ i = .int .i64 (k : Int) ∧ OwnR wr w.heap.size (.slice (some ⟨g, 0, none⟩) k cp) (l.take k) hs ∧ Below w.heap.size w wr) (fun _ i _ => l.length - (intOf i).toNat)
  case atStart => exact ⟨0, _, _, [], Nat.zero_le _, rfl, rfl, hO0, hB0⟩
  case round =>
    clear hO0 hB0
    obtain ⟨k, g, cp, hs, hk, rfl, rfl, hO, hB⟩ := hrel
    by_cases hlt : k < l.length
    · obtain ⟨b, off, ha, _⟩ := hc (by omega)
      subst ha
      obtain ⟨c0, c1, pa, pl, pc, c2, hSo, _⟩ := (h.at k hlt).below hB
      have hki : (k : Int) < (l.length : Int) := by omega
      have hsr := hsm _ (List.getElem_mem hlt)
      have hol := hops _ (List.getElem_mem hlt)
      have HTK : Hid (l.take (k + 1) = l.take k ++ [l[k]]) := List.take_succ_eq_append_getElem hlt
      have htl : (l.take k).length = k := by rw [List.length_take]; omega
      generalize l[k] = r at *
      generalize l.take k = T at *
      have hpe := hSo.1
      obtain ⟨W, hW⟩ : ∃ W, wr.alloc (.cells #[.int .i64 r.1, .int .i64 r.2.1, .slice pa pl pc] 41) = W := ⟨_, rfl⟩
      have hbW : Below wr.heap.size wr W := by rw [← hW]; exact (Below.refl _ _).alloc (Nat.le_refl _) _
      have HCR := Hid.mk' (i_ownRec r.1 r.2.1 pa pl pc r.2.2 W (hSo.below hbW) (by omega))
      have HW := Hid.mk' hW
      have HTL := Hid.mk' htl
      have HO := Hid.mk' (hO.below hbW)
      have hBW := hB.trans (hbW.mono hB.size)
      clear hO htl hW hbW
      go_wp2_with (at_builtin; fail)
      rw [HW.out]
      refine HCR.out.mono ?_
      rintro e w3 ⟨g3, rfl, hO3, hb3⟩
      have hV3 := (ownV_of hO3).mono (base' := w.heap.size) hBW.size
      have hOa := HO.out.below hb3
      have hB3 := hBW.trans (hb3.mono hBW.size)
      have hg3 := hO3.lt
      have hout : ∀ j, (Value.slice (some ⟨g3, 0, none⟩) pl pl).ownBlock = some j → ¬ BlkR (.slice (some ⟨g, 0, none⟩) k cp) hs j := fun j hj hb => by
        have e1 : g3 = j := by simpa [Value.ownBlock] using hj
        have := (HO.out.lt j hb).2
        omega
      have HOU := Hid.mk' hout
      have hbn : Below w3.heap.size w3 (w3.alloc (.cells #[.int .i64 r.1, .int .i64 r.2.1, .slice (some ⟨g3, 0, none⟩) pl pl] 41)) := (Below.refl _ _).alloc (Nat.le_refl _) _
      have hO4 := hOa.below hbn
      have hV4 := hV3.below hbn
      have hB4 := hB3.trans (hbn.mono hB3.size)
      have HOC := Hid.mk' (rec_cellsW w3 r.1 r.2.1 (.slice (some ⟨g3, 0, none⟩) pl pl) 41)
      have HON := Hid.mk' (rec_oneW r.1 r.2.1 hV3.one)
      have hc3 : T.length + 1 ≤ maxLen := by have := HTL.out; unfold maxLen; omega
      have hc4 : (T.length + 1) * 40 ≤ 140737488355328 := by have := HTL.out; omega
      clear HCR hO3 hb3 hV3 hOa hB3 hbn hout c0 c1 c2 HO
      go_wp2_with (at_builtin; refine wpList_append_own _ rfl (.tmp 15) (.tmp 18) 24 rfl w.heap.size 41 i0 (.agg #[.int .i64 0, .int .i64 0, .slice none 0 0]) 3 40 Tryz.underlying24 hi hz0 hz1 hz2 rfl (by decide) _ _ _ rfl hO4.row ⟨w3.heap.size, 0, none⟩ 1 1 _ rfl rfl HOC.out HON.out hc3 hc4 hB4.size ?_)
      intro v5 w5 hown5 hgrow5 hnn5
      have hnn' : ¬ v5 = .slice none 0 0 := by simpa using hnn5
      have hO5 := hO4.snoc hV4 hsr HOU.out hown5 hgrow5
      have hB5 : Below w.heap.size w w5 := hB4.grown hgrow5 hB4.size (fun j e => (hO4.row.lt j e).1)
      rw [← HTK.out] at hO5
      have htl2 : (l.take (k + 1)).length = k + 1 := by rw [List.length_take]; omega
      rcases hO5.shape with ⟨hv5, _⟩ | ⟨g5, cp5, hv5, _⟩
      · exact absurd hv5 hnn'
      · rw [htl2] at hv5
        subst hv5
        have HO5 := Hid.mk' hO5
        clear hown5 hgrow5 hnn5 hnn' hO5 hO4 hB4 hV4 HOC HON HOU htl2
        go_wp2_with (at_builtin; fail)
        go_roundw
        case rel => exact ⟨k + 1, g5, cp5, _, by omega, rfl, by go_num, HO5.out, hB5⟩
        case measure => simp [intOf]; omega
    · have hke : k = l.length := by omega
      subst hke
      rw [List.take_length] at hO
      have hlt2 : ¬ (l.length : Int) < (l.length : Int) := by omega
      go_wp2_with (at_builtin; fail)
      go_ret
      exact ⟨g, cp, rfl, ⟨hs, hO⟩, hB⟩
end Go.Proofs.YteniflajiklffaaGreatDoor.recs

namespace Go.Proofs.YteniflajiklffaaGreatDoor.recs
open Go Go.RowKit Go.Proofs.YteniflajiklffaaGreatDoor.base Go.Proofs.YteniflajiklffaaGreatDoor.pairs Go.Proofs.YteniflajiklffaaGreatDoor.ords Go.Proofs.YteniflajiklffaaGreatDoor.helps Go.Proofs.YteniflajiklffaaGreatDoor.help Go.Proofs.YteniflajiklffaaGreatDoor.lay Go.Proofs.YteniflajiklffaaGreatDoor.sent
set_option linter.unusedVariables false
set_option linter.unusedSimpArgs false

def DoPost (A : Nat → Addr) (t : Shd) (g : Option Nat) (w : World) (e : Ending) (w' : World) : Prop :=
  match g with
  | some k => e = .returned (.tuple #[.agg #[.int .i64 0, .slice none 0 0, .int .i64 0, .slice none 0 0, .slice none 0 0], .iface 180 (.pointer (some (A k)))]) ∧ Below w.heap.size w w'
  | none => ∃ (la : Option Addr) (ln lc : Nat) (ma : Option Addr) (mn mc : Nat) (ha : Option Addr) (hn hc : Nat) (F : List Nat), e = .returned (.tuple #[aggSh t.1 t.2.2.1 la ln lc ma mn mc ha hn hc, .nilIface]) ∧ OwnSh w' la ln lc ma mn mc ha hn hc t F ∧ (∀ k ∈ F, w.heap.size ≤ k) ∧ Below w.heap.size w w'
def holdErr (s : Shd) (tx : Int) (ops : List Od) : Option Nat :=
  if lastKind tx s.2.1 ≠ 0 then some (senOf (lastKind tx s.2.1)) else if 60 < s.2.2.2.1.length + sumOps s.2.2.2.2 + ops.length ∨ 300 - (s.2.1.length : Int) - (s.2.2.2.2.length : Int) < 2 then some 4 else match replay (s.2.1 ++ [(1, tx, ops)]) with | none => some 5 | some _ => none
theorem own_made {V : World} {B C : Nat} {sid su : Int} {gl n cl gm nm cm gh ch : Nat} {t : Option St} {L : List Rc} {hl hh : List Value} (hid : (Lit.int .i64 sid).wf = true) (hsu : (Lit.int .i64 su).wf = true) (hOl : OwnR V 0 (.slice (some ⟨gl, 0, none⟩) n cl) L hl) (hlB : ∀ k, BlkR (.slice (some ⟨gl, 0, none⟩) n cl) hl k → B ≤ k ∧ k < C)
    (hOm : OwnP V C gm nm cm (resM t)) (hOh : OwnR V C (.slice (some ⟨gh, 0, none⟩) (resH t).length ch) (resH t) hh) (hnb : ¬ BlkR (.slice (some ⟨gh, 0, none⟩) (resH t).length ch) hh gm) (hBC : B ≤ C) :
    ∃ F, OwnSh V (some ⟨gl, 0, none⟩) n cl (some ⟨gm, 0, none⟩) nm cm (some ⟨gh, 0, none⟩) (resH t).length ch (sid, L, su, resM t, resH t) F ∧ (∀ k ∈ F, B ≤ k) ∧ ∀ k ∈ F, BlkR (.slice (some ⟨gl, 0, none⟩) n cl) hl k ∨ C ≤ k := by
  have hOh0 := hOh.mono (base' := 0) (Nat.zero_le _)
  have hmlt := hOm.lt
  have n1 := recsR.ownNodup (recs_own.2 ⟨_, hOl, rfl⟩)
  have n2 := recsR.ownNodup (recs_own.2 ⟨_, hOh0, rfl⟩)
  have hw : ∀ k ∈ blkR (.slice (some ⟨gl, 0, none⟩) n cl) hl ++ ((Value.slice (some ⟨gm, 0, none⟩) nm cm).ownBlock.toList ++ blkR (.slice (some ⟨gh, 0, none⟩) (resH t).length ch) hh), BlkR (.slice (some ⟨gl, 0, none⟩) n cl) hl k ∨ C ≤ k := fun k hk => by
    rcases List.mem_append.1 hk with e | e
    · exact .inl (mem_blkR.1 e)
    · rcases List.mem_append.1 e with e | e
      · have e2 : k = gm := by simpa [Value.ownBlock] using e
        exact .inr (by rw [e2]; exact hmlt.1)
      · exact .inr (hOh.lt k (mem_blkR.1 e)).1
  refine ⟨_, ⟨hid, hsu, ⟨hl, hOl, hh, hOh0, rfl⟩, ownPV_of hOm, ?_⟩, fun k hk => ?_, hw⟩
  · refine nodup_mk n1 (nodup_mk (by simp [Value.ownBlock]) n2 (fun k hk hk2 => ?_)) (fun k hk hk2 => ?_)
    · have e2 : k = gm := by simpa [Value.ownBlock] using hk
      rw [e2] at hk2
      exact hnb (mem_blkR.1 hk2)
    · have h1 := (hlB k (mem_blkR.1 hk)).2
      rcases List.mem_append.1 hk2 with e | e
      · have e2 : k = gm := by simpa [Value.ownBlock] using e
        have := hmlt.1; omega
      · have := (hOh.lt k (mem_blkR.1 e)).1; omega
  · rcases hw k hk with e | e
    · exact (hlB k e).1
    · omega
set_option maxRecDepth 100000 in
set_option maxHeartbeats 4000000 in
theorem hold_stood (G : List Nat) (A : Nat → Addr) (la : Option Addr) (ln lc : Nat) (ma : Option Addr) (mn mc : Nat) (ha : Option Addr) (hn hc : Nat) (s : Shd) (tx : Int) (a : Option Addr) (len cap : Nat) (ops : List Od) (w : World) (h : SeeSh w la ln lc ma mn mc ha hn hc s) (hR : Right s) (ho : SlO w a len ops) (hok : recOk (1, tx, ops) = true) (hK : KS G A w) (hst : lastKind tx s.2.1 ≠ 0) :
    Calls Tryz.prog 33 #[aggSh s.1 s.2.2.1 la ln lc ma mn mc ha hn hc, .agg #[.int .i64 1, .int .i64 tx, .slice a len cap]] w fun e w' => e = .returned (.tuple #[.agg #[.int .i64 0, .slice none 0 0, .int .i64 0, .slice none 0 0, .slice none 0 0], .iface 180 (.pointer (some (A (senOf (lastKind tx s.2.1)))))]) ∧ Below w.heap.size w w' := by
  obtain ⟨W, hW⟩ : ∃ W, ((w.alloc (boxSh s.1 s.2.2.1 la ln lc ma mn mc ha hn hc)).alloc (.cells #[.int .i64 1, .int .i64 tx, .slice a len cap] 41)).alloc (boxSh 0 0 none 0 0 none 0 0 none 0 0) = W := ⟨_, rfl⟩
  have hb0 : Below w.heap.size w (w.alloc (boxSh s.1 s.2.2.1 la ln lc ma mn mc ha hn hc)) := below_alloc
  have hb1 : Below w.heap.size w ((w.alloc (boxSh s.1 s.2.2.1 la ln lc ma mn mc ha hn hc)).alloc (.cells #[.int .i64 1, .int .i64 tx, .slice a len cap] 41)) := hb0.alloc hb0.size _
  have hB : Below w.heap.size w W := by rw [← hW]; exact hb1.alloc hb1.size _
  have hX : BoxIn w.heap.size 27 [] (shVals s.1 s.2.2.1 la ln lc ma mn mc ha hn hc) [] W := by rw [← hW]; exact ((boxIn_new w _ _).below below_alloc).below below_alloc
  have hC : BoxR (w.heap.size + 1) 1 tx (.slice a len cap) W := by
    rw [← hW]
    have := (boxR_new (w.alloc (boxSh s.1 s.2.2.1 la ln lc ma mn mc ha hn hc)) 1 tx (.slice a len cap)).below (below_alloc (o := boxSh 0 0 none 0 0 none 0 0 none 0 0))
    rwa [show (w.alloc (boxSh s.1 s.2.2.1 la ln lc ma mn mc ha hn hc)).heap.size = w.heap.size + 1 by simp] at this
  have hRB : BoxIn (w.heap.size + 1 + 1) 27 [] (shVals 0 0 none 0 0 none 0 0 none 0 0) [] W := by
    rw [← hW]
    have := boxIn_new ((w.alloc (boxSh s.1 s.2.2.1 la ln lc ma mn mc ha hn hc)).alloc (.cells #[.int .i64 1, .int .i64 tx, .slice a len cap] 41)) (shVals 0 0 none 0 0 none 0 0 none 0 0) 27
    rwa [show ((w.alloc (boxSh s.1 s.2.2.1 la ln lc ma mn mc ha hn hc)).alloc (.cells #[.int .i64 1, .int .i64 tx, .slice a len cap] 41)).heap.size = w.heap.size + 1 + 1 by simp] at this
  have hsW : w.heap.size + 1 + 1 < W.heap.size := hRB.lt
  have HXC := Hid.mk' (fun wx (hx : Below W.heap.size W wx) => (show _ ∧ _ ∧ _ ∧ _ ∧ _ from by
    have a0 := (hX.below hx).cell 0 _ rfl
    have a1 := (hX.below hx).cell 1 _ rfl
    have a2 := (hX.below hx).cell 2 _ rfl
    have a3 := (hX.below hx).cell 3 _ rfl
    have a4 := (hX.below hx).cell 4 _ rfl
    simp only [List.length_nil, Nat.zero_add] at a0 a1 a2 a3 a4
    exact ⟨a0, a1, a2, a3, a4⟩))
  have HCC := Hid.mk' (fun wx (hx : Below W.heap.size W wx) => (hC.below hx).cells)
  have hKW := hK.below hB
  have hroom := hR.room
  obtain ⟨l1, l2, l3⟩ := SeeSh.lens h
  have hmn : s.2.2.2.1.length ≤ 60 := by
    obtain ⟨seen, hm⟩ := hR.made
    exact ((pairsOk_iff _).1 (replay_ok hm).1).2
  have HST := Hid.mk' (i_standing G A la ln lc ma mn mc ha hn hc s tx W (h.below hB) hKW)
  have HIS := Hid.mk' (fun wx (hx : Below W.heap.size W wx) => (is_ (senOf (lastKind tx s.2.1)) 3 (hK.sub _ (senOf_mem _)) (hK.sub _ (by decide)) wx (hKW.below hx)).mono (fun e w' (hp : e = .returned (.bool (decide (senOf (lastKind tx s.2.1) = 3))) ∧ w' = wx) => (⟨hp.1, hp.2.symm⟩ : e = .returned (.bool (decide (senOf (lastKind tx s.2.1) = 3))) ∧ wx = w')))
  have HGN := Hid.mk' (fun wx (hx : Below W.heap.size W wx) => (hKW.below hx).cell 3 (hK.sub _ (by decide)))
  have hkk : ∀ k, k = 0 ∨ k = 1 ∨ k = 2 ∨ k = 3 → k ≠ 0 → senOf k ≠ 3 := fun k hk h0 => by
    rcases hk with e | e | e | e
    · exact absurd e h0
    all_goals (subst e; decide)
  have hsn : senOf (lastKind tx s.2.1) ≠ 3 := by
    obtain ⟨seen, hm⟩ := hR.made
    exact hkk _ ((stood_replay hm).kinds tx) hst
  rw [decide_eq_false hsn] at HIS
  generalize senOf (lastKind tx s.2.1) = gg at *
  have HW := Hid.mk' hW
  obtain ⟨a0, a1, a2, a3, a4⟩ := HXC.out W (Below.refl _ _)
  obtain ⟨c0, c1, c2⟩ := HCC.out W (Below.refl _ _)
  rw [← hW] at a0 a1 a2 a3 a4 c0 c1 c2
  clear hW hb0 hb1 hkk hsn hst hroom l1 l2 l3 hmn
  go_enter Tryz.func33, Tryz.ntmps33
  go_wp2_with fail
  rw [HW.out]
  refine HST.out.mono ?_
  rintro e w1 ⟨rfl, hb2⟩
  clear a0 a1 a2 a3 a4 c0 c1 c2 HST HW
  have gN := HGN.out w1 hb2
  go_wp2_with fail
  refine (HIS.out w1 hb2).mono ?_
  rintro e w2 ⟨rfl, hw2⟩
  subst hw2
  clear gN
  have hR1 := hRB.below hb2
  have hB1 := hB.trans (hb2.mono hB.size)
  have z0 := hR1.cell 0 _ rfl
  have z1 := hR1.cell 1 _ rfl
  have z2 := hR1.cell 2 _ rfl
  have z3 := hR1.cell 3 _ rfl
  have z4 := hR1.cell 4 _ rfl
  have hS5 := hR1.set5 (.int .i64 0) (.slice none 0 0) (.int .i64 0) (.slice none 0 0) (.slice none 0 0)
  simp only [List.length_nil, Nat.zero_add] at z0 z1 z2 z3 z4 hS5
  have f0 := hR1.fz 0
  have f1 := hR1.fz 1
  have f2 := hR1.fz 2
  have f3 := hR1.fz 3
  have f4 := hR1.fz 4
  have hBz := hB1.grown hS5.2 hB1.size (fun j e => by cases e; omega)
  have hzc0 := hS5.1.cell 0 _ rfl
  have hzc1 := hS5.1.cell 1 _ rfl
  have hzc2 := hS5.1.cell 2 _ rfl
  have hzc3 := hS5.1.cell 3 _ rfl
  have hzc4 := hS5.1.cell 4 _ rfl
  simp only [List.length_nil, Nat.zero_add] at hzc0 hzc1 hzc2 hzc3 hzc4
  have HB := Hid.mk' hBz
  clear hBz hS5 hR1 HIS HGN HXC HCC
  go_wp2_with fail
  refine bodyPost_ret (v := .tuple #[.agg #[.int .i64 0, .slice none 0 0, .int .i64 0, .slice none 0 0, .slice none 0 0], .iface 180 (.pointer (some (A gg)))]) ?_ rfl ⟨rfl, HB.out⟩
  simp [results, Tryz.results33, go_sem, hzc0, hzc1, hzc2, hzc3, hzc4]
end Go.Proofs.YteniflajiklffaaGreatDoor.recs
