/- The program's shard holds: what is answered. Shards: what became of a transaction stays so. Plain mathematics. -/
import Derived.Test.YteniflajiklffaaGreatDoorShaz
import Derived.Test.YteniflajiklffaaGreatDoorShba
import Derived.Test.YteniflajiklffaaGreatDoorShbc
import Derived.Test.YteniflajiklffaaGreatDoorShas
namespace Go.Proofs.YteniflajiklffaaGreatDoor.sent
open Go Go.RowKit Go.Extern.Stop Go.Stop Go.Extern Go.Proofs.YteniflajiklffaaGreatDoor.base
set_option linter.unusedVariables false
set_option linter.unusedSimpArgs false
set_option maxRecDepth 100000 in
theorem is_ref_other (tx : Int) (a b : Addr) (ca cb : Array Value) (ta tb : TypeId) (w : World) (hne : a ≠ b) (ha : w.heap[a.block]? = some (.cells ca ta (0, 0))) (hb : w.heap[b.block]? = some (.cells cb tb (0, 0))) :
    Calls Tryz.prog 47 #[.iface 107 (.agg #[.int .i64 tx, .iface 180 (.pointer (some a))]), .iface 180 (.pointer (some b))] w fun e w' => e = .returned (.bool false) ∧ Below w.heap.size w w' := by
  obtain ⟨i, hi, hcmp⟩ := Option.map_eq_some_iff.1 isComp
  obtain ⟨j, hj, hjs⟩ := Option.map_eq_some_iff.1 isSize
  have h8 := @run_callFunc_extern Tryz.prog 94 _ Extern.ReflectliteType.typeOf Tryz.func94 (by kernel_rfl) (by kernel_rfl) (by kernel_rfl) (by kernel_rfl)
  have h32 := @run_callFunc_extern Tryz.prog 163 _ (Extern.ReflectliteType.method fun t => do Rtype.noPackHeld "Comparable" t; pure (.bool (← typeInfo t).comparable)) Tryz.func163 (by kernel_rfl) (by kernel_rfl) (by kernel_rfl) (by kernel_rfl)
  have tT := isTypeOf
  have cT := isComparable
  have mR := isMethodComparable
  have nE := noIsE
  have uE := noUnwrapE
  have vE := noUnwrapsE
  have nW := noIsR
  have uW := hasUnwrapR
  have mU := methodUnwrap
  have hb2 : ∀ o : Obj, Below w.heap.size w (w.alloc o) := fun o => (Below.refl _ _).alloc (Nat.le_refl _) _
  have heq := fun (o : Obj) => run_eql_iface_ptr_other (P := Tryz.prog) (w.alloc o) Tryz.underlying65 Tryz.underlying180 hi hcmp hj (by rw [hjs]; decide) hne (((hb2 o).block _ (Array.getElem?_eq_some_iff.1 ha).1).trans ha) (((hb2 o).block _ (Array.getElem?_eq_some_iff.1 hb).1).trans hb)
  have hty := fun w => run_eql_iface_types (P := Tryz.prog) 107 180 (.agg #[.int .i64 tx, .iface 180 (.pointer (some a))]) (.pointer (some b)) Tryz.underlying65 (by decide) w
  go_enter Tryz.func47, Tryz.ntmps47
  go_wp2
  refine wp_loop_rounds 2 ?_
  rw [rounds_succ]
  go_wp2
  rw [rounds_succ]
  go_wp2
  go_ret
  exact ⟨rfl, hb2 _⟩
theorem is_ref {G : List Nat} {A : Nat → Addr} (tx : Int) (g k : Nat) (hg : g ∈ G) (hk : k ∈ G) (w : World) (h : KS G A w) :
    Calls Tryz.prog 47 #[.iface 107 (.agg #[.int .i64 tx, .iface 180 (.pointer (some (A g)))]), .iface 180 (.pointer (some (A k)))] w fun e w' => e = .returned (.bool (decide (g = k))) ∧ Below w.heap.size w w' := by
  by_cases e : g = k
  · subst e
    rw [decide_eq_true rfl]
    exact is_ref_same tx _ w
  · rw [decide_eq_false e]
    obtain ⟨c1, t1, r1⟩ := h.row g hg
    obtain ⟨c2, t2, r2⟩ := h.row k hk
    exact is_ref_other tx _ _ _ _ _ _ w (h.ne g hg k hk e) r1 r2
end Go.Proofs.YteniflajiklffaaGreatDoor.sent
namespace Go.Proofs.YteniflajiklffaaGreatDoor.recs
open Go Go.RowKit Go.Proofs.YteniflajiklffaaGreatDoor.base Go.Proofs.YteniflajiklffaaGreatDoor.pairs Go.Proofs.YteniflajiklffaaGreatDoor.ords Go.Proofs.YteniflajiklffaaGreatDoor.helps Go.Proofs.YteniflajiklffaaGreatDoor.help Go.Proofs.YteniflajiklffaaGreatDoor.lay Go.Proofs.YteniflajiklffaaGreatDoor.sent
set_option linter.unusedVariables false
set_option linter.unusedSimpArgs false
def codeE (g : Option Nat) : Int := match g with | none => 1 | some k => codeS k
set_option maxRecDepth 100000 in
theorem i_codeNil (w : World) : Calls Tryz.prog 34 #[.nilIface] w fun e w' => e = .returned (.int .i64 1) ∧ Below w.heap.size w w' := by
  go_enter Tryz.func34, Tryz.ntmps34
  go_wp2_with fail
  go_ret
  exact ⟨rfl, Below.refl _ _⟩
theorem i_codeE (G : List Nat) (A : Nat → Addr) (tx : Int) (g : Option Nat) (hg : ∀ k, g = some k → k ∈ G) (w : World) (h : KS G A w) :
    Calls Tryz.prog 34 #[errV A tx g] w fun e w' => e = .returned (.int .i64 (codeE g)) ∧ Below w.heap.size w w' := by
  cases g with
  | none => exact i_codeNil w
  | some g =>
    have hg := hg g rfl
    have H := fun k (hk : k ∈ gs) => Hid.mk' (fun wx (hx : Below w.heap.size w wx) => is_ref tx g k hg (h.sub k hk) wx (h.below hx))
    have C := fun k (hk : k ∈ gs) => Hid.mk' (fun wx (hx : Below w.heap.size w wx) => (h.below hx).cell k (h.sub k hk))
    have := codeOf_ 107 (.agg #[.int .i64 tx, .iface 180 (.pointer (some (A g)))]) (A 6) (A 0) (A 1) (A 2) (decide (g = 6)) (decide (g = 0)) (decide (g = 1)) (decide (g = 2)) w (C _ (by decide)) (C _ (by decide)) (C _ (by decide)) (C _ (by decide)) (H _ (by decide)) (H _ (by decide)) (H _ (by decide)) (H _ (by decide))
    simp only [decide_eq_true_eq] at this
    exact this
/-! ### what is held, or why not -/
theorem lastKind_four {s : Shd} (h : Right s) (tx : Int) : lastKind tx s.2.1 = 0 ∨ lastKind tx s.2.1 = 1 ∨ lastKind tx s.2.1 = 2 ∨ lastKind tx s.2.1 = 3 := by
  obtain ⟨seen, hm⟩ := h.made
  exact (stood_replay hm).kinds tx
theorem recOk_holds {tx : Int} {ops : List Od} (h : recOk (1, tx, ops) = true) : (txOk tx && opsOk ops) = true := by
  obtain ⟨h1, h2⟩ := (recOk_iff _).1 h
  rw [Bool.and_eq_true]
  refine ⟨by simpa [txOk] using h1, ?_⟩
  rcases h2 with ⟨_, h3⟩ | ⟨h3, _⟩
  · exact h3
  · simp at h3
theorem hold_refused {s : Shd} {tx : Int} {ops : List Od} (h : Right s) (hok : recOk (1, tx, ops) = true) {k : Nat} (he : holdErr s tx ops = some k) : holdS s tx ops = (s, codeS k) := by
  have hgg := recOk_holds hok
  unfold holdErr at he
  unfold holdS
  rw [if_neg (by rw [hgg]; simp), outc_stand h]
  split at he
  · next h0 =>
    have hk := Option.some.inj he
    subst hk
    rw [code_sen]
    rcases lastKind_four h tx with e | e | e | e
    · exact absurd e h0
    all_goals (rw [e]; rfl)
  · next h0 =>
    have h0 : lastKind tx s.2.1 = 0 := by omega
    rw [h0, if_neg (by simp [standCode])]
    split at he
    · next hc =>
      have hk := Option.some.inj he
      subst hk
      have : holdNo s ops = true := by
        unfold holdNo keysOf
        rcases hc with e | e
        · simp only [Bool.or_eq_true, decide_eq_true_iff]; left; right; omega
        · simp only [Bool.or_eq_true, decide_eq_true_iff]; right; omega
      rw [if_pos this]; rfl
    · split at he
      · next hr =>
        have hk := Option.some.inj he
        subst hk
        have : holdNo s ops = true := by
          cases hq : holdNo s ops with
          | true => rfl
          | false =>
            exfalso
            obtain ⟨g1, g2, _, _⟩ := holdNo_false (s := s) (ops := ops) (by rw [hq]; simp)
            obtain ⟨seen, hm⟩ := h.made
            have := hold_fits h hm hok (by rw [outc_stand h, h0]; rfl) g1 g2
            rw [replay_snoc, hm] at hr
            simp only [] at hr
            rw [this] at hr; cases hr
        rw [if_pos this]; rfl
      · cases he
theorem hold_done {s : Shd} {tx : Int} {ops : List Od} (h : Right s) (hok : recOk (1, tx, ops) = true) (he : holdErr s tx ops = none) :
    lastKind tx s.2.1 = 0 ∧ ¬ (60 < s.2.2.2.1.length + sumOps s.2.2.2.2 + ops.length ∨ 300 - (s.2.1.length : Int) - (s.2.2.2.2.length : Int) < 2) ∧ (∃ u, replay (s.2.1 ++ [(1, tx, ops)]) = some u ∧ (s.1, s.2.1 ++ [((1 : Int), tx, ops)], s.2.2.1, u.1, u.2.1) = written s (1, tx, ops)) ∧ holdS s tx ops = (written s (1, tx, ops), 1) := by
  have hgg := recOk_holds hok
  unfold holdErr at he
  split at he
  · cases he
  · next h0 =>
    have h0 : lastKind tx s.2.1 = 0 := by omega
    split at he
    · cases he
    · next hc =>
      split at he
      · cases he
      · next u hr =>
        obtain ⟨seen, hm⟩ := h.made
        have ho : one (s.2.2.2.1, s.2.2.2.2, seen) (1, tx, ops) = some u := by
          rw [replay_snoc, hm] at hr; exact hr
        have hf := one_forced ho
        refine ⟨h0, hc, ⟨u, hr, ?_⟩, ?_⟩
        · unfold written
          rw [← hf]
        · unfold holdS
          rw [if_neg (by rw [hgg]; simp), outc_stand h, h0, if_neg (by simp [standCode])]
          have : ¬ holdNo s ops = true := by
            unfold one at ho
            rw [if_pos hok, if_pos rfl] at ho
            split at ho
            · cases ho
            · next hn =>
              unfold holdNo keysOf
              simp only [Bool.or_eq_true, decide_eq_true_iff, not_or]
              refine ⟨⟨⟨fun e => hn (.inr (.inl e)), fun e => hn (.inr (.inr (by simpa using e)))⟩, by omega⟩, by omega⟩
          rw [if_neg this]
theorem hold_form {s : Shd} {tx : Int} {ops : List Od} (h : (shardOk s && recOk (1, tx, ops)) = false) : holdR s tx ops = (s, 5) := by
  unfold holdR
  split
  · next e =>
    rw [e] at h
    have h2 : recOk (1, tx, ops) = false := by simpa using h
    unfold holdS
    rw [if_pos]
    cases hq : (txOk tx && opsOk ops) with
    | false => rfl
    | true => rw [recOk_of hq] at h2; cases h2
  · rfl
theorem holdErr_mem {s : Shd} {tx : Int} {ops : List Od} {G : List Nat} (hs : ∀ g ∈ gs, g ∈ G) (hr : 4 ∈ G) (hf : 5 ∈ G) : ∀ k, holdErr s tx ops = some k → k ∈ G := fun k e => by
  unfold holdErr at e
  split at e
  · have := Option.some.inj e; rw [← this]; exact hs _ (senOf_mem _)
  · split at e
    · have := Option.some.inj e; rw [← this]; exact hr
    · split at e
      · have := Option.some.inj e; rw [← this]; exact hf
      · cases e
theorem i_hold_no (G : List Nat) (A : Nat → Addr) (la : Option Addr) (ln lc : Nat) (ma : Option Addr) (mn mc : Nat) (ha : Option Addr) (hn hc : Nat) (s : Shd) (tx : Int) (a : Option Addr) (len cap : Nat) (ops : List Od) (w : World) (h : SeeSh w la ln lc ma mn mc ha hn hc s) (hR : Right s) (ho : SlO w a len ops) (hok : recOk (1, tx, ops) = true) (hK : KS G A w) (hgr : 4 ∈ G) (hgf : 5 ∈ G) (k : Nat) (he : holdErr s tx ops = some k) :
    Calls Tryz.prog 33 #[aggSh s.1 s.2.2.1 la ln lc ma mn mc ha hn hc, .agg #[.int .i64 1, .int .i64 tx, .slice a len cap]] w fun e w' => e = .returned (.tuple #[.agg #[.int .i64 0, .slice none 0 0, .int .i64 0, .slice none 0 0, .slice none 0 0], .iface 180 (.pointer (some (A k)))]) ∧ Below w.heap.size w w' := by
  unfold holdErr at he
  split at he
  · next h0 =>
    rw [← Option.some.inj he]
    exact hold_stood G A la ln lc ma mn mc ha hn hc s tx a len cap ops w h hR ho hok hK h0
  · next h0 =>
    have h0 : lastKind tx s.2.1 = 0 := by omega
    split at he
    · next hc' =>
      rw [← Option.some.inj he]
      exact hold_full G A la ln lc ma mn mc ha hn hc s tx a len cap ops w h hR ho hok hK h0 hgr hc'
    · next hc' =>
      split at he
      · next hr =>
        rw [← Option.some.inj he]
        exact hold_unfit G A la ln lc ma mn mc ha hn hc s tx a len cap ops w h hR ho hok hK h0 hgf hc' hr
      · cases he
set_option maxRecDepth 100000 in
set_option maxHeartbeats 4000000 in
theorem hold_ends (G : List Nat) (A : Nat → Addr) (la : Option Addr) (ln lc : Nat) (ma : Option Addr) (mn mc : Nat) (ha : Option Addr) (hn hc : Nat) (s : Shd) (tx : Int) (a : Option Addr) (len cap : Nat) (w : World) (hK : KS G A w) (r : Shd) (g : Option Nat) (hg : ∀ k, g = some k → k ∈ G)
    (htr : ∀ wx, Below w.heap.size w wx → Calls Tryz.prog 32 #[aggSh s.1 s.2.2.1 la ln lc ma mn mc ha hn hc, .agg #[.int .i64 1, .int .i64 tx, .slice a len cap], .func (.func 33) #[aggSh s.1 s.2.2.1 la ln lc ma mn mc ha hn hc] #[]] wx (Ret2 wx r (errV A tx g))) :
    Calls Tryz.prog 9 #[aggSh s.1 s.2.2.1 la ln lc ma mn mc ha hn hc, .int .i64 tx, .slice a len cap] w (Ret2 w r (.int .i64 (codeE g))) := by
  obtain ⟨W, hW⟩ : ∃ W, (w.alloc (boxSh s.1 s.2.2.1 la ln lc ma mn mc ha hn hc)).alloc (boxSh 0 0 none 0 0 none 0 0 none 0 0) = W := ⟨_, rfl⟩
  have hba : Below w.heap.size w (w.alloc (boxSh s.1 s.2.2.1 la ln lc ma mn mc ha hn hc)) := below_alloc
  have hB : Below w.heap.size w W := by rw [← hW]; exact hba.alloc hba.size _
  have hX : BoxIn w.heap.size 27 [] (shVals s.1 s.2.2.1 la ln lc ma mn mc ha hn hc) [] W := by rw [← hW]; exact (boxIn_new w _ _).below below_alloc
  have hRB : BoxIn (w.heap.size + 1) 27 [] (shVals 0 0 none 0 0 none 0 0 none 0 0) [] W := by
    rw [← hW]
    have := boxIn_new (w.alloc (boxSh s.1 s.2.2.1 la ln lc ma mn mc ha hn hc)) (shVals 0 0 none 0 0 none 0 0 none 0 0) 27
    rwa [show (w.alloc (boxSh s.1 s.2.2.1 la ln lc ma mn mc ha hn hc)).heap.size = w.heap.size + 1 by simp] at this
  have hsW : w.heap.size + 1 < W.heap.size := hRB.lt
  have HW := Hid.mk' hW
  obtain ⟨a0, a1, a2, a3, a4⟩ := boxcells hX
  rw [← hW] at a0 a1 a2 a3 a4
  have HTR := Hid.mk' (htr W hB)
  have HCO := Hid.mk' (fun wx (hx : Below w.heap.size w wx) => i_codeE G A tx g hg wx (hK.below hx))
  generalize codeE g = cc at *
  generalize errV A tx g = ev at *
  clear hW htr hba
  go_enter Tryz.func9, Tryz.ntmps9
  go_wp2_with fail
  rw [HW.out]
  refine HTR.out.mono ?_
  rintro e w1 ⟨ta, tn, tc, sa, sn, sc, ra, rn, rc, FF, rfl, hO1, hF1, hb1⟩
  clear a0 a1 a2 a3 a4 HW HTR
  obtain ⟨u1, hu1⟩ : ∃ u1, w1.alloc (boxSh r.1 r.2.2.1 ta tn tc sa sn sc ra rn rc) = u1 := ⟨_, rfl⟩
  have hb2 : Below w1.heap.size w1 u1 := by rw [← hu1]; exact below_alloc
  have hT := inBox_new hO1
  rw [hu1] at hT
  have hb3 := hb1.trans (hb2.mono hb1.size)
  have hd : Below u1.heap.size u1 u1.drew := (Below.refl _ _).drew
  have hbd := hb3.trans (hd.mono hb3.size)
  have hTd := hT.below hd
  have hs1 := hb1.size
  have hne : w.heap.size + 1 ≠ w1.heap.size := by omega
  have HU1 := Hid.mk' hu1
  have HCO2 := Hid.mk' (HCO.out _ (hB.trans (hbd.mono hB.size)))
  clear hu1 hO1 hT
  go_wp2_with fail
  rw [HU1.out]
  refine last.wp_region_later (S := fun w' => BoxIn w1.heap.size 27 [] (shVals r.1 r.2.2.1 ta tn tc sa sn sc ra rn rc) [] w') 4 (by kernel_rfl) hTd.box (fun hHeld0 => ?_)
  generalize u1.drew = D5 at *
  refine last.wpAnyL_take (i := 0) (v := (aggSh r.1 r.2.2.1 ta tn tc sa sn sc ra rn rc)) rfl rfl (by kernel_rfl) (by kernel_rfl) (by kernel_rfl) (by kernel_rfl) (fun _ _ _ h => h) (Or.inl ⟨by rfl, ?_⟩) (by assumption) ?_
  · intro wq hSq; obtain ⟨q0, q1, q2, q3, q4⟩ := boxcells hSq; go_simp
  try simp only [Act.put, List.setIfInBounds_toArray, List.set_cons_zero, List.set_cons_succ]
  refine last.wpAnyL_take (i := 1) (v := ev) rfl rfl (by kernel_rfl) (by kernel_rfl) (by kernel_rfl) (by kernel_rfl) (fun _ _ _ h => h) (Or.inl ⟨by rfl, ?_⟩) (by assumption) ?_
  · intro wq hSq; go_simp
  try simp only [Act.put, List.setIfInBounds_toArray, List.set_cons_zero, List.set_cons_succ]
  refine last.wpAnyL_one (i := 2) (o := { dst := some 22, op := Op.call { callee := Callee.value (Operand.func 34), args := #[Operand.tmp 21], argTypes := #[65] }, type := 3, pos := "l09_shard.go:63", after := #[{ on := 1, ground := Ground.data }], guard := none }) (by kernel_rfl) rfl (fun K hK => ?_)
  refine stepc.step_call1 rfl 34 (.tmp 21) _ rfl (fun _ _ => rfl) ev (by kernel_rfl) _ HCO2.out ?_
  rintro e w6 ⟨rfl, hb6⟩
  refine ⟨_, rfl, ?_⟩
  have hb7 := hbd.trans (hb6.mono hbd.size)
  have hT6 := hTd.below hb6
  refine hK.out _ _ ?_ (fun hHeld => ?_)
  · exact hT6.box
  clear hK K hHeld0
  have hHeld0 := hHeld
  clear hHeld
  try simp only [Act.put, List.setIfInBounds_toArray, List.set_cons_zero, List.set_cons_succ]
  have hR6 := hRB.below hb7
  have z0 := hR6.cell 0 _ rfl
  have z1 := hR6.cell 1 _ rfl
  have z2 := hR6.cell 2 _ rfl
  have z3 := hR6.cell 3 _ rfl
  have z4 := hR6.cell 4 _ rfl
  have hS5 := hR6.set5 (.int .i64 r.1) (.slice ta tn tc) (.int .i64 r.2.2.1) (.slice sa sn sc) (.slice ra rn rc)
  simp only [List.length_nil, Nat.zero_add] at z0 z1 z2 z3 z4 hS5
  have f0 := hR6.fz 0
  have f1 := hR6.fz 1
  have f2 := hR6.fz 2
  have f3 := hR6.fz 3
  have f4 := hR6.fz 4
  have hBw := hB.trans (hb7.mono hB.size)
  have hBz := hBw.grown hS5.2 hBw.size (fun j e => by cases e; omega)
  have hOz := hT6.own.keep (fun j hj => hS5.2.block j (hT6.own.lt j hj) (fun e => by have h1 := hF1 j hj; have h2 := Option.some.inj e; omega))
  have hzc0 := hS5.1.cell 0 _ rfl
  have hzc1 := hS5.1.cell 1 _ rfl
  have hzc2 := hS5.1.cell 2 _ rfl
  have hzc3 := hS5.1.cell 3 _ rfl
  have hzc4 := hS5.1.cell 4 _ rfl
  simp only [List.length_nil, Nat.zero_add] at hzc0 hzc1 hzc2 hzc3 hzc4
  have hTz := hT6.box.grown hS5.2 (fun e => by have h2 := Option.some.inj e; omega)
  have HP := Hid.mk' (ret2_mk (w := w) (v := .int .i64 cc) hOz (fun k hk => by have h1 := hF1 k hk; have := hB.size; omega) hBz)
  refine last.wpAnyL_one (i := 3) (o := { dst := none, op := Op.store 27 (Operand.tmp 6) (Operand.tmp 20), type := 0, pos := "l09_shard.go:63", after := #[{ on := 0, ground := Ground.data }, { on := 2, ground := Ground.chain }, { on := 0, ground := Ground.phase }, { on := 1, ground := Ground.textOnly Departure.lateStores }, { on := 2, ground := Ground.textOnly Departure.lateStoresUnsure }], guard := none }) (by kernel_rfl) rfl (fun K hK => ?_)
  go_simp
  refine hK.out _ _ ?_ (fun hHeld => ?_)
  · exact hTz
  clear hK K hHeld0
  have hHeld0 := hHeld
  clear hHeld
  try simp only [Act.put, List.setIfInBounds_toArray, List.set_cons_zero, List.set_cons_succ]
  refine last.wpAnyL_last (o := { dst := some 7, op := Op.assign (Operand.tmp 22), type := 3, pos := "l09_shard.go:63", after := #[{ on := 2, ground := Ground.data }, { on := 3, ground := Ground.chain }, { on := 0, ground := Ground.phase }, { on := 1, ground := Ground.phase }, { on := 2, ground := Ground.phase }, { on := 3, ground := Ground.phase }], guard := none }) (by kernel_rfl) rfl (by kernel_rfl) (fun K hK => ?_)
  go_simp
  refine hK.out _ _ ?_
  clear hK K
  clear hHeld0 hTz hOz hBz hBw hS5 hR6 hT6 hTd
  go_wp2_with fail
  refine bodyPost_ret (v := .tuple #[aggSh r.1 r.2.2.1 ta tn tc sa sn sc ra rn rc, .int .i64 cc]) ?_ rfl HP.out
  simp [results, Tryz.results9, go_sem, hzc0, hzc1, hzc2, hzc3, hzc4]
theorem impl_hold (G : List Nat) (A : Nat → Addr) (la : Option Addr) (ln lc : Nat) (ma : Option Addr) (mn mc : Nat) (ha : Option Addr) (hn hc : Nat) (s : Shd) (tx : Int) (a : Option Addr) (len cap : Nat) (ops : List Od) (w : World) (h : SeeSh w la ln lc ma mn mc ha hn hc s) (hpl : PlainR w la ln) (hb : Bound s) (ho : SlO w a len ops) (hks : ∀ p ∈ ops, p.2.1.size ≤ 1099511627776) (htx : (Lit.int .i64 tx).wf = true) (hlen : len ≤ 1099511627776) (hK : KS G A w) (hgr : 4 ∈ G) (hgf : 5 ∈ G) :
    Calls Tryz.prog 9 #[aggSh s.1 s.2.2.1 la ln lc ma mn mc ha hn hc, .int .i64 tx, .slice a len cap] w (Ret2 w (holdR s tx ops).1 (.int .i64 (holdR s tx ops).2)) := by
  have hsr : smallR ((1 : Int), tx, ops) := ⟨rfl, htx, ho.2.2.1⟩
  cases hok : (shardOk s && recOk (1, tx, ops)) with
  | false =>
    rw [hold_form hok]
    exact hold_ends G A la ln lc ma mn mc ha hn hc s tx a len cap w hK s (some 2) (fun k e => by rw [← Option.some.inj e]; exact hK.sub _ (by decide)) (fun wx hx => tried_form G A la ln lc ma mn mc ha hn hc s 1 tx a len cap ops wx (h.below hx) (plain_below h.log hpl hx) hb (ho.below hx) hks hsr hlen (hK.below hx) _ hok)
  | true =>
    have hok2 := hok
    rw [Bool.and_eq_true] at hok2
    have hR := (shardOk_iff s).1 hok2.1
    have hRe : holdR s tx ops = holdS s tx ops := by unfold holdR; rw [if_pos hok2.1]
    rw [hRe]
    cases he : holdErr s tx ops with
    | some k =>
      rw [hold_refused hR hok2.2 he]
      exact hold_ends G A la ln lc ma mn mc ha hn hc s tx a len cap w hK s (some k) (fun j e => by rw [← Option.some.inj e]; exact holdErr_mem hK.sub hgr hgf k he) (fun wx hx => tried_hold_no G A la ln lc ma mn mc ha hn hc s 1 tx a len cap ops wx (h.below hx) (plain_below h.log hpl hx) hb (ho.below hx) hks hsr hlen (hK.below hx) hok k (fun wy hy => i_hold_no G A la ln lc ma mn mc ha hn hc s tx a len cap ops wy ((h.below hx).below hy) hR ((ho.below hx).below hy) hok2.2 ((hK.below hx).below hy) hgr hgf k he))
    | none =>
      obtain ⟨g1, g2, ⟨u, hu, hwr⟩, g4⟩ := hold_done hR hok2.2 he
      rw [g4]
      exact hold_ends G A la ln lc ma mn mc ha hn hc s tx a len cap w hK (written s (1, tx, ops)) none (fun j e => by cases e) (fun wx hx => tried_hold_yes G A la ln lc ma mn mc ha hn hc s 1 tx a len cap ops wx (h.below hx) (plain_below h.log hpl hx) hb (ho.below hx) hks hsr hlen (hK.below hx) hok (written s (1, tx, ops)) (fun wy hy => by
        have := hold_fit G A la ln lc ma mn mc ha hn hc s tx a len cap ops wy ((h.below hx).below hy) hR ((ho.below hx).below hy) hok2.2 ((hK.below hx).below hy) g1 hgf g2 u hu
        rwa [hwr] at this))
end Go.Proofs.YteniflajiklffaaGreatDoor.recs

namespace Go.Proofs.YteniflajiklffaaGreatDoor.recs
open Go Go.RowKit Go.Proofs.YteniflajiklffaaGreatDoor.base Go.Proofs.YteniflajiklffaaGreatDoor.pairs Go.Proofs.YteniflajiklffaaGreatDoor.ords
set_option linter.unusedVariables false

theorem lastKind_from (tx : Int) : ∀ (l : List Rc) (k : Int), (∀ r ∈ l, r.2.1 ≠ tx) → l.foldl (fun k r => if r.2.1 = tx then r.1 else k) k = k
  | [], _, _ => rfl
  | r :: l, k, h => by
    rw [List.foldl_cons, if_neg (h r List.mem_cons_self)]
    exact lastKind_from tx l k fun x hx => h x (List.mem_cons_of_mem _ hx)
theorem lastKind_none {tx : Int} {l : List Rc} (h : ∀ r ∈ l, r.2.1 ≠ tx) : lastKind tx l = 0 := lastKind_from tx l 0 h
theorem outc_out {s : Shd} (h : Right s) {tx : Int} (ht : ∀ r ∈ s.2.1, r.2.1 ≠ tx) : outc s tx = 2 := by
  rw [outc_stand h, lastKind_none ht]; rfl
end Go.Proofs.YteniflajiklffaaGreatDoor.recs
