/- RecZi -/
import Derived.Test.YtijplooogplccaaGreatShar
set_option linter.unusedVariables false
set_option linter.unusedSimpArgs false
namespace Go.Proofs.YtijplooogplccaaGreat
namespace recs
open Go Go.RowKit base pairs ords
theorem rowR_mono {w : World} {base base' : Nat} {e : TypeId} {size : Nat} {v : Value} {n : Nat} {xs : List Value} (h : w.ownsRow base e size v n xs) (hb : base' ≤ base) : w.ownsRow base' e size v n xs := by
 refine ⟨h.1, ?_⟩
 rcases h.2 with h' | ⟨g, cap, cur, rfl, h0, r⟩
 · exact .inl h'
 · exact .inr ⟨g, cap, cur, rfl, by omega, r⟩
set_option maxRecDepth 100000 in
set_option maxHeartbeats 4000000 in
theorem one_end (N : Prop) (w0 : World) (F0 : List Nat) (w : World) (X : Nat) (am : Option Addr) (nm cm : Nat) (ah : Option Addr) (ch : Nat) (vs : Value) (s : St) (hs : List Value) (tx : Int) (a : Option Addr) (len cap : Nat) (ops : List Od)
 (hK : Kept N w0 F0 w X am nm cm ah ch vs s hs) (hSo : SlO w a len ops) (hks : ∀ p ∈ ops, p.2.1.size ≤ 1099511627776) (hok : recOk (3, tx, ops) = true) (k : Nat) (hlh : s.2.1.length ≤ 1099511627776) (hpl : placeTx tx s.2.1 = some k) (hfew : s.1.length ≤ 60) :
 Calls Tryz.prog 85 #[.pointer (some ⟨X, 0, none⟩), .agg #[.int .i64 3, .int .i64 tx, .slice a len cap]] w (OnePost N w0 F0 X (some (s.1, s.2.1.take k ++ s.2.1.drop (k + 1), s.2.2))) := by
 obtain ⟨i0, hi, hz0, hz1, hz2⟩ := info_parts infoRW
 have hklt := placeTx_lt hpl
 obtain ⟨gh, rfl⟩ : ∃ gh, ah = some ⟨gh, 0, none⟩ := by
  rcases hK.held.shape with ⟨_, e, _⟩ | ⟨g, c, e, _⟩
  · rw [e] at hklt; cases hklt
  · cases e; exact ⟨g, rfl⟩
 have hlh9 := hK.held.len
 have hrm := hK.held.room
 have hk1 : k + 1 ≤ s.2.1.length := hklt
 have hn1 : (recVals (s.2.1.take k) (hs.take k)).length = k * 3 := by rw [recVals_length _ _ (by simp [hlh9])]; simp; omega
 have hn2 : (recVals (s.2.1.drop (k + 1)) (hs.drop (k + 1))).length = (s.2.1.length - (k + 1)) * 3 := by rw [recVals_length _ _ (by simp [hlh9])]; simp
 have hone1 : ∀ y ∈ hs.take k, y.oneCell' = true := fun y hy => hK.held.one y (List.mem_of_mem_take hy)
 have hone2 : ∀ y ∈ hs.drop (k + 1), y.oneCell' = true := fun y hy => hK.held.one y (List.mem_of_mem_drop hy)
 have hc3 : 0 + k ≤ maxLen := by unfold maxLen; omega
 have hc4 : (0 + k) * 40 ≤ 140737488355328 := by omega
 have hc5 : k + (s.2.1.length - (k + 1)) ≤ maxLen := by unfold maxLen; omega
 have hc6 : (k + (s.2.1.length - (k + 1))) * 40 ≤ 140737488355328 := by omega
 have hmx : maxLen = 9223372036854775807 := rfl
 obtain ⟨ad, had⟩ : ∃ ad : Addr, (if ch = k + 1 then some (⟨gh, 0, none⟩ : Addr) else some ⟨gh, (k + 1) * 3, none⟩) = some ad := by split <;> exact ⟨_, rfl⟩
 have HCD : Hid (∀ wq : World, OwnR wq 0 (.slice (some ⟨gh, 0, none⟩) s.2.1.length ch) s.2.1 hs → ∀ j u, (recVals (s.2.1.drop (k + 1)) (hs.drop (k + 1)))[j]? = some u → wq.cell? (ad.add j) = some u) := by
  intro wq hq j u hu
  split at had
  · have : s.2.1.drop (k + 1) = [] := List.drop_eq_nil_of_le (by omega)
    rw [this] at hu
    simp [recVals] at hu
  · cases had
    exact hq.cellsDrop (k + 1) hk1 j u hu
 have HAD := Hid.mk' had
 clear had
 have hki : (k : Int) < (s.2.1.length : Int) := by omega
 have hk0 : ¬ (k : Int) < 0 := by omega
 obtain ⟨sa, sc, hvs, hSz⟩ := hK.seen.sl
 subst hvs
 obtain ⟨V, hV⟩ : ∃ V, V = w.alloc (.cells #[.int .i64 3, .int .i64 tx, .slice a len cap] 133) := ⟨_, rfl⟩
 have hbV : Below w.heap.size w V := by rw [hV]; exact (Below.refl _ _).alloc (Nat.le_refl _) _
 have hbx : BoxR w.heap.size 3 tx (.slice a len cap) V := by rw [hV]; exact boxR_new _ _ _ _
 have hKV := hK.below hbV
 have hXl := hKV.box.lt
 have hRl := hbx.lt
 have y1 := last.On.cell (B := V.heap.size) hKV.box.cells.2.1 hXl
 have y2 := last.On.cell (B := V.heap.size) hbx.cells.2.1 hRl
 have hAt : ∀ x9 : last.On V.heap.size V, Calls Tryz.prog 123 #[.slice (some ⟨gh, 0, none⟩) s.2.1.length ch, .int .i64 tx] x9.w fun e w' => e = .returned (.int .i64 (atRet (placeTx tx s.2.1))) ∧ ∃ y9 : last.On V.heap.size V, w' = y9.w := fun x9 => last.Calls.on x9 (Nat.le_refl _) ((spec_l8At _ _ ch s.2.1 tx x9.w (hKV.held.below x9.2).sl).mono (fun e w' h => ⟨h.1, h.2 ▸ Below.refl _ _⟩))
 have hinh := last.On.inh V.heap.size V
 have HV := Hid.mk' hV.symm
 clear hV
 rw [hpl, show atRet (some k) = (k : Int) from rfl] at hAt
 go_enter Tryz.func85, Tryz.ntmps85
 go_wp2_with fail
 rw [HV.out]
 refine last.wp_region_on V.heap.size (by kernel_rfl) (by kernel_rfl) ?_
 repeat (go_big_quiet_step ((go_at_call 123; with_reducible exact hAt _)))
 refine wpQuiet_nil ?_
 intro w1 hw1
 obtain ⟨x1, hw1⟩ := hw1
 have hb1 : Below V.heap.size V w1 := by rw [hw1]; exact x1.2
 clear hw1 x1
 have hbx1 := hbx.below hb1
 have hK1 := hKV.below hb1
 have HOK := Hid.mk' (spec_recOk 3 tx a len cap ops w1 ((hSo.below hbV).below hb1) hks)
 obtain ⟨d0, d1, d2⟩ := hbx1.cells
 clear y1 y2 hAt hinh
 go_wp2_with fail
 refine HOK.out.mono ?_
 rintro e w2 ⟨rfl, hb2⟩
 rw [hok]
 have hK2 := hK1.below hb2
 have hbx2 := hbx1.below hb2
 have hSo2 := ((hSo.below hbV).below hb1).below hb2
 have hSz2 := ((hSz.below hbV).below hb1).below hb2
 clear d0 d1 d2 HOK HV hbx1 hbx hKV hXl hRl
 obtain ⟨d0, d1, d2⟩ := hbx2.cells
 have hdc : Below w2.heap.size w2 w2.drew := (Below.refl _ _).drew
 go_wp2_with fail
 refine last.wp_region_later (S := fun w' => BoxS X (.slice am nm cm) (.slice (some ⟨gh, 0, none⟩) s.2.1.length ch) (.slice sa s.2.2.length sc) w') 19 (by kernel_rfl) (hK2.box.below hdc) (fun hHeld0 => ?_)
 refine last.wpAnyL_take (i := 0) (v := (.pointer (some ⟨X, 0, none⟩))) rfl rfl (by kernel_rfl) (by kernel_rfl) (by kernel_rfl) (by kernel_rfl) (fun _ _ _ h => h) (Or.inl ⟨by rfl, ?_⟩) (by assumption) ?_
 · intro wq hSq; go_simp
 try simp only [Act.put, List.setIfInBounds_toArray, List.set_cons_zero, List.set_cons_succ]
 refine last.wpAnyL_take (i := 2) (v := (.pointer (some ⟨X, 0, none⟩))) rfl rfl (by kernel_rfl) (by kernel_rfl) (by kernel_rfl) (by kernel_rfl) (fun _ _ _ h => h) (Or.inl ⟨by rfl, ?_⟩) (by assumption) ?_
 · intro wq hSq; go_simp
 try simp only [Act.put, List.setIfInBounds_toArray, List.set_cons_zero, List.set_cons_succ]
 refine last.wpAnyL_take (i := 3) (v := (.pointer (some ⟨X, 0, none⟩))) rfl rfl (by kernel_rfl) (by kernel_rfl) (by kernel_rfl) (by kernel_rfl) (fun _ _ _ h => h) (Or.inl ⟨by rfl, ?_⟩) (by assumption) ?_
 · intro wq hSq; go_simp
 try simp only [Act.put, List.setIfInBounds_toArray, List.set_cons_zero, List.set_cons_succ]
 refine last.wpAnyL_take (i := 4) (v := (.pointer (some ⟨X, 1, none⟩))) rfl rfl (by kernel_rfl) (by kernel_rfl) (by kernel_rfl) (by kernel_rfl) (fun _ _ _ h => h) (Or.inl ⟨by rfl, ?_⟩) (by assumption) ?_
 · intro wq hSq; go_simp
 try simp only [Act.put, List.setIfInBounds_toArray, List.set_cons_zero, List.set_cons_succ]
 refine last.wpAnyL_take (i := 5) (v := (.slice (some ⟨gh, 0, none⟩) s.2.1.length ch)) rfl rfl (by kernel_rfl) (by kernel_rfl) (by kernel_rfl) (by kernel_rfl) (fun _ _ _ h => h) (Or.inl ⟨by rfl, ?_⟩) (by assumption) ?_
 · intro wq hSq; have q := hSq.cells.2.1; go_simp
 try simp only [Act.put, List.setIfInBounds_toArray, List.set_cons_zero, List.set_cons_succ]
 refine last.wpAnyL_take (i := 6) (v := (.int .i64 (k : Int))) rfl rfl (by kernel_rfl) (by kernel_rfl) (by kernel_rfl) (by kernel_rfl) (fun _ _ _ h => h) (Or.inl ⟨by rfl, ?_⟩) (by assumption) ?_
 · intro wq hSq; go_simp
 try simp only [Act.put, List.setIfInBounds_toArray, List.set_cons_zero, List.set_cons_succ]
 refine last.wpAnyL_take (i := 7) (v := (.slice (some ⟨gh, 0, none⟩) k ch)) rfl rfl (by kernel_rfl) (by kernel_rfl) (by kernel_rfl) (by kernel_rfl) (fun _ _ _ h => h) (Or.inl ⟨by rfl, ?_⟩) (by assumption) ?_
 · intro wq hSq; go_simp; exact fun h => absurd h (by omega)
 try simp only [Act.put, List.setIfInBounds_toArray, List.set_cons_zero, List.set_cons_succ]
 refine last.wpAnyL_take (i := 9) (v := (.pointer (some ⟨X, 0, none⟩))) rfl rfl (by kernel_rfl) (by kernel_rfl) (by kernel_rfl) (by kernel_rfl) (fun _ _ _ h => h) (Or.inl ⟨by rfl, ?_⟩) (by assumption) ?_
 · intro wq hSq; go_simp
 try simp only [Act.put, List.setIfInBounds_toArray, List.set_cons_zero, List.set_cons_succ]
 refine last.wpAnyL_take (i := 10) (v := (.pointer (some ⟨X, 0, none⟩))) rfl rfl (by kernel_rfl) (by kernel_rfl) (by kernel_rfl) (by kernel_rfl) (fun _ _ _ h => h) (Or.inl ⟨by rfl, ?_⟩) (by assumption) ?_
 · intro wq hSq; go_simp
 try simp only [Act.put, List.setIfInBounds_toArray, List.set_cons_zero, List.set_cons_succ]
 refine last.wpAnyL_take (i := 11) (v := (.pointer (some ⟨X, 1, none⟩))) rfl rfl (by kernel_rfl) (by kernel_rfl) (by kernel_rfl) (by kernel_rfl) (fun _ _ _ h => h) (Or.inl ⟨by rfl, ?_⟩) (by assumption) ?_
 · intro wq hSq; go_simp
 try simp only [Act.put, List.setIfInBounds_toArray, List.set_cons_zero, List.set_cons_succ]
 refine last.wpAnyL_take (i := 12) (v := (.slice (some ⟨gh, 0, none⟩) s.2.1.length ch)) rfl rfl (by kernel_rfl) (by kernel_rfl) (by kernel_rfl) (by kernel_rfl) (fun _ _ _ h => h) (Or.inl ⟨by rfl, ?_⟩) (by assumption) ?_
 · intro wq hSq; have q := hSq.cells.2.1; go_simp
 try simp only [Act.put, List.setIfInBounds_toArray, List.set_cons_zero, List.set_cons_succ]
 refine last.wpAnyL_take (i := 13) (v := (.int .i64 (k : Int))) rfl rfl (by kernel_rfl) (by kernel_rfl) (by kernel_rfl) (by kernel_rfl) (fun _ _ _ h => h) (Or.inl ⟨by rfl, ?_⟩) (by assumption) ?_
 · intro wq hSq; go_simp
 try simp only [Act.put, List.setIfInBounds_toArray, List.set_cons_zero, List.set_cons_succ]
 refine last.wpAnyL_take (i := 14) (v := (.int .i64 ((k : Int) + 1))) rfl rfl (by kernel_rfl) (by kernel_rfl) (by kernel_rfl) (by kernel_rfl) (fun _ _ _ h => h) (Or.inl ⟨by rfl, ?_⟩) (by assumption) ?_
 · intro wq hSq; go_simp; rw [IntKind.wrap_i64]; omega
 try simp only [Act.put, List.setIfInBounds_toArray, List.set_cons_zero, List.set_cons_succ]
 refine last.wpAnyL_take (i := 15) (v := (.slice (some ad) (s.2.1.length - (k + 1)) (ch - (k + 1)))) rfl rfl (by kernel_rfl) (by kernel_rfl) (by kernel_rfl) (by kernel_rfl) (fun _ _ _ h => h) (Or.inl ⟨by rfl, ?_⟩) (by assumption) ?_
 · intro wq hSq; go_simp; rw [if_pos ⟨by omega, by omega⟩, HAD.out]
 try simp only [Act.put, List.setIfInBounds_toArray, List.set_cons_zero, List.set_cons_succ]
 refine last.wpAnyL_one (i := 1) (o := { dst := some 115, op := Op.buildSlice 52 0 #[], type := 52, pos := "l08_record.go:135", after := #[], guard := none }) (by kernel_rfl) rfl (fun K hK => ?_)
 go_simp
 have hbm : Below w2.heap.size w2 (w2.drew.alloc (.cells #[] 133)) := hdc.alloc hdc.size _
 have hKm := hK2.below hbm
 have hOm : (w2.drew.alloc (.cells #[] 133)).ownsRow w2.heap.size 133 3 (.slice (some ⟨w2.heap.size, 0, none⟩) 0 0) 0 [] := World.ownsRow_made w2.drew #[] 0 (Nat.le_refl _) (Nat.zero_le _) rfl
 refine hK.out _ _ ?_ (fun hHeld => ?_)
 · exact hKm.box
 clear hK K hHeld0
 have hHeld0 := hHeld
 clear hHeld
 try simp only [Act.put, List.setIfInBounds_toArray, List.set_cons_zero, List.set_cons_succ]
 refine last.wpAnyL_one (i := 8) (o := { dst := some 122, op := Op.call { callee := Callee.builtin Builtin.append, args := #[Operand.tmp 115, Operand.tmp 121], argTypes := #[52, 52] }, type := 52, pos := "l08_record.go:135", after := #[{ on := 1, ground := Ground.data }, { on := 7, ground := Ground.data }], guard := none }) (by kernel_rfl) rfl (fun K hK => ?_)
 refine step_append_own rfl (.tmp 115) (.tmp 121) 52 rfl w2.heap.size 133 i0 (.agg #[.int .i64 0, .int .i64 0, .slice none 0 0]) 3 40 Tryz.underlying52 hi hz0 hz1 hz2 rfl (by decide) _ _ _ rfl hOm ⟨gh, 0, none⟩ k ch (recVals (s.2.1.take k) (hs.take k)) rfl hn1 (hKm.held.cellsTake k) (recVals_oneCell _ _ hone1) hc3 hc4 hbm.size ?_
 intro vp wp hownp hgrowp hnnp
 simp only [Nat.zero_add, List.nil_append] at hownp
 obtain ⟨gp, cp, hvp⟩ := rowR_shape hownp (fun e => by have := (hnnp.1 e).1; cases this)
 subst hvp
 have hgp : (w2.drew.alloc (.cells #[] 133)).grownBy wp (some w2.heap.size) := hgrowp
 have hbp : Below w2.heap.size w2 wp := hbm.grown hgp hbm.size (fun j e => by cases e; exact Nat.le_refl _)
 have hKp := hK2.below hbp
 refine hK.out _ _ ?_ (fun hHeld => ?_)
 · exact hKp.box
 clear hK K hHeld0
 have hHeld0 := hHeld
 clear hHeld
 try simp only [Act.put, List.setIfInBounds_toArray, List.set_cons_zero, List.set_cons_succ]
 refine last.wpAnyL_one (i := 16) (o := { dst := some 130, op := Op.call { callee := Callee.builtin Builtin.append, args := #[Operand.tmp 122, Operand.tmp 129], argTypes := #[52, 52] }, type := 52, pos := "l08_record.go:135", after := #[{ on := 8, ground := Ground.data }, { on := 15, ground := Ground.data }, { on := 8, ground := Ground.chain }], guard := none }) (by kernel_rfl) rfl (fun K hK => ?_)
 refine step_append_own rfl (.tmp 122) (.tmp 129) 52 rfl w2.heap.size 133 i0 (.agg #[.int .i64 0, .int .i64 0, .slice none 0 0]) 3 40 Tryz.underlying52 hi hz0 hz1 hz2 rfl (by decide) _ _ _ rfl hownp ad (s.2.1.length - (k + 1)) (ch - (k + 1)) (recVals (s.2.1.drop (k + 1)) (hs.drop (k + 1))) rfl hn2 (HCD.out _ hKp.held) (recVals_oneCell _ _ hone2) hc5 hc6 hbp.size ?_
 intro vr wr hownr hgrowr hnnr
 obtain ⟨gr, cr, hvr⟩ := rowR_shape hownr (fun e => by have := (hnnr.1 e).1; cases this)
 subst hvr
 have hgr : wp.grownBy wr (some gp) := hgrowr
 have hbr : Below w2.heap.size w2 wr := hbp.grown hgr hbp.size (fun j e => by cases e; exact (hownp.lt gp rfl).1)
 have hKr := hK2.below hbr
 have hOR := OwnR.erase (l := s.2.1) (hs := hs) hK2.held hbr k hklt (g' := gr) (c' := cr) (n' := k + (s.2.1.length - (k + 1))) (by omega) (by
  have h9 := hownr
  rw [← recVals_append _ _ _ _ (by simp [hlh9])] at h9
  exact rowR_mono h9 (Nat.zero_le _))
 refine hK.out _ _ ?_ (fun hHeld => ?_)
 · exact hKr.box
 clear hK K hHeld0
 have hHeld0 := hHeld
 clear hHeld
 try simp only [Act.put, List.setIfInBounds_toArray, List.set_cons_zero, List.set_cons_succ]
 refine last.wpAnyL_one (i := 17) (o := { dst := some 131, op := Op.nilCheck (Operand.tmp 114), type := 0, pos := "l08_record.go:135", after := #[{ on := 0, ground := Ground.data }, { on := 0, ground := Ground.phase }, { on := 1, ground := Ground.phase }, { on := 2, ground := Ground.phase }, { on := 3, ground := Ground.phase }, { on := 4, ground := Ground.phase }, { on := 5, ground := Ground.phase }, { on := 6, ground := Ground.phase }, { on := 7, ground := Ground.phase }, { on := 8, ground := Ground.phase }, { on := 9, ground := Ground.phase }, { on := 10, ground := Ground.phase }, { on := 11, ground := Ground.phase }, { on := 12, ground := Ground.phase }, { on := 13, ground := Ground.phase }, { on := 14, ground := Ground.phase }, { on := 15, ground := Ground.phase }, { on := 16, ground := Ground.phase }], guard := none }) (by kernel_rfl) rfl (fun K hK => ?_)
 go_simp
 refine hK.out _ _ ?_ (fun hHeld => ?_)
 · exact hHeld0
 clear hK K hHeld0
 have hHeld0 := hHeld
 clear hHeld
 try simp only [Act.put, List.setIfInBounds_toArray, List.set_cons_zero, List.set_cons_succ]
 refine last.wpAnyL_take (i := 18) (v := (.pointer (some ⟨X, 1, none⟩))) rfl rfl (by kernel_rfl) (by kernel_rfl) (by kernel_rfl) (by kernel_rfl) (fun _ _ _ h => h) (Or.inl ⟨by rfl, ?_⟩) (by assumption) ?_
 · intro wq hSq; go_simp
 try simp only [Act.put, List.setIfInBounds_toArray, List.set_cons_zero, List.set_cons_succ]
 have er := hKr.box.cells.2.1
 have fr := hKr.box.fz 1
 refine last.wpAnyL_last (o := { dst := none, op := Op.store 52 (Operand.tmp 132) (Operand.tmp 130), type := 0, pos := "l08_record.go:135", after := #[{ on := 18, ground := Ground.data }, { on := 16, ground := Ground.data }, { on := 16, ground := Ground.chain }, { on := 0, ground := Ground.phase }, { on := 1, ground := Ground.phase }, { on := 2, ground := Ground.phase }, { on := 3, ground := Ground.phase }, { on := 4, ground := Ground.phase }, { on := 5, ground := Ground.phase }, { on := 6, ground := Ground.phase }, { on := 7, ground := Ground.phase }, { on := 8, ground := Ground.phase }, { on := 9, ground := Ground.phase }, { on := 10, ground := Ground.phase }, { on := 11, ground := Ground.phase }, { on := 12, ground := Ground.phase }, { on := 13, ground := Ground.phase }, { on := 14, ground := Ground.phase }, { on := 15, ground := Ground.phase }, { on := 16, ground := Ground.phase }], guard := none }) (by kernel_rfl) rfl (by kernel_rfl) (fun K hK => ?_)
 go_simp
 refine hK.out _ _ ?_
 clear hK K
 have hgrn : w0.heap.size ≤ gr := Nat.le_trans hK2.fr.size (hownr.lt gr rfl).1
 have hKc := hKr.cut hOR hgrn (fun y hy => by
  rcases List.mem_append.1 hy with e | e
  · exact List.mem_of_mem_take e
  · exact List.mem_of_mem_drop e)
 have hlc : (s.2.1.take k ++ s.2.1.drop (k + 1)).length = k + (s.2.1.length - (k + 1)) := by simp; omega
 rw [hlc] at hKc
 generalize hWc : wr.setCell ⟨X, 1, none⟩ (.slice (some ⟨gr, 0, none⟩) (k + (s.2.1.length - (k + 1))) cr) = wz at *
 clear hWc hOR hownr hownp hgr hgp hgrowp hgrowr hnnp hnnr er fr hHeld0 hOm
 have hKc' : Kept N w0 F0 wz X am nm cm (some ⟨gr, 0, none⟩) cr (.slice sa s.2.2.length sc) (s.1, s.2.1.take k ++ s.2.1.drop (k + 1), s.2.2) (hs.take k ++ hs.drop (k + 1)) := hKc
 have hnm : s.1.length = nm := hKc.m.1
 obtain ⟨u0, _, _⟩ := hKc.box.cells
 have h60 : (nm : Int) ≤ 60 := by omega
 go_wp2_with fail
 go_ret
 exact ⟨rfl, _, _, _, _, _, _, _, hKc'⟩
end recs
end Go.Proofs.YtijplooogplccaaGreat
